/- append of a whole list of entries; a list laid out, by its keys. -/
import Derived.Test.YtfimnmdcbnfhfaaG15
import Derived.Test.YtfimnmdcbnfhfaaG4
import Derived.Test.YtfimnmdcbnfhfaaG14
import Derived.Outline
import Derived.Test.YtfimnmdcbnfhfaaG8
import Derived.Test.YtfimnmdcbnfhfaaG9
import Derived.Test.YtfimnmdcbnfhfaaG12
namespace Go.Proofs.Ytfimnmdcbnfhfaa
open Go.RowKit

theorem Ents.cells_ {w : World} {B n : Nat} {ad : Addr} {es : List Ent} (h : Ents w B (some ad) n es) : ∀ (j : Nat) (u : Value), (cellsE es)[j]? = some u → w.cell? (ad.add j) = some u := h.cells
theorem run_appendNilE (w : World) (base : Nat) (ty : TypeId) (v : Value) (n : Nat) (xs : List Value) (hown : w.ownsRow base 56 2 v n xs) (c : Nat) :
    (Builtin.append_ #[39, 39] ty #[v, .slice none 0 c]).run Try.prog w = .ok v w := by
  obtain ⟨i, hi, hz, h1, h2⟩ := info_parts infoEnt
  have ht := Try.underlying39
  rcases hown.2 with ⟨rfl, rfl⟩ | ⟨g, cap, cur, rfl, _, _, hnc, _⟩ <;> simp [Builtin.append_, run_underlying ht, sizeOf, typeInfo, Builtin.lenOf, Builtin.firstCells, *, storeCells]
theorem run_appendEnts (w : World) (base : Nat) (ty : TypeId) (A A2 : Option Addr) (c m c2 B : Nat) (xs ys : List Ent) (ho : OwnE w base A c xs) (hs : Ents w B A2 m ys) (hl : xs.length + m ≤ 1000000) (hb : base ≤ w.heap.size) :
    ∃ A' c' w', (Builtin.append_ #[39, 39] ty #[.slice A xs.length c, .slice A2 m c2]).run Try.prog w = .ok (.slice A' (xs.length + m) c') w' ∧ OwnE w' base A' c' (xs ++ ys) ∧ w.grownBy w' (Value.slice A xs.length c).ownBlock := by
  obtain ⟨i, hi, hz, h1, h2⟩ := info_parts infoEnt
  have hlen := hs.1
  rcases Option.eq_none_or_eq_some A2 with rfl | ⟨ad, rfl⟩
  · obtain rfl : m = 0 := by
      rcases Nat.eq_zero_or_pos m with h0 | h0
      · exact h0
      · obtain ⟨b, off, e', _⟩ := hs.2.2 h0; cases e'
    obtain rfl : ys = [] := List.eq_nil_of_length_eq_zero hlen
    have hrun := run_appendNilE w base ty (.slice A xs.length c) xs.length (cellsE xs) ho c2
    exact ⟨A, c, w, by simpa using hrun, by simpa using ho, World.grownBy.refl w _⟩
  · obtain ⟨v', w', hr, h3, h4, _⟩ := run_append_own (P := Try.prog) w base 39 ty 56 i (.agg #[.slice none 0 0, .int .i64 0]) 2 32 Try.underlying39 hi hz h1 h2 rfl (by decide) (.slice A xs.length c) xs.length (cellsE xs) ho ad m c2 (cellsE ys) (by rw [cellsE_length, hlen]; omega) hs.cells_ (cellsE_one ys) (by unfold maxLen; omega) (by omega) hb
    obtain ⟨A', c', rfl⟩ := rowE_form h3
    refine ⟨A', c', w', hr, ?_, h4⟩
    unfold OwnE
    rw [List.length_append, hlen, cellsE_append]
    exact h3
theorem step_appendEnts {ops : Array Oper} {o : Oper} {a : Act} {w : World} {K : Act → World → Prop} {Q : Exit → Act → World → Prop} {E : Prop}
    (hg : o.guard = none) (s x : Operand) (hop : o.op = Op.call { callee := Callee.builtin Builtin.append, args := #[s, x], argTypes := #[39, 39] })
    (base : Nat) (A A2 : Option Addr) (c m c2 B p r : Nat) (xs ys : List Ent) (hs : a.eval s = .slice A p c) (hx : a.eval x = .slice A2 m c2) (ho : OwnE w base A c xs) (hp : xs.length = p) (hr : p + m = r) (hi2 : Ents w B A2 m ys) (hl : r ≤ 1000000) (hb : base ≤ w.heap.size)
    (hK : ∀ A' c' w', OwnE w' base A' c' (xs ++ ys) → w.grownBy w' (Value.slice A p c).ownBlock → K (a.put o.dst (.slice A' r c')) w') :
    if Region.wanted o (yielded ops a.tmps) = true then Oper.wp Try.prog o a w K Q else E := by
  have hw : Region.wanted o (yielded ops a.tmps) = true := by simp [Region.wanted, hg]
  rw [if_pos hw]
  subst hp
  subst hr
  obtain ⟨A', c', w', hrun, ho', hb'⟩ := run_appendEnts w base o.type A A2 c m c2 B xs ys ho hi2 hl hb
  unfold Oper.wp
  simp [execOp, hop, resolve, invoke, builtin, hs, hx, hrun, Result.andThen]
  exact hK _ _ _ ho' hb'

/-- a list laid out, as its keys tell -/
def denseK (xs : List Int) (K : List KeyT) : List Int := (List.range (laidF xs).1.toNat).map fun j => wrap64 (totP (fun p => decide ((numR xs p).toNat = j)) K)
theorem sumAt_keys (xs : List Int) (j : Nat) (pre es : List Ent) : sumAt (goesE xs (pre ++ es)) j pre.length (es.map (·.v)) = totP (fun p => decide ((numR xs p).toNat = j)) (es.map keyE) := by
  induction es generalizing pre with
  | nil => rfl
  | cons x es ih =>
    have h := ih (pre ++ [x])
    rw [List.append_assoc, List.length_append] at h
    have hg : goesE xs (pre ++ x :: es) pre.length = (numR xs x.cs).toNat := by
      unfold goesE
      rw [List.getElem?_append_right (Nat.le_refl _), Nat.sub_self]
      rfl
    simp only [List.map_cons, sumAt, totP, hg]
    simp only [List.cons_append, List.nil_append, List.length_cons, List.length_nil, Nat.zero_add] at h
    rw [h]
    by_cases hq : (numR xs x.cs).toNat = j <;> simp [keyE, hq]
theorem denseV_keys (xs : List Int) (es : List Ent) : denseV xs es = denseK xs (es.map keyE) := by
  unfold denseV denseK scat
  apply List.map_congr_left
  intro j _
  have := sumAt_keys xs j [] es
  rw [List.nil_append, List.length_nil] at this
  rw [this]
theorem denseK_congr {xs : List Int} {K L : List KeyT} (h : ∀ P, wrap64 (totP P K) = wrap64 (totP P L)) : denseK xs K = denseK xs L := by
  unfold denseK
  exact List.map_congr_left fun j _ => h _
theorem denseK_perm {xs : List Int} {K L : List KeyT} (h : K.Perm L) : denseK xs K = denseK xs L := denseK_congr fun P => by rw [totP_perm P h]
theorem denseK_join (xs : List Int) (K : List KeyT) : denseK xs (joinK K) = denseK xs K := denseK_congr fun P => joinK_tot P K
theorem totP_nz (P : List Int → Bool) (K : List KeyT) : totP P (K.filter nzK) = totP P K := by
  induction K with
  | nil => rfl
  | cons t K ih =>
    rw [List.filter_cons]
    by_cases h : t.2.1 = 0
    · rw [if_neg (by unfold nzK; simp [h])]
      simp only [totP, h, ih]
      split <;> omega
    · rw [if_pos (by unfold nzK; simp [h])]
      simp only [totP, ih]
theorem denseK_nz (xs : List Int) (K : List KeyT) : denseK xs (K.filter nzK) = denseK xs K := denseK_congr fun P => by rw [totP_nz]
theorem denseK_append (xs : List Int) (K L : List KeyT) : denseK xs (K ++ L) = addL (denseK xs K) (denseK xs L) := by
  unfold denseK addL
  rw [List.zipWith_map, List.zipWith_self]
  apply List.map_congr_left
  intro j _
  rw [totP_append, wrap_add_l, wrap_add_r]
theorem denseK_length (xs : List Int) (K : List KeyT) : (denseK xs K).length = (laidF xs).1.toNat := by unfold denseK; simp

/-- a tensor that is laid out, as it is read -/
def DenV (w : World) (A : Option Addr) (n : Nat) (B : Option Addr) (m : Nat) (xs ys : List Int) : Prop := Ints w w.heap.size A n xs ∧ Ints w w.heap.size B m ys
theorem DenV.below {w w' : World} {A B : Option Addr} {n m : Nat} {xs ys : List Int} (h : DenV w A n B m xs ys) (hb : Below w.heap.size w w') : DenV w' A n B m xs ys := ⟨(h.1.below hb).more hb.size, (h.2.below hb).more hb.size⟩
/-- the error of a list that is laid out -/
def denE (xs : List Int) (es : List Ent) : Int := if cooF xs es = 0 then (laidF xs).2 else cooF xs es
theorem denV_ok (A B : Option Addr) (n c m e : Nat) (xs : List Int) (es : List Ent) (w : World) (h : CooV w A n B m xs es) (hm : m ≤ 9223372036854775807) (hE : denE xs es = 0) :
    Calls Try.prog 55 #[.agg #[.slice A n c, .slice B m e]] w fun x w' => ∃ A1 c1 A2 M c2, x = .returned (.tuple #[.agg #[.slice A1 n c1, .slice A2 M c2], .int .i64 0]) ∧ DenV w' A1 n A2 M xs (denseK xs (es.map keyE)) ∧ M ≤ 65536 ∧ checkF xs M = 0 ∧ Below w.heap.size w w' := by
  unfold denE at hE
  by_cases h0 : cooF xs es = 0
  · rw [if_pos h0] at hE
    refine (cooDense_ok A B n c m e xs es w h.1 h.2 hm h0 hE).mono ?_
    rintro x w' ⟨A1, c1, A2, c2, rfl, h1, h2, hb⟩
    have hi1 := h1.ints
    rw [h.1.1] at hi1
    have hi2 := h2.ints
    rw [denseV_keys] at hi2
    have hlen : (denseK xs (es.map keyE)).length = (laidF xs).1.toNat := denseK_length _ _
    have hla := laidF_ok hE
    have hnn := laidF_nonneg (xs := xs)
    refine ⟨A1, c1, A2, _, c2, by rw [denseV_keys], ⟨hi1, hi2⟩, ?_, ?_, hb⟩
    · rw [hlen]; omega
    · unfold checkF
      rw [if_pos hE, if_pos (by rw [hlen]; omega)]
  · rw [if_neg h0] at hE; exact absurd hE h0
theorem denV_bad (A B : Option Addr) (n c m e : Nat) (xs : List Int) (es : List Ent) (w : World) (h : CooV w A n B m xs es) (hn : n ≤ 9223372036854775807) (hm : m ≤ 9223372036854775807) (E : Int) (hE : Hid (denE xs es = E)) (hne : E ≠ 0) :
    Calls Try.prog 55 #[.agg #[.slice A n c, .slice B m e]] w fun x w' => x = .returned (.tuple #[.agg #[.slice none 0 0, .slice none 0 0], .int .i64 E]) ∧ Below w.heap.size w w' := by
  have hE' := hE.out
  unfold denE at hE'
  by_cases h0 : cooF xs es = 0
  · rw [if_pos h0] at hE'
    exact cooDense_large A B n c m e xs es E w h.1 hn h.2 hm h0 hE' hne
  · rw [if_neg h0] at hE'
    exact cooDense_err A B n c m e xs es E w h.1 hn h.2 hm hE' hne
end Go.Proofs.Ytfimnmdcbnfhfaa
/- store.Dense: a stored tensor laid out. -/
namespace Go.Proofs.Ytfimnmdcbnfhfaa
open Go.RowKit

/-- each number's place is in the shape -/
theorem tok_inside {xs : List Int} {fs : List Sp} {ls : List Lv} (hT : Tok xs fs ls) {n : Nat} (hn : n < ahN ls ls.length) : insideF xs (cN xs.length fs ls ls.length n) = true := by
  have hi := invC_node hT ls.length (Nat.le_refl _) n hn
  have hl : (cN xs.length fs ls ls.length n).length = xs.length := cN_length _ _ _ _ _
  have hlf : fs.take ls.length = fs := List.take_of_length_le (by have := hT.of.1; omega)
  unfold insideF
  rw [decide_eq_true hl, Bool.true_and, Bool.not_eq_true', List.any_eq_false]
  intro p hp
  obtain ⟨k, hk⟩ := List.mem_iff_getElem?.1 hp
  rw [List.getElem?_zip_eq_some] at hk
  have hkl := (List.getElem?_eq_some_iff.1 hk.2).1
  have h1 := hi.in_ k hkl (by rw [hlf]; exact hT.form.2 k hkl)
  rw [getD_of hk.1, getD_of hk.2] at h1
  unfold badAt
  simp
  omega
/-- Dense's error, and what it lays out -/
noncomputable def stDenE (t : Ten) : Int := if tenE t ≠ 0 then tenE t else (laidF t.xs).2
noncomputable def stDenV (t : Ten) : List Int := denseK t.xs (entK t t.vn)
def StDenPost (w : World) (t : Ten) (e : Ending) (w' : World) : Prop :=
  Below w.heap.size w w' ∧ ((stDenE t ≠ 0 ∧ e = .returned (.tuple #[.agg #[.slice none 0 0, .slice none 0 0], .int .i64 (stDenE t)])) ∨ (stDenE t = 0 ∧ ∃ (A1 : Option Addr) (c1 : Nat) (A2 : Option Addr) (c2 : Nat), e = .returned (.tuple #[.agg #[.slice A1 t.n c1, .slice A2 (stDenV t).length c2], .int .i64 0]) ∧ OwnI w' w.heap.size 3 A1 c1 t.xs ∧ OwnI w' w.heap.size 2 A2 c2 (stDenV t)))
theorem key_cs {Ts : List Ent} {t : Ten} {q : Nat} (h : Ts.map keyE = entK t q) : ∀ x ∈ Ts, ∃ n, n < q ∧ x.cs = cN t.n t.fs t.ls t.ln n := by
  intro x hx
  have h1 : keyE x ∈ Ts.map keyE := List.mem_map_of_mem hx
  rw [h] at h1
  unfold entK at h1
  obtain ⟨n, hn, he⟩ := List.mem_map.1 h1
  exact ⟨n, List.mem_range.1 hn, (congrArg (fun q => q.1) he).symm⟩
theorem cooF_tok {t : Ten} {Ts : List Ent} (hT : Tok t.xs t.fs t.ls) (hn : t.xs.length = t.n) (hl : t.ls.length = t.ln) (hv : t.vn = ahN t.ls t.ln) (hv2 : t.vn ≤ 65536) (h : Ts.map keyE = entK t t.vn) : cooF t.xs Ts = 0 := by
  have hTl : Ts.length = t.vn := by have := congrArg List.length h; rw [List.length_map, entK_length] at this; exact this
  unfold cooF
  rw [if_pos hT.cells, if_neg (by omega), if_pos]
  rw [List.all_eq_true]
  intro x hx
  obtain ⟨n, h1, h2⟩ := key_cs h x hx
  rw [h2]
  have := tok_inside hT (n := n) (by rw [hl, ← hv]; exact h1)
  rwa [hn, hl] at this
set_option maxRecDepth 100000 in
set_option maxHeartbeats 4000000 in
theorem stDense_any (t : Ten) (w : World) (ht : t.In w w.heap.size) (hv : t.vn ≤ 65536) : Calls Try.prog 23 #[t.val] w (StDenPost w t) := by
  have z0 := lvBelow w t.obj
  have z1 := z0.alloc z0.size (.cells #[.slice none 0 0, .slice none 0 0] 45)
  have HR := stRead_any t ((w.alloc t.obj).alloc (.cells #[.slice none 0 0, .slice none 0 0] 45)) (ht.on z1)
  have b1 := zf_two w t.obj (.cells #[.slice none 0 0, .slice none 0 0] 45)
  have b2 := zf_snd w (.cells #[.slice none 0 0, .slice none 0 0] 45) t.obj
  obtain ⟨k0, k1, k2, k3, _⟩ := lvCells b1
  have HT := Lib.hid ht
  clear ht
  go_enter Try.func23, Try.ntmps23
  go_wp2_with fail
  refine HR.mono ?_
  rintro e w1 ⟨hb1, hh⟩
  have HB := Lib.hid (z1.trans (hb1.mono z1.size))
  have hs1 : w.heap.size + 2 ≤ w1.heap.size := by have := hb1.size; simp at this; omega
  have HBR := Lib.hid ((hb1.block (w.heap.size + 1) (by simp)).trans b2)
  clear k0 k1 k2 k3
  rcases hh with ⟨hE, rfl⟩ | ⟨hE, A1, c1, A3, c3, Ts, rfl, hA1, hA3, hP, hK⟩
  · obtain ⟨E, hEE⟩ : ∃ E, tenE t = E := ⟨_, rfl⟩
    rw [hEE] at hE ⊢
    have HE : Hid (stDenE t = E ∧ E ≠ 0) := ⟨by unfold stDenE; rw [hEE, if_pos hE], hE⟩
    have e1 : (E != 0) = true := by simpa using hE
    obtain ⟨W2, hW2⟩ : ∃ W, w1.alloc (.cells #[.slice none 0 0, .slice none 0 0] 41) = W := ⟨_, rfl⟩
    have hal : Below w1.heap.size w1 W2 := by rw [← hW2]; exact (Below.refl _ _).alloc (Nat.le_refl _) _
    have HBR2 := Lib.hid (keep_b hal HBR.out)
    have HB2 := Lib.hid (HB.out.trans (hal.mono HB.out.size))
    have HW2 := Lib.hid hW2
    obtain ⟨r0, r1, rf0, rf1⟩ := pair_cells HBR2.out
    clear hEE hE hb1 b1 b2 z0 z1 HR hal hW2
    go_upto_region 2 with fail
    rw [HW2.out]
    go_wp2_with fail
    have hres := set_two W2 (w.heap.size + 1) _ _ (.slice none 0 0) (.slice none 0 0) _ HBR2.out
    obtain ⟨s0, s1, _, _⟩ := pair_cells hres.1
    obtain ⟨wz, hwz⟩ : ∃ wz, (W2.setCell ⟨w.heap.size + 1, 0, none⟩ (.slice none 0 0)).setCell ⟨w.heap.size + 1, 1, none⟩ (.slice none 0 0) = wz := ⟨_, rfl⟩
    rw [hwz] at hres s0 s1 ⊢
    exact bodyPost_ret (v := .tuple #[.agg #[.slice none 0 0, .slice none 0 0], .int .i64 E]) (by simp [results, Try.results23, go_sem, s0, s1]) rfl ⟨HB2.out.grown hres.2 HB2.out.size (fun k hk => by injection hk with hk; omega), .inl ⟨by rw [HE.out.1]; exact HE.out.2, by rw [HE.out.1]⟩⟩
  · have hT := tenE_tok hE HT.out.lvs.1
    have hsm := tenE_small hE
    have hck := cooF_tok hT HT.out.shape.1 HT.out.lvs.1 hsm.2.2.2.1 hv hK
    have hTl : Ts.length = t.vn := by have := congrArg List.length hK; rw [List.length_map, entK_length] at this; exact this
    obtain ⟨W2, hW2⟩ : ∃ W, w1.alloc (.cells #[.slice A1 t.n c1, .slice A3 t.vn c3] 41) = W := ⟨_, rfl⟩
    have hal : Below w1.heap.size w1 W2 := by rw [← hW2]; exact (Below.refl _ _).alloc (Nat.le_refl _) _
    have HBR2 := Lib.hid (keep_b hal HBR.out)
    have HB2 := Lib.hid (HB.out.trans (hal.mono HB.out.size))
    have hx2 : W2.heap[w1.heap.size]? = some (.cells #[.slice A1 t.n c1, .slice A3 t.vn c3] 41 (0, 0)) := by rw [← hW2]; exact heap_alloc_new _ _
    obtain ⟨x0, x1, _, _⟩ := pair_cells hx2
    have hi := (hA1.below hal (Nat.le_refl _)).ints
    rw [HT.out.shape.1] at hi
    have hv3 := ownE_ents (ownE_below hA3 hal) (fun x hx => ⟨(hP x hx).1.below hal (Nat.le_refl _), (hP x hx).2⟩)
    rw [hTl] at hv3
    have HK : Hid (denseV t.xs Ts = stDenV t) := by unfold Hid stDenV; rw [denseV_keys, hK]
    have hs2 : w.heap.size + 1 < W2.heap.size := lt_of_heap HBR2.out
    by_cases hla : (laidF t.xs).2 = 0
    · have HD := cooDense_ok A1 A3 t.n c1 t.vn c3 t.xs Ts W2 hi hv3 (by omega) hck hla
      have HE : Hid (stDenE t = 0) := by unfold Hid stDenE; rw [if_neg (by rw [hE]; simp), hla]
      have HW2 := Lib.hid hW2
      rw [HK.out] at HD
      clear hE hb1 b1 b2 z0 z1 HR hal hW2 hi hv3 hA1 hA3 hP hK hT hsm hck hTl hla
      go_upto_region 4 with fail
      rw [HW2.out]
      go_wp2_with fail
      refine HD.mono ?_
      rintro x w5 ⟨A4, c4, A5, c5, rfl, h1, h2, hb5⟩
      have HBR5 := Lib.hid (keep_b hb5 HBR2.out)
      have HB5 := Lib.hid (HB2.out.trans (hb5.mono HB2.out.size))
      obtain ⟨r0, r1, rf0, rf1⟩ := pair_cells HBR5.out
      have HO1 := Lib.hid h1
      have HO2 := Lib.hid h2
      obtain ⟨M, hM⟩ : ∃ M, (stDenV t).length = M := ⟨_, rfl⟩
      rw [hM]
      have HM := Lib.hid hM
      have hzz := HB2.out.size
      clear hb5 h1 h2 HD hM
      go_wp2_with fail
      have hres := set_two w5 (w.heap.size + 1) _ _ (.slice A4 t.n c4) (.slice A5 M c5) _ HBR5.out
      obtain ⟨s0, s1, _, _⟩ := pair_cells hres.1
      obtain ⟨wz, hwz⟩ : ∃ wz, (w5.setCell ⟨w.heap.size + 1, 0, none⟩ (.slice A4 t.n c4)).setCell ⟨w.heap.size + 1, 1, none⟩ (.slice A5 M c5) = wz := ⟨_, rfl⟩
      rw [hwz] at hres s0 s1 ⊢
      refine bodyPost_ret (v := .tuple #[.agg #[.slice A4 t.n c4, .slice A5 M c5], .int .i64 0]) (by simp [results, Try.results23, go_sem, s0, s1]) rfl ⟨HB5.out.grown hres.2 HB5.out.size (fun k hk => by injection hk with hk; omega), .inr ⟨HE.out, A4, c4, A5, c5, by rw [HM.out], ?_, ?_⟩⟩
      · exact OwnI.mono (w := wz) (base := W2.heap.size) ⟨HO1.out.1.kept hres.2 (rows_ne HO1.out.1 HBR5.out (by decide)), HO1.out.2⟩ hzz
      · exact OwnI.mono (w := wz) (base := W2.heap.size) ⟨HO2.out.1.kept hres.2 (rows_ne HO2.out.1 HBR5.out (by decide)), HO2.out.2⟩ hzz
    · obtain ⟨E, hEE⟩ : ∃ E, (laidF t.xs).2 = E := ⟨_, rfl⟩
      rw [hEE] at hla
      have HD := cooDense_large A1 A3 t.n c1 t.vn c3 t.xs Ts E W2 hi (by have := HT.out.n1; omega) hv3 (by omega) hck hEE hla
      have HE : Hid (stDenE t = E ∧ E ≠ 0) := ⟨by unfold stDenE; rw [if_neg (by rw [hE]; simp), hEE], hla⟩
      have HW2 := Lib.hid hW2
      clear hE hb1 b1 b2 z0 z1 HR hal hW2 hi hv3 hA1 hA3 hP hK hT hsm hck hTl hla hEE
      go_upto_region 4 with fail
      rw [HW2.out]
      go_wp2_with fail
      refine HD.mono ?_
      rintro x w5 ⟨rfl, hb5⟩
      have HBR5 := Lib.hid (keep_b hb5 HBR2.out)
      have HB5 := Lib.hid (HB2.out.trans (hb5.mono HB2.out.size))
      obtain ⟨r0, r1, rf0, rf1⟩ := pair_cells HBR5.out
      clear hb5 HD
      go_wp2_with fail
      have hres := set_two w5 (w.heap.size + 1) _ _ (.slice none 0 0) (.slice none 0 0) _ HBR5.out
      obtain ⟨s0, s1, _, _⟩ := pair_cells hres.1
      obtain ⟨wz, hwz⟩ : ∃ wz, (w5.setCell ⟨w.heap.size + 1, 0, none⟩ (.slice none 0 0)).setCell ⟨w.heap.size + 1, 1, none⟩ (.slice none 0 0) = wz := ⟨_, rfl⟩
      rw [hwz] at hres s0 s1 ⊢
      exact bodyPost_ret (v := .tuple #[.agg #[.slice none 0 0, .slice none 0 0], .int .i64 E]) (by simp [results, Try.results23, go_sem, s0, s1]) rfl ⟨HB5.out.grown hres.2 HB5.out.size (fun k hk => by injection hk with hk; omega), .inl ⟨by rw [HE.out.1]; exact HE.out.2, by rw [HE.out.1]⟩⟩
end Go.Proofs.Ytfimnmdcbnfhfaa
/- purflelaw05.some: the chapter's example. -/
namespace Go.Proofs.Ytfimnmdcbnfhfaa
open Go.RowKit

def someFs : List Sp := [⟨0, 0, 0⟩, ⟨1, 1, 0⟩]
def someLs (s : Nat) : List Lv := [⟨0, 2, none, 0, 0, none, 0, 0, [], []⟩, ⟨1, 3, some ⟨s + 1 + 1 + 1, 0, none⟩, 3, 3, some ⟨s + 1 + 1 + 1 + 1, 0, none⟩, 2, 2, [0, 1, 2], [2, 0]⟩]
def someT (s : Nat) : Ten := ⟨some ⟨s + 1, 0, none⟩, 2, 2, [2, 3], some ⟨s + 1 + 1, 0, none⟩, 2, 2, someFs, some ⟨s + 1 + 1 + 1 + 1 + 1, 0, none⟩, 2, 2, someLs s, some ⟨s + 1 + 1 + 1 + 1 + 1 + 1, 0, none⟩, 2, 2, [5, 7]⟩
/-- the blocks of the example -/
structure SomeB (w : World) (s : Nat) : Prop where
  b1 : w.heap[s + 1]? = some (.cells #[.int .i64 2, .int .i64 3] 3 (0, 0))
  b2 : w.heap[s + 1 + 1]? = some (.cells #[.int .i64 0, .int .i64 0, .int .i64 0, .int .i64 1, .int .i64 1, .int .i64 0] 66 (0, 0))
  b3 : w.heap[s + 1 + 1 + 1]? = some (.cells #[.int .i64 0, .int .i64 1, .int .i64 2] 3 (0, 0))
  b4 : w.heap[s + 1 + 1 + 1 + 1]? = some (.cells #[.int .i64 2, .int .i64 0] 3 (0, 0))
  b5 : w.heap[s + 1 + 1 + 1 + 1 + 1]? = some (.cells #[.int .i64 0, .int .i64 2, .slice none 0 0, .slice none 0 0, .int .i64 1, .int .i64 3, .slice (some ⟨s + 1 + 1 + 1, 0, none⟩) 3 3, .slice (some ⟨s + 1 + 1 + 1 + 1, 0, none⟩) 2 2] 63 (0, 0))
  b6 : w.heap[s + 1 + 1 + 1 + 1 + 1 + 1]? = some (.cells #[.int .i64 5, .int .i64 7] 2 (0, 0))
theorem ints_blk {w : World} {g n B : Nat} {zs : List Int} {e : TypeId} (h : w.heap[g]? = some (.cells (zs.map (Value.int .i64)).toArray e (0, 0))) (hl : zs.length = n) (hb : ∀ z ∈ zs, -9223372036854775808 ≤ z ∧ z ≤ 9223372036854775807) (hB : g < B) : Ints w B (some ⟨g, 0, none⟩) n zs := by
  refine ⟨hl, hb, fun _ => ⟨g, 0, rfl, hB, fun k x hx => ?_⟩⟩
  rw [Nat.zero_add]
  exact (vblk_cell h (by rw [List.getElem?_map, hx]; rfl)).1
theorem fit23 : ∀ z ∈ ([2, 3] : List Int), -9223372036854775808 ≤ z ∧ z ≤ 9223372036854775807 := by decide
theorem fit57 : ∀ z ∈ ([5, 7] : List Int), -9223372036854775808 ≤ z ∧ z ≤ 9223372036854775807 := by decide
theorem fitFs : ∀ x ∈ someFs, x.ok := by
  intro x hx
  simp only [someFs, List.mem_cons, List.not_mem_nil, or_false] at hx
  rcases hx with rfl | rfl
  · exact ⟨by dsimp only; omega, by dsimp only; omega, by dsimp only; omega, by dsimp only; omega, by dsimp only; omega, by dsimp only; omega⟩
  · exact ⟨by dsimp only; omega, by dsimp only; omega, by dsimp only; omega, by dsimp only; omega, by dsimp only; omega, by dsimp only; omega⟩
theorem le2 : 2 ≤ 100000 := by decide
theorem some_in {w : World} {s : Nat} (h : SomeB w s) : (someT s).In w w.heap.size := by
  have l6 := lt_of_heap h.b6
  have i0 : Ints w w.heap.size none 0 [] := Ints.nil_
  have i3 : Ints w w.heap.size (some ⟨s + 1 + 1 + 1, 0, none⟩) 3 [0, 1, 2] := ints_blk h.b3 rfl (by decide) (by omega)
  have i4 : Ints w w.heap.size (some ⟨s + 1 + 1 + 1 + 1, 0, none⟩) 2 [2, 0] := ints_blk h.b4 rfl (by decide) (by omega)
  refine ⟨ints_blk (zs := [2, 3]) h.b1 rfl fit23 (by omega), ⟨rfl, fitFs, fun _ => ⟨_, 0, rfl, by omega, fun k x hx => ?_⟩⟩, ⟨rfl, fun x hx => ?_, fun _ => ⟨_, 0, rfl, by omega, fun k x hx => ?_⟩⟩, ints_blk (zs := [5, 7]) h.b6 rfl fit57 (by omega), Nat.le_refl 2, Nat.le_refl 2, Nat.le_refl 2, Nat.le_refl 2, le2, le2, le2, le2⟩
  · match k, hx with
    | 0, hx => simp [someT, someFs] at hx; subst hx; exact ⟨(cell_of_row _ _ 0 _ _ (0, 0) h.b2).trans (by simp), (cell_of_row _ _ 1 _ _ (0, 0) h.b2).trans (by simp), (cell_of_row _ _ 2 _ _ (0, 0) h.b2).trans (by simp)⟩
    | 1, hx => simp [someT, someFs] at hx; subst hx; exact ⟨(cell_of_row _ _ 3 _ _ (0, 0) h.b2).trans (by simp), (cell_of_row _ _ 4 _ _ (0, 0) h.b2).trans (by simp), (cell_of_row _ _ 5 _ _ (0, 0) h.b2).trans (by simp)⟩
    | k + 2, hx => simp [someT, someFs] at hx
  · simp only [someT, someLs, List.mem_cons, List.not_mem_nil, or_false] at hx
    rcases hx with rfl | rfl
    · exact ⟨by dsimp only; omega, by dsimp only; omega, i0, i0, by dsimp only; omega, by dsimp only; omega, by dsimp only; omega, by dsimp only; omega⟩
    · exact ⟨by dsimp only; omega, by dsimp only; omega, i3, i4, by dsimp only; omega, by dsimp only; omega, by dsimp only; omega, by dsimp only; omega⟩
  · match k, hx with
    | 0, hx => simp [someT, someLs] at hx; subst hx; exact ⟨(cell_of_row _ _ 0 _ _ (0, 0) h.b5).trans (by simp), (cell_of_row _ _ 1 _ _ (0, 0) h.b5).trans (by simp), (cell_of_row _ _ 2 _ _ (0, 0) h.b5).trans (by simp), (cell_of_row _ _ 3 _ _ (0, 0) h.b5).trans (by simp)⟩
    | 1, hx => simp [someT, someLs] at hx; subst hx; exact ⟨(cell_of_row _ _ 4 _ _ (0, 0) h.b5).trans (by simp), (cell_of_row _ _ 5 _ _ (0, 0) h.b5).trans (by simp), (cell_of_row _ _ 6 _ _ (0, 0) h.b5).trans (by simp), (cell_of_row _ _ 7 _ _ (0, 0) h.b5).trans (by simp)⟩
    | k + 2, hx => simp [someT, someLs] at hx
theorem some_form : formOK [2, 3] someFs := by
  refine ⟨fun i s hs => ?_, fun m hm => ?_⟩
  · match i, hs with
    | 0, hs => simp [someFs] at hs; subst hs; exact ⟨by decide, by decide, by decide, .inl ⟨by decide, by decide, by decide⟩⟩
    | 1, hs => simp [someFs] at hs; subst hs; exact ⟨by decide, by decide, by decide, .inl ⟨by decide, by decide, by decide⟩⟩
    | i + 2, hs => simp [someFs] at hs
  · simp at hm
    rcases (by omega : m = 0 ∨ m = 1) with rfl | rfl <;> decide
theorem some_sizes : sizesL [2, 3] someFs = [2, 3] := by decide +kernel
theorem some_sizesE : sizesE [2, 3] someFs = 0 := by
  unfold sizesE
  rw [some_sizes, formB_yes some_form]
  decide +kernel
theorem some_of (s : Nat) : OfP (someLs s) someFs (sizesL [2, 3] someFs) := by
  rw [some_sizes]
  refine ⟨rfl, fun k l f z h1 h2 h3 => ?_⟩
  match k, h1, h2, h3 with
  | 0, h1, h2, h3 => simp [someLs] at h1; simp [someFs] at h2; simp at h3; subst h1 h2 h3; exact ⟨rfl, rfl⟩
  | 1, h1, h2, h3 => simp [someLs] at h1; simp [someFs] at h2; simp at h3; subst h1 h2 h3; exact ⟨rfl, rfl⟩
  | k + 2, h1, _, _ => simp [someLs] at h1
theorem some_lev (s : Nat) : levE (someLs s) 2 = 0 := by
  have h0 : lvF 0 2 [] [] 1 = 0 := lvF_zero ⟨⟨by decide, by decide, by decide, by decide, by decide, by decide⟩, ⟨fun h => by omega, fun h => by omega, fun _ _ _ => ⟨rfl, rfl⟩⟩, by decide, by decide, (fun y hy => by cases hy), (fun h => by omega)⟩
  have h1 : lvF 1 3 [0, 1, 2] [2, 0] 2 = 0 := by
    refine lvF_zero ⟨⟨by decide, by decide, by decide, by decide, by decide, by decide⟩, ⟨fun _ => ⟨by decide, rfl, rfl, ?_⟩, fun h => by omega, fun h => absurd rfl h⟩, by decide, by decide, ?_, ?_⟩
    · intro k x y hx hy
      match k, hx, hy with
      | 0, hx, hy => simp at hx hy; omega
      | 1, hx, hy => simp at hx hy; omega
      | k + 2, hx, hy => simp at hy
    · intro y hy
      simp at hy
      omega
    · intro _ p hp n x z u v hx hz hn1 hn2 hu hv
      rcases (by omega : p = 0 ∨ p = 1) with rfl | rfl
      · simp at hx hz; omega
      · simp at hx hz; omega
  have a1 : ahN (someLs s) 1 = 2 := rfl
  have e1 : levE (someLs s) 1 = 0 := by
    rw [levE_succ (k := 0) (l := ⟨0, 2, none, 0, 0, none, 0, 0, [], []⟩) rfl rfl]
    exact h0
  rw [levE_succ (k := 1) (l := ⟨1, 3, some ⟨s + 1 + 1 + 1, 0, none⟩, 3, 3, some ⟨s + 1 + 1 + 1 + 1, 0, none⟩, 2, 2, [0, 1, 2], [2, 0]⟩) rfl e1, a1]
  exact h1
theorem some_tenE (s : Nat) : tenE (someT s) = 0 := by
  unfold tenE
  have h1 : sizesE (someT s).xs (someT s).fs = 0 := some_sizesE
  have h2 : pB (OfP (someT s).ls (someT s).fs (sizesL (someT s).xs (someT s).fs)) = true := pB_t (some_of s)
  have h3 : levE (someT s).ls (someT s).ln = 0 := some_lev s
  have h4 : pB (RiseL (someT s).ls) = true := pB_t (riseL_none (by rfl))
  have h5 : (someT s).vn = ahN (someT s).ls (someT s).ln := rfl
  rw [if_neg (by rw [h1]; simp), if_pos h2, if_neg (by rw [h3]; simp), if_neg (by rw [h5]; simp), if_pos h4]
end Go.Proofs.Ytfimnmdcbnfhfaa
/- purflelaw05.live returns true. -/
namespace Go.Proofs.Ytfimnmdcbnfhfaa
open Go.RowKit

theorem some_tok (s : Nat) : Tok (someT s).xs (someT s).fs (someT s).ls := tenE_tok (some_tenE s) rfl
theorem some_par1 (s n : Nat) (hn : n < 2) : parN ⟨1, 3, some ⟨s + 1 + 1 + 1, 0, none⟩, 3, 3, some ⟨s + 1 + 1 + 1 + 1, 0, none⟩, 2, 2, [0, 1, 2], [2, 0]⟩ (ahN (someLs s) 1) n = n := by
  have hL := (some_tok s).lok (k := 1) (l := ⟨1, 3, some ⟨s + 1 + 1 + 1, 0, none⟩, 3, 3, some ⟨s + 1 + 1 + 1 + 1, 0, none⟩, 2, 2, [0, 1, 2], [2, 0]⟩) rfl
  rcases (by omega : n = 0 ∨ n = 1) with rfl | rfl
  · exact parN_eq hL (show 0 < 2 by decide) (show 0 ≤ 0 by decide) (show 0 < 1 by decide)
  · exact parN_eq hL (show 1 < 2 by decide) (show 1 ≤ 1 by decide) (show 1 < 2 by decide)
theorem some_par0 (s n : Nat) (hn : n < 2) : parN ⟨0, 2, none, 0, 0, none, 0, 0, [], []⟩ (ahN (someLs s) 0) n = 0 := by
  have hL := (some_tok s).lok (k := 0) (l := ⟨0, 2, none, 0, 0, none, 0, 0, [], []⟩) rfl
  exact parN_eq hL (show 0 < 1 by decide) (show 0 ≤ n by omega) (show n < 2 by omega)
theorem some_st0 : stAt someFs 0 = 1 := by decide +kernel
theorem some_st1 : stAt someFs 1 = 1 := by decide +kernel
theorem some_cN (s n : Nat) (hn : n < 2) : cN 2 someFs (someLs s) 2 n = if n = 0 then [0, 2] else [1, 0] := by
  rw [cN_succ (k := 1) (l := ⟨1, 3, some ⟨s + 1 + 1 + 1, 0, none⟩, 3, 3, some ⟨s + 1 + 1 + 1 + 1, 0, none⟩, 2, 2, [0, 1, 2], [2, 0]⟩) (f := ⟨1, 1, 0⟩) rfl rfl, some_par1 s n hn, cN_succ (k := 0) (l := ⟨0, 2, none, 0, 0, none, 0, 0, [], []⟩) (f := ⟨0, 0, 0⟩) rfl rfl, some_par0 s n hn, some_st0, some_st1]
  rcases (by omega : n = 0 ∨ n = 1) with rfl | rfl
  · simp only [cN]; decide
  · simp only [cN]; decide
theorem some_ent (s : Nat) : entK (someT s) 2 = [([0, 2], 5, 2), ([1, 0], 7, 2)] := by
  have h0 := some_cN s 0 (by omega)
  have h1 := some_cN s 1 (by omega)
  unfold entK
  show [_, _] = _
  exact congr (congrArg _ (Prod.ext h0 rfl)) (congrArg (fun x => [x]) (Prod.ext h1 rfl))
theorem some_den (s : Nat) : stDenV (someT s) = [0, 0, 5, 7, 0, 0] := by
  unfold stDenV
  show denseK [2, 3] (entK (someT s) 2) = _
  rw [some_ent]
  decide +kernel
theorem some_denE (s : Nat) : stDenE (someT s) = 0 := by
  unfold stDenE
  rw [if_neg (by rw [some_tenE]; simp)]
  show (laidF [2, 3]).2 = 0
  decide +kernel
theorem at_new (w : World) (o : Obj) {k : Nat} (h : w.heap.size = k) : (w.alloc o).heap[k]? = some o := by subst h; exact heap_alloc_new w o
def someW (w : World) : World := ((((((w.alloc (.cells #[.slice (some ⟨w.heap.size + 1, 0, none⟩) 2 2, .slice (some ⟨w.heap.size + 1 + 1, 0, none⟩) 2 2, .slice (some ⟨w.heap.size + 1 + 1 + 1 + 1 + 1, 0, none⟩) 2 2, .slice (some ⟨w.heap.size + 1 + 1 + 1 + 1 + 1 + 1, 0, none⟩) 2 2] 34)).alloc (.cells #[.int .i64 2, .int .i64 3] 3)).alloc
  (.cells #[.int .i64 0, .int .i64 0, .int .i64 0, .int .i64 1, .int .i64 1, .int .i64 0] 66)).alloc (.cells #[.int .i64 0, .int .i64 1, .int .i64 2] 3)).alloc (.cells #[.int .i64 2, .int .i64 0] 3)).alloc
  (.cells #[.int .i64 0, .int .i64 2, .slice none 0 0, .slice none 0 0, .int .i64 1, .int .i64 3, .slice (some ⟨w.heap.size + 1 + 1 + 1, 0, none⟩) 3 3, .slice (some ⟨w.heap.size + 1 + 1 + 1 + 1, 0, none⟩) 2 2] 63)).alloc (.cells #[.int .i64 5, .int .i64 7] 2)
theorem someW_b (w : World) : SomeB (someW w) w.heap.size :=
  ⟨heapPast_ _ (heapPast_ _ (heapPast_ _ (heapPast_ _ (heapPast_ _ (at_new _ _ (by simp)))))), heapPast_ _ (heapPast_ _ (heapPast_ _ (heapPast_ _ (at_new _ _ (by simp))))), heapPast_ _ (heapPast_ _ (heapPast_ _ (at_new _ _ (by simp)))), heapPast_ _ (heapPast_ _ (at_new _ _ (by simp))), heapPast_ _ (at_new _ _ (by simp)), at_new _ _ (by simp)⟩
theorem someW_bel (w : World) : Below w.heap.size w (someW w) := ((((((((Below.refl _ w).alloc (Nat.le_refl _) _).alloc (by simp) _).alloc (by simp; omega) _).alloc (by simp; omega) _).alloc (by simp; omega) _).alloc (by simp; omega) _).alloc (by simp; omega) _)
theorem someW_0 (w : World) : (someW w).heap[w.heap.size]? = some (someT w.heap.size).obj := heapPast_ _ (heapPast_ _ (heapPast_ _ (heapPast_ _ (heapPast_ _ (heapPast_ _ (heap_alloc_new w _))))))
theorem SomeB.on {w w' : World} {s : Nat} (h : SomeB w s) (hb : Below w.heap.size w w') : SomeB w' s := ⟨keep_b hb h.b1, keep_b hb h.b2, keep_b hb h.b3, keep_b hb h.b4, keep_b hb h.b5, keep_b hb h.b6⟩
set_option maxRecDepth 100000 in
set_option maxHeartbeats 4000000 in
theorem some_any (w : World) : Calls Try.prog 37 #[] w fun e w' => e = .returned (someT w.heap.size).val ∧ SomeB w' w.heap.size ∧ Below w.heap.size w w' := by
  go_enter Try.func37, Try.ntmps37
  go_wp2_with fail
  change bodyPost _ _ _ _ _ (someW w)
  obtain ⟨s0, s1, s2, s3, _⟩ := lvCells (someW_0 w)
  exact bodyPost_ret (v := (someT w.heap.size).val) (by simp [results, Try.results37, go_sem, s0, s1, s2, s3]) rfl ⟨rfl, someW_b w, someW_bel w⟩
/-- no form of a shape: a list of one mode, without levels -/
def oneT (g : Nat) : Ten := ⟨some ⟨g, 0, none⟩, 1, 1, [1], none, 0, 0, [], none, 0, 0, [], none, 0, 0, []⟩
theorem one_tenE (g : Nat) : tenE (oneT g) = 4 := by
  have h : sizesE [1] [] = 4 := by
    unfold sizesE
    have h1 : (cellsF [1]).2 = 0 := by decide
    have h2 : formB [1] [] = false := formB_no fun h => h.2 0 (by decide) rfl
    rw [h1, h2]
    rfl
  unfold tenE
  show (if sizesE [1] [] ≠ 0 then sizesE [1] [] else _) = 4
  rw [h]
  rfl
theorem one_in {w : World} {g : Nat} (h : w.heap[g]? = some (.cells #[.int .i64 1] 3 (0, 0))) : (oneT g).In w w.heap.size :=
  ⟨ints_blk (zs := [1]) h rfl (by decide) (lt_of_heap h), Specs.nil_, Lvs.nil_, Ints.nil_, Nat.le_refl 1, Nat.le_refl 0, Nat.le_refl 0, Nat.le_refl 0, by show 1 ≤ 100000; omega, by show 0 ≤ 100000; omega, by show 0 ≤ 100000; omega, by show 0 ≤ 100000; omega⟩
theorem some_dense {w1 : World} {s : Nat} (h : SomeB w1 s) : Calls Try.prog 23 #[(someT s).val] w1 fun e w' => ∃ (A1 : Option Addr) (c1 g c2 : Nat), e = .returned (.tuple #[.agg #[.slice A1 2 c1, .slice (some ⟨g, 0, none⟩) 6 c2], .int .i64 0]) ∧ OwnI w' w1.heap.size 2 (some ⟨g, 0, none⟩) c2 [0, 0, 5, 7, 0, 0] ∧ Below w1.heap.size w1 w' := by
  refine (stDense_any (someT s) w1 (some_in h) (by show 2 ≤ 65536; omega)).mono ?_
  rintro e w2 ⟨hb2, ⟨hE, _⟩ | ⟨_, A1, c1, A2, c2, rfl, _, h2⟩⟩
  · exact absurd (some_denE s) hE
  · rw [some_den] at h2 ⊢
    rcases h2.1.2 with ⟨_, h0⟩ | ⟨g, cap, cur, hv, _⟩
    · simp at h0
    · obtain rfl : A2 = some ⟨g, 0, none⟩ := by injection hv
      exact ⟨A1, c1, g, c2, rfl, h2, hb2⟩
theorem one_read {w : World} {g : Nat} (h : w.heap[g]? = some (.cells #[.int .i64 1] 3 (0, 0))) : Calls Try.prog 21 #[.agg #[.slice (some ⟨g, 0, none⟩) 1 1, .slice none 0 0, .slice none 0 0, .slice none 0 0]] w fun e w' => e = .returned (.tuple #[.agg #[.slice none 0 0, .slice none 0 0], .int .i64 4]) ∧ Below w.heap.size w w' := by
  refine (stRead_any (oneT g) w (one_in h)).mono ?_
  rintro e w2 ⟨hb2, ⟨_, rfl⟩ | ⟨hE, _⟩⟩
  · exact ⟨by rw [one_tenE], hb2⟩
  · rw [one_tenE] at hE; cases hE
theorem some_check {w1 : World} {s : Nat} (h : SomeB w1 s) : Calls Try.prog 17 #[(someT s).val] w1 fun e w' => e = .returned (.int .i64 0) ∧ Below w1.heap.size w1 w' := by
  refine (stCheck_any (someT s) w1 (some_in h)).mono ?_
  rintro e w2 ⟨rfl, hb⟩
  exact ⟨by rw [some_tenE], hb⟩
set_option maxRecDepth 100000 in
set_option maxHeartbeats 4000000 in
theorem stLive_any (w : World) : Calls Try.prog 9 #[] w fun e w' => e = .returned (.bool true) ∧ Below w.heap.size w w' := by
  go_enter Try.func9, Try.ntmps9
  go_wp2_with fail
  refine (some_any _).mono ?_
  rintro e w1 ⟨rfl, hB1, hb1⟩
  have HB1 := Lib.hid hb1
  have HS1 := Lib.hid hB1
  clear hB1 hb1
  go_wp2_with fail
  refine (some_dense HS1.out).mono ?_
  rintro e w2 ⟨A1, c1, g, c2, rfl, h2, hb2⟩
  have HB2 := Lib.hid (HB1.out.trans (hb2.mono HB1.out.size))
  obtain ⟨W3, hW3⟩ : ∃ W, (w2.alloc (.cells #[.slice A1 2 c1, .slice (some ⟨g, 0, none⟩) 6 c2] 45)).alloc (.cells #[.int .i64 1] 3) = W := ⟨_, rfl⟩
  have hal : Below w2.heap.size w2 W3 := by rw [← hW3]; exact ((Below.refl _ _).alloc (Nat.le_refl _) _).alloc (by simp) _
  have HB3 := Lib.hid (HB2.out.trans (hal.mono HB2.out.size))
  have HO3 := Lib.hid (h2.below hal (Nat.le_refl _))
  have HX3 : Hid (W3.heap[w2.heap.size]? = some (.cells #[.slice A1 2 c1, .slice (some ⟨g, 0, none⟩) 6 c2] 45 (0, 0))) := by unfold Hid; rw [← hW3]; exact heapPast_ _ (heap_alloc_new _ _)
  have HN3 : Hid (W3.heap[w2.heap.size + 1]? = some (.cells #[.int .i64 1] 3 (0, 0))) := by unfold Hid; rw [← hW3]; exact at_new _ _ (by simp)
  have HW3 := Lib.hid hW3
  clear h2 hb2 hal hW3
  go_wp2_with fail
  rw [HW3.out]
  refine (one_read HN3.out).mono ?_
  rintro e w4 ⟨rfl, hb4⟩
  obtain ⟨W5, hW5⟩ : ∃ W, w4.alloc (.cells #[.slice none 0 0, .slice none 0 0] 41) = W := ⟨_, rfl⟩
  have hal : Below W3.heap.size W3 W5 := by rw [← hW5]; exact hb4.alloc hb4.size _
  have HB5 := Lib.hid (HB3.out.trans (hal.mono HB3.out.size))
  have HO5 := Lib.hid (HO3.out.below hal (Nat.le_refl _))
  have HX5 := Lib.hid (keep_b hal HX3.out)
  have HW5 := Lib.hid hW5
  clear hal hb4 hW5
  go_upto_region 3 with fail
  rw [HW5.out]
  go_wp2_with fail
  refine (some_any _).mono ?_
  rintro e w6 ⟨rfl, hB6, hb6⟩
  have HS6 := Lib.hid hB6
  have HB6 := Lib.hid (HB5.out.trans (hb6.mono HB5.out.size))
  have HO6 := Lib.hid (HO5.out.below hb6 (Nat.le_refl _))
  have HX6 := Lib.hid (keep_b hb6 HX5.out)
  clear hB6 hb6
  go_wp2_with fail
  refine (some_check HS6.out).mono ?_
  rintro e w7 ⟨rfl, hb7⟩
  have HB7 := Lib.hid (HB6.out.trans (hb7.mono HB6.out.size))
  have HO7 := Lib.hid (HO6.out.below hb7 (Nat.le_refl _))
  have hx7 := keep_b hb7 HX6.out
  obtain ⟨x0, x1, _, _⟩ := pair_cells hx7
  obtain ⟨y2, _⟩ := HO7.out.cell_ (k := 2) (x := 5) rfl
  obtain ⟨y3, _⟩ := HO7.out.cell_ (k := 3) (x := 7) rfl
  clear hb7 hx7
  go_wp2_with fail
  go_ret
  exact ⟨rfl, HB7.out⟩
end Go.Proofs.Ytfimnmdcbnfhfaa
/- The document's block and sizes of a form; the program's Form. -/
namespace Go.Proofs.Ytfimnmdcbnfhfaa
open Go.RowKit

/-- a mode's block, or 0 -/
def blk0 (fs : List Sp) (m : Int) : Int := match fs.find? (fun s => s.k == 4 && s.m == m) with
  | some s => s.s
  | none => 0
theorem blk0_hit {fs : List Sp} {m : Int} {k : Nat} {x : Sp} (hx : fs[k]? = some x) (h4 : x.k = 4) (hm : x.m = m) (h0 : ∀ y ∈ fs.take k, ¬ (y.k = 4 ∧ y.m = m)) : blk0 fs m = x.s := by
  have hk := (List.getElem?_eq_some_iff.1 hx).1
  have e : fs = fs.take k ++ x :: fs.drop (k + 1) := by rw [← drop_of hx, List.take_append_drop]
  unfold blk0
  have hn : (fs.take k).find? (fun s => s.k == 4 && s.m == m) = none := by
    rw [List.find?_eq_none]
    intro y hy
    simpa using h0 y hy
  rw [e, List.find?_append, hn]
  simp [h4, hm]
theorem blk0_miss {fs : List Sp} {m : Int} (h0 : ∀ y ∈ fs, ¬ (y.k = 4 ∧ y.m = m)) : blk0 fs m = 0 := by
  unfold blk0
  have hn : fs.find? (fun s => s.k == 4 && s.m == m) = none := by
    rw [List.find?_eq_none]
    intro y hy
    simpa using h0 y hy
  rw [hn]
theorem szAt_plain {xs : List Int} {fs : List Sp} (hf : formOK xs fs) {k : Nat} {x : Sp} (hx : fs[k]? = some x) (h4 : x.k ≠ 4) : szAt xs fs k = if 0 < blk0 fs x.m then Int.tdiv (xs.getD x.m.toNat 0) (blk0 fs x.m) else xs.getD x.m.toNat 0 := by
  have h1 := stAt_eq hf hx
  rw [if_neg h4] at h1
  have hst : (stepK fs fs.length).getD k 0 = bsz fs x.m := h1
  have hb : bsz fs x.m = if 0 < blk0 fs x.m then blk0 fs x.m else 1 := by
    have hp := bsz_pos hf x.m
    unfold bsz blk0 at *
    cases hh : fs.find? (fun s => s.k == 4 && s.m == x.m) with
    | none => simp
    | some y =>
      rw [hh] at hp
      simp only at hp ⊢
      rw [if_pos (by omega)]
  unfold szAt
  rw [hx]
  simp only [h4, if_false]
  rw [hst, hb]
  split
  · rfl
  · rw [Int.tdiv_one]
set_option maxRecDepth 100000 in
set_option maxHeartbeats 4000000 in
theorem refBlock_any (A : Option Addr) (n c : Nat) (fs : List Sp) (y : Int) (w : World) (h : Specs w w.heap.size A n fs) (hn : n ≤ 100000) :
    Calls Try.prog 75 #[.slice A n c, .int .i64 y] w fun e w' => e = .returned (.int .i64 (blk0 fs y)) ∧ Below w.heap.size w w' := by
  have HL : Hid (fs.length = n) := h.1
  obtain ⟨FI, HFI⟩ : ∃ b, Hid (blk0 fs y = b) := ⟨_, Lib.hid rfl⟩
  rw [HFI.out]
  go_enter Try.func75, Try.ntmps75
  go_wp2
  go_loopw [9] (fun i wr => ∃ k : Nat, k ≤ n ∧ i = .int .i64 k ∧ Hid (∀ z ∈ fs.take k, ¬ (z.k = 4 ∧ z.m = y)) ∧ Hid (Below w.heap.size w wr)) (fun i _ => n - (intOf i).toNat)
  case atStart => exact ⟨0, Nat.zero_le _, rfl, by unfold Hid; simp, Below.refl _ _⟩
  case round =>
    obtain ⟨k, hk, rfl, HK, HB⟩ := hrel
    have hbw : w.heap.size ≤ wr.heap.size := HB.out.size
    by_cases hlt : k < n
    · obtain ⟨b, off, x, rfl, hbl, HX, c0, c1, c2, xo⟩ := (h.on HB.out (Nat.le_refl _)).at_ hlt
      obtain ⟨w1, hw1⟩ : ∃ w1, wr.alloc (.cells #[.int .i64 x.k, .int .i64 x.m, .int .i64 x.s] 66) = w1 := ⟨_, rfl⟩
      obtain ⟨q0, q1, q2⟩ : w1.cell? ⟨wr.heap.size, 0, none⟩ = some (.int .i64 x.k) ∧ w1.cell? ⟨wr.heap.size, 1, none⟩ = some (.int .i64 x.m) ∧ w1.cell? ⟨wr.heap.size, 2, none⟩ = some (.int .i64 x.s) := by
        have hb : w1.heap[wr.heap.size]? = some (.cells #[.int .i64 x.k, .int .i64 x.m, .int .i64 x.s] 66 (0, 0)) := by rw [← hw1]; exact heap_alloc_new _ _
        exact ⟨cell_of_row _ _ 0 _ _ _ hb, cell_of_row _ _ 1 _ _ _ hb, cell_of_row _ _ 2 _ _ _ hb⟩
      have HB1 : Hid (Below w.heap.size w w1) := by unfold Hid; rw [← hw1]; exact HB.out.alloc hbw _
      have HN : Hid (¬ (x.k = 4 ∧ x.m = y) → ∀ z ∈ fs.take (k + 1), ¬ (z.k = 4 ∧ z.m = y)) := by
        intro hx z hz
        rw [take_succ_of HX.out] at hz
        rcases List.mem_append.1 hz with hz | hz
        · exact HK.out z hz
        · rw [List.mem_singleton.1 hz]; exact hx
      clear HB xo
      by_cases a1 : x.m = y
      · have e1 : (x.m == y) = true := by simpa using a1
        by_cases a2 : x.k = 4
        · have e2 : (x.k == 4) = true := by simpa using a2
          have HF : Hid (FI = x.s) := HFI.out.symm.trans (blk0_hit HX.out a2 a1 HK.out)
          clear a1 a2
          go_wp2
          go_ret
          exact ⟨by rw [HF.out]; rfl, HB1.out⟩
        · have e2 : (x.k == 4) = false := by simpa using a2
          have HN2 := Lib.hid (HN.out fun hh => a2 hh.1)
          clear a1 a2
          go_wp2
          go_roundw
          case rel => exact ⟨k + 1, by omega, by go_num, HN2, HB1⟩
          case measure => simp [intOf]; omega
      · have e1 : (x.m == y) = false := by simpa using a1
        have HN2 := Lib.hid (HN.out fun hh => a1 hh.2)
        clear a1
        go_wp2
        go_roundw
        case rel => exact ⟨k + 1, by omega, by go_num, HN2, HB1⟩
        case measure => simp [intOf]; omega
    · have HF : Hid (FI = 0) := HFI.out.symm.trans (blk0_miss (by
        have := HK.out
        rwa [List.take_of_length_le (by rw [HL.out]; omega)] at this))
      go_wp2
      go_ret
      exact ⟨by rw [HF.out]; rfl, HB.out⟩
set_option maxRecDepth 100000 in
set_option maxHeartbeats 1000000 in
theorem stForm_any (A : Option Addr) (n c : Nat) (xs : List Int) (Bf : Option Addr) (m e : Nat) (fs : List Sp) (w : World) (h : Ints w w.heap.size A n xs) (hn : n ≤ 100000) (hf : Specs w w.heap.size Bf m fs) (hm : m ≤ 100000) (he : m ≤ e) :
    Calls Try.prog 13 #[.slice A n c, .slice Bf m e] w (IntPost (sizesE xs fs) w) := by
  obtain ⟨E, hE⟩ : ∃ E, Hid (sizesE xs fs = E) := ⟨_, Lib.hid rfl⟩
  have HS := sizes_any A n c xs Bf m e fs w h hn hf hm he
  rw [hE.out]
  clear h hf
  go_enter Try.func13, Try.ntmps13
  go_wp2_with fail
  refine HS.mono ?_
  rintro e w1 ⟨hb, hh⟩
  have HB := Lib.hid hb
  rcases hh with ⟨_, rfl⟩ | ⟨h0, g, _, rfl, _⟩
  · rw [hE.out]
    clear hb
    go_wp2_with fail
    go_ret
    exact ⟨rfl, HB.out⟩
  · have HE0 : Hid (E = 0) := hE.out.symm.trans h0
    clear hb h0
    go_wp2_with fail
    go_ret
    exact ⟨by rw [HE0.out]; rfl, HB.out⟩
end Go.Proofs.Ytfimnmdcbnfhfaa
/- The document's sizes of a form that is one of a shape. -/
namespace Go.Proofs.Ytfimnmdcbnfhfaa
open Go.RowKit

theorem szL_take {xs : List Int} {fs : List Sp} {k : Nat} (hk : k < fs.length) : (sizesL xs fs).take (k + 1) = (sizesL xs fs).take k ++ [szAt xs fs k] := by
  refine take_succ_of ?_
  unfold sizesL
  rw [List.getElem?_map, List.getElem?_range hk]; rfl
theorem szAt_block {xs : List Int} {fs : List Sp} {k : Nat} {x : Sp} (hx : fs[k]? = some x) (h4 : x.k = 4) : szAt xs fs k = x.s := by
  unfold szAt
  rw [hx]
  simp only [h4, if_true]
theorem blk0_range {xs : List Int} {fs : List Sp} (hf : formOK xs fs) (m : Int) (h : ∀ x ∈ fs, x.ok) : 0 ≤ blk0 fs m ∧ blk0 fs m ≤ 9223372036854775807 := by
  unfold blk0
  cases hh : fs.find? (fun s => s.k == 4 && s.m == m) with
  | none => simp
  | some y =>
    have hy := List.find?_some hh
    have hym := List.mem_of_find?_eq_some hh
    simp at hy
    obtain ⟨i, hi⟩ := List.mem_iff_getElem?.1 hym
    have h1 := (h y hym).2.2.2.2.2
    rcases (hf.1 i y hi).2.2.2 with hg | hg
    · exact absurd hy.1 hg.2.1
    · exact ⟨by have := hg.2.2.1; simp only; omega, h1⟩
set_option maxRecDepth 100000 in
set_option maxHeartbeats 8000000 in
theorem refSizesL_any (A : Option Addr) (n c : Nat) (xs : List Int) (Bf : Option Addr) (m e : Nat) (fs : List Sp) (w : World) (h : Ints w w.heap.size A n xs) (_hn : n ≤ 100000) (hf : Specs w w.heap.size Bf m fs) (hm : m ≤ 100000) (h0 : (cellsF xs).2 = 0) (hok : formOK xs fs) :
    Calls Try.prog 40 #[.slice A n c, .slice Bf m e] w fun r w' => ∃ A' c', r = .returned (.slice A' m c') ∧ OwnI w' w.heap.size 3 A' c' (sizesL xs fs) ∧ Below w.heap.size w w' := by
  obtain ⟨i0, hi0, hz0, hz1, hz2⟩ := info_parts infoInt
  have HN := Lib.hid h.1
  have HM := Lib.hid hf.1
  have HF := Lib.hid hok
  have HC0 := Lib.hid h0
  have HSL : Hid ((sizesL xs fs).length = m) := (sizesL_length xs fs).trans hf.1
  have HFO := Lib.hid hf.2.1
  clear h0 hok
  go_enter Try.func40, Try.ntmps40
  go_wp2_with fail
  go_loopw [12, 5] (fun i v wr => ∃ (k : Nat) (A' : Option Addr) (c' : Nat), k ≤ m ∧ i = .int .i64 k ∧ v = .slice A' k c' ∧ Hid (OwnI wr w.heap.size 3 A' c' ((sizesL xs fs).take k)) ∧ Hid (Below w.heap.size w wr)) (fun i _ _ => m - (intOf i).toNat)
  case atStart => exact ⟨0, none, 0, Nat.zero_le _, rfl, rfl, OwnI.nil_ _ _ _, Below.refl _ _⟩
  case round =>
    obtain ⟨k, A', c', hk, rfl, rfl, HO, HB⟩ := hrel
    have hbw : w.heap.size ≤ wr.heap.size := HB.out.size
    by_cases hlt : k < m
    · obtain ⟨b, off, x, rfl, hbl, HX, c0, c1, c2, xo⟩ := (hf.on HB.out (Nat.le_refl _)).at_ hlt
      have hxf := HF.out.1 k x HX.out
      obtain ⟨j, hj⟩ : ∃ j : Nat, x.m = (j : Int) := ⟨x.m.toNat, by have := hxf.1; omega⟩
      have hjn : j < n := by have := hxf.2.1; have := HN.out; omega
      have hkm : k < fs.length := by rw [HM.out]; exact hlt
      obtain ⟨w1, hw1⟩ : ∃ w1, wr.alloc (.cells #[.int .i64 x.k, .int .i64 x.m, .int .i64 x.s] 66) = w1 := ⟨_, rfl⟩
      have hal : Below wr.heap.size wr w1 := by rw [← hw1]; exact (Below.refl _ _).alloc (Nat.le_refl _) _
      have hb1 : w1.heap[wr.heap.size]? = some (.cells #[.int .i64 x.k, .int .i64 x.m, .int .i64 x.s] 66 (0, 0)) := by rw [← hw1]; exact heap_alloc_new _ _
      have HB1 := Lib.hid (HB.out.trans (hal.mono hbw))
      have HO1 := Lib.hid (HO.out.below hal (Nat.le_refl _))
      have HBk := fun W (hW : Below w1.heap.size w1 W) => refBlock_any (some ⟨b, off, none⟩) m e fs (j : Int) W ((hf.on (HB1.out.trans (hW.mono HB1.out.size)) (Nat.le_refl _)).more (HB1.out.trans (hW.mono HB1.out.size)).size) hm
      obtain ⟨bk, hbk⟩ : ∃ z, blk0 fs (j : Int) = z := ⟨_, rfl⟩
      rw [hbk] at HBk
      have hbr := blk0_range HF.out (j : Int) HFO.out
      rw [hbk] at hbr
      obtain ⟨bA, oA, v, rfl, _, HV, cv, v1, v2⟩ := (h.below HB1.out).at_ hjn
      have hv0 : 0 ≤ v := cellsF_nonneg HC0.out v (List.mem_of_getElem? HV.out)
      have hxd : xs.getD x.m.toNat 0 = v := by rw [hj, Int.toNat_natCast]; exact getD_of HV.out
      have htl : ((sizesL xs fs).take k).length = k := by rw [List.length_take, HSL.out]; omega
      have HTL := Lib.hid htl
      rw [hj] at c1 hb1 hw1
      obtain ⟨q0, q1, q2⟩ : w1.cell? ⟨wr.heap.size, 0, none⟩ = some (.int .i64 x.k) ∧ w1.cell? ⟨wr.heap.size, 1, none⟩ = some (.int .i64 (j : Int)) ∧ w1.cell? ⟨wr.heap.size, 2, none⟩ = some (.int .i64 x.s) := ⟨cell_of_row _ _ 0 _ _ _ hb1, cell_of_row _ _ 1 _ _ _ hb1, cell_of_row _ _ 2 _ _ _ hb1⟩
      have hsx := xo.2.2.2.2
      have HKM := Lib.hid hkm
      have hs1 := HB1.out.size
      clear hal hb1 xo hkm HB HO hxf
      by_cases h4 : x.k = 4
      · have e1 : (x.k != 4) = false := by simpa using h4
        have HZ : Hid (szAt xs fs k = x.s) := szAt_block HX.out h4
        clear h4 hj hxd htl
        go_wp2_with (first | (go_at_call 75; skip) | (at_builtin; refine wpList_appendInts _ rfl (.tmp 35) (.tmp 37) 22 rfl w.heap.size 3 i0 Try.underlying22 hi0 hz0 hz1 hz2 A' (some ⟨w1.heap.size, 0, none⟩) c' 1 1 (w1.heap.size + 1) k (k + 1) ((sizesL xs fs).take k) [x.s] rfl rfl (HO1.out.alloc _) HTL.out rfl (src_new w1 hsx) (by omega) (by simp; omega) ?_; intro A2 c2 w4 HO2 HG2; have hb4 := below_app (HB1.out.alloc hs1 _) HG2 (HO1.out.alloc _) HTL.out (by simp; omega); have HO4 := Lib.hid HO2; have HB4 := Lib.hid hb4; clear HO2 HG2 hb4))
        go_roundw
        case rel => exact ⟨k + 1, A2, c2, by omega, by go_num, rfl, by unfold Hid; rw [szL_take HKM.out, HZ.out]; exact HO4.out, HB4⟩
        case measure => simp [intOf]; omega
      · have e1 : (x.k != 4) = true := by simpa using h4
        have hz := szAt_plain HF.out HX.out h4
        rw [hxd, hj, hbk] at hz
        by_cases hb0 : 0 < bk
        · rw [if_pos hb0] at hz
          obtain ⟨q, hq⟩ : ∃ q, v.tdiv bk = q := ⟨_, rfl⟩
          have hq0 : 0 ≤ q ∧ q ≤ v := by rw [← hq]; exact ⟨Int.tdiv_nonneg hv0 (by omega), Int.tdiv_le_self _ hv0⟩
          have hqr : -9223372036854775808 ≤ q ∧ q ≤ 9223372036854775807 := ⟨by omega, by omega⟩
          have hqw : IntKind.i64.wrap (v.tdiv bk) = q := by
            rw [hq]
            have h := IntWalk.wrap64_in q ⟨by omega, by omega⟩
            first | exact h | (rw [wrap_eq]; exact h)
          have et : (bk == 0) = false := by simp; omega
          have HZ : Hid (szAt xs fs k = q) := hz.trans hq
          have e2 : decide (0 < bk) = true := by simpa using hb0
          have hb9 : 1 ≤ bk := hb0
          clear h4 hj hxd htl hz hb0 hq hq0 hbr hv0
          go_wp2_with (first | (go_at_call 75; refine (HBk _ (Below.refl _ _)).mono ?_; rintro e w3 ⟨rfl, hb3⟩; have HO3 := Lib.hid (HO1.out.below hb3 (Nat.le_refl _)); have HB3 := Lib.hid (HB1.out.trans (hb3.mono hs1)); have hs3 := HB3.out.size; clear hb3) | (at_builtin; refine wpList_appendInts _ rfl (.tmp 35) (.tmp 37) 22 rfl w.heap.size 3 i0 Try.underlying22 hi0 hz0 hz1 hz2 A' (some ⟨w3.heap.size, 0, none⟩) c' 1 1 (w3.heap.size + 1) k (k + 1) ((sizesL xs fs).take k) [q] rfl rfl (HO3.out.alloc _) HTL.out rfl (src_new w3 hqr) (by omega) (by simp; omega) ?_; intro A2 c2 w4 HO2 HG2; have hb4 := below_app (HB3.out.alloc hs3 _) HG2 (HO3.out.alloc _) HTL.out (by simp; omega); have HO4 := Lib.hid HO2; have HB4 := Lib.hid hb4; clear HO2 HG2 hb4))
          go_roundw
          case rel => exact ⟨k + 1, A2, c2, by omega, by go_num, rfl, by unfold Hid; rw [szL_take HKM.out, HZ.out]; exact HO4.out, HB4⟩
          case measure => simp [intOf]; omega
        · rw [if_neg hb0] at hz
          have HZ : Hid (szAt xs fs k = v) := hz
          have e2 : decide (0 < bk) = false := by simpa using hb0
          have hvr : -9223372036854775808 ≤ v ∧ v ≤ 9223372036854775807 := ⟨v1, v2⟩
          clear h4 hj hxd htl hz hb0 hbr
          go_wp2_with (first | (go_at_call 75; refine (HBk _ (Below.refl _ _)).mono ?_; rintro e w3 ⟨rfl, hb3⟩; have HO3 := Lib.hid (HO1.out.below hb3 (Nat.le_refl _)); have HB3 := Lib.hid (HB1.out.trans (hb3.mono hs1)); have hs3 := HB3.out.size; clear hb3) | (at_builtin; refine wpList_appendInts _ rfl (.tmp 35) (.tmp 37) 22 rfl w.heap.size 3 i0 Try.underlying22 hi0 hz0 hz1 hz2 A' (some ⟨w3.heap.size, 0, none⟩) c' 1 1 (w3.heap.size + 1) k (k + 1) ((sizesL xs fs).take k) [v] rfl rfl (HO3.out.alloc _) HTL.out rfl (src_new w3 hvr) (by omega) (by simp; omega) ?_; intro A2 c2 w4 HO2 HG2; have hb4 := below_app (HB3.out.alloc hs3 _) HG2 (HO3.out.alloc _) HTL.out (by simp; omega); have HO4 := Lib.hid HO2; have HB4 := Lib.hid hb4; clear HO2 HG2 hb4))
          go_roundw
          case rel => exact ⟨k + 1, A2, c2, by omega, by go_num, rfl, by unfold Hid; rw [szL_take HKM.out, HZ.out]; exact HO4.out, HB4⟩
          case measure => simp [intOf]; omega
    · obtain rfl : k = m := by omega
      have HE : Hid ((sizesL xs fs).take k = sizesL xs fs) := List.take_of_length_le (by rw [HSL.out]; omega)
      go_wp2_with fail
      go_ret
      exact ⟨A', c', rfl, by have := HO.out; rw [HE.out] at this; exact this, HB.out⟩
end Go.Proofs.Ytfimnmdcbnfhfaa
