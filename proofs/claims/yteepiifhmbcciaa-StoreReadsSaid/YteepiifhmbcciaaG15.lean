/- append of a whole list of entries; a list laid out, by its keys. -/
import Derived.Test.YteepiifhmbcciaaG14
import Derived.Test.YteepiifhmbcciaaG3
import Derived.Test.YteepiifhmbcciaaG13
import Derived.Test.YteepiifhmbcciaaG7
namespace Go.Proofs.Yteepiifhmbcciaa
open Go.RowKit

theorem Ents.cells_ {w : World} {B n : Nat} {ad : Addr} {es : List Ent} (h : Ents w B (some ad) n es) : ∀ (j : Nat) (u : Value), (cellsE es)[j]? = some u → w.cell? (ad.add j) = some u := h.cells
theorem run_appendNilE (w : World) (base : Nat) (ty : TypeId) (v : Value) (n : Nat) (xs : List Value) (hown : w.ownsRow base 53 2 v n xs) (c : Nat) :
    (Builtin.append_ #[34, 34] ty #[v, .slice none 0 c]).run Try.prog w = .ok v w := by
  obtain ⟨i, hi, hz, h1, h2⟩ := info_parts infoEnt
  have ht := Try.underlying34
  rcases hown.2 with ⟨rfl, rfl⟩ | ⟨g, cap, cur, rfl, _, _, hnc, _⟩ <;> simp [Builtin.append_, run_underlying ht, sizeOf, typeInfo, Builtin.lenOf, Builtin.firstCells, *, storeCells]
theorem run_appendEnts (w : World) (base : Nat) (ty : TypeId) (A A2 : Option Addr) (c m c2 B : Nat) (xs ys : List Ent) (ho : OwnE w base A c xs) (hs : Ents w B A2 m ys) (hl : xs.length + m ≤ 1000000) (hb : base ≤ w.heap.size) :
    ∃ A' c' w', (Builtin.append_ #[34, 34] ty #[.slice A xs.length c, .slice A2 m c2]).run Try.prog w = .ok (.slice A' (xs.length + m) c') w' ∧ OwnE w' base A' c' (xs ++ ys) ∧ w.grownBy w' (Value.slice A xs.length c).ownBlock := by
  obtain ⟨i, hi, hz, h1, h2⟩ := info_parts infoEnt
  have hlen := hs.1
  rcases Option.eq_none_or_eq_some A2 with rfl | ⟨ad, rfl⟩
  · obtain rfl : m = 0 := by
      rcases Nat.eq_zero_or_pos m with h0 | h0
      · exact h0
      · obtain ⟨b, off, e', _⟩ := hs.2.2 h0; cases e'
    obtain rfl : ys = [] := List.eq_nil_of_length_eq_zero hlen
    have hrun := run_appendNilE w base ty (.slice A xs.length c) xs.length (cellsE xs) ho c2
    exact ⟨A, c, w, by simpa using hrun, by simpa using ho, World.grownBy.refl w _⟩
  · obtain ⟨v', w', hr, h3, h4, _⟩ := run_append_own (P := Try.prog) w base 34 ty 53 i (.agg #[.slice none 0 0, .int .i64 0]) 2 32 Try.underlying34 hi hz h1 h2 rfl (by decide) (.slice A xs.length c) xs.length (cellsE xs) ho ad m c2 (cellsE ys) (by rw [cellsE_length, hlen]; omega) hs.cells_ (cellsE_one ys) (by unfold maxLen; omega) (by omega) hb
    obtain ⟨A', c', rfl⟩ := rowE_form h3
    refine ⟨A', c', w', hr, ?_, h4⟩
    unfold OwnE
    rw [List.length_append, hlen, cellsE_append]
    exact h3
theorem step_appendEnts {ops : Array Oper} {o : Oper} {a : Act} {w : World} {K : Act → World → Prop} {Q : Exit → Act → World → Prop} {E : Prop}
    (hg : o.guard = none) (s x : Operand) (hop : o.op = Op.call { callee := Callee.builtin Builtin.append, args := #[s, x], argTypes := #[34, 34] })
    (base : Nat) (A A2 : Option Addr) (c m c2 B p r : Nat) (xs ys : List Ent) (hs : a.eval s = .slice A p c) (hx : a.eval x = .slice A2 m c2) (ho : OwnE w base A c xs) (hp : xs.length = p) (hr : p + m = r) (hi2 : Ents w B A2 m ys) (hl : r ≤ 1000000) (hb : base ≤ w.heap.size)
    (hK : ∀ A' c' w', OwnE w' base A' c' (xs ++ ys) → w.grownBy w' (Value.slice A p c).ownBlock → K (a.put o.dst (.slice A' r c')) w') :
    if Region.wanted o (yielded ops a.tmps) = true then Oper.wp Try.prog o a w K Q else E := by
  have hw : Region.wanted o (yielded ops a.tmps) = true := by simp [Region.wanted, hg]
  rw [if_pos hw]
  subst hp
  subst hr
  obtain ⟨A', c', w', hrun, ho', hb'⟩ := run_appendEnts w base o.type A A2 c m c2 B xs ys ho hi2 hl hb
  unfold Oper.wp
  simp [execOp, hop, resolve, invoke, builtin, hs, hx, hrun, Result.andThen]
  exact hK _ _ _ ho' hb'

/-- a list laid out, as its keys tell -/
def denseK (xs : List Int) (K : List KeyT) : List Int := (List.range (laidF xs).1.toNat).map fun j => wrap64 (totP (fun p => decide ((numR xs p).toNat = j)) K)
theorem sumAt_keys (xs : List Int) (j : Nat) (pre es : List Ent) : sumAt (goesE xs (pre ++ es)) j pre.length (es.map (·.v)) = totP (fun p => decide ((numR xs p).toNat = j)) (es.map keyE) := by
  induction es generalizing pre with
  | nil => rfl
  | cons x es ih =>
    have h := ih (pre ++ [x])
    rw [List.append_assoc, List.length_append] at h
    have hg : goesE xs (pre ++ x :: es) pre.length = (numR xs x.cs).toNat := by
      unfold goesE
      rw [List.getElem?_append_right (Nat.le_refl _), Nat.sub_self]
      rfl
    simp only [List.map_cons, sumAt, totP, hg]
    simp only [List.cons_append, List.nil_append, List.length_cons, List.length_nil, Nat.zero_add] at h
    rw [h]
    by_cases hq : (numR xs x.cs).toNat = j <;> simp [keyE, hq]
theorem denseV_keys (xs : List Int) (es : List Ent) : denseV xs es = denseK xs (es.map keyE) := by
  unfold denseV denseK scat
  apply List.map_congr_left
  intro j _
  have := sumAt_keys xs j [] es
  rw [List.nil_append, List.length_nil] at this
  rw [this]
theorem denseK_congr {xs : List Int} {K L : List KeyT} (h : ∀ P, wrap64 (totP P K) = wrap64 (totP P L)) : denseK xs K = denseK xs L := by
  unfold denseK
  exact List.map_congr_left fun j _ => h _
theorem denseK_perm {xs : List Int} {K L : List KeyT} (h : K.Perm L) : denseK xs K = denseK xs L := denseK_congr fun P => by rw [totP_perm P h]
theorem denseK_join (xs : List Int) (K : List KeyT) : denseK xs (joinK K) = denseK xs K := denseK_congr fun P => joinK_tot P K
theorem totP_nz (P : List Int → Bool) (K : List KeyT) : totP P (K.filter nzK) = totP P K := by
  induction K with
  | nil => rfl
  | cons t K ih =>
    rw [List.filter_cons]
    by_cases h : t.2.1 = 0
    · rw [if_neg (by unfold nzK; simp [h])]
      simp only [totP, h, ih]
      split <;> omega
    · rw [if_pos (by unfold nzK; simp [h])]
      simp only [totP, ih]
theorem denseK_nz (xs : List Int) (K : List KeyT) : denseK xs (K.filter nzK) = denseK xs K := denseK_congr fun P => by rw [totP_nz]
theorem denseK_append (xs : List Int) (K L : List KeyT) : denseK xs (K ++ L) = addL (denseK xs K) (denseK xs L) := by
  unfold denseK addL
  rw [List.zipWith_map, List.zipWith_self]
  apply List.map_congr_left
  intro j _
  rw [totP_append, wrap_add_l, wrap_add_r]
theorem denseK_length (xs : List Int) (K : List KeyT) : (denseK xs K).length = (laidF xs).1.toNat := by unfold denseK; simp

/-- a tensor that is laid out, as it is read -/
def DenV (w : World) (A : Option Addr) (n : Nat) (B : Option Addr) (m : Nat) (xs ys : List Int) : Prop := Ints w w.heap.size A n xs ∧ Ints w w.heap.size B m ys
theorem DenV.below {w w' : World} {A B : Option Addr} {n m : Nat} {xs ys : List Int} (h : DenV w A n B m xs ys) (hb : Below w.heap.size w w') : DenV w' A n B m xs ys := ⟨(h.1.below hb).more hb.size, (h.2.below hb).more hb.size⟩
/-- the error of a list that is laid out -/
def denE (xs : List Int) (es : List Ent) : Int := if cooF xs es = 0 then (laidF xs).2 else cooF xs es
theorem denV_ok (A B : Option Addr) (n c m e : Nat) (xs : List Int) (es : List Ent) (w : World) (h : CooV w A n B m xs es) (hm : m ≤ 9223372036854775807) (hE : denE xs es = 0) :
    Calls Try.prog 40 #[.agg #[.slice A n c, .slice B m e]] w fun x w' => ∃ A1 c1 A2 M c2, x = .returned (.tuple #[.agg #[.slice A1 n c1, .slice A2 M c2], .int .i64 0]) ∧ DenV w' A1 n A2 M xs (denseK xs (es.map keyE)) ∧ M ≤ 65536 ∧ checkF xs M = 0 ∧ Below w.heap.size w w' := by
  unfold denE at hE
  by_cases h0 : cooF xs es = 0
  · rw [if_pos h0] at hE
    refine (cooDense_ok A B n c m e xs es w h.1 h.2 hm h0 hE).mono ?_
    rintro x w' ⟨A1, c1, A2, c2, rfl, h1, h2, hb⟩
    have hi1 := h1.ints
    rw [h.1.1] at hi1
    have hi2 := h2.ints
    rw [denseV_keys] at hi2
    have hlen : (denseK xs (es.map keyE)).length = (laidF xs).1.toNat := denseK_length _ _
    have hla := laidF_ok hE
    have hnn := laidF_nonneg (xs := xs)
    refine ⟨A1, c1, A2, _, c2, by rw [denseV_keys], ⟨hi1, hi2⟩, ?_, ?_, hb⟩
    · rw [hlen]; omega
    · unfold checkF
      rw [if_pos hE, if_pos (by rw [hlen]; omega)]
  · rw [if_neg h0] at hE; exact absurd hE h0
theorem denV_bad (A B : Option Addr) (n c m e : Nat) (xs : List Int) (es : List Ent) (w : World) (h : CooV w A n B m xs es) (hn : n ≤ 9223372036854775807) (hm : m ≤ 9223372036854775807) (E : Int) (hE : Hid (denE xs es = E)) (hne : E ≠ 0) :
    Calls Try.prog 40 #[.agg #[.slice A n c, .slice B m e]] w fun x w' => x = .returned (.tuple #[.agg #[.slice none 0 0, .slice none 0 0], .int .i64 E]) ∧ Below w.heap.size w w' := by
  have hE' := hE.out
  unfold denE at hE'
  by_cases h0 : cooF xs es = 0
  · rw [if_pos h0] at hE'
    exact cooDense_large A B n c m e xs es E w h.1 hn h.2 hm h0 hE' hne
  · rw [if_neg h0] at hE'
    exact cooDense_err A B n c m e xs es E w h.1 hn h.2 hm hE' hne
end Go.Proofs.Yteepiifhmbcciaa
/- store.Dense: a stored tensor laid out. -/
namespace Go.Proofs.Yteepiifhmbcciaa
open Go.RowKit

/-- each number's place is in the shape -/
theorem tok_inside {xs : List Int} {fs : List Sp} {ls : List Lv} (hT : Tok xs fs ls) {n : Nat} (hn : n < ahN ls ls.length) : insideF xs (cN xs.length fs ls ls.length n) = true := by
  have hi := invC_node hT ls.length (Nat.le_refl _) n hn
  have hl : (cN xs.length fs ls ls.length n).length = xs.length := cN_length _ _ _ _ _
  have hlf : fs.take ls.length = fs := List.take_of_length_le (by have := hT.of.1; omega)
  unfold insideF
  rw [decide_eq_true hl, Bool.true_and, Bool.not_eq_true', List.any_eq_false]
  intro p hp
  obtain ⟨k, hk⟩ := List.mem_iff_getElem?.1 hp
  rw [List.getElem?_zip_eq_some] at hk
  have hkl := (List.getElem?_eq_some_iff.1 hk.2).1
  have h1 := hi.in_ k hkl (by rw [hlf]; exact hT.form.2 k hkl)
  rw [getD_of hk.1, getD_of hk.2] at h1
  unfold badAt
  simp
  omega
/-- Dense's error, and what it lays out -/
noncomputable def stDenE (t : Ten) : Int := if tenE t ≠ 0 then tenE t else (laidF t.xs).2
noncomputable def stDenV (t : Ten) : List Int := denseK t.xs (entK t t.vn)
def StDenPost (w : World) (t : Ten) (e : Ending) (w' : World) : Prop :=
  Below w.heap.size w w' ∧ ((stDenE t ≠ 0 ∧ e = .returned (.tuple #[.agg #[.slice none 0 0, .slice none 0 0], .int .i64 (stDenE t)])) ∨ (stDenE t = 0 ∧ ∃ (A1 : Option Addr) (c1 : Nat) (A2 : Option Addr) (c2 : Nat), e = .returned (.tuple #[.agg #[.slice A1 t.n c1, .slice A2 (stDenV t).length c2], .int .i64 0]) ∧ OwnI w' w.heap.size 3 A1 c1 t.xs ∧ OwnI w' w.heap.size 2 A2 c2 (stDenV t)))
theorem key_cs {Ts : List Ent} {t : Ten} {q : Nat} (h : Ts.map keyE = entK t q) : ∀ x ∈ Ts, ∃ n, n < q ∧ x.cs = cN t.n t.fs t.ls t.ln n := by
  intro x hx
  have h1 : keyE x ∈ Ts.map keyE := List.mem_map_of_mem hx
  rw [h] at h1
  unfold entK at h1
  obtain ⟨n, hn, he⟩ := List.mem_map.1 h1
  exact ⟨n, List.mem_range.1 hn, (congrArg (fun q => q.1) he).symm⟩
theorem cooF_tok {t : Ten} {Ts : List Ent} (hT : Tok t.xs t.fs t.ls) (hn : t.xs.length = t.n) (hl : t.ls.length = t.ln) (hv : t.vn = ahN t.ls t.ln) (hv2 : t.vn ≤ 65536) (h : Ts.map keyE = entK t t.vn) : cooF t.xs Ts = 0 := by
  have hTl : Ts.length = t.vn := by have := congrArg List.length h; rw [List.length_map, entK_length] at this; exact this
  unfold cooF
  rw [if_pos hT.cells, if_neg (by omega), if_pos]
  rw [List.all_eq_true]
  intro x hx
  obtain ⟨n, h1, h2⟩ := key_cs h x hx
  rw [h2]
  have := tok_inside hT (n := n) (by rw [hl, ← hv]; exact h1)
  rwa [hn, hl] at this
set_option maxRecDepth 100000 in
set_option maxHeartbeats 4000000 in
theorem stDense_any (t : Ten) (w : World) (ht : t.In w w.heap.size) (hv : t.vn ≤ 65536) : Calls Try.prog 13 #[t.val] w (StDenPost w t) := by
  have z0 := lvBelow w t.obj
  have z1 := z0.alloc z0.size (.cells #[.slice none 0 0, .slice none 0 0] 40)
  have HR := stRead_any t ((w.alloc t.obj).alloc (.cells #[.slice none 0 0, .slice none 0 0] 40)) (ht.on z1)
  have b1 := zf_two w t.obj (.cells #[.slice none 0 0, .slice none 0 0] 40)
  have b2 := zf_snd w (.cells #[.slice none 0 0, .slice none 0 0] 40) t.obj
  obtain ⟨k0, k1, k2, k3, _⟩ := lvCells b1
  have HT := Lib.hid ht
  clear ht
  go_enter Try.func13, Try.ntmps13
  go_wp2_with fail
  refine HR.mono ?_
  rintro e w1 ⟨hb1, hh⟩
  have HB := Lib.hid (z1.trans (hb1.mono z1.size))
  have hs1 : w.heap.size + 2 ≤ w1.heap.size := by have := hb1.size; simp at this; omega
  have HBR := Lib.hid ((hb1.block (w.heap.size + 1) (by simp)).trans b2)
  clear k0 k1 k2 k3
  rcases hh with ⟨hE, rfl⟩ | ⟨hE, A1, c1, A3, c3, Ts, rfl, hA1, hA3, hP, hK⟩
  · obtain ⟨E, hEE⟩ : ∃ E, tenE t = E := ⟨_, rfl⟩
    rw [hEE] at hE ⊢
    have HE : Hid (stDenE t = E ∧ E ≠ 0) := ⟨by unfold stDenE; rw [hEE, if_pos hE], hE⟩
    have e1 : (E != 0) = true := by simpa using hE
    obtain ⟨W2, hW2⟩ : ∃ W, w1.alloc (.cells #[.slice none 0 0, .slice none 0 0] 36) = W := ⟨_, rfl⟩
    have hal : Below w1.heap.size w1 W2 := by rw [← hW2]; exact (Below.refl _ _).alloc (Nat.le_refl _) _
    have HBR2 := Lib.hid (keep_b hal HBR.out)
    have HB2 := Lib.hid (HB.out.trans (hal.mono HB.out.size))
    have HW2 := Lib.hid hW2
    obtain ⟨r0, r1, rf0, rf1⟩ := pair_cells HBR2.out
    clear hEE hE hb1 b1 b2 z0 z1 HR hal hW2
    go_upto_region 2 with fail
    rw [HW2.out]
    go_wp2_with fail
    have hres := set_two W2 (w.heap.size + 1) _ _ (.slice none 0 0) (.slice none 0 0) _ HBR2.out
    obtain ⟨s0, s1, _, _⟩ := pair_cells hres.1
    obtain ⟨wz, hwz⟩ : ∃ wz, (W2.setCell ⟨w.heap.size + 1, 0, none⟩ (.slice none 0 0)).setCell ⟨w.heap.size + 1, 1, none⟩ (.slice none 0 0) = wz := ⟨_, rfl⟩
    rw [hwz] at hres s0 s1 ⊢
    exact bodyPost_ret (v := .tuple #[.agg #[.slice none 0 0, .slice none 0 0], .int .i64 E]) (by simp [results, Try.results13, go_sem, s0, s1]) rfl ⟨HB2.out.grown hres.2 HB2.out.size (fun k hk => by injection hk with hk; omega), .inl ⟨by rw [HE.out.1]; exact HE.out.2, by rw [HE.out.1]⟩⟩
  · have hT := tenE_tok hE HT.out.lvs.1
    have hsm := tenE_small hE
    have hck := cooF_tok hT HT.out.shape.1 HT.out.lvs.1 hsm.2.2.2.1 hv hK
    have hTl : Ts.length = t.vn := by have := congrArg List.length hK; rw [List.length_map, entK_length] at this; exact this
    obtain ⟨W2, hW2⟩ : ∃ W, w1.alloc (.cells #[.slice A1 t.n c1, .slice A3 t.vn c3] 36) = W := ⟨_, rfl⟩
    have hal : Below w1.heap.size w1 W2 := by rw [← hW2]; exact (Below.refl _ _).alloc (Nat.le_refl _) _
    have HBR2 := Lib.hid (keep_b hal HBR.out)
    have HB2 := Lib.hid (HB.out.trans (hal.mono HB.out.size))
    have hx2 : W2.heap[w1.heap.size]? = some (.cells #[.slice A1 t.n c1, .slice A3 t.vn c3] 36 (0, 0)) := by rw [← hW2]; exact heap_alloc_new _ _
    obtain ⟨x0, x1, _, _⟩ := pair_cells hx2
    have hi := (hA1.below hal (Nat.le_refl _)).ints
    rw [HT.out.shape.1] at hi
    have hv3 := ownE_ents (ownE_below hA3 hal) (fun x hx => ⟨(hP x hx).1.below hal (Nat.le_refl _), (hP x hx).2⟩)
    rw [hTl] at hv3
    have HK : Hid (denseV t.xs Ts = stDenV t) := by unfold Hid stDenV; rw [denseV_keys, hK]
    have hs2 : w.heap.size + 1 < W2.heap.size := lt_of_heap HBR2.out
    by_cases hla : (laidF t.xs).2 = 0
    · have HD := cooDense_ok A1 A3 t.n c1 t.vn c3 t.xs Ts W2 hi hv3 (by omega) hck hla
      have HE : Hid (stDenE t = 0) := by unfold Hid stDenE; rw [if_neg (by rw [hE]; simp), hla]
      have HW2 := Lib.hid hW2
      rw [HK.out] at HD
      clear hE hb1 b1 b2 z0 z1 HR hal hW2 hi hv3 hA1 hA3 hP hK hT hsm hck hTl hla
      go_upto_region 4 with fail
      rw [HW2.out]
      go_wp2_with fail
      refine HD.mono ?_
      rintro x w5 ⟨A4, c4, A5, c5, rfl, h1, h2, hb5⟩
      have HBR5 := Lib.hid (keep_b hb5 HBR2.out)
      have HB5 := Lib.hid (HB2.out.trans (hb5.mono HB2.out.size))
      obtain ⟨r0, r1, rf0, rf1⟩ := pair_cells HBR5.out
      have HO1 := Lib.hid h1
      have HO2 := Lib.hid h2
      obtain ⟨M, hM⟩ : ∃ M, (stDenV t).length = M := ⟨_, rfl⟩
      rw [hM]
      have HM := Lib.hid hM
      have hzz := HB2.out.size
      clear hb5 h1 h2 HD hM
      go_wp2_with fail
      have hres := set_two w5 (w.heap.size + 1) _ _ (.slice A4 t.n c4) (.slice A5 M c5) _ HBR5.out
      obtain ⟨s0, s1, _, _⟩ := pair_cells hres.1
      obtain ⟨wz, hwz⟩ : ∃ wz, (w5.setCell ⟨w.heap.size + 1, 0, none⟩ (.slice A4 t.n c4)).setCell ⟨w.heap.size + 1, 1, none⟩ (.slice A5 M c5) = wz := ⟨_, rfl⟩
      rw [hwz] at hres s0 s1 ⊢
      refine bodyPost_ret (v := .tuple #[.agg #[.slice A4 t.n c4, .slice A5 M c5], .int .i64 0]) (by simp [results, Try.results13, go_sem, s0, s1]) rfl ⟨HB5.out.grown hres.2 HB5.out.size (fun k hk => by injection hk with hk; omega), .inr ⟨HE.out, A4, c4, A5, c5, by rw [HM.out], ?_, ?_⟩⟩
      · exact OwnI.mono (w := wz) (base := W2.heap.size) ⟨HO1.out.1.kept hres.2 (rows_ne HO1.out.1 HBR5.out (by decide)), HO1.out.2⟩ hzz
      · exact OwnI.mono (w := wz) (base := W2.heap.size) ⟨HO2.out.1.kept hres.2 (rows_ne HO2.out.1 HBR5.out (by decide)), HO2.out.2⟩ hzz
    · obtain ⟨E, hEE⟩ : ∃ E, (laidF t.xs).2 = E := ⟨_, rfl⟩
      rw [hEE] at hla
      have HD := cooDense_large A1 A3 t.n c1 t.vn c3 t.xs Ts E W2 hi (by have := HT.out.n1; omega) hv3 (by omega) hck hEE hla
      have HE : Hid (stDenE t = E ∧ E ≠ 0) := ⟨by unfold stDenE; rw [if_neg (by rw [hE]; simp), hEE], hla⟩
      have HW2 := Lib.hid hW2
      clear hE hb1 b1 b2 z0 z1 HR hal hW2 hi hv3 hA1 hA3 hP hK hT hsm hck hTl hla hEE
      go_upto_region 4 with fail
      rw [HW2.out]
      go_wp2_with fail
      refine HD.mono ?_
      rintro x w5 ⟨rfl, hb5⟩
      have HBR5 := Lib.hid (keep_b hb5 HBR2.out)
      have HB5 := Lib.hid (HB2.out.trans (hb5.mono HB2.out.size))
      obtain ⟨r0, r1, rf0, rf1⟩ := pair_cells HBR5.out
      clear hb5 HD
      go_wp2_with fail
      have hres := set_two w5 (w.heap.size + 1) _ _ (.slice none 0 0) (.slice none 0 0) _ HBR5.out
      obtain ⟨s0, s1, _, _⟩ := pair_cells hres.1
      obtain ⟨wz, hwz⟩ : ∃ wz, (w5.setCell ⟨w.heap.size + 1, 0, none⟩ (.slice none 0 0)).setCell ⟨w.heap.size + 1, 1, none⟩ (.slice none 0 0) = wz := ⟨_, rfl⟩
      rw [hwz] at hres s0 s1 ⊢
      exact bodyPost_ret (v := .tuple #[.agg #[.slice none 0 0, .slice none 0 0], .int .i64 E]) (by simp [results, Try.results13, go_sem, s0, s1]) rfl ⟨HB5.out.grown hres.2 HB5.out.size (fun k hk => by injection hk with hk; omega), .inl ⟨by rw [HE.out.1]; exact HE.out.2, by rw [HE.out.1]⟩⟩
end Go.Proofs.Yteepiifhmbcciaa
/- No two numbers of a stored tensor are at one place: from a place back to the levels' places, and from these back to the number. Plain mathematics. -/
namespace Go.Proofs.Yteepiifhmbcciaa
open Go.RowKit

/-- the places of the levels on the way to node n of level k -/
noncomputable def pathN (ls : List Lv) : Nat → Nat → List Int
  | 0, _ => []
  | k + 1, n => match ls[k]? with
    | some l => pathN ls k (parN l (ahN ls k) n) ++ [atN l.k l.s l.ys n]
    | none => []
theorem pathN_succ {ls : List Lv} {k : Nat} {l : Lv} (hl : ls[k]? = some l) (n : Nat) : pathN ls (k + 1) n = pathN ls k (parN l (ahN ls k) n) ++ [atN l.k l.s l.ys n] := by rw [pathN, hl]
theorem pathN_length {ls : List Lv} {k : Nat} (hk : k ≤ ls.length) (n : Nat) : (pathN ls k n).length = k := by
  induction k generalizing n with
  | zero => rfl
  | succ k ih =>
    obtain ⟨l, hl⟩ : ∃ l, ls[k]? = some l := ⟨_, List.getElem?_eq_getElem (by omega)⟩
    rw [pathN_succ hl, List.length_append, ih (by omega)]
    rfl
/-- the place that level k has at a place of the shape -/
noncomputable def atK (fs : List Sp) (ls : List Lv) (c : List Int) (k : Nat) : Int := match fs[k]?, ls[k]? with
  | some f, some l => c.getD f.m.toNat 0 / stAt fs k % l.s
  | _, _ => 0
theorem atK_eq {fs : List Sp} {ls : List Lv} {k : Nat} {f : Sp} {l : Lv} (hf : fs[k]? = some f) (hl : ls[k]? = some l) (c : List Int) : atK fs ls c k = c.getD f.m.toNat 0 / stAt fs k % l.s := by unfold atK; rw [hf, hl]
theorem div_blk {q b d : Int} (h0 : 0 ≤ d) (h1 : d < b) : (q * b + d) / b = q := by
  rw [Int.add_comm, Int.add_mul_ediv_right _ _ (by omega), Int.ediv_eq_zero_of_lt h0 h1, Int.zero_add]
theorem mod_blk {q b d : Int} (h0 : 0 ≤ d) (h1 : d < b) : (q * b + d) % b = d := by
  rw [Int.add_comm, Int.add_mul_emod_self_right, Int.emod_eq_of_lt h0 h1]
theorem mul_div_blk {q b : Int} (h : 1 ≤ b) : q * b / b = q := Int.mul_ediv_cancel _ (by omega)
section
variable {xs : List Int} {fs : List Sp} {ls : List Lv}
theorem Tok.blockSize (h : Tok xs fs ls) {k : Nat} {l : Lv} {f : Sp} (hl : ls[k]? = some l) (hf : fs[k]? = some f) (h4 : f.k = 4) : l.s = bsz fs f.m := by
  have h1 := h.szStep hl hf
  have h2 := stAt_eq h.form hf
  rw [if_pos h4] at h1 h2
  rw [h2, Int.mul_one] at h1
  exact h1
/-- the levels' places are what a number's place says -/
theorem Tok.path_at (h : Tok xs fs ls) (k : Nat) (hk : k ≤ ls.length) : ∀ n, n < ahN ls k → ∀ j, j < k → (pathN ls k n)[j]? = some (atK fs ls (cN xs.length fs ls k n) j) := by
  induction k with
  | zero => intro n _ j hj; omega
  | succ k ih =>
    intro n hn j hj
    obtain ⟨l, hl⟩ : ∃ l, ls[k]? = some l := ⟨_, List.getElem?_eq_getElem (by omega)⟩
    obtain ⟨f, hf⟩ := h.spec hl
    rw [ahN_succ hl] at hn
    have hp := (parN_spec (h.lok hl) hn).1
    have hc := invC_node h k (by omega) _ hp
    obtain ⟨r1, r2, r3, r4, r5, r6⟩ := h.range hl hf hn hc
    have hpl := (h.lok hl).place n hn
    have hlen := pathN_length (ls := ls) (k := k) (by omega) (parN l (ahN ls k) n)
    obtain ⟨m, hm, hm2⟩ := h.mode hf
    rw [pathN_succ hl, cN_succ hl hf]
    obtain ⟨c, hcd⟩ : ∃ c, cN xs.length fs ls k (parN l (ahN ls k) n) = c := ⟨_, rfl⟩
    rw [hcd] at hc r2 r3 r5 r6 ⊢
    generalize atN l.k l.s l.ys n = a at *
    have hcl := hc.len
    by_cases e : j = k
    · subst e
      rw [List.getElem?_append_right (by omega), hlen, Nat.sub_self, atK_eq hf hl, stepC_same _ (by rw [hm, Int.toNat_natCast]; omega)]
      by_cases h4 : f.k = 4
      · obtain ⟨hst, hb, q, hq, hcq⟩ := r5 h4
        rw [hst, hcq, h.blockSize hl hf h4, Int.mul_one, Int.ediv_one, mod_blk hpl.1 hb]
        rfl
      · obtain ⟨hst, hz⟩ := r6 h4
        rw [hz, Int.zero_add, mul_div_blk r4, Int.emod_eq_of_lt hpl.1 hpl.2]
        rfl
    · have hjk : j < k := by omega
      rw [List.getElem?_append_left (by omega), ih (by omega) _ hp j hjk, hcd]
      obtain ⟨g, hg⟩ : ∃ g, fs[j]? = some g := ⟨_, List.getElem?_eq_getElem (by have := (List.getElem?_eq_some_iff.1 hf).1; omega)⟩
      obtain ⟨lj, hlj⟩ := h.level hg
      rw [atK_eq hg hlj, atK_eq hg hlj]
      obtain ⟨m', hm', hm2'⟩ := h.mode hg
      rw [hm', hm, Int.toNat_natCast, Int.toNat_natCast]
      by_cases em : m' = m
      · subst em
        have h4 : f.k = 4 := Classical.byContradiction fun h4 => plain_first h.form hf h4 j g hjk hg (by rw [hm', hm])
        obtain ⟨j0, z, _, hj0, hz, hzm, hz4, hone⟩ := block_first h.form hf h4
        obtain rfl := hone j g hjk hg (by rw [hm', hm])
        rw [hg] at hz; cases hz
        obtain ⟨hst, hb, q, hq, hcq⟩ := r5 h4
        have hsj := stAt_eq h.form hg
        rw [if_neg hz4, hm'] at hsj
        rw [hm, Int.toNat_natCast] at hcq
        rw [hm] at hb
        rw [stepC_same _ (by omega), hcq, hsj, hst, Int.mul_one]
        rw [div_blk hpl.1 hb, mul_div_blk (bsz_pos h.form _)]
      · rw [stepC_other _ em]
/-- a place of the shape is told by its levels' places -/
theorem Tok.place_one (h : Tok xs fs ls) {c c' : List Int} (hl : c.length = xs.length) (hl' : c'.length = xs.length) (hi : ∀ m : Nat, m < xs.length → 0 ≤ c.getD m 0 ∧ c.getD m 0 < xs.getD m 0) (hi' : ∀ m : Nat, m < xs.length → 0 ≤ c'.getD m 0 ∧ c'.getD m 0 < xs.getD m 0)
    (he : ∀ j, j < fs.length → atK fs ls c j = atK fs ls c' j) : c = c' := by
  refine List.ext_getElem? fun m => ?_
  rcases Nat.lt_or_ge m xs.length with hm | hm
  · have key : c.getD m 0 = c'.getD m 0 := by
      have hcnt := h.form.2 m hm
      -- the level of that mode which is no block
      have hpl : ∃ (j : Nat) (g : Sp), fs[j]? = some g ∧ g.m = (m : Int) ∧ g.k ≠ 4 := by
        obtain ⟨j, g, hg, hgm⟩ := cntS_find (fs := fs) (m := m) (by omega)
        by_cases h4 : g.k = 4
        · obtain ⟨j0, z, _, _, hz, hzm, hz4, _⟩ := block_first h.form hg h4
          exact ⟨j0, z, hz, by rw [hzm, hgm], hz4⟩
        · exact ⟨j, g, hg, hgm, h4⟩
      obtain ⟨j, g, hg, hgm, hg4⟩ := hpl
      obtain ⟨lj, hlj⟩ := h.level hg
      have hst := stAt_eq h.form hg
      have hss := h.szStep hlj hg
      rw [if_neg hg4, hgm] at hst hss
      rw [Int.toNat_natCast] at hss
      have hb := bsz_pos h.form (m : Int)
      have e1 := he j (List.getElem?_eq_some_iff.1 hg).1
      rw [atK_eq hg hlj, atK_eq hg hlj, hgm, Int.toNat_natCast, hst] at e1
      obtain ⟨p0, p1⟩ := hi m hm
      obtain ⟨p0', p1'⟩ := hi' m hm
      rw [hst] at hss
      have hd : ∀ a : Int, 0 ≤ a → a < xs.getD m 0 → 0 ≤ a / bsz fs m ∧ a / bsz fs m < lj.s := by
        intro a h0 h1
        refine ⟨Int.ediv_nonneg h0 (by omega), Int.ediv_lt_of_lt_mul (by omega) (by rw [hss]; exact h1)⟩
      obtain ⟨d0, d1⟩ := hd _ p0 p1
      obtain ⟨d0', d1'⟩ := hd _ p0' p1'
      rw [Int.emod_eq_of_lt d0 d1, Int.emod_eq_of_lt d0' d1'] at e1
      -- the rest: by the block's level, or there is none
      have e2 : c.getD m 0 % bsz fs m = c'.getD m 0 % bsz fs m := by
        cases hh : fs.find? (fun s => s.k == 4 && s.m == (m : Int)) with
        | none =>
          have : bsz fs m = 1 := by unfold bsz; rw [hh]
          rw [this, Int.emod_one, Int.emod_one]
        | some y =>
          have hy := List.find?_some hh
          have hym := List.mem_of_find?_eq_some hh
          simp at hy
          obtain ⟨i, hyi⟩ := List.mem_iff_getElem?.1 hym
          obtain ⟨li, hli⟩ := h.level hyi
          have e3 := he i (List.getElem?_eq_some_iff.1 hyi).1
          have hst3 := stAt_eq h.form hyi
          rw [if_pos hy.1] at hst3
          rw [atK_eq hyi hli, atK_eq hyi hli, hst3, Int.ediv_one, Int.ediv_one, h.blockSize hli hyi hy.1, hy.2, Int.toNat_natCast] at e3
          exact e3
      have a1 := Int.mul_ediv_add_emod (c.getD m 0) (bsz fs m)
      have a2 := Int.mul_ediv_add_emod (c'.getD m 0) (bsz fs m)
      rw [e1, e2] at a1
      omega
    rw [List.getD_eq_getElem?_getD, List.getD_eq_getElem?_getD] at key
    rw [List.getElem?_eq_getElem (by omega), List.getElem?_eq_getElem (by omega)] at key ⊢
    simpa using key
  · rw [List.getElem?_eq_none (by omega), List.getElem?_eq_none (by omega)]
/-- one child stands at one place -/
theorem child_one {l : Lv} {a p n n' : Nat} (hL : Lok l.k l.s l.xs l.ys a) (h2 : l.k ≠ 2) (hp : p < a) (h1 : offN l.k l.s l.xs p ≤ n) (hnn : n < n') (h3 : n' < offN l.k l.s l.xs (p + 1)) : atN l.k l.s l.ys n < atN l.k l.s l.ys n' := by
  have e1 := hL.sorted hp h1 (show n ≤ n' - 1 by omega) (by omega)
  have e2 := (hL.rise p hp n' (by omega) h3).2 h2
  omega
theorem Tok.path_one (h : Tok xs fs ls) (k : Nat) (hk : k ≤ ls.length) (hno : ∀ (j : Nat) (l : Lv), j < k → ls[j]? = some l → l.k ≠ 2) : ∀ n n', n < ahN ls k → n' < ahN ls k → pathN ls k n = pathN ls k n' → n = n' := by
  induction k with
  | zero => intro n n' hn hn' _; rw [ahN] at hn hn'; omega
  | succ k ih =>
    intro n n' hn hn' e
    obtain ⟨l, hl⟩ : ∃ l, ls[k]? = some l := ⟨_, List.getElem?_eq_getElem (by omega)⟩
    rw [ahN_succ hl] at hn hn'
    rw [pathN_succ hl, pathN_succ hl] at e
    obtain ⟨p1, p2, p3⟩ := parN_spec (h.lok hl) hn
    obtain ⟨q1, q2, q3⟩ := parN_spec (h.lok hl) hn'
    obtain ⟨e1, e2⟩ := List.append_inj e (by rw [pathN_length (by omega), pathN_length (by omega)])
    have ep := ih (by omega) (fun j l' hj hl' => hno j l' (by omega) hl') _ _ p1 q1 e1
    have e2' : atN l.k l.s l.ys n = atN l.k l.s l.ys n' := by injection e2
    have h2 := hno k l (by omega) hl
    rw [← ep] at q2 q3
    rcases Nat.lt_trichotomy n n' with hh | hh | hh
    · have := child_one (h.lok hl) h2 p1 p2 hh q3; omega
    · exact hh
    · have := child_one (h.lok hl) h2 p1 q2 hh p3; omega
theorem aheadB_trans {a b c : Nat} (ls : List Lv) (h1 : aheadB a b ls = true) (h2 : aheadB b c ls = true) : aheadB a c ls = true := by
  induction ls with
  | nil => cases h1
  | cons l r ih =>
    rw [aheadB] at h1 h2 ⊢
    by_cases e1 : l.ys[a]?.getD 0 = l.ys[b]?.getD 0
    · by_cases e2 : l.ys[b]?.getD 0 = l.ys[c]?.getD 0
      · rw [if_pos e1] at h1
        rw [if_pos e2] at h2
        rw [if_pos (by omega)]
        exact ih h1 h2
      · rw [if_neg e2] at h2
        have := of_decide_eq_true h2
        rw [if_neg (by omega)]
        exact decide_eq_true (by omega)
    · rw [if_neg e1] at h1
      have h1' := of_decide_eq_true h1
      by_cases e2 : l.ys[b]?.getD 0 = l.ys[c]?.getD 0
      · rw [if_neg (by omega)]
        exact decide_eq_true (by omega)
      · rw [if_neg e2] at h2
        have := of_decide_eq_true h2
        rw [if_neg (by omega)]
        exact decide_eq_true (by omega)
theorem aheadB_same {a b : Nat} (ls : List Lv) (h : ∀ l ∈ ls, l.ys[a]?.getD 0 = l.ys[b]?.getD 0) : aheadB a b ls = false := by
  induction ls with
  | nil => rfl
  | cons l r ih =>
    rw [aheadB, if_pos (h l (by simp))]
    exact ih fun x hx => h x (by simp [hx])
/-- behind a loose level the places of its children's numbers rise -/
theorem Tok.loose_lt (h : Tok xs fs ls) {kl : Nat} {l : Lv} (hl : ls[kl]? = some l) (h2 : l.k = 2) {p n n' : Nat} (hp : p < ahN ls kl) (h1 : offN l.k l.s l.xs p ≤ n) (hnn : n < n') (h3 : n' < offN l.k l.s l.xs (p + 1)) : aheadB n n' (ls.drop kl) = true := by
  have hL := h.lok hl
  have hpl := hL.posLen (.inr h2)
  have hr := h.rise kl l hl h2 p
  rw [h2] at h1 h3
  obtain ⟨d, rfl⟩ : ∃ d, n' = n + 1 + d := ⟨n' - n - 1, by omega⟩
  induction d with
  | zero => have := hr (n + 1) (by omega) (by omega) h3; exact this
  | succ d ih =>
    have a1 := ih (by omega) (by omega)
    have a2 := hr (n + 1 + (d + 1)) (by omega) (by omega) h3
    rw [show n + 1 + (d + 1) - 1 = n + 1 + d by omega] at a2
    exact aheadB_trans _ a1 a2
theorem Tok.single (h : Tok xs fs ls) {kl : Nat} {l : Lv} (hl : ls[kl]? = some l) (h2 : l.k = 2) {j : Nat} {y : Lv} (hj : kl < j) (hy : ls[j]? = some y) : y.k = 3 := by
  obtain ⟨f, hf⟩ := h.spec hl
  obtain ⟨g, hg⟩ := h.spec hy
  rw [h.kind hy hg]
  refine single_behind h.form hf (by rw [← h.kind hl hf]; exact h2) (j - kl - 1) g ?_
  rw [show kl + 1 + (j - kl - 1) = j by omega]
  exact hg
theorem parN_single {l : Lv} {a n : Nat} (hL : Lok l.k l.s l.xs l.ys a) (h3 : l.k = 3) (hn : n < totN l.k l.s l.ys a) : parN l a n = n := by
  have ha := hL.single h3
  refine parN_eq hL (by omega) ?_ ?_
  · rw [h3]; simp [offN, wholeB]
  · rw [h3]; simp [offN, wholeB]
/-- numbers whose levels' places are the same: one number -/
theorem Tok.paths_loose (h : Tok xs fs ls) {kl : Nat} {l : Lv} (hl : ls[kl]? = some l) (h2 : l.k = 2) (d : Nat) (hd : kl + 1 + d ≤ ls.length) : ∀ q q', q < ahN ls (kl + 1 + d) → q' < ahN ls (kl + 1 + d) → pathN ls (kl + 1 + d) q = pathN ls (kl + 1 + d) q' →
    q < ahN ls (kl + 1) ∧ q' < ahN ls (kl + 1) ∧ pathN ls (kl + 1) q = pathN ls (kl + 1) q' ∧ ∀ (i : Nat) (y : Lv), kl < i → i < kl + 1 + d → ls[i]? = some y → y.ys[q]?.getD 0 = y.ys[q']?.getD 0 := by
  induction d with
  | zero => intro q q' hq hq' e; exact ⟨hq, hq', e, fun i y h1 h2 => by omega⟩
  | succ d ih =>
    intro q q' hq hq' e
    obtain ⟨y, hy⟩ : ∃ y, ls[kl + 1 + d]? = some y := ⟨_, List.getElem?_eq_getElem (by omega)⟩
    have h3 := h.single hl h2 (show kl < kl + 1 + d by omega) hy
    have hL := h.lok hy
    rw [show kl + 1 + (d + 1) = (kl + 1 + d) + 1 by omega] at hq hq' e
    rw [ahN_succ hy] at hq hq'
    rw [pathN_succ hy, pathN_succ hy, parN_single hL h3 hq, parN_single hL h3 hq'] at e
    obtain ⟨e1, e2⟩ := List.append_inj e (by rw [pathN_length (by omega), pathN_length (by omega)])
    have e2' : atN y.k y.s y.ys q = atN y.k y.s y.ys q' := by injection e2
    rw [hL.single h3] at hq hq'
    obtain ⟨a1, a2, a3, a4⟩ := ih (by omega) q q' hq hq' e1
    refine ⟨a1, a2, a3, fun i z h1 h4 hz => ?_⟩
    by_cases ei : i = kl + 1 + d
    · subst ei
      rw [hy] at hz; cases hz
      rw [h3] at e2'
      simpa [atN, wholeB] using e2'
    · exact a4 i z h1 (by omega) hz
theorem Tok.path_inj (h : Tok xs fs ls) {q q' : Nat} (hq : q < ahN ls ls.length) (hq' : q' < ahN ls ls.length) (e : pathN ls ls.length q = pathN ls ls.length q') : q = q' := by
  by_cases hno : ∀ (j : Nat) (l : Lv), j < ls.length → ls[j]? = some l → l.k ≠ 2
  · exact h.path_one _ (Nat.le_refl _) hno q q' hq hq' e
  · have : ∃ (j : Nat) (l : Lv), ls[j]? = some l ∧ l.k = 2 := by
      refine Classical.byContradiction fun hh => hno fun j l _ hl h2 => hh ⟨j, l, hl, h2⟩
    obtain ⟨kl, l, hl, h2⟩ := this
    have hkl := (List.getElem?_eq_some_iff.1 hl).1
    obtain ⟨d, hd⟩ : ∃ d, ls.length = kl + 1 + d := ⟨ls.length - kl - 1, by omega⟩
    rw [hd] at hq hq' e
    obtain ⟨a1, a2, a3, a4⟩ := h.paths_loose hl h2 d (by omega) q q' hq hq' e
    rw [ahN_succ hl] at a1 a2
    rw [pathN_succ hl, pathN_succ hl] at a3
    obtain ⟨e1, e2⟩ := List.append_inj a3 (by rw [pathN_length (by omega), pathN_length (by omega)])
    have e2' : atN l.k l.s l.ys q = atN l.k l.s l.ys q' := by injection e2
    obtain ⟨p1, p2, p3⟩ := parN_spec (h.lok hl) a1
    obtain ⟨q1, q2, q3⟩ := parN_spec (h.lok hl) a2
    have hbef : ∀ (j : Nat) (l' : Lv), j < kl → ls[j]? = some l' → l'.k ≠ 2 := by
      intro j l' hj hl' hk
      have := h.single hl' hk hj hl
      omega
    have ep := h.path_one kl (by omega) hbef _ _ p1 q1 e1
    rw [← ep] at q2 q3
    have hs : ∀ y ∈ ls.drop kl, y.ys[q]?.getD 0 = y.ys[q']?.getD 0 := by
      intro y hy
      obtain ⟨i, hi⟩ := List.mem_iff_getElem?.1 hy
      rw [List.getElem?_drop] at hi
      have hil := (List.getElem?_eq_some_iff.1 hi).1
      by_cases h0 : i = 0
      · subst h0
        rw [Nat.add_zero, hl] at hi; cases hi
        rw [h2] at e2'
        simpa [atN, wholeB] using e2'
      · exact a4 (kl + i) y (by omega) (by omega) hi
    rcases Nat.lt_trichotomy q q' with hh | hh | hh
    · have := h.loose_lt hl h2 p1 p2 hh q3
      rw [aheadB_same _ hs] at this
      cases this
    · exact hh
    · have := h.loose_lt hl h2 p1 q2 hh p3
      rw [aheadB_same _ fun y hy => (hs y hy).symm] at this
      cases this
/-- no two numbers are at one place -/
theorem Tok.one (h : Tok xs fs ls) {q q' : Nat} (hq : q < ahN ls ls.length) (hq' : q' < ahN ls ls.length) (e : cN xs.length fs ls ls.length q = cN xs.length fs ls ls.length q') : q = q' := by
  refine h.path_inj hq hq' (List.ext_getElem? fun j => ?_)
  rcases Nat.lt_or_ge j ls.length with hj | hj
  · rw [h.path_at _ (Nat.le_refl _) q hq j hj, h.path_at _ (Nat.le_refl _) q' hq' j hj, e]
  · rw [List.getElem?_eq_none (by rw [pathN_length (Nat.le_refl _)]; exact hj), List.getElem?_eq_none (by rw [pathN_length (Nat.le_refl _)]; exact hj)]
/-- a number whose levels' places are those of a place of the shape is there -/
theorem Tok.there (h : Tok xs fs ls) {q : Nat} (hq : q < ahN ls ls.length) {c : List Int} (hl : c.length = xs.length) (hi : ∀ m : Nat, m < xs.length → 0 ≤ c.getD m 0 ∧ c.getD m 0 < xs.getD m 0) (e : ∀ j, j < ls.length → (pathN ls ls.length q)[j]? = some (atK fs ls c j)) : cN xs.length fs ls ls.length q = c := by
  have hI := invC_node h ls.length (Nat.le_refl _) q hq
  have hlen : fs.length = ls.length := h.of.1.symm
  refine h.place_one hI.len hl (fun m hm => hI.in_ m hm ?_) hi fun j hj => ?_
  · rw [List.take_of_length_le (by omega)]
    exact h.form.2 m hm
  · have h1 := e j (by omega)
    rw [h.path_at _ (Nat.le_refl _) q hq j (by omega)] at h1
    injection h1
/-- the ancestor, d levels up, at level k -/
noncomputable def ancD (ls : List Lv) (k : Nat) : Nat → Nat → Nat
  | 0, q => q
  | d + 1, q => match ls[k]? with
    | some l => parN l (ahN ls k) (ancD ls (k + 1) d q)
    | none => 0
termination_by d => d
theorem ancD_succ {k : Nat} {l : Lv} (hl : ls[k]? = some l) (d q : Nat) : ancD ls k (d + 1) q = parN l (ahN ls k) (ancD ls (k + 1) d q) := by rw [ancD, hl]
theorem Tok.anc_lt (h : Tok xs fs ls) (d : Nat) : ∀ k, k + d ≤ ls.length → ∀ q, q < ahN ls (k + d) → ancD ls k d q < ahN ls k := by
  induction d with
  | zero => intro k _ q hq; rw [ancD]; exact hq
  | succ d ih =>
    intro k hk q hq
    obtain ⟨l, hl⟩ : ∃ l, ls[k]? = some l := ⟨_, List.getElem?_eq_getElem (by omega)⟩
    have := ih (k + 1) (by omega) q (by rw [show k + 1 + d = k + (d + 1) by omega]; exact hq)
    rw [ancD_succ hl]
    rw [ahN_succ hl] at this
    exact (parN_spec (h.lok hl) this).1
theorem path_anc (d : Nat) : ∀ k, k + d ≤ ls.length → ∀ q, ∃ t, pathN ls (k + d) q = pathN ls k (ancD ls k d q) ++ t := by
  induction d with
  | zero => intro k _ q; exact ⟨[], by rw [ancD, List.append_nil, Nat.add_zero]⟩
  | succ d ih =>
    intro k hk q
    obtain ⟨l, hl⟩ : ∃ l, ls[k]? = some l := ⟨_, List.getElem?_eq_getElem (by omega)⟩
    obtain ⟨t, ht⟩ := ih (k + 1) (by omega) q
    rw [show k + 1 + d = k + (d + 1) by omega, pathN_succ hl] at ht
    rw [ancD_succ hl]
    exact ⟨_, by rw [ht, List.append_assoc]⟩
/-- the place of the way at level k -/
theorem path_here {k : Nat} {l : Lv} (hl : ls[k]? = some l) (d : Nat) (hk : k + 1 + d ≤ ls.length) (q : Nat) : (pathN ls (k + 1 + d) q)[k]? = some (atN l.k l.s l.ys (ancD ls (k + 1) d q)) := by
  obtain ⟨t, ht⟩ := path_anc d (k + 1) hk q
  rw [ht, pathN_succ hl, List.append_assoc, List.getElem?_append_right (by rw [pathN_length (by omega)]; exact Nat.le_refl _), pathN_length (by omega), Nat.sub_self]
  rfl
end
end Go.Proofs.Yteepiifhmbcciaa
/- A list of a tensor that is laid out: its keys rise, and are those of the plain list (maths). -/
namespace Go.Proofs.Yteepiifhmbcciaa
open Go.RowKit

/-- places compared from the first mode on -/
def lexC : List Int → List Int → Int
  | x :: a, y :: b => if cmpI x y = 0 then lexC a b else cmpI x y
  | _, _ => 0
theorem cmpE_lex (a b : List Int) : ∀ (m d : Nat), d + m = a.length → d + m = b.length → cmpE ((List.range' d m).map fun (k : Nat) => (k : Int)) a b = lexC (a.drop d) (b.drop d)
  | 0, d, ha, hb => by
    rw [List.drop_of_length_le (by omega), List.drop_of_length_le (by omega)]; rfl
  | m + 1, d, ha, hb => by
    have h1 : d < a.length := by omega
    have h2 : d < b.length := by omega
    rw [List.range'_succ, List.map_cons, List.drop_eq_getElem_cons h1, List.drop_eq_getElem_cons h2]
    have e1 : pickE a (d : Int) = a[d] := by unfold pickE; simp [List.getD, List.getElem?_eq_getElem h1]
    have e2 : pickE b (d : Int) = b[d] := by unfold pickE; simp [List.getD, List.getElem?_eq_getElem h2]
    unfold cmpE lexC
    rw [e1, e2, cmpE_lex a b m (d + 1) (by omega) (by omega)]
theorem cmpE_iota {n : Nat} {a b : List Int} (ha : a.length = n) (hb : b.length = n) : cmpE (iotaL n) a b = lexC a b := by
  have := cmpE_lex a b n 0 (by omega) (by omega)
  rw [List.drop_zero, List.drop_zero] at this
  rw [← this]
  unfold iotaL
  rw [List.range_eq_range']
theorem lexC_lt : ∀ (xs a b : List Int), Inn xs a → Inn xs b → numR xs a < numR xs b → lexC a b < 0
  | [], [], [], _, _, h => absurd h (by simp [numR])
  | s :: l, x :: a, y :: b, ha, hb, h => by
    have h1 := ha.2.2.bound
    have h2 := hb.2.2.bound
    simp only [numR] at h
    unfold lexC
    by_cases hxy : x = y
    · subst hxy
      rw [if_pos (by unfold cmpI; simp)]
      exact lexC_lt l a b ha.2.2 hb.2.2 (by omega)
    · have hlt : x < y := by
        rcases Int.lt_or_gt_of_ne hxy with h3 | h3
        · exact h3
        · exfalso
          have h4 : (y + 1) * prodI l ≤ x * prodI l := Int.mul_le_mul_of_nonneg_right (by omega) (by omega)
          have h5 : (y + 1) * prodI l = y * prodI l + prodI l := by rw [Int.add_mul, Int.one_mul]
          omega
      have e : cmpI x y = -1 := by unfold cmpI; rw [if_pos hlt]
      rw [e, if_neg (by decide)]
      decide

theorem numR_inj : ∀ (xs a b : List Int), Inn xs a → Inn xs b → numR xs a = numR xs b → a = b
  | [], [], [], _, _, _ => rfl
  | s :: l, x :: a, y :: b, ha, hb, h => by
    have h1 := ha.2.2.bound
    have h2 := hb.2.2.bound
    simp only [numR] at h
    have hxy : x = y := by
      rcases Int.lt_trichotomy x y with h3 | h3 | h3
      · have h4 : (x + 1) * prodI l ≤ y * prodI l := Int.mul_le_mul_of_nonneg_right (by omega) (by omega)
        rw [Int.add_mul, Int.one_mul] at h4
        omega
      · exact h3
      · have h4 : (y + 1) * prodI l ≤ x * prodI l := Int.mul_le_mul_of_nonneg_right (by omega) (by omega)
        rw [Int.add_mul, Int.one_mul] at h4
        omega
    subst hxy
    rw [numR_inj l a b ha.2.2 hb.2.2 (by omega)]
/-- the keys of what is laid out, from cell k on -/
def ofK (xs : List Int) : Nat → List Int → List KeyT
  | _, [] => []
  | k, v :: l => if v = 0 then ofK xs (k + 1) l else (placeR xs k, v, xs.length) :: ofK xs (k + 1) l
theorem ofK_mem {xs : List Int} {t : KeyT} : ∀ (k : Nat) (l : List Int), t ∈ ofK xs k l ↔ ∃ i v, l[i]? = some v ∧ v ≠ 0 ∧ t = (placeR xs ((k + i : Nat) : Int), v, xs.length)
  | k, [] => by simp [ofK]
  | k, v :: l => by
    have ih := ofK_mem (xs := xs) (t := t) (k + 1) l
    unfold ofK
    constructor
    · intro h
      by_cases hv : v = 0
      · rw [if_pos hv] at h
        obtain ⟨i, u, h1, h2, h3⟩ := ih.1 h
        exact ⟨i + 1, u, h1, h2, by rw [h3, show k + 1 + i = k + (i + 1) by omega]⟩
      · rw [if_neg hv] at h
        rcases List.mem_cons.1 h with rfl | h
        · exact ⟨0, v, rfl, hv, rfl⟩
        · obtain ⟨i, u, h1, h2, h3⟩ := ih.1 h
          exact ⟨i + 1, u, h1, h2, by rw [h3, show k + 1 + i = k + (i + 1) by omega]⟩
    · rintro ⟨i, u, h1, h2, h3⟩
      cases i with
      | zero =>
        simp at h1
        subst h1
        rw [if_neg h2, h3]
        exact List.mem_cons_self ..
      | succ i =>
        have := ih.2 ⟨i, u, by simpa using h1, h2, by rw [h3, show k + 1 + i = k + (i + 1) by omega]⟩
        split
        · exact this
        · exact List.mem_cons_of_mem _ this
theorem ofK_rise {xs : List Int} (hp : ∀ x ∈ xs, 1 ≤ x) : ∀ (k : Nat) (l : List Int), (k : Int) + l.length ≤ prodI xs → KRise (iotaL xs.length) (ofK xs k l)
  | k, [], _ => List.Pairwise.nil
  | k, v :: l, h => by
    rw [List.length_cons] at h
    have ih := ofK_rise hp (k + 1) l (by omega)
    unfold ofK
    split
    · exact ih
    · refine List.pairwise_cons.2 ⟨fun t ht => ?_, ih⟩
      obtain ⟨i, u, h1, _, rfl⟩ := (ofK_mem _ _).1 ht
      have hi := (List.getElem?_eq_some_iff.1 h1).1
      have n1 := numR_placeR hp (k : Int)
      have n2 := numR_placeR hp ((k + 1 + i : Nat) : Int)
      rw [Int.emod_eq_of_lt (by omega) (by omega)] at n1 n2
      show cmpE (iotaL xs.length) (placeR xs k) (placeR xs ((k + 1 + i : Nat) : Int)) < 0
      rw [cmpE_iota (placeR_length _ _) (placeR_length _ _)]
      exact lexC_lt xs _ _ (placeR_inn hp _) (placeR_inn hp _) (by rw [n1, n2]; omega)
theorem totP_none {P : List Int → Bool} : ∀ {K : List KeyT}, (∀ t ∈ K, P t.1 = false) → totP P K = 0
  | [], _ => rfl
  | t :: K, h => by
    simp only [totP]
    rw [if_neg (by rw [h t (by simp)]; decide), totP_none (fun s hs => h s (by simp [hs]))]
    rfl
theorem totP_same {P Q : List Int → Bool} : ∀ {K : List KeyT}, (∀ t ∈ K, P t.1 = Q t.1) → totP P K = totP Q K
  | [], _ => rfl
  | t :: K, h => by
    simp only [totP]
    rw [h t (by simp), totP_same (fun s hs => h s (by simp [hs]))]
/-- a list laid out and listed again is the plain one -/
theorem of_dense {n : Nat} {xs : List Int} {es : List Ent} (hxl : xs.length = n) (hE : denE xs es = 0) (hk : KeyOk n (es.map keyE)) : ofK xs 0 (denseK xs (es.map keyE)) = (joinK (sortK (iotaL n) (es.map keyE))).filter nzK := by
  unfold denE at hE
  have h0 : cooF xs es = 0 := by
    by_cases h0 : cooF xs es = 0
    · exact h0
    · rw [if_neg h0] at hE; exact absurd hE h0
  rw [if_pos h0] at hE
  obtain ⟨p1, p2, p3⟩ := cooF_parts h0
  have hla := laidF_ok hE
  have hnn := laidF_nonneg (xs := xs)
  have hinn : ∀ t ∈ es.map keyE, Inn xs t.1 := fun t ht => by
    obtain ⟨y, hy, rfl⟩ := List.mem_map.1 ht
    exact inn_of_insideF (p3 y hy)
  have hperm : (iotaL n).Perm (iotaL n) := List.Perm.refl _
  have hlen := denseK_length xs (es.map keyE)
  -- where there is a cell at all, the sizes are 1 or more, and their product is the number of cells
  by_cases hM : (laidF xs).1 = 0
  · have hd : denseK xs (es.map keyE) = [] := List.eq_nil_of_length_eq_zero (by rw [hlen, hM]; rfl)
    have he : es = [] := by
      cases es with
      | nil => rfl
      | cons y t =>
        exfalso
        have hi := hinn (keyE y) (by simp)
        have := hi.bound
        have hpos := cellsF_ok_pos p1 hi.pos
        omega
    rw [hd, he]; rfl
  · have hp := cellsF_nz p1 (by rw [← hla.2]; exact hM)
    have hprod := cellsF_ok_pos p1 hp
    have hr1 := ofK_rise hp 0 (denseK xs (es.map keyE)) (by rw [hlen]; omega)
    rw [hxl] at hr1
    have hks := hk.perm (sortK_perm (iotaL n) _)
    have hr2 := joinK_rise hperm hks (sortK_ord (iotaL n) _)
    refine rise_ext (R := fun x y : KeyT => cmpE (iotaL n) x.1 y.1 < 0) KRise.asym hr1 (hr2.filter _) fun t => ?_
    rw [ofK_mem, List.mem_filter, joined_mem hperm hk]
    have hcell : ∀ (j : Nat) (v : Int), (denseK xs (es.map keyE))[j]? = some v ↔ (j < (laidF xs).1.toNat ∧ wrap64 (totP (fun p => decide ((numR xs p).toNat = j)) (es.map keyE)) = v) := fun j v => by
      unfold denseK
      rw [List.getElem?_map]
      by_cases hj : j < (laidF xs).1.toNat
      · rw [List.getElem?_range hj]; simp [hj]
      · rw [List.getElem?_eq_none (by simp; omega)]; simp [hj]
    have hnum : ∀ s ∈ es.map keyE, ∀ j : Nat, j < (laidF xs).1.toNat → ((numR xs s.1).toNat = j ↔ s.1 = placeR xs (j : Int)) := fun s hs j hj => by
      have hb := (hinn s hs).bound
      have n1 := numR_placeR hp (j : Int)
      rw [Int.emod_eq_of_lt (by omega) (by omega)] at n1
      constructor
      · intro e
        exact numR_inj xs _ _ (hinn s hs) (placeR_inn hp _) (by rw [n1]; omega)
      · intro e; rw [e, n1]; omega
    have hsum : ∀ j : Nat, j < (laidF xs).1.toNat → totP (fun p => decide ((numR xs p).toNat = j)) (es.map keyE) = totP (fun p => decide (p = placeR xs (j : Int))) (es.map keyE) := fun j hj => totP_same fun s hs => by
      show decide ((numR xs s.1).toNat = j) = decide (s.1 = placeR xs (j : Int))
      exact decide_eq_decide.2 (hnum s hs j hj)
    constructor
    · rintro ⟨j, v, h1, h2, rfl⟩
      rw [Nat.zero_add]
      obtain ⟨hj, hv⟩ := (hcell j v).1 h1
      rw [hsum j hj] at hv
      refine ⟨⟨?_, hv.symm, hxl⟩, by unfold nzK; simp [h2]⟩
      rcases Classical.em (∃ s ∈ es.map keyE, s.1 = placeR xs (j : Int)) with h | h
      · exact h
      · exfalso
        rw [totP_none (fun s hs => decide_eq_false fun e => h ⟨s, hs, e⟩), wrap64_zero] at hv
        exact h2 hv.symm
    · rintro ⟨⟨⟨s, hs, e⟩, hv, hn⟩, hz⟩
      obtain ⟨t1, t2, t3⟩ := t
      dsimp only at e hv hn hz
      have hb := (hinn s hs).bound
      have hj : (numR xs s.1).toNat < (laidF xs).1.toNat := by omega
      have hpl := (hnum s hs _ hj).1 rfl
      refine ⟨(numR xs s.1).toNat, t2, (hcell _ _).2 ⟨hj, ?_⟩, by unfold nzK at hz; simpa using hz, ?_⟩
      · rw [hsum _ hj, ← hpl, e, hv]
      · rw [Nat.zero_add, ← hpl, e, hn, hxl]
end Go.Proofs.Yteepiifhmbcciaa
/- The document's place of a number, by definition. -/
namespace Go.Proofs.Yteepiifhmbcciaa
open Go.RowKit

/-- the document's place of a path -/
def docC (r : Nat) (fs : List Sp) (p : List Int) : Nat → List Int
  | 0 => List.replicate r 0
  | k + 1 => match fs[k]?, p[k]? with
    | some f, some d => (docC r fs p k).set f.m.toNat (if f.k = 4 then (docC r fs p k).getD f.m.toNat 0 * f.s + d else d)
    | _, _ => docC r fs p k
theorem docC_succ {r : Nat} {fs : List Sp} {p : List Int} {k : Nat} {f : Sp} {d : Int} (hf : fs[k]? = some f) (hd : p[k]? = some d) : docC r fs p (k + 1) = (docC r fs p k).set f.m.toNat (if f.k = 4 then (docC r fs p k).getD f.m.toNat 0 * f.s + d else d) := by rw [docC, hf, hd]
theorem docC_length (r : Nat) (fs : List Sp) (p : List Int) (k : Nat) : (docC r fs p k).length = r := by
  induction k with
  | zero => simp [docC]
  | succ k ih =>
    rw [docC]
    split
    · rw [List.length_set]; exact ih
    · exact ih
theorem docC_append (r : Nat) (fs : List Sp) (p t : List Int) : ∀ k, k ≤ p.length → docC r fs (p ++ t) k = docC r fs p k
  | 0, _ => rfl
  | k + 1, h => by
    rw [docC, docC, List.getElem?_append_left (by omega), docC_append r fs p t k (by omega)]
theorem getD_set_same {c : List Int} {m : Nat} (v : Int) (h : m < c.length) : (c.set m v).getD m 0 = v := by
  rw [List.getD_eq_getElem?_getD, List.getElem?_set_self h]
  rfl
theorem getD_set_other {c : List Int} {m i : Nat} (v : Int) (h : i ≠ m) : (c.set m v).getD i 0 = c.getD i 0 := by
  rw [List.getD_eq_getElem?_getD, List.getElem?_set_ne (by omega), List.getD_eq_getElem?_getD]
section
variable {xs : List Int} {fs : List Sp} {ls : List Lv}
theorem Tok.doc_step (h : Tok xs fs ls) (k : Nat) (hk : k ≤ ls.length) : ∀ n, n < ahN ls k → ∀ i, i < xs.length → (cN xs.length fs ls k n).getD i 0 = (docC xs.length fs (pathN ls k n) k).getD i 0 * (if cntS (fs.take k) (i : Int) = 1 then bsz fs (i : Int) else 1) := by
  induction k with
  | zero =>
    intro n _ i hi
    rw [cN, docC]
    have : (List.replicate xs.length (0 : Int)).getD i 0 = 0 := by simp [List.getD_eq_getElem?_getD, hi]
    rw [this, Int.zero_mul]
  | succ k ih =>
    intro n hn i hi
    obtain ⟨l, hl⟩ : ∃ l, ls[k]? = some l := ⟨_, List.getElem?_eq_getElem (by omega)⟩
    obtain ⟨f, hf⟩ := h.spec hl
    obtain ⟨m, hm, hm2⟩ := h.mode hf
    have hs := h.form.1 k f hf
    rw [ahN_succ hl] at hn
    have hp := parN_spec (h.lok hl) hn
    have IH := ih (by omega) _ hp.1
    have hc := invC_node h k (by omega) _ hp.1
    have hpl := pathN_length (ls := ls) (k := k) (by omega) (parN l (ahN ls k) n)
    have hcnt : ∀ i : Nat, cntS (fs.take (k + 1)) i = cntS (fs.take k) i + if i = m then 1 else 0 := by
      intro i
      rw [take_succ_of hf, cntS_snoc, hm]
      by_cases e : i = m
      · subst e; simp
      · rw [if_neg (by omega), if_neg e]
    have hst := stAt_eq h.form hf
    have hcl := cN_length xs.length fs ls k (parN l (ahN ls k) n)
    have hdl := docC_length xs.length fs (pathN ls k (parN l (ahN ls k) n)) k
    rw [cN_succ hl hf, pathN_succ hl, docC_succ hf (by rw [List.getElem?_append_right (by omega), hpl, Nat.sub_self]; rfl), docC_append _ _ _ _ k (by omega), hcnt, hst, hm, Int.toNat_natCast]
    by_cases e : i = m
    · subst e
      rw [stepC_same _ (by omega), getD_set_same _ (by omega), if_pos rfl]
      by_cases h4 : f.k = 4
      · have h1 : cntS (fs.take k) (i : Int) = 1 := by
          rcases hs.2.2.2 with hh | hh
          · exact absurd h4 hh.2.1
          · rw [← hm]; exact hh.1
        have hb := bsz_block h.form hf h4
        rw [hm] at hb
        rw [IH i hi, if_pos h1, if_pos h4, if_pos h4, if_neg (by omega), hb, Int.mul_one, Int.mul_one]
      · have h1 : cntS (fs.take k) (i : Int) = 0 := by
          rcases hs.2.2.2 with hh | hh
          · rw [← hm]; exact hh.1
          · exact absurd hh.2.1 h4
        rw [hc.none_ i hi h1, if_neg h4, if_neg h4, if_pos (by omega), Int.zero_add]
    · rw [stepC_other _ e, getD_set_other _ e, if_neg e, Nat.add_zero]
      exact IH i hi
theorem Tok.doc_all (h : Tok xs fs ls) {q : Nat} (hq : q < ahN ls ls.length) : docC xs.length fs (pathN ls ls.length q) ls.length = cN xs.length fs ls ls.length q := by
  refine List.ext_getElem? fun i => ?_
  have l1 := docC_length xs.length fs (pathN ls ls.length q) ls.length
  have l2 := cN_length xs.length fs ls ls.length q
  by_cases hi : i < xs.length
  · have hd := h.doc_step ls.length (Nat.le_refl _) q hq i hi
    have ht : fs.take ls.length = fs := List.take_of_length_le (by have := h.of.1; omega)
    rw [ht] at hd
    have hb : (if cntS fs (i : Int) = 1 then bsz fs (i : Int) else 1) = 1 := by
      split
      · next h1 =>
        refine bsz_none fun x hx hh => ?_
        obtain ⟨k, hk⟩ := List.getElem?_of_mem hx
        obtain ⟨j, y, _, hj, hy, hym, _⟩ := block_first h.form hk hh.1
        have := cntS_two hy hk (hym.trans hh.2) hh.2 hj
        omega
      · rfl
    rw [hb, Int.mul_one] at hd
    obtain ⟨u, hu⟩ : ∃ u, (docC xs.length fs (pathN ls ls.length q) ls.length)[i]? = some u := ⟨_, List.getElem?_eq_getElem (by omega)⟩
    obtain ⟨v, hv⟩ : ∃ v, (cN xs.length fs ls ls.length q)[i]? = some v := ⟨_, List.getElem?_eq_getElem (by omega)⟩
    rw [getD_of hu, getD_of hv] at hd
    rw [hu, hv, hd]
  · rw [List.getElem?_eq_none (by omega), List.getElem?_eq_none (by omega)]
end
end Go.Proofs.Yteepiifhmbcciaa
