/- One entry more behind entries of the call's own; which blocks stay. -/
import Derived.Test.YteepiifhmbcciaaG7
import Derived.Test.YteepiifhmbcciaaG10
import Derived.Deep.RegionLaw
import Derived.StillTail
import Derived.Deep.Quiet
import Derived.Lib.QuietBelow
namespace Go.Proofs.Yteepiifhmbcciaa
open Go.RowKit

/-- one entry more, in a region that draws -/
theorem step_appendEnt1 {ops : Array Oper} {o : Oper} {a : Act} {w : World} {K : Act → World → Prop} {Q : Exit → Act → World → Prop} {E : Prop}
    (hg : o.guard = none) (s x : Operand) (hop : o.op = Op.call { callee := Callee.builtin Builtin.append, args := #[s, x], argTypes := #[34, 34] })
    (base : Nat) (A : Option Addr) (c p r : Nat) (y : Ent) (L : List Ent) (hs : a.eval s = .slice A p c) (hx : a.eval x = .slice (some ⟨w.heap.size, 0, none⟩) 1 1)
    (ho : OwnE w base A c L) (hp : L.length = p) (hr : p + 1 = r) (hl : r ≤ 1000000) (hb : base ≤ w.heap.size)
    (hK : ∀ A' c' w', OwnE w' base A' c' (L ++ [y]) → w.grownBy w' (Value.slice A p c).ownBlock → K (a.put o.dst (.slice A' r c')) w') :
    if Region.wanted o (yielded ops a.tmps) = true then Oper.wp Try.prog o a (w.alloc (.cells #[.slice y.A y.n y.c, .int .i64 y.v] 53)) K Q else E := by
  have hw : Region.wanted o (yielded ops a.tmps) = true := by simp [Region.wanted, hg]
  rw [if_pos hw]
  subst hp
  subst hr
  obtain ⟨i, hi, hz, h1, h2⟩ := info_parts infoEnt
  obtain ⟨v', w', hrun, hown, hgr, _⟩ := run_append_own (P := Try.prog) (w.alloc (.cells #[.slice y.A y.n y.c, .int .i64 y.v] 53)) base 34 o.type 53 i (.agg #[.slice none 0 0, .int .i64 0]) 2 32 Try.underlying34 hi hz h1 h2 rfl (by decide) (.slice A L.length c) L.length (cellsE L) (World.ownsRow.alloc ho _) ⟨w.heap.size, 0, none⟩ 1 1 [.slice y.A y.n y.c, .int .i64 y.v] rfl (by
    intro j u hj
    match j, hj with
    | 0, hj => simp at hj; subst hj; simp [Addr.add]
    | 1, hj => simp at hj; subst hj; simp [Addr.add]
    | j + 2, hj => simp at hj) (by simp [Value.oneCell']) (by unfold maxLen; omega) (by omega) (by simp; omega)
  obtain ⟨A', c', rfl⟩ : ∃ A' c', v' = .slice A' (L.length + 1) c' := by
    rcases hown.2 with ⟨rfl, h0⟩ | ⟨g, cap, cur, rfl, _⟩
    · omega
    · exact ⟨_, _, rfl⟩
  unfold Oper.wp
  simp [execOp, hop, resolve, invoke, builtin, hs, hx, hrun, Result.andThen]
  refine hK A' c' w' ?_ ((World.grownBy_alloc w _ _).trans hgr)
  unfold OwnE
  rw [List.length_append, cellsE_append]
  exact hown

/-- all blocks but two stay, and but those of entries -/
def KeepF (bx gc : Nat) (w w' : World) : Prop := w.heap.size ≤ w'.heap.size ∧ ∀ (g : Nat) (cs : Array Value) (ty : TypeId), w.heap[g]? = some (.cells cs ty (0, 0)) → ty ≠ 53 → g ≠ bx → g ≠ gc → w'.heap[g]? = some (.cells cs ty (0, 0))
theorem KeepF.refl (bx gc : Nat) (w : World) : KeepF bx gc w w := ⟨Nat.le_refl _, fun _ _ _ h _ _ _ => h⟩
theorem KeepF.trans {bx gc : Nat} {w1 w2 w3 : World} (h : KeepF bx gc w1 w2) (h2 : KeepF bx gc w2 w3) : KeepF bx gc w1 w3 := ⟨Nat.le_trans h.1 h2.1, fun g cs ty hg ht h3 h4 => h2.2 g cs ty (h.2 g cs ty hg ht h3 h4) ht h3 h4⟩
theorem KeepF.of_below {bx gc : Nat} {w w' : World} (h : Below w.heap.size w w') : KeepF bx gc w w' := ⟨h.size, fun g _ _ hg _ _ _ => (h.block g (lt_of_heap hg)).trans hg⟩
theorem KeepF.of_set {bx gc : Nat} {w : World} {p : Addr} (hp : p.block = bx ∨ p.block = gc) (v : Value) : KeepF bx gc w (w.setCell p v) := ⟨by simp [World.setCell], fun g _ _ hg _ h3 h4 => (Below.heap_setCell w p v g (by omega)).trans hg⟩
theorem KeepF.of_app {bx gc base c : Nat} {A : Option Addr} {L : List Ent} {w w' : World} (hE : OwnE w base A c L) (hg : w.grownBy w' (Value.slice A L.length c).ownBlock) : KeepF bx gc w w' := ⟨hg.size, fun _ _ _ h ht _ _ => box_keptE h ht hE hg⟩
theorem KeepF.drewN {bx gc : Nat} {w w' : World} (h : KeepF bx gc w w') (q : Nat) : KeepF bx gc w (w'.drewN q) := h
end Go.Proofs.Yteepiifhmbcciaa
/- store.Counts and store.Check: how many children each level has; whether a tensor may be. -/
namespace Go.Proofs.Yteepiifhmbcciaa
open Go.RowKit

/-- the counts of the first k levels -/
def cntK (ls : List Lv) (n k : Nat) : List Int := (cntL ls).take k ++ List.replicate (n - k) 0
theorem cntL_length (ls : List Lv) : (cntL ls).length = ls.length := by unfold cntL; simp
theorem cntK_set {ls : List Lv} {n k : Nat} (hl : ls.length = n) (hk : k < n) : (cntK ls n k).set k ((ahN ls (k + 1) : Nat) : Int) = cntK ls n (k + 1) := by
  have hx : (cntL ls)[k]? = some ((ahN ls (k + 1) : Nat) : Int) := by unfold cntL; rw [List.getElem?_map, List.getElem?_range (by omega)]; rfl
  have hll := cntL_length ls
  unfold cntK
  rw [take_succ_of hx, show n - k = (n - (k + 1)) + 1 by omega, List.replicate_succ, List.set_append_right _ _ (by rw [List.length_take]; omega), List.length_take, Nat.min_eq_left (by omega), Nat.sub_self, List.set_cons_zero, List.append_assoc]
  rfl
theorem cntK_all (ls : List Lv) {n : Nat} (hl : ls.length = n) : cntK ls n n = cntL ls := by
  unfold cntK
  rw [List.take_of_length_le (by rw [cntL_length]; omega)]; simp
theorem cntK_zero (ls : List Lv) (n : Nat) : stC (cntK ls n 0) = List.replicate n (.int .i64 0) := by
  unfold stC cntK; simp
theorem cntK_length (ls : List Lv) {n k : Nat} (hl : ls.length = n) (hk : k ≤ n) : (cntK ls n k).length = n := by unfold cntK; simp [cntL_length]; omega
theorem ahN_le {ls : List Lv} {m k : Nat} (h : levE ls m = 0) (hk : k ≤ m) (hm : m ≤ ls.length) : ahN ls k ≤ 1048576 := by
  cases k with
  | zero => simp [ahN]
  | succ k =>
    obtain ⟨l, hl⟩ : ∃ l, ls[k]? = some l := ⟨_, List.getElem?_eq_getElem (by omega)⟩
    rw [ahN_succ hl]
    exact (lok_at h (by omega) hl).tot
def CountsPost (w : World) (t : Ten) (e : Ending) (w' : World) : Prop :=
  Below w.heap.size w w' ∧ ((tenE t ≠ 0 ∧ e = .returned (.tuple #[.slice none 0 0, .int .i64 (tenE t)])) ∨ (tenE t = 0 ∧ ∃ g, w.heap.size ≤ g ∧ e = .returned (.tuple #[.slice (some ⟨g, 0, none⟩) t.ln t.ln, .int .i64 0]) ∧ w'.heap[g]? = some (.cells (stC (cntL t.ls)).toArray 3 (0, 0))))
theorem ints_stC {w : World} {g n : Nat} {zs : List Int} {B : Nat} (h : w.heap[g]? = some (.cells (stC zs).toArray 3 (0, 0))) (hl : zs.length = n) (hb : ∀ z ∈ zs, -9223372036854775808 ≤ z ∧ z ≤ 9223372036854775807) (hB : g < B) : Ints w B (some ⟨g, 0, none⟩) n zs := by
  refine ⟨hl, hb, fun _ => ⟨g, 0, rfl, hB, fun k x hx => ?_⟩⟩
  rw [Nat.zero_add]
  exact (vblk_cell h (by unfold stC; rw [List.getElem?_map, hx]; rfl)).1
set_option maxRecDepth 100000 in
set_option maxHeartbeats 8000000 in
theorem counts_aux (T : Ten) (A : Option Addr) (n c : Nat) (xs : List Int) (F : Option Addr) (fn fc : Nat) (fs : List Sp) (L : Option Addr) (ln lc : Nat) (ls : List Lv) (V : Option Addr) (vn vc : Nat) (vs : List Int) (w : World) (hT : T = ⟨A, n, c, xs, F, fn, fc, fs, L, ln, lc, ls, V, vn, vc, vs⟩) (ht : Ten.In w w.heap.size ⟨A, n, c, xs, F, fn, fc, fs, L, ln, lc, ls, V, vn, vc, vs⟩) :
    Calls Try.prog 17 #[.agg #[.slice A n c, .slice F fn fc, .slice L ln lc, .slice V vn vc]] w (CountsPost w T) := by
  have HT0 := Lib.hid hT
  clear hT
  have z0 := lvBelow w (.cells #[.slice A n c, .slice F fn fc, .slice L ln lc, .slice V vn vc] 27)
  have zz := heap_alloc_new w (.cells #[.slice A n c, .slice F fn fc, .slice L ln lc, .slice V vn vc] 27)
  have HS := sizes_any A n c xs F fn fc fs (w.alloc (.cells #[.slice A n c, .slice F fn fc, .slice L ln lc, .slice V vn vc] 27)) (ht.on z0).shape ht.n1 (ht.on z0).form ht.f1 ht.fc
  have HFn := Lib.hid ht.form.1
  have HLn := Lib.hid ht.lvs.1
  by_cases k0 : sizesE xs fs = 0
  · have HE0 := Lib.hid k0
    have hparts := sizesE_parts k0
    have HZ : Hid (∀ z ∈ sizesL xs fs, -9223372036854775808 ≤ z ∧ z ≤ 9223372036854775807) := by
      intro z hz
      obtain ⟨k, hk, rfl⟩ := List.mem_map.1 hz
      have := szAt_range k0 (List.mem_range.1 hk)
      omega
    by_cases k1 : OfP ls fs (sizesL xs fs)
    · have HO : Hid (pB (OfP ls fs (sizesL xs fs)) = true) := pB_t k1
      have HLO : Hid (levE ls ln = 0 → LooseOK ls) := fun he => looseOK_of hparts.2.1 (sizesL_length _ _) k1 (by rw [HLn.out]; exact he)
      have HTE : Hid (tenE T = if levE ls ln ≠ 0 then levE ls ln else if vn ≠ ahN ls ln then 1 else if pB (RiseL ls) = true then 0 else 1) := by unfold Hid; rw [HT0.out]; unfold tenE; dsimp only; rw [if_neg (by rw [k0]; simp), if_pos HO.out]
      have HT := Lib.hid ht
      have ln1 := ht.l1
      have fn1 := ht.f1
      have vn1 := ht.v1
      have hmk := fun W => vrun_make ln ln1 W
      rw [← cntK_zero ls ln] at hmk
      clear k0 k1 hparts ht
      go_enter Try.func17, Try.ntmps17
      go_wp2_with fail
      refine HS.mono ?_
      rintro e w1 ⟨hb1, hh⟩
      rcases hh with ⟨hh, _⟩ | ⟨_, g, hg, rfl, hblk⟩
      · exact absurd HE0.out hh
      have hb := z0.trans (hb1.mono z0.size)
      have hbx := (hb1.block w.heap.size (by simp)).trans zz
      obtain ⟨k0, k1, k2, k3, _⟩ := lvCells hbx
      have HT1 := HT.out.on hb
      have hgl : g < w1.heap.size := (Array.getElem?_eq_some_iff.1 hblk).1
      have HOf := isOf_any L ln lc ls F fn fc fs (some ⟨g, 0, none⟩) fn (sizesL xs fs) w1 HT1.lvs HT1.form (ints_stC hblk (by rw [sizesL_length]; exact HFn.out) HZ.out hgl) fn1 (by omega)
      rw [HO.out] at HOf
      have HB := Lib.hid hb
      have HBx := Lib.hid hbx
      have hsz1 : w.heap.size < w1.heap.size := (Array.getElem?_eq_some_iff.1 hbx).1
      clear hb hb1 HT1 hblk hg hbx z0 zz HS
      go_wp2_with (go_at_call 48; refine HOf.mono ?_; rintro e w2 ⟨rfl, hb2⟩; have k0' := (hb2.cell (p := ⟨w.heap.size, 0, none⟩) hsz1).trans k0; have k2' := (hb2.cell (p := ⟨w.heap.size, 2, none⟩) hsz1).trans k2; have k2a := fun o => cellPast o k2'; have HBx2 := Lib.hid ((hb2.block _ hsz1).trans HBx.out); have HB2 := Lib.hid (HB.out.trans (hb2.mono HB.out.size)); clear hb2)
      have hsz2 : w.heap.size < w2.heap.size := (Array.getElem?_eq_some_iff.1 HBx2.out).1
      clear k0 k1 k2 k3 k0' k2' k2a HB HBx HOf hmk
      go_loopw [35, 7] (fun i a wr => ∃ k : Nat, k ≤ ln ∧ i = .int .i64 k ∧ a = .int .i64 ((ahN ls k : Nat) : Int) ∧ Hid (levE ls k = 0) ∧ Hid (wr.heap[w2.heap.size]? = some (.cells (stC (cntK ls ln k)).toArray 3 (0, 0))) ∧ Hid (wr.heap[w.heap.size]? = some (.cells #[.slice A n c, .slice F fn fc, .slice L ln lc, .slice V vn vc] 27)) ∧ Hid (Below w.heap.size w wr)) (fun i _ _ => ln - (intOf i).toNat)
      case atStart => exact ⟨0, Nat.zero_le _, rfl, rfl, rfl, heap_alloc_new _ _, (((Below.refl w2.heap.size w2).alloc (Nat.le_refl _) _).block _ hsz2).trans HBx2.out, HB2.out.alloc HB2.out.size _⟩
      case round =>
        obtain ⟨k, hk, rfl, rfl, HEk, HK, HBX, HB⟩ := hrel
        have hbw : w.heap.size ≤ wr.heap.size := HB.out.size
        have hw2 : w2.heap.size < wr.heap.size := (Array.getElem?_eq_some_iff.1 HK.out).1
        by_cases hlt : k < ln
        · obtain ⟨bl, ol, l, rfl, hbb, HLk, d0, d1, d2, d3, li⟩ := (HT.out.on HB.out).lvs.at_ hlt
          obtain ⟨w3, hw3⟩ : ∃ w3, wr.alloc (.cells #[.int .i64 l.k, .int .i64 l.s, .slice l.A l.n l.c, .slice l.B l.m l.e] 57) = w3 := ⟨_, rfl⟩
          have hb3 : Below wr.heap.size wr w3 := by rw [← hw3]; exact (Below.refl _ wr).alloc (Nat.le_refl _) _
          have hn3 : w3.heap[wr.heap.size]? = some (lvO l.k l.s l.A l.n l.c l.B l.m l.e) := by rw [← hw3]; exact heap_alloc_new _ _
          obtain ⟨q0, q1, q2, q3, _⟩ := lvCells hn3
          have hah : ahN ls k ≤ 1048576 := ahN_le HEk.out (Nat.le_refl _) (by have := HLn.out; omega)
          have HS3 : Hid (∀ W, Below w3.heap.size w3 W → Below wr.heap.size wr W ∧ Below w.heap.size w W ∧ W.heap[w.heap.size]? = some (.cells #[.slice A n c, .slice F fn fc, .slice (some ⟨bl, ol, none⟩) ln lc, .slice V vn vc] 27 (0, 0)) ∧ W.heap[w2.heap.size]? = some (.cells (stC (cntK ls ln k)).toArray 3 (0, 0))) := by
            intro W hW
            have h1 := hb3.trans (hW.mono hb3.size)
            exact ⟨h1, HB.out.trans (h1.mono hbw), (h1.block _ (by omega)).trans HBX.out, (h1.block _ hw2).trans HK.out⟩
          have hLI := (li.below hb3).more hb3.size
          by_cases he : lvF l.k l.s l.xs l.ys (ahN ls k) = 0
          · have HBl := below_ok l.k l.s (ahN ls k) l.A l.B l.n l.c l.m l.e l.xs l.ys w3 hLI.lvI he
            have HE1 : Hid (levE ls (k + 1) = 0) := (levE_succ HLk.out HEk.out).trans he
            rw [← ahN_succ HLk.out] at HBl
            obtain ⟨a1, ha1⟩ : ∃ a1, ahN ls (k + 1) = a1 := ⟨_, rfl⟩
            rw [ha1] at HBl
            have HA1 := Lib.hid ha1
            obtain ⟨v0, hv0⟩ : ∃ v, (stC (cntK ls ln k))[k]? = some v := ⟨_, List.getElem?_eq_getElem (by unfold stC; rw [List.length_map, cntK_length ls HLn.out hk]; exact hlt)⟩
            have HV0 := Lib.hid hv0
            have HC : Hid ((stC (cntK ls ln k)).set k (.int .i64 (a1 : Int)) = stC (cntK ls ln (k + 1))) := by unfold Hid; rw [stC_set, ← ha1, cntK_set HLn.out hlt]
            clear he ha1 hv0 hb3 hn3 li hLI HK HBX HB
            go_wp2_with (go_at_call 49; refine HBl.mono ?_; rintro e w4 ⟨rfl, hb4⟩; obtain ⟨r1, r2, r3, r4⟩ := HS3.out _ hb4; obtain ⟨c0, c1⟩ := vblk_cell r4 HV0.out; have H3 := Lib.hid r3; have H4 := Lib.hid r4; have H2 := Lib.hid r2; clear r1 r2 r3 r4)
            go_roundw
            case rel => exact ⟨k + 1, by omega, by go_num, by rw [HA1.out], HE1, by unfold Hid; rw [vblk_set H4.out, HC.out], (Below.heap_setCell _ _ _ _ (by show w.heap.size ≠ w2.heap.size; omega)).trans H3.out, H2.out.setCell (by show w.heap.size ≤ w2.heap.size; omega) _⟩
            case measure => simp [intOf]; omega
          · obtain ⟨E, hE⟩ : ∃ E, lvF l.k l.s l.xs l.ys (ahN ls k) = E := ⟨_, rfl⟩
            rw [hE] at he
            have HBl := below_err l.k l.s (ahN ls k) E l.A l.B l.n l.c l.m l.e l.xs l.ys w3 hLI.lvI hE he
            have HE1 : Hid (levE ls (k + 1) = E) := (levE_succ HLk.out HEk.out).trans hE
            have HF : Hid (tenE T = E) := by
              have h1 := levE_le (ls := ls) (k := k + 1) (m := ln) hlt (by rw [HE1.out]; exact he)
              unfold Hid
              rw [HTE.out, if_pos (by rw [h1, HE1.out]; exact he), h1, HE1.out]
            have HE0' : Hid (E ≠ 0) := he
            have e1 : (E != 0) = true := by simpa using he
            clear he hE hb3 hn3 li hLI HK HBX HB
            go_wp2_with (go_at_call 49; refine HBl.mono ?_; rintro e w4 ⟨rfl, hb4⟩; obtain ⟨r1, r2, r3, r4⟩ := HS3.out _ hb4; have H2 := Lib.hid r2; clear r1 r2 r3 r4)
            go_ret2
            exact ⟨H2.out, .inl ⟨by rw [HF.out]; exact HE0'.out, by rw [HF.out]; rfl⟩⟩
        · obtain rfl : k = ln := by omega
          obtain ⟨k0, k1, k2, k3, _⟩ := lvCells HBX.out
          have hah : ahN ls k ≤ 1048576 := ahN_le HEk.out (Nat.le_refl _) (by have := HLn.out; omega)
          have HTr := HT.out.on HB.out
          have HR := stRises_any L k lc ls wr HTr.lvs ln1 HTr.lc (HLO.out HEk.out)
          have HS : Hid (∀ w' : World, Below wr.heap.size wr w' → Below w.heap.size w w') := fun w' hh => HB.out.trans (hh.mono hbw)
          have HTE2 : Hid (tenE T = if vn ≠ ahN ls k then 1 else if pB (RiseL ls) = true then 0 else 1) := by
            unfold Hid
            rw [HTE.out, if_neg (by rw [HEk.out]; simp)]
          have HK2 : Hid (wr.heap[w2.heap.size]? = some (.cells (stC (cntL ls)).toArray 3 (0, 0))) := by unfold Hid; rw [HK.out, cntK_all ls HLn.out]
          have HHB := HB.out
          clear HTr
          by_cases hv : vn = ahN ls k
          · have e1 : ((vn : Int) != ((ahN ls k : Nat) : Int)) = false := by rw [hv]; simp
            have e2 : (vn != ahN ls k) = false := by rw [hv]; simp
            by_cases hr : pB (RiseL ls) = true
            · have HF : Hid (tenE T = 0) := by unfold Hid; rw [HTE2.out, if_neg (by rw [hv]; simp), if_pos hr]
              rw [hr] at HR
              have HLN : Hid (T.ln = k ∧ T.ls = ls) := by rw [HT0.out]; exact ⟨rfl, rfl⟩
              have HK3 : Hid (∀ w' : World, Below wr.heap.size wr w' → w'.heap[w2.heap.size]? = some (.cells (stC (cntL ls)).toArray 3 (0, 0))) := fun w' hh => (hh.block _ hw2).trans HK2.out
              clear hv hr
              go_wp2_with (go_at_call 50; refine HR.mono ?_; rintro e w4 ⟨rfl, hb4⟩; have HB4 := Lib.hid hb4; clear hb4)
              go_ret2
              exact ⟨HS.out _ HB4.out, .inr ⟨HF.out, w2.heap.size, by omega, by rw [HLN.out.1]; rfl, by rw [HLN.out.2]; exact HK3.out _ HB4.out⟩⟩
            · have hr' : pB (RiseL ls) = false := by simpa using hr
              have HF : Hid (tenE T = 1) := by unfold Hid; rw [HTE2.out, if_neg (by rw [hv]; simp), if_neg hr]
              rw [hr'] at HR
              clear hv hr hr'
              go_wp2_with (go_at_call 50; refine HR.mono ?_; rintro e w4 ⟨rfl, hb4⟩; have HB4 := Lib.hid hb4; clear hb4)
              go_ret2
              exact ⟨HS.out _ HB4.out, .inl ⟨by rw [HF.out]; omega, by rw [HF.out]; rfl⟩⟩
          · have e1 : ((vn : Int) != ((ahN ls k : Nat) : Int)) = true := bne_iff_ne.2 (by omega)
            have e2 : (vn != ahN ls k) = true := bne_iff_ne.2 hv
            have HF : Hid (tenE T = 1) := by unfold Hid; rw [HTE2.out, if_pos hv]
            clear hv
            go_wp2_with fail
            go_ret2
            exact ⟨HB.out, .inl ⟨by rw [HF.out]; omega, by rw [HF.out]; rfl⟩⟩
    · have HO : Hid (pB (OfP ls fs (sizesL xs fs)) = false) := pB_f k1
      have HF : Hid (tenE T = 1) := by unfold Hid; rw [HT0.out]; unfold tenE; dsimp only; rw [if_neg (by rw [k0]; simp), HO.out]; rfl
      have HT := Lib.hid ht
      have ln1 := ht.l1
      have fn1 := ht.f1
      clear k0 k1 hparts ht
      go_enter Try.func17, Try.ntmps17
      go_wp2_with fail
      refine HS.mono ?_
      rintro e w1 ⟨hb1, hh⟩
      rcases hh with ⟨hh, _⟩ | ⟨_, g, hg, rfl, hblk⟩
      · exact absurd HE0.out hh
      have hb := z0.trans (hb1.mono z0.size)
      obtain ⟨k0, k1, k2, k3, _⟩ := lvCells ((hb1.block w.heap.size (by simp)).trans zz)
      have HT1 := HT.out.on hb
      have hgl : g < w1.heap.size := (Array.getElem?_eq_some_iff.1 hblk).1
      have HOf := isOf_any L ln lc ls F fn fc fs (some ⟨g, 0, none⟩) fn (sizesL xs fs) w1 HT1.lvs HT1.form (ints_stC hblk (by rw [sizesL_length]; exact HFn.out) HZ.out hgl) fn1 (by omega)
      rw [HO.out] at HOf
      have HB := Lib.hid hb
      clear hb hb1 HT1 hblk hg
      go_wp2_with (go_at_call 48; refine HOf.mono ?_; rintro e w2 ⟨rfl, hb2⟩)
      go_ret2
      exact ⟨HB.out.trans (hb2.mono HB.out.size), .inl ⟨by rw [HF.out]; omega, by rw [HF.out]; rfl⟩⟩
  · have HE : Hid (tenE T = sizesE xs fs ∧ sizesE xs fs ≠ 0) := by refine ⟨?_, k0⟩; rw [HT0.out]; unfold tenE; dsimp only; rw [if_pos k0]
    obtain ⟨E, hE⟩ : ∃ E, Hid (sizesE xs fs = E) := ⟨_, Lib.hid rfl⟩
    have e1 : (E != 0) = true := by rw [← hE.out]; simpa using k0
    clear k0 ht
    go_enter Try.func17, Try.ntmps17
    go_wp2_with fail
    refine HS.mono ?_
    rintro e w1 ⟨hb1, hh⟩
    rcases hh with ⟨_, rfl⟩ | ⟨hh, _⟩
    · rw [hE.out]
      have HB := Lib.hid (z0.trans (hb1.mono z0.size))
      clear hb1
      go_wp2_with fail
      go_ret2
      exact ⟨HB.out, .inl ⟨by rw [HE.out.1]; exact HE.out.2, by rw [HE.out.1, hE.out]; rfl⟩⟩
    · exact absurd hh HE.out.2
set_option maxHeartbeats 1000000 in
theorem counts_any (t : Ten) (w : World) (ht : t.In w w.heap.size) :
    Calls Try.prog 17 #[t.val] w (CountsPost w t) := counts_aux t _ _ _ _ _ _ _ _ _ _ _ _ _ _ _ _ w rfl ht
def IntPost (v : Int) (w : World) (e : Ending) (w' : World) : Prop := e = .returned (.int .i64 v) ∧ Below w.heap.size w w'
set_option maxRecDepth 100000 in
set_option maxHeartbeats 1000000 in
theorem stCheck_any (t : Ten) (w : World) (ht : t.In w w.heap.size) :
    Calls Try.prog 7 #[t.val] w (IntPost (tenE t) w) := by
  obtain ⟨T, hT⟩ : ∃ T, Hid (t = T) := ⟨t, rfl⟩
  obtain ⟨E, hE⟩ : ∃ E, Hid (tenE t = E) := ⟨_, Lib.hid rfl⟩
  have z0 := lvBelow w t.obj
  have zz := heap_alloc_new w t.obj
  have HC := counts_any t (w.alloc t.obj) (ht.on z0)
  obtain ⟨k0, k1, k2, k3, _⟩ := lvCells zz
  rw [hE.out]
  clear zz
  go_enter Try.func7, Try.ntmps7
  go_wp2_with fail
  refine HC.mono ?_
  rintro e w1 ⟨hb, hh⟩
  have HB := Lib.hid (z0.trans (hb.mono z0.size))
  rcases hh with ⟨_, rfl⟩ | ⟨h0, g, _, rfl, _⟩
  · rw [hE.out]
    clear hb z0
    go_wp2_with fail
    go_ret
    exact ⟨rfl, HB.out⟩
  · have HE0 : Hid (E = 0) := hE.out.symm.trans h0
    clear hb z0 h0
    go_wp2_with fail
    go_ret
    exact ⟨by rw [HE0.out]; rfl, HB.out⟩
end Go.Proofs.Yteepiifhmbcciaa
/- store.Read's closure: what it finds, and a number. -/
namespace Go.Proofs.Yteepiifhmbcciaa
open Go.RowKit

/-- where the closure's variables lie -/
structure RB where
  B0 : Nat
  B1 : Nat
  bt : Nat
  bx : Nat
  bc : Nat
  bs : Nat
  bd : Nat
  gc : Nat
  gs : Nat
  A1 : Option Addr
  c1 : Nat
/-- the closure itself -/
abbrev RB.fn (b : RB) : Value := .func (.func 36) #[] #[.pointer (some ⟨b.bt, 0, none⟩), .pointer (some ⟨b.bx, 0, none⟩), .pointer (some ⟨b.bc, 0, none⟩), .pointer (some ⟨b.bs, 0, none⟩), .pointer (some ⟨b.bd, 0, none⟩)]
/-- what stays while it runs -/
structure RB.Fix (b : RB) (t : Ten) (w : World) : Prop where
  ten : t.In w b.B0
  st : w.heap[b.bt]? = some t.obj
  sc : w.heap[b.bc]? = some (.cells #[.slice (some ⟨b.gc, 0, none⟩) t.n t.n] 22 (0, 0))
  ss : w.heap[b.bs]? = some (.cells #[.slice (some ⟨b.gs, 0, none⟩) t.fn t.fn] 22 (0, 0))
  sg : w.heap[b.gs]? = some (.cells (stC (stepK t.fs t.fn)).toArray 3 (0, 0))
  sd : w.heap[b.bd]? = some (.cells #[b.fn] 67 (0, 0))
  o1 : b.B0 ≤ b.gc ∧ b.B0 ≤ b.bx ∧ b.gc < b.B1 ∧ b.bx < b.B1 ∧ b.B1 ≤ w.heap.size
  o2 : b.bt ≠ b.bx ∧ b.bt ≠ b.gc ∧ b.bc ≠ b.bx ∧ b.bc ≠ b.gc ∧ b.bs ≠ b.bx ∧ b.bs ≠ b.gc ∧ b.gs ≠ b.bx ∧ b.gs ≠ b.gc ∧ b.bd ≠ b.bx ∧ b.bd ≠ b.gc ∧ b.gc ≠ b.bx
/-- what turns: where it is, and what it has listed -/
structure RB.Dyn (b : RB) (t : Ten) (w : World) (c : List Int) (Ts : List Ent) (A3 : Option Addr) (c3 : Nat) : Prop where
  cur : w.heap[b.gc]? = some (.cells (stC c).toArray 3 (0, 0))
  box : w.heap[b.bx]? = some (.cells #[.slice b.A1 t.n b.c1, .slice A3 Ts.length c3] 36 (0, 0))
  own : OwnE w b.B0 A3 c3 Ts
  pl : ∀ x ∈ Ts, OwnP w b.B1 x
theorem RB.Fix.keep {b : RB} {t : Ten} {w w' : World} (h : b.Fix t w) (hb : Below b.B0 w w') (hk : KeepF b.bx b.gc w w') : b.Fix t w' := by
  obtain ⟨h1, h2, h3, h4, h5, h6, h7, h8⟩ := h
  have hh8 := h8
  obtain ⟨n1, n2, n3, n4, n5, n6, n7, n8, n9, n10, n11⟩ := hh8
  exact ⟨h1.below hb, hk.2 _ _ _ h2 (by decide) n1 n2, hk.2 _ _ _ h3 (by decide) n3 n4, hk.2 _ _ _ h4 (by decide) n5 n6, hk.2 _ _ _ h5 (by decide) n7 n8, hk.2 _ _ _ h6 (by decide) n9 n10, ⟨h7.1, h7.2.1, h7.2.2.1, h7.2.2.2.1, Nat.le_trans h7.2.2.2.2 hk.1⟩, h8⟩
theorem RB.Dyn.below {b : RB} {t : Ten} {w w' : World} {c : List Int} {Ts : List Ent} {A3 : Option Addr} {c3 : Nat} (h : b.Dyn t w c Ts A3 c3) (hb : Below w.heap.size w w') : b.Dyn t w' c Ts A3 c3 :=
  ⟨(hb.block _ (lt_of_heap h.cur)).trans h.cur, (hb.block _ (lt_of_heap h.box)).trans h.box, World.ownsRow.kept h.own ⟨hb.os, hb.tape, hb.output, hb.size, fun i hi _ => hb.block i hi⟩ (row := none) (by cases hh : (Value.slice A3 Ts.length c3).ownBlock with | none => exact .inl rfl | some k => exact .inr (by simp)), fun x hx => ⟨(h.pl x hx).1.below hb (Nat.le_refl _), (h.pl x hx).2⟩⟩
theorem RB.Fix.below {b : RB} {t : Ten} {w w' : World} (h : b.Fix t w) (hb : Below w.heap.size w w') : b.Fix t w' := h.keep (hb.mono (by have := h.o1; omega)) (KeepF.of_below hb)
/-- the numbers, with their places -/
noncomputable def entK (t : Ten) (q : Nat) : List (List Int × Int × Nat) := (List.range q).map fun n => (cN t.n t.fs t.ls t.ln n, t.vs.getD n 0, t.n)
theorem entK_succ (t : Ten) (q : Nat) : entK t (q + 1) = entK t q ++ [(cN t.n t.fs t.ls t.ln q, t.vs.getD q 0, t.n)] := by unfold entK; rw [List.range_succ, List.map_append]; rfl
theorem entK_length (t : Ten) (q : Nat) : (entK t q).length = q := by simp [entK]
/-- behind a call of the closure -/
def DownPost (b : RB) (t : Ten) (c : List Int) (q : Nat) (w : World) (e : Ending) (w' : World) : Prop :=
  e = .returned (.tuple #[]) ∧ ∃ (Ts : List Ent) (A3 : Option Addr) (c3 : Nat), b.Dyn t w' c Ts A3 c3 ∧ Ts.map keyE = entK t q ∧ Below b.B0 w w' ∧ KeepF b.bx b.gc w w'
theorem RB.Dyn.add {b : RB} {t : Ten} {w w6 w7 : World} {c : List Int} {Ts : List Ent} {A3 A7 : Option Addr} {c3 c7 : Nat} {y : Ent} (h6 : b.Dyn t w6 c Ts A3 c3) (hF : b.Fix t w6) (hy : OwnP w6 b.B1 y) (hO : OwnE w7 b.B0 A7 c7 (Ts ++ [y])) (hg : w6.grownBy w7 (Value.slice A3 Ts.length c3).ownBlock) (hw : Below b.B0 w w6) :
    b.Dyn t (w7.setCell ⟨b.bx, 1, none⟩ (.slice A7 ((Ts ++ [y]).length : Nat) c7)) c (Ts ++ [y]) A7 c7 ∧ Below b.B0 w (w7.setCell ⟨b.bx, 1, none⟩ (.slice A7 ((Ts ++ [y]).length : Nat) c7)) ∧ KeepF b.bx b.gc w6 (w7.setCell ⟨b.bx, 1, none⟩ (.slice A7 ((Ts ++ [y]).length : Nat) c7)) := by
  have hbox := box_keptE h6.box (by decide) h6.own hg
  have hcur := box_keptE h6.cur (by decide) h6.own hg
  have hsn := set_snd w7 b.bx _ _ (.slice A7 ((Ts ++ [y]).length : Nat) c7) _ hbox
  have hne := hF.o2
  have ho := hF.o1
  refine ⟨⟨?_, hsn.1, World.ownsRow.kept hO hsn.2 (rows_ne hO hbox (by decide)), fun x hx => ?_⟩, ?_, (KeepF.of_app h6.own hg).trans (KeepF.of_set (.inl rfl) _)⟩
  · exact (Below.heap_setCell w7 ⟨b.bx, 1, none⟩ _ b.gc hne.2.2.2.2.2.2.2.2.2.2).trans hcur
  · have hq : OwnP w6 b.B1 x := by
      rcases List.mem_append.1 hx with hx | hx
      · exact h6.pl x hx
      · rw [List.mem_singleton.1 hx]; exact hy
    have q5 := hq.1.keptE h6.own hg
    exact ⟨⟨q5.1.kept hsn.2 (rows_ne q5.1 hbox (by decide)), q5.2⟩, hq.2⟩
  · exact (hw.grown hg (by have := hF.o1; omega) (fun k hk => (World.ownsRow.lt h6.own k hk).1)).setCell (p := ⟨b.bx, 1, none⟩) ho.2.1 _
theorem leaf_end {b : RB} {t : Ten} {p : Nat} {w w6 w7 : World} {c : List Int} {Ts : List Ent} {A3 A6 A7 : Option Addr} {c3 c6 c7 : Nat} {v : Int} (hF : b.Fix t w) (h6 : b.Dyn t w6 c Ts A3 c3) (hF6 : b.Fix t w6) (hO6 : OwnI w6 w.heap.size 3 A6 c6 c) (hcl : c.length = t.n) (hv : -9223372036854775808 ≤ v ∧ v ≤ 9223372036854775807) (hO : OwnE w7 b.B0 A7 c7 (Ts ++ [⟨A6, t.n, c6, c, v⟩])) (hg : w6.grownBy w7 (Value.slice A3 Ts.length c3).ownBlock) (hw : Below w.heap.size w w6) (hl : Ts.length = p) (hk : Ts.map keyE = entK t p) (hc : c = cN t.n t.fs t.ls t.ln p) (hvv : t.vs.getD p 0 = v) :
    DownPost b t c (p + 1) w (.returned (.tuple #[])) (w7.setCell ⟨b.bx, 1, none⟩ (.slice A7 (p + 1) c7)) := by
  have ho := hF.o1
  have hadd := RB.Dyn.add (y := ⟨A6, t.n, c6, c, v⟩) (w := w) h6 hF6 ⟨hO6.mono (by omega), hcl.symm, hv⟩ hO hg (hw.mono (by omega))
  have hlen : (Ts ++ [(⟨A6, t.n, c6, c, v⟩ : Ent)]).length = p + 1 := by rw [List.length_append, hl]; rfl
  rw [hlen] at hadd
  refine ⟨rfl, _, A7, c7, hadd.1, ?_, hadd.2.1, (KeepF.of_below hw).trans hadd.2.2⟩
  rw [List.map_append, hk, entK_succ, hvv, ← hc]
  rfl
end Go.Proofs.Yteepiifhmbcciaa
/- store.Read's closure, behind the last level: one entry more. -/
namespace Go.Proofs.Yteepiifhmbcciaa
open Go.RowKit

set_option maxRecDepth 100000 in
set_option maxHeartbeats 8000000 in
theorem down_leaf (b : RB) (t : Ten) (p : Nat) (w : World) (c : List Int) (Ts : List Ent) (A3 : Option Addr) (c3 : Nat) (hF : b.Fix t w) (hD : b.Dyn t w c Ts A3 c3) (hp : p < t.vn) (hc : c = cN t.n t.fs t.ls t.ln p) (hcl : c.length = t.n) (hcb : ∀ z ∈ c, -9223372036854775808 ≤ z ∧ z ≤ 9223372036854775807) (hk : Ts.map keyE = entK t p) :
    Calls Try.prog 36 #[.int .i64 (t.ln : Int), .int .i64 (p : Int), .pointer (some ⟨b.bt, 0, none⟩), .pointer (some ⟨b.bx, 0, none⟩), .pointer (some ⟨b.bc, 0, none⟩), .pointer (some ⟨b.bs, 0, none⟩), .pointer (some ⟨b.bd, 0, none⟩)] w (DownPost b t c (p + 1) w) := by
  have hTl : Ts.length = p := by have := congrArg List.length hk; rw [List.length_map, entK_length] at this; exact this
  obtain ⟨bV, oV, v, hVA, hVb, HV, cv, v1, v2⟩ := hF.ten.vals.at_ hp
  have HF := Lib.hid hF
  have HD := Lib.hid hD
  obtain ⟨f0, f1, f2, f3, _⟩ := lvCells hF.st
  rw [hVA] at f3
  obtain ⟨s0, s1⟩ := blk_cell (i := 0) hF.sc rfl
  obtain ⟨x0, x1, x2, x3⟩ := pair_cells hD.box
  rw [hTl] at x1
  have hvn := hF.ten.vc
  have hv1 := hF.ten.v1
  have hn1 := hF.ten.n1
  have HTL := Lib.hid hTl
  have HCL := Lib.hid hcl
  have hbt := lt_of_heap hF.st
  have hbx := lt_of_heap hD.box
  have hVB : bV < w.heap.size := by have := hF.o1; omega
  have hC1 : Ints w w.heap.size (some ⟨b.gc, 0, none⟩) t.n c := ints_stC hD.cur hcl hcb (lt_of_heap hD.cur)
  have HCL0 : Hid (∀ W, Below w.heap.size w W → Calls Try.prog 34 #[.slice (some ⟨b.gc, 0, none⟩) t.n t.n] W fun e w' => ∃ A' c', e = .returned (.slice A' t.n c') ∧ OwnI w' W.heap.size 3 A' c' c ∧ Below W.heap.size W w') := fun W hW => clone_any _ t.n t.n c W W.heap.size ((hC1.below hW).more hW.size) (Nat.le_refl _) hn1
  have HST : Hid (∀ W, Below w.heap.size w W → b.Fix t W ∧ b.Dyn t W c Ts A3 c3 ∧ (W.cell? ⟨b.bx, 1, none⟩ = some (.slice A3 p c3) ∧ W.frozen? ⟨b.bx, 1, none⟩ = false) ∧ W.cell? ⟨b.bt, 3, none⟩ = some (.slice (some ⟨bV, oV, none⟩) t.vn t.vc) ∧ W.cell? ⟨bV, oV + p, none⟩ = some (.int .i64 v)) := by
    intro W hW
    have hD' := HD.out.below hW
    obtain ⟨_, y1, _, y3⟩ := pair_cells hD'.box
    rw [HTL.out] at y1
    exact ⟨HF.out.below hW, hD', ⟨y1, y3⟩, (hW.cell (p := ⟨b.bt, 3, none⟩) hbt).trans f3, (hW.cell (p := ⟨bV, oV + p, none⟩) hVB).trans cv⟩
  have hlt : (p : Int) < (t.vn : Int) := by omega
  have hp0 : (0 : Int) ≤ (p : Int) := by omega
  have HVV : Hid (t.vs.getD p 0 = v) := by unfold Hid; rw [List.getD_eq_getElem?_getD, HV.out]; rfl
  have HK := Lib.hid hk
  have HC := Lib.hid hc
  clear hk hc hcb hC1 hcl hTl hVA HV hF hD hbt hbx hVB
  go_enter Try.func36, Try.ntmps36
  go_wp2_with fail
  have hle : p + 1 ≤ 1000000 := by omega
  have hB0 : ∀ W : World, Below w.heap.size w W → b.B0 ≤ W.heap.size := fun W hW => by have := HF.out.o1; have := hW.size; omega
  have HB0 := Lib.hid hB0
  clear hB0
  go_region_law (first | (refine step_appendEnt1 rfl (.tmp 21) (.tmp 30) rfl b.B0 A3 c3 p (p + 1) ⟨A6, t.n, c6, c, v⟩ Ts rfl rfl HS6.out.2.1.own HTL.out rfl hle hB6 ?_; intro A7 c7 w7 HO7 HG7; have hg7 : w6.grownBy w7 (Value.slice A3 Ts.length c3).ownBlock := (by rw [HTL.out]; exact HG7); have hbx7 := box_keptE HS6.out.2.1.box (by decide) HS6.out.2.1.own hg7; obtain ⟨_, l1, _, l3⟩ := pair_cells hbx7) | (go_simp; go_at_call 34; refine (HCL0.out _ ?b0).mono ?_; (case b0 => first | exact Below.refl _ _ | exact (Below.refl _ _).drew); rintro e w6 ⟨A6, c6, rfl, hO6, hb6⟩; have hw6 : Below w.heap.size w w6 := ⟨hb6.os, hb6.tape, hb6.output, hb6.size, hb6.block⟩; have HO6 : Hid (OwnI w6 w.heap.size 3 A6 c6 c) := hO6; have HS6 := Lib.hid (HST.out _ hw6); have hB6 := HB0.out _ hw6; have HW6 := Lib.hid hw6; obtain ⟨⟨l1, l3⟩, l4, l5⟩ := HS6.out.2.2; have l1' := fun o => cellPast o l1; clear hb6 hO6 hw6))
  all_goals
    go_wp2_with fail
    exact bodyPost_ret (results_none rfl _ _ _) rfl (leaf_end HF.out HS6.out.2.1 HS6.out.1 HO6.out HCL.out ⟨v1, v2⟩ HO7 hg7 HW6.out HTL.out HK.out HC.out HVV.out)
end Go.Proofs.Yteepiifhmbcciaa
/- A region of code that draws its order of evaluation, whose operations up to the last ones only read and call (what they call lays new blocks at most): one walk in the text's order serves every order; the last ones are walked behind it, in whatever world the class allows. Nothing is claimed of the program here. -/
namespace Go.Proofs.Yteepiifhmbcciaa
open Go.Sort Go.RowKit

section
variable {P : Program} {ops : Array Oper} {md : Region.Mode} {C : World → Prop}
/-- whatever order of the first n operations is picked, each of them is quiet in the class -/
def headQ (P : Program) (md : Region.Mode) (ops : Array Oper) (C : World → Prop) (n : Nat) (L : Array Bool → Act → Prop) : Nat → Array Bool → Act → Prop
  | 0, listed, a => L listed a
  | f + 1, listed, a => Region.ready md ops listed ≠ [] ∧ ∀ i ∈ Region.ready md ops listed, i < n ∧ qOp P ops C i (headQ P md ops C n L f (listed.setIfInBounds i true)) a
theorem any_of_headQ {n g : Nat} {L : Array Bool → Act → Prop} {Q' : Exit → Act → World → Prop} (hL : ∀ listed a w, C w → L listed a → wpAny P md ops Q' g listed a w) :
    ∀ (f : Nat) (listed : Array Bool) (a : Act) (w : World), C w → headQ P md ops C n L f listed a → wpAny P md ops Q' (f + g) listed a w := by
  intro f
  induction f with
  | zero => intro listed a w hw h; rw [Nat.zero_add]; exact hL _ _ _ hw h
  | succ f ih =>
    intro listed a w hw h
    rw [show f + 1 + g = (f + g) + 1 by omega]
    exact ⟨fun h0 => absurd h0 h.1, fun i hi => wpOp_of_qOp hw (fun a' w' hw' h' => ih _ a' w' hw' h') (h.2 i hi).2⟩
theorem headQ_first {n i : Nat} {oi : Oper} {v : Value} {L : Array Bool → Act → Prop} (hi : ops[i]? = some oi) (hsel : ∀ (j : Nat) (o : Oper) cs b, ops[j]? = some o → o.op ≠ .select cs b)
    (hs : Region.sinkB md ops n = true) (hc : Region.chainB md ops n = true) (hn : n < ops.size) (hin : i < n)
    (hdone : ∀ listed a, L listed a → ∀ j ∈ Region.ready md ops listed, n ≤ j) (f : Nat) :
    ∀ (listed : Array Bool) (a : Act), HeadInv md ops n listed →
      (∀ j oj, ops[j]? = some oj → j ≠ i → listed.getD j true = false → (∀ e ∈ oj.after, Region.binds md e = true → e.on ≠ i) → oi.apart ops oj = true) →
      i ∈ Region.ready md ops listed → YieldsIn P ops C oi v a →
      headQ P md ops C n L f (listed.setIfInBounds i true) (a.put oi.dst v) → headQ P md ops C n L (f + 1) listed a := by
  induction f with
  | zero =>
    intro listed a inv _ hr hy H
    have hun := (mem_ready.1 hr).1
    refine ⟨fun h => (by rw [h] at hr; cases hr), fun j hj => ?_⟩
    have hjn : j < n := Nat.lt_of_not_le fun h => tail_waits hs hc hn inv _ i rfl hin hun j h hj
    refine ⟨hjn, ?_⟩
    by_cases hji : j = i
    · subst hji; exact hy.qOp hi H
    · have := hdone _ _ H j (ready_mono hj hji)
      omega
  | succ f ih =>
    intro listed a inv hfree hr hy H
    have hun := (mem_ready.1 hr).1
    refine ⟨fun h => (by rw [h] at hr; cases hr), fun j hj => ?_⟩
    have hjn : j < n := Nat.lt_of_not_le fun h => tail_waits hs hc hn inv _ i rfl hin hun j h hj
    refine ⟨hjn, ?_⟩
    by_cases hji : j = i
    · subst hji; exact hy.qOp hi H
    · obtain ⟨hjun, oj, hoj, hall⟩ := mem_ready.1 hj
      have hnot : ∀ e ∈ oj.after, Region.binds md e = true → e.on ≠ i := fun e he hb heq => by
        have h1 := hall e he hb
        rw [heq, getD_both hun] at h1
        cases h1
      have h2 := qOp_put hoj (hfree j oj hoj hji hjun hnot) (fun cs b => hsel i oi cs b hi) (fun cs b => hsel j oj cs b hoj) hy (H.2 j (ready_mono hj hji)).2
      refine qOp_mono (fun a' h3 => ih (listed.setIfInBounds j true) a' (inv.set hj hjn) (fun k ok hk hki hk2 hno => hfree k ok hk hki ?_ hno) (ready_mono hr (Ne.symm hji)) h3.1 ?_) h2
      · by_cases hjk : j = k
        · subst hjk; exact hjun
        · rw [getD_set_ne true hjk] at hk2; exact hk2
      · rw [Array.setIfInBounds_comm _ _ hji]
        exact h3.2
theorem headQ_lex {n g : Nat} {Lq : Act → Prop} (hsel : Region.noSelect ops = true) (hs : Region.sinkB md ops n = true) (hc : Region.chainB md ops n = true) (hn : n < ops.size) (l : List Oper) :
    ∀ (k : Nat) (listed : Array Bool) (a : Act), (∀ j, j < l.length → l[j]? = ops[k + j]?) → k + l.length = n → HeadInv md ops n listed →
    Region.lexHead md ops g l.length k listed = true → wpQuiet P ops C Lq l a →
    headQ P md ops C n (fun listed' a' => Region.seqB md ops g n listed' = true ∧ Lq a') l.length listed a := by
  induction l with
  | nil =>
    intro k listed a _ hk _ hB h
    have : k = n := by simpa using hk
    subst this
    exact ⟨by simpa [Region.lexHead] using hB, h⟩
  | cons o l ih =>
    intro k listed a hl hk inv hB h
    have h0 : ops[k]? = some o := by simpa using (hl 0 (by simp)).symm
    simp only [List.length_cons, Region.lexHead, Bool.and_eq_true] at hB
    obtain ⟨⟨hr, hf⟩, hB'⟩ := hB
    have hkn : k < n := by simp only [List.length_cons] at hk; omega
    have hr' : k ∈ Region.ready md ops listed := by simpa using hr
    have hst : qOp P ops C k (wpQuiet P ops C Lq l) a := by unfold qOp; simp only [h0]; exact h
    obtain ⟨v, hy, hK⟩ := yieldsIn_of_qOp h0 hst
    refine headQ_first h0 (Region.noSelect_spec hsel) hs hc hn hkn (fun listed' a' hL => seqB_ready hL.1) l.length listed a inv (Region.free_spec h0 hf) hr' hy ?_
    exact ih (k + 1) _ _ (fun j hj => by have := hl (j + 1) (by simp; omega); simpa [Nat.add_assoc, Nat.add_comm 1 j] using this) (by simp only [List.length_cons] at hk; omega) (inv.set hr' hkn) hB' hK
theorem wp_region_quiet_tail {id : Nat} {Q : Exit → Act → World → Prop} {a : Act} {w : World} {l : List Oper} (n : Nat) (hm : P.follows .mixedOrders = true) (hB : Region.lexTailB .any l.toArray n = true) (hC : C { w with drawn := w.drawn + 1 })
    (h : wpQuiet P l.toArray C (fun a' => ∀ w', C w' → wpList P l.toArray Q (l.drop n) a' w') (l.take n) a) : (Code.region id l.toArray true).wp P Q a w := by
  simp only [Region.lexTailB, Bool.and_eq_true, decide_eq_true_eq] at hB
  obtain ⟨⟨⟨⟨hsel, hn⟩, hs⟩, hc⟩, hlex⟩ := hB
  have htl : (l.take n).length = n := by
    have hn' : n < l.length := by simpa using hn
    simp; omega
  have hdl : (l.drop n).length = l.toArray.size - n := by simp
  have inv0 : HeadInv .any l.toArray n (Array.replicate l.toArray.size false) :=
    ⟨by simp, fun j oj _ hl => (by rw [getD_replicate_false] at hl; cases hl), fun t _ ht => getD_in (by simpa using ht) (getD_replicate_false _ _)⟩
  have H := headQ_lex (md := .any) (g := l.toArray.size - n) hsel hs hc hn (l.take n) 0 _ a (fun j hj => by
    have hj' : j < n := by rw [htl] at hj; exact hj
    simp [hj']) (by simpa using htl) inv0 (by rw [htl]; exact hlex) h
  refine wp_region_any hm ?_
  have := any_of_headQ (Q' := Q) (g := l.toArray.size - n) (fun listed a' w' hw' hL => by
    have := wpAny_of_seq (md := .any) (Q' := Q) (l.drop n) n listed a' w' (fun j => by simp [List.getElem?_drop]) (by rw [hdl]; exact hL.1) (hL.2 w' hw')
    rwa [hdl] at this) _ _ _ _ hC H
  rw [htl, show n + (l.toArray.size - n) = l.toArray.size by omega] at this
  exact this
/-- at the class 'new blocks at most' -/
theorem wp_region_below_tail {id : Nat} {Q : Exit → Act → World → Prop} {a : Act} {w : World} {l : List Oper} (n : Nat) (hm : P.follows .mixedOrders = true) (hB : Region.lexTailB .any l.toArray n = true)
    (h : wpQuiet P l.toArray (fun w' => ∃ p : Regrown, w' = grow (redrawn w p.d) p.os) (fun a' => ∀ w', (∃ p : Regrown, w' = grow (redrawn w p.d) p.os) → wpList P l.toArray Q (l.drop n) a' w') (l.take n) a) : (Code.region id l.toArray true).wp P Q a w :=
  wp_region_quiet_tail (C := fun w' => ∃ p : Regrown, w' = grow (redrawn w p.d) p.os) n hm hB ⟨⟨w.drawn + 1, #[]⟩, by rw [grow_empty]; rfl⟩ h
end
end Go.Proofs.Yteepiifhmbcciaa
