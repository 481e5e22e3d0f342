/- The contract of level's Make, at packed, loose and single levels, and at all. -/
import Derived.Test.YtanbhpdobpiafaaLMakeC
namespace Go.Proofs.Ytanbhpdobpiafaa
open Go.RowKit

theorem set2 {W : World} {g : Nat} {u0 u1 u2 u3 : Value} {t : TypeId} (h : W.heap[g]? = some (.cells #[u0, u1, u2, u3] t (0, 0))) (v2 v3 : Value) :
    ((W.setCell ⟨g, 2, none⟩ v2).setCell ⟨g, 3, none⟩ v3).heap[g]? = some (.cells #[u0, u1, v2, v3] t (0, 0)) := by
  simp only [World.setCell, Array.getElem?_modify, if_true, h]
  rfl
theorem set1 {W : World} {g : Nat} {u0 u1 u2 u3 : Value} {t : TypeId} (h : W.heap[g]? = some (.cells #[u0, u1, u2, u3] t (0, 0))) (v3 : Value) :
    (W.setCell ⟨g, 3, none⟩ v3).heap[g]? = some (.cells #[u0, u1, u2, v3] t (0, 0)) := by
  simp only [World.setCell, Array.getElem?_modify, if_true, h]
  rfl
theorem keep1 {W : World} {g g' : Nat} {o : Obj} (h : W.heap[g']? = some o) (hne : g ≠ g') (i : Nat) (v : Value) : (W.setCell ⟨g, i, none⟩ v).heap[g']? = some o := by
  rw [Below.heap_setCell W ⟨g, i, none⟩ v g' (fun e => hne e.symm)]; exact h

set_option maxRecDepth 100000 in
set_option maxHeartbeats 2000000 in
theorem make_p1 (S : Int) (A : Option Addr) (n c : Nat) (LL : List (List Int)) (w : World) (h : IntsLL w w.heap.size A n LL) (hn : n ≤ 5000) (hLb : ∀ L ∈ LL, L.length ≤ 9223372036854775807) (hmay : MayP 1 S n) :
    Calls Try.prog 26 #[.int .i64 1, .int .i64 S, .slice A n c] w (MakePost w 1 S LL) := by
  have hK : (1 : Int) = 1 ∨ (1 : Int) = 2 := by omega
  have HM := fun W => may_any 1 S n W
  rw [pB_t hmay] at HM
  have hmp : mkPos 1 LL = posTo LL n := by unfold mkPos; rw [if_pos hK, h.1]
  have hmc : mkCrd 1 LL = LL.flatten := by unfold mkCrd; rw [if_pos (by omega)]
  have hE : makeE 1 S LL = lvF 1 S (posTo LL n) LL.flatten n := by rw [makeE_lv (by omega), hmp, hmc, h.1]
  have hfl : LL.flatten.length = lenTo LL n := by rw [← lenTo_all, h.1]
  have z0 := lvBelow w (lvO 0 0 none 0 0 none 0 0)
  have z1 := z0.alloc z0.size (lvO 1 S none 0 0 none 0 0)
  have q1 := zz_one w (lvO 0 0 none 0 0 none 0 0) (lvO 1 S none 0 0 none 0 0)
  have q2 := zz_two w (lvO 0 0 none 0 0 none 0 0) (lvO 1 S none 0 0 none 0 0)
  have HJ := joined_any A n c LL _ ((h.below z1).more z1.size) hn hLb
  have hws : ((w.alloc (lvO 0 0 none 0 0 none 0 0)).alloc (lvO 1 S none 0 0 none 0 0)).heap.size = w.heap.size + 1 + 1 := by simp
  have HML : Hid (65536 < lenTo LL n → makeE 1 S LL = 2) := fun hh => makeE_large (by rw [h.1]; exact hmay) hK (by rw [hfl]; exact hh)
  have HPL : Hid ((posTo LL n).length = n + 1) := posTo_length LL n
  have HEE := Lib.hid hE
  have HMP := Lib.hid hmp
  have HMC := Lib.hid hmc
  have HFL := Lib.hid hfl
  have HWS := Lib.hid hws
  clear hmay hmp hmc hE hws hfl hK
  obtain ⟨s, hs⟩ : ∃ s, lenTo LL n = s := ⟨_, rfl⟩
  have HS := Lib.hid hs
  clear hs
  go_enter Try.func26, Try.ntmps26
  go_wp2_with (go_at_call 39; refine (HM _).mono ?_; rintro x w1 ⟨rfl, rfl⟩)
  refine HJ.mono ?_
  rintro x w2 (⟨hle, A1, c1, A2, c2, rfl, HO1, HO2, hb1⟩ | ⟨hgt, rfl, hb1⟩)
  · rw [HS.out] at hle ⊢
    have hb2 := z1.trans (hb1.mono z1.size)
    have r1 := oKeep hb1 q1
    have r2 := oKeep hb1 q2
    obtain ⟨l0, l1, l2, l3, m0, m1, m2, m3⟩ := lvCells r2
    have r3 := keep1 (keep1 r1 (g := w.heap.size + 1) (by omega) 2 (.slice A1 (n + 1) c1)) (g := w.heap.size + 1) (by omega) 3 (.slice A2 s c2)
    have r4 := set2 r2 (.slice A1 (n + 1) c1) (.slice A2 s c2)
    have hO1 := (HO1.setBelow (a := ⟨w.heap.size + 1, 2, none⟩) (by rw [HWS.out]; exact Nat.lt_succ_self _) (.slice A1 (n + 1) c1)).setBelow (a := ⟨w.heap.size + 1, 3, none⟩) (by rw [HWS.out]; exact Nat.lt_succ_self _) (.slice A2 s c2)
    have hO2 := (HO2.setBelow (a := ⟨w.heap.size + 1, 2, none⟩) (by rw [HWS.out]; exact Nat.lt_succ_self _) (.slice A1 (n + 1) c1)).setBelow (a := ⟨w.heap.size + 1, 3, none⟩) (by rw [HWS.out]; exact Nat.lt_succ_self _) (.slice A2 s c2)
    have hb3 := (hb2.setCell (p := ⟨w.heap.size + 1, 2, none⟩) (Nat.le_succ _) (.slice A1 (n + 1) c1)).setCell (p := ⟨w.heap.size + 1, 3, none⟩) (Nat.le_succ _) (.slice A2 s c2)
    have HG : Hid (w.heap.size ≤ ((w.alloc (lvO 0 0 none 0 0 none 0 0)).alloc (lvO 1 S none 0 0 none 0 0)).heap.size) := by unfold Hid; rw [HWS.out]; omega
    obtain ⟨W3, hW3⟩ : ∃ W3, ((w2.setCell ⟨w.heap.size + 1, 2, none⟩ (.slice A1 (n + 1) c1)).setCell ⟨w.heap.size + 1, 3, none⟩ (.slice A2 s c2)) = W3 := ⟨_, rfl⟩
    rw [hW3] at r3 r4 hO1 hO2 hb3
    have i1 := hO1.ints
    have i2 := hO2.ints
    rw [HPL.out] at i1
    rw [HFL.out, HS.out] at i2
    have HC := lvCheck_any 1 S n A1 A2 (n + 1) c1 s c2 (posTo LL n) LL.flatten W3 i1 (by omega) i2 (by omega)
    rw [← HEE.out] at HC
    obtain ⟨E, hEE⟩ : ∃ E, makeE 1 S LL = E := ⟨_, rfl⟩
    rw [hEE] at HC
    have HEV := Lib.hid hEE
    have H3 := Lib.hid hW3
    clear hEE hW3 HEE HJ HO1 HO2 i1 i2 r1
    by_cases h0 : E = 0
    · subst h0
      go_wp2_with fail
      rw [H3.out]
      refine HC.mono ?_
      rintro x w5 ⟨rfl, hb5⟩
      have hb6 := hb3.trans (hb5.mono hb3.size)
      have t5 := oKeep hb5 r4
      have t6 := oKeep hb5 r3
      obtain ⟨a0, a1, a2, a3, n0, n1, n2, n3⟩ := lvCells t5
      obtain ⟨p0, p1, p2, p3, f0, f1, f2, f3⟩ := lvCells t6
      have hO3 := Lib.hid (hO1.below hb5 (Nat.le_refl _))
      have hO4 := Lib.hid (hO2.below hb5 (Nat.le_refl _))
      clear hO1 hO2
      go_wp2
      obtain ⟨t0, t1, t2, t3, _⟩ := lvCells (set4 t6 (.int .i64 1) (.int .i64 S) (.slice A1 (n + 1) c1) (.slice A2 s c2))
      refine bodyPost_ret (v := .tuple #[lvV 1 S A1 (n + 1) c1 A2 s c2, .int .i64 0]) (by simp [results, Try.results26, go_sem, t0, t1, t2, t3]) rfl (.inl ⟨HEV.out, A1, c1, A2, c2, ret_of (by rw [HMP.out, HMC.out, HPL.out, HFL.out, HS.out]), ?_, ?_, below4 hb6 (Nat.le_refl _) _ _ _ _⟩)
      · rw [HMP.out]
        exact ((((hO3.out.setBelow (a := ⟨w.heap.size, 0, none⟩) (by rw [HWS.out]; exact Nat.lt_succ_of_lt (Nat.lt_succ_self _)) _).setBelow (a := ⟨w.heap.size, 1, none⟩) (by rw [HWS.out]; exact Nat.lt_succ_of_lt (Nat.lt_succ_self _)) _).setBelow (a := ⟨w.heap.size, 2, none⟩) (by rw [HWS.out]; exact Nat.lt_succ_of_lt (Nat.lt_succ_self _)) _).setBelow (a := ⟨w.heap.size, 3, none⟩) (by rw [HWS.out]; exact Nat.lt_succ_of_lt (Nat.lt_succ_self _)) _).mono HG.out
      · rw [HMC.out]
        exact ((((hO4.out.setBelow (a := ⟨w.heap.size, 0, none⟩) (by rw [HWS.out]; exact Nat.lt_succ_of_lt (Nat.lt_succ_self _)) _).setBelow (a := ⟨w.heap.size, 1, none⟩) (by rw [HWS.out]; exact Nat.lt_succ_of_lt (Nat.lt_succ_self _)) _).setBelow (a := ⟨w.heap.size, 2, none⟩) (by rw [HWS.out]; exact Nat.lt_succ_of_lt (Nat.lt_succ_self _)) _).setBelow (a := ⟨w.heap.size, 3, none⟩) (by rw [HWS.out]; exact Nat.lt_succ_of_lt (Nat.lt_succ_self _)) _).mono HG.out
    · have e1 : (E == 0) = false := by simpa using h0
      have e2 : (E != 0) = true := by simpa using h0
      have H0 := Lib.hid h0
      clear h0
      go_wp2_with fail
      rw [H3.out]
      refine HC.mono ?_
      rintro x w5 ⟨rfl, hb5⟩
      have hb6 := hb3.trans (hb5.mono hb3.size)
      have t6 := oKeep hb5 r3
      obtain ⟨p0, p1, p2, p3, f0, f1, f2, f3⟩ := lvCells t6
      clear hO1 hO2
      go_wp2
      obtain ⟨t0, t1, t2, t3, _⟩ := lvCells (set4 t6 (.int .i64 0) (.int .i64 0) (.slice none 0 0) (.slice none 0 0))
      exact bodyPost_ret (v := .tuple #[lvV 0 0 none 0 0 none 0 0, .int .i64 E]) (by simp [results, Try.results26, go_sem, t0, t1, t2, t3]) rfl (.inr ⟨by rw [HEV.out]; exact H0.out, ret_of (by rw [HEV.out]), below4 hb6 (Nat.le_refl _) _ _ _ _⟩)
  · have hb2 := z1.trans (hb1.mono z1.size)
    have r1 := oKeep hb1 q1
    have r2 := oKeep hb1 q2
    obtain ⟨l0, l1, l2, l3, m0, m1, m2, m3⟩ := lvCells r2
    have r3 := keep1 (keep1 r1 (g := w.heap.size + 1) (by omega) 2 (.slice none 0 0)) (g := w.heap.size + 1) (by omega) 3 (.slice none 0 0)
    have hb3 := (hb2.setCell (p := ⟨w.heap.size + 1, 2, none⟩) (Nat.le_succ _) (.slice none 0 0)).setCell (p := ⟨w.heap.size + 1, 3, none⟩) (Nat.le_succ _) (.slice none 0 0)
    have HE2 := Lib.hid (HML.out hgt)
    obtain ⟨p0, p1, p2, p3, f0, f1, f2, f3⟩ := lvCells r3
    clear hgt
    go_wp2
    obtain ⟨t0, t1, t2, t3, _⟩ := lvCells (set4 r3 (.int .i64 0) (.int .i64 0) (.slice none 0 0) (.slice none 0 0))
    exact bodyPost_ret (v := .tuple #[lvV 0 0 none 0 0 none 0 0, .int .i64 2]) (by simp [results, Try.results26, go_sem, t0, t1, t2, t3]) rfl (.inr ⟨by rw [HE2.out]; decide, ret_of (by rw [HE2.out]), below4 hb3 (Nat.le_refl _) _ _ _ _⟩)
set_option maxRecDepth 100000 in
set_option maxHeartbeats 2000000 in
theorem make_p2 (S : Int) (A : Option Addr) (n c : Nat) (LL : List (List Int)) (w : World) (h : IntsLL w w.heap.size A n LL) (hn : n ≤ 5000) (hLb : ∀ L ∈ LL, L.length ≤ 9223372036854775807) (hmay : MayP 2 S n) :
    Calls Try.prog 26 #[.int .i64 2, .int .i64 S, .slice A n c] w (MakePost w 2 S LL) := by
  have hK : (2 : Int) = 1 ∨ (2 : Int) = 2 := by omega
  have HM := fun W => may_any 2 S n W
  rw [pB_t hmay] at HM
  have hmp : mkPos 2 LL = posTo LL n := by unfold mkPos; rw [if_pos hK, h.1]
  have hmc : mkCrd 2 LL = LL.flatten := by unfold mkCrd; rw [if_pos (by omega)]
  have hE : makeE 2 S LL = lvF 2 S (posTo LL n) LL.flatten n := by rw [makeE_lv (by omega), hmp, hmc, h.1]
  have hfl : LL.flatten.length = lenTo LL n := by rw [← lenTo_all, h.1]
  have z0 := lvBelow w (lvO 0 0 none 0 0 none 0 0)
  have z1 := z0.alloc z0.size (lvO 2 S none 0 0 none 0 0)
  have q1 := zz_one w (lvO 0 0 none 0 0 none 0 0) (lvO 2 S none 0 0 none 0 0)
  have q2 := zz_two w (lvO 0 0 none 0 0 none 0 0) (lvO 2 S none 0 0 none 0 0)
  have HJ := joined_any A n c LL _ ((h.below z1).more z1.size) hn hLb
  have hws : ((w.alloc (lvO 0 0 none 0 0 none 0 0)).alloc (lvO 2 S none 0 0 none 0 0)).heap.size = w.heap.size + 1 + 1 := by simp
  have HML : Hid (65536 < lenTo LL n → makeE 2 S LL = 2) := fun hh => makeE_large (by rw [h.1]; exact hmay) hK (by rw [hfl]; exact hh)
  have HPL : Hid ((posTo LL n).length = n + 1) := posTo_length LL n
  have HEE := Lib.hid hE
  have HMP := Lib.hid hmp
  have HMC := Lib.hid hmc
  have HFL := Lib.hid hfl
  have HWS := Lib.hid hws
  clear hmay hmp hmc hE hws hfl hK
  obtain ⟨s, hs⟩ : ∃ s, lenTo LL n = s := ⟨_, rfl⟩
  have HS := Lib.hid hs
  clear hs
  go_enter Try.func26, Try.ntmps26
  go_wp2_with (go_at_call 39; refine (HM _).mono ?_; rintro x w1 ⟨rfl, rfl⟩)
  refine HJ.mono ?_
  rintro x w2 (⟨hle, A1, c1, A2, c2, rfl, HO1, HO2, hb1⟩ | ⟨hgt, rfl, hb1⟩)
  · rw [HS.out] at hle ⊢
    have hb2 := z1.trans (hb1.mono z1.size)
    have r1 := oKeep hb1 q1
    have r2 := oKeep hb1 q2
    obtain ⟨l0, l1, l2, l3, m0, m1, m2, m3⟩ := lvCells r2
    have r3 := keep1 (keep1 r1 (g := w.heap.size + 1) (by omega) 2 (.slice A1 (n + 1) c1)) (g := w.heap.size + 1) (by omega) 3 (.slice A2 s c2)
    have r4 := set2 r2 (.slice A1 (n + 1) c1) (.slice A2 s c2)
    have hO1 := (HO1.setBelow (a := ⟨w.heap.size + 1, 2, none⟩) (by rw [HWS.out]; exact Nat.lt_succ_self _) (.slice A1 (n + 1) c1)).setBelow (a := ⟨w.heap.size + 1, 3, none⟩) (by rw [HWS.out]; exact Nat.lt_succ_self _) (.slice A2 s c2)
    have hO2 := (HO2.setBelow (a := ⟨w.heap.size + 1, 2, none⟩) (by rw [HWS.out]; exact Nat.lt_succ_self _) (.slice A1 (n + 1) c1)).setBelow (a := ⟨w.heap.size + 1, 3, none⟩) (by rw [HWS.out]; exact Nat.lt_succ_self _) (.slice A2 s c2)
    have hb3 := (hb2.setCell (p := ⟨w.heap.size + 1, 2, none⟩) (Nat.le_succ _) (.slice A1 (n + 1) c1)).setCell (p := ⟨w.heap.size + 1, 3, none⟩) (Nat.le_succ _) (.slice A2 s c2)
    have HG : Hid (w.heap.size ≤ ((w.alloc (lvO 0 0 none 0 0 none 0 0)).alloc (lvO 2 S none 0 0 none 0 0)).heap.size) := by unfold Hid; rw [HWS.out]; omega
    obtain ⟨W3, hW3⟩ : ∃ W3, ((w2.setCell ⟨w.heap.size + 1, 2, none⟩ (.slice A1 (n + 1) c1)).setCell ⟨w.heap.size + 1, 3, none⟩ (.slice A2 s c2)) = W3 := ⟨_, rfl⟩
    rw [hW3] at r3 r4 hO1 hO2 hb3
    have i1 := hO1.ints
    have i2 := hO2.ints
    rw [HPL.out] at i1
    rw [HFL.out, HS.out] at i2
    have HC := lvCheck_any 2 S n A1 A2 (n + 1) c1 s c2 (posTo LL n) LL.flatten W3 i1 (by omega) i2 (by omega)
    rw [← HEE.out] at HC
    obtain ⟨E, hEE⟩ : ∃ E, makeE 2 S LL = E := ⟨_, rfl⟩
    rw [hEE] at HC
    have HEV := Lib.hid hEE
    have H3 := Lib.hid hW3
    clear hEE hW3 HEE HJ HO1 HO2 i1 i2 r1
    by_cases h0 : E = 0
    · subst h0
      go_wp2_with fail
      rw [H3.out]
      refine HC.mono ?_
      rintro x w5 ⟨rfl, hb5⟩
      have hb6 := hb3.trans (hb5.mono hb3.size)
      have t5 := oKeep hb5 r4
      have t6 := oKeep hb5 r3
      obtain ⟨a0, a1, a2, a3, n0, n1, n2, n3⟩ := lvCells t5
      obtain ⟨p0, p1, p2, p3, f0, f1, f2, f3⟩ := lvCells t6
      have hO3 := Lib.hid (hO1.below hb5 (Nat.le_refl _))
      have hO4 := Lib.hid (hO2.below hb5 (Nat.le_refl _))
      clear hO1 hO2
      go_wp2
      obtain ⟨t0, t1, t2, t3, _⟩ := lvCells (set4 t6 (.int .i64 2) (.int .i64 S) (.slice A1 (n + 1) c1) (.slice A2 s c2))
      refine bodyPost_ret (v := .tuple #[lvV 2 S A1 (n + 1) c1 A2 s c2, .int .i64 0]) (by simp [results, Try.results26, go_sem, t0, t1, t2, t3]) rfl (.inl ⟨HEV.out, A1, c1, A2, c2, ret_of (by rw [HMP.out, HMC.out, HPL.out, HFL.out, HS.out]), ?_, ?_, below4 hb6 (Nat.le_refl _) _ _ _ _⟩)
      · rw [HMP.out]
        exact ((((hO3.out.setBelow (a := ⟨w.heap.size, 0, none⟩) (by rw [HWS.out]; exact Nat.lt_succ_of_lt (Nat.lt_succ_self _)) _).setBelow (a := ⟨w.heap.size, 1, none⟩) (by rw [HWS.out]; exact Nat.lt_succ_of_lt (Nat.lt_succ_self _)) _).setBelow (a := ⟨w.heap.size, 2, none⟩) (by rw [HWS.out]; exact Nat.lt_succ_of_lt (Nat.lt_succ_self _)) _).setBelow (a := ⟨w.heap.size, 3, none⟩) (by rw [HWS.out]; exact Nat.lt_succ_of_lt (Nat.lt_succ_self _)) _).mono HG.out
      · rw [HMC.out]
        exact ((((hO4.out.setBelow (a := ⟨w.heap.size, 0, none⟩) (by rw [HWS.out]; exact Nat.lt_succ_of_lt (Nat.lt_succ_self _)) _).setBelow (a := ⟨w.heap.size, 1, none⟩) (by rw [HWS.out]; exact Nat.lt_succ_of_lt (Nat.lt_succ_self _)) _).setBelow (a := ⟨w.heap.size, 2, none⟩) (by rw [HWS.out]; exact Nat.lt_succ_of_lt (Nat.lt_succ_self _)) _).setBelow (a := ⟨w.heap.size, 3, none⟩) (by rw [HWS.out]; exact Nat.lt_succ_of_lt (Nat.lt_succ_self _)) _).mono HG.out
    · have e1 : (E == 0) = false := by simpa using h0
      have e2 : (E != 0) = true := by simpa using h0
      have H0 := Lib.hid h0
      clear h0
      go_wp2_with fail
      rw [H3.out]
      refine HC.mono ?_
      rintro x w5 ⟨rfl, hb5⟩
      have hb6 := hb3.trans (hb5.mono hb3.size)
      have t6 := oKeep hb5 r3
      obtain ⟨p0, p1, p2, p3, f0, f1, f2, f3⟩ := lvCells t6
      clear hO1 hO2
      go_wp2
      obtain ⟨t0, t1, t2, t3, _⟩ := lvCells (set4 t6 (.int .i64 0) (.int .i64 0) (.slice none 0 0) (.slice none 0 0))
      exact bodyPost_ret (v := .tuple #[lvV 0 0 none 0 0 none 0 0, .int .i64 E]) (by simp [results, Try.results26, go_sem, t0, t1, t2, t3]) rfl (.inr ⟨by rw [HEV.out]; exact H0.out, ret_of (by rw [HEV.out]), below4 hb6 (Nat.le_refl _) _ _ _ _⟩)
  · have hb2 := z1.trans (hb1.mono z1.size)
    have r1 := oKeep hb1 q1
    have r2 := oKeep hb1 q2
    obtain ⟨l0, l1, l2, l3, m0, m1, m2, m3⟩ := lvCells r2
    have r3 := keep1 (keep1 r1 (g := w.heap.size + 1) (by omega) 2 (.slice none 0 0)) (g := w.heap.size + 1) (by omega) 3 (.slice none 0 0)
    have hb3 := (hb2.setCell (p := ⟨w.heap.size + 1, 2, none⟩) (Nat.le_succ _) (.slice none 0 0)).setCell (p := ⟨w.heap.size + 1, 3, none⟩) (Nat.le_succ _) (.slice none 0 0)
    have HE2 := Lib.hid (HML.out hgt)
    obtain ⟨p0, p1, p2, p3, f0, f1, f2, f3⟩ := lvCells r3
    clear hgt
    go_wp2
    obtain ⟨t0, t1, t2, t3, _⟩ := lvCells (set4 r3 (.int .i64 0) (.int .i64 0) (.slice none 0 0) (.slice none 0 0))
    exact bodyPost_ret (v := .tuple #[lvV 0 0 none 0 0 none 0 0, .int .i64 2]) (by simp [results, Try.results26, go_sem, t0, t1, t2, t3]) rfl (.inr ⟨by rw [HE2.out]; decide, ret_of (by rw [HE2.out]), below4 hb3 (Nat.le_refl _) _ _ _ _⟩)
end Go.Proofs.Ytanbhpdobpiafaa
