/- The contract of the document's Make, at packed and loose levels. -/
import Derived.Test.YtanbhpdobpiafaaLRefC
import Derived.Test.YtanbhpdobpiafaaLMakeE
namespace Go.Proofs.Ytanbhpdobpiafaa
open Go.RowKit

theorem setAt2 {W : World} {g : Nat} {u0 u1 u2 u3 : Value} {t : TypeId} (h : W.heap[g]? = some (.cells #[u0, u1, u2, u3] t (0, 0))) (v2 : Value) :
    (W.setCell ⟨g, 2, none⟩ v2).heap[g]? = some (.cells #[u0, u1, v2, u3] t (0, 0)) := by
  simp only [World.setCell, Array.getElem?_modify, if_true, h]
  rfl
theorem size_set (W : World) (p : Addr) (v : Value) : (W.setCell p v).heap.size = W.heap.size := by simp [World.setCell]
theorem lvBelow2 (w : World) {B : Nat} (hB : B ≤ w.heap.size) (o : Obj) : Below B w (w.alloc o) := (Below.refl _ _).alloc hB _
theorem own_lit (W : World) (v : Int) (base : Nat) (hb : base ≤ W.heap.size) (hv : -9223372036854775808 ≤ v ∧ v ≤ 9223372036854775807) : OwnI (W.alloc (.cells #[.int .i64 v] 3)) base 3 (some ⟨W.heap.size, 0, none⟩) 1 [v] :=
  ⟨⟨rfl, .inr ⟨W.heap.size, 1, #[.int .i64 v], rfl, hb, heap_alloc_new W _, Nat.le_refl _, by unfold maxLen; omega, rfl, rfl⟩⟩, by simpa using hv⟩

set_option maxRecDepth 100000 in
set_option maxHeartbeats 4000000 in
theorem refMake_p1 (S : Int) (A : Option Addr) (n c : Nat) (LL : List (List Int)) (w : World) (h : IntsLL w w.heap.size A n LL) (hn : n ≤ 5000) (hT : LL.flatten.length ≤ 70000) :
    Calls Try.prog 27 #[.int .i64 1, .int .i64 S, .slice A n c] w (MakePost w 1 S LL) := by
  have hK : (1 : Int) = 1 ∨ (1 : Int) = 2 := by omega
  have hmp : mkPos 1 LL = posTo LL n := by unfold mkPos; rw [if_pos hK, h.1]
  have hmc : mkCrd 1 LL = LL.flatten := by unfold mkCrd; rw [if_pos (by omega)]
  have hE : makeE 1 S LL = lvF 1 S (posTo LL n) LL.flatten n := by rw [makeE_lv (by omega), hmp, hmc, h.1]
  have hfl : LL.flatten.length = lenTo LL n := by rw [← lenTo_all, h.1]
  have HPL := Lib.hid (posTo_length LL)
  have HMP := Lib.hid hmp
  have HMC := Lib.hid hmc
  have HEE := Lib.hid hE
  have HFL := Lib.hid hfl
  have HLN : Hid (LL.length = n) := h.1
  have HTT : Hid (∀ k, k ≤ n → lenTo LL k ≤ 70000) := fun k hk => by have := lenTo_le LL hk; omega
  have HP0 : Hid (posTo LL 0 = [0]) := rfl
  obtain ⟨i0, hi0, hz0, hz1, hz2⟩ := info_parts infoInt
  have y0 := lvBelow w (lvO 0 0 none 0 0 none 0 0)
  have y1 := y0.alloc y0.size (lvO 1 S (some ⟨w.heap.size + 1 + 1, 0, none⟩) 1 1 none 0 0)
  have y2 := y1.alloc y1.size (.cells #[.int .i64 0] 3)
  have q0 := zz_one w (lvO 0 0 none 0 0 none 0 0) (lvO 1 S (some ⟨w.heap.size + 1 + 1, 0, none⟩) 1 1 none 0 0)
  have q1 := zz_two w (lvO 0 0 none 0 0 none 0 0) (lvO 1 S (some ⟨w.heap.size + 1 + 1, 0, none⟩) 1 1 none 0 0)
  have hb9 := lvBelow ((w.alloc (lvO 0 0 none 0 0 none 0 0)).alloc (lvO 1 S (some ⟨w.heap.size + 1 + 1, 0, none⟩) 1 1 none 0 0)) (.cells #[.int .i64 0] 3)
  replace q0 := oKeep hb9 q0
  replace q1 := oKeep hb9 q1
  have ho := own_lit ((w.alloc (lvO 0 0 none 0 0 none 0 0)).alloc (lvO 1 S (some ⟨w.heap.size + 1 + 1, 0, none⟩) 1 1 none 0 0)) 0 (w.heap.size + 1 + 1) (by simp) (by omega)
  simp only [World.size_alloc] at ho
  have HO0 := Lib.hid ho
  clear hmp hmc hE hfl hT hK ho hb9 y0 y1
  go_enter Try.func27, Try.ntmps27
  go_wp2_with fail
  go_loopw [46] (fun i wr => ∃ (k s : Nat) (A1 : Option Addr) (c1 : Nat) (A2 : Option Addr) (c2 : Nat), i = .int .i64 (k : Int) ∧ k ≤ n ∧ Hid (lenTo LL k = s) ∧ wr.heap[w.heap.size]? = some (lvO 0 0 none 0 0 none 0 0) ∧ wr.heap[w.heap.size + 1]? = some (lvO 1 S A1 (k + 1) c1 A2 s c2) ∧ Hid (OwnI wr (w.heap.size + 1 + 1) 3 A1 c1 (posTo LL k)) ∧ Hid (OwnI wr (w.heap.size + 1 + 1) 3 A2 c2 (LL.take k).flatten) ∧ Hid (Apart A1 A2) ∧ Below w.heap.size w wr ∧ w.heap.size + 1 + 1 ≤ wr.heap.size) (fun i _ => n - (intOf i).toNat)
  case atStart => exact ⟨0, 0, _, _, none, 0, rfl, Nat.zero_le _, rfl, q0, q1, by unfold Hid; rw [HP0.out]; exact HO0.out, by unfold Hid; simp only [List.take_zero, List.flatten_nil]; exact OwnI.nil_ _ _ _, (by unfold Hid; intro g _ hh; cases hh), y2, by simp⟩
  case round =>
    clear q0 q1 HO0 y2
    obtain ⟨k, s, A1, c1, A2, c2, rfl, hk, HS, r0, r1, HO1, HO2, HAP, hb, hsz⟩ := hrel
    obtain ⟨k0, k1, k2, k3, f0, f1, f2, f3⟩ := lvCells r1
    have hs7 : s ≤ 70000 := by have := HTT.out k hk; have := HS.out; omega
    by_cases hlt : k < n
    · obtain ⟨b, off, L, aL, cL, hA0, _, HX, hc, hcap, hI⟩ := (h.below hb).at_ hlt
      have hLs := lenTo_succ HX.out
      have HFS := Lib.hid (flat_succ HX.out)
      obtain ⟨lL, hlL⟩ : ∃ l, L.length = l := ⟨_, rfl⟩
      rw [hlL] at hc hcap hI hLs
      rw [HS.out] at hLs
      have hs8 : s + lL ≤ 70000 := by have := HTT.out (k + 1) (by omega); omega
      have HLS := Lib.hid hLs
      have HN1 : Hid ((LL.take k).flatten.length = s) := HS
      have HPN := Lib.hid (HPL.out k)
      have HFSN := Lib.hid (posTo_succ LL k)
      have hfit : -9223372036854775808 ≤ ((s + lL : Nat) : Int) ∧ ((s + lL : Nat) : Int) ≤ 9223372036854775807 := by omega
      clear hLs hlL
      subst hA0
      go_wp2_with (first | (at_builtin; refine wpList_appendWhere _ rfl (.tmp 51) (.tmp 52) 22 rfl (w.heap.size + 1 + 1) 3 i0 Try.underlying22 hi0 hz0 hz1 hz2 A2 aL c2 lL cL w.heap.size s (s + lL) (LL.take k).flatten L rfl rfl HO2.out HN1.out rfl hI (by omega) hsz ?_; intro A4 c4 w4 HO4 HG4 HW4; have hbA := below_app (Below.refl (w.heap.size + 1 + 1) wr) HG4 HO2.out HN1.out hsz; have HO1a := HO1.out.grownL HG4 (fun g hg => own_block_neL HO2.out HN1.out (HAP.out g hg)); have HAP4 := Lib.hid (HAP.out.grow HO1.out (Nat.le_refl _) HW4); have r4 := (hbA.block (w.heap.size + 1) (by omega)).trans r1; have r5 := (hbA.block w.heap.size (by omega)).trans r0; obtain ⟨l0, l1, l2, l3, m0, m1, m2, m3⟩ := lvCells r4; have hz4 := hbA.size; have hbB := hb.trans (hbA.mono (by omega)); have HO4s := Lib.hid (HO4.setBelow (a := ⟨w.heap.size + 1, 3, none⟩) (Nat.lt_succ_self _) (.slice A4 (s + lL) c4)); have HO1s := Lib.hid (HO1a.setBelow (a := ⟨w.heap.size + 1, 3, none⟩) (Nat.lt_succ_self _) (.slice A4 (s + lL) c4)); have r4s := set1 r4 (.slice A4 (s + lL) c4); have r5s := keep1 r5 (g := w.heap.size + 1) (by omega) 3 (.slice A4 (s + lL) c4); have hbS := hbB.setCell (p := ⟨w.heap.size + 1, 3, none⟩) (Nat.le_succ _) (.slice A4 (s + lL) c4); clear HO4 HG4 HW4 HO1a k0 k1 k2 k3 f0 f1 f2 f3) | (at_builtin; refine wpList_appendWhere _ rfl (.tmp 56) (.tmp 60) 22 rfl (w.heap.size + 1 + 1) 3 i0 Try.underlying22 hi0 hz0 hz1 hz2 A1 (some ⟨w4.heap.size, 0, none⟩) c1 1 1 (w4.heap.size + 1) (k + 1) (k + 1 + 1) (posTo LL k) [((s + lL : Nat) : Int)] rfl rfl (HO1s.out.alloc _) HPN.out rfl (by have := src_new (t := 3) (w4.setCell ⟨w.heap.size + 1, 3, none⟩ (.slice A4 (s + lL) c4)) hfit; rwa [size_set] at this) (by omega) (by rw [World.size_alloc, size_set]; omega) ?_; intro A6 c6 w6 HO6 HG6 HW6; have hbC := below_app (lvBelow2 (w4.setCell ⟨w.heap.size + 1, 3, none⟩ (.slice A4 (s + lL) c4)) (by rw [size_set]; omega) (.cells #[.int .i64 ((s + lL : Nat) : Int)] 3)) HG6 (HO1s.out.alloc _) HPN.out (by rw [World.size_alloc, size_set]; omega); have HO5 := (HO4s.out.alloc (.cells #[.int .i64 ((s + lL : Nat) : Int)] 3)).grownL HG6 (fun g hg => own_block_neL (HO1s.out.alloc (.cells #[.int .i64 ((s + lL : Nat) : Int)] 3)) HPN.out (HAP4.out.symm g hg)); have HAP6 := Lib.hid ((HAP4.out.symm.grow HO4s.out (by rw [World.size_alloc]; omega) HW6).symm); have r6 := (hbC.block (w.heap.size + 1) (by omega)).trans r4s; have r7 := (hbC.block w.heap.size (by omega)).trans r5s; obtain ⟨p0, p1, p2, p3, n0, n1, n2, n3⟩ := lvCells r6; have hz6 := hbC.size; have hbD := hbS.trans (hbC.mono (by omega)); have HO6s := Lib.hid (HO6.setBelow (a := ⟨w.heap.size + 1, 2, none⟩) (Nat.lt_succ_self _) (.slice A6 (k + 1 + 1) c6)); have HO5s := Lib.hid (HO5.setBelow (a := ⟨w.heap.size + 1, 2, none⟩) (Nat.lt_succ_self _) (.slice A6 (k + 1 + 1) c6)); have r6s := setAt2 r6 (.slice A6 (k + 1 + 1) c6); have r7s := keep1 r7 (g := w.heap.size + 1) (by omega) 2 (.slice A6 (k + 1 + 1) c6); have hbE := hbD.setCell (p := ⟨w.heap.size + 1, 2, none⟩) (Nat.le_succ _) (.slice A6 (k + 1 + 1) c6); rw [size_set] at hz6; clear HO6 HG6 HW6 HO5 l0 l1 l2 l3 m0 m1 m2 m3))
      go_roundw
      case rel => exact ⟨k + 1, s + lL, A6, c6, A4, c4, by go_num, by omega, HLS, r7s, r6s, by unfold Hid; rw [HFSN.out, HLS.out]; exact HO6s.out, by unfold Hid; rw [HFS.out]; exact HO5s.out, HAP6, hbE, by rw [size_set]; omega⟩
      case measure => simp [intOf]; omega
    · obtain rfl : n = k := by omega
      have HFE : Hid (LL.flatten = (LL.take n).flatten) := by unfold Hid; rw [List.take_of_length_le (by rw [HLN.out]; omega)]
      have o1 := HO1.out
      have o2 := HO2.out
      rw [← HFE.out] at o2
      have HLF : Hid (LL.flatten.length = s) := by unfold Hid; rw [HFL.out]; exact HS.out
      have hI : LvI wr A1 (n + 1) A2 s (posTo LL n) LL.flatten := ⟨by have := o1.ints; rwa [HPL.out] at this, by have := o2.ints; rwa [HLF.out] at this, by omega, by omega⟩
      have HC := lvRefCheck_any 1 S n A1 A2 (n + 1) c1 s c2 (posTo LL n) LL.flatten wr hI (by omega) (by omega)
      rw [← HEE.out] at HC
      obtain ⟨E, hEE⟩ : ∃ E, makeE 1 S LL = E := ⟨_, rfl⟩
      rw [hEE] at HC
      have HEV := Lib.hid hEE
      have O1 := Lib.hid o1
      have O2 := Lib.hid o2
      clear hEE HEE hI o1 o2 HO1 HO2
      go_wp2_with fail
      refine HC.mono ?_
      rintro x w5 ⟨rfl, hb5⟩
      have t5 := oKeep hb5 r1
      have t6 := oKeep hb5 r0
      have hb6 := hb.trans (hb5.mono hb.size)
      obtain ⟨p0, p1, p2, p3, _⟩ := lvCells t5
      obtain ⟨u0, u1, u2, u3, g0, g1, g2, g3⟩ := lvCells t6
      have O3 := Lib.hid (O1.out.below hb5 (Nat.le_refl _))
      have O4 := Lib.hid (O2.out.below hb5 (Nat.le_refl _))
      by_cases h0 : E = 0
      · subst h0
        go_wp2_with fail
        obtain ⟨v0, v1, v2, v3, _⟩ := lvCells (set4 t6 (.int .i64 1) (.int .i64 S) (.slice A1 (n + 1) c1) (.slice A2 s c2))
        refine bodyPost_ret (v := .tuple #[lvV 1 S A1 (n + 1) c1 A2 s c2, .int .i64 0]) (by simp [results, Try.results27, go_sem, v0, v1, v2, v3]) rfl (.inl ⟨HEV.out, A1, c1, A2, c2, ret_of (by rw [HMP.out, HMC.out, HPL.out, HLF.out]), ?_, ?_, below4 hb6 (Nat.le_refl _) _ _ _ _⟩)
        · rw [HMP.out]
          exact ((((O3.out.setBelow (a := ⟨w.heap.size, 0, none⟩) (Nat.lt_succ_of_lt (Nat.lt_succ_self _)) _).setBelow (a := ⟨w.heap.size, 1, none⟩) (Nat.lt_succ_of_lt (Nat.lt_succ_self _)) _).setBelow (a := ⟨w.heap.size, 2, none⟩) (Nat.lt_succ_of_lt (Nat.lt_succ_self _)) _).setBelow (a := ⟨w.heap.size, 3, none⟩) (Nat.lt_succ_of_lt (Nat.lt_succ_self _)) _).mono (by omega)
        · rw [HMC.out]
          exact ((((O4.out.setBelow (a := ⟨w.heap.size, 0, none⟩) (Nat.lt_succ_of_lt (Nat.lt_succ_self _)) _).setBelow (a := ⟨w.heap.size, 1, none⟩) (Nat.lt_succ_of_lt (Nat.lt_succ_self _)) _).setBelow (a := ⟨w.heap.size, 2, none⟩) (Nat.lt_succ_of_lt (Nat.lt_succ_self _)) _).setBelow (a := ⟨w.heap.size, 3, none⟩) (Nat.lt_succ_of_lt (Nat.lt_succ_self _)) _).mono (by omega)
      · have e1 : (E == 0) = false := by simpa using h0
        have e2 : (E != 0) = true := by simpa using h0
        have H0 := Lib.hid h0
        clear h0
        go_wp2_with fail
        obtain ⟨v0, v1, v2, v3, _⟩ := lvCells (set4 t6 (.int .i64 0) (.int .i64 0) (.slice none 0 0) (.slice none 0 0))
        exact bodyPost_ret (v := .tuple #[lvV 0 0 none 0 0 none 0 0, .int .i64 E]) (by simp [results, Try.results27, go_sem, v0, v1, v2, v3]) rfl (.inr ⟨by rw [HEV.out]; exact H0.out, ret_of (by rw [HEV.out]), below4 hb6 (Nat.le_refl _) _ _ _ _⟩)

set_option maxRecDepth 100000 in
set_option maxHeartbeats 4000000 in
theorem refMake_p2 (S : Int) (A : Option Addr) (n c : Nat) (LL : List (List Int)) (w : World) (h : IntsLL w w.heap.size A n LL) (hn : n ≤ 5000) (hT : LL.flatten.length ≤ 70000) :
    Calls Try.prog 27 #[.int .i64 2, .int .i64 S, .slice A n c] w (MakePost w 2 S LL) := by
  have hK : (2 : Int) = 1 ∨ (2 : Int) = 2 := by omega
  have hmp : mkPos 2 LL = posTo LL n := by unfold mkPos; rw [if_pos hK, h.1]
  have hmc : mkCrd 2 LL = LL.flatten := by unfold mkCrd; rw [if_pos (by omega)]
  have hE : makeE 2 S LL = lvF 2 S (posTo LL n) LL.flatten n := by rw [makeE_lv (by omega), hmp, hmc, h.1]
  have hfl : LL.flatten.length = lenTo LL n := by rw [← lenTo_all, h.1]
  have HPL := Lib.hid (posTo_length LL)
  have HMP := Lib.hid hmp
  have HMC := Lib.hid hmc
  have HEE := Lib.hid hE
  have HFL := Lib.hid hfl
  have HLN : Hid (LL.length = n) := h.1
  have HTT : Hid (∀ k, k ≤ n → lenTo LL k ≤ 70000) := fun k hk => by have := lenTo_le LL hk; omega
  have HP0 : Hid (posTo LL 0 = [0]) := rfl
  obtain ⟨i0, hi0, hz0, hz1, hz2⟩ := info_parts infoInt
  have y0 := lvBelow w (lvO 0 0 none 0 0 none 0 0)
  have y1 := y0.alloc y0.size (lvO 2 S (some ⟨w.heap.size + 1 + 1, 0, none⟩) 1 1 none 0 0)
  have y2 := y1.alloc y1.size (.cells #[.int .i64 0] 3)
  have q0 := zz_one w (lvO 0 0 none 0 0 none 0 0) (lvO 2 S (some ⟨w.heap.size + 1 + 1, 0, none⟩) 1 1 none 0 0)
  have q1 := zz_two w (lvO 0 0 none 0 0 none 0 0) (lvO 2 S (some ⟨w.heap.size + 1 + 1, 0, none⟩) 1 1 none 0 0)
  have hb9 := lvBelow ((w.alloc (lvO 0 0 none 0 0 none 0 0)).alloc (lvO 2 S (some ⟨w.heap.size + 1 + 1, 0, none⟩) 1 1 none 0 0)) (.cells #[.int .i64 0] 3)
  replace q0 := oKeep hb9 q0
  replace q1 := oKeep hb9 q1
  have ho := own_lit ((w.alloc (lvO 0 0 none 0 0 none 0 0)).alloc (lvO 2 S (some ⟨w.heap.size + 1 + 1, 0, none⟩) 1 1 none 0 0)) 0 (w.heap.size + 1 + 1) (by simp) (by omega)
  simp only [World.size_alloc] at ho
  have HO0 := Lib.hid ho
  clear hmp hmc hE hfl hT hK ho hb9 y0 y1
  go_enter Try.func27, Try.ntmps27
  go_wp2_with fail
  go_loopw [46] (fun i wr => ∃ (k s : Nat) (A1 : Option Addr) (c1 : Nat) (A2 : Option Addr) (c2 : Nat), i = .int .i64 (k : Int) ∧ k ≤ n ∧ Hid (lenTo LL k = s) ∧ wr.heap[w.heap.size]? = some (lvO 0 0 none 0 0 none 0 0) ∧ wr.heap[w.heap.size + 1]? = some (lvO 2 S A1 (k + 1) c1 A2 s c2) ∧ Hid (OwnI wr (w.heap.size + 1 + 1) 3 A1 c1 (posTo LL k)) ∧ Hid (OwnI wr (w.heap.size + 1 + 1) 3 A2 c2 (LL.take k).flatten) ∧ Hid (Apart A1 A2) ∧ Below w.heap.size w wr ∧ w.heap.size + 1 + 1 ≤ wr.heap.size) (fun i _ => n - (intOf i).toNat)
  case atStart => exact ⟨0, 0, _, _, none, 0, rfl, Nat.zero_le _, rfl, q0, q1, by unfold Hid; rw [HP0.out]; exact HO0.out, by unfold Hid; simp only [List.take_zero, List.flatten_nil]; exact OwnI.nil_ _ _ _, (by unfold Hid; intro g _ hh; cases hh), y2, by simp⟩
  case round =>
    clear q0 q1 HO0 y2
    obtain ⟨k, s, A1, c1, A2, c2, rfl, hk, HS, r0, r1, HO1, HO2, HAP, hb, hsz⟩ := hrel
    obtain ⟨k0, k1, k2, k3, f0, f1, f2, f3⟩ := lvCells r1
    have hs7 : s ≤ 70000 := by have := HTT.out k hk; have := HS.out; omega
    by_cases hlt : k < n
    · obtain ⟨b, off, L, aL, cL, hA0, _, HX, hc, hcap, hI⟩ := (h.below hb).at_ hlt
      have hLs := lenTo_succ HX.out
      have HFS := Lib.hid (flat_succ HX.out)
      obtain ⟨lL, hlL⟩ : ∃ l, L.length = l := ⟨_, rfl⟩
      rw [hlL] at hc hcap hI hLs
      rw [HS.out] at hLs
      have hs8 : s + lL ≤ 70000 := by have := HTT.out (k + 1) (by omega); omega
      have HLS := Lib.hid hLs
      have HN1 : Hid ((LL.take k).flatten.length = s) := HS
      have HPN := Lib.hid (HPL.out k)
      have HFSN := Lib.hid (posTo_succ LL k)
      have hfit : -9223372036854775808 ≤ ((s + lL : Nat) : Int) ∧ ((s + lL : Nat) : Int) ≤ 9223372036854775807 := by omega
      clear hLs hlL
      subst hA0
      go_wp2_with (first | (at_builtin; refine wpList_appendWhere _ rfl (.tmp 51) (.tmp 52) 22 rfl (w.heap.size + 1 + 1) 3 i0 Try.underlying22 hi0 hz0 hz1 hz2 A2 aL c2 lL cL w.heap.size s (s + lL) (LL.take k).flatten L rfl rfl HO2.out HN1.out rfl hI (by omega) hsz ?_; intro A4 c4 w4 HO4 HG4 HW4; have hbA := below_app (Below.refl (w.heap.size + 1 + 1) wr) HG4 HO2.out HN1.out hsz; have HO1a := HO1.out.grownL HG4 (fun g hg => own_block_neL HO2.out HN1.out (HAP.out g hg)); have HAP4 := Lib.hid (HAP.out.grow HO1.out (Nat.le_refl _) HW4); have r4 := (hbA.block (w.heap.size + 1) (by omega)).trans r1; have r5 := (hbA.block w.heap.size (by omega)).trans r0; obtain ⟨l0, l1, l2, l3, m0, m1, m2, m3⟩ := lvCells r4; have hz4 := hbA.size; have hbB := hb.trans (hbA.mono (by omega)); have HO4s := Lib.hid (HO4.setBelow (a := ⟨w.heap.size + 1, 3, none⟩) (Nat.lt_succ_self _) (.slice A4 (s + lL) c4)); have HO1s := Lib.hid (HO1a.setBelow (a := ⟨w.heap.size + 1, 3, none⟩) (Nat.lt_succ_self _) (.slice A4 (s + lL) c4)); have r4s := set1 r4 (.slice A4 (s + lL) c4); have r5s := keep1 r5 (g := w.heap.size + 1) (by omega) 3 (.slice A4 (s + lL) c4); have hbS := hbB.setCell (p := ⟨w.heap.size + 1, 3, none⟩) (Nat.le_succ _) (.slice A4 (s + lL) c4); clear HO4 HG4 HW4 HO1a k0 k1 k2 k3 f0 f1 f2 f3) | (at_builtin; refine wpList_appendWhere _ rfl (.tmp 56) (.tmp 60) 22 rfl (w.heap.size + 1 + 1) 3 i0 Try.underlying22 hi0 hz0 hz1 hz2 A1 (some ⟨w4.heap.size, 0, none⟩) c1 1 1 (w4.heap.size + 1) (k + 1) (k + 1 + 1) (posTo LL k) [((s + lL : Nat) : Int)] rfl rfl (HO1s.out.alloc _) HPN.out rfl (by have := src_new (t := 3) (w4.setCell ⟨w.heap.size + 1, 3, none⟩ (.slice A4 (s + lL) c4)) hfit; rwa [size_set] at this) (by omega) (by rw [World.size_alloc, size_set]; omega) ?_; intro A6 c6 w6 HO6 HG6 HW6; have hbC := below_app (lvBelow2 (w4.setCell ⟨w.heap.size + 1, 3, none⟩ (.slice A4 (s + lL) c4)) (by rw [size_set]; omega) (.cells #[.int .i64 ((s + lL : Nat) : Int)] 3)) HG6 (HO1s.out.alloc _) HPN.out (by rw [World.size_alloc, size_set]; omega); have HO5 := (HO4s.out.alloc (.cells #[.int .i64 ((s + lL : Nat) : Int)] 3)).grownL HG6 (fun g hg => own_block_neL (HO1s.out.alloc (.cells #[.int .i64 ((s + lL : Nat) : Int)] 3)) HPN.out (HAP4.out.symm g hg)); have HAP6 := Lib.hid ((HAP4.out.symm.grow HO4s.out (by rw [World.size_alloc]; omega) HW6).symm); have r6 := (hbC.block (w.heap.size + 1) (by omega)).trans r4s; have r7 := (hbC.block w.heap.size (by omega)).trans r5s; obtain ⟨p0, p1, p2, p3, n0, n1, n2, n3⟩ := lvCells r6; have hz6 := hbC.size; have hbD := hbS.trans (hbC.mono (by omega)); have HO6s := Lib.hid (HO6.setBelow (a := ⟨w.heap.size + 1, 2, none⟩) (Nat.lt_succ_self _) (.slice A6 (k + 1 + 1) c6)); have HO5s := Lib.hid (HO5.setBelow (a := ⟨w.heap.size + 1, 2, none⟩) (Nat.lt_succ_self _) (.slice A6 (k + 1 + 1) c6)); have r6s := setAt2 r6 (.slice A6 (k + 1 + 1) c6); have r7s := keep1 r7 (g := w.heap.size + 1) (by omega) 2 (.slice A6 (k + 1 + 1) c6); have hbE := hbD.setCell (p := ⟨w.heap.size + 1, 2, none⟩) (Nat.le_succ _) (.slice A6 (k + 1 + 1) c6); rw [size_set] at hz6; clear HO6 HG6 HW6 HO5 l0 l1 l2 l3 m0 m1 m2 m3))
      go_roundw
      case rel => exact ⟨k + 1, s + lL, A6, c6, A4, c4, by go_num, by omega, HLS, r7s, r6s, by unfold Hid; rw [HFSN.out, HLS.out]; exact HO6s.out, by unfold Hid; rw [HFS.out]; exact HO5s.out, HAP6, hbE, by rw [size_set]; omega⟩
      case measure => simp [intOf]; omega
    · obtain rfl : n = k := by omega
      have HFE : Hid (LL.flatten = (LL.take n).flatten) := by unfold Hid; rw [List.take_of_length_le (by rw [HLN.out]; omega)]
      have o1 := HO1.out
      have o2 := HO2.out
      rw [← HFE.out] at o2
      have HLF : Hid (LL.flatten.length = s) := by unfold Hid; rw [HFL.out]; exact HS.out
      have hI : LvI wr A1 (n + 1) A2 s (posTo LL n) LL.flatten := ⟨by have := o1.ints; rwa [HPL.out] at this, by have := o2.ints; rwa [HLF.out] at this, by omega, by omega⟩
      have HC := lvRefCheck_any 2 S n A1 A2 (n + 1) c1 s c2 (posTo LL n) LL.flatten wr hI (by omega) (by omega)
      rw [← HEE.out] at HC
      obtain ⟨E, hEE⟩ : ∃ E, makeE 2 S LL = E := ⟨_, rfl⟩
      rw [hEE] at HC
      have HEV := Lib.hid hEE
      have O1 := Lib.hid o1
      have O2 := Lib.hid o2
      clear hEE HEE hI o1 o2 HO1 HO2
      go_wp2_with fail
      refine HC.mono ?_
      rintro x w5 ⟨rfl, hb5⟩
      have t5 := oKeep hb5 r1
      have t6 := oKeep hb5 r0
      have hb6 := hb.trans (hb5.mono hb.size)
      obtain ⟨p0, p1, p2, p3, _⟩ := lvCells t5
      obtain ⟨u0, u1, u2, u3, g0, g1, g2, g3⟩ := lvCells t6
      have O3 := Lib.hid (O1.out.below hb5 (Nat.le_refl _))
      have O4 := Lib.hid (O2.out.below hb5 (Nat.le_refl _))
      by_cases h0 : E = 0
      · subst h0
        go_wp2_with fail
        obtain ⟨v0, v1, v2, v3, _⟩ := lvCells (set4 t6 (.int .i64 2) (.int .i64 S) (.slice A1 (n + 1) c1) (.slice A2 s c2))
        refine bodyPost_ret (v := .tuple #[lvV 2 S A1 (n + 1) c1 A2 s c2, .int .i64 0]) (by simp [results, Try.results27, go_sem, v0, v1, v2, v3]) rfl (.inl ⟨HEV.out, A1, c1, A2, c2, ret_of (by rw [HMP.out, HMC.out, HPL.out, HLF.out]), ?_, ?_, below4 hb6 (Nat.le_refl _) _ _ _ _⟩)
        · rw [HMP.out]
          exact ((((O3.out.setBelow (a := ⟨w.heap.size, 0, none⟩) (Nat.lt_succ_of_lt (Nat.lt_succ_self _)) _).setBelow (a := ⟨w.heap.size, 1, none⟩) (Nat.lt_succ_of_lt (Nat.lt_succ_self _)) _).setBelow (a := ⟨w.heap.size, 2, none⟩) (Nat.lt_succ_of_lt (Nat.lt_succ_self _)) _).setBelow (a := ⟨w.heap.size, 3, none⟩) (Nat.lt_succ_of_lt (Nat.lt_succ_self _)) _).mono (by omega)
        · rw [HMC.out]
          exact ((((O4.out.setBelow (a := ⟨w.heap.size, 0, none⟩) (Nat.lt_succ_of_lt (Nat.lt_succ_self _)) _).setBelow (a := ⟨w.heap.size, 1, none⟩) (Nat.lt_succ_of_lt (Nat.lt_succ_self _)) _).setBelow (a := ⟨w.heap.size, 2, none⟩) (Nat.lt_succ_of_lt (Nat.lt_succ_self _)) _).setBelow (a := ⟨w.heap.size, 3, none⟩) (Nat.lt_succ_of_lt (Nat.lt_succ_self _)) _).mono (by omega)
      · have e1 : (E == 0) = false := by simpa using h0
        have e2 : (E != 0) = true := by simpa using h0
        have H0 := Lib.hid h0
        clear h0
        go_wp2_with fail
        obtain ⟨v0, v1, v2, v3, _⟩ := lvCells (set4 t6 (.int .i64 0) (.int .i64 0) (.slice none 0 0) (.slice none 0 0))
        exact bodyPost_ret (v := .tuple #[lvV 0 0 none 0 0 none 0 0, .int .i64 E]) (by simp [results, Try.results27, go_sem, v0, v1, v2, v3]) rfl (.inr ⟨by rw [HEV.out]; exact H0.out, ret_of (by rw [HEV.out]), below4 hb6 (Nat.le_refl _) _ _ _ _⟩)
end Go.Proofs.Ytanbhpdobpiafaa
