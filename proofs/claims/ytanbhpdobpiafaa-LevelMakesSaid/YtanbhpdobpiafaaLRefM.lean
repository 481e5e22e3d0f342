/- The contract of the document's Make, at single levels, and at all. -/
import Derived.Test.YtanbhpdobpiafaaLRefK
import Derived.StillTailTactics
namespace Go.Proofs.Ytanbhpdobpiafaa
open Go.RowKit

set_option maxRecDepth 100000 in
set_option maxHeartbeats 4000000 in
theorem refMake_flat (K S : Int) (A : Option Addr) (n c : Nat) (LL : List (List Int)) (w : World) (h : IntsLL w w.heap.size A n LL) (hK : K ≠ 1 ∧ K ≠ 2 ∧ K ≠ 3) :
    Calls Try.prog 27 #[.int .i64 K, .int .i64 S, .slice A n c] w (MakePost w K S LL) := by
  have hmp : mkPos K LL = [] := by unfold mkPos; rw [if_neg (by omega)]
  have hmc : mkCrd K LL = [] := by unfold mkCrd; rw [if_neg (by omega)]
  have hE : makeE K S LL = lvF K S [] [] n := by rw [makeE_lv (by omega), hmp, hmc, h.1]
  have HC := fun W => lvRefCheck_any K S n none none 0 0 0 0 [] [] W ⟨Ints.nil_, Ints.nil_, by omega, by omega⟩ (by omega) (by omega)
  rw [← hE] at HC
  have z0 := lvBelow w (lvO 0 0 none 0 0 none 0 0)
  have z1 := z0.alloc z0.size (lvO K S none 0 0 none 0 0)
  have q1 := zz_one w (lvO 0 0 none 0 0 none 0 0) (lvO K S none 0 0 none 0 0)
  have q2 := zz_two w (lvO 0 0 none 0 0 none 0 0) (lvO K S none 0 0 none 0 0)
  obtain ⟨E, hEE⟩ : ∃ E, makeE K S LL = E := ⟨_, rfl⟩
  rw [hEE] at HC
  have HEE := Lib.hid hEE
  have HMP := Lib.hid hmp
  have HMC := Lib.hid hmc
  have k1 : (K == 1) = false := by simp; omega
  have k2 : (K == 2) = false := by simp; omega
  have k3 : (K == 3) = false := by simp; omega
  clear hmp hmc hE hEE hK
  by_cases h0 : E = 0
  · subst h0
    go_enter Try.func27, Try.ntmps27
    go_wp2_with fail
    refine (HC _).mono ?_
    rintro x w1 ⟨rfl, hb1⟩
    have hb2 := z1.trans (hb1.mono z1.size)
    have r1 := oKeep hb1 q1
    obtain ⟨l0, l1, l2, l3, _⟩ := lvCells (oKeep hb1 q2)
    obtain ⟨p0, p1, p2, p3, f0, f1, f2, f3⟩ := lvCells r1
    go_wp2_with fail
    obtain ⟨t0, t1, t2, t3, _⟩ := lvCells (set4 r1 (.int .i64 K) (.int .i64 S) (.slice none 0 0) (.slice none 0 0))
    exact bodyPost_ret (v := .tuple #[lvV K S none 0 0 none 0 0, .int .i64 0]) (by simp [results, Try.results27, go_sem, t0, t1, t2, t3]) rfl (.inl ⟨HEE.out, none, 0, none, 0, ret_of (by rw [HMP.out, HMC.out]; rfl), by rw [HMP.out]; exact OwnI.nil_ _ _ _, by rw [HMC.out]; exact OwnI.nil_ _ _ _, below4 hb2 (Nat.le_refl _) _ _ _ _⟩)
  · have e1 : (E == 0) = false := by simpa using h0
    have e2 : (E != 0) = true := by simpa using h0
    have H0 := Lib.hid h0
    clear h0
    go_enter Try.func27, Try.ntmps27
    go_wp2_with fail
    refine (HC _).mono ?_
    rintro x w1 ⟨rfl, hb1⟩
    have hb2 := z1.trans (hb1.mono z1.size)
    have r1 := oKeep hb1 q1
    obtain ⟨p0, p1, p2, p3, f0, f1, f2, f3⟩ := lvCells r1
    go_wp2_with fail
    obtain ⟨t0, t1, t2, t3, _⟩ := lvCells (set4 r1 (.int .i64 0) (.int .i64 0) (.slice none 0 0) (.slice none 0 0))
    exact bodyPost_ret (v := .tuple #[lvV 0 0 none 0 0 none 0 0, .int .i64 E]) (by simp [results, Try.results27, go_sem, t0, t1, t2, t3]) rfl (.inr ⟨by rw [HEE.out]; exact H0.out, ret_of (by rw [HEE.out]), below4 hb2 (Nat.le_refl _) _ _ _ _⟩)

set_option maxRecDepth 100000 in
set_option maxHeartbeats 4000000 in
theorem refMake_single (S : Int) (A : Option Addr) (n c : Nat) (LL : List (List Int)) (w : World) (h : IntsLL w w.heap.size A n LL) (hn : n ≤ 5000) (hLb : ∀ L ∈ LL, L.length ≤ 9223372036854775807) :
    Calls Try.prog 27 #[.int .i64 3, .int .i64 S, .slice A n c] w (MakePost w 3 S LL) := by
  have hmp : mkPos 3 LL = [] := by unfold mkPos; rw [if_neg (by omega)]
  have hmc : mkCrd 3 LL = LL.flatten := by unfold mkCrd; rw [if_pos (by omega)]
  have hE : AllOne LL → makeE 3 S LL = lvF 3 S [] LL.flatten n := fun ha => by rw [makeE_lv (fun _ => ha), hmp, hmc, h.1]
  have HMP := Lib.hid hmp
  have HMC := Lib.hid hmc
  have HEE := Lib.hid hE
  have HLN : Hid (LL.length = n) := h.1
  have HLB := Lib.hid hLb
  obtain ⟨i0, hi0, hz0, hz1, hz2⟩ := info_parts infoInt
  have y0 := lvBelow w (lvO 0 0 none 0 0 none 0 0)
  have y1 := y0.alloc y0.size (lvO 3 S none 0 0 none 0 0)
  have q0 := zz_one w (lvO 0 0 none 0 0 none 0 0) (lvO 3 S none 0 0 none 0 0)
  have q1 := zz_two w (lvO 0 0 none 0 0 none 0 0) (lvO 3 S none 0 0 none 0 0)
  clear hmp hmc hE y0 hLb
  go_enter Try.func27, Try.ntmps27
  go_wp2_with fail
  go_loopw [22] (fun i wr => ∃ (k : Nat) (A2 : Option Addr) (c2 : Nat), i = .int .i64 (k : Int) ∧ k ≤ n ∧ Hid (AllOne (LL.take k)) ∧ Hid ((LL.take k).flatten.length = k) ∧ wr.heap[w.heap.size]? = some (lvO 0 0 none 0 0 none 0 0) ∧ wr.heap[w.heap.size + 1]? = some (lvO 3 S none 0 0 A2 k c2) ∧ Hid (OwnI wr (w.heap.size + 1 + 1) 3 A2 c2 (LL.take k).flatten) ∧ Below w.heap.size w wr ∧ w.heap.size + 1 + 1 ≤ wr.heap.size) (fun i _ => n - (intOf i).toNat)
  case atStart => exact ⟨0, none, 0, rfl, Nat.zero_le _, (by unfold Hid; intro L hL; simp at hL), by unfold Hid; simp, q0, q1, by unfold Hid; simp only [List.take_zero, List.flatten_nil]; exact OwnI.nil_ _ _ _, y1, by simp⟩
  case round =>
    clear q0 q1 y1
    obtain ⟨k, A2, c2, rfl, hk, HAO, HLK, r0, r1, HO2, hb, hsz⟩ := hrel
    obtain ⟨k0, k1, k2, k3, f0, f1, f2, f3⟩ := lvCells r1
    by_cases hlt : k < n
    · obtain ⟨b, off, L, aL, cL, hA0, _, HX, hc, hcap, hI⟩ := (h.below hb).at_ hlt
      have hLm := HLB.out L (List.mem_of_getElem? HX.out)
      have hfs := flat_succ HX.out
      subst hA0
      by_cases h1 : L.length = 1
      · rw [h1] at hc hcap hI
        obtain ⟨b2, off2, y, rfl, _, HY, hcy, hy1, hy2⟩ := hI.at_ (k := 0) (by omega)
        rw [Nat.add_zero] at hcy
        have hLy : L = [y] := by
          match L, h1 with
          | [v], _ => have := HY.out; simp at this; rw [this]
        rw [hLy] at hfs
        have HFS := Lib.hid hfs
        have HLL1 : Hid ((LL.take (k + 1)).flatten.length = k + 1) := by unfold Hid; rw [hfs, List.length_append, HLK.out]; rfl
        have HAO2 : Hid (AllOne (LL.take (k + 1))) := by
          unfold Hid; intro M hM
          rw [take_succ_of HX.out] at hM
          rcases List.mem_append.1 hM with hM | hM
          · exact HAO.out M hM
          · simp at hM; rw [hM]; exact h1
        clear hfs hLy h1 hLm
        go_wp2_with fail
        clear k0 k1 k2 k3 f0 f1 f2 f3
        obtain ⟨k0, k1, k2, k3, f0, f1, f2, f3⟩ := lvCells r1
        have HOA : Hid (OwnI (wr.alloc (.cells #[.int .i64 y] 3)).drew (w.heap.size + 1 + 1) 3 A2 c2 (LL.take k).flatten) := HO2.out.alloc _
        have HSA : Hid (Ints (wr.alloc (.cells #[.int .i64 y] 3)).drew (wr.heap.size + 1) (some ⟨wr.heap.size, 0, none⟩) 1 [y]) := src_new wr ⟨hy1, hy2⟩
        have HZA : Hid (w.heap.size + 1 + 1 ≤ (wr.alloc (.cells #[.int .i64 y] 3)).drew.heap.size) := by unfold Hid; have : (wr.alloc (.cells #[.int .i64 y] 3)).drew.heap.size = wr.heap.size + 1 := World.size_alloc ..; omega
        have HBA : Hid (Below (w.heap.size + 1 + 1) wr (wr.alloc (.cells #[.int .i64 y] 3)).drew) := (lvBelow2 wr hsz (.cells #[.int .i64 y] 3)).drew
        have ra : (wr.alloc (.cells #[.int .i64 y] 3)).heap[w.heap.size + 1]? = some (lvO 3 S none 0 0 A2 k c2) := ((lvBelow2 wr hsz (.cells #[.int .i64 y] 3)).block (w.heap.size + 1) (by omega)).trans r1
        obtain ⟨ka0, ka1, ka2, ka3, fa0, fa1, fa2, fa3⟩ := lvCells ra
        clear ra
        go_region_law (refine step_appendInts rfl (.tmp 31) (.tmp 35) 22 rfl (w.heap.size + 1 + 1) 3 i0 Try.underlying22 hi0 hz0 hz1 hz2 A2 (some ⟨wr.heap.size, 0, none⟩) c2 1 1 (wr.heap.size + 1) k (k + 1) (LL.take k).flatten [y] rfl rfl HOA.out HLK.out rfl HSA.out (by omega) HZA.out ?_; intro A4 c4 w4 HO4 HG4; have hbA := below_app HBA.out HG4 HOA.out HLK.out HZA.out; have r4 := (hbA.block (w.heap.size + 1) (by omega)).trans r1; have r5 := (hbA.block w.heap.size (by omega)).trans r0; obtain ⟨l0, l1, l2, l3, m0, m1, m2, m3⟩ := lvCells r4; have hz4 := hbA.size; have hbB := hb.trans (hbA.mono (by omega)); have HO4s := Lib.hid (HO4.setBelow (a := ⟨w.heap.size + 1, 3, none⟩) (Nat.lt_succ_self _) (.slice A4 (k + 1) c4)); have r4s := set1 r4 (.slice A4 (k + 1) c4); have r5s := keep1 r5 (g := w.heap.size + 1) (by omega) 3 (.slice A4 (k + 1) c4); have hbS := hbB.setCell (p := ⟨w.heap.size + 1, 3, none⟩) (Nat.le_succ _) (.slice A4 (k + 1) c4); clear HO4 HG4)
        all_goals (
          go_wp2_with fail
          go_roundw
          case rel => exact ⟨k + 1, A4, c4, by go_num, by omega, HAO2, HLL1, r5s, r4s, by unfold Hid; rw [HFS.out]; exact HO4s.out, hbS, by rw [size_set]; omega⟩
          case measure => simp [intOf]; omega)
      · have HF := Lib.hid (makeE_one (S := S) (fun hh : AllOne LL => h1 (hh L (List.mem_of_getElem? HX.out))))
        obtain ⟨lL, hlL⟩ : ∃ l, L.length = l := ⟨_, rfl⟩
        rw [hlL] at hc hLm h1
        have e1 : ((lL : Int) == 1) = false := by simp; omega
        have e2 : ((lL : Int) != 1) = true := by simp; omega
        obtain ⟨u0, u1, u2, u3, g0, g1, g2, g3⟩ := lvCells r0
        clear hlL hfs h1
        go_wp2_with fail
        obtain ⟨v0, v1, v2, v3, _⟩ := lvCells (set4 r0 (.int .i64 0) (.int .i64 0) (.slice none 0 0) (.slice none 0 0))
        exact bodyPost_ret (v := .tuple #[lvV 0 0 none 0 0 none 0 0, .int .i64 1]) (by simp [results, Try.results27, go_sem, v0, v1, v2, v3]) rfl (.inr ⟨by rw [HF.out]; decide, ret_of (by rw [HF.out]), below4 hb (Nat.le_refl _) _ _ _ _⟩)
    · obtain rfl : n = k := by omega
      have HFE : Hid (LL.take n = LL) := by unfold Hid; rw [List.take_of_length_le (by rw [HLN.out]; omega)]
      have o2 := HO2.out
      have hao := HAO.out
      have hlk := HLK.out
      rw [HFE.out] at o2 hao hlk
      have HLF := Lib.hid hlk
      have hI : LvI wr none 0 A2 n [] LL.flatten := ⟨Ints.nil_, by have := o2.ints; rwa [HLF.out] at this, by omega, by omega⟩
      have HC := lvRefCheck_any 3 S n none A2 0 0 n c2 [] LL.flatten wr hI (by omega) (by omega)
      rw [← HEE.out hao] at HC
      obtain ⟨E, hEE⟩ : ∃ E, makeE 3 S LL = E := ⟨_, rfl⟩
      rw [hEE] at HC
      have HEV := Lib.hid hEE
      have O2 := Lib.hid o2
      clear hEE HEE hI o2 HO2 hao hlk
      go_wp2_with fail
      refine HC.mono ?_
      rintro x w5 ⟨rfl, hb5⟩
      have t5 := oKeep hb5 r1
      have t6 := oKeep hb5 r0
      have hb6 := hb.trans (hb5.mono hb.size)
      obtain ⟨p0, p1, p2, p3, _⟩ := lvCells t5
      obtain ⟨u0, u1, u2, u3, g0, g1, g2, g3⟩ := lvCells t6
      have O4 := Lib.hid (O2.out.below hb5 (Nat.le_refl _))
      by_cases h0 : E = 0
      · subst h0
        go_wp2_with fail
        obtain ⟨v0, v1, v2, v3, _⟩ := lvCells (set4 t6 (.int .i64 3) (.int .i64 S) (.slice none 0 0) (.slice A2 n c2))
        refine bodyPost_ret (v := .tuple #[lvV 3 S none 0 0 A2 n c2, .int .i64 0]) (by simp [results, Try.results27, go_sem, v0, v1, v2, v3]) rfl (.inl ⟨HEV.out, none, 0, A2, c2, ret_of (by rw [HMP.out, HMC.out, HLF.out]; rfl), ?_, ?_, below4 hb6 (Nat.le_refl _) _ _ _ _⟩)
        · rw [HMP.out]; exact OwnI.nil_ _ _ _
        · rw [HMC.out]
          exact ((((O4.out.setBelow (a := ⟨w.heap.size, 0, none⟩) (Nat.lt_succ_of_lt (Nat.lt_succ_self _)) _).setBelow (a := ⟨w.heap.size, 1, none⟩) (Nat.lt_succ_of_lt (Nat.lt_succ_self _)) _).setBelow (a := ⟨w.heap.size, 2, none⟩) (Nat.lt_succ_of_lt (Nat.lt_succ_self _)) _).setBelow (a := ⟨w.heap.size, 3, none⟩) (Nat.lt_succ_of_lt (Nat.lt_succ_self _)) _).mono (by omega)
      · have e1 : (E == 0) = false := by simpa using h0
        have e2 : (E != 0) = true := by simpa using h0
        have H0 := Lib.hid h0
        clear h0
        go_wp2_with fail
        obtain ⟨v0, v1, v2, v3, _⟩ := lvCells (set4 t6 (.int .i64 0) (.int .i64 0) (.slice none 0 0) (.slice none 0 0))
        exact bodyPost_ret (v := .tuple #[lvV 0 0 none 0 0 none 0 0, .int .i64 E]) (by simp [results, Try.results27, go_sem, v0, v1, v2, v3]) rfl (.inr ⟨by rw [HEV.out]; exact H0.out, ret_of (by rw [HEV.out]), below4 hb6 (Nat.le_refl _) _ _ _ _⟩)

theorem refMake_all (K S : Int) (A : Option Addr) (n c : Nat) (LL : List (List Int)) (w : World) (h : IntsLL w w.heap.size A n LL) (hn : n ≤ 5000) (hT : LL.flatten.length ≤ 70000) (hLb : ∀ L ∈ LL, L.length ≤ 9223372036854775807) :
    Calls Try.prog 27 #[.int .i64 K, .int .i64 S, .slice A n c] w (MakePost w K S LL) := by
  by_cases k1 : K = 1
  · subst k1; exact refMake_p1 S A n c LL w h hn hT
  by_cases k2 : K = 2
  · subst k2; exact refMake_p2 S A n c LL w h hn hT
  by_cases k3 : K = 3
  · subst k3; exact refMake_single S A n c LL w h hn hLb
  exact refMake_flat K S A n c LL w h ⟨k1, k2, k3⟩
end Go.Proofs.Ytanbhpdobpiafaa
