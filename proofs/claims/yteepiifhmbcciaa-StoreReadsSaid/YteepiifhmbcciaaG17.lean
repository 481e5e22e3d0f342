/- The contract of the document's Check of a level: its error is lvF. -/
import Derived.Test.YteepiifhmbcciaaG16
import Derived.Test.YteepiifhmbcciaaG5
import Derived.Test.YteepiifhmbcciaaG4
import Derived.Test.YteepiifhmbcciaaG11
import Derived.Test.YteepiifhmbcciaaG10
namespace Go.Proofs.Yteepiifhmbcciaa
open Go.RowKit

set_option maxRecDepth 100000 in
theorem refCheck_out (K S a : Int) (A B : Option Addr) (n c m e : Nat) (xs ys : List Int) (w : World) (hx : ¬ (0 ≤ a ∧ a ≤ 1048576 ∧ 0 ≤ S ∧ S ≤ 2147483648)) :
    Calls Try.prog 80 #[lvV K S A n c B m e, .int .i64 a] w fun x w' => x = .returned (.int .i64 (lvF K S xs ys a)) ∧ Below w.heap.size w w' := by
  have z0 := lvBelow w (lvO K S A n c B m e)
  have HF : Hid (lvF K S xs ys a = 1) := by
    unfold Hid lvF; rw [if_neg (by rw [pB_f (fun q => hx ⟨q.1.2.2.2.2.1, q.1.2.2.2.2.2, q.1.2.2.1, q.1.2.2.2.1⟩)]; decide)]
  have hor : a < 0 ∨ (0 ≤ a ∧ 1048576 < a) ∨ (0 ≤ a ∧ a ≤ 1048576 ∧ S < 0) ∨ (0 ≤ a ∧ a ≤ 1048576 ∧ 0 ≤ S ∧ 2147483648 < S) := by omega
  clear hx
  rcases hor with h1 | ⟨h1, h2⟩ | ⟨h1, h2, h3⟩ | ⟨h1, h2, h3, h4⟩
  · have d0 : decide (a < 0) = true := decide_eq_true (by omega)
    clear h1
    go_enter Try.func80, Try.ntmps80
    go_wp2
    go_ret
    exact ⟨ret_of (by rw [HF.out]; rfl), z0⟩
  · have d0 : decide (a < 0) = false := decide_eq_false (by omega)
    have d1 : decide (1048576 < a) = true := decide_eq_true (by omega)
    clear h1 h2
    go_enter Try.func80, Try.ntmps80
    go_wp2
    go_ret
    exact ⟨ret_of (by rw [HF.out]; rfl), z0⟩
  · have d0 : decide (a < 0) = false := decide_eq_false (by omega)
    have d1 : decide (1048576 < a) = false := decide_eq_false (by omega)
    have d2 : decide (S < 0) = true := decide_eq_true (by omega)
    clear h1 h2 h3
    go_enter Try.func80, Try.ntmps80
    go_wp2
    go_ret
    exact ⟨ret_of (by rw [HF.out]; rfl), z0⟩
  · have d0 : decide (a < 0) = false := decide_eq_false (by omega)
    have d1 : decide (1048576 < a) = false := decide_eq_false (by omega)
    have d2 : decide (S < 0) = false := decide_eq_false (by omega)
    have d3 : decide (2147483648 < S) = true := decide_eq_true (by omega)
    clear h1 h2 h3 h4
    go_enter Try.func80, Try.ntmps80
    go_wp2
    go_ret
    exact ⟨ret_of (by rw [HF.out]; rfl), z0⟩

set_option maxRecDepth 100000 in
set_option maxHeartbeats 1000000 in
theorem refCheck_form (K S : Int) (A B : Option Addr) (n c m e : Nat) (xs ys : List Int) (w : World) (h : LvI w A n B m xs ys) (hn : n ≤ 100000) (hm : m ≤ 100000) (b : Nat) (hb1 : b ≤ 1048576) (hS0 : 0 ≤ S) (hS1 : S ≤ 2147483648) (hx : ¬ (MayP K S b ∧ ToldP K xs ys b)) :
    Calls Try.prog 80 #[lvV K S A n c B m e, .int .i64 b] w fun x w' => x = .returned (.int .i64 (lvF K S xs ys b)) ∧ Below w.heap.size w w' := by
  have z0 := lvBelow w (lvO K S A n c B m e)
  have zz := heap_alloc_new w (lvO K S A n c B m e)
  have d0 : decide ((b : Int) < 0) = false := decide_eq_false (by omega)
  have d1 : decide ((1048576 : Int) < (b : Int)) = false := decide_eq_false (by omega)
  have d2 : decide (S < 0) = false := decide_eq_false (by omega)
  have d3 : decide (2147483648 < S) = false := decide_eq_false (by omega)
  have HFO := fun W (hb : Below w.heap.size w W) => refForm_any K S A B n c m e b xs ys W (h.below hb).pos hn hm h.crd.1 hb1 hS0 hS1
  rw [formF_1 hx] at HFO
  have HF : Hid (lvF K S xs ys b = 1) := by unfold Hid lvF; rw [if_neg (by rw [pB_f hx]; decide)]
  clear hx
  go_enter Try.func80, Try.ntmps80
  go_wp2_with (go_at_call 96; refine (HFO _ z0).mono ?_; rintro x w1 ⟨rfl, hb1'⟩; have hb2 := z0.trans (hb1'.mono z0.size); have hk2 := oKeep hb1' zz; obtain ⟨k0, k1, k2, k3, _⟩ := lvCells hk2)
  go_ret
  exact ⟨ret_of (by rw [HF.out]; rfl), hb2⟩

set_option maxRecDepth 100000 in
set_option maxHeartbeats 1000000 in
theorem refCheck_large (K S : Int) (A B : Option Addr) (n c m e : Nat) (xs ys : List Int) (w : World) (h : LvI w A n B m xs ys) (hn : n ≤ 100000) (hm : m ≤ 100000) (b : Nat) (hb1 : b ≤ 1048576) (hS0 : 0 ≤ S) (hS1 : S ≤ 2147483648) (hx : MayP K S b ∧ ToldP K xs ys b) (hl : 65536 < ys.length ∨ 1048576 < manyF K S ys b) :
    Calls Try.prog 80 #[lvV K S A n c B m e, .int .i64 b] w fun x w' => x = .returned (.int .i64 (lvF K S xs ys b)) ∧ Below w.heap.size w w' := by
  have z0 := lvBelow w (lvO K S A n c B m e)
  have zz := heap_alloc_new w (lvO K S A n c B m e)
  have d0 : decide ((b : Int) < 0) = false := decide_eq_false (by omega)
  have d1 : decide ((1048576 : Int) < (b : Int)) = false := decide_eq_false (by omega)
  have d2 : decide (S < 0) = false := decide_eq_false (by omega)
  have d3 : decide (2147483648 < S) = false := decide_eq_false (by omega)
  have HFO := fun W (hb : Below w.heap.size w W) => refForm_any K S A B n c m e b xs ys W (h.below hb).pos hn hm h.crd.1 hb1 hS0 hS1
  rw [formF_0 hx] at HFO
  have HF : Hid (lvF K S xs ys b = 2) := by unfold Hid lvF; rw [if_pos (pB_t hx), if_pos hl]
  have HMY := fun W => refMany_any K S b A B n c m e ys W h.crd.1 h.m1 (by omega) (by omega) hS0 hS1
  obtain ⟨M, hM⟩ : ∃ M, manyF K S ys b = M := ⟨_, rfl⟩
  rw [hM] at HMY hl
  rw [h.crd.1] at hl
  clear hx hM
  by_cases hm1 : 65536 < m
  · have d4 : decide (65536 < (m : Int)) = true := decide_eq_true (by omega)
    clear hl hm1
    go_enter Try.func80, Try.ntmps80
    go_wp2_with (go_at_call 96; refine (HFO _ z0).mono ?_; rintro x w1 ⟨rfl, hb1'⟩; have hb2 := z0.trans (hb1'.mono z0.size); have hk2 := oKeep hb1' zz; obtain ⟨k0, k1, k2, k3, _⟩ := lvCells hk2)
    go_ret
    exact ⟨ret_of (by rw [HF.out]; rfl), hb2⟩
  · have d4 : decide (65536 < (m : Int)) = false := decide_eq_false (by omega)
    have d5 : decide (1048576 < M) = true := decide_eq_true (by omega)
    clear hl hm1
    go_enter Try.func80, Try.ntmps80
    go_wp2_with (first | (go_at_call 96; refine (HFO _ z0).mono ?_; rintro x w1 ⟨rfl, hb1'⟩; have hb2 := z0.trans (hb1'.mono z0.size); have hk2 := oKeep hb1' zz; obtain ⟨k0, k1, k2, k3, _⟩ := lvCells hk2) | (go_at_call 81; refine (HMY _).mono ?_; rintro x w3 ⟨rfl, hb3⟩; have hb4 := hb2.trans (hb3.mono hb2.size); have hk4 := oKeep hb3 hk2; obtain ⟨l0, l1, l2, l3, _⟩ := lvCells hk4))
    go_ret
    exact ⟨ret_of (by rw [HF.out]; rfl), hb4⟩

set_option maxRecDepth 100000 in
set_option maxHeartbeats 4000000 in
theorem refCheck_flat (K S : Int) (A B : Option Addr) (n c m e : Nat) (xs ys : List Int) (w : World) (h : LvI w A n B m xs ys) (hn : n ≤ 100000) (hm : m ≤ 100000) (b : Nat) (hb1 : b ≤ 1048576) (hS0 : 0 ≤ S) (hS1 : S ≤ 2147483648) (hkk : wholeB K = true ∨ K = 3) (hx : MayP K S b ∧ ToldP K xs ys b) (hl : ¬ (65536 < ys.length ∨ 1048576 < manyF K S ys b)) :
    Calls Try.prog 80 #[lvV K S A n c B m e, .int .i64 b] w fun x w' => x = .returned (.int .i64 (lvF K S xs ys b)) ∧ Below w.heap.size w w' := by
  have z0 := lvBelow w (lvO K S A n c B m e)
  have zz := heap_alloc_new w (lvO K S A n c B m e)
  have d0 : decide ((b : Int) < 0) = false := decide_eq_false (by omega)
  have d1 : decide ((1048576 : Int) < (b : Int)) = false := decide_eq_false (by omega)
  have d2 : decide (S < 0) = false := decide_eq_false (by omega)
  have d3 : decide (2147483648 < S) = false := decide_eq_false (by omega)
  have HFO := fun W (hb : Below w.heap.size w W) => refForm_any K S A B n c m e b xs ys W (h.below hb).pos hn hm h.crd.1 hb1 hS0 hS1
  rw [formF_0 hx] at HFO
  have HMY := fun W => refMany_any K S b A B n c m e ys W h.crd.1 h.m1 (by omega) (by omega) hS0 hS1
  have HW := fun W => refWhole_any K S A B n c m e W
  have HFI : Hid (¬ InsP S ys → lvF K S xs ys b = 3) := fun q => by unfold lvF; rw [if_pos (pB_t hx), if_neg hl, if_neg (by rw [pB_f q]; decide)]
  have HFR : Hid (InsP S ys → lvF K S xs ys b = if pB (RiseP K xs ys b) = true then 0 else 1) := fun q => by unfold lvF; rw [if_pos (pB_t hx), if_neg hl, if_pos (pB_t q)]
  have HTO := Lib.hid hx.2
  obtain ⟨M, hM⟩ : ∃ M, manyF K S ys b = M := ⟨_, rfl⟩
  rw [hM] at HMY hl
  rw [h.crd.1] at hl
  have d4 : decide (65536 < (m : Int)) = false := decide_eq_false (by omega)
  have d5 : decide (1048576 < M) = false := decide_eq_false (by omega)
  have hm2 : m ≤ 65536 := by omega
  have HLm : Hid (ys.length = m) := h.crd.1
  clear hx hM hl
  go_enter Try.func80, Try.ntmps80
  go_wp2_with (first | (go_at_call 96; refine (HFO _ z0).mono ?_; rintro x w1 ⟨rfl, hb1'⟩; have hb2 := z0.trans (hb1'.mono z0.size); have hk2 := oKeep hb1' zz; obtain ⟨k0, k1, k2, k3, _⟩ := lvCells hk2) | (go_at_call 81; refine (HMY _).mono ?_; rintro x w3 ⟨rfl, hb3⟩; have hb4 := hb2.trans (hb3.mono hb2.size); have hk4 := oKeep hb3 hk2; obtain ⟨l0, l1, l2, l3, _⟩ := lvCells hk4))
  have hcr := (h.below hb4).crd
  clear k0 k1 k2 k3 HFO HMY hb1' hb3 hk2 zz z0
  go_loop [45] (fun v => ∃ k : Nat, v = .int .i64 (k : Int) ∧ k ≤ m ∧ Hid (∀ (j : Nat) (y : Int), j < k → ys[j]? = some y → 0 ≤ y ∧ y < S)) (fun v => m - (intOf v).toNat)
  case atStart => exact ⟨0, rfl, Nat.zero_le _, by unfold Hid; intro j y hj; omega⟩
  case round =>
    obtain ⟨k, rfl, hk, HK⟩ := hrel
    by_cases hlt : k < m
    · obtain ⟨b5, off5, y, rfl, _, HY, hc, hy1, hy2⟩ := hcr.at_ hlt
      by_cases hy0 : y < 0
      · have e1 : decide (y < 0) = true := decide_eq_true hy0
        have HF := Lib.hid (HFI.out (fun q => by have := q y (List.mem_of_getElem? HY.out); omega))
        clear hy0
        go_wp2_with fail
        go_ret
        exact ⟨ret_of (by rw [HF.out]; rfl), hb4⟩
      · have e1 : decide (y < 0) = false := decide_eq_false hy0
        by_cases hyS : S ≤ y
        · have e2 : decide (S ≤ y) = true := decide_eq_true hyS
          have HF := Lib.hid (HFI.out (fun q => by have := q y (List.mem_of_getElem? HY.out); omega))
          clear hyS
          go_wp2_with fail
          go_ret
          exact ⟨ret_of (by rw [HF.out]; rfl), hb4⟩
        · have e2 : decide (S ≤ y) = false := decide_eq_false hyS
          have HN : Hid (∀ (j : Nat) (y : Int), j < k + 1 → ys[j]? = some y → 0 ≤ y ∧ y < S) := by
            intro j u hj hu
            by_cases ej : j = k
            · subst ej; rw [HY.out] at hu; injection hu with hu; omega
            · exact HK.out j u (by omega) hu
          clear hyS
          go_wp2_with fail
          go_round
          case rel => exact ⟨k + 1, by go_num, by omega, HN⟩
          case measure => simp [intOf]; omega
    · have HIN : Hid (InsP S ys) := by
        intro y hy
        obtain ⟨j, hj⟩ := List.getElem?_of_mem hy
        exact HK.out j y (by have := (List.getElem?_eq_some_iff.1 hj).1; have := HLm.out; omega) hj
      have HF := Lib.hid (HFR.out HIN.out)
      have HR : Hid (pB (RiseP K xs ys b) = true) := pB_t (fun e => by
        rcases hkk with q | q
        · have := wholeB_iff.1 q; omega
        · omega)
      rcases hkk with q | rfl
      · rw [q] at HW
        clear q
        go_wp2_with fail
        refine (HW _).mono ?_
        rintro x w5 ⟨rfl, hb5⟩
        replace hb4 := hb4.trans (hb5.mono hb4.size)
        go_wp2_with fail
        go_ret
        exact ⟨ret_of (by rw [HF.out, HR.out]; rfl), hb4⟩
      · have q : wholeB 3 = false := rfl
        rw [q] at HW
        clear q
        go_wp2_with fail
        refine (HW _).mono ?_
        rintro x w5 ⟨rfl, hb5⟩
        have hk6 := oKeep hb5 hk4
        obtain ⟨p0, p1, p2, p3, _⟩ := lvCells hk6
        replace hb4 := hb4.trans (hb5.mono hb4.size)
        go_wp2_with fail
        go_ret
        exact ⟨ret_of (by rw [HF.out, HR.out]; rfl), hb4⟩

set_option maxRecDepth 100000 in
set_option maxHeartbeats 4000000 in
theorem refCheck_p1 (S : Int) (A B : Option Addr) (n c m e : Nat) (xs ys : List Int) (w : World) (h : LvI w A n B m xs ys) (hn : n ≤ 100000) (hm : m ≤ 100000) (b : Nat) (hb1 : b ≤ 1048576) (hS0 : 0 ≤ S) (hS1 : S ≤ 2147483648) (hx : MayP 1 S b ∧ ToldP 1 xs ys b) (hl : ¬ (65536 < ys.length ∨ 1048576 < manyF 1 S ys b)) :
    Calls Try.prog 80 #[lvV 1 S A n c B m e, .int .i64 b] w fun x w' => x = .returned (.int .i64 (lvF 1 S xs ys b)) ∧ Below w.heap.size w w' := by
  have z0 := lvBelow w (lvO 1 S A n c B m e)
  have zz := heap_alloc_new w (lvO 1 S A n c B m e)
  have d0 : decide ((b : Int) < 0) = false := decide_eq_false (by omega)
  have d1 : decide ((1048576 : Int) < (b : Int)) = false := decide_eq_false (by omega)
  have d2 : decide (S < 0) = false := decide_eq_false (by omega)
  have d3 : decide (2147483648 < S) = false := decide_eq_false (by omega)
  have HFO := fun W (hb : Below w.heap.size w W) => refForm_any 1 S A B n c m e b xs ys W (h.below hb).pos hn hm h.crd.1 hb1 hS0 hS1
  rw [formF_0 hx] at HFO
  have HMY := fun W => refMany_any 1 S b A B n c m e ys W h.crd.1 h.m1 (by omega) (by omega) hS0 hS1
  have HW := fun W => refWhole_any 1 S A B n c m e W
  have HFI : Hid (¬ InsP S ys → lvF 1 S xs ys b = 3) := fun q => by unfold lvF; rw [if_pos (pB_t hx), if_neg hl, if_neg (by rw [pB_f q]; decide)]
  have HFR : Hid (InsP S ys → lvF 1 S xs ys b = if pB (RiseP 1 xs ys b) = true then 0 else 1) := fun q => by unfold lvF; rw [if_pos (pB_t hx), if_neg hl, if_pos (pB_t q)]
  have HTO := Lib.hid hx.2
  obtain ⟨M, hM⟩ : ∃ M, manyF 1 S ys b = M := ⟨_, rfl⟩
  rw [hM] at HMY hl
  rw [h.crd.1] at hl
  have d4 : decide (65536 < (m : Int)) = false := decide_eq_false (by omega)
  have d5 : decide (1048576 < M) = false := decide_eq_false (by omega)
  have hm2 : m ≤ 65536 := by omega
  have HLm : Hid (ys.length = m) := h.crd.1
  clear hx hM hl
  go_enter Try.func80, Try.ntmps80
  go_wp2_with (first | (go_at_call 96; refine (HFO _ z0).mono ?_; rintro x w1 ⟨rfl, hb1'⟩; have hb2 := z0.trans (hb1'.mono z0.size); have hk2 := oKeep hb1' zz; obtain ⟨k0, k1, k2, k3, _⟩ := lvCells hk2) | (go_at_call 81; refine (HMY _).mono ?_; rintro x w3 ⟨rfl, hb3⟩; have hb4 := hb2.trans (hb3.mono hb2.size); have hk4 := oKeep hb3 hk2; obtain ⟨l0, l1, l2, l3, _⟩ := lvCells hk4))
  have hcr := (h.below hb4).crd
  clear k0 k1 k2 k3 HFO HMY hb1' hb3 hk2 zz z0
  go_loop [45] (fun v => ∃ k : Nat, v = .int .i64 (k : Int) ∧ k ≤ m ∧ Hid (∀ (j : Nat) (y : Int), j < k → ys[j]? = some y → 0 ≤ y ∧ y < S)) (fun v => m - (intOf v).toNat)
  case atStart => exact ⟨0, rfl, Nat.zero_le _, by unfold Hid; intro j y hj; omega⟩
  case round =>
    obtain ⟨k, rfl, hk, HK⟩ := hrel
    by_cases hlt : k < m
    · obtain ⟨b5, off5, y, rfl, _, HY, hc, hy1, hy2⟩ := hcr.at_ hlt
      by_cases hy0 : y < 0
      · have e1 : decide (y < 0) = true := decide_eq_true hy0
        have HF := Lib.hid (HFI.out (fun q => by have := q y (List.mem_of_getElem? HY.out); omega))
        clear hy0
        go_wp2_with fail
        go_ret
        exact ⟨ret_of (by rw [HF.out]; rfl), hb4⟩
      · have e1 : decide (y < 0) = false := decide_eq_false hy0
        by_cases hyS : S ≤ y
        · have e2 : decide (S ≤ y) = true := decide_eq_true hyS
          have HF := Lib.hid (HFI.out (fun q => by have := q y (List.mem_of_getElem? HY.out); omega))
          clear hyS
          go_wp2_with fail
          go_ret
          exact ⟨ret_of (by rw [HF.out]; rfl), hb4⟩
        · have e2 : decide (S ≤ y) = false := decide_eq_false hyS
          have HN : Hid (∀ (j : Nat) (y : Int), j < k + 1 → ys[j]? = some y → 0 ≤ y ∧ y < S) := by
            intro j u hj hu
            by_cases ej : j = k
            · subst ej; rw [HY.out] at hu; injection hu with hu; omega
            · exact HK.out j u (by omega) hu
          clear hyS
          go_wp2_with fail
          go_round
          case rel => exact ⟨k + 1, by go_num, by omega, HN⟩
          case measure => simp [intOf]; omega
    · have HIN : Hid (InsP S ys) := by
        intro y hy
        obtain ⟨j, hj⟩ := List.getElem?_of_mem hy
        exact HK.out j y (by have := (List.getElem?_eq_some_iff.1 hj).1; have := HLm.out; omega) hj
      have HF := Lib.hid (HFR.out HIN.out)
      have q : wholeB 1 = false := rfl
      rw [q] at HW
      clear q
      have hT := HTO.out
      obtain ⟨hx1, hx2, hx3, hx4⟩ := (told_pos (by omega) xs ys b).1 hT
      have HX : Hid (∀ p, p < b → ∃ x z : Nat, xs[p]? = some (x : Int) ∧ xs[p + 1]? = some (z : Int) ∧ x ≤ m ∧ z ≤ m) := by
        intro p hp
        have u1 := List.getElem?_eq_getElem (l := xs) (i := p) (by omega)
        have u2 := List.getElem?_eq_getElem (l := xs) (i := p + 1) (by omega)
        have l1 := sortP_le hx4 (Nat.zero_le _) hx2 u1
        have l2 := sortP_le hx4 (Nat.zero_le _) hx2 u2
        have r1 := sortP_le hx4 (by omega) u1 hx3
        have r2 := sortP_le hx4 (by omega) u2 hx3
        rw [HLm.out] at r1 r2
        refine ⟨(xs[p]'(by omega)).toNat, (xs[p + 1]'(by omega)).toNat, ?_, ?_, by omega, by omega⟩
        · rw [u1]; congr 1; omega
        · rw [u2]; congr 1; omega
      have hxl : n = b + 1 := by rw [← h.pos.1]; exact hx1
      have i1 : n ≤ b + 1 := by omega
      have i2 : b + 1 ≤ n := by omega
      clear hT hx1 hx2 hx3 hx4 hxl
      go_wp2_with fail
      refine (HW _).mono ?_
      rintro x w5 ⟨rfl, hb5⟩
      have hk6 := oKeep hb5 hk4
      obtain ⟨p0, p1, p2, p3, _⟩ := lvCells hk6
      have hb6 := hb4.trans (hb5.mono hb4.size)
      have hps := (h.below hb6).pos
      have hcs := (h.below hb6).crd
      clear hb4 hb5 hk4 l0 l1 l2 l3 hcr HW
      go_wp2_with fail
      obtain ⟨wo, rfl⟩ : ∃ wo : World, wo = w5 := ⟨_, rfl⟩
      go_loopw [66] (fun v wr => ∃ p q : Nat, v = .int .i64 (p : Int) ∧ p ≤ b ∧ wr = wo.drewN q ∧ Hid (∀ q, q < p → RiseAt 1 xs ys q)) (fun v _ => b - (intOf v).toNat)
      case atStart => exact ⟨0, 0, rfl, Nat.zero_le _, rfl, by unfold Hid; intro q hq; omega⟩
      case round =>
        obtain ⟨p, q0, rfl, hp, rfl, HR⟩ := hrel
        by_cases hlt2 : p < b
        · obtain ⟨x, z, hxx, hzz, hxm, hzm⟩ := HX.out p hlt2
          obtain ⟨b5, off5, x', rfl, hbb5, HX5, hc5, _, _⟩ := hps.at_ (k := p) (by omega)
          obtain ⟨b6, off6, z', e6, _, HZ6, hc6, _, _⟩ := hps.at_ (k := p + 1) (by omega)
          injection e6 with e6; injection e6 with e6 e6'; subst e6; subst e6'
          obtain rfl : x' = x := by have := HX5.out; rw [hxx] at this; injection this with this; exact this.symm
          obtain rfl : z' = z := by have := HZ6.out; rw [hzz] at this; injection this with this; exact this.symm
          have HXX := Lib.hid hxx
          have HZZ := Lib.hid hzz
          have e8 : IntKind.i64.wrap ((p : Int) + 1) = (p : Int) + 1 := by rw [IntWalk.i64_in _ (by omega)]
          have t0 : (0 : Int) ≤ p := by omega
          have t1 : (p : Int) < n := by omega
          have t2 : (p : Int) + 1 < n := by omega
          have t3 : (0 : Int) ≤ (p : Int) + 1 := by omega
          have t4 : ((p : Int) + 1).toNat = p + 1 := by omega
          clear hxx hzz HX5 HZ6
          go_wp2_with fail
          go_loopw [9] (fun i wr => ∃ k q : Nat, x + 1 ≤ k ∧ (k ≤ x + 1 ∨ k ≤ z) ∧ i = .int .i64 k ∧ wr = wo.drewN q ∧ Hid (∀ (j : Nat) (u v : Int), x + 1 ≤ j → j < k → ys[j - 1]? = some u → ys[j]? = some v → u + 1 ≤ v)) (fun i _ => z - (intOf i).toNat)
          case atStart => exact ⟨x + 1, q0, Nat.le_refl _, .inl (Nat.le_refl _), by go_num, rfl, by unfold Hid; intro j u v h1 h2; omega⟩
          case round =>
            obtain ⟨k, q, hk1, hk2, rfl, rfl, HJ⟩ := hrel
            by_cases hlt3 : k < z
            · have dz : decide ((k : Int) < (z : Int)) = true := decide_eq_true (by omega)
              obtain ⟨b7, off7, v, rfl, _, HV, hcv, hv1, hv2⟩ := hcs.at_ (k := k) (by omega)
              obtain ⟨b8, off8, u, e8', _, HU, hcu, hu1, hu2⟩ := hcs.at_ (k := k - 1) (by omega)
              injection e8' with e8'; injection e8' with e8' e8''; subst e8'; subst e8''
              have e9 : IntKind.i64.wrap ((k : Int) - 1) = (k : Int) - 1 := by rw [IntWalk.i64_in _ (by omega)]
              have g0 : (0 : Int) ≤ k := by omega
              have g1 : (k : Int) < m := by omega
              have g3 : (0 : Int) ≤ (k : Int) - 1 := by omega
              have g4 : ((k : Int) - 1).toNat = k - 1 := by omega
              have g5 : (1 : Int) ≤ k := by omega
              have g6 : (k : Int) - 1 < m := by omega
              have g7 : (k : Int) < m + 1 := by omega
              have g8 : 1 ≤ k := by omega
              by_cases huv : v < u
              · have f1 : decide (v < u) = true := decide_eq_true huv
                have HG : Hid (pB (RiseP 1 xs ys b) = false) := pB_f (fun hr => by
                  have := hr (by omega) p (by omega) k x z u v HXX.out HZZ.out (by omega) (by omega) HU.out HV.out
                  unfold byI at this; simp at this; omega)
                clear huv
                go_wp2_with fail
                go_quiet (fail)
                go_wp2_with fail
                go_ret
                exact ⟨ret_of (by rw [HF.out, HG.out]; rfl), below_drewN2 (below_drewN2 hb6 _) _⟩
              · have f1 : decide (v < u) = false := decide_eq_false huv
                by_cases hue : v = u
                · have f2 : (v == u) = true := by simpa using hue
                  have HG : Hid (pB (RiseP 1 xs ys b) = false) := pB_f (fun hr => by
                    have := hr (by omega) p (by omega) k x z u v HXX.out HZZ.out (by omega) (by omega) HU.out HV.out
                    unfold byI at this; simp at this; omega)
                  subst hue
                  clear huv
                  go_wp2_with fail
                  go_quiet (fail)
                  go_wp2_with fail
                  go_ret
                  exact ⟨ret_of (by rw [HF.out, HG.out]; rfl), below_drewN2 (below_drewN2 hb6 _) _⟩
                · have f2 : (v == u) = false := by simpa using hue
                  have HN : Hid (∀ (j : Nat) (u v : Int), x + 1 ≤ j → j < k + 1 → ys[j - 1]? = some u → ys[j]? = some v → u + 1 ≤ v) := by
                    intro j u' v' h1 h2 h3 h4
                    by_cases ej : j = k
                    · subst ej
                      rw [HU.out] at h3; rw [HV.out] at h4
                      injection h3 with h3; injection h4 with h4; omega
                    · exact HJ.out j u' v' h1 (by omega) h3 h4
                  clear huv hue
                  go_wp2_with fail
                  go_quiet (fail)
                  go_wp2_with fail
                  go_roundw
                  case rel => exact ⟨k + 1, _, by omega, by omega, by go_num, rfl, HN⟩
                  case measure => simp [intOf]; omega
            · have dz : decide ((k : Int) < (z : Int)) = false := decide_eq_false (by omega)
              have HN : Hid (∀ q, q < p + 1 → RiseAt 1 xs ys q) := by
                intro q' hq
                by_cases e' : q' = p
                · subst e'
                  intro j x' z' u v h1 h2 h3 h4 h5 h6
                  rw [HXX.out] at h1; rw [HZZ.out] at h2
                  injection h1 with h1; injection h2 with h2
                  have := HJ.out j u v (by omega) (by omega) h5 h6
                  unfold byI; simp; omega
                · exact HR.out q' (by omega)
              go_wp2_with fail
              go_roundw
              case rel => exact ⟨p + 1, _, by go_num, by omega, rfl, HN⟩
              case measure => simp [intOf]; omega
        · have HG : Hid (pB (RiseP 1 xs ys b) = true) := pB_t (fun _ p' hp' => HR.out p' (by omega))
          go_wp2_with fail
          go_ret
          exact ⟨ret_of (by rw [HF.out, HG.out]; rfl), below_drewN2 hb6 _⟩

set_option maxRecDepth 100000 in
set_option maxHeartbeats 4000000 in
theorem refCheck_p2 (S : Int) (A B : Option Addr) (n c m e : Nat) (xs ys : List Int) (w : World) (h : LvI w A n B m xs ys) (hn : n ≤ 100000) (hm : m ≤ 100000) (b : Nat) (hb1 : b ≤ 1048576) (hS0 : 0 ≤ S) (hS1 : S ≤ 2147483648) (hx : MayP 2 S b ∧ ToldP 2 xs ys b) (hl : ¬ (65536 < ys.length ∨ 1048576 < manyF 2 S ys b)) :
    Calls Try.prog 80 #[lvV 2 S A n c B m e, .int .i64 b] w fun x w' => x = .returned (.int .i64 (lvF 2 S xs ys b)) ∧ Below w.heap.size w w' := by
  have z0 := lvBelow w (lvO 2 S A n c B m e)
  have zz := heap_alloc_new w (lvO 2 S A n c B m e)
  have d0 : decide ((b : Int) < 0) = false := decide_eq_false (by omega)
  have d1 : decide ((1048576 : Int) < (b : Int)) = false := decide_eq_false (by omega)
  have d2 : decide (S < 0) = false := decide_eq_false (by omega)
  have d3 : decide (2147483648 < S) = false := decide_eq_false (by omega)
  have HFO := fun W (hb : Below w.heap.size w W) => refForm_any 2 S A B n c m e b xs ys W (h.below hb).pos hn hm h.crd.1 hb1 hS0 hS1
  rw [formF_0 hx] at HFO
  have HMY := fun W => refMany_any 2 S b A B n c m e ys W h.crd.1 h.m1 (by omega) (by omega) hS0 hS1
  have HW := fun W => refWhole_any 2 S A B n c m e W
  have HFI : Hid (¬ InsP S ys → lvF 2 S xs ys b = 3) := fun q => by unfold lvF; rw [if_pos (pB_t hx), if_neg hl, if_neg (by rw [pB_f q]; decide)]
  have HFR : Hid (InsP S ys → lvF 2 S xs ys b = if pB (RiseP 2 xs ys b) = true then 0 else 1) := fun q => by unfold lvF; rw [if_pos (pB_t hx), if_neg hl, if_pos (pB_t q)]
  have HTO := Lib.hid hx.2
  obtain ⟨M, hM⟩ : ∃ M, manyF 2 S ys b = M := ⟨_, rfl⟩
  rw [hM] at HMY hl
  rw [h.crd.1] at hl
  have d4 : decide (65536 < (m : Int)) = false := decide_eq_false (by omega)
  have d5 : decide (1048576 < M) = false := decide_eq_false (by omega)
  have hm2 : m ≤ 65536 := by omega
  have HLm : Hid (ys.length = m) := h.crd.1
  clear hx hM hl
  go_enter Try.func80, Try.ntmps80
  go_wp2_with (first | (go_at_call 96; refine (HFO _ z0).mono ?_; rintro x w1 ⟨rfl, hb1'⟩; have hb2 := z0.trans (hb1'.mono z0.size); have hk2 := oKeep hb1' zz; obtain ⟨k0, k1, k2, k3, _⟩ := lvCells hk2) | (go_at_call 81; refine (HMY _).mono ?_; rintro x w3 ⟨rfl, hb3⟩; have hb4 := hb2.trans (hb3.mono hb2.size); have hk4 := oKeep hb3 hk2; obtain ⟨l0, l1, l2, l3, _⟩ := lvCells hk4))
  have hcr := (h.below hb4).crd
  clear k0 k1 k2 k3 HFO HMY hb1' hb3 hk2 zz z0
  go_loop [45] (fun v => ∃ k : Nat, v = .int .i64 (k : Int) ∧ k ≤ m ∧ Hid (∀ (j : Nat) (y : Int), j < k → ys[j]? = some y → 0 ≤ y ∧ y < S)) (fun v => m - (intOf v).toNat)
  case atStart => exact ⟨0, rfl, Nat.zero_le _, by unfold Hid; intro j y hj; omega⟩
  case round =>
    obtain ⟨k, rfl, hk, HK⟩ := hrel
    by_cases hlt : k < m
    · obtain ⟨b5, off5, y, rfl, _, HY, hc, hy1, hy2⟩ := hcr.at_ hlt
      by_cases hy0 : y < 0
      · have e1 : decide (y < 0) = true := decide_eq_true hy0
        have HF := Lib.hid (HFI.out (fun q => by have := q y (List.mem_of_getElem? HY.out); omega))
        clear hy0
        go_wp2_with fail
        go_ret
        exact ⟨ret_of (by rw [HF.out]; rfl), hb4⟩
      · have e1 : decide (y < 0) = false := decide_eq_false hy0
        by_cases hyS : S ≤ y
        · have e2 : decide (S ≤ y) = true := decide_eq_true hyS
          have HF := Lib.hid (HFI.out (fun q => by have := q y (List.mem_of_getElem? HY.out); omega))
          clear hyS
          go_wp2_with fail
          go_ret
          exact ⟨ret_of (by rw [HF.out]; rfl), hb4⟩
        · have e2 : decide (S ≤ y) = false := decide_eq_false hyS
          have HN : Hid (∀ (j : Nat) (y : Int), j < k + 1 → ys[j]? = some y → 0 ≤ y ∧ y < S) := by
            intro j u hj hu
            by_cases ej : j = k
            · subst ej; rw [HY.out] at hu; injection hu with hu; omega
            · exact HK.out j u (by omega) hu
          clear hyS
          go_wp2_with fail
          go_round
          case rel => exact ⟨k + 1, by go_num, by omega, HN⟩
          case measure => simp [intOf]; omega
    · have HIN : Hid (InsP S ys) := by
        intro y hy
        obtain ⟨j, hj⟩ := List.getElem?_of_mem hy
        exact HK.out j y (by have := (List.getElem?_eq_some_iff.1 hj).1; have := HLm.out; omega) hj
      have HF := Lib.hid (HFR.out HIN.out)
      have q : wholeB 2 = false := rfl
      rw [q] at HW
      clear q
      have hT := HTO.out
      obtain ⟨hx1, hx2, hx3, hx4⟩ := (told_pos (by omega) xs ys b).1 hT
      have HX : Hid (∀ p, p < b → ∃ x z : Nat, xs[p]? = some (x : Int) ∧ xs[p + 1]? = some (z : Int) ∧ x ≤ m ∧ z ≤ m) := by
        intro p hp
        have u1 := List.getElem?_eq_getElem (l := xs) (i := p) (by omega)
        have u2 := List.getElem?_eq_getElem (l := xs) (i := p + 1) (by omega)
        have l1 := sortP_le hx4 (Nat.zero_le _) hx2 u1
        have l2 := sortP_le hx4 (Nat.zero_le _) hx2 u2
        have r1 := sortP_le hx4 (by omega) u1 hx3
        have r2 := sortP_le hx4 (by omega) u2 hx3
        rw [HLm.out] at r1 r2
        refine ⟨(xs[p]'(by omega)).toNat, (xs[p + 1]'(by omega)).toNat, ?_, ?_, by omega, by omega⟩
        · rw [u1]; congr 1; omega
        · rw [u2]; congr 1; omega
      have hxl : n = b + 1 := by rw [← h.pos.1]; exact hx1
      have i1 : n ≤ b + 1 := by omega
      have i2 : b + 1 ≤ n := by omega
      clear hT hx1 hx2 hx3 hx4 hxl
      go_wp2_with fail
      refine (HW _).mono ?_
      rintro x w5 ⟨rfl, hb5⟩
      have hk6 := oKeep hb5 hk4
      obtain ⟨p0, p1, p2, p3, _⟩ := lvCells hk6
      have hb6 := hb4.trans (hb5.mono hb4.size)
      have hps := (h.below hb6).pos
      have hcs := (h.below hb6).crd
      clear hb4 hb5 hk4 l0 l1 l2 l3 hcr HW
      go_wp2_with fail
      obtain ⟨wo, rfl⟩ : ∃ wo : World, wo = w5 := ⟨_, rfl⟩
      go_loopw [66] (fun v wr => ∃ p q : Nat, v = .int .i64 (p : Int) ∧ p ≤ b ∧ wr = wo.drewN q ∧ Hid (∀ q, q < p → RiseAt 2 xs ys q)) (fun v _ => b - (intOf v).toNat)
      case atStart => exact ⟨0, 0, rfl, Nat.zero_le _, rfl, by unfold Hid; intro q hq; omega⟩
      case round =>
        obtain ⟨p, q0, rfl, hp, rfl, HR⟩ := hrel
        by_cases hlt2 : p < b
        · obtain ⟨x, z, hxx, hzz, hxm, hzm⟩ := HX.out p hlt2
          obtain ⟨b5, off5, x', rfl, hbb5, HX5, hc5, _, _⟩ := hps.at_ (k := p) (by omega)
          obtain ⟨b6, off6, z', e6, _, HZ6, hc6, _, _⟩ := hps.at_ (k := p + 1) (by omega)
          injection e6 with e6; injection e6 with e6 e6'; subst e6; subst e6'
          obtain rfl : x' = x := by have := HX5.out; rw [hxx] at this; injection this with this; exact this.symm
          obtain rfl : z' = z := by have := HZ6.out; rw [hzz] at this; injection this with this; exact this.symm
          have HXX := Lib.hid hxx
          have HZZ := Lib.hid hzz
          have e8 : IntKind.i64.wrap ((p : Int) + 1) = (p : Int) + 1 := by rw [IntWalk.i64_in _ (by omega)]
          have t0 : (0 : Int) ≤ p := by omega
          have t1 : (p : Int) < n := by omega
          have t2 : (p : Int) + 1 < n := by omega
          have t3 : (0 : Int) ≤ (p : Int) + 1 := by omega
          have t4 : ((p : Int) + 1).toNat = p + 1 := by omega
          clear hxx hzz HX5 HZ6
          go_wp2_with fail
          go_loopw [9] (fun i wr => ∃ k q : Nat, x + 1 ≤ k ∧ (k ≤ x + 1 ∨ k ≤ z) ∧ i = .int .i64 k ∧ wr = wo.drewN q ∧ Hid (∀ (j : Nat) (u v : Int), x + 1 ≤ j → j < k → ys[j - 1]? = some u → ys[j]? = some v → u + 0 ≤ v)) (fun i _ => z - (intOf i).toNat)
          case atStart => exact ⟨x + 1, q0, Nat.le_refl _, .inl (Nat.le_refl _), by go_num, rfl, by unfold Hid; intro j u v h1 h2; omega⟩
          case round =>
            obtain ⟨k, q, hk1, hk2, rfl, rfl, HJ⟩ := hrel
            by_cases hlt3 : k < z
            · have dz : decide ((k : Int) < (z : Int)) = true := decide_eq_true (by omega)
              obtain ⟨b7, off7, v, rfl, _, HV, hcv, hv1, hv2⟩ := hcs.at_ (k := k) (by omega)
              obtain ⟨b8, off8, u, e8', _, HU, hcu, hu1, hu2⟩ := hcs.at_ (k := k - 1) (by omega)
              injection e8' with e8'; injection e8' with e8' e8''; subst e8'; subst e8''
              have e9 : IntKind.i64.wrap ((k : Int) - 1) = (k : Int) - 1 := by rw [IntWalk.i64_in _ (by omega)]
              have g0 : (0 : Int) ≤ k := by omega
              have g1 : (k : Int) < m := by omega
              have g3 : (0 : Int) ≤ (k : Int) - 1 := by omega
              have g4 : ((k : Int) - 1).toNat = k - 1 := by omega
              have g5 : (1 : Int) ≤ k := by omega
              have g6 : (k : Int) - 1 < m := by omega
              have g7 : (k : Int) < m + 1 := by omega
              have g8 : 1 ≤ k := by omega
              by_cases huv : v < u
              · have f1 : decide (v < u) = true := decide_eq_true huv
                have HG : Hid (pB (RiseP 2 xs ys b) = false) := pB_f (fun hr => by
                  have := hr (by omega) p (by omega) k x z u v HXX.out HZZ.out (by omega) (by omega) HU.out HV.out
                  unfold byI at this; simp at this; omega)
                clear huv
                go_wp2_with fail
                go_quiet (fail)
                go_wp2_with fail
                go_ret
                exact ⟨ret_of (by rw [HF.out, HG.out]; rfl), below_drewN2 (below_drewN2 hb6 _) _⟩
              · have f1 : decide (v < u) = false := decide_eq_false huv
                have HN : Hid (∀ (j : Nat) (u v : Int), x + 1 ≤ j → j < k + 1 → ys[j - 1]? = some u → ys[j]? = some v → u + 0 ≤ v) := by
                  intro j u' v' h1 h2 h3 h4
                  by_cases ej : j = k
                  · subst ej
                    rw [HU.out] at h3; rw [HV.out] at h4
                    injection h3 with h3; injection h4 with h4; omega
                  · exact HJ.out j u' v' h1 (by omega) h3 h4
                clear huv
                go_wp2_with fail
                go_quiet (fail)
                go_wp2_with fail
                go_roundw
                case rel => exact ⟨k + 1, _, by omega, by omega, by go_num, rfl, HN⟩
                case measure => simp [intOf]; omega
            · have dz : decide ((k : Int) < (z : Int)) = false := decide_eq_false (by omega)
              have HN : Hid (∀ q, q < p + 1 → RiseAt 2 xs ys q) := by
                intro q' hq
                by_cases e' : q' = p
                · subst e'
                  intro j x' z' u v h1 h2 h3 h4 h5 h6
                  rw [HXX.out] at h1; rw [HZZ.out] at h2
                  injection h1 with h1; injection h2 with h2
                  have := HJ.out j u v (by omega) (by omega) h5 h6
                  unfold byI; simp; omega
                · exact HR.out q' (by omega)
              go_wp2_with fail
              go_roundw
              case rel => exact ⟨p + 1, _, by go_num, by omega, rfl, HN⟩
              case measure => simp [intOf]; omega
        · have HG : Hid (pB (RiseP 2 xs ys b) = true) := pB_t (fun _ p' hp' => HR.out p' (by omega))
          go_wp2_with fail
          go_ret
          exact ⟨ret_of (by rw [HF.out, HG.out]; rfl), below_drewN2 hb6 _⟩

theorem lvRefCheck_any (K S a : Int) (A B : Option Addr) (n c m e : Nat) (xs ys : List Int) (w : World) (h : LvI w A n B m xs ys) (hn : n ≤ 100000) (hm : m ≤ 100000) :
    Calls Try.prog 80 #[lvV K S A n c B m e, .int .i64 a] w fun x w' => x = .returned (.int .i64 (lvF K S xs ys a)) ∧ Below w.heap.size w w' := by
  by_cases hx : 0 ≤ a ∧ a ≤ 1048576 ∧ 0 ≤ S ∧ S ≤ 2147483648
  · obtain ⟨h1, h2, h3, h4⟩ := hx
    obtain ⟨b, rfl⟩ : ∃ b : Nat, a = b := ⟨a.toNat, by omega⟩
    by_cases hf : MayP K S b ∧ ToldP K xs ys b
    · by_cases hl : 65536 < ys.length ∨ 1048576 < manyF K S ys b
      · exact refCheck_large K S A B n c m e xs ys w h hn hm b (by omega) h3 h4 hf hl
      · by_cases k1 : K = 1
        · subst k1; exact refCheck_p1 S A B n c m e xs ys w h hn hm b (by omega) h3 h4 hf hl
        by_cases k2 : K = 2
        · subst k2; exact refCheck_p2 S A B n c m e xs ys w h hn hm b (by omega) h3 h4 hf hl
        refine refCheck_flat K S A B n c m e xs ys w h hn hm b (by omega) h3 h4 ?_ hf hl
        by_cases k3 : K = 3
        · exact .inr k3
        · exact .inl (wholeB_iff.2 (by have := hf.1.1; omega))
    · exact refCheck_form K S A B n c m e xs ys w h hn hm b (by omega) h3 h4 hf
  · exact refCheck_out K S a A B n c m e xs ys w hx
end Go.Proofs.Yteepiifhmbcciaa
/- The contracts of the document's Below and Children of no child. -/
namespace Go.Proofs.Yteepiifhmbcciaa
open Go.RowKit

set_option maxRecDepth 100000 in
theorem refBelow_err (K S a E : Int) (A B : Option Addr) (n c m e : Nat) (xs ys : List Int) (w : World) (h : LvI w A n B m xs ys) (hn : n ≤ 100000) (hm : m ≤ 100000) (hE : lvF K S xs ys a = E) (h0 : E ≠ 0) :
    Calls Try.prog 56 #[lvV K S A n c B m e, .int .i64 a] w fun x w' => x = .returned (.tuple #[.int .i64 0, .int .i64 E]) ∧ Below w.heap.size w w' := by
  have HC := fun W (hb : Below w.heap.size w W) => lvRefCheck_any K S a A B n c m e xs ys W (h.below hb) hn hm
  rw [hE] at HC
  have z0 := lvBelow w (lvO K S A n c B m e)
  have e1 : (E == 0) = false := by simpa using h0
  have e2 : (E != 0) = true := by simpa using h0
  clear hE h0
  go_enter Try.func56, Try.ntmps56
  go_wp2_with (go_at_call 80; refine (HC _ z0).mono ?_; rintro x w1 ⟨rfl, hb1⟩; have hb2 := z0.trans (hb1.mono z0.size))
  go_ret2
  exact ⟨rfl, hb2⟩
set_option maxRecDepth 100000 in
theorem refBelow_ok (K S : Int) (a : Nat) (A B : Option Addr) (n c m e : Nat) (xs ys : List Int) (w : World) (h : LvI w A n B m xs ys) (hn : n ≤ 100000) (hm : m ≤ 100000) (hE : lvF K S xs ys a = 0) :
    Calls Try.prog 56 #[lvV K S A n c B m e, .int .i64 a] w fun x w' => x = .returned (.tuple #[.int .i64 (totN K S ys a : Nat), .int .i64 0]) ∧ Below w.heap.size w w' := by
  have HC := fun W (hb : Below w.heap.size w W) => lvRefCheck_any K S a A B n c m e xs ys W (h.below hb) hn hm
  rw [hE] at HC
  obtain ⟨b, hab, HL⟩ := lok_of hE
  obtain rfl : b = a := by omega
  have HM := fun W => refMany_any K S (b : Int) A B n c m e ys W h.crd.1 h.m1 (by omega) (by have := HL.ahead; omega) HL.size0 HL.size1
  rw [totN_eq HL.size0] at HM
  have z0 := lvBelow w (lvO K S A n c B m e)
  have zz := heap_alloc_new w (lvO K S A n c B m e)
  clear hE HL hab
  go_enter Try.func56, Try.ntmps56
  go_wp2_with (first | (go_at_call 80; refine (HC _ z0).mono ?_; rintro x w1 ⟨rfl, hb1⟩; have hb2 := z0.trans (hb1.mono z0.size); obtain ⟨k0, k1, k2, k3, _⟩ := lvCells (oKeep hb1 zz)) | (go_at_call 81; refine (HM _).mono ?_; rintro x w3 ⟨rfl, hb3⟩; have hb4 := hb2.trans (hb3.mono hb2.size)))
  go_ret2
  exact ⟨rfl, hb4⟩
end Go.Proofs.Yteepiifhmbcciaa
/- The document's counts: how many each level has below. -/
namespace Go.Proofs.Yteepiifhmbcciaa
open Go.RowKit

def RefCntPost (w : World) (t : Ten) (e : Ending) (w' : World) : Prop :=
  Below w.heap.size w w' ∧ ((levE t.ls t.ln ≠ 0 ∧ e = .returned (.tuple #[.slice none 0 0, .int .i64 (levE t.ls t.ln)])) ∨ (levE t.ls t.ln = 0 ∧ ∃ A' c', e = .returned (.tuple #[.slice A' t.ln c', .int .i64 0]) ∧ OwnI w' w.heap.size 3 A' c' (cntL t.ls)))
theorem cntL_take {ls : List Lv} {k : Nat} (h : k < ls.length) : (cntL ls).take (k + 1) = (cntL ls).take k ++ [((ahN ls (k + 1) : Nat) : Int)] := by
  refine take_succ_of ?_
  unfold cntL
  rw [List.getElem?_map, List.getElem?_range h]
  rfl
set_option maxRecDepth 100000 in
set_option maxHeartbeats 8000000 in
theorem refCnt_aux (T : Ten) (A : Option Addr) (n c : Nat) (xs : List Int) (F : Option Addr) (fn fc : Nat) (fs : List Sp) (L : Option Addr) (ln lc : Nat) (ls : List Lv) (V : Option Addr) (vn vc : Nat) (vs : List Int) (w : World) (hT : T = ⟨A, n, c, xs, F, fn, fc, fs, L, ln, lc, ls, V, vn, vc, vs⟩) (ht : Ten.In w w.heap.size ⟨A, n, c, xs, F, fn, fc, fs, L, ln, lc, ls, V, vn, vc, vs⟩) (hf : fewT ⟨A, n, c, xs, F, fn, fc, fs, L, ln, lc, ls, V, vn, vc, vs⟩) :
    Calls Try.prog 27 #[.agg #[.slice A n c, .slice F fn fc, .slice L ln lc, .slice V vn vc]] w (RefCntPost w T) := by
  obtain ⟨i0, hi0, hz0, hz1, hz2⟩ := info_parts infoInt
  have HB0 := Lib.hid (lvBelow w (.cells #[.slice A n c, .slice F fn fc, .slice L ln lc, .slice V vn vc] 27))
  obtain ⟨k0, k1, k2, k3, _⟩ := lvCells (heap_alloc_new w (.cells #[.slice A n c, .slice F fn fc, .slice L ln lc, .slice V vn vc] 27))
  have HI := Lib.hid ht
  have HFW : Hid (∀ l ∈ ls, l.n ≤ 3000 ∧ l.m ≤ 3000) := hf.2.2.2.2
  have hll : ls.length = ln := ht.lvs.1
  have HLL := Lib.hid hll
  have b1 : ln ≤ 40 := hf.2.2.1
  have HCL : Hid ((cntL ls).length = ln) := (cntL_length ls).trans hll
  have HT : Hid (levE T.ls T.ln = levE ls ln ∧ T.ln = ln ∧ T.ls = ls) := by rw [hT]; exact ⟨rfl, rfl, rfl⟩
  clear hT ht hf hll
  go_enter Try.func27, Try.ntmps27
  go_wp2_with fail
  clear k0 k1 k2 k3
  go_loopw [13, 4, 5] (fun i a v wr => ∃ (k : Nat) (A' : Option Addr) (c' : Nat), k ≤ ln ∧ i = .int .i64 k ∧ a = .int .i64 ((ahN ls k : Nat) : Int) ∧ v = .slice A' k c' ∧ Hid (levE ls k = 0) ∧ Hid (OwnI wr w.heap.size 3 A' c' ((cntL ls).take k)) ∧ Hid (Below w.heap.size w wr)) (fun i _ _ _ => ln - (intOf i).toNat)
  case atStart => exact ⟨0, none, 0, Nat.zero_le _, rfl, rfl, rfl, rfl, OwnI.nil_ _ _ _, HB0.out⟩
  case round =>
    obtain ⟨k, A', c', hk, rfl, rfl, rfl, HE, HO, HB⟩ := hrel
    have hbw : w.heap.size ≤ wr.heap.size := HB.out.size
    by_cases hlt : k < ln
    · obtain ⟨bl, ol, l, rfl, hbl, HL, d0, d1, d2, d3, li⟩ := (HI.out.on HB.out).lvs.at_ hlt
      dsimp only at HL
      have hfew := HFW.out l (List.mem_of_getElem? HL.out)
      obtain ⟨W1, hW1⟩ : ∃ W, wr.alloc (lvO l.k l.s l.A l.n l.c l.B l.m l.e) = W := ⟨_, rfl⟩
      have hb1 : Below wr.heap.size wr W1 := by rw [← hW1]; exact lvBelow wr _
      obtain ⟨q0, q1, q2, q3, _⟩ := lvCells (show W1.heap[wr.heap.size]? = some (lvO l.k l.s l.A l.n l.c l.B l.m l.e) by rw [← hW1]; exact heap_alloc_new _ _)
      have hLI := ((li.below hb1).more hb1.size).lvI
      have HB1 := Lib.hid (HB.out.trans (hb1.mono hbw))
      have HO1 := Lib.hid (HO.out.below hb1 (Nat.le_refl _))
      have hs1 := HB1.out.size
      have HLT : Hid (k + 1 ≤ ln) := hlt
      by_cases he : lvF l.k l.s l.xs l.ys (ahN ls k) = 0
      · have hBl := refBelow_ok l.k l.s (ahN ls k) l.A l.B l.n l.c l.m l.e l.xs l.ys W1 hLI (by omega) (by omega) he
        have HE1 : Hid (levE ls (k + 1) = 0) := (levE_succ HL.out HE.out).trans he
        rw [← ahN_succ HL.out] at hBl
        have hah : ahN ls (k + 1) ≤ 1048576 := ahN_le HE1.out (Nat.le_refl _) (by have := HLL.out; omega)
        obtain ⟨a1, ha1⟩ : ∃ a1, ahN ls (k + 1) = a1 := ⟨_, rfl⟩
        rw [ha1] at hBl hah
        have HA1 := Lib.hid ha1
        have HTK : Hid ((cntL ls).take (k + 1) = (cntL ls).take k ++ [(a1 : Int)]) := by rw [← ha1]; exact cntL_take (by have := HLL.out; omega)
        have htl : ((cntL ls).take k).length = k := by rw [List.length_take, HCL.out]; omega
        have HTL := Lib.hid htl
        clear he ha1 hb1 li hLI HO HB htl hlt
        go_upto_region 6 with fail
        try rw [hW1]
        clear hW1 d0 d1 d2 d3
        go_wp2_with (first | (go_at_call 56; refine hBl.mono ?_; rintro e w3 ⟨rfl, hb3⟩; have HO3 := Lib.hid (HO1.out.below hb3 (Nat.le_refl _)); have HB3 := Lib.hid (HB1.out.trans (hb3.mono hs1)); have hs3 := HB3.out.size; clear hb3) | (at_builtin; refine wpList_appendInts _ rfl (.tmp 26) (.tmp 28) 22 rfl w.heap.size 3 i0 Try.underlying22 hi0 hz0 hz1 hz2 A' (some ⟨w3.heap.size, 0, none⟩) c' 1 1 (w3.heap.size + 1) k (k + 1) ((cntL ls).take k) [(a1 : Int)] rfl rfl (HO3.out.alloc _) HTL.out rfl (src_new w3 (by omega)) (by omega) (by simp; omega) ?_; intro A2 c2 w4 HO4' HG4; have HO4 := Lib.hid HO4'; have HB4 := Lib.hid (below_app (HB3.out.alloc hs3 _) HG4 (HO3.out.alloc _) HTL.out (by simp; omega)); clear HO4' HG4))
        go_roundw
        case rel => exact ⟨k + 1, A2, c2, HLT.out, by go_num, by rw [HA1.out], rfl, HE1, by unfold Hid; rw [HTK.out]; exact HO4.out, HB4⟩
        case measure => have := HLT.out; simp [intOf]; omega
      · obtain ⟨E, hE⟩ : ∃ E, lvF l.k l.s l.xs l.ys (ahN ls k) = E := ⟨_, rfl⟩
        rw [hE] at he
        have hBl := refBelow_err l.k l.s (ahN ls k) E l.A l.B l.n l.c l.m l.e l.xs l.ys W1 hLI (by omega) (by omega) hE he
        have HE1 : Hid (levE ls (k + 1) = E) := (levE_succ HL.out HE.out).trans hE
        have HF : Hid (levE T.ls T.ln = E ∧ E ≠ 0) := by
          have h1 := levE_le (ls := ls) (k := k + 1) (m := ln) hlt (by rw [HE1.out]; exact he)
          exact ⟨by rw [HT.out.1, h1, HE1.out], he⟩
        have e1 : (E != 0) = true := by simpa using he
        clear he hE hb1 li hLI HO HB hlt
        go_upto_region 6 with fail
        try rw [hW1]
        clear hW1 d0 d1 d2 d3
        go_wp2_with (go_at_call 56; refine hBl.mono ?_; rintro e w3 ⟨rfl, hb3⟩; have HB3 := Lib.hid (HB1.out.trans (hb3.mono hs1)); clear hb3)
        go_ret2
        exact ⟨HB3.out, .inl ⟨by rw [HF.out.1]; exact HF.out.2, by rw [HF.out.1]; rfl⟩⟩
    · obtain rfl : k = ln := by omega
      have hO := HO.out
      rw [List.take_of_length_le (Nat.le_of_eq HCL.out)] at hO
      have HO2 := Lib.hid hO
      clear hO hlt
      go_wp2_with fail
      go_ret2
      exact ⟨HB.out, .inr ⟨by rw [HT.out.1]; exact HE.out, A', c', by rw [HT.out.2.1]; rfl, by rw [HT.out.2.2]; exact HO2.out⟩⟩
theorem refCnt_any (t : Ten) (w : World) (ht : t.In w w.heap.size) (hf : fewT t) : Calls Try.prog 27 #[t.val] w (RefCntPost w t) := refCnt_aux t _ _ _ _ _ _ _ _ _ _ _ _ _ _ _ _ w rfl ht hf
end Go.Proofs.Yteepiifhmbcciaa
