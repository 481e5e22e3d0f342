/- The contracts of level's smallest functions: Whole, many, inside, span, place, may, IsSorted; of the document's Whole and many. -/
import Derived.Test.YtanbhpdobpiafaaProg
import Derived.Test.YtanbhpdobpiafaaLMath
import Derived.Test.YtanbhpdobpiafaaPCheck
import Derived.BigQuiet
import Derived.Deep.QuietTactic
import Derived.Below
import Derived.Test.YtanbhpdobpiafaaFrom
namespace Go.Proofs.Ytanbhpdobpiafaa
open Go.RowKit

/-- a level as a value -/
abbrev lvV (K S : Int) (A : Option Addr) (n c : Nat) (B : Option Addr) (m e : Nat) : Value := .agg #[.int .i64 K, .int .i64 S, .slice A n c, .slice B m e]
/-- the block that a level is laid in -/
abbrev lvO (K S : Int) (A : Option Addr) (n c : Nat) (B : Option Addr) (m e : Nat) : Obj := .cells #[.int .i64 K, .int .i64 S, .slice A n c, .slice B m e] 24
theorem lvBelow (w : World) (o : Obj) : Below w.heap.size w (w.alloc o) := (Below.refl _ _).alloc (Nat.le_refl _) _
theorem kinds (K : Int) : K = 0 ∨ K = 1 ∨ K = 2 ∨ K = 3 ∨ K = 4 ∨ ((K == 0) = false ∧ (K == 1) = false ∧ (K == 2) = false ∧ (K == 3) = false ∧ (K == 4) = false ∧ wholeB K = false) := by
  simp [wholeB]; omega
theorem oKeep {w1 w2 : World} {g : Nat} {o : Obj} (h : Below w1.heap.size w1 w2) (hg : w1.heap[g]? = some o) : w2.heap[g]? = some o := (h.block g (Array.getElem?_eq_some_iff.1 hg).1).trans hg
theorem oNew {w1 w2 : World} {o : Obj} (h : Below (w1.alloc o).heap.size (w1.alloc o) w2) : w2.heap[w1.heap.size]? = some o := (h.block w1.heap.size (by simp)).trans (heap_alloc_new w1 o)
/-- the cells of a level's block -/
theorem lvCells {W : World} {g : Nat} {u v x y : Value} {t : TypeId} (h : W.heap[g]? = some (.cells #[u, v, x, y] t (0, 0))) :
    W.cell? ⟨g, 0, none⟩ = some u ∧ W.cell? ⟨g, 1, none⟩ = some v ∧ W.cell? ⟨g, 2, none⟩ = some x ∧ W.cell? ⟨g, 3, none⟩ = some y ∧ W.frozen? ⟨g, 0, none⟩ = false ∧ W.frozen? ⟨g, 1, none⟩ = false ∧ W.frozen? ⟨g, 2, none⟩ = false ∧ W.frozen? ⟨g, 3, none⟩ = false :=
  ⟨by simpa using cell_of_row _ _ 0 _ t (0, 0) h, by simpa using cell_of_row _ _ 1 _ t (0, 0) h, by simpa using cell_of_row _ _ 2 _ t (0, 0) h, by simpa using cell_of_row _ _ 3 _ t (0, 0) h, by simp [World.frozen?, h], by simp [World.frozen?, h], by simp [World.frozen?, h], by simp [World.frozen?, h]⟩
theorem ret_of {v u : Value} (h : v = u) : Ending.returned v = Ending.returned u := by rw [h]

set_option maxRecDepth 100000 in
theorem whole_any (K S : Int) (A B : Option Addr) (n c m e : Nat) (w : World) :
    Calls Try.prog 22 #[lvV K S A n c B m e] w fun x w' => x = .returned (.bool (wholeB K)) ∧ Below w.heap.size w w' := by
  rcases kinds K with rfl | rfl | rfl | rfl | rfl | ⟨k0, k1, k2, k3, k4, HW⟩
  all_goals try
    go_enter Try.func22, Try.ntmps22
    go_wp2
    go_ret
    first | exact ⟨rfl, lvBelow _ _⟩ | exact ⟨ret_of (by rw [HW]; rfl), lvBelow _ _⟩

set_option maxRecDepth 100000 in
theorem refWhole_any (K S : Int) (A B : Option Addr) (n c m e : Nat) (w : World) :
    Calls Try.prog 23 #[lvV K S A n c B m e] w fun x w' => x = .returned (.bool (wholeB K)) ∧ Below w.heap.size w w' := by
  rcases kinds K with rfl | rfl | rfl | rfl | rfl | ⟨k0, k1, k2, k3, k4, HW⟩
  all_goals try
    go_enter Try.func23, Try.ntmps23
    go_wp2
    go_ret
    first | exact ⟨rfl, lvBelow _ _⟩ | exact ⟨ret_of (by rw [HW]; rfl), lvBelow _ _⟩

set_option maxRecDepth 100000 in
theorem lvInside_any (K S : Int) (A B : Option Addr) (n c m e : Nat) (y : Int) (w : World) :
    Calls Try.prog 34 #[lvV K S A n c B m e, .int .i64 y] w fun x w' => x = .returned (.bool (decide (0 ≤ y) && decide (y < S))) ∧ Below w.heap.size w w' := by
  by_cases hy : 0 ≤ y
  · have hd : decide (0 ≤ y) = true := by simpa using hy
    rw [hd, Bool.true_and]
    go_enter Try.func34, Try.ntmps34
    go_wp2
    go_ret
    exact ⟨rfl, lvBelow _ _⟩
  · have hd : decide (0 ≤ y) = false := by simpa using hy
    rw [hd, Bool.false_and]
    clear hy
    go_enter Try.func34, Try.ntmps34
    go_wp2
    go_ret
    exact ⟨rfl, lvBelow _ _⟩

set_option maxRecDepth 100000 in
set_option maxHeartbeats 1000000 in
theorem may_any (K S a : Int) (w : World) :
    Calls Try.prog 39 #[.int .i64 K, .int .i64 S, .int .i64 a] w fun x w' => x = .returned (.bool (pB (MayP K S a))) ∧ w = w' := by
  by_cases hg : 0 ≤ S ∧ S ≤ 2147483648 ∧ 0 ≤ a ∧ a ≤ 1048576
  · obtain ⟨h1, h2, h3, h4⟩ := hg
    have d1 : decide (0 ≤ S) = true := by simpa using h1
    have d2 : decide (S ≤ 2147483648) = true := by simpa using h2
    have d3 : decide (0 ≤ a) = true := by simpa using h3
    have d4 : decide (a ≤ 1048576) = true := by simpa using h4
    by_cases hS : S < 1
    · have d5 : decide (S < 1) = true := by simpa using hS
      rcases kinds K with rfl | rfl | rfl | rfl | rfl | ⟨k0, k1, k2, k3, k4, HW⟩
      · have HF : Hid (pB (MayP 0 S a) = true) := pB_t (by unfold MayP; omega)
        clear h1 h2 h3 h4 hS
        go_enter Try.func39, Try.ntmps39
        go_wp2
        go_ret
        exact ⟨ret_of (by rw [HF.out]; rfl), rfl⟩
      · have HF : Hid (pB (MayP 1 S a) = true) := pB_t (by unfold MayP; omega)
        clear h1 h2 h3 h4 hS
        go_enter Try.func39, Try.ntmps39
        go_wp2
        go_ret
        exact ⟨ret_of (by rw [HF.out]; rfl), rfl⟩
      · have HF : Hid (pB (MayP 2 S a) = true) := pB_t (by unfold MayP; omega)
        clear h1 h2 h3 h4 hS
        go_enter Try.func39, Try.ntmps39
        go_wp2
        go_ret
        exact ⟨ret_of (by rw [HF.out]; rfl), rfl⟩
      · have HF : Hid (pB (MayP 3 S a) = true) := pB_t (by unfold MayP; omega)
        clear h1 h2 h3 h4 hS
        go_enter Try.func39, Try.ntmps39
        go_wp2
        go_ret
        exact ⟨ret_of (by rw [HF.out]; rfl), rfl⟩
      · have HF : Hid (pB (MayP 4 S a) = false) := pB_f (by unfold MayP; omega)
        clear h1 h2 h3 h4 hS
        go_enter Try.func39, Try.ntmps39
        go_wp2
        go_ret
        exact ⟨ret_of (by rw [HF.out]; rfl), rfl⟩
      · have HF : Hid (pB (MayP K S a) = false) := pB_f (by simp at k0 k1 k2 k3 k4; unfold MayP; omega)
        clear h1 h2 h3 h4 hS HW
        go_enter Try.func39, Try.ntmps39
        go_wp2
        go_ret
        exact ⟨ret_of (by rw [HF.out]; rfl), rfl⟩
    · have d5 : decide (S < 1) = false := by simpa using hS
      rcases kinds K with rfl | rfl | rfl | rfl | rfl | ⟨k0, k1, k2, k3, k4, HW⟩
      · have HF : Hid (pB (MayP 0 S a) = true) := pB_t (by unfold MayP; omega)
        clear h1 h2 h3 h4 hS
        go_enter Try.func39, Try.ntmps39
        go_wp2
        go_ret
        exact ⟨ret_of (by rw [HF.out]; rfl), rfl⟩
      · have HF : Hid (pB (MayP 1 S a) = true) := pB_t (by unfold MayP; omega)
        clear h1 h2 h3 h4 hS
        go_enter Try.func39, Try.ntmps39
        go_wp2
        go_ret
        exact ⟨ret_of (by rw [HF.out]; rfl), rfl⟩
      · have HF : Hid (pB (MayP 2 S a) = true) := pB_t (by unfold MayP; omega)
        clear h1 h2 h3 h4 hS
        go_enter Try.func39, Try.ntmps39
        go_wp2
        go_ret
        exact ⟨ret_of (by rw [HF.out]; rfl), rfl⟩
      · have HF : Hid (pB (MayP 3 S a) = true) := pB_t (by unfold MayP; omega)
        clear h1 h2 h3 h4 hS
        go_enter Try.func39, Try.ntmps39
        go_wp2
        go_ret
        exact ⟨ret_of (by rw [HF.out]; rfl), rfl⟩
      · have HF : Hid (pB (MayP 4 S a) = true) := pB_t (by unfold MayP; omega)
        clear h1 h2 h3 h4 hS
        go_enter Try.func39, Try.ntmps39
        go_wp2
        go_ret
        exact ⟨ret_of (by rw [HF.out]; rfl), rfl⟩
      · have HF : Hid (pB (MayP K S a) = false) := pB_f (by simp at k0 k1 k2 k3 k4; unfold MayP; omega)
        clear h1 h2 h3 h4 hS HW
        go_enter Try.func39, Try.ntmps39
        go_wp2
        go_ret
        exact ⟨ret_of (by rw [HF.out]; rfl), rfl⟩
  · have HF : Hid (pB (MayP K S a) = false) := pB_f (by unfold MayP; omega)
    have hor : S < 0 ∨ (0 ≤ S ∧ 2147483648 < S) ∨ (0 ≤ S ∧ S ≤ 2147483648 ∧ a < 0) ∨ (0 ≤ S ∧ S ≤ 2147483648 ∧ 0 ≤ a ∧ 1048576 < a) := by omega
    clear hg
    have hS : decide (S < 1) = true ∨ decide (S < 1) = false := by cases decide (S < 1) <;> simp
    rcases hor with h1 | ⟨h1, h2⟩ | ⟨h1, h2, h3⟩ | ⟨h1, h2, h3, h4⟩
    · have d1 : decide (0 ≤ S) = false := by simp; omega
      clear h1
      rcases hS with d5 | d5
      all_goals
        rcases kinds K with rfl | rfl | rfl | rfl | rfl | ⟨k0, k1, k2, k3, k4, HW⟩
        all_goals try clear HW
        all_goals
          go_enter Try.func39, Try.ntmps39
          go_wp2
          go_ret
          exact ⟨ret_of (by rw [HF.out]; rfl), rfl⟩
    · have d1 : decide (0 ≤ S) = true := by simp; omega
      have d2 : decide (S ≤ 2147483648) = false := by simp; omega
      clear h1 h2
      rcases hS with d5 | d5
      all_goals
        rcases kinds K with rfl | rfl | rfl | rfl | rfl | ⟨k0, k1, k2, k3, k4, HW⟩
        all_goals try clear HW
        all_goals
          go_enter Try.func39, Try.ntmps39
          go_wp2
          go_ret
          exact ⟨ret_of (by rw [HF.out]; rfl), rfl⟩
    · have d1 : decide (0 ≤ S) = true := by simp; omega
      have d2 : decide (S ≤ 2147483648) = true := by simp; omega
      have d3 : decide (0 ≤ a) = false := by simp; omega
      clear h1 h2 h3
      rcases hS with d5 | d5
      all_goals
        rcases kinds K with rfl | rfl | rfl | rfl | rfl | ⟨k0, k1, k2, k3, k4, HW⟩
        all_goals try clear HW
        all_goals
          go_enter Try.func39, Try.ntmps39
          go_wp2
          go_ret
          exact ⟨ret_of (by rw [HF.out]; rfl), rfl⟩
    · have d1 : decide (0 ≤ S) = true := by simp; omega
      have d2 : decide (S ≤ 2147483648) = true := by simp; omega
      have d3 : decide (0 ≤ a) = true := by simp; omega
      have d4 : decide (a ≤ 1048576) = false := by simp; omega
      clear h1 h2 h3 h4
      rcases hS with d5 | d5
      all_goals
        rcases kinds K with rfl | rfl | rfl | rfl | rfl | ⟨k0, k1, k2, k3, k4, HW⟩
        all_goals try clear HW
        all_goals
          go_enter Try.func39, Try.ntmps39
          go_wp2
          go_ret
          exact ⟨ret_of (by rw [HF.out]; rfl), rfl⟩
end Go.Proofs.Ytanbhpdobpiafaa
