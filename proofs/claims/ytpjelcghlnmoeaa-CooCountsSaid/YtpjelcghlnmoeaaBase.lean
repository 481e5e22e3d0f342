/- Plain facts, without the program: when a slice value of Go reads as a list of 64-bit integers, and what the shape functions of package box compute on lists. Nothing is claimed of the program here. -/
import Derived.WalkKit
import Derived.Lib.Hide
import Derived.Deep.Draws
namespace Go.Proofs.Ytpjelcghlnmoeaa
open Go.RowKit

/-- the header (A, n) leads to the numbers xs, in blocks below B -/
def Ints (w : World) (B : Nat) (A : Option Addr) (n : Nat) (xs : List Int) : Prop :=
  xs.length = n ∧ (∀ x ∈ xs, -9223372036854775808 ≤ x ∧ x ≤ 9223372036854775807) ∧
  (0 < n → ∃ b off, A = some ⟨b, off, none⟩ ∧ b < B ∧ ∀ (k : Nat) (x : Int), xs[k]? = some x → w.cell? ⟨b, off + k, none⟩ = some (.int .i64 x))

section
variable {w w' : World} {B B' n : Nat} {A : Option Addr} {xs : List Int}
theorem Ints.nil_ : Ints w B A 0 [] := ⟨rfl, by simp, fun h => absurd h (by omega)⟩
theorem Ints.at_ {k : Nat} (h : Ints w B A n xs) (hk : k < n) :
    ∃ b off x, A = some ⟨b, off, none⟩ ∧ b < B ∧ Hid (xs[k]? = some x) ∧ w.cell? ⟨b, off + k, none⟩ = some (.int .i64 x) ∧ -9223372036854775808 ≤ x ∧ x ≤ 9223372036854775807 := by
  obtain ⟨hl, hb, hc⟩ := h
  obtain ⟨b, off, rfl, hB, hx⟩ := hc (by omega)
  have hk' : k < xs.length := by omega
  have hm := hb _ (List.getElem_mem hk')
  exact ⟨b, off, xs[k], rfl, hB, List.getElem?_eq_getElem hk', hx k _ (List.getElem?_eq_getElem hk'), hm.1, hm.2⟩
theorem Ints.len (h : Ints w B A n xs) : xs.length = n := h.1
theorem Ints.keep (h : Ints w B A n xs) (hk : ∀ p : Addr, p.block < B → w'.cell? p = w.cell? p) : Ints w' B A n xs := by
  obtain ⟨hl, hb, hc⟩ := h
  refine ⟨hl, hb, fun hn => ?_⟩
  obtain ⟨b, off, e, hB, hx⟩ := hc hn
  exact ⟨b, off, e, hB, fun k x hx' => (hk _ hB).trans (hx k x hx')⟩
theorem Ints.more (h : Ints w B A n xs) (hB : B ≤ B') : Ints w B' A n xs := by
  obtain ⟨hl, hb, hc⟩ := h
  refine ⟨hl, hb, fun hn => ?_⟩
  obtain ⟨b, off, e, hB', hx⟩ := hc hn
  exact ⟨b, off, e, by omega, hx⟩
theorem Ints.below (h : Ints w B A n xs) (hb : Below B w w') : Ints w' B A n xs := h.keep fun _ hp => hb.cell hp
theorem Ints.drewN (h : Ints w B A n xs) (k : Nat) : Ints (w.drewN k) B A n xs := h
theorem Ints.drew (h : Ints w B A n xs) : Ints w.drew B A n xs := h
theorem Ints.alloc (h : Ints w B A n xs) (hB : B ≤ w.heap.size) (o : Obj) : Ints (w.alloc o) B A n xs :=
  h.keep fun p hp => World.cell?_alloc_lt w o p (by omega)
theorem Ints.alloc' (h : Ints w w.heap.size A n xs) (o : Obj) : Ints (w.alloc o) (w.alloc o).heap.size A n xs :=
  (h.alloc (Nat.le_refl _) o).more (by simp)
theorem Ints.setCell (h : Ints w B A n xs) {p : Addr} (hB : B ≤ p.block) (u : Value) : Ints (w.setCell p u) B A n xs :=
  h.keep fun q hq => World.cell?_setCell_other w p q u (fun e => by subst e; omega)
theorem Ints.of_own {base : Nat} {e : TypeId} {c : Nat} (h : w.ownsRow base e 1 (.slice A n c) n (xs.map (Value.int .i64))) (hb : ∀ x ∈ xs, -9223372036854775808 ≤ x ∧ x ≤ 9223372036854775807) : Ints w w.heap.size A n xs := by
  have hl : xs.length = n := by simpa using h.1
  refine ⟨hl, hb, fun hn => ?_⟩
  rcases h.2 with ⟨_, h0⟩ | ⟨g, cap, cur, hv, _, hh, _⟩
  · omega
  have hA : A = some ⟨g, 0, none⟩ := by injection hv
  subst hA
  have hlt : g < w.heap.size := by
    rcases Nat.lt_or_ge g w.heap.size with hlt | hge
    · exact hlt
    · rw [Array.getElem?_eq_none hge] at hh; cases hh
  refine ⟨g, 0, rfl, hlt, fun k x hx => ?_⟩
  have := h.cells (g := g) rfl k (.int .i64 x) (by simp [hx])
  by_cases hk : k = 0
  · subst hk; simpa [Addr.add] using this
  · simpa [Addr.add, hk] using this
end

/-! ### Lists, taken so far -/
theorem any_hit {α : Type} {p : α → Bool} {xs : List α} {k : Nat} {x : α} (h : xs[k]? = some x) (hp : p x = true) : xs.any p = true := by
  rw [List.any_eq_true]
  obtain ⟨hk, rfl⟩ := List.getElem?_eq_some_iff.1 h
  exact ⟨_, List.getElem_mem hk, hp⟩
theorem take_succ_of {α : Type} {xs : List α} {k : Nat} {x : α} (h : xs[k]? = some x) : xs.take (k + 1) = xs.take k ++ [x] := by
  rw [List.take_add_one, h]; rfl
theorem any_miss {α : Type} {p : α → Bool} {xs : List α} {k : Nat} {x : α} (h0 : (xs.take k).any p = false) (h : xs[k]? = some x) (hp : p x = false) : (xs.take (k + 1)).any p = false := by
  rw [take_succ_of h, List.any_append, h0]; simp [hp]
theorem any_all {α : Type} {p : α → Bool} {xs : List α} {k n : Nat} (h0 : (xs.take k).any p = false) (hl : xs.length = n) (hk : n ≤ k) : xs.any p = false := by
  rw [List.take_of_length_le (by omega)] at h0; exact h0

/-! ### The shape functions on lists -/
def cellsGo : List Int → Int → Int × Int
  | [], n => (n, 0)
  | s :: l, n => if 4611686018427387903 / n < s then (0, 2) else cellsGo l (n * s)
/-- Cells: how many, and the error's number -/
def cellsF (l : List Int) : Int × Int :=
  if 4 < l.length ∨ (l.any fun s => decide (s < 0)) = true then (0, 1) else if (l.any fun s => s == 0) = true then (0, 0) else cellsGo l 1

theorem pos_of_any {xs : List Int} (h1 : (xs.any fun s => decide (s < 0)) = false) (h2 : (xs.any fun s => s == 0) = false) : ∀ x ∈ xs, 1 ≤ x := by
  intro x hx
  rw [List.any_eq_false] at h1 h2
  have a := h1 x hx
  have b := h2 x hx
  simp at a b
  omega
theorem drop_of {α : Type} {xs : List α} {k : Nat} {x : α} (h : xs[k]? = some x) : xs.drop k = x :: xs.drop (k + 1) := by
  obtain ⟨hk, rfl⟩ := List.getElem?_eq_some_iff.1 h
  exact List.drop_eq_getElem_cons hk
theorem mul_bound {q x : Int} (hq : 1 ≤ q) (hx : 1 ≤ x) (h : ¬ 4611686018427387903 / q < x) : 1 ≤ q * x ∧ q * x ≤ 4611686018427387903 := by
  have h1 : x ≤ 4611686018427387903 / q := by omega
  have h2 := (Int.le_ediv_iff_mul_le (by omega : (0 : Int) < q)).1 h1
  refine ⟨?_, by rw [Int.mul_comm]; exact h2⟩
  have := Int.mul_le_mul hq hx (by omega) (by omega)
  simpa using this

end Go.Proofs.Ytpjelcghlnmoeaa
