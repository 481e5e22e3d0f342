/- The contracts of box.Check and the document's Check, of few, of box.Same, the document's Equals and Same, of box.Get and the document's Get. -/
import Derived.Test.YtanbhpdobpiafaaPlaces
import Derived.Lib.QuietBelow
namespace Go.Proofs.Ytanbhpdobpiafaa
open Go.RowKit

/-- Check, of a shape and how many numbers there are -/
def checkF (xs : List Int) (m : Nat) : Int := if (laidF xs).2 = 0 then if (m : Int) = (laidF xs).1 then 0 else 1 else (laidF xs).2

theorem checkF_err {xs : List Int} {m : Nat} (h : (cellsF xs).2 ≠ 0) : checkF xs m = (cellsF xs).2 := by
  unfold checkF laidF; rw [if_neg h]; exact if_neg h
theorem checkF_large {xs : List Int} {m : Nat} (h : (cellsF xs).2 = 0) (h2 : 65536 < (cellsF xs).1) : checkF xs m = 2 := by
  unfold checkF laidF; rw [if_pos h, if_pos h2]; rfl
theorem checkF_fit {xs : List Int} {m : Nat} (h : (cellsF xs).2 = 0) (h2 : ¬ 65536 < (cellsF xs).1) : checkF xs m = if (m : Int) = (cellsF xs).1 then 0 else 1 := by
  unfold checkF laidF; rw [if_pos h, if_neg h2]; rfl

/-- a dense tensor's header, and what it holds -/
structure Hdr where
  A : Option Addr
  n : Nat
  c : Nat
  B : Option Addr
  m : Nat
  e : Nat
def Hdr.val (d : Hdr) : Value := .agg #[.slice d.A d.n d.c, .slice d.B d.m d.e]
def fewF (l : List Hdr) : Bool := l.all fun d => decide (d.n ≤ 20) && decide (d.m ≤ 70000)
/-- a block that holds tensors' headers one behind the other -/
def Hdrs (w : World) (g : Nat) (l : List Hdr) : Prop := ∀ (k : Nat) (d : Hdr), l[k]? = some d → w.cell? ⟨g, k * 2, none⟩ = some (.slice d.A d.n d.c) ∧ w.cell? ⟨g, k * 2 + 1, none⟩ = some (.slice d.B d.m d.e)

theorem two_boxes {w w1 : World} {a b c d : Value} {t : TypeId} (hb : Below ((w.alloc (.cells #[a, b] t)).alloc (.cells #[c, d] t)).heap.size ((w.alloc (.cells #[a, b] t)).alloc (.cells #[c, d] t)) w1) :
    w1.cell? ⟨w.heap.size, 0, none⟩ = some a ∧ w1.cell? ⟨w.heap.size, 1, none⟩ = some b ∧ w1.cell? ⟨w.heap.size + 1, 0, none⟩ = some c ∧ w1.cell? ⟨w.heap.size + 1, 1, none⟩ = some d := by
  have h0 : (w.alloc (.cells #[a, b] t)).heap[w.heap.size]? = some (.cells #[a, b] t (0, 0)) := heap_alloc_new w _
  have h1 : ((w.alloc (.cells #[a, b] t)).alloc (.cells #[c, d] t)).heap[w.heap.size]? = some (.cells #[a, b] t (0, 0)) := (Below.heap_alloc _ _ _ (by simp)).trans h0
  have h2 : ((w.alloc (.cells #[a, b] t)).alloc (.cells #[c, d] t)).heap[w.heap.size + 1]? = some (.cells #[c, d] t (0, 0)) := by
    have := heap_alloc_new (w.alloc (.cells #[a, b] t)) (.cells #[c, d] t); rwa [World.size_alloc] at this
  have k1 := (hb.block w.heap.size (by simp; omega)).trans h1
  have k2 := (hb.block (w.heap.size + 1) (by simp)).trans h2
  refine ⟨?_, ?_, ?_, ?_⟩
  · simpa using cell_of_row _ _ 0 _ t (0, 0) k1
  · simpa using cell_of_row _ _ 1 _ t (0, 0) k1
  · simpa using cell_of_row _ _ 0 _ t (0, 0) k2
  · simpa using cell_of_row _ _ 1 _ t (0, 0) k2

/-- box.Same -/
def sameF (xs : List Int) (m : Nat) (xs2 ys ys2 : List Int) : Bool := decide (checkF xs m = 0) && decide (xs = xs2) && decide (ys = ys2)

end Go.Proofs.Ytanbhpdobpiafaa
