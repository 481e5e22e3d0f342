/- Plain facts, without the program: when a slice value of Go reads as a list of 64-bit integers, and what the shape functions of package box compute on lists. Nothing is claimed of the program here. -/
import Derived.WalkKit
import Derived.Lib.Hide
import Derived.Deep.Draws
import Derived.Test.YtapbcmhkipaecaaRows
import Derived.ProofKit
import Derived.OpenShut
import Derived.ChangeOld
import Derived.Below
import Derived.Lib.SmallJoins
import Derived.Deep.Slices
import Derived.Deep.Fields
import Derived.Shelf.Sort.Plain
import Derived.Shelf.Slices.In.SortNone
import Derived.Test.YtapbcmhkipaecaaProg
import Derived.BigQuiet
import Derived.Deep.QuietTactic
import Derived.RangeFuncNested
import Derived.RangeFuncBound
import Derived.RangeFuncCalls
import Derived.RangeFuncLeaves
import Derived.Shelf.Abstract
import Derived.Shelf.RegionOpen
import Derived.OwnWalkIn
import Derived.TacticsInMore
import Derived.LoopNIn
import Derived.LoopIn
namespace Go.Proofs.Ytapbcmhkipaecaa
open Go.RowKit

/-- the header (A, n) leads to the numbers xs, in blocks below B -/
def Ints (w : World) (B : Nat) (A : Option Addr) (n : Nat) (xs : List Int) : Prop :=
  xs.length = n ∧ (∀ x ∈ xs, -9223372036854775808 ≤ x ∧ x ≤ 9223372036854775807) ∧
  (0 < n → ∃ b off, A = some ⟨b, off, none⟩ ∧ b < B ∧ ∀ (k : Nat) (x : Int), xs[k]? = some x → w.cell? ⟨b, off + k, none⟩ = some (.int .i64 x))

section
variable {w w' : World} {B B' n : Nat} {A : Option Addr} {xs : List Int}
theorem Ints.nil_ : Ints w B A 0 [] := ⟨rfl, by simp, fun h => absurd h (by omega)⟩
theorem Ints.at_ {k : Nat} (h : Ints w B A n xs) (hk : k < n) :
    ∃ b off x, A = some ⟨b, off, none⟩ ∧ b < B ∧ Hid (xs[k]? = some x) ∧ w.cell? ⟨b, off + k, none⟩ = some (.int .i64 x) ∧ -9223372036854775808 ≤ x ∧ x ≤ 9223372036854775807 := by
  obtain ⟨hl, hb, hc⟩ := h
  obtain ⟨b, off, rfl, hB, hx⟩ := hc (by omega)
  have hk' : k < xs.length := by omega
  have hm := hb _ (List.getElem_mem hk')
  exact ⟨b, off, xs[k], rfl, hB, List.getElem?_eq_getElem hk', hx k _ (List.getElem?_eq_getElem hk'), hm.1, hm.2⟩
theorem Ints.len (h : Ints w B A n xs) : xs.length = n := h.1
theorem Ints.keep (h : Ints w B A n xs) (hk : ∀ p : Addr, p.block < B → w'.cell? p = w.cell? p) : Ints w' B A n xs := by
  obtain ⟨hl, hb, hc⟩ := h
  refine ⟨hl, hb, fun hn => ?_⟩
  obtain ⟨b, off, e, hB, hx⟩ := hc hn
  exact ⟨b, off, e, hB, fun k x hx' => (hk _ hB).trans (hx k x hx')⟩
theorem Ints.more (h : Ints w B A n xs) (hB : B ≤ B') : Ints w B' A n xs := by
  obtain ⟨hl, hb, hc⟩ := h
  refine ⟨hl, hb, fun hn => ?_⟩
  obtain ⟨b, off, e, hB', hx⟩ := hc hn
  exact ⟨b, off, e, by omega, hx⟩
theorem Ints.below (h : Ints w B A n xs) (hb : Below B w w') : Ints w' B A n xs := h.keep fun _ hp => hb.cell hp
theorem Ints.drewN (h : Ints w B A n xs) (k : Nat) : Ints (w.drewN k) B A n xs := h
theorem Ints.drew (h : Ints w B A n xs) : Ints w.drew B A n xs := h
theorem Ints.alloc (h : Ints w B A n xs) (hB : B ≤ w.heap.size) (o : Obj) : Ints (w.alloc o) B A n xs :=
  h.keep fun p hp => World.cell?_alloc_lt w o p (by omega)
theorem Ints.alloc' (h : Ints w w.heap.size A n xs) (o : Obj) : Ints (w.alloc o) (w.alloc o).heap.size A n xs :=
  (h.alloc (Nat.le_refl _) o).more (by simp)
theorem Ints.setCell (h : Ints w B A n xs) {p : Addr} (hB : B ≤ p.block) (u : Value) : Ints (w.setCell p u) B A n xs :=
  h.keep fun q hq => World.cell?_setCell_other w p q u (fun e => by subst e; omega)
theorem Ints.of_own {base : Nat} {e : TypeId} {c : Nat} (h : w.ownsRow base e 1 (.slice A n c) n (xs.map (Value.int .i64))) (hb : ∀ x ∈ xs, -9223372036854775808 ≤ x ∧ x ≤ 9223372036854775807) : Ints w w.heap.size A n xs := by
  have hl : xs.length = n := by simpa using h.1
  refine ⟨hl, hb, fun hn => ?_⟩
  rcases h.2 with ⟨_, h0⟩ | ⟨g, cap, cur, hv, _, hh, _⟩
  · omega
  have hA : A = some ⟨g, 0, none⟩ := by injection hv
  subst hA
  have hlt : g < w.heap.size := by
    rcases Nat.lt_or_ge g w.heap.size with hlt | hge
    · exact hlt
    · rw [Array.getElem?_eq_none hge] at hh; cases hh
  refine ⟨g, 0, rfl, hlt, fun k x hx => ?_⟩
  have := h.cells (g := g) rfl k (.int .i64 x) (by simp [hx])
  by_cases hk : k = 0
  · subst hk; simpa [Addr.add] using this
  · simpa [Addr.add, hk] using this
end

/-! ### Lists, taken so far -/
theorem any_hit {α : Type} {p : α → Bool} {xs : List α} {k : Nat} {x : α} (h : xs[k]? = some x) (hp : p x = true) : xs.any p = true := by
  rw [List.any_eq_true]
  obtain ⟨hk, rfl⟩ := List.getElem?_eq_some_iff.1 h
  exact ⟨_, List.getElem_mem hk, hp⟩
theorem take_succ_of {α : Type} {xs : List α} {k : Nat} {x : α} (h : xs[k]? = some x) : xs.take (k + 1) = xs.take k ++ [x] := by
  rw [List.take_add_one, h]; rfl
theorem any_miss {α : Type} {p : α → Bool} {xs : List α} {k : Nat} {x : α} (h0 : (xs.take k).any p = false) (h : xs[k]? = some x) (hp : p x = false) : (xs.take (k + 1)).any p = false := by
  rw [take_succ_of h, List.any_append, h0]; simp [hp]
theorem any_all {α : Type} {p : α → Bool} {xs : List α} {k n : Nat} (h0 : (xs.take k).any p = false) (hl : xs.length = n) (hk : n ≤ k) : xs.any p = false := by
  rw [List.take_of_length_le (by omega)] at h0; exact h0

/-! ### The shape functions on lists -/
def cellsGo : List Int → Int → Int × Int
  | [], n => (n, 0)
  | s :: l, n => if 4611686018427387903 / n < s then (0, 2) else cellsGo l (n * s)
/-- Cells: how many, and the error's number -/
def cellsF (l : List Int) : Int × Int :=
  if 4 < l.length ∨ (l.any fun s => decide (s < 0)) = true then (0, 1) else if (l.any fun s => s == 0) = true then (0, 0) else cellsGo l 1

theorem pos_of_any {xs : List Int} (h1 : (xs.any fun s => decide (s < 0)) = false) (h2 : (xs.any fun s => s == 0) = false) : ∀ x ∈ xs, 1 ≤ x := by
  intro x hx
  rw [List.any_eq_false] at h1 h2
  have a := h1 x hx
  have b := h2 x hx
  simp at a b
  omega
theorem drop_of {α : Type} {xs : List α} {k : Nat} {x : α} (h : xs[k]? = some x) : xs.drop k = x :: xs.drop (k + 1) := by
  obtain ⟨hk, rfl⟩ := List.getElem?_eq_some_iff.1 h
  exact List.drop_eq_getElem_cons hk
theorem mul_bound {q x : Int} (hq : 1 ≤ q) (hx : 1 ≤ x) (h : ¬ 4611686018427387903 / q < x) : 1 ≤ q * x ∧ q * x ≤ 4611686018427387903 := by
  have h1 : x ≤ 4611686018427387903 / q := by omega
  have h2 := (Int.le_ediv_iff_mul_le (by omega : (0 : Int) < q)).1 h1
  refine ⟨?_, by rw [Int.mul_comm]; exact h2⟩
  have := Int.mul_le_mul hq hx (by omega) (by omega)
  simpa using this

end Go.Proofs.Ytapbcmhkipaecaa
/- How the arguments of the statements read: slices of integers, dense tensors, integers. -/
namespace Go.Proofs.Ytapbcmhkipaecaa
open Go.ChangeShapes Go.WideShapes Go.ChangeAt Go.RowKit

set_option maxRecDepth 100000 in
theorem own : ownKnob Try.prog.godebug = none := by kernel_rfl
set_option maxRecDepth 100000 in
theorem laidOut : laidOutB Try.prog = true := by kernel_rfl

theorem lt_of_cell {w : World} {a : Addr} {v : Value} (h : w.cell? a = some v) : a.block < w.heap.size := by
  rcases Nat.lt_or_ge a.block w.heap.size with hlt | hge
  · exact hlt
  · have : w.heap[a.block]? = none := Array.getElem?_eq_none hge
    simp [World.cell?, this] at h

theorem wf_bounds {n : Int} (h : (Lit.int .i64 n).wf = true) : -9223372036854775808 ≤ n ∧ n ≤ 9223372036854775807 := by
  simp [Lit.wf, IntKind.min, IntKind.max, IntKind.signed, IntKind.bits] at h
  omega

theorem ints_of_row {w : World} {x : Addr} {len : Nat} {zs : List Int} (hz : len ≤ zs.length) (hcell : ∀ i, i < zs.length → w.cell? (x.add i) = some (.int .i64 (zs.getD i 0))) (hwz : ∀ n ∈ zs, (Lit.int .i64 n).wf = true) :
    Ints w w.heap.size (some x) len (zs.take len) := by
  refine ⟨by rw [List.length_take]; omega, fun n hn => wf_bounds (hwz n (List.mem_of_mem_take hn)), fun h0 => ?_⟩
  obtain ⟨b, off, spot⟩ := x
  have hc := hcell 0 (by omega)
  have hspot : spot = none := by simpa [Addr.add] using World.cell?_spot hc
  subst hspot
  have hlt : b < w.heap.size := by have := lt_of_cell hc; simpa [Addr.add] using this
  refine ⟨b, off, rfl, hlt, fun k y hy => ?_⟩
  have hk : k < len := by have := (List.getElem?_eq_some_iff.1 hy).1; rw [List.length_take] at this; omega
  have h1 := hcell k (by omega)
  have h2 : zs.getD k 0 = y := by
    rw [List.getElem?_take, if_pos hk] at hy
    simp [List.getD, hy]
  rw [h2] at h1
  by_cases hk0 : k = 0
  · subst hk0; simpa [Addr.add] using h1
  · simpa [Addr.add, hk0] using h1

section
variable {H : Type} {enc : TypeId × Value → H} {w : World} {base : Nat} {spare : Nat → Bool} {held : Bool}
/-- a []int, or a []int64, that came in -/
theorem open_nums {t e : TypeId} {v : Value} {d : DataW H} {p : List MemPlace} (ht : Try.prog.underlying t = some (.slice e)) (he : Try.prog.underlying e = some (.int .i64)) (hC : Try.prog.cellsOf e = 1) (hf : ∃ a n c, v = .slice a n c) (h : DataW.Trod enc Try.prog w base spare held t v d p) :
    ∃ A n c xs, v = .slice A n c ∧ Ints w w.heap.size A n xs ∧ n ≤ 9223372036854775807 := by
  obtain ⟨a0, len0, cap0, rfl⟩ := hf
  obtain ⟨fuel, hf⟩ := h
  rcases open_ints ht he hC hf with ⟨hcs, _⟩ | ⟨x, l, c, zs, hcs, _, hl, hm, hz, _, hcell, hwz⟩
  · simp [Value.cells] at hcs
    obtain ⟨rfl, rfl, rfl⟩ := hcs
    exact ⟨none, 0, 0, [], rfl, Ints.nil_, by omega⟩
  · simp [Value.cells] at hcs
    obtain ⟨rfl, rfl, rfl⟩ := hcs
    have hz' : len0 ≤ zs.length := by split at hz <;> omega
    refine ⟨_, _, _, _, rfl, ints_of_row hz' hcell hwz, ?_⟩
    unfold maxLen at hm
    omega
set_option maxRecDepth 100000 in
/-- an api.Dense that came in -/
theorem open_dense {r : Reach} {b0 : Nat} {v : Value} {d : DataW H} {p : List MemPlace} (hv : Value.okWide Try.prog w r b0 41 v) (h : DataW.Trod enc Try.prog w base spare held 41 v d p) :
    ∃ A n c B m e xs ys, v = .agg #[.slice A n c, .slice B m e] ∧ Ints w w.heap.size A n xs ∧ n ≤ 9223372036854775807 ∧ Ints w w.heap.size B m ys ∧ m ≤ 9223372036854775807 := by
  obtain ⟨v0, v1, y0, y1, k, rfl, _, _, h0, h1⟩ := Go.Joins.open_agg2 Try.underlying41 (by kernel_rfl) (by kernel_rfl) hv h
  obtain ⟨a0, l0, c0, e0⟩ := Go.Joins.slice_form Try.underlying22 h0
  obtain ⟨a1, l1, c1, e1⟩ := Go.Joins.slice_form Try.underlying39 h1
  simp only [List.cons.injEq, and_true] at e0 e1
  have t0 : DataW.Trod enc Try.prog w base spare held 22 v0 y0.1 y0.2 := ⟨k, by rw [e0] at h0 ⊢; exact h0⟩
  have t1 : DataW.Trod enc Try.prog w base spare held 39 v1 y1.1 y1.2 := ⟨k, by rw [e1] at h1 ⊢; exact h1⟩
  obtain ⟨A, n, c, xs, f0, i0, b0⟩ := open_nums Try.underlying22 Try.underlying3 (by kernel_rfl) ⟨_, _, _, e0⟩ t0
  obtain ⟨B, m, e, ys, f1, i1, b1⟩ := open_nums Try.underlying39 Try.underlying2 (by kernel_rfl) ⟨_, _, _, e1⟩ t1
  exact ⟨A, n, c, B, m, e, xs, ys, by rw [f0, f1], i0, b0, i1, b1⟩
end
end Go.Proofs.Ytapbcmhkipaecaa
/- How a slice of integers that came in reads, with its room. -/
namespace Go.Proofs.Ytapbcmhkipaecaa
open Go.ChangeShapes Go.WideShapes Go.ChangeAt Go.RowKit

section
variable {H : Type} {enc : TypeId × Value → H} {w : World} {base : Nat} {spare : Nat → Bool} {held : Bool}
/-- the same, and its room -/
theorem open_numsc {t e : TypeId} {v : Value} {d : DataW H} {p : List MemPlace} (ht : Try.prog.underlying t = some (.slice e)) (he : Try.prog.underlying e = some (.int .i64)) (hC : Try.prog.cellsOf e = 1) (hf : ∃ a n c, v = .slice a n c) (h : DataW.Trod enc Try.prog w base spare held t v d p) :
    ∃ A n c xs, v = .slice A n c ∧ Ints w w.heap.size A n xs ∧ n ≤ 9223372036854775807 ∧ n ≤ c := by
  obtain ⟨a0, len0, cap0, rfl⟩ := hf
  obtain ⟨fuel, hf⟩ := h
  rcases open_ints ht he hC hf with ⟨hcs, _⟩ | ⟨x, l, c, zs, hcs, _, hl, hm, hz, _, hcell, hwz⟩
  · simp [Value.cells] at hcs
    obtain ⟨rfl, rfl, rfl⟩ := hcs
    exact ⟨none, 0, 0, [], rfl, Ints.nil_, by omega, Nat.le_refl _⟩
  · simp [Value.cells] at hcs
    obtain ⟨rfl, rfl, rfl⟩ := hcs
    have hz' : len0 ≤ zs.length := by split at hz <;> omega
    refine ⟨_, _, _, _, rfl, ints_of_row hz' hcell hwz, ?_, hl⟩
    unfold maxLen at hm
    omega
end
end Go.Proofs.Ytapbcmhkipaecaa
/- Slices of entries: when one reads as a list of places and numbers. -/
namespace Go.Proofs.Ytapbcmhkipaecaa
open Go.RowKit

/-- an entry: its place's header, the place, the number -/
structure Ent where
  A : Option Addr
  n : Nat
  c : Nat
  cs : List Int
  v : Int
/-- the header (A, n) leads to the entries es, in blocks below B -/
def Ents (w : World) (B : Nat) (A : Option Addr) (n : Nat) (es : List Ent) : Prop :=
  es.length = n ∧ (∀ x ∈ es, Ints w B x.A x.n x.cs ∧ x.n ≤ 9223372036854775807 ∧ x.n ≤ x.c ∧ -9223372036854775808 ≤ x.v ∧ x.v ≤ 9223372036854775807) ∧
  (0 < n → ∃ b off, A = some ⟨b, off, none⟩ ∧ b < B ∧ ∀ (k : Nat) (x : Ent), es[k]? = some x → w.cell? ⟨b, off + 2 * k, none⟩ = some (.slice x.A x.n x.c) ∧ w.cell? ⟨b, off + 2 * k + 1, none⟩ = some (.int .i64 x.v))
section
variable {w w' : World} {B B' n : Nat} {A : Option Addr} {es : List Ent}
theorem Ents.nil_ : Ents w B A 0 [] := ⟨rfl, by simp, fun h => absurd h (by omega)⟩
theorem Ents.len (h : Ents w B A n es) : es.length = n := h.1
theorem Ents.keep (h : Ents w B A n es) (hk : ∀ p : Addr, p.block < B → w'.cell? p = w.cell? p) : Ents w' B A n es := by
  obtain ⟨hl, hb, hc⟩ := h
  refine ⟨hl, fun x hx => ⟨(hb x hx).1.keep hk, (hb x hx).2⟩, fun hn => ?_⟩
  obtain ⟨b, off, e, hB, hx⟩ := hc hn
  exact ⟨b, off, e, hB, fun k x hx' => ⟨(hk _ hB).trans (hx k x hx').1, (hk _ hB).trans (hx k x hx').2⟩⟩
theorem Ents.more (h : Ents w B A n es) (hB : B ≤ B') : Ents w B' A n es := by
  obtain ⟨hl, hb, hc⟩ := h
  refine ⟨hl, fun x hx => ⟨(hb x hx).1.more hB, (hb x hx).2⟩, fun hn => ?_⟩
  obtain ⟨b, off, e, hB', hx⟩ := hc hn
  exact ⟨b, off, e, by omega, hx⟩
theorem Ents.below (h : Ents w B A n es) (hb : Below B w w') : Ents w' B A n es := h.keep fun _ hp => hb.cell hp
theorem Ents.at_ {k : Nat} (h : Ents w B A n es) (hk : k < n) :
    ∃ b off x, A = some ⟨b, off, none⟩ ∧ b < B ∧ Hid (es[k]? = some x) ∧ w.cell? ⟨b, off + 2 * k, none⟩ = some (.slice x.A x.n x.c) ∧ w.cell? ⟨b, off + 2 * k + 1, none⟩ = some (.int .i64 x.v) ∧ Ints w B x.A x.n x.cs ∧ x.n ≤ 9223372036854775807 ∧ x.n ≤ x.c ∧ -9223372036854775808 ≤ x.v ∧ x.v ≤ 9223372036854775807 := by
  obtain ⟨hl, hb, hc⟩ := h
  obtain ⟨b, off, rfl, hB, hx⟩ := hc (by omega)
  have hk' : k < es.length := by omega
  have hm := hb _ (List.getElem_mem hk')
  have hx' := hx k _ (List.getElem?_eq_getElem hk')
  exact ⟨b, off, es[k], rfl, hB, List.getElem?_eq_getElem hk', hx'.1, hx'.2, hm.1, hm.2.1, hm.2.2.1, hm.2.2.2.1, hm.2.2.2.2⟩
theorem Ents.take_ {k : Nat} (h : Ents w B A n es) (hk : k ≤ n) : Ents w B A k (es.take k) := by
  obtain ⟨hl, hb, hc⟩ := h
  refine ⟨by rw [List.length_take]; omega, fun x hx => hb x (List.mem_of_mem_take hx), fun h0 => ?_⟩
  obtain ⟨b, off, e, hB, hx⟩ := hc (by omega)
  refine ⟨b, off, e, hB, fun j x hj => hx j x ?_⟩
  rw [List.getElem?_take] at hj
  split at hj
  · exact hj
  · cases hj
theorem Ents.drop_ {k c : Nat} (h : Ents w B A n es) (hk : k ≤ n) (hc : n ≤ c) : Ents w B (if c = k then A else A.map (·.add (k * 2))) (n - k) (es.drop k) := by
  obtain ⟨hl, hb, hcc⟩ := h
  refine ⟨by rw [List.length_drop]; omega, fun x hx => hb x (List.mem_of_mem_drop hx), fun h0 => ?_⟩
  obtain ⟨b, off, rfl, hB, hx⟩ := hcc (by omega)
  rw [if_neg (by omega)]
  refine ⟨b, off + 2 * k, ?_, hB, fun j x hj => ?_⟩
  · by_cases hk0 : k = 0
    · subst hk0; simp [Addr.add]
    · have h2 : ¬ k * 2 = 0 := by omega
      simp [Addr.add, h2, Nat.mul_comm]
  · rw [List.getElem?_drop] at hj
    have := hx (k + j) x hj
    rw [show off + 2 * k + 2 * j = off + 2 * (k + j) by omega]
    exact this
end
end Go.Proofs.Ytapbcmhkipaecaa
/- How a slice of entries that came in reads. -/
namespace Go.Proofs.Ytapbcmhkipaecaa
open Go.ChangeShapes Go.WideShapes Go.ChangeAt Go.RowKit Go.Deep

section
variable {H : Type} {enc : TypeId × Value → H} {w : World} {base : Nat} {spare : Nat → Bool} {held : Bool}
set_option maxRecDepth 100000 in
/-- one entry's cells -/
theorem open_entry {f0 f1 : Field} {fuel : Nat} {a : Addr} {cs : List Value} {x : DataW H × List MemPlace} (hs : Try.prog.underlying 37 = some (.struct #[f0, f1])) (hone : oneCellFields Try.prog #[f0, f1] = true) (ht0 : f0.type = 22) (ht1 : f1.type = 2) (hl : cs.length = 2)
    (hc : ∀ i, i < 2 → w.cell? (a.add i) = cs[i]?) (h : DataW.trod enc Try.prog w base spare held fuel 37 cs = some x) :
    ∃ y : Ent, w.cell? (a.add 0) = some (.slice y.A y.n y.c) ∧ w.cell? (a.add 1) = some (.int .i64 y.v) ∧ Ints w w.heap.size y.A y.n y.cs ∧ y.n ≤ 9223372036854775807 ∧ y.n ≤ y.c ∧ -9223372036854775808 ≤ y.v ∧ y.v ≤ 9223372036854775807 := by
  obtain ⟨ys, k, _, _, _, hyl, hf⟩ := DataW.trod_struct hs h
  match cs, hl with
  | [v0, v1], _ =>
    match ys, hyl with
    | [y0, y1], _ =>
      obtain ⟨o0, k0⟩ := hone_of hone 0 f0 rfl
      obtain ⟨o1, k1⟩ := hone_of hone 1 f1 rfl
      have h0 := hf 0 f0 rfl
      have h1 := hf 1 f1 rfl
      rw [o0, k0, ht0] at h0
      rw [o1, k1, ht1] at h1
      simp only [List.drop_zero, List.take_succ_cons, List.take_zero, List.drop_succ_cons, List.getElem?_cons_zero, List.getElem?_cons_succ] at h0 h1
      obtain ⟨a0, l0, c0, e0⟩ := Go.Joins.slice_form Try.underlying22 h0
      simp only [List.cons.injEq, and_true] at e0
      subst e0
      have t0 : DataW.Trod enc Try.prog w base spare held 22 (.slice a0 l0 c0) y0.1 y0.2 := ⟨k, h0⟩
      obtain ⟨A, n, c, zs, f0', i0, b0, g0⟩ := open_numsc Try.underlying22 Try.underlying3 (by kernel_rfl) ⟨_, _, _, rfl⟩ t0
      obtain ⟨v, e1, _, hw⟩ := DataW.trod_int Try.underlying2 h1
      simp only [List.cons.injEq, and_true] at e1
      subst e1
      have hb := wf_bounds hw
      refine ⟨⟨A, n, c, zs, v⟩, ?_, ?_, i0, b0, g0, hb.1, hb.2⟩
      · have := hc 0 (by omega); rw [this, ← f0']; rfl
      · have := hc 1 (by omega); rw [this]; rfl
theorem add_two (b off i : Nat) : (Addr.add ⟨b, off, none⟩ i : Addr) = ⟨b, off + i, none⟩ := by
  by_cases h : i = 0
  · subst h; simp [Addr.add]
  · simp [Addr.add, h]
set_option maxRecDepth 100000 in
/-- a []api.Entry that came in -/
theorem open_ents {v : Value} {d : DataW H} {p : List MemPlace} (hf : ∃ a n c, v = .slice a n c) (h : DataW.Trod enc Try.prog w base spare held 23 v d p) :
    ∃ A n c es, v = .slice A n c ∧ Ents w w.heap.size A n es ∧ n ≤ 9223372036854775807 ∧ n ≤ c := by
  obtain ⟨a0, len0, cap0, rfl⟩ := hf
  obtain ⟨fuel, hf⟩ := h
  rcases open_slice Try.underlying23 hf with ⟨hcs, _⟩ | ⟨x, l, c, m, k, D, Pl, hcs, _, hl, hm, hmm, _, hi⟩
  · simp [Value.cells] at hcs
    obtain ⟨rfl, rfl, rfl⟩ := hcs
    exact ⟨none, 0, 0, [], rfl, Ents.nil_, by omega, Nat.le_refl _⟩
  · simp [Value.cells] at hcs
    obtain ⟨rfl, rfl, rfl⟩ := hcs
    have hC : Try.prog.cellsOf 37 = 2 := by kernel_rfl
    have key : ∀ i, i < len0 → ∃ y : Ent, w.cell? ((x.add (i * 2)).add 0) = some (.slice y.A y.n y.c) ∧ w.cell? ((x.add (i * 2)).add 1) = some (.int .i64 y.v) ∧ Ints w w.heap.size y.A y.n y.cs ∧ y.n ≤ 9223372036854775807 ∧ y.n ≤ y.c ∧ -9223372036854775808 ≤ y.v ∧ y.v ≤ 9223372036854775807 := by
      intro i hil
      have hml : len0 ≤ m := by rw [hmm]; split <;> omega
      obtain ⟨cs', hc, ht'⟩ := hi i (by omega)
      rw [hC] at hc
      obtain ⟨_, hlen, hat⟩ := World.cells?_some hc
      exact open_entry Try.underlying37 (by kernel_rfl) (by kernel_rfl) (by kernel_rfl) hlen hat ht'
    refine ⟨_, _, _, (List.range len0).map fun i => if hh : i < len0 then Classical.choose (key i hh) else ⟨none, 0, 0, [], 0⟩, rfl, ⟨by simp, ?_, ?_⟩, by unfold maxLen at hm; omega, hl⟩
    · intro y hy
      rw [List.mem_map] at hy
      obtain ⟨i, hir, rfl⟩ := hy
      have hil := List.mem_range.1 hir
      rw [dif_pos hil]
      exact (Classical.choose_spec (key i hil)).2.2
    · intro h0
      obtain ⟨b, off, spot⟩ := x
      have hs := (Classical.choose_spec (key 0 h0)).1
      have hspot : spot = none := by simpa [Addr.add] using World.cell?_spot hs
      subst hspot
      have hlt : b < w.heap.size := by have := lt_of_cell hs; simpa [Addr.add] using this
      refine ⟨b, off, rfl, hlt, fun q y hy => ?_⟩
      rw [List.getElem?_map, Option.map_eq_some_iff] at hy
      obtain ⟨i, hir, hiy⟩ := hy
      have hq : q < len0 := by have := (List.getElem?_eq_some_iff.1 hir).1; simpa using this
      have hqi : i = q := by have := (List.getElem?_eq_some_iff.1 hir).2; simpa using this.symm
      subst hqi
      rw [dif_pos hq] at hiy
      have hk := Classical.choose_spec (key i hq)
      rw [hiy] at hk
      obtain ⟨k0, k1, _⟩ := hk
      rw [add_two, add_two] at k0 k1
      rw [show off + 2 * i = off + i * 2 + 0 by omega]
      exact ⟨k0, k1⟩
set_option maxRecDepth 100000 in
/-- an api.Coo that came in -/
theorem open_coo {r : Reach} {b0 : Nat} {v : Value} {d : DataW H} {p : List MemPlace} (hv : Value.okWide Try.prog w r b0 25 v) (h : DataW.Trod enc Try.prog w base spare held 25 v d p) :
    ∃ A n c B m e xs es, v = .agg #[.slice A n c, .slice B m e] ∧ Ints w w.heap.size A n xs ∧ n ≤ 9223372036854775807 ∧ Ents w w.heap.size B m es ∧ m ≤ 9223372036854775807 ∧ n ≤ c ∧ m ≤ e := by
  obtain ⟨v0, v1, y0, y1, k, rfl, _, _, h0, h1⟩ := Go.Joins.open_agg2 Try.underlying25 (by kernel_rfl) (by kernel_rfl) hv h
  obtain ⟨a0, l0, c0, e0⟩ := Go.Joins.slice_form Try.underlying22 h0
  obtain ⟨a1, l1, c1, e1⟩ := Go.Joins.slice_form Try.underlying23 h1
  simp only [List.cons.injEq, and_true] at e0 e1
  have t0 : DataW.Trod enc Try.prog w base spare held 22 v0 y0.1 y0.2 := ⟨k, by rw [e0] at h0 ⊢; exact h0⟩
  have t1 : DataW.Trod enc Try.prog w base spare held 23 v1 y1.1 y1.2 := ⟨k, by rw [e1] at h1 ⊢; exact h1⟩
  obtain ⟨A, n, c, xs, f0, i0, b0, g0⟩ := open_numsc Try.underlying22 Try.underlying3 (by kernel_rfl) ⟨_, _, _, e0⟩ t0
  obtain ⟨B, m, e, es, f1, i1, b1, g1⟩ := open_ents ⟨_, _, _, e1⟩ t1
  exact ⟨A, n, c, B, m, e, xs, es, by rw [f0, f1], i0, b0, i1, b1, g0, g1⟩
end
end Go.Proofs.Ytapbcmhkipaecaa
/- How a tensor that came in reads, with the room of its shape and of its cells. -/
namespace Go.Proofs.Ytapbcmhkipaecaa
open Go.ChangeShapes Go.WideShapes Go.ChangeAt Go.RowKit

section
variable {H : Type} {enc : TypeId × Value → H} {w : World} {base : Nat} {spare : Nat → Bool} {held : Bool}
set_option maxRecDepth 100000 in
theorem open_densee {r : Reach} {b0 : Nat} {v : Value} {d : DataW H} {p : List MemPlace} (hv : Value.okWide Try.prog w r b0 41 v) (h : DataW.Trod enc Try.prog w base spare held 41 v d p) :
    ∃ A n c B m e xs ys, v = .agg #[.slice A n c, .slice B m e] ∧ Ints w w.heap.size A n xs ∧ n ≤ 9223372036854775807 ∧ Ints w w.heap.size B m ys ∧ m ≤ 9223372036854775807 ∧ n ≤ c ∧ m ≤ e := by
  obtain ⟨v0, v1, y0, y1, k, rfl, _, _, h0, h1⟩ := Go.Joins.open_agg2 Try.underlying41 (by kernel_rfl) (by kernel_rfl) hv h
  obtain ⟨a0, l0, c0, e0⟩ := Go.Joins.slice_form Try.underlying22 h0
  obtain ⟨a1, l1, c1, e1⟩ := Go.Joins.slice_form Try.underlying39 h1
  simp only [List.cons.injEq, and_true] at e0 e1
  have t0 : DataW.Trod enc Try.prog w base spare held 22 v0 y0.1 y0.2 := ⟨k, by rw [e0] at h0 ⊢; exact h0⟩
  have t1 : DataW.Trod enc Try.prog w base spare held 39 v1 y1.1 y1.2 := ⟨k, by rw [e1] at h1 ⊢; exact h1⟩
  obtain ⟨A, n, c, xs, f0, i0, b0, g0⟩ := open_numsc Try.underlying22 Try.underlying3 (by kernel_rfl) ⟨_, _, _, e0⟩ t0
  obtain ⟨B, m, e, ys, f1, i1, b1, g1⟩ := open_numsc Try.underlying39 Try.underlying2 (by kernel_rfl) ⟨_, _, _, e1⟩ t1
  exact ⟨A, n, c, B, m, e, xs, ys, by rw [f0, f1], i0, b0, i1, b1, g0, g1⟩
end
end Go.Proofs.Ytapbcmhkipaecaa
/- slices.Sort at []int, laid out of the library's contract. -/
namespace Go.Proofs.Ytapbcmhkipaecaa
open Go.Shelf
def lays189_ren : Go.Shelf.Ren := ⟨fun | 189 => 85 | 125 => 95 | 257 => 94 | 128 => 106 | 129 => 107 | 294 => 97 | 295 => 98 | 296 => 99 | 297 => 100 | 298 => 101 | 299 => 102 | 216 => 103 | 300 => 104 | 301 => 105 | 328 => 109 | 329 => 110 | 330 => 111 | 331 => 112 | 332 => 113 | 215 => 89 | 343 => 114 | n => n, fun | 28 => 22 | 3 => 3 | 46 => 106 | 0 => 0 | 51 => 116 | 53 => 118 | 4 => 4 | 183 => 109 | 182 => 108 | 131 => 113 | 5 => 5 | 9 => 9 | 218 => 119 | 222 => 123 | 228 => 125 | 229 => 126 | n => n, fun | n => n⟩
set_option maxRecDepth 100000 in
theorem lays189 : Go.Proofs.Lays.n189 Try.prog lays189_ren := {
  mixed := by kernel_rfl
  f125 := Try.func95.trans (congrArg some (by kernel_rfl))
  f128 := Try.func106.trans (congrArg some (by kernel_rfl))
  f129 := Try.func107.trans (congrArg some (by kernel_rfl))
  f189 := Try.func85.trans (congrArg some (by kernel_rfl))
  f215 := Try.func89.trans (congrArg some (by kernel_rfl))
  f216 := Try.func103.trans (congrArg some (by kernel_rfl))
  f257 := Try.func94.trans (congrArg some (by kernel_rfl))
  f294 := Try.func97.trans (congrArg some (by kernel_rfl))
  f295 := Try.func98.trans (congrArg some (by kernel_rfl))
  f296 := Try.func99.trans (congrArg some (by kernel_rfl))
  f297 := Try.func100.trans (congrArg some (by kernel_rfl))
  f298 := Try.func101.trans (congrArg some (by kernel_rfl))
  f299 := Try.func102.trans (congrArg some (by kernel_rfl))
  f300 := Try.func104.trans (congrArg some (by kernel_rfl))
  f301 := Try.func105.trans (congrArg some (by kernel_rfl))
  f328 := Try.func109.trans (congrArg some (by kernel_rfl))
  f329 := Try.func110.trans (congrArg some (by kernel_rfl))
  f330 := Try.func111.trans (congrArg some (by kernel_rfl))
  f331 := Try.func112.trans (congrArg some (by kernel_rfl))
  f332 := Try.func113.trans (congrArg some (by kernel_rfl))
  f343 := Try.func114.trans (congrArg some (by kernel_rfl))
  t0 := Try.underlying0
  a0 := Try.isAgg0
  z0 := Try.sizeOf0
  v0 := Try.zeroValue0
  t3 := Try.underlying3
  a3 := Try.isAgg3
  z3 := Try.sizeOf3
  v3 := Try.zeroValue3
  t4 := Try.underlying4
  a4 := Try.isAgg4
  z4 := Try.sizeOf4
  v4 := Try.zeroValue4
  t5 := Try.underlying5
  a5 := Try.isAgg5
  z5 := Try.sizeOf5
  v5 := Try.zeroValue5
  t9 := Try.underlying9
  a9 := Try.isAgg9
  z9 := Try.sizeOf9
  v9 := Try.zeroValue9
  t28 := Try.underlying22
  a28 := Try.isAgg22
  z28 := Try.sizeOf22
  v28 := Try.zeroValue22
  t46 := Try.underlying106
  a46 := Try.isAgg106
  z46 := Try.sizeOf106
  v46 := Try.zeroValue106
  t51 := Try.underlying116
  a51 := Try.isAgg116
  z51 := Try.sizeOf116
  v51 := Try.zeroValue116
  t53 := Try.underlying118
  a53 := Try.isAgg118
  z53 := Try.sizeOf118
  v53 := Try.zeroValue118
  t131 := Try.underlying113
  a131 := Try.isAgg113
  z131 := Try.sizeOf113
  v131 := Try.zeroValue113
  t182 := Try.underlying108
  a182 := Try.isAgg108
  z182 := Try.sizeOf108
  v182 := Try.zeroValue108
  t183 := Try.underlying109
  a183 := Try.isAgg109
  z183 := Try.sizeOf109
  v183 := Try.zeroValue109
  t218 := Try.underlying119
  a218 := Try.isAgg119
  z218 := Try.sizeOf119
  v218 := Try.zeroValue119
  t222 := Try.underlying123
  a222 := Try.isAgg123
  z222 := Try.sizeOf123
  v222 := Try.zeroValue123
  t228 := Try.underlying125
  a228 := Try.isAgg125
  z228 := Try.sizeOf125
  v228 := Try.zeroValue125
  t229 := Try.underlying126
  a229 := Try.isAgg126
  z229 := Try.sizeOf126
  v229 := Try.zeroValue126 }
open Go.Sort Go.RowKit in
theorem shelfSort_int (blk off cap : Nat) (zs : List Int) (w : World) (hH : Holds (Value.int .i64) w blk off zs.toArray) (hblk : blk < w.heap.size) (hsz : zs.length < 4611686018427387904) :
    Calls Try.prog 85 #[.slice (some ⟨blk, off, none⟩) zs.length cap] w fun e w' =>
      e = .returned (.tuple #[]) ∧ ∃ n os, w' = grow (putRow (Value.int .i64) (Sort.ahead w n) blk off (zs.mergeSort fun x y => decide (x ≤ y)).toArray) os := Any.slices_Sort_int lays189 blk off cap zs w hH hblk hsz
open Go.RowKit Go.Sort in
/-- .. and plain. (LAID: no walk: one application.) -/
theorem shelfSort_int_none (p : Option Addr) (cap : Nat) (w : World) :
    Calls Try.prog 85 #[.slice p 0 cap] w fun e w' => e = .returned (.tuple #[]) ∧ w' = w := Any.slices_Sort_int_none lays189 p cap w
end Go.Proofs.Ytapbcmhkipaecaa
/- The contracts of box.Cells and of the document's Cells (and of what they call), at every list of numbers: both return what cellsF computes, and leave memory alone. -/
namespace Go.Proofs.Ytapbcmhkipaecaa
open Go.RowKit

set_option maxRecDepth 100000 in
theorem negative_any (x : Int) (w : World) : Calls Try.prog 76 #[.int .i64 x] w fun e w' => e = .returned (.bool (decide (x < 0))) ∧ w = w' := by
  go_enter Try.func76, Try.ntmps76
  go_wp2
  go_ret
  exact ⟨rfl, rfl⟩

set_option maxRecDepth 100000 in
/-- slices.IndexFunc(l, negative): the place of the first negative number, or -1; here: whether there is one -/
theorem indexFunc_any (A : Option Addr) (n c : Nat) (xs : List Int) (w : World) (B : Nat) (h : Ints w B A n xs) (hn : n ≤ 100000) :
    Calls Try.prog 90 #[.slice A n c, .func (.func 76) #[] #[]] w fun e w' => ∃ r : Int, e = .returned (.int .i64 r) ∧ decide (0 ≤ r) = (xs.any fun s => decide (s < 0)) ∧ w = w' := by
  have HL : Hid (xs.length = n) := h.1
  go_enter Try.func90, Try.ntmps90
  go_wp2
  go_loop [8] (fun i => ∃ k : Nat, k ≤ n ∧ i = .int .i64 k ∧ Hid ((xs.take k).any (fun s => decide (s < 0)) = false)) (fun i => n - (intOf i).toNat)
  case atStart => exact ⟨0, Nat.zero_le _, rfl, by unfold Hid; simp⟩
  case round =>
    obtain ⟨k, hk, rfl, HK⟩ := hrel
    by_cases hlt : k < n
    · obtain ⟨b, off, x, rfl, _, HX, hc, hx1, hx2⟩ := h.at_ hlt
      by_cases hneg : x < 0
      · go_wp2_with (go_at_call 76; refine (negative_any _ _).mono ?_; rintro e w' ⟨rfl, rfl⟩)
        go_ret
        exact ⟨k, rfl, by rw [any_hit HX.out (by simpa using hneg)]; simp, rfl⟩
      · go_wp2_with (go_at_call 76; refine (negative_any _ _).mono ?_; rintro e w' ⟨rfl, rfl⟩)
        go_round
        case rel => exact ⟨k + 1, by omega, by go_num, any_miss HK.out HX.out (by simpa using hneg)⟩
        case measure => simp [intOf]; omega
    · go_wp2
      go_ret
      exact ⟨-1, rfl, by rw [any_all HK.out HL.out (by omega)]; rfl, rfl⟩

set_option maxRecDepth 100000 in
theorem containsFunc_any (A : Option Addr) (n c : Nat) (xs : List Int) (w : World) (B : Nat) (h : Ints w B A n xs) (hn : n ≤ 100000) :
    Calls Try.prog 75 #[.slice A n c, .func (.func 76) #[] #[]] w fun e w' => e = .returned (.bool (xs.any fun s => decide (s < 0))) ∧ w = w' := by
  go_enter Try.func75, Try.ntmps75
  go_wp2_with (go_at_call 90; refine (indexFunc_any A n c xs _ B h hn).mono ?_; rintro e w' ⟨r, rfl, HR, rfl⟩; have HH := Lib.hid HR; clear HR)
  go_ret
  exact ⟨by rw [HH.out]; rfl, rfl⟩

set_option maxRecDepth 100000 in
theorem index_any (A : Option Addr) (n c : Nat) (xs : List Int) (v : Int) (w : World) (B : Nat) (h : Ints w B A n xs) (hn : n ≤ 100000) :
    Calls Try.prog 91 #[.slice A n c, .int .i64 v] w fun e w' => ∃ r : Int, e = .returned (.int .i64 r) ∧ decide (0 ≤ r) = (xs.any fun s => s == v) ∧ w = w' := by
  have HL : Hid (xs.length = n) := h.1
  go_enter Try.func91, Try.ntmps91
  go_wp2
  go_loop [8] (fun i => ∃ k : Nat, k ≤ n ∧ i = .int .i64 k ∧ Hid ((xs.take k).any (fun s => s == v) = false)) (fun i => n - (intOf i).toNat)
  case atStart => exact ⟨0, Nat.zero_le _, rfl, by unfold Hid; simp⟩
  case round =>
    obtain ⟨k, hk, rfl, HK⟩ := hrel
    by_cases hlt : k < n
    · obtain ⟨b, off, x, rfl, _, HX, hc, hx1, hx2⟩ := h.at_ hlt
      by_cases hv : (v == x) = true
      · go_wp2
        go_ret
        exact ⟨k, rfl, by rw [any_hit HX.out (by simp at hv ⊢; exact hv.symm)]; simp, rfl⟩
      · have hv' : (v == x) = false := by simpa using hv
        clear hv
        go_wp2
        go_round
        case rel => exact ⟨k + 1, by omega, by go_num, any_miss HK.out HX.out (by simp at hv' ⊢; exact fun h => hv' h.symm)⟩
        case measure => simp [intOf]; omega
    · go_wp2
      go_ret
      exact ⟨-1, rfl, by rw [any_all HK.out HL.out (by omega)]; rfl, rfl⟩

set_option maxRecDepth 100000 in
theorem contains_any (A : Option Addr) (n c : Nat) (xs : List Int) (v : Int) (w : World) (B : Nat) (h : Ints w B A n xs) (hn : n ≤ 100000) :
    Calls Try.prog 77 #[.slice A n c, .int .i64 v] w fun e w' => e = .returned (.bool (xs.any fun s => s == v)) ∧ w = w' := by
  go_enter Try.func77, Try.ntmps77
  go_wp2_with (go_at_call 91; refine (index_any A n c xs v _ B h hn).mono ?_; rintro e w' ⟨r, rfl, HR, rfl⟩; have HH := Lib.hid HR; clear HR)
  go_ret
  exact ⟨by rw [HH.out]; rfl, rfl⟩

set_option maxRecDepth 100000 in
theorem cells_any (A : Option Addr) (n c : Nat) (xs : List Int) (w : World) (B : Nat) (h : Ints w B A n xs) (hn : n ≤ 9223372036854775807) :
    Calls Try.prog 51 #[.slice A n c] w fun e w' => e = .returned (.tuple #[.int .i64 (cellsF xs).1, .int .i64 (cellsF xs).2]) ∧ w = w' := by
  have HL : Hid (xs.length = n) := h.1
  by_cases h4 : 4 < n
  · go_enter Try.func51, Try.ntmps51
    go_wp2
    go_ret2
    exact ⟨by rw [cellsF, if_pos (.inl (by rw [HL.out]; omega))]; rfl, rfl⟩
  by_cases hneg : (xs.any fun s => decide (s < 0)) = true
  · have HC : ∀ W, Ints W B A n xs → Calls Try.prog 75 #[.slice A n c, .func (.func 76) #[] #[]] W fun e w' => e = .returned (.bool true) ∧ W = w' := fun W hW => (containsFunc_any A n c xs W B hW (by omega)).mono fun _ _ hh => by rw [hneg] at hh; exact hh
    have HN := Lib.hid hneg
    clear hneg
    go_enter Try.func51, Try.ntmps51
    go_wp2_with (go_at_call 75; refine (HC _ h).mono ?_; rintro e w' ⟨rfl, rfl⟩)
    go_ret2
    exact ⟨by rw [cellsF, if_pos (.inr HN.out)]; rfl, rfl⟩
  have hneg' : (xs.any fun s => decide (s < 0)) = false := by simpa using hneg
  clear hneg
  have HC : ∀ W, Ints W B A n xs → Calls Try.prog 75 #[.slice A n c, .func (.func 76) #[] #[]] W fun e w' => e = .returned (.bool false) ∧ W = w' := fun W hW => (containsFunc_any A n c xs W B hW (by omega)).mono fun _ _ hh => by rw [hneg'] at hh; exact hh
  have HN := Lib.hid hneg'
  clear hneg'
  have hor : ¬ (4 < xs.length ∨ (xs.any fun s => decide (s < 0)) = true) := by rw [HN.out, HL.out]; simp; omega
  by_cases hz : (xs.any fun s => s == 0) = true
  · have HD : ∀ W, Ints W B A n xs → Calls Try.prog 77 #[.slice A n c, .int .i64 0] W fun e w' => e = .returned (.bool true) ∧ W = w' := fun W hW => (contains_any A n c xs 0 W B hW (by omega)).mono fun _ _ hh => by rw [hz] at hh; exact hh
    have HF : Hid (cellsF xs = (0, 0)) := by unfold Hid cellsF; rw [if_neg hor, if_pos hz]
    clear hz hor
    go_enter Try.func51, Try.ntmps51
    go_wp2_with (first | (go_at_call 75; refine (HC _ h).mono ?_; rintro e w' ⟨rfl, rfl⟩) | (go_at_call 77; refine (HD _ h).mono ?_; rintro e w' ⟨rfl, rfl⟩))
    go_ret2
    exact ⟨by rw [HF.out]; rfl, rfl⟩
  have hz' : (xs.any fun s => s == 0) = false := (by cases hb : (xs.any fun s => s == 0) with | false => rfl | true => exact absurd hb hz)
  clear hz
  have HD : ∀ W, Ints W B A n xs → Calls Try.prog 77 #[.slice A n c, .int .i64 0] W fun e w' => e = .returned (.bool false) ∧ W = w' := fun W hW => (contains_any A n c xs 0 W B hW (by omega)).mono fun _ _ hh => by rw [hz'] at hh; exact hh
  have HF : Hid (cellsF xs = cellsGo xs 1) := by unfold Hid cellsF; rw [if_neg hor, if_neg (by rw [hz']; simp)]
  have HP : ∀ x ∈ xs, 1 ≤ x := pos_of_any HN.out hz'
  have HZ := Lib.hid hz'
  clear hz' hor
  go_enter Try.func51, Try.ntmps51
  go_wp2_with (first | (go_at_call 75; refine (HC _ h).mono ?_; rintro e w' ⟨rfl, rfl⟩) | (go_at_call 77; refine (HD _ h).mono ?_; rintro e w' ⟨rfl, rfl⟩))
  go_loop [4, 18] (fun m i => ∃ (k : Nat) (q : Int), k ≤ n ∧ 1 ≤ q ∧ q ≤ 4611686018427387903 ∧ i = .int .i64 k ∧ m = .int .i64 q ∧ Hid (cellsGo xs 1 = cellsGo (xs.drop k) q)) (fun _ i => n - (intOf i).toNat)
  case atStart => exact ⟨0, 1, Nat.zero_le _, by omega, by omega, rfl, rfl, rfl⟩
  case round =>
    obtain ⟨k, q, hk, hq1, hq2, rfl, rfl, HK⟩ := hrel
    by_cases hlt : k < n
    · obtain ⟨b, off, x, rfl, _, HX, hc, hx1, hx2⟩ := h.at_ hlt
      have hxp : 1 ≤ x := HP x (List.mem_of_getElem? HX.out)
      clear HC HD
      by_cases hb : 4611686018427387903 / q < x
      · have HE : Hid (cellsGo xs 1 = (0, 2)) := by unfold Hid; rw [HK.out, drop_of HX.out, cellsGo, if_pos hb]
        clear HK
        go_wp2
        go_ret2
        exact ⟨by rw [HF.out, HE.out]; rfl, rfl⟩
      · have HE : Hid (cellsGo xs 1 = cellsGo (xs.drop (k + 1)) (q * x)) := by unfold Hid; rw [HK.out, drop_of HX.out, cellsGo, if_neg hb]
        have hm := mul_bound hq1 hxp hb
        have hb' : x ≤ 4611686018427387903 / q := by omega
        clear HK hb
        go_wp2
        go_round
        case rel => exact ⟨k + 1, q * x, by omega, hm.1, hm.2, by go_num, rfl, HE⟩
        case measure => simp [intOf]; omega
    · have HE : Hid (cellsGo xs 1 = (q, 0)) := by unfold Hid; rw [HK.out, List.drop_of_length_le (by rw [HL.out]; omega)]; rfl
      go_wp2
      go_ret2
      exact ⟨by rw [HF.out, HE.out]; rfl, rfl⟩

set_option maxRecDepth 100000 in
theorem refCells_any (A : Option Addr) (n c : Nat) (xs : List Int) (w : World) (B : Nat) (h : Ints w B A n xs) (hn : n ≤ 9223372036854775807) :
    Calls Try.prog 53 #[.slice A n c] w fun e w' => e = .returned (.tuple #[.int .i64 (cellsF xs).1, .int .i64 (cellsF xs).2]) ∧ w = w' := by
  have HL : Hid (xs.length = n) := h.1
  by_cases h4 : 4 < n
  · go_enter Try.func53, Try.ntmps53
    go_wp2
    go_ret2
    exact ⟨by rw [cellsF, if_pos (.inl (by rw [HL.out]; omega))]; rfl, rfl⟩
  go_enter Try.func53, Try.ntmps53
  go_wp2
  go_loop [4, 15] (fun z i => ∃ (k : Nat) (bz : Bool), k ≤ n ∧ i = .int .i64 k ∧ z = .bool bz ∧ Hid ((xs.take k).any (fun s => decide (s < 0)) = false) ∧ Hid ((xs.take k).any (fun s => s == 0) = bz)) (fun _ i => n - (intOf i).toNat)
  case atStart => exact ⟨0, false, Nat.zero_le _, rfl, rfl, rfl, rfl⟩
  case round =>
    obtain ⟨k, bz, hk, rfl, rfl, HK, HZ⟩ := hrel
    by_cases hlt : k < n
    · obtain ⟨b, off, x, rfl, _, HX, hc, hx1, hx2⟩ := h.at_ hlt
      by_cases hneg : x < 0
      · go_wp2
        go_ret2
        exact ⟨by rw [cellsF, if_pos (.inr (any_hit HX.out (by simpa using hneg)))]; rfl, rfl⟩
      · have HN' : Hid ((xs.take (k + 1)).any (fun s => decide (s < 0)) = false) := any_miss HK.out HX.out (by simpa using hneg)
        have HZ' : Hid ((xs.take (k + 1)).any (fun s => s == 0) = (bz || (x == 0))) := by unfold Hid; rw [take_succ_of HX.out, List.any_append, HZ.out]; simp
        clear HK HZ
        cases bz
        · by_cases hx0 : x = 0
          · subst hx0
            go_wp2
            go_round
            case rel => exact ⟨k + 1, true, by omega, by go_num, rfl, HN', HZ'⟩
            case measure => simp [intOf]; omega
          · have hx0' : (x == 0) = false := by simpa using hx0
            have HZ2 : Hid ((xs.take (k + 1)).any (fun s => s == 0) = false) := by unfold Hid; rw [HZ'.out, hx0']; rfl
            clear hx0
            go_wp2
            go_round
            case rel => exact ⟨k + 1, false, by omega, by go_num, rfl, HN', HZ2⟩
            case measure => simp [intOf]; omega
        · go_wp2
          go_round
          case rel => exact ⟨k + 1, true, by omega, by go_num, rfl, HN', HZ'⟩
          case measure => simp [intOf]; omega
    · have HN : Hid (xs.any (fun s => decide (s < 0)) = false) := any_all HK.out HL.out (by omega)
      have HZ' : Hid (xs.any (fun s => s == 0) = bz) := by unfold Hid; rw [← HZ.out, List.take_of_length_le (by rw [HL.out]; omega)]
      have HO : Hid (¬ (4 < xs.length ∨ (xs.any fun s => decide (s < 0)) = true)) := by unfold Hid; rw [HN.out, HL.out]; simp; omega
      clear HK HZ
      cases bz
      · have HP : ∀ x ∈ xs, 1 ≤ x := pos_of_any HN.out HZ'.out
        have HF : Hid (cellsF xs = cellsGo xs 1) := by unfold Hid cellsF; rw [if_neg HO.out, if_neg (by rw [HZ'.out]; simp)]
        clear HO HZ' HN
        go_wp2
        clear hlt hk
        go_loop [7, 30] (fun m i => ∃ (k : Nat) (q : Int), k ≤ n ∧ 1 ≤ q ∧ q ≤ 4611686018427387903 ∧ i = .int .i64 k ∧ m = .int .i64 q ∧ Hid (cellsGo xs 1 = cellsGo (xs.drop k) q)) (fun _ i => n - (intOf i).toNat)
        case atStart => exact ⟨0, 1, Nat.zero_le _, by omega, by omega, rfl, rfl, rfl⟩
        case round =>
          obtain ⟨k, q, hk, hq1, hq2, rfl, rfl, HK⟩ := hrel
          by_cases hlt : k < n
          · obtain ⟨b, off, x, rfl, _, HX, hc, hx1, hx2⟩ := h.at_ hlt
            have hxp : 1 ≤ x := HP x (List.mem_of_getElem? HX.out)
            by_cases hb : 4611686018427387903 / q < x
            · have HE : Hid (cellsGo xs 1 = (0, 2)) := by unfold Hid; rw [HK.out, drop_of HX.out, cellsGo, if_pos hb]
              clear HK HP
              go_wp2
              go_ret2
              exact ⟨by rw [HF.out, HE.out]; rfl, rfl⟩
            · have HE : Hid (cellsGo xs 1 = cellsGo (xs.drop (k + 1)) (q * x)) := by unfold Hid; rw [HK.out, drop_of HX.out, cellsGo, if_neg hb]
              have hm := mul_bound hq1 hxp hb
              have hb' : x ≤ 4611686018427387903 / q := by omega
              clear HK hb HP
              go_wp2
              go_round
              case rel => exact ⟨k + 1, q * x, by omega, hm.1, hm.2, by go_num, rfl, HE⟩
              case measure => simp [intOf]; omega
          · have HE : Hid (cellsGo xs 1 = (q, 0)) := by unfold Hid; rw [HK.out, List.drop_of_length_le (by rw [HL.out]; omega)]; rfl
            clear HP
            go_wp2
            go_ret2
            exact ⟨by rw [HF.out, HE.out]; rfl, rfl⟩
      · have HF : Hid (cellsF xs = (0, 0)) := by unfold Hid cellsF; rw [if_neg HO.out, if_pos HZ'.out]
        go_wp2
        go_ret2
        exact ⟨by rw [HF.out]; rfl, rfl⟩
end Go.Proofs.Ytapbcmhkipaecaa
/- The contract of box.fromBehind: whoever ranges over it is handed each mode, from the last one on, with the product of the sizes behind it. -/
namespace Go.Proofs.Ytapbcmhkipaecaa
open Go.RowKit Go.Shelf
attribute [local go_sem] Oper.semAt_some

/-- the product of the last k sizes, as it goes around -/
def backs (xs : List Int) (k : Nat) : Int := (xs.drop (xs.length - k)).foldr (fun s acc => wrap64 (acc * s)) 1
theorem backs_zero (xs : List Int) : backs xs 0 = 1 := by simp [backs]
theorem backs_succ {xs : List Int} {k : Nat} {x : Int} (hk : k < xs.length) (h : xs[xs.length - 1 - k]? = some x) : backs xs (k + 1) = wrap64 (backs xs k * x) := by
  unfold backs
  have e : xs.length - (k + 1) = xs.length - 1 - k := by omega
  rw [e, drop_of h]
  have e2 : xs.length - 1 - k + 1 = xs.length - k := by omega
  rw [e2]
  rfl
/-- what has come when k rounds are over -/
def comes (xs : List Int) (k : Nat) : List (Int × Int) := (List.range k).map fun (j : Nat) => ((xs.length : Int) - 1 - j, backs xs j)
theorem comes_succ (xs : List Int) (k : Nat) : comes xs (k + 1) = comes xs k ++ [((xs.length : Int) - 1 - k, backs xs k)] := by simp [comes, List.range_succ]
theorem comes_length (xs : List Int) (k : Nat) : (comes xs k).length = k := by simp [comes]

/-- what a round keeps: all below n₀, and the block Bs -/
def KeepBox (Bs n₀ : Nat) (W W' : World) : Prop := Below n₀ W W' ∧ W'.heap[Bs]? = W.heap[Bs]?
theorem KeepBox.refl (Bs n₀ : Nat) (W : World) : KeepBox Bs n₀ W W := ⟨Below.refl _ _, rfl⟩
theorem KeepBox.trans {Bs n₀ : Nat} {A B C : World} (h : KeepBox Bs n₀ A B) (k : KeepBox Bs n₀ B C) : KeepBox Bs n₀ A C := ⟨h.1.trans k.1, k.2.trans h.2⟩
theorem KeepBox.box {Bs n₀ : Nat} {A B : World} (h : KeepBox Bs n₀ A B) : B.cell? ⟨Bs, 0, none⟩ = A.cell? ⟨Bs, 0, none⟩ := World.cell?_of_block (a := ⟨Bs, 0, none⟩) h.2
theorem KeepBox.of_setCell {Bs n₀ : Nat} {W : World} {p : Addr} (h1 : n₀ ≤ p.block) (h2 : Bs ≠ p.block) (u : Value) : KeepBox Bs n₀ W (W.setCell p u) := ⟨(Below.refl _ _).setCell h1 u, Below.heap_setCell W p u Bs h2⟩
theorem KeepBox.drew {Bs n₀ : Nat} {A B : World} (h : KeepBox Bs n₀ A B) : KeepBox Bs n₀ A B.drew := ⟨h.1.drew, h.2⟩

set_option maxRecDepth 100000 in
set_option maxHeartbeats 1000000 in
theorem fromBehind_in (n : Nat) (A : Option Addr) (r c : Nat) (w : World) :
    CallsIn Fence.wide n Try.prog 79 #[.slice A r c] w fun e w' => e = .returned (.func (.func 92) #[] #[.pointer (some ⟨w.heap.size, 0, none⟩)]) ∧ w' = w.alloc (.cells #[.slice A r c] 22) := by
  refine callsIn_of_wp Try.func79 rfl trivial ?_ rfl
  simp only [Try.ntmps79, List.size_toArray, List.length_cons, List.length_nil, Nat.reduceAdd, Nat.reduceSub, Array.replicate_succ, Array.replicate_zero, List.push_toArray, List.append_toArray, List.nil_append, List.cons_append]
  gi_wp2
  go_ret
  exact ⟨rfl, rfl⟩

set_option maxRecDepth 100000 in
set_option maxHeartbeats 2000000 in
theorem fromBehind1_in (n : Nat) (hn : 1 ≤ n) (p : Int × Int → Prop) (l Bs n₀ : Nat) (A : Option Addr) (r c : Nat) (xs : List Int) (hr : r ≤ 100000) (hp : ∀ k, k < r → p ((r : Int) - 1 - k, backs xs k)) (J Jx : List { x : Int × Int // p x } → World → Prop)
    (hY : ∀ pre x W, J pre W → pre.length < r → YieldAt Fence.wide (n - 1) Try.prog l #[.int .i64 x.1.1, .int .i64 x.1.2] W fun e W' =>
      (e = .returned (.bool true) ∧ J (pre ++ [x]) W' ∧ KeepBox Bs n₀ W W') ∨ (e = .returned (.bool false) ∧ Jx (pre ++ [x]) W'))
    (W : World) (hBs : W.cell? ⟨Bs, 0, none⟩ = some (.slice A r c)) (hI : Ints W n₀ A r xs) (h0 : J [] W) :
    CallsIn Fence.wide n Try.prog 92 #[.func (.yield l) #[] #[], .pointer (some ⟨Bs, 0, none⟩)] W fun e W' => (∃ v, e = .returned v) ∧
      ((∃ ys, ys.map (·.1) = comes xs r ∧ J ys W') ∨ (∃ pre, (∃ k, k ≤ r ∧ pre.map (·.1) = comes xs k) ∧ Jx pre W')) := by
  have HL : Hid (xs.length = r) := hI.1
  refine callsIn_of_wp Try.func92 rfl trivial ?_ rfl
  simp only [Try.ntmps92, List.size_toArray, List.length_cons, List.length_nil, Nat.reduceAdd, Nat.reduceSub, Array.replicate_succ, Array.replicate_zero, List.push_toArray, List.append_toArray, List.nil_append, List.cons_append]
  gi_wp2
  gi_loopw [3, 4] (fun s m wr => ∃ (k : Nat) (j q : Int) (ys : List { x : Int × Int // p x }), k ≤ r ∧ j = (r : Int) - 1 - k ∧ m = .int .i64 j ∧ s = .int .i64 q ∧ Hid (q = backs xs k) ∧ Hid (ys.map (·.1) = comes xs k) ∧ J ys wr ∧ KeepBox Bs n₀ W wr)
    (fun _ m _ => (intOf m + 1).toNat)
  case atStart => exact ⟨0, (r : Int) - 1, 1, [], Nat.zero_le _, by omega, rfl, rfl, (backs_zero xs).symm, (by unfold Hid; simp [comes]), h0, KeepBox.refl _ _ _⟩
  case round =>
    obtain ⟨k, j, q, ys, hk, hj, rfl, rfl, HQ, HY, hJs, hnx⟩ := hrel
    by_cases hlt : k < r
    · have hI' := hI.below hnx.1
      have hBs' := hnx.box.trans hBs
      obtain ⟨b, off, x, rfl, hb, HX, hc, hx1, hx2⟩ := hI'.at_ (k := r - 1 - k) (by omega)
      have hj0 : 0 ≤ j := by omega
      have hj1 : j < r := by omega
      have hpx : p (j, q) := by rw [hj, HQ.out]; exact hp k hlt
      obtain ⟨fn, tmps, assign, body, hy, hR⟩ := hY ys ⟨(j, q), hpx⟩ wr hJs (by have := congrArg List.length HY.out; simp [comes_length] at this; omega)
      dsimp only at hy hR
      have HJ := Lib.hid hj
      have HS : Hid ((ys ++ [(⟨(j, q), hpx⟩ : { x : Int × Int // p x })]).map (·.1) = comes xs (k + 1)) := by unfold Hid; rw [List.map_append, HY.out, comes_succ, HL.out, ← hj, ← HQ.out]; rfl
      clear hj
      gi_wp2
      refine hR.mono ?_
      rintro e W3 (⟨rfl, hJ3, hk3⟩ | ⟨rfl, hJx3⟩)
      · have hBs3 := hk3.box.trans hBs'
        have hc3 : W3.cell? ⟨b, off + j.toNat, none⟩ = some (.int .i64 x) := by
          have e : j.toNat = r - 1 - k := by have := HJ.out; omega
          rw [e]; exact (hk3.1.cell (p := ⟨b, off + (r - 1 - k), none⟩) hb).trans hc
        gi_wp2
        go_roundw
        case rel => exact ⟨k + 1, j - 1, wrap64 (q * x), ys ++ [⟨(j, q), hpx⟩], by omega, by have := HJ.out; omega, rfl, rfl, by unfold Hid; rw [HQ.out]; exact (backs_succ (by rw [HL.out]; omega) (by rw [HL.out]; exact HX.out)).symm, HS, hJ3, hnx.trans hk3⟩
        case measure => simp [intOf]; omega
      · gi_wp2
        refine bodyPost_ret (results_none rfl _ _ _) rfl ?_
        exact ⟨⟨_, rfl⟩, .inr ⟨_, ⟨k + 1, by omega, HS.out⟩, hJx3⟩⟩
    · obtain rfl : k = r := by omega
      have hj1 : j < 0 := by omega
      have HJ := Lib.hid hj
      clear hj
      gi_wp2
      go_end0
      exact ⟨⟨_, rfl⟩, .inl ⟨_, HY.out, hJs⟩⟩

theorem fromBehind_stops (n : Nat) (hn : 1 ≤ n) (p : Int × Int → Prop) (Bs n₀ : Nat) (A : Option Addr) (r c : Nat) (xs : List Int) (hr : r ≤ 100000) (hp : ∀ k, k < r → p ((r : Int) - 1 - k, backs xs k)) (w : World) (hBs : Bs < w.heap.size) (hn₀ : n₀ ≤ w.heap.size)
    (hc : w.cell? ⟨Bs, 0, none⟩ = some (.slice A r c)) (hI : Ints w n₀ A r xs) :
    SeqStopsK Fence.wide n Try.prog 92 #[.pointer (some ⟨Bs, 0, none⟩)] (fun x : { x : Int × Int // p x } => #[Value.int .i64 x.1.1, Value.int .i64 x.1.2]) (KeepBox Bs n₀) (fun ys => ys.map (·.1) = comes xs r) (fun pre => ∃ k, k ≤ r ∧ pre.map (·.1) = comes xs k) r w :=
  fun l J Jx W hW _ _ hY h0 => fromBehind1_in n hn p l Bs n₀ A r c xs hr hp J Jx hY W ((hW.cell (p := ⟨Bs, 0, none⟩) hBs).trans hc) (hI.below (hW.mono hn₀)) h0

theorem keepBox_b {Bs n₀ : Nat} {w : World} (h1 : n₀ ≤ w.heap.size) (h2 : Bs < w.heap.size) : ∀ (W : World) (l : Nat) (o o' : Obj), w.heap.size ≤ l → W.heap[l]? = some o → o.isCells = false → o.isWalk = false → KeepBox Bs n₀ W (W.putObj l o') :=
  fun W l o o' hl ho hcs hwk => ⟨belowK_b h1 W l o o' hl ho hcs hwk, (belowK_b (n₀ := Bs + 1) (by omega) W l o o' hl ho hcs hwk).block Bs (by omega)⟩

theorem boxCell {W : World} {B : Nat} {v : Value} {t : TypeId} (h : W.heap[B]? = some (.cells #[v] t (0, 0))) : W.cell? ⟨B, 0, none⟩ = some v ∧ W.frozen? ⟨B, 0, none⟩ = false := by
  constructor <;> simp [World.cell?, World.frozen?, h]
theorem newCell (W : World) (v : Value) (t : TypeId) : (W.alloc (.cells #[v] t)).cell? ⟨W.heap.size, 0, none⟩ = some v ∧ (W.alloc (.cells #[v] t)).frozen? ⟨W.heap.size, 0, none⟩ = false :=
  boxCell (heap_alloc_new W _)
theorem cellPast {W : World} {a : Addr} {v : Value} (o : Obj) (h : W.cell? a = some v) : (W.alloc o).cell? a = some v := cell_kept h (World.grownBy_alloc W o none) (fun r e => by cases e)
theorem frozenPast {W : World} {a : Addr} {v : Value} (o : Obj) (h : W.cell? a = some v) (hf : W.frozen? a = false) : (W.alloc o).frozen? a = false := (frozen_kept h (World.grownBy_alloc W o none) (fun r e => by cases e)).trans hf
end Go.Proofs.Ytapbcmhkipaecaa
