/- Plain facts, without the program: when a slice value of Go reads as a list of 64-bit integers, and what the shape functions of package box compute on lists. Nothing is claimed of the program here. -/
import Derived.WalkKit
import Derived.Lib.Hide
import Derived.Deep.Draws
import Derived.Test.YtgkngimeokhhgaaGreatDoorRows
import Derived.ProofKit
import Derived.OpenShut
import Derived.ChangeOld
import Derived.Below
import Derived.Lib.SmallJoins
import Derived.OwnWalk
import Derived.Maps.AppendAt
import Derived.Test.YtgkngimeokhhgaaGreatDoorProg
import Derived.Deep.QuietTactic
import Derived.BigQuiet
import Derived.WalkLawsBesides
import Derived.Shelf.Lay
import Derived.Shelf.Small.Strs
import Derived.WalkSpells
namespace Go.Proofs.YtgkngimeokhhgaaGreatDoor
open Go.RowKit

/-- the header (A, n) leads to the numbers xs, in blocks below B -/
def Ints (w : World) (B : Nat) (A : Option Addr) (n : Nat) (xs : List Int) : Prop :=
  xs.length = n ∧ (∀ x ∈ xs, -9223372036854775808 ≤ x ∧ x ≤ 9223372036854775807) ∧
  (0 < n → ∃ b off, A = some ⟨b, off, none⟩ ∧ b < B ∧ ∀ (k : Nat) (x : Int), xs[k]? = some x → w.cell? ⟨b, off + k, none⟩ = some (.int .i64 x))

section
variable {w w' : World} {B B' n : Nat} {A : Option Addr} {xs : List Int}
theorem Ints.nil_ : Ints w B A 0 [] := ⟨rfl, by simp, fun h => absurd h (by omega)⟩
theorem Ints.at_ {k : Nat} (h : Ints w B A n xs) (hk : k < n) :
    ∃ b off x, A = some ⟨b, off, none⟩ ∧ b < B ∧ Hid (xs[k]? = some x) ∧ w.cell? ⟨b, off + k, none⟩ = some (.int .i64 x) ∧ -9223372036854775808 ≤ x ∧ x ≤ 9223372036854775807 := by
  obtain ⟨hl, hb, hc⟩ := h
  obtain ⟨b, off, rfl, hB, hx⟩ := hc (by omega)
  have hk' : k < xs.length := by omega
  have hm := hb _ (List.getElem_mem hk')
  exact ⟨b, off, xs[k], rfl, hB, List.getElem?_eq_getElem hk', hx k _ (List.getElem?_eq_getElem hk'), hm.1, hm.2⟩
theorem Ints.len (h : Ints w B A n xs) : xs.length = n := h.1
theorem Ints.keep (h : Ints w B A n xs) (hk : ∀ p : Addr, p.block < B → w'.cell? p = w.cell? p) : Ints w' B A n xs := by
  obtain ⟨hl, hb, hc⟩ := h
  refine ⟨hl, hb, fun hn => ?_⟩
  obtain ⟨b, off, e, hB, hx⟩ := hc hn
  exact ⟨b, off, e, hB, fun k x hx' => (hk _ hB).trans (hx k x hx')⟩
theorem Ints.more (h : Ints w B A n xs) (hB : B ≤ B') : Ints w B' A n xs := by
  obtain ⟨hl, hb, hc⟩ := h
  refine ⟨hl, hb, fun hn => ?_⟩
  obtain ⟨b, off, e, hB', hx⟩ := hc hn
  exact ⟨b, off, e, by omega, hx⟩
theorem Ints.below (h : Ints w B A n xs) (hb : Below B w w') : Ints w' B A n xs := h.keep fun _ hp => hb.cell hp
theorem Ints.drewN (h : Ints w B A n xs) (k : Nat) : Ints (w.drewN k) B A n xs := h
theorem Ints.drew (h : Ints w B A n xs) : Ints w.drew B A n xs := h
theorem Ints.alloc (h : Ints w B A n xs) (hB : B ≤ w.heap.size) (o : Obj) : Ints (w.alloc o) B A n xs :=
  h.keep fun p hp => World.cell?_alloc_lt w o p (by omega)
theorem Ints.alloc' (h : Ints w w.heap.size A n xs) (o : Obj) : Ints (w.alloc o) (w.alloc o).heap.size A n xs :=
  (h.alloc (Nat.le_refl _) o).more (by simp)
theorem Ints.setCell (h : Ints w B A n xs) {p : Addr} (hB : B ≤ p.block) (u : Value) : Ints (w.setCell p u) B A n xs :=
  h.keep fun q hq => World.cell?_setCell_other w p q u (fun e => by subst e; omega)
theorem Ints.of_own {base : Nat} {e : TypeId} {c : Nat} (h : w.ownsRow base e 1 (.slice A n c) n (xs.map (Value.int .i64))) (hb : ∀ x ∈ xs, -9223372036854775808 ≤ x ∧ x ≤ 9223372036854775807) : Ints w w.heap.size A n xs := by
  have hl : xs.length = n := by simpa using h.1
  refine ⟨hl, hb, fun hn => ?_⟩
  rcases h.2 with ⟨_, h0⟩ | ⟨g, cap, cur, hv, _, hh, _⟩
  · omega
  have hA : A = some ⟨g, 0, none⟩ := by injection hv
  subst hA
  have hlt : g < w.heap.size := by
    rcases Nat.lt_or_ge g w.heap.size with hlt | hge
    · exact hlt
    · rw [Array.getElem?_eq_none hge] at hh; cases hh
  refine ⟨g, 0, rfl, hlt, fun k x hx => ?_⟩
  have := h.cells (g := g) rfl k (.int .i64 x) (by simp [hx])
  by_cases hk : k = 0
  · subst hk; simpa [Addr.add] using this
  · simpa [Addr.add, hk] using this
end

/-! ### Lists, taken so far -/
theorem take_succ_of {α : Type} {xs : List α} {k : Nat} {x : α} (h : xs[k]? = some x) : xs.take (k + 1) = xs.take k ++ [x] := by
  rw [List.take_add_one, h]; rfl
/-! ### The shape functions on lists -/
end Go.Proofs.YtgkngimeokhhgaaGreatDoor
/- How the arguments of the statements read: slices of integers, dense tensors, integers. -/
namespace Go.Proofs.YtgkngimeokhhgaaGreatDoor
open Go.ChangeShapes Go.WideShapes Go.ChangeAt Go.RowKit

set_option maxRecDepth 100000 in
theorem own : ownKnob Tryz.prog.godebug = none := by kernel_rfl
set_option maxRecDepth 100000 in
theorem laidOut : laidOutB Tryz.prog = true := by kernel_rfl

theorem lt_of_cell {w : World} {a : Addr} {v : Value} (h : w.cell? a = some v) : a.block < w.heap.size := by
  rcases Nat.lt_or_ge a.block w.heap.size with hlt | hge
  · exact hlt
  · have : w.heap[a.block]? = none := Array.getElem?_eq_none hge
    simp [World.cell?, this] at h

theorem wf_bounds {n : Int} (h : (Lit.int .i64 n).wf = true) : -9223372036854775808 ≤ n ∧ n ≤ 9223372036854775807 := by
  simp [Lit.wf, IntKind.min, IntKind.max, IntKind.signed, IntKind.bits] at h
  omega

theorem ints_of_row {w : World} {x : Addr} {len : Nat} {zs : List Int} (hz : len ≤ zs.length) (hcell : ∀ i, i < zs.length → w.cell? (x.add i) = some (.int .i64 (zs.getD i 0))) (hwz : ∀ n ∈ zs, (Lit.int .i64 n).wf = true) :
    Ints w w.heap.size (some x) len (zs.take len) := by
  refine ⟨by rw [List.length_take]; omega, fun n hn => wf_bounds (hwz n (List.mem_of_mem_take hn)), fun h0 => ?_⟩
  obtain ⟨b, off, spot⟩ := x
  have hc := hcell 0 (by omega)
  have hspot : spot = none := by simpa [Addr.add] using World.cell?_spot hc
  subst hspot
  have hlt : b < w.heap.size := by have := lt_of_cell hc; simpa [Addr.add] using this
  refine ⟨b, off, rfl, hlt, fun k y hy => ?_⟩
  have hk : k < len := by have := (List.getElem?_eq_some_iff.1 hy).1; rw [List.length_take] at this; omega
  have h1 := hcell k (by omega)
  have h2 : zs.getD k 0 = y := by
    rw [List.getElem?_take, if_pos hk] at hy
    simp [List.getD, hy]
  rw [h2] at h1
  by_cases hk0 : k = 0
  · subst hk0; simpa [Addr.add] using h1
  · simpa [Addr.add, hk0] using h1

section
variable {H : Type} {enc : TypeId × Value → H} {w : World} {base : Nat} {spare : Nat → Bool} {held : Bool}
end
end Go.Proofs.YtgkngimeokhhgaaGreatDoor
/- How a slice of integers that came in reads, with its room. -/
namespace Go.Proofs.YtgkngimeokhhgaaGreatDoor
open Go.ChangeShapes Go.WideShapes Go.ChangeAt Go.RowKit

section
variable {H : Type} {enc : TypeId × Value → H} {w : World} {base : Nat} {spare : Nat → Bool} {held : Bool}
/-- the same, and its room -/
theorem open_numsc {t e : TypeId} {v : Value} {d : DataW H} {p : List MemPlace} (ht : Tryz.prog.underlying t = some (.slice e)) (he : Tryz.prog.underlying e = some (.int .i64)) (hC : Tryz.prog.cellsOf e = 1) (hf : ∃ a n c, v = .slice a n c) (h : DataW.Trod enc Tryz.prog w base spare held t v d p) :
    ∃ A n c xs, v = .slice A n c ∧ Ints w w.heap.size A n xs ∧ n ≤ 9223372036854775807 ∧ n ≤ c := by
  obtain ⟨a0, len0, cap0, rfl⟩ := hf
  obtain ⟨fuel, hf⟩ := h
  rcases open_ints ht he hC hf with ⟨hcs, _⟩ | ⟨x, l, c, zs, hcs, _, hl, hm, hz, _, hcell, hwz⟩
  · simp [Value.cells] at hcs
    obtain ⟨rfl, rfl, rfl⟩ := hcs
    exact ⟨none, 0, 0, [], rfl, Ints.nil_, by omega, Nat.le_refl _⟩
  · simp [Value.cells] at hcs
    obtain ⟨rfl, rfl, rfl⟩ := hcs
    have hz' : len0 ≤ zs.length := by split at hz <;> omega
    refine ⟨_, _, _, _, rfl, ints_of_row hz' hcell hwz, ?_, hl⟩
    unfold maxLen at hm
    omega
end
end Go.Proofs.YtgkngimeokhhgaaGreatDoor
/- Instructions: how they read; slices of the call's own of them, and one more behind them. -/
namespace Go.Proofs.YtgkngimeokhhgaaGreatDoor
open Go.RowKit

/-- an instruction -/
structure Ji where
  op : Int
  a : Int
  b : Int
  c : Int
  n : Int
instance : DecidableEq Ji := fun x y => decidable_of_iff (x.op = y.op ∧ x.a = y.a ∧ x.b = y.b ∧ x.c = y.c ∧ x.n = y.n) ⟨fun ⟨h1, h2, h3, h4, h5⟩ => by cases x; cases y; simp_all, fun h => by subst h; exact ⟨rfl, rfl, rfl, rfl, rfl⟩⟩
abbrev Ji.val (x : Ji) : Value := .agg #[.int .i64 x.op, .int .i64 x.a, .int .i64 x.b, .int .i64 x.c, .int .i64 x.n]
abbrev Ji.obj (x : Ji) : Obj := .cells #[.int .i64 x.op, .int .i64 x.a, .int .i64 x.b, .int .i64 x.c, .int .i64 x.n] 70
structure Ji.ok (x : Ji) : Prop where
  op : -9223372036854775808 ≤ x.op ∧ x.op ≤ 9223372036854775807
  a : -9223372036854775808 ≤ x.a ∧ x.a ≤ 9223372036854775807
  b : -9223372036854775808 ≤ x.b ∧ x.b ≤ 9223372036854775807
  c : -9223372036854775808 ≤ x.c ∧ x.c ≤ 9223372036854775807
  n : -9223372036854775808 ≤ x.n ∧ x.n ≤ 9223372036854775807
def cellsJ : List Ji → List Value
  | [] => []
  | x :: l => .int .i64 x.op :: .int .i64 x.a :: .int .i64 x.b :: .int .i64 x.c :: .int .i64 x.n :: cellsJ l
theorem cellsJ_length (l : List Ji) : (cellsJ l).length = 5 * l.length := by
  induction l with
  | nil => rfl
  | cons x l ih => simp only [cellsJ, List.length_cons, ih]; omega
theorem cellsJ_append (a b : List Ji) : cellsJ (a ++ b) = cellsJ a ++ cellsJ b := by
  induction a with
  | nil => rfl
  | cons x a ih => simp only [List.cons_append, cellsJ, ih]
/-- the five numbers, by their places -/
def Ji.at (x : Ji) : Nat → Int
  | 0 => x.op
  | 1 => x.a
  | 2 => x.b
  | 3 => x.c
  | _ => x.n
theorem cellsJ_at {l : List Ji} {k i : Nat} {x : Ji} (h : l[k]? = some x) (hi : i < 5) : (cellsJ l)[5 * k + i]? = some (.int .i64 (x.at i)) := by
  induction l generalizing k with
  | nil => simp at h
  | cons y l ih =>
    cases k with
    | zero =>
      simp at h
      subst h
      match i, hi with
      | 0, _ => rfl
      | 1, _ => rfl
      | 2, _ => rfl
      | 3, _ => rfl
      | 4, _ => rfl
    | succ k =>
      have := ih (k := k) (by simpa using h)
      rw [← this, show 5 * (k + 1) + i = (5 * k + i) + 5 by omega]
      rfl
/-- the header (A, n) leads to the instructions l, in blocks below B -/
def Jis (w : World) (B : Nat) (A : Option Addr) (n : Nat) (l : List Ji) : Prop :=
  l.length = n ∧ (∀ x ∈ l, x.ok) ∧
  (0 < n → ∃ b off, A = some ⟨b, off, none⟩ ∧ b < B ∧ ∀ (k : Nat) (x : Ji), l[k]? = some x → ∀ i, i < 5 → w.cell? ⟨b, off + k * 5 + i, none⟩ = some (.int .i64 (x.at i)))
section
variable {w w' : World} {B B' n : Nat} {A : Option Addr} {l : List Ji}
theorem Jis.nil_ : Jis w B A 0 [] := ⟨rfl, by simp, fun h => absurd h (by omega)⟩
theorem Jis.keep (h : Jis w B A n l) (hk : ∀ p : Addr, p.block < B → w'.cell? p = w.cell? p) : Jis w' B A n l := by
  obtain ⟨hl, hb, hc⟩ := h
  refine ⟨hl, hb, fun hn => ?_⟩
  obtain ⟨b, off, e, hB, hx⟩ := hc hn
  exact ⟨b, off, e, hB, fun k x hx' i hi => (hk _ hB).trans (hx k x hx' i hi)⟩
theorem Jis.more (h : Jis w B A n l) (hB : B ≤ B') : Jis w B' A n l := by
  obtain ⟨hl, hb, hc⟩ := h
  refine ⟨hl, hb, fun hn => ?_⟩
  obtain ⟨b, off, e, hB', hx⟩ := hc hn
  exact ⟨b, off, e, by omega, hx⟩
theorem Jis.below (h : Jis w B A n l) (hb : Below B w w') : Jis w' B A n l := h.keep fun _ hp => hb.cell hp
theorem Jis.on (h : Jis w w.heap.size A n l) (hb : Below w.heap.size w w') : Jis w' w'.heap.size A n l := (h.below hb).more hb.size
theorem Jis.drewN (h : Jis w B A n l) (k : Nat) : Jis (w.drewN k) B A n l := h
/-- an instruction's cells -/
structure CellsJ (w : World) (b o : Nat) (x : Ji) : Prop where
  c0 : w.cell? ⟨b, o, none⟩ = some (.int .i64 x.op)
  c1 : w.cell? ⟨b, o + 1, none⟩ = some (.int .i64 x.a)
  c2 : w.cell? ⟨b, o + 2, none⟩ = some (.int .i64 x.b)
  c3 : w.cell? ⟨b, o + 3, none⟩ = some (.int .i64 x.c)
  c4 : w.cell? ⟨b, o + 4, none⟩ = some (.int .i64 x.n)
theorem Jis.at_ {k : Nat} (h : Jis w B A n l) (hk : k < n) : ∃ b off x, A = some ⟨b, off, none⟩ ∧ b < B ∧ Hid (l[k]? = some x) ∧ CellsJ w b (off + k * 5) x ∧ x.ok := by
  obtain ⟨hl, hb, hc⟩ := h
  obtain ⟨b, off, rfl, hB, hx⟩ := hc (by omega)
  have hk' : k < l.length := by omega
  have hm := hb _ (List.getElem_mem hk')
  have hx' := hx k _ (List.getElem?_eq_getElem hk')
  exact ⟨b, off, l[k], rfl, hB, List.getElem?_eq_getElem hk', ⟨hx' 0 (by omega), hx' 1 (by omega), hx' 2 (by omega), hx' 3 (by omega), hx' 4 (by omega)⟩, hm⟩
end
set_option maxRecDepth 100000 in
theorem infoIns : (Tryz.prog.info? 70).map (fun i => (i.zero, i.size, i.bytes)) = some (some (.agg #[.int .i64 0, .int .i64 0, .int .i64 0, .int .i64 0, .int .i64 0]), 5, 40) := by kernel_rfl
/-- a slice of the call's own, of instructions -/
def OwnJ (w : World) (base : Nat) (A : Option Addr) (c : Nat) (l : List Ji) : Prop := w.ownsRow base 70 5 (.slice A l.length c) l.length (cellsJ l)
section
variable {w w' : World} {base B c : Nat} {A : Option Addr} {l : List Ji}
theorem OwnJ.nil_ (w : World) (base : Nat) : OwnJ w base none 0 [] := w.ownsRow_nil base _ 5
theorem OwnJ.below (h : OwnJ w base A c l) (hb : Below B w w') (hB : w.heap.size ≤ B) : OwnJ w' base A c l :=
  World.ownsRow.kept h ⟨hb.os, hb.tape, hb.output, hb.size, fun i hi _ => hb.block i (by omega)⟩ (row := none) (by cases hh : (Value.slice A l.length c).ownBlock with | none => exact .inl rfl | some k => exact .inr (by simp))
theorem OwnJ.alloc (h : OwnJ w base A c l) (o : Obj) : OwnJ (w.alloc o) base A c l := World.ownsRow.alloc h o
theorem OwnJ.lt {g : Nat} (h : OwnJ w base (some ⟨g, 0, none⟩) c l) : base ≤ g ∧ g < w.heap.size := World.ownsRow.lt h g rfl
theorem OwnJ.mono {base' : Nat} (h : OwnJ w base A c l) (hb : base' ≤ base) : OwnJ w base' A c l := by
  refine ⟨h.1, ?_⟩
  rcases h.2 with h1 | ⟨g, cap, cur, h1, h2, h3⟩
  · exact .inl h1
  · exact .inr ⟨g, cap, cur, h1, by omega, h3⟩
theorem OwnJ.heap (h : OwnJ w base A c l) : A = none ∨ ∃ g cur, A = some ⟨g, 0, none⟩ ∧ base ≤ g ∧ w.heap[g]? = some (.cells cur 70 (0, 0)) := by
  rcases h.2 with ⟨h1, _⟩ | ⟨g, cap, cur, h1, h2, h3, _⟩
  · injection h1 with h1; exact .inl h1
  · injection h1 with h1; exact .inr ⟨g, cur, h1, h2, h3⟩
theorem OwnJ.rows (h : OwnJ w base A c l) : ∀ (k : Nat) (x : Ji), l[k]? = some x → ∃ g, A = some ⟨g, 0, none⟩ ∧ base ≤ g ∧ g < w.heap.size ∧ ∀ i, i < 5 → w.cell? ⟨g, 5 * k + i, none⟩ = some (.int .i64 (x.at i)) := by
  intro k x hx
  have hk := (List.getElem?_eq_some_iff.1 hx).1
  rcases h.2 with ⟨_, h1⟩ | ⟨g, cap, cur, hv, hb, hg, _, _, _, hr⟩
  · omega
  · have hA : A = some ⟨g, 0, none⟩ := by injection hv
    have hl := cellsJ_length l
    refine ⟨g, hA, hb, (Array.getElem?_eq_some_iff.1 hg).1, fun i hi => (cell_of_row _ _ _ _ _ _ hg).trans ?_⟩
    have c1 := cellsJ_at hx hi
    rw [← hr, List.getElem?_take] at c1
    split at c1
    · simpa using c1
    · cases c1
/-- instructions of the call's own read as instructions -/
theorem OwnJ.jis (h : OwnJ w base A c l) (hx : ∀ x ∈ l, x.ok) : Jis w w.heap.size A l.length l := by
  refine ⟨rfl, hx, fun h0 => ?_⟩
  obtain ⟨g, e, _, hlt, _⟩ := h.rows 0 _ (List.getElem?_eq_getElem h0)
  refine ⟨g, 0, e, hlt, fun k x hk i hi => ?_⟩
  obtain ⟨g', e', _, _, a1⟩ := h.rows k x hk
  rw [e] at e'
  injection e' with e'; injection e' with e'
  subst e'
  rw [Nat.zero_add, Nat.mul_comm k 5]
  exact a1 i hi
theorem OwnJ.lenCap (h : OwnJ w base A c l) : l.length ≤ c := by
  rcases h.2 with ⟨h1, h2⟩ | ⟨g, cap, cur, h1, _, _, h5, _⟩
  · omega
  · injection h1 with _ _ h1; omega
end
/-- one instruction more -/
theorem wpList_appendJ {ops : Array Oper} {rest : List Oper} {o : Oper} {a : Act} {w : World} {Q : Exit → Act → World → Prop}
    (hg : o.guard = none) (s x : Operand) (hop : o.op = Op.call { callee := Callee.builtin Builtin.append, args := #[s, x], argTypes := #[22, 22] })
    (base : Nat) (A : Option Addr) (c p r g : Nat) (y : Ji) (L : List Ji) (hgz : w.heap.size = g) (hs : a.eval s = .slice A p c) (hx : a.eval x = .slice (some ⟨g, 0, none⟩) 1 1)
    (ho : OwnJ w base A c L) (hp : L.length = p) (hr : p + 1 = r) (hl : r ≤ 1000000) (hb : base ≤ w.heap.size)
    (hK : ∀ A' c' w', OwnJ w' base A' c' (L ++ [y]) → w.grownBy w' (Value.slice A p c).ownBlock → wpList Tryz.prog ops Q rest (a.put o.dst (.slice A' r c')) w') :
    wpList Tryz.prog ops Q (o :: rest) a (w.alloc y.obj) := by
  obtain ⟨i, hi, hz, h1, h2⟩ := info_parts infoIns
  subst hp
  subst hr
  subst hgz
  refine wpList_append_own _ hg s x 22 hop base 70 i (.agg #[.int .i64 0, .int .i64 0, .int .i64 0, .int .i64 0, .int .i64 0]) 5 40 Tryz.underlying22 hi hz h1 h2 (by rfl) (by decide) _ L.length (cellsJ L) hs (World.ownsRow.alloc ho _) ⟨w.heap.size, 0, none⟩ 1 1 [.int .i64 y.op, .int .i64 y.a, .int .i64 y.b, .int .i64 y.c, .int .i64 y.n] hx rfl ?_ (by simp [Value.oneCell']) (by unfold maxLen; omega) (by omega) (by simp; omega) ?_
  · intro j u hj
    match j, hj with
    | 0, hj => simp at hj; subst hj; simp [Addr.add]
    | 1, hj => simp at hj; subst hj; simp [Addr.add]
    | 2, hj => simp at hj; subst hj; simp [Addr.add]
    | 3, hj => simp at hj; subst hj; simp [Addr.add]
    | 4, hj => simp at hj; subst hj; simp [Addr.add]
    | j + 5, hj => simp at hj
  · intro v' w' hown hgr _
    obtain ⟨A', c', rfl⟩ : ∃ A' c', v' = .slice A' (L.length + 1) c' := by
      rcases hown.2 with ⟨rfl, h0⟩ | ⟨g, cap, cur, rfl, _⟩
      · omega
      · exact ⟨_, _, rfl⟩
    refine hK A' c' w' ?_ ((World.grownBy_alloc w _ _).trans hgr)
    unfold OwnJ
    rw [List.length_append, cellsJ_append]
    exact hown
theorem below_appJ {w1 W w3 : World} {base p c : Nat} {A : Option Addr} {xs : List Ji} (hb : Below base w1 W) (hg : W.grownBy w3 (Value.slice A p c).ownBlock) (ho : OwnJ W base A c xs) (hs : base ≤ W.heap.size) : Below base w1 w3 :=
  hb.grown hg hs fun k hk => by
    rcases ho.heap with h1 | ⟨g', cur, h1, h2, _⟩
    · rw [h1] at hk; cases hk
    · rw [h1] at hk
      simp only [Value.ownBlock, Option.some.injEq] at hk
      omega
theorem box_keptJ {w w' : World} {base' c' g p : Nat} {A' : Option Addr} {L : List Ji} {cs : Array Value} {t : TypeId} {fr : Nat × Nat} (h : w.heap[g]? = some (.cells cs t fr)) (ht : t ≠ 70) (hg : w.grownBy w' (Value.slice A' p c').ownBlock) (hS : OwnJ w base' A' c' L) : w'.heap[g]? = some (.cells cs t fr) := by
  refine (hg.block g (Array.getElem?_eq_some_iff.1 h).1 ?_).trans h
  rcases hS.heap with h1 | ⟨g', cur, h1, _, hh⟩
  · rw [h1]; simp [Value.ownBlock]
  · rw [h1]
    intro e
    have : g' = g := by simpa [Value.ownBlock] using e.symm
    subst this
    rw [h] at hh
    injection hh with hh
    injection hh with _ hh
    exact ht hh
/-- the five cells of a block that is an instruction -/
theorem box_cellsJ {w : World} {g : Nat} {x : Ji} (h : w.heap[g]? = some (.cells #[.int .i64 x.op, .int .i64 x.a, .int .i64 x.b, .int .i64 x.c, .int .i64 x.n] 70 (0, 0))) : CellsJ w g 0 x ∧ ∀ o, w.frozen? ⟨g, o, none⟩ = false :=
  ⟨⟨cell_of_row _ _ _ _ _ _ h, cell_of_row _ _ _ _ _ _ h, cell_of_row _ _ _ _ _ _ h, cell_of_row _ _ _ _ _ _ h, cell_of_row _ _ _ _ _ _ h⟩, fun o => by simp [World.frozen?, h]⟩
end Go.Proofs.YtgkngimeokhhgaaGreatDoor
/- What instructions are: words, kinds of what stands behind them, registers, places. Nothing is claimed of the program here. -/
namespace Go.Proofs.YtgkngimeokhhgaaGreatDoor
open Go.RowKit

def wordsJ : List (List UInt8) := [[104, 97, 108, 116], [115, 101, 116], [109, 111, 118, 101], [97, 100, 100], [115, 117, 98], [109, 117, 108], [108, 111, 97, 100], [115, 116, 111, 114, 101], [108, 101, 110], [112, 117, 115, 104], [106, 117, 109, 112], [108, 101, 115, 115], [115, 97, 109, 101]]
def kindsJ : List (List UInt8) := [[], [119, 110], [119, 114], [119, 114, 114], [119, 114, 114], [119, 114, 114], [119, 97, 114], [97, 114, 114], [119, 97], [97, 114], [112], [114, 114, 112], [114, 114, 112]]
def wJ (op : Int) : List UInt8 := if 0 ≤ op ∧ op ≤ 12 then wordsJ.getD op.toNat [] else []
def kJ (op : Int) : List UInt8 := if 0 ≤ op ∧ op ≤ 12 then kindsJ.getD op.toNat [] else []
theorem op_cases {op : Int} (h0 : 0 ≤ op) (h1 : op ≤ 12) : op = 0 ∨ op = 1 ∨ op = 2 ∨ op = 3 ∨ op = 4 ∨ op = 5 ∨ op = 6 ∨ op = 7 ∨ op = 8 ∨ op = 9 ∨ op = 10 ∨ op = 11 ∨ op = 12 := by omega
theorem kJ_len (op : Int) : (kJ op).length ≤ 3 := by
  unfold kJ
  split
  · rename_i h
    rcases op_cases h.1 h.2 with rfl | rfl | rfl | rfl | rfl | rfl | rfl | rfl | rfl | rfl | rfl | rfl | rfl <;> decide
  · decide
/-- A, B and C -/
def Ji.f (x : Ji) : List Int := [x.a, x.b, x.c]
/-- the registers that are asked for, of what stands behind the word -/
def readsG : List UInt8 → List Int → List Int
  | k :: ks, v :: vs => if k = 114 then v :: readsG ks vs else readsG ks vs
  | _, _ => []
def readsJ (x : Ji) : List Int := readsG (kJ x.op) x.f
theorem readsG_length : ∀ (ks : List UInt8) (vs : List Int), (readsG ks vs).length ≤ vs.length
  | [], _ => by simp [readsG]
  | _ :: _, [] => by simp [readsG]
  | k :: ks, v :: vs => by
    have := readsG_length ks vs
    unfold readsG
    split <;> simp <;> omega
theorem readsJ_length (x : Ji) : (readsJ x).length ≤ 3 := readsG_length _ _
theorem readsG_snoc : ∀ (ks : List UInt8) (vs : List Int) (i : Nat) (k : UInt8) (v : Int), ks[i]? = some k → vs[i]? = some v → readsG (ks.take (i + 1)) vs = readsG (ks.take i) vs ++ if k = 114 then [v] else []
  | [], _, i, _, _, h, _ => by simp at h
  | _ :: _, [], i, _, _, _, h => by simp at h
  | k0 :: ks, v0 :: vs, 0, k, v, h, h2 => by
    simp at h h2
    subst h; subst h2
    simp [readsG]
  | k0 :: ks, v0 :: vs, i + 1, k, v, h, h2 => by
    have := readsG_snoc ks vs i k v (by simpa using h) (by simpa using h2)
    simp only [List.take_succ_cons]
    unfold readsG
    split
    · rw [this]; rfl
    · exact this
theorem readsG_mem : ∀ (ks : List UInt8) (vs : List Int) (z : Int), z ∈ readsG ks vs → ∃ i : Nat, ks[i]? = some 114 ∧ vs[i]? = some z
  | [], _, _, h => by simp [readsG] at h
  | _ :: _, [], _, h => by simp [readsG] at h
  | k :: ks, v :: vs, z, h => by
    unfold readsG at h
    split at h
    · rename_i hk
      rcases List.mem_cons.1 h with rfl | h
      · exact ⟨0, by simp [hk], rfl⟩
      · obtain ⟨i, h1, h2⟩ := readsG_mem ks vs z h
        exact ⟨i + 1, by simpa using h1, by simpa using h2⟩
    · obtain ⟨i, h1, h2⟩ := readsG_mem ks vs z h
      exact ⟨i + 1, by simpa using h1, by simpa using h2⟩
/-- whether a register is set -/
def setsJ (x : Ji) : Bool := (kJ x.op).head? == some 119
def writesJ (x : Ji) : Int := if setsJ x then x.a else 0
/-- where it may go on -/
def nextJ (x : Ji) (at_ : Int) : List Int :=
  if x.op ≤ 0 ∨ 12 < x.op then [] else if x.op = 10 then [x.a] else if x.op = 11 ∨ x.op = 12 then [wrap64 (at_ + 1), x.c] else [wrap64 (at_ + 1)]
/-- the bound of what stands at a place -/
def limJ (R A L : Int) (k : UInt8) : Int := if k = 119 ∨ k = 114 then R else if k = 97 then A else if k = 112 then L else 1
/-- whether an instruction may be, in code with so many registers, arrays and instructions -/
def mayJ (R A L : Int) (x : Ji) : Bool :=
  decide (0 ≤ x.op ∧ x.op ≤ 12) && ((List.range 3).all fun i => decide (0 ≤ x.f.getD i 0 ∧ x.f.getD i 0 < limJ R A L ((kJ x.op).getD i 32))) &&
  (if (110 : UInt8) ∈ kJ x.op then decide (-1000000000000000000 < x.n ∧ x.n < 1000000000000000000) else decide (x.n = 0))
/-- code -/
structure Cd where
  R : Int
  A : Int
  I : Int
  l : List Ji
instance : DecidableEq Cd := fun x y => decidable_of_iff (x.R = y.R ∧ x.A = y.A ∧ x.I = y.I ∧ x.l = y.l) ⟨fun ⟨h1, h2, h3, h4⟩ => by cases x; cases y; simp_all, fun h => by subst h; exact ⟨rfl, rfl, rfl, rfl⟩⟩
def Cd.may (c : Cd) : Bool :=
  decide (0 ≤ c.R ∧ c.R ≤ 128 ∧ 0 ≤ c.A ∧ c.A ≤ 128 ∧ 0 ≤ c.I ∧ c.I ≤ c.A ∧ 1 ≤ c.l.length ∧ c.l.length ≤ 4096) && c.l.all (mayJ c.R c.A c.l.length) && (match c.l.getLast? with | some x => decide (x.op = 0 ∨ x.op = 10) | none => false)
def Cd.e (c : Cd) : Int := if c.may then 0 else 1
/-- an instruction put further on -/
def shiftJ (by_ : Int) (x : Ji) : Ji := if x.op = 10 then { x with a := wrap64 (x.a + by_) } else if x.op = 11 ∨ x.op = 12 then { x with c := wrap64 (x.c + by_) } else x
def jumpsJ (n : Nat) : List Ji := (List.range n).map fun i => ⟨10, ((i + 1 : Nat) : Int), 0, 0, 0⟩
def Cd.shift (c : Cd) (by_ : Int) : Cd := ⟨c.R, c.A, c.I, jumpsJ by_.toNat ++ c.l.map (shiftJ by_)⟩
def Cd.shiftE (c : Cd) (by_ : Int) : Int := if c.may = false ∨ by_ < 0 ∨ 4096 < by_ then 1 else if 4096 < (c.l.length : Int) + by_ then 2 else 0
end Go.Proofs.YtgkngimeokhhgaaGreatDoor
/- The document's words of instructions. -/
namespace Go.Proofs.YtgkngimeokhhgaaGreatDoor
open Go.RowKit

/-- a text of these bytes -/
def strJ (l : List UInt8) : ByteArray := ⟨l.toArray⟩
theorem belowD {B : Nat} {w w' : World} (h : Below B w w') (n : Nat) : Below B w (w'.drewN n) := ⟨h.os, h.tape, h.output, h.size, h.block⟩
def WordP (op : Int) (w : World) (e : Ending) (w' : World) : Prop := e = .returned (.tuple #[.string (strJ (wJ op)), .string (strJ (kJ op))]) ∧ Below w.heap.size w w'
set_option maxRecDepth 100000 in
theorem refWord_out (op : Int) (w : World) (h : op < 0 ∨ 12 < op) : Calls Tryz.prog 95 #[.int .i64 op] w (WordP op w) := by
  have e1 : wJ op = [] := by unfold wJ; rw [if_neg (by omega)]
  have e2 : kJ op = [] := by unfold kJ; rw [if_neg (by omega)]
  have HE : Hid (strJ (wJ op) = ⟨#[]⟩ ∧ strJ (kJ op) = ⟨#[]⟩) := by rw [e1, e2]; exact ⟨rfl, rfl⟩
  clear e1 e2
  rcases h with h | h
  · have h2 : decide (op < 0) = true := decide_eq_true h
    go_enter Tryz.func95, Tryz.ntmps95
    go_wp2_with fail
    go_ret2
    exact ⟨by rw [HE.out.1, HE.out.2]; rfl, ((Below.refl _ _).alloc (Nat.le_refl _) _).alloc (by simp) _⟩
  · have h1 : decide (op < 0) = false := decide_eq_false (by omega)
    have h2 : decide (13 ≤ op) = true := decide_eq_true (by omega)
    go_enter Tryz.func95, Tryz.ntmps95
    go_wp2_with fail
    go_ret2
    exact ⟨by rw [HE.out.1, HE.out.2]; rfl, ((Below.refl _ _).alloc (Nat.le_refl _) _).alloc (by simp) _⟩
set_option maxRecDepth 100000 in
theorem refWord_0 (w : World) : Calls Tryz.prog 95 #[.int .i64 0] w (WordP 0 w) := by
  go_enter Tryz.func95, Tryz.ntmps95
  go_wp2_with fail
  go_quiet (fail)
  go_wp2_with fail
  go_ret2
  exact ⟨rfl, belowD (((Below.refl _ _).alloc (Nat.le_refl _) _).alloc (by simp) _) _⟩
set_option maxRecDepth 100000 in
theorem refWord_1 (w : World) : Calls Tryz.prog 95 #[.int .i64 1] w (WordP 1 w) := by
  go_enter Tryz.func95, Tryz.ntmps95
  go_wp2_with fail
  go_quiet (fail)
  go_wp2_with fail
  go_ret2
  exact ⟨rfl, belowD (((Below.refl _ _).alloc (Nat.le_refl _) _).alloc (by simp) _) _⟩
set_option maxRecDepth 100000 in
theorem refWord_2 (w : World) : Calls Tryz.prog 95 #[.int .i64 2] w (WordP 2 w) := by
  go_enter Tryz.func95, Tryz.ntmps95
  go_wp2_with fail
  go_quiet (fail)
  go_wp2_with fail
  go_ret2
  exact ⟨rfl, belowD (((Below.refl _ _).alloc (Nat.le_refl _) _).alloc (by simp) _) _⟩
set_option maxRecDepth 100000 in
theorem refWord_3 (w : World) : Calls Tryz.prog 95 #[.int .i64 3] w (WordP 3 w) := by
  go_enter Tryz.func95, Tryz.ntmps95
  go_wp2_with fail
  go_quiet (fail)
  go_wp2_with fail
  go_ret2
  exact ⟨rfl, belowD (((Below.refl _ _).alloc (Nat.le_refl _) _).alloc (by simp) _) _⟩
set_option maxRecDepth 100000 in
theorem refWord_4 (w : World) : Calls Tryz.prog 95 #[.int .i64 4] w (WordP 4 w) := by
  go_enter Tryz.func95, Tryz.ntmps95
  go_wp2_with fail
  go_quiet (fail)
  go_wp2_with fail
  go_ret2
  exact ⟨rfl, belowD (((Below.refl _ _).alloc (Nat.le_refl _) _).alloc (by simp) _) _⟩
set_option maxRecDepth 100000 in
theorem refWord_5 (w : World) : Calls Tryz.prog 95 #[.int .i64 5] w (WordP 5 w) := by
  go_enter Tryz.func95, Tryz.ntmps95
  go_wp2_with fail
  go_quiet (fail)
  go_wp2_with fail
  go_ret2
  exact ⟨rfl, belowD (((Below.refl _ _).alloc (Nat.le_refl _) _).alloc (by simp) _) _⟩
set_option maxRecDepth 100000 in
theorem refWord_6 (w : World) : Calls Tryz.prog 95 #[.int .i64 6] w (WordP 6 w) := by
  go_enter Tryz.func95, Tryz.ntmps95
  go_wp2_with fail
  go_quiet (fail)
  go_wp2_with fail
  go_ret2
  exact ⟨rfl, belowD (((Below.refl _ _).alloc (Nat.le_refl _) _).alloc (by simp) _) _⟩
set_option maxRecDepth 100000 in
theorem refWord_7 (w : World) : Calls Tryz.prog 95 #[.int .i64 7] w (WordP 7 w) := by
  go_enter Tryz.func95, Tryz.ntmps95
  go_wp2_with fail
  go_quiet (fail)
  go_wp2_with fail
  go_ret2
  exact ⟨rfl, belowD (((Below.refl _ _).alloc (Nat.le_refl _) _).alloc (by simp) _) _⟩
set_option maxRecDepth 100000 in
theorem refWord_8 (w : World) : Calls Tryz.prog 95 #[.int .i64 8] w (WordP 8 w) := by
  go_enter Tryz.func95, Tryz.ntmps95
  go_wp2_with fail
  go_quiet (fail)
  go_wp2_with fail
  go_ret2
  exact ⟨rfl, belowD (((Below.refl _ _).alloc (Nat.le_refl _) _).alloc (by simp) _) _⟩
set_option maxRecDepth 100000 in
theorem refWord_9 (w : World) : Calls Tryz.prog 95 #[.int .i64 9] w (WordP 9 w) := by
  go_enter Tryz.func95, Tryz.ntmps95
  go_wp2_with fail
  go_quiet (fail)
  go_wp2_with fail
  go_ret2
  exact ⟨rfl, belowD (((Below.refl _ _).alloc (Nat.le_refl _) _).alloc (by simp) _) _⟩
set_option maxRecDepth 100000 in
theorem refWord_10 (w : World) : Calls Tryz.prog 95 #[.int .i64 10] w (WordP 10 w) := by
  go_enter Tryz.func95, Tryz.ntmps95
  go_wp2_with fail
  go_quiet (fail)
  go_wp2_with fail
  go_ret2
  exact ⟨rfl, belowD (((Below.refl _ _).alloc (Nat.le_refl _) _).alloc (by simp) _) _⟩
set_option maxRecDepth 100000 in
theorem refWord_11 (w : World) : Calls Tryz.prog 95 #[.int .i64 11] w (WordP 11 w) := by
  go_enter Tryz.func95, Tryz.ntmps95
  go_wp2_with fail
  go_quiet (fail)
  go_wp2_with fail
  go_ret2
  exact ⟨rfl, belowD (((Below.refl _ _).alloc (Nat.le_refl _) _).alloc (by simp) _) _⟩
set_option maxRecDepth 100000 in
theorem refWord_12 (w : World) : Calls Tryz.prog 95 #[.int .i64 12] w (WordP 12 w) := by
  go_enter Tryz.func95, Tryz.ntmps95
  go_wp2_with fail
  go_quiet (fail)
  go_wp2_with fail
  go_ret2
  exact ⟨rfl, belowD (((Below.refl _ _).alloc (Nat.le_refl _) _).alloc (by simp) _) _⟩
theorem refWord14_any (op : Int) (w : World) : Calls Tryz.prog 95 #[.int .i64 op] w (WordP op w) := by
  by_cases h : op < 0 ∨ 12 < op
  · exact refWord_out op w h
  · rcases op_cases (op := op) (by omega) (by omega) with rfl | rfl | rfl | rfl | rfl | rfl | rfl | rfl | rfl | rfl | rfl | rfl | rfl
    · exact refWord_0 w
    · exact refWord_1 w
    · exact refWord_2 w
    · exact refWord_3 w
    · exact refWord_4 w
    · exact refWord_5 w
    · exact refWord_6 w
    · exact refWord_7 w
    · exact refWord_8 w
    · exact refWord_9 w
    · exact refWord_10 w
    · exact refWord_11 w
    · exact refWord_12 w
end Go.Proofs.YtgkngimeokhhgaaGreatDoor
/- strings.IndexByte, laid out of the library's contract. -/
namespace Go.Proofs.YtgkngimeokhhgaaGreatDoor
open Go.Shelf Go.Proofs
def x_lays137_ren : Go.Shelf.Ren := ⟨fun | 137 => 83 | 217 => 97 | 266 => 103 | n => n, fun | 9 => 9 | 5 => 5 | 3 => 3 | n => n, fun | n => n⟩
set_option maxRecDepth 100000 in
theorem x_lays137 : Go.Proofs.Lays.n137 Tryz.prog x_lays137_ren := {
  mixed := by kernel_rfl
  f137 := Tryz.func83.trans (congrArg some (by kernel_rfl))
  f217 := Tryz.func97.trans (congrArg some (by kernel_rfl))
  f266 := Tryz.func103.trans (congrArg some (by kernel_rfl))
  t3 := Tryz.underlying3
  a3 := Tryz.isAgg3
  z3 := Tryz.sizeOf3
  v3 := Tryz.zeroValue3
  t5 := Tryz.underlying5
  a5 := Tryz.isAgg5
  z5 := Tryz.sizeOf5
  v5 := Tryz.zeroValue5
  t9 := Tryz.underlying9
  a9 := Tryz.isAgg9
  z9 := Tryz.sizeOf9
  v9 := Tryz.zeroValue9 }
open Go.RowKit in
theorem x_strings_IndexByte (s : ByteArray) (c : Int) (w : World) :
    Calls Tryz.prog 83 #[.string s, .int .u8 c] w fun e w' => e = .returned (.int .i64 (Lib.indexByte s.data.toList c.toNat.toUInt8)) ∧ w' = w := Any.strings_IndexByte x_lays137 s c w
end Go.Proofs.YtgkngimeokhhgaaGreatDoor
/- lexer.kindOf: a byte's kind. -/
namespace Go.Proofs.YtgkngimeokhhgaaGreatDoor
open Go.RowKit

/-- the kind of a byte, by the document's words: 0 other, 1 blank, 2 end of a line, 3 remark, 4 letter, 5 digit, 6 sign -/
def kindI (c : Int) : Int :=
  if c = 32 ∨ c = 9 then 1 else if c = 10 then 2 else if c = 35 then 3
  else if (97 ≤ c ∧ c ≤ 122) ∨ (65 ≤ c ∧ c ≤ 90) then 4 else if 48 ≤ c ∧ c ≤ 57 then 5
  else if c = 43 ∨ c = 45 ∨ c = 42 ∨ c = 40 ∨ c = 41 ∨ c = 91 ∨ c = 93 ∨ c = 44 ∨ c = 61 ∨ c = 58 then 6 else 0
theorem ix_sign (c : Nat) (h : c < 256) : decide (0 ≤ Lib.indexByte [43, 45, 42, 40, 41, 91, 93, 44, 61, 58] c.toUInt8) = decide (c = 43 ∨ c = 45 ∨ c = 42 ∨ c = 40 ∨ c = 41 ∨ c = 91 ∨ c = 93 ∨ c = 44 ∨ c = 61 ∨ c = 58) := by
  revert c
  decide +kernel
set_option maxRecDepth 100000 in
set_option maxHeartbeats 4000000 in
theorem kindOf_any (c : Nat) (h : c < 256) (w : World) (K : Int) (HK : Hid (kindI c = K)) : Calls Tryz.prog 60 #[.int .u8 c] w fun e w' => e = .returned (.int .i64 K) ∧ w = w' := by
  have hs := decide_eq_decide.1 (ix_sign c h)
  generalize hX : Lib.indexByte [43, 45, 42, 40, 41, 91, 93, 44, 61, 58] c.toUInt8 = X at hs
  have HS := Lib.hid hs
  clear hs
  have cI := x_strings_IndexByte ⟨#[43, 45, 42, 40, 41, 91, 93, 44, 61, 58]⟩ c w
  have e1 : (⟨#[43, 45, 42, 40, 41, 91, 93, 44, 61, 58]⟩ : ByteArray).data.toList = [43, 45, 42, 40, 41, 91, 93, 44, 61, 58] := rfl
  rw [e1, Int.toNat_natCast, hX] at cI
  clear e1 hX
  go_enter Tryz.func60, Tryz.ntmps60
  go_wp2_with (go_at_call 83; refine cI.mono ?_; rintro e w1 ⟨rfl, rfl⟩)
  all_goals
    go_ret
    refine ⟨congrArg (fun x => Ending.returned (.int .i64 x)) ?_, rfl⟩
    rw [← HK.out]
    have hs := HS.out
    try simp only [beq_iff_eq, beq_eq_false_iff_ne, ne_eq] at *
    unfold kindI
    repeat' split
    all_goals omega
end Go.Proofs.YtgkngimeokhhgaaGreatDoor
/- lexer.along and lexer.front: how many letters and digits a text begins with, and the text of them. -/
namespace Go.Proofs.YtgkngimeokhhgaaGreatDoor
open Go.RowKit

/-- the kind of a byte -/
def kb (c : UInt8) : Int := kindI (c.toNat : Int)
/-- a letter or a digit -/
def isLD (c : UInt8) : Bool := decide (kb c = 4 ∨ kb c = 5)
/-- how many letters and digits a text begins with -/
def alongL (l : List UInt8) : Nat := (l.takeWhile isLD).length
/-- a text's bytes -/
def bl (s : ByteArray) : List UInt8 := s.data.toList
theorem bl_len (s : ByteArray) : (bl s).length = s.size := by simp [bl]
theorem bl_get (s : ByteArray) (k : Nat) (h : k < s.size) : (bl s)[k]? = some s[k] := by
  unfold bl
  rw [List.getElem?_eq_getElem (by simpa using h)]
  rfl
theorem u8_lt (c : UInt8) : c.toNat < 256 := c.toNat_lt
theorem alongL_le (l : List UInt8) : alongL l ≤ l.length := (List.takeWhile_sublist _).length_le
theorem along_eq : ∀ (l : List UInt8) (k : Nat), (∀ j < k, ∃ c, l[j]? = some c ∧ isLD c = true) → (k = l.length ∨ ∃ c, l[k]? = some c ∧ isLD c = false) → alongL l = k
  | [], 0, _, _ => rfl
  | [], k + 1, h, _ => by obtain ⟨c, h1, _⟩ := h 0 (by omega); simp at h1
  | b :: l, 0, _, h2 => by
    rcases h2 with h2 | ⟨c, h2, h3⟩
    · simp at h2
    · simp only [List.getElem?_cons_zero, Option.some.injEq] at h2
      subst h2
      simp [alongL, h3]
  | b :: l, k + 1, h1, h2 => by
    obtain ⟨c, e1, e2⟩ := h1 0 (by omega)
    simp only [List.getElem?_cons_zero, Option.some.injEq] at e1
    subst e1
    have ih := along_eq l k (fun j hj => by simpa using h1 (j + 1) (by omega)) (by simpa using h2)
    unfold alongL at ih ⊢
    rw [List.takeWhile_cons, if_pos e2, List.length_cons, ih]
theorem isLD_of {c : UInt8} {K : Int} (h : kb c = K) : isLD c = decide (K = 4 ∨ K = 5) := by unfold isLD; rw [h]
set_option maxRecDepth 100000 in
set_option maxHeartbeats 4000000 in
theorem along_any (s : ByteArray) (w : World) (hs : s.size ≤ maxLen) : Calls Tryz.prog 63 #[.string s] w fun e w' => e = .returned (.int .i64 (alongL (bl s))) ∧ w = w' := by
  unfold maxLen at hs
  go_enter Tryz.func63, Tryz.ntmps63
  go_wp2
  go_loop [3] (fun n => ∃ k : Nat, k ≤ s.size ∧ n = .int .i64 k ∧ Hid (∀ j < k, ∃ c, (bl s)[j]? = some c ∧ isLD c = true)) (fun n => s.size - (intOf n).toNat)
  case atStart => exact ⟨0, Nat.zero_le _, rfl, fun j hj => absurd hj (by omega)⟩
  case round =>
    obtain ⟨k, hk, rfl, HA⟩ := hrel
    by_cases hlt : k < s.size
    · have hg := bl_get s k hlt
      obtain ⟨K, HK⟩ : ∃ K, Hid (kb s[k] = K) := ⟨_, Lib.hid rfl⟩
      have HG : Hid ((bl s)[k]? = some s[k]) := hg
      have cK := fun w => kindOf_any s[k].toNat (u8_lt _) w K HK
      clear hg
      by_cases h4 : K = 4
      · have HB : Hid (isLD s[k] = true) := by unfold Hid; rw [isLD_of HK.out]; simp [h4]
        have b4 : (K == 4) = true := by simp [h4]
        clear h4
        go_wp2_with (go_at_call 60; refine (cK _).mono ?_; rintro e w1 ⟨rfl, rfl⟩)
        go_round
        case rel => exact ⟨k + 1, by omega, by go_num, fun j hj => by
          by_cases e : j = k
          · subst e; exact ⟨_, HG.out, HB.out⟩
          · exact HA.out j (by omega)⟩
        case measure => simp [intOf]; omega
      · have b4 : (K == 4) = false := by simp [h4]
        by_cases h5 : K = 5
        · have HB : Hid (isLD s[k] = true) := by unfold Hid; rw [isLD_of HK.out]; simp [h5]
          have b5 : (K == 5) = true := by simp [h5]
          clear h4 h5
          go_wp2_with (go_at_call 60; refine (cK _).mono ?_; rintro e w1 ⟨rfl, rfl⟩)
          go_round
          case rel => exact ⟨k + 1, by omega, by go_num, fun j hj => by
            by_cases e : j = k
            · subst e; exact ⟨_, HG.out, HB.out⟩
            · exact HA.out j (by omega)⟩
          case measure => simp [intOf]; omega
        · have b5 : (K == 5) = false := by simp [h5]
          have HB : Hid (isLD s[k] = false) := by unfold Hid; rw [isLD_of HK.out]; simp [h4, h5]
          clear h4 h5
          go_wp2_with (go_at_call 60; refine (cK _).mono ?_; rintro e w1 ⟨rfl, rfl⟩)
          go_ret
          exact ⟨by rw [along_eq (bl s) k HA.out (Or.inr ⟨_, HG.out, HB.out⟩)]; rfl, rfl⟩
    · go_wp2
      go_ret
      exact ⟨by rw [along_eq (bl s) k HA.out (Or.inl (by rw [bl_len]; omega))]; rfl, rfl⟩
set_option maxRecDepth 100000 in
theorem front_any (s : ByteArray) (w : World) (hs : s.size ≤ maxLen) (h0 : 0 < s.size) : Calls Tryz.prog 35 #[.string s] w fun e w' => e = .returned (.string (s.extract 0 (max (alongL (bl s)) 1))) ∧ w = w' := by
  have c := along_any s w hs
  have hl := alongL_le (bl s)
  rw [bl_len] at hl
  generalize hX : alongL (bl s) = x at *
  have HX : Hid (alongL (bl s) = x) := hX
  clear hX
  unfold maxLen at hs
  go_enter Tryz.func35, Tryz.ntmps35
  go_wp2_with (go_at_call 63; refine c.mono ?_; rintro e w1 ⟨rfl, rfl⟩)
  go_ret
  exact ⟨by rw [show (max (x : Int) 1).toNat = max x 1 by omega]; rfl, rfl⟩
end Go.Proofs.YtgkngimeokhhgaaGreatDoor
/- lexer.Word and lexer.Number: which texts are words, and numbers. -/
namespace Go.Proofs.YtgkngimeokhhgaaGreatDoor
open Go.RowKit

/-- a text is a word -/
def isWordL (l : List UInt8) : Bool := decide (l.length ≤ 16 ∧ (∃ c, l[0]? = some c ∧ kb c = 4) ∧ alongL l = l.length)
set_option maxRecDepth 100000 in
set_option maxHeartbeats 4000000 in
theorem word_any (s : ByteArray) (w : World) (hs : s.size ≤ maxLen) : Calls Tryz.prog 61 #[.string s] w fun e w' => e = .returned (.bool (isWordL (bl s))) ∧ w = w' := by
  have c := along_any s w hs
  have hl := alongL_le (bl s)
  rw [bl_len] at hl
  have hd : isWordL (bl s) = decide (s.size ≤ 16 ∧ (∃ c, (bl s)[0]? = some c ∧ kb c = 4) ∧ alongL (bl s) = s.size) := by unfold isWordL; rw [bl_len]
  generalize hX : alongL (bl s) = x at *
  clear hX
  have HD := Lib.hid hd
  clear hd
  unfold maxLen at hs
  by_cases h0 : 0 < s.size
  · have hg := bl_get s 0 h0
    obtain ⟨K, HK⟩ : ∃ K, Hid (kb s[0] = K) := ⟨_, Lib.hid rfl⟩
    have HG : Hid ((bl s)[0]? = some s[0]) := hg
    have cK := fun w => kindOf_any s[0].toNat (u8_lt _) w K HK
    clear hg
    have hE : Hid (isWordL (bl s) = (decide (s.size ≤ 16) && (K == 4) && ((x : Int) == (s.size : Int)))) := by
      unfold Hid
      rw [HD.out, HG.out]
      by_cases a : s.size ≤ 16 <;> by_cases b : K = 4 <;> by_cases d : x = s.size <;> simp [a, b, d, HK.out]
      all_goals omega
    go_enter Tryz.func61, Tryz.ntmps61
    go_wp2_with (first | (go_at_call 60; refine (cK _).mono ?_; rintro e w1 ⟨rfl, rfl⟩) | (go_at_call 63; refine c.mono ?_; rintro e w1 ⟨rfl, rfl⟩))
    all_goals
      go_ret
      refine ⟨?_, rfl⟩
      rw [hE.out]
      refine congrArg (fun b => Ending.returned (.bool b)) ?_
      by_cases a : s.size ≤ 16 <;> by_cases b : K = 4 <;> simp [a, b] <;> omega
  · have hE : Hid (isWordL (bl s) = false) := by
      unfold Hid
      rw [HD.out, List.getElem?_eq_none (by rw [bl_len]; omega)]
      simp
    go_enter Tryz.func61, Tryz.ntmps61
    go_wp2
    go_ret
    exact ⟨by rw [hE.out]; rfl, rfl⟩

/-- the number that digits are -/
def numL (l : List UInt8) : Int := l.foldl (fun n c => n * 10 + ((c.toNat : Int) - 48)) 0
/-- a text is a number -/
def isNumL (l : List UInt8) : Bool := decide (0 < l.length ∧ l.length ≤ 18 ∧ ¬(1 < l.length ∧ l[0]? = some 48) ∧ ∀ j < l.length, ∃ c, l[j]? = some c ∧ kb c = 5)
theorem dig_in {c : UInt8} (h : kb c = 5) : 48 ≤ (c.toNat : Int) ∧ (c.toNat : Int) ≤ 57 := by
  unfold kb kindI at h
  repeat' split at h
  all_goals omega
theorem numL_snoc (l : List UInt8) (c : UInt8) : numL (l ++ [c]) = numL l * 10 + ((c.toNat : Int) - 48) := by simp [numL]
theorem take_snoc (l : List UInt8) (k : Nat) (c : UInt8) (h : l[k]? = some c) : l.take (k + 1) = l.take k ++ [c] := by
  obtain ⟨hk, e⟩ := List.getElem?_eq_some_iff.1 h
  rw [List.take_succ_eq_append_getElem hk, e]
/-- what Number gives -/
def numRes (l : List UInt8) : Value := if isNumL l then .tuple #[.int .i64 (numL l), .bool true] else .tuple #[.int .i64 0, .bool false]
theorem numRes_no {l : List UInt8} (h : isNumL l = false) : numRes l = .tuple #[.int .i64 0, .bool false] := by unfold numRes; rw [h]; rfl
theorem numRes_yes {l : List UInt8} (h : isNumL l = true) : numRes l = .tuple #[.int .i64 (numL l), .bool true] := by unfold numRes; rw [h]; rfl
theorem ten_le : ∀ k, k < 18 → (10 : Int) ^ k ≤ 100000000000000000 := by decide
theorem ten_step {v d : Int} {k : Nat} (h : v < 10 ^ k) (hd : d ≤ 9) : v * 10 + d < 10 ^ (k + 1) := by rw [Int.pow_succ]; omega
set_option maxRecDepth 100000 in
set_option maxHeartbeats 8000000 in
theorem number_any (s : ByteArray) (w : World) (hs : s.size ≤ maxLen) : Calls Tryz.prog 62 #[.string s] w fun e w' => e = .returned (numRes (bl s)) ∧ w = w' := by
  unfold maxLen at hs
  by_cases h0 : s.size = 0
  · have hE : Hid (numRes (bl s) = .tuple #[.int .i64 0, .bool false]) := numRes_no (by
      unfold isNumL
      rw [bl_len]
      simp [h0])
    have h0' : ((s.size : Int) == 0) = true := by simp [h0]
    clear h0
    go_enter Tryz.func62, Tryz.ntmps62
    go_wp2
    exact bodyPost_ret (v := .tuple #[.int .i64 0, .bool false]) (by simp [results, Tryz.results62, go_sem]) rfl ⟨by rw [hE.out], rfl⟩
  · by_cases h18 : 18 < s.size
    · have hE : Hid (numRes (bl s) = .tuple #[.int .i64 0, .bool false]) := numRes_no (by
        unfold isNumL
        rw [bl_len]
        simp only [decide_eq_false_iff_not, not_and]
        omega)
      have h0' : ((s.size : Int) == 0) = false := by rw [beq_eq_false_iff_ne]; omega
      go_enter Tryz.func62, Tryz.ntmps62
      go_wp2
      exact bodyPost_ret (v := .tuple #[.int .i64 0, .bool false]) (by simp [results, Tryz.results62, go_sem]) rfl ⟨by rw [hE.out], rfl⟩
    · have hp : 0 < s.size := by omega
      have h0' : ((s.size : Int) == 0) = false := by rw [beq_eq_false_iff_ne]; omega
      have hg := bl_get s 0 hp
      have HG0 : Hid ((bl s)[0]? = some s[0]) := hg
      clear hg
      by_cases h1 : 1 < s.size ∧ s[0] = 48
      · have hE : Hid (numRes (bl s) = .tuple #[.int .i64 0, .bool false]) := numRes_no (by
          unfold isNumL
          rw [bl_len, HG0.out]
          simp [h1.1, h1.2])
        have e48 : ((s[0].toNat : Int) == 48) = true := by rw [h1.2]; rfl
        have h1' := h1.1
        clear h1
        go_enter Tryz.func62, Tryz.ntmps62
        go_wp2
        exact bodyPost_ret (v := .tuple #[.int .i64 0, .bool false]) (by simp [results, Tryz.results62, go_sem]) rfl ⟨by rw [hE.out], rfl⟩
      · have HN : Hid (¬(1 < (bl s).length ∧ (bl s)[0]? = some 48)) := by
          unfold Hid
          rw [bl_len, HG0.out]
          simpa using h1
        have hc : (1 < s.size ∧ ((s[0].toNat : Int) == 48) = false) ∨ ¬ 1 < s.size := by
          by_cases a : 1 < s.size
          · refine Or.inl ⟨a, ?_⟩
            rw [beq_eq_false_iff_ne]
            intro e
            exact h1 ⟨a, UInt8.toNat_inj.1 (by rw [show (48 : UInt8).toNat = 48 from rfl]; omega)⟩
          · exact Or.inr a
        clear h1
        rcases hc with ⟨h1, e48⟩ | h1
        all_goals
          go_enter Tryz.func62, Tryz.ntmps62
          go_wp2
          go_loop [4, 26] (fun n i => ∃ (k : Nat) (v : Int), k ≤ s.size ∧ i = .int .i64 k ∧ n = .int .i64 v ∧ Hid (numL ((bl s).take k) = v) ∧ 0 ≤ v ∧ Hid (v < 10 ^ k) ∧ Hid (∀ j < k, ∃ c, (bl s)[j]? = some c ∧ kb c = 5)) (fun _ i => s.size - (intOf i).toNat)
          case atStart => exact ⟨0, 0, Nat.zero_le _, rfl, rfl, rfl, Int.le_refl _, Lib.hid (by decide), fun j hj => absurd hj (by omega)⟩
          case round =>
            obtain ⟨k, v, hk, rfl, rfl, HV, hv, HV2, HA⟩ := hrel
            by_cases hlt : k < s.size
            · have HG : Hid ((bl s)[k]? = some s[k]) := bl_get s k hlt
              obtain ⟨K, HK⟩ : ∃ K, Hid (kb s[k] = K) := ⟨_, Lib.hid rfl⟩
              have cK := fun w => kindOf_any s[k].toNat (u8_lt _) w K HK
              by_cases h5 : K = 5
              · obtain ⟨hlo, hhi⟩ := dig_in (HK.out.trans h5)
                have HB : Hid (kb s[k] = 5) := HK.out.trans h5
                have b5 : (K != 5) = false := by simp [h5]
                have hv3 : v < 100000000000000000 := by have := ten_le k (by omega); have := HV2.out; omega
                clear h5
                go_wp2_with (go_at_call 60; refine (cK _).mono ?_; rintro e w1 ⟨rfl, rfl⟩)
                refine ⟨⟨k + 1, v * 10 + ((s[k].toNat : Int) - 48), by omega, by go_num, rfl, ?_, by omega, ten_step HV2.out (by omega), fun j hj => ?_⟩, by simp [intOf]; omega⟩
                · unfold Hid
                  rw [take_snoc _ _ _ HG.out, numL_snoc, HV.out]
                · by_cases e : j = k
                  · subst e; exact ⟨_, HG.out, HB.out⟩
                  · exact HA.out j (by omega)
              · have b5 : (K != 5) = true := by simp [h5]
                have hE : Hid (numRes (bl s) = .tuple #[.int .i64 0, .bool false]) := numRes_no (by
                  unfold isNumL
                  rw [decide_eq_false_iff_not]
                  rintro ⟨_, _, _, h⟩
                  obtain ⟨c, e1, e2⟩ := h k (by rw [bl_len]; omega)
                  rw [HG.out] at e1
                  injection e1 with e1
                  subst e1
                  exact h5 (HK.out.symm.trans e2))
                clear h5
                go_wp2_with (go_at_call 60; refine (cK _).mono ?_; rintro e w1 ⟨rfl, rfl⟩)
                exact bodyPost_ret (v := .tuple #[.int .i64 0, .bool false]) (by simp [results, Tryz.results62, go_sem]) rfl ⟨by rw [hE.out], rfl⟩
            · obtain rfl : s.size = k := by omega
              have hE : Hid (numRes (bl s) = .tuple #[.int .i64 v, .bool true]) := by
                unfold Hid
                rw [numRes_yes, ← HV.out, List.take_of_length_le (by rw [bl_len]; omega)]
                unfold isNumL
                rw [decide_eq_true_iff, bl_len]
                refine ⟨by omega, by omega, ?_, HA.out⟩
                have := HN.out
                rwa [bl_len] at this
              go_wp2
              exact bodyPost_ret (v := .tuple #[.int .i64 v, .bool true]) (by simp [results, Tryz.results62, go_sem]) rfl ⟨by rw [hE.out], rfl⟩
end Go.Proofs.YtgkngimeokhhgaaGreatDoor
/- lexer.token: the one whose text is told, and whether there is one. -/
namespace Go.Proofs.YtgkngimeokhhgaaGreatDoor
open Go.RowKit

/-- a token -/
structure Tk where
  k : Int
  s : ByteArray
  n : Int
def Tk.val (t : Tk) : Value := .agg #[.int .i64 t.k, .string t.s, .int .i64 t.n]
/-- a text is a sign -/
def isSignL (l : List UInt8) : Bool := decide (l.length = 1 ∧ ∃ c, l[0]? = some c ∧ kb c = 6)
/-- the token whose text is told -/
def tokF (s : ByteArray) : Option Tk :=
  if s.size = 0 then some ⟨4, ⟨#[]⟩, 0⟩ else if isWordL (bl s) then some ⟨1, s, 0⟩
  else if isNumL (bl s) then some ⟨2, s, numL (bl s)⟩ else if isSignL (bl s) then some ⟨3, s, 0⟩ else none
def tokRes (o : Option Tk) : Value := match o with | some t => .tuple #[t.val, .bool true] | none => .tuple #[(⟨0, ⟨#[]⟩, 0⟩ : Tk).val, .bool false]
theorem size_zero {s : ByteArray} (h : s.size = 0) : s = ⟨#[]⟩ := by
  have : s.data = #[] := Array.eq_empty_of_size_eq_zero h
  cases s
  simp only at this
  rw [this]
theorem not_empty {s : ByteArray} (h : s.size ≠ 0) : s.toList.isEmpty = false := by
  rw [Lib.toList_data, List.isEmpty_eq_false_iff]
  intro e
  exact h (by rw [Lib.size_eq, e]; rfl)
set_option maxRecDepth 100000 in
set_option maxHeartbeats 8000000 in
theorem token_any (s : ByteArray) (w : World) (hs : s.size ≤ maxLen) : Calls Tryz.prog 34 #[.string s] w fun e w' => e = .returned (tokRes (tokF s)) ∧ Below w.heap.size w w' := by
  by_cases h0 : s.size = 0
  · obtain rfl := size_zero h0
    have hE : Hid (tokF ⟨#[]⟩ = some ⟨4, ⟨#[]⟩, 0⟩) := rfl
    clear h0
    go_enter Tryz.func34, Tryz.ntmps34
    go_wp2
    exact bodyPost_ret (v := .tuple #[(⟨4, ⟨#[]⟩, 0⟩ : Tk).val, .bool true]) (by simp [results, Tryz.results34, go_sem, Tk.val]) rfl ⟨by rw [hE.out]; rfl, (Below.refl _ w).alloc (Nat.le_refl _) _⟩
  · have hz := not_empty h0
    obtain ⟨W, HW⟩ : ∃ W, Hid (isWordL (bl s) = W) := ⟨_, Lib.hid rfl⟩
    obtain ⟨N, HN⟩ : ∃ N, Hid (isNumL (bl s) = N) := ⟨_, Lib.hid rfl⟩
    have cW := fun w => word_any s w hs
    have cN := fun w => number_any s w hs
    rw [HW.out] at cW
    cases W
    · cases N
      · have cN' := cN
        rw [numRes_no HN.out] at cN'
        clear cN
        by_cases h1 : s.size = 1
        · have p1 : 0 < s.size := by omega
          have HG : Hid ((bl s)[0]? = some (s[0]'p1)) := bl_get s 0 p1
          obtain ⟨K, HK⟩ : ∃ K, Hid (kb (s[0]'p1) = K) := ⟨_, Lib.hid rfl⟩
          have cK := fun w => kindOf_any (s[0]'p1).toNat (u8_lt _) w K HK
          have b1 : ((s.size : Int) == 1) = true := by simp [h1]
          by_cases h6 : K = 6
          · have hE : Hid (tokF s = some ⟨3, s, 0⟩) := by
              unfold Hid tokF
              rw [if_neg h0, if_neg (by rw [HW.out]; decide), if_neg (by rw [HN.out]; decide), if_pos]
              unfold isSignL
              rw [decide_eq_true_iff, bl_len]
              exact ⟨h1, _, HG.out, HK.out.trans h6⟩
            have b6 : (K == 6) = true := by simp [h6]
            clear HW HN h6 h0 h1
            go_enter Tryz.func34, Tryz.ntmps34
            go_wp2_with (first | (go_at_call 61; refine (cW _).mono ?_; rintro e w1 ⟨rfl, rfl⟩) | (go_at_call 62; refine (cN' _).mono ?_; rintro e w1 ⟨rfl, rfl⟩) | (go_at_call 60; refine (cK _).mono ?_; rintro e w1 ⟨rfl, rfl⟩))
            exact bodyPost_ret (v := .tuple #[(⟨3, s, 0⟩ : Tk).val, .bool true]) (by simp [results, Tryz.results34, go_sem, Tk.val]) rfl ⟨by rw [hE.out]; rfl, (Below.refl _ w).alloc (Nat.le_refl _) _⟩
          · have hE : Hid (tokF s = none) := by
              unfold Hid tokF
              rw [if_neg h0, if_neg (by rw [HW.out]; decide), if_neg (by rw [HN.out]; decide), if_neg]
              unfold isSignL
              rw [decide_eq_true_iff]
              rintro ⟨_, c, e1, e2⟩
              rw [HG.out] at e1
              injection e1 with e1
              subst e1
              exact h6 (HK.out.symm.trans e2)
            have b6 : (K == 6) = false := by simp [h6]
            clear HW HN h6 h0 h1
            go_enter Tryz.func34, Tryz.ntmps34
            go_wp2_with (first | (go_at_call 61; refine (cW _).mono ?_; rintro e w1 ⟨rfl, rfl⟩) | (go_at_call 62; refine (cN' _).mono ?_; rintro e w1 ⟨rfl, rfl⟩) | (go_at_call 60; refine (cK _).mono ?_; rintro e w1 ⟨rfl, rfl⟩))
            exact bodyPost_ret (v := .tuple #[(⟨0, ⟨#[]⟩, 0⟩ : Tk).val, .bool false]) (by simp [results, Tryz.results34, go_sem, Tk.val]) rfl ⟨by rw [hE.out]; rfl, (Below.refl _ w).alloc (Nat.le_refl _) _⟩
        · have hE : Hid (tokF s = none) := by
            unfold Hid tokF
            rw [if_neg h0, if_neg (by rw [HW.out]; decide), if_neg (by rw [HN.out]; decide), if_neg]
            unfold isSignL
            rw [decide_eq_true_iff, bl_len]
            rintro ⟨e, _⟩
            exact h1 e
          have b1 : ((s.size : Int) == 1) = false := by rw [beq_eq_false_iff_ne]; omega
          clear HW HN h0 h1
          go_enter Tryz.func34, Tryz.ntmps34
          go_wp2_with (first | (go_at_call 61; refine (cW _).mono ?_; rintro e w1 ⟨rfl, rfl⟩) | (go_at_call 62; refine (cN' _).mono ?_; rintro e w1 ⟨rfl, rfl⟩))
          exact bodyPost_ret (v := .tuple #[(⟨0, ⟨#[]⟩, 0⟩ : Tk).val, .bool false]) (by simp [results, Tryz.results34, go_sem, Tk.val]) rfl ⟨by rw [hE.out]; rfl, (Below.refl _ w).alloc (Nat.le_refl _) _⟩
      · have cN' := cN
        rw [numRes_yes HN.out] at cN'
        clear cN
        have hE : Hid (tokF s = some ⟨2, s, numL (bl s)⟩) := by
          unfold Hid tokF
          rw [if_neg h0, if_neg (by rw [HW.out]; decide), if_pos HN.out]
        clear HW HN h0
        go_enter Tryz.func34, Tryz.ntmps34
        go_wp2_with (first | (go_at_call 61; refine (cW _).mono ?_; rintro e w1 ⟨rfl, rfl⟩) | (go_at_call 62; refine (cN' _).mono ?_; rintro e w1 ⟨rfl, rfl⟩))
        exact bodyPost_ret (v := .tuple #[(⟨2, s, numL (bl s)⟩ : Tk).val, .bool true]) (by simp [results, Tryz.results34, go_sem, Tk.val]) rfl ⟨by rw [hE.out]; rfl, (Below.refl _ w).alloc (Nat.le_refl _) _⟩
    · have hE : Hid (tokF s = some ⟨1, s, 0⟩) := by unfold Hid tokF; rw [if_neg h0, if_pos HW.out]
      clear HW HN h0 cN
      go_enter Tryz.func34, Tryz.ntmps34
      go_wp2_with (first | (go_at_call 61; refine (cW _).mono ?_; rintro e w1 ⟨rfl, rfl⟩))
      exact bodyPost_ret (v := .tuple #[(⟨1, s, 0⟩ : Tk).val, .bool true]) (by simp [results, Tryz.results34, go_sem, Tk.val]) rfl ⟨by rw [hE.out]; rfl, (Below.refl _ w).alloc (Nat.le_refl _) _⟩
end Go.Proofs.YtgkngimeokhhgaaGreatDoor
