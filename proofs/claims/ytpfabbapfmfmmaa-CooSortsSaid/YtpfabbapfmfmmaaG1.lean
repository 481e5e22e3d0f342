/- Plain facts, without the program: when a slice value of Go reads as a list of 64-bit integers, and what the shape functions of package box compute on lists. Nothing is claimed of the program here. -/
import Derived.WalkKit
import Derived.Lib.Hide
import Derived.Deep.Draws
import Derived.Test.YtpfabbapfmfmmaaProg
import Derived.BigQuiet
import Derived.Deep.QuietTactic
import Derived.RangeFuncNested
import Derived.RangeFuncBound
import Derived.RangeFuncCalls
import Derived.RangeFuncLeaves
import Derived.Shelf.Abstract
import Derived.Shelf.RegionOpen
import Derived.OwnWalkIn
import Derived.TacticsInMore
import Derived.LoopNIn
import Derived.LoopIn
namespace Go.Proofs.Ytpfabbapfmfmmaa
open Go.RowKit

/-- the header (A, n) leads to the numbers xs, in blocks below B -/
def Ints (w : World) (B : Nat) (A : Option Addr) (n : Nat) (xs : List Int) : Prop :=
  xs.length = n ∧ (∀ x ∈ xs, -9223372036854775808 ≤ x ∧ x ≤ 9223372036854775807) ∧
  (0 < n → ∃ b off, A = some ⟨b, off, none⟩ ∧ b < B ∧ ∀ (k : Nat) (x : Int), xs[k]? = some x → w.cell? ⟨b, off + k, none⟩ = some (.int .i64 x))

section
variable {w w' : World} {B B' n : Nat} {A : Option Addr} {xs : List Int}
theorem Ints.nil_ : Ints w B A 0 [] := ⟨rfl, by simp, fun h => absurd h (by omega)⟩
theorem Ints.at_ {k : Nat} (h : Ints w B A n xs) (hk : k < n) :
    ∃ b off x, A = some ⟨b, off, none⟩ ∧ b < B ∧ Hid (xs[k]? = some x) ∧ w.cell? ⟨b, off + k, none⟩ = some (.int .i64 x) ∧ -9223372036854775808 ≤ x ∧ x ≤ 9223372036854775807 := by
  obtain ⟨hl, hb, hc⟩ := h
  obtain ⟨b, off, rfl, hB, hx⟩ := hc (by omega)
  have hk' : k < xs.length := by omega
  have hm := hb _ (List.getElem_mem hk')
  exact ⟨b, off, xs[k], rfl, hB, List.getElem?_eq_getElem hk', hx k _ (List.getElem?_eq_getElem hk'), hm.1, hm.2⟩
theorem Ints.len (h : Ints w B A n xs) : xs.length = n := h.1
theorem Ints.keep (h : Ints w B A n xs) (hk : ∀ p : Addr, p.block < B → w'.cell? p = w.cell? p) : Ints w' B A n xs := by
  obtain ⟨hl, hb, hc⟩ := h
  refine ⟨hl, hb, fun hn => ?_⟩
  obtain ⟨b, off, e, hB, hx⟩ := hc hn
  exact ⟨b, off, e, hB, fun k x hx' => (hk _ hB).trans (hx k x hx')⟩
theorem Ints.more (h : Ints w B A n xs) (hB : B ≤ B') : Ints w B' A n xs := by
  obtain ⟨hl, hb, hc⟩ := h
  refine ⟨hl, hb, fun hn => ?_⟩
  obtain ⟨b, off, e, hB', hx⟩ := hc hn
  exact ⟨b, off, e, by omega, hx⟩
theorem Ints.below (h : Ints w B A n xs) (hb : Below B w w') : Ints w' B A n xs := h.keep fun _ hp => hb.cell hp
theorem Ints.drewN (h : Ints w B A n xs) (k : Nat) : Ints (w.drewN k) B A n xs := h
theorem Ints.drew (h : Ints w B A n xs) : Ints w.drew B A n xs := h
theorem Ints.alloc (h : Ints w B A n xs) (hB : B ≤ w.heap.size) (o : Obj) : Ints (w.alloc o) B A n xs :=
  h.keep fun p hp => World.cell?_alloc_lt w o p (by omega)
theorem Ints.alloc' (h : Ints w w.heap.size A n xs) (o : Obj) : Ints (w.alloc o) (w.alloc o).heap.size A n xs :=
  (h.alloc (Nat.le_refl _) o).more (by simp)
theorem Ints.setCell (h : Ints w B A n xs) {p : Addr} (hB : B ≤ p.block) (u : Value) : Ints (w.setCell p u) B A n xs :=
  h.keep fun q hq => World.cell?_setCell_other w p q u (fun e => by subst e; omega)
theorem Ints.of_own {base : Nat} {e : TypeId} {c : Nat} (h : w.ownsRow base e 1 (.slice A n c) n (xs.map (Value.int .i64))) (hb : ∀ x ∈ xs, -9223372036854775808 ≤ x ∧ x ≤ 9223372036854775807) : Ints w w.heap.size A n xs := by
  have hl : xs.length = n := by simpa using h.1
  refine ⟨hl, hb, fun hn => ?_⟩
  rcases h.2 with ⟨_, h0⟩ | ⟨g, cap, cur, hv, _, hh, _⟩
  · omega
  have hA : A = some ⟨g, 0, none⟩ := by injection hv
  subst hA
  have hlt : g < w.heap.size := by
    rcases Nat.lt_or_ge g w.heap.size with hlt | hge
    · exact hlt
    · rw [Array.getElem?_eq_none hge] at hh; cases hh
  refine ⟨g, 0, rfl, hlt, fun k x hx => ?_⟩
  have := h.cells (g := g) rfl k (.int .i64 x) (by simp [hx])
  by_cases hk : k = 0
  · subst hk; simpa [Addr.add] using this
  · simpa [Addr.add, hk] using this
end

/-! ### Lists, taken so far -/
theorem any_hit {α : Type} {p : α → Bool} {xs : List α} {k : Nat} {x : α} (h : xs[k]? = some x) (hp : p x = true) : xs.any p = true := by
  rw [List.any_eq_true]
  obtain ⟨hk, rfl⟩ := List.getElem?_eq_some_iff.1 h
  exact ⟨_, List.getElem_mem hk, hp⟩
theorem take_succ_of {α : Type} {xs : List α} {k : Nat} {x : α} (h : xs[k]? = some x) : xs.take (k + 1) = xs.take k ++ [x] := by
  rw [List.take_add_one, h]; rfl
theorem any_miss {α : Type} {p : α → Bool} {xs : List α} {k : Nat} {x : α} (h0 : (xs.take k).any p = false) (h : xs[k]? = some x) (hp : p x = false) : (xs.take (k + 1)).any p = false := by
  rw [take_succ_of h, List.any_append, h0]; simp [hp]
theorem any_all {α : Type} {p : α → Bool} {xs : List α} {k n : Nat} (h0 : (xs.take k).any p = false) (hl : xs.length = n) (hk : n ≤ k) : xs.any p = false := by
  rw [List.take_of_length_le (by omega)] at h0; exact h0

/-! ### The shape functions on lists -/
def cellsGo : List Int → Int → Int × Int
  | [], n => (n, 0)
  | s :: l, n => if 4611686018427387903 / n < s then (0, 2) else cellsGo l (n * s)
/-- Cells: how many, and the error's number -/
def cellsF (l : List Int) : Int × Int :=
  if 4 < l.length ∨ (l.any fun s => decide (s < 0)) = true then (0, 1) else if (l.any fun s => s == 0) = true then (0, 0) else cellsGo l 1

theorem pos_of_any {xs : List Int} (h1 : (xs.any fun s => decide (s < 0)) = false) (h2 : (xs.any fun s => s == 0) = false) : ∀ x ∈ xs, 1 ≤ x := by
  intro x hx
  rw [List.any_eq_false] at h1 h2
  have a := h1 x hx
  have b := h2 x hx
  simp at a b
  omega
theorem drop_of {α : Type} {xs : List α} {k : Nat} {x : α} (h : xs[k]? = some x) : xs.drop k = x :: xs.drop (k + 1) := by
  obtain ⟨hk, rfl⟩ := List.getElem?_eq_some_iff.1 h
  exact List.drop_eq_getElem_cons hk
theorem mul_bound {q x : Int} (hq : 1 ≤ q) (hx : 1 ≤ x) (h : ¬ 4611686018427387903 / q < x) : 1 ≤ q * x ∧ q * x ≤ 4611686018427387903 := by
  have h1 : x ≤ 4611686018427387903 / q := by omega
  have h2 := (Int.le_ediv_iff_mul_le (by omega : (0 : Int) < q)).1 h1
  refine ⟨?_, by rw [Int.mul_comm]; exact h2⟩
  have := Int.mul_le_mul hq hx (by omega) (by omega)
  simpa using this

end Go.Proofs.Ytpfabbapfmfmmaa
/- Slices of entries: when one reads as a list of places and numbers. -/
namespace Go.Proofs.Ytpfabbapfmfmmaa
open Go.RowKit

/-- an entry: its place's header, the place, the number -/
structure Ent where
  A : Option Addr
  n : Nat
  c : Nat
  cs : List Int
  v : Int
/-- the header (A, n) leads to the entries es, in blocks below B -/
def Ents (w : World) (B : Nat) (A : Option Addr) (n : Nat) (es : List Ent) : Prop :=
  es.length = n ∧ (∀ x ∈ es, Ints w B x.A x.n x.cs ∧ x.n ≤ 9223372036854775807 ∧ x.n ≤ x.c ∧ -9223372036854775808 ≤ x.v ∧ x.v ≤ 9223372036854775807) ∧
  (0 < n → ∃ b off, A = some ⟨b, off, none⟩ ∧ b < B ∧ ∀ (k : Nat) (x : Ent), es[k]? = some x → w.cell? ⟨b, off + 2 * k, none⟩ = some (.slice x.A x.n x.c) ∧ w.cell? ⟨b, off + 2 * k + 1, none⟩ = some (.int .i64 x.v))
section
variable {w w' : World} {B B' n : Nat} {A : Option Addr} {es : List Ent}
theorem Ents.nil_ : Ents w B A 0 [] := ⟨rfl, by simp, fun h => absurd h (by omega)⟩
theorem Ents.len (h : Ents w B A n es) : es.length = n := h.1
theorem Ents.keep (h : Ents w B A n es) (hk : ∀ p : Addr, p.block < B → w'.cell? p = w.cell? p) : Ents w' B A n es := by
  obtain ⟨hl, hb, hc⟩ := h
  refine ⟨hl, fun x hx => ⟨(hb x hx).1.keep hk, (hb x hx).2⟩, fun hn => ?_⟩
  obtain ⟨b, off, e, hB, hx⟩ := hc hn
  exact ⟨b, off, e, hB, fun k x hx' => ⟨(hk _ hB).trans (hx k x hx').1, (hk _ hB).trans (hx k x hx').2⟩⟩
theorem Ents.more (h : Ents w B A n es) (hB : B ≤ B') : Ents w B' A n es := by
  obtain ⟨hl, hb, hc⟩ := h
  refine ⟨hl, fun x hx => ⟨(hb x hx).1.more hB, (hb x hx).2⟩, fun hn => ?_⟩
  obtain ⟨b, off, e, hB', hx⟩ := hc hn
  exact ⟨b, off, e, by omega, hx⟩
theorem Ents.below (h : Ents w B A n es) (hb : Below B w w') : Ents w' B A n es := h.keep fun _ hp => hb.cell hp
theorem Ents.at_ {k : Nat} (h : Ents w B A n es) (hk : k < n) :
    ∃ b off x, A = some ⟨b, off, none⟩ ∧ b < B ∧ Hid (es[k]? = some x) ∧ w.cell? ⟨b, off + 2 * k, none⟩ = some (.slice x.A x.n x.c) ∧ w.cell? ⟨b, off + 2 * k + 1, none⟩ = some (.int .i64 x.v) ∧ Ints w B x.A x.n x.cs ∧ x.n ≤ 9223372036854775807 ∧ x.n ≤ x.c ∧ -9223372036854775808 ≤ x.v ∧ x.v ≤ 9223372036854775807 := by
  obtain ⟨hl, hb, hc⟩ := h
  obtain ⟨b, off, rfl, hB, hx⟩ := hc (by omega)
  have hk' : k < es.length := by omega
  have hm := hb _ (List.getElem_mem hk')
  have hx' := hx k _ (List.getElem?_eq_getElem hk')
  exact ⟨b, off, es[k], rfl, hB, List.getElem?_eq_getElem hk', hx'.1, hx'.2, hm.1, hm.2.1, hm.2.2.1, hm.2.2.2.1, hm.2.2.2.2⟩
theorem Ents.take_ {k : Nat} (h : Ents w B A n es) (hk : k ≤ n) : Ents w B A k (es.take k) := by
  obtain ⟨hl, hb, hc⟩ := h
  refine ⟨by rw [List.length_take]; omega, fun x hx => hb x (List.mem_of_mem_take hx), fun h0 => ?_⟩
  obtain ⟨b, off, e, hB, hx⟩ := hc (by omega)
  refine ⟨b, off, e, hB, fun j x hj => hx j x ?_⟩
  rw [List.getElem?_take] at hj
  split at hj
  · exact hj
  · cases hj
theorem Ents.drop_ {k c : Nat} (h : Ents w B A n es) (hk : k ≤ n) (hc : n ≤ c) : Ents w B (if c = k then A else A.map (·.add (k * 2))) (n - k) (es.drop k) := by
  obtain ⟨hl, hb, hcc⟩ := h
  refine ⟨by rw [List.length_drop]; omega, fun x hx => hb x (List.mem_of_mem_drop hx), fun h0 => ?_⟩
  obtain ⟨b, off, rfl, hB, hx⟩ := hcc (by omega)
  rw [if_neg (by omega)]
  refine ⟨b, off + 2 * k, ?_, hB, fun j x hj => ?_⟩
  · by_cases hk0 : k = 0
    · subst hk0; simp [Addr.add]
    · have h2 : ¬ k * 2 = 0 := by omega
      simp [Addr.add, h2, Nat.mul_comm]
  · rw [List.getElem?_drop] at hj
    have := hx (k + j) x hj
    rw [show off + 2 * k + 2 * j = off + 2 * (k + j) by omega]
    exact this
end
end Go.Proofs.Ytpfabbapfmfmmaa
/- The contracts of box.Cells and of the document's Cells (and of what they call), at every list of numbers: both return what cellsF computes, and leave memory alone. -/
namespace Go.Proofs.Ytpfabbapfmfmmaa
open Go.RowKit

set_option maxRecDepth 100000 in
theorem negative_any (x : Int) (w : World) : Calls Try.prog 76 #[.int .i64 x] w fun e w' => e = .returned (.bool (decide (x < 0))) ∧ w = w' := by
  go_enter Try.func76, Try.ntmps76
  go_wp2
  go_ret
  exact ⟨rfl, rfl⟩

set_option maxRecDepth 100000 in
/-- slices.IndexFunc(l, negative): the place of the first negative number, or -1; here: whether there is one -/
theorem indexFunc_any (A : Option Addr) (n c : Nat) (xs : List Int) (w : World) (B : Nat) (h : Ints w B A n xs) (hn : n ≤ 100000) :
    Calls Try.prog 90 #[.slice A n c, .func (.func 76) #[] #[]] w fun e w' => ∃ r : Int, e = .returned (.int .i64 r) ∧ decide (0 ≤ r) = (xs.any fun s => decide (s < 0)) ∧ w = w' := by
  have HL : Hid (xs.length = n) := h.1
  go_enter Try.func90, Try.ntmps90
  go_wp2
  go_loop [8] (fun i => ∃ k : Nat, k ≤ n ∧ i = .int .i64 k ∧ Hid ((xs.take k).any (fun s => decide (s < 0)) = false)) (fun i => n - (intOf i).toNat)
  case atStart => exact ⟨0, Nat.zero_le _, rfl, by unfold Hid; simp⟩
  case round =>
    obtain ⟨k, hk, rfl, HK⟩ := hrel
    by_cases hlt : k < n
    · obtain ⟨b, off, x, rfl, _, HX, hc, hx1, hx2⟩ := h.at_ hlt
      by_cases hneg : x < 0
      · go_wp2_with (go_at_call 76; refine (negative_any _ _).mono ?_; rintro e w' ⟨rfl, rfl⟩)
        go_ret
        exact ⟨k, rfl, by rw [any_hit HX.out (by simpa using hneg)]; simp, rfl⟩
      · go_wp2_with (go_at_call 76; refine (negative_any _ _).mono ?_; rintro e w' ⟨rfl, rfl⟩)
        go_round
        case rel => exact ⟨k + 1, by omega, by go_num, any_miss HK.out HX.out (by simpa using hneg)⟩
        case measure => simp [intOf]; omega
    · go_wp2
      go_ret
      exact ⟨-1, rfl, by rw [any_all HK.out HL.out (by omega)]; rfl, rfl⟩

set_option maxRecDepth 100000 in
theorem containsFunc_any (A : Option Addr) (n c : Nat) (xs : List Int) (w : World) (B : Nat) (h : Ints w B A n xs) (hn : n ≤ 100000) :
    Calls Try.prog 75 #[.slice A n c, .func (.func 76) #[] #[]] w fun e w' => e = .returned (.bool (xs.any fun s => decide (s < 0))) ∧ w = w' := by
  go_enter Try.func75, Try.ntmps75
  go_wp2_with (go_at_call 90; refine (indexFunc_any A n c xs _ B h hn).mono ?_; rintro e w' ⟨r, rfl, HR, rfl⟩; have HH := Lib.hid HR; clear HR)
  go_ret
  exact ⟨by rw [HH.out]; rfl, rfl⟩

set_option maxRecDepth 100000 in
theorem index_any (A : Option Addr) (n c : Nat) (xs : List Int) (v : Int) (w : World) (B : Nat) (h : Ints w B A n xs) (hn : n ≤ 100000) :
    Calls Try.prog 91 #[.slice A n c, .int .i64 v] w fun e w' => ∃ r : Int, e = .returned (.int .i64 r) ∧ decide (0 ≤ r) = (xs.any fun s => s == v) ∧ w = w' := by
  have HL : Hid (xs.length = n) := h.1
  go_enter Try.func91, Try.ntmps91
  go_wp2
  go_loop [8] (fun i => ∃ k : Nat, k ≤ n ∧ i = .int .i64 k ∧ Hid ((xs.take k).any (fun s => s == v) = false)) (fun i => n - (intOf i).toNat)
  case atStart => exact ⟨0, Nat.zero_le _, rfl, by unfold Hid; simp⟩
  case round =>
    obtain ⟨k, hk, rfl, HK⟩ := hrel
    by_cases hlt : k < n
    · obtain ⟨b, off, x, rfl, _, HX, hc, hx1, hx2⟩ := h.at_ hlt
      by_cases hv : (v == x) = true
      · go_wp2
        go_ret
        exact ⟨k, rfl, by rw [any_hit HX.out (by simp at hv ⊢; exact hv.symm)]; simp, rfl⟩
      · have hv' : (v == x) = false := by simpa using hv
        clear hv
        go_wp2
        go_round
        case rel => exact ⟨k + 1, by omega, by go_num, any_miss HK.out HX.out (by simp at hv' ⊢; exact fun h => hv' h.symm)⟩
        case measure => simp [intOf]; omega
    · go_wp2
      go_ret
      exact ⟨-1, rfl, by rw [any_all HK.out HL.out (by omega)]; rfl, rfl⟩

set_option maxRecDepth 100000 in
theorem contains_any (A : Option Addr) (n c : Nat) (xs : List Int) (v : Int) (w : World) (B : Nat) (h : Ints w B A n xs) (hn : n ≤ 100000) :
    Calls Try.prog 77 #[.slice A n c, .int .i64 v] w fun e w' => e = .returned (.bool (xs.any fun s => s == v)) ∧ w = w' := by
  go_enter Try.func77, Try.ntmps77
  go_wp2_with (go_at_call 91; refine (index_any A n c xs v _ B h hn).mono ?_; rintro e w' ⟨r, rfl, HR, rfl⟩; have HH := Lib.hid HR; clear HR)
  go_ret
  exact ⟨by rw [HH.out]; rfl, rfl⟩

set_option maxRecDepth 100000 in
theorem cells_any (A : Option Addr) (n c : Nat) (xs : List Int) (w : World) (B : Nat) (h : Ints w B A n xs) (hn : n ≤ 9223372036854775807) :
    Calls Try.prog 51 #[.slice A n c] w fun e w' => e = .returned (.tuple #[.int .i64 (cellsF xs).1, .int .i64 (cellsF xs).2]) ∧ w = w' := by
  have HL : Hid (xs.length = n) := h.1
  by_cases h4 : 4 < n
  · go_enter Try.func51, Try.ntmps51
    go_wp2
    go_ret2
    exact ⟨by rw [cellsF, if_pos (.inl (by rw [HL.out]; omega))]; rfl, rfl⟩
  by_cases hneg : (xs.any fun s => decide (s < 0)) = true
  · have HC : ∀ W, Ints W B A n xs → Calls Try.prog 75 #[.slice A n c, .func (.func 76) #[] #[]] W fun e w' => e = .returned (.bool true) ∧ W = w' := fun W hW => (containsFunc_any A n c xs W B hW (by omega)).mono fun _ _ hh => by rw [hneg] at hh; exact hh
    have HN := Lib.hid hneg
    clear hneg
    go_enter Try.func51, Try.ntmps51
    go_wp2_with (go_at_call 75; refine (HC _ h).mono ?_; rintro e w' ⟨rfl, rfl⟩)
    go_ret2
    exact ⟨by rw [cellsF, if_pos (.inr HN.out)]; rfl, rfl⟩
  have hneg' : (xs.any fun s => decide (s < 0)) = false := by simpa using hneg
  clear hneg
  have HC : ∀ W, Ints W B A n xs → Calls Try.prog 75 #[.slice A n c, .func (.func 76) #[] #[]] W fun e w' => e = .returned (.bool false) ∧ W = w' := fun W hW => (containsFunc_any A n c xs W B hW (by omega)).mono fun _ _ hh => by rw [hneg'] at hh; exact hh
  have HN := Lib.hid hneg'
  clear hneg'
  have hor : ¬ (4 < xs.length ∨ (xs.any fun s => decide (s < 0)) = true) := by rw [HN.out, HL.out]; simp; omega
  by_cases hz : (xs.any fun s => s == 0) = true
  · have HD : ∀ W, Ints W B A n xs → Calls Try.prog 77 #[.slice A n c, .int .i64 0] W fun e w' => e = .returned (.bool true) ∧ W = w' := fun W hW => (contains_any A n c xs 0 W B hW (by omega)).mono fun _ _ hh => by rw [hz] at hh; exact hh
    have HF : Hid (cellsF xs = (0, 0)) := by unfold Hid cellsF; rw [if_neg hor, if_pos hz]
    clear hz hor
    go_enter Try.func51, Try.ntmps51
    go_wp2_with (first | (go_at_call 75; refine (HC _ h).mono ?_; rintro e w' ⟨rfl, rfl⟩) | (go_at_call 77; refine (HD _ h).mono ?_; rintro e w' ⟨rfl, rfl⟩))
    go_ret2
    exact ⟨by rw [HF.out]; rfl, rfl⟩
  have hz' : (xs.any fun s => s == 0) = false := (by cases hb : (xs.any fun s => s == 0) with | false => rfl | true => exact absurd hb hz)
  clear hz
  have HD : ∀ W, Ints W B A n xs → Calls Try.prog 77 #[.slice A n c, .int .i64 0] W fun e w' => e = .returned (.bool false) ∧ W = w' := fun W hW => (contains_any A n c xs 0 W B hW (by omega)).mono fun _ _ hh => by rw [hz'] at hh; exact hh
  have HF : Hid (cellsF xs = cellsGo xs 1) := by unfold Hid cellsF; rw [if_neg hor, if_neg (by rw [hz']; simp)]
  have HP : ∀ x ∈ xs, 1 ≤ x := pos_of_any HN.out hz'
  have HZ := Lib.hid hz'
  clear hz' hor
  go_enter Try.func51, Try.ntmps51
  go_wp2_with (first | (go_at_call 75; refine (HC _ h).mono ?_; rintro e w' ⟨rfl, rfl⟩) | (go_at_call 77; refine (HD _ h).mono ?_; rintro e w' ⟨rfl, rfl⟩))
  go_loop [4, 18] (fun m i => ∃ (k : Nat) (q : Int), k ≤ n ∧ 1 ≤ q ∧ q ≤ 4611686018427387903 ∧ i = .int .i64 k ∧ m = .int .i64 q ∧ Hid (cellsGo xs 1 = cellsGo (xs.drop k) q)) (fun _ i => n - (intOf i).toNat)
  case atStart => exact ⟨0, 1, Nat.zero_le _, by omega, by omega, rfl, rfl, rfl⟩
  case round =>
    obtain ⟨k, q, hk, hq1, hq2, rfl, rfl, HK⟩ := hrel
    by_cases hlt : k < n
    · obtain ⟨b, off, x, rfl, _, HX, hc, hx1, hx2⟩ := h.at_ hlt
      have hxp : 1 ≤ x := HP x (List.mem_of_getElem? HX.out)
      clear HC HD
      by_cases hb : 4611686018427387903 / q < x
      · have HE : Hid (cellsGo xs 1 = (0, 2)) := by unfold Hid; rw [HK.out, drop_of HX.out, cellsGo, if_pos hb]
        clear HK
        go_wp2
        go_ret2
        exact ⟨by rw [HF.out, HE.out]; rfl, rfl⟩
      · have HE : Hid (cellsGo xs 1 = cellsGo (xs.drop (k + 1)) (q * x)) := by unfold Hid; rw [HK.out, drop_of HX.out, cellsGo, if_neg hb]
        have hm := mul_bound hq1 hxp hb
        have hb' : x ≤ 4611686018427387903 / q := by omega
        clear HK hb
        go_wp2
        go_round
        case rel => exact ⟨k + 1, q * x, by omega, hm.1, hm.2, by go_num, rfl, HE⟩
        case measure => simp [intOf]; omega
    · have HE : Hid (cellsGo xs 1 = (q, 0)) := by unfold Hid; rw [HK.out, List.drop_of_length_le (by rw [HL.out]; omega)]; rfl
      go_wp2
      go_ret2
      exact ⟨by rw [HF.out, HE.out]; rfl, rfl⟩

set_option maxRecDepth 100000 in
theorem refCells_any (A : Option Addr) (n c : Nat) (xs : List Int) (w : World) (B : Nat) (h : Ints w B A n xs) (hn : n ≤ 9223372036854775807) :
    Calls Try.prog 53 #[.slice A n c] w fun e w' => e = .returned (.tuple #[.int .i64 (cellsF xs).1, .int .i64 (cellsF xs).2]) ∧ w = w' := by
  have HL : Hid (xs.length = n) := h.1
  by_cases h4 : 4 < n
  · go_enter Try.func53, Try.ntmps53
    go_wp2
    go_ret2
    exact ⟨by rw [cellsF, if_pos (.inl (by rw [HL.out]; omega))]; rfl, rfl⟩
  go_enter Try.func53, Try.ntmps53
  go_wp2
  go_loop [4, 15] (fun z i => ∃ (k : Nat) (bz : Bool), k ≤ n ∧ i = .int .i64 k ∧ z = .bool bz ∧ Hid ((xs.take k).any (fun s => decide (s < 0)) = false) ∧ Hid ((xs.take k).any (fun s => s == 0) = bz)) (fun _ i => n - (intOf i).toNat)
  case atStart => exact ⟨0, false, Nat.zero_le _, rfl, rfl, rfl, rfl⟩
  case round =>
    obtain ⟨k, bz, hk, rfl, rfl, HK, HZ⟩ := hrel
    by_cases hlt : k < n
    · obtain ⟨b, off, x, rfl, _, HX, hc, hx1, hx2⟩ := h.at_ hlt
      by_cases hneg : x < 0
      · go_wp2
        go_ret2
        exact ⟨by rw [cellsF, if_pos (.inr (any_hit HX.out (by simpa using hneg)))]; rfl, rfl⟩
      · have HN' : Hid ((xs.take (k + 1)).any (fun s => decide (s < 0)) = false) := any_miss HK.out HX.out (by simpa using hneg)
        have HZ' : Hid ((xs.take (k + 1)).any (fun s => s == 0) = (bz || (x == 0))) := by unfold Hid; rw [take_succ_of HX.out, List.any_append, HZ.out]; simp
        clear HK HZ
        cases bz
        · by_cases hx0 : x = 0
          · subst hx0
            go_wp2
            go_round
            case rel => exact ⟨k + 1, true, by omega, by go_num, rfl, HN', HZ'⟩
            case measure => simp [intOf]; omega
          · have hx0' : (x == 0) = false := by simpa using hx0
            have HZ2 : Hid ((xs.take (k + 1)).any (fun s => s == 0) = false) := by unfold Hid; rw [HZ'.out, hx0']; rfl
            clear hx0
            go_wp2
            go_round
            case rel => exact ⟨k + 1, false, by omega, by go_num, rfl, HN', HZ2⟩
            case measure => simp [intOf]; omega
        · go_wp2
          go_round
          case rel => exact ⟨k + 1, true, by omega, by go_num, rfl, HN', HZ'⟩
          case measure => simp [intOf]; omega
    · have HN : Hid (xs.any (fun s => decide (s < 0)) = false) := any_all HK.out HL.out (by omega)
      have HZ' : Hid (xs.any (fun s => s == 0) = bz) := by unfold Hid; rw [← HZ.out, List.take_of_length_le (by rw [HL.out]; omega)]
      have HO : Hid (¬ (4 < xs.length ∨ (xs.any fun s => decide (s < 0)) = true)) := by unfold Hid; rw [HN.out, HL.out]; simp; omega
      clear HK HZ
      cases bz
      · have HP : ∀ x ∈ xs, 1 ≤ x := pos_of_any HN.out HZ'.out
        have HF : Hid (cellsF xs = cellsGo xs 1) := by unfold Hid cellsF; rw [if_neg HO.out, if_neg (by rw [HZ'.out]; simp)]
        clear HO HZ' HN
        go_wp2
        clear hlt hk
        go_loop [7, 30] (fun m i => ∃ (k : Nat) (q : Int), k ≤ n ∧ 1 ≤ q ∧ q ≤ 4611686018427387903 ∧ i = .int .i64 k ∧ m = .int .i64 q ∧ Hid (cellsGo xs 1 = cellsGo (xs.drop k) q)) (fun _ i => n - (intOf i).toNat)
        case atStart => exact ⟨0, 1, Nat.zero_le _, by omega, by omega, rfl, rfl, rfl⟩
        case round =>
          obtain ⟨k, q, hk, hq1, hq2, rfl, rfl, HK⟩ := hrel
          by_cases hlt : k < n
          · obtain ⟨b, off, x, rfl, _, HX, hc, hx1, hx2⟩ := h.at_ hlt
            have hxp : 1 ≤ x := HP x (List.mem_of_getElem? HX.out)
            by_cases hb : 4611686018427387903 / q < x
            · have HE : Hid (cellsGo xs 1 = (0, 2)) := by unfold Hid; rw [HK.out, drop_of HX.out, cellsGo, if_pos hb]
              clear HK HP
              go_wp2
              go_ret2
              exact ⟨by rw [HF.out, HE.out]; rfl, rfl⟩
            · have HE : Hid (cellsGo xs 1 = cellsGo (xs.drop (k + 1)) (q * x)) := by unfold Hid; rw [HK.out, drop_of HX.out, cellsGo, if_neg hb]
              have hm := mul_bound hq1 hxp hb
              have hb' : x ≤ 4611686018427387903 / q := by omega
              clear HK hb HP
              go_wp2
              go_round
              case rel => exact ⟨k + 1, q * x, by omega, hm.1, hm.2, by go_num, rfl, HE⟩
              case measure => simp [intOf]; omega
          · have HE : Hid (cellsGo xs 1 = (q, 0)) := by unfold Hid; rw [HK.out, List.drop_of_length_le (by rw [HL.out]; omega)]; rfl
            clear HP
            go_wp2
            go_ret2
            exact ⟨by rw [HF.out, HE.out]; rfl, rfl⟩
      · have HF : Hid (cellsF xs = (0, 0)) := by unfold Hid cellsF; rw [if_neg HO.out, if_pos HZ'.out]
        go_wp2
        go_ret2
        exact ⟨by rw [HF.out]; rfl, rfl⟩
end Go.Proofs.Ytpfabbapfmfmmaa
/- The contract of box.fromBehind: whoever ranges over it is handed each mode, from the last one on, with the product of the sizes behind it. -/
namespace Go.Proofs.Ytpfabbapfmfmmaa
open Go.RowKit Go.Shelf
attribute [local go_sem] Oper.semAt_some

/-- the product of the last k sizes, as it goes around -/
def backs (xs : List Int) (k : Nat) : Int := (xs.drop (xs.length - k)).foldr (fun s acc => wrap64 (acc * s)) 1
theorem backs_zero (xs : List Int) : backs xs 0 = 1 := by simp [backs]
theorem backs_succ {xs : List Int} {k : Nat} {x : Int} (hk : k < xs.length) (h : xs[xs.length - 1 - k]? = some x) : backs xs (k + 1) = wrap64 (backs xs k * x) := by
  unfold backs
  have e : xs.length - (k + 1) = xs.length - 1 - k := by omega
  rw [e, drop_of h]
  have e2 : xs.length - 1 - k + 1 = xs.length - k := by omega
  rw [e2]
  rfl
/-- what has come when k rounds are over -/
def comes (xs : List Int) (k : Nat) : List (Int × Int) := (List.range k).map fun (j : Nat) => ((xs.length : Int) - 1 - j, backs xs j)
theorem comes_succ (xs : List Int) (k : Nat) : comes xs (k + 1) = comes xs k ++ [((xs.length : Int) - 1 - k, backs xs k)] := by simp [comes, List.range_succ]
theorem comes_length (xs : List Int) (k : Nat) : (comes xs k).length = k := by simp [comes]

/-- what a round keeps: all below n₀, and the block Bs -/
def KeepBox (Bs n₀ : Nat) (W W' : World) : Prop := Below n₀ W W' ∧ W'.heap[Bs]? = W.heap[Bs]?
theorem KeepBox.refl (Bs n₀ : Nat) (W : World) : KeepBox Bs n₀ W W := ⟨Below.refl _ _, rfl⟩
theorem KeepBox.trans {Bs n₀ : Nat} {A B C : World} (h : KeepBox Bs n₀ A B) (k : KeepBox Bs n₀ B C) : KeepBox Bs n₀ A C := ⟨h.1.trans k.1, k.2.trans h.2⟩
theorem KeepBox.box {Bs n₀ : Nat} {A B : World} (h : KeepBox Bs n₀ A B) : B.cell? ⟨Bs, 0, none⟩ = A.cell? ⟨Bs, 0, none⟩ := World.cell?_of_block (a := ⟨Bs, 0, none⟩) h.2
theorem KeepBox.of_setCell {Bs n₀ : Nat} {W : World} {p : Addr} (h1 : n₀ ≤ p.block) (h2 : Bs ≠ p.block) (u : Value) : KeepBox Bs n₀ W (W.setCell p u) := ⟨(Below.refl _ _).setCell h1 u, Below.heap_setCell W p u Bs h2⟩
theorem KeepBox.drew {Bs n₀ : Nat} {A B : World} (h : KeepBox Bs n₀ A B) : KeepBox Bs n₀ A B.drew := ⟨h.1.drew, h.2⟩

set_option maxRecDepth 100000 in
set_option maxHeartbeats 1000000 in
theorem fromBehind_in (n : Nat) (A : Option Addr) (r c : Nat) (w : World) :
    CallsIn Fence.wide n Try.prog 79 #[.slice A r c] w fun e w' => e = .returned (.func (.func 92) #[] #[.pointer (some ⟨w.heap.size, 0, none⟩)]) ∧ w' = w.alloc (.cells #[.slice A r c] 22) := by
  refine callsIn_of_wp Try.func79 rfl trivial ?_ rfl
  simp only [Try.ntmps79, List.size_toArray, List.length_cons, List.length_nil, Nat.reduceAdd, Nat.reduceSub, Array.replicate_succ, Array.replicate_zero, List.push_toArray, List.append_toArray, List.nil_append, List.cons_append]
  gi_wp2
  go_ret
  exact ⟨rfl, rfl⟩

set_option maxRecDepth 100000 in
set_option maxHeartbeats 2000000 in
theorem fromBehind1_in (n : Nat) (hn : 1 ≤ n) (p : Int × Int → Prop) (l Bs n₀ : Nat) (A : Option Addr) (r c : Nat) (xs : List Int) (hr : r ≤ 100000) (hp : ∀ k, k < r → p ((r : Int) - 1 - k, backs xs k)) (J Jx : List { x : Int × Int // p x } → World → Prop)
    (hY : ∀ pre x W, J pre W → pre.length < r → YieldAt Fence.wide (n - 1) Try.prog l #[.int .i64 x.1.1, .int .i64 x.1.2] W fun e W' =>
      (e = .returned (.bool true) ∧ J (pre ++ [x]) W' ∧ KeepBox Bs n₀ W W') ∨ (e = .returned (.bool false) ∧ Jx (pre ++ [x]) W'))
    (W : World) (hBs : W.cell? ⟨Bs, 0, none⟩ = some (.slice A r c)) (hI : Ints W n₀ A r xs) (h0 : J [] W) :
    CallsIn Fence.wide n Try.prog 92 #[.func (.yield l) #[] #[], .pointer (some ⟨Bs, 0, none⟩)] W fun e W' => (∃ v, e = .returned v) ∧
      ((∃ ys, ys.map (·.1) = comes xs r ∧ J ys W') ∨ (∃ pre, (∃ k, k ≤ r ∧ pre.map (·.1) = comes xs k) ∧ Jx pre W')) := by
  have HL : Hid (xs.length = r) := hI.1
  refine callsIn_of_wp Try.func92 rfl trivial ?_ rfl
  simp only [Try.ntmps92, List.size_toArray, List.length_cons, List.length_nil, Nat.reduceAdd, Nat.reduceSub, Array.replicate_succ, Array.replicate_zero, List.push_toArray, List.append_toArray, List.nil_append, List.cons_append]
  gi_wp2
  gi_loopw [3, 4] (fun s m wr => ∃ (k : Nat) (j q : Int) (ys : List { x : Int × Int // p x }), k ≤ r ∧ j = (r : Int) - 1 - k ∧ m = .int .i64 j ∧ s = .int .i64 q ∧ Hid (q = backs xs k) ∧ Hid (ys.map (·.1) = comes xs k) ∧ J ys wr ∧ KeepBox Bs n₀ W wr)
    (fun _ m _ => (intOf m + 1).toNat)
  case atStart => exact ⟨0, (r : Int) - 1, 1, [], Nat.zero_le _, by omega, rfl, rfl, (backs_zero xs).symm, (by unfold Hid; simp [comes]), h0, KeepBox.refl _ _ _⟩
  case round =>
    obtain ⟨k, j, q, ys, hk, hj, rfl, rfl, HQ, HY, hJs, hnx⟩ := hrel
    by_cases hlt : k < r
    · have hI' := hI.below hnx.1
      have hBs' := hnx.box.trans hBs
      obtain ⟨b, off, x, rfl, hb, HX, hc, hx1, hx2⟩ := hI'.at_ (k := r - 1 - k) (by omega)
      have hj0 : 0 ≤ j := by omega
      have hj1 : j < r := by omega
      have hpx : p (j, q) := by rw [hj, HQ.out]; exact hp k hlt
      obtain ⟨fn, tmps, assign, body, hy, hR⟩ := hY ys ⟨(j, q), hpx⟩ wr hJs (by have := congrArg List.length HY.out; simp [comes_length] at this; omega)
      dsimp only at hy hR
      have HJ := Lib.hid hj
      have HS : Hid ((ys ++ [(⟨(j, q), hpx⟩ : { x : Int × Int // p x })]).map (·.1) = comes xs (k + 1)) := by unfold Hid; rw [List.map_append, HY.out, comes_succ, HL.out, ← hj, ← HQ.out]; rfl
      clear hj
      gi_wp2
      refine hR.mono ?_
      rintro e W3 (⟨rfl, hJ3, hk3⟩ | ⟨rfl, hJx3⟩)
      · have hBs3 := hk3.box.trans hBs'
        have hc3 : W3.cell? ⟨b, off + j.toNat, none⟩ = some (.int .i64 x) := by
          have e : j.toNat = r - 1 - k := by have := HJ.out; omega
          rw [e]; exact (hk3.1.cell (p := ⟨b, off + (r - 1 - k), none⟩) hb).trans hc
        gi_wp2
        go_roundw
        case rel => exact ⟨k + 1, j - 1, wrap64 (q * x), ys ++ [⟨(j, q), hpx⟩], by omega, by have := HJ.out; omega, rfl, rfl, by unfold Hid; rw [HQ.out]; exact (backs_succ (by rw [HL.out]; omega) (by rw [HL.out]; exact HX.out)).symm, HS, hJ3, hnx.trans hk3⟩
        case measure => simp [intOf]; omega
      · gi_wp2
        refine bodyPost_ret (results_none rfl _ _ _) rfl ?_
        exact ⟨⟨_, rfl⟩, .inr ⟨_, ⟨k + 1, by omega, HS.out⟩, hJx3⟩⟩
    · obtain rfl : k = r := by omega
      have hj1 : j < 0 := by omega
      have HJ := Lib.hid hj
      clear hj
      gi_wp2
      go_end0
      exact ⟨⟨_, rfl⟩, .inl ⟨_, HY.out, hJs⟩⟩

theorem fromBehind_stops (n : Nat) (hn : 1 ≤ n) (p : Int × Int → Prop) (Bs n₀ : Nat) (A : Option Addr) (r c : Nat) (xs : List Int) (hr : r ≤ 100000) (hp : ∀ k, k < r → p ((r : Int) - 1 - k, backs xs k)) (w : World) (hBs : Bs < w.heap.size) (hn₀ : n₀ ≤ w.heap.size)
    (hc : w.cell? ⟨Bs, 0, none⟩ = some (.slice A r c)) (hI : Ints w n₀ A r xs) :
    SeqStopsK Fence.wide n Try.prog 92 #[.pointer (some ⟨Bs, 0, none⟩)] (fun x : { x : Int × Int // p x } => #[Value.int .i64 x.1.1, Value.int .i64 x.1.2]) (KeepBox Bs n₀) (fun ys => ys.map (·.1) = comes xs r) (fun pre => ∃ k, k ≤ r ∧ pre.map (·.1) = comes xs k) r w :=
  fun l J Jx W hW _ _ hY h0 => fromBehind1_in n hn p l Bs n₀ A r c xs hr hp J Jx hY W ((hW.cell (p := ⟨Bs, 0, none⟩) hBs).trans hc) (hI.below (hW.mono hn₀)) h0

theorem keepBox_b {Bs n₀ : Nat} {w : World} (h1 : n₀ ≤ w.heap.size) (h2 : Bs < w.heap.size) : ∀ (W : World) (l : Nat) (o o' : Obj), w.heap.size ≤ l → W.heap[l]? = some o → o.isCells = false → o.isWalk = false → KeepBox Bs n₀ W (W.putObj l o') :=
  fun W l o o' hl ho hcs hwk => ⟨belowK_b h1 W l o o' hl ho hcs hwk, (belowK_b (n₀ := Bs + 1) (by omega) W l o o' hl ho hcs hwk).block Bs (by omega)⟩

theorem boxCell {W : World} {B : Nat} {v : Value} {t : TypeId} (h : W.heap[B]? = some (.cells #[v] t (0, 0))) : W.cell? ⟨B, 0, none⟩ = some v ∧ W.frozen? ⟨B, 0, none⟩ = false := by
  constructor <;> simp [World.cell?, World.frozen?, h]
theorem newCell (W : World) (v : Value) (t : TypeId) : (W.alloc (.cells #[v] t)).cell? ⟨W.heap.size, 0, none⟩ = some v ∧ (W.alloc (.cells #[v] t)).frozen? ⟨W.heap.size, 0, none⟩ = false :=
  boxCell (heap_alloc_new W _)
theorem cellPast {W : World} {a : Addr} {v : Value} (o : Obj) (h : W.cell? a = some v) : (W.alloc o).cell? a = some v := cell_kept h (World.grownBy_alloc W o none) (fun r e => by cases e)
theorem frozenPast {W : World} {a : Addr} {v : Value} (o : Obj) (h : W.cell? a = some v) (hf : W.frozen? a = false) : (W.alloc o).frozen? a = false := (frozen_kept h (World.grownBy_alloc W o none) (fun r e => by cases e)).trans hf
end Go.Proofs.Ytpfabbapfmfmmaa
/- The contracts of box.inside and of the document's in and Equal: whether a list is a place in a shape; whether two lists are one. -/
namespace Go.Proofs.Ytpfabbapfmfmmaa
open Go.RowKit

def badAt (p : Int × Int) : Bool := decide (p.1 < 0) || decide (p.2 ≤ p.1)
def insideF (xs cs : List Int) : Bool := decide (cs.length = xs.length) && !((cs.zip xs).any badAt)
theorem zip_at {cs xs : List Int} {k : Nat} {c s : Int} (h1 : cs[k]? = some c) (h2 : xs[k]? = some s) : (cs.zip xs)[k]? = some (c, s) := by
  rw [List.getElem?_zip_eq_some]; exact ⟨h1, h2⟩

set_option maxRecDepth 100000 in
theorem inside_any (A A2 : Option Addr) (n n2 c c2 : Nat) (xs cs : List Int) (w : World) (B : Nat) (h : Ints w B A n xs) (h2 : Ints w B A2 n2 cs) (hn : n ≤ 100000) (hn2 : n2 ≤ 9223372036854775807) :
    Calls Try.prog 78 #[.slice A n c, .slice A2 n2 c2] w fun e w' => e = .returned (.bool (insideF xs cs)) ∧ w = w' := by
  have HL : Hid (xs.length = n) := h.1
  have HL2 : Hid (cs.length = n2) := h2.1
  by_cases hne : n2 = n
  · subst hne
    go_enter Try.func78, Try.ntmps78
    go_wp2
    go_loop [14] (fun i => ∃ k : Nat, k ≤ n2 ∧ i = .int .i64 k ∧ Hid (((cs.zip xs).take k).any badAt = false)) (fun i => n2 - (intOf i).toNat)
    case atStart => exact ⟨0, Nat.zero_le _, rfl, by unfold Hid; simp⟩
    case round =>
      obtain ⟨k, hk, rfl, HK⟩ := hrel
      by_cases hlt : k < n2
      · obtain ⟨b, off, x, rfl, _, HX, hc, hx1, hx2⟩ := h.at_ hlt
        obtain ⟨b2, off2, y, rfl, _, HY, hc2, hy1, hy2⟩ := h2.at_ hlt
        by_cases hneg : y < 0
        · have HF : Hid (insideF xs cs = false) := by unfold Hid insideF; rw [any_hit (zip_at HY.out HX.out) (by simp [badAt, hneg])]; simp
          go_wp2
          go_ret
          exact ⟨by rw [HF.out]; rfl, rfl⟩
        · by_cases hge : x ≤ y
          · have HF : Hid (insideF xs cs = false) := by unfold Hid insideF; rw [any_hit (zip_at HY.out HX.out) (by simp [badAt, hge])]; simp
            go_wp2
            go_ret
            exact ⟨by rw [HF.out]; rfl, rfl⟩
          · have HN : Hid (((cs.zip xs).take (k + 1)).any badAt = false) := any_miss HK.out (zip_at HY.out HX.out) (by simp [badAt]; omega)
            go_wp2
            go_round
            case rel => exact ⟨k + 1, by omega, by go_num, HN⟩
            case measure => simp [intOf]; omega
      · have HF : Hid (insideF xs cs = true) := by
          unfold Hid insideF; rw [any_all HK.out (n := n2) (by rw [List.length_zip, HL.out, HL2.out]; simp) (by omega), HL.out, HL2.out]; simp
        go_wp2
        go_ret
        exact ⟨by rw [HF.out]; rfl, rfl⟩
  · have HF : Hid (insideF xs cs = false) := by unfold Hid insideF; rw [HL.out, HL2.out]; simp [hne]
    have hne1 : ((n2 : Int) == (n : Int)) = false := by simp; omega
    have hne2 : ((n2 : Int) != (n : Int)) = true := by simp; omega
    go_enter Try.func78, Try.ntmps78
    go_wp2
    go_ret
    exact ⟨by rw [HF.out]; rfl, rfl⟩

set_option maxRecDepth 100000 in
theorem refIn_any (A A2 : Option Addr) (n n2 c c2 : Nat) (xs cs : List Int) (w : World) (B : Nat) (h : Ints w B A n xs) (h2 : Ints w B A2 n2 cs) (hn : n ≤ 100000) (hn2 : n2 ≤ 9223372036854775807) :
    Calls Try.prog 80 #[.slice A n c, .slice A2 n2 c2] w fun e w' => e = .returned (.bool (insideF xs cs)) ∧ ∃ m, w' = w.drewN m := by
  have HL : Hid (xs.length = n) := h.1
  have HL2 : Hid (cs.length = n2) := h2.1
  by_cases hne : n2 = n
  · subst hne
    go_enter Try.func80, Try.ntmps80
    go_wp2
    go_loopw [13] (fun i wr => ∃ (k m : Nat), k ≤ n2 ∧ i = .int .i64 k ∧ wr = w.drewN m ∧ Hid (((cs.zip xs).take k).any badAt = false)) (fun i _ => n2 - (intOf i).toNat)
    case atStart => exact ⟨0, 0, Nat.zero_le _, rfl, rfl, by unfold Hid; simp⟩
    case round =>
      obtain ⟨k, m, hk, rfl, rfl, HK⟩ := hrel
      by_cases hlt : k < n2
      · obtain ⟨b, off, x, rfl, _, HX, hc, hx1, hx2⟩ := h.at_ hlt
        obtain ⟨b2, off2, y, rfl, _, HY, hc2, hy1, hy2⟩ := h2.at_ hlt
        have hk0 : (0 : Int) ≤ k := by omega
        have hk1 : (k : Int) < n2 := by omega
        by_cases hneg : y < 0
        · have HF : Hid (insideF xs cs = false) := by unfold Hid insideF; rw [any_hit (zip_at HY.out HX.out) (by simp [badAt, hneg])]; simp
          have hd : decide (y < 0) = true := by simpa using hneg
          go_wp2
          go_quiet (fail)
          go_wp2
          go_ret
          exact ⟨by rw [HF.out]; rfl, _, World.drewN_drewN _ _ _⟩
        · have hd : decide (y < 0) = false := by simpa using hneg
          by_cases hge : x ≤ y
          · have HF : Hid (insideF xs cs = false) := by unfold Hid insideF; rw [any_hit (zip_at HY.out HX.out) (by simp [badAt, hge])]; simp
            go_wp2
            go_quiet (fail)
            go_wp2
            go_ret
            exact ⟨by rw [HF.out]; rfl, _, World.drewN_drewN _ _ _⟩
          · have HN : Hid (((cs.zip xs).take (k + 1)).any badAt = false) := any_miss HK.out (zip_at HY.out HX.out) (by simp [badAt]; omega)
            go_wp2
            go_quiet (fail)
            go_wp2
            go_roundw
            case rel => exact ⟨k + 1, _, by omega, by go_num, rfl, HN⟩
            case measure => simp [intOf]; omega
      · have HF : Hid (insideF xs cs = true) := by
          unfold Hid insideF; rw [any_all HK.out (n := n2) (by rw [List.length_zip, HL.out, HL2.out]; simp) (by omega), HL.out, HL2.out]; simp
        go_wp2
        go_ret
        exact ⟨by rw [HF.out]; rfl, _, rfl⟩
  · have HF : Hid (insideF xs cs = false) := by unfold Hid insideF; rw [HL.out, HL2.out]; simp [hne]
    have hne1 : ((n2 : Int) == (n : Int)) = false := by simp; omega
    have hne2 : ((n2 : Int) != (n : Int)) = true := by simp; omega
    go_enter Try.func80, Try.ntmps80
    go_wp2
    go_ret
    exact ⟨by rw [HF.out]; rfl, 0, rfl⟩

set_option maxRecDepth 100000 in
/-- the document's Equal -/
theorem refEqual_any (A A2 : Option Addr) (n n2 c c2 : Nat) (xs ys : List Int) (w : World) (B : Nat) (h : Ints w B A n xs) (h2 : Ints w B A2 n2 ys) (hn : n ≤ 100000) (hn2 : n2 ≤ 9223372036854775807) :
    Calls Try.prog 36 #[.slice A n c, .slice A2 n2 c2] w fun e w' => e = .returned (.bool (decide (xs = ys))) ∧ ∃ m, w' = w.drewN m := by
  have HL : Hid (xs.length = n) := h.1
  have HL2 : Hid (ys.length = n2) := h2.1
  by_cases hne : n = n2
  · subst hne
    go_enter Try.func36, Try.ntmps36
    go_wp2
    go_loopw [13] (fun i wr => ∃ (k m : Nat), k ≤ n ∧ i = .int .i64 k ∧ wr = w.drewN m ∧ Hid (xs.take k = ys.take k)) (fun i _ => n - (intOf i).toNat)
    case atStart => exact ⟨0, 0, Nat.zero_le _, rfl, rfl, by unfold Hid; simp⟩
    case round =>
      obtain ⟨k, m, hk, rfl, rfl, HK⟩ := hrel
      by_cases hlt : k < n
      · obtain ⟨b, off, x, rfl, _, HX, hc, hx1, hx2⟩ := h.at_ hlt
        obtain ⟨b2, off2, y, rfl, _, HY, hc2, hy1, hy2⟩ := h2.at_ hlt
        have hk0 : (0 : Int) ≤ k := by omega
        have hk1 : (k : Int) < n := by omega
        by_cases hxy : x = y
        · have HN : Hid (xs.take (k + 1) = ys.take (k + 1)) := by unfold Hid; rw [take_succ_of HX.out, take_succ_of HY.out, HK.out, hxy]
          have e1 : (x == y) = true := by simpa using hxy
          have e2 : (x != y) = false := by simpa using hxy
          clear hxy
          go_wp2
          go_quiet (fail)
          go_wp2
          go_roundw
          case rel => exact ⟨k + 1, _, by omega, by go_num, rfl, HN⟩
          case measure => simp [intOf]; omega
        · have HF : Hid (decide (xs = ys) = false) := by
            unfold Hid; rw [decide_eq_false]; intro e; subst e
            have := HX.out; rw [HY.out] at this; exact hxy (by injection this with this; exact this.symm)
          have e1 : (x == y) = false := by simpa using hxy
          have e2 : (x != y) = true := by simpa using hxy
          go_wp2
          go_quiet (fail)
          go_wp2
          go_ret
          exact ⟨by rw [HF.out]; rfl, _, World.drewN_drewN _ _ _⟩
      · have HF : Hid (decide (xs = ys) = true) := by
          unfold Hid; rw [decide_eq_true]; have := HK.out
          rwa [List.take_of_length_le (by rw [HL.out]; omega), List.take_of_length_le (by rw [HL2.out]; omega)] at this
        go_wp2
        go_ret
        exact ⟨by rw [HF.out]; rfl, _, rfl⟩
  · have HF : Hid (decide (xs = ys) = false) := by unfold Hid; rw [decide_eq_false]; intro e; subst e; exact hne (by rw [← HL.out, ← HL2.out])
    have hne1 : ((n : Int) == (n2 : Int)) = false := by simp; omega
    have hne2 : ((n : Int) != (n2 : Int)) = true := by simp; omega
    go_enter Try.func36, Try.ntmps36
    go_wp2
    go_ret
    exact ⟨by rw [HF.out]; rfl, 0, rfl⟩
end Go.Proofs.Ytpfabbapfmfmmaa
/- Plain arithmetic on lists: products, the number of a place, the place of a number. No program. -/
namespace Go.Proofs.Ytpfabbapfmfmmaa
open Go.RowKit

theorem wrap_eq (n : Int) : IntKind.i64.wrap n = wrap64 n := by unfold wrap64; exact IntKind.wrap_i64 n
def prodI : List Int → Int
  | [] => 1
  | s :: l => s * prodI l
/-- the number of the place cs in the shape xs -/
def numR : List Int → List Int → Int
  | _ :: l, c :: d => c * prodI l + numR l d
  | _, _ => 0
/-- the same, as the document says it, from the first mode on -/
def hor : List Int → List Int → Int → Int
  | s :: l, c :: d, a => hor l d (a * s + c)
  | _, _, a => a
/-- the place of the number n -/
def placeR : List Int → Int → List Int
  | [], _ => []
  | s :: l, n => (n / prodI l % s) :: placeR l n
/-- cs is a place in xs -/
def Inn : List Int → List Int → Prop
  | [], [] => True
  | s :: l, c :: d => 0 ≤ c ∧ c < s ∧ Inn l d
  | _, _ => False

theorem prodI_append (a b : List Int) : prodI (a ++ b) = prodI a * prodI b := by
  induction a with
  | nil => simp [prodI]
  | cons x a ih => simp [prodI, ih, Int.mul_assoc]
theorem prodI_pos {xs : List Int} (h : ∀ x ∈ xs, 1 ≤ x) : 1 ≤ prodI xs := by
  induction xs with
  | nil => simp [prodI]
  | cons x a ih =>
    have h1 := h x (by simp)
    have h2 := ih (fun y hy => h y (by simp [hy]))
    have := Int.mul_le_mul h1 h2 (by omega) (by omega)
    simpa [prodI] using this
theorem hor_eq {xs cs : List Int} (h : xs.length = cs.length) (a : Int) : hor xs cs a = a * prodI xs + numR xs cs := by
  induction xs generalizing cs a with
  | nil => cases cs <;> simp [hor, numR, prodI]
  | cons s l ih =>
    cases cs with
    | nil => simp at h
    | cons c d =>
      simp only [hor, numR, prodI]
      rw [ih (by simpa using h), Int.add_mul]
      rw [Int.mul_assoc]; omega
theorem hor_snoc {l d : List Int} (h : l.length = d.length) (s c a : Int) : hor (l ++ [s]) (d ++ [c]) a = hor l d a * s + c := by
  induction l generalizing d a with
  | nil => cases d with
    | nil => simp [hor]
    | cons _ _ => simp at h
  | cons x l ih => cases d with
    | nil => simp at h
    | cons y d => simp only [List.cons_append, hor]; exact ih (by simpa using h) _
theorem Inn.len {xs cs : List Int} (h : Inn xs cs) : xs.length = cs.length := by
  induction xs generalizing cs with
  | nil => cases cs with
    | nil => rfl
    | cons _ _ => exact h.elim
  | cons s l ih => cases cs with
    | nil => exact h.elim
    | cons c d => simp [ih h.2.2]
theorem Inn.pos {xs cs : List Int} (h : Inn xs cs) : ∀ x ∈ xs, 1 ≤ x := by
  induction xs generalizing cs with
  | nil => simp
  | cons s l ih => cases cs with
    | nil => exact h.elim
    | cons c d =>
      intro x hx
      simp at hx
      rcases hx with rfl | hx
      · have := h.1; have := h.2.1; omega
      · exact ih h.2.2 x hx
theorem step_bound {q P x y : Int} (h1 : 0 ≤ q) (h2 : q < P) (h3 : 0 ≤ y) (h4 : y < x) : 0 ≤ q * x ∧ 0 ≤ q * x + y ∧ q * x + y < P * x := by
  have a : q * x ≤ (P - 1) * x := Int.mul_le_mul_of_nonneg_right (by omega) (by omega)
  rw [Int.sub_mul] at a
  have b : 0 ≤ q * x := Int.mul_nonneg h1 (by omega)
  omega
theorem Inn.bound {xs cs : List Int} (h : Inn xs cs) : 0 ≤ numR xs cs ∧ numR xs cs < prodI xs := by
  induction xs generalizing cs with
  | nil => cases cs with
    | nil => simp [numR, prodI]
    | cons _ _ => exact h.elim
  | cons s l ih => cases cs with
    | nil => exact h.elim
    | cons c d =>
      simp only [numR, prodI]
      have hb := ih h.2.2
      have := step_bound (q := c) (P := s) (x := prodI l) (y := numR l d) h.1 h.2.1 hb.1 hb.2
      omega
theorem Inn.drop_ {xs cs : List Int} (h : Inn xs cs) (k : Nat) : Inn (xs.drop k) (cs.drop k) := by
  induction k generalizing xs cs with
  | zero => simpa using h
  | succ k ih =>
    cases xs with
    | nil => cases cs with
      | nil => simpa using h
      | cons _ _ => exact h.elim
    | cons s l => cases cs with
      | nil => exact h.elim
      | cons c d => simpa using ih h.2.2
theorem Inn.at_ {xs cs : List Int} (h : Inn xs cs) {k : Nat} {x y : Int} (hx : xs[k]? = some x) (hy : cs[k]? = some y) : 0 ≤ y ∧ y < x := by
  induction xs generalizing cs k with
  | nil => simp at hx
  | cons s l ih => cases cs with
    | nil => exact h.elim
    | cons c d =>
      cases k with
      | zero => simp at hx hy; subst hx; subst hy; exact ⟨h.1, h.2.1⟩
      | succ k => exact ih h.2.2 (by simpa using hx) (by simpa using hy)
theorem numR_drop {xs cs : List Int} {k : Nat} {x y : Int} (hx : xs[k]? = some x) (hy : cs[k]? = some y) :
    numR (xs.drop k) (cs.drop k) = y * prodI (xs.drop (k + 1)) + numR (xs.drop (k + 1)) (cs.drop (k + 1)) := by
  rw [drop_of hx, drop_of hy]; rfl
theorem prodI_drop {xs : List Int} {k : Nat} {x : Int} (hx : xs[k]? = some x) : prodI (xs.drop k) = x * prodI (xs.drop (k + 1)) := by
  rw [drop_of hx]; rfl
theorem prodI_split (xs : List Int) (k : Nat) : prodI xs = prodI (xs.take k) * prodI (xs.drop k) := by
  rw [← prodI_append, List.take_append_drop]
theorem prodI_drop_le {xs : List Int} (h : ∀ x ∈ xs, 1 ≤ x) (k : Nat) : prodI (xs.drop k) ≤ prodI xs := by
  rw [prodI_split xs k]
  have h1 := prodI_pos (xs := xs.take k) (fun x hx => h x (List.mem_of_mem_take hx))
  have h2 := prodI_pos (xs := xs.drop k) (fun x hx => h x (List.mem_of_mem_drop hx))
  have := Int.mul_le_mul_of_nonneg_right h1 (by omega : 0 ≤ prodI (xs.drop k))
  omega
theorem prodI_take_le {xs : List Int} (h : ∀ x ∈ xs, 1 ≤ x) (k : Nat) : prodI (xs.take k) ≤ prodI xs := by
  rw [prodI_split xs k]
  have h1 := prodI_pos (xs := xs.take k) (fun x hx => h x (List.mem_of_mem_take hx))
  have h2 := prodI_pos (xs := xs.drop k) (fun x hx => h x (List.mem_of_mem_drop hx))
  have := Int.mul_le_mul_of_nonneg_left h2 (by omega : 0 ≤ prodI (xs.take k))
  omega
theorem cellsGo_prod {xs : List Int} (h : ∀ x ∈ xs, 1 ≤ x) {q : Int} (hq : 1 ≤ q) (hq2 : q ≤ 4611686018427387903) : (prodI xs * q ≤ 4611686018427387903 → cellsGo xs q = (q * prodI xs, 0)) ∧ (4611686018427387903 < prodI xs * q → cellsGo xs q = (0, 2)) := by
  induction xs generalizing q with
  | nil => constructor <;> simp [prodI, cellsGo] <;> omega
  | cons s l ih =>
    have hs := h s (by simp)
    have hl : ∀ x ∈ l, 1 ≤ x := fun x hx => h x (by simp [hx])
    have hp := prodI_pos hl
    have hc : s * prodI l * q = prodI l * (q * s) := by rw [Int.mul_comm s, Int.mul_assoc, Int.mul_comm s q]
    simp only [cellsGo, prodI]
    by_cases hb : 4611686018427387903 / q < s
    · rw [if_pos hb]
      have : 4611686018427387903 < q * s := by
        have := (Int.ediv_lt_iff_lt_mul (by omega : 0 < q)).1 hb; rwa [Int.mul_comm] at this
      have h3 : q * s * 1 ≤ q * s * prodI l := Int.mul_le_mul_of_nonneg_left hp (by omega)
      have h4 : s * prodI l * q = q * s * prodI l := by rw [hc, Int.mul_comm]
      refine ⟨fun hh => ?_, fun _ => rfl⟩
      exfalso; rw [h4] at hh; omega
    · rw [if_neg hb]
      have hm := mul_bound hq hs hb
      have := ih hl hm.1 hm.2
      rw [hc]
      refine ⟨fun hh => ?_, this.2⟩
      rw [this.1 hh, Int.mul_assoc]
theorem cellsF_pos {xs : List Int} (h : ∀ x ∈ xs, 1 ≤ x) (h4 : xs.length ≤ 4) : cellsF xs = if prodI xs ≤ 4611686018427387903 then (prodI xs, 0) else (0, 2) := by
  have h1 : (xs.any fun s => decide (s < 0)) = false := by
    rw [List.any_eq_false]; intro x hx; have := h x hx; simp; omega
  have h2 : (xs.any fun s => s == 0) = false := by
    rw [List.any_eq_false]; intro x hx; have := h x hx; simp; omega
  have := cellsGo_prod h (q := 1) (by omega) (by omega)
  unfold cellsF
  rw [if_neg (by rw [h1]; simp; omega), if_neg (by rw [h2]; simp)]
  rw [Int.mul_one, Int.one_mul] at this
  split
  · exact this.1 (by assumption)
  · exact this.2 (by omega)
/-- no error: at most four modes, none below 0 -/
theorem cellsF_ok {xs : List Int} (h : (cellsF xs).2 = 0) : xs.length ≤ 4 ∧ (∀ x ∈ xs, 0 ≤ x) := by
  unfold cellsF at h
  split at h
  · simp at h
  · rename_i hh
    rw [not_or] at hh
    refine ⟨by omega, fun x hx => ?_⟩
    have := hh.2
    simp at this
    exact this x hx
theorem cellsF_ok_pos {xs : List Int} (h : (cellsF xs).2 = 0) (hp : ∀ x ∈ xs, 1 ≤ x) : (cellsF xs).1 = prodI xs ∧ prodI xs ≤ 4611686018427387903 := by
  have h4 := (cellsF_ok h).1
  rw [cellsF_pos hp h4] at h ⊢
  split at h
  · rename_i hh; rw [if_pos hh]; exact ⟨rfl, hh⟩
  · simp at h

/-- what box.At has summed when the pairs pre have come -/
def atSum (cs : List Int) (pre : List (Int × Int)) : Int := pre.foldl (fun a x => wrap64 (a + wrap64 ((cs[x.1.toNat]?.getD 0) * x.2))) 0
theorem atSum_snoc (cs : List Int) (pre : List (Int × Int)) (x : Int × Int) : atSum cs (pre ++ [x]) = wrap64 (atSum cs pre + wrap64 ((cs[x.1.toNat]?.getD 0) * x.2)) := by simp [atSum]
theorem inn_of_insideF {xs cs : List Int} (h : insideF xs cs = true) : Inn xs cs := by
  induction xs generalizing cs with
  | nil => cases cs with
    | nil => trivial
    | cons _ _ => simp [insideF] at h
  | cons s l ih => cases cs with
    | nil => simp [insideF] at h
    | cons c d =>
      simp [insideF, badAt] at h
      refine ⟨by omega, by omega, ih ?_⟩
      simp [insideF, badAt]
      exact ⟨h.1, h.2.2⟩
theorem backs_eq {xs : List Int} (hp : ∀ x ∈ xs, 1 ≤ x) (hM : prodI xs ≤ 4611686018427387903) (k : Nat) (hk : k ≤ xs.length) : backs xs k = prodI (xs.drop (xs.length - k)) := by
  induction k with
  | zero => rw [backs_zero]; simp [prodI]
  | succ k ih =>
    have hx : xs[xs.length - 1 - k]? = some (xs[xs.length - 1 - k]'(by omega)) := List.getElem?_eq_getElem (by omega)
    rw [backs_succ (by omega) hx, ih (by omega)]
    have e1 : xs.length - (k + 1) = xs.length - 1 - k := by omega
    have e2 : xs.length - 1 - k + 1 = xs.length - k := by omega
    rw [e1, prodI_drop hx, e2, Int.mul_comm]
    have h1 := prodI_drop_le hp (xs.length - 1 - k)
    rw [prodI_drop hx, e2] at h1
    have h2 := prodI_pos (xs := xs.drop (xs.length - 1 - k)) (fun x hx => hp x (List.mem_of_mem_drop hx))
    rw [prodI_drop hx, e2] at h2
    exact IntWalk.wrap64_in _ ⟨by omega, by omega⟩
theorem backs_pos {xs : List Int} (hp : ∀ x ∈ xs, 1 ≤ x) (hM : prodI xs ≤ 4611686018427387903) (k : Nat) (hk : k ≤ xs.length) : 1 ≤ backs xs k ∧ backs xs k ≤ 4611686018427387903 := by
  rw [backs_eq hp hM k hk]
  have h1 := prodI_drop_le hp (xs.length - k)
  have h2 := prodI_pos (xs := xs.drop (xs.length - k)) (fun x hx => hp x (List.mem_of_mem_drop hx))
  omega
theorem atSum_comes {xs cs : List Int} (h : Inn xs cs) (hM : prodI xs ≤ 4611686018427387903) (k : Nat) (hk : k ≤ xs.length) : atSum cs (comes xs k) = numR (xs.drop (xs.length - k)) (cs.drop (xs.length - k)) := by
  induction k with
  | zero =>
    have e : cs.drop (xs.length - 0) = [] := List.drop_of_length_le (by have := h.len; omega)
    have e' : xs.drop (xs.length - 0) = [] := List.drop_of_length_le (by omega)
    rw [e, e']; simp [atSum, comes, numR]
  | succ k ih =>
    have hl := h.len
    have hx : xs[xs.length - 1 - k]? = some (xs[xs.length - 1 - k]'(by omega)) := List.getElem?_eq_getElem (by omega)
    have hy : cs[xs.length - 1 - k]? = some (cs[xs.length - 1 - k]'(by omega)) := List.getElem?_eq_getElem (by omega)
    have hb := (h.drop_ (xs.length - 1 - k)).bound
    have hb2 := (h.drop_ (xs.length - k)).bound
    have hi := h.at_ hx hy
    have h1 := prodI_drop_le h.pos (xs.length - 1 - k)
    have e1 : xs.length - (k + 1) = xs.length - 1 - k := by omega
    have e2 : xs.length - 1 - k + 1 = xs.length - k := by omega
    have e3 : ((xs.length : Int) - 1 - k).toNat = xs.length - 1 - k := by omega
    rw [comes_succ, atSum_snoc, ih (by omega), backs_eq h.pos hM k (by omega)]
    simp only [e3, hy, Option.getD_some]
    rw [e1]
    rw [numR_drop hx hy, e2] at hb ⊢
    have hz : 0 ≤ cs[xs.length - 1 - k]'(by omega) * prodI (xs.drop (xs.length - k)) := Int.mul_nonneg hi.1 (by omega)
    rw [IntWalk.wrap64_in (_ * _) ⟨by omega, by omega⟩, IntWalk.wrap64_in _ ⟨by omega, by omega⟩]
    omega
end Go.Proofs.Ytpfabbapfmfmmaa
