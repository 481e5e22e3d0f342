/- The contracts of box.inside and of the document's in and Equal: whether a list is a place in a shape; whether two lists are one. -/
import Derived.Test.YtgkngimeokhhgaaGreatDoorProg
import Derived.Test.YtgkngimeokhhgaaGreatDoorG1
import Derived.BigQuiet
import Derived.Deep.QuietTactic
import Derived.RangeFuncNested
import Derived.RangeFuncBound
import Derived.RangeFuncCalls
import Derived.RangeFuncLeaves
import Derived.Shelf.Abstract
import Derived.Shelf.RegionOpen
import Derived.WalkKit
import Derived.OwnWalkIn
import Derived.TacticsInMore
import Derived.LoopNIn
import Derived.LoopIn
import Derived.Deep.RegionWith
import Derived.WalkSpells
import Derived.StillTail
import Derived.StillTactics
import Derived.TacticsIn
import Derived.Lib.QuietBelow
import Derived.Laws.AppendOwnNone
import Derived.Deep.RegionLaw
import Derived.Deep.DeepCutAuto
import Derived.StillTailTactics
import Derived.Deep.RegionHeld3
import Derived.Lib.Walk
import Derived.Lib.SliceRun
import Derived.Lib.AppendZerosOnto
import Derived.RegionTactic
import Derived.Below
namespace Go.Proofs.YtgkngimeokhhgaaGreatDoor
open Go.RowKit

set_option maxRecDepth 100000 in
/-- the document's Equal -/
theorem refEqual_any (A A2 : Option Addr) (n n2 c c2 : Nat) (xs ys : List Int) (w : World) (B : Nat) (h : Ints w B A n xs) (h2 : Ints w B A2 n2 ys) (hn : n ≤ 100000) (hn2 : n2 ≤ 9223372036854775807) :
    Calls Tryz.prog 13 #[.slice A n c, .slice A2 n2 c2] w fun e w' => e = .returned (.bool (decide (xs = ys))) ∧ ∃ m, w' = w.drewN m := by
  have HL : Hid (xs.length = n) := h.1
  have HL2 : Hid (ys.length = n2) := h2.1
  by_cases hne : n = n2
  · subst hne
    go_enter Tryz.func13, Tryz.ntmps13
    go_wp2
    go_loopw [13] (fun i wr => ∃ (k m : Nat), k ≤ n ∧ i = .int .i64 k ∧ wr = w.drewN m ∧ Hid (xs.take k = ys.take k)) (fun i _ => n - (intOf i).toNat)
    case atStart => exact ⟨0, 0, Nat.zero_le _, rfl, rfl, by unfold Hid; simp⟩
    case round =>
      obtain ⟨k, m, hk, rfl, rfl, HK⟩ := hrel
      by_cases hlt : k < n
      · obtain ⟨b, off, x, rfl, _, HX, hc, hx1, hx2⟩ := h.at_ hlt
        obtain ⟨b2, off2, y, rfl, _, HY, hc2, hy1, hy2⟩ := h2.at_ hlt
        have hk0 : (0 : Int) ≤ k := by omega
        have hk1 : (k : Int) < n := by omega
        by_cases hxy : x = y
        · have HN : Hid (xs.take (k + 1) = ys.take (k + 1)) := by unfold Hid; rw [take_succ_of HX.out, take_succ_of HY.out, HK.out, hxy]
          have e1 : (x == y) = true := by simpa using hxy
          have e2 : (x != y) = false := by simpa using hxy
          clear hxy
          go_wp2
          go_quiet (fail)
          go_wp2
          go_roundw
          case rel => exact ⟨k + 1, _, by omega, by go_num, rfl, HN⟩
          case measure => simp [intOf]; omega
        · have HF : Hid (decide (xs = ys) = false) := by
            unfold Hid; rw [decide_eq_false]; intro e; subst e
            have := HX.out; rw [HY.out] at this; exact hxy (by injection this with this; exact this.symm)
          have e1 : (x == y) = false := by simpa using hxy
          have e2 : (x != y) = true := by simpa using hxy
          go_wp2
          go_quiet (fail)
          go_wp2
          go_ret
          exact ⟨by rw [HF.out]; rfl, _, World.drewN_drewN _ _ _⟩
      · have HF : Hid (decide (xs = ys) = true) := by
          unfold Hid; rw [decide_eq_true]; have := HK.out
          rwa [List.take_of_length_le (by rw [HL.out]; omega), List.take_of_length_le (by rw [HL2.out]; omega)] at this
        go_wp2
        go_ret
        exact ⟨by rw [HF.out]; rfl, _, rfl⟩
  · have HF : Hid (decide (xs = ys) = false) := by unfold Hid; rw [decide_eq_false]; intro e; subst e; exact hne (by rw [← HL.out, ← HL2.out])
    have hne1 : ((n : Int) == (n2 : Int)) = false := by simp; omega
    have hne2 : ((n : Int) != (n2 : Int)) = true := by simp; omega
    go_enter Tryz.func13, Tryz.ntmps13
    go_wp2
    go_ret
    exact ⟨by rw [HF.out]; rfl, 0, rfl⟩
end Go.Proofs.YtgkngimeokhhgaaGreatDoor
/- The contract of box.fromBehind: whoever ranges over it is handed each mode, from the last one on, with the product of the sizes behind it. -/
namespace Go.Proofs.YtgkngimeokhhgaaGreatDoor
open Go.RowKit Go.Shelf
attribute [local go_sem] Oper.semAt_some

/-- what a round keeps: all below n₀, and the block Bs -/
def KeepBox (Bs n₀ : Nat) (W W' : World) : Prop := Below n₀ W W' ∧ W'.heap[Bs]? = W.heap[Bs]?
theorem KeepBox.refl (Bs n₀ : Nat) (W : World) : KeepBox Bs n₀ W W := ⟨Below.refl _ _, rfl⟩
theorem KeepBox.trans {Bs n₀ : Nat} {A B C : World} (h : KeepBox Bs n₀ A B) (k : KeepBox Bs n₀ B C) : KeepBox Bs n₀ A C := ⟨h.1.trans k.1, k.2.trans h.2⟩
theorem KeepBox.box {Bs n₀ : Nat} {A B : World} (h : KeepBox Bs n₀ A B) : B.cell? ⟨Bs, 0, none⟩ = A.cell? ⟨Bs, 0, none⟩ := World.cell?_of_block (a := ⟨Bs, 0, none⟩) h.2
theorem KeepBox.drew {Bs n₀ : Nat} {A B : World} (h : KeepBox Bs n₀ A B) : KeepBox Bs n₀ A B.drew := ⟨h.1.drew, h.2⟩

end Go.Proofs.YtgkngimeokhhgaaGreatDoor
/- Plain arithmetic on lists: products, the number of a place, the place of a number. No program. -/
namespace Go.Proofs.YtgkngimeokhhgaaGreatDoor
open Go.RowKit

theorem wrap_eq (n : Int) : IntKind.i64.wrap n = wrap64 n := by unfold wrap64; exact IntKind.wrap_i64 n
/-- cs is a place in xs -/
def Inn : List Int → List Int → Prop
  | [], [] => True
  | s :: l, c :: d => 0 ≤ c ∧ c < s ∧ Inn l d
  | _, _ => False

theorem Inn.len {xs cs : List Int} (h : Inn xs cs) : xs.length = cs.length := by
  induction xs generalizing cs with
  | nil => cases cs with
    | nil => rfl
    | cons _ _ => exact h.elim
  | cons s l ih => cases cs with
    | nil => exact h.elim
    | cons c d => simp [ih h.2.2]
theorem Inn.pos {xs cs : List Int} (h : Inn xs cs) : ∀ x ∈ xs, 1 ≤ x := by
  induction xs generalizing cs with
  | nil => simp
  | cons s l ih => cases cs with
    | nil => exact h.elim
    | cons c d =>
      intro x hx
      simp at hx
      rcases hx with rfl | hx
      · have := h.1; have := h.2.1; omega
      · exact ih h.2.2 x hx
theorem Inn.at_ {xs cs : List Int} (h : Inn xs cs) {k : Nat} {x y : Int} (hx : xs[k]? = some x) (hy : cs[k]? = some y) : 0 ≤ y ∧ y < x := by
  induction xs generalizing cs k with
  | nil => simp at hx
  | cons s l ih => cases cs with
    | nil => exact h.elim
    | cons c d =>
      cases k with
      | zero => simp at hx hy; subst hx; subst hy; exact ⟨h.1, h.2.1⟩
      | succ k => exact ih h.2.2 (by simpa using hx) (by simpa using hy)
end Go.Proofs.YtgkngimeokhhgaaGreatDoor
/- More plain arithmetic: the place of a number; slices of a call's own. -/
namespace Go.Proofs.YtgkngimeokhhgaaGreatDoor
open Go.RowKit

/-- a slice of the call's own, of 64-bit integers of type e -/
def OwnI (w : World) (base : Nat) (e : TypeId) (A : Option Addr) (c : Nat) (xs : List Int) : Prop :=
  w.ownsRow base e 1 (.slice A xs.length c) xs.length (xs.map (Value.int .i64)) ∧ ∀ x ∈ xs, -9223372036854775808 ≤ x ∧ x ≤ 9223372036854775807
theorem OwnI.ints {w : World} {base : Nat} {e : TypeId} {A : Option Addr} {c : Nat} {xs : List Int} (h : OwnI w base e A c xs) : Ints w w.heap.size A xs.length xs := Ints.of_own h.1 h.2
theorem OwnI.nil_ (w : World) (base : Nat) (e : TypeId) : OwnI w base e none 0 [] := ⟨w.ownsRow_nil base e 1, by simp⟩
theorem OwnI.below {w w' : World} {base B : Nat} {e : TypeId} {A : Option Addr} {c : Nat} {xs : List Int} (h : OwnI w base e A c xs) (hb : Below B w w') (hB : w.heap.size ≤ B) : OwnI w' base e A c xs :=
  ⟨h.1.kept ⟨hb.os, hb.tape, hb.output, hb.size, fun i hi _ => hb.block i (by omega)⟩ (row := none) (by cases hh : (Value.slice A xs.length c).ownBlock with | none => exact .inl rfl | some k => exact .inr (by simp)), h.2⟩
theorem OwnI.mono {w : World} {base base' : Nat} {e : TypeId} {A : Option Addr} {c : Nat} {xs : List Int} (h : OwnI w base e A c xs) (hb : base' ≤ base) : OwnI w base' e A c xs := by
  refine ⟨⟨h.1.1, ?_⟩, h.2⟩
  rcases h.1.2 with hh | ⟨g, cap, cur, h1, h2, h3⟩
  · exact .inl hh
  · exact .inr ⟨g, cap, cur, h1, by omega, h3⟩
end Go.Proofs.YtgkngimeokhhgaaGreatDoor
/- The contracts of the document's place and Coord. -/
namespace Go.Proofs.YtgkngimeokhhgaaGreatDoor
open Go.RowKit

set_option maxRecDepth 100000 in
theorem infoInt : (Tryz.prog.info? 3).map (fun i => (i.zero, i.size, i.bytes)) = some (some (.int .i64 0), 1, 8) := by kernel_rfl
set_option maxRecDepth 100000 in
theorem infoInt64 : (Tryz.prog.info? 2).map (fun i => (i.zero, i.size, i.bytes)) = some (some (.int .i64 0), 1, 8) := by kernel_rfl

end Go.Proofs.YtgkngimeokhhgaaGreatDoor
/- The contracts of slices.Clone at []int and slices.Equal at []int and []int64, of box.laid and the document's Check's length part, of box.Zero. -/
namespace Go.Proofs.YtgkngimeokhhgaaGreatDoor
open Go.RowKit

theorem ints_one (xs : List Int) : ∀ u ∈ xs.map (Value.int .i64), u.oneCell' = true := by
  intro u hu
  rw [List.mem_map] at hu
  obtain ⟨x, _, rfl⟩ := hu
  rfl
theorem Ints.cells_ {w : World} {B n : Nat} {ad : Addr} {xs : List Int} (h : Ints w B (some ad) n xs) : ∀ j u, (xs.map (Value.int .i64))[j]? = some u → w.cell? (ad.add j) = some u := by
  intro j u hu
  rw [List.getElem?_map, Option.map_eq_some_iff] at hu
  obtain ⟨x, hx, rfl⟩ := hu
  have hj : j < n := by have := (List.getElem?_eq_some_iff.1 hx).1; have := h.1; omega
  obtain ⟨b, off, e, hb, hc⟩ := h.2.2 (by omega)
  injection e with e
  subst e
  have := hc j x hx
  by_cases h0 : j = 0
  · subst h0; simpa [Addr.add] using this
  · simpa [Addr.add, h0] using this
theorem row_form {w : World} {base n : Nat} {e : TypeId} {v : Value} {ys : List Value} (h : w.ownsRow base e 1 v n ys) : ∃ A c, v = .slice A n c := by
  rcases h.2 with ⟨rfl, rfl⟩ | ⟨g, cap, cur, rfl, _⟩
  · exact ⟨_, _, rfl⟩
  · exact ⟨_, _, rfl⟩

theorem OwnI.drew {w : World} {base : Nat} {e : TypeId} {A : Option Addr} {c : Nat} {xs : List Int} (h : OwnI w base e A c xs) : OwnI w.drew base e A c xs := h
theorem OwnI.alloc {w : World} {base : Nat} {e : TypeId} {A : Option Addr} {c : Nat} {xs : List Int} (h : OwnI w base e A c xs) (o : Obj) : OwnI (w.alloc o) base e A c xs := ⟨h.1.alloc o, h.2⟩

end Go.Proofs.YtgkngimeokhhgaaGreatDoor
/- The contract of the statements' live: the chapter's examples hold, and nothing that lay there has turned. -/
namespace Go.Proofs.YtgkngimeokhhgaaGreatDoor
open Go.RowKit

theorem Ints.of_new (W : World) (e : TypeId) (xs : List Int) (hb : ∀ x ∈ xs, -9223372036854775808 ≤ x ∧ x ≤ 9223372036854775807) :
    Ints (W.alloc (.cells (xs.map (Value.int .i64)).toArray e)) (W.heap.size + 1) (some ⟨W.heap.size, 0, none⟩) xs.length xs := by
  refine ⟨rfl, hb, fun _ => ⟨W.heap.size, 0, rfl, by omega, fun k x hx => ?_⟩⟩
  have h : (W.alloc (.cells (xs.map (Value.int .i64)).toArray e)).heap[W.heap.size]? = some (.cells (xs.map (Value.int .i64)).toArray e (0, 0)) := heap_alloc_new W _
  have := cell_of_row _ _ k _ e (0, 0) h
  rw [Nat.zero_add, this]
  simp [hx]

end Go.Proofs.YtgkngimeokhhgaaGreatDoor
/- The contracts of box.Check and the document's Check, of few, of box.Same, the document's Equals and Same, of box.Get and the document's Get. -/
namespace Go.Proofs.YtgkngimeokhhgaaGreatDoor
open Go.RowKit

/-- a dense tensor's header, and what it holds -/
structure Hdr where
  A : Option Addr
  n : Nat
  c : Nat
  B : Option Addr
  m : Nat
  e : Nat
def Hdr.val (d : Hdr) : Value := .agg #[.slice d.A d.n d.c, .slice d.B d.m d.e]
end Go.Proofs.YtgkngimeokhhgaaGreatDoor
/- The contract of the document's Zero. -/
namespace Go.Proofs.YtgkngimeokhhgaaGreatDoor
open Go.RowKit

theorem run_appendNil {P : Program} (w : World) (base : Nat) (t ty e : TypeId) (i : TypeInfo) (ht : P.underlying t = some (.slice e)) (hi : P.info? e = some i) (v : Value) (n : Nat) (xs : List Value) (hown : w.ownsRow base e 1 v n xs) (c : Nat) :
    (Builtin.append_ #[t, t] ty #[v, .slice none 0 c]).run P w = .ok v w := by
  rcases hown.2 with ⟨rfl, rfl⟩ | ⟨g, cap, cur, rfl, _, _, hnc, _⟩ <;> simp [Builtin.append_, run_underlying ht, sizeOf, typeInfo, Builtin.lenOf, Builtin.firstCells, *, storeCells]

/-- append onto a slice of the call's own, from whatever slice of integers -/
theorem run_appendInts {P : Program} (w : World) (base : Nat) (t ty e : TypeId) (i : TypeInfo) (ht : P.underlying t = some (.slice e)) (hi : P.info? e = some i) (hz : i.zero = some (.int .i64 0)) (h1 : i.size = 1) (h2 : i.bytes = 8)
    (A A2 : Option Addr) (c m c2 B : Nat) (xs ys : List Int) (ho : OwnI w base e A c xs) (hs : Ints w B A2 m ys) (hl : xs.length + m ≤ 1000000) (hb : base ≤ w.heap.size) :
    ∃ A' c' w', (Builtin.append_ #[t, t] ty #[.slice A xs.length c, .slice A2 m c2]).run P w = .ok (.slice A' (xs.length + m) c') w' ∧ OwnI w' base e A' c' (xs ++ ys) ∧ w.grownBy w' (Value.slice A xs.length c).ownBlock := by
  have hlen := hs.1
  have hfit : ∀ x ∈ xs ++ ys, -9223372036854775808 ≤ x ∧ x ≤ 9223372036854775807 := by
    intro x hx
    rcases List.mem_append.1 hx with hx | hx
    · exact ho.2 x hx
    · exact hs.2.1 x hx
  rcases Option.eq_none_or_eq_some A2 with rfl | ⟨ad, rfl⟩
  · obtain rfl : m = 0 := by
      rcases Nat.eq_zero_or_pos m with h0 | h0
      · exact h0
      · obtain ⟨b, off, e', _⟩ := hs.2.2 h0; cases e'
    obtain rfl : ys = [] := List.eq_nil_of_length_eq_zero hlen
    have hrun := run_appendNil (P := P) w base t ty e i ht hi (.slice A xs.length c) xs.length (xs.map (Value.int .i64)) ho.1 c2
    exact ⟨A, c, w, by simpa using hrun, by simpa using ho, World.grownBy.refl w _⟩
  · obtain ⟨v', w', hr, h3, h4, _⟩ := run_append_own (P := P) w base t ty e i (.int .i64 0) 1 8 ht hi hz h1 h2 rfl (by decide) (.slice A xs.length c) xs.length (xs.map (Value.int .i64)) ho.1 ad m c2 (ys.map (Value.int .i64)) (by rw [List.length_map, hlen, Nat.mul_one]) hs.cells_ (ints_one ys) (by unfold maxLen; omega) (by omega) hb
    obtain ⟨A', c', rfl⟩ := row_form h3
    refine ⟨A', c', w', hr, ⟨?_, hfit⟩, h4⟩
    rw [List.length_append, hlen, List.map_append]
    exact h3

theorem below_of_none {W w1 : World} (hg : W.grownBy w1 none) : Below W.heap.size W w1 := (Below.refl _ _).grown hg (Nat.le_refl _) (fun k e => by cases e)

end Go.Proofs.YtgkngimeokhhgaaGreatDoor
/- purflelaw01.BoxOne returns true at every input, and nothing that lay there has turned: the place of a number has that number; the next number's place is the next one. -/
namespace Go.Proofs.YtgkngimeokhhgaaGreatDoor
open Go.RowKit

theorem OwnI.some_ {w : World} {base : Nat} {e : TypeId} {A : Option Addr} {c : Nat} {xs : List Int} (h : OwnI w base e A c xs) (hp : 0 < xs.length) : ∃ g, A = some ⟨g, 0, none⟩ ∧ base ≤ g ∧ g < w.heap.size := by
  rcases h.1.2 with ⟨_, h0⟩ | ⟨g, cap, cur, hv, hb, _⟩
  · omega
  · have hA : A = some ⟨g, 0, none⟩ := by injection hv
    subst hA
    exact ⟨g, rfl, hb, (h.1.lt g rfl).2⟩
theorem OwnI.set_ {w : World} {base g : Nat} {e : TypeId} {c : Nat} {xs : List Int} (h : OwnI w base e (some ⟨g, 0, none⟩) c xs) (j : Nat) (v : Int) (hv : -9223372036854775808 ≤ v ∧ v ≤ 9223372036854775807) :
    OwnI (w.setCell ⟨g, j, none⟩ (.int .i64 v)) base e (some ⟨g, 0, none⟩) c (xs.set j v) := by
  refine ⟨?_, fun x hx => ?_⟩
  · have := (h.1.stored j (.int .i64 v)).1
    rw [← List.map_set] at this
    rw [List.length_set]
    exact this
  · rcases List.mem_or_eq_of_mem_set hx with hx | rfl
    · exact h.2 x hx
    · exact hv
theorem OwnI.far {w : World} {base g : Nat} {e : TypeId} {A : Option Addr} {c : Nat} {xs : List Int} (h : OwnI w base e A c xs) (hg : g < base) (j : Nat) (u : Value) : OwnI (w.setCell ⟨g, j, none⟩ u) base e A c xs :=
  ⟨ownsRow_setCell_below h.1 (a := ⟨g, j, none⟩) hg u, h.2⟩
theorem OwnI.cell_ {w : World} {base g k : Nat} {e : TypeId} {c : Nat} {xs : List Int} {x : Int} (h : OwnI w base e (some ⟨g, 0, none⟩) c xs) (hx : xs[k]? = some x) : w.cell? ⟨g, k, none⟩ = some (.int .i64 x) ∧ w.frozen? ⟨g, k, none⟩ = false := by
  have hk := (List.getElem?_eq_some_iff.1 hx).1
  exact ⟨(h.1.cellAt k (by omega)).trans (by simp [hx]), h.1.frozenAt k⟩

end Go.Proofs.YtgkngimeokhhgaaGreatDoor
/- purflelaw01.BoxOnes returns true at every input where each slice's capacity is no less than its length, and nothing that lay there has turned. -/
namespace Go.Proofs.YtgkngimeokhhgaaGreatDoor
open Go.RowKit

/-- v laid into l ahead of place k -/
def ins (l : List Int) (k : Nat) (v : Int) : List Int := l.take k ++ v :: l.drop k
theorem wpList_appendInts {P : Program} (w : World) {ops : Array Oper} {rest : List Oper} {o : Oper} {a : Act} {Q : Exit → Act → World → Prop}
    (hg : o.guard = none) (s x : Operand) (t : TypeId) (hop : o.op = Op.call { callee := Callee.builtin Builtin.append, args := #[s, x], argTypes := #[t, t] })
    (base : Nat) (e : TypeId) (i : TypeInfo) (ht : P.underlying t = some (.slice e)) (hi : P.info? e = some i) (hz : i.zero = some (.int .i64 0)) (h1 : i.size = 1) (h2 : i.bytes = 8)
    (A A2 : Option Addr) (c m c2 B p r : Nat) (xs ys : List Int) (hs : a.eval s = .slice A p c) (hx : a.eval x = .slice A2 m c2) (ho : OwnI w base e A c xs) (hp : xs.length = p) (hr : p + m = r) (hi2 : Ints w B A2 m ys) (hl : r ≤ 1000000) (hb : base ≤ w.heap.size)
    (hK : ∀ A' c' w', OwnI w' base e A' c' (xs ++ ys) → w.grownBy w' (Value.slice A p c).ownBlock → wpList P ops Q rest (a.put o.dst (.slice A' r c')) w') : wpList P ops Q (o :: rest) a w := by
  refine wpList_plain hg fun K hK' => ?_
  subst hp
  subst hr
  obtain ⟨A', c', w', hrun, ho', hb'⟩ := run_appendInts (P := P) w base t o.type e i ht hi hz h1 h2 A A2 c m c2 B xs ys ho hi2 hl hb
  unfold Oper.wp
  simp [execOp, hop, resolve, invoke, builtin, hs, hx, hrun, Result.andThen]
  exact hK' _ _ (hK _ _ _ ho' hb')
theorem src_new {v : Int} {t : TypeId} (w : World) (hv : -9223372036854775808 ≤ v ∧ v ≤ 9223372036854775807) : Ints (w.alloc (.cells #[.int .i64 v] t)) (w.heap.size + 1) (some ⟨w.heap.size, 0, none⟩) 1 [v] := Ints.of_new w t [v] (by simpa using hv)
theorem below_app {w1 W w3 : World} {base p c : Nat} {e : TypeId} {A : Option Addr} {xs : List Int} (hb : Below base w1 W) (hg : W.grownBy w3 (Value.slice A p c).ownBlock) (ho : OwnI W base e A c xs) (hp : xs.length = p) (hs : base ≤ W.heap.size) : Below base w1 w3 := by
  subst hp
  exact hb.grown hg hs (fun k hk => (ho.1.lt k hk).1)
end Go.Proofs.YtgkngimeokhhgaaGreatDoor
/- Slices of entries: when one reads as a list of places and numbers. -/
namespace Go.Proofs.YtgkngimeokhhgaaGreatDoor
open Go.RowKit

/-- an entry: its place's header, the place, the number -/
structure Ent where
  A : Option Addr
  n : Nat
  c : Nat
  cs : List Int
  v : Int
/-- the header (A, n) leads to the entries es, in blocks below B -/
def Ents (w : World) (B : Nat) (A : Option Addr) (n : Nat) (es : List Ent) : Prop :=
  es.length = n ∧ (∀ x ∈ es, Ints w B x.A x.n x.cs ∧ x.n ≤ 9223372036854775807 ∧ x.n ≤ x.c ∧ -9223372036854775808 ≤ x.v ∧ x.v ≤ 9223372036854775807) ∧
  (0 < n → ∃ b off, A = some ⟨b, off, none⟩ ∧ b < B ∧ ∀ (k : Nat) (x : Ent), es[k]? = some x → w.cell? ⟨b, off + 2 * k, none⟩ = some (.slice x.A x.n x.c) ∧ w.cell? ⟨b, off + 2 * k + 1, none⟩ = some (.int .i64 x.v))
section
variable {w w' : World} {B B' n : Nat} {A : Option Addr} {es : List Ent}
theorem Ents.nil_ : Ents w B A 0 [] := ⟨rfl, by simp, fun h => absurd h (by omega)⟩
theorem Ents.len (h : Ents w B A n es) : es.length = n := h.1
theorem Ents.keep (h : Ents w B A n es) (hk : ∀ p : Addr, p.block < B → w'.cell? p = w.cell? p) : Ents w' B A n es := by
  obtain ⟨hl, hb, hc⟩ := h
  refine ⟨hl, fun x hx => ⟨(hb x hx).1.keep hk, (hb x hx).2⟩, fun hn => ?_⟩
  obtain ⟨b, off, e, hB, hx⟩ := hc hn
  exact ⟨b, off, e, hB, fun k x hx' => ⟨(hk _ hB).trans (hx k x hx').1, (hk _ hB).trans (hx k x hx').2⟩⟩
theorem Ents.more (h : Ents w B A n es) (hB : B ≤ B') : Ents w B' A n es := by
  obtain ⟨hl, hb, hc⟩ := h
  refine ⟨hl, fun x hx => ⟨(hb x hx).1.more hB, (hb x hx).2⟩, fun hn => ?_⟩
  obtain ⟨b, off, e, hB', hx⟩ := hc hn
  exact ⟨b, off, e, by omega, hx⟩
theorem Ents.below (h : Ents w B A n es) (hb : Below B w w') : Ents w' B A n es := h.keep fun _ hp => hb.cell hp
theorem Ents.at_ {k : Nat} (h : Ents w B A n es) (hk : k < n) :
    ∃ b off x, A = some ⟨b, off, none⟩ ∧ b < B ∧ Hid (es[k]? = some x) ∧ w.cell? ⟨b, off + 2 * k, none⟩ = some (.slice x.A x.n x.c) ∧ w.cell? ⟨b, off + 2 * k + 1, none⟩ = some (.int .i64 x.v) ∧ Ints w B x.A x.n x.cs ∧ x.n ≤ 9223372036854775807 ∧ x.n ≤ x.c ∧ -9223372036854775808 ≤ x.v ∧ x.v ≤ 9223372036854775807 := by
  obtain ⟨hl, hb, hc⟩ := h
  obtain ⟨b, off, rfl, hB, hx⟩ := hc (by omega)
  have hk' : k < es.length := by omega
  have hm := hb _ (List.getElem_mem hk')
  have hx' := hx k _ (List.getElem?_eq_getElem hk')
  exact ⟨b, off, es[k], rfl, hB, List.getElem?_eq_getElem hk', hx'.1, hx'.2, hm.1, hm.2.1, hm.2.2.1, hm.2.2.2.1, hm.2.2.2.2⟩
end
end Go.Proofs.YtgkngimeokhhgaaGreatDoor
/- What box.both leaves behind the statement that makes the sum's tensor, in each order of its three operations. -/
namespace Go.Proofs.YtgkngimeokhhgaaGreatDoor
open Go.RowKit

theorem OwnI.apart {w : World} {base g bt : Nat} {e : TypeId} {c : Nat} {xs : List Int} (h : OwnI w base e (some ⟨g, 0, none⟩) c xs) (hne : g ≠ bt) (j : Nat) (u : Value) : OwnI (w.setCell ⟨bt, j, none⟩ u) base e (some ⟨g, 0, none⟩) c xs := by
  refine ⟨h.1.kept (row := some bt) ⟨rfl, rfl, rfl, by simp [World.setCell], fun i hi hn => Below.heap_setCell w ⟨bt, j, none⟩ u i (fun e => hn (by rw [e]))⟩ ?_, h.2⟩
  right
  simp only [Value.ownBlock]
  intro he
  injection he with he
  exact hne he
section
variable {w0 w : World} {A1 : Option Addr} {c1 n m : Nat} {xs : List Int} {d : TypeId} {u v : Value}
end
end Go.Proofs.YtgkngimeokhhgaaGreatDoor
/- The contract of box.both at each closure that box hands it (Add's, Mul's, Scale's), where both tensors may be and have one shape; and where they may not. -/
namespace Go.Proofs.YtgkngimeokhhgaaGreatDoor
open Go.RowKit

theorem OwnI.other {w : World} {base gv : Nat} {e e' : TypeId} {A : Option Addr} {c : Nat} {xs : List Int} {cs : Array Value} {fr : Nat × Nat} (h : OwnI w base e A c xs) (hg : w.heap[gv]? = some (.cells cs e' fr)) (hne : e ≠ e') (j : Nat) (u : Value) : OwnI (w.setCell ⟨gv, j, none⟩ u) base e A c xs := by
  refine ⟨h.1.kept (row := some gv) ⟨rfl, rfl, rfl, by simp [World.setCell], fun i hi hn => Below.heap_setCell w ⟨gv, j, none⟩ u i (fun e => hn (by rw [e]))⟩ ?_, h.2⟩
  rcases h.1.2 with ⟨h1, _⟩ | ⟨g, cap, cur, h1, _, hh, _⟩
  · left; rw [h1]; rfl
  · right
    rw [h1]
    intro he
    have hgg : g = gv := by injection he
    subst hgg
    rw [hh] at hg
    injection hg with hg
    injection hg with _ ht _
    exact hne ht
theorem zf0 {w w1 : World} (_ : Below w.drew.heap.size w.drew w1) (_ : w = w := rfl) : True := trivial
theorem zf1 {w w1 : World} {z : Array Value} {m : Nat} {t : TypeId} (_ : Below (w.alloc (.cells (madeCells z m) t)).drew.heap.size (w.alloc (.cells (madeCells z m) t)).drew w1) : True := trivial
end Go.Proofs.YtgkngimeokhhgaaGreatDoor
/- Sums over one mode, as sums over the numbers that go to one place: plain arithmetic on lists. -/
namespace Go.Proofs.YtgkngimeokhhgaaGreatDoor
open Go.RowKit

theorem wrap64_bounds (n : Int) : -9223372036854775808 ≤ wrap64 n ∧ wrap64 n ≤ 9223372036854775807 := by unfold wrap64; omega
/-! ### the number that a cell goes to, when a mode is summed over -/
end Go.Proofs.YtgkngimeokhhgaaGreatDoor
/- The contract of box.Sum. -/
namespace Go.Proofs.YtgkngimeokhhgaaGreatDoor
open Go.RowKit

theorem OwnI.ne {w : World} {base g gv c : Nat} {e e' : TypeId} {xs : List Int} {cs : Array Value} {fr : Nat × Nat} (h : OwnI w base e (some ⟨gv, 0, none⟩) c xs) (hg : w.heap[g]? = some (.cells cs e' fr)) (hne : e ≠ e') : g ≠ gv := by
  rintro rfl
  rcases h.1.2 with ⟨h1, _⟩ | ⟨g', cap, cur, h1, _, hh, _⟩
  · injection h1 with h1
    cases h1
  · injection h1 with h1
    injection h1 with h1
    injection h1 with h1
    subst h1
    rw [hh] at hg
    injection hg with hg
    injection hg with _ ht _
    exact hne ht
end Go.Proofs.YtgkngimeokhhgaaGreatDoor
/- What box.Sum leaves of a tensor's cells: its laws. Plain lists. -/
namespace Go.Proofs.YtgkngimeokhhgaaGreatDoor
open Go.RowKit

theorem OwnI.cap {w : World} {base : Nat} {e : TypeId} {A : Option Addr} {c : Nat} {xs : List Int} (h : OwnI w base e A c xs) : xs.length ≤ c := by
  rcases h.1.2 with ⟨h1, h2⟩ | ⟨g, cap, cur, h1, _, _, h4, _⟩
  · have : xs = [] := by simpa using h2
    subst this; simp
  · injection h1 with _ _ h3; omega
/-- what a slice of integers leads to is no block of two headers -/
theorem Ints.off_ {w : World} {B n g b off : Nat} {xs : List Int} {a0 a1 : Option Addr} {n0 n1 c0 c1 : Nat} {t : TypeId} (h : Ints w B (some ⟨b, off, none⟩) n xs) (hn : 0 < n) (hg : w.heap[g]? = some (.cells #[.slice a0 n0 c0, .slice a1 n1 c1] t (0, 0))) : b ≠ g := by
  rintro rfl
  obtain ⟨hl, _, hc⟩ := h
  obtain ⟨b', off', e, _, hx⟩ := hc hn
  injection e with e
  injection e with e1 e2
  subst e1
  subst e2
  have hk : 0 < xs.length := by omega
  have := hx 0 _ (List.getElem?_eq_getElem hk)
  have hr := cell_of_row _ _ (off + 0) _ t (0, 0) hg
  rw [hr] at this
  match off + 0, this with
  | 0, this => simp at this
  | 1, this => simp at this
  | i + 2, this => simp at this
theorem Ints.off2 {w : World} {B n g : Nat} {A : Option Addr} {xs : List Int} {a0 a1 : Option Addr} {n0 n1 c0 c1 : Nat} {t : TypeId} (h : Ints w B A n xs) (hg : w.heap[g]? = some (.cells #[.slice a0 n0 c0, .slice a1 n1 c1] t (0, 0))) (u v : Value) : Ints ((w.setCell ⟨g, 0, none⟩ u).setCell ⟨g, 1, none⟩ v) B A n xs := by
  have h' := h
  obtain ⟨hl, hb, hc⟩ := h
  refine ⟨hl, hb, fun hn => ?_⟩
  obtain ⟨b, off, rfl, hB, hx⟩ := hc hn
  have hne := h'.off_ hn hg
  refine ⟨b, off, rfl, hB, fun k x hx' => ?_⟩
  exact (World.cell?_setCell_far _ _ ⟨b, off + k, none⟩ _ (fun e => hne e.symm)).trans ((World.cell?_setCell_far _ _ ⟨b, off + k, none⟩ _ (fun e => hne e.symm)).trans (hx k x hx'))
end Go.Proofs.YtgkngimeokhhgaaGreatDoor
/- How two entries are compared by an order of their modes: the contracts of cmp.Compare at int and of the closure that coo.aheadBy makes. -/
namespace Go.Proofs.YtgkngimeokhhgaaGreatDoor
open Go.RowKit

def pickE (l : List Int) (x : Int) : Int := l.getD x.toNat 0
def cmpI (x y : Int) : Int := if x < y then -1 else if y < x then 1 else 0
/-- by which of the modes in turn two places differ first -/
def cmpE : List Int → List Int → List Int → Int
  | [], _, _ => 0
  | m :: os, a, b => if cmpI (pickE a m) (pickE b m) = 0 then cmpE os a b else cmpI (pickE a m) (pickE b m)

end Go.Proofs.YtgkngimeokhhgaaGreatDoor
/- The contract of slices.insertionSortCmpFunc at entries, by an order of their modes. -/
namespace Go.Proofs.YtgkngimeokhhgaaGreatDoor
open Go.RowKit

/-- the cells of entries -/
def cellsE : List Ent → List Value
  | [] => []
  | x :: l => .slice x.A x.n x.c :: .int .i64 x.v :: cellsE l
theorem cellsE_length (es : List Ent) : (cellsE es).length = 2 * es.length := by
  induction es with
  | nil => rfl
  | cons x l ih => simp [cellsE, ih]; omega
theorem cellsE_at {es : List Ent} {k : Nat} {x : Ent} (h : es[k]? = some x) : (cellsE es)[2 * k]? = some (.slice x.A x.n x.c) ∧ (cellsE es)[2 * k + 1]? = some (.int .i64 x.v) := by
  induction es generalizing k with
  | nil => simp at h
  | cons y l ih => cases k with
    | zero => simp at h; subst h; simp [cellsE]
    | succ k =>
      have := ih (k := k) (by simpa using h)
      rw [show 2 * (k + 1) = 2 * k + 1 + 1 by omega]
      simpa [cellsE] using this
/-- the header (A, n) reads as xs, and not in block g -/
def IntsOff (w : World) (g : Nat) (A : Option Addr) (n : Nat) (xs : List Int) : Prop := Ints w w.heap.size A n xs ∧ ∀ b off, A = some ⟨b, off, none⟩ → b ≠ g
theorem IntsOff.grown {w wr : World} {g n : Nat} {A : Option Addr} {xs : List Int} (h : IntsOff w g A n xs) (hg : w.grownBy wr (some g)) : Ints wr wr.heap.size A n xs := by
  obtain ⟨⟨hl, hb, hc⟩, hne⟩ := h
  refine ⟨hl, hb, fun h0 => ?_⟩
  obtain ⟨b, off, rfl, hB, hx⟩ := hc h0
  refine ⟨b, off, rfl, Nat.lt_of_lt_of_le hB hg.size, fun k x hk => ?_⟩
  exact hg.cell (hx k x hk) (fun e => hne b off rfl (by injection e))
def ltE (os : List Int) (x y : Ent) : Bool := decide (cmpE os x.cs y.cs < 0)
theorem grownBy_setE {w0 w : World} {g : Nat} (h : w0.grownBy w (some g)) (off : Nat) (v : Value) : w0.grownBy (w.setCell ⟨g, off, none⟩ v) (some g) :=
  ⟨h.os, h.tape, h.output, Nat.le_trans h.size (KeepsWalks.setCell w _ v).size, fun k hk hne => (Below.heap_setCell _ _ _ k (fun e => hne (by rw [e]))).trans (h.block k hk hne)⟩
theorem blkE_set {w : World} {g i : Nat} {cs : List Value} {t : TypeId} (h : w.heap[g]? = some (.cells cs.toArray t (0, 0))) (v : Value) : (w.setCell ⟨g, i, none⟩ v).heap[g]? = some (.cells (cs.set i v).toArray t (0, 0)) := by
  rw [heap_setCell_same _ _ _ _ _ _ h]; simp
end Go.Proofs.YtgkngimeokhhgaaGreatDoor
/- What the insertion sort of entries makes is a permutation of them, and stands in order. -/
namespace Go.Proofs.YtgkngimeokhhgaaGreatDoor

theorem cmpI_neg (x y : Int) : cmpI y x = -cmpI x y := by unfold cmpI; split <;> split <;> omega
theorem cmpE_neg (os a b : List Int) : cmpE os b a = -cmpE os a b := by
  induction os with
  | nil => rfl
  | cons m os ih =>
    unfold cmpE
    rw [cmpI_neg (pickE a m) (pickE b m), ih]
    by_cases h : cmpI (pickE a m) (pickE b m) = 0
    · rw [if_pos (by omega), if_pos h]
    · rw [if_neg (by omega), if_neg h]
/-- in order -/
def InOrd (os : List Int) (l : List Ent) : Prop := l.Pairwise (fun x y => cmpE os x.cs y.cs ≤ 0)
end Go.Proofs.YtgkngimeokhhgaaGreatDoor
/- Two runs of entries in order, merged: where it may be cut in two; what is merged of two sorted parts is the sorted whole. Nothing is claimed of the program here. -/
namespace Go.Proofs.YtgkngimeokhhgaaGreatDoor

theorem ltE_t {os : List Int} {x y : Ent} : ltE os x y = true ↔ cmpE os x.cs y.cs < 0 := by unfold ltE; exact decide_eq_true_iff
theorem ltE_f {os : List Int} {x y : Ent} : ltE os x y = false ↔ cmpE os y.cs x.cs ≤ 0 := by
  unfold ltE; rw [decide_eq_false_iff_not, cmpE_neg os y.cs x.cs]; omega
theorem ltE_asym {os : List Int} {x y : Ent} (h : ltE os x y = true) : ltE os y x = false := ltE_f.2 (by have := ltE_t.1 h; omega)
theorem InOrd.le {os : List Int} {L : List Ent} (h : InOrd os L) {i j : Nat} {x y : Ent} (hij : i ≤ j) (hx : L[i]? = some x) (hy : L[j]? = some y) : ltE os y x = false := by
  by_cases e : i = j
  · subst e; rw [hx] at hy; injection hy with hy; subst hy
    cases h : ltE os x x with
    | false => rfl
    | true => have h2 := ltE_asym h; rw [h] at h2; cases h2
  · obtain ⟨hi, rfl⟩ := List.getElem?_eq_some_iff.1 hx
    obtain ⟨hj, rfl⟩ := List.getElem?_eq_some_iff.1 hy
    exact ltE_f.2 (List.pairwise_iff_getElem.1 h i j hi hj (by omega))
end Go.Proofs.YtgkngimeokhhgaaGreatDoor
/- slices.swapRangeCmpFunc and slices.rotateCmpFunc at entries. -/
namespace Go.Proofs.YtgkngimeokhhgaaGreatDoor
open Go.RowKit

theorem grown_same (w : World) (g : Nat) : w.grownBy w (some g) := ⟨rfl, rfl, rfl, Nat.le_refl _, fun _ _ _ => rfl⟩
end Go.Proofs.YtgkngimeokhhgaaGreatDoor
/- slices.symMergeCmpFunc at entries, where one of the two runs has a single one. -/
namespace Go.Proofs.YtgkngimeokhhgaaGreatDoor
open Go.RowKit

/-- what a sort of the entries es in block g asks for: their places and the order lie outside of it -/
structure CtxE (w : World) (g bo : Nat) (Ao : Option Addr) (ro co : Nat) (os : List Int) (es : List Ent) : Prop where
  ents : ∀ x ∈ es, IntsOff w g x.A x.n x.cs ∧ (∀ m ∈ os, 0 ≤ m ∧ m < x.n) ∧ -9223372036854775808 ≤ x.v ∧ x.v ≤ 9223372036854775807
  ord : IntsOff w g Ao ro os
  cell : w.cell? ⟨bo, 0, none⟩ = some (.slice Ao ro co)
  off : bo ≠ g
  few : ro ≤ 100000
theorem CtxE.grown {w wr : World} {g bo ro co : Nat} {Ao : Option Addr} {os : List Int} {es es' : List Ent} (h : CtxE w g bo Ao ro co os es) (hg : w.grownBy wr (some g)) (hs : ∀ x ∈ es', x ∈ es) : CtxE wr g bo Ao ro co os es' :=
  ⟨fun x hx => ⟨⟨(h.ents x (hs x hx)).1.grown hg, (h.ents x (hs x hx)).1.2⟩, (h.ents x (hs x hx)).2⟩, ⟨h.ord.grown hg, h.ord.2⟩, hg.cell h.cell (fun e => h.off (by injection e)), h.off, h.few⟩
end Go.Proofs.YtgkngimeokhhgaaGreatDoor
/- coo.clone: the list is the same, and shares nothing. -/
namespace Go.Proofs.YtgkngimeokhhgaaGreatDoor

section
open Go.RowKit
theorem Ents.cells {w : World} {B n : Nat} {ad : Addr} {es : List Ent} (h : Ents w B (some ad) n es) : ∀ (j : Nat) (u : Value), (cellsE es)[j]? = some u → w.cell? (ad.add j) = some u := by
  intro j u hu
  have hj := (List.getElem?_eq_some_iff.1 hu).1
  rw [cellsE_length] at hj
  obtain ⟨hl, _, hc⟩ := h
  obtain ⟨b, off, e, _, hx⟩ := hc (by omega)
  injection e with e
  subst e
  have hk : j / 2 < es.length := by omega
  have hx' := hx (j / 2) _ (List.getElem?_eq_getElem hk)
  have hce := cellsE_at (List.getElem?_eq_getElem hk)
  have hadd : (Addr.add ⟨b, off, none⟩ j : Addr) = ⟨b, off + j, none⟩ := by
    by_cases h0 : j = 0
    · subst h0; simp [Addr.add]
    · simp [Addr.add, h0]
  rw [hadd]
  rcases Nat.mod_two_eq_zero_or_one j with hm | hm
  · obtain ⟨k, rfl⟩ : ∃ k, j = 2 * k := ⟨j / 2, by omega⟩
    have e : 2 * k / 2 = k := by omega
    simp only [e] at hx' hce
    rw [hce.1] at hu
    injection hu with hu
    subst hu
    exact hx'.1
  · obtain ⟨k, rfl⟩ : ∃ k, j = 2 * k + 1 := ⟨j / 2, by omega⟩
    have e : (2 * k + 1) / 2 = k := by omega
    simp only [e] at hx' hce
    rw [hce.2] at hu
    injection hu with hu
    subst hu
    rw [← Nat.add_assoc]
    exact hx'.2
end

section
open Go.RowKit
theorem lt_of_heap {w : World} {g : Nat} {o : Obj} (h : w.heap[g]? = some o) : g < w.heap.size := (Array.getElem?_eq_some_iff.1 h).1
theorem rows_ne {w : World} {base g size n : Nat} {e e' : TypeId} {v : Value} {xs : List Value} {cs : Array Value} {fr : Nat × Nat} (h : w.ownsRow base e size v n xs) (hg : w.heap[g]? = some (.cells cs e' fr)) (hne : e ≠ e') : v.ownBlock = none ∨ v.ownBlock ≠ some g := by
  right
  intro hq
  rcases h.2 with ⟨h1, _⟩ | ⟨g', cap, cur, h1, _, hh, _⟩
  · rw [h1] at hq; cases hq
  · rw [h1] at hq
    have : g' = g := by simpa [Value.ownBlock] using hq
    subst this
    rw [hg] at hh
    injection hh with hh
    injection hh with _ hh
    exact hne hh.symm
/-- an entry whose place is the call's own, outside of block g -/
def NewE (w : World) (base g : Nat) (x : Ent) : Prop := IntsOff w g x.A x.n x.cs ∧ (∀ b off, x.A = some ⟨b, off, none⟩ → base ≤ b ∧ b < w.heap.size ∧ ∃ cs t, w.heap[b]? = some (.cells cs t (0, 0))) ∧ x.n ≤ x.c ∧ -9223372036854775808 ≤ x.v ∧ x.v ≤ 9223372036854775807
theorem NewE.grown {w wr : World} {base g : Nat} {x : Ent} (h : NewE w base g x) (hg : w.grownBy wr (some g)) : NewE wr base g x := ⟨⟨h.1.grown hg, h.1.2⟩, fun b off e => ⟨(h.2.1 b off e).1, Nat.lt_of_lt_of_le (h.2.1 b off e).2.1 hg.size, by obtain ⟨cs, t, hc⟩ := (h.2.1 b off e).2.2; exact ⟨cs, t, (hg.block b (h.2.1 b off e).2.1 (by intro e2; injection e2 with e2; exact h.1.2 b off e e2)).trans hc⟩⟩, h.2.2⟩
theorem NewE.far {w wr : World} {base g q : Nat} {x : Ent} (h : NewE w base g x) (hg : w.grownBy wr (some q)) (hq : q < base) : NewE wr base g x := by
  refine ⟨⟨⟨h.1.1.1, h.1.1.2.1, fun h0 => ?_⟩, h.1.2⟩, fun b off e => ⟨(h.2.1 b off e).1, Nat.lt_of_lt_of_le (h.2.1 b off e).2.1 hg.size, by obtain ⟨cs, t, hc⟩ := (h.2.1 b off e).2.2; exact ⟨cs, t, (hg.block b (h.2.1 b off e).2.1 (by have := (h.2.1 b off e).1; intro e2; injection e2 with e2; omega)).trans hc⟩⟩, h.2.2⟩
  obtain ⟨b, off, e, hB, hx⟩ := h.1.1.2.2 h0
  have hb := (h.2.1 b off e).1
  exact ⟨b, off, e, Nat.lt_of_lt_of_le hB hg.size, fun k y hy => hg.cell (hx k y hy) (fun e => by injection e with e; dsimp only at e; omega)⟩
theorem NewE.mono {w : World} {base base' g : Nat} {x : Ent} (h : NewE w base g x) (hb : base' ≤ base) : NewE w base' g x := ⟨h.1, fun b off e => ⟨Nat.le_trans hb (h.2.1 b off e).1, (h.2.1 b off e).2⟩, h.2.2⟩
end
end Go.Proofs.YtgkngimeokhhgaaGreatDoor
/- Entries of the call's own, whose places are its own. -/
namespace Go.Proofs.YtgkngimeokhhgaaGreatDoor
open Go.RowKit

theorem keep_b {w w' : World} {k : Nat} {o : Obj} (h : Below w.heap.size w w') (hk : w.heap[k]? = some o) : w'.heap[k]? = some o := (h.block k (lt_of_heap hk)).trans hk
end Go.Proofs.YtgkngimeokhhgaaGreatDoor
/- Plain facts of levels, without the program: when a level may be, how its children are numbered, and at which places they are. Nothing is claimed of the program here. -/
namespace Go.Proofs.YtgkngimeokhhgaaGreatDoor
open Go.RowKit

def wholeB (K : Int) : Bool := K == 0 || K == 4
/-- from which number on the children of p are numbered -/
def offN (K S : Int) (xs : List Int) (p : Nat) : Nat := if wholeB K = true then p * S.toNat else if K = 3 then p else (xs[p]?.getD 0).toNat
/-- at which place child n is -/
def atN (K S : Int) (ys : List Int) (n : Nat) : Int := if wholeB K = true then (n : Int) % S else ys[n]?.getD 0
/-- how many children there are -/
def totN (K S : Int) (ys : List Int) (a : Nat) : Nat := if wholeB K = true then a * S.toNat else ys.length

/-- what a level that may be is -/
structure Lok (K S : Int) (xs ys : List Int) (a : Nat) : Prop where
  ahead : a ≤ 1048576
  size0 : 0 ≤ S
  size1 : S ≤ 2147483648
  kind : 0 ≤ K ∧ K ≤ 4
  tot : totN K S ys a ≤ 1048576
  crd : ys.length ≤ 65536
  first : offN K S xs 0 = 0
  last : offN K S xs a = totN K S ys a
  step : ∀ p, p < a → offN K S xs p ≤ offN K S xs (p + 1)
  place : ∀ n, n < totN K S ys a → 0 ≤ atN K S ys n ∧ atN K S ys n < S
  rise : ∀ p, p < a → ∀ n, offN K S xs p < n → n < offN K S xs (p + 1) → atN K S ys (n - 1) ≤ atN K S ys n ∧ (K ≠ 2 → atN K S ys (n - 1) < atN K S ys n)
  pos : K = 1 ∨ K = 2 → ∀ p, p ≤ a → xs[p]? = some ((offN K S xs p : Nat) : Int)
  crdAt : wholeB K = false → ∀ n, n < totN K S ys a → ys[n]? = some (atN K S ys n)
  posLen : K = 1 ∨ K = 2 → xs.length = a + 1
  posNil : ¬ (K = 1 ∨ K = 2) → xs.length = 0
  crdLen : wholeB K = false → ys.length = totN K S ys a
  crdNil : wholeB K = true → ys.length = 0

section
variable {K S : Int} {xs ys : List Int} {a : Nat}
theorem Lok.mono (h : Lok K S xs ys a) {p q : Nat} (hpq : p ≤ q) (hq : q ≤ a) : offN K S xs p ≤ offN K S xs q := by
  induction q with
  | zero => obtain rfl : p = 0 := by omega
            exact Nat.le_refl _
  | succ q ih =>
    by_cases e : p = q + 1
    · subst e; exact Nat.le_refl _
    · have := ih (by omega) (by omega)
      have := h.step q (by omega)
      omega
end
end Go.Proofs.YtgkngimeokhhgaaGreatDoor
/- The contract of perm.Check. -/
namespace Go.Proofs.YtgkngimeokhhgaaGreatDoor
open Go.RowKit

theorem blk_cell {w : World} {g i : Nat} {cs : List Value} {t : TypeId} {v : Value} (h : w.heap[g]? = some (.cells cs.toArray t (0, 0))) (hv : cs[i]? = some v) : w.cell? ⟨g, i, none⟩ = some v ∧ w.frozen? ⟨g, i, none⟩ = false :=
  ⟨(cell_of_row _ _ _ _ _ _ h).trans (by simpa using hv), by simp [World.frozen?, h]⟩
end Go.Proofs.YtgkngimeokhhgaaGreatDoor
/- The contracts of level's smallest functions: Whole, many, inside, span, place, may, IsSorted; of the document's Whole and many. -/
namespace Go.Proofs.YtgkngimeokhhgaaGreatDoor
open Go.RowKit

theorem lvBelow (w : World) (o : Obj) : Below w.heap.size w (w.alloc o) := (Below.refl _ _).alloc (Nat.le_refl _) _
/-- the cells of a level's block -/
theorem lvCells {W : World} {g : Nat} {u v x y : Value} {t : TypeId} (h : W.heap[g]? = some (.cells #[u, v, x, y] t (0, 0))) :
    W.cell? ⟨g, 0, none⟩ = some u ∧ W.cell? ⟨g, 1, none⟩ = some v ∧ W.cell? ⟨g, 2, none⟩ = some x ∧ W.cell? ⟨g, 3, none⟩ = some y ∧ W.frozen? ⟨g, 0, none⟩ = false ∧ W.frozen? ⟨g, 1, none⟩ = false ∧ W.frozen? ⟨g, 2, none⟩ = false ∧ W.frozen? ⟨g, 3, none⟩ = false :=
  ⟨by simpa using cell_of_row _ _ 0 _ t (0, 0) h, by simpa using cell_of_row _ _ 1 _ t (0, 0) h, by simpa using cell_of_row _ _ 2 _ t (0, 0) h, by simpa using cell_of_row _ _ 3 _ t (0, 0) h, by simp [World.frozen?, h], by simp [World.frozen?, h], by simp [World.frozen?, h], by simp [World.frozen?, h]⟩
end Go.Proofs.YtgkngimeokhhgaaGreatDoor
/- The document's registers and places of an instruction. -/
namespace Go.Proofs.YtgkngimeokhhgaaGreatDoor
open Go.RowKit

theorem bl_strJ (l : List UInt8) : bl (strJ l) = l := by simp [bl, strJ]
theorem strJ_size (l : List UInt8) : (strJ l).size = l.length := by rw [← bl_len, bl_strJ]
/-- a text of these bytes, behind a name -/
theorem strJ_name (l : List UInt8) : ∃ s : ByteArray, strJ l = s ∧ bl s = l ∧ s.size = l.length := ⟨_, rfl, bl_strJ l, strJ_size l⟩
theorem newJ (w : World) (x : Ji) : (w.alloc x.obj).heap[w.heap.size]? = some x.obj := heap_alloc_new w _
/-- three numbers in a new block -/
def FieldsP (x : Ji) (w : World) (e : Ending) (w' : World) : Prop :=
  Below w.heap.size w w' ∧ ∃ g, w.heap.size ≤ g ∧ e = .returned (.slice (some ⟨g, 0, none⟩) 3 3) ∧ w'.heap[g]? = some (.cells #[.int .i64 x.a, .int .i64 x.b, .int .i64 x.c] 3 (0, 0))
set_option maxRecDepth 100000 in
theorem refFields_any (x : Ji) (w : World) : Calls Tryz.prog 96 #[x.val] w (FieldsP x w) := by
  go_enter Tryz.func96, Tryz.ntmps96
  go_wp2_with fail
  go_ret
  refine ⟨((Below.refl _ _).alloc (Nat.le_refl _) _).alloc (by simp) _, w.heap.size + 1, by omega, rfl, ?_⟩
  have := heap_alloc_new (w.alloc x.obj) (.cells #[.int .i64 x.a, .int .i64 x.b, .int .i64 x.c] 3)
  rwa [World.size_alloc] at this
def WritesP (x : Ji) (w : World) (e : Ending) (w' : World) : Prop := e = .returned (.tuple #[.int .i64 (writesJ x), .bool (setsJ x)]) ∧ Below w.heap.size w w'
set_option maxRecDepth 100000 in
theorem refWrites_any (x : Ji) (w : World) : Calls Tryz.prog 101 #[x.val] w (WritesP x w) := by
  have HB0 := Lib.hid ((Below.refl w.heap.size w).alloc (Nat.le_refl _) x.obj)
  have HX0 := Lib.hid (newJ w x)
  obtain ⟨W0, hW0⟩ : ∃ W, w.alloc x.obj = W := ⟨_, rfl⟩
  rw [hW0] at HB0 HX0
  obtain ⟨s, hs, hbl, hsz⟩ := strJ_name (kJ x.op)
  have hsm : s.size ≤ 3 := by have := kJ_len x.op; omega
  have HS := Lib.hid hs
  have HBL := Lib.hid hbl
  have HSZ := Lib.hid hsz
  clear hs hbl hsz
  obtain ⟨k, kf⟩ := box_cellsJ HX0.out
  obtain ⟨k0, k1, k2, k3, k4⟩ := k
  go_enter Tryz.func101, Tryz.ntmps101
  go_wp2_with fail
  try rw [hW0]
  refine (refWord14_any x.op W0).mono ?_
  rintro e w1 ⟨rfl, hb⟩
  rw [HS.out]
  have HB1 := Lib.hid (HB0.out.trans (hb.mono HB0.out.size))
  have HX1 := Lib.hid (keep_b hb HX0.out)
  clear hb hW0 k0 k1 k2 k3 k4 kf
  obtain ⟨k, kf⟩ := box_cellsJ HX1.out
  obtain ⟨k0, k1, k2, k3, k4⟩ := k
  by_cases h0 : s.size = 0
  · have e1 : s = ⟨#[]⟩ := size_zero h0
    have e2 : kJ x.op = [] := by rw [← HBL.out, e1]; rfl
    have HR : Hid (setsJ x = false ∧ writesJ x = 0) := by
      have : setsJ x = false := by unfold setsJ; rw [e2]; rfl
      exact ⟨this, by unfold writesJ; rw [this]; rfl⟩
    clear e2
    subst e1
    go_wp2_with fail
    go_ret2
    exact ⟨by rw [HR.out.1, HR.out.2]; rfl, HB1.out⟩
  · have hlt : 0 < s.size := by omega
    have hne : s.toList.isEmpty = false := not_empty h0
    have hne2 : s.toList ≠ [] := by rw [List.isEmpty_eq_false_iff] at hne; exact hne
    have hg := bl_get s 0 hlt
    rw [HBL.out] at hg
    by_cases hc : (s[0].toNat : Int) = 119
    · have c1 : ((s[0].toNat : Int) == 119) = true := by simpa using hc
      have HR : Hid (setsJ x = true ∧ writesJ x = x.a) := by
        have : setsJ x = true := by
          unfold setsJ
          rw [List.head?_eq_getElem?, hg]
          simp
          exact UInt8.toNat_inj.1 (by simpa using (by omega : s[0].toNat = 119))
        exact ⟨this, by unfold writesJ; rw [this]; rfl⟩
      clear hg hc
      go_wp2_with fail
      go_ret2
      exact ⟨by rw [HR.out.1, HR.out.2]; rfl, HB1.out⟩
    · have c1 : ((s[0].toNat : Int) == 119) = false := by simpa using hc
      have HR : Hid (setsJ x = false ∧ writesJ x = 0) := by
        have : setsJ x = false := by
          unfold setsJ
          rw [List.head?_eq_getElem?, hg]
          simp
          intro e
          apply hc
          rw [e]; rfl
        exact ⟨this, by unfold writesJ; rw [this]; rfl⟩
      clear hg hc
      go_wp2_with fail
      go_ret2
      exact ⟨by rw [HR.out.1, HR.out.2]; rfl, HB1.out⟩
theorem pastJ {w : World} {g : Nat} {v : Obj} (o : Obj) (h : w.heap[g]? = some v) : (w.alloc o).heap[g]? = some v := (Below.heap_alloc w o g (lt_of_heap h)).trans h
/-- a block of another type stays over an append onto numbers -/
theorem past_int {w w' : World} {base c g p : Nat} {A : Option Addr} {xs : List Int} {cs : Array Value} {t : TypeId} (hO : OwnI w base 3 A c xs) (hg : w.heap[g]? = some (.cells cs t (0, 0))) (ht : 3 ≠ t) (hp : xs.length = p) (hG : w.grownBy w' (Value.slice A p c).ownBlock) : w'.heap[g]? = some (.cells cs t (0, 0)) := by
  subst hp
  refine (hG.block g (lt_of_heap hg) ?_).trans hg
  rcases rows_ne hO.1 hg ht with h | h
  · rw [h]; simp
  · exact fun e => h e.symm
def ReadsP (x : Ji) (w : World) (e : Ending) (w' : World) : Prop := ∃ A c, e = .returned (.slice A (readsJ x).length c) ∧ OwnI w' w.heap.size 3 A c (readsJ x) ∧ Below w.heap.size w w'
theorem Ji.f_fits {x : Ji} (h : x.ok) : ∀ (i : Nat) (v : Int), x.f[i]? = some v → -9223372036854775808 ≤ v ∧ v ≤ 9223372036854775807 := by
  intro i v hv
  match i, hv with
  | 0, hv => cases hv; exact h.a
  | 1, hv => cases hv; exact h.b
  | 2, hv => cases hv; exact h.c
  | i + 3, hv => cases hv
set_option maxRecDepth 100000 in
set_option maxHeartbeats 1000000 in
theorem refReads_any (x : Ji) (w : World) (hx : x.ok) : Calls Tryz.prog 81 #[x.val] w (ReadsP x w) := by
  have HB0 := Lib.hid ((Below.refl w.heap.size w).alloc (Nat.le_refl _) x.obj)
  have HX0 := Lib.hid (newJ w x)
  have HOK := Lib.hid hx
  obtain ⟨W0, hW0⟩ : ∃ W, w.alloc x.obj = W := ⟨_, rfl⟩
  rw [hW0] at HB0 HX0
  obtain ⟨s, hs, hbl, hsz⟩ := strJ_name (kJ x.op)
  have hsm : s.size ≤ 3 := by have := kJ_len x.op; omega
  have HS := Lib.hid hs
  have HBL := Lib.hid hbl
  have HSZ := Lib.hid hsz
  clear hs hbl hsz
  obtain ⟨k, kf⟩ := box_cellsJ HX0.out
  obtain ⟨k0, k1, k2, k3, k4⟩ := k
  obtain ⟨i0, hi0, hz0, hz1, hz2⟩ := info_parts infoInt
  go_enter Tryz.func81, Tryz.ntmps81
  go_wp2_with fail
  try rw [hW0]
  refine (refWord14_any x.op W0).mono ?_
  rintro e w1 ⟨rfl, hb⟩
  rw [HS.out]
  have HB1 := Lib.hid (HB0.out.trans (hb.mono HB0.out.size))
  have HX1 := Lib.hid (keep_b hb HX0.out)
  clear hb hW0 k0 k1 k2 k3 k4 kf
  go_wp2_with fail
  go_loopw [5, 15] (fun v i wr => ∃ (k : Nat) (A : Option Addr) (c : Nat), k ≤ s.size ∧ i = .int .i64 k ∧ v = .slice A (readsG ((kJ x.op).take k) x.f).length c ∧ Hid (OwnI wr w.heap.size 3 A c (readsG ((kJ x.op).take k) x.f)) ∧ Hid (Below w.heap.size w wr) ∧ Hid (wr.heap[w.heap.size]? = some x.obj)) (fun _ i _ => s.size - (intOf i).toNat)
  case atStart => exact ⟨0, none, 0, Nat.zero_le _, rfl, by rw [List.take_zero]; rfl, by rw [List.take_zero]; exact OwnI.nil_ _ _ _, HB1.out, HX1.out⟩
  case round =>
    obtain ⟨k, A, c, hk, rfl, rfl, HO, HB, HX⟩ := hrel
    by_cases hlt : k < s.size
    · have hg := bl_get s k hlt
      rw [HBL.out] at hg
      have hv : ∃ v, x.f[k]? = some v := by
        have : k < x.f.length := by show k < 3; omega
        exact ⟨_, List.getElem?_eq_getElem this⟩
      obtain ⟨v, hv⟩ := hv
      have hsn := readsG_snoc (kJ x.op) x.f k s[k] v hg hv
      have hvf := Ji.f_fits HOK.out k v hv
      have hrl := readsG_length ((kJ x.op).take k) x.f
      have hrl2 : (readsG ((kJ x.op).take k) x.f).length ≤ 3 := hrl
      have HSN := Lib.hid hsn
      have HV := Lib.hid hv
      clear hsn hg hv hrl
      by_cases hc : (s[k].toNat : Int) = 114
      · have c1 : ((s[k].toNat : Int) == 114) = true := by simpa using hc
        have hc2 : s[k] = 114 := UInt8.toNat_inj.1 (by simpa using (by omega : s[k].toNat = 114))
        have HST : Hid (readsG ((kJ x.op).take (k + 1)) x.f = readsG ((kJ x.op).take k) x.f ++ [v]) := by unfold Hid; rw [HSN.out, if_pos hc2]
        have hF := refFields_any x wr
        obtain ⟨kk, kf⟩ := box_cellsJ HX.out
        obtain ⟨k0, k1, k2, k3, k4⟩ := kk
        clear hc hc2
        go_wp2_with fail
        refine hF.mono ?_
        rintro e w2 ⟨hb, g, hgg, rfl, hG⟩
        have HO2 : Hid (OwnI w2 w.heap.size 3 A c (readsG ((kJ x.op).take k) x.f)) := HO.out.below hb (Nat.le_refl _)
        have HB2 := Lib.hid (HB.out.trans (hb.mono HB.out.size))
        have HX2 := Lib.hid (keep_b hb HX.out)
        have hcv : w2.cell? ⟨g, k, none⟩ = some (.int .i64 v) := by
          have h3 : x.f.map (Value.int .i64) = [.int .i64 x.a, .int .i64 x.b, .int .i64 x.c] := rfl
          have : (x.f.map (Value.int .i64))[k]? = some (.int .i64 v) := by rw [List.getElem?_map, HV.out]; rfl
          rw [h3] at this
          refine (cell_of_row _ _ _ _ _ _ hG).trans ?_
          simpa using this
        have hk3 : (k : Int) < 3 := by omega
        have hk0 : (0 : Int) ≤ (k : Int) := by omega
        have hsz2 : w.heap.size ≤ w2.heap.size := HB2.out.size
        obtain ⟨m, hm⟩ : ∃ m, (readsG ((kJ x.op).take k) x.f).length = m := ⟨_, rfl⟩
        have HM := Lib.hid hm
        rw [hm] at hrl2
        have hle : m + 1 ≤ 1000000 := by omega
        clear hb hG hF k0 k1 k2 k3 k4 kf
        rw [hm]
        clear hm
        go_wp2_with (at_builtin; refine wpList_appendInts _ rfl (.tmp 22) (.tmp 28) 36 rfl w.heap.size 3 i0 Tryz.underlying36 hi0 hz0 hz1 hz2 A (some ⟨w2.heap.size, 0, none⟩) c 1 1 (w2.heap.size + 1) m (m + 1) (readsG ((kJ x.op).take k) x.f) [v] rfl rfl (HO2.out.alloc _) HM.out rfl (src_new w2 hvf) hle (by simp; omega) ?_; intro A3 c3 w3 hO3 hG3)
        have hb3 := below_app (HB2.out.alloc hsz2 _) hG3 (HO2.out.alloc _) HM.out (by simp; omega)
        have hX3 : w3.heap[w.heap.size]? = some x.obj := past_int (HO2.out.alloc _) (pastJ _ HX2.out) (by decide) HM.out hG3
        have HO3 := Lib.hid hO3
        have HB3 := Lib.hid hb3
        have HX3 := Lib.hid hX3
        clear hO3 hb3 hX3 hG3 hcv
        go_wp2_with fail
        go_roundw
        case rel => exact ⟨k + 1, A3, c3, by omega, by go_num, by rw [HST.out, List.length_append, HM.out]; rfl, by rw [HST.out]; exact HO3.out, HB3.out, HX3.out⟩
        case measure => simp [intOf]; omega
      · have c1 : ((s[k].toNat : Int) == 114) = false := by simpa using hc
        have hc2 : s[k] ≠ 114 := fun e => hc (by rw [e]; rfl)
        have HST : Hid (readsG ((kJ x.op).take (k + 1)) x.f = readsG ((kJ x.op).take k) x.f) := by unfold Hid; rw [HSN.out, if_neg hc2, List.append_nil]
        clear hc hc2
        go_wp2_with fail
        go_roundw
        case rel => exact ⟨k + 1, A, c, by omega, by go_num, by rw [HST.out], by rw [HST.out]; exact HO.out, HB.out, HX.out⟩
        case measure => simp [intOf]; omega
    · have hks : k = s.size := by omega
      have HT : Hid (readsG ((kJ x.op).take k) x.f = readsJ x) := by unfold Hid readsJ; rw [List.take_of_length_le (by rw [← HSZ.out]; omega)]
      rw [HT.out] at HO ⊢
      go_wp2_with fail
      go_ret
      exact ⟨A, c, rfl, HO.out, HB.out⟩
end Go.Proofs.YtgkngimeokhhgaaGreatDoor
