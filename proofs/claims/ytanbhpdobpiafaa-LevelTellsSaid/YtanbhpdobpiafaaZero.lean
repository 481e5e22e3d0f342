/- The contract of the document's Zero. -/
import Derived.Test.YtanbhpdobpiafaaGet
import Derived.Laws.AppendOwnNone
import Derived.Deep.RegionLaw
namespace Go.Proofs.Ytanbhpdobpiafaa
open Go.RowKit

theorem run_appendNil {P : Program} (w : World) (base : Nat) (t ty e : TypeId) (i : TypeInfo) (ht : P.underlying t = some (.slice e)) (hi : P.info? e = some i) (v : Value) (n : Nat) (xs : List Value) (hown : w.ownsRow base e 1 v n xs) (c : Nat) :
    (Builtin.append_ #[t, t] ty #[v, .slice none 0 c]).run P w = .ok v w := by
  rcases hown.2 with ⟨rfl, rfl⟩ | ⟨g, cap, cur, rfl, _, _, hnc, _⟩ <;> simp [Builtin.append_, run_underlying ht, sizeOf, typeInfo, Builtin.lenOf, Builtin.firstCells, *, storeCells]

/-- append onto a slice of the call's own, from whatever slice of integers -/
theorem run_appendInts {P : Program} (w : World) (base : Nat) (t ty e : TypeId) (i : TypeInfo) (ht : P.underlying t = some (.slice e)) (hi : P.info? e = some i) (hz : i.zero = some (.int .i64 0)) (h1 : i.size = 1) (h2 : i.bytes = 8)
    (A A2 : Option Addr) (c m c2 B : Nat) (xs ys : List Int) (ho : OwnI w base e A c xs) (hs : Ints w B A2 m ys) (hl : xs.length + m ≤ 1000000) (hb : base ≤ w.heap.size) :
    ∃ A' c' w', (Builtin.append_ #[t, t] ty #[.slice A xs.length c, .slice A2 m c2]).run P w = .ok (.slice A' (xs.length + m) c') w' ∧ OwnI w' base e A' c' (xs ++ ys) ∧ w.grownBy w' (Value.slice A xs.length c).ownBlock := by
  have hlen := hs.1
  have hfit : ∀ x ∈ xs ++ ys, -9223372036854775808 ≤ x ∧ x ≤ 9223372036854775807 := by
    intro x hx
    rcases List.mem_append.1 hx with hx | hx
    · exact ho.2 x hx
    · exact hs.2.1 x hx
  rcases Option.eq_none_or_eq_some A2 with rfl | ⟨ad, rfl⟩
  · obtain rfl : m = 0 := by
      rcases Nat.eq_zero_or_pos m with h0 | h0
      · exact h0
      · obtain ⟨b, off, e', _⟩ := hs.2.2 h0; cases e'
    obtain rfl : ys = [] := List.eq_nil_of_length_eq_zero hlen
    have hrun := run_appendNil (P := P) w base t ty e i ht hi (.slice A xs.length c) xs.length (xs.map (Value.int .i64)) ho.1 c2
    exact ⟨A, c, w, by simpa using hrun, by simpa using ho, World.grownBy.refl w _⟩
  · obtain ⟨v', w', hr, h3, h4, _⟩ := run_append_own (P := P) w base t ty e i (.int .i64 0) 1 8 ht hi hz h1 h2 rfl (by decide) (.slice A xs.length c) xs.length (xs.map (Value.int .i64)) ho.1 ad m c2 (ys.map (Value.int .i64)) (by rw [List.length_map, hlen, Nat.mul_one]) hs.cells_ (ints_one ys) (by unfold maxLen; omega) (by omega) hb
    obtain ⟨A', c', rfl⟩ := row_form h3
    refine ⟨A', c', w', hr, ⟨?_, hfit⟩, h4⟩
    rw [List.length_append, hlen, List.map_append]
    exact h3

theorem step_appendInts {P : Program} {ops : Array Oper} {o : Oper} {a : Act} {w : World} {K : Act → World → Prop} {Q : Exit → Act → World → Prop} {E : Prop}
    (hg : o.guard = none) (s x : Operand) (t : TypeId) (hop : o.op = Op.call { callee := Callee.builtin Builtin.append, args := #[s, x], argTypes := #[t, t] })
    (base : Nat) (e : TypeId) (i : TypeInfo) (ht : P.underlying t = some (.slice e)) (hi : P.info? e = some i) (hz : i.zero = some (.int .i64 0)) (h1 : i.size = 1) (h2 : i.bytes = 8)
    (A A2 : Option Addr) (c m c2 B p r : Nat) (xs ys : List Int) (hs : a.eval s = .slice A p c) (hx : a.eval x = .slice A2 m c2) (ho : OwnI w base e A c xs) (hp : xs.length = p) (hr : p + m = r) (hi2 : Ints w B A2 m ys) (hl : r ≤ 1000000) (hb : base ≤ w.heap.size)
    (hK : ∀ A' c' w', OwnI w' base e A' c' (xs ++ ys) → w.grownBy w' (Value.slice A p c).ownBlock → K (a.put o.dst (.slice A' r c')) w') :
    if Region.wanted o (yielded ops a.tmps) = true then Oper.wp P o a w K Q else E := by
  have hw : Region.wanted o (yielded ops a.tmps) = true := by simp [Region.wanted, hg]
  rw [if_pos hw]
  subst hp
  subst hr
  obtain ⟨A', c', w', hrun, ho', hb'⟩ := run_appendInts (P := P) w base t o.type e i ht hi hz h1 h2 A A2 c m c2 B xs ys ho hi2 hl hb
  unfold Oper.wp
  simp [execOp, hop, resolve, invoke, builtin, hs, hx, hrun, Result.andThen]
  exact hK _ _ _ ho' hb'

theorem below_of_none {W w1 : World} (hg : W.grownBy w1 none) : Below W.heap.size W w1 := (Below.refl _ _).grown hg (Nat.le_refl _) (fun k e => by cases e)

end Go.Proofs.Ytanbhpdobpiafaa
