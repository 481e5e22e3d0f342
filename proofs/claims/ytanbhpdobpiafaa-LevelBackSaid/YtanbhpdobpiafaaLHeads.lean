/- Slices of the call's own, of slices that lay there: how they read, and others behind them. -/
import Derived.Test.YtanbhpdobpiafaaLRows
import Derived.Test.YtanbhpdobpiafaaZero
namespace Go.Proofs.Ytanbhpdobpiafaa
open Go.RowKit

/-- headers that lead to lists, in blocks below B -/
def Heads (w : World) (B : Nat) (vs : List Value) (LL : List (List Int)) : Prop :=
  vs.length = LL.length ∧ ∀ (k : Nat) (L : List Int), LL[k]? = some L → ∃ a c, vs[k]? = some (.slice a L.length c) ∧ L.length ≤ c ∧ Ints w B a L.length L
theorem Heads.below {w w' : World} {B B' : Nat} {vs : List Value} {LL : List (List Int)} (h : Heads w B vs LL) (hb : Below B' w w') (hB : B ≤ B') : Heads w' B vs LL := by
  refine ⟨h.1, fun k L hL => ?_⟩
  obtain ⟨a, c, h1, h2, h3⟩ := h.2 k L hL
  exact ⟨a, c, h1, h2, h3.keep fun p hp => hb.cell (by omega)⟩
theorem Heads.append {w : World} {B : Nat} {vs us : List Value} {LL MM : List (List Int)} (h : Heads w B vs LL) (h2 : Heads w B us MM) : Heads w B (vs ++ us) (LL ++ MM) := by
  refine ⟨by rw [List.length_append, List.length_append, h.1, h2.1], fun k L hL => ?_⟩
  by_cases hk : k < LL.length
  · rw [List.getElem?_append_left hk] at hL
    rw [List.getElem?_append_left (by rw [h.1]; exact hk)]
    exact h.2 k L hL
  · rw [List.getElem?_append_right (by omega)] at hL
    rw [List.getElem?_append_right (by rw [h.1]; omega), h.1]
    exact h2.2 _ L hL
theorem IntsLL.heads {w : World} {B n : Nat} {ad : Addr} {LL : List (List Int)} (h : IntsLL w B (some ad) n LL) :
    ∃ vs, vs.length = n ∧ (∀ (j : Nat) (u : Value), vs[j]? = some u → w.cell? (ad.add j) = some u) ∧ Heads w B vs LL ∧ ∀ u ∈ vs, u.oneCell' = true := by
  rcases Nat.eq_zero_or_pos n with rfl | hn
  · have : LL = [] := List.eq_nil_of_length_eq_zero h.1
    subst this
    exact ⟨[], rfl, by simp, ⟨rfl, by simp⟩, by simp⟩
  obtain ⟨b, off, e, hB, hx⟩ := h.2 hn
  injection e with e
  subst e
  have hat : ∀ (k : Nat), k < n → ∃ L a c, LL[k]? = some L ∧ w.cell? ⟨b, off + k, none⟩ = some (.slice a L.length c) ∧ L.length ≤ c ∧ Ints w B a L.length L := by
    intro k hk
    have hL := List.getElem?_eq_getElem (l := LL) (i := k) (by rw [h.1]; exact hk)
    obtain ⟨a, c, h1, h2, h3⟩ := hx k _ hL
    exact ⟨_, a, c, hL, h1, h2, h3⟩
  have hvs : ∀ (k : Nat), k < n → ((List.range n).map fun k => (w.cell? ⟨b, off + k, none⟩).getD (.bool false))[k]? = some ((w.cell? ⟨b, off + k, none⟩).getD (.bool false)) := by
    intro k hk
    rw [List.getElem?_map, List.getElem?_range hk]; rfl
  refine ⟨(List.range n).map fun k => (w.cell? ⟨b, off + k, none⟩).getD (.bool false), by simp, fun j u hu => ?_, ⟨by simp [h.1], fun k L hL => ?_⟩, fun u hu => ?_⟩
  · have hj : j < n := by have := (List.getElem?_eq_some_iff.1 hu).1; simpa using this
    rw [hvs j hj] at hu
    injection hu with hu
    obtain ⟨L, a, c, _, h1, _⟩ := hat j hj
    rw [h1] at hu
    simp only [Option.getD_some] at hu
    subst hu
    by_cases h0 : j = 0
    · subst h0; simpa [Addr.add] using h1
    · simpa [Addr.add, h0] using h1
  · have hk : k < n := by have := (List.getElem?_eq_some_iff.1 hL).1; rw [h.1] at this; exact this
    obtain ⟨L', a, c, h0, h1, h2, h3⟩ := hat k hk
    rw [hL] at h0
    injection h0 with h0
    subst h0
    exact ⟨a, c, by rw [hvs k hk, h1]; rfl, h2, h3⟩
  · obtain ⟨j, hj⟩ := List.getElem?_of_mem hu
    have hjn : j < n := by have := (List.getElem?_eq_some_iff.1 hj).1; simpa using this
    rw [hvs j hjn] at hj
    injection hj with hj
    obtain ⟨L, a, c, _, h1, _⟩ := hat j hjn
    rw [h1] at hj
    simp only [Option.getD_some] at hj
    subst hj
    rfl
/-- a slice of the call's own, of slices in blocks below B -/
def OwnH (w : World) (B base : Nat) (A : Option Addr) (c : Nat) (LL : List (List Int)) : Prop :=
  ∃ vs, w.ownsRow base 22 1 (.slice A LL.length c) LL.length vs ∧ Heads w B vs LL
theorem OwnH.nil_ (w : World) (B base : Nat) : OwnH w B base none 0 [] := ⟨[], w.ownsRow_nil base _ 1, rfl, by simp⟩
theorem OwnH.ints {w : World} {B base : Nat} {A : Option Addr} {c : Nat} {LL : List (List Int)} (h : OwnH w B base A c LL) (hB : B ≤ w.heap.size) : IntsLL w w.heap.size A LL.length LL := by
  obtain ⟨vs, hr, hh⟩ := h
  refine ⟨rfl, fun h0 => ?_⟩
  rcases hr.2 with ⟨_, h1⟩ | ⟨g, cap, cur, hv, _, hg, _⟩
  · omega
  have hA : A = some ⟨g, 0, none⟩ := by injection hv
  subst hA
  refine ⟨g, 0, rfl, (hr.lt g rfl).2, fun k L hL => ?_⟩
  obtain ⟨a, c2, h1, h2, h3⟩ := hh.2 k L hL
  have hk := (List.getElem?_eq_some_iff.1 hL).1
  refine ⟨a, c2, ?_, h2, h3.more hB⟩
  rw [Nat.zero_add]
  exact (hr.cellAt k (by omega)).trans h1
theorem run_appendHeads (w : World) (B base : Nat) (ty : TypeId) (A A2 : Option Addr) (c m c2 : Nat) (LL MM : List (List Int)) (ho : OwnH w B base A c LL) (hs : IntsLL w B A2 m MM) (hl : LL.length + m ≤ 1000000) (hb : base ≤ w.heap.size) (hB : B ≤ base) :
    ∃ A' c' w', (Builtin.append_ #[42, 42] ty #[.slice A LL.length c, .slice A2 m c2]).run Try.prog w = .ok (.slice A' (LL.length + m) c') w' ∧ OwnH w' B base A' c' (LL ++ MM) ∧ Below base w w' := by
  obtain ⟨i, hi, hz, h1, h2⟩ := info_parts infoRow
  obtain ⟨vs, hr, hh⟩ := ho
  have hm := hs.1
  rcases Option.eq_none_or_eq_some A2 with rfl | ⟨ad, rfl⟩
  · obtain rfl : m = 0 := by
      rcases Nat.eq_zero_or_pos m with h0 | h0
      · exact h0
      · obtain ⟨b, off, e', _⟩ := hs.2 h0; cases e'
    obtain rfl : MM = [] := List.eq_nil_of_length_eq_zero hm
    have hrun := run_appendNil (P := Try.prog) w base 42 ty 22 i Try.underlying42 hi (.slice A LL.length c) LL.length vs hr c2
    exact ⟨A, c, w, by simpa using hrun, ⟨vs, by simpa using hr, by simpa using hh⟩, Below.refl _ _⟩
  · obtain ⟨us, hul, huc, huh, hu1⟩ := hs.heads
    obtain ⟨v', w', hrun, h3, h4, _⟩ := run_append_own (P := Try.prog) w base 42 ty 22 i (.slice none 0 0) 1 24 Try.underlying42 hi hz h1 h2 rfl (by decide) (.slice A LL.length c) LL.length vs hr ad m c2 us (by rw [hul, Nat.mul_one]) huc hu1 (by unfold maxLen; omega) (by omega) hb
    obtain ⟨A', c', rfl⟩ := row_form h3
    have hbel : Below base w w' := (Below.refl _ w).grown h4 hb (fun k hk => (hr.lt k hk).1)
    refine ⟨A', c', w', hrun, ⟨vs ++ us, ?_, (hh.append huh).below hbel hB⟩, hbel⟩
    rw [List.length_append, hm]
    exact h3
theorem wpList_appendHeads {ops : Array Oper} {rest : List Oper} {o : Oper} {a : Act} {w : World} {Q : Exit → Act → World → Prop}
    (hg : o.guard = none) (s x : Operand) (hop : o.op = Op.call { callee := Callee.builtin Builtin.append, args := #[s, x], argTypes := #[42, 42] })
    (B base : Nat) (A A2 : Option Addr) (c m c2 p r : Nat) (LL MM : List (List Int)) (hs : a.eval s = .slice A p c) (hx : a.eval x = .slice A2 m c2)
    (ho : OwnH w B base A c LL) (hi2 : IntsLL w B A2 m MM) (hp : LL.length = p) (hr : p + m = r) (hl : r ≤ 1000000) (hb : base ≤ w.heap.size) (hB : B ≤ base)
    (hK : ∀ A' c' w', OwnH w' B base A' c' (LL ++ MM) → Below base w w' → wpList Try.prog ops Q rest (a.put o.dst (.slice A' r c')) w') : wpList Try.prog ops Q (o :: rest) a w := by
  refine wpList_plain hg fun K hK' => ?_
  subst hp
  subst hr
  obtain ⟨A', c', w', hrun, ho', hb'⟩ := run_appendHeads w B base o.type A A2 c m c2 LL MM ho hi2 hl hb hB
  unfold Oper.wp
  simp [execOp, hop, resolve, invoke, builtin, hs, hx, hrun, Result.andThen]
  exact hK' _ _ (hK _ _ _ ho' hb')
end Go.Proofs.Ytanbhpdobpiafaa
