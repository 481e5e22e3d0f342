/- append onto a slice of the call's own: where the result lies (the slice's own block, or a new one), so that two slices may grow side by side. Nothing is claimed of the program here. -/
import Derived.Test.YtanbhpdobpiafaaOnes
namespace Go.Proofs.Ytanbhpdobpiafaa
open Go.RowKit

theorem OwnI.grownL {w w' : World} {base c : Nat} {e : TypeId} {A : Option Addr} {xs : List Int} {row : Option Nat} (h : OwnI w base e A c xs) (hg : w.grownBy w' row) (hr : ∀ g, A = some ⟨g, 0, none⟩ → some g ≠ row) : OwnI w' base e A c xs := by
  refine ⟨h.1.kept hg ?_, h.2⟩
  rcases h.1.2 with ⟨hv, _⟩ | ⟨g', cap, cur, hv, _⟩
  · rw [hv]; exact .inl rfl
  · right
    have hA : A = some ⟨g', 0, none⟩ := by injection hv
    subst hA
    exact hr g' rfl
theorem OwnI.ltL {w : World} {base c g : Nat} {e : TypeId} {xs : List Int} (h : OwnI w base e (some ⟨g, 0, none⟩) c xs) : base ≤ g ∧ g < w.heap.size := h.1.lt g rfl
theorem own_block_neL {w : World} {base c r g : Nat} {e : TypeId} {A : Option Addr} {xs : List Int} (h : OwnI w base e A c xs) (hr : xs.length = r) (hne : A ≠ some ⟨g, 0, none⟩) : some g ≠ (Value.slice A r c).ownBlock := by
  subst hr
  rcases h.1.2 with ⟨hv, _⟩ | ⟨g', cap, cur, hv, _⟩
  · rw [hv]; intro h; cases h
  · have hA : A = some ⟨g', 0, none⟩ := by injection hv
    subst hA
    intro h
    simp only [Value.ownBlock, Option.some.injEq] at h
    exact hne (by rw [h])
/-- two slices of the call's own that share no block -/
def Apart (A B : Option Addr) : Prop := ∀ g, A = some ⟨g, 0, none⟩ → B ≠ some ⟨g, 0, none⟩

theorem append_where {P : Program} (w : World) (base : Nat) (t ty e : TypeId) (i : TypeInfo) (ht : P.underlying t = some (.slice e)) (hi : P.info? e = some i) (hz : i.zero = some (.int .i64 0)) (h1 : i.size = 1) (h2 : i.bytes = 8)
    (A A2 : Option Addr) (c m c2 B : Nat) (xs ys : List Int) (ho : OwnI w base e A c xs) (hs : Ints w B A2 m ys) (hl : xs.length + m ≤ 1000000) {A' : Option Addr} {r c' : Nat} {w' : World}
    (hrun : (Builtin.append_ #[t, t] ty #[.slice A xs.length c, .slice A2 m c2]).run P w = .ok (.slice A' r c') w') : ∀ g, A' = some ⟨g, 0, none⟩ → A = some ⟨g, 0, none⟩ ∨ w.heap.size ≤ g := by
  intro g hg
  have hlen := hs.1
  rcases Option.eq_none_or_eq_some A2 with rfl | ⟨ad, rfl⟩
  · obtain rfl : m = 0 := by
      rcases Nat.eq_zero_or_pos m with h0 | h0
      · exact h0
      · obtain ⟨b, off, e', _⟩ := hs.2.2 h0; cases e'
    have hr := run_appendNil (P := P) w base t ty e i ht hi (.slice A xs.length c) xs.length (xs.map (Value.int .i64)) ho.1 c2
    rw [hr] at hrun
    injection hrun with hrun _
    injection hrun with hrun _ _
    left; rw [hrun]; exact hg
  · have hl2 : (ys.map (Value.int .i64)).length = m * i.size := by rw [List.length_map, hlen, h1, Nat.mul_one]
    have hc := hs.cells_
    rcases ho.1.2 with ⟨hv, hn0⟩ | ⟨g0, cap, cur, hv, hbg, hgg, hnc, hcm, hcs, htk⟩
    · injection hv with hA hn hcc
      subst hA
      subst hcc
      rw [hn] at hrun
      rcases Nat.eq_zero_or_pos m with rfl | hm
      · obtain ⟨v', w2, hr, _, _, hiff⟩ := run_append_own (P := P) w 0 t ty e i (.int .i64 0) 1 8 ht hi hz h1 h2 rfl (by decide) (.slice none 0 0) 0 [] (World.ownsRow_nil w 0 e 1) ad 0 c2 (ys.map (Value.int .i64)) (by rw [hl2, h1]) hc (ints_one ys) (by unfold maxLen; omega) (by omega) (Nat.zero_le _)
        rw [hr] at hrun
        injection hrun with hrun _
        rw [hiff.2 ⟨rfl, rfl⟩] at hrun
        injection hrun with hrun _ _
        rw [← hrun] at hg; cases hg
      · have hr := run_append_nil (P := P) w t ty e i (.int .i64 0) ht hi hz ad m c2 (ys.map (Value.int .i64)) hl2 hc hm (by omega) (by rw [h2]; omega)
        rw [hr] at hrun
        injection hrun with hrun _
        injection hrun with hrun _ _
        right
        rw [← hrun] at hg
        injection hg with hg; injection hg with hg; omega
    · injection hv with hA hn hcc
      subst hA
      subst hcc
      by_cases hroom : xs.length + m ≤ c
      · have hr := run_append_room (P := P) w t ty e i ht hi g0 xs.length c cur hgg ad m c2 (ys.map (Value.int .i64)) hl2 hc (ints_one ys) hroom (by rw [hl2, h1, hcs]; omega)
        rw [hr] at hrun
        injection hrun with hrun _
        injection hrun with hrun _ _
        left; rw [hrun]; exact hg
      · have hr := run_append_grow (P := P) w t ty e i (.int .i64 0) ht hi hz ⟨g0, 0, none⟩ xs.length c (xs.map (Value.int .i64)) (by rw [List.length_map, h1, Nat.mul_one]) (ho.1.cells (g := g0) rfl) ad m c2 (ys.map (Value.int .i64)) hl2 hc (by omega) (by omega) (growslice_fits (by omega) (by rw [h2]; omega))
        rw [hr] at hrun
        injection hrun with hrun _
        injection hrun with hrun _ _
        right
        rw [← hrun] at hg
        injection hg with hg; injection hg with hg; omega

/-- append of integers: the result, its block, what stands -/
theorem wpList_appendWhere {P : Program} (w : World) {ops : Array Oper} {rest : List Oper} {o : Oper} {a : Act} {Q : Exit → Act → World → Prop}
    (hg : o.guard = none) (s x : Operand) (t : TypeId) (hop : o.op = Op.call { callee := Callee.builtin Builtin.append, args := #[s, x], argTypes := #[t, t] })
    (base : Nat) (e : TypeId) (i : TypeInfo) (ht : P.underlying t = some (.slice e)) (hi : P.info? e = some i) (hz : i.zero = some (.int .i64 0)) (h1 : i.size = 1) (h2 : i.bytes = 8)
    (A A2 : Option Addr) (c m c2 B p r : Nat) (xs ys : List Int) (hs : a.eval s = .slice A p c) (hx : a.eval x = .slice A2 m c2) (ho : OwnI w base e A c xs) (hp : xs.length = p) (hr : p + m = r) (hi2 : Ints w B A2 m ys) (hl : r ≤ 1000000) (hb : base ≤ w.heap.size)
    (hK : ∀ A' c' w', OwnI w' base e A' c' (xs ++ ys) → w.grownBy w' (Value.slice A p c).ownBlock → (∀ g, A' = some ⟨g, 0, none⟩ → A = some ⟨g, 0, none⟩ ∨ w.heap.size ≤ g) → wpList P ops Q rest (a.put o.dst (.slice A' r c')) w') : wpList P ops Q (o :: rest) a w := by
  refine wpList_plain hg fun K hK' => ?_
  subst hp
  subst hr
  obtain ⟨A', c', w', hrun, ho', hb'⟩ := run_appendInts (P := P) w base t o.type e i ht hi hz h1 h2 A A2 c m c2 B xs ys ho hi2 hl hb
  have hw := append_where (P := P) w base t o.type e i ht hi hz h1 h2 A A2 c m c2 B xs ys ho hi2 hl hrun
  unfold Oper.wp
  simp [execOp, hop, resolve, invoke, builtin, hs, hx, hrun, Result.andThen]
  exact hK' _ _ (hK _ _ _ ho' hb' hw)
end Go.Proofs.Ytanbhpdobpiafaa
