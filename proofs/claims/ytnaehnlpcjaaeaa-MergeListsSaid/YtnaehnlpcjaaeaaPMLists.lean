/- The walk of MergeLists. -/
import Derived.Test.YtnaehnlpcjaaeaaPMRefB
import Derived.Test.YtnaehnlpcjaaeaaPMRefK
import Derived.Test.YtnaehnlpcjaaeaaG7
namespace Go.Proofs.Ytnaehnlpcjaaeaa
open Go.RowKit

theorem uni_v (E : Int) (LA : Option Addr) (ln lc : Nat) (LL : List (List Int)) (w : World) (h : IntsLL w w.heap.size LA ln LL) (hln : ln ≤ 1000) (hT : LL.flatten.length ≤ 10000) (hE : ErrU LL E) :
    Calls Try.prog 13 #[.slice LA ln lc] w fun e w' => ∃ u A r c, e = .returned (.tuple #[.slice A r c, .int .i64 E]) ∧ Ints w' w'.heap.size A r u ∧ (E = 0 → UnionI LL u) ∧ (E = 1 → u = []) ∧ Below w.heap.size w w' := by
  rcases hE with ⟨h1, rfl⟩ | ⟨h1, rfl⟩
  · refine (union_v 0 LA ln lc LL w h hln (by omega) (.inl ⟨h1, rfl⟩)).mono ?_
    rintro e w' ⟨u, A, r, c, rfl, a1, _, a3, a4⟩
    exact ⟨u, A, r, c, rfl, a1, a3, fun h => (by cases h), a4⟩
  · have hL : ∀ L ∈ LL, L.length ≤ 9223372036854775806 := fun L hL => by
      have : L.length ≤ LL.flatten.length := (List.sublist_flatten_of_mem hL).length_le
      omega
    refine (union_err LA ln lc LL w h hL hln h1).mono ?_
    rintro e w' ⟨rfl, a4⟩
    exact ⟨[], none, 0, 0, rfl, Ints.nil_, fun h => (by cases h), fun _ => rfl, a4⟩
theorem bo_v (E : Int) (LA : Option Addr) (ln lc : Nat) (LL : List (List Int)) (w : World) (h : IntsLL w w.heap.size LA ln LL) (hln : ln ≤ 1000) (hT : LL.flatten.length ≤ 10000) (hE : ErrU LL E) :
    Calls Try.prog 15 #[.slice LA ln lc] w fun e w' => ∃ u A r c, e = .returned (.tuple #[.slice A r c, .int .i64 E]) ∧ Ints w' w'.heap.size A r u ∧ (E = 0 → BothI LL u) ∧ (E = 1 → u = []) ∧ Below w.heap.size w w' := by
  rcases hE with ⟨h1, rfl⟩ | ⟨h1, rfl⟩
  · refine (both_v 0 LA ln lc LL w h hln (by omega) (.inl ⟨h1, rfl⟩)).mono ?_
    rintro e w' ⟨u, A, r, c, rfl, a1, _, a3, a4⟩
    exact ⟨u, A, r, c, rfl, a1, a3, fun h => (by cases h), a4⟩
  · have hL : ∀ L ∈ LL, L.length ≤ 9223372036854775806 := fun L hL => by
      have : L.length ≤ LL.flatten.length := (List.sublist_flatten_of_mem hL).length_le
      omega
    refine (both_err LA ln lc LL w h hL hln h1).mono ?_
    rintro e w' ⟨rfl, a4⟩
    exact ⟨[], none, 0, 0, rfl, Ints.nil_, fun h => (by cases h), fun _ => rfl, a4⟩
theorem walk_v (E : Int) (LA : Option Addr) (ln lc : Nat) (LL : List (List Int)) (w : World) (h : IntsLL w w.heap.size LA ln LL) (hln : ln ≤ 1000) (hT : LL.flatten.length ≤ 10000) (hE : ErrU LL E) :
    Calls Try.prog 17 #[.slice LA ln lc] w fun e w' => ∃ ss A r c, e = .returned (.tuple #[.slice A r c, .int .i64 E]) ∧ Stops w' w'.heap.size A r ss ∧ r ≤ 10000 ∧ (∀ s ∈ ss, s.n = ln) ∧ (E = 0 → WalkI LL ln ss) ∧ (E = 1 → ss = []) ∧ Below w.heap.size w w' := by
  rcases hE with ⟨h1, rfl⟩ | ⟨h1, rfl⟩
  · refine (walk_ok LA ln lc LL w h hln (by omega) h1).mono ?_
    rintro e w' ⟨ss, A, r, c, rfl, a1, _, a3, a4, a5⟩
    have hl := a3.union.len
    rw [List.length_map, a1] at hl
    exact ⟨ss, A, r, c, rfl, a4, by omega, fun s hs => (a3.ins s hs).1, fun _ => a3, fun h => (by cases h), a5⟩
  · have hL : ∀ L ∈ LL, L.length ≤ 9223372036854775806 := fun L hL => by
      have : L.length ≤ LL.flatten.length := (List.sublist_flatten_of_mem hL).length_le
      omega
    refine (walk_err LA ln lc LL w h hL hln h1).mono ?_
    rintro e w' ⟨rfl, a4⟩
    exact ⟨[], none, 0, 0, rfl, Stops.nil_, Nat.zero_le _, fun s hs => (by cases hs), fun h => (by cases h), fun _ => rfl, a4⟩
/-- copies of lists, of the call's own, and what leads to them -/
structure RowsW (w : World) (base : Nat) (H : Option Addr) (ch : Nat) (rs : List RowT) : Prop where
  rows : w.ownsRow base 25 1 (.slice H rs.length ch) rs.length (rs.map RowT.hdr)
  ins : ∀ r ∈ rs, OwnI w base 3 r.A r.c r.L
section
variable {w w' w4 : World} {base ch : Nat} {H H4 : Option Addr} {rs : List RowT}
theorem RowsW.start (w : World) (base : Nat) : RowsW w base none 0 [] := ⟨w.ownsRow_nil base _ 1, fun s hs => by cases hs⟩
theorem RowsW.below {B : Nat} (h : RowsW w base H ch rs) (hb : Below B w w') (hB : w.heap.size ≤ B) : RowsW w' base H ch rs :=
  ⟨World.ownsRow.kept h.rows ⟨hb.os, hb.tape, hb.output, hb.size, fun i hi _ => hb.block i (by omega)⟩ (row := none) (by cases hh : (Value.slice H rs.length ch).ownBlock with | none => exact .inl rfl | some k => exact .inr (by simp)), fun s hs => (h.ins s hs).below hb hB⟩
theorem RowsW.heap (h : RowsW w base H ch rs) : H = none ∨ ∃ g cur, H = some ⟨g, 0, none⟩ ∧ base ≤ g ∧ w.heap[g]? = some (.cells cur 25 (0, 0)) := by
  rcases h.rows.2 with ⟨h1, _⟩ | ⟨g, cap, cur, h1, h2, h3, _⟩
  · injection h1 with h1; exact .inl h1
  · injection h1 with h1; exact .inr ⟨g, cur, h1, h2, h3⟩
theorem RowsW.kept {base' c' p : Nat} {A' : Option Addr} {xs : List Int} (h : RowsW w base H ch rs) (hO : OwnI w base' 3 A' c' xs) (hg : w.grownBy w' (Value.slice H p ch).ownBlock) : OwnI w' base' 3 A' c' xs := by
  refine hO.same_ fun b hb => hg.block b ((show OwnI w base' 3 (some ⟨b, 0, none⟩) c' xs from hb ▸ hO).ltL).2 ?_
  rcases h.heap with h1 | ⟨g, cur, h1, _, h3⟩
  · rw [h1]; intro e; cases e
  · rw [h1]
    intro e
    have : g = b := by simpa [Value.ownBlock] using e.symm
    subst this
    rcases hO.1.2 with ⟨h4, _⟩ | ⟨g2, cap, cur2, h4, _, h5, _⟩
    · injection h4 with h4; rw [h4] at hb; cases hb
    · injection h4 with h4
      rw [h4] at hb
      injection hb with hb; injection hb with hb
      subst hb
      rw [h3] at h5
      injection h5 with h5; injection h5 with _ h5
      exact absurd h5 (by decide)
theorem RowsW.ints (h : RowsW w base H ch rs) : IntsLL w w.heap.size H rs.length (rs.map (·.L)) := by
  refine ⟨by simp, fun h0 => ?_⟩
  rcases h.rows.2 with ⟨_, h1⟩ | ⟨g, cap, cur, hv, _, hg, _⟩
  · omega
  have hA : H = some ⟨g, 0, none⟩ := by injection hv
  subst hA
  refine ⟨g, 0, rfl, (h.rows.lt g rfl).2, fun k L hL => ?_⟩
  rw [List.getElem?_map] at hL
  obtain ⟨r, hr, rfl⟩ := Option.map_eq_some_iff.1 hL
  have hk := (List.getElem?_eq_some_iff.1 hr).1
  have hO := h.ins r (List.mem_of_getElem? hr)
  refine ⟨r.A, r.c, ?_, hO.len_cap, hO.ints⟩
  rw [Nat.zero_add]
  exact (h.rows.cellAt k (by simpa using hk)).trans (by rw [List.getElem?_map, hr]; rfl)
theorem RowsW.app {p c4 : Nat} {y : RowT} (h : RowsW w base H ch rs) (hO : w4.ownsRow base 25 1 (.slice H4 (rs ++ [y]).length c4) (rs ++ [y]).length ((rs ++ [y]).map RowT.hdr)) (hg : w.grownBy w4 (Value.slice H p ch).ownBlock) (hy : OwnI w base 3 y.A y.c y.L) : RowsW w4 base H4 c4 (rs ++ [y]) := by
  refine ⟨hO, fun s hs => ?_⟩
  have key : OwnI w base 3 s.A s.c s.L := by
    rcases List.mem_append.1 hs with hs | hs
    · exact h.ins s hs
    · rw [List.mem_singleton.1 hs]; exact hy
  exact h.kept key hg
theorem RowsW.grown {B p : Nat} {w0 : World} (h : RowsW w base H ch rs) (hb : Below B w0 w) (hg : w.grownBy w4 (Value.slice H p ch).ownBlock) (hB : B ≤ base) (hs : B ≤ w.heap.size) : Below B w0 w4 :=
  hb.grown hg hs fun k hk => by
    rcases h.heap with h1 | ⟨g', cur, h1, h2, _⟩
    · rw [h1] at hk; cases hk
    · rw [h1] at hk
      simp only [Value.ownBlock, Option.some.injEq] at hk
      omega
end
theorem wpList_appendRowT {ops : Array Oper} {rest : List Oper} {o : Oper} {a : Act} {w : World} {Q : Exit → Act → World → Prop}
    (hg : o.guard = none) (s x : Operand) (hop : o.op = Op.call { callee := Callee.builtin Builtin.append, args := #[s, x], argTypes := #[22, 22] })
    (base : Nat) (A : Option Addr) (c p r M : Nat) (y : RowT) (L : List RowT) (hs : a.eval s = .slice A p c) (hx : a.eval x = .slice (some ⟨w.heap.size, 0, none⟩) 1 1)
    (ho : w.ownsRow base 25 1 (.slice A p c) p (L.map RowT.hdr)) (hp : L.length = p) (hr : p + 1 = r) (hM : y.L.length = M) (hl : r ≤ 1000000) (hb : base ≤ w.heap.size)
    (hK : ∀ A' c' w', w'.ownsRow base 25 1 (.slice A' (L ++ [y]).length c') (L ++ [y]).length ((L ++ [y]).map RowT.hdr) → w.grownBy w' (Value.slice A p c).ownBlock → wpList Try.prog ops Q rest (a.put o.dst (.slice A' r c')) w') :
    wpList Try.prog ops Q (o :: rest) a (w.alloc (.cells #[.slice y.A M y.c] 25)) := by
  obtain ⟨i, hi, hz, h1, h2⟩ := info_parts infoRow
  subst hp
  subst hr
  subst hM
  refine wpList_append_own _ hg s x 22 hop base 25 i (.slice none 0 0) 1 24 Try.underlying22 hi hz h1 h2 (by rfl) (by decide) _ L.length (L.map RowT.hdr) hs (World.ownsRow.alloc ho _) ⟨w.heap.size, 0, none⟩ 1 1 [y.hdr] hx rfl ?_ (by simp [RowT.hdr, Value.oneCell']) (by unfold maxLen; omega) (by omega) (by simp; omega) ?_
  · intro j u hj
    match j, hj with
    | 0, hj => simp at hj; subst hj; simp [Addr.add, RowT.hdr]
    | j + 1, hj => simp at hj
  · intro v' w' hown hgr _
    obtain ⟨A', c', rfl⟩ : ∃ A' c', v' = .slice A' (L.length + 1) c' := by
      rcases hown.2 with ⟨rfl, h0⟩ | ⟨g, cap, cur, rfl, _⟩
      · omega
      · exact ⟨_, _, rfl⟩
    refine hK A' c' w' ?_ ((World.grownBy_alloc w _ _).trans hgr)
    rw [List.length_append, List.map_append]
    exact hown
end Go.Proofs.Ytnaehnlpcjaaeaa
