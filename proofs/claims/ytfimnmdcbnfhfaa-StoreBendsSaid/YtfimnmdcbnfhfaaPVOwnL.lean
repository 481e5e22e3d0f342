/- Slices of the call's own, of levels. -/
import Derived.Test.YtfimnmdcbnfhfaaG18
import Derived.Test.YtfimnmdcbnfhfaaG11
import Derived.OwnWalk
import Derived.BigFrame
import Derived.Deep.RegionLaw
namespace Go.Proofs.Ytfimnmdcbnfhfaa
open Go.RowKit

def cellsV : List Lv → List Value
  | [] => []
  | x :: ss => .int .i64 x.k :: .int .i64 x.s :: .slice x.A x.n x.c :: .slice x.B x.m x.e :: cellsV ss
theorem cellsV_length (ss : List Lv) : (cellsV ss).length = 4 * ss.length := by
  induction ss with
  | nil => rfl
  | cons x ss ih => simp only [cellsV, List.length_cons, ih]; omega
theorem cellsV_append (a b : List Lv) : cellsV (a ++ b) = cellsV a ++ cellsV b := by
  induction a with
  | nil => rfl
  | cons x a ih => simp only [List.cons_append, cellsV, ih]
theorem cellsV_at {ss : List Lv} {k : Nat} {x : Lv} (h : ss[k]? = some x) : (cellsV ss)[4 * k]? = some (.int .i64 x.k) ∧ (cellsV ss)[4 * k + 1]? = some (.int .i64 x.s) ∧ (cellsV ss)[4 * k + 2]? = some (.slice x.A x.n x.c) ∧ (cellsV ss)[4 * k + 3]? = some (.slice x.B x.m x.e) := by
  induction ss generalizing k with
  | nil => simp at h
  | cons y ss ih =>
    cases k with
    | zero => simp at h; subst h; exact ⟨rfl, rfl, rfl, rfl⟩
    | succ k =>
      have := ih (k := k) (by simpa using h)
      exact ⟨by rw [← this.1]; rfl, by rw [← this.2.1]; rfl, by rw [← this.2.2.1]; rfl, by rw [← this.2.2.2]; rfl⟩
theorem cellsV_one (ss : List Lv) : ∀ u ∈ cellsV ss, u.oneCell' = true := by
  induction ss with
  | nil => simp [cellsV]
  | cons x ss ih =>
    intro u hu
    simp only [cellsV, List.mem_cons] at hu
    rcases hu with rfl | rfl | rfl | rfl | hu
    · simp [Value.oneCell']
    · simp [Value.oneCell']
    · simp [Value.oneCell']
    · simp [Value.oneCell']
    · exact ih u hu
set_option maxRecDepth 100000 in
theorem infoV : (Try.prog.info? 63).map (fun i => (i.zero, i.size, i.bytes)) = some (some (.agg #[.int .i64 0, .int .i64 0, .slice none 0 0, .slice none 0 0]), 4, 64) := by kernel_rfl
/-- a slice of the call's own -/
def OwnV (w : World) (base : Nat) (A : Option Addr) (c : Nat) (ss : List Lv) : Prop := w.ownsRow base 63 4 (.slice A ss.length c) ss.length (cellsV ss)
section
variable {w w' : World} {base B c : Nat} {A : Option Addr} {ss : List Lv}
theorem OwnV.nil_ (w : World) (base : Nat) : OwnV w base none 0 [] := w.ownsRow_nil base _ 4
theorem OwnV.below (h : OwnV w base A c ss) (hb : Below B w w') (hB : w.heap.size ≤ B) : OwnV w' base A c ss :=
  World.ownsRow.kept h ⟨hb.os, hb.tape, hb.output, hb.size, fun i hi _ => hb.block i (by omega)⟩ (row := none) (by cases hh : (Value.slice A ss.length c).ownBlock with | none => exact .inl rfl | some k => exact .inr (by simp))
theorem OwnV.mono {base' : Nat} (h : OwnV w base A c ss) (hb : base' ≤ base) : OwnV w base' A c ss := by
  refine ⟨h.1, ?_⟩
  rcases h.2 with hh | ⟨g, cap, cur, h1, h2, h3⟩
  · exact .inl hh
  · exact .inr ⟨g, cap, cur, h1, by omega, h3⟩
theorem OwnV.heap (h : OwnV w base A c ss) : A = none ∨ ∃ g cur, A = some ⟨g, 0, none⟩ ∧ base ≤ g ∧ w.heap[g]? = some (.cells cur 63 (0, 0)) := by
  rcases h.2 with ⟨h1, _⟩ | ⟨g, cap, cur, h1, h2, h3, _⟩
  · injection h1 with h1; exact .inl h1
  · injection h1 with h1; exact .inr ⟨g, cur, h1, h2, h3⟩
theorem OwnV.same (h : OwnV w base A c ss) (hq : ∀ b, A = some ⟨b, 0, none⟩ → w'.heap[b]? = w.heap[b]?) : OwnV w' base A c ss := by
  refine ⟨h.1, ?_⟩
  rcases h.2 with h1 | ⟨b, cap, cur, h1, h2, h3, h4⟩
  · exact .inl h1
  · refine .inr ⟨b, cap, cur, h1, h2, ?_, h4⟩
    injection h1 with h1
    rw [hq b h1]; exact h3
theorem OwnV.rows (h : OwnV w base A c ss) : ∀ (k : Nat) (x : Lv), ss[k]? = some x → ∃ g, A = some ⟨g, 0, none⟩ ∧ base ≤ g ∧ g < w.heap.size ∧ w.cell? ⟨g, 4 * k, none⟩ = some (.int .i64 x.k) ∧ w.cell? ⟨g, 4 * k + 1, none⟩ = some (.int .i64 x.s) ∧ w.cell? ⟨g, 4 * k + 2, none⟩ = some (.slice x.A x.n x.c) ∧ w.cell? ⟨g, 4 * k + 3, none⟩ = some (.slice x.B x.m x.e) := by
  intro k x hx
  have hk := (List.getElem?_eq_some_iff.1 hx).1
  rcases h.2 with ⟨_, h1⟩ | ⟨g, cap, cur, hv, hb, hg, _, _, _, hr⟩
  · omega
  · have hA : A = some ⟨g, 0, none⟩ := by injection hv
    obtain ⟨c1, c2, c3, c4⟩ := cellsV_at hx
    refine ⟨g, hA, hb, (Array.getElem?_eq_some_iff.1 hg).1, (cell_of_row _ _ _ _ _ _ hg).trans ?_, (cell_of_row _ _ _ _ _ _ hg).trans ?_, (cell_of_row _ _ _ _ _ _ hg).trans ?_, (cell_of_row _ _ _ _ _ _ hg).trans ?_⟩
    · rw [← hr, List.getElem?_take] at c1
      split at c1
      · simpa using c1
      · cases c1
    · rw [← hr, List.getElem?_take] at c2
      split at c2
      · simpa using c2
      · cases c2
    · rw [← hr, List.getElem?_take] at c3
      split at c3
      · simpa using c3
      · cases c3
    · rw [← hr, List.getElem?_take] at c4
      split at c4
      · simpa using c4
      · cases c4
theorem OwnV.lenCap (h : OwnV w base A c ss) : ss.length ≤ c := by
  rcases h.2 with ⟨h1, h2⟩ | ⟨g, cap, cur, h1, _, _, h5, _⟩
  · omega
  · injection h1 with _ _ h1; omega
end

theorem OwnV.lvs {w : World} {base c : Nat} {A : Option Addr} {ss : List Lv} (h : OwnV w base A c ss) (hx : ∀ x ∈ ss, x.In w w.heap.size) : Lvs w w.heap.size A ss.length ss := by
  refine ⟨rfl, hx, fun h0 => ?_⟩
  obtain ⟨g, e, _, hlt, _⟩ := h.rows 0 _ (List.getElem?_eq_getElem h0)
  refine ⟨g, 0, e, hlt, fun k x hk => ?_⟩
  obtain ⟨g', e', _, _, a1, a2, a3, a4⟩ := h.rows k x hk
  rw [e] at e'
  injection e' with e'; injection e' with e'
  subst e'
  rw [Nat.zero_add, Nat.mul_comm k 4]
  exact ⟨a1, a2, a3, a4⟩
/-- one level more, and what was written -/
theorem wpList_appendLv {ops : Array Oper} {rest : List Oper} {o : Oper} {a : Act} {w : World} {Q : Exit → Act → World → Prop}
    (hg : o.guard = none) (s x : Operand) (hop : o.op = Op.call { callee := Callee.builtin Builtin.append, args := #[s, x], argTypes := #[31, 31] })
    (base : Nat) (A : Option Addr) (c p r g : Nat) (y : Lv) (L : List Lv) (hgz : w.heap.size = g) (hs : a.eval s = .slice A p c) (hx : a.eval x = .slice (some ⟨g, 0, none⟩) 1 1)
    (ho : OwnV w base A c L) (hp : L.length = p) (hr : p + 1 = r) (hl : r ≤ 1000000) (hb : base ≤ w.heap.size)
    (hK : ∀ A' c' w', OwnV w' base A' c' (L ++ [y]) → w.grownBy w' (Value.slice A p c).ownBlock → wpList Try.prog ops Q rest (a.put o.dst (.slice A' r c')) w') :
    wpList Try.prog ops Q (o :: rest) a (w.alloc (.cells #[.int .i64 y.k, .int .i64 y.s, .slice y.A y.n y.c, .slice y.B y.m y.e] 63)) := by
  obtain ⟨i, hi, hz, h1, h2⟩ := info_parts infoV
  subst hp
  subst hr
  subst hgz
  refine wpList_append_own (w.alloc (.cells #[.int .i64 y.k, .int .i64 y.s, .slice y.A y.n y.c, .slice y.B y.m y.e] 63)) hg s x 31 hop base 63 i (.agg #[.int .i64 0, .int .i64 0, .slice none 0 0, .slice none 0 0]) 4 64 Try.underlying31 hi hz h1 h2 (by rfl) (by decide) _ L.length (cellsV L) hs (World.ownsRow.alloc ho _) ⟨w.heap.size, 0, none⟩ 1 1 [.int .i64 y.k, .int .i64 y.s, .slice y.A y.n y.c, .slice y.B y.m y.e] hx rfl ?_ (cellsV_one [y]) (by unfold maxLen; omega) (by omega) (by simp; omega) ?_
  · intro j u hj
    match j, hj with
    | 0, hj => simp at hj; subst hj; simp [Addr.add]
    | 1, hj => simp at hj; subst hj; simp [Addr.add]
    | 2, hj => simp at hj; subst hj; simp [Addr.add]
    | 3, hj => simp at hj; subst hj; simp [Addr.add]
    | j + 4, hj => simp at hj
  · intro v' w' hown hgr _
    obtain ⟨A', c', rfl⟩ : ∃ A' c', v' = .slice A' (L.length + 1) c' := by
      rcases hown.2 with ⟨rfl, h0⟩ | ⟨g, cap, cur, rfl, _⟩
      · omega
      · exact ⟨_, _, rfl⟩
    refine hK A' c' w' ?_ ((World.grownBy_alloc w _ _).trans hgr)
    unfold OwnV
    rw [List.length_append, cellsV_append]
    exact hown
/-- what is of another type stays over an append of levels -/
theorem OwnV.ty_kept {w w' : World} {base' c' g p : Nat} {A' : Option Addr} {L : List Lv} {cs : Array Value} {t : TypeId} {fr : Nat × Nat} (hS : OwnV w base' A' c' L) (h : w.heap[g]? = some (.cells cs t fr)) (ht : t ≠ 63) (hg : w.grownBy w' (Value.slice A' p c').ownBlock) : w'.heap[g]? = some (.cells cs t fr) := by
  refine (hg.block g (Array.getElem?_eq_some_iff.1 h).1 ?_).trans h
  rcases hS.heap with h1 | ⟨g', cur, h1, _, hh⟩
  · rw [h1]; simp [Value.ownBlock]
  · rw [h1]
    intro e
    have e' : g = g' := by simpa [Value.ownBlock] using e
    subst e'
    rw [h] at hh
    injection hh with hh
    injection hh with _ hh
    exact ht hh

end Go.Proofs.Ytfimnmdcbnfhfaa
