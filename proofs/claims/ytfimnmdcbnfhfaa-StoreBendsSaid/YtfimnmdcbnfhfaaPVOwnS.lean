/- Slices of the call's own, of specs. -/
import Derived.Test.YtfimnmdcbnfhfaaG8
import Derived.Test.YtfimnmdcbnfhfaaG4
import Derived.Test.YtfimnmdcbnfhfaaG11
import Derived.OwnWalk
import Derived.BigFrame
import Derived.Deep.RegionLaw
namespace Go.Proofs.Ytfimnmdcbnfhfaa
open Go.RowKit

def cellsS : List Sp → List Value
  | [] => []
  | x :: ss => .int .i64 x.k :: .int .i64 x.m :: .int .i64 x.s :: cellsS ss
theorem cellsS_length (ss : List Sp) : (cellsS ss).length = 3 * ss.length := by
  induction ss with
  | nil => rfl
  | cons x ss ih => simp only [cellsS, List.length_cons, ih]; omega
theorem cellsS_append (a b : List Sp) : cellsS (a ++ b) = cellsS a ++ cellsS b := by
  induction a with
  | nil => rfl
  | cons x a ih => simp only [List.cons_append, cellsS, ih]
theorem cellsS_at {ss : List Sp} {k : Nat} {x : Sp} (h : ss[k]? = some x) : (cellsS ss)[3 * k]? = some (.int .i64 x.k) ∧ (cellsS ss)[3 * k + 1]? = some (.int .i64 x.m) ∧ (cellsS ss)[3 * k + 2]? = some (.int .i64 x.s) := by
  induction ss generalizing k with
  | nil => simp at h
  | cons y ss ih =>
    cases k with
    | zero => simp at h; subst h; exact ⟨rfl, rfl, rfl⟩
    | succ k =>
      have := ih (k := k) (by simpa using h)
      exact ⟨by rw [← this.1]; rfl, by rw [← this.2.1]; rfl, by rw [← this.2.2]; rfl⟩
theorem cellsS_one (ss : List Sp) : ∀ u ∈ cellsS ss, u.oneCell' = true := by
  induction ss with
  | nil => simp [cellsS]
  | cons x ss ih =>
    intro u hu
    simp only [cellsS, List.mem_cons] at hu
    rcases hu with rfl | rfl | rfl | hu
    · simp [Value.oneCell']
    · simp [Value.oneCell']
    · simp [Value.oneCell']
    · exact ih u hu
set_option maxRecDepth 100000 in
theorem infoS : (Try.prog.info? 66).map (fun i => (i.zero, i.size, i.bytes)) = some (some (.agg #[.int .i64 0, .int .i64 0, .int .i64 0]), 3, 24) := by kernel_rfl
/-- a slice of the call's own -/
def OwnS (w : World) (base : Nat) (A : Option Addr) (c : Nat) (ss : List Sp) : Prop := w.ownsRow base 66 3 (.slice A ss.length c) ss.length (cellsS ss)
section
variable {w w' : World} {base B c : Nat} {A : Option Addr} {ss : List Sp}
theorem OwnS.nil_ (w : World) (base : Nat) : OwnS w base none 0 [] := w.ownsRow_nil base _ 3
theorem OwnS.below (h : OwnS w base A c ss) (hb : Below B w w') (hB : w.heap.size ≤ B) : OwnS w' base A c ss :=
  World.ownsRow.kept h ⟨hb.os, hb.tape, hb.output, hb.size, fun i hi _ => hb.block i (by omega)⟩ (row := none) (by cases hh : (Value.slice A ss.length c).ownBlock with | none => exact .inl rfl | some k => exact .inr (by simp))
theorem OwnS.mono {base' : Nat} (h : OwnS w base A c ss) (hb : base' ≤ base) : OwnS w base' A c ss := by
  refine ⟨h.1, ?_⟩
  rcases h.2 with hh | ⟨g, cap, cur, h1, h2, h3⟩
  · exact .inl hh
  · exact .inr ⟨g, cap, cur, h1, by omega, h3⟩
theorem OwnS.heap (h : OwnS w base A c ss) : A = none ∨ ∃ g cur, A = some ⟨g, 0, none⟩ ∧ base ≤ g ∧ w.heap[g]? = some (.cells cur 66 (0, 0)) := by
  rcases h.2 with ⟨h1, _⟩ | ⟨g, cap, cur, h1, h2, h3, _⟩
  · injection h1 with h1; exact .inl h1
  · injection h1 with h1; exact .inr ⟨g, cur, h1, h2, h3⟩
theorem OwnS.same (h : OwnS w base A c ss) (hq : ∀ b, A = some ⟨b, 0, none⟩ → w'.heap[b]? = w.heap[b]?) : OwnS w' base A c ss := by
  refine ⟨h.1, ?_⟩
  rcases h.2 with h1 | ⟨b, cap, cur, h1, h2, h3, h4⟩
  · exact .inl h1
  · refine .inr ⟨b, cap, cur, h1, h2, ?_, h4⟩
    injection h1 with h1
    rw [hq b h1]; exact h3
theorem OwnS.rows (h : OwnS w base A c ss) : ∀ (k : Nat) (x : Sp), ss[k]? = some x → ∃ g, A = some ⟨g, 0, none⟩ ∧ base ≤ g ∧ g < w.heap.size ∧ w.cell? ⟨g, 3 * k, none⟩ = some (.int .i64 x.k) ∧ w.cell? ⟨g, 3 * k + 1, none⟩ = some (.int .i64 x.m) ∧ w.cell? ⟨g, 3 * k + 2, none⟩ = some (.int .i64 x.s) := by
  intro k x hx
  have hk := (List.getElem?_eq_some_iff.1 hx).1
  rcases h.2 with ⟨_, h1⟩ | ⟨g, cap, cur, hv, hb, hg, _, _, _, hr⟩
  · omega
  · have hA : A = some ⟨g, 0, none⟩ := by injection hv
    obtain ⟨c1, c2, c3⟩ := cellsS_at hx
    refine ⟨g, hA, hb, (Array.getElem?_eq_some_iff.1 hg).1, (cell_of_row _ _ _ _ _ _ hg).trans ?_, (cell_of_row _ _ _ _ _ _ hg).trans ?_, (cell_of_row _ _ _ _ _ _ hg).trans ?_⟩
    · rw [← hr, List.getElem?_take] at c1
      split at c1
      · simpa using c1
      · cases c1
    · rw [← hr, List.getElem?_take] at c2
      split at c2
      · simpa using c2
      · cases c2
    · rw [← hr, List.getElem?_take] at c3
      split at c3
      · simpa using c3
      · cases c3
theorem OwnS.lenCap (h : OwnS w base A c ss) : ss.length ≤ c := by
  rcases h.2 with ⟨h1, h2⟩ | ⟨g, cap, cur, h1, _, _, h5, _⟩
  · omega
  · injection h1 with _ _ h1; omega
end

theorem OwnS.specs {w : World} {base c : Nat} {A : Option Addr} {ss : List Sp} (h : OwnS w base A c ss) (hx : ∀ x ∈ ss, x.ok) : Specs w w.heap.size A ss.length ss := by
  refine ⟨rfl, hx, fun h0 => ?_⟩
  obtain ⟨g, e, _, hlt, _⟩ := h.rows 0 _ (List.getElem?_eq_getElem h0)
  refine ⟨g, 0, e, hlt, fun k x hk => ?_⟩
  obtain ⟨g', e', _, _, a1, a2, a3⟩ := h.rows k x hk
  rw [e] at e'
  injection e' with e'; injection e' with e'
  subst e'
  rw [Nat.zero_add, Nat.mul_comm k 3]
  exact ⟨a1, a2, a3⟩
theorem Specs.cells_ {w : World} {B n : Nat} {ad : Addr} {es : List Sp} (h : Specs w B (some ad) n es) : ∀ (j : Nat) (u : Value), (cellsS es)[j]? = some u → w.cell? (ad.add j) = some u := by
  intro j u hu
  have hj := (List.getElem?_eq_some_iff.1 hu).1
  rw [cellsS_length] at hj
  obtain ⟨hl, _, hc⟩ := h
  obtain ⟨b, off, e, _, hx⟩ := hc (by omega)
  injection e with e
  subst e
  have hk : j / 3 < es.length := by omega
  have hx' := hx (j / 3) _ (List.getElem?_eq_getElem hk)
  have hce := cellsS_at (List.getElem?_eq_getElem hk)
  have hadd : (Addr.add ⟨b, off, none⟩ j : Addr) = ⟨b, off + j, none⟩ := by
    by_cases h0 : j = 0
    · subst h0; simp [Addr.add]
    · simp [Addr.add, h0]
  rw [hadd]
  generalize es[j / 3] = y at hx' hce
  generalize hq : j / 3 = q at hx' hce
  rcases (by omega : j = 3 * q ∨ j = 3 * q + 1 ∨ j = 3 * q + 2) with rfl | rfl | rfl
  · rw [← hu, hce.1, ← hx'.1, Nat.mul_comm]
  · rw [← hu, hce.2.1, ← hx'.2.1, Nat.mul_comm, Nat.add_assoc]
  · rw [← hu, hce.2.2, ← hx'.2.2, Nat.mul_comm, Nat.add_assoc]
theorem run_appendNilS (w : World) (base : Nat) (ty : TypeId) (v : Value) (n : Nat) (xs : List Value) (hown : w.ownsRow base 66 3 v n xs) (c : Nat) :
    (Builtin.append_ #[23, 23] ty #[v, .slice none 0 c]).run Try.prog w = .ok v w := by
  obtain ⟨i, hi, hz, h1, h2⟩ := info_parts infoS
  have ht := Try.underlying23
  rcases hown.2 with ⟨rfl, rfl⟩ | ⟨g, cap, cur, rfl, _, _, hnc, _⟩ <;> simp [Builtin.append_, run_underlying ht, sizeOf, typeInfo, Builtin.lenOf, Builtin.firstCells, *, storeCells]
theorem run_appendSpecs (w : World) (base : Nat) (ty : TypeId) (A A2 : Option Addr) (c m c2 B : Nat) (xs ys : List Sp) (ho : OwnS w base A c xs) (hs : Specs w B A2 m ys) (hl : xs.length + m ≤ 1000000) (hb : base ≤ w.heap.size) :
    ∃ A' c' w', (Builtin.append_ #[23, 23] ty #[.slice A xs.length c, .slice A2 m c2]).run Try.prog w = .ok (.slice A' (xs.length + m) c') w' ∧ OwnS w' base A' c' (xs ++ ys) ∧ w.grownBy w' (Value.slice A xs.length c).ownBlock := by
  obtain ⟨i, hi, hz, h1, h2⟩ := info_parts infoS
  have hlen := hs.1
  rcases Option.eq_none_or_eq_some A2 with rfl | ⟨ad, rfl⟩
  · obtain rfl : m = 0 := by
      rcases Nat.eq_zero_or_pos m with h0 | h0
      · exact h0
      · obtain ⟨b, off, e', _⟩ := hs.2.2 h0; cases e'
    obtain rfl : ys = [] := List.eq_nil_of_length_eq_zero hlen
    have hrun := run_appendNilS w base ty (.slice A xs.length c) xs.length (cellsS xs) ho c2
    exact ⟨A, c, w, by simpa using hrun, by simpa using ho, World.grownBy.refl w _⟩
  · obtain ⟨v', w', hr, h3, h4, _⟩ := run_append_own (P := Try.prog) w base 23 ty 66 i (.agg #[.int .i64 0, .int .i64 0, .int .i64 0]) 3 24 Try.underlying23 hi hz h1 h2 rfl (by decide) (.slice A xs.length c) xs.length (cellsS xs) ho ad m c2 (cellsS ys) (by rw [cellsS_length, hlen]; omega) hs.cells_ (cellsS_one ys) (by unfold maxLen; omega) (by omega) hb
    obtain ⟨A', c', rfl⟩ : ∃ A' c', v' = .slice A' (xs.length + m) c' := by
      rcases h3.2 with ⟨rfl, h0⟩ | ⟨g, cap, cur, rfl, _⟩
      · rw [h0]; exact ⟨_, _, rfl⟩
      · exact ⟨_, _, rfl⟩
    refine ⟨A', c', w', hr, ?_, h4⟩
    unfold OwnS
    rw [List.length_append, hlen, cellsS_append]
    exact h3
/-- specs behind nothing -/
theorem step_cloneSpecs {ops : Array Oper} {o : Oper} {a : Act} {w : World} {K : Act → World → Prop} {Q : Exit → Act → World → Prop} {E : Prop}
    (hg : o.guard = none) (s x : Operand) (hop : o.op = Op.call { callee := Callee.builtin Builtin.append, args := #[s, x], argTypes := #[23, 23] })
    (A2 : Option Addr) (m c2 B : Nat) (ys : List Sp) (hs : a.eval s = .slice none 0 0) (hx : a.eval x = .slice A2 m c2) (hi2 : Specs w B A2 m ys) (hl : m ≤ 1000000)
    (hK : ∀ A' c' w', OwnS w' w.heap.size A' c' ys → Below w.heap.size w w' → K (a.put o.dst (.slice A' m c')) w') :
    if Region.wanted o (yielded ops a.tmps) = true then Oper.wp Try.prog o a w K Q else E := by
  have hw : Region.wanted o (yielded ops a.tmps) = true := by simp [Region.wanted, hg]
  rw [if_pos hw]
  obtain ⟨A', c', w', hrun, ho', hb'⟩ := run_appendSpecs w w.heap.size o.type none A2 0 m c2 B [] ys (OwnS.nil_ _ _) hi2 (by simpa using hl) (Nat.le_refl _)
  simp only [List.length_nil, Nat.zero_add, List.nil_append] at hrun ho'
  unfold Oper.wp
  simp [execOp, hop, resolve, invoke, builtin, hs, hx, hrun, Result.andThen]
  exact hK _ _ _ ho' (below_of_none hb')
/-- numbers behind nothing -/
theorem step_cloneInts {P : Program} {ops : Array Oper} {o : Oper} {a : Act} {w : World} {K : Act → World → Prop} {Q : Exit → Act → World → Prop} {E : Prop}
    (hg : o.guard = none) (s x : Operand) (t : TypeId) (hop : o.op = Op.call { callee := Callee.builtin Builtin.append, args := #[s, x], argTypes := #[t, t] })
    (e : TypeId) (i : TypeInfo) (ht : P.underlying t = some (.slice e)) (hi : P.info? e = some i) (hz : i.zero = some (.int .i64 0)) (h1 : i.size = 1) (h2 : i.bytes = 8)
    (A2 : Option Addr) (m c2 B : Nat) (ys : List Int) (hs : a.eval s = .slice none 0 0) (hx : a.eval x = .slice A2 m c2) (hi2 : Ints w B A2 m ys) (hl : m ≤ 1000000)
    (hK : ∀ A' c' w', OwnI w' w.heap.size e A' c' ys → Below w.heap.size w w' → K (a.put o.dst (.slice A' m c')) w') :
    if Region.wanted o (yielded ops a.tmps) = true then Oper.wp P o a w K Q else E :=
  step_appendInts hg s x t hop w.heap.size e i ht hi hz h1 h2 none A2 0 m c2 B 0 m [] ys hs hx (OwnI.nil_ _ _ _) rfl (Nat.zero_add _) hi2 hl (Nat.le_refl _) fun A' c' w' ho hb => hK A' c' w' (by simpa using ho) (below_of_none hb)

end Go.Proofs.Ytfimnmdcbnfhfaa
