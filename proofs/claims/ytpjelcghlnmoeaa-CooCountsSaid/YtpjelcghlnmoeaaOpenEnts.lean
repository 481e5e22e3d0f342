/- How a slice of entries that came in reads. -/
import Derived.Test.YtpjelcghlnmoeaaOpenc
import Derived.Test.YtpjelcghlnmoeaaEnts
import Derived.Deep.Slices
import Derived.Deep.Fields
namespace Go.Proofs.Ytpjelcghlnmoeaa
open Go.ChangeShapes Go.WideShapes Go.ChangeAt Go.RowKit Go.Deep

section
variable {H : Type} {enc : TypeId × Value → H} {w : World} {base : Nat} {spare : Nat → Bool} {held : Bool}
set_option maxRecDepth 100000 in
/-- one entry's cells -/
theorem open_entry {f0 f1 : Field} {fuel : Nat} {a : Addr} {cs : List Value} {x : DataW H × List MemPlace} (hs : Try.prog.underlying 37 = some (.struct #[f0, f1])) (hone : oneCellFields Try.prog #[f0, f1] = true) (ht0 : f0.type = 22) (ht1 : f1.type = 2) (hl : cs.length = 2)
    (hc : ∀ i, i < 2 → w.cell? (a.add i) = cs[i]?) (h : DataW.trod enc Try.prog w base spare held fuel 37 cs = some x) :
    ∃ y : Ent, w.cell? (a.add 0) = some (.slice y.A y.n y.c) ∧ w.cell? (a.add 1) = some (.int .i64 y.v) ∧ Ints w w.heap.size y.A y.n y.cs ∧ y.n ≤ 9223372036854775807 ∧ y.n ≤ y.c ∧ -9223372036854775808 ≤ y.v ∧ y.v ≤ 9223372036854775807 := by
  obtain ⟨ys, k, _, _, _, hyl, hf⟩ := DataW.trod_struct hs h
  match cs, hl with
  | [v0, v1], _ =>
    match ys, hyl with
    | [y0, y1], _ =>
      obtain ⟨o0, k0⟩ := hone_of hone 0 f0 rfl
      obtain ⟨o1, k1⟩ := hone_of hone 1 f1 rfl
      have h0 := hf 0 f0 rfl
      have h1 := hf 1 f1 rfl
      rw [o0, k0, ht0] at h0
      rw [o1, k1, ht1] at h1
      simp only [List.drop_zero, List.take_succ_cons, List.take_zero, List.drop_succ_cons, List.getElem?_cons_zero, List.getElem?_cons_succ] at h0 h1
      obtain ⟨a0, l0, c0, e0⟩ := Go.Joins.slice_form Try.underlying22 h0
      simp only [List.cons.injEq, and_true] at e0
      subst e0
      have t0 : DataW.Trod enc Try.prog w base spare held 22 (.slice a0 l0 c0) y0.1 y0.2 := ⟨k, h0⟩
      obtain ⟨A, n, c, zs, f0', i0, b0, g0⟩ := open_numsc Try.underlying22 Try.underlying3 (by kernel_rfl) ⟨_, _, _, rfl⟩ t0
      obtain ⟨v, e1, _, hw⟩ := DataW.trod_int Try.underlying2 h1
      simp only [List.cons.injEq, and_true] at e1
      subst e1
      have hb := wf_bounds hw
      refine ⟨⟨A, n, c, zs, v⟩, ?_, ?_, i0, b0, g0, hb.1, hb.2⟩
      · have := hc 0 (by omega); rw [this, ← f0']; rfl
      · have := hc 1 (by omega); rw [this]; rfl
theorem add_two (b off i : Nat) : (Addr.add ⟨b, off, none⟩ i : Addr) = ⟨b, off + i, none⟩ := by
  by_cases h : i = 0
  · subst h; simp [Addr.add]
  · simp [Addr.add, h]
set_option maxRecDepth 100000 in
/-- a []api.Entry that came in -/
theorem open_ents {v : Value} {d : DataW H} {p : List MemPlace} (hf : ∃ a n c, v = .slice a n c) (h : DataW.Trod enc Try.prog w base spare held 23 v d p) :
    ∃ A n c es, v = .slice A n c ∧ Ents w w.heap.size A n es ∧ n ≤ 9223372036854775807 ∧ n ≤ c := by
  obtain ⟨a0, len0, cap0, rfl⟩ := hf
  obtain ⟨fuel, hf⟩ := h
  rcases open_slice Try.underlying23 hf with ⟨hcs, _⟩ | ⟨x, l, c, m, k, D, Pl, hcs, _, hl, hm, hmm, _, hi⟩
  · simp [Value.cells] at hcs
    obtain ⟨rfl, rfl, rfl⟩ := hcs
    exact ⟨none, 0, 0, [], rfl, Ents.nil_, by omega, Nat.le_refl _⟩
  · simp [Value.cells] at hcs
    obtain ⟨rfl, rfl, rfl⟩ := hcs
    have hC : Try.prog.cellsOf 37 = 2 := by kernel_rfl
    have key : ∀ i, i < len0 → ∃ y : Ent, w.cell? ((x.add (i * 2)).add 0) = some (.slice y.A y.n y.c) ∧ w.cell? ((x.add (i * 2)).add 1) = some (.int .i64 y.v) ∧ Ints w w.heap.size y.A y.n y.cs ∧ y.n ≤ 9223372036854775807 ∧ y.n ≤ y.c ∧ -9223372036854775808 ≤ y.v ∧ y.v ≤ 9223372036854775807 := by
      intro i hil
      have hml : len0 ≤ m := by rw [hmm]; split <;> omega
      obtain ⟨cs', hc, ht'⟩ := hi i (by omega)
      rw [hC] at hc
      obtain ⟨_, hlen, hat⟩ := World.cells?_some hc
      exact open_entry Try.underlying37 (by kernel_rfl) (by kernel_rfl) (by kernel_rfl) hlen hat ht'
    refine ⟨_, _, _, (List.range len0).map fun i => if hh : i < len0 then Classical.choose (key i hh) else ⟨none, 0, 0, [], 0⟩, rfl, ⟨by simp, ?_, ?_⟩, by unfold maxLen at hm; omega, hl⟩
    · intro y hy
      rw [List.mem_map] at hy
      obtain ⟨i, hir, rfl⟩ := hy
      have hil := List.mem_range.1 hir
      rw [dif_pos hil]
      exact (Classical.choose_spec (key i hil)).2.2
    · intro h0
      obtain ⟨b, off, spot⟩ := x
      have hs := (Classical.choose_spec (key 0 h0)).1
      have hspot : spot = none := by simpa [Addr.add] using World.cell?_spot hs
      subst hspot
      have hlt : b < w.heap.size := by have := lt_of_cell hs; simpa [Addr.add] using this
      refine ⟨b, off, rfl, hlt, fun q y hy => ?_⟩
      rw [List.getElem?_map, Option.map_eq_some_iff] at hy
      obtain ⟨i, hir, hiy⟩ := hy
      have hq : q < len0 := by have := (List.getElem?_eq_some_iff.1 hir).1; simpa using this
      have hqi : i = q := by have := (List.getElem?_eq_some_iff.1 hir).2; simpa using this.symm
      subst hqi
      rw [dif_pos hq] at hiy
      have hk := Classical.choose_spec (key i hq)
      rw [hiy] at hk
      obtain ⟨k0, k1, _⟩ := hk
      rw [add_two, add_two] at k0 k1
      rw [show off + 2 * i = off + i * 2 + 0 by omega]
      exact ⟨k0, k1⟩
set_option maxRecDepth 100000 in
/-- an api.Coo that came in -/
theorem open_coo {r : Reach} {b0 : Nat} {v : Value} {d : DataW H} {p : List MemPlace} (hv : Value.okWide Try.prog w r b0 25 v) (h : DataW.Trod enc Try.prog w base spare held 25 v d p) :
    ∃ A n c B m e xs es, v = .agg #[.slice A n c, .slice B m e] ∧ Ints w w.heap.size A n xs ∧ n ≤ 9223372036854775807 ∧ Ents w w.heap.size B m es ∧ m ≤ 9223372036854775807 ∧ n ≤ c ∧ m ≤ e := by
  obtain ⟨v0, v1, y0, y1, k, rfl, _, _, h0, h1⟩ := Go.Joins.open_agg2 Try.underlying25 (by kernel_rfl) (by kernel_rfl) hv h
  obtain ⟨a0, l0, c0, e0⟩ := Go.Joins.slice_form Try.underlying22 h0
  obtain ⟨a1, l1, c1, e1⟩ := Go.Joins.slice_form Try.underlying23 h1
  simp only [List.cons.injEq, and_true] at e0 e1
  have t0 : DataW.Trod enc Try.prog w base spare held 22 v0 y0.1 y0.2 := ⟨k, by rw [e0] at h0 ⊢; exact h0⟩
  have t1 : DataW.Trod enc Try.prog w base spare held 23 v1 y1.1 y1.2 := ⟨k, by rw [e1] at h1 ⊢; exact h1⟩
  obtain ⟨A, n, c, xs, f0, i0, b0, g0⟩ := open_numsc Try.underlying22 Try.underlying3 (by kernel_rfl) ⟨_, _, _, e0⟩ t0
  obtain ⟨B, m, e, es, f1, i1, b1, g1⟩ := open_ents ⟨_, _, _, e1⟩ t1
  exact ⟨A, n, c, B, m, e, xs, es, by rw [f0, f1], i0, b0, i1, b1, g0, g1⟩
end
end Go.Proofs.Ytpjelcghlnmoeaa
