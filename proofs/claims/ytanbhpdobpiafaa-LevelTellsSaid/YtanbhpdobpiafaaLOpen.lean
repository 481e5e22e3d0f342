/- How a level that came in reads. -/
import Derived.Test.YtanbhpdobpiafaaOpenc
namespace Go.Proofs.Ytanbhpdobpiafaa
open Go.ChangeShapes Go.WideShapes Go.ChangeAt Go.RowKit

section
variable {H : Type} {enc : TypeId × Value → H} {w : World} {base : Nat} {spare : Nat → Bool} {held : Bool}
set_option maxRecDepth 100000 in
theorem open_level {r : Reach} {b0 : Nat} {v : Value} {d : DataW H} {p : List MemPlace} (hv : Value.okWide Try.prog w r b0 24 v) (h : DataW.Trod enc Try.prog w base spare held 24 v d p) :
    ∃ K S A n c B m e xs ys, v = .agg #[.int .i64 K, .int .i64 S, .slice A n c, .slice B m e] ∧ Ints w w.heap.size A n xs ∧ n ≤ 9223372036854775807 ∧ Ints w w.heap.size B m ys ∧ m ≤ 9223372036854775807 ∧ n ≤ c ∧ m ≤ e ∧ (-9223372036854775808 ≤ K ∧ K ≤ 9223372036854775807) ∧ (-9223372036854775808 ≤ S ∧ S ≤ 9223372036854775807) := by
  obtain ⟨v0, v1, v2, v3, y0, y1, y2, y3, k, rfl, _, _, h0, h1, h2, h3⟩ := Go.Joins.open_agg4 Try.underlying24 (by kernel_rfl) (by kernel_rfl) hv h
  obtain ⟨K, eK, _, hK⟩ := DataW.trod_int Try.underlying3 h0
  obtain ⟨S, eS, _, hS⟩ := DataW.trod_int Try.underlying3 h1
  obtain ⟨a2, l2, c2, e2⟩ := Go.Joins.slice_form Try.underlying22 h2
  obtain ⟨a3, l3, c3, e3⟩ := Go.Joins.slice_form Try.underlying22 h3
  simp only [List.cons.injEq, and_true] at eK eS e2 e3
  have t2 : DataW.Trod enc Try.prog w base spare held 22 v2 y2.1 y2.2 := ⟨k, by rw [e2] at h2 ⊢; exact h2⟩
  have t3 : DataW.Trod enc Try.prog w base spare held 22 v3 y3.1 y3.2 := ⟨k, by rw [e3] at h3 ⊢; exact h3⟩
  obtain ⟨A, n, c, xs, f2, i2, b2, g2⟩ := open_numsc Try.underlying22 Try.underlying3 (by kernel_rfl) ⟨_, _, _, e2⟩ t2
  obtain ⟨B, m, e, ys, f3, i3, b3, g3⟩ := open_numsc Try.underlying22 Try.underlying3 (by kernel_rfl) ⟨_, _, _, e3⟩ t3
  exact ⟨K, S, A, n, c, B, m, e, xs, ys, by rw [eK, eS, f2, f3], i2, b2, i3, b3, g2, g3, wf_bounds hK, wf_bounds hS⟩
end
end Go.Proofs.Ytanbhpdobpiafaa
