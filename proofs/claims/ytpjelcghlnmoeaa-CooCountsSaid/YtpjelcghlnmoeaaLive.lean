/- The contract of the statements' live: the chapter's examples hold, and nothing that lay there has turned. -/
import Derived.Test.YtpjelcghlnmoeaaClone
import Derived.Test.YtpjelcghlnmoeaaCoord
namespace Go.Proofs.Ytpjelcghlnmoeaa
open Go.RowKit

theorem Ints.of_new (W : World) (e : TypeId) (xs : List Int) (hb : ∀ x ∈ xs, -9223372036854775808 ≤ x ∧ x ≤ 9223372036854775807) :
    Ints (W.alloc (.cells (xs.map (Value.int .i64)).toArray e)) (W.heap.size + 1) (some ⟨W.heap.size, 0, none⟩) xs.length xs := by
  refine ⟨rfl, hb, fun _ => ⟨W.heap.size, 0, rfl, by omega, fun k x hx => ?_⟩⟩
  have h : (W.alloc (.cells (xs.map (Value.int .i64)).toArray e)).heap[W.heap.size]? = some (.cells (xs.map (Value.int .i64)).toArray e (0, 0)) := heap_alloc_new W _
  have := cell_of_row _ _ k _ e (0, 0) h
  rw [Nat.zero_add, this]
  simp [hx]

theorem live_at (w : World) : Calls Try.prog 52 #[.slice (some ⟨w.heap.size, 0, none⟩) 2 2, .slice (some ⟨w.heap.size + 1, 0, none⟩) 2 2] ((w.alloc (.cells #[.int .i64 2, .int .i64 3] 3)).alloc (.cells #[.int .i64 1, .int .i64 2] 3))
    fun e w' => e = .returned (.tuple #[.int .i64 5, .int .i64 0]) ∧ Below (w.heap.size + 1 + 1) ((w.alloc (.cells #[.int .i64 2, .int .i64 3] 3)).alloc (.cells #[.int .i64 1, .int .i64 2] 3)) w' := by
  have h1 := ((Ints.of_new w 3 [2, 3] (by simp)).alloc (by simp) (.cells #[.int .i64 1, .int .i64 2] 3)).more (B' := w.heap.size + 1 + 1) (by omega)
  have h2 := Ints.of_new (w.alloc (.cells #[.int .i64 2, .int .i64 3] 3)) 3 [1, 2] (by simp)
  rw [World.size_alloc] at h2
  have := at_any _ _ 2 2 2 2 [2, 3] [1, 2] ((w.alloc (.cells #[.int .i64 2, .int .i64 3] 3)).alloc (.cells #[.int .i64 1, .int .i64 2] 3)) (by simpa using h1) (by simpa using h2) (by omega) (by omega)
  have e : atF [2, 3] [1, 2] = (5, 0) := by decide
  rw [e] at this
  simpa using this
theorem live_zero (w : World) : Calls Try.prog 58 #[.slice (some ⟨w.heap.size, 0, none⟩) 1 1] (w.alloc (.cells #[.int .i64 2] 3))
    fun e w' => ∃ A1 c1 A2 c2, e = .returned (.tuple #[.agg #[.slice A1 1 c1, .slice A2 2 c2], .int .i64 0]) ∧ Below (w.heap.size + 1) (w.alloc (.cells #[.int .i64 2] 3)) w' := by
  have h1 := Ints.of_new w 3 [2] (by simp)
  have := zero_ok _ 1 1 [2] 2 (w.alloc (.cells #[.int .i64 2] 3)) (by simpa using h1) (by omega) (by decide) (by decide) (by omega)
  refine this.mono ?_
  rintro e w' ⟨A1, c1, A2, c2, rfl, _, _, hb⟩
  exact ⟨A1, c1, A2, c2, rfl, by simpa using hb⟩

end Go.Proofs.Ytpjelcghlnmoeaa
