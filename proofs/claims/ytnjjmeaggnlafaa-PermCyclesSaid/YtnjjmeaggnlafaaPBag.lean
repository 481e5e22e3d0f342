/- Slices of the call's own into which a statement writes, with what is laid beside them. -/
import Derived.Test.YtnjjmeaggnlafaaPRefB
namespace Go.Proofs.Ytnjjmeaggnlafaa
open Go.RowKit

theorem OwnI.apart_ {w : World} {base g bt : Nat} {e : TypeId} {c : Nat} {xs : List Int} (h : OwnI w base e (some ⟨g, 0, none⟩) c xs) (hne : g ≠ bt) (j : Nat) (u : Value) : OwnI (w.setCell ⟨bt, j, none⟩ u) base e (some ⟨g, 0, none⟩) c xs := by
  refine ⟨h.1.kept (row := some bt) ⟨rfl, rfl, rfl, by simp [World.setCell], fun i hi hn => Below.heap_setCell w ⟨bt, j, none⟩ u i (fun e => hn (by rw [e]))⟩ ?_, h.2⟩
  right
  simp only [Value.ownBlock]
  intro he
  injection he with he
  exact hne he
theorem wrap_fits (n : Int) : -9223372036854775808 ≤ wrap64 n ∧ wrap64 n ≤ 9223372036854775807 := by
  unfold wrap64; omega
/-- slices of the call's own: where each begins, how long it is, its room -/
def Bag (w : World) (base : Nat) (S : List (Option Addr × Nat × Nat)) : Prop := ∀ t ∈ S, ∃ L : List Int, L.length = t.2.1 ∧ OwnI w base 3 t.1 t.2.2 L
theorem OwnI.any_set {w : World} {base g j c : Nat} {A : Option Addr} {L : List Int} (h : OwnI w base 3 A c L) (v : Int) (hv : -9223372036854775808 ≤ v ∧ v ≤ 9223372036854775807) :
    ∃ L' : List Int, L'.length = L.length ∧ OwnI (w.setCell ⟨g, j, none⟩ (.int .i64 v)) base 3 A c L' := by
  cases hA : A with
  | none =>
    subst hA
    refine ⟨L, rfl, ?_, h.2⟩
    rcases h.1.2 with ⟨hv2, h0⟩ | ⟨g', cap, cur, hv2, _⟩
    · exact ⟨h.1.1, .inl ⟨hv2, h0⟩⟩
    · cases hv2
  | some a =>
    subst hA
    rcases h.1.2 with ⟨hv2, _⟩ | ⟨g', cap, cur, hv2, _⟩
    · cases hv2
    · have ha : a = ⟨g', 0, none⟩ := by injection hv2 with e; injection e
      subst ha
      by_cases hg : g' = g
      · subst hg
        exact ⟨L.set j v, by simp, h.set_ j v hv⟩
      · exact ⟨L, rfl, h.apart_ hg j _⟩
theorem Bag.set {w : World} {base : Nat} {S : List (Option Addr × Nat × Nat)} (h : Bag w base S) (g j : Nat) (v : Int) (hv : -9223372036854775808 ≤ v ∧ v ≤ 9223372036854775807) : Bag (w.setCell ⟨g, j, none⟩ (.int .i64 v)) base S := by
  intro t ht
  obtain ⟨L, h1, h2⟩ := h t ht
  obtain ⟨L', h3, h4⟩ := h2.any_set (g := g) (j := j) v hv
  exact ⟨L', h3.trans h1, h4⟩
theorem Bag.at_ {w : World} {base j m c : Nat} {A : Option Addr} {S : List (Option Addr × Nat × Nat)} (h : Bag w base S) (ht : (A, m, c) ∈ S) (hj : j < m) :
    ∃ (g : Nat) (y : Int), A = some ⟨g, 0, none⟩ ∧ base ≤ g ∧ w.cell? ⟨g, j, none⟩ = some (.int .i64 y) ∧ w.frozen? ⟨g, j, none⟩ = false ∧ (-9223372036854775808 ≤ y ∧ y ≤ 9223372036854775807) ∧ ∃ cs, w.heap[g]? = some (.cells cs 3 (0, 0)) := by
  obtain ⟨L, h1, h2⟩ := h _ ht
  dsimp only at h1 h2
  obtain ⟨g, rfl, hg1, hg2⟩ := h2.some_ (by omega)
  obtain ⟨y, hy⟩ : ∃ y, L[j]? = some y := ⟨_, List.getElem?_eq_getElem (by omega)⟩
  obtain ⟨hc, hf⟩ := h2.cell_ hy
  obtain ⟨post, hb, _⟩ := h2.blk
  exact ⟨g, y, rfl, hg1, hc, hf, h2.2 y (List.mem_of_getElem? hy), _, hb⟩
theorem blk_other {w : World} {g g3 j : Nat} {cs cs3 : Array Value} {v : Value} (h : w.heap[g]? = some (.cells cs 3 (0, 0))) (h3 : w.heap[g3]? = some (.cells cs3 22 (0, 0))) : (w.setCell ⟨g, j, none⟩ v).heap[g3]? = some (.cells cs3 22 (0, 0)) := by
  rw [Below.heap_setCell w ⟨g, j, none⟩ v g3 (by
    intro e
    simp only at e
    subst e
    rw [h] at h3
    injection h3 with h3
    injection h3 with _ h3 _
    exact absurd h3 (by decide))]
  exact h3
end Go.Proofs.Ytnjjmeaggnlafaa
