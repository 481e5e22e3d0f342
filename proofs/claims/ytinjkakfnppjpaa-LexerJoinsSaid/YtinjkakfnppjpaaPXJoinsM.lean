/- Rows that are written to, one after the other: what lies in none of them stays. -/
import Derived.Test.YtinjkakfnppjpaaPXRefJ
import Derived.Test.YtinjkakfnppjpaaPXRefL
namespace Go.Proofs.Ytinjkakfnppjpaa
open Go.RowKit

/-- all blocks but those of the first i rows are as they were -/
def UnT (w0 wr : World) (ra : List RowK) (i : Nat) : Prop := ∀ g, g < w0.heap.size → (∀ j r, j < i → ra[j]? = some r → r.A ≠ some ⟨g, 0, none⟩) → wr.heap[g]? = w0.heap[g]?
section
variable {w0 wr : World} {ra : List RowK} {i base ch : Nat} {H : Option Addr}
theorem UnT.refl (w0 : World) (ra : List RowK) (i : Nat) : UnT w0 w0 ra i := fun _ _ _ => rfl
theorem UnT.next (h : UnT w0 wr ra i) : UnT w0 wr ra (i + 1) := fun g hg hc => h g hg fun j r hj hr => hc j r (by omega) hr
theorem UnT.drewN (h : UnT w0 wr ra i) (q : Nat) : UnT w0 (wr.drewN q) ra i := h
theorem UnT.set {r : RowK} {g o : Nat} (h : UnT w0 wr ra (i + 1)) (hr : ra[i]? = some r) (hA : r.A = some ⟨g, 0, none⟩) (u : Value) : UnT w0 (wr.setCell ⟨g, o, none⟩ u) ra (i + 1) := fun g' hg hc => by
  have hne : g' ≠ g := fun e => hc i r (by omega) hr (by rw [e]; exact hA)
  rw [heap_setCell_other wr ⟨g, o, none⟩ g' u hne]
  exact h g' hg hc
theorem UnT.row {r : RowK} (h : UnT w0 wr ra i) (K : RowsK w0 base H ch ra) (hr : ra[i]? = some r) : OwnT wr base r.A r.c r.L := by
  have hO := K.ins r (List.mem_of_getElem? hr)
  refine hO.same fun b hb => h b ?_ fun j s hj hs e => ?_
  · exact (show OwnT w0 base (some ⟨b, 0, none⟩) r.c r.L from hb ▸ hO).lt.2
  · obtain ⟨hi, ei⟩ := List.getElem?_eq_some_iff.1 hr
    obtain ⟨hj', ej⟩ := List.getElem?_eq_some_iff.1 hs
    have := List.pairwise_iff_getElem.1 K.apart j i hj' hi hj
    rw [ei, ej] at this
    exact this b e hb
theorem UnT.hdr {gH k : Nat} {r : RowK} (h : UnT w0 wr ra i) (K : RowsK w0 base (some ⟨gH, 0, none⟩) ch ra) (hr : ra[k]? = some r) : wr.cell? ⟨gH, k, none⟩ = some r.hdr := by
  rcases K.heap with h1 | ⟨g', cur, h1, _, hH⟩
  · cases h1
  · injection h1 with h1; injection h1 with h1
    subst h1
    refine (World.cell?_of_block (h gH (Array.getElem?_eq_some_iff.1 hH).1 fun j s _ hs e => ?_)).trans (K.hdr_at hr).1
    have hO := K.ins s (List.mem_of_getElem? hs)
    rcases hO.heap with h2 | ⟨g2, cur2, h2, _, h3⟩
    · rw [h2] at e; cases e
    · rw [h2] at e
      simp only [Option.some.injEq, Addr.mk.injEq, and_true] at e
      subst e
      rw [hH] at h3
      injection h3 with h3; injection h3 with _ h3
      exact absurd h3 (by decide)
/-- a block behind all rows -/
theorem UnT.far {B : Nat} (h : UnT w0 wr ra i) (hB : ∀ r ∈ ra, ∀ g, r.A = some ⟨g, 0, none⟩ → g < B) {g : Nat} (hg : B ≤ g) (hlt : g < w0.heap.size) : wr.heap[g]? = w0.heap[g]? := h g hlt fun j r _ hr e => by
  have := hB r (List.mem_of_getElem? hr) g e
  omega
end
/-- the third cell of each token is a number -/
def intsAt (p : Nat) (xs : List Value) : Prop := ∀ k, k < p → ∃ N : Int, -9223372036854775808 ≤ N ∧ N ≤ 9223372036854775807 ∧ xs[3 * k + 2]? = some (.int .i64 N)
theorem intsAt_toks {L : List Tk} (h : ∀ t ∈ L, t.ok) : intsAt L.length (cellsT L) := fun k hk => by
  have := cellsT_at (List.getElem?_eq_getElem hk)
  have ho := h _ (List.getElem_mem hk)
  exact ⟨_, ho.2.2.1, ho.2.2.2.1, this.2.2⟩
theorem intsAt_set {p : Nat} {xs : List Value} (h : intsAt p xs) (k : Nat) (N : Int) : intsAt p (xs.set (3 * k + 2) (.int .i64 (wrap64 N))) := fun j hj => by
  by_cases e : j = k
  · subst e
    obtain ⟨M, _, _, hM⟩ := h j hj
    have hlt := (List.getElem?_eq_some_iff.1 hM).1
    refine ⟨wrap64 N, by unfold wrap64; omega, by unfold wrap64; omega, ?_⟩
    rw [List.getElem?_set_self hlt]
  · obtain ⟨M, h1, h2, h3⟩ := h j hj
    exact ⟨M, h1, h2, by rw [List.getElem?_set_ne (by omega)]; exact h3⟩
end Go.Proofs.Ytinjkakfnppjpaa
