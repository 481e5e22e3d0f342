/- The document's Trim. -/
import Derived.Test.YtgkngimeokhhgaaDoorG15
namespace Go.Proofs.YtgkngimeokhhgaaDoor
open Go.RowKit

theorem place_in {c : Cd} (hm : c.may = true) {x : Ji} (hx : x ∈ c.l) : (x.op = 10 → 0 ≤ x.a ∧ x.a < c.l.length) ∧ (x.op = 11 ∨ x.op = 12 → 0 ≤ x.c ∧ x.c < c.l.length) := by
  obtain ⟨⟨h0, h1⟩, h2, _⟩ := mayJ_parts ((Cd.may_parts hm).2.1 x hx)
  have i0 := h2 0 (by omega)
  have i2 := h2 2 (by omega)
  unfold InB at i0 i2
  obtain ⟨op, a, b, cc, m⟩ := x
  dsimp only at h0 h1
  refine ⟨fun e => ?_, fun e => ?_⟩
  · dsimp only at e
    subst e
    simpa [kJ, kindsJ, limJ, Ji.f] using i0
  · dsimp only at e
    rcases e with rfl | rfl <;> simpa [kJ, kindsJ, limJ, Ji.f] using i2
end Go.Proofs.YtgkngimeokhhgaaDoor
