/- Where two runs in order may be cut. Nothing is claimed of the program here. -/
import Derived.Test.YtpjelcghlnmoeaaESymA
namespace Go.Proofs.Ytpjelcghlnmoeaa
open Go.RowKit

theorem mergeE_cut {os : List Int} {L R : List Ent} {u v : Nat} (hL : InOrd os L) (hR : InOrd os R) (hB : u = 0 ∨ v = R.length ∨ ∃ x y, L[u - 1]? = some x ∧ R[v]? = some y ∧ ltE os y x = false) (hA : v = 0 ∨ u = L.length ∨ ∃ x y, L[u]? = some x ∧ R[v - 1]? = some y ∧ ltE os y x = true) :
    mergeE os L R = mergeE os (L.take u) (R.take v) ++ mergeE os (L.drop u) (R.drop v) := by
  conv => lhs; rw [← List.take_append_drop u L, ← List.take_append_drop v R]
  refine mergeE_split os _ _ _ _ (fun y hy x hx => ?_) (fun x hx y hy => ?_)
  · obtain ⟨q, hq⟩ := List.getElem?_of_mem hy
    have hql := (List.getElem?_eq_some_iff.1 hq).1
    rw [List.length_take] at hql
    rw [List.getElem?_take_of_lt (by omega)] at hq
    obtain ⟨s, hs⟩ := List.getElem?_of_mem hx
    rw [List.getElem?_drop] at hs
    have hsl := (List.getElem?_eq_some_iff.1 hs).1
    rcases hA with rfl | rfl | ⟨x0, y0, h1, h2, h3⟩
    · omega
    · omega
    · exact hL.hit' h1 (hR.hit h2 h3 q y (by omega) hq) _ x (by omega) hs
  · obtain ⟨q, hq⟩ := List.getElem?_of_mem hx
    have hql := (List.getElem?_eq_some_iff.1 hq).1
    rw [List.length_take] at hql
    rw [List.getElem?_take_of_lt (by omega)] at hq
    obtain ⟨s, hs⟩ := List.getElem?_of_mem hy
    rw [List.getElem?_drop] at hs
    have hsl := (List.getElem?_eq_some_iff.1 hs).1
    rcases hB with rfl | rfl | ⟨x0, y0, h1, h2, h3⟩
    · omega
    · omega
    · exact hL.miss' h1 (hR.miss h2 h3 _ y (by omega) hs) q x (by omega) hq
end Go.Proofs.Ytpjelcghlnmoeaa
