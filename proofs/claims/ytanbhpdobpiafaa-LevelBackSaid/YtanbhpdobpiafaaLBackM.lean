/- A level that is made has its groups' places; made of its own children's places it is the same. Nothing is claimed of the program here. -/
import Derived.Test.YtanbhpdobpiafaaLJoinM
namespace Go.Proofs.Ytanbhpdobpiafaa
open Go.RowKit

theorem flat_at {LL : List (List Int)} {p i : Nat} {L : List Int} (h : LL[p]? = some L) (hi : i < L.length) : LL.flatten[lenTo LL p + i]? = L[i]? := by
  have hp := (List.getElem?_eq_some_iff.1 h).1
  have e : LL = LL.take p ++ (L :: LL.drop (p + 1)) := by
    have := (List.take_append_drop p LL).symm
    rwa [drop_of h] at this
  have e2 : LL.flatten = (LL.take p).flatten ++ (L ++ (LL.drop (p + 1)).flatten) := by
    have := congrArg List.flatten e
    rwa [List.flatten_append, List.flatten_cons] at this
  rw [e2, List.getElem?_append_right (by unfold lenTo; omega)]
  have e3 : lenTo LL p + i - (LL.take p).flatten.length = i := by unfold lenTo; omega
  rw [e3, List.getElem?_append_left hi]
theorem off_made {K S : Int} {LL : List (List Int)} (he : makeE K S LL = 0) (hw : wholeB K = false) {p : Nat} (hp : p ≤ LL.length) : offN K S (mkPos K LL) p = lenTo LL p := by
  have hk := (makeE_ok he).1.1
  have hw' := wholeB_not.1 hw
  unfold offN
  rw [if_neg (by rw [hw]; decide)]
  by_cases h3 : K = 3
  · rw [if_pos h3]
    have ha := (makeE_ok he).2.1 h3
    have : AllOne (LL.take p) := fun L hL => ha L (List.mem_of_mem_take hL)
    have := allOne_flat this
    unfold lenTo
    rw [this, List.length_take]; omega
  · rw [if_neg h3]
    unfold mkPos
    rw [if_pos (by omega), posTo_at hp]
    simp
theorem kids_made {K S : Int} {LL : List (List Int)} (he : makeE K S LL = 0) (hw : wholeB K = false) {p : Nat} {L : List Int} (hL : LL[p]? = some L) : (kids K S (mkPos K LL) (mkCrd K LL) p).map (·.1) = L := by
  have hp := (List.getElem?_eq_some_iff.1 hL).1
  have h1 := off_made he hw (p := p) (by omega)
  have h2 := off_made he hw (p := p + 1) (by omega)
  have h3 := lenTo_succ hL
  have hk := (makeE_ok he).1.1
  have hw' := wholeB_not.1 hw
  have hc : mkCrd K LL = LL.flatten := by unfold mkCrd; rw [if_pos (by omega)]
  apply List.ext_getElem?
  intro i
  by_cases hi : i < L.length
  · rw [List.getElem?_map, kids_at (by rw [h1, h2, h3]; omega), h1]
    unfold atN
    rw [if_neg (by rw [hw]; decide), hc, flat_at hL hi, List.getElem?_eq_getElem hi]
    rfl
  · rw [List.getElem?_eq_none (by rw [List.length_map, kids_length, h1, h2, h3]; omega), List.getElem?_eq_none (by omega)]
/-- the places of the children of those ahead of q -/
def ownTo (K S : Int) (LL : List (List Int)) (q : Nat) : List (List Int) := (List.range q).map fun p => (kids K S (mkPos K LL) (mkCrd K LL) p).map (·.1)
theorem ownTo_length (K S : Int) (LL : List (List Int)) (q : Nat) : (ownTo K S LL q).length = q := by simp [ownTo]
theorem ownTo_succ (K S : Int) (LL : List (List Int)) (q : Nat) : ownTo K S LL (q + 1) = ownTo K S LL q ++ [(kids K S (mkPos K LL) (mkCrd K LL) q).map (·.1)] := by simp [ownTo, List.range_succ]
theorem own_same {K S : Int} {LL : List (List Int)} (he : makeE K S LL = 0) : makeE K S (ownTo K S LL LL.length) = 0 ∧ mkPos K (ownTo K S LL LL.length) = mkPos K LL ∧ mkCrd K (ownTo K S LL LL.length) = mkCrd K LL := by
  by_cases hw : wholeB K = true
  · have hw' := wholeB_iff.1 hw
    have hp : ∀ MM, mkPos K MM = [] := fun MM => by unfold mkPos; rw [if_neg (by omega)]
    have hc : ∀ MM, mkCrd K MM = [] := fun MM => by unfold mkCrd; rw [if_neg (by omega)]
    rw [makeE_lv (by omega), hp, hc] at he
    rw [makeE_lv (by omega), hp, hc, hp, hc, ownTo_length]
    exact ⟨he, rfl, rfl⟩
  · have hw' : wholeB K = false := by simpa using hw
    have e : ownTo K S LL LL.length = LL := by
      apply List.ext_getElem?
      intro i
      by_cases hi : i < LL.length
      · have hL := List.getElem?_eq_getElem hi
        unfold ownTo
        rw [List.getElem?_map, List.getElem?_range hi, hL]
        exact congrArg some (kids_made he hw' hL)
      · rw [List.getElem?_eq_none (by rw [ownTo_length]; omega), List.getElem?_eq_none (by omega)]
    rw [e]
    exact ⟨he, rfl, rfl⟩
end Go.Proofs.Ytanbhpdobpiafaa
