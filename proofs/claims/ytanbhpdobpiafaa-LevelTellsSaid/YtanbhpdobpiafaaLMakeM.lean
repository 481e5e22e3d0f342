/- Plain facts of a level that is made of groups. Nothing is claimed of the program here. -/
import Derived.Test.YtanbhpdobpiafaaLMath
namespace Go.Proofs.Ytanbhpdobpiafaa
open Go.RowKit

/-- how many places the first k groups have -/
def lenTo (LL : List (List Int)) (k : Nat) : Nat := (LL.take k).flatten.length
def posTo (LL : List (List Int)) (k : Nat) : List Int := (List.range (k + 1)).map fun i => ((lenTo LL i : Nat) : Int)
theorem posTo_length (LL : List (List Int)) (k : Nat) : (posTo LL k).length = k + 1 := by simp [posTo]
theorem posTo_at {LL : List (List Int)} {k i : Nat} (h : i ≤ k) : (posTo LL k)[i]? = some ((lenTo LL i : Nat) : Int) := by
  unfold posTo; rw [List.getElem?_map, List.getElem?_range (by omega)]; rfl
theorem posTo_succ (LL : List (List Int)) (k : Nat) : posTo LL (k + 1) = posTo LL k ++ [((lenTo LL (k + 1) : Nat) : Int)] := by
  unfold posTo; rw [List.range_succ, List.map_append]; rfl
theorem lenTo_succ {LL : List (List Int)} {k : Nat} {L : List Int} (h : LL[k]? = some L) : lenTo LL (k + 1) = lenTo LL k + L.length := by
  unfold lenTo; rw [take_succ_of h, List.flatten_append]; simp
theorem lenTo_le (LL : List (List Int)) {i j : Nat} (h : i ≤ j) : lenTo LL i ≤ lenTo LL j := by
  unfold lenTo
  have : LL.take j = LL.take i ++ (LL.drop i).take (j - i) := by
    rw [show j = i + (j - i) by omega, List.take_add]; congr 2; omega
  rw [this, List.flatten_append, List.length_append]; omega
theorem lenTo_all (LL : List (List Int)) : lenTo LL LL.length = LL.flatten.length := by unfold lenTo; rw [List.take_length]
theorem flat_succ {LL : List (List Int)} {k : Nat} {L : List Int} (h : LL[k]? = some L) : (LL.take (k + 1)).flatten = (LL.take k).flatten ++ L := by
  rw [take_succ_of h, List.flatten_append]; simp
def AllOne (LL : List (List Int)) : Prop := ∀ L ∈ LL, L.length = 1
theorem allOne_flat {LL : List (List Int)} (h : AllOne LL) : LL.flatten.length = LL.length := by
  induction LL with
  | nil => rfl
  | cons L LL ih =>
    have h1 := h L (by simp)
    rw [List.flatten_cons, List.length_append, h1, ih (fun M hM => h M (by simp [hM])), List.length_cons]; omega

/-- the numbers of a level that is made -/
def mkPos (K : Int) (LL : List (List Int)) : List Int := if K = 1 ∨ K = 2 then posTo LL LL.length else []
def mkCrd (K : Int) (LL : List (List Int)) : List Int := if K = 1 ∨ K = 2 ∨ K = 3 then LL.flatten else []
theorem mk_told {K : Int} {LL : List (List Int)} (h3 : K = 3 → AllOne LL) : ToldP K (mkPos K LL) (mkCrd K LL) (LL.length : Int) := by
  unfold ToldP mkPos mkCrd
  refine ⟨fun h => ?_, fun h => ?_, fun h1 h2 h4 => ?_⟩
  · rw [if_pos h, if_pos (by omega), Int.toNat_natCast]
    refine ⟨by rw [posTo_length]; omega, by rw [posTo_at (by omega)]; rfl, by rw [posTo_at (Nat.le_refl _), lenTo_all], fun k x y hx hy => ?_⟩
    have hk := (List.getElem?_eq_some_iff.1 hy).1
    rw [posTo_length] at hk
    rw [posTo_at (by omega)] at hx hy
    injection hx with hx; injection hy with hy
    have := lenTo_le LL (i := k) (j := k + 1) (by omega)
    omega
  · rw [if_neg (by omega), if_pos (by omega)]
    exact ⟨rfl, by rw [allOne_flat (h3 h)]⟩
  · rw [if_neg (by omega), if_neg (by omega)]
    exact ⟨rfl, rfl⟩
/-- Make's error -/
noncomputable def makeE (K S : Int) (LL : List (List Int)) : Int := if pB (K = 3 ∧ ¬ AllOne LL) = true then 1 else lvF K S (mkPos K LL) (mkCrd K LL) LL.length
theorem lvF_notMay {K S a : Int} {xs ys : List Int} (h : ¬ MayP K S a) : lvF K S xs ys a = 1 := by
  unfold lvF; rw [if_neg (by rw [pB_f (fun q => h q.1)]; decide)]
theorem makeE_notMay {K S : Int} {LL : List (List Int)} (h : ¬ MayP K S LL.length) : makeE K S LL = 1 := by
  unfold makeE; split
  · rfl
  · exact lvF_notMay h
theorem makeE_one {S : Int} {LL : List (List Int)} (h : ¬ AllOne LL) : makeE 3 S LL = 1 := by
  unfold makeE; rw [if_pos (pB_t ⟨rfl, h⟩)]
theorem makeE_lv {K S : Int} {LL : List (List Int)} (h : K = 3 → AllOne LL) : makeE K S LL = lvF K S (mkPos K LL) (mkCrd K LL) LL.length := by
  unfold makeE; rw [if_neg (by rw [pB_f (fun q => q.2 (h q.1))]; decide)]
theorem makeE_large {K S : Int} {LL : List (List Int)} (hm : MayP K S LL.length) (hK : K = 1 ∨ K = 2) (hl : 65536 < LL.flatten.length) : makeE K S LL = 2 := by
  rw [makeE_lv (by omega)]
  unfold lvF
  rw [if_pos (pB_t ⟨hm, mk_told (by omega)⟩), if_pos]
  left; unfold mkCrd; rw [if_pos (by omega)]; exact hl
theorem makeE_ok {K S : Int} {LL : List (List Int)} (h : makeE K S LL = 0) : MayP K S LL.length ∧ (K = 3 → AllOne LL) ∧ lvF K S (mkPos K LL) (mkCrd K LL) LL.length = 0 := by
  have h3 : K = 3 → AllOne LL := by
    intro hk
    rcases Classical.em (AllOne LL) with hh | hh
    · exact hh
    · subst hk; rw [makeE_one hh] at h; cases h
  rw [makeE_lv h3] at h
  exact ⟨(lvF_pos h).1, h3, h⟩
end Go.Proofs.Ytanbhpdobpiafaa
