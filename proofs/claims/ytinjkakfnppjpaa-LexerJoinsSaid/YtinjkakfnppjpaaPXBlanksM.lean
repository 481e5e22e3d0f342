/- Blanks, tabs, remarks and ends of lines in front of a text. -/
import Derived.Test.YtinjkakfnppjpaaG2
namespace Go.Proofs.Ytinjkakfnppjpaa
open Go.RowKit

/-- five texts that hold no token, by their place; and whether a line ends in them -/
def blankB : Nat → ByteArray
  | 0 => ⟨#[32]⟩
  | 1 => ⟨#[9]⟩
  | 2 => ⟨#[10]⟩
  | 3 => ⟨#[32, 35, 32, 110, 111, 44, 32, 91, 10]⟩
  | _ => ⟨#[10, 32, 10, 9, 10]⟩
def blankE (j : Nat) : Bool := decide (2 ≤ j)
theorem passL_blank (j : Nat) (y : List UInt8) (e : Bool) : passL e false (bl (blankB j) ++ y) = ((bl (blankB j)).length + (passL (e || blankE j) false y).1, (passL (e || blankE j) false y).2) := by
  have k32 : kb 32 = 1 := by decide
  have k9 : kb 9 = 1 := by decide
  have k35 : kb 35 = 3 := by decide
  have k110 : kb 110 = 4 := by decide
  have k111 : kb 111 = 4 := by decide
  have k44 : kb 44 = 6 := by decide
  have k91 : kb 91 = 6 := by decide
  match j with
  | 0 => show passL e false (32 :: y) = _; simp [passL, k32, blankB, bl, blankE, Nat.add_comm]
  | 1 => show passL e false (9 :: y) = _; simp [passL, k9, blankB, bl, blankE, Nat.add_comm]
  | 2 => show passL e false (10 :: y) = _; simp [passL, kb10, blankB, bl, blankE, Nat.add_comm]
  | 3 => show passL e false (32 :: 35 :: 32 :: 110 :: 111 :: 44 :: 32 :: 91 :: 10 :: y) = _; simp [passL, k32, k35, k110, k111, k44, k91, kb10, blankB, bl, blankE]; omega
  | k + 4 => show passL e false (10 :: 32 :: 10 :: 9 :: 10 :: y) = _; simp [passL, k32, k9, kb10, blankB, bl, blankE]; omega
theorem cutQ_blank (j : Nat) (y : List UInt8) (e : Bool) (L : List Tk) : cutQ e (bl (blankB j) ++ y) L = cutQ (e || blankE j) y L := by
  unfold cutQ
  rw [passL_blank]
  simp only [List.drop_append, Nat.add_sub_cancel_left]
  rw [List.drop_of_length_le (by omega), List.nil_append]
theorem cutQ_blank0 (j : Nat) (e : Bool) (L : List Tk) : cutQ e (bl (blankB j)) L = .ok L := by
  have := cutQ_blank j [] e L
  rw [List.append_nil] at this
  rw [this]
  unfold cutQ
  rw [List.drop_nil, cutE_nil]
theorem blank_size (j : Nat) : (blankB j).size ≤ 9 := by
  match j with
  | 0 | 1 | 2 | 3 => decide
  | k + 4 => show 5 ≤ 9; decide
/-- blanks at either end -/
theorem cut_around (j : Nat) (s : ByteArray) {L : List Tk} (h : cutG (bl s) = .ok L) (hs : s.size ≤ 20000) (hL : L.length ≤ 4096) : (cutF (bl (blankB j ++ s ++ ⟨#[10]⟩ ++ blankB j))).1 = L ∧ (cutF (bl (blankB j ++ s ++ ⟨#[10]⟩ ++ blankB j))).2.2 = 0 := by
  have e1 : bl (blankB j ++ s ++ ⟨#[10]⟩ ++ blankB j) = bl (blankB j) ++ (bl s ++ 10 :: bl (blankB j)) := by
    rw [bl_append, bl_append, bl_append]
    show bl (blankB j) ++ bl s ++ [10] ++ bl (blankB j) = _
    simp
  have hz := blank_size j
  rw [← bl_len] at hz hs
  have e2 : cutG (bl (blankB j ++ s ++ ⟨#[10]⟩ ++ blankB j)) = .ok L := by
    rw [e1, cutG_eq, cutQ_blank, cutQ_line, cutQ_first, ← cutG_eq, h]
    exact cutQ_blank0 _ _ _
  rw [cutF_of_ok e2 (by rw [e1]; simp only [List.length_append, List.length_cons]; omega) hL]
  exact ⟨rfl, rfl⟩
/-- blanks between -/
theorem cut_between (j : Nat) (s t : ByteArray) {L M : List Tk} (h : cutG (bl s) = .ok L) (h2 : cutG (bl t) = .ok M) (hs : s.size + t.size ≤ 20000) (hL : L.length + M.length ≤ 4000) :
    (cutF (bl (s ++ ⟨#[10]⟩ ++ blankB j ++ t))).1 = (if L = [] then [] else if M = [] then L else L ++ [lineTk]) ++ (if L ≠ [] ∧ M = [] then [] else M) ∧ (cutF (bl (s ++ ⟨#[10]⟩ ++ blankB j ++ t))).2.2 = 0 := by
  have e1 : bl (s ++ ⟨#[10]⟩ ++ blankB j ++ t) = bl s ++ 10 :: (bl (blankB j) ++ bl t) := by
    rw [bl_append, bl_append, bl_append]
    show bl s ++ [10] ++ bl (blankB j) ++ bl t = _
    simp
  have hz := blank_size j
  have hlen : (bl (s ++ ⟨#[10]⟩ ++ blankB j ++ t)).length ≤ 65536 := by
    rw [e1]
    simp only [List.length_append, List.length_cons, bl_len]
    omega
  rw [cutG_eq] at h h2
  have e2 : cutG (bl (s ++ ⟨#[10]⟩ ++ blankB j ++ t)) = cutQ true (bl t) L := by
    rw [e1, cutG_eq, cutQ_line, h]
    simp only
    rw [cutQ_blank, Bool.true_or]
  by_cases hL0 : L = []
  · subst hL0
    rw [cutQ_first, h2] at e2
    rw [cutF_of_ok e2 hlen (by simp only [List.length_nil] at hL; omega)]
    simp
  · rw [cutQ_behind h2 L hL0] at e2
    by_cases hM : M = []
    · subst hM
      rw [if_pos rfl] at e2
      rw [cutF_of_ok e2 hlen (by omega)]
      simp [hL0]
    · rw [if_neg hM] at e2
      rw [cutF_of_ok e2 hlen (by simp only [List.length_append, List.length_cons, List.length_nil]; omega)]
      simp [hL0, hM]
end Go.Proofs.Ytinjkakfnppjpaa
