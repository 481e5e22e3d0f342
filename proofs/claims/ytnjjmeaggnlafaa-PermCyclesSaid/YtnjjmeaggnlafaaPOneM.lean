/- Plain facts: ranks and orders are one to one. No program. -/
import Derived.Test.YtnjjmeaggnlafaaPBackM
namespace Go.Proofs.Ytnjjmeaggnlafaa
open Go.RowKit

theorem lessC_perm {x : Int} {l l' : List Int} (h : l.Perm l') : lessC x l = lessC x l' := by
  unfold lessC; exact (h.filter _).length_eq
theorem nthL_perm (m : Nat) : ∀ (l : List Int) (k : Nat), l.length = m → k < fact m → (nthL m l k).Perm l := by
  induction m with
  | zero => intro l k hl _; cases l with | nil => exact .nil | cons x l => simp at hl
  | succ m ih =>
    intro l k hl hk
    have hf := fact_pos m
    have hi : k / fact m < l.length := by
      rw [hl, Nat.div_lt_iff_lt_mul hf]; exact hk
    have h1 := ih (l.eraseIdx (k / fact m)) (k % fact m) (by rw [List.length_eraseIdx, if_pos hi]; omega) (Nat.mod_lt _ hf)
    simp only [nthL]
    rw [List.getD_eq_getElem?_getD, List.getElem?_eq_getElem hi]
    refine (List.Perm.cons _ h1).trans ?_
    rw [List.eraseIdx_eq_take_drop_succ]
    have e : l = l.take (k / fact m) ++ l[k / fact m] :: l.drop (k / fact m + 1) := by
      rw [← List.drop_eq_getElem_cons hi, List.take_append_drop]
    refine (List.perm_middle (a := l[k / fact m]) (l₁ := l.take (k / fact m)) (l₂ := l.drop (k / fact m + 1))).symm.trans ?_
    rw [← e]
theorem lessC_zero {x : Int} {l : List Int} (h : ∀ y ∈ l, x ≤ y) : lessC x l = 0 := by
  unfold lessC
  rw [List.filter_eq_nil_iff.2 (fun y hy => by have := h y hy; simp; omega)]; rfl
theorem lessC_all {x : Int} {l : List Int} (h : ∀ y ∈ l, y < x) : lessC x l = l.length := by
  unfold lessC
  rw [List.filter_eq_self.2 (fun y hy => by simpa using h y hy)]
theorem lessC_append (x : Int) (a b : List Int) : lessC x (a ++ b) = lessC x a + lessC x b := by
  unfold lessC; rw [List.filter_append, List.length_append]
theorem lessC_rises {l : List Int} (h : l.Pairwise (· < ·)) {i : Nat} (hi : i < l.length) : lessC l[i] (l.eraseIdx i) = i := by
  rw [List.eraseIdx_eq_take_drop_succ, lessC_append]
  have h1 : ∀ y ∈ l.take i, y < l[i] := by
    intro y hy
    obtain ⟨j, hj, rfl⟩ := List.getElem_of_mem hy
    rw [List.length_take] at hj
    rw [List.getElem_take]
    exact List.pairwise_iff_getElem.1 h j i (by omega) hi (by omega)
  have h2 : ∀ y ∈ l.drop (i + 1), l[i] ≤ y := by
    intro y hy
    obtain ⟨j, hj, rfl⟩ := List.getElem_of_mem hy
    rw [List.length_drop] at hj
    rw [List.getElem_drop]
    have := List.pairwise_iff_getElem.1 h i (i + 1 + j) hi (by omega) (by omega)
    omega
  rw [lessC_all h1, lessC_zero h2, List.length_take]; omega
theorem rank_nth (m : Nat) : ∀ (l : List Int) (k : Nat), l.length = m → l.Pairwise (· < ·) → k < fact m → rankL (nthL m l k) = k := by
  induction m with
  | zero => intro l k hl _ hk; simp only [fact] at hk; simp only [nthL, rankL]; omega
  | succ m ih =>
    intro l k hl hs hk
    have hf := fact_pos m
    have hi : k / fact m < l.length := by
      rw [hl, Nat.div_lt_iff_lt_mul hf]; exact hk
    have hle : (l.eraseIdx (k / fact m)).length = m := by rw [List.length_eraseIdx, if_pos hi]; omega
    have h1 := nthL_perm m (l.eraseIdx (k / fact m)) (k % fact m) hle (Nat.mod_lt _ hf)
    have h2 := ih (l.eraseIdx (k / fact m)) (k % fact m) hle (hs.sublist (List.eraseIdx_sublist _ _)) (Nat.mod_lt _ hf)
    simp only [nthL, rankL]
    rw [h2, h1.length_eq, hle, List.getD_eq_getElem?_getD, List.getElem?_eq_getElem hi]
    simp only [Option.getD_some]
    rw [lessC_perm h1, lessC_rises hs hi]
    have := Nat.div_add_mod k (fact m)
    rw [Nat.mul_comm] at this
    exact this
theorem plainL_rises (n : Nat) : (plainL n).Pairwise (· < ·) := by
  rw [List.pairwise_iff_getElem]
  intro i j hi hj hij
  simp [plainL]; omega
theorem perm_of {n : Nat} {l : List Int} (hn : n ≤ 12) (h : l.Perm (plainL n)) : Perm_ l := by
  have hp := perm_plain hn
  have hl := h.length_eq
  exact ⟨by rw [hl]; exact hp.len, fun x hx => by rw [hl]; exact hp.inn x (h.mem_iff.1 hx), h.nodup_iff.2 hp.nodup⟩
theorem perm_nth {n k : Nat} (hn : n ≤ 12) (hk : k < fact n) : Perm_ (nthL n (plainL n) k) := perm_of hn (nthL_perm n _ k (plainL_length n) hk)
theorem rank_nth_plain {n k : Nat} (hk : k < fact n) : rankL (nthL n (plainL n) k) = k := rank_nth n _ k (plainL_length n) (plainL_rises n) hk
/-- a number that a statement makes small -/
theorem small13 (n : Int) : ∃ (t : Int) (v : Nat), n.tmod 13 = t ∧ -12 ≤ t ∧ t ≤ 12 ∧ (t + 13) % 13 = (v : Int) ∧ v ≤ 12 := by
  have h1 := Int.lt_tmod_of_pos n (b := 13) (by decide)
  have h2 := Int.tmod_lt_of_pos n (b := 13) (by decide)
  refine ⟨_, ((n.tmod 13 + 13) % 13).toNat, rfl, by omega, by omega, by omega, by omega⟩
end Go.Proofs.Ytnjjmeaggnlafaa
