/- What the insertion sort of entries makes is a permutation of them, and stands in order. -/
import Derived.Test.YtpjelcghlnmoeaaEIns
namespace Go.Proofs.Ytpjelcghlnmoeaa

theorem insE_perm (os : List Int) (P : List Ent) (x : Ent) : (insE os P x).Perm (x :: P) := by
  unfold insE
  refine List.perm_middle.trans (List.Perm.cons x ?_)
  rw [← List.reverse_append, List.takeWhile_append_dropWhile, List.reverse_reverse]
theorem foldE_perm (os : List Int) (l P : List Ent) : (l.foldl (insE os) P).Perm (P ++ l) := by
  induction l generalizing P with
  | nil => simp
  | cons x l ih =>
    refine (ih (insE os P x)).trans ?_
    exact ((insE_perm os P x).append_right l).trans List.perm_middle.symm
theorem sortE_perm (os : List Int) (l : List Ent) : (sortE os l).Perm l := foldE_perm os l []

theorem cmpI_zero {x y : Int} : cmpI x y = 0 ↔ x = y := by unfold cmpI; split <;> (try split) <;> constructor <;> intro h <;> omega
theorem cmpI_le {x y : Int} : cmpI x y ≤ 0 ↔ x ≤ y := by unfold cmpI; split <;> (try split) <;> constructor <;> intro h <;> omega
theorem cmpI_neg (x y : Int) : cmpI y x = -cmpI x y := by unfold cmpI; split <;> split <;> omega
theorem cmpE_neg (os a b : List Int) : cmpE os b a = -cmpE os a b := by
  induction os with
  | nil => rfl
  | cons m os ih =>
    unfold cmpE
    rw [cmpI_neg (pickE a m) (pickE b m), ih]
    by_cases h : cmpI (pickE a m) (pickE b m) = 0
    · rw [if_pos (by omega), if_pos h]
    · rw [if_neg (by omega), if_neg h]
theorem cmpE_trans {os a b c : List Int} (h1 : cmpE os a b ≤ 0) (h2 : cmpE os b c ≤ 0) : cmpE os a c ≤ 0 := by
  induction os with
  | nil => exact Int.le_refl _
  | cons m os ih =>
    unfold cmpE at h1 h2 ⊢
    by_cases e1 : cmpI (pickE a m) (pickE b m) = 0
    · by_cases e2 : cmpI (pickE b m) (pickE c m) = 0
      · rw [if_pos e1] at h1
        rw [if_pos e2] at h2
        rw [if_pos (cmpI_zero.2 ((cmpI_zero.1 e1).trans (cmpI_zero.1 e2)))]
        exact ih h1 h2
      · rw [if_neg e2] at h2
        have e3 := cmpI_zero.1 e1
        rw [e3, if_neg e2]
        exact h2
    · rw [if_neg e1] at h1
      have k1 := cmpI_le.1 h1
      have k0 : pickE a m ≠ pickE b m := fun e => e1 (cmpI_zero.2 e)
      have k2 : pickE b m ≤ pickE c m := by
        by_cases e2 : cmpI (pickE b m) (pickE c m) = 0
        · exact Int.le_of_eq (cmpI_zero.1 e2)
        · rw [if_neg e2] at h2; exact cmpI_le.1 h2
      rw [if_neg (fun e => by have := cmpI_zero.1 e; omega)]
      exact cmpI_le.2 (by omega)
theorem takeWhile_all {α : Type} (p : α → Bool) (l : List α) : ∀ y ∈ l.takeWhile p, p y = true := by
  induction l with
  | nil => intro y hy; cases hy
  | cons x l ih =>
    intro y hy
    by_cases h : p x = true
    · rw [List.takeWhile_cons_of_pos h] at hy
      rcases List.mem_cons.1 hy with rfl | hy
      · exact h
      · exact ih y hy
    · rw [List.takeWhile_cons_of_neg h] at hy; cases hy
/-- in order -/
def InOrd (os : List Int) (l : List Ent) : Prop := l.Pairwise (fun x y => cmpE os x.cs y.cs ≤ 0)
theorem insE_ord {os : List Int} {P : List Ent} (x : Ent) (h : InOrd os P) : InOrd os (insE os P x) := by
  have hP : P = (P.reverse.dropWhile (ltE os x)).reverse ++ (P.reverse.takeWhile (ltE os x)).reverse := by
    rw [← List.reverse_append, List.takeWhile_append_dropWhile, List.reverse_reverse]
  have hT : ∀ y ∈ (P.reverse.takeWhile (ltE os x)).reverse, cmpE os x.cs y.cs ≤ 0 := fun y hy => by
    have := takeWhile_all _ _ y (List.mem_reverse.1 hy)
    unfold ltE at this
    have := of_decide_eq_true this
    omega
  have hD : ∀ z, (P.reverse.dropWhile (ltE os x)).head? = some z → cmpE os z.cs x.cs ≤ 0 := fun z hz => by
    have := List.head?_dropWhile_not (ltE os x) P.reverse
    rw [hz] at this
    simp only [ltE, decide_eq_false_iff_not] at this
    rw [cmpE_neg]
    omega
  unfold insE
  generalize (P.reverse.dropWhile (ltE os x)) = D at hP hD
  generalize (P.reverse.takeWhile (ltE os x)).reverse = T at hP hT
  unfold InOrd at h ⊢
  rw [hP, List.pairwise_append] at h
  obtain ⟨d1, d2, d3⟩ := h
  have hDx : ∀ y ∈ D.reverse, cmpE os y.cs x.cs ≤ 0 := by
    cases D with
    | nil => intro y hy; cases hy
    | cons z D =>
      have hz := hD z rfl
      intro y hy
      rw [List.reverse_cons] at hy d1
      rcases List.mem_append.1 hy with hy | hy
      · exact cmpE_trans ((List.pairwise_append.1 d1).2.2 y hy z (by simp)) hz
      · rw [List.mem_singleton.1 hy]; exact hz
  refine List.pairwise_append.2 ⟨d1, List.pairwise_cons.2 ⟨hT, d2⟩, fun y hy v hv => ?_⟩
  rcases List.mem_cons.1 hv with rfl | hv
  · exact hDx y hy
  · exact d3 y hy v hv
theorem sortE_ord (os : List Int) (l : List Ent) : InOrd os (sortE os l) := by
  have key : ∀ (l P : List Ent), InOrd os P → InOrd os (l.foldl (insE os) P) := by
    intro l
    induction l with
    | nil => exact fun P h => h
    | cons x l ih => exact fun P h => ih _ (insE_ord x h)
  exact key l [] List.Pairwise.nil
end Go.Proofs.Ytpjelcghlnmoeaa
