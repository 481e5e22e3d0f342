/- What is got at a place is what the dense one has there. Plain mathematics. -/
import Derived.Test.YtfimnmdcbnfhfaaG18
import Derived.Test.YtfimnmdcbnfhfaaG16
import Derived.Test.YtfimnmdcbnfhfaaPEOfM
import Derived.Test.YtfimnmdcbnfhfaaPVEmpty
namespace Go.Proofs.Ytfimnmdcbnfhfaa
open Go.RowKit

theorem tot_hit {t : Ten} {P : List Int → Bool} {i : Nat} (q : Nat) (hi : i < q) (hP : P (cN t.n t.fs t.ls t.ln i) = true) (h1 : ∀ j, j < q → P (cN t.n t.fs t.ls t.ln j) = true → j = i) : totP P (entK t q) = t.vs.getD i 0 := by
  induction q with
  | zero => omega
  | succ q ih =>
    rw [entK_succ, totP_append, totP_one]
    by_cases e : i = q
    · subst e
      rw [if_pos hP, totP_none, Int.zero_add]
      intro k hk
      unfold entK at hk
      obtain ⟨j, hj, rfl⟩ := List.mem_map.1 hk
      have hj' := List.mem_range.1 hj
      cases hh : P (cN t.n t.fs t.ls t.ln j) with
      | false => rfl
      | true => have := h1 j (by omega) hh; omega
    · rw [ih (by omega) (fun j hj hp => h1 j (by omega) hp), if_neg, Int.add_zero]
      intro hh
      exact e (h1 q (by omega) hh).symm
theorem tot_miss {t : Ten} {P : List Int → Bool} (q : Nat) (h1 : ∀ j, j < q → P (cN t.n t.fs t.ls t.ln j) = false) : totP P (entK t q) = 0 := by
  refine totP_none fun k hk => ?_
  unfold entK at hk
  obtain ⟨j, hj, rfl⟩ := List.mem_map.1 hk
  exact h1 j (List.mem_range.1 hj)
theorem wrap64_small {v : Int} (h : -9223372036854775808 ≤ v ∧ v ≤ 9223372036854775807) : wrap64 v = v := by unfold wrap64; omega
theorem prodI_nonneg : ∀ (l : List Int), (∀ x ∈ l, 0 ≤ x) → 0 ≤ prodI l
  | [], _ => by simp [prodI]
  | x :: r, h => Int.mul_nonneg (h x (by simp)) (prodI_nonneg r fun y hy => h y (by simp [hy]))
/-- what is known of a tensor that is laid out -/
structure DenOK (t : Ten) : Prop where
  tok : Tok t.xs t.fs t.ls
  xl : t.xs.length = t.n
  ll : t.ls.length = t.ln
  vn : t.vn = ahN t.ls t.ln
  laid : (laidF t.xs).2 = 0
  vl : t.vs.length = t.vn
  vr : ∀ z ∈ t.vs, -9223372036854775808 ≤ z ∧ z ≤ 9223372036854775807
section
variable {t : Ten}
theorem DenOK.inn (h : DenOK t) {q : Nat} (hq : q < t.vn) : Inn t.xs (cN t.n t.fs t.ls t.ln q) := by
  have := tok_inside h.tok (n := q) (by rw [h.ll, ← h.vn]; exact hq)
  rw [h.ll, h.xl] at this
  exact inn_of_insideF this
theorem DenOK.one (h : DenOK t) {i j : Nat} (hi : i < t.vn) (hj : j < t.vn) (e : cN t.n t.fs t.ls t.ln i = cN t.n t.fs t.ls t.ln j) : i = j := by
  rw [← h.ll, ← h.xl] at e
  exact h.tok.one (by rw [h.ll, ← h.vn]; exact hi) (by rw [h.ll, ← h.vn]; exact hj) e
theorem DenOK.lead (h : DenOK t) : (laidF t.xs).1 = prodI t.xs := by
  obtain ⟨h1, h2⟩ := laidF_ok h.laid
  rw [h2, cellsF_prod h1]
theorem DenOK.val (h : DenOK t) {q : Nat} (hq : q < t.vn) : -9223372036854775808 ≤ t.vs.getD q 0 ∧ t.vs.getD q 0 ≤ 9223372036854775807 := by
  rw [List.getD_eq_getElem?_getD, List.getElem?_eq_getElem (by rw [h.vl]; exact hq)]
  exact h.vr _ (List.getElem_mem _)
theorem DenOK.pos (h : DenOK t) {a : Nat} (ha : (a : Int) < prodI t.xs) : ∀ x ∈ t.xs, 1 ≤ x := by
  have h0 := laidF_ok h.laid
  intro x hx
  have hn := (cellsF_ok h0.1).2 x hx
  rcases Int.lt_or_le x 1 with hh | hh
  · have hx0 : x = 0 := by omega
    subst hx0
    have := prodI_zero t.xs (List.any_eq_true.2 ⟨0, hx, rfl⟩)
    omega
  · exact hh
/-- what is got, and what the dense one has -/
theorem DenOK.get (h : DenOK t) {a : Nat} (ha : (a : Int) < prodI t.xs) :
    (∃ q, q < t.vn ∧ cN t.n t.fs t.ls t.ln q = placeR t.xs a ∧ (stDenV t).getD a 0 = t.vs.getD q 0) ∨ ((∀ q, q < t.vn → cN t.n t.fs t.ls t.ln q ≠ placeR t.xs a) ∧ (stDenV t).getD a 0 = 0) := by
  have hp := h.pos ha
  have hpl := placeR_inn hp a
  have hnp := numR_placeR hp a
  rw [Int.emod_eq_of_lt (by omega) ha] at hnp
  have hat : (stDenV t).getD a 0 = wrap64 (totP (fun p => decide ((numR t.xs p).toNat = a)) (entK t t.vn)) := by
    unfold stDenV denseK
    rw [List.getD_eq_getElem?_getD, List.getElem?_map, List.getElem?_range (by rw [h.lead]; omega)]
    rfl
  have hiff : ∀ j, j < t.vn → (decide ((numR t.xs (cN t.n t.fs t.ls t.ln j)).toNat = a) = true ↔ cN t.n t.fs t.ls t.ln j = placeR t.xs a) := by
    intro j hj
    have hi := h.inn hj
    have hb := hi.bound
    rw [decide_eq_true_iff]
    constructor
    · intro e
      exact numR_inj _ _ _ hi hpl (by omega)
    · intro e
      rw [e, hnp]; omega
  by_cases hex : ∃ q, q < t.vn ∧ cN t.n t.fs t.ls t.ln q = placeR t.xs a
  · obtain ⟨q, hq, he⟩ := hex
    refine .inl ⟨q, hq, he, ?_⟩
    rw [hat, tot_hit t.vn hq ((hiff q hq).2 he) (fun j hj hP => h.one hj hq (((hiff j hj).1 hP).trans he.symm)), wrap64_small (h.val hq)]
  · have hno : ∀ q, q < t.vn → cN t.n t.fs t.ls t.ln q ≠ placeR t.xs a := fun q hq he => hex ⟨q, hq, he⟩
    refine .inr ⟨hno, ?_⟩
    rw [hat, tot_miss t.vn fun j hj => ?_]
    · exact wrap64_zero
    · cases hh : decide ((numR t.xs (cN t.n t.fs t.ls t.ln j)).toNat = a) with
      | false => rfl
      | true => exact absurd ((hiff j hj).1 hh) (hno j hj)
theorem DenOK.length (h : DenOK t) : ((stDenV t).length : Int) = prodI t.xs := by
  have h0 := laidF_ok h.laid
  have h1 : 0 ≤ prodI t.xs := by
    exact prodI_nonneg _ (cellsF_ok h0.1).2
  unfold stDenV
  rw [denseK_length, h.lead]
  omega
/-- all are 0, if all of the dense one are -/
theorem DenOK.nz (h : DenOK t) : (stDenV t).any nzB = t.vs.any nzB := by
  rw [Bool.eq_iff_iff, List.any_eq_true, List.any_eq_true]
  constructor
  · rintro ⟨x, hx, hn⟩
    obtain ⟨a, ha⟩ := List.mem_iff_getElem?.1 hx
    have hal := (List.getElem?_eq_some_iff.1 ha).1
    have hx' : (stDenV t).getD a 0 = x := by rw [List.getD_eq_getElem?_getD, ha]; rfl
    rcases h.get (a := a) (by rw [← h.length]; omega) with ⟨q, hq, _, e⟩ | ⟨_, e⟩
    · refine ⟨t.vs.getD q 0, ?_, by rw [← e, hx']; exact hn⟩
      rw [List.getD_eq_getElem?_getD, List.getElem?_eq_getElem (by rw [h.vl]; exact hq)]
      exact List.getElem_mem _
    · rw [hx'] at e
      subst e
      cases hn
  · rintro ⟨x, hx, hn⟩
    obtain ⟨q, hq⟩ := List.mem_iff_getElem?.1 hx
    have hql : q < t.vn := by rw [← h.vl]; exact (List.getElem?_eq_some_iff.1 hq).1
    have hi := h.inn hql
    have hb := hi.bound
    obtain ⟨a, ha⟩ : ∃ a : Nat, numR t.xs (cN t.n t.fs t.ls t.ln q) = a := ⟨_, (Int.toNat_of_nonneg hb.1).symm⟩
    have hpn := placeR_numR hi
    rw [ha] at hpn hb
    rcases h.get (a := a) hb.2 with ⟨q', hq', e1, e2⟩ | ⟨hno, _⟩
    · obtain rfl : q' = q := h.one hq' hql (by rw [e1, hpn])
      have hx' : t.vs.getD q' 0 = x := by rw [List.getD_eq_getElem?_getD, hq]; rfl
      refine ⟨(stDenV t).getD a 0, ?_, by rw [e2, hx']; exact hn⟩
      rw [List.getD_eq_getElem?_getD, List.getElem?_eq_getElem (by have := h.length; omega)]
      exact List.getElem_mem _
    · exact absurd hpn.symm (hno q hql)
end
end Go.Proofs.Ytfimnmdcbnfhfaa
