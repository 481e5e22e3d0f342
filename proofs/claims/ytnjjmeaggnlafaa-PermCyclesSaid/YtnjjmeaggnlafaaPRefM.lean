/- Plain facts on what the document's answers count. No program. -/
import Derived.Test.YtnjjmeaggnlafaaPOddM
namespace Go.Proofs.Ytnjjmeaggnlafaa
open Go.RowKit

/-- how often a number is there -/
def cntL (i : Int) (l : List Int) : Nat := (l.filter fun y => decide (y = i)).length
theorem cntL_snoc (i x : Int) (l : List Int) : cntL i (l ++ [x]) = cntL i l + if x = i then 1 else 0 := by
  unfold cntL; rw [List.filter_append, List.length_append]
  by_cases h : x = i <;> simp [h]
theorem cntL_pos {i : Int} {l : List Int} (h : 0 < cntL i l) : i ∈ l := by
  unfold cntL at h
  obtain ⟨x, hx⟩ := List.exists_mem_of_length_pos h
  rw [List.mem_filter] at hx
  have := hx.2
  simp at this
  rw [← this]; exact hx.1
theorem cntL_one {i : Int} {l : List Int} (h1 : l.Nodup) (h2 : i ∈ l) : cntL i l = 1 := by
  induction l with
  | nil => simp at h2
  | cons x l ih =>
    rw [List.nodup_cons] at h1
    have e : cntL i (x :: l) = cntL i l + if x = i then 1 else 0 := by unfold cntL; by_cases h : x = i <;> simp [h]
    rw [e]
    by_cases h : x = i
    · have h0 : cntL i l = 0 := by
        rcases Nat.eq_zero_or_pos (cntL i l) with h0 | h0
        · exact h0
        · exact absurd (cntL_pos h0) (by rw [← h]; exact h1.1)
      rw [h0, if_pos h]
    · rw [if_neg h, ih h1.2 (by rcases List.mem_cons.1 h2 with e | e; exact absurd e.symm h; exact e)]
theorem perm_of_cnt {l : List Int} (h12 : l.length ≤ 12) (h : ∀ i : Nat, i < l.length → cntL (i : Int) l = 1) : Perm_ l := by
  have hm : ∀ i : Nat, i < l.length → (i : Int) ∈ l := fun i hi => cntL_pos (by rw [h i hi]; omega)
  have hq : Perm_ (invL l) := by
    refine ⟨by rw [invL_length]; exact h12, ?_, ?_⟩
    · intro x hx
      obtain ⟨k, hk, hkl⟩ := mem_get hx
      rw [invL_length] at hkl ⊢
      rw [invL_at hkl] at hk
      injection hk with hk
      have := List.idxOf_lt_length_iff.2 (hm k hkl)
      omega
    · refine nodup_of_inj fun i j x hi hj => ?_
      have h1 := (List.getElem?_eq_some_iff.1 hi).1
      have h2 := (List.getElem?_eq_some_iff.1 hj).1
      rw [invL_length] at h1 h2
      rw [invL_at h1] at hi
      rw [invL_at h2] at hj
      injection hi with hi; injection hj with hj
      have e : l.idxOf (i : Int) = l.idxOf (j : Int) := by omega
      have a := idxOf_at (hm i h1)
      have b := idxOf_at (hm j h2)
      rw [e, b] at a
      injection a with a
      omega
  have hget : ∀ k : Nat, k < l.length → ∃ i : Nat, l[k]? = some (i : Int) ∧ i < l.length ∧ (invL l)[i]? = some (k : Int) := by
    intro k hk
    obtain ⟨i, hi, hil, _⟩ := hq.place (k := k) (by rw [invL_length]; exact hk)
    rw [invL_length] at hil
    have hi2 := hi
    rw [invL_at hil] at hi2
    injection hi2 with hi2
    have := idxOf_at (hm i hil)
    rw [show l.idxOf (i : Int) = k by omega] at this
    exact ⟨i, this, hil, hi⟩
  refine ⟨h12, ?_, ?_⟩
  · intro x hx
    obtain ⟨k, hk, hkl⟩ := mem_get hx
    obtain ⟨i, hi, hil, _⟩ := hget k hkl
    rw [hk] at hi
    injection hi with hi
    omega
  · refine nodup_of_inj fun i j x hi hj => ?_
    have h1 := (List.getElem?_eq_some_iff.1 hi).1
    have h2 := (List.getElem?_eq_some_iff.1 hj).1
    obtain ⟨a, ha, hal, hai⟩ := hget i h1
    obtain ⟨b, hb, hbl, hbi⟩ := hget j h2
    rw [hi] at ha
    rw [hj] at hb
    injection ha with ha; injection hb with hb
    have e : a = b := by omega
    subst e
    rw [hai] at hbi
    injection hbi with hbi
    omega
/-- the inverse, as far as it is laid -/
def invTo (p : List Int) (k : Nat) : List Int := (List.range p.length).map fun x : Nat => if p.idxOf (x : Int) < k then ((p.idxOf (x : Int) : Nat) : Int) else 0
theorem invTo_zero (p : List Int) : invTo p 0 = List.replicate p.length 0 := by
  apply List.ext_getElem?
  intro j
  simp [invTo, List.getElem?_replicate]
  by_cases h : j < p.length
  · simp [h]
  · simp [h]
theorem invTo_all {p : List Int} (hp : Perm_ p) : invTo p p.length = invL p := by
  unfold invTo invL
  refine List.map_congr_left fun x hx => ?_
  rw [List.mem_range] at hx
  rw [if_pos (List.idxOf_lt_length_iff.2 (hp.mem hx))]
theorem invTo_set {p : List Int} (hp : Perm_ p) {k x : Nat} (h : p[k]? = some (x : Int)) : (invTo p k).set x (k : Int) = invTo p (k + 1) := by
  apply List.ext_getElem?
  intro j
  have hx := hp.inn _ (List.mem_of_getElem? h)
  have hl : (invTo p k).length = p.length := by simp [invTo]
  by_cases hj : j < p.length
  · by_cases hjx : x = j
    · subst hjx
      rw [List.getElem?_set_self (by rw [hl]; exact hj)]
      simp [invTo, hj, nodup_idx hp.nodup h]
    · rw [List.getElem?_set_ne hjx]
      have hne : p.idxOf (j : Int) ≠ k := by
        intro e
        have := idxOf_at (hp.mem hj)
        rw [e, h] at this
        injection this with this
        omega
      simp [invTo, hj]
      by_cases h1 : p.idxOf (j : Int) < k
      · rw [if_pos h1, if_pos (by omega)]
      · rw [if_neg h1, if_neg (by omega)]
  · rw [List.getElem?_eq_none (by rw [List.length_set, hl]; omega), List.getElem?_eq_none (by simp [invTo]; omega)]
/-- how many are greater -/
def moreC (x : Int) (l : List Int) : Nat := (l.filter fun y => decide (x < y)).length
theorem moreC_snoc (x y : Int) (l : List Int) : moreC x (l ++ [y]) = moreC x l + if x < y then 1 else 0 := by
  unfold moreC; rw [List.filter_append, List.length_append]
  by_cases h : x < y <;> simp [h]
theorem moreC_le (x : Int) (l : List Int) : moreC x l ≤ l.length := List.length_filter_le _ _
theorem invsL_snoc (l : List Int) (x : Int) : invsL (l ++ [x]) = invsL l + moreC x l := by
  induction l with
  | nil => rfl
  | cons y l ih =>
    simp only [List.cons_append, invsL]
    rw [lessC_snoc, ih]
    unfold moreC
    by_cases h : x < y <;> simp [h] <;> omega
theorem lessC_self (x : Int) (l : List Int) : lessC x (x :: l) = lessC x l := by unfold lessC; simp
end Go.Proofs.Ytnjjmeaggnlafaa
