/- How many entries each place of a mode has: plain facts. Nothing is claimed of the program here. -/
import Derived.Test.YtpjelcghlnmoeaaCooCount
namespace Go.Proofs.Ytpjelcghlnmoeaa
open Go.RowKit

/-- the place that an entry has in a mode -/
def plE (md : Nat) (x : Ent) : Nat := (x.cs.getD md 0).toNat
/-- how many entries are at place j of a mode -/
def cntE (md j : Nat) : List Ent → Nat
  | [] => 0
  | x :: es => (if plE md x = j then 1 else 0) + cntE md j es
theorem cntE_cons (md j : Nat) (x : Ent) (es : List Ent) : cntE md j (x :: es) = (if plE md x = j then 1 else 0) + cntE md j es := rfl
theorem cntE_append (md j : Nat) (a b : List Ent) : cntE md j (a ++ b) = cntE md j a + cntE md j b := by
  induction a with
  | nil => simp [cntE]
  | cons x a ih => rw [List.cons_append, cntE_cons, cntE_cons, ih]; omega
theorem cntE_le (md j : Nat) (a : List Ent) : cntE md j a ≤ a.length := by
  induction a with
  | nil => simp [cntE]
  | cons x a ih => rw [cntE_cons, List.length_cons]; split <;> omega
theorem sumAt_cnt (md j : Nat) (es pre : List Ent) : sumAt (modeAt (pre ++ es) md) j pre.length (List.replicate es.length 1) = (cntE md j es : Int) := by
  induction es generalizing pre with
  | nil => simp [sumAt, cntE]
  | cons x es ih =>
    have e : pre ++ x :: es = (pre ++ [x]) ++ es := by simp
    have h := ih (pre ++ [x])
    rw [List.length_append, List.length_singleton] at h
    rw [List.length_cons, List.replicate_succ]
    rw [cntE_cons]
    unfold sumAt
    rw [e, h]
    have hm : modeAt ((pre ++ [x]) ++ es) md pre.length = plE md x := by unfold modeAt plE; simp
    rw [hm]
    split <;> simp
theorem countV_at {xs : List Int} {md j : Nat} {es : List Ent} (hl : es.length ≤ 65536) (hj : j < (xs.getD md 0).toNat) : (countV xs md es)[j]? = some (cntE md j es : Int) := by
  unfold countV
  rw [scat_at _ hj]
  have := sumAt_cnt md j es []
  rw [List.nil_append, List.length_nil] at this
  rw [this]
  have h2 := cntE_le md j es
  congr 1
  exact IntWalk.wrap64_in _ ⟨by omega, by omega⟩
theorem countV_length (xs : List Int) (md : Nat) (es : List Ent) : (countV xs md es).length = (xs.getD md 0).toNat := scat_length ..
/-- the sum of the first j counts -/
def sumTo (md : Nat) (es : List Ent) : Nat → Nat
  | 0 => 0
  | j + 1 => sumTo md es j + cntE md j es
theorem sumTo_cons (md : Nat) (x : Ent) (es : List Ent) (j : Nat) : sumTo md (x :: es) j = (if plE md x < j then 1 else 0) + sumTo md es j := by
  induction j with
  | zero => simp [sumTo]
  | succ j ih =>
    unfold sumTo
    rw [ih]
    rw [cntE_cons]
    by_cases h1 : plE md x < j
    · rw [if_pos h1, if_neg (by omega), if_pos (by omega)]; omega
    · by_cases h2 : plE md x = j
      · rw [if_neg h1, if_pos h2, if_pos (by omega)]; omega
      · rw [if_neg h1, if_neg h2, if_neg (by omega)]; omega
theorem sumTo_all (md M : Nat) (es : List Ent) (h : ∀ x ∈ es, plE md x < M) : sumTo md es M = es.length := by
  induction es with
  | nil =>
    induction M with
    | zero => rfl
    | succ M ih => unfold sumTo; rw [ih (fun x hx => by cases hx)]; rfl
  | cons x es ih => rw [sumTo_cons, if_pos (h x (by simp)), ih (fun y hy => h y (by simp [hy])), List.length_cons]; omega
theorem sumTo_le (md : Nat) (es : List Ent) (j : Nat) : sumTo md es j ≤ es.length := by
  induction es with
  | nil => induction j with
    | zero => simp [sumTo]
    | succ j ih => unfold sumTo; have : cntE md j [] = 0 := rfl; simp at ih ⊢; omega
  | cons x es ih => rw [sumTo_cons, List.length_cons]; split <;> omega
end Go.Proofs.Ytpjelcghlnmoeaa
