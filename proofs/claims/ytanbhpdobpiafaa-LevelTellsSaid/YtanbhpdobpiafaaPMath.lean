/- Plain facts on orders of a few numbers: lists of integers that have each number once; inverses, turns, ranks, cycles. No program. -/
import Derived.Test.YtanbhpdobpiafaaMathb
namespace Go.Proofs.Ytanbhpdobpiafaa
open Go.RowKit

/-- is a list an order of at most twelve numbers -/
def permB (p : List Int) : Bool := decide (p.length ≤ 12) && (p.all fun x => decide (0 ≤ x ∧ x < p.length)) && decide p.Nodup
def ordF (p : List Int) : Int := if permB p = true then 0 else 1
def pick (l : List Int) (x : Int) : Int := l.getD x.toNat 0
def turnL (l p : List Int) : List Int := p.map (pick l)
def plainL (n : Nat) : List Int := (List.range n).map Int.ofNat
def invL (p : List Int) : List Int := (List.range p.length).map fun k : Nat => ((p.idxOf (k : Int) : Nat) : Int)
/-- how many of the numbers behind are less than the first -/
def lessC (x : Int) (l : List Int) : Nat := (l.filter fun y => decide (y < x)).length
def lessL : List Int → List Int
  | [] => []
  | x :: l => (lessC x l : Int) :: lessL l
def fact : Nat → Nat
  | 0 => 1
  | n + 1 => (n + 1) * fact n
def rankL : List Int → Nat
  | [] => 0
  | x :: l => lessC x l * fact l.length + rankL l
def invsL : List Int → Nat
  | [] => 0
  | x :: l => lessC x l + invsL l
def nthL : Nat → List Int → Nat → List Int
  | 0, _, _ => []
  | m + 1, l, k => l.getD (k / fact m) 0 :: nthL m (l.eraseIdx (k / fact m)) (k % fact m)

structure Perm_ (p : List Int) : Prop where
  len : p.length ≤ 12
  inn : ∀ x ∈ p, 0 ≤ x ∧ x < p.length
  nodup : p.Nodup
theorem permB_iff {p : List Int} : permB p = true ↔ Perm_ p := by
  unfold permB
  simp only [Bool.and_eq_true, decide_eq_true_eq, List.all_eq_true]
  exact ⟨fun ⟨⟨a, b⟩, c⟩ => ⟨a, b, c⟩, fun h => ⟨⟨h.len, h.inn⟩, h.nodup⟩⟩
theorem ordF_ok {p : List Int} : ordF p = 0 ↔ Perm_ p := by
  rw [← permB_iff]; unfold ordF; split <;> simp_all
theorem ordF_no {p : List Int} (h : ¬ Perm_ p) : ordF p = 1 := by
  unfold ordF; rw [if_neg]; rw [permB_iff]; exact h
theorem ordF_yes {p : List Int} (h : Perm_ p) : ordF p = 0 := ordF_ok.2 h

/-- the marks of what was seen -/
def seenC (l : List Int) : List Value := (List.range 12).map fun i : Nat => Value.bool (l.contains (i : Int))
theorem seenC_nil : seenC [] = List.replicate 12 (Value.bool false) := by rfl
theorem seenC_at {l : List Int} {i : Nat} (h : i < 12) : (seenC l)[i]? = some (.bool (l.contains (i : Int))) := by
  unfold seenC; simp [h]
theorem seenC_set (l : List Int) {i : Nat} (h : i < 12) : (seenC l).set i (.bool true) = seenC (l ++ [(i : Int)]) := by
  apply List.ext_getElem?
  intro j
  rw [List.getElem?_set]
  unfold seenC
  by_cases hj : j < 12
  · by_cases hij : i = j
    · subst hij; simp [hj]
    · simp [hj, hij]; omega
  · simp [hj]; omega
theorem nodup_snoc {l : List Int} {x : Int} (h : l.Nodup) (hx : x ∉ l) : (l ++ [x]).Nodup := by
  rw [List.nodup_append]; refine ⟨h, by simp, ?_⟩; intro a ha b hb; simp at hb; subst hb; exact fun e => hx (e ▸ ha)

/-! ### Lists that are filled from the front -/
theorem fill_len {R : List Int} {n k : Nat} (hR : R.length = n) (hk : k ≤ n) : (R.take k ++ List.replicate (n - k) 0).length = n := by simp; omega
theorem fill_set {R : List Int} {n k : Nat} {x : Int} (hx : R[k]? = some x) (hR : R.length = n) : (R.take k ++ List.replicate (n - k) 0).set k x = R.take (k + 1) ++ List.replicate (n - (k + 1)) 0 := by
  have hk := (List.getElem?_eq_some_iff.1 hx).1
  have e : n - k = n - (k + 1) + 1 := by omega
  have e1 : (R.take k).length = k := by simp; omega
  rw [e, List.replicate_succ, List.set_append_right _ _ (by omega), e1, Nat.sub_self, List.set_cons_zero, take_succ_of hx, List.append_assoc]
  rfl
theorem fill_at {R : List Int} {n k : Nat} (hR : R.length = n) (hk : k < n) : (R.take k ++ List.replicate (n - k) 0)[k]? = some 0 := by
  rw [List.getElem?_append_right (by rw [List.length_take]; omega), List.getElem?_replicate, if_pos (by rw [List.length_take]; omega)]
theorem fill_done {R : List Int} {n : Nat} (hR : R.length = n) : R.take n ++ List.replicate (n - n) 0 = R := by
  rw [List.take_of_length_le (by omega)]; simp

/-! ### Places -/
theorem idxOf_of {p : List Int} {k : Nat} {x : Int} (hx : p[k]? = some x) (hn : x ∉ p.take k) : p.idxOf x = k := by
  have e : p = p.take k ++ x :: p.drop (k + 1) := by rw [← drop_of hx, List.take_append_drop]
  have hk := (List.getElem?_eq_some_iff.1 hx).1
  rw [e, List.idxOf_append, if_neg hn]
  simp; omega
theorem idxOf_at {p : List Int} {x : Int} (h : x ∈ p) : p[p.idxOf x]? = some x := by
  have hlt := List.idxOf_lt_length_iff.2 h
  rw [List.getElem?_eq_getElem hlt, List.getElem_idxOf]
theorem nodup_idx {p : List Int} (h : p.Nodup) {k : Nat} {x : Int} (hx : p[k]? = some x) : p.idxOf x = k := by
  refine idxOf_of hx fun hm => ?_
  have h3 : (p.take (k + 1)).Nodup := h.sublist (List.take_sublist _ _)
  rw [take_succ_of hx, List.nodup_append] at h3
  exact h3.2.2 x hm x (by simp) rfl

theorem plainL_length (n : Nat) : (plainL n).length = n := by simp [plainL]
theorem plainL_at {n k : Nat} (h : k < n) : (plainL n)[k]? = some (k : Int) := by simp [plainL, h]
theorem turnL_length (l p : List Int) : (turnL l p).length = p.length := by simp [turnL]
theorem invL_length (p : List Int) : (invL p).length = p.length := by simp [invL]
theorem invL_at {p : List Int} {k : Nat} (h : k < p.length) : (invL p)[k]? = some ((p.idxOf (k : Int) : Nat) : Int) := by simp [invL, h]
theorem lessL_length (p : List Int) : (lessL p).length = p.length := by induction p with | nil => rfl | cons x l ih => simp [lessL, ih]
theorem lessL_at {p : List Int} {k : Nat} {x : Int} (h : p[k]? = some x) : (lessL p)[k]? = some (lessC x (p.drop (k + 1)) : Int) := by
  induction p generalizing k with
  | nil => simp at h
  | cons y l ih => cases k with
    | zero => simp at h; subst h; simp [lessL]
    | succ k => simpa [lessL] using ih (by simpa using h)
theorem lessC_le (x : Int) (l : List Int) : lessC x l ≤ l.length := List.length_filter_le _ _
theorem lessC_snoc (x y : Int) (l : List Int) : lessC x (l ++ [y]) = lessC x l + if y < x then 1 else 0 := by
  unfold lessC; rw [List.filter_append, List.length_append]
  by_cases h : y < x <;> simp [h]
theorem fact_pos (n : Nat) : 0 < fact n := by induction n with | zero => decide | succ n ih => exact Nat.mul_pos (by omega) ih
theorem fact_mono {n m : Nat} (h : n ≤ m) : fact n ≤ fact m := by
  induction h with
  | refl => exact Nat.le_refl _
  | step h ih => rename_i m; refine Nat.le_trans ih ?_; show fact m ≤ (m + 1) * fact m; exact Nat.le_mul_of_pos_left _ (by omega)
theorem fact_12 : fact 12 = 479001600 := by decide
theorem fact_le {n : Nat} (h : n ≤ 12) : fact n ≤ 479001600 := by rw [← fact_12]; exact fact_mono h
/-- an order has each number once -/
theorem Perm_.mem {p : List Int} (h : Perm_ p) {k : Nat} (hk : k < p.length) : (k : Int) ∈ p := by
  -- as many different numbers below the length as there are
  have key : ∀ (n : Nat) (l : List Int), l.Nodup → (∀ x ∈ l, 0 ≤ x ∧ x < n) → l.length ≤ n ∧ (l.length = n → ∀ k : Nat, k < n → (k : Int) ∈ l) := by
    intro n
    induction n with
    | zero => intro l _ h2; cases l with | nil => simp | cons x l => have := h2 x (by simp); omega
    | succ n ih =>
      intro l h1 h2
      have hn : (l.erase (n : Int)).Nodup := h1.erase _
      have hb : ∀ x ∈ l.erase (n : Int), 0 ≤ x ∧ x < n := by
        intro x hx
        have hx2 := (List.Nodup.mem_erase_iff h1).1 hx
        have := h2 x hx2.2
        have hne := hx2.1
        omega
      obtain ⟨i1, i2⟩ := ih _ hn hb
      by_cases hm : (n : Int) ∈ l
      · rw [List.length_erase_of_mem hm] at i1 i2
        have hpos : 0 < l.length := List.length_pos_of_mem hm
        refine ⟨by omega, fun e k hk => ?_⟩
        by_cases hkn : k = n
        · subst hkn; exact hm
        · exact List.mem_of_mem_erase (i2 (by omega) k (by omega))
      · rw [List.erase_of_not_mem hm] at i1 i2
        exact ⟨by omega, fun e => by omega⟩
  exact (key p.length p h.nodup h.inn).2 rfl k hk
theorem turnL_at {l p : List Int} {k : Nat} {x y : Int} (h : p[k]? = some x) (hy : l[x.toNat]? = some y) : (turnL l p)[k]? = some y := by
  simp [turnL, pick, h, hy]

theorem rankL_lt (p : List Int) : rankL p < fact p.length := by
  induction p with
  | nil => decide
  | cons x l ih =>
    simp only [rankL, List.length_cons, fact]
    have h1 := lessC_le x l
    have h2 : lessC x l * fact l.length ≤ l.length * fact l.length := Nat.mul_le_mul_right _ h1
    rw [Nat.add_mul, Nat.one_mul]
    omega
theorem rankL_drop {p : List Int} {k : Nat} {x : Int} (h : p[k]? = some x) : rankL (p.drop k) = lessC x (p.drop (k + 1)) * fact (p.length - (k + 1)) + rankL (p.drop (k + 1)) := by
  rw [drop_of h]; simp [rankL]
theorem invsL_drop {p : List Int} {k : Nat} {x : Int} (h : p[k]? = some x) : invsL (p.drop k) = lessC x (p.drop (k + 1)) + invsL (p.drop (k + 1)) := by
  rw [drop_of h]; simp [invsL]
theorem invsL_le (p : List Int) : invsL p ≤ p.length * p.length := by
  induction p with
  | nil => decide
  | cons x l ih =>
    simp only [invsL, List.length_cons]
    have h1 := lessC_le x l
    rw [Nat.add_mul, Nat.mul_add]
    omega
def rankF (p : List Int) : Int × Int := if ordF p = 0 then (rankL p, 0) else (0, 1)
def oddB (p : List Int) : Bool := invsL p % 2 == 1
def oddF (p : List Int) : Bool × Int := if ordF p = 0 then (oddB p, 0) else (false, 1)
end Go.Proofs.Ytanbhpdobpiafaa
