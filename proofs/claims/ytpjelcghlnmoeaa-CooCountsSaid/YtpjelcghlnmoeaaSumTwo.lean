/- Sums over two modes are the same in either order; over all modes they are the sum of all: plain arithmetic on lists. -/
import Derived.Test.YtpjelcghlnmoeaaSumPlace
namespace Go.Proofs.Ytpjelcghlnmoeaa
open Go.RowKit

theorem erase_mid (P : List Int) (a : Int) (L : List Int) (k : Nat) (hk : k = P.length) : (P ++ a :: L).eraseIdx k = P ++ L := by
  subst hk
  rw [List.eraseIdx_append_of_length_le (Nat.le_refl _), Nat.sub_self, List.eraseIdx_cons_zero]
theorem drop_mid (P : List Int) (a : Int) (L : List Int) (k : Nat) (hk : k = P.length) : (P ++ a :: L).drop (k + 1) = L := by
  subst hk
  rw [List.drop_append, List.drop_of_length_le (by omega), Nat.add_sub_cancel_left, List.nil_append, List.drop_succ_cons, List.drop_zero]
theorem get_mid (P : List Int) (a : Int) (L : List Int) (k : Nat) (hk : k = P.length) : (P ++ a :: L).getD k 0 = a := by
  subst hk; simp [List.getD]
theorem split_one {xs : List Int} {k : Nat} (hk : k < xs.length) : ∃ P a L, xs = P ++ a :: L ∧ P.length = k :=
  ⟨xs.take k, xs[k], xs.drop (k + 1), by rw [← List.drop_eq_getElem_cons hk, List.take_append_drop], by rw [List.length_take]; omega⟩
theorem split_two {xs : List Int} {l h : Nat} (hl : l < h) (hh : h < xs.length) : ∃ P a Q b R, xs = P ++ a :: (Q ++ b :: R) ∧ P.length = l ∧ h = l + 1 + Q.length := by
  obtain ⟨P, a, L, e, hP⟩ := split_one (xs := xs) (k := l) (by omega)
  have h2 : h - (l + 1) < L.length := by have := congrArg List.length e; simp at this; omega
  obtain ⟨Q, b, R, e2, hQ⟩ := split_one h2
  exact ⟨P, a, Q, b, R, by rw [e, e2], hP, by omega⟩
theorem erase_two {xs : List Int} {l h : Nat} (hl : l < h) (hh : h < xs.length) : (xs.eraseIdx h).eraseIdx l = (xs.eraseIdx l).eraseIdx (h - 1) := by
  obtain ⟨P, a, Q, b, R, rfl, rfl, rfl⟩ := split_two hl hh
  have e1 : P ++ a :: (Q ++ b :: R) = (P ++ a :: Q) ++ b :: R := by simp
  have e2 : P ++ (Q ++ b :: R) = (P ++ Q) ++ b :: R := by simp
  rw [erase_mid P a _ _ rfl, e1, erase_mid _ b R _ (by simp <;> omega), List.append_assoc, List.cons_append, erase_mid P a _ _ rfl, e2, erase_mid _ b R _ (by simp <;> omega), List.append_assoc]
theorem prodI_toNat_mul {a b : Int} (ha : 1 ≤ a) (hb : 1 ≤ b) : (a * b).toNat = a.toNat * b.toNat := by
  have : a * b = ((a.toNat * b.toNat : Nat) : Int) := by
    rw [Int.natCast_mul, Int.toNat_of_nonneg (by omega), Int.toNat_of_nonneg (by omega)]
  rw [this, Int.toNat_natCast]
theorem pos_erase {xs : List Int} (hp : ∀ x ∈ xs, 1 ≤ x) (k : Nat) : ∀ x ∈ xs.eraseIdx k, 1 ≤ x := fun x hx => hp x (List.mem_of_mem_eraseIdx hx)
theorem sumL_length (xs : List Int) (k : Nat) (V : List Int) : (sumL xs k V).length = (prodI (xs.eraseIdx k)).toNat := scat_length ..
theorem sumL_fits (xs : List Int) (k : Nat) (V : List Int) : ∀ x ∈ sumL xs k V, -9223372036854775808 ≤ x ∧ x ≤ 9223372036854775807 := scat_fits _ _ _
theorem scat_zeros (f : Nat → Nat) (M K : Nat) : scat f M (List.replicate K 0) = List.replicate M 0 := by
  apply List.ext_getElem?
  intro j
  by_cases h : j < M
  · rw [scat_at _ h, sumAt_zeros, wrap64_zero]; simp [h]
  · rw [List.getElem?_eq_none (by rw [scat_length]; omega), List.getElem?_eq_none (by simp <;> omega)]
theorem sumL_nil (xs : List Int) (k : Nat) : sumL xs k [] = List.replicate (prodI (xs.eraseIdx k)).toNat 0 := scat_nil ..
theorem sumL_zeros (xs : List Int) (k K : Nat) : sumL xs k (List.replicate K 0) = List.replicate (prodI (xs.eraseIdx k)).toNat 0 := scat_zeros ..
/-- in either order -/
theorem sumL_swap {xs : List Int} (hp : ∀ x ∈ xs, 1 ≤ x) {l h : Nat} (hl : l < h) (hh : h < xs.length) {V : List Int} (hV : (V.length : Int) = prodI xs) :
    sumL (xs.eraseIdx h) l (sumL xs h V) = sumL (xs.eraseIdx l) (h - 1) (sumL xs l V) := by
  have f1 : ∀ n, n < V.length → idx (behind xs h) (sizeAt xs h) n < (prodI (xs.eraseIdx h)).toNat := fun n hn => idx_fits hp hh (by omega)
  have f2 : ∀ n, n < V.length → idx (behind xs l) (sizeAt xs l) n < (prodI (xs.eraseIdx l)).toNat := fun n hn => idx_fits hp (by omega) (by omega)
  unfold sumL
  rw [scat_scat _ _ _ _ _ f1, scat_scat _ _ _ _ _ f2, erase_two hl hh]
  clear f1 f2
  apply scat_same
  intro n hn
  obtain ⟨P, a, Q, b, R, rfl, rfl, rfl⟩ := split_two hl hh
  have hQ : 1 ≤ prodI Q := prodI_pos fun x hx => hp x (by simp [hx])
  have hR : 1 ≤ prodI R := prodI_pos fun x hx => hp x (by simp [hx])
  have ha : 1 ≤ a := hp a (by simp)
  have hb : 1 ≤ b := hp b (by simp)
  have e1 : P ++ a :: (Q ++ b :: R) = (P ++ a :: Q) ++ b :: R := by simp
  have q1 : behind (P ++ a :: (Q ++ b :: R)) (P.length + 1 + Q.length) = (prodI R).toNat := by
    unfold behind; rw [e1, drop_mid _ b R _ (by simp <;> omega)]
  have q2 : sizeAt (P ++ a :: (Q ++ b :: R)) (P.length + 1 + Q.length) = b.toNat := by
    unfold sizeAt; rw [e1, get_mid _ b R _ (by simp <;> omega)]
  have q3 : (P ++ a :: (Q ++ b :: R)).eraseIdx (P.length + 1 + Q.length) = P ++ a :: (Q ++ R) := by
    rw [e1, erase_mid _ b R _ (by simp <;> omega)]; simp
  have q4 : behind (P ++ a :: (Q ++ R)) P.length = (prodI Q).toNat * (prodI R).toNat := by
    unfold behind; rw [drop_mid _ _ _ _ rfl, prodI_append, prodI_toNat_mul hQ hR]
  have q5 : sizeAt (P ++ a :: (Q ++ R)) P.length = a.toNat := by unfold sizeAt; rw [get_mid _ _ _ _ rfl]
  have q6 : behind (P ++ a :: (Q ++ b :: R)) P.length = (prodI Q).toNat * b.toNat * (prodI R).toNat := by
    unfold behind; rw [drop_mid _ _ _ _ rfl, prodI_append, prodI, prodI_toNat_mul hQ (by have := Int.mul_pos (show 0 < b by omega) (show 0 < prodI R by omega); omega), prodI_toNat_mul hb hR, Nat.mul_assoc]
  have q7 : sizeAt (P ++ a :: (Q ++ b :: R)) P.length = a.toNat := by unfold sizeAt; rw [get_mid _ _ _ _ rfl]
  have q8 : (P ++ a :: (Q ++ b :: R)).eraseIdx P.length = (P ++ Q) ++ b :: R := by rw [erase_mid P a _ _ rfl]; simp
  have q9 : behind ((P ++ Q) ++ b :: R) (P.length + 1 + Q.length - 1) = (prodI R).toNat := by
    unfold behind; rw [drop_mid _ _ _ _ (by simp <;> omega)]
  have q10 : sizeAt ((P ++ Q) ++ b :: R) (P.length + 1 + Q.length - 1) = b.toNat := by unfold sizeAt; rw [get_mid _ _ _ _ (by simp <;> omega)]
  rw [q1, q2, q3, q4, q5, q6, q7, q8, q9, q10]
  apply idx_swap
  have k1 : 0 < (prodI R).toNat := by omega
  have k2 : 0 < b.toNat := by omega
  have k3 : 0 < (prodI Q).toNat := by omega
  have k4 : 0 < a.toNat := by omega
  exact Nat.mul_pos (Nat.mul_pos (Nat.mul_pos k1 k2) k3) k4
/-- the sum of all, as it is summed -/
def totL (V : List Int) : Int := V.foldl (fun a v => wrap64 (a + v)) 0
theorem totL_snoc (V : List Int) (v : Int) : totL (V ++ [v]) = wrap64 (totL V + v) := by simp [totL]
theorem totL_eq (V : List Int) : totL V = wrap64 (sumAt (fun _ => 0) 0 0 V) := by
  induction V using list_snoc_ind with
  | h0 => simp [totL, sumAt, wrap64_zero]
  | hs V v ih => rw [totL_snoc, ih, sumAt_snoc, if_pos rfl, wrap_add_l]
theorem totL_scat (f : Nat → Nat) (M : Nat) (V : List Int) (hf : ∀ n, n < V.length → f n < M) : totL (scat f M V) = totL V := by
  rw [totL_eq, totL_eq, sumAt_scat f (fun _ => 0) M 0 V hf]
theorem totL_zeros (K : Nat) : totL (List.replicate K 0) = 0 := by rw [totL_eq, sumAt_zeros, wrap64_zero]
theorem totL_sumL {xs : List Int} (hp : ∀ x ∈ xs, 1 ≤ x) {k : Nat} (hk : k < xs.length) {V : List Int} (hV : (V.length : Int) = prodI xs) : totL (sumL xs k V) = totL V :=
  totL_scat _ _ _ fun _ hn => idx_fits hp hk (by omega)
theorem totL_one {v : Int} (h : -9223372036854775808 ≤ v ∧ v ≤ 9223372036854775807) : totL [v] = v := by
  simp only [totL, List.foldl_cons, List.foldl_nil, Int.zero_add]; unfold wrap64; omega
end Go.Proofs.Ytpjelcghlnmoeaa
