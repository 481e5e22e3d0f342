/- Sums over one mode, as sums over the numbers that go to one place: plain arithmetic on lists. -/
import Derived.Test.YtpjelcghlnmoeaaRingMath
namespace Go.Proofs.Ytpjelcghlnmoeaa
open Go.RowKit

/-- the sum of those whose number, counted from k on, goes to j -/
def sumAt (f : Nat → Nat) (j : Nat) : Nat → List Int → Int
  | _, [] => 0
  | k, v :: l => (if f k = j then v else 0) + sumAt f j (k + 1) l
/-- what goes to each of M places -/
def scat (f : Nat → Nat) (M : Nat) (V : List Int) : List Int := (List.range M).map fun j => wrap64 (sumAt f j 0 V)

theorem sumAt_append (f : Nat → Nat) (j : Nat) : ∀ (k : Nat) (a b : List Int), sumAt f j k (a ++ b) = sumAt f j k a + sumAt f j (k + a.length) b
  | k, [], b => by simp [sumAt]
  | k, x :: a, b => by
    simp only [List.cons_append, sumAt, List.length_cons]
    rw [sumAt_append f j (k + 1) a b, show k + 1 + a.length = k + (a.length + 1) by omega]; omega
theorem sumAt_snoc (f : Nat → Nat) (j : Nat) (a : List Int) (v : Int) : sumAt f j 0 (a ++ [v]) = sumAt f j 0 a + if f a.length = j then v else 0 := by
  rw [sumAt_append]; simp [sumAt]
theorem scat_length (f : Nat → Nat) (M : Nat) (V : List Int) : (scat f M V).length = M := by simp [scat]
theorem scat_at {f : Nat → Nat} {M j : Nat} (V : List Int) (h : j < M) : (scat f M V)[j]? = some (wrap64 (sumAt f j 0 V)) := by simp [scat, h]
theorem wrap64_bounds (n : Int) : -9223372036854775808 ≤ wrap64 n ∧ wrap64 n ≤ 9223372036854775807 := by unfold wrap64; omega
theorem scat_fits (f : Nat → Nat) (M : Nat) (V : List Int) : ∀ x ∈ scat f M V, -9223372036854775808 ≤ x ∧ x ≤ 9223372036854775807 := by
  intro x hx
  simp only [scat, List.mem_map] at hx
  obtain ⟨j, _, rfl⟩ := hx
  exact wrap64_bounds _
theorem wrap64_zero : wrap64 0 = 0 := by unfold wrap64; omega
theorem scat_nil (f : Nat → Nat) (M : Nat) : scat f M [] = List.replicate M 0 := by
  apply List.ext_getElem?
  intro j
  by_cases h : j < M
  · rw [scat_at _ h]; simp [sumAt, wrap64_zero, h]
  · rw [List.getElem?_eq_none (by rw [scat_length]; omega), List.getElem?_eq_none (by simp; omega)]
theorem scat_snoc {f : Nat → Nat} {M : Nat} {V : List Int} {v x : Int} (hx : (scat f M V)[f V.length]? = some x) : scat f M (V ++ [v]) = (scat f M V).set (f V.length) (wrap64 (x + v)) := by
  have hl : f V.length < M := by have := (List.getElem?_eq_some_iff.1 hx).1; rwa [scat_length] at this
  rw [scat_at _ hl] at hx
  injection hx with hx
  apply List.ext_getElem?
  intro j
  by_cases h : j < M
  · rw [scat_at _ h, List.getElem?_set, sumAt_snoc]
    by_cases he : f V.length = j
    · subst he; rw [if_pos rfl, if_pos rfl, if_pos (by rw [scat_length]; exact h), ← hx, wrap_add_l]
    · rw [if_neg he, if_neg he, scat_at _ h, Int.add_zero]
  · rw [List.getElem?_eq_none (by rw [scat_length]; omega), List.getElem?_eq_none (by rw [List.length_set, scat_length]; omega)]
/-- one round of the loop -/
theorem scat_step {f : Nat → Nat} {M k : Nat} {V : List Int} {v x : Int} (hv : V[k]? = some v) (hx : (scat f M (V.take k))[f k]? = some x) : scat f M (V.take (k + 1)) = (scat f M (V.take k)).set (f k) (wrap64 (x + v)) := by
  have hk : k < V.length := (List.getElem?_eq_some_iff.1 hv).1
  have hl : (V.take k).length = k := by rw [List.length_take]; omega
  rw [take_succ_of hv]
  have := scat_snoc (f := f) (M := M) (V := V.take k) (v := v) (x := x) (by rw [hl]; exact hx)
  rw [hl] at this
  exact this
theorem sumAt_set (g : Nat → Nat) (i : Nat) : ∀ (k : Nat) (L : List Int) (p : Nat) (x y : Int), L[p]? = some x → sumAt g i k (L.set p y) = sumAt g i k L + if g (k + p) = i then y - x else 0
  | k, [], p, x, y, h => by simp at h
  | k, z :: L, 0, x, y, h => by
    simp only [List.getElem?_cons_zero, Option.some.injEq] at h
    subst h
    simp only [List.set_cons_zero, sumAt, Nat.add_zero]
    split <;> omega
  | k, z :: L, p + 1, x, y, h => by
    simp only [List.getElem?_cons_succ] at h
    simp only [List.set_cons_succ, sumAt]
    rw [sumAt_set g i (k + 1) L p x y h, show k + 1 + p = k + (p + 1) by omega]; omega
theorem sumAt_zeros (g : Nat → Nat) (i : Nat) : ∀ (k M : Nat), sumAt g i k (List.replicate M 0) = 0
  | _, 0 => rfl
  | k, M + 1 => by simp only [List.replicate_succ, sumAt, sumAt_zeros g i (k + 1) M]; split <;> rfl
theorem list_snoc_ind {α : Type} {P : List α → Prop} (h0 : P []) (hs : ∀ l x, P l → P (l ++ [x])) (l : List α) : P l := by
  have : ∀ r : List α, P r.reverse := by
    intro r
    induction r with
    | nil => exact h0
    | cons x r ih => rw [List.reverse_cons]; exact hs _ _ ih
  have h := this l.reverse
  rwa [List.reverse_reverse] at h
/-- sums of sums -/
theorem sumAt_scat (f g : Nat → Nat) (M i : Nat) (V : List Int) (hf : ∀ n, n < V.length → f n < M) : wrap64 (sumAt g i 0 (scat f M V)) = wrap64 (sumAt (fun n => g (f n)) i 0 V) := by
  induction V using list_snoc_ind with
  | h0 => rw [scat_nil, sumAt_zeros]; rfl
  | hs V v ih =>
    have hl : f V.length < M := hf V.length (by simp)
    have h1 := ih (fun n hn => hf n (by simp; omega))
    rw [scat_snoc (scat_at V hl), sumAt_set g i 0 _ _ _ _ (scat_at V hl), sumAt_snoc, Nat.zero_add]
    by_cases he : g (f V.length) = i
    · rw [if_pos he, if_pos he, ← wrap_add_l, h1, wrap_add_l]
      obtain ⟨k1, e1⟩ := wrap64_off (sumAt f (f V.length) 0 V)
      obtain ⟨k2, e2⟩ := wrap64_off (wrap64 (sumAt f (f V.length) 0 V) + v)
      rw [e2, e1, show sumAt (fun n => g (f n)) i 0 V + (sumAt f (f V.length) 0 V + k1 * 18446744073709551616 + v + k2 * 18446744073709551616 - (sumAt f (f V.length) 0 V + k1 * 18446744073709551616)) = sumAt (fun n => g (f n)) i 0 V + v + k2 * 18446744073709551616 by omega, wrap64_more]
    · rw [if_neg he, if_neg he, Int.add_zero, Int.add_zero, h1]
theorem scat_scat (f g : Nat → Nat) (M N : Nat) (V : List Int) (hf : ∀ n, n < V.length → f n < M) : scat g N (scat f M V) = scat (fun n => g (f n)) N V := by
  unfold scat
  apply List.map_congr_left
  intro j _
  exact sumAt_scat f g M j V hf
theorem sumAt_same {f g : Nat → Nat} (j : Nat) : ∀ (k : Nat) (V : List Int), (∀ n, k ≤ n → n < k + V.length → f n = g n) → sumAt f j k V = sumAt g j k V
  | _, [], _ => rfl
  | k, v :: V, h => by
    simp only [sumAt]
    rw [h k (Nat.le_refl _) (by simp), sumAt_same j (k + 1) V fun n h1 h2 => h n (by omega) (by simp; omega)]
theorem scat_same {f g : Nat → Nat} (M : Nat) (V : List Int) (h : ∀ n, n < V.length → f n = g n) : scat f M V = scat g M V := by
  unfold scat
  apply List.map_congr_left
  intro j _
  rw [sumAt_same j 0 V fun n _ h2 => h n (by omega)]
theorem sumAt_add (f : Nat → Nat) (j : Nat) : ∀ (k : Nat) (a b : List Int), a.length = b.length → wrap64 (sumAt f j k (addL a b)) = wrap64 (sumAt f j k a + sumAt f j k b)
  | k, [], [], _ => rfl
  | k, [], _ :: _, h => by simp at h
  | k, _ :: _, [], h => by simp at h
  | k, x :: a, y :: b, h => by
    have ih := sumAt_add f j (k + 1) a b (by simpa using h)
    simp only [addL, List.zipWith_cons_cons, sumAt] at ih ⊢
    split
    · rw [wrap_add_l, ← wrap_add_r, ih, wrap_add_r, show x + y + (sumAt f j (k + 1) a + sumAt f j (k + 1) b) = x + sumAt f j (k + 1) a + (y + sumAt f j (k + 1) b) by omega]
    · rw [Int.zero_add, Int.zero_add, Int.zero_add, ih]
theorem scat_add (f : Nat → Nat) (M : Nat) (a b : List Int) (h : a.length = b.length) : scat f M (addL a b) = addL (scat f M a) (scat f M b) := by
  apply List.ext_getElem?
  intro j
  by_cases hj : j < M
  · unfold addL
    rw [List.getElem?_zipWith, scat_at _ hj, scat_at _ hj, ← addL, scat_at _ hj, sumAt_add f j 0 a b h]
    simp only [Option.some.injEq]
    rw [wrap_add_l, wrap_add_r]
  · rw [List.getElem?_eq_none (by rw [scat_length]; omega), List.getElem?_eq_none (by rw [addL_length (scat_length ..) (scat_length ..)]; omega)]
def byL (z : Int) (a : List Int) : List Int := List.zipWith (fun x _ => wrap64 (x * z)) a a
theorem byL_map (z : Int) : ∀ a : List Int, byL z a = a.map fun x => wrap64 (x * z)
  | [] => rfl
  | x :: a => by have := byL_map z a; simp only [byL, List.zipWith_cons_cons, List.map_cons] at this ⊢; rw [this]
theorem byL_length (z : Int) (a : List Int) : (byL z a).length = a.length := by rw [byL_map]; simp
theorem sumAt_by (f : Nat → Nat) (j : Nat) (z : Int) : ∀ (k : Nat) (a : List Int), wrap64 (sumAt f j k (byL z a)) = wrap64 (sumAt f j k a * z)
  | k, [] => by simp [byL, sumAt]
  | k, x :: a => by
    have ih := sumAt_by f j z (k + 1) a
    rw [byL_map] at ih ⊢
    simp only [List.map_cons, sumAt]
    rw [Int.add_mul]
    split
    · rw [wrap_add_l, ← wrap_add_r, ih, wrap_add_r]
    · rw [Int.zero_mul, Int.zero_add, Int.zero_add, ih]
theorem scat_by (f : Nat → Nat) (M : Nat) (z : Int) (a : List Int) : scat f M (byL z a) = byL z (scat f M a) := by
  apply List.ext_getElem?
  intro j
  by_cases hj : j < M
  · rw [byL_map z (scat f M a), List.getElem?_map, scat_at _ hj, scat_at _ hj, sumAt_by]
    simp only [Option.map_some, Option.some.injEq]
    rw [wrap_mul_l]
  · rw [List.getElem?_eq_none (by rw [scat_length]; omega), List.getElem?_eq_none (by rw [byL_length, scat_length]; omega)]

/-! ### the number that a cell goes to, when a mode is summed over -/
/-- p: how far apart the mode's neighbours are; s: the mode's size -/
def idx (p s n : Nat) : Nat := n / (p * s) * p + n % p
theorem idx_lt {p s t n : Nat} (h : n < t * (p * s)) : idx p s n < t * p := by
  unfold idx
  have hps : 0 < p * s := by rcases Nat.eq_zero_or_pos (p * s) with h0 | h0; · rw [h0] at h; omega
                             · exact h0
  have hp : 0 < p := Nat.pos_of_mul_pos_right hps
  have h1 : n / (p * s) < t := (Nat.div_lt_iff_lt_mul hps).2 h
  have h2 : n % p < p := Nat.mod_lt _ hp
  have h3 : (n / (p * s) + 1) * p ≤ t * p := Nat.mul_le_mul_right p h1
  rw [Nat.add_mul] at h3
  omega
/-- a number, taken apart -/
theorem idx_parts (p s u k r : Nat) (hk : k < s) (hr : r < p) : idx p s ((u * s + k) * p + r) = u * p + r := by
  unfold idx
  have hp : 0 < p := by omega
  have e1 : ((u * s + k) * p + r) % p = r := by rw [Nat.mul_comm, Nat.mul_add_mod, Nat.mod_eq_of_lt hr]
  have e2 : ((u * s + k) * p + r) / p = u * s + k := by rw [Nat.mul_comm, Nat.mul_add_div hp, Nat.div_eq_of_lt hr, Nat.add_zero]
  have e3 : ((u * s + k) * p + r) / (p * s) = u := by
    rw [← Nat.div_div_eq_div_mul, e2, Nat.mul_comm, Nat.mul_add_div (by omega), Nat.div_eq_of_lt hk, Nat.add_zero]
  rw [e1, e3]
theorem parts_of (p s n : Nat) (h : 0 < p * s) : ∃ u k r, k < s ∧ r < p ∧ n = (u * s + k) * p + r := by
  have hp : 0 < p := Nat.pos_of_mul_pos_right h
  have hs : 0 < s := Nat.pos_of_mul_pos_left h
  refine ⟨n / p / s, n / p % s, n % p, Nat.mod_lt _ hs, Nat.mod_lt _ hp, ?_⟩
  rw [Nat.mul_comm (n / p / s) s, Nat.div_add_mod, Nat.mul_comm, Nat.div_add_mod]
/-- two modes, of which the one behind has neighbours r apart and b places, and the one ahead q * (b * r) apart and a places: in either order -/
theorem idx_swap {r b q a n : Nat} (h : 0 < r * b * q * a) : idx (q * r) a (idx r b n) = idx r b (idx (q * b * r) a n) := by
  have hr : 0 < r := by rcases Nat.eq_zero_or_pos r with h0 | h0; · subst h0; simp at h
                        · exact h0
  have hb : 0 < b := by rcases Nat.eq_zero_or_pos b with h0 | h0; · subst h0; simp at h
                        · exact h0
  have hqa : 0 < q * a := by rcases Nat.eq_zero_or_pos (q * a) with h0 | h0; · rw [Nat.mul_assoc, h0] at h; simp at h
                             · exact h0
  obtain ⟨u1, γ, ρ, hγ, hρ, rfl⟩ := parts_of r b n (Nat.mul_pos hr hb)
  obtain ⟨u, α, β, hα, hβ, rfl⟩ := parts_of q a u1 hqa
  rw [idx_parts r b _ γ ρ hγ hρ]
  have e1 : ((u * a + α) * q + β) * r + ρ = (u * a + α) * (q * r) + (β * r + ρ) := by
    rw [Nat.add_mul, Nat.mul_assoc, Nat.add_assoc]
  have b1 : β * r + ρ < q * r := by
    have : (β + 1) * r ≤ q * r := Nat.mul_le_mul_right r hβ
    rw [Nat.add_mul] at this; omega
  rw [e1, idx_parts (q * r) a u α (β * r + ρ) hα b1]
  have e2 : (((u * a + α) * q + β) * b + γ) * r + ρ = (u * a + α) * (q * b * r) + ((β * b + γ) * r + ρ) := by
    simp only [Nat.add_mul, Nat.mul_assoc, Nat.add_assoc]
  have b2 : (β * b + γ) * r + ρ < q * b * r := by
    have h1 : (β + 1) * b ≤ q * b := Nat.mul_le_mul_right b hβ
    rw [Nat.add_mul] at h1
    have h2 : (β * b + γ + 1) * r ≤ q * b * r := Nat.mul_le_mul_right r (by omega)
    rw [Nat.add_mul] at h2; omega
  rw [e2, idx_parts (q * b * r) a u α _ hα b2]
  have e3 : u * (q * b * r) + ((β * b + γ) * r + ρ) = ((u * q + β) * b + γ) * r + ρ := by
    simp only [Nat.add_mul, Nat.mul_assoc, Nat.add_assoc]
  rw [e3, idx_parts r b _ γ ρ hγ hρ, Nat.add_mul, Nat.mul_assoc, Nat.add_assoc]
end Go.Proofs.Ytpjelcghlnmoeaa
