/- Where a cell's number goes when a mode is summed over: by places, and by steps. -/
import Derived.Test.YtpjelcghlnmoeaaSumMath
import Derived.Test.YtpjelcghlnmoeaaMathb
namespace Go.Proofs.Ytpjelcghlnmoeaa
open Go.RowKit

theorem mod_split {x a t : Int} (ht : 0 < t) : x % (a * t) = x / t % a * t + x % t := by
  have h1 := Int.emod_add_mul_ediv x t
  have h2 := Int.emod_add_mul_ediv (x / t) a
  have h3 := Int.emod_add_mul_ediv x (a * t)
  have h4 : x / (a * t) = x / t / a := by rw [Int.mul_comm, Int.ediv_ediv_of_nonneg (by omega)]
  rw [h4] at h3
  have h5 : t * (x / t) = t * (x / t % a) + t * (a * (x / t / a)) := by rw [← Int.mul_add, h2]
  have h6 : t * (a * (x / t / a)) = a * t * (x / t / a) := by rw [← Int.mul_assoc, Int.mul_comm t a]
  have h7 : x / t % a * t = t * (x / t % a) := Int.mul_comm _ _
  omega
theorem prodI_erase {xs : List Int} {k : Nat} : k < xs.length → prodI (xs.eraseIdx k) = prodI (xs.take k) * prodI (xs.drop (k + 1)) := by
  intro _
  rw [List.eraseIdx_eq_take_drop_succ, prodI_append]
/-- by places -/
theorem num_erase {xs : List Int} (hp : ∀ x ∈ xs, 1 ≤ x) (n : Int) {k : Nat} {s : Int} (hs : xs[k]? = some s) :
    numR (xs.eraseIdx k) ((placeR xs n).eraseIdx k) = n / (prodI (xs.drop (k + 1)) * s) % prodI (xs.take k) * prodI (xs.drop (k + 1)) + n % prodI (xs.drop (k + 1)) := by
  induction xs generalizing k with
  | nil => simp at hs
  | cons a l ih =>
    have hl : ∀ x ∈ l, 1 ≤ x := fun x hx => hp x (by simp [hx])
    have ha := hp a (by simp)
    cases k with
    | zero =>
      simp only [List.eraseIdx_cons_zero, placeR, List.take_zero, List.drop_succ_cons, List.drop_zero]
      rw [numR_placeR hl]; simp [prodI, Int.emod_one]
    | succ k =>
      simp only [List.getElem?_cons_succ] at hs
      have hk := (List.getElem?_eq_some_iff.1 hs).1
      simp only [List.eraseIdx_cons_succ, placeR, numR, List.take_succ_cons, List.drop_succ_cons, prodI]
      rw [ih hl hs, prodI_erase hk]
      have hP : 1 ≤ prodI (l.drop (k + 1)) := prodI_pos fun x hx => hl x (List.mem_of_mem_drop hx)
      have hT : 1 ≤ prodI (l.take k) := prodI_pos fun x hx => hl x (List.mem_of_mem_take hx)
      have hs1 : 1 ≤ s := hl s (List.mem_of_getElem? hs)
      have hl2 : prodI l = prodI (l.drop (k + 1)) * s * prodI (l.take k) := by
        rw [prodI_split l k, prodI_drop hs, Int.mul_comm, Int.mul_comm s]
      rw [mod_split (by omega), hl2]
      have hps : 0 ≤ prodI (l.drop (k + 1)) * s := Int.mul_nonneg (by omega) (by omega)
      rw [← Int.ediv_ediv_of_nonneg hps, Int.add_mul, Int.mul_assoc (n / (prodI (l.drop (k + 1)) * s) / prodI (l.take k) % a)]
      omega
/-- by steps -/
theorem num_erase_idx {xs : List Int} (hp : ∀ x ∈ xs, 1 ≤ x) {n k p s : Nat} (hs : xs[k]? = some (s : Int)) (hP : prodI (xs.drop (k + 1)) = (p : Int)) (hn : (n : Int) < prodI xs) :
    numR (xs.eraseIdx k) ((placeR xs n).eraseIdx k) = (idx p s n : Nat) := by
  have hT : 1 ≤ prodI (xs.take k) := prodI_pos fun x hx => hp x (List.mem_of_mem_take hx)
  rw [num_erase hp _ hs, hP]
  unfold idx
  have h1 : (n : Int) / ((p : Int) * s) < prodI (xs.take k) := by
    have hps : 0 < (p : Int) * s := by
      have h1 : 1 ≤ prodI (xs.drop (k + 1)) := prodI_pos fun x hx => hp x (List.mem_of_mem_drop hx)
      have h2 : 1 ≤ (s : Int) := hp _ (List.mem_of_getElem? hs)
      rw [hP] at h1
      exact Int.mul_pos (by omega) (by omega)
    refine (Int.ediv_lt_iff_lt_mul hps).2 ?_
    rw [prodI_split xs k, prodI_drop hs, hP, Int.mul_comm (s : Int)] at hn
    exact hn
  have h0 : 0 ≤ (n : Int) / ((p : Int) * s) := Int.ediv_nonneg (by omega) (Int.mul_nonneg (by omega) (by omega))
  rw [Int.emod_eq_of_lt h0 h1]
  push_cast
  rfl
/-- how far apart a mode's neighbours are -/
def behind (xs : List Int) (k : Nat) : Nat := (prodI (xs.drop (k + 1))).toNat
def sizeAt (xs : List Int) (k : Nat) : Nat := (xs.getD k 0).toNat
/-- what is left of the cells, when a mode is summed over -/
def sumL (xs : List Int) (k : Nat) (V : List Int) : List Int := scat (idx (behind xs k) (sizeAt xs k)) (prodI (xs.eraseIdx k)).toNat V
theorem behind_eq {xs : List Int} (hp : ∀ x ∈ xs, 1 ≤ x) (k : Nat) : prodI (xs.drop (k + 1)) = (behind xs k : Nat) := by
  have h1 : 1 ≤ prodI (xs.drop (k + 1)) := prodI_pos fun x hx => hp x (List.mem_of_mem_drop hx)
  unfold behind; omega
theorem sizeAt_eq {xs : List Int} (hp : ∀ x ∈ xs, 1 ≤ x) {k : Nat} (hk : k < xs.length) : xs[k]? = some (sizeAt xs k : Int) := by
  have h := List.getElem?_eq_getElem hk
  have h1 := hp _ (List.mem_of_getElem? h)
  unfold sizeAt
  simp only [List.getD, h, Option.getD_some]
  congr 1; omega
/-- whether it is a place of what is left -/
theorem idx_fits {xs : List Int} (hp : ∀ x ∈ xs, 1 ≤ x) {k n : Nat} (hk : k < xs.length) (hn : (n : Int) < prodI xs) : idx (behind xs k) (sizeAt xs k) n < (prodI (xs.eraseIdx k)).toNat := by
  have h1 := behind_eq hp k
  have h2 := sizeAt_eq hp hk
  have hT : 1 ≤ prodI (xs.take k) := prodI_pos fun x hx => hp x (List.mem_of_mem_take hx)
  rw [prodI_erase hk, h1]
  have h3 : n < (prodI (xs.take k)).toNat * (behind xs k * sizeAt xs k) := by
    rw [prodI_split xs k, prodI_drop h2, h1] at hn
    refine Int.ofNat_lt.1 ?_
    push_cast
    rw [Int.toNat_of_nonneg (by omega), Int.mul_comm (behind xs k : Int)]
    exact hn
  have h4 := idx_lt h3
  have h5 : (prodI (xs.take k) * (behind xs k : Int)).toNat = (prodI (xs.take k)).toNat * behind xs k := by
    have : prodI (xs.take k) * (behind xs k : Int) = ((prodI (xs.take k)).toNat * behind xs k : Nat) := by
      push_cast; rw [Int.toNat_of_nonneg (by omega)]
    rw [this, Int.toNat_natCast]
  rw [h5]; exact h4
end Go.Proofs.Ytpjelcghlnmoeaa
