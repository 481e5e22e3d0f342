/- Sums and products of 64-bit cells make a ring. -/
import Derived.Test.YtpjelcghlnmoeaaBase
namespace Go.Proofs.Ytpjelcghlnmoeaa
open Go.RowKit

def addL (a b : List Int) : List Int := List.zipWith (fun x y => wrap64 (x + y)) a b
def mulL (a b : List Int) : List Int := List.zipWith (fun x y => wrap64 (x * y)) a b
def negL (a : List Int) : List Int := List.zipWith (fun x _ => wrap64 (x * (-1))) a a
theorem wrap64_more (a k : Int) : wrap64 (a + k * 18446744073709551616) = wrap64 a := by unfold wrap64; omega
theorem wrap64_off (a : Int) : ∃ k : Int, wrap64 a = a + k * 18446744073709551616 := ⟨-((a + 9223372036854775808) / 18446744073709551616), by unfold wrap64; omega⟩
theorem wrap_add_l (a b : Int) : wrap64 (wrap64 a + b) = wrap64 (a + b) := by
  obtain ⟨k, hk⟩ := wrap64_off a
  rw [hk, show a + k * 18446744073709551616 + b = a + b + k * 18446744073709551616 by omega, wrap64_more]
theorem wrap_add_r (a b : Int) : wrap64 (a + wrap64 b) = wrap64 (a + b) := by rw [Int.add_comm, wrap_add_l, Int.add_comm]
theorem wrap_mul_l (a b : Int) : wrap64 (wrap64 a * b) = wrap64 (a * b) := by
  obtain ⟨k, hk⟩ := wrap64_off a
  rw [hk, Int.add_mul, Int.mul_assoc, Int.mul_comm 18446744073709551616 b, ← Int.mul_assoc, wrap64_more]
theorem wrap_mul_r (a b : Int) : wrap64 (a * wrap64 b) = wrap64 (a * b) := by rw [Int.mul_comm, wrap_mul_l, Int.mul_comm]
theorem addL_comm : ∀ a b : List Int, addL a b = addL b a
  | [], [] => rfl
  | [], _ :: _ => rfl
  | _ :: _, [] => rfl
  | x :: a, y :: b => by have := addL_comm a b; simp only [addL, List.zipWith_cons_cons] at this ⊢; rw [this, Int.add_comm]
theorem mulL_comm : ∀ a b : List Int, mulL a b = mulL b a
  | [], [] => rfl
  | [], _ :: _ => rfl
  | _ :: _, [] => rfl
  | x :: a, y :: b => by have := mulL_comm a b; simp only [mulL, List.zipWith_cons_cons] at this ⊢; rw [this, Int.mul_comm]
theorem addL_assoc : ∀ a b c : List Int, addL (addL a b) c = addL a (addL b c)
  | [], _, _ => by simp [addL]
  | _ :: _, [], _ => by simp [addL]
  | _ :: _, _ :: _, [] => by simp [addL]
  | x :: a, y :: b, z :: c => by have := addL_assoc a b c; simp only [addL, List.zipWith_cons_cons] at this ⊢; rw [this, wrap_add_l, wrap_add_r, Int.add_assoc]
theorem mulL_assoc : ∀ a b c : List Int, mulL (mulL a b) c = mulL a (mulL b c)
  | [], _, _ => by simp [mulL]
  | _ :: _, [], _ => by simp [mulL]
  | _ :: _, _ :: _, [] => by simp [mulL]
  | x :: a, y :: b, z :: c => by have := mulL_assoc a b c; simp only [mulL, List.zipWith_cons_cons] at this ⊢; rw [this, wrap_mul_l, wrap_mul_r, Int.mul_assoc]
theorem mulL_addL : ∀ a b c : List Int, mulL a (addL b c) = addL (mulL a b) (mulL a c)
  | [], _, _ => by simp [mulL, addL]
  | _ :: _, [], _ => by simp [mulL, addL]
  | _ :: _, _ :: _, [] => by simp [mulL, addL]
  | x :: a, y :: b, z :: c => by have := mulL_addL a b c; simp only [mulL, addL, List.zipWith_cons_cons] at this ⊢; rw [this, wrap_mul_r, wrap_add_l, wrap_add_r, Int.mul_add]
theorem addL_negL : ∀ a : List Int, addL a (negL a) = List.replicate a.length 0
  | [] => rfl
  | x :: a => by
    have := addL_negL a
    simp only [addL, negL, List.zipWith_cons_cons, List.length_cons, List.replicate_succ] at this ⊢
    rw [this, wrap_add_r, show x + x * (-1) = 0 by omega, show wrap64 0 = 0 by unfold wrap64; omega]
theorem addL_zero : ∀ (a : List Int), (∀ x ∈ a, -9223372036854775808 ≤ x ∧ x ≤ 9223372036854775807) → addL a (List.replicate a.length 0) = a
  | [], _ => rfl
  | x :: a, h => by
    have := addL_zero a fun y hy => h y (List.mem_cons_of_mem _ hy)
    simp only [addL, List.zipWith_cons_cons, List.length_cons, List.replicate_succ] at this ⊢
    have hx := h x (List.mem_cons_self ..)
    rw [this, Int.add_zero, show wrap64 x = x by unfold wrap64; omega]
theorem addL_length {a b : List Int} {m : Nat} (ha : a.length = m) (hb : b.length = m) : (addL a b).length = m := by simp [addL, ha, hb]
theorem mulL_length {a b : List Int} {m : Nat} (ha : a.length = m) (hb : b.length = m) : (mulL a b).length = m := by simp [mulL, ha, hb]
theorem negL_length {a : List Int} {m : Nat} (ha : a.length = m) : (negL a).length = m := by simp [negL, ha]
end Go.Proofs.Ytpjelcghlnmoeaa
