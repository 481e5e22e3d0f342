/- Plain facts: the plain order is the first one, and even, and each number alone is a cycle of it; turned round it is the last one. No program. -/
import Derived.Test.YtnjjmeaggnlafaaPOddM
import Derived.Test.YtnjjmeaggnlafaaPCycM
namespace Go.Proofs.Ytnjjmeaggnlafaa
open Go.RowKit

def lastL (n : Nat) : List Int := (List.range n).map fun m : Nat => (n : Int) - 1 - m
theorem lastL_length (n : Nat) : (lastL n).length = n := by simp [lastL]
theorem lastL_at {n k : Nat} (h : k < n) : (lastL n)[k]? = some ((n : Int) - 1 - k) := by simp [lastL, h]
theorem ends_rank : ∀ n, n ≤ 12 → rankL (plainL n) = 0 := by decide +kernel
theorem ends_nth : ∀ n, n ≤ 12 → nthL n (plainL n) 0 = plainL n := by decide +kernel
theorem ends_last : ∀ n, n ≤ 12 → permB (lastL n) = true := by decide +kernel
theorem ends_last_rank : ∀ n, n ≤ 12 → rankL (lastL n) + 1 = fact n := by decide +kernel
theorem ends_cycs : ∀ n, n ≤ 12 → cycsL (plainL n) = (List.range n).map fun m : Nat => [(m : Int)] := by decide +kernel
end Go.Proofs.Ytnjjmeaggnlafaa
