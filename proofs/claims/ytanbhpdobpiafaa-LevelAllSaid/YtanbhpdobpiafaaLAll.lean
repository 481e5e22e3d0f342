/- purflelaw04.LevelAll returns true at every input, and nothing that lay there has turned. -/
import Derived.Test.YtanbhpdobpiafaaLAllT
import Derived.Test.YtanbhpdobpiafaaLAllF
namespace Go.Proofs.Ytanbhpdobpiafaa
open Go.RowKit

theorem levelAll_any (w : World) (K S : Int) (A : Option Addr) (n c : Nat) (B : Option Addr) (m e : Nat) (xs ys : List Int) (hA : Ints w w.heap.size A n xs) (hn : n ≤ 9223372036854775807) (hB : Ints w w.heap.size B m ys) (hm : m ≤ 9223372036854775807) (_hnc : n ≤ c) (hme : m ≤ e)
    (_hK : -9223372036854775808 ≤ K ∧ K ≤ 9223372036854775807) (_hS : -9223372036854775808 ≤ S ∧ S ≤ 9223372036854775807) (a : Int) (ha1 : -9223372036854775808 ≤ a) (ha2 : a ≤ 9223372036854775807) :
    Calls Try.prog 5 #[.agg #[.int .i64 K, .int .i64 S, .slice A n c, .slice B m e], .int .i64 a] w fun x w' => x = .returned (.bool true) ∧ Below w.heap.size w w' := by
  by_cases hx : AllP K S a xs ys n m
  · cases hw : wholeB K with
    | true => exact levelAll_true K S a A B n c m e xs ys w ⟨hA, hB, hn, hm⟩ hme ha1 ha2 hx hw
    | false => exact levelAll_false K S a A B n c m e xs ys w ⟨hA, hB, hn, hm⟩ hme ha1 ha2 hx hw
  · exact levelAll_exit K S a A B n c m e xs ys w ⟨hA, hB, hn, hm⟩ hme ha1 ha2 hx
end Go.Proofs.Ytanbhpdobpiafaa
