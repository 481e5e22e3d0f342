/- purflelaw04.LevelPlaces returns true at every input, and nothing that lay there has turned. -/
import Derived.Test.YtanbhpdobpiafaaLPlaces
namespace Go.Proofs.Ytanbhpdobpiafaa
open Go.RowKit

theorem levelPlaces_any (w : World) (K S : Int) (A : Option Addr) (n c : Nat) (B : Option Addr) (m e : Nat) (xs ys : List Int) (hA : Ints w w.heap.size A n xs) (hn : n ≤ 9223372036854775807) (hB : Ints w w.heap.size B m ys) (hm : m ≤ 9223372036854775807) (_hnc : n ≤ c) (hme : m ≤ e)
    (_hK : -9223372036854775808 ≤ K ∧ K ≤ 9223372036854775807) (_hS : -9223372036854775808 ≤ S ∧ S ≤ 9223372036854775807) (a : Int) (_ha1 : -9223372036854775808 ≤ a) (_ha2 : a ≤ 9223372036854775807) (p : Int) (_hp1 : -9223372036854775808 ≤ p) (_hp2 : p ≤ 9223372036854775807) :
    Calls Try.prog 7 #[.agg #[.int .i64 K, .int .i64 S, .slice A n c, .slice B m e], .int .i64 a, .int .i64 p] w fun x w' => x = .returned (.bool true) ∧ Below w.heap.size w w' := by
  by_cases hx : PlaceP K S a xs ys n m
  · exact levelPlaces_main K S a p A B n c m e xs ys w ⟨hA, hB, hn, hm⟩ hme hx
  · exact levelPlaces_exit K S a p A B n c m e xs ys w ⟨hA, hB, hn, hm⟩ hme hx
end Go.Proofs.Ytanbhpdobpiafaa
