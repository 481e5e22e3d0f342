/- purflelaw04.LevelBack returns true at every input, and nothing that lay there has turned. -/
import Derived.Test.YtanbhpdobpiafaaLBackF
import Derived.Test.YtanbhpdobpiafaaLBackS
namespace Go.Proofs.Ytanbhpdobpiafaa
open Go.RowKit

theorem levelBack_any (w : World) (K : Int) (_hK1 : -9223372036854775808 ≤ K) (_hK2 : K ≤ 9223372036854775807) (S : Int) (_hS1 : -9223372036854775808 ≤ S) (_hS2 : S ≤ 9223372036854775807) (A : Option Addr) (n c : Nat) (LL : List (List Int)) (hA : IntsLL w w.heap.size A n LL) (hn : n ≤ 5864062014805) (_hc : n ≤ c) (hLb : ∀ L ∈ LL, L.length ≤ 17592186044416) :
    Calls Try.prog 6 #[.int .i64 K, .int .i64 S, .slice A n c] w fun x w' => x = .returned (.bool true) ∧ Below w.heap.size w w' := by
  by_cases h100 : 100 < n
  · exact levelBack_many K S A n c LL w hA hn hLb h100
  by_cases hl : ∃ L ∈ LL, 300 < L.length
  · exact levelBack_long K S A n c LL w hA hn hLb (by omega) hl
  have hsh : ∀ L ∈ LL, L.length ≤ 300 := fun L hL => Nat.le_of_not_lt (fun hh => hl ⟨L, hL, hh⟩)
  by_cases hE : makeE K S LL = 0
  · by_cases hw : wholeB K = true
    · by_cases hS : 100 < S
      · exact levelBack_large K S A n c LL w hA hn hLb (by omega) hsh hE hw hS
      · exact levelBack_small K S A n c LL w hA hn hLb (by omega) hsh hE hw hS
    · exact levelBack_false K S A n c LL w hA hn hLb (by omega) hsh hE (by simpa using hw)
  · exact levelBack_bad K S A n c LL w hA hn hLb (by omega) hsh hE
end Go.Proofs.Ytanbhpdobpiafaa
