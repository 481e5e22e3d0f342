/- purflelaw04.LevelJoins returns true at every input, and nothing that lay there has turned. -/
import Derived.Test.YtanbhpdobpiafaaLJoinF
import Derived.Test.YtanbhpdobpiafaaLJoinS
namespace Go.Proofs.Ytanbhpdobpiafaa
open Go.RowKit

theorem levelJoins_any (w : World) (K : Int) (_hK1 : -9223372036854775808 ≤ K) (_hK2 : K ≤ 9223372036854775807) (S : Int) (_hS1 : -9223372036854775808 ≤ S) (_hS2 : S ≤ 9223372036854775807) (A : Option Addr) (n c : Nat) (AA : List (List Int)) (hA : IntsLL w w.heap.size A n AA) (hn : n ≤ 5864062014805) (_hc : n ≤ c) (hAb : ∀ L ∈ AA, L.length ≤ 17592186044416)
    (B : Option Addr) (m e : Nat) (BB : List (List Int)) (hB : IntsLL w w.heap.size B m BB) (hm : m ≤ 5864062014805) (_he : m ≤ e) (hBb : ∀ L ∈ BB, L.length ≤ 17592186044416) :
    Calls Try.prog 8 #[.int .i64 K, .int .i64 S, .slice A n c, .slice B m e] w fun x w' => x = .returned (.bool true) ∧ Below w.heap.size w w' := by
  by_cases h100 : 100 < n + m
  · exact levelJoins_many K S A n c AA B m e BB w hA hn hAb hB hm hBb h100
  by_cases hz : makeE K S (AA ++ BB) = 0
  · by_cases hw : wholeB K = true
    · by_cases hS : 200 < S
      · exact levelJoins_ok_large K S A n c AA B m e BB w hA hn hAb hB hm hBb (by omega) hz hw hS
      · exact levelJoins_ok_small K S A n c AA B m e BB w hA hn hAb hB hm hBb (by omega) hz hw hS
    · exact levelJoins_ok_false K S A n c AA B m e BB w hA hn hAb hB hm hBb (by omega) hz (by simpa using hw)
  · by_cases ha : makeE K S AA = 0 <;> by_cases hb : makeE K S BB = 0
    · exact levelJoins_bad_ab K S A n c AA B m e BB w hA hn hAb hB hm hBb (by omega) ha hb hz
    · exact levelJoins_bad_ax K S A n c AA B m e BB w hA hn hAb hB hm hBb (by omega) ha hb hz
    · exact levelJoins_bad_xb K S A n c AA B m e BB w hA hn hAb hB hm hBb (by omega) ha hb hz
    · exact levelJoins_bad_xx K S A n c AA B m e BB w hA hn hAb hB hm hBb (by omega) ha hb hz
end Go.Proofs.Ytanbhpdobpiafaa
