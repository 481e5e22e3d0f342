/- purflelaw01.BoxSums returns true at every input, and nothing that lay there has turned. -/
import Derived.Test.YtbicdbheclldcaaSumsIn
namespace Go.Proofs.Ytbicdbheclldcaa
open Go.RowKit

theorem sums_any (w : World) (A : Option Addr) (n c : Nat) (B : Option Addr) (m e : Nat) (xs ys : List Int) (h : Ints w w.heap.size A n xs) (hn : n ≤ 9223372036854775807) (hv : Ints w w.heap.size B m ys) (hm : m ≤ 9223372036854775807) (hnc : n ≤ c) (_ : m ≤ e)
    (A2 : Option Addr) (n2 c2 : Nat) (B2 : Option Addr) (m2 e2 : Nat) (xs2 ys2 : List Int) (h2 : Ints w w.heap.size A2 n2 xs2) (hn2 : n2 ≤ 9223372036854775807) (hv2 : Ints w w.heap.size B2 m2 ys2) (hm2 : m2 ≤ 9223372036854775807) (hnc2 : n2 ≤ c2) (_ : m2 ≤ e2)
    (z : Int) (_ : -9223372036854775808 ≤ z) (_ : z ≤ 9223372036854775807) (v1 : Int) (_ : -9223372036854775808 ≤ v1) (_ : v1 ≤ 9223372036854775807) (v2 : Int) (_ : -9223372036854775808 ≤ v2) (_ : v2 ≤ 9223372036854775807) :
    Calls Try.prog 4 #[.agg #[.slice A n c, .slice B m e], .agg #[.slice A2 n2 c2, .slice B2 m2 e2], .int .i64 z, .int .i64 v1, .int .i64 v2] w fun e w' => e = .returned (.bool true) ∧ Below w.heap.size w w' := by
  by_cases ho : fewF [⟨A, n, c, B, m, e⟩, ⟨A2, n2, c2, B2, m2, e2⟩] = true ∧ checkF xs m = 0 ∧ checkF xs2 m2 = 0 ∧ xs = xs2 ∧ 2 ≤ n
  · exact sums_in w A n c B m e xs ys h hn hv hm hnc A2 n2 c2 B2 m2 e2 xs2 ys2 h2 hn2 hv2 hm2 hnc2 z v1 v2 ho.1 ho.2.1 ho.2.2.1 ho.2.2.2.1 ho.2.2.2.2
  · exact sums_out w A n c B m e xs h hn A2 n2 c2 B2 m2 e2 xs2 h2 hn2 z v1 v2 ho
end Go.Proofs.Ytbicdbheclldcaa
