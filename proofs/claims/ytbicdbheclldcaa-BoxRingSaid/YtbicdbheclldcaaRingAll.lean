/- purflelaw01.BoxRing returns true at every input, and nothing that lay there has turned. -/
import Derived.Test.YtbicdbheclldcaaRingIn
namespace Go.Proofs.Ytbicdbheclldcaa
open Go.RowKit

theorem ring_any (w : World) (A : Option Addr) (n c : Nat) (B : Option Addr) (m e : Nat) (xs ys : List Int) (h : Ints w w.heap.size A n xs) (hn : n ≤ 9223372036854775807) (hv : Ints w w.heap.size B m ys) (hm : m ≤ 9223372036854775807) (_ : n ≤ c) (hme : m ≤ e)
    (A2 : Option Addr) (n2 c2 : Nat) (B2 : Option Addr) (m2 e2 : Nat) (xs2 ys2 : List Int) (h2 : Ints w w.heap.size A2 n2 xs2) (hn2 : n2 ≤ 9223372036854775807) (hv2 : Ints w w.heap.size B2 m2 ys2) (hm2 : m2 ≤ 9223372036854775807) (_ : n2 ≤ c2) (hme2 : m2 ≤ e2)
    (A3 : Option Addr) (n3 c3 : Nat) (B3 : Option Addr) (m3 e3 : Nat) (xs3 ys3 : List Int) (h3 : Ints w w.heap.size A3 n3 xs3) (hn3 : n3 ≤ 9223372036854775807) (hv3 : Ints w w.heap.size B3 m3 ys3) (hm3 : m3 ≤ 9223372036854775807) (_ : n3 ≤ c3) (hme3 : m3 ≤ e3) :
    Calls Try.prog 5 #[.agg #[.slice A n c, .slice B m e], .agg #[.slice A2 n2 c2, .slice B2 m2 e2], .agg #[.slice A3 n3 c3, .slice B3 m3 e3]] w fun e w' => e = .returned (.bool true) ∧ Below w.heap.size w w' := by
  by_cases ho : fewF [⟨A, n, c, B, m, e⟩, ⟨A2, n2, c2, B2, m2, e2⟩, ⟨A3, n3, c3, B3, m3, e3⟩] = true ∧ checkF xs m = 0 ∧ m ≤ m2 ∧ m ≤ m3
  · exact ring_in w A n c B m e xs ys h hn hv hm hme A2 n2 c2 B2 m2 e2 xs2 ys2 h2 hn2 hv2 hm2 hme2 A3 n3 c3 B3 m3 e3 xs3 ys3 h3 hn3 hv3 hm3 hme3 ho.1 ho.2.1 ho.2.2.1 ho.2.2.2
  · exact ring_out w A n c B m e xs h hn A2 n2 c2 B2 m2 e2 A3 n3 c3 B3 m3 e3 ho
end Go.Proofs.Ytbicdbheclldcaa
