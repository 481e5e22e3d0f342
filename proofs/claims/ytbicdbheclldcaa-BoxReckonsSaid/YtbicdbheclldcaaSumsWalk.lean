/- The walk of the law BoxSums. -/
import Derived.Test.YtbicdbheclldcaaSumLaw
import Derived.Test.YtbicdbheclldcaaRingOps
import Derived.Test.YtbicdbheclldcaaRingMath
import Derived.Test.YtbicdbheclldcaaLive
namespace Go.Proofs.Ytbicdbheclldcaa
open Go.RowKit

theorem keepFew {w1 w3 : World} {X o : Obj} {g : Nat} (hb3 : Below (w1.heap.size + 1) (w1.alloc X) w3) (hg : w1.heap[g]? = some o) : w3.heap[g]? = some o :=
  (hb3.block g (by have := (Array.getElem?_eq_some_iff.1 hg).1; omega)).trans ((Below.heap_alloc w1 X g (Array.getElem?_eq_some_iff.1 hg).1).trans hg)
theorem belowFew {B : Nat} {w w1 w3 : World} {X : Obj} (hb : Below B w w1) (hB : B ≤ w1.heap.size) (hb3 : Below (w1.heap.size + 1) (w1.alloc X) w3) : Below B w w3 := (hb.alloc hB X).trans (hb3.mono (by omega))
theorem eqB (A A2 : Option Addr) (n n2 c c2 : Nat) (xs ys : List Int) (W : World) (h : Ints W W.heap.size A n xs) (h2 : Ints W W.heap.size A2 n2 ys) (hn : n ≤ 100000) (hn2 : n2 ≤ 9223372036854775807) :
    Calls Try.prog 26 #[.slice A n c, .slice A2 n2 c2] W fun e w' => e = .returned (.bool (decide (xs = ys))) ∧ Below W.heap.size W w' :=
  (refEqual_any A A2 n n2 c c2 xs ys W W.heap.size h h2 hn hn2).mono fun e w' ⟨he, m, hm⟩ => ⟨he, by subst hm; exact below_drewN (Below.refl _ _) m⟩
theorem next_run (md n : Nat) (hmd : md < n) (hn : 2 ≤ n) (hn4 : n ≤ 100) : ∃ nd : Nat, nd < n ∧ nd ≠ md ∧ IntKind.i64.wrap ((md : Int) + 1) = (md : Int) + 1 ∧ ((md : Int) + 1).tmod (n : Int) = (nd : Int) ∧ ((md : Int) + 1) % (n : Int) = (nd : Int) := by
  have h5 : IntKind.i64.wrap ((md : Int) + 1) = (md : Int) + 1 := by rw [wrap_eq]; exact IntWalk.wrap64_in _ ⟨by omega, by omega⟩
  refine ⟨(md + 1) % n, Nat.mod_lt _ (by omega), ?_, h5, ?_, ?_⟩
  · rcases Nat.lt_or_ge (md + 1) n with h | h
    · rw [Nat.mod_eq_of_lt h]; omega
    · have : md + 1 = n := by omega
      rw [this, Nat.mod_self]; omega
  · rw [Int.tmod_eq_emod_of_nonneg (by omega), ← Int.natCast_succ, ← Int.natCast_emod]
  · rw [← Int.natCast_succ, ← Int.natCast_emod]
set_option maxRecDepth 100000 in
set_option maxHeartbeats 2000000 in
/-- where the law's own condition sends it out at once -/
theorem sums_out (w : World) (A : Option Addr) (n c : Nat) (B : Option Addr) (m e : Nat) (xs : List Int) (h : Ints w w.heap.size A n xs) (hn : n ≤ 9223372036854775807) 
    (A2 : Option Addr) (n2 c2 : Nat) (B2 : Option Addr) (m2 e2 : Nat) (xs2 : List Int) (h2 : Ints w w.heap.size A2 n2 xs2) (hn2 : n2 ≤ 9223372036854775807) (z v1 v2 : Int)
    (ho : ¬ (fewF [⟨A, n, c, B, m, e⟩, ⟨A2, n2, c2, B2, m2, e2⟩] = true ∧ checkF xs m = 0 ∧ checkF xs2 m2 = 0 ∧ xs = xs2 ∧ 2 ≤ n)) :
    Calls Try.prog 4 #[.agg #[.slice A n c, .slice B m e], .agg #[.slice A2 n2 c2, .slice B2 m2 e2], .int .i64 z, .int .i64 v1, .int .i64 v2] w fun e w' => e = .returned (.bool true) ∧ Below w.heap.size w w' := by
  have hL := fun W => live_any W
  have hW := fun W => few_two ⟨A, n, c, B, m, e⟩ ⟨A2, n2, c2, B2, m2, e2⟩ W
  dsimp only at hW
  have HCa := fun W (hb : Below w.heap.size w W) => check_any A B n c m e xs W ((h.below hb).more hb.size) hn
  have HCb := fun W (hb : Below w.heap.size w W) => check_any A2 B2 n2 c2 m2 e2 xs2 W ((h2.below hb).more hb.size) hn2
  have hB0 : Below w.heap.size w ((w.alloc (.cells #[.slice A n c, .slice B m e] 25)).alloc (.cells #[.slice A2 n2 c2, .slice B2 m2 e2] 25)) := below_two w _ _
  have z0 := zf_two w (.cells #[.slice A n c, .slice B m e] 25) (.cells #[.slice A2 n2 c2, .slice B2 m2 e2] 25)
  have z1 := zf_snd w (.cells #[.slice A2 n2 c2, .slice B2 m2 e2] 25) (.cells #[.slice A n c, .slice B m e] 25)
  obtain ⟨fw, hfw⟩ : ∃ fw, fewF [⟨A, n, c, B, m, e⟩, ⟨A2, n2, c2, B2, m2, e2⟩] = fw := ⟨_, rfl⟩
  rw [hfw] at hW ho
  obtain ⟨ca, hca⟩ : ∃ ck, checkF xs m = ck := ⟨_, rfl⟩
  rw [hca] at HCa ho
  obtain ⟨cb, hcb⟩ : ∃ ck, checkF xs2 m2 = ck := ⟨_, rfl⟩
  rw [hcb] at HCb ho
  cases fw with
  | false =>
    clear hfw hca hcb ho
    go_enter Try.func4, Try.ntmps4
    go_wp2_with (first | (go_at_call 15; refine (hL _).mono ?_; rintro x w1 ⟨rfl, hb1⟩; have u0 := dKeep hb1 z0; have u1 := dKeep hb1 z1; have hT := hB0.trans (hb1.mono hB0.size); obtain ⟨k0, k1, _, _⟩ := dCells u0; obtain ⟨k2, k3, _, _⟩ := dCells u1) | (go_at_call 16; refine (hW _).mono ?_; rintro x w3 ⟨rfl, hb3⟩; replace u0 := keepFew hb3 u0; replace u1 := keepFew hb3 u1; replace hT := belowFew hT hT.size hb3; clear k0 k1 k2 k3; obtain ⟨k0, k1, _, _⟩ := dCells u0; obtain ⟨k2, k3, _, _⟩ := dCells u1) | (go_at_call 27; (with_reducible refine (HCa _ hT).mono ?_); rintro x w4 ⟨rfl, hb4⟩; replace u0 := dKeep hb4 u0; replace u1 := dKeep hb4 u1; replace hT := hT.trans (hb4.mono hT.size); clear k0 k1 k2 k3; obtain ⟨k0, k1, _, _⟩ := dCells u0; obtain ⟨k2, k3, _, _⟩ := dCells u1) | (go_at_call 27; (with_reducible refine (HCb _ hT).mono ?_); rintro x w5 ⟨rfl, hb5⟩; replace u0 := dKeep hb5 u0; replace u1 := dKeep hb5 u1; replace hT := hT.trans (hb5.mono hT.size); clear k0 k1 k2 k3; obtain ⟨k0, k1, _, _⟩ := dCells u0; obtain ⟨k2, k3, _, _⟩ := dCells u1) | (go_at_call 26; (with_reducible refine (HQ _ hT).mono ?_); rintro x w6 ⟨rfl, hb6⟩; replace u0 := dKeep hb6 u0; replace u1 := dKeep hb6 u1; replace hT := hT.trans (hb6.mono hT.size); clear k0 k1 k2 k3; obtain ⟨k0, k1, _, _⟩ := dCells u0; obtain ⟨k2, k3, _, _⟩ := dCells u1))
    go_ret
    exact ⟨rfl, hT⟩
  | true =>
    have hn20 : n ≤ 20 := by have : (n ≤ 20 ∧ m ≤ 70000) ∧ n2 ≤ 20 ∧ m2 ≤ 70000 := by simpa [fewF] using hfw
                             omega
    have HQ := fun W (hb : Below w.heap.size w W) => eqB A A2 n n2 c c2 xs xs2 W ((h.below hb).more hb.size) ((h2.below hb).more hb.size) (by omega) hn2
    obtain ⟨q, hq⟩ : ∃ q, decide (xs = xs2) = q := ⟨_, rfl⟩
    rw [hq] at HQ
    clear hfw hca hcb
    by_cases h0 : ca = 0
    · subst h0
      by_cases h1 : cb = 0
      · subst h1
        cases q with
        | false =>
          clear ho hq
          go_enter Try.func4, Try.ntmps4
          go_wp2_with (first | (go_at_call 15; refine (hL _).mono ?_; rintro x w1 ⟨rfl, hb1⟩; have u0 := dKeep hb1 z0; have u1 := dKeep hb1 z1; have hT := hB0.trans (hb1.mono hB0.size); obtain ⟨k0, k1, _, _⟩ := dCells u0; obtain ⟨k2, k3, _, _⟩ := dCells u1) | (go_at_call 16; refine (hW _).mono ?_; rintro x w3 ⟨rfl, hb3⟩; replace u0 := keepFew hb3 u0; replace u1 := keepFew hb3 u1; replace hT := belowFew hT hT.size hb3; clear k0 k1 k2 k3; obtain ⟨k0, k1, _, _⟩ := dCells u0; obtain ⟨k2, k3, _, _⟩ := dCells u1) | (go_at_call 27; (with_reducible refine (HCa _ hT).mono ?_); rintro x w4 ⟨rfl, hb4⟩; replace u0 := dKeep hb4 u0; replace u1 := dKeep hb4 u1; replace hT := hT.trans (hb4.mono hT.size); clear k0 k1 k2 k3; obtain ⟨k0, k1, _, _⟩ := dCells u0; obtain ⟨k2, k3, _, _⟩ := dCells u1) | (go_at_call 27; (with_reducible refine (HCb _ hT).mono ?_); rintro x w5 ⟨rfl, hb5⟩; replace u0 := dKeep hb5 u0; replace u1 := dKeep hb5 u1; replace hT := hT.trans (hb5.mono hT.size); clear k0 k1 k2 k3; obtain ⟨k0, k1, _, _⟩ := dCells u0; obtain ⟨k2, k3, _, _⟩ := dCells u1) | (go_at_call 26; (with_reducible refine (HQ _ hT).mono ?_); rintro x w6 ⟨rfl, hb6⟩; replace u0 := dKeep hb6 u0; replace u1 := dKeep hb6 u1; replace hT := hT.trans (hb6.mono hT.size); clear k0 k1 k2 k3; obtain ⟨k0, k1, _, _⟩ := dCells u0; obtain ⟨k2, k3, _, _⟩ := dCells u1))
          go_ret
          exact ⟨rfl, hT⟩
        | true =>
          have hlt : n < 2 := by
            rcases Nat.lt_or_ge n 2 with h | h
            · exact h
            · exact absurd ⟨rfl, rfl, rfl, of_decide_eq_true hq, h⟩ ho
          clear ho hq
          go_enter Try.func4, Try.ntmps4
          go_wp2_with (first | (go_at_call 15; refine (hL _).mono ?_; rintro x w1 ⟨rfl, hb1⟩; have u0 := dKeep hb1 z0; have u1 := dKeep hb1 z1; have hT := hB0.trans (hb1.mono hB0.size); obtain ⟨k0, k1, _, _⟩ := dCells u0; obtain ⟨k2, k3, _, _⟩ := dCells u1) | (go_at_call 16; refine (hW _).mono ?_; rintro x w3 ⟨rfl, hb3⟩; replace u0 := keepFew hb3 u0; replace u1 := keepFew hb3 u1; replace hT := belowFew hT hT.size hb3; clear k0 k1 k2 k3; obtain ⟨k0, k1, _, _⟩ := dCells u0; obtain ⟨k2, k3, _, _⟩ := dCells u1) | (go_at_call 27; (with_reducible refine (HCa _ hT).mono ?_); rintro x w4 ⟨rfl, hb4⟩; replace u0 := dKeep hb4 u0; replace u1 := dKeep hb4 u1; replace hT := hT.trans (hb4.mono hT.size); clear k0 k1 k2 k3; obtain ⟨k0, k1, _, _⟩ := dCells u0; obtain ⟨k2, k3, _, _⟩ := dCells u1) | (go_at_call 27; (with_reducible refine (HCb _ hT).mono ?_); rintro x w5 ⟨rfl, hb5⟩; replace u0 := dKeep hb5 u0; replace u1 := dKeep hb5 u1; replace hT := hT.trans (hb5.mono hT.size); clear k0 k1 k2 k3; obtain ⟨k0, k1, _, _⟩ := dCells u0; obtain ⟨k2, k3, _, _⟩ := dCells u1) | (go_at_call 26; (with_reducible refine (HQ _ hT).mono ?_); rintro x w6 ⟨rfl, hb6⟩; replace u0 := dKeep hb6 u0; replace u1 := dKeep hb6 u1; replace hT := hT.trans (hb6.mono hT.size); clear k0 k1 k2 k3; obtain ⟨k0, k1, _, _⟩ := dCells u0; obtain ⟨k2, k3, _, _⟩ := dCells u1))
          go_ret
          exact ⟨rfl, hT⟩
      · clear ho hq
        go_enter Try.func4, Try.ntmps4
        go_wp2_with (first | (go_at_call 15; refine (hL _).mono ?_; rintro x w1 ⟨rfl, hb1⟩; have u0 := dKeep hb1 z0; have u1 := dKeep hb1 z1; have hT := hB0.trans (hb1.mono hB0.size); obtain ⟨k0, k1, _, _⟩ := dCells u0; obtain ⟨k2, k3, _, _⟩ := dCells u1) | (go_at_call 16; refine (hW _).mono ?_; rintro x w3 ⟨rfl, hb3⟩; replace u0 := keepFew hb3 u0; replace u1 := keepFew hb3 u1; replace hT := belowFew hT hT.size hb3; clear k0 k1 k2 k3; obtain ⟨k0, k1, _, _⟩ := dCells u0; obtain ⟨k2, k3, _, _⟩ := dCells u1) | (go_at_call 27; (with_reducible refine (HCa _ hT).mono ?_); rintro x w4 ⟨rfl, hb4⟩; replace u0 := dKeep hb4 u0; replace u1 := dKeep hb4 u1; replace hT := hT.trans (hb4.mono hT.size); clear k0 k1 k2 k3; obtain ⟨k0, k1, _, _⟩ := dCells u0; obtain ⟨k2, k3, _, _⟩ := dCells u1) | (go_at_call 27; (with_reducible refine (HCb _ hT).mono ?_); rintro x w5 ⟨rfl, hb5⟩; replace u0 := dKeep hb5 u0; replace u1 := dKeep hb5 u1; replace hT := hT.trans (hb5.mono hT.size); clear k0 k1 k2 k3; obtain ⟨k0, k1, _, _⟩ := dCells u0; obtain ⟨k2, k3, _, _⟩ := dCells u1) | (go_at_call 26; (with_reducible refine (HQ _ hT).mono ?_); rintro x w6 ⟨rfl, hb6⟩; replace u0 := dKeep hb6 u0; replace u1 := dKeep hb6 u1; replace hT := hT.trans (hb6.mono hT.size); clear k0 k1 k2 k3; obtain ⟨k0, k1, _, _⟩ := dCells u0; obtain ⟨k2, k3, _, _⟩ := dCells u1))
        go_ret
        exact ⟨rfl, hT⟩
    · clear ho hq
      go_enter Try.func4, Try.ntmps4
      go_wp2_with (first | (go_at_call 15; refine (hL _).mono ?_; rintro x w1 ⟨rfl, hb1⟩; have u0 := dKeep hb1 z0; have u1 := dKeep hb1 z1; have hT := hB0.trans (hb1.mono hB0.size); obtain ⟨k0, k1, _, _⟩ := dCells u0; obtain ⟨k2, k3, _, _⟩ := dCells u1) | (go_at_call 16; refine (hW _).mono ?_; rintro x w3 ⟨rfl, hb3⟩; replace u0 := keepFew hb3 u0; replace u1 := keepFew hb3 u1; replace hT := belowFew hT hT.size hb3; clear k0 k1 k2 k3; obtain ⟨k0, k1, _, _⟩ := dCells u0; obtain ⟨k2, k3, _, _⟩ := dCells u1) | (go_at_call 27; (with_reducible refine (HCa _ hT).mono ?_); rintro x w4 ⟨rfl, hb4⟩; replace u0 := dKeep hb4 u0; replace u1 := dKeep hb4 u1; replace hT := hT.trans (hb4.mono hT.size); clear k0 k1 k2 k3; obtain ⟨k0, k1, _, _⟩ := dCells u0; obtain ⟨k2, k3, _, _⟩ := dCells u1) | (go_at_call 27; (with_reducible refine (HCb _ hT).mono ?_); rintro x w5 ⟨rfl, hb5⟩; replace u0 := dKeep hb5 u0; replace u1 := dKeep hb5 u1; replace hT := hT.trans (hb5.mono hT.size); clear k0 k1 k2 k3; obtain ⟨k0, k1, _, _⟩ := dCells u0; obtain ⟨k2, k3, _, _⟩ := dCells u1) | (go_at_call 26; (with_reducible refine (HQ _ hT).mono ?_); rintro x w6 ⟨rfl, hb6⟩; replace u0 := dKeep hb6 u0; replace u1 := dKeep hb6 u1; replace hT := hT.trans (hb6.mono hT.size); clear k0 k1 k2 k3; obtain ⟨k0, k1, _, _⟩ := dCells u0; obtain ⟨k2, k3, _, _⟩ := dCells u1))
      go_ret
      exact ⟨rfl, hT⟩
end Go.Proofs.Ytbicdbheclldcaa
