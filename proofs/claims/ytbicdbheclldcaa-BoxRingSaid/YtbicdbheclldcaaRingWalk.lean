/- The walk of the law BoxRing. -/
import Derived.Test.YtbicdbheclldcaaRing
import Derived.Test.YtbicdbheclldcaaLive
namespace Go.Proofs.Ytbicdbheclldcaa
open Go.RowKit
set_option maxRecDepth 100000 in
set_option maxHeartbeats 2000000 in
/-- where the law's own condition sends it out at once -/
theorem ring_out (w : World) (A : Option Addr) (n c : Nat) (B : Option Addr) (m e : Nat) (xs : List Int) (h : Ints w w.heap.size A n xs) (hn : n ≤ 9223372036854775807)
    (A2 : Option Addr) (n2 c2 : Nat) (B2 : Option Addr) (m2 e2 : Nat) (A3 : Option Addr) (n3 c3 : Nat) (B3 : Option Addr) (m3 e3 : Nat)
    (ho : ¬ (fewF [⟨A, n, c, B, m, e⟩, ⟨A2, n2, c2, B2, m2, e2⟩, ⟨A3, n3, c3, B3, m3, e3⟩] = true ∧ checkF xs m = 0 ∧ m ≤ m2 ∧ m ≤ m3)) :
    Calls Try.prog 5 #[.agg #[.slice A n c, .slice B m e], .agg #[.slice A2 n2 c2, .slice B2 m2 e2], .agg #[.slice A3 n3 c3, .slice B3 m3 e3]] w fun e w' => e = .returned (.bool true) ∧ Below w.heap.size w w' := by
  have hL := fun W => live_any W
  have hW := fun W => few_three ⟨A, n, c, B, m, e⟩ ⟨A2, n2, c2, B2, m2, e2⟩ ⟨A3, n3, c3, B3, m3, e3⟩ W
  dsimp only at hW
  have HC := fun W (hb : Below w.heap.size w W) => check_any A B n c m e xs W ((h.below hb).more hb.size) hn
  have hB0 : Below w.heap.size w (((w.alloc (.cells #[.slice A n c, .slice B m e] 25)).alloc (.cells #[.slice A2 n2 c2, .slice B2 m2 e2] 25)).alloc (.cells #[.slice A3 n3 c3, .slice B3 m3 e3] 25)) := (((Below.refl _ w).alloc (Nat.le_refl _) _).alloc (by simp) _).alloc (by simp; omega) _
  obtain ⟨fw, hfw⟩ : ∃ fw, fewF [⟨A, n, c, B, m, e⟩, ⟨A2, n2, c2, B2, m2, e2⟩, ⟨A3, n3, c3, B3, m3, e3⟩] = fw := ⟨_, rfl⟩
  rw [hfw] at hW ho
  obtain ⟨ck, hck⟩ : ∃ ck, checkF xs m = ck := ⟨_, rfl⟩
  rw [hck] at HC ho
  clear hfw hck
  cases fw with
  | false =>
    go_enter Try.func5, Try.ntmps5
    go_wp2_with (first | (go_at_call 15; refine (hL _).mono ?_; rintro x w1 ⟨rfl, hb1⟩; have hd1 := hb1.mono (B' := w.heap.size + 1 + 1 + 1) (by simp); have hb2 := hB0.trans (hb1.mono hB0.size); obtain ⟨⟨k0, k1, k2, k3⟩, k4, k5, _, _⟩ := three_boxes hd1) | (go_at_call 16; refine (hW _).mono ?_; rintro x w3 ⟨rfl, hb3⟩; have hs1 := hd1.size; simp only [World.size_alloc] at hs1; have hd3 := (hd1.alloc (by omega) _).trans (hb3.mono (by omega)); have hb4 := (hb2.alloc hb2.size _).trans (hb3.mono (by have := hb2.size; omega)); clear k0 k1 k2 k3 k4 k5; obtain ⟨⟨k0, k1, k2, k3⟩, k4, k5, _, _⟩ := three_boxes hd3) | (go_at_call 27; refine (HC _ hb4).mono ?_; rintro x w5 ⟨rfl, hb5⟩; have hd5 := hd3.trans (hb5.mono (by have := hd3.size; simpa using this)); have hb6 := hb4.trans (hb5.mono hb4.size); clear k0 k1 k2 k3 k4 k5; obtain ⟨⟨k0, k1, k2, k3⟩, k4, k5, _, _⟩ := three_boxes hd5))
    go_ret
    exact ⟨rfl, hb4⟩
  | true =>
    by_cases hc0 : ck = 0
    · subst hc0
      by_cases h2m : m2 < m
      · have d2 : decide ((m2 : Int) < (m : Int)) = true := by simp; omega
        go_enter Try.func5, Try.ntmps5
        go_wp2_with (first | (go_at_call 15; refine (hL _).mono ?_; rintro x w1 ⟨rfl, hb1⟩; have hd1 := hb1.mono (B' := w.heap.size + 1 + 1 + 1) (by simp); have hb2 := hB0.trans (hb1.mono hB0.size); obtain ⟨⟨k0, k1, k2, k3⟩, k4, k5, _, _⟩ := three_boxes hd1) | (go_at_call 16; refine (hW _).mono ?_; rintro x w3 ⟨rfl, hb3⟩; have hs1 := hd1.size; simp only [World.size_alloc] at hs1; have hd3 := (hd1.alloc (by omega) _).trans (hb3.mono (by omega)); have hb4 := (hb2.alloc hb2.size _).trans (hb3.mono (by have := hb2.size; omega)); clear k0 k1 k2 k3 k4 k5; obtain ⟨⟨k0, k1, k2, k3⟩, k4, k5, _, _⟩ := three_boxes hd3) | (go_at_call 27; refine (HC _ hb4).mono ?_; rintro x w5 ⟨rfl, hb5⟩; have hd5 := hd3.trans (hb5.mono (by have := hd3.size; simpa using this)); have hb6 := hb4.trans (hb5.mono hb4.size); clear k0 k1 k2 k3 k4 k5; obtain ⟨⟨k0, k1, k2, k3⟩, k4, k5, _, _⟩ := three_boxes hd5))
        go_ret
        exact ⟨rfl, hb6⟩
      · have d2 : decide ((m2 : Int) < (m : Int)) = false := by simp; omega
        have h3m : m3 < m := by
          rcases Nat.lt_or_ge m3 m with h | h
          · exact h
          · exact absurd ⟨rfl, rfl, by omega, h⟩ ho
        have d3 : decide ((m3 : Int) < (m : Int)) = true := by simp; omega
        go_enter Try.func5, Try.ntmps5
        go_wp2_with (first | (go_at_call 15; refine (hL _).mono ?_; rintro x w1 ⟨rfl, hb1⟩; have hd1 := hb1.mono (B' := w.heap.size + 1 + 1 + 1) (by simp); have hb2 := hB0.trans (hb1.mono hB0.size); obtain ⟨⟨k0, k1, k2, k3⟩, k4, k5, _, _⟩ := three_boxes hd1) | (go_at_call 16; refine (hW _).mono ?_; rintro x w3 ⟨rfl, hb3⟩; have hs1 := hd1.size; simp only [World.size_alloc] at hs1; have hd3 := (hd1.alloc (by omega) _).trans (hb3.mono (by omega)); have hb4 := (hb2.alloc hb2.size _).trans (hb3.mono (by have := hb2.size; omega)); clear k0 k1 k2 k3 k4 k5; obtain ⟨⟨k0, k1, k2, k3⟩, k4, k5, _, _⟩ := three_boxes hd3) | (go_at_call 27; refine (HC _ hb4).mono ?_; rintro x w5 ⟨rfl, hb5⟩; have hd5 := hd3.trans (hb5.mono (by have := hd3.size; simpa using this)); have hb6 := hb4.trans (hb5.mono hb4.size); clear k0 k1 k2 k3 k4 k5; obtain ⟨⟨k0, k1, k2, k3⟩, k4, k5, _, _⟩ := three_boxes hd5))
        go_ret
        exact ⟨rfl, hb6⟩
    · go_enter Try.func5, Try.ntmps5
      go_wp2_with (first | (go_at_call 15; refine (hL _).mono ?_; rintro x w1 ⟨rfl, hb1⟩; have hd1 := hb1.mono (B' := w.heap.size + 1 + 1 + 1) (by simp); have hb2 := hB0.trans (hb1.mono hB0.size); obtain ⟨⟨k0, k1, k2, k3⟩, k4, k5, _, _⟩ := three_boxes hd1) | (go_at_call 16; refine (hW _).mono ?_; rintro x w3 ⟨rfl, hb3⟩; have hs1 := hd1.size; simp only [World.size_alloc] at hs1; have hd3 := (hd1.alloc (by omega) _).trans (hb3.mono (by omega)); have hb4 := (hb2.alloc hb2.size _).trans (hb3.mono (by have := hb2.size; omega)); clear k0 k1 k2 k3 k4 k5; obtain ⟨⟨k0, k1, k2, k3⟩, k4, k5, _, _⟩ := three_boxes hd3) | (go_at_call 27; refine (HC _ hb4).mono ?_; rintro x w5 ⟨rfl, hb5⟩; have hd5 := hd3.trans (hb5.mono (by have := hd3.size; simpa using this)); have hb6 := hb4.trans (hb5.mono hb4.size); clear k0 k1 k2 k3 k4 k5; obtain ⟨⟨k0, k1, k2, k3⟩, k4, k5, _, _⟩ := three_boxes hd5))
      go_ret
      exact ⟨rfl, hb6⟩
end Go.Proofs.Ytbicdbheclldcaa
