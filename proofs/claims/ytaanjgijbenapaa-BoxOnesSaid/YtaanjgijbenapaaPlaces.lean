/- purflelaw01.BoxPlaces returns true at every input, and nothing that lay there has turned. -/
import Derived.Test.YtaanjgijbenapaaLive
namespace Go.Proofs.Ytaanjgijbenapaa
open Go.RowKit

theorem below_drewN {B : Nat} {w W : World} (h : Below B w W) (m : Nat) : Below B w (W.drewN m) := ⟨h.os, h.tape, h.output, h.size, h.block⟩
theorem coordF_len {xs : List Int} {v : Int} : (coordF xs v).1.length ≤ 4 := by
  unfold coordF
  split
  · rename_i h
    split
    · rw [placeR_length]; exact (cellsF_ok h).1
    · simp
  · simp

set_option maxRecDepth 100000 in
set_option maxHeartbeats 1000000 in
theorem boxPlaces_any (A A2 : Option Addr) (n n2 c c2 : Nat) (xs cs : List Int) (v : Int) (w : World) (h : Ints w w.heap.size A n xs) (h2 : Ints w w.heap.size A2 n2 cs) (hn : n ≤ 9223372036854775807) (hn2 : n2 ≤ 9223372036854775807) (hv1 : -9223372036854775808 ≤ v) (hv2 : v ≤ 9223372036854775807) :
    Calls Try.prog 3 #[.slice A n c, .slice A2 n2 c2, .int .i64 v] w fun e w' => e = .returned (.bool true) ∧ Below w.heap.size w w' := by
  have hL := fun W => live_any W
  by_cases h20 : 20 < n
  · have hd : decide (20 < (n : Int)) = true := by simp; omega
    go_enter Try.func3, Try.ntmps3
    go_wp2_with (go_at_call 11; refine (hL _).mono ?_; rintro e w1 ⟨rfl, hb1⟩)
    go_ret
    exact ⟨rfl, hb1⟩
  have hd : decide (20 < (n : Int)) = false := by simp; omega
  by_cases h21 : 20 < n2
  · have hd2 : decide (20 < (n2 : Int)) = true := by simp; omega
    go_enter Try.func3, Try.ntmps3
    go_wp2_with (go_at_call 11; refine (hL _).mono ?_; rintro e w1 ⟨rfl, hb1⟩)
    go_ret
    exact ⟨rfl, hb1⟩
  have hd2 : decide (20 < (n2 : Int)) = false := by simp; omega
  have hC := fun W (hb : Below w.heap.size w W) => cells_any A n c xs W w.heap.size (h.below hb) hn
  have hC2 := fun W (hb : Below w.heap.size w W) => refCells_any A n c xs W w.heap.size (h.below hb) hn
  have hA := fun W (hb : Below w.heap.size w W) => at_any A A2 n n2 c c2 xs cs W ((h.below hb).more hb.size) ((h2.below hb).more hb.size) hn hn2
  have hA2 := fun W (hb : Below w.heap.size w W) => refAt_any A A2 n n2 c c2 xs cs W w.heap.size (h.below hb) (h2.below hb) hn hn2
  have hK := fun W (hb : Below w.heap.size w W) => coord_any A n c xs v W ((h.below hb).more hb.size) hn
  have hK2 := fun W (hb : Below w.heap.size w W) => refCoord_any A n c xs v W ((h.below hb).more hb.size) hn hv1 hv2
  obtain ⟨N, hN⟩ : ∃ N, (cellsF xs).1 = N := ⟨_, rfl⟩
  obtain ⟨E, hE⟩ : ∃ E, (cellsF xs).2 = E := ⟨_, rfl⟩
  obtain ⟨X, hX⟩ : ∃ X, (atF xs cs).1 = X := ⟨_, rfl⟩
  obtain ⟨G, hG⟩ : ∃ G, (atF xs cs).2 = G := ⟨_, rfl⟩
  have hpl := coordF_len (xs := xs) (v := v)
  obtain ⟨P, hP⟩ : ∃ P, (coordF xs v).1 = P := ⟨_, rfl⟩
  obtain ⟨I, hI⟩ : ∃ I, (coordF xs v).2 = I := ⟨_, rfl⟩
  rw [hN, hE] at hC hC2
  rw [hX, hG] at hA hA2
  rw [hP] at hpl
  rw [hP, hI] at hK hK2
  clear hN hE hX hG hP hI
  have hQ := fun W A1 c1 A2 c2 (h1 : Ints W W.heap.size A1 P.length P) (h2 : Ints W W.heap.size A2 P.length P) => refEqual_any A1 A2 P.length P.length c1 c2 P P W W.heap.size h1 h2 (by omega) (by omega)
  simp only [decide_true] at hQ
  have hp0 : Below w.heap.size w w := Below.refl _ _
  go_enter Try.func3, Try.ntmps3
  go_wp2_with (first | (go_at_call 11; refine (hL _).mono ?_; rintro e w1 ⟨rfl, hb1⟩) | (go_at_call 12; refine (hC _ hb1).mono ?_; rintro e w' ⟨rfl, rfl⟩) | (go_at_call 13; refine (hC2 _ hb1).mono ?_; rintro e w' ⟨rfl, rfl⟩) | (go_at_call 14; refine (hA _ hb1).mono ?_; rintro e w2 ⟨rfl, hb2⟩; have hb3 := hb1.trans (hb2.mono hb1.size)) | (go_at_call 15; refine (hA2 _ hb3).mono ?_; rintro e w' ⟨rfl, m, rfl⟩; have hb4 := below_drewN hb3 m) | (go_at_call 16; refine (hK _ hb4).mono ?_; rintro e w5 ⟨A5, c5, rfl, HO5, hb5⟩; have hb6 := hb4.trans (hb5.mono hb4.size)) | (go_at_call 17; refine (hK2 _ hb6).mono ?_; rintro e w7 ⟨A7, c7, rfl, HO7, hb7⟩; have hb8 := hb6.trans (hb7.mono hb6.size)) | (go_at_call 18; refine (hQ _ A5 c5 A7 c7 ((HO5.ints.below hb7).more hb7.size) HO7.ints).mono ?_; rintro e w' ⟨rfl, m9, rfl⟩))
  go_ret
  exact ⟨rfl, below_drewN hb8 _⟩
end Go.Proofs.Ytaanjgijbenapaa
