/- The contracts of perm.Next and of slices.Min. -/
import Derived.Test.YtnjjmeaggnlafaaPNthB
import Derived.Test.YtnjjmeaggnlafaaPCycM
namespace Go.Proofs.Ytnjjmeaggnlafaa
open Go.RowKit

/-- what Next tells: the list, whether there is one, the error -/
def nextF (p : List Int) : List Int × Bool × Int := if ordF p = 0 then if rankL p + 1 < fact p.length then (nthL p.length (plainL p.length) (rankL p + 1), true, 0) else (p, false, 0) else ([], false, 1)

set_option maxRecDepth 100000 in
theorem next_any (A : Option Addr) (n c : Nat) (xs : List Int) (w : World) (h : Ints w w.heap.size A n xs) (hn : n ≤ 9223372036854775807) (hcap : n ≤ c) :
    Calls Try.prog 28 #[.slice A n c] w fun e w' => ∃ A' c', e = .returned (.tuple #[.slice A' (nextF xs).1.length c', .bool (nextF xs).2.1, .int .i64 (nextF xs).2.2]) ∧ OwnI w' w.heap.size 3 A' c' (nextF xs).1 ∧ Below w.heap.size w w' := by
  have hR := rank_any A n c xs w h hn hcap
  rcases ordF_two xs with hz | hz
  · have hp := ordF_ok.1 hz
    have h12 : n ≤ 12 := by rw [← h.1]; exact hp.len
    have HL : Hid (xs.length = n) := h.1
    have hrl := rankL_lt xs
    have hfl := fact_le h12
    rw [HL.out] at hrl
    have e0 : rankF xs = ((rankL xs : Int), 0) := by unfold rankF; rw [if_pos hz]
    rw [e0] at hR
    dsimp only at hR
    by_cases hl : rankL xs + 1 < fact n
    · have HF : Hid (nextF xs = (nthL n (plainL n) (rankL xs + 1), true, 0)) := by unfold Hid nextF; rw [if_pos hz, HL.out, if_pos hl]
      have hN := fun W => nth_ok n (rankL xs + 1) W h12 hl
      obtain ⟨r, hr⟩ : ∃ r, rankL xs = r := ⟨_, rfl⟩
      rw [hr] at hR hN hrl
      rw [hr] at HF
      simp only [Int.natCast_add, Int.cast_ofNat_Int] at hN
      have HLL : Hid ((nthL n (plainL n) (r + 1)).length = n) := nthL_length _ _ _
      have hrb : r < 479001600 := by omega
      clear hz hp e0 hr hl hrl hfl
      go_enter Try.func28, Try.ntmps28
      go_wp2_with (first | (go_at_call 24; refine hR.mono ?_; rintro e w1 ⟨rfl, hb1⟩) | (go_at_call 26; refine (hN _).mono ?_; rintro e w2 ⟨rfl, HO, hb2⟩))
      go_ret3
      exact ⟨_, _, by rw [HF.out]; dsimp only; rw [HLL.out]; rfl, by rw [HF.out]; exact HO.mono hb1.size, hb1.trans (hb2.mono hb1.size)⟩
    · have HF : Hid (nextF xs = (xs, false, 0)) := by unfold Hid nextF; rw [if_pos hz, HL.out, if_neg hl]
      have h3 : (nthF n ((rankL xs : Int) + 1)).2 = 3 := by
        unfold nthF; rw [if_neg (by omega), if_pos (by rw [Int.toNat_natCast]; omega)]
      have hN := fun W => nth_err n ((rankL xs : Int) + 1) W (by rw [h3]; decide)
      rw [h3] at hN
      obtain ⟨r, hr⟩ : ∃ r, rankL xs = r := ⟨_, rfl⟩
      rw [hr] at hR hN hrl
      have hrb : r < 479001600 := by omega
      have hK := fun W (hb : Below w.heap.size w W) => clone_any A n c xs W W.heap.size ((h.below hb).more hb.size) (Nat.le_refl _) (by omega)
      clear hz hp e0 hr hl hrl hfl h3
      go_enter Try.func28, Try.ntmps28
      go_wp2_with (first | (go_at_call 24; refine hR.mono ?_; rintro e w1 ⟨rfl, hb1⟩) | (go_at_call 26; refine (hN _).mono ?_; rintro e w2 ⟨rfl, hb2⟩; have hb3 := hb1.trans (hb2.mono hb1.size)) | (go_at_call 45; refine (hK _ hb3).mono ?_; rintro e w4 ⟨A', c', rfl, HO, hb4⟩))
      go_ret3
      exact ⟨A', c', by rw [HF.out]; dsimp only; rw [HL.out]; rfl, by rw [HF.out]; exact HO.mono hb3.size, hb3.trans (hb4.mono hb3.size)⟩
  · have HF : Hid (nextF xs = ([], false, 1)) := by unfold Hid nextF; rw [if_neg (by omega)]
    have e0 : rankF xs = (0, 1) := by unfold rankF; rw [if_neg (by omega)]
    rw [e0] at hR
    clear hz e0
    go_enter Try.func28, Try.ntmps28
    go_wp2_with (first | (go_at_call 24; refine hR.mono ?_; rintro e w1 ⟨rfl, hb1⟩))
    go_ret3
    exact ⟨none, 0, by rw [HF.out]; rfl, by rw [HF.out]; exact OwnI.nil_ _ _ _, hb1⟩

set_option maxRecDepth 100000 in
theorem min_ok (A : Option Addr) (n c : Nat) (xs : List Int) (w : World) (B : Nat) (h : Ints w B A n xs) (hn : n ≤ 100000) (h0 : 0 < n) :
    Calls Try.prog 47 #[.slice A n c] w fun e w' => e = .returned (.int .i64 (minL xs)) ∧ w = w' := by
  have HL : Hid (xs.length = n) := h.1
  obtain ⟨b, off, x0, rfl, _, HX0, hc0, _, _⟩ := h.at_ h0
  rw [Nat.add_zero] at hc0
  have HM0 : Hid (x0 = minL (xs.take 1)) := by unfold Hid; rw [take_succ_of HX0.out]; simp [minL]
  have hd : decide ((n : Int) < 1) = false := by simp; omega
  go_enter Try.func47, Try.ntmps47
  go_wp2
  go_loop [3, 4] (fun s i => ∃ (k : Nat) (m : Int), 1 ≤ k ∧ k ≤ n ∧ i = .int .i64 k ∧ s = .int .i64 m ∧ Hid (m = minL (xs.take k))) (fun _ i => n - (intOf i).toNat)
  case atStart => exact ⟨1, x0, Nat.le_refl _, h0, rfl, rfl, HM0⟩
  case round =>
    obtain ⟨k, m, hk1, hk, rfl, rfl, HM⟩ := hrel
    by_cases hlt : k < n
    · obtain ⟨b2, off2, x, hA, _, HX, hc, hx1, hx2⟩ := h.at_ hlt
      obtain ⟨rfl, rfl⟩ : b2 = b ∧ off2 = off := by injection hA with hA; injection hA with h1 h2; exact ⟨h1.symm, h2.symm⟩
      have HM' : Hid (min m x = minL (xs.take (k + 1))) := by unfold Hid; rw [minL_take hk1 HX.out, HM.out]
      clear hA
      go_wp2
      go_round
      case rel => exact ⟨k + 1, min m x, by omega, by omega, by go_num, congrArg (Value.int .i64) (by split <;> omega), HM'⟩
      case measure => simp [intOf]; omega
    · have HF : Hid (m = minL xs) := by unfold Hid; rw [HM.out, List.take_of_length_le (by rw [HL.out]; omega)]
      go_wp2
      go_ret
      exact ⟨by rw [HF.out]; rfl, rfl⟩
end Go.Proofs.Ytnjjmeaggnlafaa
