/- The contracts of perm.Rank and perm.Odd. -/
import Derived.Test.YtnjjmeaggnlafaaPTurn
namespace Go.Proofs.Ytnjjmeaggnlafaa
open Go.RowKit

theorem ordersI_ok (m : Int) (w : World) (h0 : 0 ≤ m) (hn : m ≤ 12) :
    Calls Try.prog 42 #[.int .i64 m] w fun e w' => e = .returned (.int .i64 (fact m.toNat : Int)) ∧ w = w' := by
  have := orders_ok m.toNat w (by omega)
  rwa [Int.toNat_of_nonneg h0] at this

set_option maxRecDepth 100000 in
set_option maxHeartbeats 400000 in
theorem rank_any (A : Option Addr) (n c : Nat) (xs : List Int) (w : World) (h : Ints w w.heap.size A n xs) (hn : n ≤ 9223372036854775807) (hcap : n ≤ c) :
    Calls Try.prog 24 #[.slice A n c] w fun e w' => e = .returned (.tuple #[.int .i64 (rankF xs).1, .int .i64 (rankF xs).2]) ∧ Below w.heap.size w w' := by
  have hC := check_ok A n c xs w w.heap.size h (Nat.le_refl _) hn
  rcases ordF_two xs with hz | hz
  · have hp := ordF_ok.1 hz
    have h12 : n ≤ 12 := by rw [← h.1]; exact hp.len
    have HL : Hid (xs.length = n) := h.1
    have HF : Hid (rankF xs = ((rankL xs : Int), 0)) := by unfold Hid rankF; rw [if_pos hz]
    have hE := fun W (hb : Below w.heap.size w W) => eachLess_ok A n c xs W ((h.below hb).more hb.size) h12 hcap
    rw [hz] at hC
    have hO := fun W (m : Int) (h0 : 0 ≤ m) (hm : m ≤ 12) => ordersI_ok m W h0 hm
    clear hz hp
    go_enter Try.func24, Try.ntmps24
    go_wp2_with (first | (go_at_call 22; refine hC.mono ?_; rintro e w1 ⟨rfl, hb1⟩) | (go_at_call 36; refine (hE _ hb1).mono ?_; rintro e w2 ⟨A', c', rfl, HO, hb2⟩; have hI := HO.ints; have hb3 := hb1.trans (hb2.mono hb1.size)))
    have HL2 : Hid ((lessL xs).length = n) := by unfold Hid; rw [lessL_length, HL.out]
    rw [HL2.out] at hI
    clear hC hE hb2 HO
    go_loop [5, 16] (fun s i => ∃ (k : Nat) (q : Int), k ≤ n ∧ i = .int .i64 k ∧ s = .int .i64 q ∧ 0 ≤ q ∧ Hid ((rankL xs : Int) = q + rankL (xs.drop k))) (fun _ i => n - (intOf i).toNat)
    case atStart => exact ⟨0, 0, Nat.zero_le _, rfl, rfl, by omega, by unfold Hid; simp⟩
    case round =>
      obtain ⟨k, q, hk, rfl, rfl, hq, HQ⟩ := hrel
      by_cases hlt : k < n
      · obtain ⟨b, off, v, rfl, _, HV, hcv, hv1, hv2⟩ := hI.at_ hlt
        obtain ⟨x, hx⟩ : ∃ x, xs[k]? = some x := ⟨_, List.getElem?_eq_getElem (by rw [HL.out]; exact hlt)⟩
        have hv := lessL_at hx
        rw [HV.out] at hv
        injection hv with hv
        have hd := rankL_drop hx
        rw [HL.out] at hd
        have hq0 := HQ.out
        have hr := rankL_lt xs
        rw [HL.out] at hr
        have hf := fact_le h12
        have hO' := hO w2 ((n : Int) - 1 - (k : Int)) (by omega) (by omega)
        have e1 : ((n : Int) - 1 - (k : Int)).toNat = n - (k + 1) := by omega
        rw [e1] at hO'
        obtain ⟨f, hff⟩ : ∃ f : Int, (fact (n - (k + 1)) : Int) = f := ⟨_, rfl⟩
        obtain ⟨p, hpp⟩ : ∃ p : Int, v * f = p := ⟨_, rfl⟩
        have hp1 : p = ((lessC x (xs.drop (k + 1)) * fact (n - (k + 1)) : Nat) : Int) := by rw [← hpp, hv, ← hff, Int.natCast_mul]
        have hb : q + p ≤ 479001600 := by omega
        have hp0 : 0 ≤ p := by omega
        have hw1 : IntKind.i64.wrap (v * f) = p := by rw [hpp, wrap_eq]; exact IntWalk.wrap64_in _ ⟨by omega, by omega⟩
        have HQ' : Hid ((rankL xs : Int) = q + p + rankL (xs.drop (k + 1))) := by unfold Hid; rw [hq0, hd, hp1]; omega
        rw [hff] at hO'
        clear hpp hp1 hff hv hd hq0 hr hf e1 hx HQ hO
        go_wp2_with (go_at_call 42; refine hO'.mono ?_; rintro e w' ⟨rfl, rfl⟩)
        go_round
        case rel => exact ⟨k + 1, q + p, by omega, by go_num, rfl, by omega, HQ'⟩
        case measure => simp [intOf]; omega
      · have HR : Hid ((rankL xs : Int) = q) := by
          unfold Hid; have := HQ.out; rw [List.drop_of_length_le (by rw [HL.out]; omega)] at this; simpa [rankL] using this
        go_wp2
        go_ret2
        exact ⟨by rw [HF.out]; dsimp only; rw [HR.out]; rfl, hb3⟩
  · have HF : Hid (rankF xs = (0, 1)) := by unfold Hid rankF; rw [if_neg (by omega)]
    rw [hz] at hC
    clear hz
    go_enter Try.func24, Try.ntmps24
    go_wp2_with (go_at_call 22; refine hC.mono ?_; rintro e w1 ⟨rfl, hb1⟩)
    go_ret2
    exact ⟨by rw [HF.out]; rfl, hb1⟩

set_option maxRecDepth 100000 in
theorem odd_any (A : Option Addr) (n c : Nat) (xs : List Int) (w : World) (h : Ints w w.heap.size A n xs) (hn : n ≤ 9223372036854775807) (hcap : n ≤ c) :
    Calls Try.prog 32 #[.slice A n c] w fun e w' => e = .returned (.tuple #[.bool (oddF xs).1, .int .i64 (oddF xs).2]) ∧ Below w.heap.size w w' := by
  have hC := check_ok A n c xs w w.heap.size h (Nat.le_refl _) hn
  rcases ordF_two xs with hz | hz
  · have hp := ordF_ok.1 hz
    have h12 : n ≤ 12 := by rw [← h.1]; exact hp.len
    have HL : Hid (xs.length = n) := h.1
    have HF : Hid (oddF xs = (oddB xs, 0)) := by unfold Hid oddF; rw [if_pos hz]
    have hE := fun W (hb : Below w.heap.size w W) => eachLess_ok A n c xs W ((h.below hb).more hb.size) h12 hcap
    rw [hz] at hC
    clear hz hp
    go_enter Try.func32, Try.ntmps32
    go_wp2_with (first | (go_at_call 22; refine hC.mono ?_; rintro e w1 ⟨rfl, hb1⟩) | (go_at_call 36; refine (hE _ hb1).mono ?_; rintro e w2 ⟨A', c', rfl, HO, hb2⟩; have hI := HO.ints; have hb3 := hb1.trans (hb2.mono hb1.size)))
    have HL2 : Hid ((lessL xs).length = n) := by unfold Hid; rw [lessL_length, HL.out]
    rw [HL2.out] at hI
    clear hC hE hb2 HO
    go_loop [5, 16] (fun s i => ∃ (k : Nat) (q : Int), k ≤ n ∧ i = .int .i64 k ∧ s = .int .i64 q ∧ 0 ≤ q ∧ Hid ((invsL xs : Int) = q + invsL (xs.drop k))) (fun _ i => n - (intOf i).toNat)
    case atStart => exact ⟨0, 0, Nat.zero_le _, rfl, rfl, by omega, by unfold Hid; simp⟩
    case round =>
      obtain ⟨k, q, hk, rfl, rfl, hq, HQ⟩ := hrel
      by_cases hlt : k < n
      · obtain ⟨b, off, v, rfl, _, HV, hcv, hv1, hv2⟩ := hI.at_ hlt
        obtain ⟨x, hx⟩ : ∃ x, xs[k]? = some x := ⟨_, List.getElem?_eq_getElem (by rw [HL.out]; exact hlt)⟩
        have hv := lessL_at hx
        rw [HV.out] at hv
        injection hv with hv
        have hd := invsL_drop hx
        have hq0 := HQ.out
        have hr := invsL_le xs
        have hr2 : invsL xs ≤ 12 * 12 := Nat.le_trans hr (Nat.mul_le_mul (by rw [HL.out]; exact h12) (by rw [HL.out]; exact h12))
        have hb : q + v ≤ 144 := by omega
        have hv0 : 0 ≤ v := by omega
        have HQ' : Hid ((invsL xs : Int) = q + v + invsL (xs.drop (k + 1))) := by unfold Hid; rw [hq0, hd, hv]; omega
        clear hv hd hq0 hr hr2 hx HQ
        go_wp2
        go_round
        case rel => exact ⟨k + 1, q + v, by omega, by go_num, rfl, by omega, HQ'⟩
        case measure => simp [intOf]; omega
      · have hR : (invsL xs : Int) = q := by
          have := HQ.out; rw [List.drop_of_length_le (by rw [HL.out]; omega)] at this; simpa [invsL] using this
        by_cases ho : invsL xs % 2 = 1
        · have e1 : (q % 2 == 1) = true := by simp; omega
          have HR : Hid (oddB xs = true) := by unfold Hid oddB; simp [ho]
          have hq2 : q % 2 = 1 := by omega
          clear hR ho
          go_wp2
          go_ret2
          exact ⟨by rw [HF.out]; dsimp only; rw [HR.out]; rfl, hb3⟩
        · have e1 : (q % 2 == 1) = false := by simp; omega
          have HR : Hid (oddB xs = false) := by unfold Hid oddB; simp; omega
          clear hR ho
          go_wp2
          go_ret2
          exact ⟨by rw [HF.out]; dsimp only; rw [HR.out]; rfl, hb3⟩
  · have HF : Hid (oddF xs = (false, 1)) := by unfold Hid oddF; rw [if_neg (by omega)]
    rw [hz] at hC
    clear hz
    go_enter Try.func32, Try.ntmps32
    go_wp2_with (go_at_call 22; refine hC.mono ?_; rintro e w1 ⟨rfl, hb1⟩)
    go_ret2
    exact ⟨by rw [HF.out]; rfl, hb1⟩
end Go.Proofs.Ytnjjmeaggnlafaa
