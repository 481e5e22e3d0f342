/- The contracts of the document's many, Rank, Odd, Nth, Next. -/
import Derived.Test.YtnjjmeaggnlafaaPBag
namespace Go.Proofs.Ytnjjmeaggnlafaa
open Go.RowKit

set_option maxRecDepth 100000 in
theorem many_nat (k : Nat) : ∀ (n : Nat) (w : World), n ≤ k → n ≤ 12 →
    Calls Try.prog 43 #[.int .i64 (n : Int)] w fun e w' => e = .returned (.int .i64 (fact n : Int)) ∧ w = w' := by
  induction k with
  | zero =>
    intro n w hk _
    obtain rfl : n = 0 := by omega
    go_enter Try.func43, Try.ntmps43
    go_wp2_with fail
    go_ret
    exact ⟨rfl, rfl⟩
  | succ k ih =>
    intro n w hk h12
    by_cases hn : n < 2
    · have hd : decide ((n : Int) < 2) = true := by simp; omega
      have HF : Hid ((fact n : Int) = 1) := by
        unfold Hid
        have : n = 0 ∨ n = 1 := by omega
        rcases this with rfl | rfl <;> rfl
      go_enter Try.func43, Try.ntmps43
      go_wp2_with fail
      go_ret
      exact ⟨by rw [HF.out]; rfl, rfl⟩
    · have hd : decide ((n : Int) < 2) = false := by simp; omega
      have hih := fun W => ih (n - 1) W (by omega) (by omega)
      have e1 : (((n - 1 : Nat) : Nat) : Int) = (n : Int) - 1 := by omega
      rw [e1] at hih
      obtain ⟨f, hf⟩ : ∃ f : Int, (fact (n - 1) : Int) = f := ⟨_, rfl⟩
      obtain ⟨p, hp⟩ : ∃ p : Int, (fact n : Int) = p := ⟨_, rfl⟩
      have hm : (n : Int) * f = p := by
        rw [← hf, ← hp]
        obtain ⟨j, rfl⟩ : ∃ j, n = j + 1 := ⟨n - 1, by omega⟩
        simp only [Nat.add_sub_cancel, fact, Int.natCast_mul]
      have hb := fact_le h12
      have hwp : IntKind.i64.wrap ((n : Int) * f) = p := by rw [hm, wrap_eq]; exact IntWalk.wrap64_in _ ⟨by omega, by omega⟩
      have HP := Lib.hid hp
      rw [hf] at hih
      clear hf hp hm hb e1 ih
      go_enter Try.func43, Try.ntmps43
      go_wp2_with (go_at_call 43; refine (hih _).mono ?_; rintro e w' ⟨rfl, rfl⟩)
      go_ret
      exact ⟨by rw [HP.out]; rfl, rfl⟩
theorem many_ok (m : Int) (w : World) (h0 : 0 ≤ m) (hn : m ≤ 12) :
    Calls Try.prog 43 #[.int .i64 m] w fun e w' => e = .returned (.int .i64 (fact m.toNat : Int)) ∧ w = w' := by
  have := many_nat m.toNat m.toNat w (Nat.le_refl _) (by omega)
  rwa [Int.toNat_of_nonneg h0] at this

set_option maxRecDepth 100000 in
set_option maxHeartbeats 1000000 in
theorem refRank_any (A : Option Addr) (n c : Nat) (xs : List Int) (w : World) (h : Ints w w.heap.size A n xs) (hn : n ≤ 9223372036854775807) (hcap : n ≤ c) :
    Calls Try.prog 25 #[.slice A n c] w fun e w' => e = .returned (.tuple #[.int .i64 (rankF xs).1, .int .i64 (rankF xs).2]) ∧ Below w.heap.size w w' := by
  have hI := is_ok A n c xs w w.heap.size h hn
  rcases permB_ord xs with ⟨ho, hb, hp⟩ | ⟨ho, hb, hp⟩
  · have h12 : n ≤ 12 := by rw [← h.1]; exact hp.len
    have HL : Hid (xs.length = n) := h.1
    have HF : Hid (rankF xs = ((rankL xs : Int), 0)) := by unfold Hid rankF; rw [if_pos ho]
    rw [hb] at hI
    have hO := fun W (m : Int) (h0 : 0 ≤ m) (hm : m ≤ 12) => many_ok m W h0 hm
    clear ho hb hp
    go_enter Try.func25, Try.ntmps25
    go_wp2_with (go_at_call 38; refine hI.mono ?_; rintro e w' ⟨rfl, rfl⟩)
    clear hI
    go_loop [4, 15] (fun s i => ∃ (k : Nat) (q : Int), k ≤ n ∧ i = .int .i64 k ∧ s = .int .i64 q ∧ 0 ≤ q ∧ Hid ((rankL xs : Int) = q + rankL (xs.drop k))) (fun _ i => n - (intOf i).toNat)
    case atStart => exact ⟨0, 0, Nat.zero_le _, rfl, rfl, by omega, by unfold Hid; simp⟩
    case round =>
      obtain ⟨k, q, hk, rfl, rfl, hq, HQ⟩ := hrel
      by_cases hlt : k < n
      · obtain ⟨b, off, x, hA, _, HX, hcx, hx1, hx2⟩ := h.at_ hlt
        have hsl := fun W => run_drop (w := W) A n c k (by omega)
        have hdr := h.drop_ (k := k) (c := c) (by omega) hcap
        obtain ⟨A', hA'⟩ : ∃ A', (if c = k then A else A.map (·.add (k * 1))) = A' := ⟨_, rfl⟩
        rw [hA'] at hdr hsl
        clear hA'
        subst hA
        have HLd : Hid ((xs.drop k).length = n - k) := hdr.1
        have HDX : Hid (xs.drop k = x :: xs.drop (k + 1)) := drop_of HX.out
        go_wp2
        go_loop [7, 24] (fun s i => ∃ j m : Nat, j ≤ n - k ∧ i = .int .i64 j ∧ s = .int .i64 m ∧ m ≤ j ∧ Hid (m = lessC x ((xs.drop k).take j))) (fun _ i => n - (intOf i).toNat)
        case atStart => exact ⟨0, 0, Nat.zero_le _, rfl, rfl, Nat.le_refl _, by unfold Hid; simp [lessC]⟩
        case round =>
          obtain ⟨j, m, hj, rfl, rfl, hm, HM⟩ := hrel
          by_cases hjn : j < n - k
          · obtain ⟨b2, off2, y, rfl, _, HY, hcy, hy1, hy2⟩ := hdr.at_ hjn
            by_cases hyx : y < x
            · have HM' : Hid (m + 1 = lessC x ((xs.drop k).take (j + 1))) := by unfold Hid; rw [take_succ_of HY.out, lessC_snoc, if_pos hyx, HM.out]
              have e1 : decide (y < x) = true := by simpa using hyx
              clear hyx
              go_wp2
              go_round
              case rel => exact ⟨j + 1, m + 1, by omega, by go_num, by go_num, by omega, HM'⟩
              case measure => simp [intOf]; omega
            · have HM' : Hid (m = lessC x ((xs.drop k).take (j + 1))) := by unfold Hid; rw [take_succ_of HY.out, lessC_snoc, if_neg hyx, HM.out]; rfl
              have e1 : decide (y < x) = false := by simpa using hyx
              clear hyx
              go_wp2
              go_round
              case rel => exact ⟨j + 1, m, by omega, by go_num, rfl, by omega, HM'⟩
              case measure => simp [intOf]; omega
          · have hml : m = lessC x (xs.drop (k + 1)) := by
              have := HM.out
              rw [List.take_of_length_le (by rw [HLd.out]; omega), HDX.out, lessC_self] at this
              exact this
            have hd := rankL_drop HX.out
            rw [HL.out, ← hml] at hd
            have hq0 := HQ.out
            have hr := rankL_lt xs
            rw [HL.out] at hr
            have hf := fact_le h12
            have hO' := fun W => hO W ((n : Int) - 1 - (k : Int)) (by omega) (by omega)
            have e1 : ((n : Int) - 1 - (k : Int)).toNat = n - (k + 1) := by omega
            rw [e1] at hO'
            obtain ⟨f, hff⟩ : ∃ f : Int, (fact (n - (k + 1)) : Int) = f := ⟨_, rfl⟩
            obtain ⟨p, hpp⟩ : ∃ p : Int, (m : Int) * f = p := ⟨_, rfl⟩
            have hp1 : p = ((m * fact (n - (k + 1)) : Nat) : Int) := by rw [← hpp, ← hff, Int.natCast_mul]
            have hb : q + p ≤ 479001600 := by omega
            have hp0 : 0 ≤ p := by omega
            have hw1 : IntKind.i64.wrap ((m : Int) * f) = p := by rw [hpp, wrap_eq]; exact IntWalk.wrap64_in _ ⟨by omega, by omega⟩
            have HQ' : Hid ((rankL xs : Int) = q + p + rankL (xs.drop (k + 1))) := by unfold Hid; rw [hq0, hd, hp1]; omega
            rw [hff] at hO'
            clear hpp hp1 hff hd hq0 hr hf e1 HQ hO hml
            go_wp2_with (go_at_call 43; refine (hO' _).mono ?_; rintro e w' ⟨rfl, rfl⟩)
            go_round
            case rel => exact ⟨k + 1, q + p, by omega, by go_num, rfl, by omega, HQ'⟩
            case measure => simp [intOf]; omega
      · have HR : Hid ((rankL xs : Int) = q) := by
          unfold Hid; have := HQ.out; rw [List.drop_of_length_le (by rw [HL.out]; omega)] at this; simpa [rankL] using this
        go_wp2
        go_ret2
        exact ⟨by rw [HF.out]; dsimp only; rw [HR.out]; rfl, Below.refl _ _⟩
  · have HF : Hid (rankF xs = (0, 1)) := by unfold Hid rankF; rw [if_neg (by omega)]
    rw [hb] at hI
    clear ho hb hp
    go_enter Try.func25, Try.ntmps25
    go_wp2_with (go_at_call 38; refine hI.mono ?_; rintro e w' ⟨rfl, rfl⟩)
    go_ret2
    exact ⟨by rw [HF.out]; rfl, Below.refl _ _⟩
end Go.Proofs.Ytnjjmeaggnlafaa
