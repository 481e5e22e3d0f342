/- The document's Digits: a number's decimal numeral. -/
import Derived.Test.YtinjkakfnppjpaaDoorG3
import Derived.WalkLawsBesides
namespace Go.Proofs.YtinjkakfnppjpaaDoor
open Go.RowKit

theorem tdig (n : Int) (u : Nat) (h : n.natAbs = u) : ∃ r q : Int, Int.tmod n 10 = r ∧ Int.tdiv n 10 = q ∧ r.natAbs = u % 10 ∧ q.natAbs = u / 10 ∧ -9 ≤ r ∧ r ≤ 9 ∧ q.natAbs ≤ n.natAbs := by
  refine ⟨_, _, rfl, rfl, ?_, ?_, ?_, ?_, ?_⟩
  · rw [Int.natAbs_tmod, h]
    rfl
  · rw [Int.natAbs_tdiv, h]
    rfl
  · have := Int.tmod_lt_of_pos (-n) (show (0 : Int) < 10 by decide)
    rw [Int.neg_tmod] at this
    omega
  · have := Int.tmod_lt_of_pos n (show (0 : Int) < 10 by decide)
    omega
  · rw [Int.natAbs_tdiv]
    exact Nat.div_le_self _ _
theorem ofL_cat (a b : List UInt8) : ofL (a ++ b) = ofL a ++ ofL b := by
  rw [← ofL_bl (ofL a ++ ofL b)]
  congr 1
set_option maxRecDepth 100000 in
theorem enc_dig : ∀ d : Nat, d < 10 → Utf8.encode (48 + (d : Int)) = ofL [UInt8.ofNat (48 + d)]
  | 0, _ | 1, _ | 2, _ | 3, _ | 4, _ | 5, _ | 6, _ | 7, _ | 8, _ | 9, _ => by kernel_rfl
set_option maxRecDepth 100000 in
set_option maxHeartbeats 4000000 in
theorem last_any (u : Nat) : ∀ (n : Int), n.natAbs = u → -9223372036854775808 ≤ n → n ≤ 9223372036854775807 → ∀ w, Calls Tryd.prog 18 #[.int .i64 n] w fun e w' => e = .returned (.string (ofL (Lib.decDigits u))) ∧ w = w' := by
  induction u using Nat.strongRecOn with
  | ind u ih =>
    intro n hu h0 h1 w
    obtain ⟨r, q, hr, hq, har, haq, r9, r8, hqn⟩ := tdig n u hu
    obtain ⟨d, hd⟩ : ∃ d : Nat, u % 10 = d := ⟨_, rfl⟩
    rw [hd] at har
    have hd9 : d < 10 := by omega
    obtain ⟨S, hS⟩ : ∃ S, Utf8.encode (48 + (d : Int)) = S := ⟨_, rfl⟩
    have hS2 : S = ofL [UInt8.ofNat (48 + d)] := hS.symm.trans (enc_dig d hd9)
    have hSz : S.size = 1 := by rw [hS2]; rfl
    by_cases h10 : u < 10
    · have hq0 : q = 0 := by omega
      have hE : Hid (ofL (Lib.decDigits u) = S) := by
        unfold Hid
        rw [Lib.decDigits, dif_pos h10, hS2, ← hd, Nat.mod_eq_of_lt h10]
      subst hq0
      by_cases hrn : r < 0
      · have e1 : -r = (d : Int) := by omega
        clear hu hqn haq hd h10 ih har hS2 hSz
        go_enter Tryd.func18, Tryd.ntmps18
        go_wp2
        go_ret
        exact ⟨by rw [hE.out]; rfl, rfl⟩
      · have hr0 : 0 ≤ r := by omega
        have hS3 : Utf8.encode (48 + r) = S := by rw [show r = (d : Int) by omega]; exact hS
        clear hu hqn haq hd h10 ih har hS2 hSz hrn hS hd9
        go_enter Tryd.func18, Tryd.ntmps18
        go_wp2
        go_ret
        exact ⟨by rw [hE.out]; rfl, rfl⟩
    · have hq0 : (q == 0) = false := by rw [beq_eq_false_iff_ne]; omega
      have hlen := dd_le 18 (u / 10) (by omega)
      have cL := fun w => ih (u / 10) (by omega) q haq (by omega) (by omega) w
      obtain ⟨TQ, hTQ⟩ : ∃ T, ofL (Lib.decDigits (u / 10)) = T := ⟨_, rfl⟩
      have hE : Hid (ofL (Lib.decDigits u) = TQ ++ S) := by
        unfold Hid
        rw [Lib.decDigits, dif_neg h10, hS2, ← hTQ, ← hd]
        exact ofL_cat _ _
      have hTs : TQ.size ≤ 20 := by rw [← hTQ, ofL_size]; omega
      rw [hTQ] at cL
      have hS1 : S.size ≤ 1 := by omega
      have hq8 : -9223372036854775808 ≤ q := by omega
      have hq9 : q ≤ 9223372036854775807 := by omega
      by_cases hrn : r < 0
      · have e1 : -r = (d : Int) := by omega
        clear hu hqn haq hd h10 ih har hS2 hSz hTQ hlen
        go_enter Tryd.func18, Tryd.ntmps18
        go_wp2_with (go_at_call 18; (with_reducible refine (cL _).mono ?_); rintro e w1 ⟨rfl, rfl⟩)
        go_ret
        exact ⟨by rw [hE.out]; rfl, rfl⟩
      · have hr0 : 0 ≤ r := by omega
        have hS3 : Utf8.encode (48 + r) = S := by rw [show r = (d : Int) by omega]; exact hS
        clear hu hqn haq hd h10 ih har hS2 hSz hrn hTQ hlen hS hd9
        go_enter Tryd.func18, Tryd.ntmps18
        go_wp2_with (go_at_call 18; (with_reducible refine (cL _).mono ?_); rintro e w1 ⟨rfl, rfl⟩)
        go_ret
        exact ⟨by rw [hE.out]; rfl, rfl⟩
set_option maxRecDepth 100000 in
/-- what the document's Digits gives -/
theorem refDigits_any (n : Int) (h0 : -9223372036854775808 ≤ n) (h1 : n ≤ 9223372036854775807) (w : World) (T : ByteArray) (hT : Hid (ofL (Lib.itoa n) = T)) : Calls Tryd.prog 11 #[.int .i64 n] w fun e w' => e = .returned (.string T) ∧ w = w' := by
  have cL := fun w => last_any n.natAbs n rfl h0 h1 w
  have hlen := dd_le 18 n.natAbs (by omega)
  obtain ⟨TQ, hTQ⟩ : ∃ T, ofL (Lib.decDigits n.natAbs) = T := ⟨_, rfl⟩
  have hTs : TQ.size ≤ 20 := by rw [← hTQ, ofL_size]; omega
  rw [hTQ] at cL
  by_cases hn : n < 0
  · have hE : Hid (T = ⟨#[45]⟩ ++ TQ) := by
      unfold Hid
      rw [← hT.out, ← hTQ]
      unfold Lib.itoa
      rw [if_pos hn]
      exact ofL_cat [45] _
    clear hT hTQ hlen
    go_enter Tryd.func11, Tryd.ntmps11
    go_wp2_with (go_at_call 18; (with_reducible refine (cL _).mono ?_); rintro e w1 ⟨rfl, rfl⟩)
    go_ret
    exact ⟨by rw [hE.out]; rfl, rfl⟩
  · have hE : Hid (T = TQ) := by
      unfold Hid
      rw [← hT.out, ← hTQ]
      unfold Lib.itoa
      rw [if_neg hn, show n.toNat = n.natAbs by omega]
    clear hT hTQ hlen
    go_enter Tryd.func11, Tryd.ntmps11
    go_wp2_with (go_at_call 18; (with_reducible refine (cL _).mono ?_); rintro e w1 ⟨rfl, rfl⟩)
    go_ret
    exact ⟨by rw [hE.out]; rfl, rfl⟩
end Go.Proofs.YtinjkakfnppjpaaDoor
