/- The document's Number. -/
import Derived.Test.YtinjkakfnppjpaaDoorPXRefT
import Derived.Test.YtinjkakfnppjpaaDoorG1
namespace Go.Proofs.YtinjkakfnppjpaaDoor
open Go.RowKit

set_option maxRecDepth 100000 in
set_option maxHeartbeats 8000000 in
theorem refNumber_any (s : ByteArray) (w : World) (hs : s.size ≤ maxLen) : Calls Tryd.prog 7 #[.string s] w fun e w' => e = .returned (numRes (bl s)) ∧ w = w' := by
  unfold maxLen at hs
  by_cases h0 : s.size = 0
  · have hE : Hid (numRes (bl s) = .tuple #[.int .i64 0, .bool false]) := numRes_no (by
      unfold isNumL
      rw [bl_len]
      simp [h0])
    have h0' : (s.size : Int) < 1 := by omega
    clear h0
    go_enter Tryd.func7, Tryd.ntmps7
    go_wp2
    exact bodyPost_ret (v := .tuple #[.int .i64 0, .bool false]) (by simp [results, Tryd.results7, go_sem]) rfl ⟨by rw [hE.out], rfl⟩
  · by_cases h18 : 18 < s.size
    · have hE : Hid (numRes (bl s) = .tuple #[.int .i64 0, .bool false]) := numRes_no (by
        unfold isNumL
        rw [bl_len]
        simp only [decide_eq_false_iff_not, not_and]
        omega)
      have h0' : 1 ≤ (s.size : Int) := by omega
      go_enter Tryd.func7, Tryd.ntmps7
      go_wp2
      exact bodyPost_ret (v := .tuple #[.int .i64 0, .bool false]) (by simp [results, Tryd.results7, go_sem]) rfl ⟨by rw [hE.out], rfl⟩
    · have hp : 0 < s.size := by omega
      have h0' : 1 ≤ (s.size : Int) := by omega
      have hg := bl_get s 0 hp
      have HG0 : Hid ((bl s)[0]? = some s[0]) := hg
      clear hg
      by_cases h1 : 1 < s.size ∧ s[0] = 48
      · have hE : Hid (numRes (bl s) = .tuple #[.int .i64 0, .bool false]) := numRes_no (by
          unfold isNumL
          rw [bl_len, HG0.out]
          simp [h1.1, h1.2])
        have e48 : ((s[0].toNat : Int) == 48) = true := by rw [h1.2]; rfl
        have h1' := h1.1
        clear h1
        go_enter Tryd.func7, Tryd.ntmps7
        go_wp2
        exact bodyPost_ret (v := .tuple #[.int .i64 0, .bool false]) (by simp [results, Tryd.results7, go_sem]) rfl ⟨by rw [hE.out], rfl⟩
      · have HN : Hid (¬(1 < (bl s).length ∧ (bl s)[0]? = some 48)) := by
          unfold Hid
          rw [bl_len, HG0.out]
          simpa using h1
        have hc : (1 < s.size ∧ ((s[0].toNat : Int) == 48) = false) ∨ ¬ 1 < s.size := by
          by_cases a : 1 < s.size
          · refine Or.inl ⟨a, ?_⟩
            rw [beq_eq_false_iff_ne]
            intro e
            exact h1 ⟨a, UInt8.toNat_inj.1 (by rw [show (48 : UInt8).toNat = 48 from rfl]; omega)⟩
          · exact Or.inr a
        clear h1
        rcases hc with ⟨h1, e48⟩ | h1
        all_goals
          go_enter Tryd.func7, Tryd.ntmps7
          go_wp2
          go_loop [4, 26] (fun n i => ∃ (k : Nat) (v : Int), k ≤ s.size ∧ i = .int .i64 k ∧ n = .int .i64 v ∧ Hid (numL ((bl s).take k) = v) ∧ 0 ≤ v ∧ Hid (v < 10 ^ k) ∧ Hid (∀ j < k, ∃ c, (bl s)[j]? = some c ∧ kb c = 5)) (fun _ i => s.size - (intOf i).toNat)
          case atStart => exact ⟨0, 0, Nat.zero_le _, rfl, rfl, rfl, Int.le_refl _, Lib.hid (by decide), fun j hj => absurd hj (by omega)⟩
          case round =>
            obtain ⟨k, v, hk, rfl, rfl, HV, hv, HV2, HA⟩ := hrel
            by_cases hlt : k < s.size
            · have HG : Hid ((bl s)[k]? = some s[k]) := bl_get s k hlt
              have cK := fun w => refDigit_any s[k].toNat (u8_lt _) w
              by_cases h5 : kb s[k] = 5
              · obtain ⟨hlo, hhi⟩ := dig_in h5
                have HB : Hid (kb s[k] = 5) := h5
                rw [show decide (kindI (s[k].toNat : Int) = 5) = true from decide_eq_true h5] at cK
                have hv3 : v < 100000000000000000 := by have := ten_le k (by omega); have := HV2.out; omega
                clear h5
                go_wp2_with (go_at_call 14; refine (cK _).mono ?_; rintro e w1 ⟨rfl, rfl⟩)
                refine ⟨⟨k + 1, v * 10 + ((s[k].toNat : Int) - 48), by omega, by go_num, congrArg (Value.int .i64) (by omega), ?_, by omega, ten_step HV2.out (by omega), fun j hj => ?_⟩, by simp [intOf]; omega⟩
                · unfold Hid
                  rw [take_snoc _ _ _ HG.out, numL_snoc, HV.out]
                · by_cases e : j = k
                  · subst e; exact ⟨_, HG.out, HB.out⟩
                  · exact HA.out j (by omega)
              · rw [show decide (kindI (s[k].toNat : Int) = 5) = false from decide_eq_false h5] at cK
                have hE : Hid (numRes (bl s) = .tuple #[.int .i64 0, .bool false]) := numRes_no (by
                  unfold isNumL
                  rw [decide_eq_false_iff_not]
                  rintro ⟨_, _, _, h⟩
                  obtain ⟨c, e1, e2⟩ := h k (by rw [bl_len]; omega)
                  rw [HG.out] at e1
                  injection e1 with e1
                  subst e1
                  exact h5 e2)
                clear h5
                go_wp2_with (go_at_call 14; refine (cK _).mono ?_; rintro e w1 ⟨rfl, rfl⟩)
                exact bodyPost_ret (v := .tuple #[.int .i64 0, .bool false]) (by simp [results, Tryd.results7, go_sem]) rfl ⟨by rw [hE.out], rfl⟩
            · obtain rfl : s.size = k := by omega
              have hE : Hid (numRes (bl s) = .tuple #[.int .i64 v, .bool true]) := by
                unfold Hid
                rw [numRes_yes, ← HV.out, List.take_of_length_le (by rw [bl_len]; omega)]
                unfold isNumL
                rw [decide_eq_true_iff, bl_len]
                refine ⟨by omega, by omega, ?_, HA.out⟩
                have := HN.out
                rwa [bl_len] at this
              go_wp2
              exact bodyPost_ret (v := .tuple #[.int .i64 v, .bool true]) (by simp [results, Tryd.results7, go_sem]) rfl ⟨by rw [hE.out], rfl⟩
end Go.Proofs.YtinjkakfnppjpaaDoor
