/- purflelaw08.LexerFirst returns true at every two texts. -/
import Derived.Test.YtinjkakfnppjpaaG2
namespace Go.Proofs.Ytinjkakfnppjpaa
open Go.RowKit

set_option maxRecDepth 100000 in
set_option maxHeartbeats 4000000 in
theorem lexerFirst_any (W : World) (s : ByteArray) (ws : s.size ≤ maxLen) (zs : s.size ≤ 140737488351232) (b : ByteArray) (wb : b.size ≤ maxLen) (zb : b.size ≤ 140737488351232) : Calls Try.prog 7 #[.string s, .string b] W fun e w' => e = .returned (.bool true) ∧ Below W.heap.size W w' := by
  have cC := fun w => cut_any s w ws
  unfold maxLen at ws wb
  by_cases h7 : (20000 : Int) < (s.size : Int) + (b.size : Int)
  · clear cC
    go_enter Try.func7, Try.ntmps7
    go_wp2_with (go_at_call 9; refine (live_any _).mono ?_; rintro e w1 ⟨rfl, hb1⟩)
    go_ret
    exact ⟨rfl, hb1⟩
  · have h7' : s.size + b.size ≤ 20000 := by omega
    by_cases h6 : (cutF (bl s)).2.2 = 6
    · obtain ⟨q, hq, ha, _⟩ := cutF_bad h6
      obtain ⟨q1, q2, L', hL'⟩ := cutG_ahead hq
      rw [bl_len] at q2 ha hL'
      obtain ⟨p, hp⟩ : ∃ p, s.size - q = p := ⟨_, rfl⟩
      have hps : p < s.size := by omega
      rw [hp] at ha hL'
      have cP := fun w => cut_any (s.extract 0 p) w (by rw [extract_ofL, ofL_size, List.length_take, List.length_drop, bl_len]; unfold maxLen; omega)
      have hF : (cutF (bl (s.extract 0 p))).2.2 = 0 ∨ (cutF (bl (s.extract 0 p))).2.2 = 2 := by
        rcases cutF_err (bl (s.extract 0 p)) with h | h | h
        · exact .inl h
        · exact .inr h
        · obtain ⟨q', h', _⟩ := cutF_bad h
          rw [bl_take, hL'] at h'
          cases h'
      have hbb : (s ++ ⟨#[10]⟩ ++ b).size = s.size + 1 + b.size := by rw [← bl_len, bl_append, bl_append, List.length_append, List.length_append, bl_len, bl_len]; rfl
      have cB := fun w => cut_any (s ++ ⟨#[10]⟩ ++ b) w (by unfold maxLen; omega)
      have hB : cutF (bl (s ++ ⟨#[10]⟩ ++ b)) = ([], (p : Int), 6) := by
        have e1 : bl (s ++ ⟨#[10]⟩ ++ b) = bl s ++ 10 :: bl b := by rw [bl_append, bl_append]; show bl s ++ [10] ++ bl b = _; simp
        have e2 : cutG (bl (s ++ ⟨#[10]⟩ ++ b)) = .error (q + 1 + (bl b).length) := by rw [e1, cutG_line, hq]
        rw [cutF_of_bad e2 (by rw [bl_len]; omega), bl_len, hbb, bl_len, show s.size + 1 + b.size - (q + 1 + b.size) = p by omega]
      rw [hB] at cB
      rw [h6, ha] at cC
      generalize (cutF (bl (s.extract 0 p))).2.2 = F at cP hF
      generalize (cutF (bl (s.extract 0 p))).2.1 = PN at cP
      generalize (cutF (bl (s.extract 0 p))).1 = PL at cP
      generalize (cutF (bl s)).1 = CL at cC
      clear hB hbb hq hp ha hL' h6
      have hF2 : F = 0 ∨ (F ≠ 0 ∧ F = 2) := by rcases hF with h | h <;> omega
      clear hF
      rcases hF2 with rfl | ⟨hF0, rfl⟩
      all_goals
        go_enter Try.func7, Try.ntmps7
        go_wp2_with (go_at_call 9; refine (live_any _).mono ?_; rintro e w1 ⟨rfl, hb1⟩)
        go_wp2_with (go_at_call 10; (with_reducible refine (cC _).mono ?_); rintro e w2 ⟨A, n, c, rfl, hn, hO, hb2⟩)
        go_wp2_with (go_at_call 10; (with_reducible refine (cP _).mono ?_); rintro e w3 ⟨A3, n3, c3, rfl, hn3, hO3, hb3⟩)
        go_wp2_with (go_at_call 10; (with_reducible refine (cB _).mono ?_); rintro e w4 ⟨A4, n4, c4, rfl, hn4, hO4, hb4⟩)
        go_ret
        exact ⟨rfl, ((hb1.trans (hb2.mono hb1.size)).trans (hb3.mono (Nat.le_trans hb1.size hb2.size))).trans (hb4.mono (Nat.le_trans (Nat.le_trans hb1.size hb2.size) hb3.size))⟩
    · generalize (cutF (bl s)).2.2 = E at cC h6
      generalize (cutF (bl s)).2.1 = N at cC
      generalize (cutF (bl s)).1 = CL at cC
      have hE : (E != 6) = true := by simp [h6]
      clear h6
      go_enter Try.func7, Try.ntmps7
      go_wp2_with (first | (go_at_call 9; refine (live_any _).mono ?_; rintro e w1 ⟨rfl, hb1⟩) | (go_at_call 10; (with_reducible refine (cC _).mono ?_); rintro e w2 ⟨A, n, c, rfl, hn, hO, hb2⟩))
      go_ret
      exact ⟨rfl, hb1.trans (hb2.mono hb1.size)⟩
end Go.Proofs.Ytinjkakfnppjpaa
