/- purflelaw08.LexerWords returns true at every text and number, where strconv's table reads as it is laid. -/
import Derived.Test.YtinjkakfnppjpaaDoorPXNums
import Derived.Test.YtinjkakfnppjpaaDoorPXRefDg
import Derived.Test.YtinjkakfnppjpaaDoorPXRefW
namespace Go.Proofs.YtinjkakfnppjpaaDoor
open Go.RowKit

/-- what a number's digits are as a number -/
theorem num_itoa (n : Int) : (0 ≤ n ∧ n < 1000000000000000000 → numRes (Lib.itoa n) = .tuple #[.int .i64 n, .bool true]) ∧ (¬(0 ≤ n ∧ n < 1000000000000000000) → numRes (Lib.itoa n) = .tuple #[.int .i64 0, .bool false]) := by
  by_cases hn : n < 0
  · refine ⟨fun h => by omega, fun _ => ?_⟩
    apply numRes_no
    have e := itoa_minus n.natAbs (by omega)
    rw [show -(n.natAbs : Int) = n by omega] at e
    rw [e]
    unfold isNumL
    rw [decide_eq_false_iff_not]
    rintro ⟨h1, _, _, h2⟩
    obtain ⟨c, e1, e2⟩ := h2 0 h1
    simp at e1
    subst e1
    have : kb 45 = 6 := by decide
    omega
  · have e : Lib.itoa n = Lib.decDigits n.toNat := by unfold Lib.itoa; rw [if_neg hn]
    rw [e]
    have hi := dd_isNum n.toNat
    constructor
    · intro h
      rw [decide_eq_true (by omega)] at hi
      rw [numRes_yes hi, dd_num, show (n.toNat : Int) = n by omega]
    · intro h
      rw [decide_eq_false (by omega)] at hi
      exact numRes_no hi
set_option maxRecDepth 100000 in
set_option maxHeartbeats 8000000 in
theorem lexerWords_any (W : World) (s : ByteArray) (ws : s.size ≤ maxLen) (n : Int) (h0 : -9223372036854775808 ≤ n) (h1 : n ≤ 9223372036854775807) (hT : TabT W) : Calls Tryd.prog 3 #[.string s, .int .i64 n] W fun e w' => e = .returned (.bool true) ∧ Below W.heap.size W w' := by
  have HT := Lib.hid hT
  clear hT
  by_cases hs : (1000 : Int) < s.size
  · unfold maxLen at ws
    go_enter Tryd.func3, Tryd.ntmps3
    go_wp2_with (go_at_call 5; refine (live_any _).mono ?_; rintro e w1 ⟨rfl, hb1⟩)
    go_ret
    exact ⟨rfl, hb1⟩
  · obtain ⟨T, hTT⟩ : ∃ T, Hid (ofL (Lib.itoa n) = T) := ⟨_, Lib.hid rfl⟩
    have sT : T.size ≤ 20 := by rw [← hTT.out, ofL_size]; exact itoa_short n h0 h1
    have bT : bl T = Lib.itoa n := by rw [← hTT.out, bl_ofL]
    have cA := fun w ht => digits_any n h0 h1 w ht T hTT
    have cR := fun w => refDigits_any n h0 h1 w T hTT
    have cN := fun w => number_any s w ws
    have cRN := fun w => refNumber_any s w ws
    have cW := fun w => word_any s w ws
    have cRW := fun w => refWord_any s w ws
    have cM := fun w => number_any T w (by unfold maxLen; omega)
    rw [bT] at cM
    obtain ⟨hy, hno⟩ := num_itoa n
    obtain ⟨v, b, hv⟩ : ∃ (v : Int) (b : Bool), numRes (bl s) = .tuple #[.int .i64 v, .bool b] := by
      cases e : isNumL (bl s)
      · exact ⟨_, _, numRes_no e⟩
      · exact ⟨_, _, numRes_yes e⟩
    rw [hv] at cN cRN
    generalize isWordL (bl s) = wv at cW cRW
    unfold maxLen at ws
    by_cases hin : 0 ≤ n ∧ n < 1000000000000000000
    · rw [hy hin] at cM
      obtain ⟨i0, i1⟩ := hin
      clear hy hno hv bT hTT
      go_enter Tryd.func3, Tryd.ntmps3
      go_wp2_with (first | (go_at_call 5; refine (live_any _).mono ?_; rintro e w1 ⟨rfl, hb1⟩; have hs1 := hb1.size) | (go_at_call 6; (with_reducible refine (cN _).mono ?_); rintro e w2 ⟨rfl, rfl⟩) | (go_at_call 7; (with_reducible refine (cRN _).mono ?_); rintro e w3 ⟨rfl, rfl⟩) | (go_at_call 8; (with_reducible refine (cA _ (HT.out.at_ hb1)).mono ?_); rintro e w4 ⟨rfl, hb4⟩; have HB4 : Below W.heap.size W w4 := hb1.trans (hb4.mono hs1)) | (go_at_call 6; (with_reducible refine (cM _).mono ?_); rintro e w5 ⟨rfl, rfl⟩) | (go_at_call 9; (with_reducible refine (cW _).mono ?_); rintro e w6 ⟨rfl, rfl⟩) | (go_at_call 10; (with_reducible refine (cRW _).mono ?_); rintro e w7 ⟨rfl, rfl⟩) | (go_at_call 11; (with_reducible refine (cR _).mono ?_); rintro e w8 ⟨rfl, rfl⟩))
      go_ret
      exact ⟨rfl, HB4⟩
    · rw [hno hin] at cM
      have hx : n < 0 ∨ (0 ≤ n ∧ decide (n < 1000000000000000000) = false) := by
        by_cases h : n < 0
        · exact .inl h
        · exact .inr ⟨by omega, decide_eq_false (by omega)⟩
      clear hy hno hv bT hTT hin
      rcases hx with i0 | ⟨i0, i1⟩
      all_goals
        go_enter Tryd.func3, Tryd.ntmps3
        go_wp2_with (first | (go_at_call 5; refine (live_any _).mono ?_; rintro e w1 ⟨rfl, hb1⟩; have hs1 := hb1.size) | (go_at_call 6; (with_reducible refine (cN _).mono ?_); rintro e w2 ⟨rfl, rfl⟩) | (go_at_call 7; (with_reducible refine (cRN _).mono ?_); rintro e w3 ⟨rfl, rfl⟩) | (go_at_call 8; (with_reducible refine (cA _ (HT.out.at_ hb1)).mono ?_); rintro e w4 ⟨rfl, hb4⟩; have HB4 : Below W.heap.size W w4 := hb1.trans (hb4.mono hs1)) | (go_at_call 6; (with_reducible refine (cM _).mono ?_); rintro e w5 ⟨rfl, rfl⟩) | (go_at_call 9; (with_reducible refine (cW _).mono ?_); rintro e w6 ⟨rfl, rfl⟩) | (go_at_call 10; (with_reducible refine (cRW _).mono ?_); rintro e w7 ⟨rfl, rfl⟩) | (go_at_call 11; (with_reducible refine (cR _).mono ?_); rintro e w8 ⟨rfl, rfl⟩))
        go_ret
        exact ⟨rfl, HB4⟩
end Go.Proofs.YtinjkakfnppjpaaDoor
