/- purflelaw08.LexerBack returns true at every list of tokens and every text. -/
import Derived.Test.YtinjkakfnppjpaaPXBackM
namespace Go.Proofs.Ytinjkakfnppjpaa
open Go.RowKit

set_option maxRecDepth 100000 in
set_option maxHeartbeats 8000000 in
theorem lexerBack_few (W : World) (A : Option Addr) (n c : Nat) (L : List Tk) (h1 : Toks W W.heap.size A n L) (hn : n ≤ 4398046511104) (s : ByteArray) (zs : s.size ≤ 140737488351232) (hx : ¬(fewL L = true ∧ s.size ≤ 20000)) : Calls Try.prog 5 #[.slice A n c, .string s] W fun e w' => e = .returned (.bool true) ∧ Below W.heap.size W w' := by
  obtain ⟨f, hf⟩ : ∃ f, fewL L = f := ⟨_, rfl⟩
  have F1 := Lib.hid hf
  cases f
  · clear hx hf
    go_enter Try.func5, Try.ntmps5
    go_wp2_with (first | (go_at_call 9; refine (live_any _).mono ?_; rintro e w1 ⟨rfl, hb1⟩) | (go_at_call 13; (with_reducible refine (fewT_any A n c L _ ((h1.on hb1 (Nat.le_refl _)).more hb1.size) hn).mono ?_); rintro e w2 ⟨rfl, hb2⟩; rw [F1.out]))
    go_ret
    exact ⟨rfl, hb1.trans (hb2.mono hb1.size)⟩
  · have hs : (20000 : Int) < (s.size : Int) := by
      have : ¬ s.size ≤ 20000 := fun h => hx ⟨hf, h⟩
      omega
    clear hx hf
    go_enter Try.func5, Try.ntmps5
    go_wp2_with (first | (go_at_call 9; refine (live_any _).mono ?_; rintro e w1 ⟨rfl, hb1⟩) | (go_at_call 13; (with_reducible refine (fewT_any A n c L _ ((h1.on hb1 (Nat.le_refl _)).more hb1.size) hn).mono ?_); rintro e w2 ⟨rfl, hb2⟩; rw [F1.out]))
    go_ret
    exact ⟨rfl, hb1.trans (hb2.mono hb1.size)⟩
set_option maxRecDepth 100000 in
set_option maxHeartbeats 8000000 in
theorem lexerBack_main (W : World) (A : Option Addr) (n c : Nat) (L : List Tk) (h1 : Toks W W.heap.size A n L) (hn : n ≤ 5000) (s : ByteArray) (hs : s.size ≤ 20000) (hf : fewL L = true) : Calls Try.prog 5 #[.slice A n c, .string s] W fun e w' => e = .returned (.bool true) ∧ Below W.heap.size W w' := by
  have F1 := Lib.hid hf
  have hnB : n ≤ 4398046511104 := by omega
  have hs' : ¬ (20000 : Int) < (s.size : Int) := by omega
  have cS := fun w => cut_any s w (by unfold maxLen; omega)
  have cJ := fun w h => join_any A n c L w h hn
  have okL := Lib.hid h1.2.1
  have sL := Lib.hid (sameTL_rfl L)
  have hLn : L.length ≤ 5000 := by rw [h1.1]; exact hn
  clear hf
  obtain ⟨JT, JE, HJ⟩ : ∃ JT JE, Hid (joinF L = (JT, JE)) := ⟨_, _, Lib.hid rfl⟩
  rw [HJ.out] at cJ
  dsimp only at cJ
  by_cases j0 : JE = 0
  · subst j0
    obtain ⟨hG, hL4⟩ := joinF_cut HJ.out
    by_cases h6 : 60000 < JT.size
    · clear hG hL4 HJ
      go_enter Try.func5, Try.ntmps5
      go_wp2_with (go_at_call 9; refine (live_any _).mono ?_; rintro e w1 ⟨rfl, hb1⟩; have hs1 := hb1.size)
      go_wp2_with (go_at_call 13; (with_reducible refine (fewT_any A n c L _ ((h1.on hb1 (Nat.le_refl _)).more hb1.size) hnB).mono ?_); rintro e w2 ⟨rfl, hb2⟩; rw [F1.out]; have HB2 : Below W.heap.size W w2 := hb1.trans (hb2.mono hs1); have hs2 := HB2.size)
      go_wp2_with (go_at_call 14; (with_reducible refine (cJ _ ((h1.on HB2 (Nat.le_refl _)).more hs2)).mono ?_); rintro e w3 ⟨rfl, hb3⟩; have HB3 : Below W.heap.size W w3 := HB2.trans (hb3.mono hs2); have hs3 := HB3.size)
      go_ret
      exact ⟨rfl, HB3⟩
    · have hF := cutF_of_ok hG (by rw [bl_len]; omega) hL4
      have cT := fun w => cut_any JT w (by unfold maxLen; omega)
      rw [hF, bl_len] at cT
      dsimp only at cT
      clear hF hG HJ
      by_cases e6 : (cutF (bl s)).2.2 = 0
      · have hcs : cutF (bl s) = ((cutF (bl s)).1, (cutF (bl s)).2.1, 0) := by rw [← e6]
        obtain ⟨T2, hJ2, hT2, hG2⟩ := cut_join hcs (by rw [bl_len]; exact hs)
        have hF2 := cutF_of_ok hG2 (by rw [bl_len]; exact hT2) (cutF_len _)
        have cT2 := fun w => cut_any T2 w (by unfold maxLen; omega)
        rw [hF2] at cT2
        rw [e6] at cS
        have okM := Lib.hid (cutF_ok (bl s))
        have hlM := cutF_len (bl s)
        have cJ2 : ∀ A n c w, Toks w w.heap.size A n (cutF (bl s)).1 → n ≤ 4096 → Calls Try.prog 14 #[.slice A n c] w (JoinP w T2 0) := fun A n c w h hn => by
          have := join_any A n c _ w h (by omega)
          rw [hJ2] at this
          exact this
        dsimp only at cT2
        generalize (cutF (bl s)).1 = M at *
        generalize (cutF (bl s)).2.1 = N6 at *
        have sM := Lib.hid (sameTL_rfl M)
        clear hcs hJ2 hG2 hF2 e6
        go_enter Try.func5, Try.ntmps5
        go_wp2_with (go_at_call 9; refine (live_any _).mono ?_; rintro e w1 ⟨rfl, hb1⟩; have hs1 := hb1.size)
        go_wp2_with (go_at_call 13; (with_reducible refine (fewT_any A n c L _ ((h1.on hb1 (Nat.le_refl _)).more hb1.size) hnB).mono ?_); rintro e w2 ⟨rfl, hb2⟩; rw [F1.out]; have HB2 : Below W.heap.size W w2 := hb1.trans (hb2.mono hs1); have hs2 := HB2.size)
        go_wp2_with (go_at_call 14; (with_reducible refine (cJ _ ((h1.on HB2 (Nat.le_refl _)).more hs2)).mono ?_); rintro e w3 ⟨rfl, hb3⟩; have HB3 : Below W.heap.size W w3 := HB2.trans (hb3.mono hs2); have hs3 := HB3.size)
        go_wp2_with (go_at_call 10; (with_reducible refine (cT _).mono ?_); rintro e w4 ⟨A4, n4, c4, rfl, hn4, hO4, hb4⟩; have HB4 : Below W.heap.size W w4 := HB3.trans (hb4.mono hs3); have hs4 := HB4.size; have T4 := hO4.rd okL.out hn4; have hl4 : n4 ≤ 1000000 := (by rw [← hn4]; omega); clear hn4)
        go_wp2_with (go_at_call 12; (with_reducible refine (refSame_any A4 A n4 c4 n c _ L L _ T4 ((h1.on HB4 (Nat.le_refl _)).more hs4) hl4).mono ?_); rintro e w5 ⟨rfl, m5, rfl⟩; rw [sL.out]; have HB5 : Below W.heap.size W (w4.drewN m5) := below_dX HB4 m5; have hs5 := HB5.size)
        go_wp2_with (go_at_call 10; (with_reducible refine (cS _).mono ?_); rintro e w6 ⟨A6, n6, c6, rfl, hn6, hO6, hb6⟩; have HB6 : Below W.heap.size W w6 := HB5.trans (hb6.mono hs5); have hs6 := HB6.size; have T6 := hO6.rd okM.out hn6; have hl6 : n6 ≤ 4096 := (by rw [← hn6]; exact hlM); clear hn6)
        go_wp2_with (go_at_call 14; (with_reducible refine (cJ2 A6 n6 c6 _ T6 hl6).mono ?_); rintro e w7 ⟨rfl, hb7⟩; have HB7 : Below W.heap.size W w7 := HB6.trans (hb7.mono hs6); have hs7 := HB7.size)
        go_wp2_with (go_at_call 10; (with_reducible refine (cT2 _).mono ?_); rintro e w8 ⟨A8, n8, c8, rfl, hn8, hO8, hb8⟩; have HB8 : Below W.heap.size W w8 := HB7.trans (hb8.mono hs7); have hs8 := HB8.size; have T8 := hO8.rd okM.out hn8; have T68 := ((T6.on hb7 (Nat.le_refl _)).on hb8 hb7.size).more (Nat.le_trans hb7.size hb8.size); clear hn8)
        go_wp2_with (go_at_call 12; (with_reducible refine (refSame_any A6 A8 n6 c6 n8 c8 _ M M _ T68 T8 (by omega)).mono ?_); rintro e w9 ⟨rfl, m9, rfl⟩; rw [sM.out])
        go_ret
        exact ⟨rfl, below_dX HB8 m9⟩
      · have hM := cutF_none e6
        have hat := cutF_at (bl s)
        rw [bl_len] at hat
        rw [hM] at cS
        generalize (cutF (bl s)).2.1 = N6 at *
        generalize (cutF (bl s)).2.2 = E6 at *
        have b6 : (E6 != 0) = true := by simp [e6]
        obtain ⟨_, hat2⟩ := hat
        clear hM e6
        go_enter Try.func5, Try.ntmps5
        go_wp2_with (go_at_call 9; refine (live_any _).mono ?_; rintro e w1 ⟨rfl, hb1⟩; have hs1 := hb1.size)
        go_wp2_with (go_at_call 13; (with_reducible refine (fewT_any A n c L _ ((h1.on hb1 (Nat.le_refl _)).more hb1.size) hnB).mono ?_); rintro e w2 ⟨rfl, hb2⟩; rw [F1.out]; have HB2 : Below W.heap.size W w2 := hb1.trans (hb2.mono hs1); have hs2 := HB2.size)
        go_wp2_with (go_at_call 14; (with_reducible refine (cJ _ ((h1.on HB2 (Nat.le_refl _)).more hs2)).mono ?_); rintro e w3 ⟨rfl, hb3⟩; have HB3 : Below W.heap.size W w3 := HB2.trans (hb3.mono hs2); have hs3 := HB3.size)
        go_wp2_with (go_at_call 10; (with_reducible refine (cT _).mono ?_); rintro e w4 ⟨A4, n4, c4, rfl, hn4, hO4, hb4⟩; have HB4 : Below W.heap.size W w4 := HB3.trans (hb4.mono hs3); have hs4 := HB4.size; have T4 := hO4.rd okL.out hn4; have hl4 : n4 ≤ 1000000 := (by rw [← hn4]; omega); clear hn4)
        go_wp2_with (go_at_call 12; (with_reducible refine (refSame_any A4 A n4 c4 n c _ L L _ T4 ((h1.on HB4 (Nat.le_refl _)).more hs4) hl4).mono ?_); rintro e w5 ⟨rfl, m5, rfl⟩; rw [sL.out]; have HB5 : Below W.heap.size W (w4.drewN m5) := below_dX HB4 m5; have hs5 := HB5.size)
        go_wp2_with (go_at_call 10; (with_reducible refine (cS _).mono ?_); rintro e w6 ⟨A6, n6, c6, rfl, hn6, hO6, hb6⟩; have HB6 : Below W.heap.size W w6 := HB5.trans (hb6.mono hs5); have hs6 := HB6.size; obtain rfl : 0 = n6 := hn6)
        go_ret
        exact ⟨rfl, HB6⟩
  · have bj : (JE == 0) = false := by rw [beq_eq_false_iff_ne]; exact j0
    clear HJ j0
    by_cases e6 : (cutF (bl s)).2.2 = 0
    · have hcs : cutF (bl s) = ((cutF (bl s)).1, (cutF (bl s)).2.1, 0) := by rw [← e6]
      obtain ⟨T2, hJ2, hT2, hG2⟩ := cut_join hcs (by rw [bl_len]; exact hs)
      have hF2 := cutF_of_ok hG2 (by rw [bl_len]; exact hT2) (cutF_len _)
      have cT2 := fun w => cut_any T2 w (by unfold maxLen; omega)
      rw [hF2] at cT2
      rw [e6] at cS
      have okM := Lib.hid (cutF_ok (bl s))
      have hlM := cutF_len (bl s)
      have cJ2 : ∀ A n c w, Toks w w.heap.size A n (cutF (bl s)).1 → n ≤ 4096 → Calls Try.prog 14 #[.slice A n c] w (JoinP w T2 0) := fun A n c w h hn => by
        have := join_any A n c _ w h (by omega)
        rw [hJ2] at this
        exact this
      dsimp only at cT2
      generalize (cutF (bl s)).1 = M at *
      generalize (cutF (bl s)).2.1 = N6 at *
      have sM := Lib.hid (sameTL_rfl M)
      clear hcs hJ2 hG2 hF2 e6
      go_enter Try.func5, Try.ntmps5
      go_wp2_with (go_at_call 9; refine (live_any _).mono ?_; rintro e w1 ⟨rfl, hb1⟩; have hs1 := hb1.size)
      go_wp2_with (go_at_call 13; (with_reducible refine (fewT_any A n c L _ ((h1.on hb1 (Nat.le_refl _)).more hb1.size) hnB).mono ?_); rintro e w2 ⟨rfl, hb2⟩; rw [F1.out]; have HB2 : Below W.heap.size W w2 := hb1.trans (hb2.mono hs1); have hs2 := HB2.size)
      go_wp2_with (go_at_call 14; (with_reducible refine (cJ _ ((h1.on HB2 (Nat.le_refl _)).more hs2)).mono ?_); rintro e w3 ⟨rfl, hb3⟩; have HB3 : Below W.heap.size W w3 := HB2.trans (hb3.mono hs2); have hs3 := HB3.size)
      go_wp2_with (go_at_call 10; (with_reducible refine (cS _).mono ?_); rintro e w6 ⟨A6, n6, c6, rfl, hn6, hO6, hb6⟩; have HB6 : Below W.heap.size W w6 := HB3.trans (hb6.mono hs3); have hs6 := HB6.size; have T6 := hO6.rd okM.out hn6; have hl6 : n6 ≤ 4096 := (by rw [← hn6]; exact hlM); clear hn6)
      go_wp2_with (go_at_call 14; (with_reducible refine (cJ2 A6 n6 c6 _ T6 hl6).mono ?_); rintro e w7 ⟨rfl, hb7⟩; have HB7 : Below W.heap.size W w7 := HB6.trans (hb7.mono hs6); have hs7 := HB7.size)
      go_wp2_with (go_at_call 10; (with_reducible refine (cT2 _).mono ?_); rintro e w8 ⟨A8, n8, c8, rfl, hn8, hO8, hb8⟩; have HB8 : Below W.heap.size W w8 := HB7.trans (hb8.mono hs7); have hs8 := HB8.size; have T8 := hO8.rd okM.out hn8; have T68 := ((T6.on hb7 (Nat.le_refl _)).on hb8 hb7.size).more (Nat.le_trans hb7.size hb8.size); clear hn8)
      go_wp2_with (go_at_call 12; (with_reducible refine (refSame_any A6 A8 n6 c6 n8 c8 _ M M _ T68 T8 (by omega)).mono ?_); rintro e w9 ⟨rfl, m9, rfl⟩; rw [sM.out])
      go_ret
      exact ⟨rfl, below_dX HB8 m9⟩
    · have hM := cutF_none e6
      have hat := cutF_at (bl s)
      rw [bl_len] at hat
      rw [hM] at cS
      generalize (cutF (bl s)).2.1 = N6 at *
      generalize (cutF (bl s)).2.2 = E6 at *
      have b6 : (E6 != 0) = true := by simp [e6]
      obtain ⟨_, hat2⟩ := hat
      clear hM e6
      go_enter Try.func5, Try.ntmps5
      go_wp2_with (go_at_call 9; refine (live_any _).mono ?_; rintro e w1 ⟨rfl, hb1⟩; have hs1 := hb1.size)
      go_wp2_with (go_at_call 13; (with_reducible refine (fewT_any A n c L _ ((h1.on hb1 (Nat.le_refl _)).more hb1.size) hnB).mono ?_); rintro e w2 ⟨rfl, hb2⟩; rw [F1.out]; have HB2 : Below W.heap.size W w2 := hb1.trans (hb2.mono hs1); have hs2 := HB2.size)
      go_wp2_with (go_at_call 14; (with_reducible refine (cJ _ ((h1.on HB2 (Nat.le_refl _)).more hs2)).mono ?_); rintro e w3 ⟨rfl, hb3⟩; have HB3 : Below W.heap.size W w3 := HB2.trans (hb3.mono hs2); have hs3 := HB3.size)
      go_wp2_with (go_at_call 10; (with_reducible refine (cS _).mono ?_); rintro e w6 ⟨A6, n6, c6, rfl, hn6, hO6, hb6⟩; have HB6 : Below W.heap.size W w6 := HB3.trans (hb6.mono hs3); have hs6 := HB6.size; obtain rfl : 0 = n6 := hn6)
      go_ret
      exact ⟨rfl, HB6⟩
theorem lexerBack_any (W : World) (A : Option Addr) (n c : Nat) (L : List Tk) (h1 : Toks W W.heap.size A n L) (hn : n ≤ 4398046511104) (_ : n ≤ c) (s : ByteArray) (_ : s.size ≤ maxLen) (zs : s.size ≤ 140737488351232) : Calls Try.prog 5 #[.slice A n c, .string s] W fun e w' => e = .returned (.bool true) ∧ Below W.heap.size W w' := by
  by_cases hx : fewL L = true ∧ s.size ≤ 20000
  · have e1 : n ≤ 5000 := by
      have := hx.1
      unfold fewL at this
      rw [decide_eq_true_iff, h1.1] at this
      exact this.2
    exact lexerBack_main W A n c L h1 e1 s hx.2 hx.1
  · exact lexerBack_few W A n c L h1 hn s zs hx
end Go.Proofs.Ytinjkakfnppjpaa
