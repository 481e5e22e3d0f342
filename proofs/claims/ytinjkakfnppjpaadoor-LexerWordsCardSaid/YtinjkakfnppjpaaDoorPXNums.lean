/- purflelaw08.LexerNumbers returns true at every two numbers, where strconv's table reads as it is laid. -/
import Derived.Test.YtinjkakfnppjpaaDoorG3
import Derived.Test.YtinjkakfnppjpaaDoorG2
import Derived.Lib.AppendIntMem
import Derived.Laws.StructEq
namespace Go.Proofs.YtinjkakfnppjpaaDoor
open Go.RowKit

/-- strconv's table of powers of ten, at this world and each behind it -/
def TabT (W : World) : Prop := Lib.TabBelow Tryd.prog W.heap.size W "internal/strconv.uint64pow10" .u64 Lib.pow10Tab
theorem TabT.at_ {W w : World} (h : TabT W) (hb : Below W.heap.size W w) : Lib.TabIs Tryd.prog w "internal/strconv.uint64pow10" .u64 Lib.pow10Tab := Lib.TabBelow.here (Lib.TabBelow.on h hb)
set_option maxRecDepth 100000 in
theorem digits_any (n : Int) (h0 : -9223372036854775808 ≤ n) (h1 : n ≤ 9223372036854775807) (w : World) (htab : Lib.TabIs Tryd.prog w "internal/strconv.uint64pow10" .u64 Lib.pow10Tab) (T : ByteArray) (hT : Hid (ofL (Lib.itoa n) = T)) :
    Calls Tryd.prog 8 #[.int .i64 n] w fun e w' => e = .returned (.string T) ∧ Below w.heap.size w w' := by
  have cF := x_strconv_FormatInt_10 n h0 h1 w htab
  have hT2 : (⟨(Lib.itoa n).toArray⟩ : ByteArray) = T := hT.out
  rw [hT2] at cF
  clear hT2 hT htab
  go_enter Tryd.func8, Tryd.ntmps8
  go_wp2_with (go_at_call 15; (with_reducible refine cF.mono ?_); rintro e w1 ⟨rfl, k, os, rfl⟩)
  go_ret
  exact ⟨rfl, Lib.below_grow _ _ (Nat.le_refl _) _ _⟩
theorem itoa_short (n : Int) (h0 : -9223372036854775808 ≤ n) (h1 : n ≤ 9223372036854775807) : (Lib.itoa n).length ≤ 20 := by
  unfold Lib.itoa
  split
  · have := dd_le 18 n.natAbs (by omega)
    rw [List.length_cons]
    omega
  · have := dd_le 18 n.toNat (by omega)
    omega
set_option maxRecDepth 100000 in
set_option maxHeartbeats 8000000 in
theorem lexerNumbers_any (W : World) (n : Int) (h0 : -9223372036854775808 ≤ n) (h1 : n ≤ 9223372036854775807) (m : Int) (m0 : -9223372036854775808 ≤ m) (m1 : m ≤ 9223372036854775807) (hT : TabT W) : Calls Tryd.prog 4 #[.int .i64 n, .int .i64 m] W fun e w' => e = .returned (.bool true) ∧ Below W.heap.size W w' := by
  obtain ⟨TA, hTA⟩ : ∃ T, Hid (ofL (Lib.itoa n) = T) := ⟨_, Lib.hid rfl⟩
  obtain ⟨TB, hTB⟩ : ∃ T, Hid (ofL (Lib.itoa m) = T) := ⟨_, Lib.hid rfl⟩
  have sA : TA.size ≤ 20 := by rw [← hTA.out, ofL_size]; exact itoa_short n h0 h1
  have sB : TB.size ≤ 20 := by rw [← hTB.out, ofL_size]; exact itoa_short m m0 m1
  have cA := fun w ht => digits_any n h0 h1 w ht TA hTA
  have cB := fun w ht => digits_any m m0 m1 w ht TB hTB
  have cC := fun w => cut_any TA w (by unfold maxLen; omega)
  have bA : bl TA = Lib.itoa n := by rw [← hTA.out, bl_ofL]
  have bB : bl TB = Lib.itoa m := by rw [← hTB.out, bl_ofL]
  rw [bA] at cC
  have HT := Lib.hid hT
  clear hT
  by_cases hn : n < 0
  · obtain ⟨u, hu'⟩ : ∃ u : Nat, n = -(u : Int) := ⟨n.natAbs, by omega⟩
    have hu : 1 ≤ u := by omega
    by_cases hb : u < 1000000000000000000
    · have hc := cut_itoa_neg u hu hb
      rw [← hu', show (u : Int) = -n by omega] at hc
      rw [hc] at cC
      dsimp only at cC
      have hb2 : (-1000000000000000000 : Int) < n := by omega
      have hnn : -9223372036854775807 ≤ n := by omega
      generalize (((Lib.itoa n).length : Nat) : Int) = N at cC
      generalize ofL (Lib.decDigits u) = TD at cC
      clear bA bB hTA hTB hu hb hu' hc sA sB
      go_enter Tryd.func4, Tryd.ntmps4
      go_wp2_with (go_at_call 5; refine (live_any _).mono ?_; rintro e w1 ⟨rfl, hb1⟩; have hs1 := hb1.size)
      go_wp2_with (go_at_call 8; (with_reducible refine (cA _ (HT.out.at_ hb1)).mono ?_); rintro e w2 ⟨rfl, hb2⟩; have HB2 : Below W.heap.size W w2 := hb1.trans (hb2.mono hs1); have hs2 := HB2.size)
      go_wp2_with (go_at_call 8; (with_reducible refine (cB _ (HT.out.at_ HB2)).mono ?_); rintro e w3 ⟨rfl, hb3⟩; have HB3 : Below W.heap.size W w3 := HB2.trans (hb3.mono hs2); have hs3 := HB3.size)
      go_wp2_with (go_at_call 12; (with_reducible refine (cC _).mono ?_); rintro e w4 ⟨A4, n4, c4, rfl, hn4, hO, hb4⟩; obtain rfl : 2 = n4 := hn4; obtain ⟨g, hA, _, _, a0, a1, a2⟩ := hO.rows 0 _ rfl; subst hA; obtain ⟨g1, e1, _, _, b0, b1, b2⟩ := hO.rows 1 _ rfl; injection e1 with e1; injection e1 with e1; subst e1; have HB4 : Below W.heap.size W w4 := HB3.trans (hb4.mono hs3); simp only [minusTk] at a1)
      go_ret
      exact ⟨rfl, HB4⟩
    · have hlen := dd_le 18 u (by omega)
      have hc := cut_itoa_low u hb (by omega)
      rw [← hu'] at hc
      rw [hc] at cC
      dsimp only at cC
      have hb2 : n ≤ (-1000000000000000000 : Int) := by omega
      clear bA bB hTA hTB hu hb hu' hc hlen sA sB
      go_enter Tryd.func4, Tryd.ntmps4
      go_wp2_with (go_at_call 5; refine (live_any _).mono ?_; rintro e w1 ⟨rfl, hb1⟩; have hs1 := hb1.size)
      go_wp2_with (go_at_call 8; (with_reducible refine (cA _ (HT.out.at_ hb1)).mono ?_); rintro e w2 ⟨rfl, hb2⟩; have HB2 : Below W.heap.size W w2 := hb1.trans (hb2.mono hs1); have hs2 := HB2.size)
      go_wp2_with (go_at_call 8; (with_reducible refine (cB _ (HT.out.at_ HB2)).mono ?_); rintro e w3 ⟨rfl, hb3⟩; have HB3 : Below W.heap.size W w3 := HB2.trans (hb3.mono hs2); have hs3 := HB3.size)
      go_wp2_with (go_at_call 12; (with_reducible refine (cC _).mono ?_); rintro e w4 ⟨A4, n4, c4, rfl, hn4, hO, hb4⟩; have HB4 : Below W.heap.size W w4 := HB3.trans (hb4.mono hs3))
      go_ret
      exact ⟨rfl, HB4⟩
  · obtain ⟨u, hu'⟩ : ∃ u : Nat, n = (u : Int) := ⟨n.toNat, by omega⟩
    have hn' : 0 ≤ n := by omega
    by_cases hb : u < 1000000000000000000
    · have hc := cut_itoa_pos u hb
      rw [← hu', hTA.out] at hc
      rw [hc] at cC
      dsimp only at cC
      have hb2 : n < (1000000000000000000 : Int) := by omega
      have hcn := fun W => tk_neq ⟨2, TA, n⟩ ⟨2, TA, n⟩ W
      have het : eqTk ⟨2, TA, n⟩ ⟨2, TA, n⟩ = true := (eqTk_iff _ _).2 rfl
      rw [het] at hcn
      have hgd := fun (o1 o2 : Operand) (W : World) => run_eqGuard_agg (P := Tryd.prog) W .neq 33 o1 o2 #[.int .i64 2, .string TA, .int .i64 n] #[.int .i64 2, .string TA, .int .i64 n] (by kernel_rfl)
      generalize (((Lib.itoa n).length : Nat) : Int) = N at cC
      clear hc het
      by_cases hm : m < 0
      · clear bA bB hTA hTB hb hu'
        go_enter Tryd.func4, Tryd.ntmps4
        go_wp2_with (go_at_call 5; refine (live_any _).mono ?_; rintro e w1 ⟨rfl, hb1⟩; have hs1 := hb1.size)
        go_wp2_with (go_at_call 8; (with_reducible refine (cA _ (HT.out.at_ hb1)).mono ?_); rintro e w2 ⟨rfl, hb2⟩; have HB2 : Below W.heap.size W w2 := hb1.trans (hb2.mono hs1); have hs2 := HB2.size)
        go_wp2_with (go_at_call 8; (with_reducible refine (cB _ (HT.out.at_ HB2)).mono ?_); rintro e w3 ⟨rfl, hb3⟩; have HB3 : Below W.heap.size W w3 := HB2.trans (hb3.mono hs2); have hs3 := HB3.size)
        go_wp2_with (go_at_call 12; (with_reducible refine (cC _).mono ?_); rintro e w4 ⟨A4, n4, c4, rfl, hn4, hO, hb4⟩; obtain rfl : 1 = n4 := hn4; obtain ⟨g, hA, _, _, a0, a1, a2⟩ := hO.rows 0 _ rfl; subst hA; have HB4 : Below W.heap.size W w4 := HB3.trans (hb4.mono hs3); have hs4 := HB4.size)
        go_ret
        exact ⟨rfl, HB4⟩
      · by_cases hu : n = 0
        · have hnz : (n == 0) = true := by rw [beq_iff_eq]; exact hu
          clear bA bB hTA hTB hb hu' hu
          go_enter Tryd.func4, Tryd.ntmps4
          go_wp2_with (go_at_call 5; refine (live_any _).mono ?_; rintro e w1 ⟨rfl, hb1⟩; have hs1 := hb1.size)
          go_wp2_with (go_at_call 8; (with_reducible refine (cA _ (HT.out.at_ hb1)).mono ?_); rintro e w2 ⟨rfl, hb2⟩; have HB2 : Below W.heap.size W w2 := hb1.trans (hb2.mono hs1); have hs2 := HB2.size)
          go_wp2_with (go_at_call 8; (with_reducible refine (cB _ (HT.out.at_ HB2)).mono ?_); rintro e w3 ⟨rfl, hb3⟩; have HB3 : Below W.heap.size W w3 := HB2.trans (hb3.mono hs2); have hs3 := HB3.size)
          go_wp2_with (go_at_call 12; (with_reducible refine (cC _).mono ?_); rintro e w4 ⟨A4, n4, c4, rfl, hn4, hO, hb4⟩; obtain rfl : 1 = n4 := hn4; obtain ⟨g, hA, _, _, a0, a1, a2⟩ := hO.rows 0 _ rfl; subst hA; have HB4 : Below W.heap.size W w4 := HB3.trans (hb4.mono hs3); have hs4 := HB4.size)
          go_ret
          exact ⟨rfl, HB4⟩
        · have hnz : (n == 0) = false := by rw [beq_eq_false_iff_ne]; exact hu
          by_cases hl : 18 < TA.size + TB.size
          · have hl2 : (18 : Int) < (TA.size : Int) + (TB.size : Int) := by omega
            clear bA bB hTA hTB hb hu' hu
            go_enter Tryd.func4, Tryd.ntmps4
            go_wp2_with (go_at_call 5; refine (live_any _).mono ?_; rintro e w1 ⟨rfl, hb1⟩; have hs1 := hb1.size)
            go_wp2_with (go_at_call 8; (with_reducible refine (cA _ (HT.out.at_ hb1)).mono ?_); rintro e w2 ⟨rfl, hb2⟩; have HB2 : Below W.heap.size W w2 := hb1.trans (hb2.mono hs1); have hs2 := HB2.size)
            go_wp2_with (go_at_call 8; (with_reducible refine (cB _ (HT.out.at_ HB2)).mono ?_); rintro e w3 ⟨rfl, hb3⟩; have HB3 : Below W.heap.size W w3 := HB2.trans (hb3.mono hs2); have hs3 := HB3.size)
            go_wp2_with (go_at_call 12; (with_reducible refine (cC _).mono ?_); rintro e w4 ⟨A4, n4, c4, rfl, hn4, hO, hb4⟩; obtain rfl : 1 = n4 := hn4; obtain ⟨g, hA, _, _, a0, a1, a2⟩ := hO.rows 0 _ rfl; subst hA; have HB4 : Below W.heap.size W w4 := HB3.trans (hb4.mono hs3); have hs4 := HB4.size)
            go_ret
            exact ⟨rfl, HB4⟩
          · have hl2 : ¬ (18 : Int) < (TA.size : Int) + (TB.size : Int) := by omega
            obtain ⟨v, hv⟩ : ∃ v : Nat, m = (v : Int) := ⟨m.toNat, by omega⟩
            have eA : Lib.itoa n = Lib.decDigits u := by rw [hu']; unfold Lib.itoa; rw [if_neg (by omega)]; simp
            have eB : Lib.itoa m = Lib.decDigits v := by rw [hv]; unfold Lib.itoa; rw [if_neg (by omega)]; simp
            have zA : TA.size = (Lib.decDigits u).length := by rw [← bl_len, bA, eA]
            have zB : TB.size = (Lib.decDigits v).length := by rw [← bl_len, bB, eB]
            have hc2 := cut_two u v (by omega) (by omega)
            have hAB : bl (TA ++ TB) = Lib.decDigits u ++ Lib.decDigits v := by rw [bl_append, bA, bB, eA, eB]
            have hTAB : ofL (Lib.decDigits u ++ Lib.decDigits v) = TA ++ TB := by rw [← hAB, ofL_bl]
            rw [← hAB] at hc2
            have cD := fun w => cut_any (TA ++ TB) w (by rw [← bl_len, hAB, List.length_append]; unfold maxLen; omega)
            rw [hc2.1, hc2.2, ofL_bl] at cD
            generalize numL (bl (TA ++ TB)) = NV at cD
            generalize (cutF (bl (TA ++ TB))).2.1 = N2 at cD
            clear bA bB hTA hTB hb hu' hu hl hv eA eB zA zB hc2 hAB hTAB
            go_enter Tryd.func4, Tryd.ntmps4
            go_wp2_with (go_at_call 5; refine (live_any _).mono ?_; rintro e w1 ⟨rfl, hb1⟩; have hs1 := hb1.size)
            go_wp2_with (go_at_call 8; (with_reducible refine (cA _ (HT.out.at_ hb1)).mono ?_); rintro e w2 ⟨rfl, hb2⟩; have HB2 : Below W.heap.size W w2 := hb1.trans (hb2.mono hs1); have hs2 := HB2.size)
            go_wp2_with (go_at_call 8; (with_reducible refine (cB _ (HT.out.at_ HB2)).mono ?_); rintro e w3 ⟨rfl, hb3⟩; have HB3 : Below W.heap.size W w3 := HB2.trans (hb3.mono hs2); have hs3 := HB3.size)
            go_wp2_with (go_at_call 12; (with_reducible refine (cC _).mono ?_); rintro e w4 ⟨A4, n4, c4, rfl, hn4, hO, hb4⟩; obtain rfl : 1 = n4 := hn4; obtain ⟨g, hA, _, _, a0, a1, a2⟩ := hO.rows 0 _ rfl; subst hA; have HB4 : Below W.heap.size W w4 := HB3.trans (hb4.mono hs3); have hs4 := HB4.size)
            go_wp2_with (go_at_call 12; (with_reducible refine (cD _).mono ?_); rintro e w5 ⟨A5, n5, c5, rfl, hn5, hO5, hb5⟩; obtain rfl : 1 = n5 := hn5; obtain ⟨g5, hA5, _, _, d0, d1, d2⟩ := hO5.rows 0 _ rfl; subst hA5; have HB5 : Below W.heap.size W w5 := HB4.trans (hb5.mono hs4))
            go_ret
            exact ⟨rfl, HB5⟩
    · have hlen := dd_le 18 u (by omega)
      have hc := cut_itoa_big u hb (by omega)
      rw [← hu'] at hc
      rw [hc] at cC
      dsimp only at cC
      have hb2 : (1000000000000000000 : Int) ≤ n := by omega
      clear bA bB hTA hTB hb hu' hc hlen sA sB
      go_enter Tryd.func4, Tryd.ntmps4
      go_wp2_with (go_at_call 5; refine (live_any _).mono ?_; rintro e w1 ⟨rfl, hb1⟩; have hs1 := hb1.size)
      go_wp2_with (go_at_call 8; (with_reducible refine (cA _ (HT.out.at_ hb1)).mono ?_); rintro e w2 ⟨rfl, hb2⟩; have HB2 : Below W.heap.size W w2 := hb1.trans (hb2.mono hs1); have hs2 := HB2.size)
      go_wp2_with (go_at_call 8; (with_reducible refine (cB _ (HT.out.at_ HB2)).mono ?_); rintro e w3 ⟨rfl, hb3⟩; have HB3 : Below W.heap.size W w3 := HB2.trans (hb3.mono hs2); have hs3 := HB3.size)
      go_wp2_with (go_at_call 12; (with_reducible refine (cC _).mono ?_); rintro e w4 ⟨A4, n4, c4, rfl, hn4, hO, hb4⟩; have HB4 : Below W.heap.size W w4 := HB3.trans (hb4.mono hs3))
      go_ret
      exact ⟨rfl, HB4⟩
end Go.Proofs.YtinjkakfnppjpaaDoor
