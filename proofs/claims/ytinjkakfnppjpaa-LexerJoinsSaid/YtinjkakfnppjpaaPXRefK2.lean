/- The document's Check: it gives what lexer.Check does. -/
import Derived.Test.YtinjkakfnppjpaaPXChk
import Derived.Test.YtinjkakfnppjpaaG3
namespace Go.Proofs.Ytinjkakfnppjpaa
open Go.RowKit

theorem word_size {s : ByteArray} (h : isWordL (bl s) = true) : s.size ≠ 0 := by
  unfold isWordL at h
  rw [decide_eq_true_iff] at h
  obtain ⟨_, ⟨c, e, _⟩, _⟩ := h
  intro h0
  have := (List.getElem?_eq_some_iff.1 e).1
  rw [bl_len] at this
  omega
theorem num_size {s : ByteArray} (h : isNumL (bl s) = true) : s.size ≠ 0 := by
  unfold isNumL at h
  rw [decide_eq_true_iff, bl_len] at h
  omega
theorem sign_size {s : ByteArray} (h : isSignL (bl s) = true) : s.size ≠ 0 ∧ isWordL (bl s) = false ∧ isNumL (bl s) = false := by
  unfold isSignL at h
  rw [decide_eq_true_iff] at h
  obtain ⟨h1, c, e1, e2⟩ := h
  refine ⟨by rw [bl_len] at h1; omega, ?_, ?_⟩
  · unfold isWordL
    rw [decide_eq_false_iff_not]
    rintro ⟨_, ⟨d, e3, e4⟩, _⟩
    rw [e1] at e3
    injection e3 with e3
    subst e3
    omega
  · unfold isNumL
    rw [decide_eq_false_iff_not]
    rintro ⟨h5, _, _, h6⟩
    obtain ⟨d, e3, e4⟩ := h6 0 h5
    rw [e1] at e3
    injection e3 with e3
    subst e3
    omega
theorem may_word (s : ByteArray) (n : Int) : mayB ⟨1, s, n⟩ = (isWordL (bl s) && (n == 0)) := by
  rw [Bool.eq_iff_iff, mayB_iff, Bool.and_eq_true, beq_iff_eq]
  unfold mayT tokF
  simp only
  constructor
  · intro h
    repeat' split at h
    all_goals first | (injection h with h; injection h with h1 h2 h3; first | (exact ⟨by assumption, h3.symm⟩) | (exact absurd h1 (by decide))) | cases h
  · rintro ⟨h, rfl⟩
    rw [if_neg (word_size h), if_pos h]
theorem may_num (s : ByteArray) (n : Int) : mayB ⟨2, s, n⟩ = (isNumL (bl s) && (n == numL (bl s))) := by
  rw [Bool.eq_iff_iff, mayB_iff, Bool.and_eq_true, beq_iff_eq]
  unfold mayT tokF
  simp only
  constructor
  · intro h
    repeat' split at h
    all_goals first | (injection h with h; injection h with h1 h2 h3; first | (exact ⟨by assumption, h3.symm⟩) | (exact absurd h1 (by decide))) | cases h
  · rintro ⟨h, rfl⟩
    rw [if_neg (num_size h), if_neg (by rw [num_no_word h]; decide), if_pos h]
theorem may_sign (s : ByteArray) (n : Int) : mayB ⟨3, s, n⟩ = (isSignL (bl s) && (n == 0)) := by
  rw [Bool.eq_iff_iff, mayB_iff, Bool.and_eq_true, beq_iff_eq]
  unfold mayT tokF
  simp only
  constructor
  · intro h
    repeat' split at h
    all_goals first | (injection h with h; injection h with h1 h2 h3; first | (exact ⟨by assumption, h3.symm⟩) | (exact absurd h1 (by decide))) | cases h
  · rintro ⟨h, rfl⟩
    obtain ⟨h1, h2, h3⟩ := sign_size h
    rw [if_neg h1, if_neg (by rw [h2]; decide), if_neg (by rw [h3]; decide), if_pos h]
theorem may_line (s : ByteArray) (n : Int) : mayB ⟨4, s, n⟩ = (decide (s.size = 0) && (n == 0)) := by
  rw [Bool.eq_iff_iff, mayB_iff, Bool.and_eq_true, beq_iff_eq, decide_eq_true_iff]
  unfold mayT tokF
  simp only
  constructor
  · intro h
    repeat' split at h
    all_goals first | (injection h with h; injection h with h1 h2 h3; first | (exact ⟨by assumption, h3.symm⟩) | (exact absurd h1 (by decide))) | cases h
  · rintro ⟨h, rfl⟩
    rw [if_pos h, size_zero h]
theorem may_other (k : Int) (s : ByteArray) (n : Int) (h1 : k ≠ 1) (h2 : k ≠ 2) (h3 : k ≠ 3) (h4 : k ≠ 4) : mayB ⟨k, s, n⟩ = false := by
  cases e : mayB ⟨k, s, n⟩ with
  | false => rfl
  | true =>
    rw [mayB_iff] at e
    unfold mayT tokF at e
    simp only at e
    repeat' split at e
    all_goals first | (injection e with e; injection e with e1 e2 e3; omega) | cases e
theorem numRes_two (l : List UInt8) : ∃ (v : Int) (b : Bool), numRes l = .tuple #[.int .i64 v, .bool b] ∧ isNumL l = b ∧ (b = true → v = numL l) := by
  cases e : isNumL l
  · exact ⟨0, false, numRes_no e, rfl, fun h => by cases h⟩
  · exact ⟨numL l, true, numRes_yes e, rfl, fun _ => rfl⟩
set_option maxRecDepth 100000 in
set_option maxHeartbeats 8000000 in
theorem refCheck_any (t : Tk) (w : World) (ht : t.s.size ≤ maxLen) : Calls Try.prog 19 #[.agg #[.int .i64 t.k, .string t.s, .int .i64 t.n]] w fun e w' => e = .returned (.int .i64 (chkE (mayB t))) ∧ Below w.heap.size w w' := by
  obtain ⟨k, s, n⟩ := t
  dsimp only at ht ⊢
  have cW := fun w => refWord_any s w ht
  have cN := fun w => refNumber_any s w ht
  have cS := fun w => refSign_any s w
  obtain ⟨v, nb, hnr, hnb, hnv⟩ := numRes_two (bl s)
  rw [hnr] at cN
  have HB0 : Hid (Below w.heap.size w (w.alloc (.cells #[.int .i64 k, .string s, .int .i64 n] 35))) := (Below.refl _ _).alloc (Nat.le_refl _) _
  obtain ⟨M, HM⟩ : ∃ M, Hid (mayB ⟨k, s, n⟩ = M) := ⟨_, Lib.hid rfl⟩
  rw [HM.out]
  clear hnr
  by_cases k1 : k = 1
  · subst k1
    have he := may_word s n
    rw [HM.out] at he
    obtain ⟨q, hq⟩ : ∃ q, isWordL (bl s) = q := ⟨_, rfl⟩
    rw [hq] at he cW
    clear HM hnb hnv
    cases q with
    | false =>
      have HV : Hid (M = false) := he
      clear he hq
      go_enter Try.func19, Try.ntmps19
      go_wp2_with (first | (go_at_call 30; (with_reducible refine (cN _).mono ?_); rintro e w2 ⟨rfl, rfl⟩) | (go_at_call 31; (with_reducible refine (cW _).mono ?_); rintro e w2 ⟨rfl, rfl⟩) | (go_at_call 32; (with_reducible refine (cS _).mono ?_); rintro e w2 ⟨rfl, rfl⟩))
      go_ret
      exact ⟨by rw [HV.out]; rfl, HB0.out⟩
    | true =>
      by_cases hn : n = 0
      · subst hn
        have HV : Hid (M = true) := he.trans (by simp)
        clear he hq
        go_enter Try.func19, Try.ntmps19
        go_wp2_with (first | (go_at_call 30; (with_reducible refine (cN _).mono ?_); rintro e w2 ⟨rfl, rfl⟩) | (go_at_call 31; (with_reducible refine (cW _).mono ?_); rintro e w2 ⟨rfl, rfl⟩) | (go_at_call 32; (with_reducible refine (cS _).mono ?_); rintro e w2 ⟨rfl, rfl⟩))
        go_ret
        exact ⟨by rw [HV.out]; rfl, HB0.out⟩
      · have bn : (n == 0) = false := by rw [beq_eq_false_iff_ne]; exact hn
        have HV : Hid (M = false) := he.trans (by rw [bn]; rfl)
        clear he hn hq
        go_enter Try.func19, Try.ntmps19
        go_wp2_with (first | (go_at_call 30; (with_reducible refine (cN _).mono ?_); rintro e w2 ⟨rfl, rfl⟩) | (go_at_call 31; (with_reducible refine (cW _).mono ?_); rintro e w2 ⟨rfl, rfl⟩) | (go_at_call 32; (with_reducible refine (cS _).mono ?_); rintro e w2 ⟨rfl, rfl⟩))
        go_ret
        exact ⟨by rw [HV.out]; rfl, HB0.out⟩
  · by_cases k2 : k = 2
    · subst k2
      have he := may_num s n
      rw [HM.out] at he
      obtain ⟨q, hq⟩ : ∃ q, isNumL (bl s) = q := ⟨_, rfl⟩
      rw [hq] at he
      obtain rfl : nb = q := hnb.symm.trans hq
      clear HM
      cases nb with
      | false =>
        have HV : Hid (M = false) := he
        clear he hq hnb hnv
        go_enter Try.func19, Try.ntmps19
        go_wp2_with (first | (go_at_call 30; (with_reducible refine (cN _).mono ?_); rintro e w2 ⟨rfl, rfl⟩) | (go_at_call 31; (with_reducible refine (cW _).mono ?_); rintro e w2 ⟨rfl, rfl⟩) | (go_at_call 32; (with_reducible refine (cS _).mono ?_); rintro e w2 ⟨rfl, rfl⟩))
        go_ret
        exact ⟨by rw [HV.out]; rfl, HB0.out⟩
      | true =>
        obtain rfl : v = numL (bl s) := hnv rfl
        generalize numL (bl s) = v at *
        by_cases hn : n = v
        · subst hn
          have HV : Hid (M = true) := he.trans (by simp)
          clear he hq hnb hnv
          go_enter Try.func19, Try.ntmps19
          go_wp2_with (first | (go_at_call 30; (with_reducible refine (cN _).mono ?_); rintro e w2 ⟨rfl, rfl⟩) | (go_at_call 31; (with_reducible refine (cW _).mono ?_); rintro e w2 ⟨rfl, rfl⟩) | (go_at_call 32; (with_reducible refine (cS _).mono ?_); rintro e w2 ⟨rfl, rfl⟩))
          go_ret
          exact ⟨by rw [HV.out]; rfl, HB0.out⟩
        · have bn : (n == v) = false := by rw [beq_eq_false_iff_ne]; exact hn
          have HV : Hid (M = false) := he.trans (by rw [bn]; rfl)
          clear he hn hq hnb hnv
          go_enter Try.func19, Try.ntmps19
          go_wp2_with (first | (go_at_call 30; (with_reducible refine (cN _).mono ?_); rintro e w2 ⟨rfl, rfl⟩) | (go_at_call 31; (with_reducible refine (cW _).mono ?_); rintro e w2 ⟨rfl, rfl⟩) | (go_at_call 32; (with_reducible refine (cS _).mono ?_); rintro e w2 ⟨rfl, rfl⟩))
          go_ret
          exact ⟨by rw [HV.out]; rfl, HB0.out⟩
    · by_cases k3 : k = 3
      · subst k3
        have he := may_sign s n
        rw [HM.out] at he
        obtain ⟨q, hq⟩ : ∃ q, isSignL (bl s) = q := ⟨_, rfl⟩
        rw [hq] at he cS
        clear HM hnb hnv
        cases q with
        | false =>
          have HV : Hid (M = false) := he
          clear he hq
          go_enter Try.func19, Try.ntmps19
          go_wp2_with (first | (go_at_call 30; (with_reducible refine (cN _).mono ?_); rintro e w2 ⟨rfl, rfl⟩) | (go_at_call 31; (with_reducible refine (cW _).mono ?_); rintro e w2 ⟨rfl, rfl⟩) | (go_at_call 32; (with_reducible refine (cS _).mono ?_); rintro e w2 ⟨rfl, rfl⟩))
          go_ret
          exact ⟨by rw [HV.out]; rfl, HB0.out⟩
        | true =>
          by_cases hn : n = 0
          · subst hn
            have HV : Hid (M = true) := he.trans (by simp)
            clear he hq
            go_enter Try.func19, Try.ntmps19
            go_wp2_with (first | (go_at_call 30; (with_reducible refine (cN _).mono ?_); rintro e w2 ⟨rfl, rfl⟩) | (go_at_call 31; (with_reducible refine (cW _).mono ?_); rintro e w2 ⟨rfl, rfl⟩) | (go_at_call 32; (with_reducible refine (cS _).mono ?_); rintro e w2 ⟨rfl, rfl⟩))
            go_ret
            exact ⟨by rw [HV.out]; rfl, HB0.out⟩
          · have bn : (n == 0) = false := by rw [beq_eq_false_iff_ne]; exact hn
            have HV : Hid (M = false) := he.trans (by rw [bn]; rfl)
            clear he hn hq
            go_enter Try.func19, Try.ntmps19
            go_wp2_with (first | (go_at_call 30; (with_reducible refine (cN _).mono ?_); rintro e w2 ⟨rfl, rfl⟩) | (go_at_call 31; (with_reducible refine (cW _).mono ?_); rintro e w2 ⟨rfl, rfl⟩) | (go_at_call 32; (with_reducible refine (cS _).mono ?_); rintro e w2 ⟨rfl, rfl⟩))
            go_ret
            exact ⟨by rw [HV.out]; rfl, HB0.out⟩
      · by_cases k4 : k = 4
        · subst k4
          have he := may_line s n
          rw [HM.out] at he
          clear HM hnb hnv
          by_cases h0 : s.size = 0
          · obtain rfl := size_zero h0
            by_cases hn : n = 0
            · subst hn
              have HV : Hid (M = true) := he.trans (by decide)
              clear he h0
              go_enter Try.func19, Try.ntmps19
              go_wp2_with (first | (go_at_call 30; (with_reducible refine (cN _).mono ?_); rintro e w2 ⟨rfl, rfl⟩) | (go_at_call 31; (with_reducible refine (cW _).mono ?_); rintro e w2 ⟨rfl, rfl⟩) | (go_at_call 32; (with_reducible refine (cS _).mono ?_); rintro e w2 ⟨rfl, rfl⟩))
              go_ret
              exact ⟨by rw [HV.out]; rfl, HB0.out⟩
            · have bn : (n == 0) = false := by rw [beq_eq_false_iff_ne]; exact hn
              have HV : Hid (M = false) := he.trans (by rw [bn]; simp)
              clear he h0 hn
              go_enter Try.func19, Try.ntmps19
              go_wp2_with (first | (go_at_call 30; (with_reducible refine (cN _).mono ?_); rintro e w2 ⟨rfl, rfl⟩) | (go_at_call 31; (with_reducible refine (cW _).mono ?_); rintro e w2 ⟨rfl, rfl⟩) | (go_at_call 32; (with_reducible refine (cS _).mono ?_); rintro e w2 ⟨rfl, rfl⟩))
              go_ret
              exact ⟨by rw [HV.out]; rfl, HB0.out⟩
          · have hz := not_empty h0
            have HV : Hid (M = false) := he.trans (by rw [decide_eq_false h0]; rfl)
            clear he h0
            go_enter Try.func19, Try.ntmps19
            go_wp2_with (first | (go_at_call 30; (with_reducible refine (cN _).mono ?_); rintro e w2 ⟨rfl, rfl⟩) | (go_at_call 31; (with_reducible refine (cW _).mono ?_); rintro e w2 ⟨rfl, rfl⟩) | (go_at_call 32; (with_reducible refine (cS _).mono ?_); rintro e w2 ⟨rfl, rfl⟩))
            go_ret
            exact ⟨by rw [HV.out]; rfl, HB0.out⟩
        · have HV : Hid (M = false) := HM.out.symm.trans (may_other k s n k1 k2 k3 k4)
          have c1 : (k == 1) = false := by rw [beq_eq_false_iff_ne]; exact k1
          have c2 : (k == 2) = false := by rw [beq_eq_false_iff_ne]; exact k2
          have c3 : (k == 3) = false := by rw [beq_eq_false_iff_ne]; exact k3
          have c4 : (k == 4) = false := by rw [beq_eq_false_iff_ne]; exact k4
          clear HM hnb hnv k1 k2 k3 k4
          go_enter Try.func19, Try.ntmps19
          go_wp2_with (first | (go_at_call 30; (with_reducible refine (cN _).mono ?_); rintro e w2 ⟨rfl, rfl⟩) | (go_at_call 31; (with_reducible refine (cW _).mono ?_); rintro e w2 ⟨rfl, rfl⟩) | (go_at_call 32; (with_reducible refine (cS _).mono ?_); rintro e w2 ⟨rfl, rfl⟩))
          go_ret
          exact ⟨by rw [HV.out]; rfl, HB0.out⟩
end Go.Proofs.Ytinjkakfnppjpaa
