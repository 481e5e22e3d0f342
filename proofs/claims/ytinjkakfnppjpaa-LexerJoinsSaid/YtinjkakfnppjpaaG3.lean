/- The document's Number. -/
import Derived.Test.YtinjkakfnppjpaaG2
import Derived.Test.YtinjkakfnppjpaaG1
import Derived.Deep.CutBlock
import Derived.Deep.DeepCutAuto
import Derived.Deep.LoopGhost
import Derived.BigFrame
import Derived.Test.YtinjkakfnppjpaaRows
import Derived.WalkKit
import Derived.ProofKit
import Derived.OpenShut
import Derived.ChangeOld
import Derived.Below
import Derived.Lib.SmallJoins
namespace Go.Proofs.Ytinjkakfnppjpaa
open Go.RowKit

set_option maxRecDepth 100000 in
set_option maxHeartbeats 8000000 in
theorem refNumber_any (s : ByteArray) (w : World) (hs : s.size ≤ maxLen) : Calls Try.prog 30 #[.string s] w fun e w' => e = .returned (numRes (bl s)) ∧ w = w' := by
  unfold maxLen at hs
  by_cases h0 : s.size = 0
  · have hE : Hid (numRes (bl s) = .tuple #[.int .i64 0, .bool false]) := numRes_no (by
      unfold isNumL
      rw [bl_len]
      simp [h0])
    have h0' : (s.size : Int) < 1 := by omega
    clear h0
    go_enter Try.func30, Try.ntmps30
    go_wp2
    exact bodyPost_ret (v := .tuple #[.int .i64 0, .bool false]) (by simp [results, Try.results30, go_sem]) rfl ⟨by rw [hE.out], rfl⟩
  · by_cases h18 : 18 < s.size
    · have hE : Hid (numRes (bl s) = .tuple #[.int .i64 0, .bool false]) := numRes_no (by
        unfold isNumL
        rw [bl_len]
        simp only [decide_eq_false_iff_not, not_and]
        omega)
      have h0' : 1 ≤ (s.size : Int) := by omega
      go_enter Try.func30, Try.ntmps30
      go_wp2
      exact bodyPost_ret (v := .tuple #[.int .i64 0, .bool false]) (by simp [results, Try.results30, go_sem]) rfl ⟨by rw [hE.out], rfl⟩
    · have hp : 0 < s.size := by omega
      have h0' : 1 ≤ (s.size : Int) := by omega
      have hg := bl_get s 0 hp
      have HG0 : Hid ((bl s)[0]? = some s[0]) := hg
      clear hg
      by_cases h1 : 1 < s.size ∧ s[0] = 48
      · have hE : Hid (numRes (bl s) = .tuple #[.int .i64 0, .bool false]) := numRes_no (by
          unfold isNumL
          rw [bl_len, HG0.out]
          simp [h1.1, h1.2])
        have e48 : ((s[0].toNat : Int) == 48) = true := by rw [h1.2]; rfl
        have h1' := h1.1
        clear h1
        go_enter Try.func30, Try.ntmps30
        go_wp2
        exact bodyPost_ret (v := .tuple #[.int .i64 0, .bool false]) (by simp [results, Try.results30, go_sem]) rfl ⟨by rw [hE.out], rfl⟩
      · have HN : Hid (¬(1 < (bl s).length ∧ (bl s)[0]? = some 48)) := by
          unfold Hid
          rw [bl_len, HG0.out]
          simpa using h1
        have hc : (1 < s.size ∧ ((s[0].toNat : Int) == 48) = false) ∨ ¬ 1 < s.size := by
          by_cases a : 1 < s.size
          · refine Or.inl ⟨a, ?_⟩
            rw [beq_eq_false_iff_ne]
            intro e
            exact h1 ⟨a, UInt8.toNat_inj.1 (by rw [show (48 : UInt8).toNat = 48 from rfl]; omega)⟩
          · exact Or.inr a
        clear h1
        rcases hc with ⟨h1, e48⟩ | h1
        all_goals
          go_enter Try.func30, Try.ntmps30
          go_wp2
          go_loop [4, 26] (fun n i => ∃ (k : Nat) (v : Int), k ≤ s.size ∧ i = .int .i64 k ∧ n = .int .i64 v ∧ Hid (numL ((bl s).take k) = v) ∧ 0 ≤ v ∧ Hid (v < 10 ^ k) ∧ Hid (∀ j < k, ∃ c, (bl s)[j]? = some c ∧ kb c = 5)) (fun _ i => s.size - (intOf i).toNat)
          case atStart => exact ⟨0, 0, Nat.zero_le _, rfl, rfl, rfl, Int.le_refl _, Lib.hid (by decide), fun j hj => absurd hj (by omega)⟩
          case round =>
            obtain ⟨k, v, hk, rfl, rfl, HV, hv, HV2, HA⟩ := hrel
            by_cases hlt : k < s.size
            · have HG : Hid ((bl s)[k]? = some s[k]) := bl_get s k hlt
              have cK := fun w => refDigit_any s[k].toNat (u8_lt _) w
              by_cases h5 : kb s[k] = 5
              · obtain ⟨hlo, hhi⟩ := dig_in h5
                have HB : Hid (kb s[k] = 5) := h5
                rw [show decide (kindI (s[k].toNat : Int) = 5) = true from decide_eq_true h5] at cK
                have hv3 : v < 100000000000000000 := by have := ten_le k (by omega); have := HV2.out; omega
                clear h5
                go_wp2_with (go_at_call 24; refine (cK _).mono ?_; rintro e w1 ⟨rfl, rfl⟩)
                refine ⟨⟨k + 1, v * 10 + ((s[k].toNat : Int) - 48), by omega, by go_num, congrArg (Value.int .i64) (by omega), ?_, by omega, ten_step HV2.out (by omega), fun j hj => ?_⟩, by simp [intOf]; omega⟩
                · unfold Hid
                  rw [take_snoc _ _ _ HG.out, numL_snoc, HV.out]
                · by_cases e : j = k
                  · subst e; exact ⟨_, HG.out, HB.out⟩
                  · exact HA.out j (by omega)
              · rw [show decide (kindI (s[k].toNat : Int) = 5) = false from decide_eq_false h5] at cK
                have hE : Hid (numRes (bl s) = .tuple #[.int .i64 0, .bool false]) := numRes_no (by
                  unfold isNumL
                  rw [decide_eq_false_iff_not]
                  rintro ⟨_, _, _, h⟩
                  obtain ⟨c, e1, e2⟩ := h k (by rw [bl_len]; omega)
                  rw [HG.out] at e1
                  injection e1 with e1
                  subst e1
                  exact h5 e2)
                clear h5
                go_wp2_with (go_at_call 24; refine (cK _).mono ?_; rintro e w1 ⟨rfl, rfl⟩)
                exact bodyPost_ret (v := .tuple #[.int .i64 0, .bool false]) (by simp [results, Try.results30, go_sem]) rfl ⟨by rw [hE.out], rfl⟩
            · obtain rfl : s.size = k := by omega
              have hE : Hid (numRes (bl s) = .tuple #[.int .i64 v, .bool true]) := by
                unfold Hid
                rw [numRes_yes, ← HV.out, List.take_of_length_le (by rw [bl_len]; omega)]
                unfold isNumL
                rw [decide_eq_true_iff, bl_len]
                refine ⟨by omega, by omega, ?_, HA.out⟩
                have := HN.out
                rwa [bl_len] at this
              go_wp2
              exact bodyPost_ret (v := .tuple #[.int .i64 v, .bool true]) (by simp [results, Try.results30, go_sem]) rfl ⟨by rw [hE.out], rfl⟩
end Go.Proofs.Ytinjkakfnppjpaa
/- The document's Word and sign. -/
namespace Go.Proofs.Ytinjkakfnppjpaa
open Go.RowKit

theorem isWordL_no {l : List UInt8} (k : Nat) {c : UInt8} (h : l[k]? = some c) (hc : isLD c = false) : isWordL l = false := by
  unfold isWordL
  rw [decide_eq_false_iff_not]
  rintro ⟨_, _, h3⟩
  have hk := (List.getElem?_eq_some_iff.1 h).1
  have : ∀ (l : List UInt8) (k : Nat), l[k]? = some c → alongL l ≤ k := by
    intro l
    induction l with
    | nil => intro k h; simp at h
    | cons b l ih =>
      intro k h
      unfold alongL
      rw [List.takeWhile_cons]
      split
      · cases k with
        | zero => simp at h; subst h; rename_i a; rw [hc] at a; cases a
        | succ k => have := ih k (by simpa using h); unfold alongL at this; simp only [List.length_cons]; omega
      · simp
  have := this l k h
  omega
set_option maxRecDepth 100000 in
set_option maxHeartbeats 8000000 in
theorem refWord_any (s : ByteArray) (w : World) (hs : s.size ≤ maxLen) : Calls Try.prog 31 #[.string s] w fun e w' => e = .returned (.bool (isWordL (bl s))) ∧ w = w' := by
  unfold maxLen at hs
  by_cases h0 : s.size = 0
  · have hE : Hid (isWordL (bl s) = false) := by
      unfold Hid isWordL
      rw [decide_eq_false_iff_not, List.getElem?_eq_none (by rw [bl_len]; omega)]
      rintro ⟨_, ⟨c, h, _⟩, _⟩
      cases h
    have h0' : (s.size : Int) < 1 := by omega
    go_enter Try.func31, Try.ntmps31
    go_wp2
    go_ret
    exact ⟨by rw [hE.out]; rfl, rfl⟩
  · by_cases h16 : 16 < s.size
    · have hE : Hid (isWordL (bl s) = false) := by
        unfold Hid isWordL
        rw [decide_eq_false_iff_not, bl_len]
        rintro ⟨h, _⟩
        omega
      have h0' : 1 ≤ (s.size : Int) := by omega
      go_enter Try.func31, Try.ntmps31
      go_wp2
      go_ret
      exact ⟨by rw [hE.out]; rfl, rfl⟩
    · have hp : 0 < s.size := by omega
      have h0' : 1 ≤ (s.size : Int) := by omega
      have HG0 : Hid ((bl s)[0]? = some (s[0]'hp)) := bl_get s 0 hp
      have cL0 := fun w => refLetter_any (s[0]'hp).toNat (u8_lt _) w
      by_cases h4 : kb (s[0]'hp) = 4
      · rw [show decide (kindI ((s[0]'hp).toNat : Int) = 4) = true from decide_eq_true h4] at cL0
        have H4 := Lib.hid h4
        clear h4
        go_enter Try.func31, Try.ntmps31
        go_wp2_with (go_at_call 23; refine (cL0 _).mono ?_; rintro e w1 ⟨rfl, rfl⟩)
        go_loop [20] (fun i => ∃ (k : Nat), k ≤ s.size ∧ i = .int .i64 k ∧ Hid (∀ j < k, ∃ c, (bl s)[j]? = some c ∧ isLD c = true)) (fun i => s.size - (intOf i).toNat)
        case atStart => exact ⟨0, Nat.zero_le _, rfl, fun j hj => absurd hj (by omega)⟩
        case round =>
          obtain ⟨k, hk, rfl, HA⟩ := hrel
          by_cases hlt : k < s.size
          · have HG : Hid ((bl s)[k]? = some s[k]) := bl_get s k hlt
            have cL := fun w => refLetter_any s[k].toNat (u8_lt _) w
            have cD := fun w => refDigit_any s[k].toNat (u8_lt _) w
            clear cL0
            by_cases a4 : kb s[k] = 4
            · have HB : Hid (isLD s[k] = true) := by unfold Hid isLD; simp [a4]
              rw [show decide (kindI (s[k].toNat : Int) = 4) = true from decide_eq_true a4] at cL
              clear a4 cD
              go_wp2_with (go_at_call 23; refine (cL _).mono ?_; rintro e w1 ⟨rfl, rfl⟩)
              refine ⟨⟨k + 1, by omega, by go_num, fun j hj => ?_⟩, by simp [intOf]; omega⟩
              by_cases e : j = k
              · subst e; exact ⟨_, HG.out, HB.out⟩
              · exact HA.out j (by omega)
            · rw [show decide (kindI (s[k].toNat : Int) = 4) = false from decide_eq_false a4] at cL
              by_cases a5 : kb s[k] = 5
              · have HB : Hid (isLD s[k] = true) := by unfold Hid isLD; simp [a5]
                rw [show decide (kindI (s[k].toNat : Int) = 5) = true from decide_eq_true a5] at cD
                clear a4 a5
                go_wp2_with (first | (go_at_call 23; refine (cL _).mono ?_; rintro e w1 ⟨rfl, rfl⟩) | (go_at_call 24; refine (cD _).mono ?_; rintro e w1 ⟨rfl, rfl⟩))
                refine ⟨⟨k + 1, by omega, by go_num, fun j hj => ?_⟩, by simp [intOf]; omega⟩
                by_cases e : j = k
                · subst e; exact ⟨_, HG.out, HB.out⟩
                · exact HA.out j (by omega)
              · have hE : Hid (isWordL (bl s) = false) := isWordL_no k HG.out (by unfold isLD; simp [a4, a5])
                rw [show decide (kindI (s[k].toNat : Int) = 5) = false from decide_eq_false a5] at cD
                clear a4 a5
                go_wp2_with (first | (go_at_call 23; refine (cL _).mono ?_; rintro e w1 ⟨rfl, rfl⟩) | (go_at_call 24; refine (cD _).mono ?_; rintro e w1 ⟨rfl, rfl⟩))
                go_ret
                exact ⟨by rw [hE.out]; rfl, rfl⟩
          · have hE : Hid (isWordL (bl s) = true) := by
              unfold Hid isWordL
              rw [decide_eq_true_iff, bl_len]
              exact ⟨by omega, ⟨_, HG0.out, H4.out⟩, along_eq (bl s) s.size (fun j hj => HA.out j (by omega)) (Or.inl (bl_len s).symm)⟩
            go_wp2
            go_ret
            exact ⟨by rw [hE.out]; rfl, rfl⟩
      · rw [show decide (kindI ((s[0]'hp).toNat : Int) = 4) = false from decide_eq_false h4] at cL0
        have hE : Hid (isWordL (bl s) = false) := by
          unfold Hid isWordL
          rw [decide_eq_false_iff_not, HG0.out]
          rintro ⟨_, ⟨c, e1, e2⟩, _⟩
          injection e1 with e1
          subst e1
          exact h4 e2
        clear h4
        go_enter Try.func31, Try.ntmps31
        go_wp2_with (go_at_call 23; refine (cL0 _).mono ?_; rintro e w1 ⟨rfl, rfl⟩)
        go_ret
        exact ⟨by rw [hE.out]; rfl, rfl⟩
theorem u8_eq (c : UInt8) (n : Nat) (hn : n < 256) : c = n.toUInt8 ↔ c.toNat = n := by
  constructor
  · intro h
    rw [h]
    simp
    omega
  · intro h
    apply UInt8.toNat_inj.1
    rw [h]
    simp
    omega
theorem sign_one (c : UInt8) : kb c = 6 ↔ c = 43 ∨ c = 45 ∨ c = 42 ∨ c = 40 ∨ c = 41 ∨ c = 91 ∨ c = 93 ∨ c = 44 ∨ c = 61 ∨ c = 58 := by
  have e43 := u8_eq c 43 (by omega)
  have e45 := u8_eq c 45 (by omega)
  have e42 := u8_eq c 42 (by omega)
  have e40 := u8_eq c 40 (by omega)
  have e41 := u8_eq c 41 (by omega)
  have e91 := u8_eq c 91 (by omega)
  have e93 := u8_eq c 93 (by omega)
  have e44 := u8_eq c 44 (by omega)
  have e61 := u8_eq c 61 (by omega)
  have e58 := u8_eq c 58 (by omega)
  have hc := u8_lt c
  have hk : kb c = 6 ↔ c.toNat = 43 ∨ c.toNat = 45 ∨ c.toNat = 42 ∨ c.toNat = 40 ∨ c.toNat = 41 ∨ c.toNat = 91 ∨ c.toNat = 93 ∨ c.toNat = 44 ∨ c.toNat = 61 ∨ c.toNat = 58 := by
    unfold kb kindI
    repeat' split
    all_goals constructor
    all_goals intro h
    all_goals omega
  rw [hk, ← e43, ← e45, ← e42, ← e40, ← e41, ← e91, ← e93, ← e44, ← e61, ← e58]
  rfl
theorem sign_iff (l : List UInt8) : isSignL l = decide (l = [43] ∨ l = [45] ∨ l = [42] ∨ l = [40] ∨ l = [41] ∨ l = [91] ∨ l = [93] ∨ l = [44] ∨ l = [61] ∨ l = [58]) := by
  unfold isSignL
  rw [decide_eq_decide]
  match l with
  | [] => simp
  | [c] => simp [sign_one]
  | a :: b :: l => simp
set_option maxRecDepth 100000 in
set_option maxHeartbeats 8000000 in
theorem refSign_any (s : ByteArray) (w : World) : Calls Try.prog 32 #[.string s] w fun e w' => e = .returned (.bool (isSignL (bl s))) ∧ w = w' := by
  go_enter Try.func32, Try.ntmps32
  go_wp2
  all_goals
    go_ret
    refine ⟨congrArg (fun b => Ending.returned (.bool b)) ?_, rfl⟩
    rw [sign_iff, show bl s = s.toList from (Lib.toList_data s).symm]
    simp_all
end Go.Proofs.Ytinjkakfnppjpaa
/- The document's token: what lexer.token gives of a text that has bytes. -/
namespace Go.Proofs.Ytinjkakfnppjpaa
open Go.RowKit

/-- no text is a word and a number -/
theorem num_no_word {l : List UInt8} (h : isNumL l = true) : isWordL l = false := by
  unfold isNumL at h
  rw [decide_eq_true_iff] at h
  unfold isWordL
  rw [decide_eq_false_iff_not]
  rintro ⟨_, ⟨c, e1, e2⟩, _⟩
  obtain ⟨d, d1, d2⟩ := h.2.2.2 0 h.1
  rw [e1] at d1
  injection d1 with d1
  subst d1
  omega
set_option maxRecDepth 100000 in
set_option maxHeartbeats 8000000 in
theorem refToken_any (s : ByteArray) (w : World) (hs : s.size ≤ maxLen) (h0 : s.size ≠ 0) : Calls Try.prog 25 #[.string s] w fun e w' => e = .returned (tokRes (tokF s)) ∧ Below w.heap.size w w' := by
  obtain ⟨W, HW⟩ : ∃ W, Hid (isWordL (bl s) = W) := ⟨_, Lib.hid rfl⟩
  obtain ⟨N, HN⟩ : ∃ N, Hid (isNumL (bl s) = N) := ⟨_, Lib.hid rfl⟩
  obtain ⟨S, HS⟩ : ∃ S, Hid (isSignL (bl s) = S) := ⟨_, Lib.hid rfl⟩
  have cW := fun w => refWord_any s w hs
  have cN := fun w => refNumber_any s w hs
  have cS := fun w => refSign_any s w
  rw [HW.out] at cW
  rw [HS.out] at cS
  cases N
  · have cN' := cN
    rw [numRes_no HN.out] at cN'
    clear cN
    cases W
    · cases S
      · have hE : Hid (tokF s = none) := by
          unfold Hid tokF
          rw [if_neg h0, if_neg (by rw [HW.out]; decide), if_neg (by rw [HN.out]; decide), if_neg (by rw [HS.out]; decide)]
        clear HW HN HS
        go_enter Try.func25, Try.ntmps25
        go_wp2_with (first | (go_at_call 31; refine (cW _).mono ?_; rintro e w1 ⟨rfl, rfl⟩) | (go_at_call 30; refine (cN' _).mono ?_; rintro e w1 ⟨rfl, rfl⟩) | (go_at_call 32; refine (cS _).mono ?_; rintro e w1 ⟨rfl, rfl⟩))
        exact bodyPost_ret (v := .tuple #[(⟨0, ⟨#[]⟩, 0⟩ : Tk).val, .bool false]) (by simp [results, Try.results25, go_sem, Tk.val]) rfl ⟨by rw [hE.out]; rfl, (Below.refl _ w).alloc (Nat.le_refl _) _⟩
      · have hE : Hid (tokF s = some ⟨3, s, 0⟩) := by
          unfold Hid tokF
          rw [if_neg h0, if_neg (by rw [HW.out]; decide), if_neg (by rw [HN.out]; decide), if_pos HS.out]
        clear HW HN HS
        go_enter Try.func25, Try.ntmps25
        go_wp2_with (first | (go_at_call 31; refine (cW _).mono ?_; rintro e w1 ⟨rfl, rfl⟩) | (go_at_call 30; refine (cN' _).mono ?_; rintro e w1 ⟨rfl, rfl⟩) | (go_at_call 32; refine (cS _).mono ?_; rintro e w1 ⟨rfl, rfl⟩))
        exact bodyPost_ret (v := .tuple #[(⟨3, s, 0⟩ : Tk).val, .bool true]) (by simp [results, Try.results25, go_sem, Tk.val]) rfl ⟨by rw [hE.out]; rfl, (Below.refl _ w).alloc (Nat.le_refl _) _⟩
    · have hE : Hid (tokF s = some ⟨1, s, 0⟩) := by unfold Hid tokF; rw [if_neg h0, if_pos HW.out]
      clear HW HN HS
      go_enter Try.func25, Try.ntmps25
      go_wp2_with (first | (go_at_call 31; refine (cW _).mono ?_; rintro e w1 ⟨rfl, rfl⟩) | (go_at_call 30; refine (cN' _).mono ?_; rintro e w1 ⟨rfl, rfl⟩))
      exact bodyPost_ret (v := .tuple #[(⟨1, s, 0⟩ : Tk).val, .bool true]) (by simp [results, Try.results25, go_sem, Tk.val]) rfl ⟨by rw [hE.out]; rfl, (Below.refl _ w).alloc (Nat.le_refl _) _⟩
  · have cN' := cN
    rw [numRes_yes HN.out] at cN'
    clear cN
    have hE : Hid (tokF s = some ⟨2, s, numL (bl s)⟩) := by
      unfold Hid tokF
      rw [if_neg h0, if_neg (by rw [num_no_word HN.out]; decide), if_pos HN.out]
    clear HW HN HS
    go_enter Try.func25, Try.ntmps25
    go_wp2_with (first | (go_at_call 30; refine (cN' _).mono ?_; rintro e w1 ⟨rfl, rfl⟩))
    exact bodyPost_ret (v := .tuple #[(⟨2, s, numL (bl s)⟩ : Tk).val, .bool true]) (by simp [results, Try.results25, go_sem, Tk.val]) rfl ⟨by rw [hE.out]; rfl, (Below.refl _ w).alloc (Nat.le_refl _) _⟩
end Go.Proofs.Ytinjkakfnppjpaa
/- The document's Cut: it gives what lexer.Cut does. -/
namespace Go.Proofs.Ytinjkakfnppjpaa
open Go.RowKit

/-- the tokens from a place on, with what is known of ends of lines -/
def cutP (l : List UInt8) (p : Nat × Bool) (L : List Tk) : Except Nat (List Tk) := cutE (l.drop p.1) p.2 L
theorem passAt_in {l : List UInt8} {k : Nat} {c : UInt8} (h : l[k]? = some c) (hc : kb c ≠ 2) (e : Bool) : passAt l k e true = passAt l (k + 1) e true := by
  by_cases h3 : kb c = 3
  · exact passAt_remark h h3 e true
  · exact passAt_on h hc h3 e true (Or.inr rfl)
theorem passAt_out {l : List UInt8} {k : Nat} {c : UInt8} (h : l[k]? = some c) (hc : kb c = 2) (e : Bool) : passAt l k e true = passAt l k e false := by
  rw [passAt_line h hc e true, passAt_line h hc e false]
theorem kb_eq {c : UInt8} {K : Int} (h : kb c = K) : (K = 1 ↔ c.toNat = 32 ∨ c.toNat = 9) ∧ (K = 2 ↔ c.toNat = 10) ∧ (K = 3 ↔ c.toNat = 35) := by
  subst h
  unfold kb kindI
  refine ⟨?_, ?_, ?_⟩
  all_goals
    repeat' split
    all_goals constructor
    all_goals intro h
    all_goals omega
theorem mF_ld {r : List UInt8} {m : Nat} (h1 : 1 ≤ m) (h : ∀ j < m, ∃ d, r[j]? = some d ∧ isLD d = true) (h2 : m = r.length ∨ ∃ d, r[m]? = some d ∧ isLD d = false) : mF r = m := by
  have := along_eq r m h h2
  unfold mF
  omega
theorem mF_no {r : List UInt8} {d : UInt8} (h : r[0]? = some d) (hd : isLD d = false) : mF r = 1 := by
  have := along_eq r 0 (fun j hj => absurd hj (by omega)) (Or.inr ⟨d, h, hd⟩)
  unfold mF
  omega
set_option maxRecDepth 100000 in
set_option maxHeartbeats 8000000 in
theorem refCut_any (s : ByteArray) (w : World) (hs : s.size ≤ maxLen) : Calls Try.prog 11 #[.string s] w (CutP w (cutF (bl s)).1 (cutF (bl s)).2.1 (cutF (bl s)).2.2) := by
  by_cases h6 : 65536 < s.size
  · have hE : cutF (bl s) = ([], 0, 2) := by unfold cutF; rw [bl_len, if_pos h6]
    rw [hE]
    clear hE
    unfold maxLen at hs
    go_enter Try.func11, Try.ntmps11
    go_wp2
    exact bodyPost_ret (v := .tuple #[.slice none 0 0, .int .i64 0, .int .i64 2]) (by simp [results, Try.results11, go_sem]) rfl ⟨none, 0, 0, rfl, rfl, OwnT.nil_ _ _, Below.refl _ _⟩
  · have hsz : s.size ≤ 65536 := by omega
    obtain ⟨R, HR⟩ : ∃ R, Hid (cutG (bl s) = R) := ⟨_, Lib.hid rfl⟩
    have HE : Hid (cutF (bl s) = cutH s.size R) := by
      unfold Hid cutF
      rw [bl_len, if_neg h6, HR.out]
    have HI0 : Hid (cutP (bl s) (passAt (bl s) 0 false false) [] = R) := by
      unfold Hid
      rw [← HR.out]
      unfold cutP cutG passAt
      rw [List.drop_zero, Nat.zero_add]
    clear hs HR h6
    go_enter Try.func11, Try.ntmps11
    go_wp2
    go_loopw [5, 6, 7] (fun o x a wr => ∃ (L : List Tk) (A : Option Addr) (n c k : Nat) (e : Bool), o = .slice A n c ∧ a = .int .i64 k ∧ x = .bool e ∧ k ≤ s.size ∧ Hid (L.length = n) ∧ Hid (OwnT wr w.heap.size A c L) ∧ Hid (Below w.heap.size w wr) ∧ Hid (cutP (bl s) (passAt (bl s) k e false) L = R) ∧ n ≤ 2 * k) (fun _ _ a _ => s.size - (intOf a).toNat)
    case atStart => exact ⟨[], none, 0, 0, 0, false, rfl, rfl, rfl, Nat.zero_le _, rfl, OwnT.nil_ _ _, Below.refl _ _, HI0, by omega⟩
    case round =>
      obtain ⟨L, A, n, c, k, e, rfl, rfl, rfl, hk, HL, HO, HB, HC, hn⟩ := hrel
      have hsz0 := HB.out.size
      by_cases hlt : k < s.size
      · have HG : Hid ((bl s)[k]? = some s[k]) := bl_get s k hlt
        obtain ⟨K, HK⟩ : ∃ K, Hid (kb s[k] = K) := ⟨_, Lib.hid rfl⟩
        obtain ⟨q1, q2, q3⟩ := kb_eq HK.out
        by_cases k2 : K = 2
        · have c10 := q2.1 k2
          have HN : Hid (cutP (bl s) (passAt (bl s) (k + 1) true false) L = R) := by
            unfold Hid
            rw [← HC.out, passAt_line HG.out (HK.out.trans k2) e false]
          have b1 : ((s[k].toNat : Int) == 32) = false := by rw [beq_eq_false_iff_ne]; omega
          have b2 : ((s[k].toNat : Int) == 9) = false := by rw [beq_eq_false_iff_ne]; omega
          have b3 : ((s[k].toNat : Int) == 10) = true := by rw [beq_iff_eq]; omega
          clear q1 q2 q3 k2 c10 HC HE HI0
          go_wp2
          all_goals exact ⟨⟨L, A, n, c, k + 1, true, rfl, by go_num, by first | rfl | (cases e <;> rfl) | simp_all, by omega, HL, HO, HB, HN, by omega⟩, by simp [intOf]; omega⟩
        · by_cases k1 : K = 1
          · have c1 := q1.1 k1
            have HN : Hid (cutP (bl s) (passAt (bl s) (k + 1) e false) L = R) := by
              unfold Hid
              rw [← HC.out, passAt_on HG.out (by rw [HK.out]; exact k2) (by rw [HK.out, k1]; decide) e false (Or.inl (HK.out.trans k1))]
            have b0 : (((s[k].toNat : Int) == 32) || ((s[k].toNat : Int) == 9)) = true := by rw [Bool.or_eq_true, beq_iff_eq, beq_iff_eq]; omega
            have b3 : ((s[k].toNat : Int) == 10) = false := by rw [beq_eq_false_iff_ne]; omega
            have hb12 : ((s[k].toNat : Int) == 32) = true ∨ (((s[k].toNat : Int) == 32) = false ∧ ((s[k].toNat : Int) == 9) = true) := by
              rw [beq_iff_eq, beq_eq_false_iff_ne, beq_iff_eq]
              omega
            clear q1 q2 q3 k2 k1 c1 HC HE HI0 b0
            rcases hb12 with b1 | ⟨b1, b2⟩
            all_goals
              go_wp2
              all_goals exact ⟨⟨L, A, n, c, k + 1, e, rfl, by go_num, by first | rfl | (cases e <;> rfl) | simp_all, by omega, HL, HO, HB, HN, by omega⟩, by simp [intOf]; omega⟩
          · have b1 : ((s[k].toNat : Int) == 32) = false := by rw [beq_eq_false_iff_ne]; omega
            have b2 : ((s[k].toNat : Int) == 9) = false := by rw [beq_eq_false_iff_ne]; omega
            have b3 : ((s[k].toNat : Int) == 10) = false := by rw [beq_eq_false_iff_ne]; omega
            by_cases k3 : K = 3
            · have b4 : ((s[k].toNat : Int) == 35) = true := by rw [beq_iff_eq]; omega
              clear q1 q2 q3 HE HI0
              go_wp2
              go_loop [7] (fun a => ∃ i : Nat, k ≤ i ∧ i ≤ s.size ∧ a = .int .i64 i ∧ Hid (k < i → passAt (bl s) k e false = passAt (bl s) i e true)) (fun a => s.size - (intOf a).toNat)
              case atStart => exact ⟨k, Nat.le_refl _, hk, rfl, fun h => absurd h (Nat.lt_irrefl _)⟩
              case round =>
                obtain ⟨i, hki, his, rfl, HA⟩ := hrel
                by_cases hli : i < s.size
                · have HGi : Hid ((bl s)[i]? = some s[i]) := bl_get s i hli
                  obtain ⟨Ki, HKi⟩ : ∃ K, Hid (kb s[i] = K) := ⟨_, Lib.hid rfl⟩
                  have q2 := (kb_eq HKi.out).2.1
                  by_cases k10 : Ki = 2
                  · have b5 : ((s[i].toNat : Int) != 10) = false := by have := q2.1 k10; simp; omega
                    have hne : k < i := by
                      rcases Nat.lt_or_ge k i with h | h
                      · exact h
                      · obtain rfl : k = i := by omega
                        have := q2.1 k10
                        rw [beq_iff_eq] at b4
                        omega
                    have HN : Hid (cutP (bl s) (passAt (bl s) i e false) L = R) := by
                      unfold Hid
                      rw [← HC.out, HA.out hne, passAt_out HGi.out (HKi.out.trans k10)]
                    clear q2 k10 HC
                    go_wp2
                    exact ⟨⟨L, A, n, c, i, e, rfl, rfl, rfl, by omega, HL, HO, HB, HN, by omega⟩, by simp [intOf]; omega⟩
                  · have b5 : ((s[i].toNat : Int) != 10) = true := by
                      have : ¬ s[i].toNat = 10 := fun h => k10 (q2.2 h)
                      simp
                      omega
                    have HN : Hid (k < i + 1 → passAt (bl s) k e false = passAt (bl s) (i + 1) e true) := by
                      intro _
                      by_cases hik : k < i
                      · rw [HA.out hik, passAt_in HGi.out (by rw [HKi.out]; exact k10)]
                      · obtain rfl : k = i := by omega
                        rw [passAt_remark HG.out (HK.out.trans k3)]
                    clear q2 k10
                    go_wp2
                    exact ⟨⟨i + 1, by omega, by omega, by go_num, HN⟩, by simp [intOf]; omega⟩
                · obtain rfl : s.size = i := by omega
                  have HN : Hid (cutP (bl s) (passAt (bl s) s.size e false) L = R) := by
                    unfold Hid
                    rw [← HC.out, HA.out hlt, ← bl_len s, passAt_end, passAt_end]
                  clear HC
                  go_wp2
                  exact ⟨⟨L, A, n, c, s.size, e, rfl, rfl, rfl, by omega, HL, HO, HB, HN, by omega⟩, by simp [intOf]; omega⟩
            · have b4 : ((s[k].toNat : Int) == 35) = false := by rw [beq_eq_false_iff_ne]; omega
              have HC1 : Hid (cutE ((bl s).drop k) e L = R) := by
                have h := HC.out
                rw [passAt_stop HG.out (by rw [HK.out]; exact k2) (by rw [HK.out]; exact k3) (by rw [HK.out]; exact k1)] at h
                exact h
              obtain ⟨x1, hx1⟩ : ∃ x, decide (kindI (s[k].toNat : Int) = 4) = x := ⟨_, rfl⟩
              obtain ⟨x2, hx2⟩ : ∃ x, decide (kindI (s[k].toNat : Int) = 5) = x := ⟨_, rfl⟩
              have cL := fun w => refLetter_any s[k].toNat (u8_lt _) w
              have cD := fun w => refDigit_any s[k].toNat (u8_lt _) w
              rw [hx1] at cL
              rw [hx2] at cD
              have HX : Hid (isLD s[k] = (x1 || x2)) := by
                unfold Hid isLD kb
                rw [← hx1, ← hx2]
                by_cases u : kindI (s[k].toNat : Int) = 4 <;> by_cases v : kindI (s[k].toNat : Int) = 5 <;> simp [u, v]
              have Hd0 : Hid (((bl s).drop k)[0]? = some s[k]) := by unfold Hid; rw [List.getElem?_drop, Nat.add_zero]; exact HG.out
              clear q1 q2 q3 k1 k2 k3 HC HI0 hx1 hx2
              go_upto_block 4 with fail
              go_cut [9] (fun s9 wx => wr = wx ∧ ∃ m : Nat, 1 ≤ m ∧ k + m ≤ s.size ∧ s9 = .int .i64 m ∧ Hid (mF ((bl s).drop k) = m))
              case first =>
                go_wp2_with fail
                go_loopg [9] (s.size - 1) (fun g a wx => wr = wx ∧ ∃ m : Nat, 1 ≤ m ∧ k + m ≤ s.size ∧ g = s.size - m ∧ a = .int .i64 m ∧ Hid ((x1 || x2) = true → ∀ j < m, ∃ d, ((bl s).drop k)[j]? = some d ∧ isLD d = true) ∧ Hid ((x1 || x2) = false → m = 1))
                case atStart =>
                  refine ⟨rfl, 1, Nat.le_refl _, by omega, rfl, rfl, fun hx j hj => ?_, fun _ => rfl⟩
                  obtain rfl : j = 0 := by omega
                  exact ⟨_, Hd0.out, by rw [HX.out]; exact hx⟩
                case round =>
                  obtain ⟨rfl, m, hm1, hm2, rfl, rfl, HA, HA1⟩ := hrel
                  by_cases hx : (x1 || x2) = true
                  · by_cases hl2 : k + m < s.size
                    · have HGm : Hid (((bl s).drop k)[m]? = some s[k + m]) := by unfold Hid; rw [List.getElem?_drop]; exact bl_get s (k + m) hl2
                      obtain ⟨y1, hy1⟩ : ∃ x, decide (kindI (s[k + m].toNat : Int) = 4) = x := ⟨_, rfl⟩
                      obtain ⟨y2, hy2⟩ : ∃ x, decide (kindI (s[k + m].toNat : Int) = 5) = x := ⟨_, rfl⟩
                      have cL2 := fun w => refLetter_any s[k + m].toNat (u8_lt _) w
                      have cD2 := fun w => refDigit_any s[k + m].toNat (u8_lt _) w
                      rw [hy1] at cL2
                      rw [hy2] at cD2
                      have HY : Hid (isLD s[k + m] = (y1 || y2)) := by
                        unfold Hid isLD kb
                        rw [← hy1, ← hy2]
                        by_cases u : kindI (s[k + m].toNat : Int) = 4 <;> by_cases v : kindI (s[k + m].toNat : Int) = 5 <;> simp [u, v]
                      clear hy1 hy2
                      by_cases hy : (y1 || y2) = true
                      · have HN : Hid (∀ j < m + 1, ∃ d, ((bl s).drop k)[j]? = some d ∧ isLD d = true) := fun j hj => by
                          by_cases ej : j = m
                          · subst ej; exact ⟨_, HGm.out, by rw [HY.out]; exact hy⟩
                          · exact HA.out hx j (by omega)
                        have HX1 := Lib.hid hx
                        have HF : Hid (∀ j, (x1 || x2) = false → j = 1) := fun j h => by rw [HX1.out] at h; cases h
                        clear HA HA1 HX HY HGm
                        cases x1 <;> cases x2 <;> cases y1 <;> cases y2 <;> first | (exact absurd hx (by decide)) | (exact absurd hy (by decide)) | skip
                        all_goals
                          clear hx hy
                          go_wp2_with (first | (go_at_call 23; (with_reducible refine (cL _).mono ?_); rintro e w1 ⟨rfl, rfl⟩) | (go_at_call 24; (with_reducible refine (cD _).mono ?_); rintro e w1 ⟨rfl, rfl⟩) | (go_at_call 23; (with_reducible refine (cL2 _).mono ?_); rintro e w1 ⟨rfl, rfl⟩) | (go_at_call 24; (with_reducible refine (cD2 _).mono ?_); rintro e w1 ⟨rfl, rfl⟩))
                          go_roundg (s.size - (m + 1))
                          case measure => omega
                          case rel => exact ⟨rfl, m + 1, by omega, by omega, rfl, by go_num, fun _ => HN.out, HF.out _⟩
                      · have HM : Hid (mF ((bl s).drop k) = m) := mF_ld hm1 (HA.out hx) (Or.inr ⟨_, HGm.out, by rw [HY.out]; simpa using hy⟩)
                        clear HA HA1 HX HY HGm Hd0
                        cases x1 <;> cases x2 <;> cases y1 <;> cases y2 <;> first | (exact absurd hx (by decide)) | (exact absurd rfl hy) | skip
                        all_goals
                          clear hx hy
                          go_wp2_with (first | (go_at_call 23; (with_reducible refine (cL _).mono ?_); rintro e w1 ⟨rfl, rfl⟩) | (go_at_call 24; (with_reducible refine (cD _).mono ?_); rintro e w1 ⟨rfl, rfl⟩) | (go_at_call 23; (with_reducible refine (cL2 _).mono ?_); rintro e w1 ⟨rfl, rfl⟩) | (go_at_call 24; (with_reducible refine (cD2 _).mono ?_); rintro e w1 ⟨rfl, rfl⟩))
                          go_meet
                          exact ⟨rfl, m, hm1, hm2, rfl, HM⟩
                    · have HM : Hid (mF ((bl s).drop k) = m) := mF_ld hm1 (HA.out hx) (Or.inl (by rw [List.length_drop, bl_len]; omega))
                      clear HA HA1 HX Hd0
                      cases x1 <;> cases x2 <;> first | (exact absurd hx (by decide)) | skip
                      all_goals
                        clear hx
                        go_wp2_with (first | (go_at_call 23; (with_reducible refine (cL _).mono ?_); rintro e w1 ⟨rfl, rfl⟩) | (go_at_call 24; (with_reducible refine (cD _).mono ?_); rintro e w1 ⟨rfl, rfl⟩))
                        go_meet
                        exact ⟨rfl, m, hm1, hm2, rfl, HM⟩
                  · have HM : Hid (mF ((bl s).drop k) = m) := by
                      unfold Hid
                      rw [HA1.out (by simpa using hx)]
                      exact mF_no Hd0.out (by rw [HX.out]; simpa using hx)
                    clear HA HA1 HX Hd0
                    cases x1 <;> cases x2 <;> first | (exact absurd rfl hx) | skip
                    all_goals
                      clear hx
                      go_wp2_with (first | (go_at_call 23; (with_reducible refine (cL _).mono ?_); rintro e w1 ⟨rfl, rfl⟩) | (go_at_call 24; (with_reducible refine (cD _).mono ?_); rintro e w1 ⟨rfl, rfl⟩))
                      go_meet
                      exact ⟨rfl, m, hm1, hm2, rfl, HM⟩
              case rest =>
                obtain ⟨rfl, m, hm1, hm2, rfl, HM⟩ := hcut
                have hr : (bl s).drop k ≠ [] := by
                  intro h
                  have := congrArg List.length h
                  rw [List.length_drop, bl_len] at this
                  simp at this
                  omega
                obtain ⟨v, hv⟩ : ∃ v, ofL (((bl s).drop k).take m) = v := ⟨_, rfl⟩
                have hvs : v.size = m := by rw [← hv, ofL_size, List.length_take, List.length_drop, bl_len]; omega
                have ex : s.extract k (k + m) = v := by rw [extract_ofL, ← hv, show k + m - k = m by omega]
                have cT := fun W => refToken_any v W (by unfold maxLen; omega) (by omega)
                have hm := HM.out
                have hvs1 : v.size ≠ 0 := by omega
                have hn1 : n + 1 ≤ 1000000 := by omega
                cases ht : tokF v with
                | none =>
                  rw [ht, ← ex] at cT
                  change ∀ W, Calls Try.prog 25 #[.string (s.extract k (k + m))] W fun e w' => e = .returned (.tuple #[.agg #[.int .i64 0, .string ⟨#[]⟩, .int .i64 0], .bool false]) ∧ Below W.heap.size W w' at cT
                  have HQ : Hid (cutF (bl s) = ([], (k : Int), 6)) := by
                    have h := HC1.out
                    rw [cutE_bad hr (by rw [hm, hv]; exact ht), List.length_drop, bl_len] at h
                    unfold Hid
                    rw [HE.out, ← h]
                    show (([], ((s.size - (s.size - k) : Nat) : Int), 6) : List Tk × Int × Int) = _
                    rw [show s.size - (s.size - k) = k by omega]
                  clear ht hv hvs ex hm hr HC1 HE HX Hd0 cL cD
                  go_wp2_with (go_at_call 25; (with_reducible refine (cT _).mono ?_); rintro e w2 ⟨rfl, hb2⟩)
                  rw [HQ.out]
                  exact bodyPost_ret (v := .tuple #[.slice none 0 0, .int .i64 k, .int .i64 6]) (by simp [results, Try.results11, go_sem]) rfl ⟨none, 0, 0, rfl, rfl, OwnT.nil_ _ _, (HB.out.trans (hb2.mono hsz0)).alloc (Nat.le_trans hsz0 hb2.size) _⟩
                | some t =>
                  obtain ⟨a, v', nn⟩ := t
                  have hvv := tokF_text hvs1 ht
                  simp only at hvv
                  subst hvv
                  have HHT := Lib.hid ht
                  have hHC : ∀ L', withLine e L ⟨a, v', nn⟩ = L' → Hid (cutP (bl s) (passAt (bl s) (k + m) false false) L' = R) := by
                    intro L' e'
                    have h := HC1.out
                    rw [cutE_on hr (by rw [hm, hv]; exact ht), hm, e'] at h
                    unfold Hid cutP passAt
                    simp only [List.drop_drop] at h ⊢
                    exact h
                  rw [ht] at cT
                  have cT2 : ∀ W, Calls Try.prog 25 #[.string (s.extract k (k + m))] W fun e w' => e = .returned (.tuple #[.agg #[.int .i64 a, .string v', .int .i64 nn], .bool true]) ∧ Below W.heap.size W w' := fun W => by rw [ex]; exact cT W
                  clear cT
                  have hl1 : n + 1 ≤ 1000000 := by omega
                  clear ht hv hvs ex hm hr HC1 HE HX Hd0 cL cD hvs1
                  cases e with
                  | false =>
                    have HCN := hHC (L ++ [⟨a, v', nn⟩]) (by unfold withLine; rw [if_neg (by simp)])
                    clear hHC
                    go_wp2_with (first | (go_at_call 25; (with_reducible refine (cT2 _).mono ?_); rintro e w2 ⟨rfl, hb2⟩; have HO2 := Lib.hid ((HO.out.below hb2 (Nat.le_refl _)).alloc (.cells #[.int .i64 a, .string v', .int .i64 nn] 35)); have HB2 := Lib.hid ((HB.out.trans (hb2.mono hsz0)).alloc (Nat.le_trans hsz0 hb2.size) (.cells #[.int .i64 a, .string v', .int .i64 nn] 35)); have hsz2 := hb2.size; have HA2 := Lib.hid (ltK HO.out hb2.size); have HX2 := Lib.hid (box_new w2 ⟨a, v', nn⟩)) | (at_builtin; refine wpList_appendTok rfl (.tmp 108) (.tmp 110) rfl w.heap.size A c n (n + 1) (w2.heap.size + 1) ⟨a, v', nn⟩ L (Array.size_push _) rfl rfl HO2.out HL.out rfl hl1 HB2.out.size ?_; intro A4 c4 w4 HO4 HG4; have HX4 := Lib.hid (boxK (t := ⟨a, v', nn⟩) HX2.out HG4 HO2.out (fun e => absurd (HA2.out _ e) (Nat.lt_irrefl _))); obtain ⟨_, hx4, _⟩ := boxCells (t := ⟨a, v', nn⟩) HX4.out; have hsz4 := HG4.size))
                    go_roundw
                    case rel =>
                      exact ⟨L ++ [⟨a, v', nn⟩], A4, n + 1, c4, k + m, false, rfl, congrArg (Value.int .i64) (by omega), rfl, by omega, Lib.hid (by rw [List.length_append, HL.out]; rfl), Lib.hid HO4, Lib.hid (below_appT HB2.out HG4 HO2.out HB2.out.size), HCN, by omega⟩
                    case measure => simp [intOf]; omega
                  | true =>
                    by_cases hn0 : n = 0
                    · subst hn0
                      have HCN := hHC (L ++ [⟨a, v', nn⟩]) (by unfold withLine; rw [if_neg (fun h => h.2 (List.eq_nil_of_length_eq_zero HL.out))])
                      clear hHC
                      go_wp2_with (first | (go_at_call 25; (with_reducible refine (cT2 _).mono ?_); rintro e w2 ⟨rfl, hb2⟩; have HO2 := Lib.hid ((HO.out.below hb2 (Nat.le_refl _)).alloc (.cells #[.int .i64 a, .string v', .int .i64 nn] 35)); have HB2 := Lib.hid ((HB.out.trans (hb2.mono hsz0)).alloc (Nat.le_trans hsz0 hb2.size) (.cells #[.int .i64 a, .string v', .int .i64 nn] 35)); have hsz2 := hb2.size; have HA2 := Lib.hid (ltK HO.out hb2.size); have HX2 := Lib.hid (box_new w2 ⟨a, v', nn⟩)) | (at_builtin; refine wpList_appendTok rfl (.tmp 108) (.tmp 110) rfl w.heap.size A c 0 (0 + 1) (w2.heap.size + 1) ⟨a, v', nn⟩ L (Array.size_push _) rfl rfl HO2.out HL.out rfl hl1 HB2.out.size ?_; intro A4 c4 w4 HO4 HG4; have HX4 := Lib.hid (boxK (t := ⟨a, v', nn⟩) HX2.out HG4 HO2.out (fun e => absurd (HA2.out _ e) (Nat.lt_irrefl _))); obtain ⟨_, hx4, _⟩ := boxCells (t := ⟨a, v', nn⟩) HX4.out; have hsz4 := HG4.size))
                      go_roundw
                      case rel =>
                        exact ⟨L ++ [⟨a, v', nn⟩], A4, 0 + 1, c4, k + m, false, rfl, congrArg (Value.int .i64) (by omega), rfl, by omega, Lib.hid (by rw [List.length_append, HL.out]; rfl), Lib.hid HO4, Lib.hid (below_appT HB2.out HG4 HO2.out HB2.out.size), HCN, by omega⟩
                      case measure => simp [intOf]; omega
                    · have HCN := hHC (L ++ [lineTk] ++ [⟨a, v', nn⟩]) (by unfold withLine; rw [if_pos ⟨rfl, fun h => hn0 (by rw [← HL.out, h]; rfl)⟩])
                      have hnp : 0 < n := by omega
                      have hl2 : n + 1 + 1 ≤ 1000000 := by omega
                      clear hHC hn0
                      go_wp2_with (first | (go_at_call 25; (with_reducible refine (cT2 _).mono ?_); rintro e w2 ⟨rfl, hb2⟩; have HO2 := Lib.hid ((HO.out.below hb2 (Nat.le_refl _)).alloc (.cells #[.int .i64 a, .string v', .int .i64 nn] 35)); have HB2 := Lib.hid ((HB.out.trans (hb2.mono hsz0)).alloc (Nat.le_trans hsz0 hb2.size) (.cells #[.int .i64 a, .string v', .int .i64 nn] 35)); have hsz2 := hb2.size; have HA2 := Lib.hid (ltK HO.out hb2.size); have HX2 := Lib.hid (box_new w2 ⟨a, v', nn⟩)) | (at_builtin; refine wpList_appendTok rfl (.tmp 104) (.tmp 106) rfl w.heap.size A c n (n + 1) (w2.heap.size + 1) lineTk L (Array.size_push _) rfl rfl HO2.out HL.out rfl hl1 HB2.out.size ?_; intro A4 c4 w4 HO4 HG4; have HX4 := Lib.hid (boxK (t := ⟨a, v', nn⟩) HX2.out HG4 HO2.out (fun e => absurd (HA2.out _ e) (Nat.lt_irrefl _))); obtain ⟨hx0, hx1, hx2⟩ := boxCells (t := ⟨a, v', nn⟩) HX4.out; have hsz4 := HG4.size; have HL4 : Hid ((L ++ [lineTk]).length = n + 1) := Lib.hid (by rw [List.length_append, HL.out]; rfl); have hB4 : w.heap.size ≤ w4.heap.size := Nat.le_trans HB2.out.size HG4.size) | (at_builtin; refine wpList_appendTok rfl (.tmp 108) (.tmp 110) rfl w.heap.size A4 c4 (n + 1) (n + 1 + 1) w4.heap.size ⟨a, v', nn⟩ (L ++ [lineTk]) rfl rfl rfl HO4 HL4.out rfl hl2 hB4 ?_; intro A5 c5 w5 HO5 HG5; have HX5 := Lib.hid (boxK (t := ⟨a, v', nn⟩) HX4.out HG5 HO4 (notBox (t := ⟨a, v', nn⟩) HX4.out HO4 (by rw [HL4.out]; omega))); obtain ⟨_, hx5, _⟩ := boxCells (t := ⟨a, v', nn⟩) HX5.out))
                      go_roundw
                      case rel =>
                        exact ⟨L ++ [lineTk] ++ [⟨a, v', nn⟩], A5, n + 1 + 1, c5, k + m, false, rfl, congrArg (Value.int .i64) (by omega), rfl, by omega, Lib.hid (by rw [List.length_append, HL4.out]; rfl), Lib.hid HO5, Lib.hid (below_appT (below_appT HB2.out HG4 HO2.out HB2.out.size) HG5 HO4 hB4), HCN, by omega⟩
                      case measure => simp [intOf]; omega
      · obtain rfl : s.size = k := by omega
        have hR : R = .ok L := by
          rw [← HC.out, ← bl_len s, passAt_end]
          unfold cutP
          rw [List.drop_of_length_le (Nat.le_refl _), cutE_nil]
        subst hR
        clear hlt HC HI0
        by_cases h4 : 4096 < n
        · have HQ : Hid (cutF (bl s) = ([], 0, 2)) := by
            unfold Hid
            rw [HE.out]
            unfold cutH
            simp only
            rw [if_pos (by rw [HL.out]; exact h4)]
          go_wp2
          rw [HQ.out]
          exact bodyPost_ret (v := .tuple #[.slice none 0 0, .int .i64 0, .int .i64 2]) (by simp [results, Try.results11, go_sem]) rfl ⟨none, 0, 0, rfl, rfl, OwnT.nil_ _ _, HB.out⟩
        · have HQ : Hid (cutF (bl s) = (L, (s.size : Int), 0)) := by
            unfold Hid
            rw [HE.out]
            unfold cutH
            simp only
            rw [if_neg (by rw [HL.out]; exact h4)]
          go_wp2
          rw [HQ.out]
          exact bodyPost_ret (v := .tuple #[.slice A n c, .int .i64 s.size, .int .i64 0]) (by simp [results, Try.results11, go_sem]) rfl ⟨A, n, c, rfl, HL.out, HO.out, HB.out⟩
end Go.Proofs.Ytinjkakfnppjpaa
/- append of a whole list of tokens. -/
namespace Go.Proofs.Ytinjkakfnppjpaa
open Go.RowKit

theorem Toks.cells {w : World} {B n : Nat} {ad : Addr} {es : List Tk} (h : Toks w B (some ad) n es) : ∀ (j : Nat) (u : Value), (cellsT es)[j]? = some u → w.cell? (ad.add j) = some u := by
  intro j u hu
  have hj := (List.getElem?_eq_some_iff.1 hu).1
  rw [cellsT_length] at hj
  obtain ⟨hl, _, hc⟩ := h
  obtain ⟨b, off, e, _, hx⟩ := hc (by omega)
  injection e with e
  subst e
  have hk : j / 3 < es.length := by omega
  have hx' := hx (j / 3) _ (List.getElem?_eq_getElem hk)
  have hce := cellsT_at (List.getElem?_eq_getElem hk)
  have hadd : (Addr.add ⟨b, off, none⟩ j : Addr) = ⟨b, off + j, none⟩ := by
    by_cases h0 : j = 0
    · subst h0; simp [Addr.add]
    · simp [Addr.add, h0]
  rw [hadd]
  generalize es[j / 3] = y at hx' hce
  generalize hq : j / 3 = q at hx' hce
  rcases (by omega : j = 3 * q ∨ j = 3 * q + 1 ∨ j = 3 * q + 2) with rfl | rfl | rfl
  · rw [← hu, hce.1, ← hx'.1, Nat.mul_comm]
  · rw [← hu, hce.2.1, ← hx'.2.1, Nat.mul_comm, Nat.add_assoc]
  · rw [← hu, hce.2.2, ← hx'.2.2, Nat.mul_comm, Nat.add_assoc]
theorem Toks.on {w w' : World} {B B2 n : Nat} {A : Option Addr} {ss : List Tk} (h : Toks w B A n ss) (hb : Below B2 w w') (hB : B ≤ B2) : Toks w' B A n ss := h.keep fun _ hp => hb.cell (Nat.lt_of_lt_of_le hp hB)
theorem Toks.alloc {w : World} {B n : Nat} {A : Option Addr} {ss : List Tk} (h : Toks w B A n ss) (hB : B ≤ w.heap.size) (o : Obj) : Toks (w.alloc o) B A n ss := h.keep fun p hp => World.cell?_alloc_lt w o p (by omega)
theorem size_allocT (w : World) (o : Obj) : w.heap.size ≤ (w.alloc o).heap.size := by
  show _ ≤ (w.heap.push o).size
  rw [Array.size_push]
  omega
theorem Toks.grown {w w' : World} {B n : Nat} {A : Option Addr} {ss : List Tk} (h : Toks w B A n ss) {row : Option Nat} (hg : w.grownBy w' row) (hB : B ≤ w.heap.size) (hr : ∀ g, row = some g → B ≤ g) : Toks w' B A n ss :=
  h.keep fun p hp => World.cell?_of_block (hg.block p.block (by omega) (fun e => by have := hr _ e.symm; omega))
theorem OwnT.row {w : World} {base c p : Nat} {A : Option Addr} {ss : List Tk} (h : OwnT w base A c ss) : ∀ g, (Value.slice A p c).ownBlock = some g → base ≤ g := by
  intro g e
  rcases h.heap with h1 | ⟨g', cur, h1, h2, _⟩
  · rw [h1] at e; cases e
  · rw [h1] at e
    simp only [Value.ownBlock, Option.some.injEq] at e
    omega
theorem cellsT_one (ss : List Tk) : ∀ u ∈ cellsT ss, u.oneCell' = true := by
  induction ss with
  | nil => simp [cellsT]
  | cons x ss ih =>
    intro u hu
    simp only [cellsT, List.mem_cons] at hu
    rcases hu with rfl | rfl | rfl | hu
    · simp [Value.oneCell']
    · simp [Value.oneCell']
    · simp [Value.oneCell']
    · exact ih u hu
theorem run_appendNilT (w : World) (base : Nat) (ty : TypeId) (v : Value) (n : Nat) (xs : List Value) (hown : w.ownsRow base 35 3 v n xs) (c : Nat) :
    (Builtin.append_ #[23, 23] ty #[v, .slice none 0 c]).run Try.prog w = .ok v w := by
  obtain ⟨i, hi, hz, h1, h2⟩ := info_parts infoTok
  have ht := Try.underlying23
  rcases hown.2 with ⟨rfl, rfl⟩ | ⟨g, cap, cur, rfl, _, _, hnc, _⟩ <;> simp [Builtin.append_, run_underlying ht, sizeOf, typeInfo, Builtin.lenOf, Builtin.firstCells, *, storeCells]
theorem run_appendToks (w : World) (base : Nat) (ty : TypeId) (A A2 : Option Addr) (c m c2 B : Nat) (xs ys : List Tk) (ho : OwnT w base A c xs) (hs : Toks w B A2 m ys) (hl : xs.length + m ≤ 1000000) (hb : base ≤ w.heap.size) :
    ∃ A' c' w', (Builtin.append_ #[23, 23] ty #[.slice A xs.length c, .slice A2 m c2]).run Try.prog w = .ok (.slice A' (xs.length + m) c') w' ∧ OwnT w' base A' c' (xs ++ ys) ∧ w.grownBy w' (Value.slice A xs.length c).ownBlock := by
  obtain ⟨i, hi, hz, h1, h2⟩ := info_parts infoTok
  have hlen := hs.1
  rcases Option.eq_none_or_eq_some A2 with rfl | ⟨ad, rfl⟩
  · obtain rfl : m = 0 := by
      rcases Nat.eq_zero_or_pos m with h0 | h0
      · exact h0
      · obtain ⟨b, off, e', _⟩ := hs.2.2 h0; cases e'
    obtain rfl : ys = [] := List.eq_nil_of_length_eq_zero hlen
    have hrun := run_appendNilT w base ty (.slice A xs.length c) xs.length (cellsT xs) ho c2
    exact ⟨A, c, w, by simpa using hrun, by simpa using ho, World.grownBy.refl w _⟩
  · obtain ⟨v', w', hr, h3, h4, _⟩ := run_append_own (P := Try.prog) w base 23 ty 35 i (.agg #[.int .i64 0, .string ⟨#[]⟩, .int .i64 0]) 3 32 Try.underlying23 hi hz h1 h2 rfl (by decide) (.slice A xs.length c) xs.length (cellsT xs) ho ad m c2 (cellsT ys) (by rw [cellsT_length, hlen]; omega) hs.cells (cellsT_one ys) (by unfold maxLen; omega) (by omega) hb
    obtain ⟨A', c', rfl⟩ : ∃ A' c', v' = .slice A' (xs.length + m) c' := by
      rcases h3.2 with ⟨rfl, h0⟩ | ⟨g, cap, cur, rfl, _⟩
      · rw [h0]; exact ⟨_, _, rfl⟩
      · exact ⟨_, _, rfl⟩
    refine ⟨A', c', w', hr, ?_, h4⟩
    unfold OwnT
    rw [List.length_append, hlen, cellsT_append]
    exact h3
theorem wp_appendToks {o : Oper} {a : Act} {w : World} {K : Act → World → Prop} {Q : Exit → Act → World → Prop}
    (s x : Operand) (hop : o.op = Op.call { callee := Callee.builtin Builtin.append, args := #[s, x], argTypes := #[23, 23] })
    (base : Nat) (A A2 : Option Addr) (c m c2 B p r : Nat) (xs ys : List Tk) (hs : a.eval s = .slice A p c) (hx : a.eval x = .slice A2 m c2) (ho : OwnT w base A c xs) (hp : xs.length = p) (hr : p + m = r) (hi2 : Toks w B A2 m ys) (hl : r ≤ 1000000) (hb : base ≤ w.heap.size)
    (hK : ∀ A' c' w', OwnT w' base A' c' (xs ++ ys) → w.grownBy w' (Value.slice A p c).ownBlock → K (a.put o.dst (.slice A' r c')) w') :
    Oper.wp Try.prog o a w K Q := by
  subst hp
  subst hr
  obtain ⟨A', c', w', hrun, ho', hb'⟩ := run_appendToks w base o.type A A2 c m c2 B xs ys ho hi2 hl hb
  unfold Oper.wp
  simp [execOp, hop, resolve, invoke, builtin, hs, hx, hrun, Result.andThen]
  exact hK _ _ _ ho' hb'
theorem wpList_appendToks {ops : Array Oper} {rest : List Oper} {o : Oper} {a : Act} {w : World} {Q : Exit → Act → World → Prop}
    (hg : o.guard = none) (s x : Operand) (hop : o.op = Op.call { callee := Callee.builtin Builtin.append, args := #[s, x], argTypes := #[23, 23] })
    (base : Nat) (A A2 : Option Addr) (c m c2 B p r : Nat) (xs ys : List Tk) (hs : a.eval s = .slice A p c) (hx : a.eval x = .slice A2 m c2) (ho : OwnT w base A c xs) (hp : xs.length = p) (hr : p + m = r) (hi2 : Toks w B A2 m ys) (hl : r ≤ 1000000) (hb : base ≤ w.heap.size)
    (hK : ∀ A' c' w', OwnT w' base A' c' (xs ++ ys) → w.grownBy w' (Value.slice A p c).ownBlock → wpList Try.prog ops Q rest (a.put o.dst (.slice A' r c')) w') :
    wpList Try.prog ops Q (o :: rest) a w :=
  wpList_plain hg fun _ hK' => wp_appendToks s x hop base A A2 c m c2 B p r xs ys hs hx ho hp hr hi2 hl hb fun A' c' w' h1 h2 => hK' _ _ (hK A' c' w' h1 h2)
theorem wpList_appendToksG {ops : Array Oper} {rest : List Oper} {o : Oper} {a : Act} {w : World} {Q : Exit → Act → World → Prop}
    (s x : Operand) (hop : o.op = Op.call { callee := Callee.builtin Builtin.append, args := #[s, x], argTypes := #[23, 23] }) (hw : Region.wanted o (yielded ops a.tmps) = true)
    (base : Nat) (A A2 : Option Addr) (c m c2 B p r : Nat) (xs ys : List Tk) (hs : a.eval s = .slice A p c) (hx : a.eval x = .slice A2 m c2) (ho : OwnT w base A c xs) (hp : xs.length = p) (hr : p + m = r) (hi2 : Toks w B A2 m ys) (hl : r ≤ 1000000) (hb : base ≤ w.heap.size)
    (hK : ∀ A' c' w', OwnT w' base A' c' (xs ++ ys) → w.grownBy w' (Value.slice A p c).ownBlock → wpList Try.prog ops Q rest (a.put o.dst (.slice A' r c')) w') :
    wpList Try.prog ops Q (o :: rest) a w :=
  BigFrame.wpList_want hw fun _ hK' => wp_appendToks s x hop base A A2 c m c2 B p r xs ys hs hx ho hp hr hi2 hl hb fun A' c' w' h1 h2 => hK' _ _ (hK A' c' w' h1 h2)
end Go.Proofs.Ytinjkakfnppjpaa
/- How the arguments of the statements read: slices of integers, dense tensors, integers. -/
namespace Go.Proofs.Ytinjkakfnppjpaa
open Go.ChangeShapes Go.WideShapes Go.ChangeAt Go.RowKit

set_option maxRecDepth 100000 in
theorem own : ownKnob Try.prog.godebug = none := by kernel_rfl
set_option maxRecDepth 100000 in
theorem laidOut : laidOutB Try.prog = true := by kernel_rfl

theorem lt_of_cell {w : World} {a : Addr} {v : Value} (h : w.cell? a = some v) : a.block < w.heap.size := by
  rcases Nat.lt_or_ge a.block w.heap.size with hlt | hge
  · exact hlt
  · have : w.heap[a.block]? = none := Array.getElem?_eq_none hge
    simp [World.cell?, this] at h

theorem wf_bounds {n : Int} (h : (Lit.int .i64 n).wf = true) : -9223372036854775808 ≤ n ∧ n ≤ 9223372036854775807 := by
  simp [Lit.wf, IntKind.min, IntKind.max, IntKind.signed, IntKind.bits] at h
  omega

theorem ints_of_row {w : World} {x : Addr} {len : Nat} {zs : List Int} (hz : len ≤ zs.length) (hcell : ∀ i, i < zs.length → w.cell? (x.add i) = some (.int .i64 (zs.getD i 0))) (hwz : ∀ n ∈ zs, (Lit.int .i64 n).wf = true) :
    Ints w w.heap.size (some x) len (zs.take len) := by
  refine ⟨by rw [List.length_take]; omega, fun n hn => wf_bounds (hwz n (List.mem_of_mem_take hn)), fun h0 => ?_⟩
  obtain ⟨b, off, spot⟩ := x
  have hc := hcell 0 (by omega)
  have hspot : spot = none := by simpa [Addr.add] using World.cell?_spot hc
  subst hspot
  have hlt : b < w.heap.size := by have := lt_of_cell hc; simpa [Addr.add] using this
  refine ⟨b, off, rfl, hlt, fun k y hy => ?_⟩
  have hk : k < len := by have := (List.getElem?_eq_some_iff.1 hy).1; rw [List.length_take] at this; omega
  have h1 := hcell k (by omega)
  have h2 : zs.getD k 0 = y := by
    rw [List.getElem?_take, if_pos hk] at hy
    simp [List.getD, hy]
  rw [h2] at h1
  by_cases hk0 : k = 0
  · subst hk0; simpa [Addr.add] using h1
  · simpa [Addr.add, hk0] using h1

section
variable {H : Type} {enc : TypeId × Value → H} {w : World} {base : Nat} {spare : Nat → Bool} {held : Bool}
/-- a []int, or a []int64, that came in -/
theorem open_nums {t e : TypeId} {v : Value} {d : DataW H} {p : List MemPlace} (ht : Try.prog.underlying t = some (.slice e)) (he : Try.prog.underlying e = some (.int .i64)) (hC : Try.prog.cellsOf e = 1) (hf : ∃ a n c, v = .slice a n c) (h : DataW.Trod enc Try.prog w base spare held t v d p) :
    ∃ A n c xs, v = .slice A n c ∧ Ints w w.heap.size A n xs ∧ n ≤ 9223372036854775807 := by
  obtain ⟨a0, len0, cap0, rfl⟩ := hf
  obtain ⟨fuel, hf⟩ := h
  rcases open_ints ht he hC hf with ⟨hcs, _⟩ | ⟨x, l, c, zs, hcs, _, hl, hm, hz, _, hcell, hwz⟩
  · simp [Value.cells] at hcs
    obtain ⟨rfl, rfl, rfl⟩ := hcs
    exact ⟨none, 0, 0, [], rfl, Ints.nil_, by omega⟩
  · simp [Value.cells] at hcs
    obtain ⟨rfl, rfl, rfl⟩ := hcs
    have hz' : len0 ≤ zs.length := by split at hz <;> omega
    refine ⟨_, _, _, _, rfl, ints_of_row hz' hcell hwz, ?_⟩
    unfold maxLen at hm
    omega
end
end Go.Proofs.Ytinjkakfnppjpaa
