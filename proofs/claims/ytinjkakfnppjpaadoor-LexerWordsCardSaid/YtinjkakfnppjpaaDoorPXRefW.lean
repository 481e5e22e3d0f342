/- The document's Word and sign. -/
import Derived.Test.YtinjkakfnppjpaaDoorPXRefN
namespace Go.Proofs.YtinjkakfnppjpaaDoor
open Go.RowKit

theorem isWordL_no {l : List UInt8} (k : Nat) {c : UInt8} (h : l[k]? = some c) (hc : isLD c = false) : isWordL l = false := by
  unfold isWordL
  rw [decide_eq_false_iff_not]
  rintro ⟨_, _, h3⟩
  have hk := (List.getElem?_eq_some_iff.1 h).1
  have : ∀ (l : List UInt8) (k : Nat), l[k]? = some c → alongL l ≤ k := by
    intro l
    induction l with
    | nil => intro k h; simp at h
    | cons b l ih =>
      intro k h
      unfold alongL
      rw [List.takeWhile_cons]
      split
      · cases k with
        | zero => simp at h; subst h; rename_i a; rw [hc] at a; cases a
        | succ k => have := ih k (by simpa using h); unfold alongL at this; simp only [List.length_cons]; omega
      · simp
  have := this l k h
  omega
set_option maxRecDepth 100000 in
set_option maxHeartbeats 8000000 in
theorem refWord_any (s : ByteArray) (w : World) (hs : s.size ≤ maxLen) : Calls Tryd.prog 10 #[.string s] w fun e w' => e = .returned (.bool (isWordL (bl s))) ∧ w = w' := by
  unfold maxLen at hs
  by_cases h0 : s.size = 0
  · have hE : Hid (isWordL (bl s) = false) := by
      unfold Hid isWordL
      rw [decide_eq_false_iff_not, List.getElem?_eq_none (by rw [bl_len]; omega)]
      rintro ⟨_, ⟨c, h, _⟩, _⟩
      cases h
    have h0' : (s.size : Int) < 1 := by omega
    go_enter Tryd.func10, Tryd.ntmps10
    go_wp2
    go_ret
    exact ⟨by rw [hE.out]; rfl, rfl⟩
  · by_cases h16 : 16 < s.size
    · have hE : Hid (isWordL (bl s) = false) := by
        unfold Hid isWordL
        rw [decide_eq_false_iff_not, bl_len]
        rintro ⟨h, _⟩
        omega
      have h0' : 1 ≤ (s.size : Int) := by omega
      go_enter Tryd.func10, Tryd.ntmps10
      go_wp2
      go_ret
      exact ⟨by rw [hE.out]; rfl, rfl⟩
    · have hp : 0 < s.size := by omega
      have h0' : 1 ≤ (s.size : Int) := by omega
      have HG0 : Hid ((bl s)[0]? = some (s[0]'hp)) := bl_get s 0 hp
      have cL0 := fun w => refLetter_any (s[0]'hp).toNat (u8_lt _) w
      by_cases h4 : kb (s[0]'hp) = 4
      · rw [show decide (kindI ((s[0]'hp).toNat : Int) = 4) = true from decide_eq_true h4] at cL0
        have H4 := Lib.hid h4
        clear h4
        go_enter Tryd.func10, Tryd.ntmps10
        go_wp2_with (go_at_call 17; refine (cL0 _).mono ?_; rintro e w1 ⟨rfl, rfl⟩)
        go_loop [20] (fun i => ∃ (k : Nat), k ≤ s.size ∧ i = .int .i64 k ∧ Hid (∀ j < k, ∃ c, (bl s)[j]? = some c ∧ isLD c = true)) (fun i => s.size - (intOf i).toNat)
        case atStart => exact ⟨0, Nat.zero_le _, rfl, fun j hj => absurd hj (by omega)⟩
        case round =>
          obtain ⟨k, hk, rfl, HA⟩ := hrel
          by_cases hlt : k < s.size
          · have HG : Hid ((bl s)[k]? = some s[k]) := bl_get s k hlt
            have cL := fun w => refLetter_any s[k].toNat (u8_lt _) w
            have cD := fun w => refDigit_any s[k].toNat (u8_lt _) w
            clear cL0
            by_cases a4 : kb s[k] = 4
            · have HB : Hid (isLD s[k] = true) := by unfold Hid isLD; simp [a4]
              rw [show decide (kindI (s[k].toNat : Int) = 4) = true from decide_eq_true a4] at cL
              clear a4 cD
              go_wp2_with (go_at_call 17; refine (cL _).mono ?_; rintro e w1 ⟨rfl, rfl⟩)
              refine ⟨⟨k + 1, by omega, by go_num, fun j hj => ?_⟩, by simp [intOf]; omega⟩
              by_cases e : j = k
              · subst e; exact ⟨_, HG.out, HB.out⟩
              · exact HA.out j (by omega)
            · rw [show decide (kindI (s[k].toNat : Int) = 4) = false from decide_eq_false a4] at cL
              by_cases a5 : kb s[k] = 5
              · have HB : Hid (isLD s[k] = true) := by unfold Hid isLD; simp [a5]
                rw [show decide (kindI (s[k].toNat : Int) = 5) = true from decide_eq_true a5] at cD
                clear a4 a5
                go_wp2_with (first | (go_at_call 17; refine (cL _).mono ?_; rintro e w1 ⟨rfl, rfl⟩) | (go_at_call 14; refine (cD _).mono ?_; rintro e w1 ⟨rfl, rfl⟩))
                refine ⟨⟨k + 1, by omega, by go_num, fun j hj => ?_⟩, by simp [intOf]; omega⟩
                by_cases e : j = k
                · subst e; exact ⟨_, HG.out, HB.out⟩
                · exact HA.out j (by omega)
              · have hE : Hid (isWordL (bl s) = false) := isWordL_no k HG.out (by unfold isLD; simp [a4, a5])
                rw [show decide (kindI (s[k].toNat : Int) = 5) = false from decide_eq_false a5] at cD
                clear a4 a5
                go_wp2_with (first | (go_at_call 17; refine (cL _).mono ?_; rintro e w1 ⟨rfl, rfl⟩) | (go_at_call 14; refine (cD _).mono ?_; rintro e w1 ⟨rfl, rfl⟩))
                go_ret
                exact ⟨by rw [hE.out]; rfl, rfl⟩
          · have hE : Hid (isWordL (bl s) = true) := by
              unfold Hid isWordL
              rw [decide_eq_true_iff, bl_len]
              exact ⟨by omega, ⟨_, HG0.out, H4.out⟩, along_eq (bl s) s.size (fun j hj => HA.out j (by omega)) (Or.inl (bl_len s).symm)⟩
            go_wp2
            go_ret
            exact ⟨by rw [hE.out]; rfl, rfl⟩
      · rw [show decide (kindI ((s[0]'hp).toNat : Int) = 4) = false from decide_eq_false h4] at cL0
        have hE : Hid (isWordL (bl s) = false) := by
          unfold Hid isWordL
          rw [decide_eq_false_iff_not, HG0.out]
          rintro ⟨_, ⟨c, e1, e2⟩, _⟩
          injection e1 with e1
          subst e1
          exact h4 e2
        clear h4
        go_enter Tryd.func10, Tryd.ntmps10
        go_wp2_with (go_at_call 17; refine (cL0 _).mono ?_; rintro e w1 ⟨rfl, rfl⟩)
        go_ret
        exact ⟨by rw [hE.out]; rfl, rfl⟩
theorem u8_eq (c : UInt8) (n : Nat) (hn : n < 256) : c = n.toUInt8 ↔ c.toNat = n := by
  constructor
  · intro h
    rw [h]
    simp
    omega
  · intro h
    apply UInt8.toNat_inj.1
    rw [h]
    simp
    omega
theorem sign_one (c : UInt8) : kb c = 6 ↔ c = 43 ∨ c = 45 ∨ c = 42 ∨ c = 40 ∨ c = 41 ∨ c = 91 ∨ c = 93 ∨ c = 44 ∨ c = 61 ∨ c = 58 := by
  have e43 := u8_eq c 43 (by omega)
  have e45 := u8_eq c 45 (by omega)
  have e42 := u8_eq c 42 (by omega)
  have e40 := u8_eq c 40 (by omega)
  have e41 := u8_eq c 41 (by omega)
  have e91 := u8_eq c 91 (by omega)
  have e93 := u8_eq c 93 (by omega)
  have e44 := u8_eq c 44 (by omega)
  have e61 := u8_eq c 61 (by omega)
  have e58 := u8_eq c 58 (by omega)
  have hc := u8_lt c
  have hk : kb c = 6 ↔ c.toNat = 43 ∨ c.toNat = 45 ∨ c.toNat = 42 ∨ c.toNat = 40 ∨ c.toNat = 41 ∨ c.toNat = 91 ∨ c.toNat = 93 ∨ c.toNat = 44 ∨ c.toNat = 61 ∨ c.toNat = 58 := by
    unfold kb kindI
    repeat' split
    all_goals constructor
    all_goals intro h
    all_goals omega
  rw [hk, ← e43, ← e45, ← e42, ← e40, ← e41, ← e91, ← e93, ← e44, ← e61, ← e58]
  rfl
theorem sign_iff (l : List UInt8) : isSignL l = decide (l = [43] ∨ l = [45] ∨ l = [42] ∨ l = [40] ∨ l = [41] ∨ l = [91] ∨ l = [93] ∨ l = [44] ∨ l = [61] ∨ l = [58]) := by
  unfold isSignL
  rw [decide_eq_decide]
  match l with
  | [] => simp
  | [c] => simp [sign_one]
  | a :: b :: l => simp
end Go.Proofs.YtinjkakfnppjpaaDoor
