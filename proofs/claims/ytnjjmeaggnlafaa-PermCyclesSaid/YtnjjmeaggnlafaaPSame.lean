/- The contracts of the document's SameLists and of the statements' few. -/
import Derived.Test.YtnjjmeaggnlafaaPCycles
namespace Go.Proofs.Ytnjjmeaggnlafaa
open Go.RowKit

set_option maxRecDepth 100000 in
set_option maxHeartbeats 2000000 in
theorem sameLists_any (A A2 : Option Addr) (n n2 c c2 : Nat) (XS YS : List (List Int)) (w : World) (B : Nat) (h : IntsLL w B A n XS) (h2 : IntsLL w B A2 n2 YS) (hn : n ≤ 100000) (hn2 : n2 ≤ 100000) (hx : ∀ L ∈ XS, L.length ≤ 100000) (hy : ∀ L ∈ YS, L.length ≤ 100000) :
    Calls Try.prog 34 #[.slice A n c, .slice A2 n2 c2] w fun e w' => e = .returned (.bool (decide (XS = YS))) ∧ ∃ m, w' = w.drewN m := by
  have HL : Hid (XS.length = n) := h.1
  have HL2 : Hid (YS.length = n2) := h2.1
  by_cases hne : n = n2
  · subst hne
    go_enter Try.func34, Try.ntmps34
    go_wp2
    go_loopw [14] (fun i wr => ∃ (k m : Nat), k ≤ n ∧ i = .int .i64 k ∧ wr = w.drewN m ∧ Hid (XS.take k = YS.take k)) (fun i _ => n - (intOf i).toNat)
    case atStart => exact ⟨0, 0, Nat.zero_le _, rfl, rfl, by unfold Hid; simp⟩
    case round =>
      obtain ⟨k, m, hk, rfl, rfl, HK⟩ := hrel
      by_cases hlt : k < n
      · obtain ⟨b, off, L, a, cL, rfl, _, HX, hc, _, hI⟩ := h.at_ hlt
        obtain ⟨b2, off2, M, a2, cM, rfl, _, HY, hc2, _, hI2⟩ := h2.at_ hlt
        have hlL := hx L (List.mem_of_getElem? HX.out)
        have hlM := hy M (List.mem_of_getElem? HY.out)
        have hk0 : (0 : Int) ≤ k := by omega
        have hk1 : (k : Int) < n := by omega
        obtain ⟨lL, hlLe⟩ : ∃ l, L.length = l := ⟨_, rfl⟩
        obtain ⟨lM, hlMe⟩ : ∃ l, M.length = l := ⟨_, rfl⟩
        rw [hlLe] at hc hI hlL
        rw [hlMe] at hc2 hI2 hlM
        have HLL := Lib.hid hlLe
        have HLM := Lib.hid hlMe
        clear hlLe hlMe
        by_cases hll : lL = lM
        · subst hll
          have e1 : ((lL : Int) == (lL : Int)) = true := by simp
          have e2 : ((lL : Int) != (lL : Int)) = false := by simp
          go_wp2
          go_quiet (fail)
          go_wp2
          go_loopw [33] (fun i wr => ∃ (j m : Nat), j ≤ lL ∧ i = .int .i64 j ∧ wr = w.drewN m ∧ Hid (L.take j = M.take j)) (fun i _ => lL - (intOf i).toNat)
          case atStart => exact ⟨0, _, Nat.zero_le _, rfl, rfl, by unfold Hid; simp⟩
          case round =>
            obtain ⟨j, m2, hj, rfl, rfl, HJ⟩ := hrel
            by_cases hjl : j < lL
            · obtain ⟨b3, off3, x, rfl, _, HX3, hc3, hx1, hx2⟩ := hI.at_ hjl
              obtain ⟨b4, off4, y, rfl, _, HY3, hc4, hy1, hy2⟩ := hI2.at_ hjl
              have hj0 : (0 : Int) ≤ j := by omega
              have hj1 : (j : Int) < lL := by omega
              by_cases hxy : x = y
              · have HN : Hid (L.take (j + 1) = M.take (j + 1)) := by unfold Hid; rw [take_succ_of HX3.out, take_succ_of HY3.out, HJ.out, hxy]
                have e1 : (x == y) = true := by simpa using hxy
                have e2 : (x != y) = false := by simpa using hxy
                clear hxy
                go_wp2
                go_quiet (fail)
                go_wp2
                go_roundw
                case rel => exact ⟨j + 1, _, by omega, by go_num, rfl, HN⟩
                case measure => simp [intOf]; omega
              · have HF : Hid (decide (XS = YS) = false) := by
                  unfold Hid; rw [decide_eq_false]; intro e; subst e
                  have e3 := HX.out; rw [HY.out] at e3; injection e3 with e3; subst e3
                  have := HX3.out; rw [HY3.out] at this; exact hxy (by injection this with this; exact this.symm)
                have e1 : (x == y) = false := by simpa using hxy
                have e2 : (x != y) = true := by simpa using hxy
                clear hxy
                go_wp2
                go_quiet (fail)
                go_wp2
                go_ret
                exact ⟨by rw [HF.out]; rfl, _, World.drewN_drewN _ _ _⟩
            · have HN : Hid (XS.take (k + 1) = YS.take (k + 1)) := by
                unfold Hid; rw [take_succ_of HX.out, take_succ_of HY.out, HK.out]
                have := HJ.out
                rw [List.take_of_length_le (by rw [HLL.out]; omega), List.take_of_length_le (by rw [HLM.out]; omega)] at this
                rw [this]
              go_wp2
              go_roundw
              case rel => exact ⟨k + 1, _, by omega, by go_num, rfl, HN⟩
              case measure => simp [intOf]; omega
        · have HF : Hid (decide (XS = YS) = false) := by
            unfold Hid; rw [decide_eq_false]; intro e; subst e
            have e3 := HX.out; rw [HY.out] at e3; injection e3 with e3; subst e3
            exact hll (by rw [← HLL.out, ← HLM.out])
          have e1 : ((lL : Int) == (lM : Int)) = false := by simp; omega
          have e2 : ((lL : Int) != (lM : Int)) = true := by simp; omega
          clear hll
          go_wp2
          go_quiet (fail)
          go_wp2
          go_ret
          exact ⟨by rw [HF.out]; rfl, _, World.drewN_drewN _ _ _⟩
      · have HF : Hid (decide (XS = YS) = true) := by
          unfold Hid; rw [decide_eq_true]; have := HK.out
          rwa [List.take_of_length_le (by rw [HL.out]; omega), List.take_of_length_le (by rw [HL2.out]; omega)] at this
        go_wp2
        go_ret
        exact ⟨by rw [HF.out]; rfl, _, rfl⟩
  · have HF : Hid (decide (XS = YS) = false) := by unfold Hid; rw [decide_eq_false]; intro e; subst e; exact hne (by rw [← HL.out, ← HL2.out])
    have hne1 : ((n : Int) == (n2 : Int)) = false := by simp; omega
    have hne2 : ((n : Int) != (n2 : Int)) = true := by simp; omega
    clear hne
    go_enter Try.func34, Try.ntmps34
    go_wp2
    go_ret
    exact ⟨by rw [HF.out]; rfl, 0, rfl⟩

set_option maxRecDepth 100000 in
/-- few: are slices short -/
theorem few_ok (b off : Nat) (ns : List Nat) (n c : Nat) (w : World) (hl : ns.length = n) (hn : n ≤ 100000) (hb : ∀ k m, ns[k]? = some m → m ≤ 9223372036854775807 ∧ ∃ a c, w.cell? ⟨b, off + k, none⟩ = some (.slice a m c)) :
    Calls Try.prog 12 #[.slice (some ⟨b, off, none⟩) n c] w fun e w' => e = .returned (.bool (ns.all fun m => decide (m ≤ 100))) ∧ w = w' := by
  have HL := Lib.hid hl
  have HB := Lib.hid hb
  clear hl hb
  go_enter Try.func12, Try.ntmps12
  go_wp2
  go_loop [7] (fun i => ∃ k : Nat, k ≤ n ∧ i = .int .i64 k ∧ Hid ((ns.take k).all (fun m => decide (m ≤ 100)) = true)) (fun i => n - (intOf i).toNat)
  case atStart => exact ⟨0, Nat.zero_le _, rfl, by unfold Hid; simp⟩
  case round =>
    obtain ⟨k, hk, rfl, HK⟩ := hrel
    by_cases hlt : k < n
    · obtain ⟨m, hm⟩ : ∃ m, ns[k]? = some m := ⟨_, List.getElem?_eq_getElem (by rw [HL.out]; exact hlt)⟩
      obtain ⟨hm1, a, c', hc⟩ := HB.out k m hm
      by_cases h100 : 100 < m
      · have HF : Hid ((ns.all fun m => decide (m ≤ 100)) = false) := by
          unfold Hid; rw [List.all_eq_false]; exact ⟨m, List.mem_of_getElem? hm, by simp; omega⟩
        have hd : decide (100 < (m : Int)) = true := by simp; omega
        clear hm
        go_wp2
        go_ret
        exact ⟨by rw [HF.out]; rfl, rfl⟩
      · have HN : Hid ((ns.take (k + 1)).all (fun m => decide (m ≤ 100)) = true) := by
          unfold Hid; rw [take_succ_of hm, List.all_append, HK.out]; simp; omega
        have hd : decide (100 < (m : Int)) = false := by simp; omega
        clear hm
        go_wp2
        go_round
        case rel => exact ⟨k + 1, by omega, by go_num, HN⟩
        case measure => simp [intOf]; omega
    · have HF : Hid ((ns.all fun m => decide (m ≤ 100)) = true) := by
        unfold Hid; have := HK.out; rwa [List.take_of_length_le (by rw [HL.out]; omega)] at this
      go_wp2
      go_ret
      exact ⟨by rw [HF.out]; rfl, rfl⟩
end Go.Proofs.Ytnjjmeaggnlafaa
