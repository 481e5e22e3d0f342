/- The document's Where and all. -/
import Derived.Test.YtnaehnlpcjaaeaaG4
namespace Go.Proofs.Ytnaehnlpcjaaeaa
open Go.RowKit

/-- i is n's first place in xs; -1: there is none -/
def WhereI (xs : List Int) (n i : Int) : Prop := (n ∉ xs ∧ i = -1) ∨ ∃ j : Nat, i = (j : Int) ∧ xs[j]? = some n ∧ ∀ p, p < j → xs[p]? ≠ some n
theorem WhereI.mem {xs : List Int} {n i : Int} (h : WhereI xs n i) : 0 ≤ i ↔ n ∈ xs := by
  rcases h with ⟨h1, rfl⟩ | ⟨j, rfl, h1, _⟩
  · exact ⟨fun h => by omega, fun h => absurd h h1⟩
  · exact ⟨fun _ => List.mem_of_getElem? h1, fun _ => by omega⟩
set_option maxRecDepth 100000 in
set_option maxHeartbeats 4000000 in
theorem refWhere_any (A : Option Addr) (n c B : Nat) (xs : List Int) (m : Int) (w : World) (h : Ints w B A n xs) (hn : n ≤ 1000000) :
    Calls Try.prog 29 #[.slice A n c, .int .i64 m] w fun e w' => ∃ i, e = .returned (.int .i64 i) ∧ WhereI xs m i ∧ ∃ q, w' = w.drewN q := by
  have HL : Hid (xs.length = n) := h.1
  go_enter Try.func29, Try.ntmps29
  go_wp2
  go_loopw [9] (fun v wr => ∃ (k q : Nat), v = .int .i64 (k : Int) ∧ k ≤ n ∧ Hid (∀ j, j < k → xs[j]? ≠ some m) ∧ wr = w.drewN q) (fun v _ => n - (intOf v).toNat)
  case atStart => exact ⟨0, 0, rfl, Nat.zero_le _, fun j hj => absurd hj (by omega), rfl⟩
  case round =>
    obtain ⟨k, q, rfl, hkn, HN, rfl⟩ := hrel
    by_cases hlt : k < n
    · obtain ⟨b, off, y, rfl, _, HY, hcy, hy1, hy2⟩ := h.at_ hlt
      have k0 : (0 : Int) ≤ (k : Int) := by omega
      have k2 : (k : Int) < (n : Int) := by omega
      by_cases hym : y = m
      · subst hym
        have HW : Hid (WhereI xs y (k : Int)) := .inr ⟨k, rfl, HY.out, HN.out⟩
        go_wp2
        go_ret
        exact ⟨_, rfl, HW.out, _, rfl⟩
      · have HNN : Hid (∀ j, j < k + 1 → xs[j]? ≠ some m) := fun j hj => by
          by_cases e : j = k
          · subst e
            rw [HY.out]
            exact fun h => hym (Option.some.inj h)
          · exact HN.out j (by omega)
        go_wp2
        go_roundw
        case rel => exact ⟨k + 1, _, by go_num, by omega, HNN, rfl⟩
        case measure => simp [intOf]; omega
    · have HW : Hid (WhereI xs m (-1)) := .inl ⟨fun hm => by
        obtain ⟨j, hj, e⟩ := List.getElem_of_mem hm
        exact HN.out j (by have := HL.out; omega) (by rw [List.getElem?_eq_getElem hj, e]), rfl⟩
      have dk : decide ((k : Int) < (n : Int)) = false := decide_eq_false (by omega)
      go_wp2
      go_ret
      exact ⟨_, rfl, HW.out, _, rfl⟩
set_option maxRecDepth 100000 in
set_option maxHeartbeats 4000000 in
theorem refAll_any (A : Option Addr) (n c B : Nat) (LL : List (List Int)) (w : World) (h : IntsLL w B A n LL) (hL : ∀ L ∈ LL, L.length ≤ 9223372036854775806) (hn : n ≤ 1000000) (R : Bool) (HR : Hid ((R = true ↔ AllRise LL))) :
    Calls Try.prog 28 #[.slice A n c] w fun e w' => e = .returned (.bool R) ∧ ∃ q, w' = w.drewN q := by
  have HL : Hid (LL.length = n) := h.1
  have HLB := Lib.hid hL
  clear hL
  go_enter Try.func28, Try.ntmps28
  go_wp2
  go_loopw [7] (fun v wr => ∃ (k q : Nat), v = .int .i64 (k : Int) ∧ k ≤ n ∧ Hid (∀ j, j < k → ∀ L, LL[j]? = some L → L.Pairwise (· < ·)) ∧ wr = w.drewN q) (fun v _ => n - (intOf v).toNat)
  case atStart => exact ⟨0, 0, rfl, Nat.zero_le _, fun j hj => absurd hj (by omega), rfl⟩
  case round =>
    obtain ⟨k, q, rfl, hkn, HN, rfl⟩ := hrel
    by_cases hlt : k < n
    · obtain ⟨b, off, L, a, c', rfl, _, HK, hc1, hc2, hI⟩ := h.at_ hlt
      have k0 : (0 : Int) ≤ (k : Int) := by omega
      have k2 : (k : Int) < (n : Int) := by omega
      have hLm := HLB.out L (List.mem_of_getElem? HK.out)
      by_cases hri : L.Pairwise (· < ·)
      · have cR := refRises_any a L.length c' B L (w.drewN q) hI hLm true (decide_eq_true hri)
        have HNN : Hid (∀ j, j < k + 1 → ∀ L, LL[j]? = some L → L.Pairwise (· < ·)) := fun j hj L' hL' => by
          by_cases e : j = k
          · subst e
            have := HK.out
            rw [hL'] at this
            rw [Option.some.inj this]; exact hri
          · exact HN.out j (by omega) L' hL'
        obtain ⟨M, hM⟩ : ∃ M, L.length = M := ⟨_, rfl⟩
        rw [hM] at hc1 cR
        clear hri hM hI hLm
        go_wp2_with (go_at_call 12; refine cR.mono ?_; rintro e w2 ⟨rfl, q2, rfl⟩)
        go_roundw
        case rel => exact ⟨k + 1, _, by go_num, by omega, HNN, rfl⟩
        case measure => simp [intOf]; omega
      · have cR := refRises_any a L.length c' B L (w.drewN q) hI hLm false (decide_eq_false hri)
        have HF : Hid (R = false) := by
          unfold Hid
          rw [Bool.eq_false_iff]
          exact fun e => hri (HR.out.1 e L (List.mem_of_getElem? HK.out))
        obtain ⟨M, hM⟩ : ∃ M, L.length = M := ⟨_, rfl⟩
        rw [hM] at hc1 cR
        clear hri hM hI hLm
        go_wp2_with (go_at_call 12; refine cR.mono ?_; rintro e w2 ⟨rfl, q2, rfl⟩)
        go_ret
        exact ⟨by rw [HF.out]; rfl, _, rfl⟩
    · have HT : Hid (R = true) := HR.out.2 fun L hL => by
        obtain ⟨j, hj, e⟩ := List.getElem_of_mem hL
        exact HN.out j (by have := HL.out; omega) L (by rw [List.getElem?_eq_getElem hj, e])
      have dk : decide ((k : Int) < (n : Int)) = false := decide_eq_false (by omega)
      go_wp2
      go_ret
      exact ⟨by rw [HT.out]; rfl, _, rfl⟩
end Go.Proofs.Ytnaehnlpcjaaeaa
