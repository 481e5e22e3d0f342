/- The contracts of slices.BinarySearch and sort.Search as level asks them, of level's Find and Parent. -/
import Derived.Test.YtanbhpdobpiafaaLOf
import Derived.WalkSpells
namespace Go.Proofs.Ytanbhpdobpiafaa
open Go.RowKit

/-- a list that rises -/
def RisesL (L : List Int) : Prop := ∀ (i j : Nat) (x y : Int), i ≤ j → L[i]? = some x → L[j]? = some y → x ≤ y
/-- where t belongs in a list that rises: all ahead are less, all others are not -/
def CutAt (L : List Int) (t : Int) (i : Nat) : Prop := i ≤ L.length ∧ (∀ (j : Nat) (x : Int), j < i → L[j]? = some x → x < t) ∧ (∀ (j : Nat) (x : Int), i ≤ j → L[j]? = some x → t ≤ x)

set_option maxRecDepth 100000 in
set_option maxHeartbeats 1000000 in
theorem search_any (A : Option Addr) (n c : Nat) (L : List Int) (t : Int) (w : World) (B : Nat) (h : Ints w B A n L) (hn : n ≤ 1000000) (hR : RisesL L) :
    Calls Try.prog 35 #[.slice A n c, .int .i64 t] w fun e w' => ∃ i : Nat, e = .returned (.tuple #[.int .i64 (i : Int), .bool (pB (L[i]? = some t))]) ∧ CutAt L t i ∧ w = w' := by
  have HLn : Hid (L.length = n) := h.1
  have HR := Lib.hid hR
  have hL := fun x y W => less_any x y W
  clear hR
  go_enter Try.func35, Try.ntmps35
  go_wp2
  go_loop [7, 8] (fun u v => ∃ i j : Nat, u = .int .i64 (i : Int) ∧ v = .int .i64 (j : Int) ∧ i ≤ j ∧ j ≤ n ∧ Hid (∀ (q : Nat) (x : Int), q < i → L[q]? = some x → x < t) ∧ Hid (∀ (q : Nat) (x : Int), j ≤ q → L[q]? = some x → t ≤ x)) (fun u v => (intOf v).toNat - (intOf u).toNat)
  case atStart => exact ⟨0, n, rfl, rfl, Nat.zero_le _, Nat.le_refl _, by unfold Hid; intro q x hq; omega, by unfold Hid; intro q x hq hx; have := (List.getElem?_eq_some_iff.1 hx).1; have := HLn.out; omega⟩
  case round =>
    obtain ⟨i, j, rfl, rfl, hij, hjn, HI, HJ⟩ := hrel
    by_cases hlt : i < j
    · obtain ⟨b, off, y, rfl, _, HY, hc, hy1, hy2⟩ := h.at_ (k := (i + j) / 2) (by omega)
      have g1 : (0 : Int) ≤ ((i : Int) + (j : Int)) / 2 := by omega
      have g2 : ((i : Int) + (j : Int)) / 2 < (n : Int) := by omega
      have g3 : (((i : Int) + (j : Int)) / 2).toNat = (i + j) / 2 := by omega
      have g4 : ((((i + j) / 2 : Nat) : Int)) = ((i : Int) + (j : Int)) / 2 := by omega
      have HG := Lib.hid g4
      have hL2 := hL y t
      clear g4 hL
      by_cases hyt : y < t
      · have HI2 : Hid (∀ (q : Nat) (x : Int), q < (i + j) / 2 + 1 → L[q]? = some x → x < t) := by
          intro q x hq hx
          have := HR.out q ((i + j) / 2) x y (by omega) hx HY.out
          omega
        have d1 : decide (y < t) = true := decide_eq_true hyt
        rw [d1] at hL2
        clear hyt
        go_wp2_with (go_at_call 49; refine (hL2 _).mono ?_; rintro e w' ⟨rfl, rfl⟩)
        go_round
        case rel => exact ⟨(i + j) / 2 + 1, j, by rw [← HG.out]; go_num, rfl, by omega, hjn, HI2, HJ⟩
        case measure => simp [intOf]; omega
      · have HJ2 : Hid (∀ (q : Nat) (x : Int), (i + j) / 2 ≤ q → L[q]? = some x → t ≤ x) := by
          intro q x hq hx
          have := HR.out ((i + j) / 2) q y x hq HY.out hx
          omega
        have d1 : decide (y < t) = false := decide_eq_false hyt
        rw [d1] at hL2
        clear hyt
        go_wp2_with (go_at_call 49; refine (hL2 _).mono ?_; rintro e w' ⟨rfl, rfl⟩)
        go_round
        case rel => exact ⟨i, (i + j) / 2, rfl, by rw [← HG.out], by omega, by omega, HI, HJ2⟩
        case measure => simp [intOf]; omega
    · obtain rfl : i = j := by omega
      have hnan : ∀ (x : Int) (W : World), Calls Try.prog 50 #[.int .i64 x] W fun e w' => e = .returned (.bool false) ∧ W = w' := by
        intro x W
        have e1 : (x != x) = false := by simp
        go_enter Try.func50, Try.ntmps50
        go_wp2
        go_ret
        exact ⟨rfl, rfl⟩
      have HCut : Hid (CutAt L t i) := ⟨by rw [HLn.out]; exact hjn, HI.out, HJ.out⟩
      clear hL HI HJ HR
      by_cases hin : i < n
      · obtain ⟨b, off, y, rfl, _, HY, hc, hy1, hy2⟩ := h.at_ hin
        have g1 : (i : Int) < (n : Int) := by omega
        by_cases hyt : y = t
        · have HF : Hid (pB (L[i]? = some t) = true) := pB_t (by rw [HY.out, hyt])
          have d1 : (y == t) = true := by simpa using hyt
          clear hyt
          go_wp2
          go_ret2
          exact ⟨i, ret_of (by rw [HF.out]; rfl), HCut.out, rfl⟩
        · have HF : Hid (pB (L[i]? = some t) = false) := pB_f (by rw [HY.out]; intro e; injection e with e; exact hyt e)
          have d1 : (y == t) = false := by simpa using hyt
          clear hyt
          go_wp2_with (go_at_call 50; refine (hnan _ _).mono ?_; rintro e w' ⟨rfl, rfl⟩)
          go_ret2
          exact ⟨i, ret_of (by rw [HF.out]; rfl), HCut.out, rfl⟩
      · have HF : Hid (pB (L[i]? = some t) = false) := pB_f (by rw [List.getElem?_eq_none (by rw [HLn.out]; omega)]; intro e; cases e)
        have g1 : ¬ (i : Int) < (n : Int) := by omega
        go_wp2
        go_ret2
        exact ⟨i, ret_of (by rw [HF.out]; rfl), HCut.out, rfl⟩
end Go.Proofs.Ytanbhpdobpiafaa
