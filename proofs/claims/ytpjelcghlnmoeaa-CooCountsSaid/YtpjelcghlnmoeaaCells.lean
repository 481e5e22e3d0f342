/- The contracts of box.Cells and of the document's Cells (and of what they call), at every list of numbers: both return what cellsF computes, and leave memory alone. -/
import Derived.Test.YtpjelcghlnmoeaaProg
import Derived.Test.YtpjelcghlnmoeaaBase
import Derived.BigQuiet
import Derived.Deep.QuietTactic
namespace Go.Proofs.Ytpjelcghlnmoeaa
open Go.RowKit

set_option maxRecDepth 100000 in
theorem negative_any (x : Int) (w : World) : Calls Try.prog 76 #[.int .i64 x] w fun e w' => e = .returned (.bool (decide (x < 0))) ∧ w = w' := by
  go_enter Try.func76, Try.ntmps76
  go_wp2
  go_ret
  exact ⟨rfl, rfl⟩

set_option maxRecDepth 100000 in
/-- slices.IndexFunc(l, negative): the place of the first negative number, or -1; here: whether there is one -/
theorem indexFunc_any (A : Option Addr) (n c : Nat) (xs : List Int) (w : World) (B : Nat) (h : Ints w B A n xs) (hn : n ≤ 100000) :
    Calls Try.prog 90 #[.slice A n c, .func (.func 76) #[] #[]] w fun e w' => ∃ r : Int, e = .returned (.int .i64 r) ∧ decide (0 ≤ r) = (xs.any fun s => decide (s < 0)) ∧ w = w' := by
  have HL : Hid (xs.length = n) := h.1
  go_enter Try.func90, Try.ntmps90
  go_wp2
  go_loop [8] (fun i => ∃ k : Nat, k ≤ n ∧ i = .int .i64 k ∧ Hid ((xs.take k).any (fun s => decide (s < 0)) = false)) (fun i => n - (intOf i).toNat)
  case atStart => exact ⟨0, Nat.zero_le _, rfl, by unfold Hid; simp⟩
  case round =>
    obtain ⟨k, hk, rfl, HK⟩ := hrel
    by_cases hlt : k < n
    · obtain ⟨b, off, x, rfl, _, HX, hc, hx1, hx2⟩ := h.at_ hlt
      by_cases hneg : x < 0
      · go_wp2_with (go_at_call 76; refine (negative_any _ _).mono ?_; rintro e w' ⟨rfl, rfl⟩)
        go_ret
        exact ⟨k, rfl, by rw [any_hit HX.out (by simpa using hneg)]; simp, rfl⟩
      · go_wp2_with (go_at_call 76; refine (negative_any _ _).mono ?_; rintro e w' ⟨rfl, rfl⟩)
        go_round
        case rel => exact ⟨k + 1, by omega, by go_num, any_miss HK.out HX.out (by simpa using hneg)⟩
        case measure => simp [intOf]; omega
    · go_wp2
      go_ret
      exact ⟨-1, rfl, by rw [any_all HK.out HL.out (by omega)]; rfl, rfl⟩

set_option maxRecDepth 100000 in
theorem containsFunc_any (A : Option Addr) (n c : Nat) (xs : List Int) (w : World) (B : Nat) (h : Ints w B A n xs) (hn : n ≤ 100000) :
    Calls Try.prog 75 #[.slice A n c, .func (.func 76) #[] #[]] w fun e w' => e = .returned (.bool (xs.any fun s => decide (s < 0))) ∧ w = w' := by
  go_enter Try.func75, Try.ntmps75
  go_wp2_with (go_at_call 90; refine (indexFunc_any A n c xs _ B h hn).mono ?_; rintro e w' ⟨r, rfl, HR, rfl⟩; have HH := Lib.hid HR; clear HR)
  go_ret
  exact ⟨by rw [HH.out]; rfl, rfl⟩

set_option maxRecDepth 100000 in
theorem index_any (A : Option Addr) (n c : Nat) (xs : List Int) (v : Int) (w : World) (B : Nat) (h : Ints w B A n xs) (hn : n ≤ 100000) :
    Calls Try.prog 91 #[.slice A n c, .int .i64 v] w fun e w' => ∃ r : Int, e = .returned (.int .i64 r) ∧ decide (0 ≤ r) = (xs.any fun s => s == v) ∧ w = w' := by
  have HL : Hid (xs.length = n) := h.1
  go_enter Try.func91, Try.ntmps91
  go_wp2
  go_loop [8] (fun i => ∃ k : Nat, k ≤ n ∧ i = .int .i64 k ∧ Hid ((xs.take k).any (fun s => s == v) = false)) (fun i => n - (intOf i).toNat)
  case atStart => exact ⟨0, Nat.zero_le _, rfl, by unfold Hid; simp⟩
  case round =>
    obtain ⟨k, hk, rfl, HK⟩ := hrel
    by_cases hlt : k < n
    · obtain ⟨b, off, x, rfl, _, HX, hc, hx1, hx2⟩ := h.at_ hlt
      by_cases hv : (v == x) = true
      · go_wp2
        go_ret
        exact ⟨k, rfl, by rw [any_hit HX.out (by simp at hv ⊢; exact hv.symm)]; simp, rfl⟩
      · have hv' : (v == x) = false := by simpa using hv
        clear hv
        go_wp2
        go_round
        case rel => exact ⟨k + 1, by omega, by go_num, any_miss HK.out HX.out (by simp at hv' ⊢; exact fun h => hv' h.symm)⟩
        case measure => simp [intOf]; omega
    · go_wp2
      go_ret
      exact ⟨-1, rfl, by rw [any_all HK.out HL.out (by omega)]; rfl, rfl⟩

set_option maxRecDepth 100000 in
theorem contains_any (A : Option Addr) (n c : Nat) (xs : List Int) (v : Int) (w : World) (B : Nat) (h : Ints w B A n xs) (hn : n ≤ 100000) :
    Calls Try.prog 77 #[.slice A n c, .int .i64 v] w fun e w' => e = .returned (.bool (xs.any fun s => s == v)) ∧ w = w' := by
  go_enter Try.func77, Try.ntmps77
  go_wp2_with (go_at_call 91; refine (index_any A n c xs v _ B h hn).mono ?_; rintro e w' ⟨r, rfl, HR, rfl⟩; have HH := Lib.hid HR; clear HR)
  go_ret
  exact ⟨by rw [HH.out]; rfl, rfl⟩

set_option maxRecDepth 100000 in
theorem cells_any (A : Option Addr) (n c : Nat) (xs : List Int) (w : World) (B : Nat) (h : Ints w B A n xs) (hn : n ≤ 9223372036854775807) :
    Calls Try.prog 51 #[.slice A n c] w fun e w' => e = .returned (.tuple #[.int .i64 (cellsF xs).1, .int .i64 (cellsF xs).2]) ∧ w = w' := by
  have HL : Hid (xs.length = n) := h.1
  by_cases h4 : 4 < n
  · go_enter Try.func51, Try.ntmps51
    go_wp2
    go_ret2
    exact ⟨by rw [cellsF, if_pos (.inl (by rw [HL.out]; omega))]; rfl, rfl⟩
  by_cases hneg : (xs.any fun s => decide (s < 0)) = true
  · have HC : ∀ W, Ints W B A n xs → Calls Try.prog 75 #[.slice A n c, .func (.func 76) #[] #[]] W fun e w' => e = .returned (.bool true) ∧ W = w' := fun W hW => (containsFunc_any A n c xs W B hW (by omega)).mono fun _ _ hh => by rw [hneg] at hh; exact hh
    have HN := Lib.hid hneg
    clear hneg
    go_enter Try.func51, Try.ntmps51
    go_wp2_with (go_at_call 75; refine (HC _ h).mono ?_; rintro e w' ⟨rfl, rfl⟩)
    go_ret2
    exact ⟨by rw [cellsF, if_pos (.inr HN.out)]; rfl, rfl⟩
  have hneg' : (xs.any fun s => decide (s < 0)) = false := by simpa using hneg
  clear hneg
  have HC : ∀ W, Ints W B A n xs → Calls Try.prog 75 #[.slice A n c, .func (.func 76) #[] #[]] W fun e w' => e = .returned (.bool false) ∧ W = w' := fun W hW => (containsFunc_any A n c xs W B hW (by omega)).mono fun _ _ hh => by rw [hneg'] at hh; exact hh
  have HN := Lib.hid hneg'
  clear hneg'
  have hor : ¬ (4 < xs.length ∨ (xs.any fun s => decide (s < 0)) = true) := by rw [HN.out, HL.out]; simp; omega
  by_cases hz : (xs.any fun s => s == 0) = true
  · have HD : ∀ W, Ints W B A n xs → Calls Try.prog 77 #[.slice A n c, .int .i64 0] W fun e w' => e = .returned (.bool true) ∧ W = w' := fun W hW => (contains_any A n c xs 0 W B hW (by omega)).mono fun _ _ hh => by rw [hz] at hh; exact hh
    have HF : Hid (cellsF xs = (0, 0)) := by unfold Hid cellsF; rw [if_neg hor, if_pos hz]
    clear hz hor
    go_enter Try.func51, Try.ntmps51
    go_wp2_with (first | (go_at_call 75; refine (HC _ h).mono ?_; rintro e w' ⟨rfl, rfl⟩) | (go_at_call 77; refine (HD _ h).mono ?_; rintro e w' ⟨rfl, rfl⟩))
    go_ret2
    exact ⟨by rw [HF.out]; rfl, rfl⟩
  have hz' : (xs.any fun s => s == 0) = false := (by cases hb : (xs.any fun s => s == 0) with | false => rfl | true => exact absurd hb hz)
  clear hz
  have HD : ∀ W, Ints W B A n xs → Calls Try.prog 77 #[.slice A n c, .int .i64 0] W fun e w' => e = .returned (.bool false) ∧ W = w' := fun W hW => (contains_any A n c xs 0 W B hW (by omega)).mono fun _ _ hh => by rw [hz'] at hh; exact hh
  have HF : Hid (cellsF xs = cellsGo xs 1) := by unfold Hid cellsF; rw [if_neg hor, if_neg (by rw [hz']; simp)]
  have HP : ∀ x ∈ xs, 1 ≤ x := pos_of_any HN.out hz'
  have HZ := Lib.hid hz'
  clear hz' hor
  go_enter Try.func51, Try.ntmps51
  go_wp2_with (first | (go_at_call 75; refine (HC _ h).mono ?_; rintro e w' ⟨rfl, rfl⟩) | (go_at_call 77; refine (HD _ h).mono ?_; rintro e w' ⟨rfl, rfl⟩))
  go_loop [4, 18] (fun m i => ∃ (k : Nat) (q : Int), k ≤ n ∧ 1 ≤ q ∧ q ≤ 4611686018427387903 ∧ i = .int .i64 k ∧ m = .int .i64 q ∧ Hid (cellsGo xs 1 = cellsGo (xs.drop k) q)) (fun _ i => n - (intOf i).toNat)
  case atStart => exact ⟨0, 1, Nat.zero_le _, by omega, by omega, rfl, rfl, rfl⟩
  case round =>
    obtain ⟨k, q, hk, hq1, hq2, rfl, rfl, HK⟩ := hrel
    by_cases hlt : k < n
    · obtain ⟨b, off, x, rfl, _, HX, hc, hx1, hx2⟩ := h.at_ hlt
      have hxp : 1 ≤ x := HP x (List.mem_of_getElem? HX.out)
      clear HC HD
      by_cases hb : 4611686018427387903 / q < x
      · have HE : Hid (cellsGo xs 1 = (0, 2)) := by unfold Hid; rw [HK.out, drop_of HX.out, cellsGo, if_pos hb]
        clear HK
        go_wp2
        go_ret2
        exact ⟨by rw [HF.out, HE.out]; rfl, rfl⟩
      · have HE : Hid (cellsGo xs 1 = cellsGo (xs.drop (k + 1)) (q * x)) := by unfold Hid; rw [HK.out, drop_of HX.out, cellsGo, if_neg hb]
        have hm := mul_bound hq1 hxp hb
        have hb' : x ≤ 4611686018427387903 / q := by omega
        clear HK hb
        go_wp2
        go_round
        case rel => exact ⟨k + 1, q * x, by omega, hm.1, hm.2, by go_num, rfl, HE⟩
        case measure => simp [intOf]; omega
    · have HE : Hid (cellsGo xs 1 = (q, 0)) := by unfold Hid; rw [HK.out, List.drop_of_length_le (by rw [HL.out]; omega)]; rfl
      go_wp2
      go_ret2
      exact ⟨by rw [HF.out, HE.out]; rfl, rfl⟩

set_option maxRecDepth 100000 in
theorem refCells_any (A : Option Addr) (n c : Nat) (xs : List Int) (w : World) (B : Nat) (h : Ints w B A n xs) (hn : n ≤ 9223372036854775807) :
    Calls Try.prog 53 #[.slice A n c] w fun e w' => e = .returned (.tuple #[.int .i64 (cellsF xs).1, .int .i64 (cellsF xs).2]) ∧ w = w' := by
  have HL : Hid (xs.length = n) := h.1
  by_cases h4 : 4 < n
  · go_enter Try.func53, Try.ntmps53
    go_wp2
    go_ret2
    exact ⟨by rw [cellsF, if_pos (.inl (by rw [HL.out]; omega))]; rfl, rfl⟩
  go_enter Try.func53, Try.ntmps53
  go_wp2
  go_loop [4, 15] (fun z i => ∃ (k : Nat) (bz : Bool), k ≤ n ∧ i = .int .i64 k ∧ z = .bool bz ∧ Hid ((xs.take k).any (fun s => decide (s < 0)) = false) ∧ Hid ((xs.take k).any (fun s => s == 0) = bz)) (fun _ i => n - (intOf i).toNat)
  case atStart => exact ⟨0, false, Nat.zero_le _, rfl, rfl, rfl, rfl⟩
  case round =>
    obtain ⟨k, bz, hk, rfl, rfl, HK, HZ⟩ := hrel
    by_cases hlt : k < n
    · obtain ⟨b, off, x, rfl, _, HX, hc, hx1, hx2⟩ := h.at_ hlt
      by_cases hneg : x < 0
      · go_wp2
        go_ret2
        exact ⟨by rw [cellsF, if_pos (.inr (any_hit HX.out (by simpa using hneg)))]; rfl, rfl⟩
      · have HN' : Hid ((xs.take (k + 1)).any (fun s => decide (s < 0)) = false) := any_miss HK.out HX.out (by simpa using hneg)
        have HZ' : Hid ((xs.take (k + 1)).any (fun s => s == 0) = (bz || (x == 0))) := by unfold Hid; rw [take_succ_of HX.out, List.any_append, HZ.out]; simp
        clear HK HZ
        cases bz
        · by_cases hx0 : x = 0
          · subst hx0
            go_wp2
            go_round
            case rel => exact ⟨k + 1, true, by omega, by go_num, rfl, HN', HZ'⟩
            case measure => simp [intOf]; omega
          · have hx0' : (x == 0) = false := by simpa using hx0
            have HZ2 : Hid ((xs.take (k + 1)).any (fun s => s == 0) = false) := by unfold Hid; rw [HZ'.out, hx0']; rfl
            clear hx0
            go_wp2
            go_round
            case rel => exact ⟨k + 1, false, by omega, by go_num, rfl, HN', HZ2⟩
            case measure => simp [intOf]; omega
        · go_wp2
          go_round
          case rel => exact ⟨k + 1, true, by omega, by go_num, rfl, HN', HZ'⟩
          case measure => simp [intOf]; omega
    · have HN : Hid (xs.any (fun s => decide (s < 0)) = false) := any_all HK.out HL.out (by omega)
      have HZ' : Hid (xs.any (fun s => s == 0) = bz) := by unfold Hid; rw [← HZ.out, List.take_of_length_le (by rw [HL.out]; omega)]
      have HO : Hid (¬ (4 < xs.length ∨ (xs.any fun s => decide (s < 0)) = true)) := by unfold Hid; rw [HN.out, HL.out]; simp; omega
      clear HK HZ
      cases bz
      · have HP : ∀ x ∈ xs, 1 ≤ x := pos_of_any HN.out HZ'.out
        have HF : Hid (cellsF xs = cellsGo xs 1) := by unfold Hid cellsF; rw [if_neg HO.out, if_neg (by rw [HZ'.out]; simp)]
        clear HO HZ' HN
        go_wp2
        clear hlt hk
        go_loop [7, 30] (fun m i => ∃ (k : Nat) (q : Int), k ≤ n ∧ 1 ≤ q ∧ q ≤ 4611686018427387903 ∧ i = .int .i64 k ∧ m = .int .i64 q ∧ Hid (cellsGo xs 1 = cellsGo (xs.drop k) q)) (fun _ i => n - (intOf i).toNat)
        case atStart => exact ⟨0, 1, Nat.zero_le _, by omega, by omega, rfl, rfl, rfl⟩
        case round =>
          obtain ⟨k, q, hk, hq1, hq2, rfl, rfl, HK⟩ := hrel
          by_cases hlt : k < n
          · obtain ⟨b, off, x, rfl, _, HX, hc, hx1, hx2⟩ := h.at_ hlt
            have hxp : 1 ≤ x := HP x (List.mem_of_getElem? HX.out)
            by_cases hb : 4611686018427387903 / q < x
            · have HE : Hid (cellsGo xs 1 = (0, 2)) := by unfold Hid; rw [HK.out, drop_of HX.out, cellsGo, if_pos hb]
              clear HK HP
              go_wp2
              go_ret2
              exact ⟨by rw [HF.out, HE.out]; rfl, rfl⟩
            · have HE : Hid (cellsGo xs 1 = cellsGo (xs.drop (k + 1)) (q * x)) := by unfold Hid; rw [HK.out, drop_of HX.out, cellsGo, if_neg hb]
              have hm := mul_bound hq1 hxp hb
              have hb' : x ≤ 4611686018427387903 / q := by omega
              clear HK hb HP
              go_wp2
              go_round
              case rel => exact ⟨k + 1, q * x, by omega, hm.1, hm.2, by go_num, rfl, HE⟩
              case measure => simp [intOf]; omega
          · have HE : Hid (cellsGo xs 1 = (q, 0)) := by unfold Hid; rw [HK.out, List.drop_of_length_le (by rw [HL.out]; omega)]; rfl
            clear HP
            go_wp2
            go_ret2
            exact ⟨by rw [HF.out, HE.out]; rfl, rfl⟩
      · have HF : Hid (cellsF xs = (0, 0)) := by unfold Hid cellsF; rw [if_neg HO.out, if_pos HZ'.out]
        go_wp2
        go_ret2
        exact ⟨by rw [HF.out]; rfl, rfl⟩
end Go.Proofs.Ytpjelcghlnmoeaa
