/- box.Sum at any tensor and mode; the document's Sum where there is no such mode, or no such tensor. -/
import Derived.Test.YtbicdbheclldcaaWithout
namespace Go.Proofs.Ytbicdbheclldcaa
open Go.RowKit

/-- the error of a sum over a mode -/
def sumEF (xs : List Int) (m : Nat) (mode : Int) : Int := if checkF xs m = 0 then if mode < 0 ∨ (xs.length : Int) ≤ mode then 3 else (laidF (xs.eraseIdx mode.toNat)).2 else checkF xs m
set_option maxRecDepth 100000 in
set_option maxHeartbeats 2000000 in
theorem sum_err (A B : Option Addr) (n c m e : Nat) (mode : Int) (xs : List Int) (w : World) (h : Ints w w.heap.size A n xs) (hn : n ≤ 9223372036854775807) (hno : ¬ (checkF xs m = 0 ∧ 0 ≤ mode ∧ mode < xs.length)) :
    Calls Try.prog 24 #[.agg #[.slice A n c, .slice B m e], .int .i64 mode] w (SumPost w [] [] (sumEF xs m mode)) := by
  have HC := fun W (hb : Below w.heap.size w W) => check_any A B n c m e xs W ((h.below hb).more hb.size) hn
  have HL := Lib.hid h.1
  have hB0 : Below w.heap.size w ((w.alloc (.cells #[.slice A n c, .slice B m e] 25)).alloc (.cells #[.slice none 0 0, .slice none 0 0] 25)) := below_two w _ _
  have z0 := zf_two w (.cells #[.slice A n c, .slice B m e] 25) (.cells #[.slice none 0 0, .slice none 0 0] 25)
  have z2 := zf_snd w (.cells #[.slice none 0 0, .slice none 0 0] 25) (.cells #[.slice A n c, .slice B m e] 25)
  by_cases c1 : checkF xs m = 0
  · rw [c1] at HC
    by_cases c2 : mode < 0
    · have HF : Hid (sumEF xs m mode = 3) := by unfold Hid sumEF; rw [if_pos c1, if_pos (.inl c2)]
      rw [HF.out]
      have d1 : decide (mode < 0) = true := by simpa using c2
      clear c1 hno HF
      go_enter Try.func24, Try.ntmps24
      go_wp2_with (go_at_call 27; refine (HC _ hB0).mono ?_; rintro x w1 ⟨rfl, hb1⟩; obtain ⟨k0, k1, _, _⟩ := dCells (dKeep hb1 z0); obtain ⟨k4, k5, f4, f5⟩ := dCells (dKeep hb1 z2))
      obtain ⟨e0, e1⟩ := zcells (a := .slice none 0 0) (b := .slice none 0 0) k4 k5
      exact bodyPost_ret (v := .tuple #[.agg #[.slice none 0 0, .slice none 0 0], .int .i64 3]) (by simp [results, Try.results24, go_sem, e0, e1]) rfl ⟨none, 0, none, 0, rfl, OwnI.nil_ _ _ _, OwnI.nil_ _ _ _, ((hB0.trans (hb1.mono hB0.size)).setCell (p := ⟨w.heap.size + 1, 0, none⟩) (by show _ ≤ w.heap.size + 1; omega) _).setCell (p := ⟨w.heap.size + 1, 1, none⟩) (by show _ ≤ w.heap.size + 1; omega) _⟩
    · have c3 : (n : Int) ≤ mode := by
        have := HL.out
        rcases Int.lt_or_le mode (xs.length : Int) with h | h
        · exact absurd ⟨c1, by omega, h⟩ hno
        · omega
      have HF : Hid (sumEF xs m mode = 3) := by unfold Hid sumEF; rw [if_pos c1, if_pos (.inr (by rw [HL.out]; exact c3))]
      rw [HF.out]
      have d1 : decide (mode < 0) = false := by simpa using c2
      have d2 : decide ((n : Int) ≤ mode) = true := by simpa using c3
      clear c1 hno HF
      go_enter Try.func24, Try.ntmps24
      go_wp2_with (go_at_call 27; refine (HC _ hB0).mono ?_; rintro x w1 ⟨rfl, hb1⟩; obtain ⟨k0, k1, _, _⟩ := dCells (dKeep hb1 z0); obtain ⟨k4, k5, f4, f5⟩ := dCells (dKeep hb1 z2))
      obtain ⟨e0, e1⟩ := zcells (a := .slice none 0 0) (b := .slice none 0 0) k4 k5
      exact bodyPost_ret (v := .tuple #[.agg #[.slice none 0 0, .slice none 0 0], .int .i64 3]) (by simp [results, Try.results24, go_sem, e0, e1]) rfl ⟨none, 0, none, 0, rfl, OwnI.nil_ _ _ _, OwnI.nil_ _ _ _, ((hB0.trans (hb1.mono hB0.size)).setCell (p := ⟨w.heap.size + 1, 0, none⟩) (by show _ ≤ w.heap.size + 1; omega) _).setCell (p := ⟨w.heap.size + 1, 1, none⟩) (by show _ ≤ w.heap.size + 1; omega) _⟩
  · have HF : Hid (sumEF xs m mode = checkF xs m) := by unfold Hid sumEF; rw [if_neg c1]
    rw [HF.out]
    obtain ⟨E, hE⟩ : ∃ E, checkF xs m = E := ⟨_, rfl⟩
    rw [hE] at HC c1 ⊢
    have he1 : (E == 0) = false := by simpa using c1
    have he2 : (E != 0) = true := by simpa using c1
    clear c1 hE hno HF
    go_enter Try.func24, Try.ntmps24
    go_wp2_with (go_at_call 27; refine (HC _ hB0).mono ?_; rintro x w1 ⟨rfl, hb1⟩; obtain ⟨k0, k1, _, _⟩ := dCells (dKeep hb1 z0); obtain ⟨k4, k5, f4, f5⟩ := dCells (dKeep hb1 z2))
    obtain ⟨e0, e1⟩ := zcells (a := .slice none 0 0) (b := .slice none 0 0) k4 k5
    exact bodyPost_ret (v := .tuple #[.agg #[.slice none 0 0, .slice none 0 0], .int .i64 E]) (by simp [results, Try.results24, go_sem, e0, e1]) rfl ⟨none, 0, none, 0, rfl, OwnI.nil_ _ _ _, OwnI.nil_ _ _ _, ((hB0.trans (hb1.mono hB0.size)).setCell (p := ⟨w.heap.size + 1, 0, none⟩) (by show _ ≤ w.heap.size + 1; omega) _).setCell (p := ⟨w.heap.size + 1, 1, none⟩) (by show _ ≤ w.heap.size + 1; omega) _⟩
set_option maxRecDepth 100000 in
set_option maxHeartbeats 2000000 in
theorem refSum_err (A B : Option Addr) (n c m e : Nat) (mode : Int) (xs : List Int) (w : World) (h : Ints w w.heap.size A n xs) (hn : n ≤ 9223372036854775807) (hno : ¬ (checkF xs m = 0 ∧ 0 ≤ mode ∧ mode < xs.length)) :
    Calls Try.prog 25 #[.agg #[.slice A n c, .slice B m e], .int .i64 mode] w (SumPost w [] [] (sumEF xs m mode)) := by
  have HC := fun W (hb : Below w.heap.size w W) => refCheck_any A B n c m e xs W ((h.below hb).more hb.size) hn
  have HL := Lib.hid h.1
  have hB0 : Below w.heap.size w ((w.alloc (.cells #[.slice A n c, .slice B m e] 25)).alloc (.cells #[.slice none 0 0, .slice none 0 0] 25)) := below_two w _ _
  have z0 := zf_two w (.cells #[.slice A n c, .slice B m e] 25) (.cells #[.slice none 0 0, .slice none 0 0] 25)
  have z2 := zf_snd w (.cells #[.slice none 0 0, .slice none 0 0] 25) (.cells #[.slice A n c, .slice B m e] 25)
  by_cases c1 : checkF xs m = 0
  · rw [c1] at HC
    by_cases c2 : mode < 0
    · have HF : Hid (sumEF xs m mode = 3) := by unfold Hid sumEF; rw [if_pos c1, if_pos (.inl c2)]
      rw [HF.out]
      have d1 : decide (mode < 0) = true := by simpa using c2
      clear c1 hno HF
      go_enter Try.func25, Try.ntmps25
      go_wp2_with (go_at_call 67; refine (HC _ hB0).mono ?_; rintro x w1 ⟨rfl, hb1⟩; obtain ⟨k0, k1, _, _⟩ := dCells (dKeep hb1 z0); obtain ⟨k4, k5, f4, f5⟩ := dCells (dKeep hb1 z2))
      obtain ⟨e0, e1⟩ := zcells (a := .slice none 0 0) (b := .slice none 0 0) k4 k5
      exact bodyPost_ret (v := .tuple #[.agg #[.slice none 0 0, .slice none 0 0], .int .i64 3]) (by simp [results, Try.results25, go_sem, e0, e1]) rfl ⟨none, 0, none, 0, rfl, OwnI.nil_ _ _ _, OwnI.nil_ _ _ _, ((hB0.trans (hb1.mono hB0.size)).setCell (p := ⟨w.heap.size + 1, 0, none⟩) (by show _ ≤ w.heap.size + 1; omega) _).setCell (p := ⟨w.heap.size + 1, 1, none⟩) (by show _ ≤ w.heap.size + 1; omega) _⟩
    · have c3 : (n : Int) ≤ mode := by
        have := HL.out
        rcases Int.lt_or_le mode (xs.length : Int) with h | h
        · exact absurd ⟨c1, by omega, h⟩ hno
        · omega
      have HF : Hid (sumEF xs m mode = 3) := by unfold Hid sumEF; rw [if_pos c1, if_pos (.inr (by rw [HL.out]; exact c3))]
      rw [HF.out]
      have d1 : decide (mode < 0) = false := by simpa using c2
      have d2 : decide ((n : Int) ≤ mode) = true := by simpa using c3
      clear c1 hno HF
      go_enter Try.func25, Try.ntmps25
      go_wp2_with (go_at_call 67; refine (HC _ hB0).mono ?_; rintro x w1 ⟨rfl, hb1⟩; obtain ⟨k0, k1, _, _⟩ := dCells (dKeep hb1 z0); obtain ⟨k4, k5, f4, f5⟩ := dCells (dKeep hb1 z2))
      obtain ⟨e0, e1⟩ := zcells (a := .slice none 0 0) (b := .slice none 0 0) k4 k5
      exact bodyPost_ret (v := .tuple #[.agg #[.slice none 0 0, .slice none 0 0], .int .i64 3]) (by simp [results, Try.results25, go_sem, e0, e1]) rfl ⟨none, 0, none, 0, rfl, OwnI.nil_ _ _ _, OwnI.nil_ _ _ _, ((hB0.trans (hb1.mono hB0.size)).setCell (p := ⟨w.heap.size + 1, 0, none⟩) (by show _ ≤ w.heap.size + 1; omega) _).setCell (p := ⟨w.heap.size + 1, 1, none⟩) (by show _ ≤ w.heap.size + 1; omega) _⟩
  · have HF : Hid (sumEF xs m mode = checkF xs m) := by unfold Hid sumEF; rw [if_neg c1]
    rw [HF.out]
    obtain ⟨E, hE⟩ : ∃ E, checkF xs m = E := ⟨_, rfl⟩
    rw [hE] at HC c1 ⊢
    have he1 : (E == 0) = false := by simpa using c1
    have he2 : (E != 0) = true := by simpa using c1
    clear c1 hE hno HF
    go_enter Try.func25, Try.ntmps25
    go_wp2_with (go_at_call 67; refine (HC _ hB0).mono ?_; rintro x w1 ⟨rfl, hb1⟩; obtain ⟨k0, k1, _, _⟩ := dCells (dKeep hb1 z0); obtain ⟨k4, k5, f4, f5⟩ := dCells (dKeep hb1 z2))
    obtain ⟨e0, e1⟩ := zcells (a := .slice none 0 0) (b := .slice none 0 0) k4 k5
    exact bodyPost_ret (v := .tuple #[.agg #[.slice none 0 0, .slice none 0 0], .int .i64 E]) (by simp [results, Try.results25, go_sem, e0, e1]) rfl ⟨none, 0, none, 0, rfl, OwnI.nil_ _ _ _, OwnI.nil_ _ _ _, ((hB0.trans (hb1.mono hB0.size)).setCell (p := ⟨w.heap.size + 1, 0, none⟩) (by show _ ≤ w.heap.size + 1; omega) _).setCell (p := ⟨w.heap.size + 1, 1, none⟩) (by show _ ≤ w.heap.size + 1; omega) _⟩
/-- box.Sum at any tensor and mode -/
theorem sum_any (A B : Option Addr) (n c m e : Nat) (mode : Int) (xs ys : List Int) (w : World) (h : Ints w w.heap.size A n xs) (hv : Ints w w.heap.size B m ys) (hn : n ≤ 9223372036854775807) (hnc : n ≤ c) (hm : m ≤ 9223372036854775807) :
    Calls Try.prog 24 #[.agg #[.slice A n c, .slice B m e], .int .i64 mode] w (SumPost w (if sumEF xs m mode = 0 then xs.eraseIdx mode.toNat else []) (if sumEF xs m mode = 0 then sumV xs mode.toNat ys else []) (sumEF xs m mode)) := by
  have hl := h.1
  by_cases hok : checkF xs m = 0 ∧ 0 ≤ mode ∧ mode < xs.length
  · obtain ⟨c1, c2, c3⟩ := hok
    obtain ⟨k, rfl⟩ : ∃ k : Nat, mode = (k : Int) := ⟨mode.toNat, by omega⟩
    have hE : sumEF xs m (k : Int) = (laidF (xs.eraseIdx k)).2 := by unfold sumEF; rw [if_pos c1, if_neg (by omega), Int.toNat_natCast]
    rw [hE, Int.toNat_natCast]
    exact sum_ok A B n c m e k xs ys w h hv hn hnc hm c1 (by omega)
  · have hne : sumEF xs m mode ≠ 0 := by
      unfold sumEF
      split
      · rename_i h1
        rw [if_pos (by rcases Int.lt_or_le mode 0 with h | h
                       · exact .inl h
                       · rcases Int.lt_or_le mode (xs.length : Int) with h2 | h2
                         · exact absurd ⟨h1, h, h2⟩ hok
                         · exact .inr h2)]
        decide
      · rename_i h1; exact h1
    rw [if_neg hne, if_neg hne]
    exact sum_err A B n c m e mode xs w h hn hok
end Go.Proofs.Ytbicdbheclldcaa
