/- box.Add, Mul and Scale at any tensors, and the document's. -/
import Derived.Test.YtbicdbheclldcaaTwo
import Derived.StillTailTactics
namespace Go.Proofs.Ytbicdbheclldcaa
open Go.RowKit

set_option maxRecDepth 100000 in
set_option maxHeartbeats 2000000 in
theorem add_any (A B A2 B2 : Option Addr) (n c m e n2 c2 m2 e2 : Nat) (xs xs2 ys ys2 : List Int) (w : World) (h : Ints w w.heap.size A n xs) (hv : Ints w w.heap.size B m ys) (h2 : Ints w w.heap.size A2 n2 xs2) (hv2 : Ints w w.heap.size B2 m2 ys2) (hn : n ≤ 9223372036854775807) (hn2 : n2 ≤ 9223372036854775807) :
    Calls Try.prog 17 #[.agg #[.slice A n c, .slice B m e], .agg #[.slice A2 n2 c2, .slice B2 m2 e2]] w (SumPost w (if twoF xs m xs2 m2 = 0 then xs else []) (if twoF xs m xs2 m2 = 0 then addL ys ys2 else []) (twoF xs m xs2 m2)) := by
  by_cases h0 : twoF xs m xs2 m2 = 0
  · obtain ⟨c1, c2', rfl⟩ := twoF_zero h0
    rw [h0, if_pos rfl, if_pos rfl]
    have em : m2 = m := by have := (check_parts c1).2.2; have := (check_parts c2').2.2; omega
    subst em
    refine (add_ok A B A2 B2 n c m2 e n2 c2 e2 xs ys ys2 w h hv h2 hv2 hn hn2 c1).mono ?_
    rintro x w' ⟨A1, c1', A3, c3, rfl, HO, HV, hb⟩
    have l1 : xs.length = n := h.1
    have l2 : (addL ys ys2).length = m2 := addL_length hv.1 hv2.1
    exact ⟨A1, c1', A3, c3, by rw [l1, l2], HO, HV, hb⟩
  · rw [if_neg h0, if_neg h0]
    have H := fun W (hb : Below w.heap.size w W) => both_err A B A2 B2 n c m e n2 c2 m2 e2 xs xs2 W ((h.below hb).more hb.size) ((h2.below hb).more hb.size) hn hn2 62 #[] h0
    have hB0 : Below w.heap.size w (((w.alloc (.cells #[.slice A n c, .slice B m e] 25)).alloc (.cells #[.slice A2 n2 c2, .slice B2 m2 e2] 25)).alloc (.cells #[.slice none 0 0, .slice none 0 0] 25)) := (((Below.refl _ w).alloc (Nat.le_refl _) _).alloc (by simp) _).alloc (by simp; omega) _
    obtain ⟨E, hE⟩ : ∃ E, twoF xs m xs2 m2 = E := ⟨_, rfl⟩
    rw [hE] at H ⊢
    clear hE h0
    go_enter Try.func17, Try.ntmps17
    go_wp2_with fail
    refine (H _ hB0).mono ?_
    rintro x w1 ⟨rfl, hb1⟩
    obtain ⟨_, k4, k5, f4, f5⟩ := three_boxes (hb1.mono (B' := w.heap.size + 1 + 1 + 1) (by simp))
    go_wp2_with fail
    obtain ⟨e0, e1⟩ := zcells (a := .slice none 0 0) (b := .slice none 0 0) k4 k5
    exact bodyPost_ret (v := .tuple #[.agg #[.slice none 0 0, .slice none 0 0], .int .i64 E]) (by simp [results, Try.results17, go_sem, e0, e1]) rfl ⟨none, 0, none, 0, rfl, OwnI.nil_ _ _ _, OwnI.nil_ _ _ _, ((hB0.trans (hb1.mono hB0.size)).setCell (p := ⟨w.heap.size + 1 + 1, 0, none⟩) (by show _ ≤ w.heap.size + 1 + 1; omega) _).setCell (p := ⟨w.heap.size + 1 + 1, 1, none⟩) (by show _ ≤ w.heap.size + 1 + 1; omega) _⟩
set_option maxRecDepth 100000 in
set_option maxHeartbeats 2000000 in
theorem mul_any (A B A2 B2 : Option Addr) (n c m e n2 c2 m2 e2 : Nat) (xs xs2 ys ys2 : List Int) (w : World) (h : Ints w w.heap.size A n xs) (hv : Ints w w.heap.size B m ys) (h2 : Ints w w.heap.size A2 n2 xs2) (hv2 : Ints w w.heap.size B2 m2 ys2) (hn : n ≤ 9223372036854775807) (hn2 : n2 ≤ 9223372036854775807) :
    Calls Try.prog 20 #[.agg #[.slice A n c, .slice B m e], .agg #[.slice A2 n2 c2, .slice B2 m2 e2]] w (SumPost w (if twoF xs m xs2 m2 = 0 then xs else []) (if twoF xs m xs2 m2 = 0 then mulL ys ys2 else []) (twoF xs m xs2 m2)) := by
  by_cases h0 : twoF xs m xs2 m2 = 0
  · obtain ⟨c1, c2', rfl⟩ := twoF_zero h0
    rw [h0, if_pos rfl, if_pos rfl]
    have em : m2 = m := by have := (check_parts c1).2.2; have := (check_parts c2').2.2; omega
    subst em
    refine (mul_ok A B A2 B2 n c m2 e n2 c2 e2 xs ys ys2 w h hv h2 hv2 hn hn2 c1).mono ?_
    rintro x w' ⟨A1, c1', A3, c3, rfl, HO, HV, hb⟩
    have l1 : xs.length = n := h.1
    have l2 : (mulL ys ys2).length = m2 := mulL_length hv.1 hv2.1
    exact ⟨A1, c1', A3, c3, by rw [l1, l2], HO, HV, hb⟩
  · rw [if_neg h0, if_neg h0]
    have H := fun W (hb : Below w.heap.size w W) => both_err A B A2 B2 n c m e n2 c2 m2 e2 xs xs2 W ((h.below hb).more hb.size) ((h2.below hb).more hb.size) hn hn2 65 #[] h0
    have hB0 : Below w.heap.size w (((w.alloc (.cells #[.slice A n c, .slice B m e] 25)).alloc (.cells #[.slice A2 n2 c2, .slice B2 m2 e2] 25)).alloc (.cells #[.slice none 0 0, .slice none 0 0] 25)) := (((Below.refl _ w).alloc (Nat.le_refl _) _).alloc (by simp) _).alloc (by simp; omega) _
    obtain ⟨E, hE⟩ : ∃ E, twoF xs m xs2 m2 = E := ⟨_, rfl⟩
    rw [hE] at H ⊢
    clear hE h0
    go_enter Try.func20, Try.ntmps20
    go_wp2_with fail
    refine (H _ hB0).mono ?_
    rintro x w1 ⟨rfl, hb1⟩
    obtain ⟨_, k4, k5, f4, f5⟩ := three_boxes (hb1.mono (B' := w.heap.size + 1 + 1 + 1) (by simp))
    go_wp2_with fail
    obtain ⟨e0, e1⟩ := zcells (a := .slice none 0 0) (b := .slice none 0 0) k4 k5
    exact bodyPost_ret (v := .tuple #[.agg #[.slice none 0 0, .slice none 0 0], .int .i64 E]) (by simp [results, Try.results20, go_sem, e0, e1]) rfl ⟨none, 0, none, 0, rfl, OwnI.nil_ _ _ _, OwnI.nil_ _ _ _, ((hB0.trans (hb1.mono hB0.size)).setCell (p := ⟨w.heap.size + 1 + 1, 0, none⟩) (by show _ ≤ w.heap.size + 1 + 1; omega) _).setCell (p := ⟨w.heap.size + 1 + 1, 1, none⟩) (by show _ ≤ w.heap.size + 1 + 1; omega) _⟩
theorem twoF_self (xs : List Int) (m : Nat) : twoF xs m xs m = checkF xs m := by
  unfold twoF
  split
  · rename_i h; rw [if_pos rfl, h]
  · rfl
set_option maxRecDepth 100000 in
set_option maxHeartbeats 2000000 in
theorem scale_any (A B : Option Addr) (n c m e : Nat) (z : Int) (xs ys : List Int) (w : World) (h : Ints w w.heap.size A n xs) (hv : Ints w w.heap.size B m ys) (hn : n ≤ 9223372036854775807) :
    Calls Try.prog 22 #[.agg #[.slice A n c, .slice B m e], .int .i64 z] w (SumPost w (if checkF xs m = 0 then xs else []) (if checkF xs m = 0 then byL z ys else []) (checkF xs m)) := by
  by_cases h0 : checkF xs m = 0
  · rw [h0, if_pos rfl, if_pos rfl]
    refine (scale_ok A B n c m e z xs ys w h hv hn h0).mono ?_
    rintro x w' ⟨A1, c1', A3, c3, rfl, HO, HV, hb⟩
    have l1 : xs.length = n := h.1
    have l2 : (byL z ys).length = m := by rw [byL_length]; exact hv.1
    exact ⟨A1, c1', A3, c3, by rw [l1, l2], HO, HV, hb⟩
  · rw [if_neg h0, if_neg h0]
    have H := fun W (hb : Below w.heap.size w W) => both_err A B A B n c m e n c m e xs xs W ((h.below hb).more hb.size) ((h.below hb).more hb.size) hn hn 66 #[.pointer (some ⟨w.heap.size + 1, 0, none⟩)] (by rw [twoF_self]; exact h0)
    rw [twoF_self] at H
    have hB0 : Below w.heap.size w (((w.alloc (.cells #[.slice A n c, .slice B m e] 25)).alloc (.cells #[.int .i64 z] 2)).alloc (.cells #[.slice none 0 0, .slice none 0 0] 25)) := (((Below.refl _ w).alloc (Nat.le_refl _) _).alloc (by simp) _).alloc (by simp; omega) _
    have h3 := heap_alloc_new ((w.alloc (.cells #[.slice A n c, .slice B m e] 25)).alloc (.cells #[.int .i64 z] 2)) (.cells #[.slice none 0 0, .slice none 0 0] 25)
    simp only [World.size_alloc] at h3
    obtain ⟨E, hE⟩ : ∃ E, checkF xs m = E := ⟨_, rfl⟩
    rw [hE] at H ⊢
    clear hE h0
    go_enter Try.func22, Try.ntmps22
    go_wp2_with fail
    refine (H _ hB0).mono ?_
    rintro x w1 ⟨rfl, hb1⟩
    obtain ⟨k4, k5, f4, f5⟩ := dCells (dKeep hb1 h3)
    go_wp2_with fail
    obtain ⟨e0, e1⟩ := zcells (a := .slice none 0 0) (b := .slice none 0 0) k4 k5
    exact bodyPost_ret (v := .tuple #[.agg #[.slice none 0 0, .slice none 0 0], .int .i64 E]) (by simp [results, Try.results22, go_sem, e0, e1]) rfl ⟨none, 0, none, 0, rfl, OwnI.nil_ _ _ _, OwnI.nil_ _ _ _, ((hB0.trans (hb1.mono hB0.size)).setCell (p := ⟨w.heap.size + 1 + 1, 0, none⟩) (by show _ ≤ w.heap.size + 1 + 1; omega) _).setCell (p := ⟨w.heap.size + 1 + 1, 1, none⟩) (by show _ ≤ w.heap.size + 1 + 1; omega) _⟩
end Go.Proofs.Ytbicdbheclldcaa
