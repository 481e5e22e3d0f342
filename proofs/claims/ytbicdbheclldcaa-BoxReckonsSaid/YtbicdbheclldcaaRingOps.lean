/- box.Add, box.Mul and box.Scale at tensors of one shape that may be. -/
import Derived.Test.YtbicdbheclldcaaBothAdd
import Derived.Test.YtbicdbheclldcaaBothMul
import Derived.Test.YtbicdbheclldcaaBothScale
namespace Go.Proofs.Ytbicdbheclldcaa
open Go.RowKit

set_option maxRecDepth 100000 in
theorem add_ok (A B A2 B2 : Option Addr) (n c m e n2 c2 e2 : Nat) (xs ys ys2 : List Int) (w : World) (h : Ints w w.heap.size A n xs) (hv : Ints w w.heap.size B m ys) (h2 : Ints w w.heap.size A2 n2 xs) (hv2 : Ints w w.heap.size B2 m ys2)
    (hn : n ≤ 9223372036854775807) (hn2 : n2 ≤ 9223372036854775807) (hck : checkF xs m = 0) :
    Calls Try.prog 17 #[.agg #[.slice A n c, .slice B m e], .agg #[.slice A2 n2 c2, .slice B2 m e2]] w fun x w' => ∃ A1 c1 A3 c3, x = .returned (.tuple #[.agg #[.slice A1 n c1, .slice A3 m c3], .int .i64 0]) ∧
      OwnI w' w.heap.size 3 A1 c1 xs ∧ OwnI w' w.heap.size 2 A3 c3 (List.zipWith (fun x y => wrap64 (x + y)) ys ys2) ∧ Below w.heap.size w w' := by
  have H := fun W (hb : Below w.heap.size w W) => both_ok_add A B A2 B2 n c m e n2 c2 e2 xs ys ys2 W ((h.below hb).more hb.size) ((hv.below hb).more hb.size) ((h2.below hb).more hb.size) ((hv2.below hb).more hb.size) hn hn2 hck
  have hB0 : Below w.heap.size w (((w.alloc (.cells #[.slice A n c, .slice B m e] 25)).alloc (.cells #[.slice A2 n2 c2, .slice B2 m e2] 25)).alloc (.cells #[.slice none 0 0, .slice none 0 0] 25)) := (((Below.refl _ w).alloc (Nat.le_refl _) _).alloc (by simp) _).alloc (by simp; omega) _
  go_enter Try.func17, Try.ntmps17
  go_wp2_with fail
  refine (H _ hB0).mono ?_
  rintro x w1 ⟨A1, c1, A3, c3, rfl, HO, HV, hb1⟩
  have hs1 := hb1.size
  simp only [World.size_alloc] at hs1 HO HV
  obtain ⟨_, k4, k5, f4, f5⟩ := three_boxes (hb1.mono (B' := w.heap.size + 1 + 1 + 1) (by simp))
  go_wp2_with fail
  obtain ⟨e0, e1⟩ := zcells (a := .slice A1 n c1) (b := .slice A3 m c3) k4 k5
  refine bodyPost_ret (v := .tuple #[.agg #[.slice A1 n c1, .slice A3 m c3], .int .i64 0]) (by simp [results, Try.results17, go_sem, e0, e1]) rfl ⟨A1, c1, A3, c3, rfl, ?_, ?_, ?_⟩
  · exact ((HO.far (by omega) _ _).far (by omega) _ _).mono (by omega)
  · exact ((HV.far (by omega) _ _).far (by omega) _ _).mono (by omega)
  · exact ((hB0.trans (hb1.mono hB0.size)).setCell (p := ⟨w.heap.size + 1 + 1, 0, none⟩) (by show _ ≤ w.heap.size + 1 + 1; omega) _).setCell (p := ⟨w.heap.size + 1 + 1, 1, none⟩) (by show _ ≤ w.heap.size + 1 + 1; omega) _

set_option maxRecDepth 100000 in
theorem mul_ok (A B A2 B2 : Option Addr) (n c m e n2 c2 e2 : Nat) (xs ys ys2 : List Int) (w : World) (h : Ints w w.heap.size A n xs) (hv : Ints w w.heap.size B m ys) (h2 : Ints w w.heap.size A2 n2 xs) (hv2 : Ints w w.heap.size B2 m ys2)
    (hn : n ≤ 9223372036854775807) (hn2 : n2 ≤ 9223372036854775807) (hck : checkF xs m = 0) :
    Calls Try.prog 20 #[.agg #[.slice A n c, .slice B m e], .agg #[.slice A2 n2 c2, .slice B2 m e2]] w fun x w' => ∃ A1 c1 A3 c3, x = .returned (.tuple #[.agg #[.slice A1 n c1, .slice A3 m c3], .int .i64 0]) ∧
      OwnI w' w.heap.size 3 A1 c1 xs ∧ OwnI w' w.heap.size 2 A3 c3 (List.zipWith (fun x y => wrap64 (x * y)) ys ys2) ∧ Below w.heap.size w w' := by
  have H := fun W (hb : Below w.heap.size w W) => both_ok_mul A B A2 B2 n c m e n2 c2 e2 xs ys ys2 W ((h.below hb).more hb.size) ((hv.below hb).more hb.size) ((h2.below hb).more hb.size) ((hv2.below hb).more hb.size) hn hn2 hck
  have hB0 : Below w.heap.size w (((w.alloc (.cells #[.slice A n c, .slice B m e] 25)).alloc (.cells #[.slice A2 n2 c2, .slice B2 m e2] 25)).alloc (.cells #[.slice none 0 0, .slice none 0 0] 25)) := (((Below.refl _ w).alloc (Nat.le_refl _) _).alloc (by simp) _).alloc (by simp; omega) _
  go_enter Try.func20, Try.ntmps20
  go_wp2_with fail
  refine (H _ hB0).mono ?_
  rintro x w1 ⟨A1, c1, A3, c3, rfl, HO, HV, hb1⟩
  have hs1 := hb1.size
  simp only [World.size_alloc] at hs1 HO HV
  obtain ⟨_, k4, k5, f4, f5⟩ := three_boxes (hb1.mono (B' := w.heap.size + 1 + 1 + 1) (by simp))
  go_wp2_with fail
  obtain ⟨e0, e1⟩ := zcells (a := .slice A1 n c1) (b := .slice A3 m c3) k4 k5
  refine bodyPost_ret (v := .tuple #[.agg #[.slice A1 n c1, .slice A3 m c3], .int .i64 0]) (by simp [results, Try.results20, go_sem, e0, e1]) rfl ⟨A1, c1, A3, c3, rfl, ?_, ?_, ?_⟩
  · exact ((HO.far (by omega) _ _).far (by omega) _ _).mono (by omega)
  · exact ((HV.far (by omega) _ _).far (by omega) _ _).mono (by omega)
  · exact ((hB0.trans (hb1.mono hB0.size)).setCell (p := ⟨w.heap.size + 1 + 1, 0, none⟩) (by show _ ≤ w.heap.size + 1 + 1; omega) _).setCell (p := ⟨w.heap.size + 1 + 1, 1, none⟩) (by show _ ≤ w.heap.size + 1 + 1; omega) _

set_option maxRecDepth 100000 in
theorem scale_ok (A B : Option Addr) (n c m e : Nat) (z : Int) (xs ys : List Int) (w : World) (h : Ints w w.heap.size A n xs) (hv : Ints w w.heap.size B m ys) (hn : n ≤ 9223372036854775807) (hck : checkF xs m = 0) :
    Calls Try.prog 22 #[.agg #[.slice A n c, .slice B m e], .int .i64 z] w fun x w' => ∃ A1 c1 A3 c3, x = .returned (.tuple #[.agg #[.slice A1 n c1, .slice A3 m c3], .int .i64 0]) ∧
      OwnI w' w.heap.size 3 A1 c1 xs ∧ OwnI w' w.heap.size 2 A3 c3 (List.zipWith (fun x _ => wrap64 (x * z)) ys ys) ∧ Below w.heap.size w w' := by
  have H := fun W (hb : Below w.heap.size w W) => both_ok_scale A B A B n c m e n c e xs ys ys z (w.heap.size + 1) W ((h.below hb).more hb.size) ((hv.below hb).more hb.size) ((h.below hb).more hb.size) ((hv.below hb).more hb.size)
  have hB0 : Below w.heap.size w (((w.alloc (.cells #[.slice A n c, .slice B m e] 25)).alloc (.cells #[.int .i64 z] 2)).alloc (.cells #[.slice none 0 0, .slice none 0 0] 25)) := (((Below.refl _ w).alloc (Nat.le_refl _) _).alloc (by simp) _).alloc (by simp; omega) _
  go_enter Try.func22, Try.ntmps22
  go_wp2_with fail
  refine (H _ hB0 (by simp) ?_ hn hn hck).mono ?_
  · have h0 := heap_alloc_new (w.alloc (.cells #[.slice A n c, .slice B m e] 25)) (.cells #[.int .i64 z] 2)
    rw [World.size_alloc] at h0
    exact cellPast _ ((cell_of_row _ _ 0 _ _ (0, 0) h0).trans (by simp))
  rintro x w1 ⟨A1, c1, A3, c3, rfl, HO, HV, hb1⟩
  have hs1 := hb1.size
  simp only [World.size_alloc] at hs1 HO HV
  have h3 := heap_alloc_new ((w.alloc (.cells #[.slice A n c, .slice B m e] 25)).alloc (.cells #[.int .i64 z] 2)) (.cells #[.slice none 0 0, .slice none 0 0] 25)
  have k := pair_kept hb1 h3
  simp only [World.size_alloc] at k
  obtain ⟨k4, k5⟩ := k
  simp only [World.size_alloc] at h3
  have h4 := (hb1.block (w.heap.size + 1 + 1) (by simp)).trans h3
  have f4 : w1.frozen? ⟨w.heap.size + 1 + 1, 0, none⟩ = false := by simp [World.frozen?, h4]
  have f5 : w1.frozen? ⟨w.heap.size + 1 + 1, 1, none⟩ = false := by simp [World.frozen?, h4]
  go_wp2_with fail
  obtain ⟨e0, e1⟩ := zcells (a := .slice A1 n c1) (b := .slice A3 m c3) k4 k5
  refine bodyPost_ret (v := .tuple #[.agg #[.slice A1 n c1, .slice A3 m c3], .int .i64 0]) (by simp [results, Try.results22, go_sem, e0, e1]) rfl ⟨A1, c1, A3, c3, rfl, ?_, ?_, ?_⟩
  · exact ((HO.far (by omega) _ _).far (by omega) _ _).mono (by omega)
  · exact ((HV.far (by omega) _ _).far (by omega) _ _).mono (by omega)
  · exact ((hB0.trans (hb1.mono hB0.size)).setCell (p := ⟨w.heap.size + 1 + 1, 0, none⟩) (by show _ ≤ w.heap.size + 1 + 1; omega) _).setCell (p := ⟨w.heap.size + 1 + 1, 1, none⟩) (by show _ ≤ w.heap.size + 1 + 1; omega) _

set_option maxRecDepth 100000 in
theorem ring1_ok (A B A2 B2 : Option Addr) (n c m e n2 c2 e2 : Nat) (xs ys ys2 : List Int) (w : World) (h : Ints w w.heap.size A n xs) (hv : Ints w w.heap.size B m ys) (h2 : Ints w w.heap.size A2 n2 xs) (hv2 : Ints w w.heap.size B2 m ys2)
    (hn : n ≤ 9223372036854775807) (hn2 : n2 ≤ 9223372036854775807) (hck : checkF xs m = 0) :
    Calls Try.prog 29 #[.agg #[.slice A n c, .slice B m e], .agg #[.slice A2 n2 c2, .slice B2 m e2]] w fun x w' => ∃ A1 c1 A3 c3, x = .returned (.agg #[.slice A1 n c1, .slice A3 m c3]) ∧
      OwnI w' w.heap.size 3 A1 c1 xs ∧ OwnI w' w.heap.size 2 A3 c3 (List.zipWith (fun x y => wrap64 (x + y)) ys ys2) ∧ Below w.heap.size w w' := by
  have H := fun W (hb : Below w.heap.size w W) => add_ok A B A2 B2 n c m e n2 c2 e2 xs ys ys2 W ((h.below hb).more hb.size) ((hv.below hb).more hb.size) ((h2.below hb).more hb.size) ((hv2.below hb).more hb.size) hn hn2 hck
  have hB0 : Below w.heap.size w (((w.alloc (.cells #[.slice A n c, .slice B m e] 25)).alloc (.cells #[.slice A2 n2 c2, .slice B2 m e2] 25)).alloc (.cells #[.slice none 0 0, .slice none 0 0] 25)) := (((Below.refl _ w).alloc (Nat.le_refl _) _).alloc (by simp) _).alloc (by simp; omega) _
  go_enter Try.func29, Try.ntmps29
  go_wp2_with fail
  refine (H _ hB0).mono ?_
  rintro x w1 ⟨A1, c1, A3, c3, rfl, HO, HV, hb1⟩
  have hs1 := hb1.size
  simp only [World.size_alloc] at hs1 HO HV
  obtain ⟨_, k4, k5, f4, f5⟩ := three_boxes (hb1.mono (B' := w.heap.size + 1 + 1 + 1) (by simp))
  have k6 := fun o => cellPast o k4
  have k7 := fun o => cellPast o k5
  have f6 := fun o => frozenPast o k4 f4
  have f7 := fun o => frozenPast o k5 f5
  go_wp2_with fail
  obtain ⟨e0, e1⟩ := zcells (a := .slice A1 n c1) (b := .slice A3 m c3) (k6 (.cells #[.slice A1 n c1, .slice A3 m c3] 25)) (k7 (.cells #[.slice A1 n c1, .slice A3 m c3] 25))
  refine bodyPost_ret (v := .agg #[.slice A1 n c1, .slice A3 m c3]) (by simp [results, Try.results29, go_sem, e0, e1]) rfl ⟨A1, c1, A3, c3, rfl, ?_, ?_, ?_⟩
  · exact (((HO.alloc _).far (by omega) _ _).far (by omega) _ _).mono (by omega)
  · exact (((HV.alloc _).far (by omega) _ _).far (by omega) _ _).mono (by omega)
  · exact (((hB0.trans (hb1.mono hB0.size)).alloc (by omega) _).setCell (p := ⟨w.heap.size + 1 + 1, 0, none⟩) (by show _ ≤ w.heap.size + 1 + 1; omega) _).setCell (p := ⟨w.heap.size + 1 + 1, 1, none⟩) (by show _ ≤ w.heap.size + 1 + 1; omega) _

set_option maxRecDepth 100000 in
theorem ring2_ok (A B A2 B2 : Option Addr) (n c m e n2 c2 e2 : Nat) (xs ys ys2 : List Int) (w : World) (h : Ints w w.heap.size A n xs) (hv : Ints w w.heap.size B m ys) (h2 : Ints w w.heap.size A2 n2 xs) (hv2 : Ints w w.heap.size B2 m ys2)
    (hn : n ≤ 9223372036854775807) (hn2 : n2 ≤ 9223372036854775807) (hck : checkF xs m = 0) :
    Calls Try.prog 30 #[.agg #[.slice A n c, .slice B m e], .agg #[.slice A2 n2 c2, .slice B2 m e2]] w fun x w' => ∃ A1 c1 A3 c3, x = .returned (.agg #[.slice A1 n c1, .slice A3 m c3]) ∧
      OwnI w' w.heap.size 3 A1 c1 xs ∧ OwnI w' w.heap.size 2 A3 c3 (List.zipWith (fun x y => wrap64 (x * y)) ys ys2) ∧ Below w.heap.size w w' := by
  have H := fun W (hb : Below w.heap.size w W) => mul_ok A B A2 B2 n c m e n2 c2 e2 xs ys ys2 W ((h.below hb).more hb.size) ((hv.below hb).more hb.size) ((h2.below hb).more hb.size) ((hv2.below hb).more hb.size) hn hn2 hck
  have hB0 : Below w.heap.size w (((w.alloc (.cells #[.slice A n c, .slice B m e] 25)).alloc (.cells #[.slice A2 n2 c2, .slice B2 m e2] 25)).alloc (.cells #[.slice none 0 0, .slice none 0 0] 25)) := (((Below.refl _ w).alloc (Nat.le_refl _) _).alloc (by simp) _).alloc (by simp; omega) _
  go_enter Try.func30, Try.ntmps30
  go_wp2_with fail
  refine (H _ hB0).mono ?_
  rintro x w1 ⟨A1, c1, A3, c3, rfl, HO, HV, hb1⟩
  have hs1 := hb1.size
  simp only [World.size_alloc] at hs1 HO HV
  obtain ⟨_, k4, k5, f4, f5⟩ := three_boxes (hb1.mono (B' := w.heap.size + 1 + 1 + 1) (by simp))
  have k6 := fun o => cellPast o k4
  have k7 := fun o => cellPast o k5
  have f6 := fun o => frozenPast o k4 f4
  have f7 := fun o => frozenPast o k5 f5
  go_wp2_with fail
  obtain ⟨e0, e1⟩ := zcells (a := .slice A1 n c1) (b := .slice A3 m c3) (k6 (.cells #[.slice A1 n c1, .slice A3 m c3] 25)) (k7 (.cells #[.slice A1 n c1, .slice A3 m c3] 25))
  refine bodyPost_ret (v := .agg #[.slice A1 n c1, .slice A3 m c3]) (by simp [results, Try.results30, go_sem, e0, e1]) rfl ⟨A1, c1, A3, c3, rfl, ?_, ?_, ?_⟩
  · exact (((HO.alloc _).far (by omega) _ _).far (by omega) _ _).mono (by omega)
  · exact (((HV.alloc _).far (by omega) _ _).far (by omega) _ _).mono (by omega)
  · exact (((hB0.trans (hb1.mono hB0.size)).alloc (by omega) _).setCell (p := ⟨w.heap.size + 1 + 1, 0, none⟩) (by show _ ≤ w.heap.size + 1 + 1; omega) _).setCell (p := ⟨w.heap.size + 1 + 1, 1, none⟩) (by show _ ≤ w.heap.size + 1 + 1; omega) _
end Go.Proofs.Ytbicdbheclldcaa
