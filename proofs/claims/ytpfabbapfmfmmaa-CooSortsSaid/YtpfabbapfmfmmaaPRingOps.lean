/- box.Add, box.Mul and box.Scale at tensors of one shape that may be. -/
import Derived.Test.YtpfabbapfmfmmaaPBothAdd
import Derived.Test.YtpfabbapfmfmmaaPBothMul
import Derived.Test.YtpfabbapfmfmmaaPBothScale
namespace Go.Proofs.Ytpfabbapfmfmmaa
open Go.RowKit

set_option maxRecDepth 100000 in
theorem add_ok (A B A2 B2 : Option Addr) (n c m e n2 c2 e2 : Nat) (xs ys ys2 : List Int) (w : World) (h : Ints w w.heap.size A n xs) (hv : Ints w w.heap.size B m ys) (h2 : Ints w w.heap.size A2 n2 xs) (hv2 : Ints w w.heap.size B2 m ys2)
    (hn : n ≤ 9223372036854775807) (hn2 : n2 ≤ 9223372036854775807) (hck : checkF xs m = 0) :
    Calls Try.prog 41 #[.agg #[.slice A n c, .slice B m e], .agg #[.slice A2 n2 c2, .slice B2 m e2]] w fun x w' => ∃ A1 c1 A3 c3, x = .returned (.tuple #[.agg #[.slice A1 n c1, .slice A3 m c3], .int .i64 0]) ∧
      OwnI w' w.heap.size 3 A1 c1 xs ∧ OwnI w' w.heap.size 2 A3 c3 (List.zipWith (fun x y => wrap64 (x + y)) ys ys2) ∧ Below w.heap.size w w' := by
  have H := fun W (hb : Below w.heap.size w W) => both_ok_add A B A2 B2 n c m e n2 c2 e2 xs ys ys2 W ((h.below hb).more hb.size) ((hv.below hb).more hb.size) ((h2.below hb).more hb.size) ((hv2.below hb).more hb.size) hn hn2 hck
  have hB0 : Below w.heap.size w (((w.alloc (.cells #[.slice A n c, .slice B m e] 41)).alloc (.cells #[.slice A2 n2 c2, .slice B2 m e2] 41)).alloc (.cells #[.slice none 0 0, .slice none 0 0] 41)) := (((Below.refl _ w).alloc (Nat.le_refl _) _).alloc (by simp) _).alloc (by simp; omega) _
  go_enter Try.func41, Try.ntmps41
  go_wp2_with fail
  refine (H _ hB0).mono ?_
  rintro x w1 ⟨A1, c1, A3, c3, rfl, HO, HV, hb1⟩
  have hs1 := hb1.size
  simp only [World.size_alloc] at hs1 HO HV
  obtain ⟨_, k4, k5, f4, f5⟩ := three_boxes (hb1.mono (B' := w.heap.size + 1 + 1 + 1) (by simp))
  go_wp2_with fail
  obtain ⟨e0, e1⟩ := zcells (a := .slice A1 n c1) (b := .slice A3 m c3) k4 k5
  refine bodyPost_ret (v := .tuple #[.agg #[.slice A1 n c1, .slice A3 m c3], .int .i64 0]) (by simp [results, Try.results41, go_sem, e0, e1]) rfl ⟨A1, c1, A3, c3, rfl, ?_, ?_, ?_⟩
  · exact ((HO.far (by omega) _ _).far (by omega) _ _).mono (by omega)
  · exact ((HV.far (by omega) _ _).far (by omega) _ _).mono (by omega)
  · exact ((hB0.trans (hb1.mono hB0.size)).setCell (p := ⟨w.heap.size + 1 + 1, 0, none⟩) (by show _ ≤ w.heap.size + 1 + 1; omega) _).setCell (p := ⟨w.heap.size + 1 + 1, 1, none⟩) (by show _ ≤ w.heap.size + 1 + 1; omega) _

end Go.Proofs.Ytpfabbapfmfmmaa
