/- What box.both leaves behind the statement that makes the sum's tensor, in each order of its three operations. -/
import Derived.Test.YtpjelcghlnmoeaaBoxCells
import Derived.Test.YtpjelcghlnmoeaaOne
namespace Go.Proofs.Ytpjelcghlnmoeaa
open Go.RowKit

theorem OwnI.apart {w : World} {base g bt : Nat} {e : TypeId} {c : Nat} {xs : List Int} (h : OwnI w base e (some ⟨g, 0, none⟩) c xs) (hne : g ≠ bt) (j : Nat) (u : Value) : OwnI (w.setCell ⟨bt, j, none⟩ u) base e (some ⟨g, 0, none⟩) c xs := by
  refine ⟨h.1.kept (row := some bt) ⟨rfl, rfl, rfl, by simp [World.setCell], fun i hi hn => Below.heap_setCell w ⟨bt, j, none⟩ u i (fun e => hn (by rw [e]))⟩ ?_, h.2⟩
  right
  simp only [Value.ownBlock]
  intro he
  injection he with he
  exact hne he
/-- what the statement that makes the sum's tensor leaves -/
def BothCut (w0 wx : World) (bt gv : Nat) (A1 : Option Addr) (c1 : Nat) (xs : List Int) (n m : Nat) : Prop :=
  bt ≠ gv ∧ w0.heap.size ≤ bt ∧ w0.heap.size ≤ gv ∧ wx.cell? ⟨bt, 0, none⟩ = some (.slice A1 n c1) ∧ wx.cell? ⟨bt, 1, none⟩ = some (.slice (some ⟨gv, 0, none⟩) m m) ∧ OwnI wx w0.heap.size 3 A1 c1 xs ∧
    OwnI wx w0.heap.size 2 (some ⟨gv, 0, none⟩) m (List.replicate m 0) ∧ Below w0.heap.size w0 wx
theorem pair_new (w : World) (u v : Value) (t : TypeId) : (w.alloc (.cells #[u, v] t)).cell? ⟨w.heap.size, 0, none⟩ = some u ∧ (w.alloc (.cells #[u, v] t)).cell? ⟨w.heap.size, 1, none⟩ = some v := by
  have k := heap_alloc_new w (.cells #[u, v] t)
  exact ⟨(cell_of_row _ _ 0 _ t (0, 0) k).trans (by simp), (cell_of_row _ _ 1 _ t (0, 0) k).trans (by simp)⟩
/-- the two cells of a block that was there before a quiet call -/
theorem pair_kept {W w1 : World} {u v : Value} {t : TypeId} {g : Nat} (hb : Below W.heap.size W w1) (h : W.heap[g]? = some (.cells #[u, v] t (0, 0))) : w1.cell? ⟨g, 0, none⟩ = some u ∧ w1.cell? ⟨g, 1, none⟩ = some v := by
  have k := (hb.block g (Array.getElem?_eq_some_iff.1 h).1).trans h
  exact ⟨(cell_of_row _ _ 0 _ t (0, 0) k).trans (by simp), (cell_of_row _ _ 1 _ t (0, 0) k).trans (by simp)⟩
section
variable {w0 w : World} {A1 : Option Addr} {c1 n m : Nat} {xs : List Int} {d : TypeId} {u v : Value}
theorem cut_one (hm : m ≤ 100000) (HO : OwnI w w0.drew.heap.size 3 A1 c1 xs) (HB : Below w0.heap.size w0 w) :
    BothCut w0 ((w.alloc (.cells (madeCells #[.int .i64 0] m) 2)).alloc (.cells #[.slice A1 n c1, .slice (some ⟨w.heap.size, 0, none⟩) m m] d)) (w.heap.size + 1) w.heap.size A1 c1 xs n m := by
  have hs : w0.heap.size ≤ w.heap.size := HB.size
  have hp := pair_new (w.alloc (.cells (madeCells #[.int .i64 0] m) 2)) (.slice A1 n c1) (.slice (some ⟨w.heap.size, 0, none⟩) m m) d
  rw [World.size_alloc] at hp
  exact ⟨by omega, by omega, hs, hp.1, hp.2, (HO.alloc _).alloc _, (own_made w _ m _ hs hm).alloc _, (HB.alloc hs _).alloc (by rw [World.size_alloc]; omega) _⟩
theorem cut_two (hm : m ≤ 100000) (HO : OwnI w w0.drew.heap.size 3 A1 c1 xs) (HB : Below w0.heap.size w0 w) :
    BothCut w0 ((w.alloc (.cells #[.slice A1 n c1, .slice (some ⟨w.heap.size + 1, 0, none⟩) m m] d)).alloc (.cells (madeCells #[.int .i64 0] m) 2)) w.heap.size (w.heap.size + 1) A1 c1 xs n m := by
  have hs : w0.heap.size ≤ w.heap.size := HB.size
  have hp := pair_new w (.slice A1 n c1) (.slice (some ⟨w.heap.size + 1, 0, none⟩) m m) d
  have ho := own_made (w.alloc (.cells #[.slice A1 n c1, .slice (some ⟨w.heap.size + 1, 0, none⟩) m m] d)) 2 m w0.heap.size (by rw [World.size_alloc]; omega) hm
  rw [World.size_alloc] at ho
  exact ⟨by omega, hs, by omega, cellPast _ hp.1, cellPast _ hp.2, (HO.alloc _).alloc _, ho, (HB.alloc hs _).alloc (by rw [World.size_alloc]; omega) _⟩
theorem cut_three (hm : m ≤ 100000) (HO : OwnI w (w0.alloc (.cells (madeCells #[.int .i64 0] m) 2)).drew.heap.size 3 A1 c1 xs)
    (HB : Below (w0.alloc (.cells (madeCells #[.int .i64 0] m) 2)).drew.heap.size (w0.alloc (.cells (madeCells #[.int .i64 0] m) 2)).drew w) (H5 : Below w0.heap.size w0 w) :
    BothCut w0 (w.alloc (.cells #[.slice A1 n c1, .slice (some ⟨w0.heap.size, 0, none⟩) m m] d)) w.heap.size w0.heap.size A1 c1 xs n m := by
  have hz : (w0.alloc (.cells (madeCells #[.int .i64 0] m) 2)).drew.heap.size = w0.heap.size + 1 := World.size_alloc _ _
  have hs : w0.heap.size + 1 ≤ w.heap.size := by rw [← hz]; exact HB.size
  have hp := pair_new w (.slice A1 n c1) (.slice (some ⟨w0.heap.size, 0, none⟩) m m) d
  exact ⟨by omega, by omega, Nat.le_refl _, hp.1, hp.2, (HO.mono (by rw [hz]; omega)).alloc _, ((own_made w0 _ m _ (Nat.le_refl _) hm).drew.below HB (Nat.le_refl _)).alloc _, H5.alloc (by omega) _⟩
theorem cut_four (hm : m ≤ 100000) (HO : OwnI w ((w0.alloc (.cells (madeCells #[.int .i64 0] m) 2)).alloc (.cells #[u, v] d)).drew.heap.size 3 A1 c1 xs)
    (HB : Below ((w0.alloc (.cells (madeCells #[.int .i64 0] m) 2)).alloc (.cells #[u, v] d)).drew.heap.size ((w0.alloc (.cells (madeCells #[.int .i64 0] m) 2)).alloc (.cells #[u, v] d)).drew w) (H5 : Below w0.heap.size w0 w) :
    BothCut w0 ((w.setCell ⟨w0.heap.size + 1, 0, none⟩ (.slice A1 n c1)).setCell ⟨w0.heap.size + 1, 1, none⟩ (.slice (some ⟨w0.heap.size, 0, none⟩) m m)) (w0.heap.size + 1) w0.heap.size A1 c1 xs n m := by
  have hz : ((w0.alloc (.cells (madeCells #[.int .i64 0] m) 2)).alloc (.cells #[u, v] d)).drew.heap.size = w0.heap.size + 1 + 1 := by
    show ((w0.alloc _).alloc _).heap.size = _
    rw [World.size_alloc, World.size_alloc]
  have hk := heap_alloc_new (w0.alloc (.cells (madeCells #[.int .i64 0] m) 2)) (.cells #[u, v] d)
  rw [World.size_alloc] at hk
  have hp := pair_kept (W := ((w0.alloc (.cells (madeCells #[.int .i64 0] m) 2)).alloc (.cells #[u, v] d)).drew) HB hk
  have hq := zcells (a := .slice A1 n c1) (b := .slice (some ⟨w0.heap.size, 0, none⟩) m m) hp.1 hp.2
  have hr : OwnI w w0.heap.size 2 (some ⟨w0.heap.size, 0, none⟩) m (List.replicate m 0) := ((own_made w0 _ m _ (Nat.le_refl _) hm).alloc _).drew.below HB (Nat.le_refl _)
  exact ⟨by omega, by omega, Nat.le_refl _, hq.1, hq.2, ((HO.far (by rw [hz]; omega) _ _).far (by rw [hz]; omega) _ _).mono (by rw [hz]; omega), (hr.apart (by omega) _ _).apart (by omega) _ _, (H5.setCell (by show _ ≤ w0.heap.size + 1; omega) _).setCell (by show _ ≤ w0.heap.size + 1; omega) _⟩
theorem cut_five (hm : m ≤ 100000) (HO : OwnI w (w0.alloc (.cells #[u, v] d)).drew.heap.size 3 A1 c1 xs)
    (HB : Below (w0.alloc (.cells #[u, v] d)).drew.heap.size (w0.alloc (.cells #[u, v] d)).drew w) (H5 : Below w0.heap.size w0 w) :
    BothCut w0 (((w.setCell ⟨w0.heap.size, 0, none⟩ (.slice A1 n c1)).setCell ⟨w0.heap.size, 1, none⟩ (.slice (some ⟨w.heap.size, 0, none⟩) m m)).alloc (.cells (madeCells #[.int .i64 0] m) 2)) w0.heap.size w.heap.size A1 c1 xs n m := by
  have hz : (w0.alloc (.cells #[u, v] d)).drew.heap.size = w0.heap.size + 1 := World.size_alloc _ _
  have hs : w0.heap.size + 1 ≤ w.heap.size := by rw [← hz]; exact HB.size
  have hp := pair_kept (W := (w0.alloc (.cells #[u, v] d)).drew) HB (heap_alloc_new w0 _)
  have hq := zcells (a := .slice A1 n c1) (b := .slice (some ⟨w.heap.size, 0, none⟩) m m) hp.1 hp.2
  have hsz : ((w.setCell ⟨w0.heap.size, 0, none⟩ (.slice A1 n c1)).setCell ⟨w0.heap.size, 1, none⟩ (.slice (some ⟨w.heap.size, 0, none⟩) m m)).heap.size = w.heap.size := by simp [World.setCell]
  have ho := own_made ((w.setCell ⟨w0.heap.size, 0, none⟩ (.slice A1 n c1)).setCell ⟨w0.heap.size, 1, none⟩ (.slice (some ⟨w.heap.size, 0, none⟩) m m)) 2 m w0.heap.size (by rw [hsz]; omega) hm
  rw [hsz] at ho
  exact ⟨by omega, Nat.le_refl _, by omega, cellPast _ hq.1, cellPast _ hq.2, (((HO.far (by rw [hz]; omega) _ _).far (by rw [hz]; omega) _ _).mono (by rw [hz]; omega)).alloc _, ho, ((H5.setCell (Nat.le_refl _) _).setCell (Nat.le_refl _) _).alloc (by rw [hsz]; omega) _⟩
theorem cut_six (hm : m ≤ 100000) (HO : OwnI w ((w0.alloc (.cells #[u, v] d)).alloc (.cells (madeCells #[.int .i64 0] m) 2)).drew.heap.size 3 A1 c1 xs)
    (HB : Below ((w0.alloc (.cells #[u, v] d)).alloc (.cells (madeCells #[.int .i64 0] m) 2)).drew.heap.size ((w0.alloc (.cells #[u, v] d)).alloc (.cells (madeCells #[.int .i64 0] m) 2)).drew w) (H5 : Below w0.heap.size w0 w) :
    BothCut w0 ((w.setCell ⟨w0.heap.size, 0, none⟩ (.slice A1 n c1)).setCell ⟨w0.heap.size, 1, none⟩ (.slice (some ⟨w0.heap.size + 1, 0, none⟩) m m)) w0.heap.size (w0.heap.size + 1) A1 c1 xs n m := by
  have hz : ((w0.alloc (.cells #[u, v] d)).alloc (.cells (madeCells #[.int .i64 0] m) 2)).drew.heap.size = w0.heap.size + 1 + 1 := by
    show ((w0.alloc _).alloc _).heap.size = _
    rw [World.size_alloc, World.size_alloc]
  have hk := (Below.heap_alloc (w0.alloc (.cells #[u, v] d)) (.cells (madeCells #[.int .i64 0] m) 2) w0.heap.size (by rw [World.size_alloc]; omega)).trans (heap_alloc_new w0 (.cells #[u, v] d))
  have hp := pair_kept (W := ((w0.alloc (.cells #[u, v] d)).alloc (.cells (madeCells #[.int .i64 0] m) 2)).drew) HB hk
  have hq := zcells (a := .slice A1 n c1) (b := .slice (some ⟨w0.heap.size + 1, 0, none⟩) m m) hp.1 hp.2
  have hr := own_made (w0.alloc (.cells #[u, v] d)) 2 m w0.heap.size (by rw [World.size_alloc]; omega) hm
  rw [World.size_alloc] at hr
  have hr := hr.drew.below HB (Nat.le_refl _)
  exact ⟨by omega, Nat.le_refl _, by omega, hq.1, hq.2, ((HO.far (by rw [hz]; omega) _ _).far (by rw [hz]; omega) _ _).mono (by rw [hz]; omega), (hr.apart (by omega) _ _).apart (by omega) _ _, (H5.setCell (Nat.le_refl _) _).setCell (Nat.le_refl _) _⟩
end
end Go.Proofs.Ytpjelcghlnmoeaa
