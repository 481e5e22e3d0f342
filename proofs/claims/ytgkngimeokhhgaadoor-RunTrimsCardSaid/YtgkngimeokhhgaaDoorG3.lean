/- What box.both leaves behind the statement that makes the sum's tensor, in each order of its three operations. -/
import Derived.Test.YtgkngimeokhhgaaDoorG2
import Derived.StillTailTactics
import Derived.Deep.DeepCutAuto
import Derived.Deep.RegionHeld3
import Derived.Test.YtgkngimeokhhgaaDoorG1
import Derived.Lib.Walk
import Derived.Lib.SliceRun
import Derived.Lib.AppendZerosOnto
namespace Go.Proofs.YtgkngimeokhhgaaDoor
open Go.RowKit

theorem OwnI.apart {w : World} {base g bt : Nat} {e : TypeId} {c : Nat} {xs : List Int} (h : OwnI w base e (some ⟨g, 0, none⟩) c xs) (hne : g ≠ bt) (j : Nat) (u : Value) : OwnI (w.setCell ⟨bt, j, none⟩ u) base e (some ⟨g, 0, none⟩) c xs := by
  refine ⟨h.1.kept (row := some bt) ⟨rfl, rfl, rfl, by simp [World.setCell], fun i hi hn => Below.heap_setCell w ⟨bt, j, none⟩ u i (fun e => hn (by rw [e]))⟩ ?_, h.2⟩
  right
  simp only [Value.ownBlock]
  intro he
  injection he with he
  exact hne he
/-- what the statement that makes the sum's tensor leaves -/
def BothCut (w0 wx : World) (bt gv : Nat) (A1 : Option Addr) (c1 : Nat) (xs : List Int) (n m : Nat) : Prop :=
  bt ≠ gv ∧ w0.heap.size ≤ bt ∧ w0.heap.size ≤ gv ∧ wx.cell? ⟨bt, 0, none⟩ = some (.slice A1 n c1) ∧ wx.cell? ⟨bt, 1, none⟩ = some (.slice (some ⟨gv, 0, none⟩) m m) ∧ OwnI wx w0.heap.size 3 A1 c1 xs ∧
    OwnI wx w0.heap.size 2 (some ⟨gv, 0, none⟩) m (List.replicate m 0) ∧ Below w0.heap.size w0 wx
theorem pair_new (w : World) (u v : Value) (t : TypeId) : (w.alloc (.cells #[u, v] t)).cell? ⟨w.heap.size, 0, none⟩ = some u ∧ (w.alloc (.cells #[u, v] t)).cell? ⟨w.heap.size, 1, none⟩ = some v := by
  have k := heap_alloc_new w (.cells #[u, v] t)
  exact ⟨(cell_of_row _ _ 0 _ t (0, 0) k).trans (by simp), (cell_of_row _ _ 1 _ t (0, 0) k).trans (by simp)⟩
/-- the two cells of a block that was there before a quiet call -/
theorem pair_kept {W w1 : World} {u v : Value} {t : TypeId} {g : Nat} (hb : Below W.heap.size W w1) (h : W.heap[g]? = some (.cells #[u, v] t (0, 0))) : w1.cell? ⟨g, 0, none⟩ = some u ∧ w1.cell? ⟨g, 1, none⟩ = some v := by
  have k := (hb.block g (Array.getElem?_eq_some_iff.1 h).1).trans h
  exact ⟨(cell_of_row _ _ 0 _ t (0, 0) k).trans (by simp), (cell_of_row _ _ 1 _ t (0, 0) k).trans (by simp)⟩
section
variable {w0 w : World} {A1 : Option Addr} {c1 n m : Nat} {xs : List Int} {d : TypeId} {u v : Value}
theorem cut_one (hm : m ≤ 100000) (HO : OwnI w w0.drew.heap.size 3 A1 c1 xs) (HB : Below w0.heap.size w0 w) :
    BothCut w0 ((w.alloc (.cells (madeCells #[.int .i64 0] m) 2)).alloc (.cells #[.slice A1 n c1, .slice (some ⟨w.heap.size, 0, none⟩) m m] d)) (w.heap.size + 1) w.heap.size A1 c1 xs n m := by
  have hs : w0.heap.size ≤ w.heap.size := HB.size
  have hp := pair_new (w.alloc (.cells (madeCells #[.int .i64 0] m) 2)) (.slice A1 n c1) (.slice (some ⟨w.heap.size, 0, none⟩) m m) d
  rw [World.size_alloc] at hp
  exact ⟨by omega, by omega, hs, hp.1, hp.2, (HO.alloc _).alloc _, (own_made w _ m _ hs hm).alloc _, (HB.alloc hs _).alloc (by rw [World.size_alloc]; omega) _⟩
theorem cut_two (hm : m ≤ 100000) (HO : OwnI w w0.drew.heap.size 3 A1 c1 xs) (HB : Below w0.heap.size w0 w) :
    BothCut w0 ((w.alloc (.cells #[.slice A1 n c1, .slice (some ⟨w.heap.size + 1, 0, none⟩) m m] d)).alloc (.cells (madeCells #[.int .i64 0] m) 2)) w.heap.size (w.heap.size + 1) A1 c1 xs n m := by
  have hs : w0.heap.size ≤ w.heap.size := HB.size
  have hp := pair_new w (.slice A1 n c1) (.slice (some ⟨w.heap.size + 1, 0, none⟩) m m) d
  have ho := own_made (w.alloc (.cells #[.slice A1 n c1, .slice (some ⟨w.heap.size + 1, 0, none⟩) m m] d)) 2 m w0.heap.size (by rw [World.size_alloc]; omega) hm
  rw [World.size_alloc] at ho
  exact ⟨by omega, hs, by omega, cellPast _ hp.1, cellPast _ hp.2, (HO.alloc _).alloc _, ho, (HB.alloc hs _).alloc (by rw [World.size_alloc]; omega) _⟩
theorem cut_three (hm : m ≤ 100000) (HO : OwnI w (w0.alloc (.cells (madeCells #[.int .i64 0] m) 2)).drew.heap.size 3 A1 c1 xs)
    (HB : Below (w0.alloc (.cells (madeCells #[.int .i64 0] m) 2)).drew.heap.size (w0.alloc (.cells (madeCells #[.int .i64 0] m) 2)).drew w) (H5 : Below w0.heap.size w0 w) :
    BothCut w0 (w.alloc (.cells #[.slice A1 n c1, .slice (some ⟨w0.heap.size, 0, none⟩) m m] d)) w.heap.size w0.heap.size A1 c1 xs n m := by
  have hz : (w0.alloc (.cells (madeCells #[.int .i64 0] m) 2)).drew.heap.size = w0.heap.size + 1 := World.size_alloc _ _
  have hs : w0.heap.size + 1 ≤ w.heap.size := by rw [← hz]; exact HB.size
  have hp := pair_new w (.slice A1 n c1) (.slice (some ⟨w0.heap.size, 0, none⟩) m m) d
  exact ⟨by omega, by omega, Nat.le_refl _, hp.1, hp.2, (HO.mono (by rw [hz]; omega)).alloc _, ((own_made w0 _ m _ (Nat.le_refl _) hm).drew.below HB (Nat.le_refl _)).alloc _, H5.alloc (by omega) _⟩
theorem cut_four (hm : m ≤ 100000) (HO : OwnI w ((w0.alloc (.cells (madeCells #[.int .i64 0] m) 2)).alloc (.cells #[u, v] d)).drew.heap.size 3 A1 c1 xs)
    (HB : Below ((w0.alloc (.cells (madeCells #[.int .i64 0] m) 2)).alloc (.cells #[u, v] d)).drew.heap.size ((w0.alloc (.cells (madeCells #[.int .i64 0] m) 2)).alloc (.cells #[u, v] d)).drew w) (H5 : Below w0.heap.size w0 w) :
    BothCut w0 ((w.setCell ⟨w0.heap.size + 1, 0, none⟩ (.slice A1 n c1)).setCell ⟨w0.heap.size + 1, 1, none⟩ (.slice (some ⟨w0.heap.size, 0, none⟩) m m)) (w0.heap.size + 1) w0.heap.size A1 c1 xs n m := by
  have hz : ((w0.alloc (.cells (madeCells #[.int .i64 0] m) 2)).alloc (.cells #[u, v] d)).drew.heap.size = w0.heap.size + 1 + 1 := by
    show ((w0.alloc _).alloc _).heap.size = _
    rw [World.size_alloc, World.size_alloc]
  have hk := heap_alloc_new (w0.alloc (.cells (madeCells #[.int .i64 0] m) 2)) (.cells #[u, v] d)
  rw [World.size_alloc] at hk
  have hp := pair_kept (W := ((w0.alloc (.cells (madeCells #[.int .i64 0] m) 2)).alloc (.cells #[u, v] d)).drew) HB hk
  have hq := zcells (a := .slice A1 n c1) (b := .slice (some ⟨w0.heap.size, 0, none⟩) m m) hp.1 hp.2
  have hr : OwnI w w0.heap.size 2 (some ⟨w0.heap.size, 0, none⟩) m (List.replicate m 0) := ((own_made w0 _ m _ (Nat.le_refl _) hm).alloc _).drew.below HB (Nat.le_refl _)
  exact ⟨by omega, by omega, Nat.le_refl _, hq.1, hq.2, ((HO.far (by rw [hz]; omega) _ _).far (by rw [hz]; omega) _ _).mono (by rw [hz]; omega), (hr.apart (by omega) _ _).apart (by omega) _ _, (H5.setCell (by show _ ≤ w0.heap.size + 1; omega) _).setCell (by show _ ≤ w0.heap.size + 1; omega) _⟩
theorem cut_five (hm : m ≤ 100000) (HO : OwnI w (w0.alloc (.cells #[u, v] d)).drew.heap.size 3 A1 c1 xs)
    (HB : Below (w0.alloc (.cells #[u, v] d)).drew.heap.size (w0.alloc (.cells #[u, v] d)).drew w) (H5 : Below w0.heap.size w0 w) :
    BothCut w0 (((w.setCell ⟨w0.heap.size, 0, none⟩ (.slice A1 n c1)).setCell ⟨w0.heap.size, 1, none⟩ (.slice (some ⟨w.heap.size, 0, none⟩) m m)).alloc (.cells (madeCells #[.int .i64 0] m) 2)) w0.heap.size w.heap.size A1 c1 xs n m := by
  have hz : (w0.alloc (.cells #[u, v] d)).drew.heap.size = w0.heap.size + 1 := World.size_alloc _ _
  have hs : w0.heap.size + 1 ≤ w.heap.size := by rw [← hz]; exact HB.size
  have hp := pair_kept (W := (w0.alloc (.cells #[u, v] d)).drew) HB (heap_alloc_new w0 _)
  have hq := zcells (a := .slice A1 n c1) (b := .slice (some ⟨w.heap.size, 0, none⟩) m m) hp.1 hp.2
  have hsz : ((w.setCell ⟨w0.heap.size, 0, none⟩ (.slice A1 n c1)).setCell ⟨w0.heap.size, 1, none⟩ (.slice (some ⟨w.heap.size, 0, none⟩) m m)).heap.size = w.heap.size := by simp [World.setCell]
  have ho := own_made ((w.setCell ⟨w0.heap.size, 0, none⟩ (.slice A1 n c1)).setCell ⟨w0.heap.size, 1, none⟩ (.slice (some ⟨w.heap.size, 0, none⟩) m m)) 2 m w0.heap.size (by rw [hsz]; omega) hm
  rw [hsz] at ho
  exact ⟨by omega, Nat.le_refl _, by omega, cellPast _ hq.1, cellPast _ hq.2, (((HO.far (by rw [hz]; omega) _ _).far (by rw [hz]; omega) _ _).mono (by rw [hz]; omega)).alloc _, ho, ((H5.setCell (Nat.le_refl _) _).setCell (Nat.le_refl _) _).alloc (by rw [hsz]; omega) _⟩
theorem cut_six (hm : m ≤ 100000) (HO : OwnI w ((w0.alloc (.cells #[u, v] d)).alloc (.cells (madeCells #[.int .i64 0] m) 2)).drew.heap.size 3 A1 c1 xs)
    (HB : Below ((w0.alloc (.cells #[u, v] d)).alloc (.cells (madeCells #[.int .i64 0] m) 2)).drew.heap.size ((w0.alloc (.cells #[u, v] d)).alloc (.cells (madeCells #[.int .i64 0] m) 2)).drew w) (H5 : Below w0.heap.size w0 w) :
    BothCut w0 ((w.setCell ⟨w0.heap.size, 0, none⟩ (.slice A1 n c1)).setCell ⟨w0.heap.size, 1, none⟩ (.slice (some ⟨w0.heap.size + 1, 0, none⟩) m m)) w0.heap.size (w0.heap.size + 1) A1 c1 xs n m := by
  have hz : ((w0.alloc (.cells #[u, v] d)).alloc (.cells (madeCells #[.int .i64 0] m) 2)).drew.heap.size = w0.heap.size + 1 + 1 := by
    show ((w0.alloc _).alloc _).heap.size = _
    rw [World.size_alloc, World.size_alloc]
  have hk := (Below.heap_alloc (w0.alloc (.cells #[u, v] d)) (.cells (madeCells #[.int .i64 0] m) 2) w0.heap.size (by rw [World.size_alloc]; omega)).trans (heap_alloc_new w0 (.cells #[u, v] d))
  have hp := pair_kept (W := ((w0.alloc (.cells #[u, v] d)).alloc (.cells (madeCells #[.int .i64 0] m) 2)).drew) HB hk
  have hq := zcells (a := .slice A1 n c1) (b := .slice (some ⟨w0.heap.size + 1, 0, none⟩) m m) hp.1 hp.2
  have hr := own_made (w0.alloc (.cells #[u, v] d)) 2 m w0.heap.size (by rw [World.size_alloc]; omega) hm
  rw [World.size_alloc] at hr
  have hr := hr.drew.below HB (Nat.le_refl _)
  exact ⟨by omega, Nat.le_refl _, by omega, hq.1, hq.2, ((HO.far (by rw [hz]; omega) _ _).far (by rw [hz]; omega) _ _).mono (by rw [hz]; omega), (hr.apart (by omega) _ _).apart (by omega) _ _, (H5.setCell (Nat.le_refl _) _).setCell (Nat.le_refl _) _⟩
end
end Go.Proofs.YtgkngimeokhhgaaDoor
/- The contract of box.both at each closure that box hands it (Add's, Mul's, Scale's), where both tensors may be and have one shape; and where they may not. -/
namespace Go.Proofs.YtgkngimeokhhgaaDoor
open Go.RowKit

theorem OwnI.other {w : World} {base gv : Nat} {e e' : TypeId} {A : Option Addr} {c : Nat} {xs : List Int} {cs : Array Value} {fr : Nat × Nat} (h : OwnI w base e A c xs) (hg : w.heap[gv]? = some (.cells cs e' fr)) (hne : e ≠ e') (j : Nat) (u : Value) : OwnI (w.setCell ⟨gv, j, none⟩ u) base e A c xs := by
  refine ⟨h.1.kept (row := some gv) ⟨rfl, rfl, rfl, by simp [World.setCell], fun i hi hn => Below.heap_setCell w ⟨gv, j, none⟩ u i (fun e => hn (by rw [e]))⟩ ?_, h.2⟩
  rcases h.1.2 with ⟨h1, _⟩ | ⟨g, cap, cur, h1, _, hh, _⟩
  · left; rw [h1]; rfl
  · right
    rw [h1]
    intro he
    have hgg : g = gv := by injection he
    subst hgg
    rw [hh] at hg
    injection hg with hg
    injection hg with _ ht _
    exact hne ht
theorem OwnI.other_ {w : World} {base base2 gv c2 : Nat} {e e' : TypeId} {A : Option Addr} {c : Nat} {xs zs : List Int} (h : OwnI w base e A c xs) (h2 : OwnI w base2 e' (some ⟨gv, 0, none⟩) c2 zs) (hne : e ≠ e') (j : Nat) (u : Value) : OwnI (w.setCell ⟨gv, j, none⟩ u) base e A c xs := by
  rcases h2.1.2 with ⟨h1, _⟩ | ⟨g, cap, cur, h1, _, hh, _⟩
  · injection h1 with h1
    cases h1
  · injection h1 with h1
    injection h1 with h1
    injection h1 with h1
    subst h1
    exact h.other hh hne j u
theorem wrap64_range (n : Int) : -9223372036854775808 ≤ wrap64 n ∧ wrap64 n ≤ 9223372036854775807 := by unfold wrap64; omega
theorem fill_set {Z : List Int} {m k : Nat} {v : Int} (hZ : Z.length = m) (hv : Z[k]? = some v) : (Z.take k ++ List.replicate (m - k) 0).set k v = Z.take (k + 1) ++ List.replicate (m - (k + 1)) 0 := by
  have hk : k < Z.length := (List.getElem?_eq_some_iff.1 hv).1
  rw [take_succ_of hv, show m - k = (m - (k + 1)) + 1 by omega, List.replicate_succ, List.set_append_right _ _ (by rw [List.length_take]; omega), List.length_take, Nat.min_eq_left (by omega), Nat.sub_self]
  simp
theorem zf_core {W w1 : World} {u v : Value} {t : TypeId} {g : Nat} (h : W.heap[g]? = some (.cells #[u, v] t (0, 0))) (hb : Below W.heap.size W w1) :
    w1.cell? ⟨g, 0, none⟩ = some u ∧ w1.cell? ⟨g, 1, none⟩ = some v ∧ w1.frozen? ⟨g, 0, none⟩ = false ∧ w1.frozen? ⟨g, 1, none⟩ = false ∧ g < w1.heap.size := by
  have k := (hb.block g (Array.getElem?_eq_some_iff.1 h).1).trans h
  exact ⟨by simpa using cell_of_row _ _ 0 _ t (0, 0) k, by simpa using cell_of_row _ _ 1 _ t (0, 0) k, by simp [World.frozen?, k], by simp [World.frozen?, k], Nat.lt_of_lt_of_le (Array.getElem?_eq_some_iff.1 h).1 hb.size⟩
theorem far_two {W : World} {g g' : Nat} {u v a b : Value} (hne : g < g') (h0 : W.cell? ⟨g, 0, none⟩ = some u) (h1 : W.cell? ⟨g, 1, none⟩ = some v) :
    ((W.setCell ⟨g', 0, none⟩ a).setCell ⟨g', 1, none⟩ b).cell? ⟨g, 0, none⟩ = some u ∧ ((W.setCell ⟨g', 0, none⟩ a).setCell ⟨g', 1, none⟩ b).cell? ⟨g, 1, none⟩ = some v :=
  ⟨(World.cell?_setCell_other _ _ ⟨g, 0, none⟩ _ (by simp)).trans ((World.cell?_setCell_other _ _ ⟨g, 0, none⟩ _ (by simp <;> omega)).trans h0),
   (World.cell?_setCell_other _ _ ⟨g, 1, none⟩ _ (by simp <;> omega)).trans ((World.cell?_setCell_other _ _ ⟨g, 1, none⟩ _ (by simp <;> omega)).trans h1)⟩
theorem far_two_past {W : World} {g g' : Nat} {u v a b : Value} (hne : g < g') (h0 : W.cell? ⟨g, 0, none⟩ = some u) (h1 : W.cell? ⟨g, 1, none⟩ = some v) (o : Obj) :
    (((W.setCell ⟨g', 0, none⟩ a).setCell ⟨g', 1, none⟩ b).alloc o).cell? ⟨g, 0, none⟩ = some u ∧ (((W.setCell ⟨g', 0, none⟩ a).setCell ⟨g', 1, none⟩ b).alloc o).cell? ⟨g, 1, none⟩ = some v :=
  ⟨cellPast _ (far_two hne h0 h1).1, cellPast _ (far_two hne h0 h1).2⟩
theorem zf_pair {W w1 : World} {u v : Value} {t : TypeId} {g : Nat} (hb : Below W.heap.size W w1) (h : W.heap[g]? = some (.cells #[u, v] t (0, 0))) :
    w1.cell? ⟨g, 0, none⟩ = some u ∧ w1.cell? ⟨g, 1, none⟩ = some v ∧ w1.frozen? ⟨g, 0, none⟩ = false ∧ w1.frozen? ⟨g, 1, none⟩ = false ∧ g < w1.heap.size := zf_core h hb
theorem zf_two (w : World) (o o' : Obj) : ((w.alloc o).alloc o').heap[w.heap.size]? = some o := (Below.heap_alloc _ o' _ (by simp)).trans (heap_alloc_new w o)
theorem zf_snd (w : World) (o o' : Obj) : ((w.alloc o').alloc o).heap[w.heap.size + 1]? = some o := by
  have := heap_alloc_new (w.alloc o') o; rwa [World.size_alloc] at this
theorem zfa {w w1 : World} {u v : Value} {t : TypeId} (hb : Below (w.alloc (.cells #[u, v] t)).drew.heap.size (w.alloc (.cells #[u, v] t)).drew w1) :
    w1.cell? ⟨w.heap.size, 0, none⟩ = some u ∧ w1.cell? ⟨w.heap.size, 1, none⟩ = some v ∧ w1.frozen? ⟨w.heap.size, 0, none⟩ = false ∧ w1.frozen? ⟨w.heap.size, 1, none⟩ = false ∧ w.heap.size < w1.heap.size :=
  zf_core (W := (w.alloc (.cells #[u, v] t)).drew) (heap_alloc_new w _) hb
theorem zfb {w w1 : World} {u v : Value} {t : TypeId} {o : Obj} (hb : Below ((w.alloc (.cells #[u, v] t)).alloc o).drew.heap.size ((w.alloc (.cells #[u, v] t)).alloc o).drew w1) :
    w1.cell? ⟨w.heap.size, 0, none⟩ = some u ∧ w1.cell? ⟨w.heap.size, 1, none⟩ = some v ∧ w1.frozen? ⟨w.heap.size, 0, none⟩ = false ∧ w1.frozen? ⟨w.heap.size, 1, none⟩ = false ∧ w.heap.size < w1.heap.size :=
  zf_core (W := ((w.alloc (.cells #[u, v] t)).alloc o).drew) ((Below.heap_alloc _ o _ (by simp)).trans (heap_alloc_new w (.cells #[u, v] t))) hb
theorem zfc {w w1 : World} {u v : Value} {t : TypeId} {o : Obj} (hb : Below ((w.alloc o).alloc (.cells #[u, v] t)).drew.heap.size ((w.alloc o).alloc (.cells #[u, v] t)).drew w1) :
    w1.cell? ⟨w.heap.size + 1, 0, none⟩ = some u ∧ w1.cell? ⟨w.heap.size + 1, 1, none⟩ = some v ∧ w1.frozen? ⟨w.heap.size + 1, 0, none⟩ = false ∧ w1.frozen? ⟨w.heap.size + 1, 1, none⟩ = false ∧ w.heap.size + 1 < w1.heap.size := by
  have := zf_core (W := ((w.alloc o).alloc (.cells #[u, v] t)).drew) (heap_alloc_new (w.alloc o) (.cells #[u, v] t)) hb
  rw [World.size_alloc] at this
  exact this
theorem zf0 {w w1 : World} (_ : Below w.drew.heap.size w.drew w1) (_ : w = w := rfl) : True := trivial
theorem zf1 {w w1 : World} {z : Array Value} {m : Nat} {t : TypeId} (_ : Below (w.alloc (.cells (madeCells z m) t)).drew.heap.size (w.alloc (.cells (madeCells z m) t)).drew w1) : True := trivial
theorem newPair (w : World) (u v : Value) (t : TypeId) (o : Obj) : ((w.alloc (.cells #[u, v] t)).alloc o).cell? ⟨w.heap.size, 0, none⟩ = some u ∧ ((w.alloc (.cells #[u, v] t)).alloc o).cell? ⟨w.heap.size, 1, none⟩ = some v ∧
    ((w.alloc (.cells #[u, v] t)).alloc o).frozen? ⟨w.heap.size, 0, none⟩ = false ∧ ((w.alloc (.cells #[u, v] t)).alloc o).frozen? ⟨w.heap.size, 1, none⟩ = false := by
  have k : ((w.alloc (.cells #[u, v] t)).alloc o).heap[w.heap.size]? = some (.cells #[u, v] t (0, 0)) := (Below.heap_alloc _ o _ (by simp)).trans (heap_alloc_new w (.cells #[u, v] t))
  exact ⟨(cell_of_row _ _ 0 _ t (0, 0) k).trans (by simp), (cell_of_row _ _ 1 _ t (0, 0) k).trans (by simp), by simp [World.frozen?, k], by simp [World.frozen?, k]⟩
theorem three_boxes {w w1 : World} {a b c d e f : Value} {t : TypeId} (hb : Below (w.heap.size + 1 + 1 + 1) (((w.alloc (.cells #[a, b] t)).alloc (.cells #[c, d] t)).alloc (.cells #[e, f] t)) w1) :
    (w1.cell? ⟨w.heap.size, 0, none⟩ = some a ∧ w1.cell? ⟨w.heap.size, 1, none⟩ = some b ∧ w1.cell? ⟨w.heap.size + 1, 0, none⟩ = some c ∧ w1.cell? ⟨w.heap.size + 1, 1, none⟩ = some d) ∧
      w1.cell? ⟨w.heap.size + 1 + 1, 0, none⟩ = some e ∧ w1.cell? ⟨w.heap.size + 1 + 1, 1, none⟩ = some f ∧ w1.frozen? ⟨w.heap.size + 1 + 1, 0, none⟩ = false ∧ w1.frozen? ⟨w.heap.size + 1 + 1, 1, none⟩ = false := by
  have h0 := two_boxes (w := w) (a := a) (b := b) (c := c) (d := d) (t := t) (w1 := w1) (((Below.refl _ _).alloc (Nat.le_refl _) _).trans (hb.mono (by simp)))
  have h3 : (((w.alloc (.cells #[a, b] t)).alloc (.cells #[c, d] t)).alloc (.cells #[e, f] t)).heap[w.heap.size + 1 + 1]? = some (.cells #[e, f] t (0, 0)) := by
    have := heap_alloc_new ((w.alloc (.cells #[a, b] t)).alloc (.cells #[c, d] t)) (.cells #[e, f] t); simpa using this
  have k := (hb.block (w.heap.size + 1 + 1) (by omega)).trans h3
  exact ⟨h0, by simpa using cell_of_row _ _ 0 _ t (0, 0) k, by simpa using cell_of_row _ _ 1 _ t (0, 0) k, by simp [World.frozen?, k], by simp [World.frozen?, k]⟩
end Go.Proofs.YtgkngimeokhhgaaDoor
/- Sums and products of 64-bit cells make a ring. -/
namespace Go.Proofs.YtgkngimeokhhgaaDoor
open Go.RowKit

def addL (a b : List Int) : List Int := List.zipWith (fun x y => wrap64 (x + y)) a b
def mulL (a b : List Int) : List Int := List.zipWith (fun x y => wrap64 (x * y)) a b
def negL (a : List Int) : List Int := List.zipWith (fun x _ => wrap64 (x * (-1))) a a
theorem wrap64_more (a k : Int) : wrap64 (a + k * 18446744073709551616) = wrap64 a := by unfold wrap64; omega
theorem wrap64_off (a : Int) : ∃ k : Int, wrap64 a = a + k * 18446744073709551616 := ⟨-((a + 9223372036854775808) / 18446744073709551616), by unfold wrap64; omega⟩
theorem wrap_add_l (a b : Int) : wrap64 (wrap64 a + b) = wrap64 (a + b) := by
  obtain ⟨k, hk⟩ := wrap64_off a
  rw [hk, show a + k * 18446744073709551616 + b = a + b + k * 18446744073709551616 by omega, wrap64_more]
theorem wrap_add_r (a b : Int) : wrap64 (a + wrap64 b) = wrap64 (a + b) := by rw [Int.add_comm, wrap_add_l, Int.add_comm]
theorem wrap_mul_l (a b : Int) : wrap64 (wrap64 a * b) = wrap64 (a * b) := by
  obtain ⟨k, hk⟩ := wrap64_off a
  rw [hk, Int.add_mul, Int.mul_assoc, Int.mul_comm 18446744073709551616 b, ← Int.mul_assoc, wrap64_more]
theorem wrap_mul_r (a b : Int) : wrap64 (a * wrap64 b) = wrap64 (a * b) := by rw [Int.mul_comm, wrap_mul_l, Int.mul_comm]
theorem addL_comm : ∀ a b : List Int, addL a b = addL b a
  | [], [] => rfl
  | [], _ :: _ => rfl
  | _ :: _, [] => rfl
  | x :: a, y :: b => by have := addL_comm a b; simp only [addL, List.zipWith_cons_cons] at this ⊢; rw [this, Int.add_comm]
theorem mulL_comm : ∀ a b : List Int, mulL a b = mulL b a
  | [], [] => rfl
  | [], _ :: _ => rfl
  | _ :: _, [] => rfl
  | x :: a, y :: b => by have := mulL_comm a b; simp only [mulL, List.zipWith_cons_cons] at this ⊢; rw [this, Int.mul_comm]
theorem addL_assoc : ∀ a b c : List Int, addL (addL a b) c = addL a (addL b c)
  | [], _, _ => by simp [addL]
  | _ :: _, [], _ => by simp [addL]
  | _ :: _, _ :: _, [] => by simp [addL]
  | x :: a, y :: b, z :: c => by have := addL_assoc a b c; simp only [addL, List.zipWith_cons_cons] at this ⊢; rw [this, wrap_add_l, wrap_add_r, Int.add_assoc]
theorem mulL_assoc : ∀ a b c : List Int, mulL (mulL a b) c = mulL a (mulL b c)
  | [], _, _ => by simp [mulL]
  | _ :: _, [], _ => by simp [mulL]
  | _ :: _, _ :: _, [] => by simp [mulL]
  | x :: a, y :: b, z :: c => by have := mulL_assoc a b c; simp only [mulL, List.zipWith_cons_cons] at this ⊢; rw [this, wrap_mul_l, wrap_mul_r, Int.mul_assoc]
theorem mulL_addL : ∀ a b c : List Int, mulL a (addL b c) = addL (mulL a b) (mulL a c)
  | [], _, _ => by simp [mulL, addL]
  | _ :: _, [], _ => by simp [mulL, addL]
  | _ :: _, _ :: _, [] => by simp [mulL, addL]
  | x :: a, y :: b, z :: c => by have := mulL_addL a b c; simp only [mulL, addL, List.zipWith_cons_cons] at this ⊢; rw [this, wrap_mul_r, wrap_add_l, wrap_add_r, Int.mul_add]
theorem addL_negL : ∀ a : List Int, addL a (negL a) = List.replicate a.length 0
  | [] => rfl
  | x :: a => by
    have := addL_negL a
    simp only [addL, negL, List.zipWith_cons_cons, List.length_cons, List.replicate_succ] at this ⊢
    rw [this, wrap_add_r, show x + x * (-1) = 0 by omega, show wrap64 0 = 0 by unfold wrap64; omega]
theorem addL_zero : ∀ (a : List Int), (∀ x ∈ a, -9223372036854775808 ≤ x ∧ x ≤ 9223372036854775807) → addL a (List.replicate a.length 0) = a
  | [], _ => rfl
  | x :: a, h => by
    have := addL_zero a fun y hy => h y (List.mem_cons_of_mem _ hy)
    simp only [addL, List.zipWith_cons_cons, List.length_cons, List.replicate_succ] at this ⊢
    have hx := h x (List.mem_cons_self ..)
    rw [this, Int.add_zero, show wrap64 x = x by unfold wrap64; omega]
theorem addL_length {a b : List Int} {m : Nat} (ha : a.length = m) (hb : b.length = m) : (addL a b).length = m := by simp [addL, ha, hb]
theorem mulL_length {a b : List Int} {m : Nat} (ha : a.length = m) (hb : b.length = m) : (mulL a b).length = m := by simp [mulL, ha, hb]
theorem negL_length {a : List Int} {m : Nat} (ha : a.length = m) : (negL a).length = m := by simp [negL, ha]
end Go.Proofs.YtgkngimeokhhgaaDoor
/- Sums over one mode, as sums over the numbers that go to one place: plain arithmetic on lists. -/
namespace Go.Proofs.YtgkngimeokhhgaaDoor
open Go.RowKit

/-- the sum of those whose number, counted from k on, goes to j -/
def sumAt (f : Nat → Nat) (j : Nat) : Nat → List Int → Int
  | _, [] => 0
  | k, v :: l => (if f k = j then v else 0) + sumAt f j (k + 1) l
/-- what goes to each of M places -/
def scat (f : Nat → Nat) (M : Nat) (V : List Int) : List Int := (List.range M).map fun j => wrap64 (sumAt f j 0 V)

theorem sumAt_append (f : Nat → Nat) (j : Nat) : ∀ (k : Nat) (a b : List Int), sumAt f j k (a ++ b) = sumAt f j k a + sumAt f j (k + a.length) b
  | k, [], b => by simp [sumAt]
  | k, x :: a, b => by
    simp only [List.cons_append, sumAt, List.length_cons]
    rw [sumAt_append f j (k + 1) a b, show k + 1 + a.length = k + (a.length + 1) by omega]; omega
theorem sumAt_snoc (f : Nat → Nat) (j : Nat) (a : List Int) (v : Int) : sumAt f j 0 (a ++ [v]) = sumAt f j 0 a + if f a.length = j then v else 0 := by
  rw [sumAt_append]; simp [sumAt]
theorem scat_length (f : Nat → Nat) (M : Nat) (V : List Int) : (scat f M V).length = M := by simp [scat]
theorem scat_at {f : Nat → Nat} {M j : Nat} (V : List Int) (h : j < M) : (scat f M V)[j]? = some (wrap64 (sumAt f j 0 V)) := by simp [scat, h]
theorem wrap64_bounds (n : Int) : -9223372036854775808 ≤ wrap64 n ∧ wrap64 n ≤ 9223372036854775807 := by unfold wrap64; omega
theorem scat_fits (f : Nat → Nat) (M : Nat) (V : List Int) : ∀ x ∈ scat f M V, -9223372036854775808 ≤ x ∧ x ≤ 9223372036854775807 := by
  intro x hx
  simp only [scat, List.mem_map] at hx
  obtain ⟨j, _, rfl⟩ := hx
  exact wrap64_bounds _
theorem wrap64_zero : wrap64 0 = 0 := by unfold wrap64; omega
theorem scat_nil (f : Nat → Nat) (M : Nat) : scat f M [] = List.replicate M 0 := by
  apply List.ext_getElem?
  intro j
  by_cases h : j < M
  · rw [scat_at _ h]; simp [sumAt, wrap64_zero, h]
  · rw [List.getElem?_eq_none (by rw [scat_length]; omega), List.getElem?_eq_none (by simp; omega)]
theorem scat_snoc {f : Nat → Nat} {M : Nat} {V : List Int} {v x : Int} (hx : (scat f M V)[f V.length]? = some x) : scat f M (V ++ [v]) = (scat f M V).set (f V.length) (wrap64 (x + v)) := by
  have hl : f V.length < M := by have := (List.getElem?_eq_some_iff.1 hx).1; rwa [scat_length] at this
  rw [scat_at _ hl] at hx
  injection hx with hx
  apply List.ext_getElem?
  intro j
  by_cases h : j < M
  · rw [scat_at _ h, List.getElem?_set, sumAt_snoc]
    by_cases he : f V.length = j
    · subst he; rw [if_pos rfl, if_pos rfl, if_pos (by rw [scat_length]; exact h), ← hx, wrap_add_l]
    · rw [if_neg he, if_neg he, scat_at _ h, Int.add_zero]
  · rw [List.getElem?_eq_none (by rw [scat_length]; omega), List.getElem?_eq_none (by rw [List.length_set, scat_length]; omega)]
/-- one round of the loop -/
theorem scat_step {f : Nat → Nat} {M k : Nat} {V : List Int} {v x : Int} (hv : V[k]? = some v) (hx : (scat f M (V.take k))[f k]? = some x) : scat f M (V.take (k + 1)) = (scat f M (V.take k)).set (f k) (wrap64 (x + v)) := by
  have hk : k < V.length := (List.getElem?_eq_some_iff.1 hv).1
  have hl : (V.take k).length = k := by rw [List.length_take]; omega
  rw [take_succ_of hv]
  have := scat_snoc (f := f) (M := M) (V := V.take k) (v := v) (x := x) (by rw [hl]; exact hx)
  rw [hl] at this
  exact this
theorem sumAt_set (g : Nat → Nat) (i : Nat) : ∀ (k : Nat) (L : List Int) (p : Nat) (x y : Int), L[p]? = some x → sumAt g i k (L.set p y) = sumAt g i k L + if g (k + p) = i then y - x else 0
  | k, [], p, x, y, h => by simp at h
  | k, z :: L, 0, x, y, h => by
    simp only [List.getElem?_cons_zero, Option.some.injEq] at h
    subst h
    simp only [List.set_cons_zero, sumAt, Nat.add_zero]
    split <;> omega
  | k, z :: L, p + 1, x, y, h => by
    simp only [List.getElem?_cons_succ] at h
    simp only [List.set_cons_succ, sumAt]
    rw [sumAt_set g i (k + 1) L p x y h, show k + 1 + p = k + (p + 1) by omega]; omega
theorem sumAt_zeros (g : Nat → Nat) (i : Nat) : ∀ (k M : Nat), sumAt g i k (List.replicate M 0) = 0
  | _, 0 => rfl
  | k, M + 1 => by simp only [List.replicate_succ, sumAt, sumAt_zeros g i (k + 1) M]; split <;> rfl
theorem list_snoc_ind {α : Type} {P : List α → Prop} (h0 : P []) (hs : ∀ l x, P l → P (l ++ [x])) (l : List α) : P l := by
  have : ∀ r : List α, P r.reverse := by
    intro r
    induction r with
    | nil => exact h0
    | cons x r ih => rw [List.reverse_cons]; exact hs _ _ ih
  have h := this l.reverse
  rwa [List.reverse_reverse] at h
/-- sums of sums -/
theorem sumAt_scat (f g : Nat → Nat) (M i : Nat) (V : List Int) (hf : ∀ n, n < V.length → f n < M) : wrap64 (sumAt g i 0 (scat f M V)) = wrap64 (sumAt (fun n => g (f n)) i 0 V) := by
  induction V using list_snoc_ind with
  | h0 => rw [scat_nil, sumAt_zeros]; rfl
  | hs V v ih =>
    have hl : f V.length < M := hf V.length (by simp)
    have h1 := ih (fun n hn => hf n (by simp; omega))
    rw [scat_snoc (scat_at V hl), sumAt_set g i 0 _ _ _ _ (scat_at V hl), sumAt_snoc, Nat.zero_add]
    by_cases he : g (f V.length) = i
    · rw [if_pos he, if_pos he, ← wrap_add_l, h1, wrap_add_l]
      obtain ⟨k1, e1⟩ := wrap64_off (sumAt f (f V.length) 0 V)
      obtain ⟨k2, e2⟩ := wrap64_off (wrap64 (sumAt f (f V.length) 0 V) + v)
      rw [e2, e1, show sumAt (fun n => g (f n)) i 0 V + (sumAt f (f V.length) 0 V + k1 * 18446744073709551616 + v + k2 * 18446744073709551616 - (sumAt f (f V.length) 0 V + k1 * 18446744073709551616)) = sumAt (fun n => g (f n)) i 0 V + v + k2 * 18446744073709551616 by omega, wrap64_more]
    · rw [if_neg he, if_neg he, Int.add_zero, Int.add_zero, h1]
theorem scat_scat (f g : Nat → Nat) (M N : Nat) (V : List Int) (hf : ∀ n, n < V.length → f n < M) : scat g N (scat f M V) = scat (fun n => g (f n)) N V := by
  unfold scat
  apply List.map_congr_left
  intro j _
  exact sumAt_scat f g M j V hf
theorem sumAt_same {f g : Nat → Nat} (j : Nat) : ∀ (k : Nat) (V : List Int), (∀ n, k ≤ n → n < k + V.length → f n = g n) → sumAt f j k V = sumAt g j k V
  | _, [], _ => rfl
  | k, v :: V, h => by
    simp only [sumAt]
    rw [h k (Nat.le_refl _) (by simp), sumAt_same j (k + 1) V fun n h1 h2 => h n (by omega) (by simp; omega)]
theorem scat_same {f g : Nat → Nat} (M : Nat) (V : List Int) (h : ∀ n, n < V.length → f n = g n) : scat f M V = scat g M V := by
  unfold scat
  apply List.map_congr_left
  intro j _
  rw [sumAt_same j 0 V fun n _ h2 => h n (by omega)]
theorem sumAt_add (f : Nat → Nat) (j : Nat) : ∀ (k : Nat) (a b : List Int), a.length = b.length → wrap64 (sumAt f j k (addL a b)) = wrap64 (sumAt f j k a + sumAt f j k b)
  | k, [], [], _ => rfl
  | k, [], _ :: _, h => by simp at h
  | k, _ :: _, [], h => by simp at h
  | k, x :: a, y :: b, h => by
    have ih := sumAt_add f j (k + 1) a b (by simpa using h)
    simp only [addL, List.zipWith_cons_cons, sumAt] at ih ⊢
    split
    · rw [wrap_add_l, ← wrap_add_r, ih, wrap_add_r, show x + y + (sumAt f j (k + 1) a + sumAt f j (k + 1) b) = x + sumAt f j (k + 1) a + (y + sumAt f j (k + 1) b) by omega]
    · rw [Int.zero_add, Int.zero_add, Int.zero_add, ih]
theorem scat_add (f : Nat → Nat) (M : Nat) (a b : List Int) (h : a.length = b.length) : scat f M (addL a b) = addL (scat f M a) (scat f M b) := by
  apply List.ext_getElem?
  intro j
  by_cases hj : j < M
  · unfold addL
    rw [List.getElem?_zipWith, scat_at _ hj, scat_at _ hj, ← addL, scat_at _ hj, sumAt_add f j 0 a b h]
    simp only [Option.some.injEq]
    rw [wrap_add_l, wrap_add_r]
  · rw [List.getElem?_eq_none (by rw [scat_length]; omega), List.getElem?_eq_none (by rw [addL_length (scat_length ..) (scat_length ..)]; omega)]
def byL (z : Int) (a : List Int) : List Int := List.zipWith (fun x _ => wrap64 (x * z)) a a
theorem byL_map (z : Int) : ∀ a : List Int, byL z a = a.map fun x => wrap64 (x * z)
  | [] => rfl
  | x :: a => by have := byL_map z a; simp only [byL, List.zipWith_cons_cons, List.map_cons] at this ⊢; rw [this]
theorem byL_length (z : Int) (a : List Int) : (byL z a).length = a.length := by rw [byL_map]; simp
theorem sumAt_by (f : Nat → Nat) (j : Nat) (z : Int) : ∀ (k : Nat) (a : List Int), wrap64 (sumAt f j k (byL z a)) = wrap64 (sumAt f j k a * z)
  | k, [] => by simp [byL, sumAt]
  | k, x :: a => by
    have ih := sumAt_by f j z (k + 1) a
    rw [byL_map] at ih ⊢
    simp only [List.map_cons, sumAt]
    rw [Int.add_mul]
    split
    · rw [wrap_add_l, ← wrap_add_r, ih, wrap_add_r]
    · rw [Int.zero_mul, Int.zero_add, Int.zero_add, ih]
theorem scat_by (f : Nat → Nat) (M : Nat) (z : Int) (a : List Int) : scat f M (byL z a) = byL z (scat f M a) := by
  apply List.ext_getElem?
  intro j
  by_cases hj : j < M
  · rw [byL_map z (scat f M a), List.getElem?_map, scat_at _ hj, scat_at _ hj, sumAt_by]
    simp only [Option.map_some, Option.some.injEq]
    rw [wrap_mul_l]
  · rw [List.getElem?_eq_none (by rw [scat_length]; omega), List.getElem?_eq_none (by rw [byL_length, scat_length]; omega)]

/-! ### the number that a cell goes to, when a mode is summed over -/
/-- p: how far apart the mode's neighbours are; s: the mode's size -/
def idx (p s n : Nat) : Nat := n / (p * s) * p + n % p
theorem idx_lt {p s t n : Nat} (h : n < t * (p * s)) : idx p s n < t * p := by
  unfold idx
  have hps : 0 < p * s := by rcases Nat.eq_zero_or_pos (p * s) with h0 | h0; · rw [h0] at h; omega
                             · exact h0
  have hp : 0 < p := Nat.pos_of_mul_pos_right hps
  have h1 : n / (p * s) < t := (Nat.div_lt_iff_lt_mul hps).2 h
  have h2 : n % p < p := Nat.mod_lt _ hp
  have h3 : (n / (p * s) + 1) * p ≤ t * p := Nat.mul_le_mul_right p h1
  rw [Nat.add_mul] at h3
  omega
/-- a number, taken apart -/
theorem idx_parts (p s u k r : Nat) (hk : k < s) (hr : r < p) : idx p s ((u * s + k) * p + r) = u * p + r := by
  unfold idx
  have hp : 0 < p := by omega
  have e1 : ((u * s + k) * p + r) % p = r := by rw [Nat.mul_comm, Nat.mul_add_mod, Nat.mod_eq_of_lt hr]
  have e2 : ((u * s + k) * p + r) / p = u * s + k := by rw [Nat.mul_comm, Nat.mul_add_div hp, Nat.div_eq_of_lt hr, Nat.add_zero]
  have e3 : ((u * s + k) * p + r) / (p * s) = u := by
    rw [← Nat.div_div_eq_div_mul, e2, Nat.mul_comm, Nat.mul_add_div (by omega), Nat.div_eq_of_lt hk, Nat.add_zero]
  rw [e1, e3]
theorem parts_of (p s n : Nat) (h : 0 < p * s) : ∃ u k r, k < s ∧ r < p ∧ n = (u * s + k) * p + r := by
  have hp : 0 < p := Nat.pos_of_mul_pos_right h
  have hs : 0 < s := Nat.pos_of_mul_pos_left h
  refine ⟨n / p / s, n / p % s, n % p, Nat.mod_lt _ hs, Nat.mod_lt _ hp, ?_⟩
  rw [Nat.mul_comm (n / p / s) s, Nat.div_add_mod, Nat.mul_comm, Nat.div_add_mod]
/-- two modes, of which the one behind has neighbours r apart and b places, and the one ahead q * (b * r) apart and a places: in either order -/
theorem idx_swap {r b q a n : Nat} (h : 0 < r * b * q * a) : idx (q * r) a (idx r b n) = idx r b (idx (q * b * r) a n) := by
  have hr : 0 < r := by rcases Nat.eq_zero_or_pos r with h0 | h0; · subst h0; simp at h
                        · exact h0
  have hb : 0 < b := by rcases Nat.eq_zero_or_pos b with h0 | h0; · subst h0; simp at h
                        · exact h0
  have hqa : 0 < q * a := by rcases Nat.eq_zero_or_pos (q * a) with h0 | h0; · rw [Nat.mul_assoc, h0] at h; simp at h
                             · exact h0
  obtain ⟨u1, γ, ρ, hγ, hρ, rfl⟩ := parts_of r b n (Nat.mul_pos hr hb)
  obtain ⟨u, α, β, hα, hβ, rfl⟩ := parts_of q a u1 hqa
  rw [idx_parts r b _ γ ρ hγ hρ]
  have e1 : ((u * a + α) * q + β) * r + ρ = (u * a + α) * (q * r) + (β * r + ρ) := by
    rw [Nat.add_mul, Nat.mul_assoc, Nat.add_assoc]
  have b1 : β * r + ρ < q * r := by
    have : (β + 1) * r ≤ q * r := Nat.mul_le_mul_right r hβ
    rw [Nat.add_mul] at this; omega
  rw [e1, idx_parts (q * r) a u α (β * r + ρ) hα b1]
  have e2 : (((u * a + α) * q + β) * b + γ) * r + ρ = (u * a + α) * (q * b * r) + ((β * b + γ) * r + ρ) := by
    simp only [Nat.add_mul, Nat.mul_assoc, Nat.add_assoc]
  have b2 : (β * b + γ) * r + ρ < q * b * r := by
    have h1 : (β + 1) * b ≤ q * b := Nat.mul_le_mul_right b hβ
    rw [Nat.add_mul] at h1
    have h2 : (β * b + γ + 1) * r ≤ q * b * r := Nat.mul_le_mul_right r (by omega)
    rw [Nat.add_mul] at h2; omega
  rw [e2, idx_parts (q * b * r) a u α _ hα b2]
  have e3 : u * (q * b * r) + ((β * b + γ) * r + ρ) = ((u * q + β) * b + γ) * r + ρ := by
    simp only [Nat.add_mul, Nat.mul_assoc, Nat.add_assoc]
  rw [e3, idx_parts r b _ γ ρ hγ hρ, Nat.add_mul, Nat.mul_assoc, Nat.add_assoc]
end Go.Proofs.YtgkngimeokhhgaaDoor
/- Where a cell's number goes when a mode is summed over: by places, and by steps. -/
namespace Go.Proofs.YtgkngimeokhhgaaDoor
open Go.RowKit

theorem mod_split {x a t : Int} (ht : 0 < t) : x % (a * t) = x / t % a * t + x % t := by
  have h1 := Int.emod_add_mul_ediv x t
  have h2 := Int.emod_add_mul_ediv (x / t) a
  have h3 := Int.emod_add_mul_ediv x (a * t)
  have h4 : x / (a * t) = x / t / a := by rw [Int.mul_comm, Int.ediv_ediv_of_nonneg (by omega)]
  rw [h4] at h3
  have h5 : t * (x / t) = t * (x / t % a) + t * (a * (x / t / a)) := by rw [← Int.mul_add, h2]
  have h6 : t * (a * (x / t / a)) = a * t * (x / t / a) := by rw [← Int.mul_assoc, Int.mul_comm t a]
  have h7 : x / t % a * t = t * (x / t % a) := Int.mul_comm _ _
  omega
theorem prodI_erase {xs : List Int} {k : Nat} : k < xs.length → prodI (xs.eraseIdx k) = prodI (xs.take k) * prodI (xs.drop (k + 1)) := by
  intro _
  rw [List.eraseIdx_eq_take_drop_succ, prodI_append]
/-- by places -/
theorem num_erase {xs : List Int} (hp : ∀ x ∈ xs, 1 ≤ x) (n : Int) {k : Nat} {s : Int} (hs : xs[k]? = some s) :
    numR (xs.eraseIdx k) ((placeR xs n).eraseIdx k) = n / (prodI (xs.drop (k + 1)) * s) % prodI (xs.take k) * prodI (xs.drop (k + 1)) + n % prodI (xs.drop (k + 1)) := by
  induction xs generalizing k with
  | nil => simp at hs
  | cons a l ih =>
    have hl : ∀ x ∈ l, 1 ≤ x := fun x hx => hp x (by simp [hx])
    have ha := hp a (by simp)
    cases k with
    | zero =>
      simp only [List.eraseIdx_cons_zero, placeR, List.take_zero, List.drop_succ_cons, List.drop_zero]
      rw [numR_placeR hl]; simp [prodI, Int.emod_one]
    | succ k =>
      simp only [List.getElem?_cons_succ] at hs
      have hk := (List.getElem?_eq_some_iff.1 hs).1
      simp only [List.eraseIdx_cons_succ, placeR, numR, List.take_succ_cons, List.drop_succ_cons, prodI]
      rw [ih hl hs, prodI_erase hk]
      have hP : 1 ≤ prodI (l.drop (k + 1)) := prodI_pos fun x hx => hl x (List.mem_of_mem_drop hx)
      have hT : 1 ≤ prodI (l.take k) := prodI_pos fun x hx => hl x (List.mem_of_mem_take hx)
      have hs1 : 1 ≤ s := hl s (List.mem_of_getElem? hs)
      have hl2 : prodI l = prodI (l.drop (k + 1)) * s * prodI (l.take k) := by
        rw [prodI_split l k, prodI_drop hs, Int.mul_comm, Int.mul_comm s]
      rw [mod_split (by omega), hl2]
      have hps : 0 ≤ prodI (l.drop (k + 1)) * s := Int.mul_nonneg (by omega) (by omega)
      rw [← Int.ediv_ediv_of_nonneg hps, Int.add_mul, Int.mul_assoc (n / (prodI (l.drop (k + 1)) * s) / prodI (l.take k) % a)]
      omega
/-- by steps -/
theorem num_erase_idx {xs : List Int} (hp : ∀ x ∈ xs, 1 ≤ x) {n k p s : Nat} (hs : xs[k]? = some (s : Int)) (hP : prodI (xs.drop (k + 1)) = (p : Int)) (hn : (n : Int) < prodI xs) :
    numR (xs.eraseIdx k) ((placeR xs n).eraseIdx k) = (idx p s n : Nat) := by
  have hT : 1 ≤ prodI (xs.take k) := prodI_pos fun x hx => hp x (List.mem_of_mem_take hx)
  rw [num_erase hp _ hs, hP]
  unfold idx
  have h1 : (n : Int) / ((p : Int) * s) < prodI (xs.take k) := by
    have hps : 0 < (p : Int) * s := by
      have h1 : 1 ≤ prodI (xs.drop (k + 1)) := prodI_pos fun x hx => hp x (List.mem_of_mem_drop hx)
      have h2 : 1 ≤ (s : Int) := hp _ (List.mem_of_getElem? hs)
      rw [hP] at h1
      exact Int.mul_pos (by omega) (by omega)
    refine (Int.ediv_lt_iff_lt_mul hps).2 ?_
    rw [prodI_split xs k, prodI_drop hs, hP, Int.mul_comm (s : Int)] at hn
    exact hn
  have h0 : 0 ≤ (n : Int) / ((p : Int) * s) := Int.ediv_nonneg (by omega) (Int.mul_nonneg (by omega) (by omega))
  rw [Int.emod_eq_of_lt h0 h1]
  push_cast
  rfl
/-- how far apart a mode's neighbours are -/
def behind (xs : List Int) (k : Nat) : Nat := (prodI (xs.drop (k + 1))).toNat
def sizeAt (xs : List Int) (k : Nat) : Nat := (xs.getD k 0).toNat
/-- what is left of the cells, when a mode is summed over -/
def sumL (xs : List Int) (k : Nat) (V : List Int) : List Int := scat (idx (behind xs k) (sizeAt xs k)) (prodI (xs.eraseIdx k)).toNat V
theorem behind_eq {xs : List Int} (hp : ∀ x ∈ xs, 1 ≤ x) (k : Nat) : prodI (xs.drop (k + 1)) = (behind xs k : Nat) := by
  have h1 : 1 ≤ prodI (xs.drop (k + 1)) := prodI_pos fun x hx => hp x (List.mem_of_mem_drop hx)
  unfold behind; omega
theorem sizeAt_eq {xs : List Int} (hp : ∀ x ∈ xs, 1 ≤ x) {k : Nat} (hk : k < xs.length) : xs[k]? = some (sizeAt xs k : Int) := by
  have h := List.getElem?_eq_getElem hk
  have h1 := hp _ (List.mem_of_getElem? h)
  unfold sizeAt
  simp only [List.getD, h, Option.getD_some]
  congr 1; omega
/-- whether it is a place of what is left -/
theorem idx_fits {xs : List Int} (hp : ∀ x ∈ xs, 1 ≤ x) {k n : Nat} (hk : k < xs.length) (hn : (n : Int) < prodI xs) : idx (behind xs k) (sizeAt xs k) n < (prodI (xs.eraseIdx k)).toNat := by
  have h1 := behind_eq hp k
  have h2 := sizeAt_eq hp hk
  have hT : 1 ≤ prodI (xs.take k) := prodI_pos fun x hx => hp x (List.mem_of_mem_take hx)
  rw [prodI_erase hk, h1]
  have h3 : n < (prodI (xs.take k)).toNat * (behind xs k * sizeAt xs k) := by
    rw [prodI_split xs k, prodI_drop h2, h1] at hn
    refine Int.ofNat_lt.1 ?_
    push_cast
    rw [Int.toNat_of_nonneg (by omega), Int.mul_comm (behind xs k : Int)]
    exact hn
  have h4 := idx_lt h3
  have h5 : (prodI (xs.take k) * (behind xs k : Int)).toNat = (prodI (xs.take k)).toNat * behind xs k := by
    have : prodI (xs.take k) * (behind xs k : Int) = ((prodI (xs.take k)).toNat * behind xs k : Nat) := by
      push_cast; rw [Int.toNat_of_nonneg (by omega)]
    rw [this, Int.toNat_natCast]
  rw [h5]; exact h4
end Go.Proofs.YtgkngimeokhhgaaDoor
/- Sums over two modes are the same in either order; over all modes they are the sum of all: plain arithmetic on lists. -/
namespace Go.Proofs.YtgkngimeokhhgaaDoor
open Go.RowKit

theorem erase_mid (P : List Int) (a : Int) (L : List Int) (k : Nat) (hk : k = P.length) : (P ++ a :: L).eraseIdx k = P ++ L := by
  subst hk
  rw [List.eraseIdx_append_of_length_le (Nat.le_refl _), Nat.sub_self, List.eraseIdx_cons_zero]
theorem drop_mid (P : List Int) (a : Int) (L : List Int) (k : Nat) (hk : k = P.length) : (P ++ a :: L).drop (k + 1) = L := by
  subst hk
  rw [List.drop_append, List.drop_of_length_le (by omega), Nat.add_sub_cancel_left, List.nil_append, List.drop_succ_cons, List.drop_zero]
theorem get_mid (P : List Int) (a : Int) (L : List Int) (k : Nat) (hk : k = P.length) : (P ++ a :: L).getD k 0 = a := by
  subst hk; simp [List.getD]
theorem split_one {xs : List Int} {k : Nat} (hk : k < xs.length) : ∃ P a L, xs = P ++ a :: L ∧ P.length = k :=
  ⟨xs.take k, xs[k], xs.drop (k + 1), by rw [← List.drop_eq_getElem_cons hk, List.take_append_drop], by rw [List.length_take]; omega⟩
theorem split_two {xs : List Int} {l h : Nat} (hl : l < h) (hh : h < xs.length) : ∃ P a Q b R, xs = P ++ a :: (Q ++ b :: R) ∧ P.length = l ∧ h = l + 1 + Q.length := by
  obtain ⟨P, a, L, e, hP⟩ := split_one (xs := xs) (k := l) (by omega)
  have h2 : h - (l + 1) < L.length := by have := congrArg List.length e; simp at this; omega
  obtain ⟨Q, b, R, e2, hQ⟩ := split_one h2
  exact ⟨P, a, Q, b, R, by rw [e, e2], hP, by omega⟩
theorem erase_two {xs : List Int} {l h : Nat} (hl : l < h) (hh : h < xs.length) : (xs.eraseIdx h).eraseIdx l = (xs.eraseIdx l).eraseIdx (h - 1) := by
  obtain ⟨P, a, Q, b, R, rfl, rfl, rfl⟩ := split_two hl hh
  have e1 : P ++ a :: (Q ++ b :: R) = (P ++ a :: Q) ++ b :: R := by simp
  have e2 : P ++ (Q ++ b :: R) = (P ++ Q) ++ b :: R := by simp
  rw [erase_mid P a _ _ rfl, e1, erase_mid _ b R _ (by simp <;> omega), List.append_assoc, List.cons_append, erase_mid P a _ _ rfl, e2, erase_mid _ b R _ (by simp <;> omega), List.append_assoc]
theorem prodI_toNat_mul {a b : Int} (ha : 1 ≤ a) (hb : 1 ≤ b) : (a * b).toNat = a.toNat * b.toNat := by
  have : a * b = ((a.toNat * b.toNat : Nat) : Int) := by
    rw [Int.natCast_mul, Int.toNat_of_nonneg (by omega), Int.toNat_of_nonneg (by omega)]
  rw [this, Int.toNat_natCast]
theorem pos_erase {xs : List Int} (hp : ∀ x ∈ xs, 1 ≤ x) (k : Nat) : ∀ x ∈ xs.eraseIdx k, 1 ≤ x := fun x hx => hp x (List.mem_of_mem_eraseIdx hx)
theorem sumL_length (xs : List Int) (k : Nat) (V : List Int) : (sumL xs k V).length = (prodI (xs.eraseIdx k)).toNat := scat_length ..
theorem sumL_fits (xs : List Int) (k : Nat) (V : List Int) : ∀ x ∈ sumL xs k V, -9223372036854775808 ≤ x ∧ x ≤ 9223372036854775807 := scat_fits _ _ _
theorem scat_zeros (f : Nat → Nat) (M K : Nat) : scat f M (List.replicate K 0) = List.replicate M 0 := by
  apply List.ext_getElem?
  intro j
  by_cases h : j < M
  · rw [scat_at _ h, sumAt_zeros, wrap64_zero]; simp [h]
  · rw [List.getElem?_eq_none (by rw [scat_length]; omega), List.getElem?_eq_none (by simp <;> omega)]
theorem sumL_nil (xs : List Int) (k : Nat) : sumL xs k [] = List.replicate (prodI (xs.eraseIdx k)).toNat 0 := scat_nil ..
theorem sumL_zeros (xs : List Int) (k K : Nat) : sumL xs k (List.replicate K 0) = List.replicate (prodI (xs.eraseIdx k)).toNat 0 := scat_zeros ..
/-- in either order -/
theorem sumL_swap {xs : List Int} (hp : ∀ x ∈ xs, 1 ≤ x) {l h : Nat} (hl : l < h) (hh : h < xs.length) {V : List Int} (hV : (V.length : Int) = prodI xs) :
    sumL (xs.eraseIdx h) l (sumL xs h V) = sumL (xs.eraseIdx l) (h - 1) (sumL xs l V) := by
  have f1 : ∀ n, n < V.length → idx (behind xs h) (sizeAt xs h) n < (prodI (xs.eraseIdx h)).toNat := fun n hn => idx_fits hp hh (by omega)
  have f2 : ∀ n, n < V.length → idx (behind xs l) (sizeAt xs l) n < (prodI (xs.eraseIdx l)).toNat := fun n hn => idx_fits hp (by omega) (by omega)
  unfold sumL
  rw [scat_scat _ _ _ _ _ f1, scat_scat _ _ _ _ _ f2, erase_two hl hh]
  clear f1 f2
  apply scat_same
  intro n hn
  obtain ⟨P, a, Q, b, R, rfl, rfl, rfl⟩ := split_two hl hh
  have hQ : 1 ≤ prodI Q := prodI_pos fun x hx => hp x (by simp [hx])
  have hR : 1 ≤ prodI R := prodI_pos fun x hx => hp x (by simp [hx])
  have ha : 1 ≤ a := hp a (by simp)
  have hb : 1 ≤ b := hp b (by simp)
  have e1 : P ++ a :: (Q ++ b :: R) = (P ++ a :: Q) ++ b :: R := by simp
  have q1 : behind (P ++ a :: (Q ++ b :: R)) (P.length + 1 + Q.length) = (prodI R).toNat := by
    unfold behind; rw [e1, drop_mid _ b R _ (by simp <;> omega)]
  have q2 : sizeAt (P ++ a :: (Q ++ b :: R)) (P.length + 1 + Q.length) = b.toNat := by
    unfold sizeAt; rw [e1, get_mid _ b R _ (by simp <;> omega)]
  have q3 : (P ++ a :: (Q ++ b :: R)).eraseIdx (P.length + 1 + Q.length) = P ++ a :: (Q ++ R) := by
    rw [e1, erase_mid _ b R _ (by simp <;> omega)]; simp
  have q4 : behind (P ++ a :: (Q ++ R)) P.length = (prodI Q).toNat * (prodI R).toNat := by
    unfold behind; rw [drop_mid _ _ _ _ rfl, prodI_append, prodI_toNat_mul hQ hR]
  have q5 : sizeAt (P ++ a :: (Q ++ R)) P.length = a.toNat := by unfold sizeAt; rw [get_mid _ _ _ _ rfl]
  have q6 : behind (P ++ a :: (Q ++ b :: R)) P.length = (prodI Q).toNat * b.toNat * (prodI R).toNat := by
    unfold behind; rw [drop_mid _ _ _ _ rfl, prodI_append, prodI, prodI_toNat_mul hQ (by have := Int.mul_pos (show 0 < b by omega) (show 0 < prodI R by omega); omega), prodI_toNat_mul hb hR, Nat.mul_assoc]
  have q7 : sizeAt (P ++ a :: (Q ++ b :: R)) P.length = a.toNat := by unfold sizeAt; rw [get_mid _ _ _ _ rfl]
  have q8 : (P ++ a :: (Q ++ b :: R)).eraseIdx P.length = (P ++ Q) ++ b :: R := by rw [erase_mid P a _ _ rfl]; simp
  have q9 : behind ((P ++ Q) ++ b :: R) (P.length + 1 + Q.length - 1) = (prodI R).toNat := by
    unfold behind; rw [drop_mid _ _ _ _ (by simp <;> omega)]
  have q10 : sizeAt ((P ++ Q) ++ b :: R) (P.length + 1 + Q.length - 1) = b.toNat := by unfold sizeAt; rw [get_mid _ _ _ _ (by simp <;> omega)]
  rw [q1, q2, q3, q4, q5, q6, q7, q8, q9, q10]
  apply idx_swap
  have k1 : 0 < (prodI R).toNat := by omega
  have k2 : 0 < b.toNat := by omega
  have k3 : 0 < (prodI Q).toNat := by omega
  have k4 : 0 < a.toNat := by omega
  exact Nat.mul_pos (Nat.mul_pos (Nat.mul_pos k1 k2) k3) k4
/-- the sum of all, as it is summed -/
def totL (V : List Int) : Int := V.foldl (fun a v => wrap64 (a + v)) 0
theorem totL_snoc (V : List Int) (v : Int) : totL (V ++ [v]) = wrap64 (totL V + v) := by simp [totL]
theorem totL_eq (V : List Int) : totL V = wrap64 (sumAt (fun _ => 0) 0 0 V) := by
  induction V using list_snoc_ind with
  | h0 => simp [totL, sumAt, wrap64_zero]
  | hs V v ih => rw [totL_snoc, ih, sumAt_snoc, if_pos rfl, wrap_add_l]
theorem totL_scat (f : Nat → Nat) (M : Nat) (V : List Int) (hf : ∀ n, n < V.length → f n < M) : totL (scat f M V) = totL V := by
  rw [totL_eq, totL_eq, sumAt_scat f (fun _ => 0) M 0 V hf]
theorem totL_zeros (K : Nat) : totL (List.replicate K 0) = 0 := by rw [totL_eq, sumAt_zeros, wrap64_zero]
theorem totL_sumL {xs : List Int} (hp : ∀ x ∈ xs, 1 ≤ x) {k : Nat} (hk : k < xs.length) {V : List Int} (hV : (V.length : Int) = prodI xs) : totL (sumL xs k V) = totL V :=
  totL_scat _ _ _ fun _ hn => idx_fits hp hk (by omega)
theorem totL_one {v : Int} (h : -9223372036854775808 ≤ v ∧ v ≤ 9223372036854775807) : totL [v] = v := by
  simp only [totL, List.foldl_cons, List.foldl_nil, Int.zero_add]; unfold wrap64; omega
end Go.Proofs.YtgkngimeokhhgaaDoor
/- The contract of box.Sum. -/
namespace Go.Proofs.YtgkngimeokhhgaaDoor
open Go.RowKit

theorem OwnI.ne {w : World} {base g gv c : Nat} {e e' : TypeId} {xs : List Int} {cs : Array Value} {fr : Nat × Nat} (h : OwnI w base e (some ⟨gv, 0, none⟩) c xs) (hg : w.heap[g]? = some (.cells cs e' fr)) (hne : e ≠ e') : g ≠ gv := by
  rintro rfl
  rcases h.1.2 with ⟨h1, _⟩ | ⟨g', cap, cur, h1, _, hh, _⟩
  · injection h1 with h1
    cases h1
  · injection h1 with h1
    injection h1 with h1
    injection h1 with h1
    subst h1
    rw [hh] at hg
    injection hg with hg
    injection hg with _ ht _
    exact hne ht
/-- what is left of the tensor's cells -/
def sumV (xs : List Int) (k : Nat) (ys : List Int) : List Int := scat (idx (behind xs k) (sizeAt xs k)) (laidF (xs.eraseIdx k)).1.toNat ys
theorem sumV_length (xs : List Int) (k : Nat) (ys : List Int) : (sumV xs k ys).length = (laidF (xs.eraseIdx k)).1.toNat := scat_length ..
theorem laidF_erase {xs : List Int} {m : Nat} (hck : checkF xs m = 0) : xs.length ≤ 4 := by
  unfold checkF at hck
  split at hck
  · rename_i h; exact (cellsF_ok (laidF_ok h).1).1
  · rename_i h; exact absurd hck h
theorem below_two (w : World) (o o' : Obj) : Below w.heap.size w ((w.alloc o).alloc o') := ((Below.refl _ _).alloc (Nat.le_refl _) _).alloc (by simp) _
theorem pair_past (w : World) (o : Obj) (u v : Value) (t : TypeId) : ((w.alloc (.cells #[u, v] t)).alloc o).drew.cell? ⟨w.heap.size, 0, none⟩ = some u ∧ ((w.alloc (.cells #[u, v] t)).alloc o).drew.cell? ⟨w.heap.size, 1, none⟩ = some v :=
  ⟨cellPast o (pair_new w u v t).1, cellPast o (pair_new w u v t).2⟩
theorem pair_new2 (w : World) (o : Obj) (u v : Value) (t : TypeId) : ((w.alloc o).alloc (.cells #[u, v] t)).cell? ⟨w.heap.size + 1, 0, none⟩ = some u ∧ ((w.alloc o).alloc (.cells #[u, v] t)).cell? ⟨w.heap.size + 1, 1, none⟩ = some v := by
  have := pair_new (w.alloc o) u v t
  rwa [World.size_alloc] at this
theorem dOld {w1 w2 : World} {o o' : Obj} (h : Below ((w1.alloc o).alloc o').drew.heap.size ((w1.alloc o).alloc o').drew w2) : w2.heap[w1.heap.size]? = some o := (h.block w1.heap.size (by show _ < ((w1.alloc o).alloc o').heap.size; simp; omega)).trans (zf_two w1 o o')
theorem dNew {w1 w2 : World} {o : Obj} (h : Below (w1.alloc o).drew.heap.size (w1.alloc o).drew w2) : w2.heap[w1.heap.size]? = some o := (h.block w1.heap.size (by show _ < (w1.alloc o).heap.size; simp)).trans (heap_alloc_new w1 o)
theorem dOld' {w1 w2 : World} {o o' : Obj} (h : Below ((w1.alloc o).alloc o').heap.size ((w1.alloc o).alloc o') w2) : w2.heap[w1.heap.size]? = some o := (h.block w1.heap.size (by simp; omega)).trans (zf_two w1 o o')
theorem dNew' {w1 w2 : World} {o : Obj} (h : Below (w1.alloc o).heap.size (w1.alloc o) w2) : w2.heap[w1.heap.size]? = some o := (h.block w1.heap.size (by simp)).trans (heap_alloc_new w1 o)
theorem dSnd {w1 w2 : World} {o o' : Obj} (h : Below ((w1.alloc o).alloc o').drew.heap.size ((w1.alloc o).alloc o').drew w2) : w2.heap[w1.heap.size + 1]? = some o' := (h.block (w1.heap.size + 1) (by show _ < ((w1.alloc o).alloc o').heap.size; simp)).trans (zf_snd w1 o' o)
theorem dSnd' {w1 w2 : World} {o o' : Obj} (h : Below ((w1.alloc o).alloc o').heap.size ((w1.alloc o).alloc o') w2) : w2.heap[w1.heap.size + 1]? = some o' := (h.block (w1.heap.size + 1) (by simp)).trans (zf_snd w1 o' o)
theorem dKeep {w1 w2 : World} {g : Nat} {o : Obj} (h : Below w1.heap.size w1 w2) (hg : w1.heap[g]? = some o) : w2.heap[g]? = some o := (h.block g (Array.getElem?_eq_some_iff.1 hg).1).trans hg
theorem dKeep' {w1 w2 : World} {g : Nat} {o : Obj} (h : Below w1.drew.heap.size w1.drew w2) (hg : w1.heap[g]? = some o) : w2.heap[g]? = some o := (h.block g (Array.getElem?_eq_some_iff.1 hg).1).trans hg
theorem dCells {W : World} {g : Nat} {u v : Value} {t : TypeId} (h : W.heap[g]? = some (.cells #[u, v] t (0, 0))) :
    W.cell? ⟨g, 0, none⟩ = some u ∧ W.cell? ⟨g, 1, none⟩ = some v ∧ W.frozen? ⟨g, 0, none⟩ = false ∧ W.frozen? ⟨g, 1, none⟩ = false :=
  ⟨by simpa using cell_of_row _ _ 0 _ t (0, 0) h, by simpa using cell_of_row _ _ 1 _ t (0, 0) h, by simp [World.frozen?, h], by simp [World.frozen?, h]⟩
theorem laidF_le (xs : List Int) : (laidF xs).1.toNat ≤ 65536 := Int.toNat_le.2 laidF_nonneg.2
theorem sum_pos {xs : List Int} {m n k : Nat} (hck : checkF xs m = 0) (hm : 0 < m) (hl : xs.length = n) (hk : k < n) :
    (∀ x ∈ xs, 1 ≤ x) ∧ (laidF (xs.eraseIdx k)).1.toNat = (prodI (xs.eraseIdx k)).toNat ∧ prodI xs = m ∧ m ≤ 65536 := by
  have h0 : (laidF xs).2 = 0 ∧ (m : Int) = (laidF xs).1 := by
    unfold checkF at hck
    split at hck
    · rename_i h
      split at hck
      · rename_i h2; exact ⟨h, h2⟩
      · simp at hck
    · rename_i h; exact absurd hck h
  obtain ⟨h1, h2⟩ := h0
  obtain ⟨h3, h4⟩ := laidF_ok h1
  have hn := laidF_nonneg (xs := xs)
  have hp := cellsF_nz h3 (by omega)
  obtain ⟨h5, h6⟩ := cellsF_ok_pos h3 hp
  have hle : prodI (xs.eraseIdx k) ≤ prodI xs := by
    have hkk : k < xs.length := by omega
    have hg := List.getElem?_eq_getElem hkk
    rw [prodI_erase hkk, prodI_split xs k, prodI_drop hg]
    have a1 := prodI_pos (xs := xs.take k) (fun x hx => hp x (List.mem_of_mem_take hx))
    have a2 := prodI_pos (xs := xs.drop (k + 1)) (fun x hx => hp x (List.mem_of_mem_drop hx))
    have a3 := hp _ (List.mem_of_getElem? hg)
    refine Int.mul_le_mul_of_nonneg_left ?_ (by omega)
    have := Int.mul_le_mul_of_nonneg_right a3 (by omega : 0 ≤ prodI (xs.drop (k + 1)))
    omega
  have hpe : ∀ x ∈ xs.eraseIdx k, 1 ≤ x := fun x hx => hp x (List.mem_of_mem_eraseIdx hx)
  have hpp := prodI_pos hpe
  refine ⟨hp, ?_, by omega, by omega⟩
  have hl4 : (xs.eraseIdx k).length ≤ 4 := by have := (cellsF_ok h3).1; have := List.length_eraseIdx_le xs k; omega
  have hc := cellsF_pos hpe hl4
  rw [if_pos (by omega)] at hc
  unfold laidF
  rw [hc]
  simp only [if_true]
  rw [if_neg (by omega)]
theorem wrap_nat (n : Nat) (h : n ≤ 100000) : IntKind.i64.wrap (n : Int) = n := by rw [wrap_eq]; exact IntWalk.wrap64_in _ ⟨by omega, by omega⟩
/-- the number that a cell goes to, as the program reckons it -/
theorem idx_run (q p s : Nat) (P Sp : Int) (hP : P = (p : Int)) (hSp : Sp = ((s * p : Nat) : Int)) (hq : q ≤ 65536) (hj : idx p s q ≤ 65536) :
    ∃ d f r : Int, IntKind.i64.wrap ((q : Int) / Sp) = d ∧ IntKind.i64.wrap (d * P) = f ∧ (q : Int).tmod P = r ∧ IntKind.i64.wrap (f + r) = (idx p s q : Nat) := by
  subst hP
  subst hSp
  have h1 : q / (s * p) ≤ q := Nat.div_le_self _ _
  have h2 : q % p ≤ q := Nat.mod_le _ _
  have h3 : idx p s q = q / (s * p) * p + q % p := by unfold idx; rw [Nat.mul_comm p s]
  refine ⟨((q / (s * p) : Nat) : Int), ((q / (s * p) * p : Nat) : Int), ((q % p : Nat) : Int), ?_, ?_, ?_, ?_⟩
  · rw [← Int.natCast_ediv]; exact wrap_nat _ (by omega)
  · rw [← Int.natCast_mul]; exact wrap_nat _ (by omega)
  · rw [Int.tmod_eq_emod_of_nonneg (by omega), ← Int.natCast_emod]
  · rw [← Int.natCast_add, ← h3]; exact wrap_nat _ (by omega)
def SumPost (w : World) (S V : List Int) (E : Int) (x : Ending) (w' : World) : Prop := ∃ A1 c1 A3 c3, x = .returned (.tuple #[.agg #[.slice A1 S.length c1, .slice A3 V.length c3], .int .i64 E]) ∧
      OwnI w' w.heap.size 3 A1 c1 S ∧ OwnI w' w.heap.size 2 A3 c3 V ∧ Below w.heap.size w w'

end Go.Proofs.YtgkngimeokhhgaaDoor
