/- The contract of box.both at each closure that box hands it (Add's, Mul's, Scale's), where both tensors may be and have one shape; and where they may not. -/
import Derived.Test.YtpjelcghlnmoeaaBoxCells
import Derived.Test.YtpjelcghlnmoeaaOne
import Derived.Test.YtpjelcghlnmoeaaPair
import Derived.StillTailTactics
import Derived.Deep.DeepCutAuto
import Derived.Deep.RegionHeld3
namespace Go.Proofs.Ytpjelcghlnmoeaa
open Go.RowKit

theorem OwnI.other {w : World} {base gv : Nat} {e e' : TypeId} {A : Option Addr} {c : Nat} {xs : List Int} {cs : Array Value} {fr : Nat × Nat} (h : OwnI w base e A c xs) (hg : w.heap[gv]? = some (.cells cs e' fr)) (hne : e ≠ e') (j : Nat) (u : Value) : OwnI (w.setCell ⟨gv, j, none⟩ u) base e A c xs := by
  refine ⟨h.1.kept (row := some gv) ⟨rfl, rfl, rfl, by simp [World.setCell], fun i hi hn => Below.heap_setCell w ⟨gv, j, none⟩ u i (fun e => hn (by rw [e]))⟩ ?_, h.2⟩
  rcases h.1.2 with ⟨h1, _⟩ | ⟨g, cap, cur, h1, _, hh, _⟩
  · left; rw [h1]; rfl
  · right
    rw [h1]
    intro he
    have hgg : g = gv := by injection he
    subst hgg
    rw [hh] at hg
    injection hg with hg
    injection hg with _ ht _
    exact hne ht
theorem OwnI.other_ {w : World} {base base2 gv c2 : Nat} {e e' : TypeId} {A : Option Addr} {c : Nat} {xs zs : List Int} (h : OwnI w base e A c xs) (h2 : OwnI w base2 e' (some ⟨gv, 0, none⟩) c2 zs) (hne : e ≠ e') (j : Nat) (u : Value) : OwnI (w.setCell ⟨gv, j, none⟩ u) base e A c xs := by
  rcases h2.1.2 with ⟨h1, _⟩ | ⟨g, cap, cur, h1, _, hh, _⟩
  · injection h1 with h1
    cases h1
  · injection h1 with h1
    injection h1 with h1
    injection h1 with h1
    subst h1
    exact h.other hh hne j u
theorem wrap64_range (n : Int) : -9223372036854775808 ≤ wrap64 n ∧ wrap64 n ≤ 9223372036854775807 := by unfold wrap64; omega
theorem fill_set {Z : List Int} {m k : Nat} {v : Int} (hZ : Z.length = m) (hv : Z[k]? = some v) : (Z.take k ++ List.replicate (m - k) 0).set k v = Z.take (k + 1) ++ List.replicate (m - (k + 1)) 0 := by
  have hk : k < Z.length := (List.getElem?_eq_some_iff.1 hv).1
  rw [take_succ_of hv, show m - k = (m - (k + 1)) + 1 by omega, List.replicate_succ, List.set_append_right _ _ (by rw [List.length_take]; omega), List.length_take, Nat.min_eq_left (by omega), Nat.sub_self]
  simp
theorem zf_core {W w1 : World} {u v : Value} {t : TypeId} {g : Nat} (h : W.heap[g]? = some (.cells #[u, v] t (0, 0))) (hb : Below W.heap.size W w1) :
    w1.cell? ⟨g, 0, none⟩ = some u ∧ w1.cell? ⟨g, 1, none⟩ = some v ∧ w1.frozen? ⟨g, 0, none⟩ = false ∧ w1.frozen? ⟨g, 1, none⟩ = false ∧ g < w1.heap.size := by
  have k := (hb.block g (Array.getElem?_eq_some_iff.1 h).1).trans h
  exact ⟨by simpa using cell_of_row _ _ 0 _ t (0, 0) k, by simpa using cell_of_row _ _ 1 _ t (0, 0) k, by simp [World.frozen?, k], by simp [World.frozen?, k], Nat.lt_of_lt_of_le (Array.getElem?_eq_some_iff.1 h).1 hb.size⟩
theorem far_two {W : World} {g g' : Nat} {u v a b : Value} (hne : g < g') (h0 : W.cell? ⟨g, 0, none⟩ = some u) (h1 : W.cell? ⟨g, 1, none⟩ = some v) :
    ((W.setCell ⟨g', 0, none⟩ a).setCell ⟨g', 1, none⟩ b).cell? ⟨g, 0, none⟩ = some u ∧ ((W.setCell ⟨g', 0, none⟩ a).setCell ⟨g', 1, none⟩ b).cell? ⟨g, 1, none⟩ = some v :=
  ⟨(World.cell?_setCell_other _ _ ⟨g, 0, none⟩ _ (by simp)).trans ((World.cell?_setCell_other _ _ ⟨g, 0, none⟩ _ (by simp <;> omega)).trans h0),
   (World.cell?_setCell_other _ _ ⟨g, 1, none⟩ _ (by simp <;> omega)).trans ((World.cell?_setCell_other _ _ ⟨g, 1, none⟩ _ (by simp <;> omega)).trans h1)⟩
theorem far_two_past {W : World} {g g' : Nat} {u v a b : Value} (hne : g < g') (h0 : W.cell? ⟨g, 0, none⟩ = some u) (h1 : W.cell? ⟨g, 1, none⟩ = some v) (o : Obj) :
    (((W.setCell ⟨g', 0, none⟩ a).setCell ⟨g', 1, none⟩ b).alloc o).cell? ⟨g, 0, none⟩ = some u ∧ (((W.setCell ⟨g', 0, none⟩ a).setCell ⟨g', 1, none⟩ b).alloc o).cell? ⟨g, 1, none⟩ = some v :=
  ⟨cellPast _ (far_two hne h0 h1).1, cellPast _ (far_two hne h0 h1).2⟩
theorem zf_pair {W w1 : World} {u v : Value} {t : TypeId} {g : Nat} (hb : Below W.heap.size W w1) (h : W.heap[g]? = some (.cells #[u, v] t (0, 0))) :
    w1.cell? ⟨g, 0, none⟩ = some u ∧ w1.cell? ⟨g, 1, none⟩ = some v ∧ w1.frozen? ⟨g, 0, none⟩ = false ∧ w1.frozen? ⟨g, 1, none⟩ = false ∧ g < w1.heap.size := zf_core h hb
theorem zf_two (w : World) (o o' : Obj) : ((w.alloc o).alloc o').heap[w.heap.size]? = some o := (Below.heap_alloc _ o' _ (by simp)).trans (heap_alloc_new w o)
theorem zf_snd (w : World) (o o' : Obj) : ((w.alloc o').alloc o).heap[w.heap.size + 1]? = some o := by
  have := heap_alloc_new (w.alloc o') o; rwa [World.size_alloc] at this
theorem zfa {w w1 : World} {u v : Value} {t : TypeId} (hb : Below (w.alloc (.cells #[u, v] t)).drew.heap.size (w.alloc (.cells #[u, v] t)).drew w1) :
    w1.cell? ⟨w.heap.size, 0, none⟩ = some u ∧ w1.cell? ⟨w.heap.size, 1, none⟩ = some v ∧ w1.frozen? ⟨w.heap.size, 0, none⟩ = false ∧ w1.frozen? ⟨w.heap.size, 1, none⟩ = false ∧ w.heap.size < w1.heap.size :=
  zf_core (W := (w.alloc (.cells #[u, v] t)).drew) (heap_alloc_new w _) hb
theorem zfb {w w1 : World} {u v : Value} {t : TypeId} {o : Obj} (hb : Below ((w.alloc (.cells #[u, v] t)).alloc o).drew.heap.size ((w.alloc (.cells #[u, v] t)).alloc o).drew w1) :
    w1.cell? ⟨w.heap.size, 0, none⟩ = some u ∧ w1.cell? ⟨w.heap.size, 1, none⟩ = some v ∧ w1.frozen? ⟨w.heap.size, 0, none⟩ = false ∧ w1.frozen? ⟨w.heap.size, 1, none⟩ = false ∧ w.heap.size < w1.heap.size :=
  zf_core (W := ((w.alloc (.cells #[u, v] t)).alloc o).drew) ((Below.heap_alloc _ o _ (by simp)).trans (heap_alloc_new w (.cells #[u, v] t))) hb
theorem zfc {w w1 : World} {u v : Value} {t : TypeId} {o : Obj} (hb : Below ((w.alloc o).alloc (.cells #[u, v] t)).drew.heap.size ((w.alloc o).alloc (.cells #[u, v] t)).drew w1) :
    w1.cell? ⟨w.heap.size + 1, 0, none⟩ = some u ∧ w1.cell? ⟨w.heap.size + 1, 1, none⟩ = some v ∧ w1.frozen? ⟨w.heap.size + 1, 0, none⟩ = false ∧ w1.frozen? ⟨w.heap.size + 1, 1, none⟩ = false ∧ w.heap.size + 1 < w1.heap.size := by
  have := zf_core (W := ((w.alloc o).alloc (.cells #[u, v] t)).drew) (heap_alloc_new (w.alloc o) (.cells #[u, v] t)) hb
  rw [World.size_alloc] at this
  exact this
theorem zf0 {w w1 : World} (_ : Below w.drew.heap.size w.drew w1) (_ : w = w := rfl) : True := trivial
theorem zf1 {w w1 : World} {z : Array Value} {m : Nat} {t : TypeId} (_ : Below (w.alloc (.cells (madeCells z m) t)).drew.heap.size (w.alloc (.cells (madeCells z m) t)).drew w1) : True := trivial
theorem newPair (w : World) (u v : Value) (t : TypeId) (o : Obj) : ((w.alloc (.cells #[u, v] t)).alloc o).cell? ⟨w.heap.size, 0, none⟩ = some u ∧ ((w.alloc (.cells #[u, v] t)).alloc o).cell? ⟨w.heap.size, 1, none⟩ = some v ∧
    ((w.alloc (.cells #[u, v] t)).alloc o).frozen? ⟨w.heap.size, 0, none⟩ = false ∧ ((w.alloc (.cells #[u, v] t)).alloc o).frozen? ⟨w.heap.size, 1, none⟩ = false := by
  have k : ((w.alloc (.cells #[u, v] t)).alloc o).heap[w.heap.size]? = some (.cells #[u, v] t (0, 0)) := (Below.heap_alloc _ o _ (by simp)).trans (heap_alloc_new w (.cells #[u, v] t))
  exact ⟨(cell_of_row _ _ 0 _ t (0, 0) k).trans (by simp), (cell_of_row _ _ 1 _ t (0, 0) k).trans (by simp), by simp [World.frozen?, k], by simp [World.frozen?, k]⟩
theorem three_boxes {w w1 : World} {a b c d e f : Value} {t : TypeId} (hb : Below (w.heap.size + 1 + 1 + 1) (((w.alloc (.cells #[a, b] t)).alloc (.cells #[c, d] t)).alloc (.cells #[e, f] t)) w1) :
    (w1.cell? ⟨w.heap.size, 0, none⟩ = some a ∧ w1.cell? ⟨w.heap.size, 1, none⟩ = some b ∧ w1.cell? ⟨w.heap.size + 1, 0, none⟩ = some c ∧ w1.cell? ⟨w.heap.size + 1, 1, none⟩ = some d) ∧
      w1.cell? ⟨w.heap.size + 1 + 1, 0, none⟩ = some e ∧ w1.cell? ⟨w.heap.size + 1 + 1, 1, none⟩ = some f ∧ w1.frozen? ⟨w.heap.size + 1 + 1, 0, none⟩ = false ∧ w1.frozen? ⟨w.heap.size + 1 + 1, 1, none⟩ = false := by
  have h0 := two_boxes (w := w) (a := a) (b := b) (c := c) (d := d) (t := t) (w1 := w1) (((Below.refl _ _).alloc (Nat.le_refl _) _).trans (hb.mono (by simp)))
  have h3 : (((w.alloc (.cells #[a, b] t)).alloc (.cells #[c, d] t)).alloc (.cells #[e, f] t)).heap[w.heap.size + 1 + 1]? = some (.cells #[e, f] t (0, 0)) := by
    have := heap_alloc_new ((w.alloc (.cells #[a, b] t)).alloc (.cells #[c, d] t)) (.cells #[e, f] t); simpa using this
  have k := (hb.block (w.heap.size + 1 + 1) (by omega)).trans h3
  exact ⟨h0, by simpa using cell_of_row _ _ 0 _ t (0, 0) k, by simpa using cell_of_row _ _ 1 _ t (0, 0) k, by simp [World.frozen?, k], by simp [World.frozen?, k]⟩
set_option maxRecDepth 100000 in
theorem add1_any (x y : Int) (w : World) : Calls Try.prog 67 #[.int .i64 x, .int .i64 y] w fun e w' => e = .returned (.int .i64 (wrap64 (x + y))) ∧ w' = w := by
  go_enter Try.func67, Try.ntmps67
  go_wp2
  go_ret
  exact ⟨rfl, rfl⟩
end Go.Proofs.Ytpjelcghlnmoeaa
