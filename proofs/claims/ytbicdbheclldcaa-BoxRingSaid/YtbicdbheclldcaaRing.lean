/- The law BoxRing: the pieces of its walk. -/
import Derived.Test.YtbicdbheclldcaaRingOps
import Derived.Test.YtbicdbheclldcaaRingMath
namespace Go.Proofs.Ytbicdbheclldcaa
open Go.RowKit

theorem few_three (d o r : Hdr) (w : World) : Calls Try.prog 16 #[.slice (some ⟨w.heap.size, 0, none⟩) 3 3] (w.alloc (.cells #[.slice d.A d.n d.c, .slice d.B d.m d.e, .slice o.A o.n o.c, .slice o.B o.m o.e, .slice r.A r.n r.c, .slice r.B r.m r.e] 25))
    fun x w' => x = .returned (.bool (fewF [d, o, r])) ∧ Below (w.heap.size + 1) (w.alloc (.cells #[.slice d.A d.n d.c, .slice d.B d.m d.e, .slice o.A o.n o.c, .slice o.B o.m o.e, .slice r.A r.n r.c, .slice r.B r.m r.e] 25)) w' := by
  have hb : (w.alloc (.cells #[.slice d.A d.n d.c, .slice d.B d.m d.e, .slice o.A o.n o.c, .slice o.B o.m o.e, .slice r.A r.n r.c, .slice r.B r.m r.e] 25)).heap[w.heap.size]? = some (.cells #[.slice d.A d.n d.c, .slice d.B d.m d.e, .slice o.A o.n o.c, .slice o.B o.m o.e, .slice r.A r.n r.c, .slice r.B r.m r.e] 25 (0, 0)) := heap_alloc_new w _
  have := few_any w.heap.size 3 3 [d, o, r] (w.alloc (.cells #[.slice d.A d.n d.c, .slice d.B d.m d.e, .slice o.A o.n o.c, .slice o.B o.m o.e, .slice r.A r.n r.c, .slice r.B r.m r.e] 25)) rfl (by simp) (fun k x hx => by
    match k, hx with
    | 0, hx => simp at hx; subst hx; exact ⟨(cell_of_row _ _ 0 _ _ (0, 0) hb).trans (by simp), (cell_of_row _ _ 1 _ _ (0, 0) hb).trans (by simp)⟩
    | 1, hx => simp at hx; subst hx; exact ⟨(cell_of_row _ _ 2 _ _ (0, 0) hb).trans (by simp), (cell_of_row _ _ 3 _ _ (0, 0) hb).trans (by simp)⟩
    | 2, hx => simp at hx; subst hx; exact ⟨(cell_of_row _ _ 4 _ _ (0, 0) hb).trans (by simp), (cell_of_row _ _ 5 _ _ (0, 0) hb).trans (by simp)⟩
    | k + 3, hx => simp at hx) (by omega)
  simpa using this

/-- the three boxes of the law's parameters, whole -/
theorem three_whole {w w1 : World} {a b c d e f : Value} {t : TypeId} (hb : Below (w.heap.size + 1 + 1 + 1) (((w.alloc (.cells #[a, b] t)).alloc (.cells #[c, d] t)).alloc (.cells #[e, f] t)) w1) :
    w1.heap[w.heap.size]? = some (.cells #[a, b] t (0, 0)) ∧ w1.heap[w.heap.size + 1]? = some (.cells #[c, d] t (0, 0)) ∧ w1.heap[w.heap.size + 1 + 1]? = some (.cells #[e, f] t (0, 0)) := by
  have h3 := heap_alloc_new ((w.alloc (.cells #[a, b] t)).alloc (.cells #[c, d] t)) (.cells #[e, f] t)
  have g2 := heap_alloc_new (w.alloc (.cells #[a, b] t)) (.cells #[c, d] t)
  rw [World.size_alloc] at g2
  have h2 := (Below.heap_alloc ((w.alloc (.cells #[a, b] t)).alloc (.cells #[c, d] t)) (.cells #[e, f] t) (w.heap.size + 1) (by simp)).trans g2
  have h1 := (Below.heap_alloc ((w.alloc (.cells #[a, b] t)).alloc (.cells #[c, d] t)) (.cells #[e, f] t) w.heap.size (by simp; omega)).trans ((Below.heap_alloc (w.alloc (.cells #[a, b] t)) (.cells #[c, d] t) w.heap.size (by simp)).trans (heap_alloc_new w (.cells #[a, b] t)))
  simp only [World.size_alloc] at h3
  exact ⟨(hb.block _ (by omega)).trans h1, (hb.block _ (by omega)).trans h2, (hb.block _ (by omega)).trans h3⟩
/-- a slice's start is as good as the slice -/
theorem few_three_ok {d o r : Hdr} (h : fewF [d, o, r] = true) : (d.n ≤ 20 ∧ d.m ≤ 70000) ∧ (o.n ≤ 20 ∧ o.m ≤ 70000) ∧ r.n ≤ 20 ∧ r.m ≤ 70000 := by simpa [fewF] using h
set_option maxRecDepth 100000 in
theorem run_take64 {w : World} (A : Option Addr) (n c k : Nat) (hk : k ≤ n) (hc : n ≤ c) : (Instr.slice 23 (.slice A n c) none (some (.int .i64 (k : Int))) none).run Try.prog w = .ok (.slice A k c) w := by
  obtain ⟨i0, hi0, hz0, hz1, hz2⟩ := info_parts infoInt64
  rw [run_slice_h w 23 A n c (by kernel_rfl) .i64 (k : Int) (by omega) (by omega)]
  have hs : (sizeOf (Try.prog.elem 23)).run Try.prog w = .ok 1 w := by
    have he : Try.prog.elem 23 = 2 := by kernel_rfl
    rw [he]; simp [sizeOf, typeInfo, hi0, hz1]
  rw [hs]
  simp only [Result.andThen, sliced, Int.toNat_natCast, Nat.zero_mul, Nat.sub_zero]
  have : (if c = 0 then A else A.map (·.add 0)) = A := by
    split
    · rfl
    · cases A <;> simp [Addr.add]
  rw [this]
/-- a store of two cells into another block -/
theorem set_pair {W : World} {g g' : Nat} {u v a b : Value} {t : TypeId} (hne : g' ≠ g) (h : W.heap[g]? = some (.cells #[u, v] t (0, 0))) :
    ((W.setCell ⟨g', 0, none⟩ a).setCell ⟨g', 1, none⟩ b).drew.heap[g]? = some (.cells #[u, v] t (0, 0)) :=
  (Below.heap_setCell (W.setCell ⟨g', 0, none⟩ a) ⟨g', 1, none⟩ b g (fun e => hne (by rw [e]))).trans ((Below.heap_setCell W ⟨g', 0, none⟩ a g (fun e => hne (by rw [e]))).trans h)
/-- a store of both cells of a block -/
theorem set_own {W : World} {g : Nat} {u v a b : Value} {t : TypeId} (h : W.heap[g]? = some (.cells #[u, v] t (0, 0))) :
    ((W.setCell ⟨g, 0, none⟩ a).setCell ⟨g, 1, none⟩ b).drew.heap[g]? = some (.cells #[a, b] t (0, 0)) := by
  simp only [World.drew, World.setCell, Array.getElem?_modify, if_true, h]
  rfl
theorem of_pair {W : World} {g : Nat} {u v : Value} {t : TypeId} (h : W.heap[g]? = some (.cells #[u, v] t (0, 0))) :
    W.cell? ⟨g, 0, none⟩ = some u ∧ W.cell? ⟨g, 1, none⟩ = some v ∧ W.frozen? ⟨g, 0, none⟩ = false ∧ W.frozen? ⟨g, 1, none⟩ = false :=
  ⟨by simpa using cell_of_row _ _ 0 _ t (0, 0) h, by simpa using cell_of_row _ _ 1 _ t (0, 0) h, by simp [World.frozen?, h], by simp [World.frozen?, h]⟩
end Go.Proofs.Ytbicdbheclldcaa
