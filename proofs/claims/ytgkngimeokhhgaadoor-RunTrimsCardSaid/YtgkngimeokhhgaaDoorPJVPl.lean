/- The program's placed: an instruction whose place is told anew. Own instructions that are written to. -/
import Derived.Test.YtgkngimeokhhgaaDoorG21
import Derived.Test.YtgkngimeokhhgaaDoorPJTrimD
import Derived.Test.YtgkngimeokhhgaaDoorG7
namespace Go.Proofs.YtgkngimeokhhgaaDoor
open Go.RowKit

set_option maxRecDepth 100000 in
set_option maxHeartbeats 8000000 in
theorem placed_any (f : Nat → Nat) (ga n : Nat) (x : Ji) (w : World) (hab : ∀ j, j < n → w.cell? ⟨ga, j, none⟩ = some (.int .i64 ((f j : Nat) : Int))) (h10 : x.op = 10 → 0 ≤ x.a ∧ x.a < n) (h11 : x.op = 11 ∨ x.op = 12 → 0 ≤ x.c ∧ x.c < n) :
    Calls Tryd.prog 41 #[x.val, .slice (some ⟨ga, 0, none⟩) n n] w fun e w' => e = .returned (renum f x).val ∧ Below w.heap.size w w' := by
  obtain ⟨W0, hW0⟩ : ∃ W, (w.alloc x.obj).alloc (Ji.obj ⟨0, 0, 0, 0, 0⟩) = W := ⟨_, rfl⟩
  obtain ⟨g0, hg0⟩ : ∃ z, w.heap.size = z := ⟨_, rfl⟩
  have HB0 : Hid (Below w.heap.size w W0) := by rw [← hW0]; exact ((Below.refl w.heap.size w).alloc (Nat.le_refl _) x.obj).alloc (by simp) (Ji.obj ⟨0, 0, 0, 0, 0⟩)
  have HX0 : Hid (W0.heap[g0]? = some x.obj) := by rw [← hW0, ← hg0]; exact pastJ _ (newJ w x)
  have HR0 : Hid (W0.heap[g0 + 1]? = some (Ji.obj ⟨0, 0, 0, 0, 0⟩)) := by
    rw [← hW0, ← hg0]
    have h := newJ (w.alloc x.obj) ⟨0, 0, 0, 0, 0⟩
    rwa [World.size_alloc] at h
  have HAB : Hid (∀ j, j < n → W0.cell? ⟨ga, j, none⟩ = some (.int .i64 ((f j : Nat) : Int))) := fun j hj => by
    have := hab j hj
    exact (HB0.out.cell (block_lt_of_cell this)).trans this
  have hgw : w.heap.size ≤ g0 := by omega
  have HG0 := Lib.hid hg0
  obtain ⟨⟨k0, k1, k2, k3, k4⟩, kf⟩ := box_cellsJ HX0.out
  clear hab
  go_enter Tryd.func41, Tryd.ntmps41
  go_upto_region 1 with fail
  try rw [hW0]
  try rw [hg0]
  clear hW0 hg0
  by_cases o10 : x.op = 10
  · have c0 : (x.op == 10) = true := by simpa using o10
    have hzb := h10 o10
    obtain ⟨z, hz⟩ : ∃ z : Nat, x.a = (z : Int) := ⟨x.a.toNat, by omega⟩
    have hzn : z < n := by omega
    have hzi : (z : Int) < (n : Int) := by omega
    have HE : Hid (renum f x = ⟨x.op, (f z : Nat), x.b, x.c, x.n⟩) := by
      unfold Hid renum
      rw [if_pos o10, show (x.a).toNat = z by omega]
    have a0 := HAB.out z hzn
    have yz : W0.cell? ⟨g0, 1, none⟩ = some (.int .i64 (z : Int)) := by rw [← hz]; exact k1
    have kf1 := kf 1
    have HX1 : Hid ((W0.setCell ⟨g0, 1, none⟩ (.int .i64 ((f z : Nat) : Int))).heap[g0]? = some (Ji.obj (⟨x.op, (f z : Nat), x.b, x.c, x.n⟩))) := set_j (i := 1) (cs := [.int .i64 x.op, .int .i64 x.a, .int .i64 x.b, .int .i64 x.c, .int .i64 x.n]) HX0.out _
    have HR1 : Hid ((W0.setCell ⟨g0, 1, none⟩ (.int .i64 ((f z : Nat) : Int))).heap[g0 + 1]? = some (Ji.obj ⟨0, 0, 0, 0, 0⟩)) := (Below.heap_setCell _ ⟨g0, 1, none⟩ _ _ (by show g0 + 1 ≠ g0; omega)).trans HR0.out
    have HB1 : Hid (Below w.heap.size w (W0.setCell ⟨g0, 1, none⟩ (.int .i64 ((f z : Nat) : Int)))) := HB0.out.setCell (p := ⟨g0, 1, none⟩) (by show w.heap.size ≤ g0; omega) _
    clear hz kf k1 o10 hzb h10 h11
    go_upto_region 7 with fail
    obtain ⟨W1, hW1⟩ : ∃ W, W0.setCell ⟨g0, 1, none⟩ (.int .i64 ((f z : Nat) : Int)) = W := ⟨_, rfl⟩
    rw [hW1] at HX1 HR1 HB1
    try rw [hW1]
    clear hW1 yz a0 kf1 k0 k2 k3 k4
    obtain ⟨⟨k0, k1, k2, k3, k4⟩, kf⟩ := box_cellsJ HX1.out
    obtain ⟨r0, r1, r2, r3, r4, rf0, rf1, rf2, rf3, rf4⟩ := cells5 HR1.out
    have HD := Lib.hid (put5_below HB1.out (show w.heap.size ≤ g0 + 1 by omega) (.int .i64 x.op) (.int .i64 ((f z : Nat) : Int)) (.int .i64 x.b) (.int .i64 x.c) (.int .i64 x.n))
    obtain ⟨s0, s1, s2, s3, s4, _⟩ := cells5 (five_cells HR1.out (.int .i64 x.op) (.int .i64 ((f z : Nat) : Int)) (.int .i64 x.b) (.int .i64 x.c) (.int .i64 x.n))
    have HSS := Lib.hid (And.intro s0 (And.intro s1 (And.intro s2 (And.intro s3 s4))))
    clear s0 s1 s2 s3 s4 kf
    go_wp2_with fail
    obtain ⟨s0, s1, s2, s3, s4⟩ := HSS.out
    exact bodyPost_ret (v := Ji.val (⟨x.op, (f z : Nat), x.b, x.c, x.n⟩ : Ji)) (by simp [results, Tryd.results41, go_sem, s0, s1, s2, s3, s4]) rfl ⟨by rw [HE.out], HD.out⟩
  have c0 : (x.op == 10) = false := by simpa using o10
  by_cases o11 : x.op = 11
  · have c1 : (x.op == 11) = true := by simpa using o11
    have hzb := h11 (.inl o11)
    obtain ⟨z, hz⟩ : ∃ z : Nat, x.c = (z : Int) := ⟨x.c.toNat, by omega⟩
    have hzn : z < n := by omega
    have hzi : (z : Int) < (n : Int) := by omega
    have HE : Hid (renum f x = ⟨x.op, x.a, x.b, (f z : Nat), x.n⟩) := by
      unfold Hid renum
      rw [if_neg o10, if_pos (Or.inl o11), show (x.c).toNat = z by omega]
    have a0 := HAB.out z hzn
    have yz : W0.cell? ⟨g0, 3, none⟩ = some (.int .i64 (z : Int)) := by rw [← hz]; exact k3
    have kf3 := kf 3
    have HX1 : Hid ((W0.setCell ⟨g0, 3, none⟩ (.int .i64 ((f z : Nat) : Int))).heap[g0]? = some (Ji.obj (⟨x.op, x.a, x.b, (f z : Nat), x.n⟩))) := set_j (i := 3) (cs := [.int .i64 x.op, .int .i64 x.a, .int .i64 x.b, .int .i64 x.c, .int .i64 x.n]) HX0.out _
    have HR1 : Hid ((W0.setCell ⟨g0, 3, none⟩ (.int .i64 ((f z : Nat) : Int))).heap[g0 + 1]? = some (Ji.obj ⟨0, 0, 0, 0, 0⟩)) := (Below.heap_setCell _ ⟨g0, 3, none⟩ _ _ (by show g0 + 1 ≠ g0; omega)).trans HR0.out
    have HB1 : Hid (Below w.heap.size w (W0.setCell ⟨g0, 3, none⟩ (.int .i64 ((f z : Nat) : Int)))) := HB0.out.setCell (p := ⟨g0, 3, none⟩) (by show w.heap.size ≤ g0; omega) _
    clear hz kf k3 o10 o11 hzb h10 h11
    go_upto_region 7 with fail
    obtain ⟨W1, hW1⟩ : ∃ W, W0.setCell ⟨g0, 3, none⟩ (.int .i64 ((f z : Nat) : Int)) = W := ⟨_, rfl⟩
    rw [hW1] at HX1 HR1 HB1
    try rw [hW1]
    clear hW1 yz a0 kf3 k0 k1 k2 k4
    obtain ⟨⟨k0, k1, k2, k3, k4⟩, kf⟩ := box_cellsJ HX1.out
    obtain ⟨r0, r1, r2, r3, r4, rf0, rf1, rf2, rf3, rf4⟩ := cells5 HR1.out
    have HD := Lib.hid (put5_below HB1.out (show w.heap.size ≤ g0 + 1 by omega) (.int .i64 x.op) (.int .i64 x.a) (.int .i64 x.b) (.int .i64 ((f z : Nat) : Int)) (.int .i64 x.n))
    obtain ⟨s0, s1, s2, s3, s4, _⟩ := cells5 (five_cells HR1.out (.int .i64 x.op) (.int .i64 x.a) (.int .i64 x.b) (.int .i64 ((f z : Nat) : Int)) (.int .i64 x.n))
    have HSS := Lib.hid (And.intro s0 (And.intro s1 (And.intro s2 (And.intro s3 s4))))
    clear s0 s1 s2 s3 s4 kf
    go_wp2_with fail
    obtain ⟨s0, s1, s2, s3, s4⟩ := HSS.out
    exact bodyPost_ret (v := Ji.val (⟨x.op, x.a, x.b, (f z : Nat), x.n⟩ : Ji)) (by simp [results, Tryd.results41, go_sem, s0, s1, s2, s3, s4]) rfl ⟨by rw [HE.out], HD.out⟩
  have c1 : (x.op == 11) = false := by simpa using o11
  by_cases o12 : x.op = 12
  · have c2 : (x.op == 12) = true := by simpa using o12
    have hzb := h11 (.inr o12)
    obtain ⟨z, hz⟩ : ∃ z : Nat, x.c = (z : Int) := ⟨x.c.toNat, by omega⟩
    have hzn : z < n := by omega
    have hzi : (z : Int) < (n : Int) := by omega
    have HE : Hid (renum f x = ⟨x.op, x.a, x.b, (f z : Nat), x.n⟩) := by
      unfold Hid renum
      rw [if_neg o10, if_pos (Or.inr o12), show (x.c).toNat = z by omega]
    have a0 := HAB.out z hzn
    have yz : W0.cell? ⟨g0, 3, none⟩ = some (.int .i64 (z : Int)) := by rw [← hz]; exact k3
    have kf3 := kf 3
    have HX1 : Hid ((W0.setCell ⟨g0, 3, none⟩ (.int .i64 ((f z : Nat) : Int))).heap[g0]? = some (Ji.obj (⟨x.op, x.a, x.b, (f z : Nat), x.n⟩))) := set_j (i := 3) (cs := [.int .i64 x.op, .int .i64 x.a, .int .i64 x.b, .int .i64 x.c, .int .i64 x.n]) HX0.out _
    have HR1 : Hid ((W0.setCell ⟨g0, 3, none⟩ (.int .i64 ((f z : Nat) : Int))).heap[g0 + 1]? = some (Ji.obj ⟨0, 0, 0, 0, 0⟩)) := (Below.heap_setCell _ ⟨g0, 3, none⟩ _ _ (by show g0 + 1 ≠ g0; omega)).trans HR0.out
    have HB1 : Hid (Below w.heap.size w (W0.setCell ⟨g0, 3, none⟩ (.int .i64 ((f z : Nat) : Int)))) := HB0.out.setCell (p := ⟨g0, 3, none⟩) (by show w.heap.size ≤ g0; omega) _
    clear hz kf k3 o10 o11 o12 hzb h10 h11
    go_upto_region 7 with fail
    obtain ⟨W1, hW1⟩ : ∃ W, W0.setCell ⟨g0, 3, none⟩ (.int .i64 ((f z : Nat) : Int)) = W := ⟨_, rfl⟩
    rw [hW1] at HX1 HR1 HB1
    try rw [hW1]
    clear hW1 yz a0 kf3 k0 k1 k2 k4
    obtain ⟨⟨k0, k1, k2, k3, k4⟩, kf⟩ := box_cellsJ HX1.out
    obtain ⟨r0, r1, r2, r3, r4, rf0, rf1, rf2, rf3, rf4⟩ := cells5 HR1.out
    have HD := Lib.hid (put5_below HB1.out (show w.heap.size ≤ g0 + 1 by omega) (.int .i64 x.op) (.int .i64 x.a) (.int .i64 x.b) (.int .i64 ((f z : Nat) : Int)) (.int .i64 x.n))
    obtain ⟨s0, s1, s2, s3, s4, _⟩ := cells5 (five_cells HR1.out (.int .i64 x.op) (.int .i64 x.a) (.int .i64 x.b) (.int .i64 ((f z : Nat) : Int)) (.int .i64 x.n))
    have HSS := Lib.hid (And.intro s0 (And.intro s1 (And.intro s2 (And.intro s3 s4))))
    clear s0 s1 s2 s3 s4 kf
    go_wp2_with fail
    obtain ⟨s0, s1, s2, s3, s4⟩ := HSS.out
    exact bodyPost_ret (v := Ji.val (⟨x.op, x.a, x.b, (f z : Nat), x.n⟩ : Ji)) (by simp [results, Tryd.results41, go_sem, s0, s1, s2, s3, s4]) rfl ⟨by rw [HE.out], HD.out⟩
  have c2 : (x.op == 12) = false := by simpa using o12
  have HE : Hid (renum f x = x) := by
    unfold Hid renum
    rw [if_neg o10, if_neg (by rintro (h | h); exact o11 h; exact o12 h)]
  have HX1 := HX0
  have HR1 := HR0
  have HB1 := HB0
  clear h10 h11 o10 o11 o12
  go_upto_region 7 with fail
  clear k0 k1 k2 k3 k4 kf
  obtain ⟨⟨k0, k1, k2, k3, k4⟩, kf⟩ := box_cellsJ HX1.out
  obtain ⟨r0, r1, r2, r3, r4, rf0, rf1, rf2, rf3, rf4⟩ := cells5 HR1.out
  have HD := Lib.hid (put5_below HB1.out (show w.heap.size ≤ g0 + 1 by omega) (.int .i64 x.op) (.int .i64 x.a) (.int .i64 x.b) (.int .i64 x.c) (.int .i64 x.n))
  obtain ⟨s0, s1, s2, s3, s4, _⟩ := cells5 (five_cells HR1.out (.int .i64 x.op) (.int .i64 x.a) (.int .i64 x.b) (.int .i64 x.c) (.int .i64 x.n))
  have HSS := Lib.hid (And.intro s0 (And.intro s1 (And.intro s2 (And.intro s3 s4))))
  clear s0 s1 s2 s3 s4 kf
  go_wp2_with fail
  obtain ⟨s0, s1, s2, s3, s4⟩ := HSS.out
  exact bodyPost_ret (v := Ji.val (x : Ji)) (by simp [results, Tryd.results41, go_sem, s0, s1, s2, s3, s4]) rfl ⟨by rw [HE.out], HD.out⟩
theorem cellsJ_set : ∀ (l : List Ji) (k : Nat) (y : Ji), cellsJ (l.set k y) = (((((cellsJ l).set (k * 5) (.int .i64 y.op)).set (k * 5 + 1) (.int .i64 y.a)).set (k * 5 + 2) (.int .i64 y.b)).set (k * 5 + 3) (.int .i64 y.c)).set (k * 5 + 4) (.int .i64 y.n)
  | [], _, _ => by simp [cellsJ]
  | x :: l, 0, y => by simp [cellsJ]
  | x :: l, k + 1, y => by
    have ih := cellsJ_set l k y
    rw [List.set_cons_succ]
    simp only [cellsJ]
    rw [ih, show (k + 1) * 5 = k * 5 + 5 by omega, show k * 5 + 5 + 1 = k * 5 + 1 + 5 by omega, show k * 5 + 5 + 2 = k * 5 + 2 + 5 by omega, show k * 5 + 5 + 3 = k * 5 + 3 + 5 by omega, show k * 5 + 5 + 4 = k * 5 + 4 + 5 by omega]
    simp only [List.set_cons_succ]
/-- an own instruction is another -/
theorem OwnJ.put {w : World} {base c g : Nat} {l : List Ji} (h : OwnJ w base (some ⟨g, 0, none⟩) c l) (k : Nat) (y : Ji) :
    OwnJ (((((w.setCell ⟨g, k * 5, none⟩ (.int .i64 y.op)).setCell ⟨g, k * 5 + 1, none⟩ (.int .i64 y.a)).setCell ⟨g, k * 5 + 2, none⟩ (.int .i64 y.b)).setCell ⟨g, k * 5 + 3, none⟩ (.int .i64 y.c)).setCell ⟨g, k * 5 + 4, none⟩ (.int .i64 y.n)) base (some ⟨g, 0, none⟩) c (l.set k y) := by
  unfold OwnJ at *
  rw [cellsJ_set, List.length_set]
  exact ((((h.stored (k * 5) _).1.stored (k * 5 + 1) _).1.stored (k * 5 + 2) _).1.stored (k * 5 + 3) _).1.stored (k * 5 + 4) _ |>.1
/-- what is written to an own instruction turns nothing else -/
theorem put5_off (w : World) (g o : Nat) (x0 x1 x2 x3 x4 : Value) {b : Nat} (hb : b ≠ g) : (((((w.setCell ⟨g, o, none⟩ x0).setCell ⟨g, o + 1, none⟩ x1).setCell ⟨g, o + 2, none⟩ x2).setCell ⟨g, o + 3, none⟩ x3).setCell ⟨g, o + 4, none⟩ x4).heap[b]? = w.heap[b]? := by
  rw [heap_setCell_other _ _ b _ hb, heap_setCell_other _ _ b _ hb, heap_setCell_other _ _ b _ hb, heap_setCell_other _ _ b _ hb, heap_setCell_other _ _ b _ hb]
theorem put5_bel {w0 w : World} {B g : Nat} (h : Below B w0 w) (hg : B ≤ g) (o : Nat) (x0 x1 x2 x3 x4 : Value) : Below B w0 (((((w.setCell ⟨g, o, none⟩ x0).setCell ⟨g, o + 1, none⟩ x1).setCell ⟨g, o + 2, none⟩ x2).setCell ⟨g, o + 3, none⟩ x3).setCell ⟨g, o + 4, none⟩ x4) :=
  ((((h.setCell (p := ⟨g, o, none⟩) hg _).setCell (p := ⟨g, o + 1, none⟩) hg _).setCell (p := ⟨g, o + 2, none⟩) hg _).setCell (p := ⟨g, o + 3, none⟩) hg _).setCell (p := ⟨g, o + 4, none⟩) hg _
end Go.Proofs.YtgkngimeokhhgaaDoor
