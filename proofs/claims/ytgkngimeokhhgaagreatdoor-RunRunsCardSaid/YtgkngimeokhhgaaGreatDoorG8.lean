/- The document's step: arrays, and places. -/
import Derived.Test.YtgkngimeokhhgaaGreatDoorG7
namespace Go.Proofs.YtgkngimeokhhgaaGreatDoor
open Go.RowKit Go.Sort

set_option maxRecDepth 100000 in
set_option maxHeartbeats 8000000 in
theorem refStep_8 (c n : Int) (i j : Nat) (cells : Int) (s : Ms) (rs : List RowU) (base gR gA : Nat) (w : World) (h : MsW w base gR gA s rs) (hB : base ≤ w.heap.size) (hs : s.at_ ≤ 1000000 ∧ s.st ≤ 1000000 ∧ s.ce ≤ 1000000) (hrv : ∀ v ∈ s.R, I64 v) (hi : i < s.R.length) (hj : j < s.A.length) (hal : ∀ i : Nat, (s.a (i : Int)).length ≤ 1000000) (_hav : ∀ l ∈ s.A, ∀ v ∈ l, I64 v) :
    Calls Tryz.prog 32 #[stV s gR gA, Ji.val (⟨8, (i : Int), (j : Int), c, n⟩), .int .i64 cells] w (StepP base gR gA s (⟨8, (i : Int), (j : Int), c, n⟩) cells w) := by
  obtain ⟨W0, hW0⟩ : ∃ W, ((w.alloc (stO s gR gA)).alloc (Ji.obj (⟨8, (i : Int), (j : Int), c, n⟩))).alloc stZ = W := ⟨_, rfl⟩
  obtain ⟨g0, hg0⟩ : ∃ z, w.heap.size = z := ⟨_, rfl⟩
  have hb1 := lvBelow w (stO s gR gA)
  have hb2 := lvBelow (w.alloc (stO s gR gA)) (Ji.obj (⟨8, (i : Int), (j : Int), c, n⟩))
  have hb3 := lvBelow ((w.alloc (stO s gR gA)).alloc (Ji.obj (⟨8, (i : Int), (j : Int), c, n⟩))) stZ
  have h1 := keep_b hb3 (keep_b hb2 (heap_alloc_new w (stO s gR gA)))
  have h2 := keep_b hb3 (heap_alloc_new (w.alloc (stO s gR gA)) (Ji.obj (⟨8, (i : Int), (j : Int), c, n⟩)))
  have h3 := heap_alloc_new ((w.alloc (stO s gR gA)).alloc (Ji.obj (⟨8, (i : Int), (j : Int), c, n⟩))) stZ
  have hb := hb1.trans ((hb2.trans (hb3.mono hb2.size)).mono hb1.size)
  rw [hW0] at h1 h2 h3 hb
  simp only [World.size_alloc] at h2 h3
  rw [hg0] at h1 h2 h3
  have HMR := Lib.hid (fun i => (show I64 (s.r i) from by
    rcases getD_mem (l := s.R) (i := i.toNat) (d := 0) with h1 | h1
    · exact hrv _ h1
    · show I64 (s.R.getD i.toNat 0); rw [h1]; exact .zero))
  obtain ⟨t0, t1, t2⟩ := hs
  have HG0 : Hid (w.heap.size ≤ g0) := Nat.le_of_eq hg0
  have HBB := Lib.hid hB
  have hk1 : KeepU base w ((W0.setCell ⟨g0, 3, none⟩ (.int .i64 ((s.st : Int) + 1))).setCell ⟨g0, 0, none⟩ (.int .i64 ((s.at_ : Int) + 1))) := ((KeepU.of_below hb hB).box (g := g0) (by omega) hB 3 _).box (g := g0) (by omega) hB 0 _
  have hm0 := (h.on hb).box h1 (by decide) (by decide) 3 (.int .i64 ((s.st : Int) + 1))
  have hs0 := set_j (i := 3) (cs := [.int .i64 (s.at_ : Int), .slice (some ⟨gR, 0, none⟩) s.R.length s.R.length, .slice (some ⟨gA, 0, none⟩) s.A.length s.A.length, .int .i64 (s.st : Int), .int .i64 (s.ce : Int)]) h1 (.int .i64 ((s.st : Int) + 1))
  have hm1 := hm0.box hs0 (by decide) (by decide) 0 (.int .i64 ((s.at_ : Int) + 1))
  have hs1 := set_j (i := 0) (cs := [.int .i64 (s.at_ : Int), .slice (some ⟨gR, 0, none⟩) s.R.length s.R.length, .slice (some ⟨gA, 0, none⟩) s.A.length s.A.length, .int .i64 ((s.st : Int) + 1), .int .i64 (s.ce : Int)]) hs0 (.int .i64 ((s.at_ : Int) + 1))
  have hx1 : ((W0.setCell ⟨g0, 3, none⟩ (.int .i64 ((s.st : Int) + 1))).setCell ⟨g0, 0, none⟩ (.int .i64 ((s.at_ : Int) + 1))).heap[g0 + 1]? = some (Ji.obj (⟨8, (i : Int), (j : Int), c, n⟩)) := by rw [heap_setCell_other _ _ _ _ (by show g0 + 1 ≠ g0; omega), heap_setCell_other _ _ _ _ (by show g0 + 1 ≠ g0; omega)]; exact h2
  have hz1 : ((W0.setCell ⟨g0, 3, none⟩ (.int .i64 ((s.st : Int) + 1))).setCell ⟨g0, 0, none⟩ (.int .i64 ((s.at_ : Int) + 1))).heap[g0 + 1 + 1]? = some stZ := by rw [heap_setCell_other _ _ _ _ (by show g0 + 1 + 1 ≠ g0; omega), heap_setCell_other _ _ _ _ (by show g0 + 1 + 1 ≠ g0; omega)]; exact h3
  obtain ⟨r0, r1, r2, r3, r4, rf0, rf1, rf2, rf3, rf4⟩ := cells5 h1
  obtain ⟨T, hT⟩ : ∃ T, s.tick = T := ⟨_, rfl⟩
  have HT := Lib.hid hT
  have HS1 : Hid (((W0.setCell ⟨g0, 3, none⟩ (.int .i64 ((s.st : Int) + 1))).setCell ⟨g0, 0, none⟩ (.int .i64 ((s.at_ : Int) + 1))).heap[g0]? = some (stO T gR gA)) := by rw [← hT]; exact hs1
  have HM1 : Hid (MsW ((W0.setCell ⟨g0, 3, none⟩ (.int .i64 ((s.st : Int) + 1))).setCell ⟨g0, 0, none⟩ (.int .i64 ((s.at_ : Int) + 1))) base gR gA T rs) := by rw [← hT]; exact hm1.tick
  have HTS : Hid (T.R = s.R ∧ T.A = s.A ∧ T.at_ = s.at_ + 1 ∧ T.st = s.st + 1 ∧ T.ce = s.ce) := by rw [← hT]; exact ⟨rfl, rfl, rfl, rfl, rfl⟩
  have HK1 := Lib.hid hk1
  have HX1 := Lib.hid hx1
  have HZ1 := Lib.hid hz1
  clear hb1 hb2 hb3 h1 h2 h3 hb h hk1 hm0 hs0 hm1 hs1 hx1 hz1 hT hrv
  go_enter Tryz.func32, Tryz.ntmps32
  go_upto_region 1 with fail
  try rw [hW0]
  try rw [hg0]
  go_upto_region 3 with fail
  clear r0 r1 r2 r3 r4 rf0 rf1 rf2 rf3 rf4 hB
  obtain ⟨W1, hW1⟩ : ∃ W, (W0.setCell ⟨g0, 3, none⟩ (.int .i64 ((s.st : Int) + 1))).setCell ⟨g0, 0, none⟩ (.int .i64 ((s.at_ : Int) + 1)) = W := ⟨_, rfl⟩
  rw [hW1] at HK1 HX1 HZ1 HS1 HM1
  try rw [hW1]
  clear hW1 hW0 hg0
  obtain ⟨r0, r1, r2, r3, r4, rf0, rf1, rf2, rf3, rf4⟩ := cells5 HS1.out
  obtain ⟨⟨y0, y1, y2, y3, y4⟩, _⟩ := box_cellsJ HX1.out
  have hi : i < T.R.length := by rw [HTS.out.1]; exact hi
  have hi0 : (0 : Int) ≤ (i : Int) := by omega
  have hi1 : (i : Int) < (T.R.length : Int) := by omega
  have hj : j < T.A.length := by rw [HTS.out.2.1]; exact hj
  have hj0 : (0 : Int) ≤ (j : Int) := by omega
  have hj1 : (j : Int) < (T.A.length : Int) := by omega
  have hmx : Tryz.prog.follows .mixedOrders = true := by kernel_rfl
  have HTR : Hid (∀ q, I64 (T.r q)) := fun q => by have := HMR.out q; unfold Ms.r at *; rw [HTS.out.1]; exact this
  obtain ⟨r, HRR, hrL, hrO, d1, _⟩ := HM1.out.row (i := j) hj
  have hlen : (T.a (j : Int)).length ≤ 1000000 := by
    have : T.a (j : Int) = s.a (j : Int) := by unfold Ms.a; rw [HTS.out.2.1]
    rw [this]; exact hal j
  obtain ⟨m, hm⟩ : ∃ m, (T.a (j : Int)).length = m := ⟨_, rfl⟩
  rw [hm] at d1 hlen
  have HMM := Lib.hid hm
  clear hm
  go_upto_region 25 with fail
  have xr1 := cell_regrown r1
  have xr2 := cell_regrown r2
  have xy1 := cell_regrown y1
  have xy2 := cell_regrown y2
  have xd1 := cell_regrown d1
  refine wp_region_below_tail 11 hmx (by kernel_rfl) ?_
  simp only [List.take_succ_cons, List.take_zero, List.drop_succ_cons, List.drop_zero]
  repeat (quiet_step (fail))
  refine wpQuiet_nil ?_
  intro _ hw'
  obtain ⟨⟨dq, osq⟩, hw''⟩ := hw'
  subst hw''
  obtain ⟨W9, hW9⟩ : ∃ W, grow (redrawn W1 dq) osq = W := ⟨_, rfl⟩
  have hb9 := below_regrown W1 dq osq
  rw [hW9] at hb9 ⊢
  have HM9 := Lib.hid (HM1.out.on hb9)
  have HS9 := Lib.hid (keep_b hb9 HS1.out)
  have HZ9 := Lib.hid (keep_b hb9 HZ1.out)
  have HK9 := Lib.hid (HK1.out.below HBB.out hb9)
  clear xr1 xr2 xy1 xy2 xd1 r1 r2 y1 y2 d1 hW9 hb9
  obtain ⟨c0, cf⟩ := HM9.out.reg (i := i) hi
  obtain ⟨hm2, hk2⟩ := HM9.out.setR i (v := (m : Int)) (by unfold I64; omega)
  have HM2 := Lib.hid hm2
  have HK2 := Lib.hid hk2
  clear hm2 hk2
  go_upto_region 39 with fail
  obtain ⟨W2, hW2⟩ : ∃ W, W9.setCell ⟨gR, i, none⟩ (.int .i64 ((m : Int))) = W := ⟨_, rfl⟩
  rw [hW2] at HM2 HK2
  have HS2 : Hid (W2.heap[g0]? = some (stO T gR gA)) := HK2.out.blk _ _ _ HS9.out (by decide) (by decide)
  have HZ2 : Hid (W2.heap[g0 + 1 + 1]? = some stZ) := HK2.out.blk _ _ _ HZ9.out (by decide) (by decide)
  have HKK := Lib.hid (HK9.out.trans HK2.out)
  try rw [hW2]
  clear hW2
  clear c0 cf
  clear r0 r3 r4 rf0 rf1 rf2 rf3 rf4 y0 y3 y4
  obtain ⟨r0, r1, r2, r3, r4, rf0, rf1, rf2, rf3, rf4⟩ := cells5 HS2.out
  obtain ⟨q0, q1, q2, q3, q4, qf0, qf1, qf2, qf3, qf4⟩ := cells5 HZ2.out
  have HKE := Lib.hid (KeepU.put5 HKK.out (g := g0 + 1 + 1) (by have := HG0.out; omega) HBB.out (.int .i64 ((T.at_ : Nat) : Int)) (.slice (some ⟨gR, 0, none⟩) T.R.length T.R.length) (.slice (some ⟨gA, 0, none⟩) T.A.length T.A.length) (.int .i64 ((T.st : Nat) : Int)) (.int .i64 ((T.ce : Nat) : Int)))
  obtain ⟨s0, s1, s2, s3, s4, _⟩ := cells5 (five_cells HZ2.out (.int .i64 ((T.at_ : Nat) : Int)) (.slice (some ⟨gR, 0, none⟩) T.R.length T.R.length) (.slice (some ⟨gA, 0, none⟩) T.A.length T.A.length) (.int .i64 ((T.st : Nat) : Int)) (.int .i64 ((T.ce : Nat) : Int)))
  have HSS := Lib.hid (And.intro s0 (And.intro s1 (And.intro s2 (And.intro s3 s4))))
  have HME := Lib.hid (MsW.put5 HM2.out HZ2.out (.int .i64 ((T.at_ : Nat) : Int)) (.slice (some ⟨gR, 0, none⟩) T.R.length T.R.length) (.slice (some ⟨gA, 0, none⟩) T.A.length T.A.length) (.int .i64 ((T.st : Nat) : Int)) (.int .i64 ((T.ce : Nat) : Int)))
  clear s0 s1 s2 s3 s4
  go_wp2_with fail
  obtain ⟨s0, s1, s2, s3, s4⟩ := HSS.out
  exact bodyPost_ret (v := .tuple #[.agg #[.int .i64 ((T.at_ : Nat) : Int), .slice (some ⟨gR, 0, none⟩) T.R.length T.R.length, .slice (some ⟨gA, 0, none⟩) T.A.length T.A.length, .int .i64 ((T.st : Nat) : Int), .int .i64 ((T.ce : Nat) : Int)], .int .i64 0]) (by simp [results, Tryz.results32, go_sem, s0, s1, s2, s3, s4]) rfl (.inl ⟨T.put (i : Int) (m : Int), rs, (by rw [HT.out, ← HMM.out]; rfl), (by simp [stV, Ms.put]), HME.out, HKE.out⟩)
set_option maxRecDepth 100000 in
set_option maxHeartbeats 8000000 in
theorem refStep_10 (b c n : Int) (p : Nat) (cells : Int) (s : Ms) (rs : List RowU) (base gR gA : Nat) (w : World) (h : MsW w base gR gA s rs) (hB : base ≤ w.heap.size) (hs : s.at_ ≤ 1000000 ∧ s.st ≤ 1000000 ∧ s.ce ≤ 1000000) (hrv : ∀ v ∈ s.R, I64 v) :
    Calls Tryz.prog 32 #[stV s gR gA, Ji.val (⟨10, (p : Int), b, c, n⟩), .int .i64 cells] w (StepP base gR gA s (⟨10, (p : Int), b, c, n⟩) cells w) := by
  obtain ⟨W0, hW0⟩ : ∃ W, ((w.alloc (stO s gR gA)).alloc (Ji.obj (⟨10, (p : Int), b, c, n⟩))).alloc stZ = W := ⟨_, rfl⟩
  obtain ⟨g0, hg0⟩ : ∃ z, w.heap.size = z := ⟨_, rfl⟩
  have hb1 := lvBelow w (stO s gR gA)
  have hb2 := lvBelow (w.alloc (stO s gR gA)) (Ji.obj (⟨10, (p : Int), b, c, n⟩))
  have hb3 := lvBelow ((w.alloc (stO s gR gA)).alloc (Ji.obj (⟨10, (p : Int), b, c, n⟩))) stZ
  have h1 := keep_b hb3 (keep_b hb2 (heap_alloc_new w (stO s gR gA)))
  have h2 := keep_b hb3 (heap_alloc_new (w.alloc (stO s gR gA)) (Ji.obj (⟨10, (p : Int), b, c, n⟩)))
  have h3 := heap_alloc_new ((w.alloc (stO s gR gA)).alloc (Ji.obj (⟨10, (p : Int), b, c, n⟩))) stZ
  have hb := hb1.trans ((hb2.trans (hb3.mono hb2.size)).mono hb1.size)
  rw [hW0] at h1 h2 h3 hb
  simp only [World.size_alloc] at h2 h3
  rw [hg0] at h1 h2 h3
  have HMR := Lib.hid (fun i => (show I64 (s.r i) from by
    rcases getD_mem (l := s.R) (i := i.toNat) (d := 0) with h1 | h1
    · exact hrv _ h1
    · show I64 (s.R.getD i.toNat 0); rw [h1]; exact .zero))
  obtain ⟨t0, t1, t2⟩ := hs
  have HG0 : Hid (w.heap.size ≤ g0) := Nat.le_of_eq hg0
  have HBB := Lib.hid hB
  have hk1 : KeepU base w ((W0.setCell ⟨g0, 3, none⟩ (.int .i64 ((s.st : Int) + 1))).setCell ⟨g0, 0, none⟩ (.int .i64 ((s.at_ : Int) + 1))) := ((KeepU.of_below hb hB).box (g := g0) (by omega) hB 3 _).box (g := g0) (by omega) hB 0 _
  have hm0 := (h.on hb).box h1 (by decide) (by decide) 3 (.int .i64 ((s.st : Int) + 1))
  have hs0 := set_j (i := 3) (cs := [.int .i64 (s.at_ : Int), .slice (some ⟨gR, 0, none⟩) s.R.length s.R.length, .slice (some ⟨gA, 0, none⟩) s.A.length s.A.length, .int .i64 (s.st : Int), .int .i64 (s.ce : Int)]) h1 (.int .i64 ((s.st : Int) + 1))
  have hm1 := hm0.box hs0 (by decide) (by decide) 0 (.int .i64 ((s.at_ : Int) + 1))
  have hs1 := set_j (i := 0) (cs := [.int .i64 (s.at_ : Int), .slice (some ⟨gR, 0, none⟩) s.R.length s.R.length, .slice (some ⟨gA, 0, none⟩) s.A.length s.A.length, .int .i64 ((s.st : Int) + 1), .int .i64 (s.ce : Int)]) hs0 (.int .i64 ((s.at_ : Int) + 1))
  have hx1 : ((W0.setCell ⟨g0, 3, none⟩ (.int .i64 ((s.st : Int) + 1))).setCell ⟨g0, 0, none⟩ (.int .i64 ((s.at_ : Int) + 1))).heap[g0 + 1]? = some (Ji.obj (⟨10, (p : Int), b, c, n⟩)) := by rw [heap_setCell_other _ _ _ _ (by show g0 + 1 ≠ g0; omega), heap_setCell_other _ _ _ _ (by show g0 + 1 ≠ g0; omega)]; exact h2
  have hz1 : ((W0.setCell ⟨g0, 3, none⟩ (.int .i64 ((s.st : Int) + 1))).setCell ⟨g0, 0, none⟩ (.int .i64 ((s.at_ : Int) + 1))).heap[g0 + 1 + 1]? = some stZ := by rw [heap_setCell_other _ _ _ _ (by show g0 + 1 + 1 ≠ g0; omega), heap_setCell_other _ _ _ _ (by show g0 + 1 + 1 ≠ g0; omega)]; exact h3
  obtain ⟨r0, r1, r2, r3, r4, rf0, rf1, rf2, rf3, rf4⟩ := cells5 h1
  obtain ⟨T, hT⟩ : ∃ T, s.tick = T := ⟨_, rfl⟩
  have HT := Lib.hid hT
  have HS1 : Hid (((W0.setCell ⟨g0, 3, none⟩ (.int .i64 ((s.st : Int) + 1))).setCell ⟨g0, 0, none⟩ (.int .i64 ((s.at_ : Int) + 1))).heap[g0]? = some (stO T gR gA)) := by rw [← hT]; exact hs1
  have HM1 : Hid (MsW ((W0.setCell ⟨g0, 3, none⟩ (.int .i64 ((s.st : Int) + 1))).setCell ⟨g0, 0, none⟩ (.int .i64 ((s.at_ : Int) + 1))) base gR gA T rs) := by rw [← hT]; exact hm1.tick
  have HTS : Hid (T.R = s.R ∧ T.A = s.A ∧ T.at_ = s.at_ + 1 ∧ T.st = s.st + 1 ∧ T.ce = s.ce) := by rw [← hT]; exact ⟨rfl, rfl, rfl, rfl, rfl⟩
  have HK1 := Lib.hid hk1
  have HX1 := Lib.hid hx1
  have HZ1 := Lib.hid hz1
  clear hb1 hb2 hb3 h1 h2 h3 hb h hk1 hm0 hs0 hm1 hs1 hx1 hz1 hT hrv
  go_enter Tryz.func32, Tryz.ntmps32
  go_upto_region 1 with fail
  try rw [hW0]
  try rw [hg0]
  go_upto_region 3 with fail
  clear r0 r1 r2 r3 r4 rf0 rf1 rf2 rf3 rf4 hB
  obtain ⟨W1, hW1⟩ : ∃ W, (W0.setCell ⟨g0, 3, none⟩ (.int .i64 ((s.st : Int) + 1))).setCell ⟨g0, 0, none⟩ (.int .i64 ((s.at_ : Int) + 1)) = W := ⟨_, rfl⟩
  rw [hW1] at HK1 HX1 HZ1 HS1 HM1
  try rw [hW1]
  clear hW1 hW0 hg0
  obtain ⟨r0, r1, r2, r3, r4, rf0, rf1, rf2, rf3, rf4⟩ := cells5 HS1.out
  obtain ⟨⟨y0, y1, y2, y3, y4⟩, _⟩ := box_cellsJ HX1.out
  have HS2 := Lib.hid (set_j (i := 0) (cs := [.int .i64 (T.at_ : Int), .slice (some ⟨gR, 0, none⟩) T.R.length T.R.length, .slice (some ⟨gA, 0, none⟩) T.A.length T.A.length, .int .i64 (T.st : Int), .int .i64 (T.ce : Int)]) HS1.out (.int .i64 (p : Int)))
  have HM2 := Lib.hid ((HM1.out.box HS1.out (by decide) (by decide) 0 (.int .i64 (p : Int))).goto_ (p : Int))
  have HK2 := Lib.hid (HK1.out.box (g := g0) HG0.out HBB.out 0 (.int .i64 (p : Int)))
  have HZ2 : Hid ((W1.setCell ⟨g0, 0, none⟩ (.int .i64 (p : Int))).heap[g0 + 1 + 1]? = some stZ) := by unfold Hid; rw [heap_setCell_other _ _ _ _ (by show g0 + 1 + 1 ≠ g0; omega)]; exact HZ1.out
  obtain ⟨W2, hW2⟩ : ∃ W, W1.setCell ⟨g0, 0, none⟩ (.int .i64 (p : Int)) = W := ⟨_, rfl⟩
  have HS2 : Hid (W2.heap[g0]? = some (.cells #[.int .i64 (p : Int), .slice (some ⟨gR, 0, none⟩) T.R.length T.R.length, .slice (some ⟨gA, 0, none⟩) T.A.length T.A.length, .int .i64 (T.st : Int), .int .i64 (T.ce : Int)] 54 (0, 0))) := by rw [← hW2]; exact HS2
  rw [hW2] at HM2 HK2 HZ2
  go_upto_region 39 with fail
  try rw [hW2]
  clear hW2
  clear r0 r1 r2 r3 r4 rf0 rf1 rf2 rf3 rf4 y0 y1 y2 y3 y4
  obtain ⟨r0, r1, r2, r3, r4, rf0, rf1, rf2, rf3, rf4⟩ := cells5 HS2.out
  obtain ⟨q0, q1, q2, q3, q4, qf0, qf1, qf2, qf3, qf4⟩ := cells5 HZ2.out
  have HKE := Lib.hid (KeepU.put5 HK2.out (g := g0 + 1 + 1) (by have := HG0.out; omega) HBB.out (.int .i64 ((p : Nat) : Int)) (.slice (some ⟨gR, 0, none⟩) T.R.length T.R.length) (.slice (some ⟨gA, 0, none⟩) T.A.length T.A.length) (.int .i64 ((T.st : Nat) : Int)) (.int .i64 ((T.ce : Nat) : Int)))
  obtain ⟨s0, s1, s2, s3, s4, _⟩ := cells5 (five_cells HZ2.out (.int .i64 ((p : Nat) : Int)) (.slice (some ⟨gR, 0, none⟩) T.R.length T.R.length) (.slice (some ⟨gA, 0, none⟩) T.A.length T.A.length) (.int .i64 ((T.st : Nat) : Int)) (.int .i64 ((T.ce : Nat) : Int)))
  have HSS := Lib.hid (And.intro s0 (And.intro s1 (And.intro s2 (And.intro s3 s4))))
  have HME := Lib.hid (MsW.put5 HM2.out HZ2.out (.int .i64 ((p : Nat) : Int)) (.slice (some ⟨gR, 0, none⟩) T.R.length T.R.length) (.slice (some ⟨gA, 0, none⟩) T.A.length T.A.length) (.int .i64 ((T.st : Nat) : Int)) (.int .i64 ((T.ce : Nat) : Int)))
  clear s0 s1 s2 s3 s4
  go_wp2_with fail
  obtain ⟨s0, s1, s2, s3, s4⟩ := HSS.out
  exact bodyPost_ret (v := .tuple #[.agg #[.int .i64 ((p : Nat) : Int), .slice (some ⟨gR, 0, none⟩) T.R.length T.R.length, .slice (some ⟨gA, 0, none⟩) T.A.length T.A.length, .int .i64 ((T.st : Nat) : Int), .int .i64 ((T.ce : Nat) : Int)], .int .i64 0]) (by simp [results, Tryz.results32, go_sem, s0, s1, s2, s3, s4]) rfl (.inl ⟨T.goto_ (p : Int), rs, (by rw [HT.out]; rfl), (by simp [stV, Ms.goto_]), HME.out, HKE.out⟩)
set_option maxRecDepth 100000 in
set_option maxHeartbeats 8000000 in
theorem refStep_11 (n : Int) (i j p : Nat) (cells : Int) (s : Ms) (rs : List RowU) (base gR gA : Nat) (w : World) (h : MsW w base gR gA s rs) (hB : base ≤ w.heap.size) (hs : s.at_ ≤ 1000000 ∧ s.st ≤ 1000000 ∧ s.ce ≤ 1000000) (hrv : ∀ v ∈ s.R, I64 v) (hi : i < s.R.length) (hj : j < s.R.length) :
    Calls Tryz.prog 32 #[stV s gR gA, Ji.val (⟨11, (i : Int), (j : Int), (p : Int), n⟩), .int .i64 cells] w (StepP base gR gA s (⟨11, (i : Int), (j : Int), (p : Int), n⟩) cells w) := by
  obtain ⟨W0, hW0⟩ : ∃ W, ((w.alloc (stO s gR gA)).alloc (Ji.obj (⟨11, (i : Int), (j : Int), (p : Int), n⟩))).alloc stZ = W := ⟨_, rfl⟩
  obtain ⟨g0, hg0⟩ : ∃ z, w.heap.size = z := ⟨_, rfl⟩
  have hb1 := lvBelow w (stO s gR gA)
  have hb2 := lvBelow (w.alloc (stO s gR gA)) (Ji.obj (⟨11, (i : Int), (j : Int), (p : Int), n⟩))
  have hb3 := lvBelow ((w.alloc (stO s gR gA)).alloc (Ji.obj (⟨11, (i : Int), (j : Int), (p : Int), n⟩))) stZ
  have h1 := keep_b hb3 (keep_b hb2 (heap_alloc_new w (stO s gR gA)))
  have h2 := keep_b hb3 (heap_alloc_new (w.alloc (stO s gR gA)) (Ji.obj (⟨11, (i : Int), (j : Int), (p : Int), n⟩)))
  have h3 := heap_alloc_new ((w.alloc (stO s gR gA)).alloc (Ji.obj (⟨11, (i : Int), (j : Int), (p : Int), n⟩))) stZ
  have hb := hb1.trans ((hb2.trans (hb3.mono hb2.size)).mono hb1.size)
  rw [hW0] at h1 h2 h3 hb
  simp only [World.size_alloc] at h2 h3
  rw [hg0] at h1 h2 h3
  have HMR := Lib.hid (fun i => (show I64 (s.r i) from by
    rcases getD_mem (l := s.R) (i := i.toNat) (d := 0) with h1 | h1
    · exact hrv _ h1
    · show I64 (s.R.getD i.toNat 0); rw [h1]; exact .zero))
  obtain ⟨t0, t1, t2⟩ := hs
  have HG0 : Hid (w.heap.size ≤ g0) := Nat.le_of_eq hg0
  have HBB := Lib.hid hB
  have hk1 : KeepU base w ((W0.setCell ⟨g0, 3, none⟩ (.int .i64 ((s.st : Int) + 1))).setCell ⟨g0, 0, none⟩ (.int .i64 ((s.at_ : Int) + 1))) := ((KeepU.of_below hb hB).box (g := g0) (by omega) hB 3 _).box (g := g0) (by omega) hB 0 _
  have hm0 := (h.on hb).box h1 (by decide) (by decide) 3 (.int .i64 ((s.st : Int) + 1))
  have hs0 := set_j (i := 3) (cs := [.int .i64 (s.at_ : Int), .slice (some ⟨gR, 0, none⟩) s.R.length s.R.length, .slice (some ⟨gA, 0, none⟩) s.A.length s.A.length, .int .i64 (s.st : Int), .int .i64 (s.ce : Int)]) h1 (.int .i64 ((s.st : Int) + 1))
  have hm1 := hm0.box hs0 (by decide) (by decide) 0 (.int .i64 ((s.at_ : Int) + 1))
  have hs1 := set_j (i := 0) (cs := [.int .i64 (s.at_ : Int), .slice (some ⟨gR, 0, none⟩) s.R.length s.R.length, .slice (some ⟨gA, 0, none⟩) s.A.length s.A.length, .int .i64 ((s.st : Int) + 1), .int .i64 (s.ce : Int)]) hs0 (.int .i64 ((s.at_ : Int) + 1))
  have hx1 : ((W0.setCell ⟨g0, 3, none⟩ (.int .i64 ((s.st : Int) + 1))).setCell ⟨g0, 0, none⟩ (.int .i64 ((s.at_ : Int) + 1))).heap[g0 + 1]? = some (Ji.obj (⟨11, (i : Int), (j : Int), (p : Int), n⟩)) := by rw [heap_setCell_other _ _ _ _ (by show g0 + 1 ≠ g0; omega), heap_setCell_other _ _ _ _ (by show g0 + 1 ≠ g0; omega)]; exact h2
  have hz1 : ((W0.setCell ⟨g0, 3, none⟩ (.int .i64 ((s.st : Int) + 1))).setCell ⟨g0, 0, none⟩ (.int .i64 ((s.at_ : Int) + 1))).heap[g0 + 1 + 1]? = some stZ := by rw [heap_setCell_other _ _ _ _ (by show g0 + 1 + 1 ≠ g0; omega), heap_setCell_other _ _ _ _ (by show g0 + 1 + 1 ≠ g0; omega)]; exact h3
  obtain ⟨r0, r1, r2, r3, r4, rf0, rf1, rf2, rf3, rf4⟩ := cells5 h1
  obtain ⟨T, hT⟩ : ∃ T, s.tick = T := ⟨_, rfl⟩
  have HT := Lib.hid hT
  have HS1 : Hid (((W0.setCell ⟨g0, 3, none⟩ (.int .i64 ((s.st : Int) + 1))).setCell ⟨g0, 0, none⟩ (.int .i64 ((s.at_ : Int) + 1))).heap[g0]? = some (stO T gR gA)) := by rw [← hT]; exact hs1
  have HM1 : Hid (MsW ((W0.setCell ⟨g0, 3, none⟩ (.int .i64 ((s.st : Int) + 1))).setCell ⟨g0, 0, none⟩ (.int .i64 ((s.at_ : Int) + 1))) base gR gA T rs) := by rw [← hT]; exact hm1.tick
  have HTS : Hid (T.R = s.R ∧ T.A = s.A ∧ T.at_ = s.at_ + 1 ∧ T.st = s.st + 1 ∧ T.ce = s.ce) := by rw [← hT]; exact ⟨rfl, rfl, rfl, rfl, rfl⟩
  have HK1 := Lib.hid hk1
  have HX1 := Lib.hid hx1
  have HZ1 := Lib.hid hz1
  clear hb1 hb2 hb3 h1 h2 h3 hb h hk1 hm0 hs0 hm1 hs1 hx1 hz1 hT hrv
  go_enter Tryz.func32, Tryz.ntmps32
  go_upto_region 1 with fail
  try rw [hW0]
  try rw [hg0]
  go_upto_region 3 with fail
  clear r0 r1 r2 r3 r4 rf0 rf1 rf2 rf3 rf4 hB
  obtain ⟨W1, hW1⟩ : ∃ W, (W0.setCell ⟨g0, 3, none⟩ (.int .i64 ((s.st : Int) + 1))).setCell ⟨g0, 0, none⟩ (.int .i64 ((s.at_ : Int) + 1)) = W := ⟨_, rfl⟩
  rw [hW1] at HK1 HX1 HZ1 HS1 HM1
  try rw [hW1]
  clear hW1 hW0 hg0
  obtain ⟨r0, r1, r2, r3, r4, rf0, rf1, rf2, rf3, rf4⟩ := cells5 HS1.out
  obtain ⟨⟨y0, y1, y2, y3, y4⟩, _⟩ := box_cellsJ HX1.out
  have hi : i < T.R.length := by rw [HTS.out.1]; exact hi
  have hi0 : (0 : Int) ≤ (i : Int) := by omega
  have hi1 : (i : Int) < (T.R.length : Int) := by omega
  have hj : j < T.R.length := by rw [HTS.out.1]; exact hj
  have hj0 : (0 : Int) ≤ (j : Int) := by omega
  have hj1 : (j : Int) < (T.R.length : Int) := by omega
  obtain ⟨b0, _⟩ := HM1.out.reg (i := i) hi
  obtain ⟨b1, _⟩ := HM1.out.reg (i := j) hj
  obtain ⟨u, hu⟩ : ∃ u, T.r (i : Int) = u := ⟨_, rfl⟩
  obtain ⟨v, hv⟩ : ∃ v, T.r (j : Int) = v := ⟨_, rfl⟩
  rw [hu] at b0
  rw [hv] at b1
  by_cases hl : u < v
  · have HLT : Hid (T.r (i : Int) < T.r (j : Int)) := by rw [hu, hv]; exact Lib.hid hl
    clear hu hv
    have hl2 : decide (u < v) = true := decide_eq_true hl
    clear hl
    go_upto_region 34 with fail
    go_quiet (fail)
    obtain ⟨W9, hW9⟩ : ∃ W, W1.drewN nq = W := ⟨_, rfl⟩
    have hb9 : Below W1.heap.size W1 W9 := by rw [← hW9]; exact ⟨rfl, rfl, rfl, Nat.le_refl _, fun _ _ => rfl⟩
    have HM9 := Lib.hid (HM1.out.on hb9)
    have HS9 := Lib.hid (keep_b hb9 HS1.out)
    have HZ9 := Lib.hid (keep_b hb9 HZ1.out)
    have HX9 := Lib.hid (keep_b hb9 HX1.out)
    have HK9 := Lib.hid (HK1.out.below HBB.out hb9)
    try rw [hW9]
    clear hb9 hW9 b0 b1 hl2
    clear r0 r1 r2 r3 r4 rf0 rf1 rf2 rf3 rf4 y0 y1 y2 y3 y4
    obtain ⟨r0, r1, r2, r3, r4, rf0, rf1, rf2, rf3, rf4⟩ := cells5 HS9.out
    obtain ⟨⟨y0, y1, y2, y3, y4⟩, _⟩ := box_cellsJ HX9.out
    have HS2 := Lib.hid (set_j (i := 0) (cs := [.int .i64 (T.at_ : Int), .slice (some ⟨gR, 0, none⟩) T.R.length T.R.length, .slice (some ⟨gA, 0, none⟩) T.A.length T.A.length, .int .i64 (T.st : Int), .int .i64 (T.ce : Int)]) HS9.out (.int .i64 (p : Int)))
    have HM2 := Lib.hid ((HM9.out.box HS9.out (by decide) (by decide) 0 (.int .i64 (p : Int))).goto_ (p : Int))
    have HK2 := Lib.hid (HK9.out.box (g := g0) HG0.out HBB.out 0 (.int .i64 (p : Int)))
    have HZ2 : Hid ((W9.setCell ⟨g0, 0, none⟩ (.int .i64 (p : Int))).heap[g0 + 1 + 1]? = some stZ) := by unfold Hid; rw [heap_setCell_other _ _ _ _ (by show g0 + 1 + 1 ≠ g0; omega)]; exact HZ9.out
    obtain ⟨W2, hW2⟩ : ∃ W, W9.setCell ⟨g0, 0, none⟩ (.int .i64 (p : Int)) = W := ⟨_, rfl⟩
    have HS2 : Hid (W2.heap[g0]? = some (.cells #[.int .i64 (p : Int), .slice (some ⟨gR, 0, none⟩) T.R.length T.R.length, .slice (some ⟨gA, 0, none⟩) T.A.length T.A.length, .int .i64 (T.st : Int), .int .i64 (T.ce : Int)] 54 (0, 0))) := by rw [← hW2]; exact HS2
    rw [hW2] at HM2 HK2 HZ2
    go_upto_region 39 with fail
    try rw [hW2]
    clear hW2
    clear r0 r1 r2 r3 r4 rf0 rf1 rf2 rf3 rf4 y0 y1 y2 y3 y4
    obtain ⟨r0, r1, r2, r3, r4, rf0, rf1, rf2, rf3, rf4⟩ := cells5 HS2.out
    obtain ⟨q0, q1, q2, q3, q4, qf0, qf1, qf2, qf3, qf4⟩ := cells5 HZ2.out
    have HKE := Lib.hid (KeepU.put5 HK2.out (g := g0 + 1 + 1) (by have := HG0.out; omega) HBB.out (.int .i64 ((p : Nat) : Int)) (.slice (some ⟨gR, 0, none⟩) T.R.length T.R.length) (.slice (some ⟨gA, 0, none⟩) T.A.length T.A.length) (.int .i64 ((T.st : Nat) : Int)) (.int .i64 ((T.ce : Nat) : Int)))
    obtain ⟨s0, s1, s2, s3, s4, _⟩ := cells5 (five_cells HZ2.out (.int .i64 ((p : Nat) : Int)) (.slice (some ⟨gR, 0, none⟩) T.R.length T.R.length) (.slice (some ⟨gA, 0, none⟩) T.A.length T.A.length) (.int .i64 ((T.st : Nat) : Int)) (.int .i64 ((T.ce : Nat) : Int)))
    have HSS := Lib.hid (And.intro s0 (And.intro s1 (And.intro s2 (And.intro s3 s4))))
    have HME := Lib.hid (MsW.put5 HM2.out HZ2.out (.int .i64 ((p : Nat) : Int)) (.slice (some ⟨gR, 0, none⟩) T.R.length T.R.length) (.slice (some ⟨gA, 0, none⟩) T.A.length T.A.length) (.int .i64 ((T.st : Nat) : Int)) (.int .i64 ((T.ce : Nat) : Int)))
    clear s0 s1 s2 s3 s4
    go_wp2_with fail
    obtain ⟨s0, s1, s2, s3, s4⟩ := HSS.out
    exact bodyPost_ret (v := .tuple #[.agg #[.int .i64 ((p : Nat) : Int), .slice (some ⟨gR, 0, none⟩) T.R.length T.R.length, .slice (some ⟨gA, 0, none⟩) T.A.length T.A.length, .int .i64 ((T.st : Nat) : Int), .int .i64 ((T.ce : Nat) : Int)], .int .i64 0]) (by simp [results, Tryz.results32, go_sem, s0, s1, s2, s3, s4]) rfl (.inl ⟨T.goto_ (p : Int), rs, (by rw [HT.out]; unfold doM; simp [HLT.out]), (by simp [stV, Ms.goto_]), HME.out, HKE.out⟩)
  · have HLT : Hid (¬ T.r (i : Int) < T.r (j : Int)) := by rw [hu, hv]; exact Lib.hid hl
    clear hu hv
    have hl2 : decide (u < v) = false := decide_eq_false hl
    clear hl
    go_upto_region 34 with fail
    go_quiet (fail)
    obtain ⟨W9, hW9⟩ : ∃ W, W1.drewN nq = W := ⟨_, rfl⟩
    have hb9 : Below W1.heap.size W1 W9 := by rw [← hW9]; exact ⟨rfl, rfl, rfl, Nat.le_refl _, fun _ _ => rfl⟩
    have HM9 := Lib.hid (HM1.out.on hb9)
    have HS9 := Lib.hid (keep_b hb9 HS1.out)
    have HZ9 := Lib.hid (keep_b hb9 HZ1.out)
    have HX9 := Lib.hid (keep_b hb9 HX1.out)
    have HK9 := Lib.hid (HK1.out.below HBB.out hb9)
    try rw [hW9]
    clear hb9 hW9 b0 b1 hl2
    clear r0 r1 r2 r3 r4 rf0 rf1 rf2 rf3 rf4 y0 y1 y2 y3 y4
    go_upto_region 39 with fail
    obtain ⟨r0, r1, r2, r3, r4, rf0, rf1, rf2, rf3, rf4⟩ := cells5 HS9.out
    obtain ⟨q0, q1, q2, q3, q4, qf0, qf1, qf2, qf3, qf4⟩ := cells5 HZ9.out
    have HKE := Lib.hid (KeepU.put5 HK9.out (g := g0 + 1 + 1) (by have := HG0.out; omega) HBB.out (.int .i64 ((T.at_ : Nat) : Int)) (.slice (some ⟨gR, 0, none⟩) T.R.length T.R.length) (.slice (some ⟨gA, 0, none⟩) T.A.length T.A.length) (.int .i64 ((T.st : Nat) : Int)) (.int .i64 ((T.ce : Nat) : Int)))
    obtain ⟨s0, s1, s2, s3, s4, _⟩ := cells5 (five_cells HZ9.out (.int .i64 ((T.at_ : Nat) : Int)) (.slice (some ⟨gR, 0, none⟩) T.R.length T.R.length) (.slice (some ⟨gA, 0, none⟩) T.A.length T.A.length) (.int .i64 ((T.st : Nat) : Int)) (.int .i64 ((T.ce : Nat) : Int)))
    have HSS := Lib.hid (And.intro s0 (And.intro s1 (And.intro s2 (And.intro s3 s4))))
    have HME := Lib.hid (MsW.put5 HM9.out HZ9.out (.int .i64 ((T.at_ : Nat) : Int)) (.slice (some ⟨gR, 0, none⟩) T.R.length T.R.length) (.slice (some ⟨gA, 0, none⟩) T.A.length T.A.length) (.int .i64 ((T.st : Nat) : Int)) (.int .i64 ((T.ce : Nat) : Int)))
    clear s0 s1 s2 s3 s4
    go_wp2_with fail
    obtain ⟨s0, s1, s2, s3, s4⟩ := HSS.out
    exact bodyPost_ret (v := .tuple #[.agg #[.int .i64 ((T.at_ : Nat) : Int), .slice (some ⟨gR, 0, none⟩) T.R.length T.R.length, .slice (some ⟨gA, 0, none⟩) T.A.length T.A.length, .int .i64 ((T.st : Nat) : Int), .int .i64 ((T.ce : Nat) : Int)], .int .i64 0]) (by simp [results, Tryz.results32, go_sem, s0, s1, s2, s3, s4]) rfl (.inl ⟨T, rs, (by rw [HT.out]; unfold doM; simp; exact fun h => absurd h (by have := HLT.out; omega)), (by simp [stV]), HME.out, HKE.out⟩)
set_option maxRecDepth 100000 in
set_option maxHeartbeats 8000000 in
theorem refStep_12 (n : Int) (i j p : Nat) (cells : Int) (s : Ms) (rs : List RowU) (base gR gA : Nat) (w : World) (h : MsW w base gR gA s rs) (hB : base ≤ w.heap.size) (hs : s.at_ ≤ 1000000 ∧ s.st ≤ 1000000 ∧ s.ce ≤ 1000000) (hrv : ∀ v ∈ s.R, I64 v) (hi : i < s.R.length) (hj : j < s.R.length) :
    Calls Tryz.prog 32 #[stV s gR gA, Ji.val (⟨12, (i : Int), (j : Int), (p : Int), n⟩), .int .i64 cells] w (StepP base gR gA s (⟨12, (i : Int), (j : Int), (p : Int), n⟩) cells w) := by
  obtain ⟨W0, hW0⟩ : ∃ W, ((w.alloc (stO s gR gA)).alloc (Ji.obj (⟨12, (i : Int), (j : Int), (p : Int), n⟩))).alloc stZ = W := ⟨_, rfl⟩
  obtain ⟨g0, hg0⟩ : ∃ z, w.heap.size = z := ⟨_, rfl⟩
  have hb1 := lvBelow w (stO s gR gA)
  have hb2 := lvBelow (w.alloc (stO s gR gA)) (Ji.obj (⟨12, (i : Int), (j : Int), (p : Int), n⟩))
  have hb3 := lvBelow ((w.alloc (stO s gR gA)).alloc (Ji.obj (⟨12, (i : Int), (j : Int), (p : Int), n⟩))) stZ
  have h1 := keep_b hb3 (keep_b hb2 (heap_alloc_new w (stO s gR gA)))
  have h2 := keep_b hb3 (heap_alloc_new (w.alloc (stO s gR gA)) (Ji.obj (⟨12, (i : Int), (j : Int), (p : Int), n⟩)))
  have h3 := heap_alloc_new ((w.alloc (stO s gR gA)).alloc (Ji.obj (⟨12, (i : Int), (j : Int), (p : Int), n⟩))) stZ
  have hb := hb1.trans ((hb2.trans (hb3.mono hb2.size)).mono hb1.size)
  rw [hW0] at h1 h2 h3 hb
  simp only [World.size_alloc] at h2 h3
  rw [hg0] at h1 h2 h3
  have HMR := Lib.hid (fun i => (show I64 (s.r i) from by
    rcases getD_mem (l := s.R) (i := i.toNat) (d := 0) with h1 | h1
    · exact hrv _ h1
    · show I64 (s.R.getD i.toNat 0); rw [h1]; exact .zero))
  obtain ⟨t0, t1, t2⟩ := hs
  have HG0 : Hid (w.heap.size ≤ g0) := Nat.le_of_eq hg0
  have HBB := Lib.hid hB
  have hk1 : KeepU base w ((W0.setCell ⟨g0, 3, none⟩ (.int .i64 ((s.st : Int) + 1))).setCell ⟨g0, 0, none⟩ (.int .i64 ((s.at_ : Int) + 1))) := ((KeepU.of_below hb hB).box (g := g0) (by omega) hB 3 _).box (g := g0) (by omega) hB 0 _
  have hm0 := (h.on hb).box h1 (by decide) (by decide) 3 (.int .i64 ((s.st : Int) + 1))
  have hs0 := set_j (i := 3) (cs := [.int .i64 (s.at_ : Int), .slice (some ⟨gR, 0, none⟩) s.R.length s.R.length, .slice (some ⟨gA, 0, none⟩) s.A.length s.A.length, .int .i64 (s.st : Int), .int .i64 (s.ce : Int)]) h1 (.int .i64 ((s.st : Int) + 1))
  have hm1 := hm0.box hs0 (by decide) (by decide) 0 (.int .i64 ((s.at_ : Int) + 1))
  have hs1 := set_j (i := 0) (cs := [.int .i64 (s.at_ : Int), .slice (some ⟨gR, 0, none⟩) s.R.length s.R.length, .slice (some ⟨gA, 0, none⟩) s.A.length s.A.length, .int .i64 ((s.st : Int) + 1), .int .i64 (s.ce : Int)]) hs0 (.int .i64 ((s.at_ : Int) + 1))
  have hx1 : ((W0.setCell ⟨g0, 3, none⟩ (.int .i64 ((s.st : Int) + 1))).setCell ⟨g0, 0, none⟩ (.int .i64 ((s.at_ : Int) + 1))).heap[g0 + 1]? = some (Ji.obj (⟨12, (i : Int), (j : Int), (p : Int), n⟩)) := by rw [heap_setCell_other _ _ _ _ (by show g0 + 1 ≠ g0; omega), heap_setCell_other _ _ _ _ (by show g0 + 1 ≠ g0; omega)]; exact h2
  have hz1 : ((W0.setCell ⟨g0, 3, none⟩ (.int .i64 ((s.st : Int) + 1))).setCell ⟨g0, 0, none⟩ (.int .i64 ((s.at_ : Int) + 1))).heap[g0 + 1 + 1]? = some stZ := by rw [heap_setCell_other _ _ _ _ (by show g0 + 1 + 1 ≠ g0; omega), heap_setCell_other _ _ _ _ (by show g0 + 1 + 1 ≠ g0; omega)]; exact h3
  obtain ⟨r0, r1, r2, r3, r4, rf0, rf1, rf2, rf3, rf4⟩ := cells5 h1
  obtain ⟨T, hT⟩ : ∃ T, s.tick = T := ⟨_, rfl⟩
  have HT := Lib.hid hT
  have HS1 : Hid (((W0.setCell ⟨g0, 3, none⟩ (.int .i64 ((s.st : Int) + 1))).setCell ⟨g0, 0, none⟩ (.int .i64 ((s.at_ : Int) + 1))).heap[g0]? = some (stO T gR gA)) := by rw [← hT]; exact hs1
  have HM1 : Hid (MsW ((W0.setCell ⟨g0, 3, none⟩ (.int .i64 ((s.st : Int) + 1))).setCell ⟨g0, 0, none⟩ (.int .i64 ((s.at_ : Int) + 1))) base gR gA T rs) := by rw [← hT]; exact hm1.tick
  have HTS : Hid (T.R = s.R ∧ T.A = s.A ∧ T.at_ = s.at_ + 1 ∧ T.st = s.st + 1 ∧ T.ce = s.ce) := by rw [← hT]; exact ⟨rfl, rfl, rfl, rfl, rfl⟩
  have HK1 := Lib.hid hk1
  have HX1 := Lib.hid hx1
  have HZ1 := Lib.hid hz1
  clear hb1 hb2 hb3 h1 h2 h3 hb h hk1 hm0 hs0 hm1 hs1 hx1 hz1 hT hrv
  go_enter Tryz.func32, Tryz.ntmps32
  go_upto_region 1 with fail
  try rw [hW0]
  try rw [hg0]
  go_upto_region 3 with fail
  clear r0 r1 r2 r3 r4 rf0 rf1 rf2 rf3 rf4 hB
  obtain ⟨W1, hW1⟩ : ∃ W, (W0.setCell ⟨g0, 3, none⟩ (.int .i64 ((s.st : Int) + 1))).setCell ⟨g0, 0, none⟩ (.int .i64 ((s.at_ : Int) + 1)) = W := ⟨_, rfl⟩
  rw [hW1] at HK1 HX1 HZ1 HS1 HM1
  try rw [hW1]
  clear hW1 hW0 hg0
  obtain ⟨r0, r1, r2, r3, r4, rf0, rf1, rf2, rf3, rf4⟩ := cells5 HS1.out
  obtain ⟨⟨y0, y1, y2, y3, y4⟩, _⟩ := box_cellsJ HX1.out
  have hi : i < T.R.length := by rw [HTS.out.1]; exact hi
  have hi0 : (0 : Int) ≤ (i : Int) := by omega
  have hi1 : (i : Int) < (T.R.length : Int) := by omega
  have hj : j < T.R.length := by rw [HTS.out.1]; exact hj
  have hj0 : (0 : Int) ≤ (j : Int) := by omega
  have hj1 : (j : Int) < (T.R.length : Int) := by omega
  obtain ⟨b0, _⟩ := HM1.out.reg (i := i) hi
  obtain ⟨b1, _⟩ := HM1.out.reg (i := j) hj
  obtain ⟨u, hu⟩ : ∃ u, T.r (i : Int) = u := ⟨_, rfl⟩
  obtain ⟨v, hv⟩ : ∃ v, T.r (j : Int) = v := ⟨_, rfl⟩
  rw [hu] at b0
  rw [hv] at b1
  by_cases hl : u = v
  · have HLT : Hid (T.r (i : Int) = T.r (j : Int)) := by rw [hu, hv]; exact Lib.hid hl
    clear hu hv
    have hl2 : (u == v) = true := by simpa using hl
    clear hl
    go_upto_region 37 with fail
    go_quiet (fail)
    obtain ⟨W9, hW9⟩ : ∃ W, W1.drewN nq = W := ⟨_, rfl⟩
    have hb9 : Below W1.heap.size W1 W9 := by rw [← hW9]; exact ⟨rfl, rfl, rfl, Nat.le_refl _, fun _ _ => rfl⟩
    have HM9 := Lib.hid (HM1.out.on hb9)
    have HS9 := Lib.hid (keep_b hb9 HS1.out)
    have HZ9 := Lib.hid (keep_b hb9 HZ1.out)
    have HX9 := Lib.hid (keep_b hb9 HX1.out)
    have HK9 := Lib.hid (HK1.out.below HBB.out hb9)
    try rw [hW9]
    clear hb9 hW9 b0 b1 hl2
    clear r0 r1 r2 r3 r4 rf0 rf1 rf2 rf3 rf4 y0 y1 y2 y3 y4
    obtain ⟨r0, r1, r2, r3, r4, rf0, rf1, rf2, rf3, rf4⟩ := cells5 HS9.out
    obtain ⟨⟨y0, y1, y2, y3, y4⟩, _⟩ := box_cellsJ HX9.out
    have HS2 := Lib.hid (set_j (i := 0) (cs := [.int .i64 (T.at_ : Int), .slice (some ⟨gR, 0, none⟩) T.R.length T.R.length, .slice (some ⟨gA, 0, none⟩) T.A.length T.A.length, .int .i64 (T.st : Int), .int .i64 (T.ce : Int)]) HS9.out (.int .i64 (p : Int)))
    have HM2 := Lib.hid ((HM9.out.box HS9.out (by decide) (by decide) 0 (.int .i64 (p : Int))).goto_ (p : Int))
    have HK2 := Lib.hid (HK9.out.box (g := g0) HG0.out HBB.out 0 (.int .i64 (p : Int)))
    have HZ2 : Hid ((W9.setCell ⟨g0, 0, none⟩ (.int .i64 (p : Int))).heap[g0 + 1 + 1]? = some stZ) := by unfold Hid; rw [heap_setCell_other _ _ _ _ (by show g0 + 1 + 1 ≠ g0; omega)]; exact HZ9.out
    obtain ⟨W2, hW2⟩ : ∃ W, W9.setCell ⟨g0, 0, none⟩ (.int .i64 (p : Int)) = W := ⟨_, rfl⟩
    have HS2 : Hid (W2.heap[g0]? = some (.cells #[.int .i64 (p : Int), .slice (some ⟨gR, 0, none⟩) T.R.length T.R.length, .slice (some ⟨gA, 0, none⟩) T.A.length T.A.length, .int .i64 (T.st : Int), .int .i64 (T.ce : Int)] 54 (0, 0))) := by rw [← hW2]; exact HS2
    rw [hW2] at HM2 HK2 HZ2
    go_upto_region 39 with fail
    try rw [hW2]
    clear hW2
    clear r0 r1 r2 r3 r4 rf0 rf1 rf2 rf3 rf4 y0 y1 y2 y3 y4
    obtain ⟨r0, r1, r2, r3, r4, rf0, rf1, rf2, rf3, rf4⟩ := cells5 HS2.out
    obtain ⟨q0, q1, q2, q3, q4, qf0, qf1, qf2, qf3, qf4⟩ := cells5 HZ2.out
    have HKE := Lib.hid (KeepU.put5 HK2.out (g := g0 + 1 + 1) (by have := HG0.out; omega) HBB.out (.int .i64 ((p : Nat) : Int)) (.slice (some ⟨gR, 0, none⟩) T.R.length T.R.length) (.slice (some ⟨gA, 0, none⟩) T.A.length T.A.length) (.int .i64 ((T.st : Nat) : Int)) (.int .i64 ((T.ce : Nat) : Int)))
    obtain ⟨s0, s1, s2, s3, s4, _⟩ := cells5 (five_cells HZ2.out (.int .i64 ((p : Nat) : Int)) (.slice (some ⟨gR, 0, none⟩) T.R.length T.R.length) (.slice (some ⟨gA, 0, none⟩) T.A.length T.A.length) (.int .i64 ((T.st : Nat) : Int)) (.int .i64 ((T.ce : Nat) : Int)))
    have HSS := Lib.hid (And.intro s0 (And.intro s1 (And.intro s2 (And.intro s3 s4))))
    have HME := Lib.hid (MsW.put5 HM2.out HZ2.out (.int .i64 ((p : Nat) : Int)) (.slice (some ⟨gR, 0, none⟩) T.R.length T.R.length) (.slice (some ⟨gA, 0, none⟩) T.A.length T.A.length) (.int .i64 ((T.st : Nat) : Int)) (.int .i64 ((T.ce : Nat) : Int)))
    clear s0 s1 s2 s3 s4
    go_wp2_with fail
    obtain ⟨s0, s1, s2, s3, s4⟩ := HSS.out
    exact bodyPost_ret (v := .tuple #[.agg #[.int .i64 ((p : Nat) : Int), .slice (some ⟨gR, 0, none⟩) T.R.length T.R.length, .slice (some ⟨gA, 0, none⟩) T.A.length T.A.length, .int .i64 ((T.st : Nat) : Int), .int .i64 ((T.ce : Nat) : Int)], .int .i64 0]) (by simp [results, Tryz.results32, go_sem, s0, s1, s2, s3, s4]) rfl (.inl ⟨T.goto_ (p : Int), rs, (by rw [HT.out]; unfold doM; simp [HLT.out]), (by simp [stV, Ms.goto_]), HME.out, HKE.out⟩)
  · have HLT : Hid (¬ T.r (i : Int) = T.r (j : Int)) := by rw [hu, hv]; exact Lib.hid hl
    clear hu hv
    have hl2 : (u == v) = false := by simpa using hl
    clear hl
    go_upto_region 37 with fail
    go_quiet (fail)
    obtain ⟨W9, hW9⟩ : ∃ W, W1.drewN nq = W := ⟨_, rfl⟩
    have hb9 : Below W1.heap.size W1 W9 := by rw [← hW9]; exact ⟨rfl, rfl, rfl, Nat.le_refl _, fun _ _ => rfl⟩
    have HM9 := Lib.hid (HM1.out.on hb9)
    have HS9 := Lib.hid (keep_b hb9 HS1.out)
    have HZ9 := Lib.hid (keep_b hb9 HZ1.out)
    have HX9 := Lib.hid (keep_b hb9 HX1.out)
    have HK9 := Lib.hid (HK1.out.below HBB.out hb9)
    try rw [hW9]
    clear hb9 hW9 b0 b1 hl2
    clear r0 r1 r2 r3 r4 rf0 rf1 rf2 rf3 rf4 y0 y1 y2 y3 y4
    go_upto_region 39 with fail
    obtain ⟨r0, r1, r2, r3, r4, rf0, rf1, rf2, rf3, rf4⟩ := cells5 HS9.out
    obtain ⟨q0, q1, q2, q3, q4, qf0, qf1, qf2, qf3, qf4⟩ := cells5 HZ9.out
    have HKE := Lib.hid (KeepU.put5 HK9.out (g := g0 + 1 + 1) (by have := HG0.out; omega) HBB.out (.int .i64 ((T.at_ : Nat) : Int)) (.slice (some ⟨gR, 0, none⟩) T.R.length T.R.length) (.slice (some ⟨gA, 0, none⟩) T.A.length T.A.length) (.int .i64 ((T.st : Nat) : Int)) (.int .i64 ((T.ce : Nat) : Int)))
    obtain ⟨s0, s1, s2, s3, s4, _⟩ := cells5 (five_cells HZ9.out (.int .i64 ((T.at_ : Nat) : Int)) (.slice (some ⟨gR, 0, none⟩) T.R.length T.R.length) (.slice (some ⟨gA, 0, none⟩) T.A.length T.A.length) (.int .i64 ((T.st : Nat) : Int)) (.int .i64 ((T.ce : Nat) : Int)))
    have HSS := Lib.hid (And.intro s0 (And.intro s1 (And.intro s2 (And.intro s3 s4))))
    have HME := Lib.hid (MsW.put5 HM9.out HZ9.out (.int .i64 ((T.at_ : Nat) : Int)) (.slice (some ⟨gR, 0, none⟩) T.R.length T.R.length) (.slice (some ⟨gA, 0, none⟩) T.A.length T.A.length) (.int .i64 ((T.st : Nat) : Int)) (.int .i64 ((T.ce : Nat) : Int)))
    clear s0 s1 s2 s3 s4
    go_wp2_with fail
    obtain ⟨s0, s1, s2, s3, s4⟩ := HSS.out
    exact bodyPost_ret (v := .tuple #[.agg #[.int .i64 ((T.at_ : Nat) : Int), .slice (some ⟨gR, 0, none⟩) T.R.length T.R.length, .slice (some ⟨gA, 0, none⟩) T.A.length T.A.length, .int .i64 ((T.st : Nat) : Int), .int .i64 ((T.ce : Nat) : Int)], .int .i64 0]) (by simp [results, Tryz.results32, go_sem, s0, s1, s2, s3, s4]) rfl (.inl ⟨T, rs, (by rw [HT.out]; unfold doM; simp [HLT.out]), (by simp [stV]), HME.out, HKE.out⟩)
end Go.Proofs.YtgkngimeokhhgaaGreatDoor
