/- The document's step: registers. -/
import Derived.Test.YtgkngimeokhhgaaGreatDoorG6
import Derived.Test.YtgkngimeokhhgaaGreatDoorG4
namespace Go.Proofs.YtgkngimeokhhgaaGreatDoor
open Go.RowKit Go.Sort

/-- what a step comes to -/
def StepP (base gR gA : Nat) (s : Ms) (x : Ji) (cells : Int) (w : World) (e : Ending) (w' : World) : Prop :=
  (∃ z rs', doM s.tick x cells = .ok z ∧ e = .returned (.tuple #[stV z gR gA, .int .i64 0]) ∧ MsW w' base gR gA z rs' ∧ KeepU base w w') ∨
  (∃ v, doM s.tick x cells = .error v ∧ e = .returned (.tuple #[stV s.tick gR gA, .int .i64 v]) ∧ KeepU base w w')
theorem KeepU.put5 {w W : World} {base g : Nat} (h : KeepU base w W) (hg : w.heap.size ≤ g) (hB : base ≤ w.heap.size) (x0 x1 x2 x3 x4 : Value) : KeepU base w (put5 W g x0 x1 x2 x3 x4) :=
  ((((h.box hg hB 0 x0).box hg hB 1 x1).box hg hB 2 x2).box hg hB 3 x3).box hg hB 4 x4
theorem MsW.put5 {w : World} {base gR gA g : Nat} {s : Ms} {rs : List RowU} {a b c d e : Value} (h : MsW w base gR gA s rs) (hg : w.heap[g]? = some (.cells #[a, b, c, d, e] 54 (0, 0))) (x0 x1 x2 x3 x4 : Value) : MsW (put5 w g x0 x1 x2 x3 x4) base gR gA s rs := by
  have k0 := set_j (i := 0) (cs := [a, b, c, d, e]) hg x0
  have k1 := set_j (i := 1) (cs := [x0, b, c, d, e]) k0 x1
  have k2 := set_j (i := 2) (cs := [x0, x1, c, d, e]) k1 x2
  have k3 := set_j (i := 3) (cs := [x0, x1, x2, d, e]) k2 x3
  exact ((((h.box hg (by decide) (by decide) 0 x0).box k0 (by decide) (by decide) 1 x1).box k1 (by decide) (by decide) 2 x2).box k2 (by decide) (by decide) 3 x3).box k3 (by decide) (by decide) 4 x4
theorem MsW.tick {w : World} {base gR gA : Nat} {s : Ms} {rs : List RowU} (h : MsW w base gR gA s rs) : MsW w base gR gA s.tick rs := ⟨h.R, h.A, h.L, h.far⟩
theorem MsW.goto_ {w : World} {base gR gA : Nat} {s : Ms} {rs : List RowU} (h : MsW w base gR gA s rs) (i : Int) : MsW w base gR gA (s.goto_ i) rs := ⟨h.R, h.A, h.L, h.far⟩
set_option maxRecDepth 100000 in
set_option maxHeartbeats 8000000 in
theorem refStep_0 (a b c n cells : Int) (s : Ms) (rs : List RowU) (base gR gA : Nat) (w : World) (h : MsW w base gR gA s rs) (hB : base ≤ w.heap.size) (hs : s.at_ ≤ 1000000 ∧ s.st ≤ 1000000 ∧ s.ce ≤ 1000000) (hrv : ∀ v ∈ s.R, I64 v) :
    Calls Tryz.prog 32 #[stV s gR gA, Ji.val (⟨0, a, b, c, n⟩), .int .i64 cells] w (StepP base gR gA s (⟨0, a, b, c, n⟩) cells w) := by
  obtain ⟨W0, hW0⟩ : ∃ W, ((w.alloc (stO s gR gA)).alloc (Ji.obj (⟨0, a, b, c, n⟩))).alloc stZ = W := ⟨_, rfl⟩
  obtain ⟨g0, hg0⟩ : ∃ z, w.heap.size = z := ⟨_, rfl⟩
  have hb1 := lvBelow w (stO s gR gA)
  have hb2 := lvBelow (w.alloc (stO s gR gA)) (Ji.obj (⟨0, a, b, c, n⟩))
  have hb3 := lvBelow ((w.alloc (stO s gR gA)).alloc (Ji.obj (⟨0, a, b, c, n⟩))) stZ
  have h1 := keep_b hb3 (keep_b hb2 (heap_alloc_new w (stO s gR gA)))
  have h2 := keep_b hb3 (heap_alloc_new (w.alloc (stO s gR gA)) (Ji.obj (⟨0, a, b, c, n⟩)))
  have h3 := heap_alloc_new ((w.alloc (stO s gR gA)).alloc (Ji.obj (⟨0, a, b, c, n⟩))) stZ
  have hb := hb1.trans ((hb2.trans (hb3.mono hb2.size)).mono hb1.size)
  rw [hW0] at h1 h2 h3 hb
  simp only [World.size_alloc] at h2 h3
  rw [hg0] at h1 h2 h3
  have HMR := Lib.hid (fun i => (show I64 (s.r i) from by
    rcases getD_mem (l := s.R) (i := i.toNat) (d := 0) with h1 | h1
    · exact hrv _ h1
    · show I64 (s.R.getD i.toNat 0); rw [h1]; exact .zero))
  obtain ⟨t0, t1, t2⟩ := hs
  have HG0 : Hid (w.heap.size ≤ g0) := Nat.le_of_eq hg0
  have HBB := Lib.hid hB
  have hk1 : KeepU base w ((W0.setCell ⟨g0, 3, none⟩ (.int .i64 ((s.st : Int) + 1))).setCell ⟨g0, 0, none⟩ (.int .i64 ((s.at_ : Int) + 1))) := ((KeepU.of_below hb hB).box (g := g0) (by omega) hB 3 _).box (g := g0) (by omega) hB 0 _
  have hm0 := (h.on hb).box h1 (by decide) (by decide) 3 (.int .i64 ((s.st : Int) + 1))
  have hs0 := set_j (i := 3) (cs := [.int .i64 (s.at_ : Int), .slice (some ⟨gR, 0, none⟩) s.R.length s.R.length, .slice (some ⟨gA, 0, none⟩) s.A.length s.A.length, .int .i64 (s.st : Int), .int .i64 (s.ce : Int)]) h1 (.int .i64 ((s.st : Int) + 1))
  have hm1 := hm0.box hs0 (by decide) (by decide) 0 (.int .i64 ((s.at_ : Int) + 1))
  have hs1 := set_j (i := 0) (cs := [.int .i64 (s.at_ : Int), .slice (some ⟨gR, 0, none⟩) s.R.length s.R.length, .slice (some ⟨gA, 0, none⟩) s.A.length s.A.length, .int .i64 ((s.st : Int) + 1), .int .i64 (s.ce : Int)]) hs0 (.int .i64 ((s.at_ : Int) + 1))
  have hx1 : ((W0.setCell ⟨g0, 3, none⟩ (.int .i64 ((s.st : Int) + 1))).setCell ⟨g0, 0, none⟩ (.int .i64 ((s.at_ : Int) + 1))).heap[g0 + 1]? = some (Ji.obj (⟨0, a, b, c, n⟩)) := by rw [heap_setCell_other _ _ _ _ (by show g0 + 1 ≠ g0; omega), heap_setCell_other _ _ _ _ (by show g0 + 1 ≠ g0; omega)]; exact h2
  have hz1 : ((W0.setCell ⟨g0, 3, none⟩ (.int .i64 ((s.st : Int) + 1))).setCell ⟨g0, 0, none⟩ (.int .i64 ((s.at_ : Int) + 1))).heap[g0 + 1 + 1]? = some stZ := by rw [heap_setCell_other _ _ _ _ (by show g0 + 1 + 1 ≠ g0; omega), heap_setCell_other _ _ _ _ (by show g0 + 1 + 1 ≠ g0; omega)]; exact h3
  obtain ⟨r0, r1, r2, r3, r4, rf0, rf1, rf2, rf3, rf4⟩ := cells5 h1
  obtain ⟨T, hT⟩ : ∃ T, s.tick = T := ⟨_, rfl⟩
  have HT := Lib.hid hT
  have HS1 : Hid (((W0.setCell ⟨g0, 3, none⟩ (.int .i64 ((s.st : Int) + 1))).setCell ⟨g0, 0, none⟩ (.int .i64 ((s.at_ : Int) + 1))).heap[g0]? = some (stO T gR gA)) := by rw [← hT]; exact hs1
  have HM1 : Hid (MsW ((W0.setCell ⟨g0, 3, none⟩ (.int .i64 ((s.st : Int) + 1))).setCell ⟨g0, 0, none⟩ (.int .i64 ((s.at_ : Int) + 1))) base gR gA T rs) := by rw [← hT]; exact hm1.tick
  have HTS : Hid (T.R = s.R ∧ T.A = s.A ∧ T.at_ = s.at_ + 1 ∧ T.st = s.st + 1 ∧ T.ce = s.ce) := by rw [← hT]; exact ⟨rfl, rfl, rfl, rfl, rfl⟩
  have HK1 := Lib.hid hk1
  have HX1 := Lib.hid hx1
  have HZ1 := Lib.hid hz1
  clear hb1 hb2 hb3 h1 h2 h3 hb h hk1 hm0 hs0 hm1 hs1 hx1 hz1 hT hrv
  go_enter Tryz.func32, Tryz.ntmps32
  go_upto_region 1 with fail
  try rw [hW0]
  try rw [hg0]
  go_upto_region 3 with fail
  clear r0 r1 r2 r3 r4 rf0 rf1 rf2 rf3 rf4 hB
  obtain ⟨W1, hW1⟩ : ∃ W, (W0.setCell ⟨g0, 3, none⟩ (.int .i64 ((s.st : Int) + 1))).setCell ⟨g0, 0, none⟩ (.int .i64 ((s.at_ : Int) + 1)) = W := ⟨_, rfl⟩
  rw [hW1] at HK1 HX1 HZ1 HS1 HM1
  try rw [hW1]
  clear hW1 hW0 hg0
  obtain ⟨r0, r1, r2, r3, r4, rf0, rf1, rf2, rf3, rf4⟩ := cells5 HS1.out
  obtain ⟨⟨y0, y1, y2, y3, y4⟩, _⟩ := box_cellsJ HX1.out
  go_upto_region 39 with fail
  clear y0 y1 y2 y3 y4 r0 r1 r2 r3 r4 rf0 rf1 rf2 rf3 rf4
  obtain ⟨r0, r1, r2, r3, r4, rf0, rf1, rf2, rf3, rf4⟩ := cells5 HS1.out
  obtain ⟨q0, q1, q2, q3, q4, qf0, qf1, qf2, qf3, qf4⟩ := cells5 HZ1.out
  have HKE := Lib.hid (KeepU.put5 HK1.out (g := g0 + 1 + 1) (by have := HG0.out; omega) HBB.out (.int .i64 ((T.at_ : Nat) : Int)) (.slice (some ⟨gR, 0, none⟩) T.R.length T.R.length) (.slice (some ⟨gA, 0, none⟩) T.A.length T.A.length) (.int .i64 ((T.st : Nat) : Int)) (.int .i64 ((T.ce : Nat) : Int)))
  obtain ⟨s0, s1, s2, s3, s4, _⟩ := cells5 (five_cells HZ1.out (.int .i64 ((T.at_ : Nat) : Int)) (.slice (some ⟨gR, 0, none⟩) T.R.length T.R.length) (.slice (some ⟨gA, 0, none⟩) T.A.length T.A.length) (.int .i64 ((T.st : Nat) : Int)) (.int .i64 ((T.ce : Nat) : Int)))
  have HSS := Lib.hid (And.intro s0 (And.intro s1 (And.intro s2 (And.intro s3 s4))))
  have HME := Lib.hid (MsW.put5 HM1.out HZ1.out (.int .i64 ((T.at_ : Nat) : Int)) (.slice (some ⟨gR, 0, none⟩) T.R.length T.R.length) (.slice (some ⟨gA, 0, none⟩) T.A.length T.A.length) (.int .i64 ((T.st : Nat) : Int)) (.int .i64 ((T.ce : Nat) : Int)))
  clear s0 s1 s2 s3 s4
  go_wp2_with fail
  obtain ⟨s0, s1, s2, s3, s4⟩ := HSS.out
  exact bodyPost_ret (v := .tuple #[.agg #[.int .i64 ((T.at_ : Nat) : Int), .slice (some ⟨gR, 0, none⟩) T.R.length T.R.length, .slice (some ⟨gA, 0, none⟩) T.A.length T.A.length, .int .i64 ((T.st : Nat) : Int), .int .i64 ((T.ce : Nat) : Int)], .int .i64 0]) (by simp [results, Tryz.results32, go_sem, s0, s1, s2, s3, s4]) rfl (.inl ⟨T, rs, (by rw [HT.out]; rfl), (by simp [stV]), HME.out, HKE.out⟩)
set_option maxRecDepth 100000 in
set_option maxHeartbeats 8000000 in
theorem refStep_1 (b c n : Int) (i : Nat) (cells : Int) (s : Ms) (rs : List RowU) (base gR gA : Nat) (w : World) (h : MsW w base gR gA s rs) (hB : base ≤ w.heap.size) (hs : s.at_ ≤ 1000000 ∧ s.st ≤ 1000000 ∧ s.ce ≤ 1000000) (hrv : ∀ v ∈ s.R, I64 v) (hn : I64 n) (hi : i < s.R.length) :
    Calls Tryz.prog 32 #[stV s gR gA, Ji.val (⟨1, (i : Int), b, c, n⟩), .int .i64 cells] w (StepP base gR gA s (⟨1, (i : Int), b, c, n⟩) cells w) := by
  obtain ⟨W0, hW0⟩ : ∃ W, ((w.alloc (stO s gR gA)).alloc (Ji.obj (⟨1, (i : Int), b, c, n⟩))).alloc stZ = W := ⟨_, rfl⟩
  obtain ⟨g0, hg0⟩ : ∃ z, w.heap.size = z := ⟨_, rfl⟩
  have hb1 := lvBelow w (stO s gR gA)
  have hb2 := lvBelow (w.alloc (stO s gR gA)) (Ji.obj (⟨1, (i : Int), b, c, n⟩))
  have hb3 := lvBelow ((w.alloc (stO s gR gA)).alloc (Ji.obj (⟨1, (i : Int), b, c, n⟩))) stZ
  have h1 := keep_b hb3 (keep_b hb2 (heap_alloc_new w (stO s gR gA)))
  have h2 := keep_b hb3 (heap_alloc_new (w.alloc (stO s gR gA)) (Ji.obj (⟨1, (i : Int), b, c, n⟩)))
  have h3 := heap_alloc_new ((w.alloc (stO s gR gA)).alloc (Ji.obj (⟨1, (i : Int), b, c, n⟩))) stZ
  have hb := hb1.trans ((hb2.trans (hb3.mono hb2.size)).mono hb1.size)
  rw [hW0] at h1 h2 h3 hb
  simp only [World.size_alloc] at h2 h3
  rw [hg0] at h1 h2 h3
  have HMR := Lib.hid (fun i => (show I64 (s.r i) from by
    rcases getD_mem (l := s.R) (i := i.toNat) (d := 0) with h1 | h1
    · exact hrv _ h1
    · show I64 (s.R.getD i.toNat 0); rw [h1]; exact .zero))
  obtain ⟨t0, t1, t2⟩ := hs
  have HG0 : Hid (w.heap.size ≤ g0) := Nat.le_of_eq hg0
  have HBB := Lib.hid hB
  have hk1 : KeepU base w ((W0.setCell ⟨g0, 3, none⟩ (.int .i64 ((s.st : Int) + 1))).setCell ⟨g0, 0, none⟩ (.int .i64 ((s.at_ : Int) + 1))) := ((KeepU.of_below hb hB).box (g := g0) (by omega) hB 3 _).box (g := g0) (by omega) hB 0 _
  have hm0 := (h.on hb).box h1 (by decide) (by decide) 3 (.int .i64 ((s.st : Int) + 1))
  have hs0 := set_j (i := 3) (cs := [.int .i64 (s.at_ : Int), .slice (some ⟨gR, 0, none⟩) s.R.length s.R.length, .slice (some ⟨gA, 0, none⟩) s.A.length s.A.length, .int .i64 (s.st : Int), .int .i64 (s.ce : Int)]) h1 (.int .i64 ((s.st : Int) + 1))
  have hm1 := hm0.box hs0 (by decide) (by decide) 0 (.int .i64 ((s.at_ : Int) + 1))
  have hs1 := set_j (i := 0) (cs := [.int .i64 (s.at_ : Int), .slice (some ⟨gR, 0, none⟩) s.R.length s.R.length, .slice (some ⟨gA, 0, none⟩) s.A.length s.A.length, .int .i64 ((s.st : Int) + 1), .int .i64 (s.ce : Int)]) hs0 (.int .i64 ((s.at_ : Int) + 1))
  have hx1 : ((W0.setCell ⟨g0, 3, none⟩ (.int .i64 ((s.st : Int) + 1))).setCell ⟨g0, 0, none⟩ (.int .i64 ((s.at_ : Int) + 1))).heap[g0 + 1]? = some (Ji.obj (⟨1, (i : Int), b, c, n⟩)) := by rw [heap_setCell_other _ _ _ _ (by show g0 + 1 ≠ g0; omega), heap_setCell_other _ _ _ _ (by show g0 + 1 ≠ g0; omega)]; exact h2
  have hz1 : ((W0.setCell ⟨g0, 3, none⟩ (.int .i64 ((s.st : Int) + 1))).setCell ⟨g0, 0, none⟩ (.int .i64 ((s.at_ : Int) + 1))).heap[g0 + 1 + 1]? = some stZ := by rw [heap_setCell_other _ _ _ _ (by show g0 + 1 + 1 ≠ g0; omega), heap_setCell_other _ _ _ _ (by show g0 + 1 + 1 ≠ g0; omega)]; exact h3
  obtain ⟨r0, r1, r2, r3, r4, rf0, rf1, rf2, rf3, rf4⟩ := cells5 h1
  obtain ⟨T, hT⟩ : ∃ T, s.tick = T := ⟨_, rfl⟩
  have HT := Lib.hid hT
  have HS1 : Hid (((W0.setCell ⟨g0, 3, none⟩ (.int .i64 ((s.st : Int) + 1))).setCell ⟨g0, 0, none⟩ (.int .i64 ((s.at_ : Int) + 1))).heap[g0]? = some (stO T gR gA)) := by rw [← hT]; exact hs1
  have HM1 : Hid (MsW ((W0.setCell ⟨g0, 3, none⟩ (.int .i64 ((s.st : Int) + 1))).setCell ⟨g0, 0, none⟩ (.int .i64 ((s.at_ : Int) + 1))) base gR gA T rs) := by rw [← hT]; exact hm1.tick
  have HTS : Hid (T.R = s.R ∧ T.A = s.A ∧ T.at_ = s.at_ + 1 ∧ T.st = s.st + 1 ∧ T.ce = s.ce) := by rw [← hT]; exact ⟨rfl, rfl, rfl, rfl, rfl⟩
  have HK1 := Lib.hid hk1
  have HX1 := Lib.hid hx1
  have HZ1 := Lib.hid hz1
  clear hb1 hb2 hb3 h1 h2 h3 hb h hk1 hm0 hs0 hm1 hs1 hx1 hz1 hT hrv
  go_enter Tryz.func32, Tryz.ntmps32
  go_upto_region 1 with fail
  try rw [hW0]
  try rw [hg0]
  go_upto_region 3 with fail
  clear r0 r1 r2 r3 r4 rf0 rf1 rf2 rf3 rf4 hB
  obtain ⟨W1, hW1⟩ : ∃ W, (W0.setCell ⟨g0, 3, none⟩ (.int .i64 ((s.st : Int) + 1))).setCell ⟨g0, 0, none⟩ (.int .i64 ((s.at_ : Int) + 1)) = W := ⟨_, rfl⟩
  rw [hW1] at HK1 HX1 HZ1 HS1 HM1
  try rw [hW1]
  clear hW1 hW0 hg0
  obtain ⟨r0, r1, r2, r3, r4, rf0, rf1, rf2, rf3, rf4⟩ := cells5 HS1.out
  obtain ⟨⟨y0, y1, y2, y3, y4⟩, _⟩ := box_cellsJ HX1.out
  have hi : i < T.R.length := by rw [HTS.out.1]; exact hi
  have hi0 : (0 : Int) ≤ (i : Int) := by omega
  have hi1 : (i : Int) < (T.R.length : Int) := by omega
  have HS9 := HS1
  have HZ9 := HZ1
  have HK9 := HK1
  obtain ⟨c0, cf⟩ := HM1.out.reg (i := i) hi
  obtain ⟨hm2, hk2⟩ := HM1.out.setR i (v := n) (hn)
  have HM2 := Lib.hid hm2
  have HK2 := Lib.hid hk2
  clear hm2 hk2
  go_upto_region 39 with fail
  obtain ⟨W2, hW2⟩ : ∃ W, W1.setCell ⟨gR, i, none⟩ (.int .i64 (n)) = W := ⟨_, rfl⟩
  rw [hW2] at HM2 HK2
  have HS2 : Hid (W2.heap[g0]? = some (stO T gR gA)) := HK2.out.blk _ _ _ HS9.out (by decide) (by decide)
  have HZ2 : Hid (W2.heap[g0 + 1 + 1]? = some stZ) := HK2.out.blk _ _ _ HZ9.out (by decide) (by decide)
  have HKK := Lib.hid (HK9.out.trans HK2.out)
  try rw [hW2]
  clear hW2
  clear r0 r1 r2 r3 r4 rf0 rf1 rf2 rf3 rf4 y0 y1 y2 y3 y4
  clear c0 cf
  obtain ⟨r0, r1, r2, r3, r4, rf0, rf1, rf2, rf3, rf4⟩ := cells5 HS2.out
  obtain ⟨q0, q1, q2, q3, q4, qf0, qf1, qf2, qf3, qf4⟩ := cells5 HZ2.out
  have HKE := Lib.hid (KeepU.put5 HKK.out (g := g0 + 1 + 1) (by have := HG0.out; omega) HBB.out (.int .i64 ((T.at_ : Nat) : Int)) (.slice (some ⟨gR, 0, none⟩) T.R.length T.R.length) (.slice (some ⟨gA, 0, none⟩) T.A.length T.A.length) (.int .i64 ((T.st : Nat) : Int)) (.int .i64 ((T.ce : Nat) : Int)))
  obtain ⟨s0, s1, s2, s3, s4, _⟩ := cells5 (five_cells HZ2.out (.int .i64 ((T.at_ : Nat) : Int)) (.slice (some ⟨gR, 0, none⟩) T.R.length T.R.length) (.slice (some ⟨gA, 0, none⟩) T.A.length T.A.length) (.int .i64 ((T.st : Nat) : Int)) (.int .i64 ((T.ce : Nat) : Int)))
  have HSS := Lib.hid (And.intro s0 (And.intro s1 (And.intro s2 (And.intro s3 s4))))
  have HME := Lib.hid (MsW.put5 HM2.out HZ2.out (.int .i64 ((T.at_ : Nat) : Int)) (.slice (some ⟨gR, 0, none⟩) T.R.length T.R.length) (.slice (some ⟨gA, 0, none⟩) T.A.length T.A.length) (.int .i64 ((T.st : Nat) : Int)) (.int .i64 ((T.ce : Nat) : Int)))
  clear s0 s1 s2 s3 s4
  go_wp2_with fail
  obtain ⟨s0, s1, s2, s3, s4⟩ := HSS.out
  exact bodyPost_ret (v := .tuple #[.agg #[.int .i64 ((T.at_ : Nat) : Int), .slice (some ⟨gR, 0, none⟩) T.R.length T.R.length, .slice (some ⟨gA, 0, none⟩) T.A.length T.A.length, .int .i64 ((T.st : Nat) : Int), .int .i64 ((T.ce : Nat) : Int)], .int .i64 0]) (by simp [results, Tryz.results32, go_sem, s0, s1, s2, s3, s4]) rfl (.inl ⟨T.put (i : Int) n, rs, (by rw [HT.out]; rfl), (by simp [stV, Ms.put]), HME.out, HKE.out⟩)
set_option maxRecDepth 100000 in
set_option maxHeartbeats 8000000 in
theorem refStep_2 (c n : Int) (i j : Nat) (cells : Int) (s : Ms) (rs : List RowU) (base gR gA : Nat) (w : World) (h : MsW w base gR gA s rs) (hB : base ≤ w.heap.size) (hs : s.at_ ≤ 1000000 ∧ s.st ≤ 1000000 ∧ s.ce ≤ 1000000) (hrv : ∀ v ∈ s.R, I64 v) (hi : i < s.R.length) (hj : j < s.R.length) :
    Calls Tryz.prog 32 #[stV s gR gA, Ji.val (⟨2, (i : Int), (j : Int), c, n⟩), .int .i64 cells] w (StepP base gR gA s (⟨2, (i : Int), (j : Int), c, n⟩) cells w) := by
  obtain ⟨W0, hW0⟩ : ∃ W, ((w.alloc (stO s gR gA)).alloc (Ji.obj (⟨2, (i : Int), (j : Int), c, n⟩))).alloc stZ = W := ⟨_, rfl⟩
  obtain ⟨g0, hg0⟩ : ∃ z, w.heap.size = z := ⟨_, rfl⟩
  have hb1 := lvBelow w (stO s gR gA)
  have hb2 := lvBelow (w.alloc (stO s gR gA)) (Ji.obj (⟨2, (i : Int), (j : Int), c, n⟩))
  have hb3 := lvBelow ((w.alloc (stO s gR gA)).alloc (Ji.obj (⟨2, (i : Int), (j : Int), c, n⟩))) stZ
  have h1 := keep_b hb3 (keep_b hb2 (heap_alloc_new w (stO s gR gA)))
  have h2 := keep_b hb3 (heap_alloc_new (w.alloc (stO s gR gA)) (Ji.obj (⟨2, (i : Int), (j : Int), c, n⟩)))
  have h3 := heap_alloc_new ((w.alloc (stO s gR gA)).alloc (Ji.obj (⟨2, (i : Int), (j : Int), c, n⟩))) stZ
  have hb := hb1.trans ((hb2.trans (hb3.mono hb2.size)).mono hb1.size)
  rw [hW0] at h1 h2 h3 hb
  simp only [World.size_alloc] at h2 h3
  rw [hg0] at h1 h2 h3
  have HMR := Lib.hid (fun i => (show I64 (s.r i) from by
    rcases getD_mem (l := s.R) (i := i.toNat) (d := 0) with h1 | h1
    · exact hrv _ h1
    · show I64 (s.R.getD i.toNat 0); rw [h1]; exact .zero))
  obtain ⟨t0, t1, t2⟩ := hs
  have HG0 : Hid (w.heap.size ≤ g0) := Nat.le_of_eq hg0
  have HBB := Lib.hid hB
  have hk1 : KeepU base w ((W0.setCell ⟨g0, 3, none⟩ (.int .i64 ((s.st : Int) + 1))).setCell ⟨g0, 0, none⟩ (.int .i64 ((s.at_ : Int) + 1))) := ((KeepU.of_below hb hB).box (g := g0) (by omega) hB 3 _).box (g := g0) (by omega) hB 0 _
  have hm0 := (h.on hb).box h1 (by decide) (by decide) 3 (.int .i64 ((s.st : Int) + 1))
  have hs0 := set_j (i := 3) (cs := [.int .i64 (s.at_ : Int), .slice (some ⟨gR, 0, none⟩) s.R.length s.R.length, .slice (some ⟨gA, 0, none⟩) s.A.length s.A.length, .int .i64 (s.st : Int), .int .i64 (s.ce : Int)]) h1 (.int .i64 ((s.st : Int) + 1))
  have hm1 := hm0.box hs0 (by decide) (by decide) 0 (.int .i64 ((s.at_ : Int) + 1))
  have hs1 := set_j (i := 0) (cs := [.int .i64 (s.at_ : Int), .slice (some ⟨gR, 0, none⟩) s.R.length s.R.length, .slice (some ⟨gA, 0, none⟩) s.A.length s.A.length, .int .i64 ((s.st : Int) + 1), .int .i64 (s.ce : Int)]) hs0 (.int .i64 ((s.at_ : Int) + 1))
  have hx1 : ((W0.setCell ⟨g0, 3, none⟩ (.int .i64 ((s.st : Int) + 1))).setCell ⟨g0, 0, none⟩ (.int .i64 ((s.at_ : Int) + 1))).heap[g0 + 1]? = some (Ji.obj (⟨2, (i : Int), (j : Int), c, n⟩)) := by rw [heap_setCell_other _ _ _ _ (by show g0 + 1 ≠ g0; omega), heap_setCell_other _ _ _ _ (by show g0 + 1 ≠ g0; omega)]; exact h2
  have hz1 : ((W0.setCell ⟨g0, 3, none⟩ (.int .i64 ((s.st : Int) + 1))).setCell ⟨g0, 0, none⟩ (.int .i64 ((s.at_ : Int) + 1))).heap[g0 + 1 + 1]? = some stZ := by rw [heap_setCell_other _ _ _ _ (by show g0 + 1 + 1 ≠ g0; omega), heap_setCell_other _ _ _ _ (by show g0 + 1 + 1 ≠ g0; omega)]; exact h3
  obtain ⟨r0, r1, r2, r3, r4, rf0, rf1, rf2, rf3, rf4⟩ := cells5 h1
  obtain ⟨T, hT⟩ : ∃ T, s.tick = T := ⟨_, rfl⟩
  have HT := Lib.hid hT
  have HS1 : Hid (((W0.setCell ⟨g0, 3, none⟩ (.int .i64 ((s.st : Int) + 1))).setCell ⟨g0, 0, none⟩ (.int .i64 ((s.at_ : Int) + 1))).heap[g0]? = some (stO T gR gA)) := by rw [← hT]; exact hs1
  have HM1 : Hid (MsW ((W0.setCell ⟨g0, 3, none⟩ (.int .i64 ((s.st : Int) + 1))).setCell ⟨g0, 0, none⟩ (.int .i64 ((s.at_ : Int) + 1))) base gR gA T rs) := by rw [← hT]; exact hm1.tick
  have HTS : Hid (T.R = s.R ∧ T.A = s.A ∧ T.at_ = s.at_ + 1 ∧ T.st = s.st + 1 ∧ T.ce = s.ce) := by rw [← hT]; exact ⟨rfl, rfl, rfl, rfl, rfl⟩
  have HK1 := Lib.hid hk1
  have HX1 := Lib.hid hx1
  have HZ1 := Lib.hid hz1
  clear hb1 hb2 hb3 h1 h2 h3 hb h hk1 hm0 hs0 hm1 hs1 hx1 hz1 hT hrv
  go_enter Tryz.func32, Tryz.ntmps32
  go_upto_region 1 with fail
  try rw [hW0]
  try rw [hg0]
  go_upto_region 3 with fail
  clear r0 r1 r2 r3 r4 rf0 rf1 rf2 rf3 rf4 hB
  obtain ⟨W1, hW1⟩ : ∃ W, (W0.setCell ⟨g0, 3, none⟩ (.int .i64 ((s.st : Int) + 1))).setCell ⟨g0, 0, none⟩ (.int .i64 ((s.at_ : Int) + 1)) = W := ⟨_, rfl⟩
  rw [hW1] at HK1 HX1 HZ1 HS1 HM1
  try rw [hW1]
  clear hW1 hW0 hg0
  obtain ⟨r0, r1, r2, r3, r4, rf0, rf1, rf2, rf3, rf4⟩ := cells5 HS1.out
  obtain ⟨⟨y0, y1, y2, y3, y4⟩, _⟩ := box_cellsJ HX1.out
  have hi : i < T.R.length := by rw [HTS.out.1]; exact hi
  have hi0 : (0 : Int) ≤ (i : Int) := by omega
  have hi1 : (i : Int) < (T.R.length : Int) := by omega
  have hj : j < T.R.length := by rw [HTS.out.1]; exact hj
  have hj0 : (0 : Int) ≤ (j : Int) := by omega
  have hj1 : (j : Int) < (T.R.length : Int) := by omega
  have hmx : Tryz.prog.follows .mixedOrders = true := by kernel_rfl
  have HTR : Hid (∀ q, I64 (T.r q)) := fun q => by have := HMR.out q; unfold Ms.r at *; rw [HTS.out.1]; exact this
  obtain ⟨b0, _⟩ := HM1.out.reg (i := j) hj
  go_upto_region 7 with fail
  have xr1 := cell_regrown r1
  have xy1 := cell_regrown y1
  have xy2 := cell_regrown y2
  have xb0 := cell_regrown b0
  refine wp_region_below_tail 10 hmx (by kernel_rfl) ?_
  simp only [List.take_succ_cons, List.take_zero, List.drop_succ_cons, List.drop_zero]
  repeat (quiet_step (fail))
  refine wpQuiet_nil ?_
  intro _ hw'
  obtain ⟨⟨dq, osq⟩, hw''⟩ := hw'
  subst hw''
  obtain ⟨W9, hW9⟩ : ∃ W, grow (redrawn W1 dq) osq = W := ⟨_, rfl⟩
  have hb9 := below_regrown W1 dq osq
  rw [hW9] at hb9 ⊢
  have HM9 := Lib.hid (HM1.out.on hb9)
  have HS9 := Lib.hid (keep_b hb9 HS1.out)
  have HZ9 := Lib.hid (keep_b hb9 HZ1.out)
  have HK9 := Lib.hid (HK1.out.below HBB.out hb9)
  clear xr1 xy1 xy2 xb0 r1 y1 y2 b0 hW9 hb9
  obtain ⟨c0, cf⟩ := HM9.out.reg (i := i) hi
  obtain ⟨hm2, hk2⟩ := HM9.out.setR i (v := T.r (j : Int)) (HTR.out _)
  have HM2 := Lib.hid hm2
  have HK2 := Lib.hid hk2
  clear hm2 hk2
  go_upto_region 39 with fail
  obtain ⟨W2, hW2⟩ : ∃ W, W9.setCell ⟨gR, i, none⟩ (.int .i64 (T.r (j : Int))) = W := ⟨_, rfl⟩
  rw [hW2] at HM2 HK2
  have HS2 : Hid (W2.heap[g0]? = some (stO T gR gA)) := HK2.out.blk _ _ _ HS9.out (by decide) (by decide)
  have HZ2 : Hid (W2.heap[g0 + 1 + 1]? = some stZ) := HK2.out.blk _ _ _ HZ9.out (by decide) (by decide)
  have HKK := Lib.hid (HK9.out.trans HK2.out)
  try rw [hW2]
  clear hW2
  clear c0 cf
  clear r0 r2 r3 r4 rf0 rf1 rf2 rf3 rf4 y0 y3 y4
  obtain ⟨r0, r1, r2, r3, r4, rf0, rf1, rf2, rf3, rf4⟩ := cells5 HS2.out
  obtain ⟨q0, q1, q2, q3, q4, qf0, qf1, qf2, qf3, qf4⟩ := cells5 HZ2.out
  have HKE := Lib.hid (KeepU.put5 HKK.out (g := g0 + 1 + 1) (by have := HG0.out; omega) HBB.out (.int .i64 ((T.at_ : Nat) : Int)) (.slice (some ⟨gR, 0, none⟩) T.R.length T.R.length) (.slice (some ⟨gA, 0, none⟩) T.A.length T.A.length) (.int .i64 ((T.st : Nat) : Int)) (.int .i64 ((T.ce : Nat) : Int)))
  obtain ⟨s0, s1, s2, s3, s4, _⟩ := cells5 (five_cells HZ2.out (.int .i64 ((T.at_ : Nat) : Int)) (.slice (some ⟨gR, 0, none⟩) T.R.length T.R.length) (.slice (some ⟨gA, 0, none⟩) T.A.length T.A.length) (.int .i64 ((T.st : Nat) : Int)) (.int .i64 ((T.ce : Nat) : Int)))
  have HSS := Lib.hid (And.intro s0 (And.intro s1 (And.intro s2 (And.intro s3 s4))))
  have HME := Lib.hid (MsW.put5 HM2.out HZ2.out (.int .i64 ((T.at_ : Nat) : Int)) (.slice (some ⟨gR, 0, none⟩) T.R.length T.R.length) (.slice (some ⟨gA, 0, none⟩) T.A.length T.A.length) (.int .i64 ((T.st : Nat) : Int)) (.int .i64 ((T.ce : Nat) : Int)))
  clear s0 s1 s2 s3 s4
  go_wp2_with fail
  obtain ⟨s0, s1, s2, s3, s4⟩ := HSS.out
  exact bodyPost_ret (v := .tuple #[.agg #[.int .i64 ((T.at_ : Nat) : Int), .slice (some ⟨gR, 0, none⟩) T.R.length T.R.length, .slice (some ⟨gA, 0, none⟩) T.A.length T.A.length, .int .i64 ((T.st : Nat) : Int), .int .i64 ((T.ce : Nat) : Int)], .int .i64 0]) (by simp [results, Tryz.results32, go_sem, s0, s1, s2, s3, s4]) rfl (.inl ⟨T.put (i : Int) (T.r (j : Int)), rs, (by rw [HT.out]; rfl), (by simp [stV, Ms.put]), HME.out, HKE.out⟩)
set_option maxRecDepth 100000 in
set_option maxHeartbeats 8000000 in
theorem refStep_3 (n : Int) (i j k : Nat) (cells : Int) (s : Ms) (rs : List RowU) (base gR gA : Nat) (w : World) (h : MsW w base gR gA s rs) (hB : base ≤ w.heap.size) (hs : s.at_ ≤ 1000000 ∧ s.st ≤ 1000000 ∧ s.ce ≤ 1000000) (hrv : ∀ v ∈ s.R, I64 v) (hi : i < s.R.length) (hj : j < s.R.length) (hk : k < s.R.length) :
    Calls Tryz.prog 32 #[stV s gR gA, Ji.val (⟨3, (i : Int), (j : Int), (k : Int), n⟩), .int .i64 cells] w (StepP base gR gA s (⟨3, (i : Int), (j : Int), (k : Int), n⟩) cells w) := by
  obtain ⟨W0, hW0⟩ : ∃ W, ((w.alloc (stO s gR gA)).alloc (Ji.obj (⟨3, (i : Int), (j : Int), (k : Int), n⟩))).alloc stZ = W := ⟨_, rfl⟩
  obtain ⟨g0, hg0⟩ : ∃ z, w.heap.size = z := ⟨_, rfl⟩
  have hb1 := lvBelow w (stO s gR gA)
  have hb2 := lvBelow (w.alloc (stO s gR gA)) (Ji.obj (⟨3, (i : Int), (j : Int), (k : Int), n⟩))
  have hb3 := lvBelow ((w.alloc (stO s gR gA)).alloc (Ji.obj (⟨3, (i : Int), (j : Int), (k : Int), n⟩))) stZ
  have h1 := keep_b hb3 (keep_b hb2 (heap_alloc_new w (stO s gR gA)))
  have h2 := keep_b hb3 (heap_alloc_new (w.alloc (stO s gR gA)) (Ji.obj (⟨3, (i : Int), (j : Int), (k : Int), n⟩)))
  have h3 := heap_alloc_new ((w.alloc (stO s gR gA)).alloc (Ji.obj (⟨3, (i : Int), (j : Int), (k : Int), n⟩))) stZ
  have hb := hb1.trans ((hb2.trans (hb3.mono hb2.size)).mono hb1.size)
  rw [hW0] at h1 h2 h3 hb
  simp only [World.size_alloc] at h2 h3
  rw [hg0] at h1 h2 h3
  have HMR := Lib.hid (fun i => (show I64 (s.r i) from by
    rcases getD_mem (l := s.R) (i := i.toNat) (d := 0) with h1 | h1
    · exact hrv _ h1
    · show I64 (s.R.getD i.toNat 0); rw [h1]; exact .zero))
  obtain ⟨t0, t1, t2⟩ := hs
  have HG0 : Hid (w.heap.size ≤ g0) := Nat.le_of_eq hg0
  have HBB := Lib.hid hB
  have hk1 : KeepU base w ((W0.setCell ⟨g0, 3, none⟩ (.int .i64 ((s.st : Int) + 1))).setCell ⟨g0, 0, none⟩ (.int .i64 ((s.at_ : Int) + 1))) := ((KeepU.of_below hb hB).box (g := g0) (by omega) hB 3 _).box (g := g0) (by omega) hB 0 _
  have hm0 := (h.on hb).box h1 (by decide) (by decide) 3 (.int .i64 ((s.st : Int) + 1))
  have hs0 := set_j (i := 3) (cs := [.int .i64 (s.at_ : Int), .slice (some ⟨gR, 0, none⟩) s.R.length s.R.length, .slice (some ⟨gA, 0, none⟩) s.A.length s.A.length, .int .i64 (s.st : Int), .int .i64 (s.ce : Int)]) h1 (.int .i64 ((s.st : Int) + 1))
  have hm1 := hm0.box hs0 (by decide) (by decide) 0 (.int .i64 ((s.at_ : Int) + 1))
  have hs1 := set_j (i := 0) (cs := [.int .i64 (s.at_ : Int), .slice (some ⟨gR, 0, none⟩) s.R.length s.R.length, .slice (some ⟨gA, 0, none⟩) s.A.length s.A.length, .int .i64 ((s.st : Int) + 1), .int .i64 (s.ce : Int)]) hs0 (.int .i64 ((s.at_ : Int) + 1))
  have hx1 : ((W0.setCell ⟨g0, 3, none⟩ (.int .i64 ((s.st : Int) + 1))).setCell ⟨g0, 0, none⟩ (.int .i64 ((s.at_ : Int) + 1))).heap[g0 + 1]? = some (Ji.obj (⟨3, (i : Int), (j : Int), (k : Int), n⟩)) := by rw [heap_setCell_other _ _ _ _ (by show g0 + 1 ≠ g0; omega), heap_setCell_other _ _ _ _ (by show g0 + 1 ≠ g0; omega)]; exact h2
  have hz1 : ((W0.setCell ⟨g0, 3, none⟩ (.int .i64 ((s.st : Int) + 1))).setCell ⟨g0, 0, none⟩ (.int .i64 ((s.at_ : Int) + 1))).heap[g0 + 1 + 1]? = some stZ := by rw [heap_setCell_other _ _ _ _ (by show g0 + 1 + 1 ≠ g0; omega), heap_setCell_other _ _ _ _ (by show g0 + 1 + 1 ≠ g0; omega)]; exact h3
  obtain ⟨r0, r1, r2, r3, r4, rf0, rf1, rf2, rf3, rf4⟩ := cells5 h1
  obtain ⟨T, hT⟩ : ∃ T, s.tick = T := ⟨_, rfl⟩
  have HT := Lib.hid hT
  have HS1 : Hid (((W0.setCell ⟨g0, 3, none⟩ (.int .i64 ((s.st : Int) + 1))).setCell ⟨g0, 0, none⟩ (.int .i64 ((s.at_ : Int) + 1))).heap[g0]? = some (stO T gR gA)) := by rw [← hT]; exact hs1
  have HM1 : Hid (MsW ((W0.setCell ⟨g0, 3, none⟩ (.int .i64 ((s.st : Int) + 1))).setCell ⟨g0, 0, none⟩ (.int .i64 ((s.at_ : Int) + 1))) base gR gA T rs) := by rw [← hT]; exact hm1.tick
  have HTS : Hid (T.R = s.R ∧ T.A = s.A ∧ T.at_ = s.at_ + 1 ∧ T.st = s.st + 1 ∧ T.ce = s.ce) := by rw [← hT]; exact ⟨rfl, rfl, rfl, rfl, rfl⟩
  have HK1 := Lib.hid hk1
  have HX1 := Lib.hid hx1
  have HZ1 := Lib.hid hz1
  clear hb1 hb2 hb3 h1 h2 h3 hb h hk1 hm0 hs0 hm1 hs1 hx1 hz1 hT hrv
  go_enter Tryz.func32, Tryz.ntmps32
  go_upto_region 1 with fail
  try rw [hW0]
  try rw [hg0]
  go_upto_region 3 with fail
  clear r0 r1 r2 r3 r4 rf0 rf1 rf2 rf3 rf4 hB
  obtain ⟨W1, hW1⟩ : ∃ W, (W0.setCell ⟨g0, 3, none⟩ (.int .i64 ((s.st : Int) + 1))).setCell ⟨g0, 0, none⟩ (.int .i64 ((s.at_ : Int) + 1)) = W := ⟨_, rfl⟩
  rw [hW1] at HK1 HX1 HZ1 HS1 HM1
  try rw [hW1]
  clear hW1 hW0 hg0
  obtain ⟨r0, r1, r2, r3, r4, rf0, rf1, rf2, rf3, rf4⟩ := cells5 HS1.out
  obtain ⟨⟨y0, y1, y2, y3, y4⟩, _⟩ := box_cellsJ HX1.out
  have hi : i < T.R.length := by rw [HTS.out.1]; exact hi
  have hi0 : (0 : Int) ≤ (i : Int) := by omega
  have hi1 : (i : Int) < (T.R.length : Int) := by omega
  have hj : j < T.R.length := by rw [HTS.out.1]; exact hj
  have hj0 : (0 : Int) ≤ (j : Int) := by omega
  have hj1 : (j : Int) < (T.R.length : Int) := by omega
  have hk : k < T.R.length := by rw [HTS.out.1]; exact hk
  have hk0 : (0 : Int) ≤ (k : Int) := by omega
  have hk1 : (k : Int) < (T.R.length : Int) := by omega
  have hmx : Tryz.prog.follows .mixedOrders = true := by kernel_rfl
  have HTR : Hid (∀ q, I64 (T.r q)) := fun q => by have := HMR.out q; unfold Ms.r at *; rw [HTS.out.1]; exact this
  obtain ⟨b0, _⟩ := HM1.out.reg (i := j) hj
  obtain ⟨d0, _⟩ := HM1.out.reg (i := k) hk
  go_upto_region 9 with fail
  have xr1 := cell_regrown r1
  have xy1 := cell_regrown y1
  have xy2 := cell_regrown y2
  have xy3 := cell_regrown y3
  have xb0 := cell_regrown b0
  have xd0 := cell_regrown d0
  refine wp_region_below_tail 17 hmx (by kernel_rfl) ?_
  simp only [List.take_succ_cons, List.take_zero, List.drop_succ_cons, List.drop_zero]
  repeat (quiet_step (fail))
  refine wpQuiet_nil ?_
  intro _ hw'
  obtain ⟨⟨dq, osq⟩, hw''⟩ := hw'
  subst hw''
  obtain ⟨W9, hW9⟩ : ∃ W, grow (redrawn W1 dq) osq = W := ⟨_, rfl⟩
  have hb9 := below_regrown W1 dq osq
  rw [hW9] at hb9 ⊢
  have HM9 := Lib.hid (HM1.out.on hb9)
  have HS9 := Lib.hid (keep_b hb9 HS1.out)
  have HZ9 := Lib.hid (keep_b hb9 HZ1.out)
  have HK9 := Lib.hid (HK1.out.below HBB.out hb9)
  clear xr1 xy1 xy2 xy3 xb0 xd0 r1 y1 y2 y3 b0 d0 hW9 hb9
  obtain ⟨c0, cf⟩ := HM9.out.reg (i := i) hi
  obtain ⟨hm2, hk2⟩ := HM9.out.setR i (v := wrap64 (T.r (j : Int) + T.r (k : Int))) (.wrap _)
  have HM2 := Lib.hid hm2
  have HK2 := Lib.hid hk2
  clear hm2 hk2
  go_upto_region 39 with fail
  obtain ⟨W2, hW2⟩ : ∃ W, W9.setCell ⟨gR, i, none⟩ (.int .i64 (wrap64 (T.r (j : Int) + T.r (k : Int)))) = W := ⟨_, rfl⟩
  rw [hW2] at HM2 HK2
  have HS2 : Hid (W2.heap[g0]? = some (stO T gR gA)) := HK2.out.blk _ _ _ HS9.out (by decide) (by decide)
  have HZ2 : Hid (W2.heap[g0 + 1 + 1]? = some stZ) := HK2.out.blk _ _ _ HZ9.out (by decide) (by decide)
  have HKK := Lib.hid (HK9.out.trans HK2.out)
  try rw [hW2]
  clear hW2
  clear c0 cf
  clear r0 r2 r3 r4 rf0 rf1 rf2 rf3 rf4 y0 y4
  obtain ⟨r0, r1, r2, r3, r4, rf0, rf1, rf2, rf3, rf4⟩ := cells5 HS2.out
  obtain ⟨q0, q1, q2, q3, q4, qf0, qf1, qf2, qf3, qf4⟩ := cells5 HZ2.out
  have HKE := Lib.hid (KeepU.put5 HKK.out (g := g0 + 1 + 1) (by have := HG0.out; omega) HBB.out (.int .i64 ((T.at_ : Nat) : Int)) (.slice (some ⟨gR, 0, none⟩) T.R.length T.R.length) (.slice (some ⟨gA, 0, none⟩) T.A.length T.A.length) (.int .i64 ((T.st : Nat) : Int)) (.int .i64 ((T.ce : Nat) : Int)))
  obtain ⟨s0, s1, s2, s3, s4, _⟩ := cells5 (five_cells HZ2.out (.int .i64 ((T.at_ : Nat) : Int)) (.slice (some ⟨gR, 0, none⟩) T.R.length T.R.length) (.slice (some ⟨gA, 0, none⟩) T.A.length T.A.length) (.int .i64 ((T.st : Nat) : Int)) (.int .i64 ((T.ce : Nat) : Int)))
  have HSS := Lib.hid (And.intro s0 (And.intro s1 (And.intro s2 (And.intro s3 s4))))
  have HME := Lib.hid (MsW.put5 HM2.out HZ2.out (.int .i64 ((T.at_ : Nat) : Int)) (.slice (some ⟨gR, 0, none⟩) T.R.length T.R.length) (.slice (some ⟨gA, 0, none⟩) T.A.length T.A.length) (.int .i64 ((T.st : Nat) : Int)) (.int .i64 ((T.ce : Nat) : Int)))
  clear s0 s1 s2 s3 s4
  go_wp2_with fail
  obtain ⟨s0, s1, s2, s3, s4⟩ := HSS.out
  exact bodyPost_ret (v := .tuple #[.agg #[.int .i64 ((T.at_ : Nat) : Int), .slice (some ⟨gR, 0, none⟩) T.R.length T.R.length, .slice (some ⟨gA, 0, none⟩) T.A.length T.A.length, .int .i64 ((T.st : Nat) : Int), .int .i64 ((T.ce : Nat) : Int)], .int .i64 0]) (by simp [results, Tryz.results32, go_sem, s0, s1, s2, s3, s4]) rfl (.inl ⟨T.put (i : Int) (wrap64 (T.r (j : Int) + T.r (k : Int))), rs, (by rw [HT.out]; rfl), (by simp [stV, Ms.put]), HME.out, HKE.out⟩)
set_option maxRecDepth 100000 in
set_option maxHeartbeats 8000000 in
theorem refStep_4 (n : Int) (i j k : Nat) (cells : Int) (s : Ms) (rs : List RowU) (base gR gA : Nat) (w : World) (h : MsW w base gR gA s rs) (hB : base ≤ w.heap.size) (hs : s.at_ ≤ 1000000 ∧ s.st ≤ 1000000 ∧ s.ce ≤ 1000000) (hrv : ∀ v ∈ s.R, I64 v) (hi : i < s.R.length) (hj : j < s.R.length) (hk : k < s.R.length) :
    Calls Tryz.prog 32 #[stV s gR gA, Ji.val (⟨4, (i : Int), (j : Int), (k : Int), n⟩), .int .i64 cells] w (StepP base gR gA s (⟨4, (i : Int), (j : Int), (k : Int), n⟩) cells w) := by
  obtain ⟨W0, hW0⟩ : ∃ W, ((w.alloc (stO s gR gA)).alloc (Ji.obj (⟨4, (i : Int), (j : Int), (k : Int), n⟩))).alloc stZ = W := ⟨_, rfl⟩
  obtain ⟨g0, hg0⟩ : ∃ z, w.heap.size = z := ⟨_, rfl⟩
  have hb1 := lvBelow w (stO s gR gA)
  have hb2 := lvBelow (w.alloc (stO s gR gA)) (Ji.obj (⟨4, (i : Int), (j : Int), (k : Int), n⟩))
  have hb3 := lvBelow ((w.alloc (stO s gR gA)).alloc (Ji.obj (⟨4, (i : Int), (j : Int), (k : Int), n⟩))) stZ
  have h1 := keep_b hb3 (keep_b hb2 (heap_alloc_new w (stO s gR gA)))
  have h2 := keep_b hb3 (heap_alloc_new (w.alloc (stO s gR gA)) (Ji.obj (⟨4, (i : Int), (j : Int), (k : Int), n⟩)))
  have h3 := heap_alloc_new ((w.alloc (stO s gR gA)).alloc (Ji.obj (⟨4, (i : Int), (j : Int), (k : Int), n⟩))) stZ
  have hb := hb1.trans ((hb2.trans (hb3.mono hb2.size)).mono hb1.size)
  rw [hW0] at h1 h2 h3 hb
  simp only [World.size_alloc] at h2 h3
  rw [hg0] at h1 h2 h3
  have HMR := Lib.hid (fun i => (show I64 (s.r i) from by
    rcases getD_mem (l := s.R) (i := i.toNat) (d := 0) with h1 | h1
    · exact hrv _ h1
    · show I64 (s.R.getD i.toNat 0); rw [h1]; exact .zero))
  obtain ⟨t0, t1, t2⟩ := hs
  have HG0 : Hid (w.heap.size ≤ g0) := Nat.le_of_eq hg0
  have HBB := Lib.hid hB
  have hk1 : KeepU base w ((W0.setCell ⟨g0, 3, none⟩ (.int .i64 ((s.st : Int) + 1))).setCell ⟨g0, 0, none⟩ (.int .i64 ((s.at_ : Int) + 1))) := ((KeepU.of_below hb hB).box (g := g0) (by omega) hB 3 _).box (g := g0) (by omega) hB 0 _
  have hm0 := (h.on hb).box h1 (by decide) (by decide) 3 (.int .i64 ((s.st : Int) + 1))
  have hs0 := set_j (i := 3) (cs := [.int .i64 (s.at_ : Int), .slice (some ⟨gR, 0, none⟩) s.R.length s.R.length, .slice (some ⟨gA, 0, none⟩) s.A.length s.A.length, .int .i64 (s.st : Int), .int .i64 (s.ce : Int)]) h1 (.int .i64 ((s.st : Int) + 1))
  have hm1 := hm0.box hs0 (by decide) (by decide) 0 (.int .i64 ((s.at_ : Int) + 1))
  have hs1 := set_j (i := 0) (cs := [.int .i64 (s.at_ : Int), .slice (some ⟨gR, 0, none⟩) s.R.length s.R.length, .slice (some ⟨gA, 0, none⟩) s.A.length s.A.length, .int .i64 ((s.st : Int) + 1), .int .i64 (s.ce : Int)]) hs0 (.int .i64 ((s.at_ : Int) + 1))
  have hx1 : ((W0.setCell ⟨g0, 3, none⟩ (.int .i64 ((s.st : Int) + 1))).setCell ⟨g0, 0, none⟩ (.int .i64 ((s.at_ : Int) + 1))).heap[g0 + 1]? = some (Ji.obj (⟨4, (i : Int), (j : Int), (k : Int), n⟩)) := by rw [heap_setCell_other _ _ _ _ (by show g0 + 1 ≠ g0; omega), heap_setCell_other _ _ _ _ (by show g0 + 1 ≠ g0; omega)]; exact h2
  have hz1 : ((W0.setCell ⟨g0, 3, none⟩ (.int .i64 ((s.st : Int) + 1))).setCell ⟨g0, 0, none⟩ (.int .i64 ((s.at_ : Int) + 1))).heap[g0 + 1 + 1]? = some stZ := by rw [heap_setCell_other _ _ _ _ (by show g0 + 1 + 1 ≠ g0; omega), heap_setCell_other _ _ _ _ (by show g0 + 1 + 1 ≠ g0; omega)]; exact h3
  obtain ⟨r0, r1, r2, r3, r4, rf0, rf1, rf2, rf3, rf4⟩ := cells5 h1
  obtain ⟨T, hT⟩ : ∃ T, s.tick = T := ⟨_, rfl⟩
  have HT := Lib.hid hT
  have HS1 : Hid (((W0.setCell ⟨g0, 3, none⟩ (.int .i64 ((s.st : Int) + 1))).setCell ⟨g0, 0, none⟩ (.int .i64 ((s.at_ : Int) + 1))).heap[g0]? = some (stO T gR gA)) := by rw [← hT]; exact hs1
  have HM1 : Hid (MsW ((W0.setCell ⟨g0, 3, none⟩ (.int .i64 ((s.st : Int) + 1))).setCell ⟨g0, 0, none⟩ (.int .i64 ((s.at_ : Int) + 1))) base gR gA T rs) := by rw [← hT]; exact hm1.tick
  have HTS : Hid (T.R = s.R ∧ T.A = s.A ∧ T.at_ = s.at_ + 1 ∧ T.st = s.st + 1 ∧ T.ce = s.ce) := by rw [← hT]; exact ⟨rfl, rfl, rfl, rfl, rfl⟩
  have HK1 := Lib.hid hk1
  have HX1 := Lib.hid hx1
  have HZ1 := Lib.hid hz1
  clear hb1 hb2 hb3 h1 h2 h3 hb h hk1 hm0 hs0 hm1 hs1 hx1 hz1 hT hrv
  go_enter Tryz.func32, Tryz.ntmps32
  go_upto_region 1 with fail
  try rw [hW0]
  try rw [hg0]
  go_upto_region 3 with fail
  clear r0 r1 r2 r3 r4 rf0 rf1 rf2 rf3 rf4 hB
  obtain ⟨W1, hW1⟩ : ∃ W, (W0.setCell ⟨g0, 3, none⟩ (.int .i64 ((s.st : Int) + 1))).setCell ⟨g0, 0, none⟩ (.int .i64 ((s.at_ : Int) + 1)) = W := ⟨_, rfl⟩
  rw [hW1] at HK1 HX1 HZ1 HS1 HM1
  try rw [hW1]
  clear hW1 hW0 hg0
  obtain ⟨r0, r1, r2, r3, r4, rf0, rf1, rf2, rf3, rf4⟩ := cells5 HS1.out
  obtain ⟨⟨y0, y1, y2, y3, y4⟩, _⟩ := box_cellsJ HX1.out
  have hi : i < T.R.length := by rw [HTS.out.1]; exact hi
  have hi0 : (0 : Int) ≤ (i : Int) := by omega
  have hi1 : (i : Int) < (T.R.length : Int) := by omega
  have hj : j < T.R.length := by rw [HTS.out.1]; exact hj
  have hj0 : (0 : Int) ≤ (j : Int) := by omega
  have hj1 : (j : Int) < (T.R.length : Int) := by omega
  have hk : k < T.R.length := by rw [HTS.out.1]; exact hk
  have hk0 : (0 : Int) ≤ (k : Int) := by omega
  have hk1 : (k : Int) < (T.R.length : Int) := by omega
  have hmx : Tryz.prog.follows .mixedOrders = true := by kernel_rfl
  have HTR : Hid (∀ q, I64 (T.r q)) := fun q => by have := HMR.out q; unfold Ms.r at *; rw [HTS.out.1]; exact this
  obtain ⟨b0, _⟩ := HM1.out.reg (i := j) hj
  obtain ⟨d0, _⟩ := HM1.out.reg (i := k) hk
  go_upto_region 11 with fail
  have xr1 := cell_regrown r1
  have xy1 := cell_regrown y1
  have xy2 := cell_regrown y2
  have xy3 := cell_regrown y3
  have xb0 := cell_regrown b0
  have xd0 := cell_regrown d0
  refine wp_region_below_tail 17 hmx (by kernel_rfl) ?_
  simp only [List.take_succ_cons, List.take_zero, List.drop_succ_cons, List.drop_zero]
  repeat (quiet_step (fail))
  refine wpQuiet_nil ?_
  intro _ hw'
  obtain ⟨⟨dq, osq⟩, hw''⟩ := hw'
  subst hw''
  obtain ⟨W9, hW9⟩ : ∃ W, grow (redrawn W1 dq) osq = W := ⟨_, rfl⟩
  have hb9 := below_regrown W1 dq osq
  rw [hW9] at hb9 ⊢
  have HM9 := Lib.hid (HM1.out.on hb9)
  have HS9 := Lib.hid (keep_b hb9 HS1.out)
  have HZ9 := Lib.hid (keep_b hb9 HZ1.out)
  have HK9 := Lib.hid (HK1.out.below HBB.out hb9)
  clear xr1 xy1 xy2 xy3 xb0 xd0 r1 y1 y2 y3 b0 d0 hW9 hb9
  obtain ⟨c0, cf⟩ := HM9.out.reg (i := i) hi
  obtain ⟨hm2, hk2⟩ := HM9.out.setR i (v := wrap64 (T.r (j : Int) - T.r (k : Int))) (.wrap _)
  have HM2 := Lib.hid hm2
  have HK2 := Lib.hid hk2
  clear hm2 hk2
  go_upto_region 39 with fail
  obtain ⟨W2, hW2⟩ : ∃ W, W9.setCell ⟨gR, i, none⟩ (.int .i64 (wrap64 (T.r (j : Int) - T.r (k : Int)))) = W := ⟨_, rfl⟩
  rw [hW2] at HM2 HK2
  have HS2 : Hid (W2.heap[g0]? = some (stO T gR gA)) := HK2.out.blk _ _ _ HS9.out (by decide) (by decide)
  have HZ2 : Hid (W2.heap[g0 + 1 + 1]? = some stZ) := HK2.out.blk _ _ _ HZ9.out (by decide) (by decide)
  have HKK := Lib.hid (HK9.out.trans HK2.out)
  try rw [hW2]
  clear hW2
  clear c0 cf
  clear r0 r2 r3 r4 rf0 rf1 rf2 rf3 rf4 y0 y4
  obtain ⟨r0, r1, r2, r3, r4, rf0, rf1, rf2, rf3, rf4⟩ := cells5 HS2.out
  obtain ⟨q0, q1, q2, q3, q4, qf0, qf1, qf2, qf3, qf4⟩ := cells5 HZ2.out
  have HKE := Lib.hid (KeepU.put5 HKK.out (g := g0 + 1 + 1) (by have := HG0.out; omega) HBB.out (.int .i64 ((T.at_ : Nat) : Int)) (.slice (some ⟨gR, 0, none⟩) T.R.length T.R.length) (.slice (some ⟨gA, 0, none⟩) T.A.length T.A.length) (.int .i64 ((T.st : Nat) : Int)) (.int .i64 ((T.ce : Nat) : Int)))
  obtain ⟨s0, s1, s2, s3, s4, _⟩ := cells5 (five_cells HZ2.out (.int .i64 ((T.at_ : Nat) : Int)) (.slice (some ⟨gR, 0, none⟩) T.R.length T.R.length) (.slice (some ⟨gA, 0, none⟩) T.A.length T.A.length) (.int .i64 ((T.st : Nat) : Int)) (.int .i64 ((T.ce : Nat) : Int)))
  have HSS := Lib.hid (And.intro s0 (And.intro s1 (And.intro s2 (And.intro s3 s4))))
  have HME := Lib.hid (MsW.put5 HM2.out HZ2.out (.int .i64 ((T.at_ : Nat) : Int)) (.slice (some ⟨gR, 0, none⟩) T.R.length T.R.length) (.slice (some ⟨gA, 0, none⟩) T.A.length T.A.length) (.int .i64 ((T.st : Nat) : Int)) (.int .i64 ((T.ce : Nat) : Int)))
  clear s0 s1 s2 s3 s4
  go_wp2_with fail
  obtain ⟨s0, s1, s2, s3, s4⟩ := HSS.out
  exact bodyPost_ret (v := .tuple #[.agg #[.int .i64 ((T.at_ : Nat) : Int), .slice (some ⟨gR, 0, none⟩) T.R.length T.R.length, .slice (some ⟨gA, 0, none⟩) T.A.length T.A.length, .int .i64 ((T.st : Nat) : Int), .int .i64 ((T.ce : Nat) : Int)], .int .i64 0]) (by simp [results, Tryz.results32, go_sem, s0, s1, s2, s3, s4]) rfl (.inl ⟨T.put (i : Int) (wrap64 (T.r (j : Int) - T.r (k : Int))), rs, (by rw [HT.out]; rfl), (by simp [stV, Ms.put]), HME.out, HKE.out⟩)
set_option maxRecDepth 100000 in
set_option maxHeartbeats 8000000 in
theorem refStep_5 (n : Int) (i j k : Nat) (cells : Int) (s : Ms) (rs : List RowU) (base gR gA : Nat) (w : World) (h : MsW w base gR gA s rs) (hB : base ≤ w.heap.size) (hs : s.at_ ≤ 1000000 ∧ s.st ≤ 1000000 ∧ s.ce ≤ 1000000) (hrv : ∀ v ∈ s.R, I64 v) (hi : i < s.R.length) (hj : j < s.R.length) (hk : k < s.R.length) :
    Calls Tryz.prog 32 #[stV s gR gA, Ji.val (⟨5, (i : Int), (j : Int), (k : Int), n⟩), .int .i64 cells] w (StepP base gR gA s (⟨5, (i : Int), (j : Int), (k : Int), n⟩) cells w) := by
  obtain ⟨W0, hW0⟩ : ∃ W, ((w.alloc (stO s gR gA)).alloc (Ji.obj (⟨5, (i : Int), (j : Int), (k : Int), n⟩))).alloc stZ = W := ⟨_, rfl⟩
  obtain ⟨g0, hg0⟩ : ∃ z, w.heap.size = z := ⟨_, rfl⟩
  have hb1 := lvBelow w (stO s gR gA)
  have hb2 := lvBelow (w.alloc (stO s gR gA)) (Ji.obj (⟨5, (i : Int), (j : Int), (k : Int), n⟩))
  have hb3 := lvBelow ((w.alloc (stO s gR gA)).alloc (Ji.obj (⟨5, (i : Int), (j : Int), (k : Int), n⟩))) stZ
  have h1 := keep_b hb3 (keep_b hb2 (heap_alloc_new w (stO s gR gA)))
  have h2 := keep_b hb3 (heap_alloc_new (w.alloc (stO s gR gA)) (Ji.obj (⟨5, (i : Int), (j : Int), (k : Int), n⟩)))
  have h3 := heap_alloc_new ((w.alloc (stO s gR gA)).alloc (Ji.obj (⟨5, (i : Int), (j : Int), (k : Int), n⟩))) stZ
  have hb := hb1.trans ((hb2.trans (hb3.mono hb2.size)).mono hb1.size)
  rw [hW0] at h1 h2 h3 hb
  simp only [World.size_alloc] at h2 h3
  rw [hg0] at h1 h2 h3
  have HMR := Lib.hid (fun i => (show I64 (s.r i) from by
    rcases getD_mem (l := s.R) (i := i.toNat) (d := 0) with h1 | h1
    · exact hrv _ h1
    · show I64 (s.R.getD i.toNat 0); rw [h1]; exact .zero))
  obtain ⟨t0, t1, t2⟩ := hs
  have HG0 : Hid (w.heap.size ≤ g0) := Nat.le_of_eq hg0
  have HBB := Lib.hid hB
  have hk1 : KeepU base w ((W0.setCell ⟨g0, 3, none⟩ (.int .i64 ((s.st : Int) + 1))).setCell ⟨g0, 0, none⟩ (.int .i64 ((s.at_ : Int) + 1))) := ((KeepU.of_below hb hB).box (g := g0) (by omega) hB 3 _).box (g := g0) (by omega) hB 0 _
  have hm0 := (h.on hb).box h1 (by decide) (by decide) 3 (.int .i64 ((s.st : Int) + 1))
  have hs0 := set_j (i := 3) (cs := [.int .i64 (s.at_ : Int), .slice (some ⟨gR, 0, none⟩) s.R.length s.R.length, .slice (some ⟨gA, 0, none⟩) s.A.length s.A.length, .int .i64 (s.st : Int), .int .i64 (s.ce : Int)]) h1 (.int .i64 ((s.st : Int) + 1))
  have hm1 := hm0.box hs0 (by decide) (by decide) 0 (.int .i64 ((s.at_ : Int) + 1))
  have hs1 := set_j (i := 0) (cs := [.int .i64 (s.at_ : Int), .slice (some ⟨gR, 0, none⟩) s.R.length s.R.length, .slice (some ⟨gA, 0, none⟩) s.A.length s.A.length, .int .i64 ((s.st : Int) + 1), .int .i64 (s.ce : Int)]) hs0 (.int .i64 ((s.at_ : Int) + 1))
  have hx1 : ((W0.setCell ⟨g0, 3, none⟩ (.int .i64 ((s.st : Int) + 1))).setCell ⟨g0, 0, none⟩ (.int .i64 ((s.at_ : Int) + 1))).heap[g0 + 1]? = some (Ji.obj (⟨5, (i : Int), (j : Int), (k : Int), n⟩)) := by rw [heap_setCell_other _ _ _ _ (by show g0 + 1 ≠ g0; omega), heap_setCell_other _ _ _ _ (by show g0 + 1 ≠ g0; omega)]; exact h2
  have hz1 : ((W0.setCell ⟨g0, 3, none⟩ (.int .i64 ((s.st : Int) + 1))).setCell ⟨g0, 0, none⟩ (.int .i64 ((s.at_ : Int) + 1))).heap[g0 + 1 + 1]? = some stZ := by rw [heap_setCell_other _ _ _ _ (by show g0 + 1 + 1 ≠ g0; omega), heap_setCell_other _ _ _ _ (by show g0 + 1 + 1 ≠ g0; omega)]; exact h3
  obtain ⟨r0, r1, r2, r3, r4, rf0, rf1, rf2, rf3, rf4⟩ := cells5 h1
  obtain ⟨T, hT⟩ : ∃ T, s.tick = T := ⟨_, rfl⟩
  have HT := Lib.hid hT
  have HS1 : Hid (((W0.setCell ⟨g0, 3, none⟩ (.int .i64 ((s.st : Int) + 1))).setCell ⟨g0, 0, none⟩ (.int .i64 ((s.at_ : Int) + 1))).heap[g0]? = some (stO T gR gA)) := by rw [← hT]; exact hs1
  have HM1 : Hid (MsW ((W0.setCell ⟨g0, 3, none⟩ (.int .i64 ((s.st : Int) + 1))).setCell ⟨g0, 0, none⟩ (.int .i64 ((s.at_ : Int) + 1))) base gR gA T rs) := by rw [← hT]; exact hm1.tick
  have HTS : Hid (T.R = s.R ∧ T.A = s.A ∧ T.at_ = s.at_ + 1 ∧ T.st = s.st + 1 ∧ T.ce = s.ce) := by rw [← hT]; exact ⟨rfl, rfl, rfl, rfl, rfl⟩
  have HK1 := Lib.hid hk1
  have HX1 := Lib.hid hx1
  have HZ1 := Lib.hid hz1
  clear hb1 hb2 hb3 h1 h2 h3 hb h hk1 hm0 hs0 hm1 hs1 hx1 hz1 hT hrv
  go_enter Tryz.func32, Tryz.ntmps32
  go_upto_region 1 with fail
  try rw [hW0]
  try rw [hg0]
  go_upto_region 3 with fail
  clear r0 r1 r2 r3 r4 rf0 rf1 rf2 rf3 rf4 hB
  obtain ⟨W1, hW1⟩ : ∃ W, (W0.setCell ⟨g0, 3, none⟩ (.int .i64 ((s.st : Int) + 1))).setCell ⟨g0, 0, none⟩ (.int .i64 ((s.at_ : Int) + 1)) = W := ⟨_, rfl⟩
  rw [hW1] at HK1 HX1 HZ1 HS1 HM1
  try rw [hW1]
  clear hW1 hW0 hg0
  obtain ⟨r0, r1, r2, r3, r4, rf0, rf1, rf2, rf3, rf4⟩ := cells5 HS1.out
  obtain ⟨⟨y0, y1, y2, y3, y4⟩, _⟩ := box_cellsJ HX1.out
  have hi : i < T.R.length := by rw [HTS.out.1]; exact hi
  have hi0 : (0 : Int) ≤ (i : Int) := by omega
  have hi1 : (i : Int) < (T.R.length : Int) := by omega
  have hj : j < T.R.length := by rw [HTS.out.1]; exact hj
  have hj0 : (0 : Int) ≤ (j : Int) := by omega
  have hj1 : (j : Int) < (T.R.length : Int) := by omega
  have hk : k < T.R.length := by rw [HTS.out.1]; exact hk
  have hk0 : (0 : Int) ≤ (k : Int) := by omega
  have hk1 : (k : Int) < (T.R.length : Int) := by omega
  have hmx : Tryz.prog.follows .mixedOrders = true := by kernel_rfl
  have HTR : Hid (∀ q, I64 (T.r q)) := fun q => by have := HMR.out q; unfold Ms.r at *; rw [HTS.out.1]; exact this
  obtain ⟨b0, _⟩ := HM1.out.reg (i := j) hj
  obtain ⟨d0, _⟩ := HM1.out.reg (i := k) hk
  go_upto_region 13 with fail
  have xr1 := cell_regrown r1
  have xy1 := cell_regrown y1
  have xy2 := cell_regrown y2
  have xy3 := cell_regrown y3
  have xb0 := cell_regrown b0
  have xd0 := cell_regrown d0
  refine wp_region_below_tail 17 hmx (by kernel_rfl) ?_
  simp only [List.take_succ_cons, List.take_zero, List.drop_succ_cons, List.drop_zero]
  repeat (quiet_step (fail))
  refine wpQuiet_nil ?_
  intro _ hw'
  obtain ⟨⟨dq, osq⟩, hw''⟩ := hw'
  subst hw''
  obtain ⟨W9, hW9⟩ : ∃ W, grow (redrawn W1 dq) osq = W := ⟨_, rfl⟩
  have hb9 := below_regrown W1 dq osq
  rw [hW9] at hb9 ⊢
  have HM9 := Lib.hid (HM1.out.on hb9)
  have HS9 := Lib.hid (keep_b hb9 HS1.out)
  have HZ9 := Lib.hid (keep_b hb9 HZ1.out)
  have HK9 := Lib.hid (HK1.out.below HBB.out hb9)
  clear xr1 xy1 xy2 xy3 xb0 xd0 r1 y1 y2 y3 b0 d0 hW9 hb9
  obtain ⟨c0, cf⟩ := HM9.out.reg (i := i) hi
  obtain ⟨hm2, hk2⟩ := HM9.out.setR i (v := wrap64 (T.r (j : Int) * T.r (k : Int))) (.wrap _)
  have HM2 := Lib.hid hm2
  have HK2 := Lib.hid hk2
  clear hm2 hk2
  go_upto_region 39 with fail
  obtain ⟨W2, hW2⟩ : ∃ W, W9.setCell ⟨gR, i, none⟩ (.int .i64 (wrap64 (T.r (j : Int) * T.r (k : Int)))) = W := ⟨_, rfl⟩
  rw [hW2] at HM2 HK2
  have HS2 : Hid (W2.heap[g0]? = some (stO T gR gA)) := HK2.out.blk _ _ _ HS9.out (by decide) (by decide)
  have HZ2 : Hid (W2.heap[g0 + 1 + 1]? = some stZ) := HK2.out.blk _ _ _ HZ9.out (by decide) (by decide)
  have HKK := Lib.hid (HK9.out.trans HK2.out)
  try rw [hW2]
  clear hW2
  clear c0 cf
  clear r0 r2 r3 r4 rf0 rf1 rf2 rf3 rf4 y0 y4
  obtain ⟨r0, r1, r2, r3, r4, rf0, rf1, rf2, rf3, rf4⟩ := cells5 HS2.out
  obtain ⟨q0, q1, q2, q3, q4, qf0, qf1, qf2, qf3, qf4⟩ := cells5 HZ2.out
  have HKE := Lib.hid (KeepU.put5 HKK.out (g := g0 + 1 + 1) (by have := HG0.out; omega) HBB.out (.int .i64 ((T.at_ : Nat) : Int)) (.slice (some ⟨gR, 0, none⟩) T.R.length T.R.length) (.slice (some ⟨gA, 0, none⟩) T.A.length T.A.length) (.int .i64 ((T.st : Nat) : Int)) (.int .i64 ((T.ce : Nat) : Int)))
  obtain ⟨s0, s1, s2, s3, s4, _⟩ := cells5 (five_cells HZ2.out (.int .i64 ((T.at_ : Nat) : Int)) (.slice (some ⟨gR, 0, none⟩) T.R.length T.R.length) (.slice (some ⟨gA, 0, none⟩) T.A.length T.A.length) (.int .i64 ((T.st : Nat) : Int)) (.int .i64 ((T.ce : Nat) : Int)))
  have HSS := Lib.hid (And.intro s0 (And.intro s1 (And.intro s2 (And.intro s3 s4))))
  have HME := Lib.hid (MsW.put5 HM2.out HZ2.out (.int .i64 ((T.at_ : Nat) : Int)) (.slice (some ⟨gR, 0, none⟩) T.R.length T.R.length) (.slice (some ⟨gA, 0, none⟩) T.A.length T.A.length) (.int .i64 ((T.st : Nat) : Int)) (.int .i64 ((T.ce : Nat) : Int)))
  clear s0 s1 s2 s3 s4
  go_wp2_with fail
  obtain ⟨s0, s1, s2, s3, s4⟩ := HSS.out
  exact bodyPost_ret (v := .tuple #[.agg #[.int .i64 ((T.at_ : Nat) : Int), .slice (some ⟨gR, 0, none⟩) T.R.length T.R.length, .slice (some ⟨gA, 0, none⟩) T.A.length T.A.length, .int .i64 ((T.st : Nat) : Int), .int .i64 ((T.ce : Nat) : Int)], .int .i64 0]) (by simp [results, Tryz.results32, go_sem, s0, s1, s2, s3, s4]) rfl (.inl ⟨T.put (i : Int) (wrap64 (T.r (j : Int) * T.r (k : Int))), rs, (by rw [HT.out]; rfl), (by simp [stV, Ms.put]), HME.out, HKE.out⟩)
end Go.Proofs.YtgkngimeokhhgaaGreatDoor
