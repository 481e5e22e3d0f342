/- The document's step: arrays that are read and written. -/
import Derived.Test.YtgkngimeokhhgaaGreatDoorG8
import Derived.Below
import Derived.StillTail
import Derived.Test.YtgkngimeokhhgaaGreatDoorG2
namespace Go.Proofs.YtgkngimeokhhgaaGreatDoor
open Go.RowKit Go.Sort

set_option maxRecDepth 100000 in
set_option maxHeartbeats 8000000 in
theorem refStep_6 (n : Int) (i j k : Nat) (cells : Int) (s : Ms) (rs : List RowU) (base gR gA : Nat) (w : World) (h : MsW w base gR gA s rs) (hB : base ≤ w.heap.size) (hs : s.at_ ≤ 1000000 ∧ s.st ≤ 1000000 ∧ s.ce ≤ 1000000) (hrv : ∀ v ∈ s.R, I64 v) (hi : i < s.R.length) (hj : j < s.A.length) (hk : k < s.R.length) (hal : ∀ i : Nat, (s.a (i : Int)).length ≤ 1000000) (hav : ∀ l ∈ s.A, ∀ v ∈ l, I64 v) :
    Calls Tryz.prog 32 #[stV s gR gA, Ji.val (⟨6, (i : Int), (j : Int), (k : Int), n⟩), .int .i64 cells] w (StepP base gR gA s (⟨6, (i : Int), (j : Int), (k : Int), n⟩) cells w) := by
  obtain ⟨W0, hW0⟩ : ∃ W, ((w.alloc (stO s gR gA)).alloc (Ji.obj (⟨6, (i : Int), (j : Int), (k : Int), n⟩))).alloc stZ = W := ⟨_, rfl⟩
  obtain ⟨g0, hg0⟩ : ∃ z, w.heap.size = z := ⟨_, rfl⟩
  have hb1 := lvBelow w (stO s gR gA)
  have hb2 := lvBelow (w.alloc (stO s gR gA)) (Ji.obj (⟨6, (i : Int), (j : Int), (k : Int), n⟩))
  have hb3 := lvBelow ((w.alloc (stO s gR gA)).alloc (Ji.obj (⟨6, (i : Int), (j : Int), (k : Int), n⟩))) stZ
  have h1 := keep_b hb3 (keep_b hb2 (heap_alloc_new w (stO s gR gA)))
  have h2 := keep_b hb3 (heap_alloc_new (w.alloc (stO s gR gA)) (Ji.obj (⟨6, (i : Int), (j : Int), (k : Int), n⟩)))
  have h3 := heap_alloc_new ((w.alloc (stO s gR gA)).alloc (Ji.obj (⟨6, (i : Int), (j : Int), (k : Int), n⟩))) stZ
  have hb := hb1.trans ((hb2.trans (hb3.mono hb2.size)).mono hb1.size)
  rw [hW0] at h1 h2 h3 hb
  simp only [World.size_alloc] at h2 h3
  rw [hg0] at h1 h2 h3
  have HMR := Lib.hid (fun i => (show I64 (s.r i) from by
    rcases getD_mem (l := s.R) (i := i.toNat) (d := 0) with h1 | h1
    · exact hrv _ h1
    · show I64 (s.R.getD i.toNat 0); rw [h1]; exact .zero))
  obtain ⟨t0, t1, t2⟩ := hs
  have HG0 : Hid (w.heap.size ≤ g0) := Nat.le_of_eq hg0
  have HBB := Lib.hid hB
  have hk1 : KeepU base w ((W0.setCell ⟨g0, 3, none⟩ (.int .i64 ((s.st : Int) + 1))).setCell ⟨g0, 0, none⟩ (.int .i64 ((s.at_ : Int) + 1))) := ((KeepU.of_below hb hB).box (g := g0) (by omega) hB 3 _).box (g := g0) (by omega) hB 0 _
  have hm0 := (h.on hb).box h1 (by decide) (by decide) 3 (.int .i64 ((s.st : Int) + 1))
  have hs0 := set_j (i := 3) (cs := [.int .i64 (s.at_ : Int), .slice (some ⟨gR, 0, none⟩) s.R.length s.R.length, .slice (some ⟨gA, 0, none⟩) s.A.length s.A.length, .int .i64 (s.st : Int), .int .i64 (s.ce : Int)]) h1 (.int .i64 ((s.st : Int) + 1))
  have hm1 := hm0.box hs0 (by decide) (by decide) 0 (.int .i64 ((s.at_ : Int) + 1))
  have hs1 := set_j (i := 0) (cs := [.int .i64 (s.at_ : Int), .slice (some ⟨gR, 0, none⟩) s.R.length s.R.length, .slice (some ⟨gA, 0, none⟩) s.A.length s.A.length, .int .i64 ((s.st : Int) + 1), .int .i64 (s.ce : Int)]) hs0 (.int .i64 ((s.at_ : Int) + 1))
  have hx1 : ((W0.setCell ⟨g0, 3, none⟩ (.int .i64 ((s.st : Int) + 1))).setCell ⟨g0, 0, none⟩ (.int .i64 ((s.at_ : Int) + 1))).heap[g0 + 1]? = some (Ji.obj (⟨6, (i : Int), (j : Int), (k : Int), n⟩)) := by rw [heap_setCell_other _ _ _ _ (by show g0 + 1 ≠ g0; omega), heap_setCell_other _ _ _ _ (by show g0 + 1 ≠ g0; omega)]; exact h2
  have hz1 : ((W0.setCell ⟨g0, 3, none⟩ (.int .i64 ((s.st : Int) + 1))).setCell ⟨g0, 0, none⟩ (.int .i64 ((s.at_ : Int) + 1))).heap[g0 + 1 + 1]? = some stZ := by rw [heap_setCell_other _ _ _ _ (by show g0 + 1 + 1 ≠ g0; omega), heap_setCell_other _ _ _ _ (by show g0 + 1 + 1 ≠ g0; omega)]; exact h3
  obtain ⟨r0, r1, r2, r3, r4, rf0, rf1, rf2, rf3, rf4⟩ := cells5 h1
  obtain ⟨T, hT⟩ : ∃ T, s.tick = T := ⟨_, rfl⟩
  have HT := Lib.hid hT
  have HS1 : Hid (((W0.setCell ⟨g0, 3, none⟩ (.int .i64 ((s.st : Int) + 1))).setCell ⟨g0, 0, none⟩ (.int .i64 ((s.at_ : Int) + 1))).heap[g0]? = some (stO T gR gA)) := by rw [← hT]; exact hs1
  have HM1 : Hid (MsW ((W0.setCell ⟨g0, 3, none⟩ (.int .i64 ((s.st : Int) + 1))).setCell ⟨g0, 0, none⟩ (.int .i64 ((s.at_ : Int) + 1))) base gR gA T rs) := by rw [← hT]; exact hm1.tick
  have HTS : Hid (T.R = s.R ∧ T.A = s.A ∧ T.at_ = s.at_ + 1 ∧ T.st = s.st + 1 ∧ T.ce = s.ce) := by rw [← hT]; exact ⟨rfl, rfl, rfl, rfl, rfl⟩
  have HK1 := Lib.hid hk1
  have HX1 := Lib.hid hx1
  have HZ1 := Lib.hid hz1
  clear hb1 hb2 hb3 h1 h2 h3 hb h hk1 hm0 hs0 hm1 hs1 hx1 hz1 hT hrv
  go_enter Tryz.func32, Tryz.ntmps32
  go_upto_region 1 with fail
  try rw [hW0]
  try rw [hg0]
  go_upto_region 3 with fail
  clear r0 r1 r2 r3 r4 rf0 rf1 rf2 rf3 rf4 hB
  obtain ⟨W1, hW1⟩ : ∃ W, (W0.setCell ⟨g0, 3, none⟩ (.int .i64 ((s.st : Int) + 1))).setCell ⟨g0, 0, none⟩ (.int .i64 ((s.at_ : Int) + 1)) = W := ⟨_, rfl⟩
  rw [hW1] at HK1 HX1 HZ1 HS1 HM1
  try rw [hW1]
  clear hW1 hW0 hg0
  obtain ⟨r0, r1, r2, r3, r4, rf0, rf1, rf2, rf3, rf4⟩ := cells5 HS1.out
  obtain ⟨⟨y0, y1, y2, y3, y4⟩, _⟩ := box_cellsJ HX1.out
  have hi : i < T.R.length := by rw [HTS.out.1]; exact hi
  have hi0 : (0 : Int) ≤ (i : Int) := by omega
  have hi1 : (i : Int) < (T.R.length : Int) := by omega
  have hj : j < T.A.length := by rw [HTS.out.2.1]; exact hj
  have hj0 : (0 : Int) ≤ (j : Int) := by omega
  have hj1 : (j : Int) < (T.A.length : Int) := by omega
  have hk : k < T.R.length := by rw [HTS.out.1]; exact hk
  have hk0 : (0 : Int) ≤ (k : Int) := by omega
  have hk1 : (k : Int) < (T.R.length : Int) := by omega
  have hmx : Tryz.prog.follows .mixedOrders = true := by kernel_rfl
  have HTR : Hid (∀ q, I64 (T.r q)) := fun q => by have := HMR.out q; unfold Ms.r at *; rw [HTS.out.1]; exact this
  obtain ⟨r, HRR, hrL, hrO, d1, _⟩ := HM1.out.row (i := j) hj
  have hlen : (T.a (j : Int)).length ≤ 1000000 := by
    have : T.a (j : Int) = s.a (j : Int) := by unfold Ms.a; rw [HTS.out.2.1]
    rw [this]; exact hal j
  obtain ⟨m, hm⟩ : ∃ m, (T.a (j : Int)).length = m := ⟨_, rfl⟩
  rw [hm] at d1 hlen
  have HMM := Lib.hid hm
  have HEI : Hid (∀ q u, (T.a (j : Int))[q]? = some u → I64 u) := fun q u hu => by
    have e : T.a (j : Int) = s.a (j : Int) := by unfold Ms.a; rw [HTS.out.2.1]
    rw [e] at hu
    rcases getD_mem (l := s.A) (i := (j : Int).toNat) (d := []) with h1 | h1
    · exact hav _ h1 u (List.mem_of_getElem? hu)
    · have : s.a (j : Int) = [] := h1
      rw [this] at hu; cases hu
  obtain ⟨b0, _⟩ := HM1.out.reg (i := k) hk
  obtain ⟨v, hv⟩ : ∃ v, T.r (k : Int) = v := ⟨_, rfl⟩
  rw [hv] at b0
  have HV := Lib.hid hv
  clear hv hm
  by_cases h0 : v < 0
  · have hl : decide (v < 0) = true := decide_eq_true h0
    have HER : Hid (T.r (k : Int) < 0 ∨ ((T.a (j : Int)).length : Int) ≤ T.r (k : Int)) := by rw [HV.out]; exact .inl h0
    clear h0
    go_upto_region 17 with fail
    clear r0 r1 r2 r3 r4 rf0 rf1 rf2 rf3 rf4 y0 y1 y2 y3 y4
    clear b0 d1 hl
    obtain ⟨r0, r1, r2, r3, r4, rf0, rf1, rf2, rf3, rf4⟩ := cells5 HS1.out
    obtain ⟨q0, q1, q2, q3, q4, qf0, qf1, qf2, qf3, qf4⟩ := cells5 HZ1.out
    have HKE := Lib.hid (KeepU.put5 HK1.out (g := g0 + 1 + 1) (by have := HG0.out; omega) HBB.out (.int .i64 ((T.at_ : Nat) : Int)) (.slice (some ⟨gR, 0, none⟩) T.R.length T.R.length) (.slice (some ⟨gA, 0, none⟩) T.A.length T.A.length) (.int .i64 ((T.st : Nat) : Int)) (.int .i64 ((T.ce : Nat) : Int)))
    obtain ⟨s0, s1, s2, s3, s4, _⟩ := cells5 (five_cells HZ1.out (.int .i64 ((T.at_ : Nat) : Int)) (.slice (some ⟨gR, 0, none⟩) T.R.length T.R.length) (.slice (some ⟨gA, 0, none⟩) T.A.length T.A.length) (.int .i64 ((T.st : Nat) : Int)) (.int .i64 ((T.ce : Nat) : Int)))
    have HSS := Lib.hid (And.intro s0 (And.intro s1 (And.intro s2 (And.intro s3 s4))))
    clear s0 s1 s2 s3 s4
    go_wp2_with fail
    obtain ⟨s0, s1, s2, s3, s4⟩ := HSS.out
    exact bodyPost_ret (v := .tuple #[.agg #[.int .i64 ((T.at_ : Nat) : Int), .slice (some ⟨gR, 0, none⟩) T.R.length T.R.length, .slice (some ⟨gA, 0, none⟩) T.A.length T.A.length, .int .i64 ((T.st : Nat) : Int), .int .i64 ((T.ce : Nat) : Int)], .int .i64 3]) (by simp [results, Tryz.results32, go_sem, s0, s1, s2, s3, s4]) rfl (.inr ⟨3, (by rw [HT.out]; unfold doM; simp only [if_true, if_false, Int.reduceEq]; rw [if_pos HER.out]), (by rw [HT.out]), HKE.out⟩)
  have hl : decide (v < 0) = false := decide_eq_false h0
  by_cases h1 : (m : Int) ≤ v
  · have hl1 : decide ((m : Int) ≤ v) = true := decide_eq_true h1
    have HER : Hid (T.r (k : Int) < 0 ∨ ((T.a (j : Int)).length : Int) ≤ T.r (k : Int)) := by rw [HV.out, HMM.out]; exact .inr h1
    clear h0
    go_upto_region 17 with fail
    clear r0 r1 r2 r3 r4 rf0 rf1 rf2 rf3 rf4 y0 y1 y2 y3 y4
    clear b0 d1 hl hl1
    obtain ⟨r0, r1, r2, r3, r4, rf0, rf1, rf2, rf3, rf4⟩ := cells5 HS1.out
    obtain ⟨q0, q1, q2, q3, q4, qf0, qf1, qf2, qf3, qf4⟩ := cells5 HZ1.out
    have HKE := Lib.hid (KeepU.put5 HK1.out (g := g0 + 1 + 1) (by have := HG0.out; omega) HBB.out (.int .i64 ((T.at_ : Nat) : Int)) (.slice (some ⟨gR, 0, none⟩) T.R.length T.R.length) (.slice (some ⟨gA, 0, none⟩) T.A.length T.A.length) (.int .i64 ((T.st : Nat) : Int)) (.int .i64 ((T.ce : Nat) : Int)))
    obtain ⟨s0, s1, s2, s3, s4, _⟩ := cells5 (five_cells HZ1.out (.int .i64 ((T.at_ : Nat) : Int)) (.slice (some ⟨gR, 0, none⟩) T.R.length T.R.length) (.slice (some ⟨gA, 0, none⟩) T.A.length T.A.length) (.int .i64 ((T.st : Nat) : Int)) (.int .i64 ((T.ce : Nat) : Int)))
    have HSS := Lib.hid (And.intro s0 (And.intro s1 (And.intro s2 (And.intro s3 s4))))
    clear s0 s1 s2 s3 s4
    go_wp2_with fail
    obtain ⟨s0, s1, s2, s3, s4⟩ := HSS.out
    exact bodyPost_ret (v := .tuple #[.agg #[.int .i64 ((T.at_ : Nat) : Int), .slice (some ⟨gR, 0, none⟩) T.R.length T.R.length, .slice (some ⟨gA, 0, none⟩) T.A.length T.A.length, .int .i64 ((T.st : Nat) : Int), .int .i64 ((T.ce : Nat) : Int)], .int .i64 3]) (by simp [results, Tryz.results32, go_sem, s0, s1, s2, s3, s4]) rfl (.inr ⟨3, (by rw [HT.out]; unfold doM; simp only [if_true, if_false, Int.reduceEq]; rw [if_pos HER.out]), (by rw [HT.out]), HKE.out⟩)
  have hl1 : decide ((m : Int) ≤ v) = false := decide_eq_false h1
  have HNE : Hid (¬(T.r (k : Int) < 0 ∨ ((T.a (j : Int)).length : Int) ≤ T.r (k : Int))) := by rw [HV.out, HMM.out]; exact fun h => h.elim h0 h1
  obtain ⟨q, rfl⟩ : ∃ q : Nat, v = (q : Int) := ⟨v.toNat, by omega⟩
  have hqm : q < m := by omega
  have q0 : (0 : Int) ≤ (q : Int) := by omega
  have q1 : (q : Int) < (m : Int) := by omega
  obtain ⟨el, hel⟩ : ∃ e, r.L[q]? = some e := ⟨_, List.getElem?_eq_getElem (by rw [hrL, HMM.out]; exact hqm)⟩
  have HEL := Lib.hid hel
  have hrA : ∃ gr, r.A = some ⟨gr, 0, none⟩ := by
    obtain ⟨gr, e, _⟩ := hrO.some_ (by rw [hrL, HMM.out]; omega)
    exact ⟨gr, e⟩
  obtain ⟨gr, hgr⟩ := hrA
  have HGR := Lib.hid hgr
  rw [hgr] at hrO d1
  obtain ⟨e0, ef⟩ := hrO.cell_ hel
  have HRO := Lib.hid hrO
  have HRL := Lib.hid hrL
  clear hel hrO hrL hgr h0 h1
  go_upto_region 18 with fail
  have xr1 := cell_regrown r1
  have xr2 := cell_regrown r2
  have xy1 := cell_regrown y1
  have xy2 := cell_regrown y2
  have xd1 := cell_regrown d1
  have xe0 := cell_regrown e0
  refine wp_region_below_tail 13 hmx (by kernel_rfl) ?_
  simp only [List.take_succ_cons, List.take_zero, List.drop_succ_cons, List.drop_zero]
  repeat (quiet_step (fail))
  refine wpQuiet_nil ?_
  intro _ hw'
  obtain ⟨⟨dq, osq⟩, hw''⟩ := hw'
  subst hw''
  obtain ⟨W9, hW9⟩ : ∃ W, grow (redrawn W1 dq) osq = W := ⟨_, rfl⟩
  have hb9 := below_regrown W1 dq osq
  rw [hW9] at hb9 ⊢
  have HM9 := Lib.hid (HM1.out.on hb9)
  have HS9 := Lib.hid (keep_b hb9 HS1.out)
  have HZ9 := Lib.hid (keep_b hb9 HZ1.out)
  have HK9 := Lib.hid (HK1.out.below HBB.out hb9)
  clear xr1 xr2 xy1 xy2 xd1 xe0 r1 r2 y1 y2 d1 e0 hW9 hb9
  obtain ⟨c0, cf⟩ := HM9.out.reg (i := i) hi
  obtain ⟨hm2, hk2⟩ := HM9.out.setR i (v := el) (HEI.out q el (by rw [← HRL.out]; exact HEL.out))
  have HM2 := Lib.hid hm2
  have HK2 := Lib.hid hk2
  clear hm2 hk2
  go_upto_region 39 with fail
  obtain ⟨W2, hW2⟩ : ∃ W, W9.setCell ⟨gR, i, none⟩ (.int .i64 (el)) = W := ⟨_, rfl⟩
  rw [hW2] at HM2 HK2
  have HS2 : Hid (W2.heap[g0]? = some (stO T gR gA)) := HK2.out.blk _ _ _ HS9.out (by decide) (by decide)
  have HZ2 : Hid (W2.heap[g0 + 1 + 1]? = some stZ) := HK2.out.blk _ _ _ HZ9.out (by decide) (by decide)
  have HKK := Lib.hid (HK9.out.trans HK2.out)
  try rw [hW2]
  clear hW2
  clear c0 cf
  clear r0 r3 r4 rf0 rf1 rf2 rf3 rf4 y0 y3 y4 b0 ef hl hl1
  obtain ⟨r0, r1, r2, r3, r4, rf0, rf1, rf2, rf3, rf4⟩ := cells5 HS2.out
  obtain ⟨q0, q1, q2, q3, q4, qf0, qf1, qf2, qf3, qf4⟩ := cells5 HZ2.out
  have HKE := Lib.hid (KeepU.put5 HKK.out (g := g0 + 1 + 1) (by have := HG0.out; omega) HBB.out (.int .i64 ((T.at_ : Nat) : Int)) (.slice (some ⟨gR, 0, none⟩) T.R.length T.R.length) (.slice (some ⟨gA, 0, none⟩) T.A.length T.A.length) (.int .i64 ((T.st : Nat) : Int)) (.int .i64 ((T.ce : Nat) : Int)))
  obtain ⟨s0, s1, s2, s3, s4, _⟩ := cells5 (five_cells HZ2.out (.int .i64 ((T.at_ : Nat) : Int)) (.slice (some ⟨gR, 0, none⟩) T.R.length T.R.length) (.slice (some ⟨gA, 0, none⟩) T.A.length T.A.length) (.int .i64 ((T.st : Nat) : Int)) (.int .i64 ((T.ce : Nat) : Int)))
  have HSS := Lib.hid (And.intro s0 (And.intro s1 (And.intro s2 (And.intro s3 s4))))
  have HME := Lib.hid (MsW.put5 HM2.out HZ2.out (.int .i64 ((T.at_ : Nat) : Int)) (.slice (some ⟨gR, 0, none⟩) T.R.length T.R.length) (.slice (some ⟨gA, 0, none⟩) T.A.length T.A.length) (.int .i64 ((T.st : Nat) : Int)) (.int .i64 ((T.ce : Nat) : Int)))
  clear s0 s1 s2 s3 s4
  go_wp2_with fail
  obtain ⟨s0, s1, s2, s3, s4⟩ := HSS.out
  exact bodyPost_ret (v := .tuple #[.agg #[.int .i64 ((T.at_ : Nat) : Int), .slice (some ⟨gR, 0, none⟩) T.R.length T.R.length, .slice (some ⟨gA, 0, none⟩) T.A.length T.A.length, .int .i64 ((T.st : Nat) : Int), .int .i64 ((T.ce : Nat) : Int)], .int .i64 0]) (by simp [results, Tryz.results32, go_sem, s0, s1, s2, s3, s4]) rfl (.inl ⟨T.put (i : Int) el, rs, (by rw [HT.out]; unfold doM; simp only [if_true, if_false, Int.reduceEq]; rw [if_neg HNE.out, HV.out, Int.toNat_natCast, ← HRL.out, List.getD_eq_getElem?_getD, HEL.out]; rfl), (by simp [stV, Ms.put]), HME.out, HKE.out⟩)
set_option maxRecDepth 100000 in
set_option maxHeartbeats 8000000 in
theorem refStep_7 (n : Int) (i j k : Nat) (cells : Int) (s : Ms) (rs : List RowU) (base gR gA : Nat) (w : World) (h : MsW w base gR gA s rs) (hB : base ≤ w.heap.size) (hs : s.at_ ≤ 1000000 ∧ s.st ≤ 1000000 ∧ s.ce ≤ 1000000) (hrv : ∀ v ∈ s.R, I64 v) (hi : i < s.A.length) (hj : j < s.R.length) (hk : k < s.R.length) (hal : ∀ i : Nat, (s.a (i : Int)).length ≤ 1000000) (_hav : ∀ l ∈ s.A, ∀ v ∈ l, I64 v) :
    Calls Tryz.prog 32 #[stV s gR gA, Ji.val (⟨7, (i : Int), (j : Int), (k : Int), n⟩), .int .i64 cells] w (StepP base gR gA s (⟨7, (i : Int), (j : Int), (k : Int), n⟩) cells w) := by
  obtain ⟨W0, hW0⟩ : ∃ W, ((w.alloc (stO s gR gA)).alloc (Ji.obj (⟨7, (i : Int), (j : Int), (k : Int), n⟩))).alloc stZ = W := ⟨_, rfl⟩
  obtain ⟨g0, hg0⟩ : ∃ z, w.heap.size = z := ⟨_, rfl⟩
  have hb1 := lvBelow w (stO s gR gA)
  have hb2 := lvBelow (w.alloc (stO s gR gA)) (Ji.obj (⟨7, (i : Int), (j : Int), (k : Int), n⟩))
  have hb3 := lvBelow ((w.alloc (stO s gR gA)).alloc (Ji.obj (⟨7, (i : Int), (j : Int), (k : Int), n⟩))) stZ
  have h1 := keep_b hb3 (keep_b hb2 (heap_alloc_new w (stO s gR gA)))
  have h2 := keep_b hb3 (heap_alloc_new (w.alloc (stO s gR gA)) (Ji.obj (⟨7, (i : Int), (j : Int), (k : Int), n⟩)))
  have h3 := heap_alloc_new ((w.alloc (stO s gR gA)).alloc (Ji.obj (⟨7, (i : Int), (j : Int), (k : Int), n⟩))) stZ
  have hb := hb1.trans ((hb2.trans (hb3.mono hb2.size)).mono hb1.size)
  rw [hW0] at h1 h2 h3 hb
  simp only [World.size_alloc] at h2 h3
  rw [hg0] at h1 h2 h3
  have HMR := Lib.hid (fun i => (show I64 (s.r i) from by
    rcases getD_mem (l := s.R) (i := i.toNat) (d := 0) with h1 | h1
    · exact hrv _ h1
    · show I64 (s.R.getD i.toNat 0); rw [h1]; exact .zero))
  obtain ⟨t0, t1, t2⟩ := hs
  have HG0 : Hid (w.heap.size ≤ g0) := Nat.le_of_eq hg0
  have HBB := Lib.hid hB
  have hk1 : KeepU base w ((W0.setCell ⟨g0, 3, none⟩ (.int .i64 ((s.st : Int) + 1))).setCell ⟨g0, 0, none⟩ (.int .i64 ((s.at_ : Int) + 1))) := ((KeepU.of_below hb hB).box (g := g0) (by omega) hB 3 _).box (g := g0) (by omega) hB 0 _
  have hm0 := (h.on hb).box h1 (by decide) (by decide) 3 (.int .i64 ((s.st : Int) + 1))
  have hs0 := set_j (i := 3) (cs := [.int .i64 (s.at_ : Int), .slice (some ⟨gR, 0, none⟩) s.R.length s.R.length, .slice (some ⟨gA, 0, none⟩) s.A.length s.A.length, .int .i64 (s.st : Int), .int .i64 (s.ce : Int)]) h1 (.int .i64 ((s.st : Int) + 1))
  have hm1 := hm0.box hs0 (by decide) (by decide) 0 (.int .i64 ((s.at_ : Int) + 1))
  have hs1 := set_j (i := 0) (cs := [.int .i64 (s.at_ : Int), .slice (some ⟨gR, 0, none⟩) s.R.length s.R.length, .slice (some ⟨gA, 0, none⟩) s.A.length s.A.length, .int .i64 ((s.st : Int) + 1), .int .i64 (s.ce : Int)]) hs0 (.int .i64 ((s.at_ : Int) + 1))
  have hx1 : ((W0.setCell ⟨g0, 3, none⟩ (.int .i64 ((s.st : Int) + 1))).setCell ⟨g0, 0, none⟩ (.int .i64 ((s.at_ : Int) + 1))).heap[g0 + 1]? = some (Ji.obj (⟨7, (i : Int), (j : Int), (k : Int), n⟩)) := by rw [heap_setCell_other _ _ _ _ (by show g0 + 1 ≠ g0; omega), heap_setCell_other _ _ _ _ (by show g0 + 1 ≠ g0; omega)]; exact h2
  have hz1 : ((W0.setCell ⟨g0, 3, none⟩ (.int .i64 ((s.st : Int) + 1))).setCell ⟨g0, 0, none⟩ (.int .i64 ((s.at_ : Int) + 1))).heap[g0 + 1 + 1]? = some stZ := by rw [heap_setCell_other _ _ _ _ (by show g0 + 1 + 1 ≠ g0; omega), heap_setCell_other _ _ _ _ (by show g0 + 1 + 1 ≠ g0; omega)]; exact h3
  obtain ⟨r0, r1, r2, r3, r4, rf0, rf1, rf2, rf3, rf4⟩ := cells5 h1
  obtain ⟨T, hT⟩ : ∃ T, s.tick = T := ⟨_, rfl⟩
  have HT := Lib.hid hT
  have HS1 : Hid (((W0.setCell ⟨g0, 3, none⟩ (.int .i64 ((s.st : Int) + 1))).setCell ⟨g0, 0, none⟩ (.int .i64 ((s.at_ : Int) + 1))).heap[g0]? = some (stO T gR gA)) := by rw [← hT]; exact hs1
  have HM1 : Hid (MsW ((W0.setCell ⟨g0, 3, none⟩ (.int .i64 ((s.st : Int) + 1))).setCell ⟨g0, 0, none⟩ (.int .i64 ((s.at_ : Int) + 1))) base gR gA T rs) := by rw [← hT]; exact hm1.tick
  have HTS : Hid (T.R = s.R ∧ T.A = s.A ∧ T.at_ = s.at_ + 1 ∧ T.st = s.st + 1 ∧ T.ce = s.ce) := by rw [← hT]; exact ⟨rfl, rfl, rfl, rfl, rfl⟩
  have HK1 := Lib.hid hk1
  have HX1 := Lib.hid hx1
  have HZ1 := Lib.hid hz1
  clear hb1 hb2 hb3 h1 h2 h3 hb h hk1 hm0 hs0 hm1 hs1 hx1 hz1 hT hrv
  go_enter Tryz.func32, Tryz.ntmps32
  go_upto_region 1 with fail
  try rw [hW0]
  try rw [hg0]
  go_upto_region 3 with fail
  clear r0 r1 r2 r3 r4 rf0 rf1 rf2 rf3 rf4 hB
  obtain ⟨W1, hW1⟩ : ∃ W, (W0.setCell ⟨g0, 3, none⟩ (.int .i64 ((s.st : Int) + 1))).setCell ⟨g0, 0, none⟩ (.int .i64 ((s.at_ : Int) + 1)) = W := ⟨_, rfl⟩
  rw [hW1] at HK1 HX1 HZ1 HS1 HM1
  try rw [hW1]
  clear hW1 hW0 hg0
  obtain ⟨r0, r1, r2, r3, r4, rf0, rf1, rf2, rf3, rf4⟩ := cells5 HS1.out
  obtain ⟨⟨y0, y1, y2, y3, y4⟩, _⟩ := box_cellsJ HX1.out
  have hi : i < T.A.length := by rw [HTS.out.2.1]; exact hi
  have hi0 : (0 : Int) ≤ (i : Int) := by omega
  have hi1 : (i : Int) < (T.A.length : Int) := by omega
  have hj : j < T.R.length := by rw [HTS.out.1]; exact hj
  have hj0 : (0 : Int) ≤ (j : Int) := by omega
  have hj1 : (j : Int) < (T.R.length : Int) := by omega
  have hk : k < T.R.length := by rw [HTS.out.1]; exact hk
  have hk0 : (0 : Int) ≤ (k : Int) := by omega
  have hk1 : (k : Int) < (T.R.length : Int) := by omega
  have hmx : Tryz.prog.follows .mixedOrders = true := by kernel_rfl
  have HTR : Hid (∀ q, I64 (T.r q)) := fun q => by have := HMR.out q; unfold Ms.r at *; rw [HTS.out.1]; exact this
  obtain ⟨r, HRR, hrL, hrO, d1, _⟩ := HM1.out.row (i := i) hi
  have hlen : (T.a (i : Int)).length ≤ 1000000 := by
    have : T.a (i : Int) = s.a (i : Int) := by unfold Ms.a; rw [HTS.out.2.1]
    rw [this]; exact hal i
  obtain ⟨m, hm⟩ : ∃ m, (T.a (i : Int)).length = m := ⟨_, rfl⟩
  rw [hm] at d1 hlen
  have HMM := Lib.hid hm
  obtain ⟨b0, _⟩ := HM1.out.reg (i := j) hj
  obtain ⟨v, hv⟩ : ∃ v, T.r (j : Int) = v := ⟨_, rfl⟩
  rw [hv] at b0
  have HV := Lib.hid hv
  clear hv hm
  by_cases h0 : v < 0
  · have hl : decide (v < 0) = true := decide_eq_true h0
    have HER : Hid (T.r (j : Int) < 0 ∨ ((T.a (i : Int)).length : Int) ≤ T.r (j : Int)) := by rw [HV.out]; exact .inl h0
    clear h0
    go_upto_region 22 with fail
    clear r0 r1 r2 r3 r4 rf0 rf1 rf2 rf3 rf4 y0 y1 y2 y3 y4
    clear b0 d1 hl
    obtain ⟨r0, r1, r2, r3, r4, rf0, rf1, rf2, rf3, rf4⟩ := cells5 HS1.out
    obtain ⟨q0, q1, q2, q3, q4, qf0, qf1, qf2, qf3, qf4⟩ := cells5 HZ1.out
    have HKE := Lib.hid (KeepU.put5 HK1.out (g := g0 + 1 + 1) (by have := HG0.out; omega) HBB.out (.int .i64 ((T.at_ : Nat) : Int)) (.slice (some ⟨gR, 0, none⟩) T.R.length T.R.length) (.slice (some ⟨gA, 0, none⟩) T.A.length T.A.length) (.int .i64 ((T.st : Nat) : Int)) (.int .i64 ((T.ce : Nat) : Int)))
    obtain ⟨s0, s1, s2, s3, s4, _⟩ := cells5 (five_cells HZ1.out (.int .i64 ((T.at_ : Nat) : Int)) (.slice (some ⟨gR, 0, none⟩) T.R.length T.R.length) (.slice (some ⟨gA, 0, none⟩) T.A.length T.A.length) (.int .i64 ((T.st : Nat) : Int)) (.int .i64 ((T.ce : Nat) : Int)))
    have HSS := Lib.hid (And.intro s0 (And.intro s1 (And.intro s2 (And.intro s3 s4))))
    clear s0 s1 s2 s3 s4
    go_wp2_with fail
    obtain ⟨s0, s1, s2, s3, s4⟩ := HSS.out
    exact bodyPost_ret (v := .tuple #[.agg #[.int .i64 ((T.at_ : Nat) : Int), .slice (some ⟨gR, 0, none⟩) T.R.length T.R.length, .slice (some ⟨gA, 0, none⟩) T.A.length T.A.length, .int .i64 ((T.st : Nat) : Int), .int .i64 ((T.ce : Nat) : Int)], .int .i64 3]) (by simp [results, Tryz.results32, go_sem, s0, s1, s2, s3, s4]) rfl (.inr ⟨3, (by rw [HT.out]; unfold doM; simp only [if_true, if_false, Int.reduceEq]; rw [if_pos HER.out]), (by rw [HT.out]), HKE.out⟩)
  have hl : decide (v < 0) = false := decide_eq_false h0
  by_cases h1 : (m : Int) ≤ v
  · have hl1 : decide ((m : Int) ≤ v) = true := decide_eq_true h1
    have HER : Hid (T.r (j : Int) < 0 ∨ ((T.a (i : Int)).length : Int) ≤ T.r (j : Int)) := by rw [HV.out, HMM.out]; exact .inr h1
    clear h0
    go_upto_region 22 with fail
    clear r0 r1 r2 r3 r4 rf0 rf1 rf2 rf3 rf4 y0 y1 y2 y3 y4
    clear b0 d1 hl hl1
    obtain ⟨r0, r1, r2, r3, r4, rf0, rf1, rf2, rf3, rf4⟩ := cells5 HS1.out
    obtain ⟨q0, q1, q2, q3, q4, qf0, qf1, qf2, qf3, qf4⟩ := cells5 HZ1.out
    have HKE := Lib.hid (KeepU.put5 HK1.out (g := g0 + 1 + 1) (by have := HG0.out; omega) HBB.out (.int .i64 ((T.at_ : Nat) : Int)) (.slice (some ⟨gR, 0, none⟩) T.R.length T.R.length) (.slice (some ⟨gA, 0, none⟩) T.A.length T.A.length) (.int .i64 ((T.st : Nat) : Int)) (.int .i64 ((T.ce : Nat) : Int)))
    obtain ⟨s0, s1, s2, s3, s4, _⟩ := cells5 (five_cells HZ1.out (.int .i64 ((T.at_ : Nat) : Int)) (.slice (some ⟨gR, 0, none⟩) T.R.length T.R.length) (.slice (some ⟨gA, 0, none⟩) T.A.length T.A.length) (.int .i64 ((T.st : Nat) : Int)) (.int .i64 ((T.ce : Nat) : Int)))
    have HSS := Lib.hid (And.intro s0 (And.intro s1 (And.intro s2 (And.intro s3 s4))))
    clear s0 s1 s2 s3 s4
    go_wp2_with fail
    obtain ⟨s0, s1, s2, s3, s4⟩ := HSS.out
    exact bodyPost_ret (v := .tuple #[.agg #[.int .i64 ((T.at_ : Nat) : Int), .slice (some ⟨gR, 0, none⟩) T.R.length T.R.length, .slice (some ⟨gA, 0, none⟩) T.A.length T.A.length, .int .i64 ((T.st : Nat) : Int), .int .i64 ((T.ce : Nat) : Int)], .int .i64 3]) (by simp [results, Tryz.results32, go_sem, s0, s1, s2, s3, s4]) rfl (.inr ⟨3, (by rw [HT.out]; unfold doM; simp only [if_true, if_false, Int.reduceEq]; rw [if_pos HER.out]), (by rw [HT.out]), HKE.out⟩)
  have hl1 : decide ((m : Int) ≤ v) = false := decide_eq_false h1
  have HNE : Hid (¬(T.r (j : Int) < 0 ∨ ((T.a (i : Int)).length : Int) ≤ T.r (j : Int))) := by rw [HV.out, HMM.out]; exact fun h => h.elim h0 h1
  obtain ⟨q, rfl⟩ : ∃ q : Nat, v = (q : Int) := ⟨v.toNat, by omega⟩
  have hqm : q < m := by omega
  have q0 : (0 : Int) ≤ (q : Int) := by omega
  have q1 : (q : Int) < (m : Int) := by omega
  obtain ⟨el, hel⟩ : ∃ e, r.L[q]? = some e := ⟨_, List.getElem?_eq_getElem (by rw [hrL, HMM.out]; exact hqm)⟩
  have HEL := Lib.hid hel
  have hrA : ∃ gr, r.A = some ⟨gr, 0, none⟩ := by
    obtain ⟨gr, e, _⟩ := hrO.some_ (by rw [hrL, HMM.out]; omega)
    exact ⟨gr, e⟩
  obtain ⟨gr, hgr⟩ := hrA
  have HGR := Lib.hid hgr
  rw [hgr] at hrO d1
  obtain ⟨e0, ef⟩ := hrO.cell_ hel
  have HRO := Lib.hid hrO
  have HRL := Lib.hid hrL
  clear hel hrO hrL hgr h0 h1
  go_upto_region 23 with fail
  obtain ⟨f0, _⟩ := HM1.out.reg (i := k) hk
  have xr1 := cell_regrown r1
  have xr2 := cell_regrown r2
  have xy1 := cell_regrown y1
  have xy3 := cell_regrown y3
  have xd1 := cell_regrown d1
  have xf0 := cell_regrown f0
  refine wp_region_below_tail 13 hmx (by kernel_rfl) ?_
  simp only [List.take_succ_cons, List.take_zero, List.drop_succ_cons, List.drop_zero]
  repeat (quiet_step (fail))
  refine wpQuiet_nil ?_
  intro _ hw'
  obtain ⟨⟨dq, osq⟩, hw''⟩ := hw'
  subst hw''
  obtain ⟨W9, hW9⟩ : ∃ W, grow (redrawn W1 dq) osq = W := ⟨_, rfl⟩
  have hb9 := below_regrown W1 dq osq
  rw [hW9] at hb9 ⊢
  have HM9 := Lib.hid (HM1.out.on hb9)
  have HB9 := Lib.hid hb9
  have HS9 := Lib.hid (keep_b hb9 HS1.out)
  have HZ9 := Lib.hid (keep_b hb9 HZ1.out)
  have HK9 := Lib.hid (HK1.out.below HBB.out hb9)
  clear xr1 xr2 xy1 xy3 xd1 xf0 r1 r2 y1 y3 d1 f0 hW9 hb9
  obtain ⟨gr2, hgr2, hfz, hm2, hk2⟩ := HM9.out.setA (i := i) (k := q) (r := r) (v := T.r (k : Int)) HRR.out (by rw [HRL.out, HMM.out]; exact hqm) (HTR.out _)
  rw [HGR.out] at hgr2
  injection hgr2 with hgr2; injection hgr2 with hgr2
  subst hgr2
  obtain ⟨z0, _⟩ := (HRO.out.below HB9.out (Nat.le_refl _)).cell_ HEL.out
  have HM2 := Lib.hid hm2
  have HK2 := Lib.hid hk2
  clear hm2 hk2 e0 ef HB9
  go_upto_region 39 with fail
  obtain ⟨W2, hW2⟩ : ∃ W, W9.setCell ⟨gr, q, none⟩ (.int .i64 (T.r (k : Int))) = W := ⟨_, rfl⟩
  rw [hW2] at HM2 HK2
  have HS2 : Hid (W2.heap[g0]? = some (stO T gR gA)) := HK2.out.blk _ _ _ HS9.out (by decide) (by decide)
  have HZ2 : Hid (W2.heap[g0 + 1 + 1]? = some stZ) := HK2.out.blk _ _ _ HZ9.out (by decide) (by decide)
  have HKK := Lib.hid (HK9.out.trans HK2.out)
  try rw [hW2]
  clear hW2
  clear z0 hfz
  clear r0 r3 r4 rf0 rf1 rf2 rf3 rf4 y0 y2 y4 b0 hl hl1
  obtain ⟨r0, r1, r2, r3, r4, rf0, rf1, rf2, rf3, rf4⟩ := cells5 HS2.out
  obtain ⟨q0, q1, q2, q3, q4, qf0, qf1, qf2, qf3, qf4⟩ := cells5 HZ2.out
  have HKE := Lib.hid (KeepU.put5 HKK.out (g := g0 + 1 + 1) (by have := HG0.out; omega) HBB.out (.int .i64 ((T.at_ : Nat) : Int)) (.slice (some ⟨gR, 0, none⟩) T.R.length T.R.length) (.slice (some ⟨gA, 0, none⟩) T.A.length T.A.length) (.int .i64 ((T.st : Nat) : Int)) (.int .i64 ((T.ce : Nat) : Int)))
  obtain ⟨s0, s1, s2, s3, s4, _⟩ := cells5 (five_cells HZ2.out (.int .i64 ((T.at_ : Nat) : Int)) (.slice (some ⟨gR, 0, none⟩) T.R.length T.R.length) (.slice (some ⟨gA, 0, none⟩) T.A.length T.A.length) (.int .i64 ((T.st : Nat) : Int)) (.int .i64 ((T.ce : Nat) : Int)))
  have HSS := Lib.hid (And.intro s0 (And.intro s1 (And.intro s2 (And.intro s3 s4))))
  have HME := Lib.hid (MsW.put5 HM2.out HZ2.out (.int .i64 ((T.at_ : Nat) : Int)) (.slice (some ⟨gR, 0, none⟩) T.R.length T.R.length) (.slice (some ⟨gA, 0, none⟩) T.A.length T.A.length) (.int .i64 ((T.st : Nat) : Int)) (.int .i64 ((T.ce : Nat) : Int)))
  clear s0 s1 s2 s3 s4
  go_wp2_with fail
  obtain ⟨s0, s1, s2, s3, s4⟩ := HSS.out
  exact bodyPost_ret (v := .tuple #[.agg #[.int .i64 ((T.at_ : Nat) : Int), .slice (some ⟨gR, 0, none⟩) T.R.length T.R.length, .slice (some ⟨gA, 0, none⟩) T.A.length T.A.length, .int .i64 ((T.st : Nat) : Int), .int .i64 ((T.ce : Nat) : Int)], .int .i64 0]) (by simp [results, Tryz.results32, go_sem, s0, s1, s2, s3, s4]) rfl (.inl ⟨T.arr (i : Int) ((T.a (i : Int)).set q (T.r (k : Int))), _, (by rw [HT.out]; unfold doM; simp only [if_true, if_false, Int.reduceEq]; rw [if_neg HNE.out, HV.out, Int.toNat_natCast]), (by simp [stV, Ms.arr]), HME.out, HKE.out⟩)
end Go.Proofs.YtgkngimeokhhgaaGreatDoor
/- A region of code that draws its order of evaluation, by an invariant: what holds whichever operations have come up. Nothing is claimed of the program here. -/
namespace Go.Proofs.YtgkngimeokhhgaaGreatDoor
open Go.RowKit

section
variable {P : Program} {ops : Array Oper} {md : Region.Mode} {Q : Exit → Act → World → Prop}
def unlN (n : Nat) (listed : Array Bool) : Nat := (List.range n).countP fun i => listed.getD i true == false
theorem unlN_set {n i : Nat} {listed : Array Bool} (hi : listed.getD i true = false) (hn : i < n) : unlN n (listed.setIfInBounds i true) + 1 ≤ unlN n listed := by
  unfold unlN
  have hne : ∀ j, j ≠ i → (listed.setIfInBounds i true).getD j true = listed.getD j true := fun j hj => getD_set_ne true (Ne.symm hj)
  have hsz : i < listed.size := by
    rcases Nat.lt_or_ge i listed.size with h | h
    · exact h
    · simp [Array.getElem?_eq_none h] at hi
  have heq : (listed.setIfInBounds i true).getD i true = true := by simp [hsz]
  have key : ∀ m, (List.range m).countP (fun j => (listed.setIfInBounds i true).getD j true == false) + (if i < m then 1 else 0) = (List.range m).countP (fun j => listed.getD j true == false) := by
    intro m
    induction m with
    | zero => simp
    | succ m ih =>
      rw [List.range_succ, List.countP_append, List.countP_append]
      simp only [List.countP_singleton]
      by_cases hm : m = i
      · subst hm
        have e1 : ¬ m < m := Nat.lt_irrefl m
        have e2 : m < m + 1 := Nat.lt_succ_self m
        rw [heq, hi]
        simp only [e1, e2, if_true, if_false] at ih ⊢
        simp at ih ⊢
        omega
      · rw [hne m hm]
        by_cases hl : i < m
        · have e2 : i < m + 1 := by omega
          simp only [hl, e2, if_true] at ih ⊢
          omega
        · have e2 : ¬ i < m + 1 := by omega
          simp only [hl, e2, if_false] at ih ⊢
          omega
  have := key n
  rw [if_pos hn] at this
  omega
theorem wpAny_inv {I : Array Bool → Act → World → Prop} (hend : ∀ listed a w, I listed a w → (∀ i, i < ops.size → listed.getD i false = true) → Q .normal a w)
    (hacyc : ∀ listed : Array Bool, Region.ready md ops listed = [] → ∀ i, i < ops.size → listed.getD i true = true)
    (hstep : ∀ listed a w i, I listed a w → i ∈ Region.ready md ops listed → wpOp P ops Q i (fun a' w' => I (listed.setIfInBounds i true) a' w') a w) (fuel : Nat) :
    ∀ (listed : Array Bool) (a : Act) (w : World), listed.size = ops.size → unlN ops.size listed ≤ fuel → I listed a w → wpAny P md ops Q fuel listed a w := by
  have hin : ∀ listed : Array Bool, listed.size = ops.size → Region.ready md ops listed = [] → ∀ i, i < ops.size → listed.getD i false = true := fun listed hs hr i hi => by
    have h1 := hacyc listed hr i hi
    have h2 : i < listed.size := by omega
    simp [h2] at h1 ⊢
    exact h1
  induction fuel with
  | zero =>
    intro listed a w hs hf hI
    have hr : Region.ready md ops listed = [] := by
      rw [List.eq_nil_iff_forall_not_mem]
      intro i hi
      obtain ⟨hun, o, ho, _⟩ := mem_ready.1 hi
      have := unlN_set hun (Array.getElem?_eq_some_iff.1 ho).1
      omega
    exact ⟨hr, hend _ _ _ hI (hin _ hs hr)⟩
  | succ f ih =>
    intro listed a w hs hf hI
    refine ⟨fun hr => hend _ _ _ hI (hin _ hs hr), fun i hi => ?_⟩
    obtain ⟨hun, o, ho, _⟩ := mem_ready.1 hi
    have := unlN_set hun (Array.getElem?_eq_some_iff.1 ho).1
    exact wpOp_mono (fun a' w' h' => ih _ a' w' (by simpa using hs) (by omega) h') (hstep _ _ _ _ hI hi)
/-- each operation waits for such ahead of it alone -/
def upB (ops : Array Oper) : Bool := (List.range ops.size).all fun i => match ops[i]? with
  | some o => o.after.all fun e => decide (e.on < i)
  | none => true
theorem acyc_of (h : upB ops = true) (listed : Array Bool) (hr : Region.ready md ops listed = []) : ∀ i, i < ops.size → listed.getD i true = true := by
  intro i
  induction i using Nat.strongRecOn with
  | _ i ih =>
    intro hi
    cases hl : listed.getD i true with
    | true => rfl
    | false =>
      exfalso
      obtain ⟨o, ho⟩ : ∃ o, ops[i]? = some o := ⟨_, Array.getElem?_eq_getElem hi⟩
      have h1 := List.all_eq_true.1 h i (List.mem_range.2 hi)
      rw [ho] at h1
      simp only at h1
      have hm : i ∈ Region.ready md ops listed := by
        refine mem_ready.2 ⟨hl, o, ho, fun e he _ => ?_⟩
        have h2 := Array.all_eq_true'.1 h1 e he
        have hlt : e.on < i := by simpa using h2
        have h3 := ih e.on hlt (by omega)
        -- listed up to i, as i is not listed
        have hs : i < listed.size := by
          rcases Nat.lt_or_ge i listed.size with h | h
          · exact h
          · simp [Array.getElem?_eq_none h] at hl
        have hs2 : e.on < listed.size := by omega
        simp [hs2] at h3 ⊢
        exact h3
      rw [hr] at hm
      cases hm
theorem wp_region_inv {id : Nat} {a : Act} {w : World} {l : List Oper} (I : Act → Array Bool → Act → World → Prop) (hm : P.follows .mixedOrders = true) (hup : upB l.toArray = true)
    (h0 : I a (Array.replicate l.toArray.size false) a w.drew) (hend : ∀ listed a' w', I a listed a' w' → (∀ i, i < l.toArray.size → listed.getD i false = true) → Q .normal a' w')
    (hstep : ∀ listed a' w' i, I a listed a' w' → i ∈ Region.ready .any l.toArray listed → wpOp P l.toArray Q i (fun a'' w'' => I a (listed.setIfInBounds i true) a'' w'') a' w') : (Code.region id l.toArray true).wp P Q a w := by
  refine wp_region_any hm (wpAny_inv hend (fun listed hr => acyc_of hup listed hr) hstep _ _ _ _ (by simp) ?_ h0)
  unfold unlN
  exact Nat.le_trans List.countP_le_length (by simp)
/-- one operation, what follows behind a variable -/
theorem wpOp_of {i : Nat} {a : Act} {w : World} {o : Oper} {I : Act → World → Prop} (ho : ops[i]? = some o) (h : ∀ K : Act → World → Prop, (∀ a w, I a w → K a w) → if Region.wanted o (yielded ops a.tmps) = true then Oper.wp P o a w K Q else K (a.put o.dst undef) w) : wpOp P ops Q i I a w := by
  have h := h I (fun _ _ h => h)
  unfold wpOp
  rw [ho]
  simp only
  split
  · next hw => rw [if_pos hw] at h; exact .inl h
  · next hw => rw [if_neg hw] at h; exact h
/-- an operation that comes up has behind it what it waits for -/
theorem ready_at {i : Nat} {listed : Array Bool} {o : Oper} (hi : i ∈ Region.ready md ops listed) (ho : ops[i]? = some o) (k : Nat) (hk : o.after.toList.any (fun e => Region.binds md e && e.on == k) = true) : listed.getD k false = true := by
  obtain ⟨_, o', ho', hall⟩ := mem_ready.1 hi
  rw [ho] at ho'
  cases ho'
  obtain ⟨e, he, hb⟩ := List.any_eq_true.1 hk
  simp only [Bool.and_eq_true, beq_iff_eq] at hb
  rw [← hb.2]
  exact hall e (Array.mem_toList_iff.1 he) hb.1
end
end Go.Proofs.YtgkngimeokhhgaaGreatDoor
/- A region of code that draws its order of evaluation, by what each of its values is: whichever operations have come up. Nothing is claimed of the program here. -/
namespace Go.Proofs.YtgkngimeokhhgaaGreatDoor
open Go.RowKit

/-- values, put into the places that operations have -/
def putV (vs : Nat → Value) : Nat → List (Option Tmp) → Act → Act
  | _, [], a => a
  | k, d :: ds, a => putV vs (k + 1) ds (a.put d (vs k))
theorem put_put (a : Act) (d : Option Tmp) (u v : Value) : (a.put d u).put d v = a.put d v := by
  cases d with
  | none => rfl
  | some d => simp [Act.put]
theorem putV_out (vs : Nat → Value) (v : Value) : ∀ (ds : List (Option Tmp)) (k : Nat) (a : Act) (d : Option Tmp), (∀ x, d = some x → some x ∉ ds) → (putV vs k ds a).put d v = putV vs k ds (a.put d v)
  | [], _, _, _, _ => rfl
  | d2 :: ds, k, a, d, h => by
    unfold putV
    rw [putV_out vs v ds (k + 1) _ d (fun x hx hm => h x hx (List.mem_cons_of_mem _ hm))]
    rw [Act.put_comm a (vs k) v (x := d2) (y := d) (fun x hx e => h x e (by rw [hx]; exact List.mem_cons_self))]
theorem putV_same (vs us : Nat → Value) : ∀ (ds : List (Option Tmp)) (k : Nat) (a : Act), (∀ j, k ≤ j → vs j = us j) → putV vs k ds a = putV us k ds a
  | [], _, _, _ => rfl
  | d :: ds, k, a, h => by
    unfold putV
    rw [h k (Nat.le_refl _)]
    exact putV_same vs us ds (k + 1) _ (fun j hj => h j (by omega))
/-- each place once -/
def onceD : List (Option Tmp) → Bool
  | [] => true
  | none :: ds => onceD ds
  | some d :: ds => !(ds.contains (some d)) && onceD ds
theorem putV_at (vs : Nat → Value) (v : Value) : ∀ (ds : List (Option Tmp)) (k i : Nat) (a : Act) (d : Option Tmp), onceD ds = true → ds[i]? = some d → (putV vs k ds a).put d v = putV (fun j => if j = k + i then v else vs j) k ds a
  | [], _, _, _, _, _, h => by simp at h
  | d2 :: ds, k, 0, a, d, ho, h => by
    simp at h
    subst h
    unfold putV
    have hno : ∀ x, d2 = some x → some x ∉ ds := by
      intro x hx hm
      subst hx
      unfold onceD at ho
      simp only [Bool.and_eq_true, Bool.not_eq_true'] at ho
      have := ho.1
      rw [List.contains_iff_mem.2 hm] at this
      cases this
    rw [putV_out _ _ _ _ _ _ hno, put_put]
    simp only [Nat.add_zero, if_true]
    exact putV_same _ _ _ _ _ (fun j hj => by rw [if_neg (by omega)])
  | d2 :: ds, k, i + 1, a, d, ho, h => by
    have ho' : onceD ds = true := by
      cases d2 with
      | none => exact ho
      | some x => unfold onceD at ho; simp only [Bool.and_eq_true] at ho; exact ho.2
    unfold putV
    rw [putV_at vs v ds (k + 1) i _ d ho' (by simpa using h)]
    simp only [show k ≠ k + (i + 1) by omega, if_false]
    exact putV_same _ _ _ _ _ (fun j _ => by rw [show k + 1 + i = k + (i + 1) by omega])
theorem put_own (a : Act) (d : Option Tmp) : a.put d (match d with | some d => a.tmps.getD d undef | none => undef) = a := by
  cases d with
  | none => rfl
  | some d =>
    obtain ⟨t, de⟩ := a
    simp only [Act.put, Act.mk.injEq, and_true]
    apply Array.ext
    · simp
    · intro i h1 h2
      rw [Array.getElem_setIfInBounds]
      split
      · subst_vars; simp [Array.getD, h2]
      · rfl
theorem putV_self (a : Act) : ∀ (ds : List (Option Tmp)) (k : Nat), ∃ vs, putV vs k ds a = a
  | [], _ => ⟨fun _ => undef, rfl⟩
  | d :: ds, k => by
    obtain ⟨vs, h⟩ := putV_self a ds (k + 1)
    refine ⟨fun j => if j = k then (match d with | some d => a.tmps.getD d undef | none => undef) else vs j, ?_⟩
    unfold putV
    simp only [if_true]
    rw [put_own, putV_same _ vs _ _ _ (fun j hj => by rw [if_neg (by omega)]), h]
/-- what a value is: told, or a new list of numbers -/
inductive Vk where
  | fix (u : Value)
  | ints (xs : List Int)
def Vk.ok : Vk → Value → World → Prop
  | .fix u, v, _ => v = u
  | .ints xs, v, w => ∃ A c, v = .slice A xs.length c ∧ Ints w w.heap.size A xs.length xs
theorem Vk.stay (k : Vk) (v : Value) (w1 w2 : World) (hb : Below w1.heap.size w1 w2) (h : k.ok v w1) : k.ok v w2 := by
  cases k with
  | fix u => exact h
  | ints xs =>
    obtain ⟨A, c, rfl, h⟩ := h
    exact ⟨A, c, rfl, (h.below hb).more hb.size⟩
def Vk.at (tab : List Vk) (i : Nat) (v : Value) (w : World) : Prop := match tab[i]? with | some k => k.ok v w | none => True
section
variable {P : Program} {Q : Exit → Act → World → Prop} {a : Act} {w : World} {l : List Oper}
/-- a region whose operations read, and call what lays new blocks at most: each value is as it is told, whichever come first -/
theorem wp_region_vals {id : Nat} (R : Nat → Value → World → Prop) (hm : P.follows .mixedOrders = true) (hup : upB l.toArray = true) (ho : onceD (l.map (·.dst)) = true)
    (hR : ∀ i v w1 w2, Below w1.heap.size w1 w2 → R i v w1 → R i v w2)
    (hstep : ∀ i o, l[i]? = some o → ∀ vs w', Below w.heap.size w w' → (∀ k, o.after.toList.any (fun e => Region.binds .any e && e.on == k) = true → R k (vs k) w') → ∀ K : Act → World → Prop, (∀ a'' v w'', a'' = (putV vs 0 (l.map (·.dst)) a).put o.dst v → Below w'.heap.size w' w'' → R i v w'' → K a'' w'') →
      if Region.wanted o (yielded l.toArray (putV vs 0 (l.map (·.dst)) a).tmps) = true then Oper.wp P o (putV vs 0 (l.map (·.dst)) a) w' K Q else K ((putV vs 0 (l.map (·.dst)) a).put o.dst undef) w')
    (hend : ∀ vs w', Below w.heap.size w w' → (∀ i, i < l.length → R i (vs i) w') → Q .normal (putV vs 0 (l.map (·.dst)) a) w') : (Code.region id l.toArray true).wp P Q a w := by
  refine wp_region_inv (fun a0 L a' w' => ∃ vs, a' = putV vs 0 (l.map (·.dst)) a0 ∧ Below w.heap.size w w' ∧ ∀ k, k < l.length → L.getD k false = true → R k (vs k) w') hm hup ?_ ?_ ?_
  · obtain ⟨vs, h⟩ := putV_self a (l.map (·.dst)) 0
    refine ⟨vs, h.symm, (Below.refl _ _).drew, fun k hk h1 => ?_⟩
    rw [show (Array.replicate l.toArray.size false).getD k false = false by unfold Array.getD; split <;> simp] at h1
    cases h1
  · rintro L a' w' ⟨vs, rfl, hb, hl⟩ hall
    exact hend vs w' hb (fun i hi => hl i hi (hall i (by simpa using hi)))
  · rintro L a' w' i ⟨vs, rfl, hb, hl⟩ hi
    obtain ⟨hun, o, ho1, _⟩ := mem_ready.1 hi
    have ho2 : l[i]? = some o := by simpa using ho1
    have hlt : i < l.length := (List.getElem?_eq_some_iff.1 ho2).1
    refine wpOp_of ho1 (fun K hK => hstep i o ho2 vs w' hb (fun k hk => ?_) K ?_)
    · have hon := ready_at hi ho1 k hk
      have hk2 : k < i := by
        have h1 := List.all_eq_true.1 hup i (List.mem_range.2 (by simpa using hlt))
        rw [ho1] at h1
        simp only at h1
        obtain ⟨e, he, hb2⟩ := List.any_eq_true.1 hk
        simp only [Bool.and_eq_true, beq_iff_eq] at hb2
        have h2 := Array.all_eq_true'.1 h1 e (Array.mem_toList_iff.1 he)
        rw [← hb2.2]
        simpa using h2
      exact hl k (by omega) hon
    · intro a'' v w'' e hb2 hr
      refine hK _ _ ⟨fun j => if j = 0 + i then v else vs j, ?_, hb.trans (hb2.mono hb.size), fun k hk h1 => ?_⟩
      · rw [e]
        exact putV_at vs v _ 0 i a o.dst ho (by rw [List.getElem?_map, ho2]; rfl)
      · by_cases hki : k = i
        · subst hki
          simp only [Nat.zero_add, if_true]
          exact hr
        · simp only [Nat.zero_add, hki, if_false]
          refine hR _ _ _ _ hb2 (hl k hk ?_)
          rwa [getD_set_ne false (Ne.symm hki)] at h1
end
end Go.Proofs.YtgkngimeokhhgaaGreatDoor
/- A region of code that draws its order of evaluation, by what its values are, together with what lies in memory. Nothing is claimed of the program here. -/
namespace Go.Proofs.YtgkngimeokhhgaaGreatDoor
open Go.RowKit

section
variable {P : Program} {Q : Exit → Act → World → Prop} {a : Act} {w : World} {l : List Oper}
/-- each operation waits for such ahead of it alone, where it waits in every mode -/
def upC (ops : Array Oper) : Bool := (List.range ops.size).all fun i => match ops[i]? with
  | some o => o.after.all fun e => !Region.binds .any e || decide (e.on < i)
  | none => true
theorem acyc_ofC {ops : Array Oper} (h : upC ops = true) (listed : Array Bool) (hr : Region.ready .any ops listed = []) : ∀ i, i < ops.size → listed.getD i true = true := by
  intro i
  induction i using Nat.strongRecOn with
  | _ i ih =>
    intro hi
    cases hl : listed.getD i true with
    | true => rfl
    | false =>
      exfalso
      obtain ⟨o, ho⟩ : ∃ o, ops[i]? = some o := ⟨_, Array.getElem?_eq_getElem hi⟩
      have h1 := List.all_eq_true.1 h i (List.mem_range.2 hi)
      rw [ho] at h1
      simp only at h1
      have hm : i ∈ Region.ready .any ops listed := by
        refine mem_ready.2 ⟨hl, o, ho, fun e he hbd => ?_⟩
        have h2 := Array.all_eq_true'.1 h1 e he
        have hlt : e.on < i := by
          rw [hbd] at h2
          simpa using h2
        have h3 := ih e.on hlt (by omega)
        have hs : i < listed.size := by
          rcases Nat.lt_or_ge i listed.size with h | h
          · exact h
          · simp [Array.getElem?_eq_none h] at hl
        have hs2 : e.on < listed.size := by omega
        simp [hs2] at h3 ⊢
        exact h3
      rw [hr] at hm
      cases hm
theorem wp_region_invC {id : Nat} (I : Act → Array Bool → Act → World → Prop) (hm : P.follows .mixedOrders = true) (hup : upC l.toArray = true)
    (h0 : I a (Array.replicate l.toArray.size false) a w.drew) (hend : ∀ listed a' w', I a listed a' w' → (∀ i, i < l.toArray.size → listed.getD i false = true) → Q .normal a' w')
    (hstep : ∀ listed a' w' i, I a listed a' w' → i ∈ Region.ready .any l.toArray listed → wpOp P l.toArray Q i (fun a'' w'' => I a (listed.setIfInBounds i true) a'' w'') a' w') : (Code.region id l.toArray true).wp P Q a w := by
  refine wp_region_any hm (wpAny_inv hend (fun listed hr => acyc_ofC hup listed hr) hstep _ _ _ _ (by simp) ?_ h0)
  unfold unlN
  exact Nat.le_trans List.countP_le_length (by simp)
/-- J D vs w: what holds of the values vs and the world, where D says which operations have come up -/
theorem wp_region_joint {id : Nat} (J : (Nat → Bool) → (Nat → Value) → World → Prop) (hm : P.follows .mixedOrders = true) (hup : upC l.toArray = true) (ho : onceD (l.map (·.dst)) = true)
    (h0 : ∀ D vs, (∀ i, i < l.length → D i = false) → J D vs w.drew)
    (hstep : ∀ i o, l[i]? = some o → ∀ D vs w', J D vs w' → D i = false → (∀ k, o.after.toList.any (fun e => Region.binds .any e && e.on == k) = true → D k = true) →
      ∀ K : Act → World → Prop, (∀ a'' v w'' D', a'' = (putV vs 0 (l.map (·.dst)) a).put o.dst v → (∀ j, j ≠ i → D' j = D j) → D' i = true → J D' (fun j => if j = i then v else vs j) w'' → K a'' w'') →
      if Region.wanted o (yielded l.toArray (putV vs 0 (l.map (·.dst)) a).tmps) = true then Oper.wp P o (putV vs 0 (l.map (·.dst)) a) w' K Q else K ((putV vs 0 (l.map (·.dst)) a).put o.dst undef) w')
    (hend : ∀ D vs w', J D vs w' → (∀ i, i < l.length → D i = true) → Q .normal (putV vs 0 (l.map (·.dst)) a) w')
    (hJ : ∀ D D' vs w', (∀ i, i < l.length → D i = D' i) → J D vs w' → J D' vs w') : (Code.region id l.toArray true).wp P Q a w := by
  refine wp_region_invC (fun a0 L a' w' => ∃ vs, a' = putV vs 0 (l.map (·.dst)) a0 ∧ J (fun k => L.getD k false) vs w' ∧ L.size = l.length) hm hup ?_ ?_ ?_
  · obtain ⟨vs, h⟩ := putV_self a (l.map (·.dst)) 0
    refine ⟨vs, h.symm, h0 _ vs fun i _ => ?_, by simp⟩
    show (Array.replicate l.toArray.size false).getD i false = false
    unfold Array.getD
    split <;> simp
  · rintro L a' w' ⟨vs, rfl, hj, _⟩ hall
    exact hend _ vs w' hj (fun i hi => hall i (by simpa using hi))
  · rintro L a' w' i ⟨vs, rfl, hj, hsz⟩ hi
    obtain ⟨hun, o, ho1, _⟩ := mem_ready.1 hi
    have ho2 : l[i]? = some o := by simpa using ho1
    have hlt : i < l.length := (List.getElem?_eq_some_iff.1 ho2).1
    have hD : L.getD i false = false := by
      have h2 : i < L.size := by omega
      simp [h2] at hun ⊢
      exact hun
    refine wpOp_of ho1 (fun K hK => hstep i o ho2 _ vs w' hj hD (fun k hk => ready_at hi ho1 k hk) K ?_)
    intro a'' v w'' D' e hD1 hD2 hr
    refine hK _ _ ⟨fun j => if j = 0 + i then v else vs j, ?_, ?_, by simp [hsz]⟩
    · rw [e]
      exact putV_at vs v _ 0 i a o.dst ho (by rw [List.getElem?_map, ho2]; rfl)
    · simp only [Nat.zero_add]
      refine hJ D' _ _ _ (fun j hj => ?_) hr
      by_cases hji : j = i
      · subst hji
        rw [hD2]
        have h2 : j < L.size := by omega
        simp [h2]
      · rw [hD1 j hji, getD_set_ne false (Ne.symm hji)]
end
end Go.Proofs.YtgkngimeokhhgaaGreatDoor
