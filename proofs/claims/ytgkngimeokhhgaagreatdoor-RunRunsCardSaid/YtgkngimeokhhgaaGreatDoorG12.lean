/- What the machine's instructions do: arrays. -/
import Derived.Test.YtgkngimeokhhgaaGreatDoorG11
namespace Go.Proofs.YtgkngimeokhhgaaGreatDoor
open Go.RowKit Go.Sort

set_option maxRecDepth 100000 in
set_option maxHeartbeats 8000000 in
theorem act_6 (m : Mc) (s : Ms) (rs : List RowU) (base : Nat) (w : World) (n : Int) (i j k : Nat) (h : MsM w base m s rs false) (_t0 : s.at_ ≤ 1000000) (_t1 : s.st ≤ 1000000) (_t2 : s.ce ≤ 1000000) (hrv : ∀ i, I64 (s.r i)) (hi : i < m.nr) (hk : k < m.nr) (hj : j < s.A.length) (hj9 : j ≤ 1000) (hI : m.ins.length = m.i) (hI9 : m.i ≤ 1000) (hlen : ∀ i, (s.a i).length ≤ 1000000) :
    Calls Tryz.prog 52 #[.pointer (some ⟨m.g, 0, none⟩), Ji.val (⟨6, (i : Int), (j : Int), (k : Int), n⟩)] w (ActP base m s (⟨6, (i : Int), (j : Int), (k : Int), n⟩) w) := by
  have hmx : Tryz.prog.follows .mixedOrders = true := by kernel_rfl
  obtain ⟨W0, hW0⟩ : ∃ W, w.alloc (Ji.obj (⟨6, (i : Int), (j : Int), (k : Int), n⟩)) = W := ⟨_, rfl⟩
  obtain ⟨g0, hg0⟩ : ∃ z, w.heap.size = z := ⟨_, rfl⟩
  have hb0 := lvBelow w (Ji.obj (⟨6, (i : Int), (j : Int), (k : Int), n⟩))
  have h2 := heap_alloc_new w (Ji.obj (⟨6, (i : Int), (j : Int), (k : Int), n⟩))
  rw [hW0] at hb0 h2
  rw [hg0] at h2
  have HB0 : Hid (BelI base w W0) := .of hb0 h.size_
  have HM0 := Lib.hid (h.on hb0)
  have HX0 := Lib.hid h2
  have HRV := Lib.hid hrv
  clear hb0 h2 h hrv
  go_enter Tryz.func52, Tryz.ntmps52
  go_upto_region 1 with fail
  try rw [hW0]
  try rw [hg0]
  clear hW0 hg0
  obtain ⟨x0, x1, x2, x3, x4, x5, x6, x7, x8, x9, x10, x11, x12, x13⟩ := MsM.cells HM0.out
  obtain ⟨⟨y0, y1, y2, y3, y4⟩, _⟩ := box_cellsJ HX0.out
  have hi0 : (0 : Int) ≤ (i : Int) := by omega
  have hi1 : (i : Int) < (m.nr : Int) := by omega
  have hk0 : (0 : Int) ≤ (k : Int) := by omega
  have hk1 : (k : Int) < (m.nr : Int) := by omega
  obtain ⟨b0, _⟩ := HM0.out.reg (i := k) hk
  obtain ⟨ar, ca, HRA, HIN0, HOW⟩ := HM0.out.rowAt (k := j) hj hI
  obtain ⟨mm, hmm⟩ : ∃ mm, (s.a (j : Int)).length = mm := ⟨_, rfl⟩
  have hm9 : mm ≤ 1000000 := by rw [← hmm]; exact hlen _
  have HMM := Lib.hid hmm
  have cA := fun d os => Calls.regrown_of (array_b m s rs base (grow (redrawn W0 d) os) false (HM0.out.on (below_regrown W0 d os)) j ar ca (HRA.out.on (below_regrown W0 d os)) hj9 hI9)
  simp only [hmm] at cA
  clear hmm HRA
  obtain ⟨v, hv⟩ : ∃ v, s.r (k : Int) = v := ⟨_, rfl⟩
  rw [hv] at b0
  have HV := Lib.hid hv
  have cH := fun W => has_any ar mm ca v W
  obtain ⟨bb, hbb⟩ : ∃ bb, (decide (0 ≤ v) && decide (v < (mm : Int))) = bb := ⟨_, rfl⟩
  simp only [hbb] at cH
  have HBB := Lib.hid hbb
  clear hv hbb
  clear x0 x1 x2 x3 x4 x5 x6 x8 x9 x10 x11 x12 x13 y0 y1 y4
  have xx7 := cell_regrown x7
  have xy2 := cell_regrown y2
  have xy3 := cell_regrown y3
  have xb0 := cell_regrown b0
  refine wp_region_quiet_below hmx (by kernel_rfl) ?_
  repeat (quiet_step (first | (go_at_call 77; exact cA _ _)))
  refine wpQuiet_nil ?_
  intro _ hw'
  obtain ⟨⟨dq, osq⟩, hw''⟩ := hw'
  subst hw''
  obtain ⟨W9, hW9⟩ : ∃ W, grow (redrawn W0 dq) osq = W := ⟨_, rfl⟩
  have hb9 := below_regrown W0 dq osq
  rw [hW9] at hb9 ⊢
  have HM9 := Lib.hid (HM0.out.on hb9)
  have HB9 := Lib.hid (HB0.out.trans (.of hb9 HM0.out.size_))
  have HX9 := Lib.hid (keep_b hb9 HX0.out)
  have HIN9 := Lib.hid ((HIN0.out.below hb9).more hb9.size)
  clear xx7 xy2 xy3 xb0 x7 y2 y3 b0 hW9 hb9
  cases bb with
  | false =>
    have HNO : Hid (v < 0 ∨ (mm : Int) ≤ v) := by
      have h1 := HBB.out
      rw [Bool.and_eq_false_iff, decide_eq_false_iff_not, decide_eq_false_iff_not] at h1
      unfold Hid; omega
    go_wp2_with (go_at_call 78; refine (cH _).mono ?_; rintro e w9 ⟨rfl, hw9⟩; rw [hw9]; clear hw9)
    go_ret
    exact .inr ⟨3, (by unfold doM; simp only [if_true, if_false, Int.reduceEq]; rw [HMM.out, HV.out]; rw [if_pos HNO.out]), rfl, HB9.out⟩
  | true =>
    have h1 := HBB.out
    rw [Bool.and_eq_true, decide_eq_true_eq, decide_eq_true_eq] at h1
    obtain ⟨q, rfl⟩ : ∃ q : Nat, v = (q : Int) := ⟨v.toNat, by omega⟩
    have HYE : Hid (¬ ((q : Int) < 0 ∨ (mm : Int) ≤ (q : Int))) := by unfold Hid; omega
    have hq : q < mm := by omega
    have q0 : (0 : Int) ≤ (q : Int) := by omega
    have q1 : (q : Int) < (mm : Int) := by omega
    clear h1
    go_upto_region 4 with (go_at_call 78; refine (cH _).mono ?_; rintro e w9 ⟨rfl, hw9⟩; rw [hw9]; clear hw9)
    obtain ⟨x0, x1, x2, x3, x4, x5, x6, x7, x8, x9, x10, x11, x12, x13⟩ := MsM.cells HM9.out
    obtain ⟨⟨y0, y1, y2, y3, y4⟩, _⟩ := box_cellsJ HX9.out
    obtain ⟨el, hel⟩ : ∃ u, (s.a (j : Int))[q]? = some u := ⟨_, List.getElem?_eq_getElem (by rw [HMM.out]; exact hq)⟩
    have HEL := Lib.hid hel
    have hIN := HIN9.out
    rw [HMM.out] at hIN
    obtain ⟨_, hiv, hic⟩ := hIN
    have hev : I64 el := hiv el (List.mem_of_getElem? hel)
    obtain ⟨b, off, hab, _, hce⟩ := hic (by omega)
    have e0 := hce q el hel
    subst hab
    clear hel hiv hic hce
    clear x0 x1 x2 x3 x4 x5 x6 x8 x9 x10 x11 x12 x13 y0 y2 y3 y4
    have xx7 := cell_regrown x7
    have xy1 := cell_regrown y1
    have xe0 := cell_regrown e0
    refine wp_region_below_tail 10 hmx (by kernel_rfl) ?_
    simp only [List.take_succ_cons, List.take_zero, List.drop_succ_cons, List.drop_zero]
    repeat (quiet_step (fail))
    refine wpQuiet_nil ?_
    intro _ hw'
    obtain ⟨⟨dq, osq⟩, hw''⟩ := hw'
    subst hw''
    obtain ⟨W8, hW8⟩ : ∃ W, grow (redrawn W9 dq) osq = W := ⟨_, rfl⟩
    have hb8 := below_regrown W9 dq osq
    rw [hW8] at hb8 ⊢
    have HM8 := Lib.hid (HM9.out.on hb8)
    have HB8 := Lib.hid (HB9.out.trans (.of hb8 HM9.out.size_))
    have HX8 := Lib.hid (keep_b hb8 HX9.out)
    have HIN8 := Lib.hid ((HIN9.out.below hb8).more hb8.size)
    clear xx7 xy1 xe0 x7 y1 e0 hW8 hb8
    obtain ⟨c0, cf⟩ := HM8.out.reg (i := i) hi
    obtain ⟨hm2, hb2⟩ := HM8.out.setR i (v := el) (hev)
    have HM2 := Lib.hid hm2
    have HB2 := Lib.hid (HB8.out.trans hb2)
    clear hm2 hb2
    go_wp2_with fail
    go_ret
    exact .inl ⟨s.put (i : Int) el, rs, (by unfold doM; simp only [if_true, if_false, Int.reduceEq]; rw [HMM.out, HV.out]; rw [if_neg HYE.out, Int.toNat_natCast, List.getD_eq_getElem?_getD, HEL.out]; rfl), rfl, HM2.out, HB2.out⟩
set_option maxRecDepth 100000 in
set_option maxHeartbeats 8000000 in
theorem act_7 (m : Mc) (s : Ms) (rs : List RowU) (base : Nat) (w : World) (n : Int) (i j k : Nat) (h : MsM w base m s rs false) (_t0 : s.at_ ≤ 1000000) (_t1 : s.st ≤ 1000000) (_t2 : s.ce ≤ 1000000) (hrv : ∀ i, I64 (s.r i)) (hi : i < s.A.length) (hi9 : i ≤ 1000) (hI : m.ins.length = m.i) (hI9 : m.i ≤ 1000) (hj : j < m.nr) (hk : k < m.nr) (hlen : ∀ i, (s.a i).length ≤ 1000000) (hown : m.i ≤ i) :
    Calls Tryz.prog 53 #[.pointer (some ⟨m.g, 0, none⟩), Ji.val (⟨7, (i : Int), (j : Int), (k : Int), n⟩)] w (ActP base m s (⟨7, (i : Int), (j : Int), (k : Int), n⟩) w) := by
  have hmx : Tryz.prog.follows .mixedOrders = true := by kernel_rfl
  obtain ⟨W0, hW0⟩ : ∃ W, w.alloc (Ji.obj (⟨7, (i : Int), (j : Int), (k : Int), n⟩)) = W := ⟨_, rfl⟩
  obtain ⟨g0, hg0⟩ : ∃ z, w.heap.size = z := ⟨_, rfl⟩
  have hb0 := lvBelow w (Ji.obj (⟨7, (i : Int), (j : Int), (k : Int), n⟩))
  have h2 := heap_alloc_new w (Ji.obj (⟨7, (i : Int), (j : Int), (k : Int), n⟩))
  rw [hW0] at hb0 h2
  rw [hg0] at h2
  have HB0 : Hid (BelI base w W0) := .of hb0 h.size_
  have HM0 := Lib.hid (h.on hb0)
  have HX0 := Lib.hid h2
  have HRV := Lib.hid hrv
  clear hb0 h2 h hrv
  go_enter Tryz.func53, Tryz.ntmps53
  go_upto_region 1 with fail
  try rw [hW0]
  try rw [hg0]
  clear hW0 hg0
  obtain ⟨x0, x1, x2, x3, x4, x5, x6, x7, x8, x9, x10, x11, x12, x13⟩ := MsM.cells HM0.out
  obtain ⟨⟨y0, y1, y2, y3, y4⟩, _⟩ := box_cellsJ HX0.out
  have hj0 : (0 : Int) ≤ (j : Int) := by omega
  have hj1 : (j : Int) < (m.nr : Int) := by omega
  have hk0 : (0 : Int) ≤ (k : Int) := by omega
  have hk1 : (k : Int) < (m.nr : Int) := by omega
  obtain ⟨b0, _⟩ := HM0.out.reg (i := j) hj
  obtain ⟨ar, ca, HRA, HIN0, HOW⟩ := HM0.out.rowAt (k := i) hi hI
  obtain ⟨mm, hmm⟩ : ∃ mm, (s.a (i : Int)).length = mm := ⟨_, rfl⟩
  have hm9 : mm ≤ 1000000 := by rw [← hmm]; exact hlen _
  have HMM := Lib.hid hmm
  have cA := fun d os => Calls.regrown_of (array_b m s rs base (grow (redrawn W0 d) os) false (HM0.out.on (below_regrown W0 d os)) i ar ca (HRA.out.on (below_regrown W0 d os)) hi9 hI9)
  simp only [hmm] at cA
  clear hmm HRA
  obtain ⟨v, hv⟩ : ∃ v, s.r (j : Int) = v := ⟨_, rfl⟩
  rw [hv] at b0
  have HV := Lib.hid hv
  have cH := fun W => has_any ar mm ca v W
  obtain ⟨bb, hbb⟩ : ∃ bb, (decide (0 ≤ v) && decide (v < (mm : Int))) = bb := ⟨_, rfl⟩
  simp only [hbb] at cH
  have HBB := Lib.hid hbb
  clear hv hbb
  clear x0 x1 x2 x3 x4 x5 x6 x8 x9 x10 x11 x12 x13 y0 y3 y4
  have xx7 := cell_regrown x7
  have xy1 := cell_regrown y1
  have xy2 := cell_regrown y2
  have xb0 := cell_regrown b0
  refine wp_region_quiet_below hmx (by kernel_rfl) ?_
  repeat (quiet_step (first | (go_at_call 77; exact cA _ _)))
  refine wpQuiet_nil ?_
  intro _ hw'
  obtain ⟨⟨dq, osq⟩, hw''⟩ := hw'
  subst hw''
  obtain ⟨W9, hW9⟩ : ∃ W, grow (redrawn W0 dq) osq = W := ⟨_, rfl⟩
  have hb9 := below_regrown W0 dq osq
  rw [hW9] at hb9 ⊢
  have HM9 := Lib.hid (HM0.out.on hb9)
  have HB9 := Lib.hid (HB0.out.trans (.of hb9 HM0.out.size_))
  have HX9 := Lib.hid (keep_b hb9 HX0.out)
  have HIN9 := Lib.hid ((HIN0.out.below hb9).more hb9.size)
  clear xx7 xy1 xy2 xb0 x7 y1 y2 b0 hW9 hb9
  cases bb with
  | false =>
    have HNO : Hid (v < 0 ∨ (mm : Int) ≤ v) := by
      have h1 := HBB.out
      rw [Bool.and_eq_false_iff, decide_eq_false_iff_not, decide_eq_false_iff_not] at h1
      unfold Hid; omega
    go_wp2_with (go_at_call 78; refine (cH _).mono ?_; rintro e w9 ⟨rfl, hw9⟩; rw [hw9]; clear hw9)
    go_ret
    exact .inr ⟨3, (by unfold doM; simp only [if_true, if_false, Int.reduceEq]; rw [HMM.out, HV.out]; rw [if_pos HNO.out]), rfl, HB9.out⟩
  | true =>
    have h1 := HBB.out
    rw [Bool.and_eq_true, decide_eq_true_eq, decide_eq_true_eq] at h1
    obtain ⟨q, rfl⟩ : ∃ q : Nat, v = (q : Int) := ⟨v.toNat, by omega⟩
    have HYE : Hid (¬ ((q : Int) < 0 ∨ (mm : Int) ≤ (q : Int))) := by unfold Hid; omega
    have hq : q < mm := by omega
    have q0 : (0 : Int) ≤ (q : Int) := by omega
    have q1 : (q : Int) < (mm : Int) := by omega
    clear h1
    go_upto_region 4 with (go_at_call 78; refine (cH _).mono ?_; rintro e w9 ⟨rfl, hw9⟩; rw [hw9]; clear hw9)
    obtain ⟨x0, x1, x2, x3, x4, x5, x6, x7, x8, x9, x10, x11, x12, x13⟩ := MsM.cells HM9.out
    obtain ⟨⟨y0, y1, y2, y3, y4⟩, _⟩ := box_cellsJ HX9.out
    obtain ⟨f0, _⟩ := HM9.out.reg (i := k) hk
    obtain ⟨r, hr1, hr2, hr3⟩ := HOW.out hown
    have HRR := Lib.hid hr1
    have HRL := Lib.hid hr3
    have hrA : ∃ gr, r.A = some ⟨gr, 0, none⟩ := by
      have h1 := HM9.out.M.A.ins r (List.mem_of_getElem? hr1)
      obtain ⟨gr, e, _⟩ := h1.some_ (by rw [hr3, HMM.out]; omega)
      exact ⟨gr, e⟩
    obtain ⟨gr, hgr⟩ := hrA
    have HGR := Lib.hid hgr
    obtain rfl : ar = some ⟨gr, 0, none⟩ := hr2.symm.trans hgr
    clear hr1 hr2 hr3 hgr
    clear x0 x1 x2 x3 x4 x5 x6 x8 x9 x10 x11 x12 x13 y0 y1 y2 y4
    have xx7 := cell_regrown x7
    have xy3 := cell_regrown y3
    have xf0 := cell_regrown f0
    refine wp_region_below_tail 10 hmx (by kernel_rfl) ?_
    simp only [List.take_succ_cons, List.take_zero, List.drop_succ_cons, List.drop_zero]
    repeat (quiet_step (fail))
    refine wpQuiet_nil ?_
    intro _ hw'
    obtain ⟨⟨dq, osq⟩, hw''⟩ := hw'
    subst hw''
    obtain ⟨W8, hW8⟩ : ∃ W, grow (redrawn W9 dq) osq = W := ⟨_, rfl⟩
    have hb8 := below_regrown W9 dq osq
    rw [hW8] at hb8 ⊢
    have HM8 := Lib.hid (HM9.out.on hb8)
    have HB8 := Lib.hid (HB9.out.trans (.of hb8 HM9.out.size_))
    have HX8 := Lib.hid (keep_b hb8 HX9.out)
    have HIN8 := Lib.hid ((HIN9.out.below hb8).more hb8.size)
    clear xx7 xy3 xf0 x7 y3 f0 hW8 hb8
    obtain ⟨gr2, hgr2, hfz, hm2, hb2⟩ := HM8.out.setA (k := i) (q := q) (r := r) (v := s.r (k : Int)) hown HRR.out (by rw [HRL.out, HMM.out]; exact hq) (HRV.out _)
    rw [HGR.out] at hgr2
    injection hgr2 with hgr2; injection hgr2 with hgr2
    subst hgr2
    obtain ⟨el, hel⟩ : ∃ u, (s.a (i : Int))[q]? = some u := ⟨_, List.getElem?_eq_getElem (by rw [HMM.out]; exact hq)⟩
    have hrO := HM8.out.M.A.ins r (List.mem_of_getElem? HRR.out)
    rw [HGR.out, HRL.out] at hrO
    obtain ⟨z0, _⟩ := hrO.cell_ hel
    have HM2 := Lib.hid hm2
    have HB2 := Lib.hid (HB8.out.trans hb2)
    clear hm2 hb2 hrO hel
    go_wp2_with fail
    go_ret
    exact .inl ⟨s.arr (i : Int) ((s.a (i : Int)).set q (s.r (k : Int))), _, (by unfold doM; simp only [if_true, if_false, Int.reduceEq]; rw [HMM.out, HV.out]; rw [if_neg HYE.out, Int.toNat_natCast]), rfl, HM2.out, HB2.out⟩
set_option maxRecDepth 100000 in
set_option maxHeartbeats 8000000 in
theorem act_8 (m : Mc) (s : Ms) (rs : List RowU) (base : Nat) (w : World) (c n : Int) (i j : Nat) (h : MsM w base m s rs false) (_t0 : s.at_ ≤ 1000000) (_t1 : s.st ≤ 1000000) (_t2 : s.ce ≤ 1000000) (hrv : ∀ i, I64 (s.r i)) (hi : i < m.nr) (hj : j < s.A.length) (hj9 : j ≤ 1000) (hI : m.ins.length = m.i) (hI9 : m.i ≤ 1000) (hlen : ∀ i, (s.a i).length ≤ 1000000) :
    Calls Tryz.prog 54 #[.pointer (some ⟨m.g, 0, none⟩), Ji.val (⟨8, (i : Int), (j : Int), c, n⟩)] w (ActP base m s (⟨8, (i : Int), (j : Int), c, n⟩) w) := by
  have hmx : Tryz.prog.follows .mixedOrders = true := by kernel_rfl
  obtain ⟨W0, hW0⟩ : ∃ W, w.alloc (Ji.obj (⟨8, (i : Int), (j : Int), c, n⟩)) = W := ⟨_, rfl⟩
  obtain ⟨g0, hg0⟩ : ∃ z, w.heap.size = z := ⟨_, rfl⟩
  have hb0 := lvBelow w (Ji.obj (⟨8, (i : Int), (j : Int), c, n⟩))
  have h2 := heap_alloc_new w (Ji.obj (⟨8, (i : Int), (j : Int), c, n⟩))
  rw [hW0] at hb0 h2
  rw [hg0] at h2
  have HB0 : Hid (BelI base w W0) := .of hb0 h.size_
  have HM0 := Lib.hid (h.on hb0)
  have HX0 := Lib.hid h2
  have HRV := Lib.hid hrv
  clear hb0 h2 h hrv
  go_enter Tryz.func54, Tryz.ntmps54
  go_upto_region 1 with fail
  try rw [hW0]
  try rw [hg0]
  clear hW0 hg0
  obtain ⟨x0, x1, x2, x3, x4, x5, x6, x7, x8, x9, x10, x11, x12, x13⟩ := MsM.cells HM0.out
  obtain ⟨⟨y0, y1, y2, y3, y4⟩, _⟩ := box_cellsJ HX0.out
  have hi0 : (0 : Int) ≤ (i : Int) := by omega
  have hi1 : (i : Int) < (m.nr : Int) := by omega
  obtain ⟨ar, ca, HRA, HIN0, HOW⟩ := HM0.out.rowAt (k := j) hj hI
  obtain ⟨mm, hmm⟩ : ∃ mm, (s.a (j : Int)).length = mm := ⟨_, rfl⟩
  have hm9 : mm ≤ 1000000 := by rw [← hmm]; exact hlen _
  have HMM := Lib.hid hmm
  have cA := fun d os => Calls.regrown_of (array_b m s rs base (grow (redrawn W0 d) os) false (HM0.out.on (below_regrown W0 d os)) j ar ca (HRA.out.on (below_regrown W0 d os)) hj9 hI9)
  simp only [hmm] at cA
  clear hmm HRA
  clear x0 x1 x2 x3 x4 x5 x6 x8 x9 x10 x11 x12 x13 y0 y3 y4
  have xx7 := cell_regrown x7
  have xy1 := cell_regrown y1
  have xy2 := cell_regrown y2
  refine wp_region_below_tail 11 hmx (by kernel_rfl) ?_
  simp only [List.take_succ_cons, List.take_zero, List.drop_succ_cons, List.drop_zero]
  repeat (quiet_step (first | (go_at_call 77; exact cA _ _)))
  refine wpQuiet_nil ?_
  intro _ hw'
  obtain ⟨⟨dq, osq⟩, hw''⟩ := hw'
  subst hw''
  obtain ⟨W9, hW9⟩ : ∃ W, grow (redrawn W0 dq) osq = W := ⟨_, rfl⟩
  have hb9 := below_regrown W0 dq osq
  rw [hW9] at hb9 ⊢
  have HM9 := Lib.hid (HM0.out.on hb9)
  have HB9 := Lib.hid (HB0.out.trans (.of hb9 HM0.out.size_))
  have HX9 := Lib.hid (keep_b hb9 HX0.out)
  have HIN9 := Lib.hid ((HIN0.out.below hb9).more hb9.size)
  clear xx7 xy1 xy2 x7 y1 y2 hW9 hb9
  obtain ⟨c0, cf⟩ := HM9.out.reg (i := i) hi
  obtain ⟨hm2, hb2⟩ := HM9.out.setR i (v := (mm : Int)) (by unfold I64; omega)
  have HM2 := Lib.hid hm2
  have HB2 := Lib.hid (HB9.out.trans hb2)
  clear hm2 hb2
  go_wp2_with fail
  go_ret
  exact .inl ⟨s.put (i : Int) (mm : Int), rs, (by unfold doM; simp only [if_true, if_false, Int.reduceEq]; rw [HMM.out]), rfl, HM2.out, HB2.out⟩
end Go.Proofs.YtgkngimeokhhgaaGreatDoor
/- A number more in an array of the machine's, in a region that draws its order. -/
namespace Go.Proofs.YtgkngimeokhhgaaGreatDoor
open Go.RowKit Go.Sort

structure PuM (W2 : World) (base gR gA i m : Nat) (T : Ms) (rs : List RowU) (r : RowU) (v : Int) (F : Nat → Value) (D : Nat → Bool) (vs : Nat → Value) (w' : World) : Prop where
  keep : KeepU base W2 w'
  vals : ∀ o, o < 26 → o ≠ 22 → o ≠ 23 → o ≠ 25 → D o = true → vs o = F o
  lit : D 22 = true → ∃ g, vs 22 = .slice (some ⟨g, 0, none⟩) 1 1 ∧ W2.heap.size ≤ g ∧ (D 23 = false → w'.heap[g]? = some (.cells #[.int .i64 v] 2 (0, 0)))
  pre : D 23 = false → Below W2.heap.size W2 w'
  app_ : D 23 = true → D 25 = false → ∃ Wb A8 c8, vs 23 = .slice A8 (m + 1) c8 ∧ MsW Wb base gR gA T rs ∧ OwnI w' base 2 A8 c8 (r.L ++ [v]) ∧ Wb.grownBy w' (Value.slice r.A m r.c).ownBlock ∧ (∀ b, A8 = some ⟨b, 0, none⟩ → r.A = some ⟨b, 0, none⟩ ∨ Wb.heap.size ≤ b)
  o17 : D 23 = true → D 13 = true ∧ D 22 = true
  o16 : D 22 = true → D 21 = true
  fin : D 25 = true → D 23 = true ∧ ∃ A8 c8, MsW w' base gR gA { T.arr (i : Int) (T.a (i : Int) ++ [v]) with ce := T.ce + 1 } (rs.set i ⟨A8, c8, r.L ++ [v]⟩)
section
variable {W2 w' w'' : World} {base gR gA i m : Nat} {T : Ms} {rs : List RowU} {r : RowU} {v : Int} {F : Nat → Value} {D D' : Nat → Bool} {vs : Nat → Value}
theorem PuM.done (h : PuM W2 base gR gA i m T rs r v F D vs w') (hd : D 25 = true) : ∃ A8 c8, MsW w' base gR gA { T.arr (i : Int) (T.a (i : Int) ++ [v]) with ce := T.ce + 1 } (rs.set i ⟨A8, c8, r.L ++ [v]⟩) := (h.fin hd).2
theorem PuM.not17 (h : PuM W2 base gR gA i m T rs r v F D vs w') (hd : D 13 = false ∨ D 21 = false) : D 23 = false := by
  cases e : D 23 with
  | false => rfl
  | true =>
    obtain ⟨h9, h16⟩ := h.o17 e
    have h15 := h.o16 h16
    rcases hd with hd | hd
    · rw [h9] at hd; cases hd
    · rw [h15] at hd; cases hd
theorem PuM.other (h : PuM W2 base gR gA i m T rs r v F D vs w') {o : Nat} (ho : o ≠ 22 ∧ o ≠ 23 ∧ o ≠ 25) (hD : ∀ q, q ≠ o → D' q = D q) (hDo : D' o = true) : PuM W2 base gR gA i m T rs r v F D' (fun j => if j = o then F o else vs j) w' := by
  obtain ⟨h16, h17, h19⟩ := ho
  have up : ∀ q, D q = true → D' q = true := fun q hq => by
    by_cases e : q = o
    · rw [e]; exact hDo
    · rw [hD q e]; exact hq
  refine ⟨h.keep, fun q hq q6 q7 q9 hd => ?_, ?_, ?_, ?_, ?_, ?_, ?_⟩
  · by_cases e : q = o
    · subst e; exact if_pos rfl
    · show (if q = o then F o else vs q) = _
      rw [if_neg e]
      exact h.vals q hq q6 q7 q9 (by rw [← hD q e]; exact hd)
  · rw [hD 22 h16.symm, hD 23 h17.symm, if_neg h16.symm]; exact h.lit
  · rw [hD 23 h17.symm]; exact h.pre
  · rw [hD 23 h17.symm, hD 25 h19.symm, if_neg h17.symm]; exact h.app_
  · rw [hD 23 h17.symm]
    exact fun e => ⟨up 13 (h.o17 e).1, up 22 (h.o17 e).2⟩
  · rw [hD 22 h16.symm]
    exact fun e => up 21 (h.o16 e)
  · rw [hD 25 h19.symm]
    exact fun e => ⟨up 23 (h.fin e).1, (h.fin e).2⟩
theorem PuM.lay (h : PuM W2 base gR gA i m T rs r v F D vs w') (hDi : D 22 = false) (h15 : D 21 = true) (hD : ∀ q, q ≠ 22 → D' q = D q) (hB : base ≤ w'.heap.size) : PuM W2 base gR gA i m T rs r v F D' (fun j => if j = 22 then .slice (some ⟨w'.heap.size, 0, none⟩) 1 1 else vs j) (w'.alloc (.cells #[.int .i64 v] 2)) := by
  have hb : Below w'.heap.size w' (w'.alloc (.cells #[.int .i64 v] 2)) := lvBelow _ _
  have d17 : D 23 = false := by
    cases e : D 23 with
    | false => rfl
    | true => rw [(h.o17 e).2] at hDi; cases hDi
  have d19 : D 25 = false := by
    cases e : D 25 with
    | false => rfl
    | true => rw [(h.fin e).1] at d17; cases d17
  have hp := h.pre d17
  refine ⟨h.keep.trans (KeepU.of_below hb hB), fun q hq q6 q7 q9 hd => ?_, fun _ => ⟨_, if_pos rfl, hp.size, fun _ => heap_alloc_new w' _⟩, fun _ => hp.trans (hb.mono hp.size), fun e => ?_, fun e => ?_, fun _ => ?_, fun e => ?_⟩
  · show (if q = 22 then _ else vs q) = _
    rw [if_neg q6]
    exact h.vals q hq q6 q7 q9 (by rw [← hD q q6]; exact hd)
  · rw [hD 23 (by decide), d17] at e; cases e
  · rw [hD 23 (by decide), d17] at e; cases e
  · rw [hD 21 (by decide)]; exact h15
  · rw [hD 25 (by decide), d19] at e; cases e
theorem PuM.app (h : PuM W2 base gR gA i m T rs r v F D vs w') (hDi : D 23 = false) (h9 : D 13 = true) (h16 : D 22 = true) {A8 : Option Addr} {c8 : Nat} (hM : MsW w' base gR gA T rs) (hO : OwnI w'' base 2 A8 c8 (r.L ++ [v])) (hG : w'.grownBy w'' (Value.slice r.A m r.c).ownBlock) (hA : ∀ b, A8 = some ⟨b, 0, none⟩ → r.A = some ⟨b, 0, none⟩ ∨ w'.heap.size ≤ b) (hr : rs[i]? = some r) (hm : r.L.length = m) (hD : ∀ q, q ≠ 23 → D' q = D q) (hDs : D' 23 = true) :
    PuM W2 base gR gA i m T rs r v F D' (fun j => if j = 23 then .slice A8 (m + 1) c8 else vs j) w'' := by
  have d19 : D 25 = false := by
    cases e : D 25 with
    | false => rfl
    | true => rw [(h.fin e).1] at hDi; cases hDi
  have hrO := hM.A.ins r (List.mem_of_getElem? hr)
  have hown : ∀ b, (Value.slice r.A m r.c).ownBlock = some b → base ≤ b ∧ ∃ cs, w'.heap[b]? = some (.cells cs 2 (0, 0)) := by
    subst hm
    intro b hb
    rcases hrO.1.2 with ⟨h1, _⟩ | ⟨g', cap, cur2, h1, h2, h3, _⟩
    · rw [h1] at hb; cases hb
    · rw [h1] at hb
      simp only [Value.ownBlock, Option.some.injEq] at hb
      subst hb
      exact ⟨h2, cur2, h3⟩
  have hk : KeepU base w' w'' := ⟨(Below.refl base w').grown hG hM.size_ fun b hb => (hown b hb).1, fun b cs t hb h1 _ => (hG.block b (lt_of_heap hb) (fun e => by
    obtain ⟨_, cs2, h3⟩ := hown b e.symm
    rw [hb] at h3
    injection h3 with h3; injection h3 with _ h3
    exact h1 h3)).trans hb⟩
  refine ⟨h.keep.trans hk, fun q hq q6 q7 q9 hd => ?_, fun e => ?_, fun e => ?_, fun _ _ => ⟨w', A8, c8, if_pos rfl, hM, hO, hG, hA⟩, fun _ => ?_, fun e => ?_, fun e => ?_⟩
  · show (if q = 23 then _ else vs q) = _
    rw [if_neg q7]
    exact h.vals q hq q6 q7 q9 (by rw [← hD q q7]; exact hd)
  · obtain ⟨g, a1, a2, _⟩ := h.lit h16
    exact ⟨g, by rw [if_neg (by decide)]; exact a1, a2, fun e2 => by rw [hDs] at e2; cases e2⟩
  · rw [hDs] at e; cases e
  · rw [hD 13 (by decide), hD 22 (by decide)]; exact ⟨h9, h16⟩
  · rw [hD 22 (by decide)] at e
    rw [hD 21 (by decide)]; exact h.o16 e
  · rw [hD 25 (by decide), d19] at e; cases e
theorem PuM.ready (h : PuM W2 base gR gA i m T rs r v F D vs w') (h17 : D 23 = true) (hDi : D 25 = false) (hr : rs[i]? = some r) (hm : r.L.length = m) :
    ∃ A8 c8, vs 23 = .slice A8 (m + 1) c8 ∧ w'.cell? ⟨gA, i, none⟩ = some (.slice r.A r.L.length r.c) ∧ w'.frozen? ⟨gA, i, none⟩ = false ∧
      ∀ (D' : Nat → Bool) (u : Value), (∀ q, q ≠ 25 → D' q = D q) → D' 25 = true → PuM W2 base gR gA i m T rs r v F D' (fun j => if j = 25 then u else vs j) (w'.setCell ⟨gA, i, none⟩ (.slice A8 (m + 1) c8)) := by
  obtain ⟨Wb, A8, c8, e17, hM, hO, hG, hA⟩ := h.app_ h17 hDi
  obtain ⟨p1, p2, p3, p4⟩ := hM.push hr hm hO hG hA
  obtain ⟨hbg, cur, hg⟩ := hM.A.heap
  have hrO := hM.A.ins r (List.mem_of_getElem? hr)
  have hne : some gA ≠ (Value.slice r.A m r.c).ownBlock := by
    subst hm
    intro e
    rcases hrO.1.2 with ⟨h1, _⟩ | ⟨g', cap, cur2, h1, _, h3, _⟩
    · rw [h1] at e; cases e
    · rw [h1] at e
      simp only [Value.ownBlock, Option.some.injEq] at e
      subst e
      rw [hg] at h3
      injection h3 with h3; injection h3 with _ h3
      exact absurd h3 (by decide)
  have hg4 : w'.heap[gA]? = some (.cells cur 28 (0, 0)) := (hG.block gA (lt_of_heap hg) hne).trans hg
  refine ⟨A8, c8, e17, p3, p4, fun D' u hD hDs => ⟨h.keep.trans ⟨(Below.refl base w').setCell (p := ⟨gA, i, none⟩) hbg _, fun b cs t hb h1 h2 => ?_⟩, fun q hq q6 q7 q9 hd => ?_, fun e => ?_, fun e => ?_, fun _ e => ?_, fun _ => ?_, fun e => ?_, fun _ => ⟨?_, A8, c8, p1⟩⟩⟩
  · refine (heap_setCell_other w' _ b _ (fun e => ?_)).trans hb
    have e : b = gA := e
    subst e
    rw [hg4] at hb
    injection hb with hb; injection hb with _ hb
    exact h2 hb.symm
  · show (if q = 25 then u else vs q) = _
    rw [if_neg q9]
    exact h.vals q hq q6 q7 q9 (by rw [← hD q q9]; exact hd)
  · rw [hD 22 (by decide)] at e
    obtain ⟨g, a1, a2, _⟩ := h.lit e
    exact ⟨g, by rw [if_neg (by decide)]; exact a1, a2, fun e2 => by rw [hD 23 (by decide), h17] at e2; cases e2⟩
  · rw [hD 23 (by decide), h17] at e; cases e
  · rw [hDs] at e; cases e
  · rw [hD 13 (by decide), hD 22 (by decide)]; exact h.o17 h17
  · rw [hD 22 (by decide)] at e
    rw [hD 21 (by decide)]; exact h.o16 e
  · rw [hD 23 (by decide)]; exact h17
theorem PuM.same (h : PuM W2 base gR gA i m T rs r v F D vs w') (hD : ∀ q, q < 26 → D q = D' q) : PuM W2 base gR gA i m T rs r v F D' vs w' := by
  have e9 := hD 13 (by decide); have e15 := hD 21 (by decide); have e16 := hD 22 (by decide); have e17 := hD 23 (by decide); have e19 := hD 25 (by decide)
  refine ⟨h.keep, fun q hq q6 q7 q9 hd => h.vals q hq q6 q7 q9 (by rw [hD q hq]; exact hd), ?_, ?_, ?_, ?_, ?_, ?_⟩
  · rw [← e16, ← e17]; exact h.lit
  · rw [← e17]; exact h.pre
  · rw [← e17, ← e19]; exact h.app_
  · rw [← e17, ← e9, ← e16]; exact h.o17
  · rw [← e16, ← e15]; exact h.o16
  · rw [← e19, ← e17]; exact h.fin
end
theorem mc_cells {w : World} {m : Mc} {at_ st ce : Nat} {en : Bool} {t : TypeId} (h : w.heap[m.g]? = some (.cells (m.cs at_ st ce en).toArray t (0, 0))) : w.cell? ⟨m.g, 0, none⟩ = some (.slice (some ⟨m.gO, 0, none⟩) m.na m.na) ∧ w.cell? ⟨m.g, 7, none⟩ = some (.slice (some ⟨m.gR, 0, none⟩) m.nr m.nr) := ⟨cell_of_row _ _ _ _ _ _ h, cell_of_row _ _ _ _ _ _ h⟩
end Go.Proofs.YtgkngimeokhhgaaGreatDoor
/- What the machine's instructions do: one more number. -/
namespace Go.Proofs.YtgkngimeokhhgaaGreatDoor
open Go.RowKit Go.Sort

set_option maxRecDepth 100000 in
set_option maxHeartbeats 8000000 in
theorem act_9 (m : Mc) (s : Ms) (rs : List RowU) (base : Nat) (w : World) (c n : Int) (i j : Nat) (h : MsM w base m s rs false) (_t0 : s.at_ ≤ 1000000) (_t1 : s.st ≤ 1000000) (t2 : s.ce ≤ 1000000) (hrv : ∀ i, I64 (s.r i)) (hi : i < s.A.length) (hi9 : i ≤ 1000) (hI : m.ins.length = m.i) (hI9 : m.i ≤ 1000) (hj : j < m.nr) (hlen : ∀ i, (s.a i).length ≤ 900000) (hown : m.i ≤ i) (hce : (s.ce : Int) ≤ m.cells) :
    Calls Tryz.prog 55 #[.pointer (some ⟨m.g, 0, none⟩), Ji.val (⟨9, (i : Int), (j : Int), c, n⟩)] w (ActP base m s (⟨9, (i : Int), (j : Int), c, n⟩) w) := by
  have hmx : Tryz.prog.follows .mixedOrders = true := by kernel_rfl
  obtain ⟨W0, hW0⟩ : ∃ W, w.alloc (Ji.obj (⟨9, (i : Int), (j : Int), c, n⟩)) = W := ⟨_, rfl⟩
  obtain ⟨g0, hg0⟩ : ∃ z, w.heap.size = z := ⟨_, rfl⟩
  have hb0 := lvBelow w (Ji.obj (⟨9, (i : Int), (j : Int), c, n⟩))
  have h2 := heap_alloc_new w (Ji.obj (⟨9, (i : Int), (j : Int), c, n⟩))
  rw [hW0] at hb0 h2
  rw [hg0] at h2
  have HB0 : Hid (BelI base w W0) := .of hb0 h.size_
  have HM0 := Lib.hid (h.on hb0)
  have HX0 := Lib.hid h2
  have HRV := Lib.hid hrv
  clear hb0 h2 h hrv
  go_enter Tryz.func55, Tryz.ntmps55
  go_upto_region 1 with fail
  try rw [hW0]
  try rw [hg0]
  clear hW0 hg0
  obtain ⟨x0, x1, x2, x3, x4, x5, x6, x7, x8, x9, x10, x11, x12, x13⟩ := MsM.cells HM0.out
  obtain ⟨⟨y0, y1, y2, y3, y4⟩, _⟩ := box_cellsJ HX0.out
  have hj0 : (0 : Int) ≤ (j : Int) := by omega
  have hj1 : (j : Int) < (m.nr : Int) := by omega
  obtain ⟨u, hu⟩ : ∃ u, (s.ce : Int) = u := ⟨_, rfl⟩
  have HIN0 : Hid True := trivial
  rw [hu] at x2
  obtain ⟨bb, hbb⟩ : ∃ bb, (u == m.cells) = bb := ⟨_, rfl⟩
  have HBB := Lib.hid hbb
  have HU := Lib.hid hu
  clear hu
  clear x0 x1 x3 x4 x5 x6 x7 x8 x9 x11 x12 x13 y0 y1 y2 y3 y4
  have xx2 := cell_regrown x2
  have xx10 := cell_regrown x10
  refine wp_region_quiet_below hmx (by kernel_rfl) ?_
  repeat (quiet_step (fail))
  refine wpQuiet_nil ?_
  intro _ hw'
  obtain ⟨⟨dq, osq⟩, hw''⟩ := hw'
  subst hw''
  obtain ⟨W9, hW9⟩ : ∃ W, grow (redrawn W0 dq) osq = W := ⟨_, rfl⟩
  have hb9 := below_regrown W0 dq osq
  rw [hW9] at hb9 ⊢
  have HM9 := Lib.hid (HM0.out.on hb9)
  have HB9 := Lib.hid (HB0.out.trans (.of hb9 HM0.out.size_))
  have HX9 := Lib.hid (keep_b hb9 HX0.out)
  clear xx2 xx10 x2 x10 hW9 hb9
  cases bb with
  | true =>
    have HER : Hid (m.cells ≤ (s.ce : Int)) := by have h1 : u = m.cells := by simpa using HBB.out
                                                  have h2 := HU.out
                                                  unfold Hid; omega
    go_wp2_with fail
    go_ret
    exact .inr ⟨10, (by unfold doM; simp only [if_true, if_false, Int.reduceEq]; rw [if_pos HER.out]), rfl, HB9.out⟩
  | false =>
    have HNE : Hid (¬ m.cells ≤ (s.ce : Int)) := by have h1 : u ≠ m.cells := by simpa using HBB.out
                                                    have h2 := HU.out
                                                    unfold Hid; omega
    obtain rfl := HU.out
    obtain ⟨S1, hS1⟩ : ∃ S1 : Ms, ({ s with ce := s.ce + 1 } : Ms) = S1 := ⟨_, rfl⟩
    have HS1 := Lib.hid hS1
    have hf := HM9.out.field (i := 2) (v := .int .i64 ((s.ce : Int) + 1)) (s' := S1) (en' := false) (by rw [← hS1]) (by rw [← hS1]) (by rw [← hS1]; rfl)
    have z2 := HM9.out.fz 2
    obtain ⟨x0, x1, x2, x3, x4, x5, x6, x7, x8, x9, x10, x11, x12, x13⟩ := MsM.cells HM9.out
    have HXA : Hid ((W9.setCell ⟨m.g, 2, none⟩ (.int .i64 ((s.ce : Int) + 1))).heap[g0]? = some (Ji.obj ⟨9, (i : Int), (j : Int), c, n⟩)) := by
      unfold Hid
      rw [heap_setCell_other _ _ _ _ (fun e => by
        have e : g0 = m.g := e
        have h1 := HX9.out
        rw [e, HM9.out.H] at h1
        injection h1 with h1; injection h1 with _ h1
        exact absurd h1 (by decide))]
      exact HX9.out
    obtain ⟨W1, hW1⟩ : ∃ W, W9.setCell ⟨m.g, 2, none⟩ (.int .i64 ((s.ce : Int) + 1)) = W := ⟨_, rfl⟩
    rw [hW1] at hf HXA
    have HM1 := Lib.hid hf.1
    have HB1 := Lib.hid (HB9.out.trans hf.2)
    have HX1 := HXA
    clear hf hS1 hbb
    go_upto_region 4 with fail
    try rw [hW1]
    clear hW1 z2
    clear x0 x1 x2 x3 x4 x5 x6 x7 x8 x9 x10 x11 x12 x13
    obtain ⟨x0, x1, x2, x3, x4, x5, x6, x7, x8, x9, x10, x11, x12, x13⟩ := MsM.cells HM1.out
    obtain ⟨⟨y0, y1, y2, y3, y4⟩, _⟩ := box_cellsJ HX1.out
    obtain ⟨p, hp⟩ : ∃ p, i - m.i = p := ⟨_, rfl⟩
    have hs : (i : Int) - (m.i : Int) = (p : Int) := by omega
    have hwp : IntKind.i64.wrap (p : Int) = (p : Int) := by rw [wrap_eq]; exact IntWalk.wrap64_in _ ⟨by omega, by omega⟩
    have HP := Lib.hid hp
    clear hp
    clear x0 x1 x2 x3 x4 x6 x7 x8 x9 x10 x11 x12 x13 y0 y2 y3 y4
    have xx5 := cell_regrown x5
    have xy1 := cell_regrown y1
    refine wp_region_quiet_below hmx (by kernel_rfl) ?_
    repeat (quiet_step (fail))
    refine wpQuiet_nil ?_
    intro _ hw'
    obtain ⟨⟨dq, osq⟩, hw''⟩ := hw'
    subst hw''
    obtain ⟨W8, hW8⟩ : ∃ W, grow (redrawn W1 dq) osq = W := ⟨_, rfl⟩
    have hb8 := below_regrown W1 dq osq
    rw [hW8] at hb8 ⊢
    have HM8 := Lib.hid (HM1.out.on hb8)
    have HB8 := Lib.hid (HB1.out.trans (.of hb8 HM1.out.size_))
    have HX8 := Lib.hid (keep_b hb8 HX1.out)
    clear xx5 xy1 x5 y1 hW8 hb8
    go_upto_region 5 with fail
    clear hs hwp
    obtain ⟨hpn, r, hrr, hrL, hrO, d1, _⟩ := HM8.out.rowO (k := i) hown (by rw [← HS1.out]; exact hi)
    rw [HP.out] at hpn hrr d1
    have ha : S1.a (i : Int) = s.a (i : Int) := by rw [← HS1.out]; rfl
    rw [ha] at hrL d1
    obtain ⟨mm, hmm⟩ : ∃ mm, (s.a (i : Int)).length = mm := ⟨_, rfl⟩
    have hm9 : mm ≤ 900000 := by rw [← hmm]; exact hlen _
    rw [hmm] at d1
    have HRR := Lib.hid hrr.out
    have HRL : Hid (r.L.length = mm) := by rw [hrL]; exact hmm
    have HRE := Lib.hid hrL
    have HRO := Lib.hid hrO
    have HMM := Lib.hid hmm
    have HD1 := Lib.hid d1
    have b0 : W8.cell? ⟨m.gR, j, none⟩ = some (.int .i64 (s.r (j : Int))) := by
      have h1 := (HM8.out.reg (i := j) hj).1
      rwa [show S1.r (j : Int) = s.r (j : Int) by rw [← HS1.out]; rfl] at h1
    have HB8c := Lib.hid b0
    have HMA : Hid (MsW W8 base m.gR m.gO (s.own m.i) rs) := by
      have h1 := HM8.out.M
      have e : S1.R = s.R ∧ S1.A = s.A := by rw [← HS1.out]; exact ⟨rfl, rfl⟩
      refine ⟨?_, h1.A, ?_, h1.far⟩
      · have := h1.R
        show OwnI _ base 2 _ s.R.length s.R
        rw [← e.1]; exact this
      · have := h1.L
        show _ = s.A.drop m.i
        rw [← e.2]; exact this
    have HH : Hid (W8.heap[m.g]? = some (.cells (m.cs S1.at_ S1.st S1.ce false).toArray 52 (0, 0))) := HM8.out.H
    obtain ⟨i6, hi6, hy0, hy1, hy2⟩ := info_parts infoInt64
    have hle : mm + 1 ≤ 1000000 := by omega
    have HI6 := Lib.hid (And.intro hi6 (And.intro hy0 (And.intro hy1 hy2)))
    have HRJ := Lib.hid (HRV.out (j : Int))
    have p0 : (0 : Int) ≤ (p : Int) := by omega
    have p1 : (p : Int) < (m.na : Int) := by omega
    clear b0 d1 hi6 hy0 hy1 hy2 hrr hrL hrO hmm ha hpn
    let F : Nat → Value := fun o => match o with
      | 0 => .pointer (some ⟨m.g, 0, none⟩)
      | 1 => .pointer (some ⟨m.g, 0, none⟩)
      | 2 => .pointer (some ⟨m.g, 0, none⟩)
      | 3 => .pointer (some ⟨m.g, 0, none⟩)
      | 4 => .slice (some ⟨m.gO, 0, none⟩) m.na m.na
      | 5 => .int .i64 (p : Int)
      | 6 => .pointer (some ⟨m.g, 0, none⟩)
      | 7 => .pointer (some ⟨m.g, 0, none⟩)
      | 8 => .pointer (some ⟨m.g, 0, none⟩)
      | 9 => .pointer (some ⟨m.g, 0, none⟩)
      | 10 => .slice (some ⟨m.gO, 0, none⟩) m.na m.na
      | 11 => .int .i64 (p : Int)
      | 12 => .pointer (some ⟨m.gO, p, none⟩)
      | 13 => .slice r.A mm r.c
      | 14 => .pointer (some ⟨m.g, 0, none⟩)
      | 15 => .pointer (some ⟨m.g, 0, none⟩)
      | 16 => .pointer (some ⟨m.g, 7, none⟩)
      | 17 => .slice (some ⟨m.gR, 0, none⟩) m.nr m.nr
      | 18 => .pointer (some ⟨g0, 2, none⟩)
      | 19 => .int .i64 (j : Int)
      | 20 => .pointer (some ⟨m.gR, j, none⟩)
      | 21 => .int .i64 (s.r (j : Int))
      | 24 => .pointer (some ⟨m.gO, p, none⟩)
      | _ => undef
    refine wp_region_joint (PuM W8 base m.gR m.gO p mm (s.own m.i) rs r (s.r (j : Int)) F) hmx (by kernel_rfl) (by kernel_rfl) ?_ ?_ ?_ ?_
    · intro D vs hD
      exact ⟨KeepU.of_below (Below.refl _ _).drew HMA.out.size_, fun o ho _ _ _ hd => (by rw [hD o ho] at hd; cases hd), fun hd => (by rw [hD 22 (by decide)] at hd; cases hd), fun _ => (Below.refl _ _).drew, fun hd => (by rw [hD 23 (by decide)] at hd; cases hd), fun hd => (by rw [hD 23 (by decide)] at hd; cases hd), fun hd => (by rw [hD 22 (by decide)] at hd; cases hd), fun hd => (by rw [hD 25 (by decide)] at hd; cases hd)⟩
    · intro o o9 ho D vs w2 hJ hDi hd K hK
      have hi9 : o < 26 := (List.getElem?_eq_some_iff.1 ho).1
      generalize hlit : putV vs 0 _ _ = z at hK ⊢
      simp only [List.map_cons, List.map_nil, putV, Act.put, List.setIfInBounds_toArray, List.set_cons_succ, List.set_cons_zero] at hlit
      subst hlit
      rcases (by omega : o = 0 ∨ o = 1 ∨ o = 2 ∨ o = 3 ∨ o = 4 ∨ o = 5 ∨ o = 6 ∨ o = 7 ∨ o = 8 ∨ o = 9 ∨ o = 10 ∨ o = 11 ∨ o = 12 ∨ o = 13 ∨ o = 14 ∨ o = 15 ∨ o = 16 ∨ o = 17 ∨ o = 18 ∨ o = 19 ∨ o = 20 ∨ o = 21 ∨ o = 22 ∨ o = 23 ∨ o = 24 ∨ o = 25) with rfl | rfl | rfl | rfl | rfl | rfl | rfl | rfl | rfl | rfl | rfl | rfl | rfl | rfl | rfl | rfl | rfl | rfl | rfl | rfl | rfl | rfl | rfl | rfl | rfl | rfl
      · -- 0
        obtain rfl := Option.some.inj ho
        clear ho hd hi9
        go_simp
        exact hK _ (F 0) _ (fun q => q == 0 || D q) (by simp [Act.put]; try rfl) (fun q hq => by simp [hq]) (by simp) (hJ.other (by decide) (fun q hq => by simp [hq]) (by simp))
      · -- 1
        obtain rfl := Option.some.inj ho
        have v0 : vs 0 = F 0 := hJ.vals 0 (by decide) (by decide) (by decide) (by decide) (hd 0 (by kernel_rfl))
        clear ho hd hi9
        dsimp only [F] at v0
        go_simp
        exact hK _ (F 1) _ (fun q => q == 1 || D q) (by simp [Act.put, v0]; try rfl) (fun q hq => by simp [hq]) (by simp) (hJ.other (by decide) (fun q hq => by simp [hq]) (by simp))
      · -- 2
        obtain rfl := Option.some.inj ho
        have v1 : vs 1 = F 1 := hJ.vals 1 (by decide) (by decide) (by decide) (by decide) (hd 1 (by kernel_rfl))
        clear ho hd hi9
        dsimp only [F] at v1
        go_simp
        exact hK _ (F 2) _ (fun q => q == 2 || D q) (by simp [Act.put, v1]; try rfl) (fun q hq => by simp [hq]) (by simp) (hJ.other (by decide) (fun q hq => by simp [hq]) (by simp))
      · -- 3
        obtain rfl := Option.some.inj ho
        have v2 : vs 2 = F 2 := hJ.vals 2 (by decide) (by decide) (by decide) (by decide) (hd 2 (by kernel_rfl))
        clear ho hd hi9
        dsimp only [F] at v2
        go_simp
        exact hK _ (F 3) _ (fun q => q == 3 || D q) (by simp [Act.put, v2]; try rfl) (fun q hq => by simp [hq]) (by simp) (hJ.other (by decide) (fun q hq => by simp [hq]) (by simp))
      · -- 4
        obtain rfl := Option.some.inj ho
        have v3 : vs 3 = F 3 := hJ.vals 3 (by decide) (by decide) (by decide) (by decide) (hd 3 (by kernel_rfl))
        obtain ⟨r0, r7⟩ := mc_cells (hJ.keep.blk _ _ _ HH.out (by decide) (by decide))
        clear ho hd hi9
        dsimp only [F] at v3
        go_simp
        exact hK _ (F 4) _ (fun q => q == 4 || D q) (by simp [Act.put, v3]; try rfl) (fun q hq => by simp [hq]) (by simp) (hJ.other (by decide) (fun q hq => by simp [hq]) (by simp))
      · -- 5
        obtain rfl := Option.some.inj ho
        clear ho hd hi9
        go_simp
        exact hK _ (F 5) _ (fun q => q == 5 || D q) (by simp [Act.put]; try rfl) (fun q hq => by simp [hq]) (by simp) (hJ.other (by decide) (fun q hq => by simp [hq]) (by simp))
      · -- 6
        obtain rfl := Option.some.inj ho
        clear ho hd hi9
        go_simp
        exact hK _ (F 6) _ (fun q => q == 6 || D q) (by simp [Act.put]; try rfl) (fun q hq => by simp [hq]) (by simp) (hJ.other (by decide) (fun q hq => by simp [hq]) (by simp))
      · -- 7
        obtain rfl := Option.some.inj ho
        have v6 : vs 6 = F 6 := hJ.vals 6 (by decide) (by decide) (by decide) (by decide) (hd 6 (by kernel_rfl))
        clear ho hd hi9
        dsimp only [F] at v6
        go_simp
        exact hK _ (F 7) _ (fun q => q == 7 || D q) (by simp [Act.put, v6]; try rfl) (fun q hq => by simp [hq]) (by simp) (hJ.other (by decide) (fun q hq => by simp [hq]) (by simp))
      · -- 8
        obtain rfl := Option.some.inj ho
        have v7 : vs 7 = F 7 := hJ.vals 7 (by decide) (by decide) (by decide) (by decide) (hd 7 (by kernel_rfl))
        clear ho hd hi9
        dsimp only [F] at v7
        go_simp
        exact hK _ (F 8) _ (fun q => q == 8 || D q) (by simp [Act.put, v7]; try rfl) (fun q hq => by simp [hq]) (by simp) (hJ.other (by decide) (fun q hq => by simp [hq]) (by simp))
      · -- 9
        obtain rfl := Option.some.inj ho
        have v8 : vs 8 = F 8 := hJ.vals 8 (by decide) (by decide) (by decide) (by decide) (hd 8 (by kernel_rfl))
        clear ho hd hi9
        dsimp only [F] at v8
        go_simp
        exact hK _ (F 9) _ (fun q => q == 9 || D q) (by simp [Act.put, v8]; try rfl) (fun q hq => by simp [hq]) (by simp) (hJ.other (by decide) (fun q hq => by simp [hq]) (by simp))
      · -- 10
        obtain rfl := Option.some.inj ho
        have v9 : vs 9 = F 9 := hJ.vals 9 (by decide) (by decide) (by decide) (by decide) (hd 9 (by kernel_rfl))
        obtain ⟨r0, r7⟩ := mc_cells (hJ.keep.blk _ _ _ HH.out (by decide) (by decide))
        clear ho hd hi9
        dsimp only [F] at v9
        go_simp
        exact hK _ (F 10) _ (fun q => q == 10 || D q) (by simp [Act.put, v9]; try rfl) (fun q hq => by simp [hq]) (by simp) (hJ.other (by decide) (fun q hq => by simp [hq]) (by simp))
      · -- 11
        obtain rfl := Option.some.inj ho
        clear ho hd hi9
        go_simp
        exact hK _ (F 11) _ (fun q => q == 11 || D q) (by simp [Act.put]; try rfl) (fun q hq => by simp [hq]) (by simp) (hJ.other (by decide) (fun q hq => by simp [hq]) (by simp))
      · -- 12
        obtain rfl := Option.some.inj ho
        have v10 : vs 10 = F 10 := hJ.vals 10 (by decide) (by decide) (by decide) (by decide) (hd 10 (by kernel_rfl))
        have v11 : vs 11 = F 11 := hJ.vals 11 (by decide) (by decide) (by decide) (by decide) (hd 11 (by kernel_rfl))
        clear ho hd hi9
        dsimp only [F] at v10
        dsimp only [F] at v11
        go_simp
        exact hK _ (F 12) _ (fun q => q == 12 || D q) (by simp [Act.put, v10, v11]; try rfl) (fun q hq => by simp [hq]) (by simp) (hJ.other (by decide) (fun q hq => by simp [hq]) (by simp))
      · -- 13
        obtain rfl := Option.some.inj ho
        have v12 : vs 12 = F 12 := hJ.vals 12 (by decide) (by decide) (by decide) (by decide) (hd 12 (by kernel_rfl))
        have h17 := hJ.not17 (.inl hDi)
        have hc := ((hJ.pre h17).cell (World.block_lt_of_cell? _ _ HD1.out)).trans HD1.out
        clear ho hd hi9
        dsimp only [F] at v12
        go_simp
        exact hK _ (F 13) _ (fun q => q == 13 || D q) (by simp [Act.put, v12]; try rfl) (fun q hq => by simp [hq]) (by simp) (hJ.other (by decide) (fun q hq => by simp [hq]) (by simp))
      · -- 14
        obtain rfl := Option.some.inj ho
        clear ho hd hi9
        go_simp
        exact hK _ (F 14) _ (fun q => q == 14 || D q) (by simp [Act.put]; try rfl) (fun q hq => by simp [hq]) (by simp) (hJ.other (by decide) (fun q hq => by simp [hq]) (by simp))
      · -- 15
        obtain rfl := Option.some.inj ho
        have v14 : vs 14 = F 14 := hJ.vals 14 (by decide) (by decide) (by decide) (by decide) (hd 14 (by kernel_rfl))
        clear ho hd hi9
        dsimp only [F] at v14
        go_simp
        exact hK _ (F 15) _ (fun q => q == 15 || D q) (by simp [Act.put, v14]; try rfl) (fun q hq => by simp [hq]) (by simp) (hJ.other (by decide) (fun q hq => by simp [hq]) (by simp))
      · -- 16
        obtain rfl := Option.some.inj ho
        have v15 : vs 15 = F 15 := hJ.vals 15 (by decide) (by decide) (by decide) (by decide) (hd 15 (by kernel_rfl))
        clear ho hd hi9
        dsimp only [F] at v15
        go_simp
        exact hK _ (F 16) _ (fun q => q == 16 || D q) (by simp [Act.put, v15]; try rfl) (fun q hq => by simp [hq]) (by simp) (hJ.other (by decide) (fun q hq => by simp [hq]) (by simp))
      · -- 17
        obtain rfl := Option.some.inj ho
        have v16 : vs 16 = F 16 := hJ.vals 16 (by decide) (by decide) (by decide) (by decide) (hd 16 (by kernel_rfl))
        obtain ⟨r0, r7⟩ := mc_cells (hJ.keep.blk _ _ _ HH.out (by decide) (by decide))
        clear ho hd hi9
        dsimp only [F] at v16
        go_simp
        exact hK _ (F 17) _ (fun q => q == 17 || D q) (by simp [Act.put, v16]; try rfl) (fun q hq => by simp [hq]) (by simp) (hJ.other (by decide) (fun q hq => by simp [hq]) (by simp))
      · -- 18
        obtain rfl := Option.some.inj ho
        clear ho hd hi9
        go_simp
        exact hK _ (F 18) _ (fun q => q == 18 || D q) (by simp [Act.put]; try rfl) (fun q hq => by simp [hq]) (by simp) (hJ.other (by decide) (fun q hq => by simp [hq]) (by simp))
      · -- 19
        obtain rfl := Option.some.inj ho
        have v18 : vs 18 = F 18 := hJ.vals 18 (by decide) (by decide) (by decide) (by decide) (hd 18 (by kernel_rfl))
        obtain ⟨⟨_, y1, y2, _, _⟩, _⟩ := box_cellsJ (hJ.keep.blk _ _ _ HX8.out (by decide) (by decide))
        clear ho hd hi9
        dsimp only [F] at v18
        go_simp
        exact hK _ (F 19) _ (fun q => q == 19 || D q) (by simp [Act.put, v18]; try rfl) (fun q hq => by simp [hq]) (by simp) (hJ.other (by decide) (fun q hq => by simp [hq]) (by simp))
      · -- 20
        obtain rfl := Option.some.inj ho
        have v17 : vs 17 = F 17 := hJ.vals 17 (by decide) (by decide) (by decide) (by decide) (hd 17 (by kernel_rfl))
        have v19 : vs 19 = F 19 := hJ.vals 19 (by decide) (by decide) (by decide) (by decide) (hd 19 (by kernel_rfl))
        clear ho hd hi9
        dsimp only [F] at v17
        dsimp only [F] at v19
        go_simp
        exact hK _ (F 20) _ (fun q => q == 20 || D q) (by simp [Act.put, v17, v19]; try rfl) (fun q hq => by simp [hq]) (by simp) (hJ.other (by decide) (fun q hq => by simp [hq]) (by simp))
      · -- 21
        obtain rfl := Option.some.inj ho
        have v20 : vs 20 = F 20 := hJ.vals 20 (by decide) (by decide) (by decide) (by decide) (hd 20 (by kernel_rfl))
        have h17 := hJ.not17 (.inr hDi)
        have hc := ((hJ.pre h17).cell (World.block_lt_of_cell? _ _ HB8c.out)).trans HB8c.out
        clear ho hd hi9
        dsimp only [F] at v20
        go_simp
        exact hK _ (F 21) _ (fun q => q == 21 || D q) (by simp [Act.put, v20]; try rfl) (fun q hq => by simp [hq]) (by simp) (hJ.other (by decide) (fun q hq => by simp [hq]) (by simp))
      · -- 22
        obtain rfl := Option.some.inj ho
        have v21 : vs 21 = F 21 := hJ.vals 21 (by decide) (by decide) (by decide) (by decide) (hd 21 (by kernel_rfl))
        have h15 := hd 21 (by kernel_rfl)
        clear ho hd hi9
        dsimp only [F] at v21
        go_simp
        exact hK _ (.slice (some ⟨w2.heap.size, 0, none⟩) 1 1) _ (fun q => q == 22 || D q) (by simp [Act.put, v21]; try rfl) (fun q hq => by simp [hq]) (by simp) (hJ.lay hDi h15 (fun q hq => by simp [hq]) (Nat.le_trans HMA.out.size_ hJ.keep.bel.size))
      · -- 23
        obtain rfl := Option.some.inj ho
        have v13 : vs 13 = F 13 := hJ.vals 13 (by decide) (by decide) (by decide) (by decide) (hd 13 (by kernel_rfl))
        have h9 := hd 13 (by kernel_rfl)
        have h16 := hd 22 (by kernel_rfl)
        obtain ⟨gl, v16, hgl, hlit⟩ := hJ.lit h16
        have hgl2 := hlit hDi
        have hbp := hJ.pre hDi
        have hMb := HMA.out.on hbp
        have hOb := HRO.out.below hbp (Nat.le_refl _)
        have hsrc : Ints w2 (gl + 1) (some ⟨gl, 0, none⟩) 1 [s.r (j : Int)] := ints_lit hgl2 HRJ.out
        have hbs : base ≤ w2.heap.size := hMb.size_
        clear ho hd hi9
        dsimp only [F] at v13
        refine step_appendWhereU rfl (.tmp 46) (.tmp 55) 28 rfl base 2 i6 Tryz.underlying28 HI6.out.1 HI6.out.2.1 HI6.out.2.2.1 HI6.out.2.2.2 r.A (some ⟨gl, 0, none⟩) r.c 1 1 (gl + 1) mm (mm + 1) r.L [s.r (j : Int)] v13 v16 hOb HRL.out rfl hsrc hle hbs ?_
        intro A8 c8 w8 hO8 hG8 hA8
        exact hK _ (.slice A8 (mm + 1) c8) w8 (fun q => q == 23 || D q) rfl (fun q hq => by simp [hq]) (by simp) (hJ.app hDi h9 h16 hMb hO8 hG8 hA8 HRR.out HRL.out (fun q hq => by simp [hq]) (by simp))
      · -- 24
        obtain rfl := Option.some.inj ho
        have v4 : vs 4 = F 4 := hJ.vals 4 (by decide) (by decide) (by decide) (by decide) (hd 4 (by kernel_rfl))
        have v5 : vs 5 = F 5 := hJ.vals 5 (by decide) (by decide) (by decide) (by decide) (hd 5 (by kernel_rfl))
        clear ho hd hi9
        dsimp only [F] at v4
        dsimp only [F] at v5
        go_simp
        exact hK _ (F 24) _ (fun q => q == 24 || D q) (by simp [Act.put, v4, v5]; try rfl) (fun q hq => by simp [hq]) (by simp) (hJ.other (by decide) (fun q hq => by simp [hq]) (by simp))
      · -- 25
        obtain rfl := Option.some.inj ho
        have v24 : vs 24 = F 24 := hJ.vals 24 (by decide) (by decide) (by decide) (by decide) (hd 24 (by kernel_rfl))
        have h17 := hd 23 (by kernel_rfl)
        obtain ⟨A8, c8, v17, hcell, hfr, hst⟩ := hJ.ready h17 hDi HRR.out HRL.out
        clear ho hd hi9
        dsimp only [F] at v24
        go_simp
        exact hK _ undef _ (fun q => q == 25 || D q) (by simp [Act.put, v17, v24]; try rfl) (fun q hq => by simp [hq]) (by simp) (hst _ undef (fun q hq => by simp [hq]) (by simp))
    · intro D vs w5 hJ hall
      obtain ⟨A8, c8, hM8⟩ := hJ.done (hall 25 (by decide))
      have v0 : vs 0 = F 0 := hJ.vals 0 (by decide) (by decide) (by decide) (by decide) (hall 0 (by decide))
      have v1 : vs 1 = F 1 := hJ.vals 1 (by decide) (by decide) (by decide) (by decide) (hall 1 (by decide))
      have v2 : vs 2 = F 2 := hJ.vals 2 (by decide) (by decide) (by decide) (by decide) (hall 2 (by decide))
      have v3 : vs 3 = F 3 := hJ.vals 3 (by decide) (by decide) (by decide) (by decide) (hall 3 (by decide))
      have v4 : vs 4 = F 4 := hJ.vals 4 (by decide) (by decide) (by decide) (by decide) (hall 4 (by decide))
      have v5 : vs 5 = F 5 := hJ.vals 5 (by decide) (by decide) (by decide) (by decide) (hall 5 (by decide))
      have v6 : vs 6 = F 6 := hJ.vals 6 (by decide) (by decide) (by decide) (by decide) (hall 6 (by decide))
      have v7 : vs 7 = F 7 := hJ.vals 7 (by decide) (by decide) (by decide) (by decide) (hall 7 (by decide))
      have v8 : vs 8 = F 8 := hJ.vals 8 (by decide) (by decide) (by decide) (by decide) (hall 8 (by decide))
      have v9 : vs 9 = F 9 := hJ.vals 9 (by decide) (by decide) (by decide) (by decide) (hall 9 (by decide))
      have v10 : vs 10 = F 10 := hJ.vals 10 (by decide) (by decide) (by decide) (by decide) (hall 10 (by decide))
      have v11 : vs 11 = F 11 := hJ.vals 11 (by decide) (by decide) (by decide) (by decide) (hall 11 (by decide))
      have v12 : vs 12 = F 12 := hJ.vals 12 (by decide) (by decide) (by decide) (by decide) (hall 12 (by decide))
      have v13 : vs 13 = F 13 := hJ.vals 13 (by decide) (by decide) (by decide) (by decide) (hall 13 (by decide))
      have v14 : vs 14 = F 14 := hJ.vals 14 (by decide) (by decide) (by decide) (by decide) (hall 14 (by decide))
      have v15 : vs 15 = F 15 := hJ.vals 15 (by decide) (by decide) (by decide) (by decide) (hall 15 (by decide))
      have v16 : vs 16 = F 16 := hJ.vals 16 (by decide) (by decide) (by decide) (by decide) (hall 16 (by decide))
      have v17 : vs 17 = F 17 := hJ.vals 17 (by decide) (by decide) (by decide) (by decide) (hall 17 (by decide))
      have v18 : vs 18 = F 18 := hJ.vals 18 (by decide) (by decide) (by decide) (by decide) (hall 18 (by decide))
      have v19 : vs 19 = F 19 := hJ.vals 19 (by decide) (by decide) (by decide) (by decide) (hall 19 (by decide))
      have v20 : vs 20 = F 20 := hJ.vals 20 (by decide) (by decide) (by decide) (by decide) (hall 20 (by decide))
      have v21 : vs 21 = F 21 := hJ.vals 21 (by decide) (by decide) (by decide) (by decide) (hall 21 (by decide))
      have v24 : vs 24 = F 24 := hJ.vals 24 (by decide) (by decide) (by decide) (by decide) (hall 24 (by decide))
      dsimp only [F] at v0 v1 v2 v3 v4 v5 v6 v7 v8 v9 v10 v11 v12 v13 v14 v15 v16 v17 v18 v19 v20 v21 v24
      have HMF : Hid (MsM w5 base m ({ s.arr (i : Int) (s.a (i : Int) ++ [s.r (j : Int)]) with ce := s.ce + 1 } : Ms) (rs.set p ⟨A8, c8, r.L ++ [s.r (j : Int)]⟩) false) := by
        have e1 : (s.own m.i).a (p : Int) = s.a (i : Int) := by rw [← HP.out]; exact own_a s hown
        have e2 := own_arr s hown (s.a (i : Int) ++ [s.r (j : Int)])
        rw [HP.out] at e2
        rw [e1, e2] at hM8
        refine HM8.out.other hJ.keep hM8 (by rw [← HS1.out]; rfl) (by rw [← HS1.out]; rfl) (by rw [← HS1.out]) ?_ (by rw [← HS1.out]; rfl) ?_
        · rw [← HS1.out]; exact arr_take s hown _
        · rw [← HS1.out]; show (s.A.set _ _).length = s.A.length; rw [List.length_set]
      have HBF := Lib.hid (HB8.out.trans (.ofK hJ.keep))
      generalize hlit : putV vs 0 _ _ = z
      simp only [List.map_cons, List.map_nil, putV, Act.put, List.setIfInBounds_toArray, List.set_cons_succ, List.set_cons_zero] at hlit
      rw [v0, v1, v2, v3, v4, v5, v6, v7, v8, v9, v10, v11, v12, v13, v14, v15, v16, v17, v18, v19, v20, v21, v24] at hlit
      generalize vs 22 = u16 at hlit
      generalize vs 23 = u17 at hlit
      subst hlit
      clear hJ hall v0 v1 v2 v3 v4 v5 v6 v7 v8 v9 v10 v11 v12 v13 v14 v15 v16 v17 v18 v19 v20 v21 v24 hM8
      clear F
      go_wp2_with fail
      go_ret
      exact .inl ⟨_, _, (by unfold doM; simp only [if_true, if_false, Int.reduceEq]; rw [if_neg (Int.not_le.2 HNE.out)]), rfl, HMF.out, HBF.out⟩
    · exact fun D D' vs w' hD h => h.same hD
end Go.Proofs.YtgkngimeokhhgaaGreatDoor
