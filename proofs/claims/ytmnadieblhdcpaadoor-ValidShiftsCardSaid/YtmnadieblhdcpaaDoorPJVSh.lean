/- purflelaw15.ValidShifts returns true. -/
import Derived.Test.YtmnadieblhdcpaaDoorG27
import Derived.Test.YtmnadieblhdcpaaDoorG21
import Derived.Lib.QuietBelow
namespace Go.Proofs.YtmnadieblhdcpaaDoor
open Go.RowKit Go.Sort

theorem mod_forty (a : Int) : ∃ (t : Int) (k : Nat), a.tmod 40 = t ∧ -39 ≤ t ∧ t ≤ 39 ∧ t % 40 = (k : Int) ∧ k < 40 := by
  have h1 := Int.tmod_lt_of_pos a (show (0 : Int) < 40 by decide)
  have h2 : -40 < a.tmod 40 := by
    rcases Int.le_total 0 a with h | h
    · have := Int.tmod_nonneg 40 h; omega
    · have := Int.tmod_lt_of_pos (-a) (show (0 : Int) < 40 by decide)
      rw [Int.neg_tmod] at this
      omega
  exact ⟨_, (a.tmod 40 % 40).toNat, rfl, by omega, by omega, by omega, by omega⟩
theorem sets_drop {c : Cd} (h : c.may = true) {b : Nat} (hb : b ≤ 4096) : (setsN (c.shift b)).drop b = setsN c := by
  apply List.ext_getElem?
  intro i
  rw [List.getElem?_drop]
  unfold setsN
  rw [List.getElem?_map, List.getElem?_map]
  by_cases hi : i < c.l.length
  · rw [List.getElem?_range hi, List.getElem?_range (by rw [shift_length]; omega), Option.map_some, Option.map_some, set_shift h hb]
  · rw [List.getElem?_eq_none (l := List.range (c.shift b).l.length) (by rw [List.length_range, shift_length]; omega), List.getElem?_eq_none (l := List.range c.l.length) (by rw [List.length_range]; omega)]; rfl
theorem loops_map {c : Cd} (h : c.may = true) {b : Nat} (hb : b ≤ 4096) : (loopsN (c.shift b)).map (fun n : Nat => (n : Int)) = ((loopsN c).map (fun n : Nat => (n : Int))).map (· + (b : Int)) := by
  rw [loops_shift h hb, List.map_map, List.map_map]
  refine List.map_congr_left fun n _ => ?_
  show ((b + n : Nat) : Int) = (n : Int) + (b : Int)
  omega
set_option maxRecDepth 100000 in
set_option maxHeartbeats 16000000 in
theorem validShifts_any (w : World) (q : Cq) (hq : q.In w) (a0 : Int) (_ha0 : -9223372036854775808 ≤ a0) (_ha1 : a0 ≤ 9223372036854775807) (hSh : ShT w) : Calls Tryd.prog 7 #[q.val, .int .i64 a0] w fun r w' => r = .returned (.bool true) ∧ Below w.heap.size w w' := by
  obtain ⟨R, A, I, P, n, c, l⟩ := q
  have HQ := Lib.hid hq
  have HSh := Lib.hid hSh
  have HLN : Hid (l.length = n) := hq.len
  have hn1 : n ≤ 9223372036854775807 := hq.n1
  obtain ⟨W0, hW0⟩ : ∃ W, w.alloc (Cq.obj ⟨R, A, I, P, n, c, l⟩) = W := ⟨_, rfl⟩
  have HB0 : Hid (Below w.heap.size w W0) := by rw [← hW0]; exact lvBelow w _
  have HX0 : Hid (W0.heap[w.heap.size]? = some (Cq.obj ⟨R, A, I, P, n, c, l⟩)) := by rw [← hW0]; exact heap_alloc_new w _
  clear hq hSh
  by_cases hf : n ≤ 300
  case neg =>
    have d0 : decide (n ≤ 300) = false := decide_eq_false hf
    go_enter Tryd.func7, Tryd.ntmps7
    go_wp2_with fail
    try rw [hW0]
    refine (live15_any W0 (HSh.out.on HB0.out)).mono ?_
    rintro e w1 ⟨rfl, hb⟩
    have HB1 := Lib.hid (HB0.out.trans (hb.mono HB0.out.size))
    have HX1 := Lib.hid (keep_b hb HX0.out)
    clear hb hW0
    obtain ⟨m0, m1, m2, m3, _⟩ := lvCells HX1.out
    go_wp2_with fail
    refine (refFew14_any ⟨R, A, I, P, n, c, l⟩ w1 (HQ.out.on HB1.out)).mono ?_
    rintro e w2 ⟨rfl, hb⟩
    have HB2 := Lib.hid (HB1.out.trans (hb.mono HB1.out.size))
    have HX2 := Lib.hid (keep_b hb HX1.out)
    clear hb m0 m1 m2 m3
    dsimp only
    rw [d0]
    go_wp2_with fail
    go_ret
    exact ⟨rfl, HB2.out⟩
  have d0 : decide (n ≤ 300) = true := decide_eq_true hf
  cases hm : Cd.may (Cq.cd ⟨R, A, I, P, n, c, l⟩) with
  | false =>
    have HE := Lib.hid (Cd.e_no hm)
    clear hm
    go_enter Tryd.func7, Tryd.ntmps7
    go_wp2_with fail
    try rw [hW0]
    refine (live15_any W0 (HSh.out.on HB0.out)).mono ?_
    rintro e w1 ⟨rfl, hb⟩
    have HB1 := Lib.hid (HB0.out.trans (hb.mono HB0.out.size))
    have HX1 := Lib.hid (keep_b hb HX0.out)
    clear hb hW0
    obtain ⟨m0, m1, m2, m3, _⟩ := lvCells HX1.out
    go_wp2_with fail
    refine (refFew14_any ⟨R, A, I, P, n, c, l⟩ w1 (HQ.out.on HB1.out)).mono ?_
    rintro e w2 ⟨rfl, hb⟩
    have HB2 := Lib.hid (HB1.out.trans (hb.mono HB1.out.size))
    have HX2 := Lib.hid (keep_b hb HX1.out)
    clear hb m0 m1 m2 m3
    dsimp only
    rw [d0]
    have hC := codeCheck_any ⟨R, A, I, P, n, c, l⟩ w2 (HQ.out.on HB2.out) (HSh.out.on HB2.out)
    unfold CkP at hC
    rw [HE.out] at hC
    obtain ⟨m0, m1, m2, m3, _⟩ := lvCells HX2.out
    go_wp2_with fail
    refine hC.mono ?_
    rintro e w3 ⟨rfl, hb⟩
    have HB3 := Lib.hid (HB2.out.trans (hb.mono HB2.out.size))
    have HX3 := Lib.hid (keep_b hb HX2.out)
    clear hb hC m0 m1 m2 m3
    go_wp2_with fail
    go_ret
    exact ⟨rfl, HB3.out⟩
  | true =>
    have HE := Lib.hid (Cd.e_yes hm)
    have HM := Lib.hid hm
    have hln : (Cq.cd ⟨R, A, I, P, n, c, l⟩).l.length = n := HLN.out
    clear hm
    go_enter Tryd.func7, Tryd.ntmps7
    go_wp2_with fail
    try rw [hW0]
    refine (live15_any W0 (HSh.out.on HB0.out)).mono ?_
    rintro e w1 ⟨rfl, hb⟩
    have HB1 := Lib.hid (HB0.out.trans (hb.mono HB0.out.size))
    have HX1 := Lib.hid (keep_b hb HX0.out)
    clear hb hW0
    obtain ⟨m0, m1, m2, m3, _⟩ := lvCells HX1.out
    go_wp2_with fail
    refine (refFew14_any ⟨R, A, I, P, n, c, l⟩ w1 (HQ.out.on HB1.out)).mono ?_
    rintro e w2 ⟨rfl, hb⟩
    have HB2 := Lib.hid (HB1.out.trans (hb.mono HB1.out.size))
    have HX2 := Lib.hid (keep_b hb HX1.out)
    clear hb m0 m1 m2 m3
    dsimp only
    rw [d0]
    have hC := codeCheck_any ⟨R, A, I, P, n, c, l⟩ w2 (HQ.out.on HB2.out) (HSh.out.on HB2.out)
    unfold CkP at hC
    rw [HE.out] at hC
    obtain ⟨m0, m1, m2, m3, _⟩ := lvCells HX2.out
    go_wp2_with fail
    refine hC.mono ?_
    rintro e w3 ⟨rfl, hb⟩
    have HB3 := Lib.hid (HB2.out.trans (hb.mono HB2.out.size))
    have HX3 := Lib.hid (keep_b hb HX2.out)
    clear hb hC m0 m1 m2 m3
    obtain ⟨ta, b, hta, ta0, ta1, hta2, hb40⟩ := mod_forty a0
    obtain ⟨m0, m1, m2, m3, _⟩ := lvCells HX3.out
    go_upto_region 5 with fail
    have hta3 : (ta + 40) % 40 = (b : Int) := by omega
    try rw [hta3]
    clear hta hta3 hta2 ta0 ta1
    obtain ⟨cd, hcd⟩ : ∃ cd, Cq.cd ⟨R, A, I, P, n, c, l⟩ = cd := ⟨_, rfl⟩
    rw [hcd] at HM HE hln
    obtain ⟨S, hS⟩ : ∃ S, Cd.shift cd (b : Int) = S := ⟨_, rfl⟩
    have hmS : S.may = true := by rw [← hS]; exact shift_may HM.out (by rw [hln]; omega)
    have HMS := Lib.hid hmS
    have HES : Hid (S.e = 0) := Cd.e_yes hmS
    have HLS : Hid (S.l.length = b + n) := by unfold Hid; rw [← hS, shift_length, hln]
    have HRS : Hid (S.R = R ∧ S.A = A ∧ S.I = I) := by unfold Hid; rw [← hS, ← hcd]; exact ⟨rfl, rfl, rfl⟩
    have HVS : Hid (validE S = validE cd) := by unfold Hid; rw [← hS]; exact valid_shift HM.out (by rw [hln]; omega)
    have HDS : Hid ((setC S).drop b = setC cd) := by unfold Hid setC; rw [hmS, HM.out, ← hS]; exact sets_drop HM.out (by omega)
    have HLP : Hid (loopsC S = (loopsC cd).map (· + (b : Int))) := by unfold Hid loopsC; rw [hmS, HM.out, ← hS]; exact loops_map HM.out (by omega)
    have HSL : Hid ((setC cd).length = n) := by unfold Hid setC; rw [HM.out]; exact (setsN_len cd).trans hln
    have HSL2 : Hid ((setC S).length = b + n) := by unfold Hid setC; rw [hmS]; exact (setsN_len S).trans HLS.out
    have HSF : Hid (∀ L ∈ setC cd, L.length ≤ 100000) := by
      unfold Hid setC
      rw [HM.out]
      intro L hL
      obtain ⟨i, hi⟩ := List.getElem?_of_mem hL
      rw [setsN_at hi]
      have h1 := setN_len cd i
      obtain ⟨⟨_, hR1, _⟩, _⟩ := Cd.may_parts HM.out
      omega
    have HLF : Hid ((loopsC cd).length ≤ n) := by
      unfold Hid loopsC
      rw [HM.out]
      show ((loopsN cd).map _).length ≤ n
      rw [loops_fl]
      exact Nat.le_trans (flN_len _ _) (by rw [hln]; exact Nat.le_refl _)
    have HCS : Hid (Cq.cd ⟨R, A, I, none, b + n, 0, S.l⟩ = S) := by
      unfold Hid
      obtain ⟨r1, r2, r3⟩ := HRS.out
      show (⟨R, A, I, S.l⟩ : Cd) = S
      rw [← r1, ← r2, ← r3]
    have HCD := Lib.hid hcd
    have h1 := codeShift_few ⟨R, A, I, P, n, c, l⟩ b w3 (HQ.out.on HB3.out) (by rw [hcd]; exact HM.out) (by show n + b ≤ 4096; omega) (HSh.out.on HB3.out)
    dsimp only at h1
    rw [hcd, hS] at h1
    clear hcd hS hmS hln
    go_wp2_with fail
    (with_reducible refine h1.mono ?_)
    rintro e v4 ⟨A4, c4, rfl, hO4, hb⟩
    obtain ⟨w4, hW4⟩ : ∃ W, v4.alloc (.cells #[.int .i64 R, .int .i64 A, .int .i64 I, .slice A4 (b + n) c4] 24) = W := ⟨_, rfl⟩
    obtain ⟨g, hg⟩ : ∃ z, v4.heap.size = z := ⟨_, rfl⟩
    have hb4 : Below v4.heap.size v4 w4 := by rw [← hW4]; exact lvBelow _ _
    have HB4 := Lib.hid ((HB3.out.trans (hb.mono HB3.out.size)).trans (hb4.mono (Nat.le_trans HB3.out.size hb.size)))
    have HX4 := Lib.hid (keep_b hb4 (keep_b hb HX3.out))
    have HG4 : Hid (w4.heap[g]? = some (Cq.obj ⟨R, A, I, A4, b + n, c4, S.l⟩)) := by rw [← hW4, ← hg]; exact heap_alloc_new _ _
    have HQS4 : Hid (Cq.In ⟨R, A, I, A4, b + n, c4, S.l⟩ w4) := by
      have h := OwnJ.cqn (c := S) (hO4.below hb4 (Nat.le_refl _)) HMS.out HLS.out
      rw [HRS.out.1, HRS.out.2.1, HRS.out.2.2] at h
      exact h
    have HCS4 : Hid (Cq.cd ⟨R, A, I, A4, b + n, c4, S.l⟩ = S) := HCS.out
    have HWQ := Lib.hid hW4
    clear hb hb4 hW4 hO4 h1 m0 m1 m2 m3 HCS
    go_upto_region 6 with fail
    try rw [HWQ.out]
    try rw [hg]
    clear hg HWQ
    obtain ⟨m0, m1, m2, m3, _⟩ := lvCells HX4.out
    obtain ⟨j0, j1, j2, j3, _⟩ := lvCells HG4.out
    obtain ⟨V, hV⟩ : ∃ V, validE cd = V := ⟨_, rfl⟩
    rw [hV] at HVS
    have HV := Lib.hid hV
    have hmx : Tryd.prog.follows .mixedOrders = true := by kernel_rfl
    have y0 := cell_regrown m0
    have y1 := cell_regrown m1
    have y2 := cell_regrown m2
    have y3 := cell_regrown m3
    have x0 := cell_regrown j0
    have x1 := cell_regrown j1
    have x2 := cell_regrown j2
    have x3 := cell_regrown j3
    have cA := fun d os => Calls.regrown_of (v := .int .i64 V) (by have h := validCheck_any ⟨R, A, I, A4, b + n, c4, S.l⟩ (grow (redrawn w4 d) os) (HQS4.out.on (below_regrown w4 d os)) (HSh.out.on (HB4.out.trans ((below_regrown w4 d os).mono HB4.out.size))); unfold ValidP at h; rw [HCS4.out, HVS.out] at h; exact h)
    have cB := fun d os => Calls.regrown_of (v := .int .i64 V) (by have h := validCheck_any ⟨R, A, I, P, n, c, l⟩ (grow (redrawn w4 d) os) (HQ.out.on (HB4.out.trans ((below_regrown w4 d os).mono HB4.out.size))) (HSh.out.on (HB4.out.trans ((below_regrown w4 d os).mono HB4.out.size))); unfold ValidP at h; rw [HCD.out, hV] at h; exact h)
    clear hV m0 m1 m2 m3 j0 j1 j2 j3
    refine wp_region_quiet_below hmx (by kernel_rfl) ?_
    repeat (quiet_step (first | (go_at_call 23; with_reducible exact cA _ _) | (go_at_call 23; with_reducible exact cB _ _)))
    refine wpQuiet_nil ?_
    intro _ hw'
    obtain ⟨⟨dq, osq⟩, hw''⟩ := hw'
    subst hw''
    obtain ⟨w5, hw5⟩ : ∃ W, grow (redrawn w4 dq) osq = W := ⟨_, rfl⟩
    have hb5 : Below w4.heap.size w4 w5 := by rw [← hw5]; exact below_regrown w4 dq osq
    have HB5 := Lib.hid (HB4.out.trans (hb5.mono HB4.out.size))
    have HX5 := Lib.hid (keep_b hb5 HX4.out)
    have HG5 := Lib.hid (keep_b hb5 HG4.out)
    have HQS5 := Lib.hid (HQS4.out.on hb5)
    try dsimp only
    rw [hw5]
    clear hw5 hb5 cA cB x0 x1 x2 x3 y0 y1 y2 y3
    have hC := validSet_any ⟨R, A, I, P, n, c, l⟩ w5 (HQ.out.on HB5.out) (HSh.out.on HB5.out)
    unfold SetP at hC
    rw [HCD.out, HE.out] at hC
    obtain ⟨m0, m1, m2, m3, _⟩ := lvCells HX5.out
    obtain ⟨j0, j1, j2, j3, _⟩ := lvCells HG5.out
    go_wp2_with fail
    (with_reducible refine hC.mono ?_)
    rintro e w6 ⟨A6, n6, c6, rfl, hI, hcap, hb⟩
    have HB6 := Lib.hid (HB5.out.trans (hb.mono HB5.out.size))
    have HX6 := Lib.hid (keep_b hb HX5.out)
    have HG6 := Lib.hid (keep_b hb HG5.out)
    have HQS6 := Lib.hid (HQS5.out.on hb)
    have hn6 : n6 = n := by rw [← hI.1]; exact HSL.out
    subst hn6
    have HI6 := Lib.hid hI
    clear hcap
    clear hb hC hI m0 m1 m2 m3 j0 j1 j2 j3
    have hC := validSet_any ⟨R, A, I, A4, b + n6, c4, S.l⟩ w6 HQS6.out (by first | exact HSh.out.on HB.out | exact HSh.out.on HB0.out | exact HSh.out.on HB1.out | exact HSh.out.on HB2.out | exact HSh.out.on HB3.out | exact HSh.out.on HB4.out | exact HSh.out.on HB5.out | exact HSh.out.on HB6.out | exact HSh.out.on HB7.out | exact HSh.out.on HB8.out | exact HSh.out.on HB9.out | exact HSh.out.on HB10.out | exact HSh.out.on HB11.out | exact HSh.out.on HB12.out | exact HSh.out.on HB13.out | exact HSh.out.on HB14.out | exact HSh.out.on HB15.out | exact HSh.out.on HB16.out | exact HSh.out.on HBk.out | exact HSh.out.on HBK.out | exact HSh.out.on HBG.out | exact HSh.out.on HD0.out | exact HSh.out.on HT6.out.bel | exact HSh.out.on HT7.out.bel | exact HSh.out.on HT8.out.bel | exact HSh.out.on HT9.out.bel | exact HSh.out.on HT10.out.bel | exact HSh.out.on HT11.out.bel | exact HSh.out.on HT12.out.bel | exact HSh.out.on HT13.out.bel | exact HSh.out.on HT9b.out.bel | exact HSh.out.on HT.out.bel | exact HSh.out.on HW.out.bel | exact HSh.out.on HI.out.bel | exact HSh.out.on HW6.out.bel | exact HSh.out.on HW7.out.bel | exact HSh.out.on HW8.out.bel | exact HSh.out.on HW9.out.bel | exact HSh.out.on HW10.out.bel | exact HSh.out.on HW11.out.bel | exact HSh.out.on HW12.out.bel | exact HSh.out.on HI6.out.bel | exact HSh.out.on HI7.out.bel | exact HSh.out.on HI8.out.bel | exact HSh.out.on HI9.out.bel | exact HSh.out.on HI10.out.bel | exact HSh.out.on HI11.out.bel | exact HSh.out.on HI12.out.bel | exact HSh.out.on (HB.out.trans (hb.mono HB.out.size)) | exact HSh.out.on (HB0.out.trans (hb.mono HB0.out.size)) | exact HSh.out.on (HB1.out.trans (hb.mono HB1.out.size)) | exact HSh.out.on (HB2.out.trans (hb.mono HB2.out.size)) | exact HSh.out.on (HB3.out.trans (hb.mono HB3.out.size)) | exact HSh.out.on (HB4.out.trans (hb.mono HB4.out.size)) | exact HSh.out.on (HB5.out.trans (hb.mono HB5.out.size)) | exact HSh.out.on (HB6.out.trans (hb.mono HB6.out.size)) | exact HSh.out.on (HB7.out.trans (hb.mono HB7.out.size)) | exact HSh.out.on (HB8.out.trans (hb.mono HB8.out.size)) | exact HSh.out.on (HB9.out.trans (hb.mono HB9.out.size)) | exact HSh.out.on (HB10.out.trans (hb.mono HB10.out.size)) | exact HSh.out.on (HB11.out.trans (hb.mono HB11.out.size)) | exact HSh.out.on (HB12.out.trans (hb.mono HB12.out.size)) | exact HSh.out.on (HB13.out.trans (hb.mono HB13.out.size)) | exact HSh.out.on (HB14.out.trans (hb.mono HB14.out.size)) | exact HSh.out.on (HB15.out.trans (hb.mono HB15.out.size)) | exact HSh.out.on (HB16.out.trans (hb.mono HB16.out.size)) | exact HSh.out.on (HBk.out.trans (hb.mono HBk.out.size)) | exact HSh.out.on (HBK.out.trans (hb.mono HBK.out.size)) | exact HSh.out.on (HBG.out.trans (hb.mono HBG.out.size)) | exact HSh.out.on (HD0.out.trans (hb.mono HD0.out.size)) | exact HSh.out.on (HT6.out.bel.trans (hb.mono HT6.out.bel.size)) | exact HSh.out.on (HT7.out.bel.trans (hb.mono HT7.out.bel.size)) | exact HSh.out.on (HT8.out.bel.trans (hb.mono HT8.out.bel.size)) | exact HSh.out.on (HT9.out.bel.trans (hb.mono HT9.out.bel.size)) | exact HSh.out.on (HT10.out.bel.trans (hb.mono HT10.out.bel.size)) | exact HSh.out.on (HT11.out.bel.trans (hb.mono HT11.out.bel.size)) | exact HSh.out.on (HT12.out.bel.trans (hb.mono HT12.out.bel.size)) | exact HSh.out.on (HT13.out.bel.trans (hb.mono HT13.out.bel.size)) | exact HSh.out.on (HT9b.out.bel.trans (hb.mono HT9b.out.bel.size)) | exact HSh.out.on (HT.out.bel.trans (hb.mono HT.out.bel.size)) | exact HSh.out.on (HW.out.bel.trans (hb.mono HW.out.bel.size)) | exact HSh.out.on (HI.out.bel.trans (hb.mono HI.out.bel.size)) | exact HSh.out.on (HW6.out.bel.trans (hb.mono HW6.out.bel.size)) | exact HSh.out.on (HW7.out.bel.trans (hb.mono HW7.out.bel.size)) | exact HSh.out.on (HW8.out.bel.trans (hb.mono HW8.out.bel.size)) | exact HSh.out.on (HW9.out.bel.trans (hb.mono HW9.out.bel.size)) | exact HSh.out.on (HW10.out.bel.trans (hb.mono HW10.out.bel.size)) | exact HSh.out.on (HW11.out.bel.trans (hb.mono HW11.out.bel.size)) | exact HSh.out.on (HW12.out.bel.trans (hb.mono HW12.out.bel.size)) | exact HSh.out.on (HI6.out.bel.trans (hb.mono HI6.out.bel.size)) | exact HSh.out.on (HI7.out.bel.trans (hb.mono HI7.out.bel.size)) | exact HSh.out.on (HI8.out.bel.trans (hb.mono HI8.out.bel.size)) | exact HSh.out.on (HI9.out.bel.trans (hb.mono HI9.out.bel.size)) | exact HSh.out.on (HI10.out.bel.trans (hb.mono HI10.out.bel.size)) | exact HSh.out.on (HI11.out.bel.trans (hb.mono HI11.out.bel.size)) | exact HSh.out.on (HI12.out.bel.trans (hb.mono HI12.out.bel.size)))
    unfold SetP at hC
    rw [HCS4.out, HES.out] at hC
    obtain ⟨m0, m1, m2, m3, _⟩ := lvCells HX6.out
    obtain ⟨j0, j1, j2, j3, _⟩ := lvCells HG6.out
    go_wp2_with fail
    (with_reducible refine hC.mono ?_)
    rintro e w7 ⟨A7, n7, c7, rfl, hI, hcap, hb⟩
    have HB7 := Lib.hid (HB6.out.trans (hb.mono HB6.out.size))
    have HX7 := Lib.hid (keep_b hb HX6.out)
    have HG7 := Lib.hid (keep_b hb HG6.out)
    have HQS7 := Lib.hid (HQS6.out.on hb)
    have hn7 : n7 = b + n6 := by rw [← hI.1]; exact HSL2.out
    subst hn7
    have HI7 := Lib.hid hI
    have HI6b : Hid (IntsLL w7 w7.heap.size A6 n6 (setC cd)) := (HI6.out.below hb).more hb.size
    have HCAP := Lib.hid hcap
    clear hcap
    clear hb hC hI m0 m1 m2 m3 j0 j1 j2 j3
    have hC := validLoops_any ⟨R, A, I, P, n6, c, l⟩ w7 (HQ.out.on HB7.out) (HSh.out.on HB7.out)
    unfold LoopsP at hC
    rw [HCD.out, HE.out] at hC
    obtain ⟨m0, m1, m2, m3, _⟩ := lvCells HX7.out
    obtain ⟨j0, j1, j2, j3, _⟩ := lvCells HG7.out
    go_wp2_with fail
    (with_reducible refine hC.mono ?_)
    rintro e w8 ⟨A8, n8, c8, rfl, hI, hb⟩
    have HB8 := Lib.hid (HB7.out.trans (hb.mono HB7.out.size))
    have HX8 := Lib.hid (keep_b hb HX7.out)
    have HG8 := Lib.hid (keep_b hb HG7.out)
    have HQS8 := Lib.hid (HQS7.out.on hb)
    have hn8 : (loopsC cd).length = n8 := hI.1
    have HI8 := Lib.hid hI
    have HI6c : Hid (IntsLL w8 w8.heap.size A6 n6 (setC cd)) := (HI6b.out.below hb).more hb.size
    have HI7c : Hid (IntsLL w8 w8.heap.size A7 (b + n6) (setC S)) := (HI7.out.below hb).more hb.size
    clear hb hC hI m0 m1 m2 m3 j0 j1 j2 j3
    have hC := validLoops_any ⟨R, A, I, A4, b + n6, c4, S.l⟩ w8 HQS8.out (by first | exact HSh.out.on HB.out | exact HSh.out.on HB0.out | exact HSh.out.on HB1.out | exact HSh.out.on HB2.out | exact HSh.out.on HB3.out | exact HSh.out.on HB4.out | exact HSh.out.on HB5.out | exact HSh.out.on HB6.out | exact HSh.out.on HB7.out | exact HSh.out.on HB8.out | exact HSh.out.on HB9.out | exact HSh.out.on HB10.out | exact HSh.out.on HB11.out | exact HSh.out.on HB12.out | exact HSh.out.on HB13.out | exact HSh.out.on HB14.out | exact HSh.out.on HB15.out | exact HSh.out.on HB16.out | exact HSh.out.on HBk.out | exact HSh.out.on HBK.out | exact HSh.out.on HBG.out | exact HSh.out.on HD0.out | exact HSh.out.on HT6.out.bel | exact HSh.out.on HT7.out.bel | exact HSh.out.on HT8.out.bel | exact HSh.out.on HT9.out.bel | exact HSh.out.on HT10.out.bel | exact HSh.out.on HT11.out.bel | exact HSh.out.on HT12.out.bel | exact HSh.out.on HT13.out.bel | exact HSh.out.on HT9b.out.bel | exact HSh.out.on HT.out.bel | exact HSh.out.on HW.out.bel | exact HSh.out.on HI.out.bel | exact HSh.out.on HW6.out.bel | exact HSh.out.on HW7.out.bel | exact HSh.out.on HW8.out.bel | exact HSh.out.on HW9.out.bel | exact HSh.out.on HW10.out.bel | exact HSh.out.on HW11.out.bel | exact HSh.out.on HW12.out.bel | exact HSh.out.on HI6.out.bel | exact HSh.out.on HI7.out.bel | exact HSh.out.on HI8.out.bel | exact HSh.out.on HI9.out.bel | exact HSh.out.on HI10.out.bel | exact HSh.out.on HI11.out.bel | exact HSh.out.on HI12.out.bel | exact HSh.out.on (HB.out.trans (hb.mono HB.out.size)) | exact HSh.out.on (HB0.out.trans (hb.mono HB0.out.size)) | exact HSh.out.on (HB1.out.trans (hb.mono HB1.out.size)) | exact HSh.out.on (HB2.out.trans (hb.mono HB2.out.size)) | exact HSh.out.on (HB3.out.trans (hb.mono HB3.out.size)) | exact HSh.out.on (HB4.out.trans (hb.mono HB4.out.size)) | exact HSh.out.on (HB5.out.trans (hb.mono HB5.out.size)) | exact HSh.out.on (HB6.out.trans (hb.mono HB6.out.size)) | exact HSh.out.on (HB7.out.trans (hb.mono HB7.out.size)) | exact HSh.out.on (HB8.out.trans (hb.mono HB8.out.size)) | exact HSh.out.on (HB9.out.trans (hb.mono HB9.out.size)) | exact HSh.out.on (HB10.out.trans (hb.mono HB10.out.size)) | exact HSh.out.on (HB11.out.trans (hb.mono HB11.out.size)) | exact HSh.out.on (HB12.out.trans (hb.mono HB12.out.size)) | exact HSh.out.on (HB13.out.trans (hb.mono HB13.out.size)) | exact HSh.out.on (HB14.out.trans (hb.mono HB14.out.size)) | exact HSh.out.on (HB15.out.trans (hb.mono HB15.out.size)) | exact HSh.out.on (HB16.out.trans (hb.mono HB16.out.size)) | exact HSh.out.on (HBk.out.trans (hb.mono HBk.out.size)) | exact HSh.out.on (HBK.out.trans (hb.mono HBK.out.size)) | exact HSh.out.on (HBG.out.trans (hb.mono HBG.out.size)) | exact HSh.out.on (HD0.out.trans (hb.mono HD0.out.size)) | exact HSh.out.on (HT6.out.bel.trans (hb.mono HT6.out.bel.size)) | exact HSh.out.on (HT7.out.bel.trans (hb.mono HT7.out.bel.size)) | exact HSh.out.on (HT8.out.bel.trans (hb.mono HT8.out.bel.size)) | exact HSh.out.on (HT9.out.bel.trans (hb.mono HT9.out.bel.size)) | exact HSh.out.on (HT10.out.bel.trans (hb.mono HT10.out.bel.size)) | exact HSh.out.on (HT11.out.bel.trans (hb.mono HT11.out.bel.size)) | exact HSh.out.on (HT12.out.bel.trans (hb.mono HT12.out.bel.size)) | exact HSh.out.on (HT13.out.bel.trans (hb.mono HT13.out.bel.size)) | exact HSh.out.on (HT9b.out.bel.trans (hb.mono HT9b.out.bel.size)) | exact HSh.out.on (HT.out.bel.trans (hb.mono HT.out.bel.size)) | exact HSh.out.on (HW.out.bel.trans (hb.mono HW.out.bel.size)) | exact HSh.out.on (HI.out.bel.trans (hb.mono HI.out.bel.size)) | exact HSh.out.on (HW6.out.bel.trans (hb.mono HW6.out.bel.size)) | exact HSh.out.on (HW7.out.bel.trans (hb.mono HW7.out.bel.size)) | exact HSh.out.on (HW8.out.bel.trans (hb.mono HW8.out.bel.size)) | exact HSh.out.on (HW9.out.bel.trans (hb.mono HW9.out.bel.size)) | exact HSh.out.on (HW10.out.bel.trans (hb.mono HW10.out.bel.size)) | exact HSh.out.on (HW11.out.bel.trans (hb.mono HW11.out.bel.size)) | exact HSh.out.on (HW12.out.bel.trans (hb.mono HW12.out.bel.size)) | exact HSh.out.on (HI6.out.bel.trans (hb.mono HI6.out.bel.size)) | exact HSh.out.on (HI7.out.bel.trans (hb.mono HI7.out.bel.size)) | exact HSh.out.on (HI8.out.bel.trans (hb.mono HI8.out.bel.size)) | exact HSh.out.on (HI9.out.bel.trans (hb.mono HI9.out.bel.size)) | exact HSh.out.on (HI10.out.bel.trans (hb.mono HI10.out.bel.size)) | exact HSh.out.on (HI11.out.bel.trans (hb.mono HI11.out.bel.size)) | exact HSh.out.on (HI12.out.bel.trans (hb.mono HI12.out.bel.size)))
    unfold LoopsP at hC
    rw [HCS4.out, HES.out, HLP.out] at hC
    obtain ⟨m0, m1, m2, m3, _⟩ := lvCells HX8.out
    obtain ⟨j0, j1, j2, j3, _⟩ := lvCells HG8.out
    go_wp2_with fail
    (with_reducible refine hC.mono ?_)
    rintro e w9 ⟨A9, n9, c9, rfl, hI, hb⟩
    have HB9 := Lib.hid (HB8.out.trans (hb.mono HB8.out.size))
    have HX9 := Lib.hid (keep_b hb HX8.out)
    have HG9 := Lib.hid (keep_b hb HG8.out)
    have HQS9 := Lib.hid (HQS8.out.on hb)
    have hn9 : n9 = n8 := by rw [← hn8, ← hI.1, List.length_map]
    subst hn9
    have HI9 := Lib.hid hI
    have HI8d : Hid (Ints w9 w9.heap.size A8 n9 (loopsC cd)) := (HI8.out.below hb).more hb.size
    have HI6d : Hid (IntsLL w9 w9.heap.size A6 n6 (setC cd)) := (HI6c.out.below hb).more hb.size
    have HI7d : Hid (IntsLL w9 w9.heap.size A7 (b + n6) (setC S)) := (HI7c.out.below hb).more hb.size
    clear hb hC hI m0 m1 m2 m3 j0 j1 j2 j3
    have hn0 : 0 < n6 := by
      obtain ⟨⟨_, _, _, _, _, _, hl0, _⟩, _⟩ := Cd.may_parts HM.out
      have h2 := HLN.out
      rw [← HCD.out] at hl0
      have hl0 : 1 ≤ l.length := hl0
      omega
    obtain ⟨b7, o7, hA7⟩ : ∃ b7 o7, A7 = some ⟨b7, o7, none⟩ := by
      obtain ⟨b7, o7, e, _⟩ := HI7d.out.2 (by omega)
      exact ⟨b7, o7, e⟩
    subst hA7
    have hcap := HCAP.out
    have hc7 : ¬ c7 = b := by omega
    have hbl : b ≤ b + n6 := by omega
    have hbi : (b : Int) ≤ ((b + n6 : Nat) : Int) := by omega
    have hbi2 : (b : Int) ≤ (b : Int) + (n6 : Int) := by omega
    have e87 : ((b : Int) + (n6 : Int) != (n6 : Int) + (b : Int)) = false := by simp; omega
    have hD7 : IntsLL w9 w9.heap.size (some ⟨b7, o7 + b, none⟩) n6 (setC cd) := by
      have h := HI7d.out.dropJ (k := b) hbl
      rw [HDS.out, Nat.add_sub_cancel_left] at h
      exact h
    have hSL := sameListsJ_any A6 (some ⟨b7, o7 + b, none⟩) n6 n6 c6 (c7 - b) (setC cd) (setC cd) w9 w9.heap.size HI6d.out hD7 (by omega) (by omega) HSF.out HSF.out
    rw [decide_eq_true rfl] at hSL
    have hsub : b + n6 - b = n6 := by omega
    go_wp2_with fail
    refine hSL.mono ?_
    rintro e w10 ⟨rfl, m10, rfl⟩
    have HB10 : Hid (Below w.heap.size w (w9.drewN m10)) := belowD HB9.out m10
    have HI8e : Hid (Ints (w9.drewN m10) w9.heap.size A8 n9 (loopsC cd)) := HI8d.out
    have HI9e : Hid (Ints (w9.drewN m10) w9.heap.size A9 n9 ((loopsC cd).map (· + (b : Int)))) := HI9.out
    have hn9' : n9 ≤ 300 := by have := HLF.out; omega
    have HLF2 : Hid (∀ v ∈ loopsC cd, 0 ≤ v ∧ v ≤ 100000) := by
      unfold Hid loopsC
      rw [HM.out]
      intro v hv
      obtain ⟨i, hi, rfl⟩ := List.mem_map.1 hv
      unfold loopsN at hi
      have := List.mem_range.1 (List.mem_filter.1 hi).1
      obtain ⟨⟨_, _, _, _, _, _, _, hl1⟩, _⟩ := Cd.may_parts HM.out
      omega
    clear hSL hsub
    obtain ⟨w10, hw10⟩ : ∃ W, w9.drewN m10 = W := ⟨_, rfl⟩
    rw [hw10] at HB10 HI8e HI9e ⊢
    clear hw10
    go_wp2_with fail
    go_loopw [106] (fun a wr => ∃ j : Nat, j ≤ n9 ∧ a = .int .i64 j ∧ Hid (Below w.heap.size w wr) ∧ Hid (Ints wr w9.heap.size A8 n9 (loopsC cd)) ∧ Hid (Ints wr w9.heap.size A9 n9 ((loopsC cd).map (· + (b : Int))))) (fun a _ => n9 - (intOf a).toNat)
    case atStart => exact ⟨0, Nat.zero_le _, rfl, HB10, HI8e, HI9e⟩
    case round =>
      obtain ⟨j, hj, rfl, HB, HJ8, HJ9⟩ := hrel
      by_cases hjn : j < n9
      · obtain ⟨b8, o8, x, rfl, _, hx, x0⟩ := HJ8.out.at_ hjn
        obtain ⟨b9, o9, y, rfl, _, hy, y0⟩ := HJ9.out.at_ hjn
        have hjj : (j : Int) < (n9 : Int) := by omega
        have hxb := HLF2.out x (List.mem_of_getElem? hx)
        have hyx : y = x + (b : Int) := by
          rw [List.getElem?_map, hx] at hy
          injection hy with hy
          exact hy.symm
        subst hyx
        have hwr : IntKind.i64.wrap (x + (b : Int)) = x + (b : Int) := IntWalk.i64_in _ (by omega)
        have e1 : (x + (b : Int) != x + (b : Int)) = false := by simp
        clear hx hy
        go_wp2_with fail
        go_quiet (fail)
        have HBQ := Lib.hid (belowD HB.out nq)
        have HJ8q : Hid (Ints (wr.drewN nq) w9.heap.size (some ⟨b8, o8, none⟩) n9 (loopsC cd)) := HJ8.out
        have HJ9q : Hid (Ints (wr.drewN nq) w9.heap.size (some ⟨b9, o9, none⟩) n9 ((loopsC cd).map (· + (b : Int)))) := HJ9.out
        go_wp2_with fail
        go_roundw
        case rel => exact ⟨j + 1, by omega, by go_num, HBQ, HJ8q, HJ9q⟩
        case measure => simp [intOf]; omega
      · go_wp2_with fail
        go_ret
        exact ⟨rfl, HB.out⟩
end Go.Proofs.YtmnadieblhdcpaaDoor
