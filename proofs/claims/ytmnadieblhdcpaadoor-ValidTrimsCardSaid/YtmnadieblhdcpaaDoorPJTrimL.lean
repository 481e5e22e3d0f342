/- purflelaw15.ValidTrims returns true. -/
import Derived.Test.YtmnadieblhdcpaaDoorG27
import Derived.Test.YtmnadieblhdcpaaDoorG19
namespace Go.Proofs.YtmnadieblhdcpaaDoor
open Go.RowKit

/-- where the variables of ValidTrims lie -/
structure TrmI (w w6 : World) (q tq : Cq) (g : Nat) (W : World) : Prop where
  bel : Below w.heap.size w W
  bel6 : Below w6.heap.size w6 W
  bx : W.heap[w.heap.size]? = some q.obj
  bt : W.heap[g]? = some tq.obj
theorem TrmI.on {w w6 W W' : World} {q tq : Cq} {g : Nat} (h : TrmI w w6 q tq g W) (hb : Below W.heap.size W W') : TrmI w w6 q tq g W' :=
  ⟨h.bel.trans (hb.mono h.bel.size), h.bel6.trans (hb.mono h.bel6.size), keep_b hb h.bx, keep_b hb h.bt⟩
set_option maxRecDepth 100000 in
set_option maxHeartbeats 16000000 in
theorem validTrims_any (w : World) (q : Cq) (hq : q.In w) (PA : Option Addr) (pn pc : Nat) (ps : List Bool) (hp : Bools w w.heap.size PA pn ps) (hpn : pn ≤ 9223372036854775807) (hSh : ShT w) : Calls Tryd.prog 5 #[q.val, .slice PA pn pc] w fun r w' => r = .returned (.bool true) ∧ Below w.heap.size w w' := by
  obtain ⟨R, A, I, P, n, c, l⟩ := q
  have HQ := Lib.hid hq
  have HSh := Lib.hid hSh
  have HP := Lib.hid hp
  have HLN : Hid (l.length = n) := hq.len
  have hn1 : n ≤ 9223372036854775807 := hq.n1
  obtain ⟨W0, hW0⟩ : ∃ W, w.alloc (Cq.obj ⟨R, A, I, P, n, c, l⟩) = W := ⟨_, rfl⟩
  have HB0 : Hid (Below w.heap.size w W0) := by rw [← hW0]; exact lvBelow w _
  have HX0 : Hid (W0.heap[w.heap.size]? = some (Cq.obj ⟨R, A, I, P, n, c, l⟩)) := by rw [← hW0]; exact heap_alloc_new w _
  clear hq hp hSh
  by_cases hf : n ≤ 300
  case neg =>
    have d0 : decide (n ≤ 300) = false := decide_eq_false hf
    go_enter Tryd.func5, Tryd.ntmps5
    go_wp2_with fail
    try rw [hW0]
    refine (live15_any W0 (HSh.out.on HB0.out)).mono ?_
    rintro e w1 ⟨rfl, hb⟩
    have HB1 := Lib.hid (HB0.out.trans (hb.mono HB0.out.size))
    have HX1 := Lib.hid (keep_b hb HX0.out)
    clear hb hW0
    obtain ⟨m0, m1, m2, m3, _⟩ := lvCells HX1.out
    go_wp2_with fail
    refine (refFew14_any ⟨R, A, I, P, n, c, l⟩ w1 (HQ.out.on HB1.out)).mono ?_
    rintro e w2 ⟨rfl, hb⟩
    have HB2 := Lib.hid (HB1.out.trans (hb.mono HB1.out.size))
    have HX2 := Lib.hid (keep_b hb HX1.out)
    clear hb m0 m1 m2 m3
    dsimp only
    rw [d0]
    go_wp2_with fail
    go_ret
    exact ⟨rfl, HB2.out⟩
  have d0 : decide (n ≤ 300) = true := decide_eq_true hf
  by_cases hp5 : pn ≤ 500
  case neg =>
    have p5 : (500 : Int) < (pn : Int) := by omega
    go_enter Tryd.func5, Tryd.ntmps5
    go_wp2_with fail
    try rw [hW0]
    refine (live15_any W0 (HSh.out.on HB0.out)).mono ?_
    rintro e w1 ⟨rfl, hb⟩
    have HB1 := Lib.hid (HB0.out.trans (hb.mono HB0.out.size))
    have HX1 := Lib.hid (keep_b hb HX0.out)
    clear hb hW0
    obtain ⟨m0, m1, m2, m3, _⟩ := lvCells HX1.out
    go_wp2_with fail
    refine (refFew14_any ⟨R, A, I, P, n, c, l⟩ w1 (HQ.out.on HB1.out)).mono ?_
    rintro e w2 ⟨rfl, hb⟩
    have HB2 := Lib.hid (HB1.out.trans (hb.mono HB1.out.size))
    have HX2 := Lib.hid (keep_b hb HX1.out)
    clear hb m0 m1 m2 m3
    dsimp only
    rw [d0]
    go_wp2_with fail
    go_ret
    exact ⟨rfl, HB2.out⟩
  have p5 : ¬ (500 : Int) < (pn : Int) := by omega
  cases hm : Cd.may (Cq.cd ⟨R, A, I, P, n, c, l⟩) with
  | false =>
    have HE := Lib.hid (Cd.e_no hm)
    have HTC : Hid (trimC (Cq.cd ⟨R, A, I, P, n, c, l⟩) = ⟨0, 0, 0, []⟩) := by unfold Hid trimC; rw [hm]; rfl
    clear hm
    go_enter Tryd.func5, Tryd.ntmps5
    go_wp2_with fail
    try rw [hW0]
    refine (live15_any W0 (HSh.out.on HB0.out)).mono ?_
    rintro e w1 ⟨rfl, hb⟩
    have HB1 := Lib.hid (HB0.out.trans (hb.mono HB0.out.size))
    have HX1 := Lib.hid (keep_b hb HX0.out)
    clear hb hW0
    obtain ⟨m0, m1, m2, m3, _⟩ := lvCells HX1.out
    go_wp2_with fail
    refine (refFew14_any ⟨R, A, I, P, n, c, l⟩ w1 (HQ.out.on HB1.out)).mono ?_
    rintro e w2 ⟨rfl, hb⟩
    have HB2 := Lib.hid (HB1.out.trans (hb.mono HB1.out.size))
    have HX2 := Lib.hid (keep_b hb HX1.out)
    clear hb m0 m1 m2 m3
    dsimp only
    rw [d0]
    have hC := validTrim_any ⟨R, A, I, P, n, c, l⟩ w2 (HQ.out.on HB2.out) (HSh.out.on HB2.out)
    unfold TrimP at hC
    rw [HE.out, HTC.out] at hC
    replace hC : Calls Tryd.prog 16 #[Cq.val ⟨R, A, I, P, n, c, l⟩] w2 fun e w' => ∃ A' c', e = .returned (.tuple #[.agg #[.int .i64 0, .int .i64 0, .int .i64 0, .slice A' 0 c'], .int .i64 1]) ∧ OwnJ w' w2.heap.size A' c' [] ∧ Below w2.heap.size w2 w' := hC
    obtain ⟨m0, m1, m2, m3, _⟩ := lvCells HX2.out
    go_wp2_with fail
    refine hC.mono ?_
    rintro e v3 ⟨A3, c3, rfl, _, hb⟩
    obtain ⟨w3, hw3⟩ : ∃ W, v3.alloc (.cells #[.int .i64 0, .int .i64 0, .int .i64 0, .slice A3 0 c3] 24) = W := ⟨_, rfl⟩
    obtain ⟨g, hg⟩ : ∃ z, v3.heap.size = z := ⟨_, rfl⟩
    have hb3 : Below v3.heap.size v3 w3 := by rw [← hw3]; exact lvBelow _ _
    have HB3 := Lib.hid ((HB2.out.trans (hb.mono HB2.out.size)).trans (hb3.mono (Nat.le_trans HB2.out.size hb.size)))
    have HX3 : Hid (w3.heap[g]? = some (.cells #[.int .i64 0, .int .i64 0, .int .i64 0, .slice A3 0 c3] 24 (0, 0))) := by rw [← hw3, ← hg]; exact heap_alloc_new _ _
    have HW3 := Lib.hid hw3
    clear hC hb hb3 hw3 m0 m1 m2 m3
    go_upto_region 5 with fail
    try rw [HW3.out]
    try rw [hg]
    clear hg HW3
    obtain ⟨m0, m1, m2, m3, _⟩ := lvCells HX3.out
    go_wp2_with fail
    go_ret
    exact ⟨rfl, HB3.out⟩
  | true =>
    have HE := Lib.hid (Cd.e_yes hm)
    have HM := Lib.hid hm
    obtain ⟨T, hT⟩ : ∃ T, (Cq.cd ⟨R, A, I, P, n, c, l⟩).trim = T := ⟨_, rfl⟩
    have HTC : Hid (trimC (Cq.cd ⟨R, A, I, P, n, c, l⟩) = T) := by unfold Hid trimC; rw [hm, ← hT]; rfl
    have hmT : T.may = true := by rw [← hT]; exact trim_may hm
    have HMT := Lib.hid hmT
    have HET : Hid (T.e = 0) := Cd.e_yes hmT
    have HTT : Hid (trimC T = T) := by unfold Hid trimC; rw [hmT]; show T.trim = T; rw [← hT]; exact trim_again hm
    have HRT : Hid (reachC T = reachB T (-1)) := by unfold Hid reachC; rw [hmT]; rfl
    have HVT : Hid (validE (Cq.cd ⟨R, A, I, P, n, c, l⟩) = 0 → validE T = 0) := fun h => by rw [← hT]; exact trim_valid hm h
    have HRW : Hid (∀ k, k < T.l.length → Way T.l (-1) k) := fun k hk => by rw [← hT] at hk ⊢; exact reach_trim hm hk
    have HTE := Lib.hid hT
    clear hm hT hmT
    go_enter Tryd.func5, Tryd.ntmps5
    go_wp2_with fail
    try rw [hW0]
    refine (live15_any W0 (HSh.out.on HB0.out)).mono ?_
    rintro e w1 ⟨rfl, hb⟩
    have HB1 := Lib.hid (HB0.out.trans (hb.mono HB0.out.size))
    have HX1 := Lib.hid (keep_b hb HX0.out)
    clear hb hW0
    obtain ⟨m0, m1, m2, m3, _⟩ := lvCells HX1.out
    go_wp2_with fail
    refine (refFew14_any ⟨R, A, I, P, n, c, l⟩ w1 (HQ.out.on HB1.out)).mono ?_
    rintro e w2 ⟨rfl, hb⟩
    have HB2 := Lib.hid (HB1.out.trans (hb.mono HB1.out.size))
    have HX2 := Lib.hid (keep_b hb HX1.out)
    clear hb m0 m1 m2 m3
    dsimp only
    rw [d0]
    have hC := validTrim_any ⟨R, A, I, P, n, c, l⟩ w2 (HQ.out.on HB2.out) (HSh.out.on HB2.out)
    unfold TrimP at hC
    rw [HE.out, HTC.out] at hC
    obtain ⟨tn, htn⟩ : ∃ z, T.l.length = z := ⟨_, rfl⟩
    rw [htn] at hC
    have htn2 : tn ≤ 4096 := by
      obtain ⟨⟨_, _, _, _, _, _, _, hl1⟩, _⟩ := Cd.may_parts HMT.out
      omega
    have HTN := Lib.hid htn
    clear htn
    obtain ⟨m0, m1, m2, m3, _⟩ := lvCells HX2.out
    go_wp2_with fail
    (with_reducible refine hC.mono ?_)
    rintro e v3 ⟨A3, c3, rfl, hO, hb⟩
    obtain ⟨w3, hw3⟩ : ∃ W, v3.alloc (.cells #[.int .i64 T.R, .int .i64 T.A, .int .i64 T.I, .slice A3 tn c3] 24) = W := ⟨_, rfl⟩
    obtain ⟨g3, hg3⟩ : ∃ z, v3.heap.size = z := ⟨_, rfl⟩
    have hb3 : Below v3.heap.size v3 w3 := by rw [← hw3]; exact lvBelow _ _
    have HB3 := Lib.hid ((HB2.out.trans (hb.mono HB2.out.size)).trans (hb3.mono (Nat.le_trans HB2.out.size hb.size)))
    have HX3 := Lib.hid (keep_b hb3 (keep_b hb HX2.out))
    have HG3 : Hid (w3.heap[g3]? = some (Cq.obj ⟨T.R, T.A, T.I, A3, tn, c3, T.l⟩)) := by rw [← hw3, ← hg3]; exact heap_alloc_new _ _
    have HQT3 : Hid (Cq.In ⟨T.R, T.A, T.I, A3, tn, c3, T.l⟩ w3) := OwnJ.cqn (hO.below hb3 (Nat.le_refl _)) HMT.out HTN.out
    have HCT : Hid (Cq.cd ⟨T.R, T.A, T.I, A3, tn, c3, T.l⟩ = T) := rfl
    have HW3 := Lib.hid hw3
    clear hC hb hb3 hO hw3 m0 m1 m2 m3
    go_upto_region 5 with fail
    try rw [HW3.out]
    try rw [hg3]
    clear hg3 HW3
    have hC := validReach_any ⟨T.R, T.A, T.I, A3, tn, c3, T.l⟩ w3 HQT3.out (by first | exact HSh.out.on HB.out | exact HSh.out.on HB0.out | exact HSh.out.on HB1.out | exact HSh.out.on HB2.out | exact HSh.out.on HB3.out | exact HSh.out.on HB4.out | exact HSh.out.on HB5.out | exact HSh.out.on HB6.out | exact HSh.out.on HB7.out | exact HSh.out.on HB8.out | exact HSh.out.on HB9.out | exact HSh.out.on HB10.out | exact HSh.out.on HB11.out | exact HSh.out.on HB12.out | exact HSh.out.on HB13.out | exact HSh.out.on HB14.out | exact HSh.out.on HB15.out | exact HSh.out.on HB16.out | exact HSh.out.on HBk.out | exact HSh.out.on HBK.out | exact HSh.out.on HBG.out | exact HSh.out.on HD0.out | exact HSh.out.on HT6.out.bel | exact HSh.out.on HT7.out.bel | exact HSh.out.on HT8.out.bel | exact HSh.out.on HT9.out.bel | exact HSh.out.on HT10.out.bel | exact HSh.out.on HT11.out.bel | exact HSh.out.on HT12.out.bel | exact HSh.out.on HT13.out.bel | exact HSh.out.on HT9b.out.bel | exact HSh.out.on HT.out.bel | exact HSh.out.on HW.out.bel | exact HSh.out.on HI.out.bel | exact HSh.out.on HW6.out.bel | exact HSh.out.on HW7.out.bel | exact HSh.out.on HW8.out.bel | exact HSh.out.on HW9.out.bel | exact HSh.out.on HW10.out.bel | exact HSh.out.on HW11.out.bel | exact HSh.out.on HW12.out.bel | exact HSh.out.on HI6.out.bel | exact HSh.out.on HI7.out.bel | exact HSh.out.on HI8.out.bel | exact HSh.out.on HI9.out.bel | exact HSh.out.on HI10.out.bel | exact HSh.out.on HI11.out.bel | exact HSh.out.on HI12.out.bel | exact HSh.out.on (HB.out.trans (hb.mono HB.out.size)) | exact HSh.out.on (HB0.out.trans (hb.mono HB0.out.size)) | exact HSh.out.on (HB1.out.trans (hb.mono HB1.out.size)) | exact HSh.out.on (HB2.out.trans (hb.mono HB2.out.size)) | exact HSh.out.on (HB3.out.trans (hb.mono HB3.out.size)) | exact HSh.out.on (HB4.out.trans (hb.mono HB4.out.size)) | exact HSh.out.on (HB5.out.trans (hb.mono HB5.out.size)) | exact HSh.out.on (HB6.out.trans (hb.mono HB6.out.size)) | exact HSh.out.on (HB7.out.trans (hb.mono HB7.out.size)) | exact HSh.out.on (HB8.out.trans (hb.mono HB8.out.size)) | exact HSh.out.on (HB9.out.trans (hb.mono HB9.out.size)) | exact HSh.out.on (HB10.out.trans (hb.mono HB10.out.size)) | exact HSh.out.on (HB11.out.trans (hb.mono HB11.out.size)) | exact HSh.out.on (HB12.out.trans (hb.mono HB12.out.size)) | exact HSh.out.on (HB13.out.trans (hb.mono HB13.out.size)) | exact HSh.out.on (HB14.out.trans (hb.mono HB14.out.size)) | exact HSh.out.on (HB15.out.trans (hb.mono HB15.out.size)) | exact HSh.out.on (HB16.out.trans (hb.mono HB16.out.size)) | exact HSh.out.on (HBk.out.trans (hb.mono HBk.out.size)) | exact HSh.out.on (HBK.out.trans (hb.mono HBK.out.size)) | exact HSh.out.on (HBG.out.trans (hb.mono HBG.out.size)) | exact HSh.out.on (HD0.out.trans (hb.mono HD0.out.size)) | exact HSh.out.on (HT6.out.bel.trans (hb.mono HT6.out.bel.size)) | exact HSh.out.on (HT7.out.bel.trans (hb.mono HT7.out.bel.size)) | exact HSh.out.on (HT8.out.bel.trans (hb.mono HT8.out.bel.size)) | exact HSh.out.on (HT9.out.bel.trans (hb.mono HT9.out.bel.size)) | exact HSh.out.on (HT10.out.bel.trans (hb.mono HT10.out.bel.size)) | exact HSh.out.on (HT11.out.bel.trans (hb.mono HT11.out.bel.size)) | exact HSh.out.on (HT12.out.bel.trans (hb.mono HT12.out.bel.size)) | exact HSh.out.on (HT13.out.bel.trans (hb.mono HT13.out.bel.size)) | exact HSh.out.on (HT9b.out.bel.trans (hb.mono HT9b.out.bel.size)) | exact HSh.out.on (HT.out.bel.trans (hb.mono HT.out.bel.size)) | exact HSh.out.on (HW.out.bel.trans (hb.mono HW.out.bel.size)) | exact HSh.out.on (HI.out.bel.trans (hb.mono HI.out.bel.size)) | exact HSh.out.on (HW6.out.bel.trans (hb.mono HW6.out.bel.size)) | exact HSh.out.on (HW7.out.bel.trans (hb.mono HW7.out.bel.size)) | exact HSh.out.on (HW8.out.bel.trans (hb.mono HW8.out.bel.size)) | exact HSh.out.on (HW9.out.bel.trans (hb.mono HW9.out.bel.size)) | exact HSh.out.on (HW10.out.bel.trans (hb.mono HW10.out.bel.size)) | exact HSh.out.on (HW11.out.bel.trans (hb.mono HW11.out.bel.size)) | exact HSh.out.on (HW12.out.bel.trans (hb.mono HW12.out.bel.size)) | exact HSh.out.on (HI6.out.bel.trans (hb.mono HI6.out.bel.size)) | exact HSh.out.on (HI7.out.bel.trans (hb.mono HI7.out.bel.size)) | exact HSh.out.on (HI8.out.bel.trans (hb.mono HI8.out.bel.size)) | exact HSh.out.on (HI9.out.bel.trans (hb.mono HI9.out.bel.size)) | exact HSh.out.on (HI10.out.bel.trans (hb.mono HI10.out.bel.size)) | exact HSh.out.on (HI11.out.bel.trans (hb.mono HI11.out.bel.size)) | exact HSh.out.on (HI12.out.bel.trans (hb.mono HI12.out.bel.size)))
    unfold ReachP at hC
    rw [HCT.out, HET.out, HRT.out] at hC
    obtain ⟨j0, j1, j2, j3, _⟩ := lvCells HG3.out
    go_wp2_with fail
    (with_reducible refine hC.mono ?_)
    rintro e w4 ⟨A4, n4, c4, rfl, hR4, hb⟩
    have hn4 : n4 = tn := by rw [← hR4.1, reachB_len]; exact HTN.out
    subst hn4
    have HB4 := Lib.hid (HB3.out.trans (hb.mono HB3.out.size))
    have HX4 := Lib.hid (keep_b hb HX3.out)
    have HG4 := Lib.hid (keep_b hb HG3.out)
    have HQT4 := Lib.hid (HQT3.out.on hb)
    have HR4 := Lib.hid hR4
    clear hC hb hR4 j0 j1 j2 j3
    have hC := validTrim_any ⟨T.R, T.A, T.I, A3, n4, c3, T.l⟩ w4 HQT4.out (by first | exact HSh.out.on HB.out | exact HSh.out.on HB0.out | exact HSh.out.on HB1.out | exact HSh.out.on HB2.out | exact HSh.out.on HB3.out | exact HSh.out.on HB4.out | exact HSh.out.on HB5.out | exact HSh.out.on HB6.out | exact HSh.out.on HB7.out | exact HSh.out.on HB8.out | exact HSh.out.on HB9.out | exact HSh.out.on HB10.out | exact HSh.out.on HB11.out | exact HSh.out.on HB12.out | exact HSh.out.on HB13.out | exact HSh.out.on HB14.out | exact HSh.out.on HB15.out | exact HSh.out.on HB16.out | exact HSh.out.on HBk.out | exact HSh.out.on HBK.out | exact HSh.out.on HBG.out | exact HSh.out.on HD0.out | exact HSh.out.on HT6.out.bel | exact HSh.out.on HT7.out.bel | exact HSh.out.on HT8.out.bel | exact HSh.out.on HT9.out.bel | exact HSh.out.on HT10.out.bel | exact HSh.out.on HT11.out.bel | exact HSh.out.on HT12.out.bel | exact HSh.out.on HT13.out.bel | exact HSh.out.on HT9b.out.bel | exact HSh.out.on HT.out.bel | exact HSh.out.on HW.out.bel | exact HSh.out.on HI.out.bel | exact HSh.out.on HW6.out.bel | exact HSh.out.on HW7.out.bel | exact HSh.out.on HW8.out.bel | exact HSh.out.on HW9.out.bel | exact HSh.out.on HW10.out.bel | exact HSh.out.on HW11.out.bel | exact HSh.out.on HW12.out.bel | exact HSh.out.on HI6.out.bel | exact HSh.out.on HI7.out.bel | exact HSh.out.on HI8.out.bel | exact HSh.out.on HI9.out.bel | exact HSh.out.on HI10.out.bel | exact HSh.out.on HI11.out.bel | exact HSh.out.on HI12.out.bel | exact HSh.out.on (HB.out.trans (hb.mono HB.out.size)) | exact HSh.out.on (HB0.out.trans (hb.mono HB0.out.size)) | exact HSh.out.on (HB1.out.trans (hb.mono HB1.out.size)) | exact HSh.out.on (HB2.out.trans (hb.mono HB2.out.size)) | exact HSh.out.on (HB3.out.trans (hb.mono HB3.out.size)) | exact HSh.out.on (HB4.out.trans (hb.mono HB4.out.size)) | exact HSh.out.on (HB5.out.trans (hb.mono HB5.out.size)) | exact HSh.out.on (HB6.out.trans (hb.mono HB6.out.size)) | exact HSh.out.on (HB7.out.trans (hb.mono HB7.out.size)) | exact HSh.out.on (HB8.out.trans (hb.mono HB8.out.size)) | exact HSh.out.on (HB9.out.trans (hb.mono HB9.out.size)) | exact HSh.out.on (HB10.out.trans (hb.mono HB10.out.size)) | exact HSh.out.on (HB11.out.trans (hb.mono HB11.out.size)) | exact HSh.out.on (HB12.out.trans (hb.mono HB12.out.size)) | exact HSh.out.on (HB13.out.trans (hb.mono HB13.out.size)) | exact HSh.out.on (HB14.out.trans (hb.mono HB14.out.size)) | exact HSh.out.on (HB15.out.trans (hb.mono HB15.out.size)) | exact HSh.out.on (HB16.out.trans (hb.mono HB16.out.size)) | exact HSh.out.on (HBk.out.trans (hb.mono HBk.out.size)) | exact HSh.out.on (HBK.out.trans (hb.mono HBK.out.size)) | exact HSh.out.on (HBG.out.trans (hb.mono HBG.out.size)) | exact HSh.out.on (HD0.out.trans (hb.mono HD0.out.size)) | exact HSh.out.on (HT6.out.bel.trans (hb.mono HT6.out.bel.size)) | exact HSh.out.on (HT7.out.bel.trans (hb.mono HT7.out.bel.size)) | exact HSh.out.on (HT8.out.bel.trans (hb.mono HT8.out.bel.size)) | exact HSh.out.on (HT9.out.bel.trans (hb.mono HT9.out.bel.size)) | exact HSh.out.on (HT10.out.bel.trans (hb.mono HT10.out.bel.size)) | exact HSh.out.on (HT11.out.bel.trans (hb.mono HT11.out.bel.size)) | exact HSh.out.on (HT12.out.bel.trans (hb.mono HT12.out.bel.size)) | exact HSh.out.on (HT13.out.bel.trans (hb.mono HT13.out.bel.size)) | exact HSh.out.on (HT9b.out.bel.trans (hb.mono HT9b.out.bel.size)) | exact HSh.out.on (HT.out.bel.trans (hb.mono HT.out.bel.size)) | exact HSh.out.on (HW.out.bel.trans (hb.mono HW.out.bel.size)) | exact HSh.out.on (HI.out.bel.trans (hb.mono HI.out.bel.size)) | exact HSh.out.on (HW6.out.bel.trans (hb.mono HW6.out.bel.size)) | exact HSh.out.on (HW7.out.bel.trans (hb.mono HW7.out.bel.size)) | exact HSh.out.on (HW8.out.bel.trans (hb.mono HW8.out.bel.size)) | exact HSh.out.on (HW9.out.bel.trans (hb.mono HW9.out.bel.size)) | exact HSh.out.on (HW10.out.bel.trans (hb.mono HW10.out.bel.size)) | exact HSh.out.on (HW11.out.bel.trans (hb.mono HW11.out.bel.size)) | exact HSh.out.on (HW12.out.bel.trans (hb.mono HW12.out.bel.size)) | exact HSh.out.on (HI6.out.bel.trans (hb.mono HI6.out.bel.size)) | exact HSh.out.on (HI7.out.bel.trans (hb.mono HI7.out.bel.size)) | exact HSh.out.on (HI8.out.bel.trans (hb.mono HI8.out.bel.size)) | exact HSh.out.on (HI9.out.bel.trans (hb.mono HI9.out.bel.size)) | exact HSh.out.on (HI10.out.bel.trans (hb.mono HI10.out.bel.size)) | exact HSh.out.on (HI11.out.bel.trans (hb.mono HI11.out.bel.size)) | exact HSh.out.on (HI12.out.bel.trans (hb.mono HI12.out.bel.size)))
    unfold TrimP at hC
    rw [HCT.out, HET.out, HTT.out, HTN.out] at hC
    obtain ⟨j0, j1, j2, j3, _⟩ := lvCells HG4.out
    go_wp2_with fail
    (with_reducible refine hC.mono ?_)
    rintro e v5 ⟨A5, c5, rfl, hO, hb⟩
    obtain ⟨w5, hw5⟩ : ∃ W, v5.alloc (.cells #[.int .i64 T.R, .int .i64 T.A, .int .i64 T.I, .slice A5 n4 c5] 24) = W := ⟨_, rfl⟩
    obtain ⟨g5, hg5⟩ : ∃ z, v5.heap.size = z := ⟨_, rfl⟩
    have hb5 : Below v5.heap.size v5 w5 := by rw [← hw5]; exact lvBelow _ _
    have HB5 := Lib.hid ((HB4.out.trans (hb.mono HB4.out.size)).trans (hb5.mono (Nat.le_trans HB4.out.size hb.size)))
    have HX5 := Lib.hid (keep_b hb5 (keep_b hb HX4.out))
    have HG5 := Lib.hid (keep_b hb5 (keep_b hb HG4.out))
    have HH5 : Hid (w5.heap[g5]? = some (Cq.obj ⟨T.R, T.A, T.I, A5, n4, c5, T.l⟩)) := by rw [← hw5, ← hg5]; exact heap_alloc_new _ _
    have HQT5 := Lib.hid ((HQT4.out.on hb).on hb5)
    have HQA5 : Hid (Cq.In ⟨T.R, T.A, T.I, A5, n4, c5, T.l⟩ w5) := OwnJ.cqn (hO.below hb5 (Nat.le_refl _)) HMT.out HTN.out
    have HR5 := Lib.hid ((HR4.out.on hb).on hb5)
    have HW5 := Lib.hid hw5
    clear hC hb hb5 hO hw5 j0 j1 j2 j3
    go_upto_region 9 with fail
    try rw [HW5.out]
    try rw [hg5]
    clear hg5 HW5
    have hC := codeCheck_any ⟨T.R, T.A, T.I, A3, n4, c3, T.l⟩ w5 HQT5.out (by first | exact HSh.out.on HB.out | exact HSh.out.on HB0.out | exact HSh.out.on HB1.out | exact HSh.out.on HB2.out | exact HSh.out.on HB3.out | exact HSh.out.on HB4.out | exact HSh.out.on HB5.out | exact HSh.out.on HB6.out | exact HSh.out.on HB7.out | exact HSh.out.on HB8.out | exact HSh.out.on HB9.out | exact HSh.out.on HB10.out | exact HSh.out.on HB11.out | exact HSh.out.on HB12.out | exact HSh.out.on HB13.out | exact HSh.out.on HB14.out | exact HSh.out.on HB15.out | exact HSh.out.on HB16.out | exact HSh.out.on HBk.out | exact HSh.out.on HBK.out | exact HSh.out.on HBG.out | exact HSh.out.on HD0.out | exact HSh.out.on HT6.out.bel | exact HSh.out.on HT7.out.bel | exact HSh.out.on HT8.out.bel | exact HSh.out.on HT9.out.bel | exact HSh.out.on HT10.out.bel | exact HSh.out.on HT11.out.bel | exact HSh.out.on HT12.out.bel | exact HSh.out.on HT13.out.bel | exact HSh.out.on HT9b.out.bel | exact HSh.out.on HT.out.bel | exact HSh.out.on HW.out.bel | exact HSh.out.on HI.out.bel | exact HSh.out.on HW6.out.bel | exact HSh.out.on HW7.out.bel | exact HSh.out.on HW8.out.bel | exact HSh.out.on HW9.out.bel | exact HSh.out.on HW10.out.bel | exact HSh.out.on HW11.out.bel | exact HSh.out.on HW12.out.bel | exact HSh.out.on HI6.out.bel | exact HSh.out.on HI7.out.bel | exact HSh.out.on HI8.out.bel | exact HSh.out.on HI9.out.bel | exact HSh.out.on HI10.out.bel | exact HSh.out.on HI11.out.bel | exact HSh.out.on HI12.out.bel | exact HSh.out.on (HB.out.trans (hb.mono HB.out.size)) | exact HSh.out.on (HB0.out.trans (hb.mono HB0.out.size)) | exact HSh.out.on (HB1.out.trans (hb.mono HB1.out.size)) | exact HSh.out.on (HB2.out.trans (hb.mono HB2.out.size)) | exact HSh.out.on (HB3.out.trans (hb.mono HB3.out.size)) | exact HSh.out.on (HB4.out.trans (hb.mono HB4.out.size)) | exact HSh.out.on (HB5.out.trans (hb.mono HB5.out.size)) | exact HSh.out.on (HB6.out.trans (hb.mono HB6.out.size)) | exact HSh.out.on (HB7.out.trans (hb.mono HB7.out.size)) | exact HSh.out.on (HB8.out.trans (hb.mono HB8.out.size)) | exact HSh.out.on (HB9.out.trans (hb.mono HB9.out.size)) | exact HSh.out.on (HB10.out.trans (hb.mono HB10.out.size)) | exact HSh.out.on (HB11.out.trans (hb.mono HB11.out.size)) | exact HSh.out.on (HB12.out.trans (hb.mono HB12.out.size)) | exact HSh.out.on (HB13.out.trans (hb.mono HB13.out.size)) | exact HSh.out.on (HB14.out.trans (hb.mono HB14.out.size)) | exact HSh.out.on (HB15.out.trans (hb.mono HB15.out.size)) | exact HSh.out.on (HB16.out.trans (hb.mono HB16.out.size)) | exact HSh.out.on (HBk.out.trans (hb.mono HBk.out.size)) | exact HSh.out.on (HBK.out.trans (hb.mono HBK.out.size)) | exact HSh.out.on (HBG.out.trans (hb.mono HBG.out.size)) | exact HSh.out.on (HD0.out.trans (hb.mono HD0.out.size)) | exact HSh.out.on (HT6.out.bel.trans (hb.mono HT6.out.bel.size)) | exact HSh.out.on (HT7.out.bel.trans (hb.mono HT7.out.bel.size)) | exact HSh.out.on (HT8.out.bel.trans (hb.mono HT8.out.bel.size)) | exact HSh.out.on (HT9.out.bel.trans (hb.mono HT9.out.bel.size)) | exact HSh.out.on (HT10.out.bel.trans (hb.mono HT10.out.bel.size)) | exact HSh.out.on (HT11.out.bel.trans (hb.mono HT11.out.bel.size)) | exact HSh.out.on (HT12.out.bel.trans (hb.mono HT12.out.bel.size)) | exact HSh.out.on (HT13.out.bel.trans (hb.mono HT13.out.bel.size)) | exact HSh.out.on (HT9b.out.bel.trans (hb.mono HT9b.out.bel.size)) | exact HSh.out.on (HT.out.bel.trans (hb.mono HT.out.bel.size)) | exact HSh.out.on (HW.out.bel.trans (hb.mono HW.out.bel.size)) | exact HSh.out.on (HI.out.bel.trans (hb.mono HI.out.bel.size)) | exact HSh.out.on (HW6.out.bel.trans (hb.mono HW6.out.bel.size)) | exact HSh.out.on (HW7.out.bel.trans (hb.mono HW7.out.bel.size)) | exact HSh.out.on (HW8.out.bel.trans (hb.mono HW8.out.bel.size)) | exact HSh.out.on (HW9.out.bel.trans (hb.mono HW9.out.bel.size)) | exact HSh.out.on (HW10.out.bel.trans (hb.mono HW10.out.bel.size)) | exact HSh.out.on (HW11.out.bel.trans (hb.mono HW11.out.bel.size)) | exact HSh.out.on (HW12.out.bel.trans (hb.mono HW12.out.bel.size)) | exact HSh.out.on (HI6.out.bel.trans (hb.mono HI6.out.bel.size)) | exact HSh.out.on (HI7.out.bel.trans (hb.mono HI7.out.bel.size)) | exact HSh.out.on (HI8.out.bel.trans (hb.mono HI8.out.bel.size)) | exact HSh.out.on (HI9.out.bel.trans (hb.mono HI9.out.bel.size)) | exact HSh.out.on (HI10.out.bel.trans (hb.mono HI10.out.bel.size)) | exact HSh.out.on (HI11.out.bel.trans (hb.mono HI11.out.bel.size)) | exact HSh.out.on (HI12.out.bel.trans (hb.mono HI12.out.bel.size)))
    unfold CkP at hC
    rw [HCT.out, HET.out] at hC
    obtain ⟨j0, j1, j2, j3, _⟩ := lvCells HG5.out
    go_wp2_with fail
    (with_reducible refine hC.mono ?_)
    rintro e w6 ⟨rfl, hb⟩
    have HB6 := Lib.hid (HB5.out.trans (hb.mono HB5.out.size))
    have HX6 := Lib.hid (keep_b hb HX5.out)
    have HG6 := Lib.hid (keep_b hb HG5.out)
    have HH6 := Lib.hid (keep_b hb HH5.out)
    have HQT6 := Lib.hid (HQT5.out.on hb)
    have HQA6 := Lib.hid (HQA5.out.on hb)
    have HR6 := Lib.hid (HR5.out.on hb)
    clear hC hb j0 j1 j2 j3
    have hC := codeSame_any ⟨T.R, T.A, T.I, A5, n4, c5, T.l⟩ ⟨T.R, T.A, T.I, A3, n4, c3, T.l⟩ w6 HQA6.out HQT6.out
    unfold SameP at hC
    rw [HCT.out, show Cq.cd ⟨T.R, T.A, T.I, A5, n4, c5, T.l⟩ = T from rfl, sameB_refl] at hC
    obtain ⟨j0, j1, j2, j3, _⟩ := lvCells HG6.out
    obtain ⟨k0, k1, k2, k3, _⟩ := lvCells HH6.out
    go_wp2_with fail
    (with_reducible refine hC.mono ?_)
    rintro e w7 ⟨rfl, hb⟩
    have HB7 := Lib.hid (HB6.out.trans (hb.mono HB6.out.size))
    have HX7 := Lib.hid (keep_b hb HX6.out)
    have HG7 := Lib.hid (keep_b hb HG6.out)
    have HQT7 := Lib.hid (HQT6.out.on hb)
    have HR7 := Lib.hid (HR6.out.on hb)
    clear hC hb j0 j1 j2 j3 k0 k1 k2 k3
    obtain ⟨wo, hwo⟩ : ∃ wo : World, wo = w7 := ⟨_, rfl⟩
    go_wp2_with fail
    go_loopw [79] (fun a wr => ∃ j : Nat, j ≤ n4 ∧ a = .int .i64 j ∧ wr = wo) (fun a _ => n4 - (intOf a).toNat)
    case atStart => exact ⟨0, Nat.zero_le _, rfl, hwo.symm⟩
    case round =>
      obtain ⟨j, hj, rfl, rfl⟩ := hrel
      subst hwo
      by_cases hjs : j < n4
      · obtain ⟨br, offr, rv, e8, _, hrv, z0⟩ := HR7.out.at_ hjs
        subst e8
        have hrt : rv = true := (reachB_iff hrv.out).2 (HRW.out j (by rw [HTN.out]; exact hjs))
        subst hrt
        have hjj : (j : Int) < (n4 : Int) := by omega
        clear hrv
        go_wp2_with fail
        go_roundw
        case rel => exact ⟨j + 1, by omega, by go_num, by first | trivial | rfl⟩
        case measure => simp [intOf]; omega
      obtain rfl : j = n4 := by omega
      clear hjs hj HR7 HR6 HR5 HR4 HH6 HH5 HQA6 HQA5
      obtain ⟨V, hV⟩ : ∃ V, validE (Cq.cd ⟨R, A, I, P, n, c, l⟩) = V := ⟨_, rfl⟩
      have HV := Lib.hid hV
      clear hV
      go_upto_region 17 with fail
      go_cut [86, 87, 88, 89, 90, 91, 92, 93] (fun a1 a2 a3 a4 a5 a6 a7 a8 wx => a8 = .bool false ∧ Hid (Below wr.heap.size wr wx))
      case first =>
        have hC := validCheck_any ⟨R, A, I, P, n, c, l⟩ wr (HQ.out.on HB7.out) (HSh.out.on HB7.out)
        unfold ValidP at hC
        rw [HV.out] at hC
        obtain ⟨m0, m1, m2, m3, _⟩ := lvCells HX7.out
        by_cases hv0 : V = 0
        · subst hv0
          go_wp2_with fail
          (with_reducible refine hC.mono ?_)
          rintro e w8 ⟨rfl, hb⟩
          have HB8 := Lib.hid hb
          have hC := validCheck_any ⟨T.R, T.A, T.I, A3, j, c3, T.l⟩ w8 (HQT7.out.on hb) (by first | exact HSh.out.on HB.out | exact HSh.out.on HB0.out | exact HSh.out.on HB1.out | exact HSh.out.on HB2.out | exact HSh.out.on HB3.out | exact HSh.out.on HB4.out | exact HSh.out.on HB5.out | exact HSh.out.on HB6.out | exact HSh.out.on HB7.out | exact HSh.out.on HB8.out | exact HSh.out.on HB9.out | exact HSh.out.on HB10.out | exact HSh.out.on HB11.out | exact HSh.out.on HB12.out | exact HSh.out.on HB13.out | exact HSh.out.on HB14.out | exact HSh.out.on HB15.out | exact HSh.out.on HB16.out | exact HSh.out.on HBk.out | exact HSh.out.on HBK.out | exact HSh.out.on HBG.out | exact HSh.out.on HD0.out | exact HSh.out.on HT6.out.bel | exact HSh.out.on HT7.out.bel | exact HSh.out.on HT8.out.bel | exact HSh.out.on HT9.out.bel | exact HSh.out.on HT10.out.bel | exact HSh.out.on HT11.out.bel | exact HSh.out.on HT12.out.bel | exact HSh.out.on HT13.out.bel | exact HSh.out.on HT9b.out.bel | exact HSh.out.on HT.out.bel | exact HSh.out.on HW.out.bel | exact HSh.out.on HI.out.bel | exact HSh.out.on HW6.out.bel | exact HSh.out.on HW7.out.bel | exact HSh.out.on HW8.out.bel | exact HSh.out.on HW9.out.bel | exact HSh.out.on HW10.out.bel | exact HSh.out.on HW11.out.bel | exact HSh.out.on HW12.out.bel | exact HSh.out.on HI6.out.bel | exact HSh.out.on HI7.out.bel | exact HSh.out.on HI8.out.bel | exact HSh.out.on HI9.out.bel | exact HSh.out.on HI10.out.bel | exact HSh.out.on HI11.out.bel | exact HSh.out.on HI12.out.bel | exact HSh.out.on (HB.out.trans (hb.mono HB.out.size)) | exact HSh.out.on (HB0.out.trans (hb.mono HB0.out.size)) | exact HSh.out.on (HB1.out.trans (hb.mono HB1.out.size)) | exact HSh.out.on (HB2.out.trans (hb.mono HB2.out.size)) | exact HSh.out.on (HB3.out.trans (hb.mono HB3.out.size)) | exact HSh.out.on (HB4.out.trans (hb.mono HB4.out.size)) | exact HSh.out.on (HB5.out.trans (hb.mono HB5.out.size)) | exact HSh.out.on (HB6.out.trans (hb.mono HB6.out.size)) | exact HSh.out.on (HB7.out.trans (hb.mono HB7.out.size)) | exact HSh.out.on (HB8.out.trans (hb.mono HB8.out.size)) | exact HSh.out.on (HB9.out.trans (hb.mono HB9.out.size)) | exact HSh.out.on (HB10.out.trans (hb.mono HB10.out.size)) | exact HSh.out.on (HB11.out.trans (hb.mono HB11.out.size)) | exact HSh.out.on (HB12.out.trans (hb.mono HB12.out.size)) | exact HSh.out.on (HB13.out.trans (hb.mono HB13.out.size)) | exact HSh.out.on (HB14.out.trans (hb.mono HB14.out.size)) | exact HSh.out.on (HB15.out.trans (hb.mono HB15.out.size)) | exact HSh.out.on (HB16.out.trans (hb.mono HB16.out.size)) | exact HSh.out.on (HBk.out.trans (hb.mono HBk.out.size)) | exact HSh.out.on (HBK.out.trans (hb.mono HBK.out.size)) | exact HSh.out.on (HBG.out.trans (hb.mono HBG.out.size)) | exact HSh.out.on (HD0.out.trans (hb.mono HD0.out.size)) | exact HSh.out.on (HT6.out.bel.trans (hb.mono HT6.out.bel.size)) | exact HSh.out.on (HT7.out.bel.trans (hb.mono HT7.out.bel.size)) | exact HSh.out.on (HT8.out.bel.trans (hb.mono HT8.out.bel.size)) | exact HSh.out.on (HT9.out.bel.trans (hb.mono HT9.out.bel.size)) | exact HSh.out.on (HT10.out.bel.trans (hb.mono HT10.out.bel.size)) | exact HSh.out.on (HT11.out.bel.trans (hb.mono HT11.out.bel.size)) | exact HSh.out.on (HT12.out.bel.trans (hb.mono HT12.out.bel.size)) | exact HSh.out.on (HT13.out.bel.trans (hb.mono HT13.out.bel.size)) | exact HSh.out.on (HT9b.out.bel.trans (hb.mono HT9b.out.bel.size)) | exact HSh.out.on (HT.out.bel.trans (hb.mono HT.out.bel.size)) | exact HSh.out.on (HW.out.bel.trans (hb.mono HW.out.bel.size)) | exact HSh.out.on (HI.out.bel.trans (hb.mono HI.out.bel.size)) | exact HSh.out.on (HW6.out.bel.trans (hb.mono HW6.out.bel.size)) | exact HSh.out.on (HW7.out.bel.trans (hb.mono HW7.out.bel.size)) | exact HSh.out.on (HW8.out.bel.trans (hb.mono HW8.out.bel.size)) | exact HSh.out.on (HW9.out.bel.trans (hb.mono HW9.out.bel.size)) | exact HSh.out.on (HW10.out.bel.trans (hb.mono HW10.out.bel.size)) | exact HSh.out.on (HW11.out.bel.trans (hb.mono HW11.out.bel.size)) | exact HSh.out.on (HW12.out.bel.trans (hb.mono HW12.out.bel.size)) | exact HSh.out.on (HI6.out.bel.trans (hb.mono HI6.out.bel.size)) | exact HSh.out.on (HI7.out.bel.trans (hb.mono HI7.out.bel.size)) | exact HSh.out.on (HI8.out.bel.trans (hb.mono HI8.out.bel.size)) | exact HSh.out.on (HI9.out.bel.trans (hb.mono HI9.out.bel.size)) | exact HSh.out.on (HI10.out.bel.trans (hb.mono HI10.out.bel.size)) | exact HSh.out.on (HI11.out.bel.trans (hb.mono HI11.out.bel.size)) | exact HSh.out.on (HI12.out.bel.trans (hb.mono HI12.out.bel.size)))
          unfold ValidP at hC
          rw [HCT.out, HVT.out HV.out] at hC
          have HG8 := Lib.hid (keep_b hb HG7.out)
          clear hb m0 m1 m2 m3
          obtain ⟨j0, j1, j2, j3, _⟩ := lvCells HG8.out
          go_wp2_with fail
          (with_reducible refine hC.mono ?_)
          rintro e w9 ⟨rfl, hb⟩
          have HB9 := Lib.hid (HB8.out.trans (hb.mono HB8.out.size))
          clear hb j0 j1 j2 j3
          go_wp2_with fail
          go_meet
          case rel => exact ⟨rfl, HB9⟩
        · go_wp2_with fail
          (with_reducible refine hC.mono ?_)
          rintro e w8 ⟨rfl, hb⟩
          have HB8 := Lib.hid hb
          clear hb m0 m1 m2 m3
          go_wp2_with fail
          go_meet
          case rel => exact ⟨rfl, HB8⟩
      obtain ⟨rfl, HBC⟩ := hcut
      have HQT8 := Lib.hid (HQT7.out.on HBC.out)
      have HT8 : Hid (TrmI w wc ⟨R, A, I, P, n, c, l⟩ ⟨T.R, T.A, T.I, A3, j, c3, T.l⟩ g3 wc) := ⟨HB7.out.trans (HBC.out.mono HB7.out.size), Below.refl _ _, keep_b HBC.out HX7.out, keep_b HBC.out HG7.out⟩
      obtain ⟨cd, hcd⟩ : ∃ cd, Cq.cd ⟨R, A, I, P, n, c, l⟩ = cd := ⟨_, rfl⟩
      have HCL : Hid (cd.l.length = n) := by rw [← hcd]; exact HLN
      have HCE : Hid (cd.l = l) := by rw [← hcd]; rfl
      rw [hcd] at HM HTE
      clear hcd HTC HV HVT HBC HQT7 HQT6 HQT5 HQT4 HQT3 HG7 HG6 HG5 HG4 HG3 HX7 HX6 HX5 HX4 HX3 HB7 HB6 HB5 HB4 HB3
      obtain ⟨w6, hw6⟩ : ∃ w6 : World, w6 = wc := ⟨_, rfl⟩
      rw [← hw6] at HQT8
      replace HT8 : Hid (TrmI w w6 ⟨R, A, I, P, n, c, l⟩ ⟨T.R, T.A, T.I, A3, j, c3, T.l⟩ g3 wc) := by rw [hw6]; exact HT8
      clear hw6
      have hrk0 : rk cd 0 = 0 := rk_zero
      go_wp2_with fail
      go_loopw [14, 15, 96] (fun a b d wr => ∃ (i k : Nat), i ≤ pn ∧ d = .int .i64 i ∧ a = .int .i64 k ∧ b = .int .i64 (rk cd k : Nat) ∧ Hid (Way cd.l (-1) k) ∧ Hid (TrmI w w6 ⟨R, A, I, P, n, c, l⟩ ⟨T.R, T.A, T.I, A3, j, c3, T.l⟩ g3 wr)) (fun _ _ d _ => pn - (intOf d).toNat)
      case atStart => exact ⟨0, 0, Nat.zero_le _, rfl, rfl, by rw [hrk0]; rfl, .start, HT8⟩
      case round =>
        obtain ⟨i, k, hi, rfl, rfl, rfl, HWAY, HT⟩ := hrel
        by_cases hip : i < pn
        case neg =>
          go_wp2_with fail
          go_ret
          exact ⟨rfl, HT.out.bel⟩
        have hkn : k < n := by
          have h := Way.lt HM.out HWAY.out
          rw [HCL.out] at h
          exact h
        have hwb : wayB cd k = true := wayB_iff.2 HWAY.out
        have hkt : rk cd k < j := by
          have h := rk_in (c := cd) (z := (k : Int)) (by omega) (by rw [HCL.out]; omega) (by rw [Int.toNat_natCast]; exact hwb)
          rw [Int.toNat_natCast, HTE.out, HTN.out] at h
          exact h
        obtain ⟨bp, offp, v, rfl, _, _, p0⟩ := (HP.out.keep (w' := wr) fun p hp => HT.out.bel.cell hp).at_ hip
        obtain ⟨b, off, x, hA, hbb, HXX, ⟨x0, x1, x2, x3, x4⟩, hxo⟩ := ((HQ.out.on HT.out.bel).ins).at_ hkn
        subst hA
        obtain ⟨b2, off2, y, hA, hbb2, HYY, ⟨y0, y1, y2, y3, y4⟩, hyo⟩ := ((HQT8.out.on HT.out.bel6).ins).at_ hkt
        subst hA
        have HXC : Hid (cd.l[k]? = some x) := by unfold Hid; rw [HCE.out]; exact HXX.out
        have hyx : y = renum (rk cd) x := by
          have h1 := trim_at HXC.out hwb
          rw [HTE.out] at h1
          have h2 : T.l[rk cd k]? = some y := HYY.out
          rw [h2] at h1
          exact Option.some.inj h1
        have hrn := renum_reads (rk cd) x (mayJ_parts ((Cd.may_parts HM.out).2.1 x (List.mem_of_getElem? HXC.out))).1
        rw [← hyx] at hrn
        have Hyr : Hid (readsJ y = readsJ x) := hrn.1
        have Hys : Hid (setsJ y = setsJ x) := hrn.2.1
        have Hyw : Hid (writesJ y = writesJ x) := hrn.2.2.1
        have Hyop : Hid (y.op = x.op) := hrn.2.2.2.1
        have Hyn : Hid (y.n = x.n) := hrn.2.2.2.2
        have Hyx : Hid (nextJ y (rk cd k : Nat) = (nextJ x k).map fun z => ((rk cd z.toNat : Nat) : Int)) := by unfold Hid; rw [hyx]; exact next_trim HM.out HXC.out hwb
        have HXK := Lib.hid hxo
        have HYK := Lib.hid hyo
        obtain ⟨kt, hktk⟩ : ∃ z, rk cd k = z := ⟨_, rfl⟩
        rw [hktk] at hkt Hyx HYY y0 y1 y2 y3 y4
        clear hyx hrn hwb hbb hbb2 hxo hyo
        have hii : (i : Int) < (pn : Int) := by omega
        have hk1 : (k : Int) < (n : Int) := by omega
        have hk2 : ¬ (k : Int) < 0 := by omega
        have hk3 : ¬ (n : Int) ≤ (k : Int) := by omega
        have ht1 : (kt : Int) < (j : Int) := by omega
        have ht2 : ¬ (kt : Int) < 0 := by omega
        have ht3 : ¬ (j : Int) ≤ (kt : Int) := by omega
        obtain ⟨m0, m1, m2, m3, _⟩ := lvCells HT.out.bx
        obtain ⟨j0, j1, j2, j3, _⟩ := lvCells HT.out.bt
        obtain ⟨W7, hW7⟩ : ∃ W, wr.alloc x.obj = W := ⟨_, rfl⟩
        obtain ⟨gx, hgx⟩ : ∃ z, wr.heap.size = z := ⟨_, rfl⟩
        have hb7 : Below wr.heap.size wr W7 := by rw [← hW7]; exact lvBelow _ _
        have HT7 := Lib.hid (HT.out.on hb7)
        have HGX7 : Hid (W7.heap[gx]? = some x.obj) := by rw [← hW7, ← hgx]; exact newJ wr x
        have q0 : W7.cell? ⟨b2, off2 + kt * 5, none⟩ = _ := (hb7.cell (block_lt_of_cell y0)).trans y0
        have q1 : W7.cell? ⟨b2, off2 + kt * 5 + 1, none⟩ = _ := (hb7.cell (block_lt_of_cell y1)).trans y1
        have q2 : W7.cell? ⟨b2, off2 + kt * 5 + 2, none⟩ = _ := (hb7.cell (block_lt_of_cell y2)).trans y2
        have q3 : W7.cell? ⟨b2, off2 + kt * 5 + 3, none⟩ = _ := (hb7.cell (block_lt_of_cell y3)).trans y3
        have q4 : W7.cell? ⟨b2, off2 + kt * 5 + 4, none⟩ = _ := (hb7.cell (block_lt_of_cell y4)).trans y4
        have HW7 := Lib.hid hW7
        clear hW7 hb7
        rw [hktk]
        go_upto_region 27 with fail
        try rw [HW7.out]
        try rw [hgx]
        clear hgx HW7 x0 x1 x2 x3 x4 y0 y1 y2 y3 y4 m0 m1 m2 m3 j0 j1 j2 j3
        obtain ⟨j0, j1, j2, j3, _⟩ := lvCells HT7.out.bt
        obtain ⟨W8, hW8⟩ : ∃ W, W7.alloc y.obj = W := ⟨_, rfl⟩
        obtain ⟨gy, hgy⟩ : ∃ z, W7.heap.size = z := ⟨_, rfl⟩
        have hb8 : Below W7.heap.size W7 W8 := by rw [← hW8]; exact lvBelow _ _
        have HT9 := Lib.hid (HT7.out.on hb8)
        have HGX8 := Lib.hid (keep_b hb8 HGX7.out)
        have HGY8 : Hid (W8.heap[gy]? = some y.obj) := by rw [← hW8, ← hgy]; exact newJ W7 y
        have HW8 := Lib.hid hW8
        clear hW8 hb8
        go_upto_region 28 with fail
        try rw [HW8.out]
        try rw [hgy]
        clear hgy HW8 q0 q1 q2 q3 q4 j0 j1 j2 j3
        obtain ⟨⟨x0, x1, x2, x3, x4⟩, _⟩ := box_cellsJ HGX8.out
        go_wp2_with fail
        refine (codeWrites_any x W8 HXK.out (by first | exact HSh.out.on HB.out | exact HSh.out.on HB0.out | exact HSh.out.on HB1.out | exact HSh.out.on HB2.out | exact HSh.out.on HB3.out | exact HSh.out.on HB4.out | exact HSh.out.on HB5.out | exact HSh.out.on HB6.out | exact HSh.out.on HB7.out | exact HSh.out.on HB8.out | exact HSh.out.on HB9.out | exact HSh.out.on HB10.out | exact HSh.out.on HB11.out | exact HSh.out.on HB12.out | exact HSh.out.on HB13.out | exact HSh.out.on HB14.out | exact HSh.out.on HB15.out | exact HSh.out.on HB16.out | exact HSh.out.on HBk.out | exact HSh.out.on HBK.out | exact HSh.out.on HBG.out | exact HSh.out.on HD0.out | exact HSh.out.on HT6.out.bel | exact HSh.out.on HT7.out.bel | exact HSh.out.on HT8.out.bel | exact HSh.out.on HT9.out.bel | exact HSh.out.on HT10.out.bel | exact HSh.out.on HT11.out.bel | exact HSh.out.on HT12.out.bel | exact HSh.out.on HT13.out.bel | exact HSh.out.on HT9b.out.bel | exact HSh.out.on HT.out.bel | exact HSh.out.on HW.out.bel | exact HSh.out.on HI.out.bel | exact HSh.out.on HW6.out.bel | exact HSh.out.on HW7.out.bel | exact HSh.out.on HW8.out.bel | exact HSh.out.on HW9.out.bel | exact HSh.out.on HW10.out.bel | exact HSh.out.on HW11.out.bel | exact HSh.out.on HW12.out.bel | exact HSh.out.on HI6.out.bel | exact HSh.out.on HI7.out.bel | exact HSh.out.on HI8.out.bel | exact HSh.out.on HI9.out.bel | exact HSh.out.on HI10.out.bel | exact HSh.out.on HI11.out.bel | exact HSh.out.on HI12.out.bel | exact HSh.out.on (HB.out.trans (hb.mono HB.out.size)) | exact HSh.out.on (HB0.out.trans (hb.mono HB0.out.size)) | exact HSh.out.on (HB1.out.trans (hb.mono HB1.out.size)) | exact HSh.out.on (HB2.out.trans (hb.mono HB2.out.size)) | exact HSh.out.on (HB3.out.trans (hb.mono HB3.out.size)) | exact HSh.out.on (HB4.out.trans (hb.mono HB4.out.size)) | exact HSh.out.on (HB5.out.trans (hb.mono HB5.out.size)) | exact HSh.out.on (HB6.out.trans (hb.mono HB6.out.size)) | exact HSh.out.on (HB7.out.trans (hb.mono HB7.out.size)) | exact HSh.out.on (HB8.out.trans (hb.mono HB8.out.size)) | exact HSh.out.on (HB9.out.trans (hb.mono HB9.out.size)) | exact HSh.out.on (HB10.out.trans (hb.mono HB10.out.size)) | exact HSh.out.on (HB11.out.trans (hb.mono HB11.out.size)) | exact HSh.out.on (HB12.out.trans (hb.mono HB12.out.size)) | exact HSh.out.on (HB13.out.trans (hb.mono HB13.out.size)) | exact HSh.out.on (HB14.out.trans (hb.mono HB14.out.size)) | exact HSh.out.on (HB15.out.trans (hb.mono HB15.out.size)) | exact HSh.out.on (HB16.out.trans (hb.mono HB16.out.size)) | exact HSh.out.on (HBk.out.trans (hb.mono HBk.out.size)) | exact HSh.out.on (HBK.out.trans (hb.mono HBK.out.size)) | exact HSh.out.on (HBG.out.trans (hb.mono HBG.out.size)) | exact HSh.out.on (HD0.out.trans (hb.mono HD0.out.size)) | exact HSh.out.on (HT6.out.bel.trans (hb.mono HT6.out.bel.size)) | exact HSh.out.on (HT7.out.bel.trans (hb.mono HT7.out.bel.size)) | exact HSh.out.on (HT8.out.bel.trans (hb.mono HT8.out.bel.size)) | exact HSh.out.on (HT9.out.bel.trans (hb.mono HT9.out.bel.size)) | exact HSh.out.on (HT10.out.bel.trans (hb.mono HT10.out.bel.size)) | exact HSh.out.on (HT11.out.bel.trans (hb.mono HT11.out.bel.size)) | exact HSh.out.on (HT12.out.bel.trans (hb.mono HT12.out.bel.size)) | exact HSh.out.on (HT13.out.bel.trans (hb.mono HT13.out.bel.size)) | exact HSh.out.on (HT9b.out.bel.trans (hb.mono HT9b.out.bel.size)) | exact HSh.out.on (HT.out.bel.trans (hb.mono HT.out.bel.size)) | exact HSh.out.on (HW.out.bel.trans (hb.mono HW.out.bel.size)) | exact HSh.out.on (HI.out.bel.trans (hb.mono HI.out.bel.size)) | exact HSh.out.on (HW6.out.bel.trans (hb.mono HW6.out.bel.size)) | exact HSh.out.on (HW7.out.bel.trans (hb.mono HW7.out.bel.size)) | exact HSh.out.on (HW8.out.bel.trans (hb.mono HW8.out.bel.size)) | exact HSh.out.on (HW9.out.bel.trans (hb.mono HW9.out.bel.size)) | exact HSh.out.on (HW10.out.bel.trans (hb.mono HW10.out.bel.size)) | exact HSh.out.on (HW11.out.bel.trans (hb.mono HW11.out.bel.size)) | exact HSh.out.on (HW12.out.bel.trans (hb.mono HW12.out.bel.size)) | exact HSh.out.on (HI6.out.bel.trans (hb.mono HI6.out.bel.size)) | exact HSh.out.on (HI7.out.bel.trans (hb.mono HI7.out.bel.size)) | exact HSh.out.on (HI8.out.bel.trans (hb.mono HI8.out.bel.size)) | exact HSh.out.on (HI9.out.bel.trans (hb.mono HI9.out.bel.size)) | exact HSh.out.on (HI10.out.bel.trans (hb.mono HI10.out.bel.size)) | exact HSh.out.on (HI11.out.bel.trans (hb.mono HI11.out.bel.size)) | exact HSh.out.on (HI12.out.bel.trans (hb.mono HI12.out.bel.size)))).mono ?_
        rintro e W9 ⟨rfl, hb⟩
        have HT9b := Lib.hid (HT9.out.on hb)
        have HGX9 := Lib.hid (keep_b hb HGX8.out)
        have HGY9 := Lib.hid (keep_b hb HGY8.out)
        clear hb x0 x1 x2 x3 x4
        obtain ⟨⟨y0, y1, y2, y3, y4⟩, _⟩ := box_cellsJ HGY9.out
        have hWy := codeWrites_any y W9 HYK.out (by first | exact HSh.out.on HB.out | exact HSh.out.on HB0.out | exact HSh.out.on HB1.out | exact HSh.out.on HB2.out | exact HSh.out.on HB3.out | exact HSh.out.on HB4.out | exact HSh.out.on HB5.out | exact HSh.out.on HB6.out | exact HSh.out.on HB7.out | exact HSh.out.on HB8.out | exact HSh.out.on HB9.out | exact HSh.out.on HB10.out | exact HSh.out.on HB11.out | exact HSh.out.on HB12.out | exact HSh.out.on HB13.out | exact HSh.out.on HB14.out | exact HSh.out.on HB15.out | exact HSh.out.on HB16.out | exact HSh.out.on HBk.out | exact HSh.out.on HBK.out | exact HSh.out.on HBG.out | exact HSh.out.on HD0.out | exact HSh.out.on HT6.out.bel | exact HSh.out.on HT7.out.bel | exact HSh.out.on HT8.out.bel | exact HSh.out.on HT9.out.bel | exact HSh.out.on HT10.out.bel | exact HSh.out.on HT11.out.bel | exact HSh.out.on HT12.out.bel | exact HSh.out.on HT13.out.bel | exact HSh.out.on HT9b.out.bel | exact HSh.out.on HT.out.bel | exact HSh.out.on HW.out.bel | exact HSh.out.on HI.out.bel | exact HSh.out.on HW6.out.bel | exact HSh.out.on HW7.out.bel | exact HSh.out.on HW8.out.bel | exact HSh.out.on HW9.out.bel | exact HSh.out.on HW10.out.bel | exact HSh.out.on HW11.out.bel | exact HSh.out.on HW12.out.bel | exact HSh.out.on HI6.out.bel | exact HSh.out.on HI7.out.bel | exact HSh.out.on HI8.out.bel | exact HSh.out.on HI9.out.bel | exact HSh.out.on HI10.out.bel | exact HSh.out.on HI11.out.bel | exact HSh.out.on HI12.out.bel | exact HSh.out.on (HB.out.trans (hb.mono HB.out.size)) | exact HSh.out.on (HB0.out.trans (hb.mono HB0.out.size)) | exact HSh.out.on (HB1.out.trans (hb.mono HB1.out.size)) | exact HSh.out.on (HB2.out.trans (hb.mono HB2.out.size)) | exact HSh.out.on (HB3.out.trans (hb.mono HB3.out.size)) | exact HSh.out.on (HB4.out.trans (hb.mono HB4.out.size)) | exact HSh.out.on (HB5.out.trans (hb.mono HB5.out.size)) | exact HSh.out.on (HB6.out.trans (hb.mono HB6.out.size)) | exact HSh.out.on (HB7.out.trans (hb.mono HB7.out.size)) | exact HSh.out.on (HB8.out.trans (hb.mono HB8.out.size)) | exact HSh.out.on (HB9.out.trans (hb.mono HB9.out.size)) | exact HSh.out.on (HB10.out.trans (hb.mono HB10.out.size)) | exact HSh.out.on (HB11.out.trans (hb.mono HB11.out.size)) | exact HSh.out.on (HB12.out.trans (hb.mono HB12.out.size)) | exact HSh.out.on (HB13.out.trans (hb.mono HB13.out.size)) | exact HSh.out.on (HB14.out.trans (hb.mono HB14.out.size)) | exact HSh.out.on (HB15.out.trans (hb.mono HB15.out.size)) | exact HSh.out.on (HB16.out.trans (hb.mono HB16.out.size)) | exact HSh.out.on (HBk.out.trans (hb.mono HBk.out.size)) | exact HSh.out.on (HBK.out.trans (hb.mono HBK.out.size)) | exact HSh.out.on (HBG.out.trans (hb.mono HBG.out.size)) | exact HSh.out.on (HD0.out.trans (hb.mono HD0.out.size)) | exact HSh.out.on (HT6.out.bel.trans (hb.mono HT6.out.bel.size)) | exact HSh.out.on (HT7.out.bel.trans (hb.mono HT7.out.bel.size)) | exact HSh.out.on (HT8.out.bel.trans (hb.mono HT8.out.bel.size)) | exact HSh.out.on (HT9.out.bel.trans (hb.mono HT9.out.bel.size)) | exact HSh.out.on (HT10.out.bel.trans (hb.mono HT10.out.bel.size)) | exact HSh.out.on (HT11.out.bel.trans (hb.mono HT11.out.bel.size)) | exact HSh.out.on (HT12.out.bel.trans (hb.mono HT12.out.bel.size)) | exact HSh.out.on (HT13.out.bel.trans (hb.mono HT13.out.bel.size)) | exact HSh.out.on (HT9b.out.bel.trans (hb.mono HT9b.out.bel.size)) | exact HSh.out.on (HT.out.bel.trans (hb.mono HT.out.bel.size)) | exact HSh.out.on (HW.out.bel.trans (hb.mono HW.out.bel.size)) | exact HSh.out.on (HI.out.bel.trans (hb.mono HI.out.bel.size)) | exact HSh.out.on (HW6.out.bel.trans (hb.mono HW6.out.bel.size)) | exact HSh.out.on (HW7.out.bel.trans (hb.mono HW7.out.bel.size)) | exact HSh.out.on (HW8.out.bel.trans (hb.mono HW8.out.bel.size)) | exact HSh.out.on (HW9.out.bel.trans (hb.mono HW9.out.bel.size)) | exact HSh.out.on (HW10.out.bel.trans (hb.mono HW10.out.bel.size)) | exact HSh.out.on (HW11.out.bel.trans (hb.mono HW11.out.bel.size)) | exact HSh.out.on (HW12.out.bel.trans (hb.mono HW12.out.bel.size)) | exact HSh.out.on (HI6.out.bel.trans (hb.mono HI6.out.bel.size)) | exact HSh.out.on (HI7.out.bel.trans (hb.mono HI7.out.bel.size)) | exact HSh.out.on (HI8.out.bel.trans (hb.mono HI8.out.bel.size)) | exact HSh.out.on (HI9.out.bel.trans (hb.mono HI9.out.bel.size)) | exact HSh.out.on (HI10.out.bel.trans (hb.mono HI10.out.bel.size)) | exact HSh.out.on (HI11.out.bel.trans (hb.mono HI11.out.bel.size)) | exact HSh.out.on (HI12.out.bel.trans (hb.mono HI12.out.bel.size)))
        unfold WritesP at hWy
        rw [Hyw.out, Hys.out] at hWy
        go_wp2_with fail
        refine hWy.mono ?_
        rintro e W10 ⟨rfl, hb⟩
        have HT10 := Lib.hid (HT9b.out.on hb)
        have HGX10 := Lib.hid (keep_b hb HGX9.out)
        have HGY10 := Lib.hid (keep_b hb HGY9.out)
        clear hb hWy y0 y1 y2 y3 y4
        go_upto_region 30 with fail
        have HFX : Hid (∀ W, Below W10.heap.size W10 W → CellsJ W gx 0 x ∧ CellsJ W gy 0 y) := fun W hb => ⟨(box_cellsJ (keep_b hb HGX10.out)).1, (box_cellsJ (keep_b hb HGY10.out)).1⟩
        have HLR : Hid ((readsJ x).length ≤ 100000) := Nat.le_trans (readsJ_length x) (by decide)
        have hmx : Tryd.prog.follows .mixedOrders = true := by kernel_rfl
        refine wp_region_vals (Vk.at [.fix (.pointer (some ⟨gx, 0, none⟩)), .fix (.int .i64 x.op), .fix (.pointer (some ⟨gy, 0, none⟩)), .fix (.int .i64 x.op), .fix (.bool false), .fix (.bool false), .fix (.pointer (some ⟨gx, 4, none⟩)), .fix (.int .i64 x.n), .fix (.pointer (some ⟨gy, 4, none⟩)), .fix (.int .i64 x.n), .fix (.bool false), .fix (.bool false), .fix (.bool false), .fix (.int .i64 (writesJ x)), .fix (.int .i64 (writesJ x)), .fix (.bool false), .fix (.bool false), .fix (.bool false), .fix (.bool (setsJ x)), .fix (.bool (setsJ x)), .fix (.bool false), .fix (.bool false), .fix (.bool false), .fix (Ji.val x), .ints (readsJ x), .fix (Ji.val y), .ints (readsJ x), .fix (.bool true), .fix (.bool false), .fix (.bool false)]) hmx (by kernel_rfl) (by kernel_rfl) (Vk.at_stay _) ?_ ?_
        · intro i o ho vs W2 hb hd K hK
          have hi : i < 30 := (List.getElem?_eq_some_iff.1 ho).1
          generalize hlit : putV vs 0 _ _ = z at hK ⊢
          simp only [List.map_cons, List.map_nil, putV, Act.put, List.setIfInBounds_toArray, List.set_cons_succ, List.set_cons_zero] at hlit
          subst hlit
          rcases (by omega : i = 0 ∨ i = 1 ∨ i = 2 ∨ i = 3 ∨ i = 4 ∨ i = 5 ∨ i = 6 ∨ i = 7 ∨ i = 8 ∨ i = 9 ∨ i = 10 ∨ i = 11 ∨ i = 12 ∨ i = 13 ∨ i = 14 ∨ i = 15 ∨ i = 16 ∨ i = 17 ∨ i = 18 ∨ i = 19 ∨ i = 20 ∨ i = 21 ∨ i = 22 ∨ i = 23 ∨ i = 24 ∨ i = 25 ∨ i = 26 ∨ i = 27 ∨ i = 28 ∨ i = 29) with rfl | rfl | rfl | rfl | rfl | rfl | rfl | rfl | rfl | rfl | rfl | rfl | rfl | rfl | rfl | rfl | rfl | rfl | rfl | rfl | rfl | rfl | rfl | rfl | rfl | rfl | rfl | rfl | rfl | rfl
          · -- 0
            obtain rfl := Option.some.inj ho
            clear ho hd hi
            go_simp
            exact hK _ (.pointer (some ⟨gx, 0, none⟩)) _ (by simp [Act.put]) (Below.refl _ _) rfl
          · -- 1
            obtain rfl := Option.some.inj ho
            have h0 : vs 0 = .pointer (some ⟨gx, 0, none⟩) := hd 0 (by kernel_rfl)
            clear ho hd hi
            obtain ⟨⟨x0, x1, x2, x3, x4⟩, ⟨y0, y1, y2, y3, y4⟩⟩ := HFX.out W2 hb
            go_simp
            exact hK _ (.int .i64 x.op) _ (by simp [Act.put, h0, Hyop.out, Hyn.out]) (Below.refl _ _) rfl
          · -- 2
            obtain rfl := Option.some.inj ho
            clear ho hd hi
            go_simp
            exact hK _ (.pointer (some ⟨gy, 0, none⟩)) _ (by simp [Act.put]) (Below.refl _ _) rfl
          · -- 3
            obtain rfl := Option.some.inj ho
            have h2 : vs 2 = .pointer (some ⟨gy, 0, none⟩) := hd 2 (by kernel_rfl)
            clear ho hd hi
            obtain ⟨⟨x0, x1, x2, x3, x4⟩, ⟨y0, y1, y2, y3, y4⟩⟩ := HFX.out W2 hb
            go_simp
            exact hK _ (.int .i64 x.op) _ (by simp [Act.put, h2, Hyop.out, Hyn.out]) (Below.refl _ _) rfl
          · -- 4
            obtain rfl := Option.some.inj ho
            have h1 : vs 1 = .int .i64 x.op := hd 1 (by kernel_rfl)
            have h3 : vs 3 = .int .i64 x.op := hd 3 (by kernel_rfl)
            clear ho hd hi
            go_simp
            exact hK _ (.bool false) _ (by simp [Act.put, h1, h3]) (Below.refl _ _) rfl
          · -- 5
            obtain rfl := Option.some.inj ho
            have h4 : vs 4 = .bool false := hd 4 (by kernel_rfl)
            clear ho hd hi
            go_simp
            exact hK _ (.bool false) _ (by simp [Act.put, h4]) (Below.refl _ _) rfl
          · -- 6
            obtain rfl := Option.some.inj ho
            have h5 : vs 5 = .bool false := hd 5 (by kernel_rfl)
            clear ho hd hi
            go_simp
            exact hK _ (.pointer (some ⟨gx, 4, none⟩)) _ (by simp [Act.put, h5]) (Below.refl _ _) rfl
          · -- 7
            obtain rfl := Option.some.inj ho
            have h5 : vs 5 = .bool false := hd 5 (by kernel_rfl)
            have h6 : vs 6 = .pointer (some ⟨gx, 4, none⟩) := hd 6 (by kernel_rfl)
            clear ho hd hi
            obtain ⟨⟨x0, x1, x2, x3, x4⟩, ⟨y0, y1, y2, y3, y4⟩⟩ := HFX.out W2 hb
            go_simp
            exact hK _ (.int .i64 x.n) _ (by simp [Act.put, h5, h6, Hyop.out, Hyn.out]) (Below.refl _ _) rfl
          · -- 8
            obtain rfl := Option.some.inj ho
            have h5 : vs 5 = .bool false := hd 5 (by kernel_rfl)
            clear ho hd hi
            go_simp
            exact hK _ (.pointer (some ⟨gy, 4, none⟩)) _ (by simp [Act.put, h5]) (Below.refl _ _) rfl
          · -- 9
            obtain rfl := Option.some.inj ho
            have h5 : vs 5 = .bool false := hd 5 (by kernel_rfl)
            have h8 : vs 8 = .pointer (some ⟨gy, 4, none⟩) := hd 8 (by kernel_rfl)
            clear ho hd hi
            obtain ⟨⟨x0, x1, x2, x3, x4⟩, ⟨y0, y1, y2, y3, y4⟩⟩ := HFX.out W2 hb
            go_simp
            exact hK _ (.int .i64 x.n) _ (by simp [Act.put, h5, h8, Hyop.out, Hyn.out]) (Below.refl _ _) rfl
          · -- 10
            obtain rfl := Option.some.inj ho
            have h5 : vs 5 = .bool false := hd 5 (by kernel_rfl)
            have h7 : vs 7 = .int .i64 x.n := hd 7 (by kernel_rfl)
            have h9 : vs 9 = .int .i64 x.n := hd 9 (by kernel_rfl)
            clear ho hd hi
            go_simp
            exact hK _ (.bool false) _ (by simp [Act.put, h5, h7, h9]) (Below.refl _ _) rfl
          · -- 11
            obtain rfl := Option.some.inj ho
            have h5 : vs 5 = .bool false := hd 5 (by kernel_rfl)
            have h10 : vs 10 = .bool false := hd 10 (by kernel_rfl)
            clear ho hd hi
            go_simp
            exact hK _ (.bool false) _ (by simp [Act.put, h5, h10]) (Below.refl _ _) rfl
          · -- 12
            obtain rfl := Option.some.inj ho
            have h11 : vs 11 = .bool false := hd 11 (by kernel_rfl)
            clear ho hd hi
            go_simp
            exact hK _ (.bool false) _ (by simp [Act.put, h11]) (Below.refl _ _) rfl
          · -- 13
            obtain rfl := Option.some.inj ho
            have h12 : vs 12 = .bool false := hd 12 (by kernel_rfl)
            clear ho hd hi
            go_simp
            exact hK _ (.int .i64 (writesJ x)) _ (by simp [Act.put, h12]) (Below.refl _ _) rfl
          · -- 14
            obtain rfl := Option.some.inj ho
            have h12 : vs 12 = .bool false := hd 12 (by kernel_rfl)
            clear ho hd hi
            go_simp
            exact hK _ (.int .i64 (writesJ x)) _ (by simp [Act.put, h12]) (Below.refl _ _) rfl
          · -- 15
            obtain rfl := Option.some.inj ho
            have h12 : vs 12 = .bool false := hd 12 (by kernel_rfl)
            have h13 : vs 13 = .int .i64 (writesJ x) := hd 13 (by kernel_rfl)
            have h14 : vs 14 = .int .i64 (writesJ x) := hd 14 (by kernel_rfl)
            clear ho hd hi
            go_simp
            exact hK _ (.bool false) _ (by simp [Act.put, h12, h13, h14]) (Below.refl _ _) rfl
          · -- 16
            obtain rfl := Option.some.inj ho
            have h12 : vs 12 = .bool false := hd 12 (by kernel_rfl)
            have h15 : vs 15 = .bool false := hd 15 (by kernel_rfl)
            clear ho hd hi
            go_simp
            exact hK _ (.bool false) _ (by simp [Act.put, h12, h15]) (Below.refl _ _) rfl
          · -- 17
            obtain rfl := Option.some.inj ho
            have h16 : vs 16 = .bool false := hd 16 (by kernel_rfl)
            clear ho hd hi
            go_simp
            exact hK _ (.bool false) _ (by simp [Act.put, h16]) (Below.refl _ _) rfl
          · -- 18
            obtain rfl := Option.some.inj ho
            have h17 : vs 17 = .bool false := hd 17 (by kernel_rfl)
            clear ho hd hi
            go_simp
            exact hK _ (.bool (setsJ x)) _ (by simp [Act.put, h17]) (Below.refl _ _) rfl
          · -- 19
            obtain rfl := Option.some.inj ho
            have h17 : vs 17 = .bool false := hd 17 (by kernel_rfl)
            clear ho hd hi
            go_simp
            exact hK _ (.bool (setsJ x)) _ (by simp [Act.put, h17]) (Below.refl _ _) rfl
          · -- 20
            obtain rfl := Option.some.inj ho
            have h17 : vs 17 = .bool false := hd 17 (by kernel_rfl)
            have h18 : vs 18 = .bool (setsJ x) := hd 18 (by kernel_rfl)
            have h19 : vs 19 = .bool (setsJ x) := hd 19 (by kernel_rfl)
            clear ho hd hi
            go_simp
            exact hK _ (.bool false) _ (by simp [Act.put, h17, h18, h19]) (Below.refl _ _) rfl
          · -- 21
            obtain rfl := Option.some.inj ho
            have h17 : vs 17 = .bool false := hd 17 (by kernel_rfl)
            have h20 : vs 20 = .bool false := hd 20 (by kernel_rfl)
            clear ho hd hi
            go_simp
            exact hK _ (.bool false) _ (by simp [Act.put, h17, h20]) (Below.refl _ _) rfl
          · -- 22
            obtain rfl := Option.some.inj ho
            have h21 : vs 21 = .bool false := hd 21 (by kernel_rfl)
            clear ho hd hi
            go_simp
            exact hK _ (.bool false) _ (by simp [Act.put, h21]) (Below.refl _ _) rfl
          · -- 23
            obtain rfl := Option.some.inj ho
            have h22 : vs 22 = .bool false := hd 22 (by kernel_rfl)
            clear ho hd hi
            obtain ⟨⟨x0, x1, x2, x3, x4⟩, ⟨y0, y1, y2, y3, y4⟩⟩ := HFX.out W2 hb
            go_simp
            exact hK _ (Ji.val x) _ (by simp [Act.put, h22]) (Below.refl _ _) rfl
          · -- 24
            obtain rfl := Option.some.inj ho
            have h22 : vs 22 = .bool false := hd 22 (by kernel_rfl)
            have h23 : vs 23 = Ji.val x := hd 23 (by kernel_rfl)
            clear ho hd hi
            go_simp
            go_at_call 26
            refine (codeReads_any x W2 HXK.out (by first | exact HSh.out.on HB.out | exact HSh.out.on HB0.out | exact HSh.out.on HB1.out | exact HSh.out.on HB2.out | exact HSh.out.on HB3.out | exact HSh.out.on HB4.out | exact HSh.out.on HB5.out | exact HSh.out.on HB6.out | exact HSh.out.on HB7.out | exact HSh.out.on HB8.out | exact HSh.out.on HB9.out | exact HSh.out.on HB10.out | exact HSh.out.on HB11.out | exact HSh.out.on HB12.out | exact HSh.out.on HB13.out | exact HSh.out.on HB14.out | exact HSh.out.on HB15.out | exact HSh.out.on HB16.out | exact HSh.out.on HBk.out | exact HSh.out.on HBK.out | exact HSh.out.on HBG.out | exact HSh.out.on HD0.out | exact HSh.out.on HT6.out.bel | exact HSh.out.on HT7.out.bel | exact HSh.out.on HT8.out.bel | exact HSh.out.on HT9.out.bel | exact HSh.out.on HT10.out.bel | exact HSh.out.on HT11.out.bel | exact HSh.out.on HT12.out.bel | exact HSh.out.on HT13.out.bel | exact HSh.out.on HT9b.out.bel | exact HSh.out.on HT.out.bel | exact HSh.out.on HW.out.bel | exact HSh.out.on HI.out.bel | exact HSh.out.on HW6.out.bel | exact HSh.out.on HW7.out.bel | exact HSh.out.on HW8.out.bel | exact HSh.out.on HW9.out.bel | exact HSh.out.on HW10.out.bel | exact HSh.out.on HW11.out.bel | exact HSh.out.on HW12.out.bel | exact HSh.out.on HI6.out.bel | exact HSh.out.on HI7.out.bel | exact HSh.out.on HI8.out.bel | exact HSh.out.on HI9.out.bel | exact HSh.out.on HI10.out.bel | exact HSh.out.on HI11.out.bel | exact HSh.out.on HI12.out.bel | exact HSh.out.on (HB.out.trans (hb.mono HB.out.size)) | exact HSh.out.on (HB0.out.trans (hb.mono HB0.out.size)) | exact HSh.out.on (HB1.out.trans (hb.mono HB1.out.size)) | exact HSh.out.on (HB2.out.trans (hb.mono HB2.out.size)) | exact HSh.out.on (HB3.out.trans (hb.mono HB3.out.size)) | exact HSh.out.on (HB4.out.trans (hb.mono HB4.out.size)) | exact HSh.out.on (HB5.out.trans (hb.mono HB5.out.size)) | exact HSh.out.on (HB6.out.trans (hb.mono HB6.out.size)) | exact HSh.out.on (HB7.out.trans (hb.mono HB7.out.size)) | exact HSh.out.on (HB8.out.trans (hb.mono HB8.out.size)) | exact HSh.out.on (HB9.out.trans (hb.mono HB9.out.size)) | exact HSh.out.on (HB10.out.trans (hb.mono HB10.out.size)) | exact HSh.out.on (HB11.out.trans (hb.mono HB11.out.size)) | exact HSh.out.on (HB12.out.trans (hb.mono HB12.out.size)) | exact HSh.out.on (HB13.out.trans (hb.mono HB13.out.size)) | exact HSh.out.on (HB14.out.trans (hb.mono HB14.out.size)) | exact HSh.out.on (HB15.out.trans (hb.mono HB15.out.size)) | exact HSh.out.on (HB16.out.trans (hb.mono HB16.out.size)) | exact HSh.out.on (HBk.out.trans (hb.mono HBk.out.size)) | exact HSh.out.on (HBK.out.trans (hb.mono HBK.out.size)) | exact HSh.out.on (HBG.out.trans (hb.mono HBG.out.size)) | exact HSh.out.on (HD0.out.trans (hb.mono HD0.out.size)) | exact HSh.out.on (HT6.out.bel.trans (hb.mono HT6.out.bel.size)) | exact HSh.out.on (HT7.out.bel.trans (hb.mono HT7.out.bel.size)) | exact HSh.out.on (HT8.out.bel.trans (hb.mono HT8.out.bel.size)) | exact HSh.out.on (HT9.out.bel.trans (hb.mono HT9.out.bel.size)) | exact HSh.out.on (HT10.out.bel.trans (hb.mono HT10.out.bel.size)) | exact HSh.out.on (HT11.out.bel.trans (hb.mono HT11.out.bel.size)) | exact HSh.out.on (HT12.out.bel.trans (hb.mono HT12.out.bel.size)) | exact HSh.out.on (HT13.out.bel.trans (hb.mono HT13.out.bel.size)) | exact HSh.out.on (HT9b.out.bel.trans (hb.mono HT9b.out.bel.size)) | exact HSh.out.on (HT.out.bel.trans (hb.mono HT.out.bel.size)) | exact HSh.out.on (HW.out.bel.trans (hb.mono HW.out.bel.size)) | exact HSh.out.on (HI.out.bel.trans (hb.mono HI.out.bel.size)) | exact HSh.out.on (HW6.out.bel.trans (hb.mono HW6.out.bel.size)) | exact HSh.out.on (HW7.out.bel.trans (hb.mono HW7.out.bel.size)) | exact HSh.out.on (HW8.out.bel.trans (hb.mono HW8.out.bel.size)) | exact HSh.out.on (HW9.out.bel.trans (hb.mono HW9.out.bel.size)) | exact HSh.out.on (HW10.out.bel.trans (hb.mono HW10.out.bel.size)) | exact HSh.out.on (HW11.out.bel.trans (hb.mono HW11.out.bel.size)) | exact HSh.out.on (HW12.out.bel.trans (hb.mono HW12.out.bel.size)) | exact HSh.out.on (HI6.out.bel.trans (hb.mono HI6.out.bel.size)) | exact HSh.out.on (HI7.out.bel.trans (hb.mono HI7.out.bel.size)) | exact HSh.out.on (HI8.out.bel.trans (hb.mono HI8.out.bel.size)) | exact HSh.out.on (HI9.out.bel.trans (hb.mono HI9.out.bel.size)) | exact HSh.out.on (HI10.out.bel.trans (hb.mono HI10.out.bel.size)) | exact HSh.out.on (HI11.out.bel.trans (hb.mono HI11.out.bel.size)) | exact HSh.out.on (HI12.out.bel.trans (hb.mono HI12.out.bel.size)))).mono ?_
            rintro e w3 ⟨A8, c8, rfl, hO8, hb3⟩
            exact hK _ (.slice A8 (readsJ x).length c8) _ (by simp [Act.put, h22, h23]) hb3 ⟨A8, c8, rfl, hO8.ints⟩
          · -- 25
            obtain rfl := Option.some.inj ho
            have h22 : vs 22 = .bool false := hd 22 (by kernel_rfl)
            clear ho hd hi
            obtain ⟨⟨x0, x1, x2, x3, x4⟩, ⟨y0, y1, y2, y3, y4⟩⟩ := HFX.out W2 hb
            go_simp
            exact hK _ (Ji.val y) _ (by simp [Act.put, h22]) (Below.refl _ _) rfl
          · -- 26
            obtain rfl := Option.some.inj ho
            have h22 : vs 22 = .bool false := hd 22 (by kernel_rfl)
            have h25 : vs 25 = Ji.val y := hd 25 (by kernel_rfl)
            clear ho hd hi
            go_simp
            have hRy := codeReads_any y W2 HYK.out (by first | exact HSh.out.on HB.out | exact HSh.out.on HB0.out | exact HSh.out.on HB1.out | exact HSh.out.on HB2.out | exact HSh.out.on HB3.out | exact HSh.out.on HB4.out | exact HSh.out.on HB5.out | exact HSh.out.on HB6.out | exact HSh.out.on HB7.out | exact HSh.out.on HB8.out | exact HSh.out.on HB9.out | exact HSh.out.on HB10.out | exact HSh.out.on HB11.out | exact HSh.out.on HB12.out | exact HSh.out.on HB13.out | exact HSh.out.on HB14.out | exact HSh.out.on HB15.out | exact HSh.out.on HB16.out | exact HSh.out.on HBk.out | exact HSh.out.on HBK.out | exact HSh.out.on HBG.out | exact HSh.out.on HD0.out | exact HSh.out.on HT6.out.bel | exact HSh.out.on HT7.out.bel | exact HSh.out.on HT8.out.bel | exact HSh.out.on HT9.out.bel | exact HSh.out.on HT10.out.bel | exact HSh.out.on HT11.out.bel | exact HSh.out.on HT12.out.bel | exact HSh.out.on HT13.out.bel | exact HSh.out.on HT9b.out.bel | exact HSh.out.on HT.out.bel | exact HSh.out.on HW.out.bel | exact HSh.out.on HI.out.bel | exact HSh.out.on HW6.out.bel | exact HSh.out.on HW7.out.bel | exact HSh.out.on HW8.out.bel | exact HSh.out.on HW9.out.bel | exact HSh.out.on HW10.out.bel | exact HSh.out.on HW11.out.bel | exact HSh.out.on HW12.out.bel | exact HSh.out.on HI6.out.bel | exact HSh.out.on HI7.out.bel | exact HSh.out.on HI8.out.bel | exact HSh.out.on HI9.out.bel | exact HSh.out.on HI10.out.bel | exact HSh.out.on HI11.out.bel | exact HSh.out.on HI12.out.bel | exact HSh.out.on (HB.out.trans (hb.mono HB.out.size)) | exact HSh.out.on (HB0.out.trans (hb.mono HB0.out.size)) | exact HSh.out.on (HB1.out.trans (hb.mono HB1.out.size)) | exact HSh.out.on (HB2.out.trans (hb.mono HB2.out.size)) | exact HSh.out.on (HB3.out.trans (hb.mono HB3.out.size)) | exact HSh.out.on (HB4.out.trans (hb.mono HB4.out.size)) | exact HSh.out.on (HB5.out.trans (hb.mono HB5.out.size)) | exact HSh.out.on (HB6.out.trans (hb.mono HB6.out.size)) | exact HSh.out.on (HB7.out.trans (hb.mono HB7.out.size)) | exact HSh.out.on (HB8.out.trans (hb.mono HB8.out.size)) | exact HSh.out.on (HB9.out.trans (hb.mono HB9.out.size)) | exact HSh.out.on (HB10.out.trans (hb.mono HB10.out.size)) | exact HSh.out.on (HB11.out.trans (hb.mono HB11.out.size)) | exact HSh.out.on (HB12.out.trans (hb.mono HB12.out.size)) | exact HSh.out.on (HB13.out.trans (hb.mono HB13.out.size)) | exact HSh.out.on (HB14.out.trans (hb.mono HB14.out.size)) | exact HSh.out.on (HB15.out.trans (hb.mono HB15.out.size)) | exact HSh.out.on (HB16.out.trans (hb.mono HB16.out.size)) | exact HSh.out.on (HBk.out.trans (hb.mono HBk.out.size)) | exact HSh.out.on (HBK.out.trans (hb.mono HBK.out.size)) | exact HSh.out.on (HBG.out.trans (hb.mono HBG.out.size)) | exact HSh.out.on (HD0.out.trans (hb.mono HD0.out.size)) | exact HSh.out.on (HT6.out.bel.trans (hb.mono HT6.out.bel.size)) | exact HSh.out.on (HT7.out.bel.trans (hb.mono HT7.out.bel.size)) | exact HSh.out.on (HT8.out.bel.trans (hb.mono HT8.out.bel.size)) | exact HSh.out.on (HT9.out.bel.trans (hb.mono HT9.out.bel.size)) | exact HSh.out.on (HT10.out.bel.trans (hb.mono HT10.out.bel.size)) | exact HSh.out.on (HT11.out.bel.trans (hb.mono HT11.out.bel.size)) | exact HSh.out.on (HT12.out.bel.trans (hb.mono HT12.out.bel.size)) | exact HSh.out.on (HT13.out.bel.trans (hb.mono HT13.out.bel.size)) | exact HSh.out.on (HT9b.out.bel.trans (hb.mono HT9b.out.bel.size)) | exact HSh.out.on (HT.out.bel.trans (hb.mono HT.out.bel.size)) | exact HSh.out.on (HW.out.bel.trans (hb.mono HW.out.bel.size)) | exact HSh.out.on (HI.out.bel.trans (hb.mono HI.out.bel.size)) | exact HSh.out.on (HW6.out.bel.trans (hb.mono HW6.out.bel.size)) | exact HSh.out.on (HW7.out.bel.trans (hb.mono HW7.out.bel.size)) | exact HSh.out.on (HW8.out.bel.trans (hb.mono HW8.out.bel.size)) | exact HSh.out.on (HW9.out.bel.trans (hb.mono HW9.out.bel.size)) | exact HSh.out.on (HW10.out.bel.trans (hb.mono HW10.out.bel.size)) | exact HSh.out.on (HW11.out.bel.trans (hb.mono HW11.out.bel.size)) | exact HSh.out.on (HW12.out.bel.trans (hb.mono HW12.out.bel.size)) | exact HSh.out.on (HI6.out.bel.trans (hb.mono HI6.out.bel.size)) | exact HSh.out.on (HI7.out.bel.trans (hb.mono HI7.out.bel.size)) | exact HSh.out.on (HI8.out.bel.trans (hb.mono HI8.out.bel.size)) | exact HSh.out.on (HI9.out.bel.trans (hb.mono HI9.out.bel.size)) | exact HSh.out.on (HI10.out.bel.trans (hb.mono HI10.out.bel.size)) | exact HSh.out.on (HI11.out.bel.trans (hb.mono HI11.out.bel.size)) | exact HSh.out.on (HI12.out.bel.trans (hb.mono HI12.out.bel.size)))
            unfold ReadsP at hRy
            rw [Hyr.out] at hRy
            go_at_call 26
            refine hRy.mono ?_
            rintro e w3 ⟨A8, c8, rfl, hO8, hb3⟩
            exact hK _ (.slice A8 (readsJ x).length c8) _ (by simp [Act.put, h22, h25]) hb3 ⟨A8, c8, rfl, hO8.ints⟩
          · -- 27
            obtain rfl := Option.some.inj ho
            have h22 : vs 22 = .bool false := hd 22 (by kernel_rfl)
            obtain ⟨P24, z24, h24, i24⟩ : ∃ A c, vs 24 = .slice A (readsJ x).length c ∧ Ints W2 W2.heap.size A (readsJ x).length (readsJ x) := hd 24 (by kernel_rfl)
            obtain ⟨P26, z26, h26, i26⟩ : ∃ A c, vs 26 = .slice A (readsJ x).length c ∧ Ints W2 W2.heap.size A (readsJ x).length (readsJ x) := hd 26 (by kernel_rfl)
            clear ho hd hi
            go_simp
            go_at_call 22
            refine (eqR17 P24 P26 _ _ z24 z26 _ _ W2 i24 i26 HLR.out (by have := HLR.out; omega) rfl).mono ?_
            rintro e w3 ⟨rfl, hb3⟩
            exact hK _ (.bool true) _ (by simp [Act.put, h22, h24, h26]) hb3 rfl
          · -- 28
            obtain rfl := Option.some.inj ho
            have h22 : vs 22 = .bool false := hd 22 (by kernel_rfl)
            have h27 : vs 27 = .bool true := hd 27 (by kernel_rfl)
            clear ho hd hi
            go_simp
            exact hK _ (.bool false) _ (by simp [Act.put, h22, h27]) (Below.refl _ _) rfl
          · -- 29
            obtain rfl := Option.some.inj ho
            have h22 : vs 22 = .bool false := hd 22 (by kernel_rfl)
            have h28 : vs 28 = .bool false := hd 28 (by kernel_rfl)
            clear ho hd hi
            go_simp
            exact hK _ (.bool false) _ (by simp [Act.put, h22, h28]) (Below.refl _ _) rfl
        · intro vs W11 hb hall
          have h29 : vs 29 = .bool false := hall 29 (by decide)
          generalize hlit : putV vs 0 _ _ = z
          simp only [List.map_cons, List.map_nil, putV, Act.put, List.setIfInBounds_toArray, List.set_cons_succ, List.set_cons_zero] at hlit
          subst hlit
          rw [h29]
          have HT11 := Lib.hid (HT10.out.on hb)
          have HGX := Lib.hid (keep_b hb HGX10.out)
          have HGY := Lib.hid (keep_b hb HGY10.out)
          clear hall hb h29
          have hNx := codeNext_any x (k : Int) W11 HXK.out (by omega) (by first | exact HSh.out.on HB.out | exact HSh.out.on HB0.out | exact HSh.out.on HB1.out | exact HSh.out.on HB2.out | exact HSh.out.on HB3.out | exact HSh.out.on HB4.out | exact HSh.out.on HB5.out | exact HSh.out.on HB6.out | exact HSh.out.on HB7.out | exact HSh.out.on HB8.out | exact HSh.out.on HB9.out | exact HSh.out.on HB10.out | exact HSh.out.on HB11.out | exact HSh.out.on HB12.out | exact HSh.out.on HB13.out | exact HSh.out.on HB14.out | exact HSh.out.on HB15.out | exact HSh.out.on HB16.out | exact HSh.out.on HBk.out | exact HSh.out.on HBK.out | exact HSh.out.on HBG.out | exact HSh.out.on HD0.out | exact HSh.out.on HT6.out.bel | exact HSh.out.on HT7.out.bel | exact HSh.out.on HT8.out.bel | exact HSh.out.on HT9.out.bel | exact HSh.out.on HT10.out.bel | exact HSh.out.on HT11.out.bel | exact HSh.out.on HT12.out.bel | exact HSh.out.on HT13.out.bel | exact HSh.out.on HT9b.out.bel | exact HSh.out.on HT.out.bel | exact HSh.out.on HW.out.bel | exact HSh.out.on HI.out.bel | exact HSh.out.on HW6.out.bel | exact HSh.out.on HW7.out.bel | exact HSh.out.on HW8.out.bel | exact HSh.out.on HW9.out.bel | exact HSh.out.on HW10.out.bel | exact HSh.out.on HW11.out.bel | exact HSh.out.on HW12.out.bel | exact HSh.out.on HI6.out.bel | exact HSh.out.on HI7.out.bel | exact HSh.out.on HI8.out.bel | exact HSh.out.on HI9.out.bel | exact HSh.out.on HI10.out.bel | exact HSh.out.on HI11.out.bel | exact HSh.out.on HI12.out.bel | exact HSh.out.on (HB.out.trans (hb.mono HB.out.size)) | exact HSh.out.on (HB0.out.trans (hb.mono HB0.out.size)) | exact HSh.out.on (HB1.out.trans (hb.mono HB1.out.size)) | exact HSh.out.on (HB2.out.trans (hb.mono HB2.out.size)) | exact HSh.out.on (HB3.out.trans (hb.mono HB3.out.size)) | exact HSh.out.on (HB4.out.trans (hb.mono HB4.out.size)) | exact HSh.out.on (HB5.out.trans (hb.mono HB5.out.size)) | exact HSh.out.on (HB6.out.trans (hb.mono HB6.out.size)) | exact HSh.out.on (HB7.out.trans (hb.mono HB7.out.size)) | exact HSh.out.on (HB8.out.trans (hb.mono HB8.out.size)) | exact HSh.out.on (HB9.out.trans (hb.mono HB9.out.size)) | exact HSh.out.on (HB10.out.trans (hb.mono HB10.out.size)) | exact HSh.out.on (HB11.out.trans (hb.mono HB11.out.size)) | exact HSh.out.on (HB12.out.trans (hb.mono HB12.out.size)) | exact HSh.out.on (HB13.out.trans (hb.mono HB13.out.size)) | exact HSh.out.on (HB14.out.trans (hb.mono HB14.out.size)) | exact HSh.out.on (HB15.out.trans (hb.mono HB15.out.size)) | exact HSh.out.on (HB16.out.trans (hb.mono HB16.out.size)) | exact HSh.out.on (HBk.out.trans (hb.mono HBk.out.size)) | exact HSh.out.on (HBK.out.trans (hb.mono HBK.out.size)) | exact HSh.out.on (HBG.out.trans (hb.mono HBG.out.size)) | exact HSh.out.on (HD0.out.trans (hb.mono HD0.out.size)) | exact HSh.out.on (HT6.out.bel.trans (hb.mono HT6.out.bel.size)) | exact HSh.out.on (HT7.out.bel.trans (hb.mono HT7.out.bel.size)) | exact HSh.out.on (HT8.out.bel.trans (hb.mono HT8.out.bel.size)) | exact HSh.out.on (HT9.out.bel.trans (hb.mono HT9.out.bel.size)) | exact HSh.out.on (HT10.out.bel.trans (hb.mono HT10.out.bel.size)) | exact HSh.out.on (HT11.out.bel.trans (hb.mono HT11.out.bel.size)) | exact HSh.out.on (HT12.out.bel.trans (hb.mono HT12.out.bel.size)) | exact HSh.out.on (HT13.out.bel.trans (hb.mono HT13.out.bel.size)) | exact HSh.out.on (HT9b.out.bel.trans (hb.mono HT9b.out.bel.size)) | exact HSh.out.on (HT.out.bel.trans (hb.mono HT.out.bel.size)) | exact HSh.out.on (HW.out.bel.trans (hb.mono HW.out.bel.size)) | exact HSh.out.on (HI.out.bel.trans (hb.mono HI.out.bel.size)) | exact HSh.out.on (HW6.out.bel.trans (hb.mono HW6.out.bel.size)) | exact HSh.out.on (HW7.out.bel.trans (hb.mono HW7.out.bel.size)) | exact HSh.out.on (HW8.out.bel.trans (hb.mono HW8.out.bel.size)) | exact HSh.out.on (HW9.out.bel.trans (hb.mono HW9.out.bel.size)) | exact HSh.out.on (HW10.out.bel.trans (hb.mono HW10.out.bel.size)) | exact HSh.out.on (HW11.out.bel.trans (hb.mono HW11.out.bel.size)) | exact HSh.out.on (HW12.out.bel.trans (hb.mono HW12.out.bel.size)) | exact HSh.out.on (HI6.out.bel.trans (hb.mono HI6.out.bel.size)) | exact HSh.out.on (HI7.out.bel.trans (hb.mono HI7.out.bel.size)) | exact HSh.out.on (HI8.out.bel.trans (hb.mono HI8.out.bel.size)) | exact HSh.out.on (HI9.out.bel.trans (hb.mono HI9.out.bel.size)) | exact HSh.out.on (HI10.out.bel.trans (hb.mono HI10.out.bel.size)) | exact HSh.out.on (HI11.out.bel.trans (hb.mono HI11.out.bel.size)) | exact HSh.out.on (HI12.out.bel.trans (hb.mono HI12.out.bel.size)))
          unfold NextP at hNx
          have hNy := fun W (hW : Below w.heap.size w W) => codeNext_any y (kt : Int) W HYK.out (by omega) (HSh.out.on hW)
          unfold NextP at hNy
          rw [Hyx.out] at hNy
          have hMX : ∀ z ∈ nextJ x k, 0 ≤ z ∧ z < n := fun z hz => by
            have h2 := Cd.next_in HM.out HXC.out z hz
            rw [HCL.out] at h2
            exact h2
          have HON : Hid (∀ z : Nat, (z : Int) ∈ nextJ x k → Way cd.l (-1) z) := fun z hz => Way.on HM.out HWAY.out HXC.out hz
          have hnx2 : (nextJ x k).length ≤ 2 := next_two15 x k
          obtain ⟨nx, hnx⟩ : ∃ z, nextJ x (k : Int) = z := ⟨_, rfl⟩
          rw [hnx] at hNx hNy HON hMX hnx2
          have HMX := Lib.hid hMX
          clear hnx hMX
          obtain ⟨⟨x0, x1, x2, x3, x4⟩, _⟩ := box_cellsJ HGX.out
          obtain ⟨ny, hny⟩ : ∃ z, nx.map (fun z => ((rk cd z.toNat : Nat) : Int)) = z := ⟨_, rfl⟩
          rw [hny] at hNy
          have HNY := Lib.hid hny
          clear hny
          go_wp2_with fail
          (with_reducible refine hNx.mono ?_)
          rintro e W12 ⟨A12, c12, rfl, hO12, hb⟩
          have HT12 := Lib.hid (HT11.out.on hb)
          have HO12 := Lib.hid hO12
          have HGY12 := Lib.hid (keep_b hb HGY.out)
          clear hb hO12 hNx x0 x1 x2 x3 x4
          obtain ⟨⟨y0, y1, y2, y3, y4⟩, _⟩ := box_cellsJ HGY12.out
          go_wp2_with fail
          (with_reducible refine (hNy _ HT12.out.bel).mono ?_)
          rintro e W13 ⟨A13, c13, rfl, hO13, hb⟩
          have HT13 := Lib.hid (HT12.out.on hb)
          have HO13 := Lib.hid hO13
          have HO12b := Lib.hid (HO12.out.below hb (Nat.le_refl _))
          clear hb hO13 hNy y0 y1 y2 y3 y4
          match nx, hnx2 with
          | [], _ =>
            obtain rfl : ny = [] := by rw [← HNY.out]; rfl
            go_wp2_with fail
            go_ret
            exact ⟨rfl, HT13.out.bel⟩
          | [u], _ =>
            have hub := HMX.out u (by simp)
            obtain ⟨z, rfl⟩ : ∃ z : Nat, u = (z : Int) := ⟨u.toNat, by omega⟩
            obtain rfl : ny = [((rk cd z : Nat) : Int)] := by rw [← HNY.out]; rfl
            have HWAY_ : Hid (Way cd.l (-1) z) := HON.out z (by simp)
            obtain ⟨g5, rfl, u0⟩ := own_at15 HO12b.out (k := 0) rfl
            obtain ⟨g6, rfl, v0⟩ := own_at15 HO13.out (k := 0) rfl
            have hl : ([(z : Int)] : List Int).length = 1 := rfl
            have hl2 : ([((rk cd z : Nat) : Int)] : List Int).length = 1 := rfl
            cases v
            all_goals (
              go_wp2_with fail
              go_roundw
              case rel => exact ⟨i + 1, z, by omega, by go_num, rfl, rfl, HWAY_, HT13⟩
              case measure => simp [intOf]; omega)
          | [u, u2], _ =>
            have hub := HMX.out u (by simp)
            have hub2 := HMX.out u2 (by simp)
            obtain ⟨z, rfl⟩ : ∃ z : Nat, u = (z : Int) := ⟨u.toNat, by omega⟩
            obtain ⟨z2, rfl⟩ : ∃ z : Nat, u2 = (z : Int) := ⟨u2.toNat, by omega⟩
            obtain rfl : ny = [((rk cd z : Nat) : Int), ((rk cd z2 : Nat) : Int)] := by rw [← HNY.out]; rfl
            have HWAYa : Hid (Way cd.l (-1) z) := HON.out z (by simp)
            have HWAYb : Hid (Way cd.l (-1) z2) := HON.out z2 (by simp)
            obtain ⟨g5, rfl, u0⟩ := own_at15 HO12b.out (k := 0) rfl
            obtain ⟨g5', e5, u1⟩ := own_at15 HO12b.out (k := 1) rfl
            injection e5 with e5; injection e5 with e5
            subst e5
            obtain ⟨g6, rfl, v0⟩ := own_at15 HO13.out (k := 0) rfl
            obtain ⟨g6', e6, v1⟩ := own_at15 HO13.out (k := 1) rfl
            injection e6 with e6; injection e6 with e6
            subst e6
            have hl : ([(z : Int), (z2 : Int)] : List Int).length = 2 := rfl
            have hl2 : ([((rk cd z : Nat) : Int), ((rk cd z2 : Nat) : Int)] : List Int).length = 2 := rfl
            cases v with
            | false =>
              have HWAY_ := HWAYa
              go_wp2_with fail
              go_roundw
              case rel => exact ⟨i + 1, z, by omega, by go_num, rfl, rfl, HWAY_, HT13⟩
              case measure => simp [intOf]; omega
            | true =>
              have HWAY_ := HWAYb
              go_wp2_with fail
              go_roundw
              case rel => exact ⟨i + 1, z2, by omega, by go_num, rfl, rfl, HWAY_, HT13⟩
              case measure => simp [intOf]; omega
end Go.Proofs.YtmnadieblhdcpaaDoor
