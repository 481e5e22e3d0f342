/- purflelaw16.RunTrims returns true. -/
import Derived.Test.YtgkngimeokhhgaaDoorPUTrimM
namespace Go.Proofs.YtgkngimeokhhgaaDoor
open Go.RowKit Go.Sort

set_option maxRecDepth 100000 in
set_option maxHeartbeats 16000000 in
theorem runTrims_any (w : World) (q : Cq) (hq : q.In w) (m0 : Int) (_hm0 : -9223372036854775808 ≤ m0) (_hm1 : m0 ≤ 9223372036854775807) (A : Option Addr) (n c : Nat) (LL : List (List Int)) (h : IntsLL w w.heap.size A n LL) (hn : n ≤ 5864062014805) (_hc : n ≤ c) (hL : ∀ L ∈ LL, L.length ≤ 17592186044416) (hS : ShT w) :
    Calls Tryd.prog 6 #[q.val, .int .i64 m0, .slice A n c] w fun r w' => r = .returned (.bool true) ∧ Below w.heap.size w w' := by
  have HQ := Lib.hid hq
  have HI := Lib.hid h
  have HLL := Lib.hid hL
  have HSH := Lib.hid hS
  have HQL : Hid (q.l.length = q.n) := hq.len
  obtain ⟨R, A0, I, P, n0, c0, l⟩ := q
  obtain ⟨W0, hW0⟩ : ∃ W, w.alloc (Cq.obj ⟨R, A0, I, P, n0, c0, l⟩) = W := ⟨_, rfl⟩
  obtain ⟨g0, hg0⟩ : ∃ z, w.heap.size = z := ⟨_, rfl⟩
  have hb1 : Below w.heap.size w W0 := by rw [← hW0]; exact lvBelow w _
  have h1 : W0.heap[g0]? = some (Cq.obj ⟨R, A0, I, P, n0, c0, l⟩) := by rw [← hW0, ← hg0]; exact heap_alloc_new w _
  have HB0 := Lib.hid hb1
  have HX0 := Lib.hid h1
  have hC := live16_any W0 (HSH.out.on HB0.out)
  clear hb1 h1 h hq hL hS
  go_enter Tryd.func6, Tryd.ntmps6
  go_wp2_with fail
  try rw [hW0]
  try rw [hg0]
  (with_reducible refine hC.mono ?_)
  rintro e w1 ⟨rfl, hb1⟩
  have HB1 := Lib.hid (HB0.out.trans (hb1.mono HB0.out.size))
  have HX1 := Lib.hid (keep_b hb1 HX0.out)
  clear hb1 hC hW0 hg0
  obtain ⟨k0, k1, k2, k3, _⟩ := lvCells HX1.out
  have hC := few16_any ⟨R, A0, I, P, n0, c0, l⟩ A n c LL w1 (HQ.out.on HB1.out) ((HI.out.below HB1.out).more HB1.out.size) hn HLL.out
  obtain ⟨fw, hfw⟩ : ∃ b, few16 ⟨R, A0, I, P, n0, c0, l⟩ n LL = b := ⟨_, rfl⟩
  rw [hfw] at hC
  have HFW := Lib.hid hfw
  clear hfw
  go_wp2_with fail
  (with_reducible refine hC.mono ?_)
  rintro e w2 ⟨rfl, hb2⟩
  have HB2 := Lib.hid (HB1.out.trans (hb2.mono HB1.out.size))
  have HX2 := Lib.hid (keep_b hb2 HX1.out)
  clear hb2 hC k0 k1 k2 k3
  cases fw with
  | false =>
    go_wp2_with fail
    go_ret
    exact ⟨rfl, HB2.out⟩
  | true =>
    obtain ⟨k0, k1, k2, k3, _⟩ := lvCells HX2.out
    have hC := codeCheck_any ⟨R, A0, I, P, n0, c0, l⟩ w2 (HQ.out.on HB2.out) (HSH.out.on HB2.out)
    unfold CkP at hC
    cases hmay : (Cq.cd ⟨R, A0, I, P, n0, c0, l⟩).may with
    | false =>
      rw [Cd.e_no hmay] at hC
      go_wp2_with fail
      (with_reducible refine hC.mono ?_)
      rintro e w3 ⟨rfl, hb3⟩
      have HB3 := Lib.hid (HB2.out.trans (hb3.mono HB2.out.size))
      have HX3 := Lib.hid (keep_b hb3 HX2.out)
      clear hb3 hC k0 k1 k2 k3
      go_wp2_with fail
      go_ret
      exact ⟨rfl, HB3.out⟩
    | true =>
      rw [Cd.e_yes hmay] at hC
      have HMY := Lib.hid hmay
      obtain ⟨⟨_, _, _, _, _, _, hl1, hl2⟩, _⟩ := Cd.may_parts hmay
      have hn300 : n0 ≤ 300 := (few16_parts HFW.out).1
      have hT0 : trimC (Cq.cd ⟨R, A0, I, P, n0, c0, l⟩) = (Cq.cd ⟨R, A0, I, P, n0, c0, l⟩).trim := by unfold trimC; rw [if_pos hmay]
      obtain ⟨TT, hTT⟩ : ∃ T, (Cq.cd ⟨R, A0, I, P, n0, c0, l⟩).trim = T := ⟨_, rfl⟩
      have htmay : TT.may = true := by rw [← hTT]; exact trim_may hmay
      have HTT := Lib.hid hTT
      have HTM := Lib.hid htmay
      rw [hTT] at hT0
      obtain ⟨tm, k, htm, tm0, tm1, htm2, hk⟩ := mod_fifty m0
      go_wp2_with fail
      (with_reducible refine hC.mono ?_)
      rintro e w3 ⟨rfl, hb3⟩
      have HB3 := Lib.hid (HB2.out.trans (hb3.mono HB2.out.size))
      have HX3 := Lib.hid (keep_b hb3 HX2.out)
      clear hb3 hC k0 k1 k2 k3 hmay htmay hTT hl1 hl2
      have hC := validTrim_any ⟨R, A0, I, P, n0, c0, l⟩ w3 (HQ.out.on HB3.out) (HSH.out.on HB3.out)
      unfold TrimP at hC
      rw [hT0, Cd.e_yes HMY.out] at hC
      obtain ⟨TR, TA, TI, Tl⟩ := TT
      obtain ⟨tn, htn⟩ : ∃ k, Tl.length = k := ⟨_, rfl⟩
      dsimp only at hC
      rw [htn] at hC
      have HTN := Lib.hid htn
      clear htn hT0
      obtain ⟨k0, k1, k2, k3, _⟩ := lvCells HX3.out
      go_upto_region 5 with fail
      rw [htm2]
      clear htm htm2 tm0 tm1
      go_wp2_with fail
      (with_reducible refine hC.mono ?_)
      rintro e w4 ⟨A4, c4, rfl, hO4, hb4⟩
      have HB4 := Lib.hid (HB3.out.trans (hb4.mono HB3.out.size))
      have HX4 := Lib.hid (keep_b hb4 HX3.out)
      have HTo4 : Hid (OwnJ w4 w.heap.size A4 c4 Tl) := hO4.mono HB3.out.size
      clear hb4 hC k0 k1 k2 k3 hO4
      obtain ⟨w5, hW5⟩ : ∃ W, w4.alloc (.cells #[.int .i64 TR, .int .i64 TA, .int .i64 TI, .slice A4 tn c4] 24) = W := ⟨_, rfl⟩
      obtain ⟨g8, hg5⟩ : ∃ z, w4.heap.size = z := ⟨_, rfl⟩
      have hb5 : Below w4.heap.size w4 w5 := by rw [← hW5]; exact lvBelow w4 _
      have hY5 := heap_alloc_new w4 (.cells #[.int .i64 TR, .int .i64 TA, .int .i64 TI, .slice A4 tn c4] 24)
      rw [hW5, hg5] at hY5
      have HWQ := Lib.hid hW5
      have HB5 := Lib.hid (HB4.out.trans (hb5.mono HB4.out.size))
      have HX5 := Lib.hid (keep_b hb5 HX4.out)
      have HTo5 := Lib.hid (HTo4.out.below hb5 (Nat.le_refl _))
      have HT5 := Lib.hid hY5
      clear hW5 hb5 hY5
      go_upto_region 6 with fail
      try rw [HWQ.out]
      try rw [hg5]
      clear HWQ hg5
      have hC := codeShift_any ⟨R, A0, I, P, n0, c0, l⟩ (k : Int) w5 (HQ.out.on HB5.out) (HSH.out.on HB5.out)
      unfold ShP at hC
      have hse : (Cq.cd ⟨R, A0, I, P, n0, c0, l⟩).shiftE (k : Int) = 0 := by
        have hln : l.length = n0 := HQL.out
        unfold Cd.shiftE
        rw [if_neg (by rw [HMY.out]; rintro (h | h | h) <;> first | cases h | omega), if_neg (by show ¬ 4096 < (l.length : Int) + _; omega)]
      have hsc : (Cq.cd ⟨R, A0, I, P, n0, c0, l⟩).shiftC (k : Int) = (Cq.cd ⟨R, A0, I, P, n0, c0, l⟩).shift (k : Int) := by unfold Cd.shiftC; rw [if_pos hse]
      obtain ⟨SS, hSS⟩ : ∃ S, (Cq.cd ⟨R, A0, I, P, n0, c0, l⟩).shift (k : Int) = S := ⟨_, rfl⟩
      have hsmay : SS.may = true := by rw [← hSS]; exact shift_may HMY.out (by have hln : l.length = n0 := HQL.out; show l.length + k ≤ 4096; omega)
      have HSS := Lib.hid hSS
      have HSM := Lib.hid hsmay
      rw [hse, hsc, hSS] at hC
      obtain ⟨SR, SA, SI, Sl⟩ := SS
      obtain ⟨sn, hsn⟩ : ∃ k, Sl.length = k := ⟨_, rfl⟩
      dsimp only at hC
      rw [hsn] at hC
      have HSN := Lib.hid hsn
      clear hsn hse hsc hSS hsmay
      obtain ⟨k0, k1, k2, k3, _⟩ := lvCells HX5.out
      go_wp2_with fail
      (with_reducible refine hC.mono ?_)
      rintro e w6 ⟨A6, c6, rfl, hO6, hb6⟩
      have HB6 := Lib.hid (HB5.out.trans (hb6.mono HB5.out.size))
      have HX6 := Lib.hid (keep_b hb6 HX5.out)
      have HTo6 := Lib.hid (HTo5.out.below hb6 (Nat.le_refl _))
      have HT6 := Lib.hid (keep_b hb6 HT5.out)
      have HSo6 : Hid (OwnJ w6 w.heap.size A6 c6 Sl) := hO6.mono HB5.out.size
      clear hb6 hC k0 k1 k2 k3 hO6
      obtain ⟨w7, hW7⟩ : ∃ W, w6.alloc (.cells #[.int .i64 SR, .int .i64 SA, .int .i64 SI, .slice A6 sn c6] 24) = W := ⟨_, rfl⟩
      obtain ⟨g10, hg7⟩ : ∃ z, w6.heap.size = z := ⟨_, rfl⟩
      have hb7 : Below w6.heap.size w6 w7 := by rw [← hW7]; exact lvBelow w6 _
      have hY7 := heap_alloc_new w6 (.cells #[.int .i64 SR, .int .i64 SA, .int .i64 SI, .slice A6 sn c6] 24)
      rw [hW7, hg7] at hY7
      have HWQ := Lib.hid hW7
      have HB7 := Lib.hid (HB6.out.trans (hb7.mono HB6.out.size))
      have HX7 := Lib.hid (keep_b hb7 HX6.out)
      have HTo7 := Lib.hid (HTo6.out.below hb7 (Nat.le_refl _))
      have HT7 := Lib.hid (keep_b hb7 HT6.out)
      have HSo7 := Lib.hid (HSo6.out.below hb7 (Nat.le_refl _))
      have HC7 := Lib.hid hY7
      clear hW7 hb7 hY7
      go_upto_region 9 with fail
      try rw [HWQ.out]
      try rw [hg7]
      clear HWQ hg7
      have hln : l.length = n0 := HQL.out
      have hsh := runM_shift HMY.out (b := k) (k := 1000) (by show l.length + k ≤ 4096; omega) (cells := 1000) (ins := LL)
      rw [HSS.out] at hsh
      have hC := run16_any ⟨R, A0, I, P, n0, c0, l⟩ 1000 1000 A n c LL 2000 w7 (RunIn.small HQ.out HI.out HFW.out HB7.out (by omega)) (HSH.out.on HB7.out)
      unfold RunO at hC
      obtain ⟨k0, k1, k2, k3, _⟩ := lvCells HX7.out
      rcases hsh with ⟨v, hv1, hv2⟩ | ⟨z, u, p, pu, hz1, hz2, hEq, hpl⟩
      · have hv1 : runM (Cq.cd ⟨R, A0, I, P, n0, c0, l⟩) 1000 1000 LL = .error v := hv1
        have hv2 : runM ⟨SR, SA, SI, Sl⟩ (1000 + (k : Int)) 1000 LL = .error v := hv2
        rw [hv1] at hC
        have HV1 := Lib.hid hv1
        have HV2 := Lib.hid hv2
        have hv0 : (v != 0) = true := by simpa using runM_err hv1
        clear hv1 hv2
        go_wp2_with fail
        (with_reducible refine hC.mono ?_)
        rintro e w8 (⟨v', hr, rfl, hb8⟩ | ⟨z, p, i, a, gO, rs, hr, _⟩)
        case inr => cases hr
        injection hr with hr
        subst hr
        have HB8 := Lib.hid (HB7.out.trans (hb8.mono HB7.out.size))
        have HX8 := Lib.hid (keep_b hb8 HX7.out)
        have HTo8 := Lib.hid (HTo7.out.below hb8 (Nat.le_refl _))
        have HT8 := Lib.hid (keep_b hb8 HT7.out)
        have HSo8 := Lib.hid (HSo7.out.below hb8 (Nat.le_refl _))
        have HC8 := Lib.hid (keep_b hb8 HC7.out)
        clear hb8 hC k0 k1 k2 k3
        obtain ⟨w9, hW9⟩ : ∃ W, w8.alloc (.cells #[.slice none 0 0, .int .i64 0, .int .i64 0] 31) = W := ⟨_, rfl⟩
        obtain ⟨g12, hg9⟩ : ∃ z, w8.heap.size = z := ⟨_, rfl⟩
        have hb9 : Below w8.heap.size w8 w9 := by rw [← hW9]; exact lvBelow w8 _
        have hY9 := heap_alloc_new w8 (.cells #[.slice none 0 0, .int .i64 0, .int .i64 0] 31)
        rw [hW9, hg9] at hY9
        have HWQ := Lib.hid hW9
        have HB9 := Lib.hid (HB8.out.trans (hb9.mono HB8.out.size))
        have HX9 := Lib.hid (keep_b hb9 HX8.out)
        have HTo9 := Lib.hid (HTo8.out.below hb9 (Nat.le_refl _))
        have HT9 := Lib.hid (keep_b hb9 HT8.out)
        have HSo9 := Lib.hid (HSo8.out.below hb9 (Nat.le_refl _))
        have HC9 := Lib.hid (keep_b hb9 HC8.out)
        clear hW9 hb9 hY9
        go_upto_region 10 with fail
        try rw [HWQ.out]
        try rw [hg9]
        clear HWQ hg9
        have hC := run16_any ⟨SR, SA, SI, A6, sn, c6, Sl⟩ (1000 + (k : Int)) 1000 A n c LL 2000 w9 (⟨OwnJ.cqU (c := ⟨SR, SA, SI, Sl⟩) HSo9.out HSM.out HSN.out, (HI.out.below HB9.out).more HB9.out.size, (few16_parts HFW.out).2.2, HI.out.vals, by omega⟩) (HSH.out.on HB9.out)
        unfold RunO at hC
        rw [show runM (Cq.cd ⟨SR, SA, SI, A6, sn, c6, Sl⟩) (1000 + (k : Int)) 1000 LL = .error v from HV2.out] at hC
        obtain ⟨k0, k1, k2, k3, _⟩ := lvCells HC9.out
        go_wp2_with fail
        (with_reducible refine hC.mono ?_)
        rintro e w10 (⟨v', hr, rfl, hb10⟩ | ⟨z, p, i, a, gO, rs, hr, _⟩)
        case inr => cases hr
        injection hr with hr
        subst hr
        have HB10 := Lib.hid (HB9.out.trans (hb10.mono HB9.out.size))
        have HX10 := Lib.hid (keep_b hb10 HX9.out)
        have HTo10 := Lib.hid (HTo9.out.below hb10 (Nat.le_refl _))
        have HT10 := Lib.hid (keep_b hb10 HT9.out)
        have HSo10 := Lib.hid (HSo9.out.below hb10 (Nat.le_refl _))
        have HC10 := Lib.hid (keep_b hb10 HC9.out)
        have hbz := lvBelow w10 (.cells #[.slice none 0 0, .int .i64 0, .int .i64 0] 31)
        have HB11 := Lib.hid (HB10.out.trans (hbz.mono HB10.out.size))
        have hvv : (v != v) = false := by simp
        clear hb10 hbz hC k0 k1 k2 k3
        go_wp2_with fail
        go_ret
        exact ⟨rfl, HB11.out⟩
      · have hz1 : runM (Cq.cd ⟨R, A0, I, P, n0, c0, l⟩) 1000 1000 LL = .ok (z, p) := hz1
        have hz2 : runM ⟨SR, SA, SI, Sl⟩ (1000 + (k : Int)) 1000 LL = .ok (u, pu) := hz2
        obtain ⟨v, pv, hz3, hEq3, hpl3⟩ := runM_trim HMY.out hz1
        rw [HTT.out] at hz3
        rw [hz1] at hC
        obtain ⟨i0, hi0, hia0, ha128⟩ := runM_ok hz1
        have hrl := runM_long hz1 (few16_parts HFW.out).2.2
        have hks := runM_keeps hz1
        have hku := runM_keeps hz2
        have hkv := runM_keeps hz3
        have HSU : Hid (u.st = z.st + k) := by have h1 := hks.1; have h2 := hku.1; unfold Hid; omega
        have HSV : Hid (v.st = z.st) := by have h1 := hks.1; have h2 := hkv.1; unfold Hid; omega
        have hst9 : z.st ≤ 1000 := by have h1 := hks.1; have h2 := hks.2.2.1; omega
        have HAL : Hid (∀ l ∈ z.A, l.length ≤ 100000) := fun l hl => by have := hrl l hl; have := hks.2.2.1; omega
        have HEU := Lib.hid hEq
        have HEV := Lib.hid hEq3
        have HU2 := Lib.hid hz2
        have HU3 := Lib.hid hz3
        have HI0 : Hid (I = (i0 : Int)) := hi0
        have HA1 : Hid (z.A.length ≤ 128) := ha128
        clear hz1 hz2 hz3 hEq hEq3 hpl hpl3 hks hku hkv hrl hi0 hia0 ha128
        go_wp2_with fail
        (with_reducible refine hC.mono ?_)
        rintro e w8 (⟨v', hr, _⟩ | ⟨z', p', i, a, gO, rs, hr, hI1, ha1, hia1, rfl, hM1, hL1, hb8⟩)
        · cases hr
        injection hr with hr; injection hr with e1 e2
        subst e1; subst e2
        have HR8 := Lib.hid (rowsU_rq hM1 hL1 ha1 (by have := HA1.out; omega) HAL.out)
        have HII : Hid (I = (i : Int) ∧ z.A.length = a) := ⟨hI1, ha1⟩
        have HB8 := Lib.hid (HB7.out.trans (hb8.mono HB7.out.size))
        have HX8 := Lib.hid (keep_b hb8 HX7.out)
        have HTo8 := Lib.hid (HTo7.out.below hb8 (Nat.le_refl _))
        have HT8 := Lib.hid (keep_b hb8 HT7.out)
        have HSo8 := Lib.hid (HSo7.out.below hb8 (Nat.le_refl _))
        have HC8 := Lib.hid (keep_b hb8 HC7.out)
        have HP8 : Hid (Below w8.heap.size w8 w8) := Below.refl _ _
        clear hb8 hC k0 k1 k2 k3 hM1 hL1 hI1 ha1 hia1
        obtain ⟨w9, hW9⟩ : ∃ W, w8.alloc (.cells #[.slice (some ⟨gO, 0, none⟩) (a - i) (a - i), .int .i64 (z.st : Int), .int .i64 (z.ce : Int)] 31) = W := ⟨_, rfl⟩
        obtain ⟨g12, hg9⟩ : ∃ z, w8.heap.size = z := ⟨_, rfl⟩
        have hb9 : Below w8.heap.size w8 w9 := by rw [← hW9]; exact lvBelow w8 _
        have hY9 := heap_alloc_new w8 (.cells #[.slice (some ⟨gO, 0, none⟩) (a - i) (a - i), .int .i64 (z.st : Int), .int .i64 (z.ce : Int)] 31)
        rw [hW9, hg9] at hY9
        have HWQ := Lib.hid hW9
        have HB9 := Lib.hid (HB8.out.trans (hb9.mono HB8.out.size))
        have HX9 := Lib.hid (keep_b hb9 HX8.out)
        have HTo9 := Lib.hid (HTo8.out.below hb9 (Nat.le_refl _))
        have HT9 := Lib.hid (keep_b hb9 HT8.out)
        have HSo9 := Lib.hid (HSo8.out.below hb9 (Nat.le_refl _))
        have HC9 := Lib.hid (keep_b hb9 HC8.out)
        have HP9 := Lib.hid (HP8.out.trans (hb9.mono HP8.out.size))
        have HGX9 := Lib.hid hY9
        clear hW9 hb9 hY9
        go_upto_region 10 with fail
        try rw [HWQ.out]
        try rw [hg9]
        clear HWQ hg9
        have hC := run16_any ⟨SR, SA, SI, A6, sn, c6, Sl⟩ (1000 + (k : Int)) 1000 A n c LL 2000 w9 (⟨OwnJ.cqU (c := ⟨SR, SA, SI, Sl⟩) HSo9.out HSM.out HSN.out, (HI.out.below HB9.out).more HB9.out.size, (few16_parts HFW.out).2.2, HI.out.vals, by omega⟩) (HSH.out.on HB9.out)
        unfold RunO at hC
        rw [show runM (Cq.cd ⟨SR, SA, SI, A6, sn, c6, Sl⟩) (1000 + (k : Int)) 1000 LL = .ok (u, pu) from HU2.out] at hC
        obtain ⟨k0, k1, k2, k3, _⟩ := lvCells HC9.out
        go_wp2_with fail
        (with_reducible refine hC.mono ?_)
        rintro e w10 (⟨v', hr, _⟩ | ⟨z', p', i', a', gO', rs', hr, hI2, ha2, hia2, rfl, hM2, hL2, hb10⟩)
        · cases hr
        injection hr with hr; injection hr with e1 e2
        subst e1; subst e2
        have HSI : Hid (SI = I) := by have := congrArg Cd.I HSS.out; exact this.symm
        have hI2 : SI = (i' : Int) := hI2
        obtain rfl : i = i' := by have h1 := HII.out.1; have h2 := HSI.out; omega
        obtain rfl : a = a' := by rw [← HII.out.2, ← HEU.out.arrs]; exact ha2
        have HR10 := Lib.hid (rowsU_rq hM2 hL2 ha2 (by have := HA1.out; have := HII.out.2; omega) (by rw [HEU.out.arrs]; exact HAL.out))
        have HB10 := Lib.hid (HB9.out.trans (hb10.mono HB9.out.size))
        have HX10 := Lib.hid (keep_b hb10 HX9.out)
        have HTo10 := Lib.hid (HTo9.out.below hb10 (Nat.le_refl _))
        have HT10 := Lib.hid (keep_b hb10 HT9.out)
        have HSo10 := Lib.hid (HSo9.out.below hb10 (Nat.le_refl _))
        have HC10 := Lib.hid (keep_b hb10 HC9.out)
        have HP10 := Lib.hid (HP9.out.trans (hb10.mono HP9.out.size))
        have HGX10 := Lib.hid (keep_b hb10 HGX9.out)
        have HY10 : Hid (Below w10.heap.size w10 w10) := Below.refl _ _
        clear hb10 hC k0 k1 k2 k3 hM2 hL2 hI2 ha2 hia2
        obtain ⟨w11, hW11⟩ : ∃ W, w10.alloc (.cells #[.slice (some ⟨gO', 0, none⟩) (a - i) (a - i), .int .i64 (u.st : Int), .int .i64 (u.ce : Int)] 31) = W := ⟨_, rfl⟩
        obtain ⟨g14, hg11⟩ : ∃ z, w10.heap.size = z := ⟨_, rfl⟩
        have hb11 : Below w10.heap.size w10 w11 := by rw [← hW11]; exact lvBelow w10 _
        have hY11 := heap_alloc_new w10 (.cells #[.slice (some ⟨gO', 0, none⟩) (a - i) (a - i), .int .i64 (u.st : Int), .int .i64 (u.ce : Int)] 31)
        rw [hW11, hg11] at hY11
        have HWQ := Lib.hid hW11
        have HB11 := Lib.hid (HB10.out.trans (hb11.mono HB10.out.size))
        have HX11 := Lib.hid (keep_b hb11 HX10.out)
        have HTo11 := Lib.hid (HTo10.out.below hb11 (Nat.le_refl _))
        have HT11 := Lib.hid (keep_b hb11 HT10.out)
        have HSo11 := Lib.hid (HSo10.out.below hb11 (Nat.le_refl _))
        have HC11 := Lib.hid (keep_b hb11 HC10.out)
        have HP11 := Lib.hid (HP10.out.trans (hb11.mono HP10.out.size))
        have HGX11 := Lib.hid (keep_b hb11 HGX10.out)
        have HY11 := Lib.hid (HY10.out.trans (hb11.mono HY10.out.size))
        have HGY11 := Lib.hid hY11
        clear hW11 hb11 hY11
        go_upto_region 15 with fail
        try rw [HWQ.out]
        try rw [hg11]
        have HG11 := Lib.hid hg11
        clear HWQ hg11
        have hC := run16_any ⟨TR, TA, TI, A4, tn, c4, Tl⟩ 1000 1000 A n c LL 2000 w11 (⟨OwnJ.cqU (c := ⟨TR, TA, TI, Tl⟩) HTo11.out HTM.out HTN.out, (HI.out.below HB11.out).more HB11.out.size, (few16_parts HFW.out).2.2, HI.out.vals, by omega⟩) (HSH.out.on HB11.out)
        unfold RunO at hC
        rw [show runM (Cq.cd ⟨TR, TA, TI, A4, tn, c4, Tl⟩) 1000 1000 LL = .ok (v, pv) from HU3.out] at hC
        obtain ⟨k0, k1, k2, k3, _⟩ := lvCells HT11.out
        go_wp2_with fail
        (with_reducible refine hC.mono ?_)
        rintro e w12 (⟨v', hr, _⟩ | ⟨z', p', i', a', gP, rs', hr, hI2, ha2, hia2, rfl, hM2, hL2, hb12⟩)
        · cases hr
        injection hr with hr; injection hr with e1 e2
        subst e1; subst e2
        have HTI : Hid (TI = I) := by have := congrArg Cd.I HTT.out; exact this.symm
        have hI2 : TI = (i' : Int) := hI2
        obtain rfl : i = i' := by have h1 := HII.out.1; have h2 := HTI.out; omega
        obtain rfl : a = a' := by rw [← HII.out.2, ← HEV.out.arrs]; exact ha2
        have HRM12 := Lib.hid hM2
        have HRL := Lib.hid (And.intro hL2 ha2)
        have HB12 := Lib.hid (HB11.out.trans (hb12.mono HB11.out.size))
        have HX12 := Lib.hid (keep_b hb12 HX11.out)
        have HTo12 := Lib.hid (HTo11.out.below hb12 (Nat.le_refl _))
        have HT12 := Lib.hid (keep_b hb12 HT11.out)
        have HSo12 := Lib.hid (HSo11.out.below hb12 (Nat.le_refl _))
        have HC12 := Lib.hid (keep_b hb12 HC11.out)
        have HP12 := Lib.hid (HP11.out.trans (hb12.mono HP11.out.size))
        have HGX12 := Lib.hid (keep_b hb12 HGX11.out)
        have HY12 := Lib.hid (HY11.out.trans (hb12.mono HY11.out.size))
        have HGY12 := Lib.hid (keep_b hb12 HGY11.out)
        have HZ12 : Hid (Below w12.heap.size w12 w12) := Below.refl _ _
        clear hb12 hC k0 k1 k2 k3 hM2 hL2 hI2 ha2 hia2
        obtain ⟨w13, hW13⟩ : ∃ W, w12.alloc (.cells #[.slice (some ⟨gP, 0, none⟩) (a - i) (a - i), .int .i64 (v.st : Int), .int .i64 (v.ce : Int)] 31) = W := ⟨_, rfl⟩
        obtain ⟨g16, hg13⟩ : ∃ z, w12.heap.size = z := ⟨_, rfl⟩
        have hb13 : Below w12.heap.size w12 w13 := by rw [← hW13]; exact lvBelow w12 _
        have hY13 := heap_alloc_new w12 (.cells #[.slice (some ⟨gP, 0, none⟩) (a - i) (a - i), .int .i64 (v.st : Int), .int .i64 (v.ce : Int)] 31)
        rw [hW13, hg13] at hY13
        have HWQ := Lib.hid hW13
        have HB13 := Lib.hid (HB12.out.trans (hb13.mono HB12.out.size))
        have HX13 := Lib.hid (keep_b hb13 HX12.out)
        have HTo13 := Lib.hid (HTo12.out.below hb13 (Nat.le_refl _))
        have HT13 := Lib.hid (keep_b hb13 HT12.out)
        have HSo13 := Lib.hid (HSo12.out.below hb13 (Nat.le_refl _))
        have HC13 := Lib.hid (keep_b hb13 HC12.out)
        have HP13 := Lib.hid (HP12.out.trans (hb13.mono HP12.out.size))
        have HGX13 := Lib.hid (keep_b hb13 HGX12.out)
        have HY13 := Lib.hid (HY12.out.trans (hb13.mono HY12.out.size))
        have HGY13 := Lib.hid (keep_b hb13 HGY12.out)
        have HZ13 := Lib.hid (HZ12.out.trans (hb13.mono HZ12.out.size))
        have HGZ13 := Lib.hid hY13
        have HRM13 := Lib.hid (HRM12.out.below hb13 (Nat.le_refl _))
        clear hW13 hb13 hY13
        obtain ⟨y0, y1, y2, f0, f1, f2⟩ := cells3V HGY13.out
        have hd : (u.st : Int) - (k : Int) = (z.st : Int) := by have := HSU.out; omega
        have hdw : IntKind.i64.wrap (z.st : Int) = (z.st : Int) := by rw [wrap_eq]; exact IntWalk.wrap64_in _ ⟨by omega, by omega⟩
        go_upto_region 16 with fail
        try rw [HWQ.out]
        try rw [hg13]
        have HG13 := Lib.hid hg13
        clear HWQ hg13
        obtain ⟨W14, hW14⟩ : ∃ W, w13.setCell ⟨g14, 1, none⟩ (.int .i64 (z.st : Int)) = W := ⟨_, rfl⟩
        have hxy : g12 ≠ g14 := by have h1 := lt_of_heap HGX10.out; have h2 := HG11.out; omega
        have hzy : g16 ≠ g14 := by have h1 := lt_of_heap HGY12.out; have h2 := HG13.out; omega
        have hGX := (heap_setCell_other w13 ⟨g14, 1, none⟩ g12 (.int .i64 (z.st : Int)) hxy).trans HGX13.out
        have hGZ := (heap_setCell_other w13 ⟨g14, 1, none⟩ g16 (.int .i64 (z.st : Int)) hzy).trans HGZ13.out
        have hGY := set_j (i := 1) (cs := [.slice (some ⟨gO', 0, none⟩) (a - i) (a - i), .int .i64 (u.st : Int), .int .i64 (u.ce : Int)]) HGY13.out (.int .i64 (z.st : Int))
        have hP14 : Below w8.heap.size w8 (w13.setCell ⟨g14, 1, none⟩ (.int .i64 (z.st : Int))) := HP13.out.setCell (p := ⟨g14, 1, none⟩) (by have h1 := HG11.out; have h2 := HP10.out.size; show _ ≤ g14; omega) _
        have hY14 : Below w10.heap.size w10 (w13.setCell ⟨g14, 1, none⟩ (.int .i64 (z.st : Int))) := HY13.out.setCell (p := ⟨g14, 1, none⟩) (by have h1 := HG11.out; show _ ≤ g14; omega) _
        have hB14 : Below w.heap.size w (w13.setCell ⟨g14, 1, none⟩ (.int .i64 (z.st : Int))) := HB13.out.setCell (p := ⟨g14, 1, none⟩) (by have h1 := HG11.out; have h2 := HB10.out.size; show _ ≤ g14; omega) _
        rw [hW14] at hGX hGY hGZ hP14 hY14 hB14
        have HGX14 := Lib.hid hGX
        have HGY14 : Hid (W14.heap[g14]? = some (.cells #[.slice (some ⟨gO', 0, none⟩) (a - i) (a - i), .int .i64 (z.st : Int), .int .i64 (u.ce : Int)] 31 (0, 0))) := hGY
        have HGZ14 := Lib.hid hGZ
        have HB14 := Lib.hid hB14
        have hz14 := HRM13.out.box HGY13.out (by decide) (by decide) 1 (.int .i64 (z.st : Int))
        rw [hW14] at hz14
        have hx := HR8.out.on hP14
        have hy : Rq.In ⟨some ⟨gO', 0, none⟩, a - i, a - i, u.A.drop i, (z.st : Int), (u.ce : Int)⟩ W14 := (⟨HR10.out.out, HR10.out.few, HR10.out.all⟩ : Rq.In ⟨some ⟨gO', 0, none⟩, a - i, a - i, u.A.drop i, (z.st : Int), (u.ce : Int)⟩ w10).on hY14
        have hz := rowsU_rq hz14 HRL.out.1 HRL.out.2 (by have := HA1.out; have := HII.out.2; omega) (by rw [HEV.out.arrs]; exact HAL.out)
        have hC := progSame_any _ _ W14 hx hy
        rw [show sameR ⟨some ⟨gO, 0, none⟩, a - i, a - i, z.A.drop i, (z.st : Int), (z.ce : Int)⟩ ⟨some ⟨gO', 0, none⟩, a - i, a - i, u.A.drop i, (z.st : Int), (u.ce : Int)⟩ = true from sameR_refl _ _ rfl (by show (z.ce : Int) = (u.ce : Int); rw [HEU.out.cells]) (by show z.A.drop i = u.A.drop i; rw [HEU.out.arrs])] at hC
        have HZ14 := Lib.hid hz
        have HX14 := Lib.hid hx
        go_upto_region 17 with fail
        try rw [hW14]
        clear hW14 hxy hzy hGX hGY hGZ hP14 hY14 hB14 hz14 hx hy hz y0 y1 y2 f0 f1 f2 hd hdw
        obtain ⟨r0, r1, r2⟩ := cells3U HGX14.out
        obtain ⟨s0, s1, s2⟩ := cells3U HGY14.out
        go_wp2_with fail
        (with_reducible refine hC.mono ?_)
        rintro e w15 ⟨rfl, hb15⟩
        have HB15 := Lib.hid (HB14.out.trans (hb15.mono HB14.out.size))
        have hC := progSame_any _ _ w15 (HX14.out.on hb15) (HZ14.out.on hb15)
        rw [show sameR ⟨some ⟨gO, 0, none⟩, a - i, a - i, z.A.drop i, (z.st : Int), (z.ce : Int)⟩ ⟨some ⟨gP, 0, none⟩, a - i, a - i, v.A.drop i, (v.st : Int), (v.ce : Int)⟩ = true from sameR_refl _ _ (by show (z.st : Int) = (v.st : Int); rw [HSV.out]) (by show (z.ce : Int) = (v.ce : Int); rw [HEV.out.cells]) (by show z.A.drop i = v.A.drop i; rw [HEV.out.arrs])] at hC
        have HGX15 := Lib.hid (keep_b hb15 HGX14.out)
        have HGZ15 := Lib.hid (keep_b hb15 HGZ14.out)
        clear hb15 r0 r1 r2 s0 s1 s2
        obtain ⟨r0, r1, r2⟩ := cells3U HGX15.out
        obtain ⟨s0, s1, s2⟩ := cells3U HGZ15.out
        go_wp2_with fail
        (with_reducible refine hC.mono ?_)
        rintro e w16 ⟨rfl, hb16⟩
        have HB16 := Lib.hid (HB15.out.trans (hb16.mono HB15.out.size))
        clear hb16 hC r0 r1 r2 s0 s1 s2
        go_wp2_with fail
        go_ret
        exact ⟨rfl, HB16.out⟩
end Go.Proofs.YtgkngimeokhhgaaDoor
