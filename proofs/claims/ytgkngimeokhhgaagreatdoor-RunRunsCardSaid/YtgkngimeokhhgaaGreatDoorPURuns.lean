/- purflelaw16.RunRuns returns true. -/
import Derived.Test.YtgkngimeokhhgaaGreatDoorG29
import Derived.Test.YtgkngimeokhhgaaGreatDoorG28
import Derived.Test.YtgkngimeokhhgaaGreatDoorG2
namespace Go.Proofs.YtgkngimeokhhgaaGreatDoor
open Go.RowKit Go.Sort

set_option maxRecDepth 100000 in
set_option maxHeartbeats 16000000 in
theorem runRuns_any (w : World) (q : Cq) (hq : q.In w) (m0 : Int) (_hm0 : -9223372036854775808 ≤ m0) (_hm1 : m0 ≤ 9223372036854775807) (m1 : Int) (_hg0 : -9223372036854775808 ≤ m1) (_hg1 : m1 ≤ 9223372036854775807) (A : Option Addr) (n c : Nat) (LL : List (List Int)) (h : IntsLL w w.heap.size A n LL) (hn : n ≤ 5864062014805) (_hc : n ≤ c) (hL : ∀ L ∈ LL, L.length ≤ 17592186044416) (hS : ShT w) :
    Calls Tryz.prog 3 #[q.val, .int .i64 m0, .int .i64 m1, .slice A n c] w fun r w' => r = .returned (.bool true) ∧ Below w.heap.size w w' := by
  have HQ := Lib.hid hq
  have HI := Lib.hid h
  have HLL := Lib.hid hL
  have HSH := Lib.hid hS
  obtain ⟨R, A0, I, P, n0, c0, l⟩ := q
  obtain ⟨W0, hW0⟩ : ∃ W, w.alloc (Cq.obj ⟨R, A0, I, P, n0, c0, l⟩) = W := ⟨_, rfl⟩
  obtain ⟨g0, hg0⟩ : ∃ z, w.heap.size = z := ⟨_, rfl⟩
  have hb1 : Below w.heap.size w W0 := by rw [← hW0]; exact lvBelow w _
  have h1 : W0.heap[g0]? = some (Cq.obj ⟨R, A0, I, P, n0, c0, l⟩) := by rw [← hW0, ← hg0]; exact heap_alloc_new w _
  have HB0 := Lib.hid hb1
  have HX0 := Lib.hid h1
  have hC := live16_any W0 (HSH.out.on HB0.out)
  have hmx : Tryz.prog.follows .mixedOrders = true := by kernel_rfl
  have HMX := Lib.hid hmx
  obtain ⟨i6, hi6, hy0, hy1, hy2⟩ := info_parts infoInt64
  obtain ⟨i7, hi7, hz0, hz1, hz2⟩ := info_parts infoRu64
  have HI6 := Lib.hid (And.intro hi6 (And.intro hy0 (And.intro hy1 hy2)))
  have HI7 := Lib.hid (And.intro hi7 (And.intro hz0 (And.intro hz1 hz2)))
  clear hb1 h1 h hq hL hS hi6 hy0 hy1 hy2 hi7 hz0 hz1 hz2 hmx
  go_enter Tryz.func3, Tryz.ntmps3
  go_wp2_with fail
  try rw [hW0]
  try rw [hg0]
  (with_reducible refine hC.mono ?_)
  rintro e w1 ⟨rfl, hb1⟩
  have HB1 := Lib.hid (HB0.out.trans (hb1.mono HB0.out.size))
  have HX1 := Lib.hid (keep_b hb1 HX0.out)
  clear hb1 hC hW0 hg0
  obtain ⟨k0, k1, k2, k3, _⟩ := lvCells HX1.out
  have hC := few16_any ⟨R, A0, I, P, n0, c0, l⟩ A n c LL w1 (HQ.out.on HB1.out) ((HI.out.below HB1.out).more HB1.out.size) hn HLL.out
  obtain ⟨fw, hfw⟩ : ∃ b, few16 ⟨R, A0, I, P, n0, c0, l⟩ n LL = b := ⟨_, rfl⟩
  rw [hfw] at hC
  have HFW := Lib.hid hfw
  clear hfw
  go_wp2_with fail
  (with_reducible refine hC.mono ?_)
  rintro e w2 ⟨rfl, hb2⟩
  have HB2 := Lib.hid (HB1.out.trans (hb2.mono HB1.out.size))
  have HX2 := Lib.hid (keep_b hb2 HX1.out)
  clear hb2 hC k0 k1 k2 k3
  cases fw with
  | false =>
    go_wp2_with fail
    go_ret
    exact ⟨rfl, HB2.out⟩
  | true =>
    have hn200 : n ≤ 200 := (few16_parts HFW.out).2.1
    have HL2 := Lib.hid (few16_parts HFW.out).2.2
    have HO0 : Hid (OwnLU w2 w2.heap.size none 0 (LL.take 0)) := by unfold Hid; rw [List.take_zero]; exact OwnLU.nil_ _ _
    by_cases hf : 2000 < m0
    · have d0 : decide (2000 < m0) = true := decide_eq_true hf
      obtain ⟨s1, s2, s3, LO, pl, pe, hAC⟩ := allC (f := 2000) (m1 := m1) (c := c) HQ.out HI.out HFW.out (by omega) HSH.out
      have HAC := Lib.hid hAC
      clear hAC hf
      go_wp2_with fail
      go_loopw [41, 10] (fun v s wr => ∃ (k : Nat) (Aw : Option Addr) (cw : Nat), v = .int .i64 (k : Int) ∧ s = .slice Aw k cw ∧ k ≤ n ∧ Hid (OwnLU wr w2.heap.size Aw cw (LL.take k)) ∧ Hid (Below w2.heap.size w2 wr)) (fun v _ _ => n - (intOf v).toNat)
      case atStart => exact ⟨0, none, 0, rfl, rfl, Nat.zero_le _, HO0, Below.refl _ _⟩
      case round =>
        obtain ⟨k, Aw, cw, rfl, rfl, hk, HOW, HBW⟩ := hrel
        by_cases hkn : k < n
        case pos =>
          have hk1 : (k : Int) < (n : Int) := by omega
          have hk0 : (0 : Int) ≤ (k : Int) := by omega
          obtain ⟨b, off, L, a, cL, hA, hb, HLk, hcell, hLc, hIL⟩ := ((HI.out.below (HB2.out.trans (HBW.out.mono HB2.out.size))).more (HB2.out.size)).at_ hkn
          have hLl := HL2.out L (List.mem_of_getElem? HLk.out)
          obtain ⟨ln, hln⟩ : ∃ z, L.length = z := ⟨_, rfl⟩
          rw [hln] at hcell hLc hIL hLl
          have HLn := Lib.hid hln
          have HIL := Lib.hid hIL
          have hsz := HBW.out.size
          have hTk : (LL.take k).length = k := by rw [List.length_take, HI.out.1]; omega
          have HTs : Hid (LL.take k ++ [L] = LL.take (k + 1)) := (take_succU HLk.out).symm
          have HTk := Lib.hid hTk
          obtain ⟨hi6, hy0, hy1, hy2⟩ := HI6.out
          obtain ⟨hi7, hz0, hz1, hz2⟩ := HI7.out
          subst hA
          clear hln hIL hTk hb
          go_wp2_with (at_builtin; first
            | (refine wpList_appendInts _ rfl (.const (.slice none 0 0)) (.tmp 46) 28 rfl w2.heap.size 2 i6 Tryz.underlying28 hi6 hy0 hy1 hy2 none a 0 ln cL _ 0 ln [] L rfl rfl (OwnI.nil_ _ _ _) rfl (Nat.zero_add _) HIL.out (by omega) hsz ?_; intro A3 c3 w3 hO3 hG3; have HO3 : Hid (OwnI w3 w2.heap.size 2 A3 c3 L) := hO3; have HB3 := Lib.hid (HBW.out.grown hG3 hsz (fun k hk => by cases hk)); have HOW3 := Lib.hid (HOW.out.below ((Below.refl wr.heap.size wr).grown hG3 (Nat.le_refl _) (fun k hk => by cases hk)) (Nat.le_refl _)); clear hO3 hG3)
            | (refine wpList_appendRowU rfl (.tmp 45) (.tmp 48) rfl w2.heap.size i7 hi7 hz0 hz1 hz2 Aw cw k (k + 1) c3 ln A3 (LL.take k) L rfl rfl HOW3.out HO3.out HLn.out HTk.out rfl (by omega) HB3.out.size ?_; intro A4 c4 w4 hO4 hb4; have HO4 := Lib.hid hO4; have HB4 := Lib.hid (HB3.out.trans hb4); clear hO4 hb4))
          go_roundw
          case rel => exact ⟨k + 1, A4, c4, by first | trivial | rfl, by first | trivial | rfl, by omega, by rw [← HTs.out]; exact HO4, HB4⟩
          case measure => simp [intOf]; omega
        obtain ⟨wq, hwq⟩ : ∃ W, W = wr := ⟨_, rfl⟩
        subst hwq
        obtain rfl : n = k := by omega
        have d1 : decide (n < n) = false := decide_eq_false (Nat.lt_irrefl _)
        have hw0 := HOW.out
        rw [List.take_of_length_le (by rw [HI.out.1]; exact Nat.le_refl _)] at hw0
        have hwi := hw0.ints
        rw [HI.out.1] at hwi
        have HWI := Lib.hid hwi
        have HBR := Lib.hid (HB2.out.trans (HBW.out.mono HB2.out.size))
        have HXR := Lib.hid (keep_b (w := w2) (w' := wq) HBW.out HX2.out)
        clear hw0 hwi
        obtain ⟨k0, k1, k2, k3, _⟩ := lvCells HXR.out
        have hC := HAC.out.run wq HBR.out
        go_wp2_with fail
        (with_reducible refine hC.mono ?_)
        rintro e w3 ⟨X1, n1, rfl, hO1, hb⟩
        obtain ⟨w4, hWm⟩ : ∃ W, w3.alloc (.cells #[.slice X1 n1 n1, .int .i64 s1, .int .i64 s2] 30) = W := ⟨_, rfl⟩
        obtain ⟨gA, hgm⟩ : ∃ z, w3.heap.size = z := ⟨_, rfl⟩
        have hbm : Below w3.heap.size w3 w4 := by rw [← hWm]; exact lvBelow w3 _
        have hYm := heap_alloc_new w3 (.cells #[.slice X1 n1 n1, .int .i64 s1, .int .i64 s2] 30)
        rw [hWm, hgm] at hYm
        have HWQ := Lib.hid hWm
        have HGQ := Lib.hid hgm
        rw [hgm] at hO1
        have HP3 := Lib.hid (hb.trans (hbm.mono hb.size))
        have HB3 := Lib.hid (HBR.out.trans (HP3.out.mono HBR.out.size))
        have HX3 := Lib.hid (keep_b HP3.out HXR.out)
        have HO1 := Lib.hid (hO1.below hbm)
        have HGA := Lib.hid hYm
        have HGL : Hid (gA < w4.heap.size) := lt_of_heap hYm
        have HG0 : Hid (g0 < wq.heap.size) := lt_of_heap HXR.out
        clear hWm hgm hbm hYm hO1 hb hC k0 k1 k2 k3
        go_upto_region 13 with fail
        try rw [HWQ.out]
        try rw [HGQ.out]
        clear HWQ HGQ
        obtain ⟨k0, k1, k2, k3, _⟩ := lvCells HX3.out
        have hC := HAC.out.ref w4 HB3.out
        go_wp2_with fail
        (with_reducible refine hC.mono ?_)
        rintro e w5 ⟨X2, n2, rfl, hO2, hb⟩
        obtain ⟨w6, hWm⟩ : ∃ W, w5.alloc (.cells #[.slice X2 n2 n2, .int .i64 s1, .int .i64 s2] 30) = W := ⟨_, rfl⟩
        obtain ⟨gB, hgm⟩ : ∃ z, w5.heap.size = z := ⟨_, rfl⟩
        have hbm : Below w5.heap.size w5 w6 := by rw [← hWm]; exact lvBelow w5 _
        have hYm := heap_alloc_new w5 (.cells #[.slice X2 n2 n2, .int .i64 s1, .int .i64 s2] 30)
        rw [hWm, hgm] at hYm
        have HWQ := Lib.hid hWm
        have HGQ := Lib.hid hgm
        rw [hgm] at hO2
        have hP := hb.trans (hbm.mono hb.size)
        obtain ⟨T2, hT2⟩ : ∃ z, w4.heap.size = z := ⟨_, rfl⟩
        have HS6 : Hid (RnA w wq g0 gA gB T2 gB (Cq.obj ⟨R, A0, I, P, n0, c0, l⟩) (.cells #[.slice X1 n1 n1, .int .i64 s1, .int .i64 s2] 30 (0, 0)) (.cells #[.slice X2 n2 n2, .int .i64 s1, .int .i64 s2] 30 (0, 0)) X1 X2 n1 n2 LO LO w6) := by
          have e1 := hP.size
          have e2 := HGL.out
          have e3 := hb.size
          rw [hT2] at hO2 e1 e2 e3
          exact ⟨HB3.out.trans (hP.mono HB3.out.size), HP3.out.trans (hP.mono HP3.out.size), keep_b hP HX3.out, keep_b hP HGA.out, hYm, HO1.out.below hP, hO2.below hbm, HG0.out, HBR.out.size, by omega, by rw [← hgm]; omega⟩
        clear hWm hbm hYm hO2 hb hC k0 k1 k2 k3 hP hT2 HGL HGA HO1 HX3 HP3 HB3 hgm
        go_upto_region 14 with fail
        try rw [HWQ.out]
        try rw [HGQ.out]
        clear HWQ HGQ
        obtain ⟨k0, k1, k2, k3, _⟩ := lvCells HS6.out.cd
        have hC := HAC.out.need w6 HS6.out.bel
        go_wp2_with fail
        (with_reducible refine hC.mono ?_)
        rintro e w7 ⟨rfl, hb⟩
        have HS7 := Lib.hid (HS6.out.on hb)
        clear hb hC k0 k1 k2 k3
        obtain ⟨k0, k1, k2, k3, _⟩ := lvCells HS7.out.cd
        have hC := HAC.out.refNeed w7 HS7.out.bel
        go_wp2_with fail
        (with_reducible refine hC.mono ?_)
        rintro e w8 ⟨rfl, hb⟩
        have HS8 := Lib.hid (HS7.out.on hb)
        clear hb hC k0 k1 k2 k3
        obtain ⟨k0, k1, k2, k3, _⟩ := lvCells HS8.out.cd
        have hC := HAC.out.path w8 HS8.out.bel
        go_wp2_with fail
        (with_reducible refine hC.mono ?_)
        rintro e w9 ⟨Ap, np, cp, rfl, hn9, hO, hb⟩
        have HS9 := Lib.hid (HS8.out.on hb)
        have HO9 := Lib.hid hO
        clear hO
        clear hb hC k0 k1 k2 k3
        obtain ⟨k0, k1, k2, k3, _⟩ := lvCells HS9.out.cd
        have hC := HAC.out.refPath w9 HS9.out.bel
        go_wp2_with fail
        (with_reducible refine hC.mono ?_)
        rintro e w10 ⟨Ap2, np2, cp2, rfl, hn10, hO, hb⟩
        have HS10 := Lib.hid (HS9.out.on hb)
        have HP9 := Lib.hid (HO9.out.below hb (Nat.le_refl _))
        have HP10 := Lib.hid hO
        clear hO HO9
        clear hb hC k0 k1 k2 k3
        have hO9 := HP9.out
        have hO10 := HP10.out
        have HIP : Hid (Ints w10 w10.heap.size Ap np pl ∧ np ≤ 100000) := ⟨by have h1 := hO9.ints; rw [hn9] at h1; exact h1, by rw [← hn9]; exact HAC.out.short⟩
        have HIQ : Hid (Ints w10 w10.heap.size Ap2 np2 pl ∧ np2 ≤ 100000) := ⟨by have h1 := hO10.ints; rw [hn10] at h1; exact h1, by rw [← hn10]; exact HAC.out.short⟩
        obtain ⟨r0, r1, r2⟩ := cells3U HS10.out.bA
        obtain ⟨t0, t1, t2⟩ := cells3U HS10.out.bB
        have x0 := cell_regrown r0
        have x1 := cell_regrown r1
        have x2 := cell_regrown r2
        have y0 := cell_regrown t0
        have y1 := cell_regrown t1
        have y2 := cell_regrown t2
        have HRA := Lib.hid (HS10.out.a.rq s1 s2)
        have HRB := Lib.hid (HS10.out.b.rq s1 s2)
        have HSE : Hid (sameR ⟨X1, n1, n1, LO, s1, s2⟩ ⟨X2, n2, n2, LO, s1, s2⟩ = true) := sameR_refl _ _ rfl rfl rfl
        have cS : ∀ d os, Calls Tryz.prog 12 #[.agg #[.slice X1 n1 n1, .int .i64 s1, .int .i64 s2], .agg #[.slice X2 n2 n2, .int .i64 s1, .int .i64 s2]] (grow (redrawn w10 d) os) fun e w'' => e = .returned (.bool true) ∧ ∃ p : Regrown, w'' = grow (redrawn w10 p.d) p.os := fun d os => Calls.regrown_of (by have h := refSame16_any _ _ (grow (redrawn w10 d) os) (HRA.out.on (below_regrown w10 d os)) (HRB.out.on (below_regrown w10 d os)); rw [HSE.out] at h; exact h)
        have cT : ∀ d os, Calls Tryz.prog 14 #[.agg #[.slice X1 n1 n1, .int .i64 s1, .int .i64 s2], .agg #[.slice X2 n2 n2, .int .i64 s1, .int .i64 s2]] (grow (redrawn w10 d) os) fun e w'' => e = .returned (.bool true) ∧ ∃ p : Regrown, w'' = grow (redrawn w10 p.d) p.os := fun d os => Calls.regrown_of (by have h := progSame_any _ _ (grow (redrawn w10 d) os) (HRA.out.on (below_regrown w10 d os)) (HRB.out.on (below_regrown w10 d os)); rw [HSE.out] at h; exact h)
        have cE : ∀ d os, Calls Tryz.prog 13 #[.slice Ap np cp, .slice Ap2 np2 cp2] (grow (redrawn w10 d) os) fun e w'' => e = .returned (.bool true) ∧ ∃ p : Regrown, w'' = grow (redrawn w10 p.d) p.os := fun d os => Calls.regrown_of ((refEqual_any Ap Ap2 np np2 cp cp2 pl pl (grow (redrawn w10 d) os) w10.heap.size (HIP.out.1.below (below_regrown w10 d os)) (HIQ.out.1.below (below_regrown w10 d os)) HIP.out.2 (by have := HIQ.out.2; omega)).mono (by rintro e w' ⟨rfl, m, rfl⟩; exact ⟨by simp, below_N (Below.refl _ _) _⟩))
        have hmx := HMX.out
        clear r0 r1 r2 t0 t1 t2 hO9 hO10 hn9 hn10
        go_upto_region 18 with fail
        refine wp_region_quiet_below hmx (by kernel_rfl) ?_
        repeat (quiet_step (first | (go_at_call 12; with_reducible exact cS _ _) | (go_at_call 14; with_reducible exact cT _ _) | (go_at_call 13; with_reducible exact cE _ _)))
        refine wpQuiet_nil ?_
        intro _ hw'
        obtain ⟨⟨dq, osq⟩, hw''⟩ := hw'
        subst hw''
        obtain ⟨w11, hw11⟩ : ∃ W, grow (redrawn w10 dq) osq = W := ⟨_, rfl⟩
        have hb11 : Below w10.heap.size w10 w11 := by rw [← hw11]; exact below_regrown w10 dq osq
        have HS11 := Lib.hid (HS10.out.on hb11)
        try dsimp only
        rw [hw11]
        clear hw11 hb11 cS cT cE x0 x1 x2 y0 y1 y2 HRA HRB HIP HIQ hmx HP9 HP10
        obtain ⟨r0, r1, r2⟩ := cells3U HS11.out.bA
        have hn1 := HS11.out.a.few
        go_wp2_with fail
        clear r0 r1 r2
        go_loopw [148] (fun v wx => ∃ (k : Nat) (LA : List (List Int)), v = .int .i64 (k : Int) ∧ k ≤ n1 ∧ Hid (RnA w wq g0 gA gB T2 gB (Cq.obj ⟨R, A0, I, P, n0, c0, l⟩) (.cells #[.slice X1 n1 n1, .int .i64 s1, .int .i64 s2] 30 (0, 0)) (.cells #[.slice X2 n2 n2, .int .i64 s1, .int .i64 s2] 30 (0, 0)) X1 X2 n1 n2 LA LO wx)) (fun v _ => n1 - (intOf v).toNat)
        case atStart => exact ⟨0, LO, rfl, Nat.zero_le _, HS11⟩
        case round =>
          obtain ⟨k, LA, rfl, hk, HSX⟩ := hrel
          by_cases hkn : k < n1
          case pos =>
            have hk1 : (k : Int) < (n1 : Int) := by omega
            have hk0 : (0 : Int) ≤ (k : Int) := by omega
            obtain ⟨b, o, Ar, cr, Lr, hX, HLr, hcell, hLc, hLl⟩ := HSX.out.a.at_ hkn
            obtain ⟨ln, hln⟩ : ∃ z, Lr.length = z := ⟨_, rfl⟩
            rw [hln] at hcell hLc hLl
            have HLA0 : Hid (∃ L', LA[k]? = some L' ∧ L'.length = ln) := ⟨Lr, HLr.out, hln⟩
            obtain ⟨r0, r1, r2⟩ := cells3U HSX.out.bA
            have HXE := Lib.hid hX
            have hr0 := r0
            rw [hX] at hr0
            clear hln r0 hX
            go_wp2_with fail
            clear hr0 r1 r2 hcell
            go_loopw [157] (fun v wy => ∃ (j : Nat) (LB : List (List Int)), v = .int .i64 (j : Int) ∧ j ≤ ln ∧ Hid (∃ L', LB[k]? = some L' ∧ L'.length = ln) ∧ Hid (RnA w wq g0 gA gB T2 gB (Cq.obj ⟨R, A0, I, P, n0, c0, l⟩) (.cells #[.slice X1 n1 n1, .int .i64 s1, .int .i64 s2] 30 (0, 0)) (.cells #[.slice X2 n2 n2, .int .i64 s1, .int .i64 s2] 30 (0, 0)) X1 X2 n1 n2 LB LO wy)) (fun v _ => ln - (intOf v).toNat)
            case atStart => exact ⟨0, LA, rfl, Nat.zero_le _, HLA0, HSX⟩
            case round =>
              obtain ⟨j, LB, rfl, hj, HLB, HSY⟩ := hrel
              by_cases hjn : j < ln
              case neg =>
                obtain rfl : j = ln := by omega
                have d1 : decide (j < j) = false := decide_eq_false (Nat.lt_irrefl _)
                go_wp2_with fail
                go_roundw
                case rel => exact ⟨k + 1, LB, by first | trivial | rfl, by omega, HSY⟩
                case measure => simp [intOf]; omega
              have hj1 : (j : Int) < (ln : Int) := by omega
              have hj0 : (0 : Int) ≤ (j : Int) := by omega
              obtain ⟨L', hL', hll⟩ := HLB.out
              obtain ⟨g2, i2, b2, c2, x, hX2, hcc, hcx, hfz, hcap, hT2, hU2, hset⟩ := HSY.out.a.cell hL' (by rw [hll]; exact hjn)
              rw [HXE.out] at hX2
              injection hX2 with hX2; injection hX2 with e1 e2
              subst e1; subst e2
              rw [hll] at hcc hcap
              obtain ⟨r0, r1, r2⟩ := cells3U HSY.out.bA
              rw [HXE.out] at r0
              have hwb : -9223372036854775808 ≤ wrap64 (x + 1) ∧ wrap64 (x + 1) ≤ 9223372036854775807 := wrap64_bounds _
              have HSN := Lib.hid (HSY.out.put hT2 hU2 j (.int .i64 (wrap64 (x + 1))) (hset _ hwb))
              have HLN : Hid (∃ L'', (LB.set k (L'.set j (wrap64 (x + 1))))[k]? = some L'' ∧ L''.length = ln) := ⟨_, List.getElem?_set_self (List.getElem?_eq_some_iff.1 hL').1, by rw [List.length_set]; exact hll⟩
              clear hset hwb hL' hll hT2 hU2 r1 r2
              go_wp2_with fail
              go_roundw
              case rel => exact ⟨j + 1, _, by first | trivial | rfl, by omega, HLN, HSN⟩
              case measure => simp [intOf]; omega
          obtain rfl : k = n1 := by omega
          have d1 : decide (k < k) = false := decide_eq_false (Nat.lt_irrefl _)
          obtain ⟨k0, k1, k2, k3, _⟩ := lvCells HSX.out.cd
          have hC := HAC.out.run wr HSX.out.bel
          go_wp2_with fail
          (with_reducible refine hC.mono ?_)
          rintro e w12 ⟨X3, n3, rfl, hO3, hb⟩
          obtain ⟨w13, hWm⟩ : ∃ W, w12.alloc (.cells #[.slice X3 n3 n3, .int .i64 s1, .int .i64 s2] 30) = W := ⟨_, rfl⟩
          obtain ⟨gC, hgm⟩ : ∃ z, w12.heap.size = z := ⟨_, rfl⟩
          have hbm : Below w12.heap.size w12 w13 := by rw [← hWm]; exact lvBelow w12 _
          have hYm := heap_alloc_new w12 (.cells #[.slice X3 n3 n3, .int .i64 s1, .int .i64 s2] 30)
          rw [hWm, hgm] at hYm
          have HWQ := Lib.hid hWm
          have HGQ := Lib.hid hgm
          have hP := hb.trans (hbm.mono hb.size)
          have HS13 := Lib.hid (HSX.out.on hP)
          have HR13 := Lib.hid ((hO3.below hbm).rq s1 s2)
          have HGC := Lib.hid hYm
          clear hWm hbm hYm hO3 hb hC k0 k1 k2 k3 hP d1 HSX
          go_upto_region 30 with fail
          try rw [HWQ.out]
          try rw [HGQ.out]
          clear HWQ HGQ hgm
          have hC := sameListsU_any A Aw n n c cw LL LL w13 w13.heap.size ((HI.out.below HS13.out.bel).more HS13.out.bel.size) ((HWI.out.below HS13.out.wr_).more HS13.out.wr_.size) (by omega) (by omega) (fun L h => by have := HL2.out L h; omega) (fun L h => by have := HL2.out L h; omega)
          rw [decide_eq_true rfl] at hC
          obtain ⟨r0, r1, r2⟩ := cells3U HGC.out
          obtain ⟨t0, t1, t2⟩ := cells3U HS13.out.bB
          clear r0 r1 r2 t0 t1 t2
          go_wp2_with fail
          (with_reducible refine hC.mono ?_)
          rintro e w14 ⟨rfl, m, rfl⟩
          have HB14 := Lib.hid (below_N HS13.out.bel m)
          have hbN : Below w13.heap.size w13 (w13.drewN m) := below_N (Below.refl _ _) m
          have hD := refSame16_any _ _ (w13.drewN m) (HR13.out.on hbN) ((HS13.out.b.rq s1 s2).on hbN)
          rw [show sameR ⟨X3, n3, n3, LO, s1, s2⟩ ⟨X2, n2, n2, LO, s1, s2⟩ = true from sameR_refl _ _ rfl rfl rfl] at hD
          obtain ⟨r0, r1, r2⟩ := cells3U (keep_b hbN HGC.out)
          obtain ⟨t0, t1, t2⟩ := cells3U (keep_b hbN HS13.out.bB)
          clear hbN hC
          go_wp2_with fail
          (with_reducible refine hD.mono ?_)
          rintro e w15 ⟨rfl, hb⟩
          have HB15 := Lib.hid (HB14.out.trans (hb.mono HB14.out.size))
          clear hD hb r0 r1 r2 t0 t1 t2
          go_wp2_with fail
          go_ret
          exact ⟨rfl, HB15.out⟩
    · have d0 : decide (2000 < m0) = false := decide_eq_false hf
      obtain ⟨s1, s2, s3, LO, pl, pe, hAC⟩ := allC (f := m0) (m1 := m1) (c := c) HQ.out HI.out HFW.out (by omega) HSH.out
      have HAC := Lib.hid hAC
      clear hAC hf
      go_wp2_with fail
      go_loopw [41, 10] (fun v s wr => ∃ (k : Nat) (Aw : Option Addr) (cw : Nat), v = .int .i64 (k : Int) ∧ s = .slice Aw k cw ∧ k ≤ n ∧ Hid (OwnLU wr w2.heap.size Aw cw (LL.take k)) ∧ Hid (Below w2.heap.size w2 wr)) (fun v _ _ => n - (intOf v).toNat)
      case atStart => exact ⟨0, none, 0, rfl, rfl, Nat.zero_le _, HO0, Below.refl _ _⟩
      case round =>
        obtain ⟨k, Aw, cw, rfl, rfl, hk, HOW, HBW⟩ := hrel
        by_cases hkn : k < n
        case pos =>
          have hk1 : (k : Int) < (n : Int) := by omega
          have hk0 : (0 : Int) ≤ (k : Int) := by omega
          obtain ⟨b, off, L, a, cL, hA, hb, HLk, hcell, hLc, hIL⟩ := ((HI.out.below (HB2.out.trans (HBW.out.mono HB2.out.size))).more (HB2.out.size)).at_ hkn
          have hLl := HL2.out L (List.mem_of_getElem? HLk.out)
          obtain ⟨ln, hln⟩ : ∃ z, L.length = z := ⟨_, rfl⟩
          rw [hln] at hcell hLc hIL hLl
          have HLn := Lib.hid hln
          have HIL := Lib.hid hIL
          have hsz := HBW.out.size
          have hTk : (LL.take k).length = k := by rw [List.length_take, HI.out.1]; omega
          have HTs : Hid (LL.take k ++ [L] = LL.take (k + 1)) := (take_succU HLk.out).symm
          have HTk := Lib.hid hTk
          obtain ⟨hi6, hy0, hy1, hy2⟩ := HI6.out
          obtain ⟨hi7, hz0, hz1, hz2⟩ := HI7.out
          subst hA
          clear hln hIL hTk hb
          go_wp2_with (at_builtin; first
            | (refine wpList_appendInts _ rfl (.const (.slice none 0 0)) (.tmp 46) 28 rfl w2.heap.size 2 i6 Tryz.underlying28 hi6 hy0 hy1 hy2 none a 0 ln cL _ 0 ln [] L rfl rfl (OwnI.nil_ _ _ _) rfl (Nat.zero_add _) HIL.out (by omega) hsz ?_; intro A3 c3 w3 hO3 hG3; have HO3 : Hid (OwnI w3 w2.heap.size 2 A3 c3 L) := hO3; have HB3 := Lib.hid (HBW.out.grown hG3 hsz (fun k hk => by cases hk)); have HOW3 := Lib.hid (HOW.out.below ((Below.refl wr.heap.size wr).grown hG3 (Nat.le_refl _) (fun k hk => by cases hk)) (Nat.le_refl _)); clear hO3 hG3)
            | (refine wpList_appendRowU rfl (.tmp 45) (.tmp 48) rfl w2.heap.size i7 hi7 hz0 hz1 hz2 Aw cw k (k + 1) c3 ln A3 (LL.take k) L rfl rfl HOW3.out HO3.out HLn.out HTk.out rfl (by omega) HB3.out.size ?_; intro A4 c4 w4 hO4 hb4; have HO4 := Lib.hid hO4; have HB4 := Lib.hid (HB3.out.trans hb4); clear hO4 hb4))
          go_roundw
          case rel => exact ⟨k + 1, A4, c4, by first | trivial | rfl, by first | trivial | rfl, by omega, by rw [← HTs.out]; exact HO4, HB4⟩
          case measure => simp [intOf]; omega
        obtain ⟨wq, hwq⟩ : ∃ W, W = wr := ⟨_, rfl⟩
        subst hwq
        obtain rfl : n = k := by omega
        have d1 : decide (n < n) = false := decide_eq_false (Nat.lt_irrefl _)
        have hw0 := HOW.out
        rw [List.take_of_length_le (by rw [HI.out.1]; exact Nat.le_refl _)] at hw0
        have hwi := hw0.ints
        rw [HI.out.1] at hwi
        have HWI := Lib.hid hwi
        have HBR := Lib.hid (HB2.out.trans (HBW.out.mono HB2.out.size))
        have HXR := Lib.hid (keep_b (w := w2) (w' := wq) HBW.out HX2.out)
        clear hw0 hwi
        obtain ⟨k0, k1, k2, k3, _⟩ := lvCells HXR.out
        have hC := HAC.out.run wq HBR.out
        go_wp2_with fail
        (with_reducible refine hC.mono ?_)
        rintro e w3 ⟨X1, n1, rfl, hO1, hb⟩
        obtain ⟨w4, hWm⟩ : ∃ W, w3.alloc (.cells #[.slice X1 n1 n1, .int .i64 s1, .int .i64 s2] 30) = W := ⟨_, rfl⟩
        obtain ⟨gA, hgm⟩ : ∃ z, w3.heap.size = z := ⟨_, rfl⟩
        have hbm : Below w3.heap.size w3 w4 := by rw [← hWm]; exact lvBelow w3 _
        have hYm := heap_alloc_new w3 (.cells #[.slice X1 n1 n1, .int .i64 s1, .int .i64 s2] 30)
        rw [hWm, hgm] at hYm
        have HWQ := Lib.hid hWm
        have HGQ := Lib.hid hgm
        rw [hgm] at hO1
        have HP3 := Lib.hid (hb.trans (hbm.mono hb.size))
        have HB3 := Lib.hid (HBR.out.trans (HP3.out.mono HBR.out.size))
        have HX3 := Lib.hid (keep_b HP3.out HXR.out)
        have HO1 := Lib.hid (hO1.below hbm)
        have HGA := Lib.hid hYm
        have HGL : Hid (gA < w4.heap.size) := lt_of_heap hYm
        have HG0 : Hid (g0 < wq.heap.size) := lt_of_heap HXR.out
        clear hWm hgm hbm hYm hO1 hb hC k0 k1 k2 k3
        go_upto_region 13 with fail
        try rw [HWQ.out]
        try rw [HGQ.out]
        clear HWQ HGQ
        obtain ⟨k0, k1, k2, k3, _⟩ := lvCells HX3.out
        have hC := HAC.out.ref w4 HB3.out
        go_wp2_with fail
        (with_reducible refine hC.mono ?_)
        rintro e w5 ⟨X2, n2, rfl, hO2, hb⟩
        obtain ⟨w6, hWm⟩ : ∃ W, w5.alloc (.cells #[.slice X2 n2 n2, .int .i64 s1, .int .i64 s2] 30) = W := ⟨_, rfl⟩
        obtain ⟨gB, hgm⟩ : ∃ z, w5.heap.size = z := ⟨_, rfl⟩
        have hbm : Below w5.heap.size w5 w6 := by rw [← hWm]; exact lvBelow w5 _
        have hYm := heap_alloc_new w5 (.cells #[.slice X2 n2 n2, .int .i64 s1, .int .i64 s2] 30)
        rw [hWm, hgm] at hYm
        have HWQ := Lib.hid hWm
        have HGQ := Lib.hid hgm
        rw [hgm] at hO2
        have hP := hb.trans (hbm.mono hb.size)
        obtain ⟨T2, hT2⟩ : ∃ z, w4.heap.size = z := ⟨_, rfl⟩
        have HS6 : Hid (RnA w wq g0 gA gB T2 gB (Cq.obj ⟨R, A0, I, P, n0, c0, l⟩) (.cells #[.slice X1 n1 n1, .int .i64 s1, .int .i64 s2] 30 (0, 0)) (.cells #[.slice X2 n2 n2, .int .i64 s1, .int .i64 s2] 30 (0, 0)) X1 X2 n1 n2 LO LO w6) := by
          have e1 := hP.size
          have e2 := HGL.out
          have e3 := hb.size
          rw [hT2] at hO2 e1 e2 e3
          exact ⟨HB3.out.trans (hP.mono HB3.out.size), HP3.out.trans (hP.mono HP3.out.size), keep_b hP HX3.out, keep_b hP HGA.out, hYm, HO1.out.below hP, hO2.below hbm, HG0.out, HBR.out.size, by omega, by rw [← hgm]; omega⟩
        clear hWm hbm hYm hO2 hb hC k0 k1 k2 k3 hP hT2 HGL HGA HO1 HX3 HP3 HB3 hgm
        go_upto_region 14 with fail
        try rw [HWQ.out]
        try rw [HGQ.out]
        clear HWQ HGQ
        obtain ⟨k0, k1, k2, k3, _⟩ := lvCells HS6.out.cd
        have hC := HAC.out.need w6 HS6.out.bel
        go_wp2_with fail
        (with_reducible refine hC.mono ?_)
        rintro e w7 ⟨rfl, hb⟩
        have HS7 := Lib.hid (HS6.out.on hb)
        clear hb hC k0 k1 k2 k3
        obtain ⟨k0, k1, k2, k3, _⟩ := lvCells HS7.out.cd
        have hC := HAC.out.refNeed w7 HS7.out.bel
        go_wp2_with fail
        (with_reducible refine hC.mono ?_)
        rintro e w8 ⟨rfl, hb⟩
        have HS8 := Lib.hid (HS7.out.on hb)
        clear hb hC k0 k1 k2 k3
        obtain ⟨k0, k1, k2, k3, _⟩ := lvCells HS8.out.cd
        have hC := HAC.out.path w8 HS8.out.bel
        go_wp2_with fail
        (with_reducible refine hC.mono ?_)
        rintro e w9 ⟨Ap, np, cp, rfl, hn9, hO, hb⟩
        have HS9 := Lib.hid (HS8.out.on hb)
        have HO9 := Lib.hid hO
        clear hO
        clear hb hC k0 k1 k2 k3
        obtain ⟨k0, k1, k2, k3, _⟩ := lvCells HS9.out.cd
        have hC := HAC.out.refPath w9 HS9.out.bel
        go_wp2_with fail
        (with_reducible refine hC.mono ?_)
        rintro e w10 ⟨Ap2, np2, cp2, rfl, hn10, hO, hb⟩
        have HS10 := Lib.hid (HS9.out.on hb)
        have HP9 := Lib.hid (HO9.out.below hb (Nat.le_refl _))
        have HP10 := Lib.hid hO
        clear hO HO9
        clear hb hC k0 k1 k2 k3
        have hO9 := HP9.out
        have hO10 := HP10.out
        have HIP : Hid (Ints w10 w10.heap.size Ap np pl ∧ np ≤ 100000) := ⟨by have h1 := hO9.ints; rw [hn9] at h1; exact h1, by rw [← hn9]; exact HAC.out.short⟩
        have HIQ : Hid (Ints w10 w10.heap.size Ap2 np2 pl ∧ np2 ≤ 100000) := ⟨by have h1 := hO10.ints; rw [hn10] at h1; exact h1, by rw [← hn10]; exact HAC.out.short⟩
        obtain ⟨r0, r1, r2⟩ := cells3U HS10.out.bA
        obtain ⟨t0, t1, t2⟩ := cells3U HS10.out.bB
        have x0 := cell_regrown r0
        have x1 := cell_regrown r1
        have x2 := cell_regrown r2
        have y0 := cell_regrown t0
        have y1 := cell_regrown t1
        have y2 := cell_regrown t2
        have HRA := Lib.hid (HS10.out.a.rq s1 s2)
        have HRB := Lib.hid (HS10.out.b.rq s1 s2)
        have HSE : Hid (sameR ⟨X1, n1, n1, LO, s1, s2⟩ ⟨X2, n2, n2, LO, s1, s2⟩ = true) := sameR_refl _ _ rfl rfl rfl
        have cS : ∀ d os, Calls Tryz.prog 12 #[.agg #[.slice X1 n1 n1, .int .i64 s1, .int .i64 s2], .agg #[.slice X2 n2 n2, .int .i64 s1, .int .i64 s2]] (grow (redrawn w10 d) os) fun e w'' => e = .returned (.bool true) ∧ ∃ p : Regrown, w'' = grow (redrawn w10 p.d) p.os := fun d os => Calls.regrown_of (by have h := refSame16_any _ _ (grow (redrawn w10 d) os) (HRA.out.on (below_regrown w10 d os)) (HRB.out.on (below_regrown w10 d os)); rw [HSE.out] at h; exact h)
        have cT : ∀ d os, Calls Tryz.prog 14 #[.agg #[.slice X1 n1 n1, .int .i64 s1, .int .i64 s2], .agg #[.slice X2 n2 n2, .int .i64 s1, .int .i64 s2]] (grow (redrawn w10 d) os) fun e w'' => e = .returned (.bool true) ∧ ∃ p : Regrown, w'' = grow (redrawn w10 p.d) p.os := fun d os => Calls.regrown_of (by have h := progSame_any _ _ (grow (redrawn w10 d) os) (HRA.out.on (below_regrown w10 d os)) (HRB.out.on (below_regrown w10 d os)); rw [HSE.out] at h; exact h)
        have cE : ∀ d os, Calls Tryz.prog 13 #[.slice Ap np cp, .slice Ap2 np2 cp2] (grow (redrawn w10 d) os) fun e w'' => e = .returned (.bool true) ∧ ∃ p : Regrown, w'' = grow (redrawn w10 p.d) p.os := fun d os => Calls.regrown_of ((refEqual_any Ap Ap2 np np2 cp cp2 pl pl (grow (redrawn w10 d) os) w10.heap.size (HIP.out.1.below (below_regrown w10 d os)) (HIQ.out.1.below (below_regrown w10 d os)) HIP.out.2 (by have := HIQ.out.2; omega)).mono (by rintro e w' ⟨rfl, m, rfl⟩; exact ⟨by simp, below_N (Below.refl _ _) _⟩))
        have hmx := HMX.out
        clear r0 r1 r2 t0 t1 t2 hO9 hO10 hn9 hn10
        go_upto_region 18 with fail
        refine wp_region_quiet_below hmx (by kernel_rfl) ?_
        repeat (quiet_step (first | (go_at_call 12; with_reducible exact cS _ _) | (go_at_call 14; with_reducible exact cT _ _) | (go_at_call 13; with_reducible exact cE _ _)))
        refine wpQuiet_nil ?_
        intro _ hw'
        obtain ⟨⟨dq, osq⟩, hw''⟩ := hw'
        subst hw''
        obtain ⟨w11, hw11⟩ : ∃ W, grow (redrawn w10 dq) osq = W := ⟨_, rfl⟩
        have hb11 : Below w10.heap.size w10 w11 := by rw [← hw11]; exact below_regrown w10 dq osq
        have HS11 := Lib.hid (HS10.out.on hb11)
        try dsimp only
        rw [hw11]
        clear hw11 hb11 cS cT cE x0 x1 x2 y0 y1 y2 HRA HRB HIP HIQ hmx HP9 HP10
        obtain ⟨r0, r1, r2⟩ := cells3U HS11.out.bA
        have hn1 := HS11.out.a.few
        go_wp2_with fail
        clear r0 r1 r2
        go_loopw [148] (fun v wx => ∃ (k : Nat) (LA : List (List Int)), v = .int .i64 (k : Int) ∧ k ≤ n1 ∧ Hid (RnA w wq g0 gA gB T2 gB (Cq.obj ⟨R, A0, I, P, n0, c0, l⟩) (.cells #[.slice X1 n1 n1, .int .i64 s1, .int .i64 s2] 30 (0, 0)) (.cells #[.slice X2 n2 n2, .int .i64 s1, .int .i64 s2] 30 (0, 0)) X1 X2 n1 n2 LA LO wx)) (fun v _ => n1 - (intOf v).toNat)
        case atStart => exact ⟨0, LO, rfl, Nat.zero_le _, HS11⟩
        case round =>
          obtain ⟨k, LA, rfl, hk, HSX⟩ := hrel
          by_cases hkn : k < n1
          case pos =>
            have hk1 : (k : Int) < (n1 : Int) := by omega
            have hk0 : (0 : Int) ≤ (k : Int) := by omega
            obtain ⟨b, o, Ar, cr, Lr, hX, HLr, hcell, hLc, hLl⟩ := HSX.out.a.at_ hkn
            obtain ⟨ln, hln⟩ : ∃ z, Lr.length = z := ⟨_, rfl⟩
            rw [hln] at hcell hLc hLl
            have HLA0 : Hid (∃ L', LA[k]? = some L' ∧ L'.length = ln) := ⟨Lr, HLr.out, hln⟩
            obtain ⟨r0, r1, r2⟩ := cells3U HSX.out.bA
            have HXE := Lib.hid hX
            have hr0 := r0
            rw [hX] at hr0
            clear hln r0 hX
            go_wp2_with fail
            clear hr0 r1 r2 hcell
            go_loopw [157] (fun v wy => ∃ (j : Nat) (LB : List (List Int)), v = .int .i64 (j : Int) ∧ j ≤ ln ∧ Hid (∃ L', LB[k]? = some L' ∧ L'.length = ln) ∧ Hid (RnA w wq g0 gA gB T2 gB (Cq.obj ⟨R, A0, I, P, n0, c0, l⟩) (.cells #[.slice X1 n1 n1, .int .i64 s1, .int .i64 s2] 30 (0, 0)) (.cells #[.slice X2 n2 n2, .int .i64 s1, .int .i64 s2] 30 (0, 0)) X1 X2 n1 n2 LB LO wy)) (fun v _ => ln - (intOf v).toNat)
            case atStart => exact ⟨0, LA, rfl, Nat.zero_le _, HLA0, HSX⟩
            case round =>
              obtain ⟨j, LB, rfl, hj, HLB, HSY⟩ := hrel
              by_cases hjn : j < ln
              case neg =>
                obtain rfl : j = ln := by omega
                have d1 : decide (j < j) = false := decide_eq_false (Nat.lt_irrefl _)
                go_wp2_with fail
                go_roundw
                case rel => exact ⟨k + 1, LB, by first | trivial | rfl, by omega, HSY⟩
                case measure => simp [intOf]; omega
              have hj1 : (j : Int) < (ln : Int) := by omega
              have hj0 : (0 : Int) ≤ (j : Int) := by omega
              obtain ⟨L', hL', hll⟩ := HLB.out
              obtain ⟨g2, i2, b2, c2, x, hX2, hcc, hcx, hfz, hcap, hT2, hU2, hset⟩ := HSY.out.a.cell hL' (by rw [hll]; exact hjn)
              rw [HXE.out] at hX2
              injection hX2 with hX2; injection hX2 with e1 e2
              subst e1; subst e2
              rw [hll] at hcc hcap
              obtain ⟨r0, r1, r2⟩ := cells3U HSY.out.bA
              rw [HXE.out] at r0
              have hwb : -9223372036854775808 ≤ wrap64 (x + 1) ∧ wrap64 (x + 1) ≤ 9223372036854775807 := wrap64_bounds _
              have HSN := Lib.hid (HSY.out.put hT2 hU2 j (.int .i64 (wrap64 (x + 1))) (hset _ hwb))
              have HLN : Hid (∃ L'', (LB.set k (L'.set j (wrap64 (x + 1))))[k]? = some L'' ∧ L''.length = ln) := ⟨_, List.getElem?_set_self (List.getElem?_eq_some_iff.1 hL').1, by rw [List.length_set]; exact hll⟩
              clear hset hwb hL' hll hT2 hU2 r1 r2
              go_wp2_with fail
              go_roundw
              case rel => exact ⟨j + 1, _, by first | trivial | rfl, by omega, HLN, HSN⟩
              case measure => simp [intOf]; omega
          obtain rfl : k = n1 := by omega
          have d1 : decide (k < k) = false := decide_eq_false (Nat.lt_irrefl _)
          obtain ⟨k0, k1, k2, k3, _⟩ := lvCells HSX.out.cd
          have hC := HAC.out.run wr HSX.out.bel
          go_wp2_with fail
          (with_reducible refine hC.mono ?_)
          rintro e w12 ⟨X3, n3, rfl, hO3, hb⟩
          obtain ⟨w13, hWm⟩ : ∃ W, w12.alloc (.cells #[.slice X3 n3 n3, .int .i64 s1, .int .i64 s2] 30) = W := ⟨_, rfl⟩
          obtain ⟨gC, hgm⟩ : ∃ z, w12.heap.size = z := ⟨_, rfl⟩
          have hbm : Below w12.heap.size w12 w13 := by rw [← hWm]; exact lvBelow w12 _
          have hYm := heap_alloc_new w12 (.cells #[.slice X3 n3 n3, .int .i64 s1, .int .i64 s2] 30)
          rw [hWm, hgm] at hYm
          have HWQ := Lib.hid hWm
          have HGQ := Lib.hid hgm
          have hP := hb.trans (hbm.mono hb.size)
          have HS13 := Lib.hid (HSX.out.on hP)
          have HR13 := Lib.hid ((hO3.below hbm).rq s1 s2)
          have HGC := Lib.hid hYm
          clear hWm hbm hYm hO3 hb hC k0 k1 k2 k3 hP d1 HSX
          go_upto_region 30 with fail
          try rw [HWQ.out]
          try rw [HGQ.out]
          clear HWQ HGQ hgm
          have hC := sameListsU_any A Aw n n c cw LL LL w13 w13.heap.size ((HI.out.below HS13.out.bel).more HS13.out.bel.size) ((HWI.out.below HS13.out.wr_).more HS13.out.wr_.size) (by omega) (by omega) (fun L h => by have := HL2.out L h; omega) (fun L h => by have := HL2.out L h; omega)
          rw [decide_eq_true rfl] at hC
          obtain ⟨r0, r1, r2⟩ := cells3U HGC.out
          obtain ⟨t0, t1, t2⟩ := cells3U HS13.out.bB
          clear r0 r1 r2 t0 t1 t2
          go_wp2_with fail
          (with_reducible refine hC.mono ?_)
          rintro e w14 ⟨rfl, m, rfl⟩
          have HB14 := Lib.hid (below_N HS13.out.bel m)
          have hbN : Below w13.heap.size w13 (w13.drewN m) := below_N (Below.refl _ _) m
          have hD := refSame16_any _ _ (w13.drewN m) (HR13.out.on hbN) ((HS13.out.b.rq s1 s2).on hbN)
          rw [show sameR ⟨X3, n3, n3, LO, s1, s2⟩ ⟨X2, n2, n2, LO, s1, s2⟩ = true from sameR_refl _ _ rfl rfl rfl] at hD
          obtain ⟨r0, r1, r2⟩ := cells3U (keep_b hbN HGC.out)
          obtain ⟨t0, t1, t2⟩ := cells3U (keep_b hbN HS13.out.bB)
          clear hbN hC
          go_wp2_with fail
          (with_reducible refine hD.mono ?_)
          rintro e w15 ⟨rfl, hb⟩
          have HB15 := Lib.hid (HB14.out.trans (hb.mono HB14.out.size))
          clear hD hb r0 r1 r2 t0 t1 t2
          go_wp2_with fail
          go_ret
          exact ⟨rfl, HB15.out⟩
end Go.Proofs.YtgkngimeokhhgaaGreatDoor
