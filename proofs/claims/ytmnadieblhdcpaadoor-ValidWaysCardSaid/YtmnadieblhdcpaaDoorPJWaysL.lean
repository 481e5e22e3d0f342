/- purflelaw15.ValidWays returns true. -/
import Derived.Test.YtmnadieblhdcpaaDoorG27
namespace Go.Proofs.YtmnadieblhdcpaaDoor
open Go.RowKit

/-- one way, with what was set on it as a list -/
def GoesL (c : Cd) (k : Nat) (bs : List Bool) : Prop := bs.length = c.R.toNat ∧ Goes c k (fun n => bs.getD n.toNat false)
theorem GoesL.start (c : Cd) : GoesL c 0 (List.replicate c.R.toNat false) := by
  refine ⟨by simp, ⟨.start, fun _ _ _ _ => .start⟩⟩
theorem getD_false {bs : List Bool} {n : Nat} (h : n < bs.length) (h2 : bs.getD n false = true) : bs[n]? = some true := by
  rw [List.getD_eq_getElem?_getD, List.getElem?_eq_getElem h] at h2
  rw [List.getElem?_eq_getElem h]
  simpa using h2
theorem GoesL.was {c : Cd} {k : Nat} {bs : List Bool} (h : GoesL c k bs) {z : Int} (hz : z ∈ setN c k) : 0 ≤ z ∧ z < c.R ∧ bs[z.toNat]? = some true := by
  obtain ⟨h0, h1, _⟩ := mem_setN.1 hz
  exact ⟨h0, h1, getD_false (by rw [h.1]; omega) (h.2.was z hz)⟩
theorem GoesL.reads {c : Cd} (hm : c.may = true) (hf : unsetN c = []) {k : Nat} {bs : List Bool} (h : GoesL c k bs) {x : Ji} (hx : c.l[k]? = some x) {z : Int} (hz : z ∈ readsJ x) : 0 ≤ z ∧ z < c.R ∧ bs[z.toNat]? = some true := by
  obtain ⟨h0, h1⟩ := reads_in ((Cd.may_parts hm).2.1 x (List.mem_of_getElem? hx)) z hz
  exact ⟨h0, h1, getD_false (by rw [h.1]; omega) (h.2.reads hf hx z hz)⟩
/-- what was set behind an instruction -/
def putX (x : Ji) (bs : List Bool) : List Bool := if setsJ x = true then bs.set (writesJ x).toNat true else bs
theorem GoesL.step {c : Cd} (hm : c.may = true) {k z : Nat} {bs : List Bool} (h : GoesL c k bs) {x : Ji} (hx : c.l[k]? = some x) (hz : (z : Int) ∈ nextJ x k) : GoesL c z (putX x bs) := by
  refine ⟨by unfold putX; split <;> simp [h.1], ?_⟩
  have hs := h.2.step hm hx hz
  refine ⟨hs.way, fun n h0 h1 hn => hs.set_ n h0 h1 ?_⟩
  unfold wasX
  by_cases e : setsJ x = true ∧ writesJ x = n
  · obtain ⟨e1, e2⟩ := e
    unfold putX at hn
    rw [if_pos e1, e2] at hn
    have hl : n.toNat < bs.length := by rw [h.1]; omega
    rw [List.getD_eq_getElem?_getD, List.getElem?_set_self hl] at hn
    simp at hn
  · rw [if_neg e]
    unfold putX at hn
    split at hn
    · rename_i e1
      have hb := sets_in ((Cd.may_parts hm).2.1 x (List.mem_of_getElem? hx)) e1
      have hne : (writesJ x).toNat ≠ n.toNat := fun e2 => e ⟨e1, by omega⟩
      rw [List.getD_eq_getElem?_getD, List.getElem?_set_ne hne] at hn
      show bs.getD n.toNat false = false
      rw [List.getD_eq_getElem?_getD]
      exact hn
    · exact hn
/-- where the variables of ValidWays lie -/
structure WayI (w w6 : World) (q : Cq) (gw : Nat) (W : World) (bs : List Bool) : Prop where
  bel : Below w.heap.size w W
  bel6 : Below w6.heap.size w6 W
  bx : W.heap[w.heap.size]? = some q.obj
  lt : w.heap.size < w6.heap.size
  g6 : w6.heap.size ≤ gw
  wb : BoB W gw bs
theorem WayI.on {w w6 W W' : World} {q : Cq} {gw : Nat} {bs : List Bool} (h : WayI w w6 q gw W bs) (hb : Below W.heap.size W W') : WayI w w6 q gw W' bs :=
  ⟨h.bel.trans (hb.mono h.bel.size), h.bel6.trans (hb.mono h.bel6.size), keep_b hb h.bx, h.lt, h.g6, keep_b hb h.wb⟩
theorem WayI.set {w w6 W : World} {q : Cq} {gw : Nat} {bs : List Bool} (h : WayI w w6 q gw W bs) (k : Nat) : WayI w w6 q gw (W.setCell ⟨gw, k, none⟩ (.bool true)) (bs.set k true) := by
  have h1 := h.lt
  have h2 := h.g6
  exact ⟨h.bel.setCell (p := ⟨gw, k, none⟩) (by show w.heap.size ≤ gw; omega) _, h.bel6.setCell (p := ⟨gw, k, none⟩) h2 _, (Below.heap_setCell _ ⟨gw, k, none⟩ _ _ (by show w.heap.size ≠ gw; omega)).trans h.bx, h1, h2, h.wb.set k true⟩
set_option maxRecDepth 100000 in
set_option maxHeartbeats 8000000 in
theorem validWays_any (w : World) (q : Cq) (hq : q.In w) (PA : Option Addr) (pn pc : Nat) (ps : List Bool) (hp : Bools w w.heap.size PA pn ps) (hpn : pn ≤ 9223372036854775807) (hSh : ShT w) : Calls Tryd.prog 4 #[q.val, .slice PA pn pc] w fun r w' => r = .returned (.bool true) ∧ Below w.heap.size w w' := by
  obtain ⟨R, A, I, P, n, c, l⟩ := q
  have HQ := Lib.hid hq
  have HSh := Lib.hid hSh
  have HP := Lib.hid hp
  have HLN : Hid (l.length = n) := hq.len
  have hn1 : n ≤ 9223372036854775807 := hq.n1
  obtain ⟨W0, hW0⟩ : ∃ W, w.alloc (Cq.obj ⟨R, A, I, P, n, c, l⟩) = W := ⟨_, rfl⟩
  have HB0 : Hid (Below w.heap.size w W0) := by rw [← hW0]; exact lvBelow w _
  have HX0 : Hid (W0.heap[w.heap.size]? = some (Cq.obj ⟨R, A, I, P, n, c, l⟩)) := by rw [← hW0]; exact heap_alloc_new w _
  clear hq hp hSh
  by_cases hf : n ≤ 300
  case neg =>
    have d0 : decide (n ≤ 300) = false := decide_eq_false hf
    go_enter Tryd.func4, Tryd.ntmps4
    go_wp2_with fail
    try rw [hW0]
    refine (live15_any W0 (HSh.out.on HB0.out)).mono ?_
    rintro e w1 ⟨rfl, hb⟩
    have HB1 := Lib.hid (HB0.out.trans (hb.mono HB0.out.size))
    have HX1 := Lib.hid (keep_b hb HX0.out)
    clear hb hW0
    obtain ⟨m0, m1, m2, m3, _⟩ := lvCells HX1.out
    go_wp2_with fail
    refine (refFew14_any ⟨R, A, I, P, n, c, l⟩ w1 (HQ.out.on HB1.out)).mono ?_
    rintro e w2 ⟨rfl, hb⟩
    have HB2 := Lib.hid (HB1.out.trans (hb.mono HB1.out.size))
    have HX2 := Lib.hid (keep_b hb HX1.out)
    clear hb m0 m1 m2 m3
    dsimp only
    rw [d0]
    go_wp2_with fail
    go_ret
    exact ⟨rfl, HB2.out⟩
  have d0 : decide (n ≤ 300) = true := decide_eq_true hf
  by_cases hp5 : pn ≤ 500
  case neg =>
    have p5 : (500 : Int) < (pn : Int) := by omega
    go_enter Tryd.func4, Tryd.ntmps4
    go_wp2_with fail
    try rw [hW0]
    refine (live15_any W0 (HSh.out.on HB0.out)).mono ?_
    rintro e w1 ⟨rfl, hb⟩
    have HB1 := Lib.hid (HB0.out.trans (hb.mono HB0.out.size))
    have HX1 := Lib.hid (keep_b hb HX0.out)
    clear hb hW0
    obtain ⟨m0, m1, m2, m3, _⟩ := lvCells HX1.out
    go_wp2_with fail
    refine (refFew14_any ⟨R, A, I, P, n, c, l⟩ w1 (HQ.out.on HB1.out)).mono ?_
    rintro e w2 ⟨rfl, hb⟩
    have HB2 := Lib.hid (HB1.out.trans (hb.mono HB1.out.size))
    have HX2 := Lib.hid (keep_b hb HX1.out)
    clear hb m0 m1 m2 m3
    dsimp only
    rw [d0]
    go_wp2_with fail
    go_ret
    exact ⟨rfl, HB2.out⟩
  have p5 : ¬ (500 : Int) < (pn : Int) := by omega
  cases hm : Cd.may (Cq.cd ⟨R, A, I, P, n, c, l⟩) with
  | false =>
    have HE := Lib.hid (Cd.e_no hm)
    clear hm
    go_enter Tryd.func4, Tryd.ntmps4
    go_wp2_with fail
    try rw [hW0]
    refine (live15_any W0 (HSh.out.on HB0.out)).mono ?_
    rintro e w1 ⟨rfl, hb⟩
    have HB1 := Lib.hid (HB0.out.trans (hb.mono HB0.out.size))
    have HX1 := Lib.hid (keep_b hb HX0.out)
    clear hb hW0
    obtain ⟨m0, m1, m2, m3, _⟩ := lvCells HX1.out
    go_wp2_with fail
    refine (refFew14_any ⟨R, A, I, P, n, c, l⟩ w1 (HQ.out.on HB1.out)).mono ?_
    rintro e w2 ⟨rfl, hb⟩
    have HB2 := Lib.hid (HB1.out.trans (hb.mono HB1.out.size))
    have HX2 := Lib.hid (keep_b hb HX1.out)
    clear hb m0 m1 m2 m3
    dsimp only
    rw [d0]
    have hC := validSet_any ⟨R, A, I, P, n, c, l⟩ w2 (HQ.out.on HB2.out) (HSh.out.on HB2.out)
    unfold SetP at hC
    rw [HE.out] at hC
    obtain ⟨m0, m1, m2, m3, _⟩ := lvCells HX2.out
    go_wp2_with fail
    refine hC.mono ?_
    rintro e w3 ⟨AS, ns, cs, rfl, hI, _, hb⟩
    have HB3 := Lib.hid (HB2.out.trans (hb.mono HB2.out.size))
    have HX3 := Lib.hid (keep_b hb HX2.out)
    clear hb hC hI m0 m1 m2 m3
    have hC := validReach_any ⟨R, A, I, P, n, c, l⟩ w3 (HQ.out.on HB3.out) (HSh.out.on HB3.out)
    unfold ReachP at hC
    rw [HE.out] at hC
    obtain ⟨m0, m1, m2, m3, _⟩ := lvCells HX3.out
    go_wp2_with fail
    refine hC.mono ?_
    rintro e w4 ⟨AR, nr, cr, rfl, hI, hb⟩
    have HB4 := Lib.hid (HB3.out.trans (hb.mono HB3.out.size))
    have HX4 := Lib.hid (keep_b hb HX3.out)
    clear hb hC hI m0 m1 m2 m3
    go_wp2_with fail
    go_ret
    exact ⟨rfl, HB4.out⟩
  | true =>
    have HE := Lib.hid (Cd.e_yes hm)
    have HM := Lib.hid hm
    have HSC : Hid (setC (Cq.cd ⟨R, A, I, P, n, c, l⟩) = setsN (Cq.cd ⟨R, A, I, P, n, c, l⟩)) := by unfold Hid setC; rw [hm]; rfl
    have HRC : Hid (reachC (Cq.cd ⟨R, A, I, P, n, c, l⟩) = reachB (Cq.cd ⟨R, A, I, P, n, c, l⟩) (-1)) := by unfold Hid reachC; rw [hm]; rfl
    obtain ⟨⟨hR0, hR1, _, _, _, _, hl0, hl1⟩, _⟩ := Cd.may_parts hm
    have hR0 : 0 ≤ R := hR0
    have hR1 : R ≤ 128 := hR1
    have hl0 : 1 ≤ l.length := hl0
    rw [HLN.out] at hl0
    obtain ⟨K, rfl⟩ : ∃ K : Nat, R = (K : Int) := ⟨R.toNat, by omega⟩
    obtain ⟨i2, hi2, hx0, hx1, hx2⟩ := info_parts infoBo
    have hmk := fun W => run_makeBo (P := Tryd.prog) 27 4 i2 Tryd.underlying27 hi2 hx0 hx1 hx2 K (by omega) W
    clear hm
    go_enter Tryd.func4, Tryd.ntmps4
    go_wp2_with fail
    try rw [hW0]
    refine (live15_any W0 (HSh.out.on HB0.out)).mono ?_
    rintro e w1 ⟨rfl, hb⟩
    have HB1 := Lib.hid (HB0.out.trans (hb.mono HB0.out.size))
    have HX1 := Lib.hid (keep_b hb HX0.out)
    clear hb hW0
    obtain ⟨m0, m1, m2, m3, _⟩ := lvCells HX1.out
    go_wp2_with fail
    refine (refFew14_any ⟨(K : Int), A, I, P, n, c, l⟩ w1 (HQ.out.on HB1.out)).mono ?_
    rintro e w2 ⟨rfl, hb⟩
    have HB2 := Lib.hid (HB1.out.trans (hb.mono HB1.out.size))
    have HX2 := Lib.hid (keep_b hb HX1.out)
    clear hb m0 m1 m2 m3
    dsimp only
    rw [d0]
    have hC := validSet_any ⟨(K : Int), A, I, P, n, c, l⟩ w2 (HQ.out.on HB2.out) (HSh.out.on HB2.out)
    unfold SetP at hC
    rw [HE.out] at hC
    obtain ⟨m0, m1, m2, m3, _⟩ := lvCells HX2.out
    go_wp2_with fail
    refine hC.mono ?_
    rintro e w3 ⟨AS, ns, cs, rfl, hI, _, hb⟩
    have HB3 := Lib.hid (HB2.out.trans (hb.mono HB2.out.size))
    have HX3 := Lib.hid (keep_b hb HX2.out)
    rw [HSC.out] at hI
    have hns : ns = n := by rw [← hI.1, setsN_len]; exact HLN.out
    subst hns
    have HS3 := Lib.hid hI
    clear hb hC hI m0 m1 m2 m3
    have hC := validReach_any ⟨(K : Int), A, I, P, ns, c, l⟩ w3 (HQ.out.on HB3.out) (HSh.out.on HB3.out)
    unfold ReachP at hC
    rw [HE.out] at hC
    obtain ⟨m0, m1, m2, m3, _⟩ := lvCells HX3.out
    go_wp2_with fail
    refine hC.mono ?_
    rintro e w4 ⟨AR, nr, cr, rfl, hI, hb⟩
    have HB4 := Lib.hid (HB3.out.trans (hb.mono HB3.out.size))
    have HX4 := Lib.hid (keep_b hb HX3.out)
    rw [HRC.out] at hI
    have hnr : nr = ns := by rw [← hI.1, reachB_len]; exact HLN.out
    subst hnr
    have HR4 := Lib.hid hI
    have HS4 : Hid (IntsLL w4 w4.heap.size AS nr (setsN _)) := (HS3.out.below hb).more hb.size
    clear hb hC hI m0 m1 m2 m3
    have hC := validCheck_any ⟨(K : Int), A, I, P, nr, c, l⟩ w4 (HQ.out.on HB4.out) (HSh.out.on HB4.out)
    unfold ValidP at hC
    obtain ⟨V, hV⟩ : ∃ V, validE (Cq.cd ⟨(K : Int), A, I, P, nr, c, l⟩) = V := ⟨_, rfl⟩
    rw [hV] at hC
    have HV := Lib.hid hV
    clear hV
    obtain ⟨m0, m1, m2, m3, _⟩ := lvCells HX4.out
    obtain ⟨fb, hfb⟩ : ∃ fb, (V == 0) = fb := ⟨_, rfl⟩
    go_wp2_with fail
    (with_reducible refine hC.mono ?_)
    rintro e w5 ⟨rfl, hb⟩
    have HB5 := Lib.hid (HB4.out.trans (hb.mono HB4.out.size))
    have HX5 := Lib.hid (keep_b hb HX4.out)
    have HR5 := Lib.hid (HR4.out.on hb)
    have HS5 : Hid (IntsLL w5 w5.heap.size AS nr (setsN _)) := (HS4.out.below hb).more hb.size
    clear hb hC m0 m1 m2 m3
    obtain ⟨m0, m1, m2, m3, _⟩ := lvCells HX5.out
    obtain ⟨W6, hW6⟩ : ∃ W, w5.alloc (.cells (Array.replicate K (Value.bool false)) 4) = W := ⟨_, rfl⟩
    obtain ⟨gw, hgw⟩ : ∃ z, w5.heap.size = z := ⟨_, rfl⟩
    have HW6 : Hid (WayI w w5 ⟨(K : Int), A, I, P, nr, c, l⟩ gw W6 (List.replicate K false)) := by
      have hb : Below w5.heap.size w5 W6 := by rw [← hW6]; exact lvBelow _ _
      exact ⟨HB5.out.trans (hb.mono HB5.out.size), hb, keep_b hb HX5.out, lt_of_heap HX5.out, Nat.le_of_eq hgw, by rw [← hgw, ← hW6]; exact BoB.made w5 K⟩
    have HWQ := Lib.hid hW6
    have HGQ := Lib.hid hgw
    clear hW6
    go_upto_region 10 with fail
    try rw [HWQ.out]
    try rw [HGQ.out]
    clear m0 m1 m2 m3 HWQ HGQ hgw hmk
    obtain ⟨cd, hcd⟩ : ∃ cd, Cq.cd ⟨(K : Int), A, I, P, nr, c, l⟩ = cd := ⟨_, rfl⟩
    have HCL : Hid (cd.l.length = nr) := by rw [← hcd]; exact HLN
    have HCE : Hid (cd.l = l) := by rw [← hcd]; rfl
    have HCR : Hid (cd.R = (K : Int)) := by rw [← hcd]; rfl
    rw [hcd] at HE HM HV HR5 HS5
    have HFB : Hid (fb = true → unsetN cd = []) := fun h => by
      have hv0 : V = 0 := by rw [h] at hfb; simpa using hfb
      have h2 := HV.out
      rw [hv0] at h2
      unfold validE at h2
      rw [if_neg (by rw [HM.out]; simp)] at h2
      by_cases hu : unsetN cd = []
      · exact hu
      · rw [if_pos hu] at h2; cases h2
    have HG0 : Hid (GoesL cd 0 (List.replicate K false)) := by have h := GoesL.start cd; rw [HCR.out, Int.toNat_natCast] at h; exact h
    have HCD := Lib.hid hcd
    clear hcd hfb HRC HSC HR4 HS4 HS3 HV HE
    go_wp2_with fail
    go_loopw [12, 63] (fun a b wr => ∃ (i k : Nat) (bs : List Bool), i ≤ pn ∧ b = .int .i64 i ∧ a = .int .i64 k ∧ Hid (GoesL cd k bs) ∧ Hid (WayI w w5 ⟨(K : Int), A, I, P, nr, c, l⟩ gw wr bs)) (fun _ b _ => pn - (intOf b).toNat)
    case atStart => exact ⟨0, 0, _, Nat.zero_le _, rfl, rfl, HG0, HW6⟩
    case round =>
      obtain ⟨i, k, bs, hi, rfl, rfl, HG, HW⟩ := hrel
      by_cases hip : i < pn
      case neg =>
        go_wp2_with fail
        go_ret
        exact ⟨rfl, HW.out.bel⟩
      have hkn : k < nr := by
        have h := Way.lt HM.out HG.out.2.way
        rw [HCL.out] at h
        exact h
      obtain ⟨bp, offp, v, rfl, _, _, p0⟩ := (HP.out.keep (w' := wr) fun p hp => HW.out.bel.cell hp).at_ hip
      obtain ⟨br, offr, rv, rfl, _, hrv, r0⟩ := (HR5.out.keep (w' := wr) fun p hp => HW.out.bel6.cell hp).at_ hkn
      have hrt : rv = true := (reachB_iff hrv.out).2 HG.out.2.way
      subst hrt
      obtain ⟨bq, offq, L, a9, c9, rfl, _, hL, s0, _, hLI⟩ := (HS5.out.below HW.out.bel6).at_ hkn
      have hLs : L = setN cd k := setsN_at hL.out
      obtain ⟨b, off, x, hA, hbb, HXX, ⟨y0, y1, y2, y3, y4⟩, hxo⟩ := ((HQ.out.on HW.out.bel).ins).at_ hkn
      subst hA
      have HXC : Hid (cd.l[k]? = some x) := by unfold Hid; rw [HCE.out]; exact HXX.out
      have hii : (i : Int) < (pn : Int) := by omega
      have hk1 : (k : Int) < (nr : Int) := by omega
      have hk2 : ¬ (k : Int) < 0 := by omega
      have hk3 : ¬ (nr : Int) ≤ (k : Int) := by omega
      have HXK := Lib.hid hxo
      obtain ⟨m0, m1, m2, m3, _⟩ := lvCells HW.out.bx
      obtain ⟨W7, hW7⟩ : ∃ W, wr.alloc x.obj = W := ⟨_, rfl⟩
      obtain ⟨gx, hgx⟩ : ∃ z, wr.heap.size = z := ⟨_, rfl⟩
      have hb7 : Below wr.heap.size wr W7 := by rw [← hW7]; exact lvBelow _ _
      have HW7 := Lib.hid (HW.out.on hb7)
      have HY7 : Hid (W7.heap[gx]? = some x.obj) := by rw [← hW7, ← hgx]; exact newJ wr x
      have hL7 : Ints W7 w5.heap.size a9 L.length L := hLI.keep fun p hp => hb7.cell (Nat.lt_of_lt_of_le hp HW.out.bel6.size)
      have s7 : W7.cell? ⟨bq, offq + k, none⟩ = some (.slice a9 L.length c9) := (hb7.cell (block_lt_of_cell s0)).trans s0
      have HWQ := Lib.hid hW7
      clear hrv hL hbb hxo hb7 hW7 hLI HXX
      subst hLs
      obtain ⟨sl, hsl⟩ : ∃ z, (setN cd k).length = z := ⟨_, rfl⟩
      rw [hsl] at s0 s7 hL7
      have HL7 := Lib.hid hL7
      have HSL := Lib.hid hsl
      have HSS : Hid (∀ z ∈ setN cd k, 0 ≤ z ∧ z < K ∧ bs[z.toNat]? = some true) := fun z hz => by
        have h := HG.out.was hz
        rw [HCR.out] at h
        exact h
      have hsl2 : sl ≤ 128 := by have := setN_len cd k; rw [HCR.out, Int.toNat_natCast] at this; omega
      clear hL7 hsl
      go_upto_region 17 with fail
      try rw [HWQ.out]
      try rw [hgx]
      clear hgx HWQ p0 r0 s0 y0 y1 y2 y3 y4 m0 m1 m2 m3
      obtain ⟨wo, rfl⟩ : ∃ wo : World, wo = W7 := ⟨_, rfl⟩
      go_wp2_with fail
      go_loopw [105] (fun a wr => ∃ j : Nat, j ≤ sl ∧ a = .int .i64 j ∧ wr = wo) (fun a _ => sl - (intOf a).toNat)
      case atStart => exact ⟨0, Nat.zero_le _, rfl, rfl⟩
      case round =>
        obtain ⟨j, hj, rfl, rfl⟩ := hrel
        by_cases hjs : j < sl
        · obtain ⟨b8, off8, z, e8, _, hz, z0⟩ := HL7.out.at_ hjs
          subst e8
          obtain ⟨h0, h1, h2⟩ := HSS.out z (List.mem_of_getElem? hz)
          obtain ⟨z, rfl⟩ : ∃ m : Nat, z = (m : Int) := ⟨z.toNat, by omega⟩
          rw [Int.toNat_natCast] at h2
          obtain ⟨u0, _⟩ := HW7.out.wb.at_ h2
          have hz1 : ¬ (z : Int) < 0 := by omega
          have hz2 : ¬ (K : Int) ≤ (z : Int) := by omega
          have hz3 : (z : Int) < (K : Int) := h1
          have hjj : (j : Int) < (sl : Int) := by omega
          clear hz h0 h1 h2
          go_wp2_with fail
          go_roundw
          case rel => exact ⟨j + 1, by omega, by go_num, by first | trivial | rfl⟩
          case measure => simp [intOf]; omega
        obtain ⟨⟨y0, y1, y2, y3, y4⟩, _⟩ := box_cellsJ HY7.out
        have hRd := codeReads_any x wr HXK.out (by first | exact HSh.out.on HB.out | exact HSh.out.on HB0.out | exact HSh.out.on HB1.out | exact HSh.out.on HB2.out | exact HSh.out.on HB3.out | exact HSh.out.on HB4.out | exact HSh.out.on HB5.out | exact HSh.out.on HB6.out | exact HSh.out.on HB7.out | exact HSh.out.on HB8.out | exact HSh.out.on HB9.out | exact HSh.out.on HB10.out | exact HSh.out.on HB11.out | exact HSh.out.on HB12.out | exact HSh.out.on HB13.out | exact HSh.out.on HB14.out | exact HSh.out.on HB15.out | exact HSh.out.on HB16.out | exact HSh.out.on HBk.out | exact HSh.out.on HBK.out | exact HSh.out.on HBG.out | exact HSh.out.on HD0.out | exact HSh.out.on HT6.out.bel | exact HSh.out.on HT7.out.bel | exact HSh.out.on HT8.out.bel | exact HSh.out.on HT9.out.bel | exact HSh.out.on HT10.out.bel | exact HSh.out.on HT11.out.bel | exact HSh.out.on HT12.out.bel | exact HSh.out.on HT13.out.bel | exact HSh.out.on HT9b.out.bel | exact HSh.out.on HT.out.bel | exact HSh.out.on HW.out.bel | exact HSh.out.on HI.out.bel | exact HSh.out.on HW6.out.bel | exact HSh.out.on HW7.out.bel | exact HSh.out.on HW8.out.bel | exact HSh.out.on HW9.out.bel | exact HSh.out.on HW10.out.bel | exact HSh.out.on HW11.out.bel | exact HSh.out.on HW12.out.bel | exact HSh.out.on HI6.out.bel | exact HSh.out.on HI7.out.bel | exact HSh.out.on HI8.out.bel | exact HSh.out.on HI9.out.bel | exact HSh.out.on HI10.out.bel | exact HSh.out.on HI11.out.bel | exact HSh.out.on HI12.out.bel | exact HSh.out.on (HB.out.trans (hb.mono HB.out.size)) | exact HSh.out.on (HB0.out.trans (hb.mono HB0.out.size)) | exact HSh.out.on (HB1.out.trans (hb.mono HB1.out.size)) | exact HSh.out.on (HB2.out.trans (hb.mono HB2.out.size)) | exact HSh.out.on (HB3.out.trans (hb.mono HB3.out.size)) | exact HSh.out.on (HB4.out.trans (hb.mono HB4.out.size)) | exact HSh.out.on (HB5.out.trans (hb.mono HB5.out.size)) | exact HSh.out.on (HB6.out.trans (hb.mono HB6.out.size)) | exact HSh.out.on (HB7.out.trans (hb.mono HB7.out.size)) | exact HSh.out.on (HB8.out.trans (hb.mono HB8.out.size)) | exact HSh.out.on (HB9.out.trans (hb.mono HB9.out.size)) | exact HSh.out.on (HB10.out.trans (hb.mono HB10.out.size)) | exact HSh.out.on (HB11.out.trans (hb.mono HB11.out.size)) | exact HSh.out.on (HB12.out.trans (hb.mono HB12.out.size)) | exact HSh.out.on (HB13.out.trans (hb.mono HB13.out.size)) | exact HSh.out.on (HB14.out.trans (hb.mono HB14.out.size)) | exact HSh.out.on (HB15.out.trans (hb.mono HB15.out.size)) | exact HSh.out.on (HB16.out.trans (hb.mono HB16.out.size)) | exact HSh.out.on (HBk.out.trans (hb.mono HBk.out.size)) | exact HSh.out.on (HBK.out.trans (hb.mono HBK.out.size)) | exact HSh.out.on (HBG.out.trans (hb.mono HBG.out.size)) | exact HSh.out.on (HD0.out.trans (hb.mono HD0.out.size)) | exact HSh.out.on (HT6.out.bel.trans (hb.mono HT6.out.bel.size)) | exact HSh.out.on (HT7.out.bel.trans (hb.mono HT7.out.bel.size)) | exact HSh.out.on (HT8.out.bel.trans (hb.mono HT8.out.bel.size)) | exact HSh.out.on (HT9.out.bel.trans (hb.mono HT9.out.bel.size)) | exact HSh.out.on (HT10.out.bel.trans (hb.mono HT10.out.bel.size)) | exact HSh.out.on (HT11.out.bel.trans (hb.mono HT11.out.bel.size)) | exact HSh.out.on (HT12.out.bel.trans (hb.mono HT12.out.bel.size)) | exact HSh.out.on (HT13.out.bel.trans (hb.mono HT13.out.bel.size)) | exact HSh.out.on (HT9b.out.bel.trans (hb.mono HT9b.out.bel.size)) | exact HSh.out.on (HT.out.bel.trans (hb.mono HT.out.bel.size)) | exact HSh.out.on (HW.out.bel.trans (hb.mono HW.out.bel.size)) | exact HSh.out.on (HI.out.bel.trans (hb.mono HI.out.bel.size)) | exact HSh.out.on (HW6.out.bel.trans (hb.mono HW6.out.bel.size)) | exact HSh.out.on (HW7.out.bel.trans (hb.mono HW7.out.bel.size)) | exact HSh.out.on (HW8.out.bel.trans (hb.mono HW8.out.bel.size)) | exact HSh.out.on (HW9.out.bel.trans (hb.mono HW9.out.bel.size)) | exact HSh.out.on (HW10.out.bel.trans (hb.mono HW10.out.bel.size)) | exact HSh.out.on (HW11.out.bel.trans (hb.mono HW11.out.bel.size)) | exact HSh.out.on (HW12.out.bel.trans (hb.mono HW12.out.bel.size)) | exact HSh.out.on (HI6.out.bel.trans (hb.mono HI6.out.bel.size)) | exact HSh.out.on (HI7.out.bel.trans (hb.mono HI7.out.bel.size)) | exact HSh.out.on (HI8.out.bel.trans (hb.mono HI8.out.bel.size)) | exact HSh.out.on (HI9.out.bel.trans (hb.mono HI9.out.bel.size)) | exact HSh.out.on (HI10.out.bel.trans (hb.mono HI10.out.bel.size)) | exact HSh.out.on (HI11.out.bel.trans (hb.mono HI11.out.bel.size)) | exact HSh.out.on (HI12.out.bel.trans (hb.mono HI12.out.bel.size)))
        unfold ReadsP at hRd
        have hrd3 := readsJ_length x
        obtain ⟨rd, hrd⟩ : ∃ z, readsJ x = z := ⟨_, rfl⟩
        have HRS : Hid (fb = true → ∀ z ∈ rd, 0 ≤ z ∧ z < K ∧ bs[z.toNat]? = some true) := fun h z hz => by
          rw [← hrd] at hz
          have h2 := HG.out.reads HM.out (HFB.out h) HXC.out hz
          rw [HCR.out] at h2
          exact h2
        rw [hrd] at hRd hrd3
        have HRF : Hid (∀ z ∈ rd, -9223372036854775808 ≤ z ∧ z ≤ 9223372036854775807) := by
          intro z hz
          rw [← hrd] at hz
          have h := reads_in ((Cd.may_parts HM.out).2.1 x (List.mem_of_getElem? HXC.out)) z hz
          rw [HCR.out] at h
          omega
        obtain ⟨rl, hrl⟩ : ∃ z, rd.length = z := ⟨_, rfl⟩
        rw [hrl] at hRd hrd3
        have HRL := Lib.hid hrl
        clear hrd hrl
        go_wp2_with fail
        (with_reducible refine hRd.mono ?_)
        rintro e w8 ⟨A8, c8, rfl, hO8, hb⟩
        have HW8 := Lib.hid (HW7.out.on hb)
        have HY8 := Lib.hid (keep_b hb HY7.out)
        have HO8 := Lib.hid hO8
        clear hb hO8 hRd y0 y1 y2 y3 y4
        obtain ⟨wp_, rfl⟩ : ∃ wp_ : World, wp_ = w8 := ⟨_, rfl⟩
        go_wp2_with fail
        go_loopw [128] (fun a wr => ∃ j : Nat, j ≤ rl ∧ a = .int .i64 j ∧ wr = wp_) (fun a _ => rl - (intOf a).toNat)
        case atStart => exact ⟨0, Nat.zero_le _, rfl, rfl⟩
        case round =>
          obtain ⟨j, hj, rfl, rfl⟩ := hrel
          by_cases hjs : j < rl
          · obtain ⟨z, hz⟩ : ∃ z, rd[j]? = some z := ⟨_, List.getElem?_eq_getElem (by rw [HRL.out]; exact hjs)⟩
            obtain ⟨g8, rfl, z0⟩ := own_at15 HO8.out hz
            have hzm := List.mem_of_getElem? hz
            have hjj : (j : Int) < (rl : Int) := by omega
            cases fb with
            | false =>
              clear hz hzm
              go_wp2_with fail
              go_roundw
              case rel => exact ⟨j + 1, by omega, by go_num, by first | trivial | rfl⟩
              case measure => simp [intOf]; omega
            | true =>
              obtain ⟨h0, h1, h2⟩ := HRS.out rfl z hzm
              obtain ⟨z, rfl⟩ : ∃ m : Nat, z = (m : Int) := ⟨z.toNat, by omega⟩
              rw [Int.toNat_natCast] at h2
              obtain ⟨u0, _⟩ := HW8.out.wb.at_ h2
              have hz1 : ¬ (z : Int) < 0 := by omega
              have hz2 : ¬ (K : Int) ≤ (z : Int) := by omega
              have hz3 : (z : Int) < (K : Int) := h1
              clear hz hzm h0 h1 h2
              go_wp2_with fail
              go_roundw
              case rel => exact ⟨j + 1, by omega, by go_num, by first | trivial | rfl⟩
              case measure => simp [intOf]; omega
          obtain rfl : j = rl := by omega
          clear hjs hj
          obtain ⟨⟨y0, y1, y2, y3, y4⟩, _⟩ := box_cellsJ HY8.out
          go_wp2_with fail
          refine (codeWrites_any x wr HXK.out (by first | exact HSh.out.on HB.out | exact HSh.out.on HB0.out | exact HSh.out.on HB1.out | exact HSh.out.on HB2.out | exact HSh.out.on HB3.out | exact HSh.out.on HB4.out | exact HSh.out.on HB5.out | exact HSh.out.on HB6.out | exact HSh.out.on HB7.out | exact HSh.out.on HB8.out | exact HSh.out.on HB9.out | exact HSh.out.on HB10.out | exact HSh.out.on HB11.out | exact HSh.out.on HB12.out | exact HSh.out.on HB13.out | exact HSh.out.on HB14.out | exact HSh.out.on HB15.out | exact HSh.out.on HB16.out | exact HSh.out.on HBk.out | exact HSh.out.on HBK.out | exact HSh.out.on HBG.out | exact HSh.out.on HD0.out | exact HSh.out.on HT6.out.bel | exact HSh.out.on HT7.out.bel | exact HSh.out.on HT8.out.bel | exact HSh.out.on HT9.out.bel | exact HSh.out.on HT10.out.bel | exact HSh.out.on HT11.out.bel | exact HSh.out.on HT12.out.bel | exact HSh.out.on HT13.out.bel | exact HSh.out.on HT9b.out.bel | exact HSh.out.on HT.out.bel | exact HSh.out.on HW.out.bel | exact HSh.out.on HI.out.bel | exact HSh.out.on HW6.out.bel | exact HSh.out.on HW7.out.bel | exact HSh.out.on HW8.out.bel | exact HSh.out.on HW9.out.bel | exact HSh.out.on HW10.out.bel | exact HSh.out.on HW11.out.bel | exact HSh.out.on HW12.out.bel | exact HSh.out.on HI6.out.bel | exact HSh.out.on HI7.out.bel | exact HSh.out.on HI8.out.bel | exact HSh.out.on HI9.out.bel | exact HSh.out.on HI10.out.bel | exact HSh.out.on HI11.out.bel | exact HSh.out.on HI12.out.bel | exact HSh.out.on (HB.out.trans (hb.mono HB.out.size)) | exact HSh.out.on (HB0.out.trans (hb.mono HB0.out.size)) | exact HSh.out.on (HB1.out.trans (hb.mono HB1.out.size)) | exact HSh.out.on (HB2.out.trans (hb.mono HB2.out.size)) | exact HSh.out.on (HB3.out.trans (hb.mono HB3.out.size)) | exact HSh.out.on (HB4.out.trans (hb.mono HB4.out.size)) | exact HSh.out.on (HB5.out.trans (hb.mono HB5.out.size)) | exact HSh.out.on (HB6.out.trans (hb.mono HB6.out.size)) | exact HSh.out.on (HB7.out.trans (hb.mono HB7.out.size)) | exact HSh.out.on (HB8.out.trans (hb.mono HB8.out.size)) | exact HSh.out.on (HB9.out.trans (hb.mono HB9.out.size)) | exact HSh.out.on (HB10.out.trans (hb.mono HB10.out.size)) | exact HSh.out.on (HB11.out.trans (hb.mono HB11.out.size)) | exact HSh.out.on (HB12.out.trans (hb.mono HB12.out.size)) | exact HSh.out.on (HB13.out.trans (hb.mono HB13.out.size)) | exact HSh.out.on (HB14.out.trans (hb.mono HB14.out.size)) | exact HSh.out.on (HB15.out.trans (hb.mono HB15.out.size)) | exact HSh.out.on (HB16.out.trans (hb.mono HB16.out.size)) | exact HSh.out.on (HBk.out.trans (hb.mono HBk.out.size)) | exact HSh.out.on (HBK.out.trans (hb.mono HBK.out.size)) | exact HSh.out.on (HBG.out.trans (hb.mono HBG.out.size)) | exact HSh.out.on (HD0.out.trans (hb.mono HD0.out.size)) | exact HSh.out.on (HT6.out.bel.trans (hb.mono HT6.out.bel.size)) | exact HSh.out.on (HT7.out.bel.trans (hb.mono HT7.out.bel.size)) | exact HSh.out.on (HT8.out.bel.trans (hb.mono HT8.out.bel.size)) | exact HSh.out.on (HT9.out.bel.trans (hb.mono HT9.out.bel.size)) | exact HSh.out.on (HT10.out.bel.trans (hb.mono HT10.out.bel.size)) | exact HSh.out.on (HT11.out.bel.trans (hb.mono HT11.out.bel.size)) | exact HSh.out.on (HT12.out.bel.trans (hb.mono HT12.out.bel.size)) | exact HSh.out.on (HT13.out.bel.trans (hb.mono HT13.out.bel.size)) | exact HSh.out.on (HT9b.out.bel.trans (hb.mono HT9b.out.bel.size)) | exact HSh.out.on (HT.out.bel.trans (hb.mono HT.out.bel.size)) | exact HSh.out.on (HW.out.bel.trans (hb.mono HW.out.bel.size)) | exact HSh.out.on (HI.out.bel.trans (hb.mono HI.out.bel.size)) | exact HSh.out.on (HW6.out.bel.trans (hb.mono HW6.out.bel.size)) | exact HSh.out.on (HW7.out.bel.trans (hb.mono HW7.out.bel.size)) | exact HSh.out.on (HW8.out.bel.trans (hb.mono HW8.out.bel.size)) | exact HSh.out.on (HW9.out.bel.trans (hb.mono HW9.out.bel.size)) | exact HSh.out.on (HW10.out.bel.trans (hb.mono HW10.out.bel.size)) | exact HSh.out.on (HW11.out.bel.trans (hb.mono HW11.out.bel.size)) | exact HSh.out.on (HW12.out.bel.trans (hb.mono HW12.out.bel.size)) | exact HSh.out.on (HI6.out.bel.trans (hb.mono HI6.out.bel.size)) | exact HSh.out.on (HI7.out.bel.trans (hb.mono HI7.out.bel.size)) | exact HSh.out.on (HI8.out.bel.trans (hb.mono HI8.out.bel.size)) | exact HSh.out.on (HI9.out.bel.trans (hb.mono HI9.out.bel.size)) | exact HSh.out.on (HI10.out.bel.trans (hb.mono HI10.out.bel.size)) | exact HSh.out.on (HI11.out.bel.trans (hb.mono HI11.out.bel.size)) | exact HSh.out.on (HI12.out.bel.trans (hb.mono HI12.out.bel.size)))).mono ?_
          rintro e w9 ⟨rfl, hb⟩
          have HW9 := Lib.hid (HW8.out.on hb)
          have HY9 := Lib.hid (keep_b hb HY8.out)
          clear hb y0 y1 y2 y3 y4
          go_upto_if 156 with fail
          go_cut [12, 21, 151, 153, 155, 156] (fun a a21 a151 a153 a155 a156 wx => a = .int .i64 (k : Int) ∧ a21 = .bool (setsJ x) ∧ a151 = .tuple #[.int .i64 (writesJ x), .bool (setsJ x)] ∧ a153 = .tuple #[.int .i64 (writesJ x), .bool (setsJ x)] ∧ a155 = .bool (setsJ x) ∧ a156 = .bool (setsJ x) ∧ Hid (WayI w w5 ⟨(K : Int), A, I, some ⟨b, off, none⟩, nr, c, l⟩ gw wx (putX x bs)) ∧ Hid (wx.heap[gx]? = some x.obj))
          case first =>
            cases hst : setsJ x with
            | false =>
              have HPX : Hid (putX x bs = bs) := by unfold Hid putX; rw [if_neg (by rw [hst]; simp)]
              go_wp2_with fail
              go_meet
              case rel => exact ⟨rfl, by rw [hst], by rw [hst], by rw [hst], by rw [hst], by rw [hst], by rw [HPX.out]; exact HW9, HY9⟩
            | true =>
              have HPX : Hid (putX x bs = bs.set (writesJ x).toNat true) := by unfold Hid putX; rw [if_pos hst]
              have hwr := sets_in ((Cd.may_parts HM.out).2.1 x (List.mem_of_getElem? HXC.out)) hst
              rw [HCR.out] at hwr
              have hz1 : ¬ (writesJ x : Int) < 0 := by omega
              have hz2 : ¬ (K : Int) ≤ writesJ x := by omega
              have hz3 : writesJ x < (K : Int) := hwr.2
              have hz4 : 0 ≤ writesJ x := hwr.1
              obtain ⟨z, hz⟩ : ∃ m : Nat, (writesJ x).toNat = m := ⟨_, rfl⟩
              obtain ⟨vz, hvz⟩ : ∃ v, bs[z]? = some v := ⟨_, List.getElem?_eq_getElem (by rw [HG.out.1, HCR.out, Int.toNat_natCast]; omega)⟩
              obtain ⟨u0, uf0⟩ := HW9.out.wb.at_ hvz
              rw [hz] at HPX
              have HW10 := Lib.hid (HW9.out.set z)
              have HY10 : Hid ((w9.setCell ⟨gw, z, none⟩ (.bool true)).heap[gx]? = some x.obj) := by
                have hne : gx ≠ gw := fun e => by
                  have h1 := HY9.out
                  have h2 : w9.heap[gw]? = _ := HW9.out.wb
                  rw [e, h2] at h1
                  injection h1 with h1; injection h1 with _ h1
                  exact absurd h1 (by decide)
                exact (Below.heap_setCell _ ⟨gw, z, none⟩ _ _ hne).trans HY9.out
              clear hvz hwr
              go_wp2_with fail
              go_meet
              case rel => exact ⟨rfl, by rw [hst], by rw [hst], by rw [hst], by rw [hst], by rw [hst], by rw [HPX.out]; exact HW10, HY10⟩
          obtain ⟨rfl, rfl, rfl, rfl, rfl, rfl, HW9, HY9⟩ := hcut
          obtain ⟨⟨y0, y1, y2, y3, y4⟩, _⟩ := box_cellsJ HY9.out
          have hNx := codeNext_any x (k : Int) wc HXK.out (by omega) (by first | exact HSh.out.on HB.out | exact HSh.out.on HB0.out | exact HSh.out.on HB1.out | exact HSh.out.on HB2.out | exact HSh.out.on HB3.out | exact HSh.out.on HB4.out | exact HSh.out.on HB5.out | exact HSh.out.on HB6.out | exact HSh.out.on HB7.out | exact HSh.out.on HB8.out | exact HSh.out.on HB9.out | exact HSh.out.on HB10.out | exact HSh.out.on HB11.out | exact HSh.out.on HB12.out | exact HSh.out.on HB13.out | exact HSh.out.on HB14.out | exact HSh.out.on HB15.out | exact HSh.out.on HB16.out | exact HSh.out.on HBk.out | exact HSh.out.on HBK.out | exact HSh.out.on HBG.out | exact HSh.out.on HD0.out | exact HSh.out.on HT6.out.bel | exact HSh.out.on HT7.out.bel | exact HSh.out.on HT8.out.bel | exact HSh.out.on HT9.out.bel | exact HSh.out.on HT10.out.bel | exact HSh.out.on HT11.out.bel | exact HSh.out.on HT12.out.bel | exact HSh.out.on HT13.out.bel | exact HSh.out.on HT9b.out.bel | exact HSh.out.on HT.out.bel | exact HSh.out.on HW.out.bel | exact HSh.out.on HI.out.bel | exact HSh.out.on HW6.out.bel | exact HSh.out.on HW7.out.bel | exact HSh.out.on HW8.out.bel | exact HSh.out.on HW9.out.bel | exact HSh.out.on HW10.out.bel | exact HSh.out.on HW11.out.bel | exact HSh.out.on HW12.out.bel | exact HSh.out.on HI6.out.bel | exact HSh.out.on HI7.out.bel | exact HSh.out.on HI8.out.bel | exact HSh.out.on HI9.out.bel | exact HSh.out.on HI10.out.bel | exact HSh.out.on HI11.out.bel | exact HSh.out.on HI12.out.bel | exact HSh.out.on (HB.out.trans (hb.mono HB.out.size)) | exact HSh.out.on (HB0.out.trans (hb.mono HB0.out.size)) | exact HSh.out.on (HB1.out.trans (hb.mono HB1.out.size)) | exact HSh.out.on (HB2.out.trans (hb.mono HB2.out.size)) | exact HSh.out.on (HB3.out.trans (hb.mono HB3.out.size)) | exact HSh.out.on (HB4.out.trans (hb.mono HB4.out.size)) | exact HSh.out.on (HB5.out.trans (hb.mono HB5.out.size)) | exact HSh.out.on (HB6.out.trans (hb.mono HB6.out.size)) | exact HSh.out.on (HB7.out.trans (hb.mono HB7.out.size)) | exact HSh.out.on (HB8.out.trans (hb.mono HB8.out.size)) | exact HSh.out.on (HB9.out.trans (hb.mono HB9.out.size)) | exact HSh.out.on (HB10.out.trans (hb.mono HB10.out.size)) | exact HSh.out.on (HB11.out.trans (hb.mono HB11.out.size)) | exact HSh.out.on (HB12.out.trans (hb.mono HB12.out.size)) | exact HSh.out.on (HB13.out.trans (hb.mono HB13.out.size)) | exact HSh.out.on (HB14.out.trans (hb.mono HB14.out.size)) | exact HSh.out.on (HB15.out.trans (hb.mono HB15.out.size)) | exact HSh.out.on (HB16.out.trans (hb.mono HB16.out.size)) | exact HSh.out.on (HBk.out.trans (hb.mono HBk.out.size)) | exact HSh.out.on (HBK.out.trans (hb.mono HBK.out.size)) | exact HSh.out.on (HBG.out.trans (hb.mono HBG.out.size)) | exact HSh.out.on (HD0.out.trans (hb.mono HD0.out.size)) | exact HSh.out.on (HT6.out.bel.trans (hb.mono HT6.out.bel.size)) | exact HSh.out.on (HT7.out.bel.trans (hb.mono HT7.out.bel.size)) | exact HSh.out.on (HT8.out.bel.trans (hb.mono HT8.out.bel.size)) | exact HSh.out.on (HT9.out.bel.trans (hb.mono HT9.out.bel.size)) | exact HSh.out.on (HT10.out.bel.trans (hb.mono HT10.out.bel.size)) | exact HSh.out.on (HT11.out.bel.trans (hb.mono HT11.out.bel.size)) | exact HSh.out.on (HT12.out.bel.trans (hb.mono HT12.out.bel.size)) | exact HSh.out.on (HT13.out.bel.trans (hb.mono HT13.out.bel.size)) | exact HSh.out.on (HT9b.out.bel.trans (hb.mono HT9b.out.bel.size)) | exact HSh.out.on (HT.out.bel.trans (hb.mono HT.out.bel.size)) | exact HSh.out.on (HW.out.bel.trans (hb.mono HW.out.bel.size)) | exact HSh.out.on (HI.out.bel.trans (hb.mono HI.out.bel.size)) | exact HSh.out.on (HW6.out.bel.trans (hb.mono HW6.out.bel.size)) | exact HSh.out.on (HW7.out.bel.trans (hb.mono HW7.out.bel.size)) | exact HSh.out.on (HW8.out.bel.trans (hb.mono HW8.out.bel.size)) | exact HSh.out.on (HW9.out.bel.trans (hb.mono HW9.out.bel.size)) | exact HSh.out.on (HW10.out.bel.trans (hb.mono HW10.out.bel.size)) | exact HSh.out.on (HW11.out.bel.trans (hb.mono HW11.out.bel.size)) | exact HSh.out.on (HW12.out.bel.trans (hb.mono HW12.out.bel.size)) | exact HSh.out.on (HI6.out.bel.trans (hb.mono HI6.out.bel.size)) | exact HSh.out.on (HI7.out.bel.trans (hb.mono HI7.out.bel.size)) | exact HSh.out.on (HI8.out.bel.trans (hb.mono HI8.out.bel.size)) | exact HSh.out.on (HI9.out.bel.trans (hb.mono HI9.out.bel.size)) | exact HSh.out.on (HI10.out.bel.trans (hb.mono HI10.out.bel.size)) | exact HSh.out.on (HI11.out.bel.trans (hb.mono HI11.out.bel.size)) | exact HSh.out.on (HI12.out.bel.trans (hb.mono HI12.out.bel.size)))
          unfold NextP at hNx
          have hMX : ∀ z ∈ nextJ x k, 0 ≤ z ∧ z < nr := by
            intro z hz
            have h2 := Cd.next_in HM.out HXC.out z hz
            rw [HCL.out] at h2
            exact h2
          obtain ⟨bs2, hbs2⟩ : ∃ b, putX x bs = b := ⟨_, rfl⟩
          rw [hbs2] at HW9
          have HON : Hid (∀ z : Nat, (z : Int) ∈ nextJ x k → GoesL cd z bs2) := fun z hz => by
            rw [← hbs2]
            exact HG.out.step HM.out HXC.out hz
          have hnx2 : (nextJ x k).length ≤ 2 := next_two15 x k
          obtain ⟨nx, hnx⟩ : ∃ z, nextJ x (k : Int) = z := ⟨_, rfl⟩
          rw [hnx] at hNx HON hMX hnx2
          have HMX := Lib.hid hMX
          clear hnx hMX hbs2
          go_wp2_with fail
          (with_reducible refine hNx.mono ?_)
          rintro e w11 ⟨A11, c11, rfl, hO11, hb⟩
          have HW11 := Lib.hid (HW9.out.on hb)
          have HO11 := Lib.hid hO11
          clear hb hO11 hNx y0 y1 y2 y3 y4
          match nx, hnx2 with
          | [], _ =>
            go_wp2_with fail
            go_ret
            exact ⟨rfl, HW11.out.bel⟩
          | [u], _ =>
            have hub := HMX.out u (by simp)
            obtain ⟨z, rfl⟩ : ∃ z : Nat, u = (z : Int) := ⟨u.toNat, by omega⟩
            have HG2 : Hid (GoesL cd z bs2) := HON.out z (by simp)
            obtain ⟨g5, rfl, u0⟩ := own_at15 HO11.out (k := 0) rfl
            have hl : ([(z : Int)] : List Int).length = 1 := rfl
            cases v
            all_goals (
              go_wp2_with fail
              go_roundw
              case rel => exact ⟨i + 1, z, bs2, by omega, by go_num, rfl, HG2, HW11⟩
              case measure => simp [intOf]; omega)
          | [u, u2], _ =>
            have hub := HMX.out u (by simp)
            have hub2 := HMX.out u2 (by simp)
            obtain ⟨z, rfl⟩ : ∃ z : Nat, u = (z : Int) := ⟨u.toNat, by omega⟩
            obtain ⟨z2, rfl⟩ : ∃ z : Nat, u2 = (z : Int) := ⟨u2.toNat, by omega⟩
            have HG2 : Hid (GoesL cd z bs2) := HON.out z (by simp)
            have HG3 : Hid (GoesL cd z2 bs2) := HON.out z2 (by simp)
            obtain ⟨g5, rfl, u0⟩ := own_at15 HO11.out (k := 0) rfl
            obtain ⟨g6, e6, u1⟩ := own_at15 HO11.out (k := 1) rfl
            injection e6 with e6; injection e6 with e6
            subst e6
            have hl : ([(z : Int), (z2 : Int)] : List Int).length = 2 := rfl
            cases v with
            | false =>
              go_wp2_with fail
              go_roundw
              case rel => exact ⟨i + 1, z, bs2, by omega, by go_num, rfl, HG2, HW11⟩
              case measure => simp [intOf]; omega
            | true =>
              go_wp2_with fail
              go_roundw
              case rel => exact ⟨i + 1, z2, bs2, by omega, by go_num, rfl, HG3, HW11⟩
              case measure => simp [intOf]; omega
end Go.Proofs.YtmnadieblhdcpaaDoor
