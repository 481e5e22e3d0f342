/- purflelaw16.RunPath returns true. -/
import Derived.Test.YtgkngimeokhhgaaDoorPUPathC
import Derived.Test.YtgkngimeokhhgaaDoorG25
import Derived.Test.YtgkngimeokhhgaaDoorG20
import Derived.Test.YtgkngimeokhhgaaDoorG17
namespace Go.Proofs.YtgkngimeokhhgaaDoor
open Go.RowKit Go.Sort

/-- how many of these push -/
def cnt9 (l : List Ji) (p : List Nat) : Nat := (p.filter fun a => decide ((l.getD a zJi).op = 9)).length
theorem cnt9_snoc {l : List Ji} {p : List Nat} {k a : Nat} (h : p[k]? = some a) : cnt9 l (p.take (k + 1)) = cnt9 l (p.take k) + (if (l.getD a zJi).op = 9 then 1 else 0) := by
  unfold cnt9
  rw [take_succU h, List.filter_append, List.length_append]
  congr 1
  by_cases e : (l.getD a zJi).op = 9
  · rw [if_pos e]
    have hd : decide ((l.getD a zJi).op = 9) = true := decide_eq_true e
    simp only [List.filter, hd]; rfl
  · rw [if_neg e]
    have hd : decide ((l.getD a zJi).op = 9) = false := decide_eq_false e
    simp only [List.filter, hd]; rfl
theorem nextJ_len (x : Ji) (i : Int) : (nextJ x i).length ≤ 2 := by
  unfold nextJ
  repeat' split
  all_goals simp
/-- what a path is -/
structure PathF (c : Cd) (z : Ms) (p : List Nat) : Prop where
  first : p[0]? = some 0
  way : ∀ (k a : Nat), p[k]? = some a → Way c.l (-1) a
  next : ∀ (k a b : Nat), p[k]? = some a → p[k + 1]? = some b → (b : Int) ∈ nextJ (c.l.getD a zJi) a
  last : ∀ a, p[p.length - 1]? = some a → (c.l.getD a zJi).op = 0
  ce : z.ce = cnt9 c.l p
theorem runM_path {c : Cd} {fuel cells : Int} {ins : List (List Int)} {z : Ms} {p : List Nat} (h : runM c fuel cells ins = .ok (z, p)) : PathF c z p := by
  obtain ⟨hv, _, _, _, hg⟩ := runM_parts h
  obtain ⟨⟨r, h1⟩, h2, h3, h4, h5⟩ := goM_path (may_of_validE hv) Way.start hg
  refine ⟨by rw [h1]; rfl, fun k a ha => h3 a (List.mem_of_getElem? ha), fun k a b ha hb => h2 k a b ha hb, fun a ha => h4 a (by rw [List.getLast?_eq_getElem?]; exact ha), ?_⟩
  rw [h5]
  show 0 + _ = _
  rw [Nat.zero_add]; rfl
set_option maxRecDepth 100000 in
set_option maxHeartbeats 8000000 in
theorem runPath_any (w : World) (q : Cq) (hq : q.In w) (A : Option Addr) (n c : Nat) (LL : List (List Int)) (h : IntsLL w w.heap.size A n LL) (hn : n ≤ 5864062014805) (_hc : n ≤ c) (hL : ∀ L ∈ LL, L.length ≤ 17592186044416) (hS : ShT w) :
    Calls Tryd.prog 5 #[q.val, .slice A n c] w fun r w' => r = .returned (.bool true) ∧ Below w.heap.size w w' := by
  have HQ := Lib.hid hq
  have HI := Lib.hid h
  have HLL := Lib.hid hL
  have HSH := Lib.hid hS
  have hn1 : q.n ≤ 9223372036854775807 := hq.n1
  have HQL : Hid (q.l.length = q.n) := hq.len
  obtain ⟨R, A0, I, P, n0, c0, l⟩ := q
  obtain ⟨W0, hW0⟩ : ∃ W, w.alloc (Cq.obj ⟨R, A0, I, P, n0, c0, l⟩) = W := ⟨_, rfl⟩
  obtain ⟨g0, hg0⟩ : ∃ z, w.heap.size = z := ⟨_, rfl⟩
  have hb1 : Below w.heap.size w W0 := by rw [← hW0]; exact lvBelow w _
  have h1 : W0.heap[g0]? = some (Cq.obj ⟨R, A0, I, P, n0, c0, l⟩) := by rw [← hW0, ← hg0]; exact heap_alloc_new w _
  have HB0 := Lib.hid hb1
  have HX0 := Lib.hid h1
  have hC := live16_any W0 (HSH.out.on HB0.out)
  clear hb1 h1 h hq hL hS
  go_enter Tryd.func5, Tryd.ntmps5
  go_wp2_with fail
  try rw [hW0]
  try rw [hg0]
  (with_reducible refine hC.mono ?_)
  rintro e w1 ⟨rfl, hb1⟩
  have HB1 := Lib.hid (HB0.out.trans (hb1.mono HB0.out.size))
  have HX1 := Lib.hid (keep_b hb1 HX0.out)
  clear hb1 hC hW0 hg0
  obtain ⟨k0, k1, k2, k3, _⟩ := lvCells HX1.out
  have hC := few16_any ⟨R, A0, I, P, n0, c0, l⟩ A n c LL w1 (HQ.out.on HB1.out) ((HI.out.below HB1.out).more HB1.out.size) hn HLL.out
  obtain ⟨fw, hfw⟩ : ∃ b, few16 ⟨R, A0, I, P, n0, c0, l⟩ n LL = b := ⟨_, rfl⟩
  rw [hfw] at hC
  have HFW := Lib.hid hfw
  clear hfw
  go_wp2_with fail
  (with_reducible refine hC.mono ?_)
  rintro e w2 ⟨rfl, hb2⟩
  have HB2 := Lib.hid (HB1.out.trans (hb2.mono HB1.out.size))
  have HX2 := Lib.hid (keep_b hb2 HX1.out)
  clear hb2 hC k0 k1 k2 k3
  cases fw with
  | false =>
    go_wp2_with fail
    go_ret
    exact ⟨rfl, HB2.out⟩
  | true =>
    obtain ⟨k0, k1, k2, k3, _⟩ := lvCells HX2.out
    have hC := path16_any ⟨R, A0, I, P, n0, c0, l⟩ 1000 1000 A n c LL 2000 w2 (RunIn.small HQ.out HI.out HFW.out HB2.out (by omega)) (by omega) (HSH.out.on HB2.out)
    obtain ⟨rr, hrr⟩ : ∃ r, runM (Cq.cd ⟨R, A0, I, P, n0, c0, l⟩) 1000 1000 LL = r := ⟨_, rfl⟩
    rw [hrr] at hC
    have HRR := Lib.hid hrr
    clear hrr
    cases rr with
    | error v =>
      have hv0 : (v != 0) = true := by simpa using runM_err HRR.out
      have hC : Calls Tryd.prog 14 #[Cq.val ⟨R, A0, I, P, n0, c0, l⟩, .int .i64 1000, .int .i64 1000, .slice A n c] w2 fun e w' => ∃ Ap np cp, e = .returned (.tuple #[.slice Ap np cp, .int .i64 v]) ∧ 0 = np ∧ OwnI w' w2.heap.size 3 Ap cp [] ∧ Below w2.heap.size w2 w' := hC
      go_wp2_with fail
      (with_reducible refine hC.mono ?_)
      rintro e w3 ⟨Ap, np, cp, rfl, hnp, _, hb3⟩
      subst hnp
      have HB3 := Lib.hid (HB2.out.trans (hb3.mono HB2.out.size))
      have HX3 := Lib.hid (keep_b hb3 HX2.out)
      clear hb3 hC k0 k1 k2 k3
      obtain ⟨k0, k1, k2, k3, _⟩ := lvCells HX3.out
      have hC := run16_any ⟨R, A0, I, P, n0, c0, l⟩ 1000 1000 A n c LL 2000 w3 (RunIn.small HQ.out HI.out HFW.out HB3.out (by omega)) (HSH.out.on HB3.out)
      unfold RunO at hC
      rw [HRR.out] at hC
      go_wp2_with fail
      (with_reducible refine hC.mono ?_)
      rintro e w4 (⟨v', hr, rfl, hb4⟩ | ⟨z, p, i, a, gO, rs, hr, _⟩)
      case inr => cases hr
      injection hr with hr
      subst hr
      have hbz := lvBelow w4 (.cells #[.slice none 0 0, .int .i64 0, .int .i64 0] 31)
      have HB4 := HB3.out.trans (hb4.mono HB3.out.size)
      have HB5 := Lib.hid (HB4.trans (hbz.mono HB4.size))
      have hvv : (v != v) = false := by simp
      clear hb4 hbz HB4 hC k0 k1 k2 k3
      go_wp2_with fail
      go_ret
      exact ⟨rfl, HB5.out⟩
    | ok zp =>
      obtain ⟨z, p⟩ := zp
      have hks := runM_keeps HRR.out
      have HPF := Lib.hid (runM_path HRR.out)
      have hmay := may_of_validE (runM_parts HRR.out).1
      have HMAY := Lib.hid hmay
      obtain ⟨N, hN⟩ : ∃ N, p.length = N := ⟨_, rfl⟩
      obtain ⟨hs1, hs2, hs3, hs4, hs5⟩ := hks
      rw [hN] at hs1 hs2 hs3 hs5
      have HN := Lib.hid hN
      have HS1 := Lib.hid hs1
      clear hs1
      have hNm : (p.map fun n : Nat => (n : Int)).length = N := by rw [List.length_map]; exact hN
      have hC : Calls Tryd.prog 14 #[Cq.val ⟨R, A0, I, P, n0, c0, l⟩, .int .i64 1000, .int .i64 1000, .slice A n c] w2 fun e w' => ∃ Ap np cp, e = .returned (.tuple #[.slice Ap np cp, .int .i64 0]) ∧ (p.map fun n : Nat => (n : Int)).length = np ∧ OwnI w' w2.heap.size 3 Ap cp (p.map fun n : Nat => (n : Int)) ∧ Below w2.heap.size w2 w' := hC
      go_wp2_with fail
      (with_reducible refine hC.mono ?_)
      rintro e w3 ⟨Ap, np, cp, rfl, hnp, hO3, hb3⟩
      obtain rfl : N = np := hNm.symm.trans hnp
      obtain ⟨gp, hgp, _⟩ := hO3.some_ (by rw [hNm]; exact hs2)
      subst hgp
      have HB3 := Lib.hid (HB2.out.trans (hb3.mono HB2.out.size))
      have HX3 := Lib.hid (keep_b hb3 HX2.out)
      have HO3 := Lib.hid hO3
      clear hb3 hC k0 k1 k2 k3 hmay hN hnp hO3 hNm
      obtain ⟨k0, k1, k2, k3, _⟩ := lvCells HX3.out
      have hC := run16_any ⟨R, A0, I, P, n0, c0, l⟩ 1000 1000 A n c LL 2000 w3 (RunIn.small HQ.out HI.out HFW.out HB3.out (by omega)) (HSH.out.on HB3.out)
      unfold RunO at hC
      rw [HRR.out] at hC
      go_wp2_with fail
      (with_reducible refine hC.mono ?_)
      rintro e w4 (⟨v', hr, _⟩ | ⟨z', p', i, a, gO, rs, hr, -, -, -, rfl, -, -, hb4⟩)
      · cases hr
      injection hr with hr; injection hr with e1 e2
      subst e1; subst e2
      obtain ⟨w5, hw5⟩ : ∃ W, w4.alloc (.cells #[.slice (some ⟨gO, 0, none⟩) (a - i) (a - i), .int .i64 (z.st : Int), .int .i64 (z.ce : Int)] 31) = W := ⟨_, rfl⟩
      obtain ⟨g8, hg8⟩ : ∃ z, w4.heap.size = z := ⟨_, rfl⟩
      have hb5 : Below w4.heap.size w4 w5 := by rw [← hw5]; exact lvBelow w4 _
      have hY := heap_alloc_new w4 (.cells #[.slice (some ⟨gO, 0, none⟩) (a - i) (a - i), .int .i64 (z.st : Int), .int .i64 (z.ce : Int)] 31)
      rw [hw5, hg8] at hY
      have hb45 := hb4.trans (hb5.mono hb4.size)
      have HB5 := Lib.hid (HB3.out.trans (hb45.mono HB3.out.size))
      have HX5 := Lib.hid (keep_b hb45 HX3.out)
      have HO5 := Lib.hid (HO3.out.below hb45 (Nat.le_refl _))
      have HG5 := Lib.hid hY
      have HWQ := Lib.hid hw5
      clear hb4 hb5 hb45 hY hw5 hC k0 k1 k2 k3
      go_upto_region 10 with fail
      try rw [HWQ.out]
      try rw [hg8]
      clear HWQ hg8
      obtain ⟨k0, k1, k2, k3, _⟩ := lvCells HX5.out
      have hC := validReach_any ⟨R, A0, I, P, n0, c0, l⟩ w5 (HQ.out.on HB5.out) (HSH.out.on HB5.out)
      unfold ReachP at hC
      rw [Cd.e_yes HMAY.out] at hC
      go_wp2_with fail
      (with_reducible refine hC.mono ?_)
      rintro e w6 ⟨A6, n6, c6, rfl, hR6, hb6⟩
      have HB6 := Lib.hid (HB5.out.trans (hb6.mono HB5.out.size))
      have HX6 := Lib.hid (keep_b hb6 HX5.out)
      have HO6 := Lib.hid (HO5.out.below hb6 (Nat.le_refl _))
      have HG6 := Lib.hid (keep_b hb6 HG5.out)
      obtain ⟨BR, hBR⟩ : ∃ B, w6.heap.size = B := ⟨_, rfl⟩
      rw [hBR] at hR6
      have HRE := Lib.hid hR6
      have HBR : Hid (BR ≤ w6.heap.size) := Nat.le_of_eq hBR.symm
      have hrc : reachC (Cq.cd ⟨R, A0, I, P, n0, c0, l⟩) = reachB (Cq.cd ⟨R, A0, I, P, n0, c0, l⟩) (-1) := by unfold reachC; rw [if_pos HMAY.out]
      have hln : l.length = n0 := HQL.out
      obtain rfl : n6 = n0 := by
        rw [← hR6.1, hrc]
        unfold reachB
        rw [List.length_map, List.length_range]
        exact hln
      have HRC := Lib.hid hrc
      clear hb6 hC k0 k1 k2 k3 hR6 hBR hrc
      obtain ⟨k0, k1, k2, k3, _⟩ := lvCells HX6.out
      obtain ⟨y0, y1, y2⟩ := cells3U HG6.out
      obtain ⟨o0, _⟩ := HO6.out.cell_ (k := 0) (x := 0) (by rw [List.getElem?_map, HPF.out.first]; rfl)
      have e1 : ((N : Int) != (z.st : Int)) = false := by have := HS1.out; simp; omega
      have e2 : ((N : Int) == 0) = false := by simp; omega
      have hN0 : (0 : Int) < (N : Int) := by omega
      have hnn : ((n6 : Int) != (n6 : Int)) = false := by simp
      go_upto_region 14 with fail
      clear k0 k1 k2 k3 y0 y1 y2 o0 e1 e2 hnn
      go_loopw [84] (fun v wr => ∃ k : Nat, v = .int .i64 (k : Int) ∧ wr = w6 ∧ k ≤ N) (fun v _ => N - (intOf v).toNat)
      case atStart => exact ⟨0, rfl, rfl, Nat.zero_le _⟩
      case round =>
        obtain ⟨k, rfl, rfl, hk⟩ := hrel
        by_cases hkn : k < N
        case pos =>
          have hk1 : (k : Int) < (N : Int) := by omega
          have hk0 : (0 : Int) ≤ (k : Int) := by omega
          obtain ⟨at_, hat⟩ : ∃ a, p[k]? = some a := ⟨_, List.getElem?_eq_getElem (by have := HN.out; omega)⟩
          obtain ⟨hsm, _⟩ := small_at HMAY.out (HPF.out.way k at_ hat)
          have hsm : at_ < l.length := hsm
          obtain ⟨o1, _⟩ := HO6.out.cell_ (k := k) (x := (at_ : Int)) (by rw [List.getElem?_map, hat]; rfl)
          obtain ⟨k0, k1, k2, k3, _⟩ := lvCells HX6.out
          have a0 : decide ((at_ : Int) < 0) = false := decide_eq_false (by omega)
          have a1 : decide ((n6 : Int) ≤ (at_ : Int)) = false := decide_eq_false (by omega)
          have a2 : decide (n6 ≤ at_) = false := decide_eq_false (by omega)
          clear hat hsm
          go_wp2_with fail
          go_roundw
          case rel => exact ⟨k + 1, rfl, by first | trivial | rfl, by omega⟩
          case measure => simp [intOf]; omega
        obtain rfl : k = N := by omega
        have d0 : decide (k < k) = false := decide_eq_false (Nat.lt_irrefl _)
        obtain ⟨m, hm⟩ : ∃ m, k - 1 = m := ⟨_, rfl⟩
        obtain ⟨la, hla⟩ : ∃ a, p[m]? = some a := ⟨_, List.getElem?_eq_getElem (by have := HN.out; omega)⟩
        have hlo := HPF.out.last la (by rw [HN.out, hm]; exact hla)
        obtain ⟨hsm, _⟩ := small_at HMAY.out (HPF.out.way m la hla)
        have hsm : la < l.length := hsm
        obtain ⟨o1, _⟩ := HO6.out.cell_ (k := m) (x := (la : Int)) (by rw [List.getElem?_map, hla]; rfl)
        obtain ⟨bP, oP, x, hP, _, HXL, hcJ, hok⟩ := ((HQ.out.on HB6.out).ins).at_ (k := la) (by show la < n6; omega)
        have hP : P = some ⟨bP, oP, none⟩ := hP
        subst hP
        have hx0 : x.op = 0 := by
          have h1 : l[la]? = some x := HXL.out
          have h2 : (l.getD la zJi).op = 0 := hlo
          rw [List.getD_eq_getElem?_getD, h1] at h2
          exact h2
        obtain ⟨q0, q1, q2, q3, q4⟩ := hcJ
        rw [hx0] at q0
        obtain ⟨k0, k1, k2, k3, _⟩ := lvCells HX6.out
        have ml0 : (0 : Int) ≤ (la : Int) := by omega
        have ml1 : (la : Int) < (n6 : Int) := by omega
        have mm0 : (0 : Int) ≤ (m : Int) := by omega
        have mm1 : (m : Int) < (k : Int) := by omega
        have hms : (k : Int) - 1 = (m : Int) := by omega
        have hmw : IntKind.i64.wrap (m : Int) = (m : Int) := by rw [wrap_eq]; exact IntWalk.wrap64_in _ ⟨by omega, by omega⟩
        clear hm hla hlo hsm hok hx0 q1 q2 q3 q4
        go_upto_region 19 with fail
        go_quiet (fail)
        clear k0 k1 k2 k3 o1 q0 ml0 ml1 mm0 mm1 hms hmw d0
        go_upto_region 23 with fail
        go_loopw [112, 14] (fun v t wr => ∃ j : Nat, v = .int .i64 (j : Int) ∧ t = .int .i64 ((cnt9 l (p.take j) : Nat) : Int) ∧ j ≤ k ∧ Hid (Below w.heap.size w wr) ∧ Hid (wr.heap[g0]? = some (Cq.obj ⟨R, A0, I, some ⟨bP, oP, none⟩, n6, c0, l⟩)) ∧ Hid (wr.heap[g8]? = some (.cells #[.slice (some ⟨gO, 0, none⟩) (a - i) (a - i), .int .i64 (z.st : Int), .int .i64 (z.ce : Int)] 31 (0, 0))) ∧ Hid (OwnI wr w2.heap.size 3 (some ⟨gp, 0, none⟩) cp (p.map fun n : Nat => (n : Int))) ∧ Hid (Bools wr BR A6 n6 (reachC (Cq.cd ⟨R, A0, I, some ⟨bP, oP, none⟩, n6, c0, l⟩))) ∧ Hid (BR ≤ wr.heap.size)) (fun v _ _ => k - (intOf v).toNat)
        case atStart => exact ⟨0, rfl, rfl, Nat.zero_le _, below_N HB6.out _, HX6.out, HG6.out, HO6.out.below (below_N (Below.refl _ _) _) (Nat.le_refl _), HRE.out.keep fun _ _ => rfl, HBR.out⟩
        case round =>
          obtain ⟨j, rfl, rfl, hj, HBW, HXW, HGW, HOW, HRW, HBRW⟩ := hrel
          by_cases hjk : j < k
          case neg =>
            obtain rfl : j = k := by omega
            have d0 : decide (j < j) = false := decide_eq_false (Nat.lt_irrefl _)
            have hpt : p.take j = p := List.take_of_length_le (by have := HN.out; omega)
            obtain ⟨y0, y1, y2⟩ := cells3U HGW.out
            have hce := HPF.out.ce
            have e9 : (((cnt9 l p : Nat) : Int) == (z.ce : Int)) = true := by
              have h1 : z.ce = cnt9 l p := hce
              rw [h1]; simp
            rw [hpt]
            clear hce
            go_wp2_with fail
            go_ret
            exact ⟨rfl, HBW.out⟩
          clear HO6 HRE HB6 HX6 HG6
          have hj1 : (j : Int) < (k : Int) := by omega
          have hj0 : (0 : Int) ≤ (j : Int) := by omega
          obtain ⟨at_, hat⟩ : ∃ a, p[j]? = some a := ⟨_, List.getElem?_eq_getElem (by have := HN.out; omega)⟩
          have HAT := Lib.hid hat
          have hway := HPF.out.way j at_ hat
          obtain ⟨hsm, _⟩ := small_at HMAY.out hway
          have hsm : at_ < l.length := hsm
          have ha0 : (0 : Int) ≤ (at_ : Int) := by omega
          have ha1 : (at_ : Int) < (n6 : Int) := by omega
          obtain ⟨o1, _⟩ := HOW.out.cell_ (k := j) (x := (at_ : Int)) (by rw [List.getElem?_map, hat]; rfl)
          obtain ⟨bR, oR, vR, rfl, _, HVR, rb⟩ := HRW.out.at_ (k := at_) (by omega)
          have hvr : vR = true := by
            have h1 := HVR.out
            rw [HRC.out] at h1
            unfold reachB at h1
            rw [List.getElem?_map, List.getElem?_range (show at_ < (Cq.cd ⟨R, A0, I, some ⟨bP, oP, none⟩, n6, c0, l⟩).l.length from hsm)] at h1
            injection h1 with h1
            rw [← h1]
            simpa using hway
          subst hvr
          obtain ⟨bP2, oP2, x, hP, _, HXL, hcJ, hok⟩ := (HQ.out.on HBW.out).ins.at_ (k := at_) (by show at_ < n6; omega)
          have hP : (some ⟨bP, oP, none⟩ : Option Addr) = some ⟨bP2, oP2, none⟩ := hP
          injection hP with hP; injection hP with hP1 hP2
          subst hP1; subst hP2
          have hxd : l.getD at_ zJi = x := by
            have h1 : l[at_]? = some x := HXL.out
            rw [List.getD_eq_getElem?_getD, h1]; rfl
          have HXD := Lib.hid hxd
          have HCN : Hid (cnt9 l (p.take (j + 1)) = cnt9 l (p.take j) + (if x.op = 9 then 1 else 0)) := by
            have := cnt9_snoc (l := l) hat
            rw [hxd] at this
            exact this
          obtain ⟨cn, hcn⟩ : ∃ t, cnt9 l (p.take j) = t := ⟨_, rfl⟩
          rw [hcn] at HCN
          rw [hcn]
          have hcl : cn ≤ 100000 := by
            rw [← hcn]
            unfold cnt9
            have h1 := List.length_filter_le (fun a => decide ((l.getD a zJi).op = 9)) (p.take j)
            rw [List.length_take] at h1
            omega
          obtain ⟨q0, q1, q2, q3, q4⟩ := hcJ
          obtain ⟨k0, k1, k2, k3, _⟩ := lvCells HXW.out
          obtain ⟨gg, hgg⟩ : ∃ b, (((j : Int) + 1) == (k : Int)) = b := ⟨_, rfl⟩
          have HGG := Lib.hid hgg
          have hC := codeNext_any x (at_ : Int) wr hok ⟨by omega, by omega⟩ (HSH.out.on HBW.out)
          unfold NextP at hC
          obtain ⟨nl, hnl⟩ : ∃ t, nextJ x (at_ : Int) = t := ⟨_, rfl⟩
          rw [hnl] at hC
          have HNL := Lib.hid hnl
          obtain ⟨nn, hnn⟩ : ∃ t, nl.length = t := ⟨_, rfl⟩
          have HNN := Lib.hid hnn
          rw [hnn] at hC
          have hnn9 : nn ≤ 2 := by
            rw [← hnn, ← hnl]
            exact nextJ_len x _
          clear hat hway hsm hok hxd hcn hnl hnn
          have hb9 : ∃ b9, (x.op == 9) = b9 := ⟨_, rfl⟩
          obtain ⟨b9, hb9⟩ := hb9
          have hcb : cnt9 l (p.take (j + 1)) = cn + (if b9 = true then 1 else 0) := by
            rw [HCN.out]
            congr 1
            by_cases e : x.op = 9
            · rw [if_pos e, if_pos (by rw [← hb9]; simpa using e)]
            · rw [if_neg e, if_neg (by rw [← hb9]; simpa using e)]
          clear HCN
          have hbv : ∃ bv : Int, (gg = false → (p.map fun n : Nat => (n : Int))[j + 1]? = some bv) ∧ (gg = false → bv ∈ nl) := by
            cases gg with
            | true => exact ⟨0, (fun h => by cases h), (fun h => by cases h)⟩
            | false =>
              have hne : ¬ (j : Int) + 1 = (k : Int) := by simpa using hgg
              obtain ⟨b, hb⟩ : ∃ b, p[j + 1]? = some b := ⟨_, List.getElem?_eq_getElem (by have := HN.out; omega)⟩
              refine ⟨(b : Int), fun _ => by rw [List.getElem?_map, hb]; rfl, fun _ => ?_⟩
              have h1 := HPF.out.next j at_ b HAT.out hb
              have h2 : (b : Int) ∈ nextJ (l.getD at_ zJi) (at_ : Int) := h1
              rw [HXD.out, HNL.out] at h2
              exact h2
          obtain ⟨bv, hbv1, hbv2⟩ := hbv
          have HV1 := Lib.hid hbv1
          have HV2 := Lib.hid hbv2
          have HCB := Lib.hid hcb
          clear hbv1 hbv2 hcb
          cases b9
          · go_upto_region 30 with fail
            go_wp2_with fail
            (with_reducible refine hC.mono ?_)
            rintro e w7 ⟨A7, c7, rfl, hO7, hb7⟩
            have HB7 := Lib.hid (HBW.out.trans (hb7.mono HBW.out.size))
            have HX7 := Lib.hid (keep_b hb7 HXW.out)
            have HG7 := Lib.hid (keep_b hb7 HGW.out)
            have HOP7 := Lib.hid (HOW.out.below hb7 (Nat.le_refl _))
            have HR7 := Lib.hid (HRW.out.keep fun p hp => hb7.cell (Nat.lt_of_lt_of_le hp HBRW.out))
            have HBR7 : Hid (BR ≤ w7.heap.size) := Nat.le_trans HBRW.out hb7.size
            have HNO := Lib.hid hO7
            clear hb7 hC hO7 o1 rb q0 q1 q2 q3 q4 k0 k1 k2 k3 hgg
            go_upto_region 31 with fail
            go_loopw [144, 17] (fun v t wx => ∃ i2 : Nat, v = .int .i64 (i2 : Int) ∧ t = .bool (gg || (nl.take i2).any (fun y => y == bv)) ∧ i2 ≤ nn ∧ wx = w7) (fun v _ _ => nn - (intOf v).toNat)
            case atStart => exact ⟨0, rfl, by simp, Nat.zero_le _, rfl⟩
            case round =>
              obtain ⟨i2, rfl, rfl, hi2, rfl⟩ := hrel
              by_cases hin : i2 < nn
              case neg =>
                obtain rfl : i2 = nn := by omega
                have d0 : decide (i2 < i2) = false := decide_eq_false (Nat.lt_irrefl _)
                have ht : (gg || (nl.take i2).any (fun y => y == bv)) = true := by
                  rw [List.take_of_length_le (by have := HNN.out; omega)]
                  cases gg with
                  | true => rfl
                  | false =>
                    rw [Bool.false_or]
                    exact List.any_eq_true.2 ⟨bv, HV2.out rfl, by simp⟩
                rw [ht]
                clear ht
                go_wp2_with fail
                go_roundw
                case rel => exact ⟨j + 1, rfl, by rw [HCB.out]; rfl, by omega, HB7, HX7, HG7, HOP7, HR7, HBR7⟩
                case measure => simp [intOf]; omega
              have hi1 : (i2 : Int) < (nn : Int) := by omega
              have hi0 : (0 : Int) ≤ (i2 : Int) := by omega
              obtain ⟨y, hy⟩ : ∃ y, nl[i2]? = some y := ⟨_, List.getElem?_eq_getElem (by have := HNN.out; omega)⟩
              obtain ⟨g7, hg7, _⟩ := HNO.out.some_ (by have := HNN.out; omega)
              have hno := HNO.out
              rw [hg7] at hno
              obtain ⟨p1, _⟩ := hno.cell_ hy
              have hta : (nl.take (i2 + 1)).any (fun y => y == bv) = ((nl.take i2).any (fun y => y == bv) || (y == bv)) := by
                rw [take_succU hy, List.any_append]; simp
              have HTA := Lib.hid hta
              subst hg7
              obtain ⟨tb, htb⟩ : ∃ b, (gg || (nl.take i2).any (fun y => y == bv)) = b := ⟨_, rfl⟩
              rw [htb]
              have HTB := Lib.hid htb
              clear hno hta htb hy
              cases tb with
              | true =>
                have hnx : Hid ((gg || (nl.take (i2 + 1)).any (fun y => y == bv)) = true) := by
                  unfold Hid
                  rw [HTA.out, ← Bool.or_assoc, HTB.out]; rfl
                go_wp2_with fail
                go_roundw
                case rel => exact ⟨i2 + 1, rfl, by rw [hnx.out], by omega, by first | trivial | rfl⟩
                case measure => simp [intOf]; omega
              | false =>
                have hgf : gg = false := by
                  have h1 := HTB.out
                  rw [Bool.or_eq_false_iff] at h1
                  exact h1.1
                have hj2 : j + 1 < k := by
                  have h1 := HV1.out hgf
                  have h2 := (List.getElem?_eq_some_iff.1 h1).1
                  rw [List.length_map, HN.out] at h2
                  exact h2
                obtain ⟨p2, _⟩ := HOP7.out.cell_ (k := j + 1) (x := bv) (HV1.out hgf)
                have hj3 : (j : Int) + 1 < (k : Int) := by omega
                have hj4 : (0 : Int) ≤ (j : Int) + 1 := by omega
                obtain ⟨bb, hbb⟩ : ∃ b, (y == bv) = b := ⟨_, rfl⟩
                have hnx : Hid ((gg || (nl.take (i2 + 1)).any (fun y => y == bv)) = bb) := by
                  unfold Hid
                  rw [HTA.out, ← Bool.or_assoc, HTB.out, hbb]; rfl
                clear hgf
                go_wp2_with fail
                go_roundw
                case rel => exact ⟨i2 + 1, rfl, by rw [hnx.out], by omega, by first | trivial | rfl⟩
                case measure => simp [intOf]; omega
          · go_upto_region 30 with fail
            go_wp2_with fail
            (with_reducible refine hC.mono ?_)
            rintro e w7 ⟨A7, c7, rfl, hO7, hb7⟩
            have HB7 := Lib.hid (HBW.out.trans (hb7.mono HBW.out.size))
            have HX7 := Lib.hid (keep_b hb7 HXW.out)
            have HG7 := Lib.hid (keep_b hb7 HGW.out)
            have HOP7 := Lib.hid (HOW.out.below hb7 (Nat.le_refl _))
            have HR7 := Lib.hid (HRW.out.keep fun p hp => hb7.cell (Nat.lt_of_lt_of_le hp HBRW.out))
            have HBR7 : Hid (BR ≤ w7.heap.size) := Nat.le_trans HBRW.out hb7.size
            have HNO := Lib.hid hO7
            clear hb7 hC hO7 o1 rb q0 q1 q2 q3 q4 k0 k1 k2 k3 hgg
            go_upto_region 31 with fail
            go_loopw [144, 17] (fun v t wx => ∃ i2 : Nat, v = .int .i64 (i2 : Int) ∧ t = .bool (gg || (nl.take i2).any (fun y => y == bv)) ∧ i2 ≤ nn ∧ wx = w7) (fun v _ _ => nn - (intOf v).toNat)
            case atStart => exact ⟨0, rfl, by simp, Nat.zero_le _, rfl⟩
            case round =>
              obtain ⟨i2, rfl, rfl, hi2, rfl⟩ := hrel
              by_cases hin : i2 < nn
              case neg =>
                obtain rfl : i2 = nn := by omega
                have d0 : decide (i2 < i2) = false := decide_eq_false (Nat.lt_irrefl _)
                have ht : (gg || (nl.take i2).any (fun y => y == bv)) = true := by
                  rw [List.take_of_length_le (by have := HNN.out; omega)]
                  cases gg with
                  | true => rfl
                  | false =>
                    rw [Bool.false_or]
                    exact List.any_eq_true.2 ⟨bv, HV2.out rfl, by simp⟩
                rw [ht]
                clear ht
                go_wp2_with fail
                go_roundw
                case rel => exact ⟨j + 1, rfl, by rw [HCB.out]; rfl, by omega, HB7, HX7, HG7, HOP7, HR7, HBR7⟩
                case measure => simp [intOf]; omega
              have hi1 : (i2 : Int) < (nn : Int) := by omega
              have hi0 : (0 : Int) ≤ (i2 : Int) := by omega
              obtain ⟨y, hy⟩ : ∃ y, nl[i2]? = some y := ⟨_, List.getElem?_eq_getElem (by have := HNN.out; omega)⟩
              obtain ⟨g7, hg7, _⟩ := HNO.out.some_ (by have := HNN.out; omega)
              have hno := HNO.out
              rw [hg7] at hno
              obtain ⟨p1, _⟩ := hno.cell_ hy
              have hta : (nl.take (i2 + 1)).any (fun y => y == bv) = ((nl.take i2).any (fun y => y == bv) || (y == bv)) := by
                rw [take_succU hy, List.any_append]; simp
              have HTA := Lib.hid hta
              subst hg7
              obtain ⟨tb, htb⟩ : ∃ b, (gg || (nl.take i2).any (fun y => y == bv)) = b := ⟨_, rfl⟩
              rw [htb]
              have HTB := Lib.hid htb
              clear hno hta htb hy
              cases tb with
              | true =>
                have hnx : Hid ((gg || (nl.take (i2 + 1)).any (fun y => y == bv)) = true) := by
                  unfold Hid
                  rw [HTA.out, ← Bool.or_assoc, HTB.out]; rfl
                go_wp2_with fail
                go_roundw
                case rel => exact ⟨i2 + 1, rfl, by rw [hnx.out], by omega, by first | trivial | rfl⟩
                case measure => simp [intOf]; omega
              | false =>
                have hgf : gg = false := by
                  have h1 := HTB.out
                  rw [Bool.or_eq_false_iff] at h1
                  exact h1.1
                have hj2 : j + 1 < k := by
                  have h1 := HV1.out hgf
                  have h2 := (List.getElem?_eq_some_iff.1 h1).1
                  rw [List.length_map, HN.out] at h2
                  exact h2
                obtain ⟨p2, _⟩ := HOP7.out.cell_ (k := j + 1) (x := bv) (HV1.out hgf)
                have hj3 : (j : Int) + 1 < (k : Int) := by omega
                have hj4 : (0 : Int) ≤ (j : Int) + 1 := by omega
                obtain ⟨bb, hbb⟩ : ∃ b, (y == bv) = b := ⟨_, rfl⟩
                have hnx : Hid ((gg || (nl.take (i2 + 1)).any (fun y => y == bv)) = bb) := by
                  unfold Hid
                  rw [HTA.out, ← Bool.or_assoc, HTB.out, hbb]; rfl
                clear hgf
                go_wp2_with fail
                go_roundw
                case rel => exact ⟨i2 + 1, rfl, by rw [hnx.out], by omega, by first | trivial | rfl⟩
                case measure => simp [intOf]; omega
end Go.Proofs.YtgkngimeokhhgaaDoor
