/- purflelaw16.RunEnds returns true. -/
import Derived.Test.YtgkngimeokhhgaaDoorG25
namespace Go.Proofs.YtgkngimeokhhgaaDoor
open Go.RowKit Go.Sort

set_option maxRecDepth 100000 in
set_option maxHeartbeats 8000000 in
theorem runEnds_any (w : World) (q : Cq) (hq : q.In w) (A : Option Addr) (n c : Nat) (LL : List (List Int)) (h : IntsLL w w.heap.size A n LL) (hn : n ≤ 5864062014805) (hc : n ≤ c) (hL : ∀ L ∈ LL, L.length ≤ 17592186044416) (hS : ShT w) :
    Calls Tryd.prog 7 #[q.val, .slice A n c] w fun r w' => r = .returned (.bool true) ∧ Below w.heap.size w w' := by
  have HQ := Lib.hid hq
  have HI := Lib.hid h
  have HLL := Lib.hid hL
  have HSH := Lib.hid hS
  have hn1 : q.n ≤ 9223372036854775807 := hq.n1
  have HQL : Hid (q.l.length = q.n) := hq.len
  obtain ⟨R, A0, I, P, n0, c0, l⟩ := q
  obtain ⟨W0, hW0⟩ : ∃ W, w.alloc (Cq.obj ⟨R, A0, I, P, n0, c0, l⟩) = W := ⟨_, rfl⟩
  obtain ⟨g0, hg0⟩ : ∃ z, w.heap.size = z := ⟨_, rfl⟩
  have hb1 : Below w.heap.size w W0 := by rw [← hW0]; exact lvBelow w _
  have h1 : W0.heap[g0]? = some (Cq.obj ⟨R, A0, I, P, n0, c0, l⟩) := by rw [← hW0, ← hg0]; exact heap_alloc_new w _
  have HB0 := Lib.hid hb1
  have HX0 := Lib.hid h1
  have hC := live16_any W0 (HSH.out.on HB0.out)
  clear hb1 h1 h hq hL hS
  go_enter Tryd.func7, Tryd.ntmps7
  go_wp2_with fail
  try rw [hW0]
  try rw [hg0]
  (with_reducible refine hC.mono ?_)
  rintro e w1 ⟨rfl, hb1⟩
  have HB1 := Lib.hid (HB0.out.trans (hb1.mono HB0.out.size))
  have HX1 := Lib.hid (keep_b hb1 HX0.out)
  clear hb1 hC hW0 hg0
  obtain ⟨k0, k1, k2, k3, _⟩ := lvCells HX1.out
  have hC := few16_any ⟨R, A0, I, P, n0, c0, l⟩ A n c LL w1 (HQ.out.on HB1.out) ((HI.out.below HB1.out).more HB1.out.size) hn HLL.out
  obtain ⟨fw, hfw⟩ : ∃ b, few16 ⟨R, A0, I, P, n0, c0, l⟩ n LL = b := ⟨_, rfl⟩
  rw [hfw] at hC
  have HFW := Lib.hid hfw
  clear hfw
  go_wp2_with fail
  (with_reducible refine hC.mono ?_)
  rintro e w2 ⟨rfl, hb2⟩
  have HB2 := Lib.hid (HB1.out.trans (hb2.mono HB1.out.size))
  have HX2 := Lib.hid (keep_b hb2 HX1.out)
  clear hb2 hC k0 k1 k2 k3
  cases fw with
  | false =>
    go_wp2_with fail
    go_ret
    exact ⟨rfl, HB2.out⟩
  | true =>
    obtain ⟨k0, k1, k2, k3, _⟩ := lvCells HX2.out
    have hC := validCheck_any ⟨R, A0, I, P, n0, c0, l⟩ w2 (HQ.out.on HB2.out) (HSH.out.on HB2.out)
    unfold ValidP at hC
    obtain ⟨v, hv⟩ : ∃ v, validE (Cq.cd ⟨R, A0, I, P, n0, c0, l⟩) = v := ⟨_, rfl⟩
    rw [hv] at hC
    have HV := Lib.hid hv
    clear hv
    go_wp2_with fail
    (with_reducible refine hC.mono ?_)
    rintro e w3 ⟨rfl, hb3⟩
    have HB3 := Lib.hid (HB2.out.trans (hb3.mono HB2.out.size))
    have HX3 := Lib.hid (keep_b hb3 HX2.out)
    clear hb3 hC k0 k1 k2 k3
    obtain ⟨k0, k1, k2, k3, _⟩ := lvCells HX3.out
    by_cases hv0 : v = 0
    case neg =>
      have d0 : (v != 0) = true := by simpa using hv0
      clear hv0
      go_wp2_with fail
      go_ret
      exact ⟨rfl, HB3.out⟩
    subst hv0
    by_cases hlt : (n : Int) < I
    · have d1 : decide ((n : Int) < I) = true := decide_eq_true hlt
      go_wp2_with fail
      go_ret
      exact ⟨rfl, HB3.out⟩
    have d1 : decide ((n : Int) < I) = false := decide_eq_false hlt
    have hC := validLoops_any ⟨R, A0, I, P, n0, c0, l⟩ w3 (HQ.out.on HB3.out) (HSH.out.on HB3.out)
    unfold LoopsP at hC
    have hmay := may_of_validE HV.out
    rw [Cd.e_yes hmay] at hC
    have HMAY := Lib.hid hmay
    obtain ⟨⟨_, _, _, _, hi0, _, _, _⟩, _⟩ := Cd.may_parts hmay
    have hi0 : 0 ≤ I := hi0
    obtain ⟨i, rfl⟩ := Int.eq_ofNat_of_zero_le hi0
    have hin : i ≤ n := by omega
    clear hmay hi0 hlt
    go_wp2_with fail
    (with_reducible refine hC.mono ?_)
    rintro e w4 ⟨A4, n4, c4, rfl, hI4, hb4⟩
    have HB4 := Lib.hid (HB3.out.trans (hb4.mono HB3.out.size))
    have HX4 := Lib.hid (keep_b hb4 HX3.out)
    have h4 : (loopsC (Cq.cd ⟨R, A0, (i : Int), P, n0, c0, l⟩)).length = n4 := hI4.1
    have HN4 := Lib.hid h4
    clear hb4 hC k0 k1 k2 k3 h4 hI4 d1
    obtain ⟨k0, k1, k2, k3, _⟩ := lvCells HX4.out
    by_cases h0 : (0 : Int) < (n4 : Int)
    · have d1 : decide ((0 : Int) < (n4 : Int)) = true := decide_eq_true h0
      go_wp2_with fail
      go_ret
      exact ⟨rfl, HB4.out⟩
    have d1 : decide ((0 : Int) < (n4 : Int)) = false := decide_eq_false h0
    have hmx : Tryd.prog.follows .mixedOrders = true := by kernel_rfl
    have hrt : ∀ w, (Instr.slice 25 (.slice A n c) none (some (.int .i64 (i : Int))) none).run Tryd.prog w = .ok (.slice A i c) w := fun w => run_takeR hin hc
    have HMX := Lib.hid hmx
    have hn300 : n0 ≤ 300 := (few16_parts HFW.out).1
    go_upto_region 7 with fail
    obtain rfl : n4 = 0 := by omega
    clear k0 k1 k2 k3 h0 d1
    let F : Nat → Value := fun o => match o with
      | 0 => .agg #[.int .i64 R, .int .i64 A0, .int .i64 (i : Int), .slice P n0 c0]
      | 1 => .pointer (some ⟨g0, 3, none⟩)
      | 2 => .slice P n0 c0
      | 3 => .int .i64 (n0 : Int)
      | 4 => .pointer (some ⟨g0, 3, none⟩)
      | 5 => .slice P n0 c0
      | 6 => .int .i64 (n0 : Int)
      | 7 => .slice A n c
      | 8 => .pointer (some ⟨g0, 2, none⟩)
      | 9 => .int .i64 (i : Int)
      | 10 => .slice A i c
      | _ => undef
    refine wp_region_joint (JnJ w4 11 F (fun r => r.ok ⟨R, A0, (i : Int), P, n0, c0, l⟩ (n0 : Int) (n0 : Int) (LL.take i))) hmx (by kernel_rfl) (by kernel_rfl) ?_ ?_ ?_ ?_
    · intro D vs hD
      exact ⟨(Below.refl _ _).drew, fun j hj hd => (by rw [hD j (by show j < 18; omega)] at hd; cases hd), fun hd => (by rw [hD 11 (by decide)] at hd; cases hd), fun hd => (by rw [hD 12 (by decide)] at hd; cases hd), fun hd => (by rw [hD 13 (by decide)] at hd; cases hd), fun hd => (by rw [hD 14 (by decide)] at hd; cases hd), fun hd => (by rw [hD 15 (by decide)] at hd; cases hd), fun hd => (by rw [hD 16 (by decide)] at hd; cases hd), fun hd => (by rw [hD 17 (by decide)] at hd; cases hd)⟩
    · intro o o9 ho D vs w2 hJ hDi hd K hK
      have hi9 : o < 18 := (List.getElem?_eq_some_iff.1 ho).1
      generalize hlit : putV vs 0 _ _ = zz at hK ⊢
      simp only [List.map_cons, List.map_nil, putV, Act.put, List.setIfInBounds_toArray, List.set_cons_succ, List.set_cons_zero] at hlit
      subst hlit
      rcases (by omega : o = 0 ∨ o = 1 ∨ o = 2 ∨ o = 3 ∨ o = 4 ∨ o = 5 ∨ o = 6 ∨ o = 7 ∨ o = 8 ∨ o = 9 ∨ o = 10 ∨ o = 11 ∨ o = 12 ∨ o = 13 ∨ o = 14 ∨ o = 15 ∨ o = 16 ∨ o = 17) with rfl | rfl | rfl | rfl | rfl | rfl | rfl | rfl | rfl | rfl | rfl | rfl | rfl | rfl | rfl | rfl | rfl | rfl
      · -- 0
        obtain rfl := Option.some.inj ho
        obtain ⟨z0, z1, z2, z3, _⟩ := lvCells (keep_b hJ.bel HX4.out)
        clear ho hd hi9
        go_simp
        exact hK _ (F 0) _ (fun q => q == 0 || D q) (by simp [Act.put]; try rfl) (fun q hq => by simp [hq]) (by simp) (hJ.one hDi (fun q hq => by simp [hq]) (by simp) (fun _ => rfl) (fun e => absurd e (by decide)) (fun e => absurd e (by decide)) (fun e => absurd e (by decide)) (fun e => absurd e (by decide)) (by decide) (by decide) (fun e => absurd e (by decide)) (Below.refl _ _))
      · -- 1
        obtain rfl := Option.some.inj ho
        clear ho hd hi9
        go_simp
        exact hK _ (F 1) _ (fun q => q == 1 || D q) (by simp [Act.put]; try rfl) (fun q hq => by simp [hq]) (by simp) (hJ.one hDi (fun q hq => by simp [hq]) (by simp) (fun _ => rfl) (fun e => absurd e (by decide)) (fun e => absurd e (by decide)) (fun e => absurd e (by decide)) (fun e => absurd e (by decide)) (by decide) (by decide) (fun e => absurd e (by decide)) (Below.refl _ _))
      · -- 2
        obtain rfl := Option.some.inj ho
        have v1 : vs 1 = F 1 := hJ.vals 1 (by decide) (hd 1 (by kernel_rfl))
        obtain ⟨z0, z1, z2, z3, _⟩ := lvCells (keep_b hJ.bel HX4.out)
        clear ho hd hi9
        dsimp only [F] at v1
        go_simp
        exact hK _ (F 2) _ (fun q => q == 2 || D q) (by simp [Act.put, v1]; try rfl) (fun q hq => by simp [hq]) (by simp) (hJ.one hDi (fun q hq => by simp [hq]) (by simp) (fun _ => rfl) (fun e => absurd e (by decide)) (fun e => absurd e (by decide)) (fun e => absurd e (by decide)) (fun e => absurd e (by decide)) (by decide) (by decide) (fun e => absurd e (by decide)) (Below.refl _ _))
      · -- 3
        obtain rfl := Option.some.inj ho
        have v2 : vs 2 = F 2 := hJ.vals 2 (by decide) (hd 2 (by kernel_rfl))
        clear ho hd hi9
        dsimp only [F] at v2
        go_simp
        exact hK _ (F 3) _ (fun q => q == 3 || D q) (by simp [Act.put, v2]; try rfl) (fun q hq => by simp [hq]) (by simp) (hJ.one hDi (fun q hq => by simp [hq]) (by simp) (fun _ => rfl) (fun e => absurd e (by decide)) (fun e => absurd e (by decide)) (fun e => absurd e (by decide)) (fun e => absurd e (by decide)) (by decide) (by decide) (fun e => absurd e (by decide)) (Below.refl _ _))
      · -- 4
        obtain rfl := Option.some.inj ho
        clear ho hd hi9
        go_simp
        exact hK _ (F 4) _ (fun q => q == 4 || D q) (by simp [Act.put]; try rfl) (fun q hq => by simp [hq]) (by simp) (hJ.one hDi (fun q hq => by simp [hq]) (by simp) (fun _ => rfl) (fun e => absurd e (by decide)) (fun e => absurd e (by decide)) (fun e => absurd e (by decide)) (fun e => absurd e (by decide)) (by decide) (by decide) (fun e => absurd e (by decide)) (Below.refl _ _))
      · -- 5
        obtain rfl := Option.some.inj ho
        have v4 : vs 4 = F 4 := hJ.vals 4 (by decide) (hd 4 (by kernel_rfl))
        obtain ⟨z0, z1, z2, z3, _⟩ := lvCells (keep_b hJ.bel HX4.out)
        clear ho hd hi9
        dsimp only [F] at v4
        go_simp
        exact hK _ (F 5) _ (fun q => q == 5 || D q) (by simp [Act.put, v4]; try rfl) (fun q hq => by simp [hq]) (by simp) (hJ.one hDi (fun q hq => by simp [hq]) (by simp) (fun _ => rfl) (fun e => absurd e (by decide)) (fun e => absurd e (by decide)) (fun e => absurd e (by decide)) (fun e => absurd e (by decide)) (by decide) (by decide) (fun e => absurd e (by decide)) (Below.refl _ _))
      · -- 6
        obtain rfl := Option.some.inj ho
        have v5 : vs 5 = F 5 := hJ.vals 5 (by decide) (hd 5 (by kernel_rfl))
        clear ho hd hi9
        dsimp only [F] at v5
        go_simp
        exact hK _ (F 6) _ (fun q => q == 6 || D q) (by simp [Act.put, v5]; try rfl) (fun q hq => by simp [hq]) (by simp) (hJ.one hDi (fun q hq => by simp [hq]) (by simp) (fun _ => rfl) (fun e => absurd e (by decide)) (fun e => absurd e (by decide)) (fun e => absurd e (by decide)) (fun e => absurd e (by decide)) (by decide) (by decide) (fun e => absurd e (by decide)) (Below.refl _ _))
      · -- 7
        obtain rfl := Option.some.inj ho
        clear ho hd hi9
        go_simp
        exact hK _ (F 7) _ (fun q => q == 7 || D q) (by simp [Act.put]; try rfl) (fun q hq => by simp [hq]) (by simp) (hJ.one hDi (fun q hq => by simp [hq]) (by simp) (fun _ => rfl) (fun e => absurd e (by decide)) (fun e => absurd e (by decide)) (fun e => absurd e (by decide)) (fun e => absurd e (by decide)) (by decide) (by decide) (fun e => absurd e (by decide)) (Below.refl _ _))
      · -- 8
        obtain rfl := Option.some.inj ho
        clear ho hd hi9
        go_simp
        exact hK _ (F 8) _ (fun q => q == 8 || D q) (by simp [Act.put]; try rfl) (fun q hq => by simp [hq]) (by simp) (hJ.one hDi (fun q hq => by simp [hq]) (by simp) (fun _ => rfl) (fun e => absurd e (by decide)) (fun e => absurd e (by decide)) (fun e => absurd e (by decide)) (fun e => absurd e (by decide)) (by decide) (by decide) (fun e => absurd e (by decide)) (Below.refl _ _))
      · -- 9
        obtain rfl := Option.some.inj ho
        have v8 : vs 8 = F 8 := hJ.vals 8 (by decide) (hd 8 (by kernel_rfl))
        obtain ⟨z0, z1, z2, z3, _⟩ := lvCells (keep_b hJ.bel HX4.out)
        clear ho hd hi9
        dsimp only [F] at v8
        go_simp
        exact hK _ (F 9) _ (fun q => q == 9 || D q) (by simp [Act.put, v8]; try rfl) (fun q hq => by simp [hq]) (by simp) (hJ.one hDi (fun q hq => by simp [hq]) (by simp) (fun _ => rfl) (fun e => absurd e (by decide)) (fun e => absurd e (by decide)) (fun e => absurd e (by decide)) (fun e => absurd e (by decide)) (by decide) (by decide) (fun e => absurd e (by decide)) (Below.refl _ _))
      · -- 10
        obtain rfl := Option.some.inj ho
        have v7 : vs 7 = F 7 := hJ.vals 7 (by decide) (hd 7 (by kernel_rfl))
        have v9 : vs 9 = F 9 := hJ.vals 9 (by decide) (hd 9 (by kernel_rfl))
        clear ho hd hi9
        dsimp only [F] at v7
        dsimp only [F] at v9
        go_simp
        exact hK _ (F 10) _ (fun q => q == 10 || D q) (by simp [Act.put, v7, v9]; try rfl) (fun q hq => by simp [hq]) (by simp) (hJ.one hDi (fun q hq => by simp [hq]) (by simp) (fun _ => rfl) (fun e => absurd e (by decide)) (fun e => absurd e (by decide)) (fun e => absurd e (by decide)) (fun e => absurd e (by decide)) (by decide) (by decide) (fun e => absurd e (by decide)) (Below.refl _ _))
      · -- 11
        obtain rfl := Option.some.inj ho
        have v0 : vs 0 = F 0 := hJ.vals 0 (by decide) (hd 0 (by kernel_rfl))
        have v3 : vs 3 = F 3 := hJ.vals 3 (by decide) (hd 3 (by kernel_rfl))
        have v6 : vs 6 = F 6 := hJ.vals 6 (by decide) (hd 6 (by kernel_rfl))
        have v10 : vs 10 = F 10 := hJ.vals 10 (by decide) (hd 10 (by kernel_rfl))
        clear ho hd hi9
        dsimp only [F] at v0 v3 v6 v10
        have hcc := run16_any ⟨R, A0, (i : Int), P, n0, c0, l⟩ (n0 : Int) (n0 : Int) A i c (LL.take i) 2000 w2 (RunIn.smallT HQ.out HI.out hin HFW.out (HB4.out.trans (hJ.bel.mono HB4.out.size)) (by omega)) (HSH.out.on (HB4.out.trans (hJ.bel.mono HB4.out.size)))
        go_simp
        go_at_call 12
        refine hcc.mono ?_
        intro e wf hP
        obtain ⟨r, rfl, hr, hbf⟩ := hP.res
        exact hK _ r.tup _ (fun j => j == 11 || D j) (by simp [Act.put, v0, v3, v6, v10]; try rfl) (fun j hj => by simp [hj]) (by simp) (hJ.one hDi (fun q hq => by simp [hq]) (by simp) (fun e => absurd e (by decide)) (fun _ => ⟨r, rfl, hr⟩) (fun e => absurd e (by decide)) (fun e => absurd e (by decide)) (fun e => absurd e (by decide)) (by decide) (by decide) (fun e => absurd e (by decide)) hbf)
      · -- 12
        obtain rfl := Option.some.inj ho
        have hc := hd 11 (by kernel_rfl)
        clear ho hd hi9
        go_simp
        exact hK _ (vs 11) _ (fun q => q == 12 || D q) (by simp [Act.put]; try rfl) (fun q hq => by simp [hq]) (by simp) (hJ.one hDi (fun q hq => by simp [hq]) (by simp) (fun e => absurd e (by decide)) (fun e => absurd e (by decide)) (fun _ => ⟨hc, rfl⟩) (fun e => absurd e (by decide)) (fun e => absurd e (by decide)) (by decide) (by decide) (fun e => absurd e (by decide)) (Below.refl _ _))
      · -- 13
        obtain rfl := Option.some.inj ho
        have hm := hd 12 (by kernel_rfl)
        obtain ⟨hc, em⟩ := hJ.mv hm
        obtain ⟨r, er, _⟩ := hJ.call hc
        have e1 : vs 12 = r.tup := em.trans er
        clear ho hd hi9
        dsimp only [Res5.tup] at e1
        go_simp
        exact hK _ r.agg _ (fun q => q == 13 || D q) (by simp [Act.put, e1, er, Res5.tup]; try rfl) (fun q hq => by simp [hq]) (by simp) (hJ.one hDi (fun q hq => by simp [hq]) (by simp) (fun e => absurd e (by decide)) (fun e => absurd e (by decide)) (fun e => absurd e (by decide)) (fun _ => ⟨hm, fun r2 h2 => by rw [Res5.inj (er.symm.trans h2)]⟩) (fun e => absurd e (by decide)) (by decide) (by decide) (fun e => absurd e (by decide)) (Below.refl _ _))
      · -- 14
        obtain rfl := Option.some.inj ho
        have hm := hd 12 (by kernel_rfl)
        obtain ⟨hc, em⟩ := hJ.mv hm
        obtain ⟨r, er, _⟩ := hJ.call hc
        have e1 : vs 12 = r.tup := em.trans er
        clear ho hd hi9
        dsimp only [Res5.tup] at e1
        go_simp
        exact hK _ (.int .i64 r.er) _ (fun q => q == 14 || D q) (by simp [Act.put, e1, er, Res5.tup]; try rfl) (fun q hq => by simp [hq]) (by simp) (hJ.one hDi (fun q hq => by simp [hq]) (by simp) (fun e => absurd e (by decide)) (fun e => absurd e (by decide)) (fun e => absurd e (by decide)) (fun e => absurd e (by decide)) (fun _ => ⟨hm, fun r2 h2 => by rw [Res5.inj (er.symm.trans h2)]⟩) (by decide) (by decide) (fun e => absurd e (by decide)) (Below.refl _ _))
      · -- 15
        obtain rfl := Option.some.inj ho
        clear ho hd hi9
        go_simp
        exact hK _ (.pointer (some ⟨w2.heap.size, 0, none⟩)) _ (fun q => q == 15 || D q) (by simp [Act.put]; try rfl) (fun q hq => by simp [hq]) (by simp) (hJ.box hDi (fun q hq => by simp [hq]))
      · -- 16
        obtain rfl := Option.some.inj ho
        have h2 := hd 13 (by kernel_rfl)
        have h4 := hd 15 (by kernel_rfl)
        obtain ⟨r, g, e2, e4, hg, hst⟩ := hJ.store (D' := fun q => q == 16 || D q) hDi h2 h4 (fun q hq => by simp [hq]) (by simp)
        clear ho hd hi9
        dsimp only [Res5.agg] at e2
        unfold resZ at hg
        obtain ⟨u0, u1, u2, f0, f1, f2⟩ := cells3V hg
        go_simp
        exact hK _ undef _ (fun q => q == 16 || D q) (by simp [Act.put, e2, e4]; try rfl) (fun q hq => by simp [hq]) (by simp) (hst undef)
      · -- 17
        obtain rfl := Option.some.inj ho
        have h3 := hd 14 (by kernel_rfl)
        obtain ⟨hm, e3⟩ := hJ.e1 h3
        obtain ⟨r, er, _⟩ := hJ.call (hJ.mv hm).1
        have e1 := e3 r er
        clear ho hd hi9
        go_simp
        exact hK _ (.int .i64 r.er) _ (fun q => q == 17 || D q) (by simp [Act.put, e1, er]; try rfl) (fun q hq => by simp [hq]) (by simp) (hJ.one hDi (fun q hq => by simp [hq]) (by simp) (fun e => absurd e (by decide)) (fun e => absurd e (by decide)) (fun e => absurd e (by decide)) (fun e => absurd e (by decide)) (fun e => absurd e (by decide)) (by decide) (by decide) (fun _ => ⟨h3, fun r2 h2 => by rw [Res5.inj (er.symm.trans h2)]⟩) (Below.refl _ _))
    · intro D vs w5 hJ hall
      obtain ⟨r, g, hok, u0, u1, u2, u3, u4, u6, hgr⟩ := hJ.done (fun j hj => hall j hj)
      have v0 : vs 0 = F 0 := hJ.vals 0 (by decide) (hall 0 (by decide))
      have v1 : vs 1 = F 1 := hJ.vals 1 (by decide) (hall 1 (by decide))
      have v2 : vs 2 = F 2 := hJ.vals 2 (by decide) (hall 2 (by decide))
      have v3 : vs 3 = F 3 := hJ.vals 3 (by decide) (hall 3 (by decide))
      have v4 : vs 4 = F 4 := hJ.vals 4 (by decide) (hall 4 (by decide))
      have v5 : vs 5 = F 5 := hJ.vals 5 (by decide) (hall 5 (by decide))
      have v6 : vs 6 = F 6 := hJ.vals 6 (by decide) (hall 6 (by decide))
      have v7 : vs 7 = F 7 := hJ.vals 7 (by decide) (hall 7 (by decide))
      have v8 : vs 8 = F 8 := hJ.vals 8 (by decide) (hall 8 (by decide))
      have v9 : vs 9 = F 9 := hJ.vals 9 (by decide) (hall 9 (by decide))
      have v10 : vs 10 = F 10 := hJ.vals 10 (by decide) (hall 10 (by decide))
      dsimp only [F] at v0 v1 v2 v3 v4 v5 v6 v7 v8 v9 v10
      have hbel := hJ.bel
      generalize hlit : putV vs 0 _ _ = zz
      simp only [List.map_cons, List.map_nil, putV, Act.put, List.setIfInBounds_toArray, List.set_cons_succ, List.set_cons_zero] at hlit
      obtain ⟨X, nX, st, ce, er⟩ := r
      dsimp only [Res5.tup, Res5.agg, Res5.obj] at u0 u1 u2 u3 u6 hgr
      try dsimp only at u0 u1 u2 u3 u4 u6
      rw [v0, v1, v2, v3, v4, v5, v6, v7, v8, v9, v10, u0, u1, u2, u3, u4, u6] at hlit
      subst hlit
      clear hJ hall v0 v1 v2 v3 v4 v5 v6 v7 v8 v9 v10 u0 u1 u2 u3 u4 u6 D vs
      clear F
      have HOKR := Lib.hid hok
      have HB5 := Lib.hid (HB4.out.trans (hbel.mono HB4.out.size))
      have HX5 := Lib.hid (keep_b hbel HX4.out)
      have HGR := Lib.hid hgr
      clear hok hbel hgr
      obtain ⟨y0, y1, y2⟩ := cells3U HGR.out
      obtain ⟨k0, k1, k2, k3, _⟩ := lvCells HX5.out
      have hm := HMAY.out
      have hlq := HQL.out
      have hlo : loopsN (Cq.cd ⟨R, A0, (i : Int), P, n0, c0, l⟩) = [] := by
        have h1 := HN4.out
        have h3 := List.eq_nil_of_length_eq_zero h1
        unfold loopsC at h3
        rw [if_pos hm] at h3
        exact List.map_eq_nil_iff.1 h3
      have hil : (LL.take i).length = i := by rw [List.length_take, HI.out.1]; omega
      have hrun : runM (Cq.cd ⟨R, A0, (i : Int), P, n0, c0, l⟩) (n0 : Int) (n0 : Int) (LL.take i) = goM (Cq.cd ⟨R, A0, (i : Int), P, n0, c0, l⟩) (n0 : Int) n0 (startM (Cq.cd ⟨R, A0, (i : Int), P, n0, c0, l⟩) (LL.take i)) := by
        unfold runM
        rw [if_neg (by rw [HV.out]; simp), if_neg (by
          rintro (h1 | h1 | h1)
          · omega
          · omega
          · exact h1 (by rw [hil]; rfl))]
        simp
      have hge := goM_ends (c := Cq.cd ⟨R, A0, (i : Int), P, n0, c0, l⟩) (cells := (n0 : Int)) hm hlo (k := n0) (s := startM (Cq.cd ⟨R, A0, (i : Int), P, n0, c0, l⟩) (LL.take i)) Way.start (by show l.length ≤ n0 + 0; omega) (by show ((0 : Nat) : Int) + _ ≤ _; omega)
      have hcase : er = 3 ∨ (er = 0 ∧ st ≤ (n0 : Int)) := by
        rcases HOKR.out with ⟨h1, _, _⟩ | ⟨z, p, i2, a, h1, _, _, _, h2, h3, _⟩
        · rw [hrun] at h1
          rcases hge with h4 | ⟨z, p, h4⟩
          · rw [h4] at h1; injection h1 with h1; exact .inl h1.symm
          · rw [h4] at h1; cases h1
        · refine .inr ⟨h2, ?_⟩
          have h4 := runM_keeps h1
          have h5 : st = (z.st : Int) := h3
          omega
      clear hm hlq hlo hil hrun hge
      rcases hcase with rfl | ⟨rfl, hst⟩
      · go_wp2_with fail
        go_ret
        exact ⟨rfl, HB5.out⟩
      · have d9 : decide (st ≤ (n0 : Int)) = true := decide_eq_true hst
        go_wp2_with fail
        go_ret
        exact ⟨rfl, HB5.out⟩
    · exact fun D D' vs w' hD h => h.same hD
end Go.Proofs.YtgkngimeokhhgaaDoor
