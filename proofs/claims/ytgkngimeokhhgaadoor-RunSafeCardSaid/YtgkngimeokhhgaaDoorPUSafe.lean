/- purflelaw16.RunSafe returns true. -/
import Derived.Test.YtgkngimeokhhgaaDoorG25
namespace Go.Proofs.YtgkngimeokhhgaaDoor
open Go.RowKit Go.Sort

/-- whether code loads or stores -/
def touchB (l : List Ji) : Bool := l.any fun x => x.op == 6 || x.op == 7
set_option maxRecDepth 100000 in
set_option maxHeartbeats 8000000 in
theorem runSafe_any (w : World) (q : Cq) (hq : q.In w) (f : Int) (_hf0 : -9223372036854775808 ≤ f) (_hf1 : f ≤ 9223372036854775807) (ce0 : Int) (_hg0 : -9223372036854775808 ≤ ce0) (_hg1 : ce0 ≤ 9223372036854775807) (A : Option Addr) (n c : Nat) (LL : List (List Int)) (h : IntsLL w w.heap.size A n LL) (hn : n ≤ 5864062014805) (hc : n ≤ c) (hL : ∀ L ∈ LL, L.length ≤ 17592186044416) (hS : ShT w) :
    Calls Tryd.prog 3 #[q.val, .int .i64 f, .int .i64 ce0, .slice A n c] w fun r w' => r = .returned (.bool true) ∧ Below w.heap.size w w' := by
  have HQ := Lib.hid hq
  have HI := Lib.hid h
  have HLL := Lib.hid hL
  have HSH := Lib.hid hS
  have hn1 : q.n ≤ 9223372036854775807 := hq.n1
  have HQL : Hid (q.l.length = q.n) := hq.len
  obtain ⟨R, A0, I, P, n0, c0, l⟩ := q
  obtain ⟨W0, hW0⟩ : ∃ W, w.alloc (Cq.obj ⟨R, A0, I, P, n0, c0, l⟩) = W := ⟨_, rfl⟩
  obtain ⟨g0, hg0⟩ : ∃ z, w.heap.size = z := ⟨_, rfl⟩
  have hb1 : Below w.heap.size w W0 := by rw [← hW0]; exact lvBelow w _
  have h1 : W0.heap[g0]? = some (Cq.obj ⟨R, A0, I, P, n0, c0, l⟩) := by rw [← hW0, ← hg0]; exact heap_alloc_new w _
  have HB0 := Lib.hid hb1
  have HX0 := Lib.hid h1
  have hC := live16_any W0 (HSH.out.on HB0.out)
  clear hb1 h1 h hq hL hS
  go_enter Tryd.func3, Tryd.ntmps3
  go_wp2_with fail
  try rw [hW0]
  try rw [hg0]
  (with_reducible refine hC.mono ?_)
  rintro e w1 ⟨rfl, hb1⟩
  have HB1 := Lib.hid (HB0.out.trans (hb1.mono HB0.out.size))
  have HX1 := Lib.hid (keep_b hb1 HX0.out)
  clear hb1 hC hW0 hg0
  obtain ⟨k0, k1, k2, k3, _⟩ := lvCells HX1.out
  have hC := few16_any ⟨R, A0, I, P, n0, c0, l⟩ A n c LL w1 (HQ.out.on HB1.out) ((HI.out.below HB1.out).more HB1.out.size) hn HLL.out
  obtain ⟨fw, hfw⟩ : ∃ b, few16 ⟨R, A0, I, P, n0, c0, l⟩ n LL = b := ⟨_, rfl⟩
  rw [hfw] at hC
  have HFW := Lib.hid hfw
  clear hfw
  go_wp2_with fail
  (with_reducible refine hC.mono ?_)
  rintro e w2 ⟨rfl, hb2⟩
  have HB2 := Lib.hid (HB1.out.trans (hb2.mono HB1.out.size))
  have HX2 := Lib.hid (keep_b hb2 HX1.out)
  clear hb2 hC k0 k1 k2 k3
  cases fw with
  | false =>
    go_wp2_with fail
    go_ret
    exact ⟨rfl, HB2.out⟩
  | true =>
    obtain ⟨k0, k1, k2, k3, _⟩ := lvCells HX2.out
    have hC := validCheck_any ⟨R, A0, I, P, n0, c0, l⟩ w2 (HQ.out.on HB2.out) (HSH.out.on HB2.out)
    unfold ValidP at hC
    obtain ⟨v, hv⟩ : ∃ v, validE (Cq.cd ⟨R, A0, I, P, n0, c0, l⟩) = v := ⟨_, rfl⟩
    rw [hv] at hC
    have HV := Lib.hid hv
    clear hv
    go_wp2_with fail
    (with_reducible refine hC.mono ?_)
    rintro e w3 ⟨rfl, hb3⟩
    have HB3 := Lib.hid (HB2.out.trans (hb3.mono HB2.out.size))
    have HX3 := Lib.hid (keep_b hb3 HX2.out)
    clear hb3 hC k0 k1 k2 k3
    obtain ⟨k0, k1, k2, k3, _⟩ := lvCells HX3.out
    by_cases hv0 : v = 0
    case neg =>
      have d0 : (v != 0) = true := by simpa using hv0
      clear hv0
      go_wp2_with fail
      go_ret
      exact ⟨rfl, HB3.out⟩
    subst hv0
    by_cases hlt : (n : Int) < I
    · have d1 : decide ((n : Int) < I) = true := decide_eq_true hlt
      go_wp2_with fail
      go_ret
      exact ⟨rfl, HB3.out⟩
    have d1 : decide ((n : Int) < I) = false := decide_eq_false hlt
    by_cases hf2 : f < 0
    · have d2 : decide (f < 0) = true := decide_eq_true hf2
      go_wp2_with fail
      go_ret
      exact ⟨rfl, HB3.out⟩
    have d2 : decide (f < 0) = false := decide_eq_false hf2
    by_cases hg2 : ce0 < 0
    · have d3 : decide (ce0 < 0) = true := decide_eq_true hg2
      go_wp2_with fail
      go_ret
      exact ⟨rfl, HB3.out⟩
    have d3 : decide (ce0 < 0) = false := decide_eq_false hg2
    go_upto_region 4 with fail
    clear k0 k1 k2 k3 d1 d2 d3
    have hmay := may_of_validE HV.out
    have HMAY := Lib.hid hmay
    obtain ⟨⟨_, _, ha0, ha1, hi0, _, _, _⟩, _⟩ := Cd.may_parts hmay
    have hi0 : 0 ≤ I := hi0
    obtain ⟨i, rfl⟩ := Int.eq_ofNat_of_zero_le hi0
    have hin : i ≤ n := by omega
    obtain ⟨tm, htm, ht0, ht1⟩ : ∃ t, f.tmod 2000 = t ∧ 0 ≤ t ∧ t < 2000 := ⟨_, rfl, Int.tmod_nonneg 2000 (by omega), Int.tmod_lt_of_pos f (by decide)⟩
    have HCG : Hid (0 ≤ ce0) := by unfold Hid; omega
    have hmx : Tryd.prog.follows .mixedOrders = true := by kernel_rfl
    have hrt : ∀ w, (Instr.slice 25 (.slice A n c) none (some (.int .i64 (i : Int))) none).run Tryd.prog w = .ok (.slice A i c) w := fun w => run_takeR hin hc
    have HMX := Lib.hid hmx
    have hn300 : n0 ≤ 300 := (few16_parts HFW.out).1
    clear hmay hi0 hlt ha0 ha1 hf2 hg2
    let F : Nat → Value := fun o => match o with
      | 0 => .agg #[.int .i64 R, .int .i64 A0, .int .i64 (i : Int), .slice P n0 c0]
      | 1 => .int .i64 f
      | 2 => .int .i64 tm
      | 3 => .int .i64 ce0
      | 4 => .slice A n c
      | 5 => .pointer (some ⟨g0, 2, none⟩)
      | 6 => .int .i64 (i : Int)
      | 7 => .slice A i c
      | _ => undef
    refine wp_region_joint (JnJ w3 8 F (fun r => r.ok ⟨R, A0, (i : Int), P, n0, c0, l⟩ tm ce0 (LL.take i))) hmx (by kernel_rfl) (by kernel_rfl) ?_ ?_ ?_ ?_
    · intro D vs hD
      exact ⟨(Below.refl _ _).drew, fun j hj hd => (by rw [hD j (by show j < 15; omega)] at hd; cases hd), fun hd => (by rw [hD 8 (by decide)] at hd; cases hd), fun hd => (by rw [hD 9 (by decide)] at hd; cases hd), fun hd => (by rw [hD 10 (by decide)] at hd; cases hd), fun hd => (by rw [hD 11 (by decide)] at hd; cases hd), fun hd => (by rw [hD 12 (by decide)] at hd; cases hd), fun hd => (by rw [hD 13 (by decide)] at hd; cases hd), fun hd => (by rw [hD 14 (by decide)] at hd; cases hd)⟩
    · intro o o9 ho D vs w2 hJ hDi hd K hK
      have hi9 : o < 15 := (List.getElem?_eq_some_iff.1 ho).1
      generalize hlit : putV vs 0 _ _ = zz at hK ⊢
      simp only [List.map_cons, List.map_nil, putV, Act.put, List.setIfInBounds_toArray, List.set_cons_succ, List.set_cons_zero] at hlit
      subst hlit
      rcases (by omega : o = 0 ∨ o = 1 ∨ o = 2 ∨ o = 3 ∨ o = 4 ∨ o = 5 ∨ o = 6 ∨ o = 7 ∨ o = 8 ∨ o = 9 ∨ o = 10 ∨ o = 11 ∨ o = 12 ∨ o = 13 ∨ o = 14) with rfl | rfl | rfl | rfl | rfl | rfl | rfl | rfl | rfl | rfl | rfl | rfl | rfl | rfl | rfl
      · -- 0
        obtain rfl := Option.some.inj ho
        obtain ⟨z0, z1, z2, z3, _⟩ := lvCells (keep_b hJ.bel HX3.out)
        clear ho hd hi9
        go_simp
        exact hK _ (F 0) _ (fun q => q == 0 || D q) (by simp [Act.put]; try rfl) (fun q hq => by simp [hq]) (by simp) (hJ.one hDi (fun q hq => by simp [hq]) (by simp) (fun _ => rfl) (fun e => absurd e (by decide)) (fun e => absurd e (by decide)) (fun e => absurd e (by decide)) (fun e => absurd e (by decide)) (by decide) (by decide) (fun e => absurd e (by decide)) (Below.refl _ _))
      · -- 1
        obtain rfl := Option.some.inj ho
        clear ho hd hi9
        go_simp
        exact hK _ (F 1) _ (fun q => q == 1 || D q) (by simp [Act.put]; try rfl) (fun q hq => by simp [hq]) (by simp) (hJ.one hDi (fun q hq => by simp [hq]) (by simp) (fun _ => rfl) (fun e => absurd e (by decide)) (fun e => absurd e (by decide)) (fun e => absurd e (by decide)) (fun e => absurd e (by decide)) (by decide) (by decide) (fun e => absurd e (by decide)) (Below.refl _ _))
      · -- 2
        obtain rfl := Option.some.inj ho
        have v1 : vs 1 = F 1 := hJ.vals 1 (by decide) (hd 1 (by kernel_rfl))
        clear ho hd hi9
        dsimp only [F] at v1
        go_simp
        exact hK _ (F 2) _ (fun q => q == 2 || D q) (by simp [Act.put, v1]; try rfl) (fun q hq => by simp [hq]) (by simp) (hJ.one hDi (fun q hq => by simp [hq]) (by simp) (fun _ => rfl) (fun e => absurd e (by decide)) (fun e => absurd e (by decide)) (fun e => absurd e (by decide)) (fun e => absurd e (by decide)) (by decide) (by decide) (fun e => absurd e (by decide)) (Below.refl _ _))
      · -- 3
        obtain rfl := Option.some.inj ho
        clear ho hd hi9
        go_simp
        exact hK _ (F 3) _ (fun q => q == 3 || D q) (by simp [Act.put]; try rfl) (fun q hq => by simp [hq]) (by simp) (hJ.one hDi (fun q hq => by simp [hq]) (by simp) (fun _ => rfl) (fun e => absurd e (by decide)) (fun e => absurd e (by decide)) (fun e => absurd e (by decide)) (fun e => absurd e (by decide)) (by decide) (by decide) (fun e => absurd e (by decide)) (Below.refl _ _))
      · -- 4
        obtain rfl := Option.some.inj ho
        clear ho hd hi9
        go_simp
        exact hK _ (F 4) _ (fun q => q == 4 || D q) (by simp [Act.put]; try rfl) (fun q hq => by simp [hq]) (by simp) (hJ.one hDi (fun q hq => by simp [hq]) (by simp) (fun _ => rfl) (fun e => absurd e (by decide)) (fun e => absurd e (by decide)) (fun e => absurd e (by decide)) (fun e => absurd e (by decide)) (by decide) (by decide) (fun e => absurd e (by decide)) (Below.refl _ _))
      · -- 5
        obtain rfl := Option.some.inj ho
        clear ho hd hi9
        go_simp
        exact hK _ (F 5) _ (fun q => q == 5 || D q) (by simp [Act.put]; try rfl) (fun q hq => by simp [hq]) (by simp) (hJ.one hDi (fun q hq => by simp [hq]) (by simp) (fun _ => rfl) (fun e => absurd e (by decide)) (fun e => absurd e (by decide)) (fun e => absurd e (by decide)) (fun e => absurd e (by decide)) (by decide) (by decide) (fun e => absurd e (by decide)) (Below.refl _ _))
      · -- 6
        obtain rfl := Option.some.inj ho
        have v5 : vs 5 = F 5 := hJ.vals 5 (by decide) (hd 5 (by kernel_rfl))
        obtain ⟨z0, z1, z2, z3, _⟩ := lvCells (keep_b hJ.bel HX3.out)
        clear ho hd hi9
        dsimp only [F] at v5
        go_simp
        exact hK _ (F 6) _ (fun q => q == 6 || D q) (by simp [Act.put, v5]; try rfl) (fun q hq => by simp [hq]) (by simp) (hJ.one hDi (fun q hq => by simp [hq]) (by simp) (fun _ => rfl) (fun e => absurd e (by decide)) (fun e => absurd e (by decide)) (fun e => absurd e (by decide)) (fun e => absurd e (by decide)) (by decide) (by decide) (fun e => absurd e (by decide)) (Below.refl _ _))
      · -- 7
        obtain rfl := Option.some.inj ho
        have v4 : vs 4 = F 4 := hJ.vals 4 (by decide) (hd 4 (by kernel_rfl))
        have v6 : vs 6 = F 6 := hJ.vals 6 (by decide) (hd 6 (by kernel_rfl))
        clear ho hd hi9
        dsimp only [F] at v4
        dsimp only [F] at v6
        go_simp
        exact hK _ (F 7) _ (fun q => q == 7 || D q) (by simp [Act.put, v4, v6]; try rfl) (fun q hq => by simp [hq]) (by simp) (hJ.one hDi (fun q hq => by simp [hq]) (by simp) (fun _ => rfl) (fun e => absurd e (by decide)) (fun e => absurd e (by decide)) (fun e => absurd e (by decide)) (fun e => absurd e (by decide)) (by decide) (by decide) (fun e => absurd e (by decide)) (Below.refl _ _))
      · -- 8
        obtain rfl := Option.some.inj ho
        have v0 : vs 0 = F 0 := hJ.vals 0 (by decide) (hd 0 (by kernel_rfl))
        have v2 : vs 2 = F 2 := hJ.vals 2 (by decide) (hd 2 (by kernel_rfl))
        have v3 : vs 3 = F 3 := hJ.vals 3 (by decide) (hd 3 (by kernel_rfl))
        have v7 : vs 7 = F 7 := hJ.vals 7 (by decide) (hd 7 (by kernel_rfl))
        clear ho hd hi9
        dsimp only [F] at v0 v2 v3 v7
        have hcc := run16_any ⟨R, A0, (i : Int), P, n0, c0, l⟩ tm ce0 A i c (LL.take i) 2000 w2 (RunIn.smallT HQ.out HI.out hin HFW.out (HB3.out.trans (hJ.bel.mono HB3.out.size)) (by omega)) (HSH.out.on (HB3.out.trans (hJ.bel.mono HB3.out.size)))
        go_simp
        go_at_call 12
        refine hcc.mono ?_
        intro e wf hP
        obtain ⟨r, rfl, hr, hbf⟩ := hP.res
        exact hK _ r.tup _ (fun j => j == 8 || D j) (by simp [Act.put, v0, v2, v3, v7]; try rfl) (fun j hj => by simp [hj]) (by simp) (hJ.one hDi (fun q hq => by simp [hq]) (by simp) (fun e => absurd e (by decide)) (fun _ => ⟨r, rfl, hr⟩) (fun e => absurd e (by decide)) (fun e => absurd e (by decide)) (fun e => absurd e (by decide)) (by decide) (by decide) (fun e => absurd e (by decide)) hbf)
      · -- 9
        obtain rfl := Option.some.inj ho
        have hc := hd 8 (by kernel_rfl)
        clear ho hd hi9
        go_simp
        exact hK _ (vs 8) _ (fun q => q == 9 || D q) (by simp [Act.put]; try rfl) (fun q hq => by simp [hq]) (by simp) (hJ.one hDi (fun q hq => by simp [hq]) (by simp) (fun e => absurd e (by decide)) (fun e => absurd e (by decide)) (fun _ => ⟨hc, rfl⟩) (fun e => absurd e (by decide)) (fun e => absurd e (by decide)) (by decide) (by decide) (fun e => absurd e (by decide)) (Below.refl _ _))
      · -- 10
        obtain rfl := Option.some.inj ho
        have hm := hd 9 (by kernel_rfl)
        obtain ⟨hc, em⟩ := hJ.mv hm
        obtain ⟨r, er, _⟩ := hJ.call hc
        have e1 : vs 9 = r.tup := em.trans er
        clear ho hd hi9
        dsimp only [Res5.tup] at e1
        go_simp
        exact hK _ r.agg _ (fun q => q == 10 || D q) (by simp [Act.put, e1, er, Res5.tup]; try rfl) (fun q hq => by simp [hq]) (by simp) (hJ.one hDi (fun q hq => by simp [hq]) (by simp) (fun e => absurd e (by decide)) (fun e => absurd e (by decide)) (fun e => absurd e (by decide)) (fun _ => ⟨hm, fun r2 h2 => by rw [Res5.inj (er.symm.trans h2)]⟩) (fun e => absurd e (by decide)) (by decide) (by decide) (fun e => absurd e (by decide)) (Below.refl _ _))
      · -- 11
        obtain rfl := Option.some.inj ho
        have hm := hd 9 (by kernel_rfl)
        obtain ⟨hc, em⟩ := hJ.mv hm
        obtain ⟨r, er, _⟩ := hJ.call hc
        have e1 : vs 9 = r.tup := em.trans er
        clear ho hd hi9
        dsimp only [Res5.tup] at e1
        go_simp
        exact hK _ (.int .i64 r.er) _ (fun q => q == 11 || D q) (by simp [Act.put, e1, er, Res5.tup]; try rfl) (fun q hq => by simp [hq]) (by simp) (hJ.one hDi (fun q hq => by simp [hq]) (by simp) (fun e => absurd e (by decide)) (fun e => absurd e (by decide)) (fun e => absurd e (by decide)) (fun e => absurd e (by decide)) (fun _ => ⟨hm, fun r2 h2 => by rw [Res5.inj (er.symm.trans h2)]⟩) (by decide) (by decide) (fun e => absurd e (by decide)) (Below.refl _ _))
      · -- 12
        obtain rfl := Option.some.inj ho
        clear ho hd hi9
        go_simp
        exact hK _ (.pointer (some ⟨w2.heap.size, 0, none⟩)) _ (fun q => q == 12 || D q) (by simp [Act.put]; try rfl) (fun q hq => by simp [hq]) (by simp) (hJ.box hDi (fun q hq => by simp [hq]))
      · -- 13
        obtain rfl := Option.some.inj ho
        have h2 := hd 10 (by kernel_rfl)
        have h4 := hd 12 (by kernel_rfl)
        obtain ⟨r, g, e2, e4, hg, hst⟩ := hJ.store (D' := fun q => q == 13 || D q) hDi h2 h4 (fun q hq => by simp [hq]) (by simp)
        clear ho hd hi9
        dsimp only [Res5.agg] at e2
        unfold resZ at hg
        obtain ⟨u0, u1, u2, f0, f1, f2⟩ := cells3V hg
        go_simp
        exact hK _ undef _ (fun q => q == 13 || D q) (by simp [Act.put, e2, e4]; try rfl) (fun q hq => by simp [hq]) (by simp) (hst undef)
      · -- 14
        obtain rfl := Option.some.inj ho
        have h3 := hd 11 (by kernel_rfl)
        obtain ⟨hm, e3⟩ := hJ.e1 h3
        obtain ⟨r, er, _⟩ := hJ.call (hJ.mv hm).1
        have e1 := e3 r er
        clear ho hd hi9
        go_simp
        exact hK _ (.int .i64 r.er) _ (fun q => q == 14 || D q) (by simp [Act.put, e1, er]; try rfl) (fun q hq => by simp [hq]) (by simp) (hJ.one hDi (fun q hq => by simp [hq]) (by simp) (fun e => absurd e (by decide)) (fun e => absurd e (by decide)) (fun e => absurd e (by decide)) (fun e => absurd e (by decide)) (fun e => absurd e (by decide)) (by decide) (by decide) (fun _ => ⟨h3, fun r2 h2 => by rw [Res5.inj (er.symm.trans h2)]⟩) (Below.refl _ _))
    · intro D vs w5 hJ hall
      obtain ⟨r, g, hok, u0, u1, u2, u3, u4, u6, hgr⟩ := hJ.done (fun j hj => hall j hj)
      have v0 : vs 0 = F 0 := hJ.vals 0 (by decide) (hall 0 (by decide))
      have v1 : vs 1 = F 1 := hJ.vals 1 (by decide) (hall 1 (by decide))
      have v2 : vs 2 = F 2 := hJ.vals 2 (by decide) (hall 2 (by decide))
      have v3 : vs 3 = F 3 := hJ.vals 3 (by decide) (hall 3 (by decide))
      have v4 : vs 4 = F 4 := hJ.vals 4 (by decide) (hall 4 (by decide))
      have v5 : vs 5 = F 5 := hJ.vals 5 (by decide) (hall 5 (by decide))
      have v6 : vs 6 = F 6 := hJ.vals 6 (by decide) (hall 6 (by decide))
      have v7 : vs 7 = F 7 := hJ.vals 7 (by decide) (hall 7 (by decide))
      dsimp only [F] at v0 v1 v2 v3 v4 v5 v6 v7
      have hbel := hJ.bel
      generalize hlit : putV vs 0 _ _ = zz
      simp only [List.map_cons, List.map_nil, putV, Act.put, List.setIfInBounds_toArray, List.set_cons_succ, List.set_cons_zero] at hlit
      obtain ⟨X, nX, st, ce, er⟩ := r
      dsimp only [Res5.tup, Res5.agg, Res5.obj] at u0 u1 u2 u3 u6 hgr
      try dsimp only at u0 u1 u2 u3 u4 u6
      rw [v0, v1, v2, v3, v4, v5, v6, v7, u0, u1, u2, u3, u4, u6] at hlit
      subst hlit
      clear hJ hall v0 v1 v2 v3 v4 v5 v6 v7 u0 u1 u2 u3 u4 u6 D vs
      clear F
      have HOKR := Lib.hid hok
      have HB5 := Lib.hid (HB3.out.trans (hbel.mono HB3.out.size))
      have HX5 := Lib.hid (keep_b hbel HX3.out)
      have HGR := Lib.hid hgr
      clear hok hbel hgr
      have hil : (LL.take i).length = i := by rw [List.length_take, HI.out.1]; omega
      have hcase : (er = 0 ∧ 1 ≤ st ∧ st ≤ tm ∧ ce ≤ ce0 ∧ (nX : Int) = A0 - (i : Int) ∧ 0 ≤ A0 ∧ A0 ≤ 128) ∨ ((er = 9 ∨ er = 10) ∧ st = 0 ∧ nX = 0) ∨ (er = 3 ∧ touchB l = true) := by
        obtain ⟨⟨_, _, ha0, ha1, hi0, hi1, _, _⟩, _⟩ := Cd.may_parts HMAY.out
        have ha0 : 0 ≤ A0 := ha0
        have ha1 : A0 ≤ 128 := ha1
        have hi1 : (i : Int) ≤ A0 := hi1
        rcases HOKR.out with ⟨h1, h2, h3⟩ | ⟨z, p, i2, a, h1, hI, ha, hia, h2, h3, h4, h5⟩
        · have hg : goM (Cq.cd ⟨R, A0, (i : Int), P, n0, c0, l⟩) ce0 tm.toNat (startM (Cq.cd ⟨R, A0, (i : Int), P, n0, c0, l⟩) (LL.take i)) = .error er := by
            unfold runM at h1
            rwa [if_neg (by rw [HV.out]; simp), if_neg (by
              rintro (h6 | h6 | h6)
              · omega
              · have := HCG.out; omega
              · exact h6 (by rw [hil]; rfl))] at h1
          rcases goM_errors hg with h6 | h6 | ⟨h6, x, hx, ho⟩
          · exact .inr (.inl ⟨.inl h6, h3, h2⟩)
          · exact .inr (.inl ⟨.inr h6, h3, h2⟩)
          · refine .inr (.inr ⟨h6, List.any_eq_true.2 ⟨x, hx, ?_⟩⟩)
            rcases ho with ho | ho <;> simp [ho]
        · have h6 := runM_keeps h1
          have hg := goM_keeps (runM_parts h1).2.2.2.2
          have hi2 : (i : Int) = (i2 : Int) := hI
          have hst : st = (z.st : Int) := h3
          have hce : ce = (z.ce : Int) := h4
          have hnx : nX = a - i2 := h5
          have hal : z.A.length = i + (A0.toNat - i) := by
            rw [hg.2.2.2.1]
            show (LL.take i ++ List.replicate (A0.toNat - (LL.take i).length) []).length = _
            rw [List.length_append, List.length_replicate, hil]
          exact .inl ⟨h2, by omega, by omega, by omega, by omega, ha0, ha1⟩
      have HC := Lib.hid hcase
      clear hil hcase HOKR hrt
      obtain ⟨k0, k1, k2, k3, _⟩ := lvCells HX5.out
      go_upto_region 7 with fail
      clear k0 k1 k2 k3
      go_loopw [56, 12] (fun v t wr => ∃ k : Nat, v = .int .i64 (k : Int) ∧ t = .bool (touchB (l.take k)) ∧ k ≤ n0 ∧ Hid (Below w.heap.size w wr) ∧ Hid (wr.heap[g0]? = some (Cq.obj ⟨R, A0, (i : Int), P, n0, c0, l⟩)) ∧ Hid (wr.heap[g]? = some (.cells #[.slice X nX nX, .int .i64 st, .int .i64 ce] 31 (0, 0)))) (fun v _ _ => n0 - (intOf v).toNat)
      case atStart => exact ⟨0, rfl, rfl, Nat.zero_le _, HB5, HX5, HGR⟩
      case round =>
        obtain ⟨k, rfl, rfl, hk, HBW, HXW, HGW⟩ := hrel
        clear HB5 HX5 HGR
        by_cases hkn : k < n0
        case neg =>
          obtain rfl : k = n0 := by omega
          have d0 : decide (k < k) = false := decide_eq_false (Nat.lt_irrefl _)
          have hlt : l.take k = l := List.take_of_length_le (by have := HQL.out; omega)
          rw [hlt]
          clear hlt
          obtain ⟨k0, k1, k2, k3, _⟩ := lvCells HXW.out
          obtain ⟨y0, y1, y2⟩ := cells3U HGW.out
          rcases HC.out with ⟨rfl, c1, c2, c3, c4, c5, c6⟩ | ⟨rfl | rfl, rfl, rfl⟩ | ⟨rfl, c1⟩
          · have b1 : decide (1 ≤ st) = true := decide_eq_true c1
            have b2 : decide (st ≤ tm) = true := decide_eq_true c2
            have b3 : decide (ce ≤ ce0) = true := decide_eq_true c3
            have b4 : A0 - (i : Int) = (nX : Int) := c4.symm
            have b5 : IntKind.i64.wrap (nX : Int) = (nX : Int) := by rw [wrap_eq]; exact IntWalk.wrap64_in _ ⟨by omega, by omega⟩
            clear c1 c2 c3 c4 c5 c6
            go_wp2_with fail
            go_ret
            exact ⟨rfl, HBW.out⟩
          · go_wp2_with fail
            go_ret
            exact ⟨rfl, HBW.out⟩
          · go_wp2_with fail
            go_ret
            exact ⟨rfl, HBW.out⟩
          · rw [c1]
            go_wp2_with fail
            go_ret
            exact ⟨rfl, HBW.out⟩
        have hk1 : (k : Int) < (n0 : Int) := by omega
        have hk0 : (0 : Int) ≤ (k : Int) := by omega
        obtain ⟨bP, oP, x, hP, _, HXL, hcJ, hok⟩ := (HQ.out.ins.below HBW.out).at_ (k := k) hkn
        have hP : P = some ⟨bP, oP, none⟩ := hP
        subst hP
        obtain ⟨y0, y1, y2, y3, y4⟩ := hcJ
        obtain ⟨W1, hW1⟩ : ∃ W, wr.alloc (.cells #[.int .i64 x.op, .int .i64 x.a, .int .i64 x.b, .int .i64 x.c, .int .i64 x.n] 35) = W := ⟨_, rfl⟩
        have hx1 := heap_alloc_new wr (.cells #[.int .i64 x.op, .int .i64 x.a, .int .i64 x.b, .int .i64 x.c, .int .i64 x.n] 35)
        have hb1 : Below wr.heap.size wr W1 := by rw [← hW1]; exact lvBelow wr _
        rw [hW1] at hx1
        obtain ⟨gx, hgx⟩ : ∃ z, wr.heap.size = z := ⟨_, rfl⟩
        rw [hgx] at hx1
        have HX1 := Lib.hid hx1
        have HB1W := Lib.hid (HBW.out.trans (hb1.mono HBW.out.size))
        have HXW1 := Lib.hid (keep_b hb1 HXW.out)
        have HGW1 := Lib.hid (keep_b hb1 HGW.out)
        have HTS : Hid (touchB (l.take (k + 1)) = (touchB (l.take k) || (x.op == 6 || x.op == 7))) := by
          unfold Hid touchB
          rw [take_succU HXL.out, List.any_append]
          simp
        go_upto_region 9 with fail
        try rw [hW1]
        try rw [hgx]
        clear hW1 hgx hx1 hb1 y0 y1 y2 y3 y4 hok
        obtain ⟨⟨y0, _, _, _, _⟩, _⟩ := box_cellsJ HX1.out
        obtain ⟨b, hb⟩ : ∃ b, touchB (l.take k) = b := ⟨_, rfl⟩
        rw [hb] at HTS
        rw [hb]
        clear hb
        cases b with
        | true =>
          go_wp2_with fail
          go_roundw
          case rel => exact ⟨k + 1, rfl, by rw [HTS.out]; rfl, by omega, HB1W, HXW1, HGW1⟩
          case measure => simp [intOf]; omega
        | false =>
          obtain ⟨b6, hb6⟩ : ∃ b, (x.op == 6) = b := ⟨_, rfl⟩
          obtain ⟨b7, hb7⟩ : ∃ b, (x.op == 7) = b := ⟨_, rfl⟩
          rw [hb6, hb7] at HTS
          cases b6 with
          | true =>
            go_wp2_with fail
            go_roundw
            case rel => exact ⟨k + 1, rfl, by rw [HTS.out]; rfl, by omega, HB1W, HXW1, HGW1⟩
            case measure => simp [intOf]; omega
          | false =>
            go_wp2_with fail
            go_roundw
            case rel => exact ⟨k + 1, rfl, by rw [HTS.out]; rfl, by omega, HB1W, HXW1, HGW1⟩
            case measure => simp [intOf]; omega
    · exact fun D D' vs w' hD h => h.same hD
end Go.Proofs.YtgkngimeokhhgaaDoor
