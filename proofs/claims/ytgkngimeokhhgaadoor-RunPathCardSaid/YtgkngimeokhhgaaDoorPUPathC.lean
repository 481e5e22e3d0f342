/- The program's Path. -/
import Derived.Test.YtgkngimeokhhgaaDoorPUPathM
namespace Go.Proofs.YtgkngimeokhhgaaDoor
open Go.RowKit Go.Sort

set_option maxRecDepth 100000 in
set_option maxHeartbeats 8000000 in
theorem path16_any (q : Cq) (fuel cells : Int) (A : Option Addr) (n c : Nat) (ins : List (List Int)) (M : Nat) (w : World) (h : RunIn q fuel A n ins M w) (hfu : fuel ≤ 100000) (hS : ShT w) :
    Calls Tryd.prog 14 #[q.val, .int .i64 fuel, .int .i64 cells, .slice A n c] w fun e w' => ∃ Ap np cp, e = .returned (.tuple #[.slice Ap np cp, .int .i64 (pathR (runM q.cd fuel cells ins)).2]) ∧ (pathR (runM q.cd fuel cells ins)).1.length = np ∧ OwnI w' w.heap.size 3 Ap cp (pathR (runM q.cd fuel cells ins)).1 ∧ Below w.heap.size w w' := by
  have hmx : Tryd.prog.follows .mixedOrders = true := by kernel_rfl
  obtain ⟨W0, hW0⟩ : ∃ W, w.alloc q.obj = W := ⟨_, rfl⟩
  obtain ⟨g0, hg0⟩ : ∃ z, w.heap.size = z := ⟨_, rfl⟩
  have hb1 : Below w.heap.size w W0 := by rw [← hW0]; exact lvBelow w _
  have h1 : W0.heap[g0]? = some q.obj := by rw [← hW0, ← hg0]; exact heap_alloc_new w _
  have HB0 := Lib.hid hb1
  have HX0 := Lib.hid h1
  have HIN := Lib.hid h
  have hC := need16_any q fuel cells A n c ins M W0 (h.on hb1) (hS.on hb1)
  obtain ⟨rr, hrr⟩ : ∃ rr, runM q.cd fuel cells ins = rr := ⟨_, rfl⟩
  rw [hrr] at hC ⊢
  have HR := Lib.hid hrr
  obtain ⟨R, A0, I, P, n0, c0, l⟩ := q
  obtain ⟨k0, k1, k2, k3, _⟩ := lvCells h1
  clear hb1 h1 h hrr hS
  cases rr with
  | error v =>
    have d0 : (v != 0) = true := by simpa using runM_err HR.out
    have hC : Calls Tryd.prog 33 #[Cq.val ⟨R, A0, I, P, n0, c0, l⟩, .int .i64 fuel, .int .i64 cells, .slice A n c] W0 fun e w' => e = .returned (.tuple #[.int .i64 0, .int .i64 0, .int .i64 v]) ∧ Below W0.heap.size W0 w' := hC
    go_enter Tryd.func14, Tryd.ntmps14
    go_wp2_with fail
    try rw [hW0]
    try rw [hg0]
    (with_reducible refine hC.mono ?_)
    rintro e w3 ⟨rfl, hb3⟩
    have HB3 := Lib.hid (HB0.out.trans (hb3.mono HB0.out.size))
    clear hb3 hC k0 k1 k2 k3 hW0 hg0
    go_wp2_with fail
    go_ret2
    exact ⟨none, 0, 0, rfl, rfl, OwnI.nil_ _ _ _, HB3.out⟩
  | ok zp =>
    obtain ⟨z, PP⟩ := zp
    have hC : Calls Tryd.prog 33 #[Cq.val ⟨R, A0, I, P, n0, c0, l⟩, .int .i64 fuel, .int .i64 cells, .slice A n c] W0 fun e w' => e = .returned (.tuple #[.int .i64 (z.st : Int), .int .i64 (z.ce : Int), .int .i64 0]) ∧ Below W0.heap.size W0 w' := hC
    obtain ⟨ks1, ks2, ks3, ks4, ks5⟩ := runM_keeps HR.out
    obtain ⟨hval, hf0, hc0, hil, hgo⟩ := runM_parts HR.out
    obtain ⟨N, hN⟩ : ∃ N, z.st = N := ⟨_, rfl⟩
    rw [hN] at hC
    have HN : Hid (PP.length = N) := by rw [← hN]; exact ks1.symm
    have hN9 : N ≤ 100000 := by have := HN.out; omega
    have HV := Lib.hid (And.intro hval (And.intro hf0 (And.intro hc0 (And.intro hil hgo))))
    go_enter Tryd.func14, Tryd.ntmps14
    go_wp2_with fail
    try rw [hW0]
    try rw [hg0]
    (with_reducible refine hC.mono ?_)
    rintro e w3 ⟨rfl, hb3⟩
    have HB3 := Lib.hid (HB0.out.trans (hb3.mono HB0.out.size))
    have HX9 := Lib.hid (keep_b hb3 HX0.out)
    have HBC : Hid (∀ w2, Below w3.heap.size w3 w2 → Calls Tryd.prog 29 #[Cq.val ⟨R, A0, I, P, n0, c0, l⟩, .int .i64 fuel, .int .i64 cells, .slice A n c] w2 fun e w' => ∃ m rs, e = .returned (.pointer (some ⟨m.g, 0, none⟩)) ∧ MsM w' w2.heap.size m (startM (Cq.cd ⟨R, A0, I, P, n0, c0, l⟩) ins) rs false ∧ BegF ⟨R, A0, I, P, n0, c0, l⟩ fuel cells A n ins m ∧ Below w2.heap.size w2 w') := fun w2 hb2 =>
      begin_any ⟨R, A0, I, P, n0, c0, l⟩ fuel cells A n c ins w2 (HIN.out.code.on (HB3.out.trans (hb2.mono HB3.out.size))) ((HIN.out.rows.below (HB3.out.trans (hb2.mono HB3.out.size))).more (HB3.out.trans (hb2.mono HB3.out.size)).size) (may_of_validE hval) hil
    obtain ⟨i0, hi0, hz0, hz1, hz2⟩ := info_parts infoInt
    have hmk := run_makeIn (P := Tryd.prog) 39 3 i0 Tryd.underlying39 hi0 hz0 hz1 hz2 N hN9
    clear hb3 hC k0 k1 k2 k3 hW0 hg0 hval hf0 hc0 hil hgo ks1 ks2 ks3 ks4 ks5 hN hi0 hz0 hz1 hz2
    go_upto_region 4 with fail
    let F : Nat → Value := fun o => match o with
      | 0 => .agg #[.int .i64 R, .int .i64 A0, .int .i64 I, .slice P n0 c0]
      | 1 => .int .i64 fuel
      | 2 => .int .i64 cells
      | 3 => .slice A n c
      | 5 => .int .i64 (N : Int)
      | _ => undef
    refine wp_region_joint (PtJ w3 N ⟨R, A0, I, P, n0, c0, l⟩ fuel cells A n ins F) hmx (by kernel_rfl) (by kernel_rfl) ?_ ?_ ?_ ?_
    · intro D vs hD
      exact ⟨(Below.refl _ _).drew, fun i hi _ hd => (by rw [hD i (by show i < 9; omega)] at hd; cases hd), fun hd => (by rw [hD 4 (by decide)] at hd; cases hd), fun hd => (by rw [hD 6 (by decide)] at hd; cases hd), fun hd => (by rw [hD 7 (by decide)] at hd; cases hd), fun hd => (by rw [hD 8 (by decide)] at hd; cases hd)⟩
    · intro o o9 ho D vs w2 hJ hDi hd K hK
      have hi9 : o < 9 := (List.getElem?_eq_some_iff.1 ho).1
      generalize hlit : putV vs 0 _ _ = zz at hK ⊢
      simp only [List.map_cons, List.map_nil, putV, Act.put, List.setIfInBounds_toArray, List.set_cons_succ, List.set_cons_zero] at hlit
      subst hlit
      rcases (by omega : o = 0 ∨ o = 1 ∨ o = 2 ∨ o = 3 ∨ o = 4 ∨ o = 5 ∨ o = 6 ∨ o = 7 ∨ o = 8) with rfl | rfl | rfl | rfl | rfl | rfl | rfl | rfl | rfl
      · -- 0
        obtain rfl := Option.some.inj ho
        obtain ⟨z0, z1, z2, z3, _⟩ := lvCells (keep_b hJ.bel HX9.out)
        clear ho hd hi9
        go_simp
        exact hK _ (F 0) _ (fun q => q == 0 || D q) (by simp [Act.put]; try rfl) (fun q hq => by simp [hq]) (by simp) (hJ.other (by decide) (fun q hq => by simp [hq]))
      · -- 1
        obtain rfl := Option.some.inj ho
        clear ho hd hi9
        go_simp
        exact hK _ (F 1) _ (fun q => q == 1 || D q) (by simp [Act.put]; try rfl) (fun q hq => by simp [hq]) (by simp) (hJ.other (by decide) (fun q hq => by simp [hq]))
      · -- 2
        obtain rfl := Option.some.inj ho
        clear ho hd hi9
        go_simp
        exact hK _ (F 2) _ (fun q => q == 2 || D q) (by simp [Act.put]; try rfl) (fun q hq => by simp [hq]) (by simp) (hJ.other (by decide) (fun q hq => by simp [hq]))
      · -- 3
        obtain rfl := Option.some.inj ho
        clear ho hd hi9
        go_simp
        exact hK _ (F 3) _ (fun q => q == 3 || D q) (by simp [Act.put]; try rfl) (fun q hq => by simp [hq]) (by simp) (hJ.other (by decide) (fun q hq => by simp [hq]))
      · -- 4
        obtain rfl := Option.some.inj ho
        have v0 : vs 0 = F 0 := hJ.vals 0 (by decide) (by decide) (hd 0 (by kernel_rfl))
        have v1 : vs 1 = F 1 := hJ.vals 1 (by decide) (by decide) (hd 1 (by kernel_rfl))
        have v2 : vs 2 = F 2 := hJ.vals 2 (by decide) (by decide) (hd 2 (by kernel_rfl))
        have v3 : vs 3 = F 3 := hJ.vals 3 (by decide) (by decide) (hd 3 (by kernel_rfl))
        clear ho hd hi9
        dsimp only [F] at v0 v1 v2 v3
        have hcc := HBC.out w2 hJ.bel
        go_simp
        go_at_call 29
        refine hcc.mono ?_
        rintro e wf ⟨m, rs, rfl, hM, hmc, hbf⟩
        exact hK _ (.pointer (some ⟨m.g, 0, none⟩)) _ (fun j => j == 4 || D j) (by simp [Act.put, v0, v1, v2, v3]; try rfl) (fun j hj => by simp [hj]) (by simp) (hJ.call hDi hM hmc hbf (fun j hj => by simp [hj]))
      · -- 5
        obtain rfl := Option.some.inj ho
        clear ho hd hi9
        go_simp
        exact hK _ (F 5) _ (fun q => q == 5 || D q) (by simp [Act.put]; try rfl) (fun q hq => by simp [hq]) (by simp) (hJ.other (by decide) (fun q hq => by simp [hq]))
      · -- 6
        obtain rfl := Option.some.inj ho
        have v5 : vs 5 = F 5 := hJ.vals 5 (by decide) (by decide) (hd 5 (by kernel_rfl))
        clear ho hd hi9
        dsimp only [F] at v5
        have hmk2 := hmk w2
        go_simp
        exact hK _ (.slice (some ⟨w2.heap.size, 0, none⟩) N N) _ (fun q => q == 6 || D q) (by simp [Act.put, v5]; try rfl) (fun q hq => by simp [hq]) (by simp) (hJ.made hDi (fun q hq => by simp [hq]))
      · -- 7
        obtain rfl := Option.some.inj ho
        have h4 := hd 4 (by kernel_rfl)
        have h7 := hJ.as7 (D' := fun q => q == 7 || D q) h4 (fun q hq => by simp [hq])
        clear ho hd hi9
        go_simp
        exact hK _ (vs 4) _ (fun q => q == 7 || D q) (by simp [Act.put]; try rfl) (fun q hq => by simp [hq]) (by simp) h7
      · -- 8
        obtain rfl := Option.some.inj ho
        have h6 := hd 6 (by kernel_rfl)
        have h8 := hJ.as8 (D' := fun q => q == 8 || D q) h6 (fun q hq => by simp [hq])
        clear ho hd hi9
        go_simp
        exact hK _ (vs 6) _ (fun q => q == 8 || D q) (by simp [Act.put]; try rfl) (fun q hq => by simp [hq]) (by simp) h8
    · intro D vs w5 hJ hall
      obtain ⟨h4, e7⟩ := hJ.v7 (hall 7 (by decide))
      obtain ⟨h6, e8⟩ := hJ.v8 (hall 8 (by decide))
      obtain ⟨m, rs, B, v4, hM, hBB, hmc⟩ := hJ.c4 h4
      obtain ⟨gl, v6, hglb, hgl⟩ := hJ.m6 h6
      have v7 : vs 7 = .pointer (some ⟨m.g, 0, none⟩) := e7.trans v4
      have v8 : vs 8 = .slice (some ⟨gl, 0, none⟩) N N := e8.trans v6
      have v0 : vs 0 = F 0 := hJ.vals 0 (by decide) (by decide) (hall 0 (by decide))
      have v1 : vs 1 = F 1 := hJ.vals 1 (by decide) (by decide) (hall 1 (by decide))
      have v2 : vs 2 = F 2 := hJ.vals 2 (by decide) (by decide) (hall 2 (by decide))
      have v3 : vs 3 = F 3 := hJ.vals 3 (by decide) (by decide) (hall 3 (by decide))
      have v5 : vs 5 = F 5 := hJ.vals 5 (by decide) (by decide) (hall 5 (by decide))
      dsimp only [F] at v0 v1 v2 v3 v5
      have hbel := hJ.bel
      generalize hlit : putV vs 0 _ _ = zz
      simp only [List.map_cons, List.map_nil, putV, Act.put, List.setIfInBounds_toArray, List.set_cons_succ, List.set_cons_zero] at hlit
      rw [v0, v1, v2, v3, v4, v5, v6, v7, v8] at hlit
      subst hlit
      clear hJ hall v0 v1 v2 v3 v4 v5 v6 v7 v8 e7 e8 h4 h6 D vs
      clear F
      have HB5 := Lib.hid (HB3.out.trans (hbel.mono HB3.out.size))
      obtain ⟨m1, m2, m3, m4, m5, m6, m7, m8, m9⟩ := hmc
      have m1 : m.l = l := m1
      have m2 : m.n0 = n0 := m2
      have m3 : (m.i : Int) = I := m3
      have m7 : m.P = P := m7
      have hlen : l.length = n0 := HIN.out.code.len
      have hfew := HIN.out.few
      have hok : McOk m (Cq.cd ⟨R, A0, I, P, n0, c0, l⟩) M := ⟨m1, m2.trans hlen.symm, may_of_validE HV.out.1, fun x hx ho => by rw [m3]; exact valid_own HV.out.1 x hx ho, HIN.out.code.ins.2.1, by have := HV.out.2.2.2.1; have h9 : (ins.length : Int) = I := this; rw [m4]; omega, m3, by rw [m5]; exact hfew, by rw [m6]; exact HV.out.2.2.1⟩
      have hat := MsAt.begin hok HV.out.1 HV.out.2.1 HV.out.2.2.1 m5 m6 HV.out.2.2.2.1 HIN.out.vals HIN.out.len
      have hst : (startM (Cq.cd ⟨R, A0, I, P, n0, c0, l⟩) ins).st = 0 := rfl
      have HPI : Hid (PthI m (Cq.cd ⟨R, A0, I, P, n0, c0, l⟩) M PP z 0 (startM (Cq.cd ⟨R, A0, I, P, n0, c0, l⟩) ins) false) := .inl ⟨rfl, hat, hst, by rw [m5, m6, show (fuel - ((0 : Nat) : Int)).toNat = fuel.toNat by simp, List.drop_zero]; exact HV.out.2.2.2.2⟩
      have HOK := Lib.hid hok
      have hw3 : w.heap.size ≤ w3.heap.size := HB3.out.size
      have HM5 : Hid (MsM w5 w.heap.size m (startM (Cq.cd ⟨R, A0, I, P, n0, c0, l⟩) ins) rs false) := hM.lower (Nat.le_trans hw3 hBB) (by rw [m1, m2, m7]; exact HIN.out.code.ins.below HB5.out) (by rw [m8, m9, m4]; exact HIN.out.rows.below HB5.out)
      have HL5 : Hid (OwnI w5 w.heap.size 3 (some ⟨gl, 0, none⟩) N (List.replicate N 0)) := OwnI.madeN hgl (Nat.le_trans hw3 hglb) hN9
      have HGL : Hid (w.heap.size ≤ gl) := Nat.le_trans hw3 hglb
      clear hM hBB hglb hgl hbel m1 m2 m3 m4 m5 m6 hlen hfew hok hat hst hmk
      go_upto_region 6 with fail
      go_loopw [37] (fun v wr => ∃ (k : Nat) (s : Ms) (rs' : List RowU) (en : Bool) (xs : List Int), v = .int .i64 (k : Int) ∧ k ≤ N ∧ Hid (xs.length = N ∧ ∀ j, j < k → xs[j]? = (PP.map fun n : Nat => (n : Int))[j]?) ∧ Hid (MsM wr w.heap.size m s rs' en) ∧ Hid (PthI m (Cq.cd ⟨R, A0, I, P, n0, c0, l⟩) M PP z k s en) ∧ Hid (OwnI wr w.heap.size 3 (some ⟨gl, 0, none⟩) N xs) ∧ Hid (Below w.heap.size w wr)) (fun v _ => N - (intOf v).toNat)
      case atStart => exact ⟨0, _, rs, false, _, rfl, Nat.zero_le _, ⟨List.length_replicate, fun j hj => absurd hj (Nat.not_lt_zero j)⟩, HM5, HPI, HL5, HB5⟩
      case round =>
        obtain ⟨k, s, rs', en, xs, rfl, hk, HXS, HM, HPK, HOL, HBW⟩ := hrel
        clear HM5 HPI HL5 HB5
        by_cases hkn : k < N
        case neg =>
          obtain rfl : k = N := by omega
          have d0 : decide (k < k) = false := decide_eq_false (Nat.lt_irrefl _)
          go_wp2_with fail
          go_ret2
          have e : xs = PP.map fun n : Nat => (n : Int) := by
            refine List.ext_getElem? fun j => ?_
            by_cases hj : j < k
            · exact HXS.out.2 j hj
            · rw [List.getElem?_eq_none (by have := HXS.out.1; omega), List.getElem?_eq_none (by rw [List.length_map]; have := HN.out; omega)]
          refine ⟨some ⟨gl, 0, none⟩, k, k, rfl, ?_, by have := HOL.out; rw [e] at this; exact this, HBW.out⟩
          show (PP.map fun n : Nat => (n : Int)).length = k
          rw [List.length_map]; exact HN.out
        have hk1 : (k : Int) < (N : Int) := by omega
        have hk0 : (0 : Int) ≤ (k : Int) := by omega
        have hen : en = false := by
          rcases HPK.out with ⟨h, _⟩ | ⟨_, h⟩
          · exact h
          · have := HN.out; omega
        subst hen
        obtain ⟨hf, hPk, z2, hz2, hP2⟩ := HPK.out.step HOK.out
        have hat : MsAt m (Cq.cd ⟨R, A0, I, P, n0, c0, l⟩) M s := by
          rcases HPK.out with ⟨_, h, _⟩ | ⟨h, _⟩
          · exact h
          · cases h
        have hsm := (small_at HOK.out.may hat.way).2
        have hv9 : (-9223372036854775808 : Int) ≤ (s.at_ : Int) ∧ (s.at_ : Int) ≤ 9223372036854775807 := by omega
        obtain ⟨x0, x1, x2, x3, x4, x5, x6, x7, x8, x9, x10, x11, x12, x13⟩ := MsM.cells HM.out
        obtain ⟨old, hold⟩ : ∃ u, xs[k]? = some u := ⟨_, List.getElem?_eq_getElem (by have := HXS.out.1; omega)⟩
        obtain ⟨o0, of⟩ := HOL.out.cell_ hold
        have hO2 := HOL.out.set_ k (s.at_ : Int) hv9
        have hM2 := HOL.out.offM HM.out k (.int .i64 (s.at_ : Int)) HGL.out
        have hB2 : Below w.heap.size w (wr.setCell ⟨gl, k, none⟩ (.int .i64 (s.at_ : Int))) := HBW.out.setCell (p := ⟨gl, k, none⟩) HGL.out _
        obtain ⟨W2, hW2⟩ : ∃ W, wr.setCell ⟨gl, k, none⟩ (.int .i64 (s.at_ : Int)) = W := ⟨_, rfl⟩
        rw [hW2] at hO2 hM2 hB2
        have cS := step_any m (Cq.cd ⟨R, A0, I, P, n0, c0, l⟩) M s rs' w.heap.size W2 hM2 HOK.out hat
        have cS2 := cS.mono (R' := fun e w' => e = .returned (.int .i64 0) ∧ ∃ rs9, MsM w' w.heap.size m z2 rs9 (decide (((Cq.cd ⟨R, A0, I, P, n0, c0, l⟩).l.getD s.at_ zJi).op = 0)) ∧ BelI w.heap.size W2 w') (fun e w9 hP => by
          rcases hP.ne with ⟨hf2, _, _⟩ | ⟨_, z3, rs9, hz3, he, hM9, hB9⟩ | ⟨_, v, _, hz3, _⟩
          · exact absurd hf2 (by omega)
          · obtain rfl : z2 = z3 := by have := hz2.symm.trans hz3; injection this
            exact ⟨he, rs9, hM9, hB9⟩
          · have := hz2.symm.trans hz3; cases this)
        clear cS
        have HP2 := Lib.hid hP2
        have HO2 := Lib.hid hO2
        have HB2 := Lib.hid hB2
        have HXS2 : Hid ((xs.set k (s.at_ : Int)).length = N ∧ ∀ j, j < k + 1 → (xs.set k (s.at_ : Int))[j]? = (PP.map fun n : Nat => (n : Int))[j]?) := by
          refine ⟨by rw [List.length_set]; exact HXS.out.1, fun j hj => ?_⟩
          by_cases e : j = k
          · subst e
            rw [List.getElem?_set_self (by have := HXS.out.1; omega), List.getElem?_map, hPk]; rfl
          · rw [List.getElem?_set_ne (Ne.symm e)]
            exact HXS.out.2 j (by omega)
        clear hf hPk hz2 hP2 hat hO2 hM2 hB2 x0 x1 x2 x3 x4 x5 x6 x7 x8 x9 x10 x11 x13 hold hsm hv9 hk
        go_upto_region 9 with fail
        try rw [hW2]
        clear hW2 x12 o0 of
        go_wp2_with (first | (go_at_call 34; refine cS2.mono ?_; rintro e w9 ⟨rfl, rs9, hM9, hB9⟩))
        have HO9 := Lib.hid (HO2.out.keepI hB9)
        have HB9 := Lib.hid (HB2.out.trans hB9.bel)
        have HM9 := Lib.hid hM9
        clear hM9 hB9 cS2
        go_roundw
        case rel => exact ⟨k + 1, z2, rs9, _, _, rfl, by omega, HXS2, HM9, HP2, HO9, HB9⟩
        case measure => simp [intOf]; omega
    · exact fun D D' vs w' hD h => h.same hD
end Go.Proofs.YtgkngimeokhhgaaDoor
