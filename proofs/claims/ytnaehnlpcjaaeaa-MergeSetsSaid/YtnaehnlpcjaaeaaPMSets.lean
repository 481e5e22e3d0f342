/- The walk of MergeSets. -/
import Derived.Test.YtnaehnlpcjaaeaaPMSetsM
import Derived.BigQuiet
namespace Go.Proofs.Ytnaehnlpcjaaeaa
open Go.RowKit

theorem IntsLL_nil0 {w : World} {B : Nat} : IntsLL w B none 0 [] := IntsLL.nil_ w B none
set_option maxRecDepth 100000 in
set_option maxHeartbeats 8000000 in
theorem mergeSets_in (w : World) (A : Option Addr) (n c : Nat) (LL : List (List Int)) (h : IntsLL w w.heap.size A n LL) (hL : ∀ L ∈ LL, L.length ≤ 17592186044416) (s1 : n ≤ 50) (s2 : LL.flatten.length ≤ 500) (s3 : 0 < n) (hR : AllRise LL) (a : Int) :
    Calls Try.prog 5 #[.slice A n c, .int .i64 a] w fun e w' => e = .returned (.bool true) ∧ Below w.heap.size w w' := by
  have cL := mLive_any w
  have HLM : Hid (∀ L ∈ LL, L.length ≤ 500) := fun L hm => by
    have : L.length ≤ LL.flatten.length := (List.sublist_flatten_of_mem hm).length_le
    omega
  have HH := Lib.hid h
  have HL := Lib.hid hL
  have HT := Lib.hid s2
  have HR := Lib.hid hR
  have HLN : Hid (LL.length = n) := h.1
  obtain ⟨kk, hkn, hkk, hm1, hm2⟩ := turn_mod a n s3
  obtain ⟨t1, ht1⟩ : ∃ t, Int.tmod a n = t := ⟨_, rfl⟩
  rw [ht1] at hkk hm1 hm2
  have wA : IntKind.i64.wrap t1 = t1 := by rw [wrap_eq]; exact IntWalk.wrap64_in _ ⟨by omega, by omega⟩
  have wB : IntKind.i64.wrap (t1 + (n : Int)) = t1 + (n : Int) := by rw [wrap_eq]; exact IntWalk.wrap64_in _ ⟨by omega, by omega⟩
  have wC : IntKind.i64.wrap (Int.tmod (t1 + (n : Int)) n) = (kk : Int) := by rw [hkk, wrap_eq]; exact IntWalk.wrap64_in _ ⟨by omega, by omega⟩
  have e5 : ((n : Int) == 0) = false := by simp; omega
  obtain ⟨i0, hi0, hz0, hz1, hz2⟩ := info_parts infoInt
  clear h hL s2 hR
  go_enter Try.func5, Try.ntmps5
  go_wp2_with (first | (go_at_call 9; refine cL.mono ?_; rintro e w1 ⟨rfl, hb1⟩) | (go_at_call 10; refine (few_small A n c _ LL w1 (HH.out.below hb1) HL.out s1 true (decide_eq_true HT.out)).mono ?_; rintro e w2 ⟨rfl, q2, hw2⟩; have hb2 := belowQ hb1 hw2; clear hw2) | (go_at_call 17; refine (walk_ok A n c LL w2 ((HH.out.below hb2).more hb2.size) (by omega) (by have := HT.out; omega) HR.out).mono ?_; rintro e w3 ⟨ss, As, r, cs, rfl, hr, hrc, hWI, hSt, hb3⟩; have HB3 := Lib.hid (hb2.trans (hb3.mono hb2.size)); have HRL := Lib.hid hr; have HWI := Lib.hid hWI; have HST := Lib.hid hSt; clear hr hrc hWI hSt hb3))
  have HRB : Hid (r ≤ 500) := by
    have h1 := HWI.out.union.len
    rw [List.length_map, HRL.out] at h1
    exact Nat.le_trans h1 HT.out
  clear hb1 hb2 cL
  go_loopw [46, 8] (fun v u wr => ∃ (i : Nat) (H : Option Addr) (ch : Nat), v = .int .i64 (i : Int) ∧ u = .slice H i ch ∧ i ≤ n ∧ Hid (OwnI wr w3.heap.size 3 H ch (rangeI i)) ∧ Hid (Below w3.heap.size w3 wr)) (fun v _ _ => n - (intOf v).toNat)
  case atStart => exact ⟨0, none, 0, rfl, rfl, Nat.zero_le _, OwnI.nil_ _ _ _, Below.refl _ _⟩
  case round =>
    obtain ⟨i, H, ch, rfl, rfl, hi, HO, HB⟩ := hrel
    obtain ⟨wo, hwo⟩ : ∃ wo : World, wo = wr := ⟨_, rfl⟩
    rw [← hwo] at HO HB ⊢
    clear hwo
    have hz := HB.out.size
    by_cases hlt : i < n
    · have HRI : Hid ((rangeI i).length = i) := by unfold Hid; simp [rangeI]
      have hbd : i + 1 ≤ 1000000 := by omega
      have i1 : (i : Int) < (n : Int) := by omega
      go_wp2_with (at_builtin; refine wpList_appendWhere _ rfl (.tmp 49) (.tmp 51) 25 rfl w3.heap.size 3 i0 Try.underlying25 hi0 hz0 hz1 hz2 H (some ⟨wo.heap.size, 0, none⟩) ch 1 1 (wo.heap.size + 1) i (i + 1) (rangeI i) [(i : Int)] rfl rfl (HO.out.alloc _) HRI.out rfl (src_new wo ⟨by omega, by omega⟩) hbd (by simp; omega) ?_; intro H4 c4 w4 HO4 HG4 HW4; have hb0 : Below w3.heap.size w3 (wo.alloc (.cells #[.int .i64 (i : Int)] 3)) := HB.out.alloc hz _; have hb4 := below_app hb0 HG4 (HO.out.alloc _) HRI.out (by simp; omega))
      go_roundw
      case rel => exact ⟨i + 1, H4, c4, by go_num, rfl, by omega, by unfold Hid; rw [rangeI_succ]; exact HO4, hb4⟩
      case measure => simp [intOf]; omega
    · obtain rfl : i = n := by omega
      have hEV := HO.out.ints
      have hel : (rangeI i).length = i := by simp [rangeI]
      rw [hel] at hEV
      have HEV := Lib.hid hEV
      have hcap := HO.out.len_cap
      rw [hel] at hcap
      have HCAP := Lib.hid hcap
      have HBW := Lib.hid (HB3.out.trans (HB.out.mono HB3.out.size))
      have HSW := Lib.hid ((HST.out.below HB.out).more hz)
      have HIS : Hid (∀ s ∈ ss, s.n = i ∧ s.n ≤ 100000) := fun s hs => by
        have := (HWI.out.ins s hs).1
        exact ⟨this, by rw [this]; omega⟩
      have HRI : Hid ((rangeI i).length = i) := hel
      have hr1 := ((Heads.nil_ wo wo.heap.size).cons (a := H) (c := ch) hel hcap hEV).new
      have hba := belowM wo (.cells [Value.slice H i ch].toArray 25)
      have cP1 := pick_in As (some ⟨wo.heap.size, 0, none⟩) r i cs 1 1 ss [rangeI i] _ ((HSW.out.below hba).more hba.size) (by have := HRB.out; omega) HIS.out (hr1.more (by simp)) (by omega) (by intro L hL; simp at hL; rw [hL, hel]; omega) (by intro L hL; simp at hL; rw [hL]; exact rangeI_in i)
      obtain ⟨b, off, Lk, al, lk, hA, hbl, HLK, hcl, hcapl, hIL⟩ := HH.out.at_ hkn
      subst hA
      have HBL := Lib.hid hbl
      have HCL := Lib.hid hcl
      have HIL := Lib.hid hIL
      have HLG : Hid (LL.getD kk [] = Lk) := by unfold Hid; rw [List.getD_eq_getElem?_getD, HLK.out]; rfl
      have HLKM := Lib.hid (List.mem_of_getElem? HLK.out)
      have HBA := Lib.hid hba
      clear hlt hi hEV hel hcap hr1 hba hcl hIL hbl HO HEV HCAP
      go_wp2_with fail
      refine cP1.mono ?_
      rintro e w4 ⟨pa, A4, r4, k4, rfl, hpl, hpr, hpk, _, hps, hb⟩
      have hb4 := HBA.out.trans (hb.mono HBA.out.size)
      have HB4 := Lib.hid (HBW.out.trans (hb4.mono HBW.out.size))
      have HS4 := Lib.hid ((HSW.out.below hb4).more hb4.size)
      have HA := Lib.hid hps
      have HPK := Lib.hid hpk
      have HPL := Lib.hid hpl
      have HPR := Lib.hid hpr
      have cB := both_v 0 (some ⟨b, off, none⟩) i c LL w4 ((HH.out.below HB4.out).more HB4.out.size) (by omega) (by have := HT.out; omega) (.inl ⟨HR.out, rfl⟩)
      clear hb hb4 hps hpk hpl hpr cP1 HBA HBW HSW
      go_wp2_with fail
      refine cB.mono ?_
      rintro e w5 ⟨bl, A5, r5, k5, rfl, hbI, hk5, hbb, hb⟩
      have HB5 := Lib.hid (HB4.out.trans (hb.mono HB4.out.size))
      have HS5 := Lib.hid ((HS4.out.below hb).more hb.size)
      replace HA := Lib.hid ((HA.out.below hb).more hb.size)
      have HBI := Lib.hid hbI
      have HBB := Lib.hid (hbb (by trivial))
      have hc1 := belowM w5 (.cells #[.int .i64 (kk : Int)] 3)
      have hI1 := Ints.of_new w5 3 [(kk : Int)] (by simp; omega)
      have hr2 := ((Heads.nil_ (w5.alloc (.cells #[.int .i64 (kk : Int)] 3)) (w5.alloc (.cells #[.int .i64 (kk : Int)] 3)).heap.size).cons (a := some ⟨w5.heap.size, 0, none⟩) (c := 1) (n := 1) rfl (Nat.le_refl _) (by simpa using hI1)).new
      have hc2 := hc1.alloc hc1.size (.cells [Value.slice (some ⟨w5.heap.size, 0, none⟩) 1 1].toArray 25)
      rw [World.size_alloc] at hr2
      have cP2 := pick_in As (some ⟨w5.heap.size + 1, 0, none⟩) r i cs 1 1 ss [[(kk : Int)]] _ ((HS5.out.below hc2).more hc2.size) (by have := HRB.out; omega) HIS.out (hr2.more (by simp)) (by omega) (by intro L hL; simp at hL; rw [hL]; simp) (by intro L hL; simp at hL; rw [hL]; intro m hm; simp at hm; omega)
      have HBC := Lib.hid hc2
      clear hb hbI hbb hc1 hI1 hr2 hc2 cB HB4 HS4
      go_wp2_with fail
      refine cP2.mono ?_
      rintro e w6 ⟨pc, A6, r6, k6, rfl, hpl, hpr, hpk, hpn, hps, hb⟩
      have hb6 := HBC.out.trans (hb.mono HBC.out.size)
      have HB6 := Lib.hid (HB5.out.trans (hb6.mono HB5.out.size))
      have HS6 := Lib.hid ((HS5.out.below hb6).more hb6.size)
      replace HA := Lib.hid ((HA.out.below hb6).more hb6.size)
      replace HBI := Lib.hid ((HBI.out.below hb6).more hb6.size)
      have HC := Lib.hid hps
      have HCN := Lib.hid hpn
      have HCK := Lib.hid hpk
      have HCL6 := Lib.hid hpl
      have cP3 := pick_in As none r i cs 0 0 ss [] w6 HS6.out (by have := HRB.out; omega) HIS.out IntsLL_nil0 (by omega) (by simp) (by simp)
      clear hb hb6 hps hpk hpl hpr hpn cP2 HBC HB5 HS5
      go_wp2_with fail
      refine cP3.mono ?_
      rintro e w7 ⟨pn, A7, r7, k7, rfl, hpl, _, hpk, _, _, hb⟩
      have hr7 : r7 = 0 := by
        have := congrArg List.length hpk
        rw [List.length_map, List.length_map, hpl] at this
        rw [this]
        simp
      subst hr7
      have HB7 := Lib.hid (HB6.out.trans (hb.mono HB6.out.size))
      replace HA := Lib.hid ((HA.out.below hb).more hb.size)
      replace HBI := Lib.hid ((HBI.out.below hb).more hb.size)
      replace HC := Lib.hid ((HC.out.below hb).more hb.size)
      clear hb hpl hpk cP3 HB6 HS6
      go_wp2_with fail
      obtain ⟨M, hM⟩ : ∃ M, Lk.length = M := ⟨_, rfl⟩
      rw [hM] at HCL HIL hcapl
      have k0 : (0 : Int) ≤ (kk : Int) := by omega
      have k1 : (kk : Int) < (i : Int) := by omega
      have HLKR : Hid (Lk.Pairwise (· < ·)) := HR.out Lk HLKM.out
      have HM5 : Hid (Lk.length ≤ 500) := HLM.out Lk HLKM.out
      have HMM : Hid (Lk.length = M) := hM
      have hM500 : M ≤ 500 := by have := HM5.out; omega
      clear hM
      go_cut [18, 19] (fun p q wx => ∃ A8 r8 k8, p = .slice A8 r8 k8 ∧ q = .int .i64 0 ∧ Ints wx wx.heap.size A8 r8 Lk ∧ Below w7.heap.size w7 wx)
      case first =>
        have lc := (HB7.out.cell (p := ⟨b, off + kk, none⟩) HBL.out).trans HCL.out
        have hi7 := (HIL.out.below HB7.out).more HB7.out.size
        have hr3 := ((Heads.nil_ w7 w7.heap.size).cons (a := al) (c := lk) HMM.out hcapl hi7).cons (a := al) (c := lk) HMM.out hcapl hi7
        have hr4 := hr3.new
        have cU := fun W (hW : W = (w7.alloc (.cells #[.slice al M lk, .slice al M lk] 25)).drew) => union_v 0 (some ⟨w7.heap.size, 0, none⟩) 2 2 [Lk, Lk] W (by rw [hW]; exact hr4.more (by simp)) (by omega) (by have := HM5.out; simp; omega) (.inl ⟨by intro L hL; simp at hL; rw [hL]; exact HLKR.out, rfl⟩)
        have HBA := Lib.hid (belowM w7 (.cells #[.slice al M lk, .slice al M lk] 25))
        clear hi7 hr3 hr4
        go_region_law (go_simp; go_at_call 13; refine (cU _ rfl).mono ?_; rintro e w8 ⟨u, A8, r8, k8, rfl, hu, _, huu, hb8⟩; have hb8' : Below (w7.alloc (.cells #[.slice al M lk, .slice al M lk] 25)).heap.size (w7.alloc (.cells #[.slice al M lk, .slice al M lk] 25)) w8 := ⟨hb8.os, hb8.tape, hb8.output, hb8.size, hb8.block⟩; have hb9 := HBA.out.trans (hb8'.mono HBA.out.size); have huL := union_self HLKR.out (huu (by trivial)))
        all_goals go_wp2_with fail
        all_goals go_meet
        all_goals exact ⟨A8, r8, k8, rfl, rfl, by rw [← huL]; exact hu, hb9⟩
      case rest =>
        obtain ⟨A8, r8, k8, rfl, rfl, hU, hb⟩ := hcut
        obtain ⟨w8, hw8⟩ : ∃ w8 : World, w8 = wc := ⟨wc, rfl⟩
        subst hw8
        have HB8 := Lib.hid (HB7.out.trans (hb.mono HB7.out.size))
        replace HA := Lib.hid ((HA.out.below hb).more hb.size)
        replace HBI := Lib.hid ((HBI.out.below hb).more hb.size)
        replace HC := Lib.hid ((HC.out.below hb).more hb.size)
        have HU := Lib.hid hU
        clear hb hU HB7
        go_wp2_with fail
        go_cut [20, 21] (fun p q wx => ∃ A9 r9 k9, p = .slice A9 r9 k9 ∧ q = .int .i64 0 ∧ Ints wx wx.heap.size A9 r9 Lk ∧ Below w8.heap.size w8 wx)
        case first =>
          have lc := (HB8.out.cell (p := ⟨b, off + kk, none⟩) HBL.out).trans HCL.out
          have hi8 := (HIL.out.below HB8.out).more HB8.out.size
          have hr3 := ((Heads.nil_ w8 w8.heap.size).cons (a := al) (c := lk) HMM.out hcapl hi8).cons (a := al) (c := lk) HMM.out hcapl hi8
          have hr4 := hr3.new
          have cU := fun W (hW : W = (w8.alloc (.cells #[.slice al M lk, .slice al M lk] 25)).drew) => both_v 0 (some ⟨w8.heap.size, 0, none⟩) 2 2 [Lk, Lk] W (by rw [hW]; exact hr4.more (by simp)) (by omega) (by have := HM5.out; simp; omega) (.inl ⟨by intro L hL; simp at hL; rw [hL]; exact HLKR.out, rfl⟩)
          have HBA := Lib.hid (belowM w8 (.cells #[.slice al M lk, .slice al M lk] 25))
          clear hi8 hr3 hr4
          go_region_law (go_simp; go_at_call 15; refine (cU _ rfl).mono ?_; rintro e w9 ⟨u, A9, r9, k9, rfl, hu, _, huu, hbx⟩; have hbx' : Below (w8.alloc (.cells #[.slice al M lk, .slice al M lk] 25)).heap.size (w8.alloc (.cells #[.slice al M lk, .slice al M lk] 25)) w9 := ⟨hbx.os, hbx.tape, hbx.output, hbx.size, hbx.block⟩; have hby := HBA.out.trans (hbx'.mono HBA.out.size); have huL := both_self HLKR.out (huu (by trivial)))
          all_goals go_wp2_with fail
          all_goals go_meet
          all_goals exact ⟨A9, r9, k9, rfl, rfl, by rw [← huL]; exact hu, hby⟩
        case rest =>
          obtain ⟨A9, r9, k9, rfl, rfl, hV, hb⟩ := hcut
          obtain ⟨w9, hw9⟩ : ∃ w9 : World, w9 = wc := ⟨wc, rfl⟩
          subst hw9
          have HB9 := Lib.hid (HB8.out.trans (hb.mono HB8.out.size))
          replace HA := Lib.hid ((HA.out.below hb).more hb.size)
          replace HBI := Lib.hid ((HBI.out.below hb).more hb.size)
          replace HC := Lib.hid ((HC.out.below hb).more hb.size)
          replace HU := Lib.hid ((HU.out.below hb).more hb.size)
          have HV := Lib.hid hV
          have hev := sets_every HWI.out HLN.out HPK.out HBB.out
          have hon := sets_one HWI.out HLN.out HR.out hkn HCK.out
          have hr45 : r4 = r5 := by
            have h1 := congrArg List.length hev
            rw [List.length_map, HPL.out, HBI.out.1] at h1
            exact h1
          have hr6M : r6 = M := by
            have h1 := congrArg List.length hon.1
            rw [List.length_map, HCL6.out, HLG.out, HMM.out] at h1
            exact h1
          have HEV := Lib.hid hev
          have HON := Lib.hid hon
          have lc := (HB9.out.cell (p := ⟨b, off + kk, none⟩) HBL.out).trans HCL.out
          subst hr45
          subst hr6M
          have hr5 : r4 ≤ 500 := by have h1 := HPR.out; have h2 := HRB.out; omega
          have e1 : ((r4 : Int) != (r4 : Int)) = false := by simp
          have e2 : ((r6 : Int) != (r6 : Int)) = false := by simp
          clear hb hV hev hon HB8
          go_wp2_with fail
          clear lc
          go_loopw [161] (fun v wx => ∃ (j : Nat), v = .int .i64 (j : Int) ∧ j ≤ r4 ∧ Hid (Below w9.heap.size w9 wx)) (fun v _ => r4 - (intOf v).toNat)
          case atStart => exact ⟨0, rfl, Nat.zero_le _, Below.refl _ _⟩
          case round =>
            obtain ⟨j, rfl, hj, HX⟩ := hrel
            obtain ⟨wb, hwb⟩ : ∃ wb : World, wb = wr := ⟨_, rfl⟩
            rw [← hwb] at HX ⊢
            clear hwb
            by_cases hlt : j < r4
            · obtain ⟨ba, oa, ⟨v, X, nx, cx, xs⟩, rfl, _, HXA, hc, hc', _, _, _, _⟩ := (HA.out.below HX.out).at_ hlt
              obtain ⟨bb, ob, y, rfl, _, HYB, hcy, _, _⟩ := (HBI.out.below HX.out).at_ hlt
              simp only at hc hc'
              have ey : y = v := by
                have h1 := HYB.out
                rw [← HEV.out, List.getElem?_map, HXA.out] at h1
                simpa using h1.symm
              rw [ey] at hcy
              have hbx := belowM wb (.cells #[.int .i64 v, .slice X nx cx] 36)
              have HB0 := Lib.hid (HX.out.trans (hbx.mono HX.out.size))
              obtain ⟨p0, _⟩ := blk_cell (cs := [.int .i64 v, .slice X nx cx]) (i := 0) (heap_alloc_new wb (.cells #[.int .i64 v, .slice X nx cx] 36)) rfl
              have hcy2 := fun o => cellPast o hcy
              have j0 : (0 : Int) ≤ (j : Int) := by omega
              have j1 : (j : Int) < (r4 : Int) := by omega
              have e3 : (v != v) = false := by simp
              clear ey HYB HXA hbx
              go_wp2_with fail
              go_quiet (fail)
              go_wp2_with fail
              go_roundw
              case rel => exact ⟨j + 1, by go_num, by omega, ⟨HB0.out.os, HB0.out.tape, HB0.out.output, HB0.out.size, HB0.out.block⟩⟩
              case measure => simp [intOf]; omega
            · obtain rfl : r4 = j := by omega
              clear hlt hj
              go_wp2_with fail
              go_loopw [176] (fun v wx => ∃ (j : Nat), v = .int .i64 (j : Int) ∧ j ≤ r6 ∧ Hid (Below w9.heap.size w9 wx)) (fun v _ => r6 - (intOf v).toNat)
              case atStart => exact ⟨0, rfl, Nat.zero_le _, HX⟩
              case round =>
                clear HX
                obtain ⟨j, rfl, hj, HX⟩ := hrel
                have lc := ((HB9.out.trans (HX.out.mono HB9.out.size)).cell (p := ⟨b, off + kk, none⟩) HBL.out).trans HCL.out
                have hil := HIL.out.below (HB9.out.trans (HX.out.mono HB9.out.size))
                obtain ⟨wd, hwd⟩ : ∃ wd : World, wd = wr := ⟨_, rfl⟩
                rw [← hwd] at HX lc hil ⊢
                clear hwd
                by_cases hlt : j < r6
                · obtain ⟨ba, oa, ⟨v, X, nx, cx, xs⟩, rfl, _, HXA, hc, hc', hIX, _, _, _⟩ := (HC.out.below HX.out).at_ hlt
                  obtain ⟨bl2, ol2, y, rfl, _, HYB, hcy, _, _⟩ := hil.at_ hlt
                  simp only at hc hc' hIX
                  have hnx : nx = i := HCN.out _ (List.mem_of_getElem? HXA.out)
                  subst hnx
                  have ey : y = v := by
                    have h1 := HYB.out
                    rw [← HLG.out, ← HON.out.1, List.getElem?_map, HXA.out] at h1
                    simpa using h1.symm
                  rw [ey] at hcy
                  have hxi : xs[kk]? = some (j : Int) := HON.out.2 j _ HXA.out
                  obtain ⟨bi, oi, z, rfl, _, HZ, hcz, _, _⟩ := hIX.at_ hkn
                  have ez : z = (j : Int) := by have := HZ.out; rw [hxi] at this; injection this with this; exact this.symm
                  rw [ez] at hcz
                  have hbx := belowM wd (.cells #[.int .i64 v, .slice (some ⟨bi, oi, none⟩) nx cx] 36)
                  have HB0 := Lib.hid (HX.out.trans (hbx.mono HX.out.size))
                  obtain ⟨p0, _⟩ := blk_cell (cs := [.int .i64 v, .slice (some ⟨bi, oi, none⟩) nx cx]) (i := 0) (heap_alloc_new wd (.cells #[.int .i64 v, .slice (some ⟨bi, oi, none⟩) nx cx] 36)) rfl
                  obtain ⟨p1, _⟩ := blk_cell (cs := [.int .i64 v, .slice (some ⟨bi, oi, none⟩) nx cx]) (i := 1) (heap_alloc_new wd (.cells #[.int .i64 v, .slice (some ⟨bi, oi, none⟩) nx cx] 36)) rfl
                  have hcy2 := fun o => cellPast o hcy
                  have hcz2 := fun o => cellPast o hcz
                  have lc2 := fun o => cellPast o lc
                  have j0 : (0 : Int) ≤ (j : Int) := by omega
                  have j1 : (j : Int) < (r6 : Int) := by omega
                  have e3 : (v != v) = false := by simp
                  have e4 : ((j : Int) != (j : Int)) = false := by simp
                  have d1 : decide (nx ≤ kk) = false := decide_eq_false (by omega)
                  clear ey ez hxi HYB HXA HZ hbx hIX hil
                  go_wp2_with fail
                  go_quiet (fail)
                  go_wp2_with fail
                  go_roundw
                  case rel => exact ⟨j + 1, by go_num, by omega, ⟨HB0.out.os, HB0.out.tape, HB0.out.output, HB0.out.size, HB0.out.block⟩⟩
                  case measure => simp [intOf]; omega
                · obtain rfl : r6 = j := by omega
                  have hu1 := HU.out.1
                  have hv1 := HV.out.1
                  have hmm := HMM.out
                  have hbw := HB9.out.trans (HX.out.mono HB9.out.size)
                  have q1 := fun k => refEqual_any A8 al r8 r6 k8 lk Lk Lk (wd.drewN k) wd.heap.size (((HU.out.below HX.out).more HX.out.size).drewN k) ((hil.more hbw.size).drewN k) (by omega) (by omega)
                  have q2 := fun k => refEqual_any A9 al r9 r6 k9 lk Lk Lk (wd.drewN k) wd.heap.size (((HV.out.below HX.out).more HX.out.size).drewN k) ((hil.more hbw.size).drewN k) (by omega) (by omega)
                  rw [decide_eq_true rfl] at q1 q2
                  have HBW := Lib.hid hbw
                  clear hlt hj hu1 hv1 hmm hbw hil
                  go_wp2_with fail
                  refine (q1 0).mono ?_
                  rintro e w14 ⟨rfl, k14, rfl⟩
                  go_wp2_with fail
                  refine (q2 _).mono ?_
                  rintro e w15 ⟨rfl, k15, rfl⟩
                  go_wp2_with fail
                  go_ret
                  exact ⟨rfl, ⟨HBW.out.os, HBW.out.tape, HBW.out.output, HBW.out.size, HBW.out.block⟩⟩
end Go.Proofs.Ytnaehnlpcjaaeaa
