/- The document's Trim of layer 2. -/
import Derived.Test.YtpfabbapfmfmmaaPRSort
namespace Go.Proofs.Ytpfabbapfmfmmaa
open Go.RowKit

set_option maxRecDepth 100000 in
set_option maxHeartbeats 16000000 in
theorem refTrimV_ok (A B : Option Addr) (n c m e : Nat) (xs : List Int) (es : List Ent) (w : World) (h : CooV w A n B m xs es) (hE : cooF xs es = 0) :
    Calls Try.prog 19 #[.agg #[.slice A n c, .slice B m e]] w fun x w' => ∃ A1 c1 A2 m2 c2 Ts, x = .returned (.tuple #[.agg #[.slice A1 n c1, .slice A2 m2 c2], .int .i64 0]) ∧ CooV w' A1 n A2 m2 xs Ts ∧ Hid (Ts.map keyE = (es.map keyE).filter nzK) ∧ m2 ≤ m ∧ Below w.heap.size w w' := by
  have hn4 : n ≤ 4 := by rw [← h.1.1]; exact (cellsF_ok (cooF_parts hE).1).1
  have hm5 : m ≤ 65536 := by rw [← h.2.1]; exact (cooF_parts hE).2.1
  have hokk := keyOk_of h hE
  have hes : ∀ y ∈ es, y.n ≤ 100000 := fun y hy => by have : y.n = n := (hokk (keyE y) (List.mem_map_of_mem hy)).2.1; omega
  have HCK := fun W (hb : Below w.heap.size w W) => refCooCheck_any A B n c m e xs es W (h.below hb).1 (by omega) (h.below hb).2 (by omega)
  rw [hE] at HCK
  have z0 := (Below.refl w.heap.size w).alloc (Nat.le_refl _) (.cells #[.slice A n c, .slice B m e] 25)
  have z1 := z0.alloc z0.size (.cells #[.slice none 0 0, .slice none 0 0] 25)
  have b1 := zf_two w (.cells #[.slice A n c, .slice B m e] 25) (.cells #[.slice none 0 0, .slice none 0 0] 25)
  have b2 := zf_snd w (.cells #[.slice none 0 0, .slice none 0 0] 25) (.cells #[.slice A n c, .slice B m e] 25)
  have HV := Lib.hid h
  have HYN := Lib.hid hes
  have HEL : Hid (es.length = m) := h.2.1
  have HXL : Hid (xs.length = n) := h.1.1
  have HII := fun W (hb : Below w.heap.size w W) => (h.below hb).1
  obtain ⟨i0, hi0, hz0, hz1, hz2⟩ := info_parts infoInt
  have hbd : n ≤ 1000000 := by omega
  clear h hes z0 hokk hE
  go_enter Try.func19, Try.ntmps19
  go_wp2_with fail
  refine (HCK _ z1).mono ?_
  rintro x w1 ⟨rfl, hb1⟩
  have hsz0 : w.heap.size + 2 ≤ w1.heap.size := by have := hb1.size; simp at this; omega
  replace b1 := (hb1.block w.heap.size (by simp; omega)).trans b1
  replace b2 := (hb1.block (w.heap.size + 1) (by simp)).trans b2
  replace z1 := z1.trans (hb1.mono z1.size)
  obtain ⟨k0, k1, _, _⟩ := pair_cells b1
  have hi1 := HII w1 z1
  clear HCK hb1 HII
  go_upto_region 5 with (at_builtin; refine wpList_appendInts _ rfl (.const (.slice none 0 0)) (.tmp 15) 22 rfl w1.heap.size 3 i0 Try.underlying22 hi0 hz0 hz1 hz2 none A 0 n c w1.heap.size 0 n [] xs rfl rfl (OwnI.nil_ _ _ _) rfl (Nat.zero_add _) hi1 hbd (Nat.le_refl _) ?_; intro A1 c1 w2 HA1 HG1; rw [List.nil_append] at HA1; have hb3 := below_of_none HG1)
  have hbb := z1.trans (hb3.mono z1.size)
  have hs2 := hb3.size
  have r1 := (hb3.block w.heap.size (by omega)).trans b1
  have r2 := (hb3.block (w.heap.size + 1) (by omega)).trans b2
  have yb := (Below.refl w2.heap.size w2).alloc (Nat.le_refl _) (.cells #[.slice A1 n c1, .slice none 0 0] 25)
  have y0 := heap_alloc_new w2 (.cells #[.slice A1 n c1, .slice none 0 0] 25)
  have hi1' := HA1.ints
  rw [HXL.out] at hi1'
  have HA2 := Lib.hid (hi1'.alloc (Nat.le_refl _) (.cells #[.slice A1 n c1, .slice none 0 0] 25))
  have HF1 := Lib.hid HA1.farA
  have hbb3 := hbb.alloc hbb.size (.cells #[.slice A1 n c1, .slice none 0 0] 25)
  replace r1 := (yb.block w.heap.size (by omega)).trans r1
  replace r2 := (yb.block (w.heap.size + 1) (by omega)).trans r2
  have hs3 : (w2.alloc (.cells #[.slice A1 n c1, .slice none 0 0] 25)).heap.size = w2.heap.size + 1 := World.size_alloc _ _
  obtain ⟨wB, hw3⟩ : ∃ w3, w2.alloc (.cells #[.slice A1 n c1, .slice none 0 0] 25) = w3 := ⟨_, rfl⟩
  rw [hw3] at y0 HA2 r1 r2 hbb3 hs3
  have H3 := Lib.hid hw3
  have HY0 := Lib.hid y0
  have HR1 := Lib.hid r1
  have HR2 := Lib.hid r2
  have HBB := Lib.hid hbb3
  have hsB : w2.heap.size + 1 ≤ wB.heap.size := by omega
  obtain ⟨j0, j1, _, _⟩ := pair_cells r1
  clear k0 k1 hbb hb3 b1 b2 yb y0 HA1 hi1' hbb3 hs3 hw3 r1 r2 hi1 z1
  rw [H3.out]
  go_wp2_with fail
  go_loopw [21] (fun v wr => ∃ (k N : Nat) (Ts : List Ent) (A3 : Option Addr) (c3 : Nat), v = .int .i64 (k : Int) ∧ k ≤ m ∧ N ≤ k ∧ Hid (Ts.length = N) ∧ Hid (wr.heap[w2.heap.size]? = some (.cells #[.slice A1 n c1, .slice A3 N c3] 25 (0, 0))) ∧ Hid (OwnE wr wB.heap.size A3 c3 Ts) ∧ Hid (∀ x ∈ Ts, OwnP wr wB.heap.size x) ∧ Hid (Ts.map keyE = ((es.take k).map keyE).filter nzK) ∧ Hid (Below w2.heap.size wB wr)) (fun v _ => m - (intOf v).toNat)
  case atStart => exact ⟨0, 0, [], none, 0, rfl, Nat.zero_le _, Nat.le_refl _, rfl, HY0, Lib.hid (OwnE.nil_ _ _), (fun x hx => by cases hx), rfl, Lib.hid (Below.refl _ _)⟩
  case round =>
    clear j0 j1
    obtain ⟨k, N, Ts, A3, c3, rfl, hk, hNk, HTK, HBX, HOE, HOP, HKE, HB⟩ := hrel
    have hszr := HB.out.size
    have hr1 := (HB.out.block w.heap.size (by omega)).trans HR1.out
    obtain ⟨j0, j1, _, _⟩ := pair_cells hr1
    have hbw : Below w.heap.size w wr := HBB.out.trans (HB.out.mono (by omega))
    by_cases hlt : k < m
    · obtain ⟨b, off, y, hyA, hbb, HY, hc0, hc1, iy, hy1, hy2, hy3, hy4⟩ := (HV.out.below hbw).2.at_ hlt
      subst hyA
      have hc2 : wr.cell? ⟨b, off + k * 2, none⟩ = some (.slice y.A y.n y.c) := by rw [Nat.mul_comm k 2]; exact hc0
      have hc3 : wr.cell? ⟨b, off + k * 2 + 1, none⟩ = some (.int .i64 y.v) := by rw [Nat.mul_comm k 2]; exact hc1
      have hk0 : (0 : Int) ≤ k := by omega
      have hk1 : (k : Int) < m := by omega
      have HTKs : Hid (es.take (k + 1) = es.take k ++ [y]) := take_succ_of HY.out
      by_cases hv : y.v = 0
      · have e1 : (y.v != 0) = false := by simpa using hv
        have e2 : (y.v == 0) = true := by simpa using hv
        have HKN : Hid (((es.take (k + 1)).map keyE).filter nzK = ((es.take k).map keyE).filter nzK) := by
          unfold Hid
          have hz : nzK (keyE y) = false := by unfold nzK keyE; simp [hv]
          rw [HTKs.out, List.map_append, List.filter_append, List.map_singleton, List.filter_cons_of_neg (by simp [hz]), List.filter_nil, List.append_nil]
        have hal := (Below.refl wr.heap.size wr).alloc (Nat.le_refl _) (.cells #[.slice y.A y.n y.c, .int .i64 y.v] 37)
        have bt := heap_alloc_new wr (.cells #[.slice y.A y.n y.c, .int .i64 y.v] 37)
        have HBt : Hid (Below w2.heap.size wB (wr.alloc (.cells #[.slice y.A y.n y.c, .int .i64 y.v] 37))) := HB.out.trans (hal.mono (by omega))
        have hbxt := (hal.block w2.heap.size (lt_of_heap HBX.out)).trans HBX.out
        have HOEt : Hid (OwnE (wr.alloc (.cells #[.slice y.A y.n y.c, .int .i64 y.v] 37)) wB.heap.size A3 c3 Ts) := HOE.out.below hal (Nat.le_refl _)
        have HOPt : Hid (∀ x ∈ Ts, OwnP (wr.alloc (.cells #[.slice y.A y.n y.c, .int .i64 y.v] 37)) wB.heap.size x) := fun x hx => ⟨(HOP.out x hx).1.alloc _, (HOP.out x hx).2⟩
        obtain ⟨wt, hwt⟩ : ∃ wt, wr.alloc (.cells #[.slice y.A y.n y.c, .int .i64 y.v] 37) = wt := ⟨_, rfl⟩
        rw [hwt] at bt HBt hbxt HOEt HOPt
        have HWT := Lib.hid hwt
        have HBXt := Lib.hid hbxt
        obtain ⟨t0, t1, _, _⟩ := pair_cells bt
        clear hal hwt hc0 hc1 iy hr1 hbw HBX HOE HOP HB hbxt j0 j1 bt hv
        go_upto_region 8 with fail
        rw [HWT.out]
        clear hc2 hc3 HWT
        go_wp2_with fail
        go_roundw
        case rel => exact ⟨k + 1, N, Ts, A3, c3, by go_num, by omega, by omega, HTK, HBXt, HOEt, HOPt, by unfold Hid; rw [HKN.out]; exact HKE.out, HBt⟩
        case measure => simp [intOf]; omega
      · have e1 : (y.v != 0) = true := by simpa using hv
        have e2 : (y.v == 0) = false := by simpa using hv
        have HKN : Hid (((es.take (k + 1)).map keyE).filter nzK = ((es.take k).map keyE).filter nzK ++ [keyE y]) := by
          unfold Hid
          have hz : nzK (keyE y) = true := by unfold nzK keyE; simp [hv]
          rw [HTKs.out, List.map_append, List.filter_append, List.map_singleton, List.filter_cons_of_pos hz, List.filter_nil]
        clear hv
        have HYNy := Lib.hid (HYN.out y (List.mem_of_getElem? HY.out))
        have HYL : Hid (y.cs.length = y.n) := iy.1
        have hal := (Below.refl wr.heap.size wr).alloc (Nat.le_refl _) (.cells #[.slice y.A y.n y.c, .int .i64 y.v] 37)
        have bt := heap_alloc_new wr (.cells #[.slice y.A y.n y.c, .int .i64 y.v] 37)
        have iy2 := (iy.below hal).more hal.size
        have HBt : Hid (Below w2.heap.size wB (wr.alloc (.cells #[.slice y.A y.n y.c, .int .i64 y.v] 37))) := HB.out.trans (hal.mono (by omega))
        have hbxt := (hal.block w2.heap.size (lt_of_heap HBX.out)).trans HBX.out
        have HOEt : Hid (OwnE (wr.alloc (.cells #[.slice y.A y.n y.c, .int .i64 y.v] 37)) wB.heap.size A3 c3 Ts) := HOE.out.below hal (Nat.le_refl _)
        have HOPt : Hid (∀ x ∈ Ts, OwnP (wr.alloc (.cells #[.slice y.A y.n y.c, .int .i64 y.v] 37)) wB.heap.size x) := fun x hx => ⟨(HOP.out x hx).1.alloc _, (HOP.out x hx).2⟩
        obtain ⟨wt, hwt⟩ : ∃ wt, wr.alloc (.cells #[.slice y.A y.n y.c, .int .i64 y.v] 37) = wt := ⟨_, rfl⟩
        have hszt : wr.heap.size + 1 = wt.heap.size := by rw [← hwt]; simp
        rw [hwt] at bt iy2 HBt hbxt HOEt HOPt
        have HWT := Lib.hid hwt
        have HBXt := Lib.hid hbxt
        have HVB : Hid (-9223372036854775808 ≤ y.v ∧ y.v ≤ 9223372036854775807) := ⟨hy3, hy4⟩
        have HOWN := fun W (hW : Below wt.heap.size wt W) => (refOwn_any y.A y.n y.c y.cs y.v W ((iy2.below hW).more hW.size) HYNy.out).mono (R' := fun e w' => ∃ A6 c6, e = .returned (.agg #[.slice A6 y.n c6, .int .i64 y.v]) ∧ OwnI w' wt.heap.size 3 A6 c6 y.cs ∧ Below wt.heap.size wt w') fun e w' ⟨a, g, h1, h2, h3⟩ => ⟨a, g, h1, h2.mono hW.size, hW.trans (h3.mono hW.size)⟩
        have hltx : w2.heap.size < wt.heap.size := lt_of_heap hbxt
        have hlex : wB.heap.size ≤ wt.heap.size := by omega
        have hbdk : N + 1 ≤ 1000000 := by omega
        obtain ⟨p0, p1, _, _⟩ := pair_cells hbxt
        obtain ⟨t0, t1, _, _⟩ := pair_cells bt
        clear hal hwt hc0 hc1 iy hr1 hbw HBX HOE HOP HB iy2 hbxt j0 j1 bt
        go_upto_region 9 with fail
        rw [HWT.out]
        clear hc2 hc3 HWT
        go_region_law (first | (go_simp; go_at_call 42; refine (HOWN _ ?b0).mono ?_; (case b0 => first | exact Below.refl _ _ | exact (Below.refl _ _).drew); rintro x w6 ⟨A6, c6, rfl, HO6, HB6⟩; have rb6 := (HB6.block w2.heap.size hltx).trans HBXt.out; obtain ⟨q0, q1, qf0, qf1⟩ := pair_cells rb6; have Q0 := fun o => cellPast o q0; have Q1 := fun o => cellPast o q1; have HOE6 := Lib.hid (HOEt.out.below HB6 (Nat.le_refl _)); have h6 := HB6.size; have EK6 : EntOk w6 w6.heap.size ⟨A6, y.n, c6, y.cs, y.v⟩ := ⟨(by have i6 := HO6.ints; rwa [HYL.out] at i6), (by have := HYNy.out; show y.n ≤ 9223372036854775807; omega), (by have i6 := HO6.cap; rwa [HYL.out] at i6), HVB.out.1, HVB.out.2⟩; have RB6 := Lib.hid rb6; clear rb6) | (refine step_appendEnts rfl (.tmp 29) (.tmp 32) rfl wB.heap.size A3 (some ⟨w6.heap.size, 0, none⟩) c3 1 1 (w6.heap.size + 1) N (N + 1) Ts [⟨A6, y.n, c6, y.cs, y.v⟩] rfl rfl (World.ownsRow.alloc HOE6.out _) HTK.out rfl (src_newE w6 ⟨A6, y.n, c6, y.cs, y.v⟩ EK6) hbdk (by have := h6; simp; omega) ?_; intro A7 c7 w7 HO7 HG7; have HG8 : Hid (w6.grownBy w7 (Value.slice A3 Ts.length c3).ownBlock) := (by unfold Hid; rw [HTK.out]; exact (World.grownBy_alloc w6 _ _).trans HG7); have rb7 := box_keptE RB6.out (by decide) HOE6.out HG8.out; obtain ⟨s0, s1, sf0, sf1⟩ := pair_cells rb7; have HRB := Lib.hid rb7; have HO7' := Lib.hid HO7; clear HO7 HG7 rb7))
        all_goals
          have hsn := set_snd w7 w2.heap.size _ _ (.slice A7 (N + 1 : Nat) c7) _ HRB.out
          have HOWN6 : Hid (OwnE (w7.setCell ⟨w2.heap.size, 1, none⟩ (.slice A7 (N + 1 : Nat) c7)) wB.heap.size A7 c7 (Ts ++ [⟨A6, y.n, c6, y.cs, y.v⟩])) := World.ownsRow.kept HO7'.out hsn.2 (rows_ne HO7'.out HRB.out (by decide))
          have HOP6 : Hid (∀ x ∈ Ts ++ [⟨A6, y.n, c6, y.cs, y.v⟩], OwnP (w7.setCell ⟨w2.heap.size, 1, none⟩ (.slice A7 (N + 1 : Nat) c7)) wB.heap.size x) := fun x hx => by
            have hq : OwnP w6 wB.heap.size x := by
              rcases List.mem_append.1 hx with hx | hx
              · exact ⟨(HOPt.out x hx).1.below HB6 (Nat.le_refl _), (HOPt.out x hx).2⟩
              · rw [List.mem_singleton.1 hx]; exact ⟨HO6.mono hlex, HYL.out.symm, HVB.out.1, HVB.out.2⟩
            have q5 := hq.1.keptE HOE6.out HG8.out
            exact ⟨⟨q5.1.kept hsn.2 (rows_ne q5.1 HRB.out (by decide)), q5.2⟩, hq.2⟩
          have HBF6 : Hid (Below w2.heap.size wB (w7.setCell ⟨w2.heap.size, 1, none⟩ (.slice A7 (N + 1 : Nat) c7))) := by
            have q4 : Below w2.heap.size wB w6 := HBt.out.trans (HB6.mono (by omega))
            have q5 : Below w2.heap.size wB w7 := q4.grown HG8.out (by omega) (fun k hk => by have := (World.ownsRow.lt HOE6.out k hk).1; omega)
            exact q5.setCell (p := ⟨w2.heap.size, 1, none⟩) (Nat.le_refl _) _
          have HHP6 := Lib.hid hsn.1
          have HKE6 : Hid ((Ts ++ [⟨A6, y.n, c6, y.cs, y.v⟩] : List Ent).map keyE = ((es.take (k + 1)).map keyE).filter nzK) := by
            unfold Hid
            rw [HKN.out, List.map_append, HKE.out]
            rfl
          have hlen6 : Hid ((Ts ++ [⟨A6, y.n, c6, y.cs, y.v⟩] : List Ent).length = N + 1) := by unfold Hid; rw [List.length_append, HTK.out]; rfl
          clear hsn HO6 HB6 EK6
          go_wp2_with fail
          go_roundw
          case rel => exact ⟨k + 1, N + 1, Ts ++ [⟨A6, y.n, c6, y.cs, y.v⟩], A7, c7, by go_num, by omega, by omega, hlen6, HHP6, HOWN6, HOP6, HKE6, HBF6⟩
          case measure => simp [intOf]; omega
    · have hkm : k = m := by omega
      have HKF : Hid (Ts.map keyE = (es.map keyE).filter nzK) := by unfold Hid; rw [HKE.out, List.take_of_length_le (by rw [HEL.out]; omega)]
      have dk : decide ((k : Int) < (m : Int)) = false := by simp; omega
      have dk2 : decide (k < m) = false := by simp; omega
      have hr2 := (HB.out.block (w.heap.size + 1) (by omega)).trans HR2.out
      obtain ⟨v0, v1, vf0, vf1⟩ := pair_cells hr2
      have HRV := Lib.hid hr2
      have hbx := HBX.out
      obtain ⟨p0, p1, _, _⟩ := pair_cells hbx
      have hNm : N ≤ m := by omega
      have HTM := HTK
      have HBW := Lib.hid hbw
      clear hr1 hr2 hbx hbw hlt hkm HBX
      go_wp2_with fail
      have hres := set_two wr (w.heap.size + 1) _ _ (.slice A1 n c1) (.slice A3 N c3) _ HRV.out
      obtain ⟨s0, s1, _, _⟩ := pair_cells hres.1
      obtain ⟨wz, hwz⟩ : ∃ wz, (wr.setCell ⟨w.heap.size + 1, 0, none⟩ (.slice A1 n c1)).setCell ⟨w.heap.size + 1, 1, none⟩ (.slice A3 N c3) = wz := ⟨_, rfl⟩
      rw [hwz] at hres s0 s1 ⊢
      refine bodyPost_ret (v := .tuple #[.agg #[.slice A1 n c1, .slice A3 N c3], .int .i64 0]) (by simp [results, Try.results19, go_sem, s0, s1]) rfl ⟨A1, c1, A3, N, c3, Ts, rfl, ⟨?_, ?_⟩, HKF, hNm, HBW.out.grown hres.2 HBW.out.size (fun k hk => by injection hk with hk; omega)⟩
      · exact ints_skip ((HA2.out.below HB.out).more (by omega)) hres.2 (fun b off e => by have := HF1.out b off e; omega)
      · have hoe : OwnE wz wB.heap.size A3 c3 Ts := World.ownsRow.kept HOE.out hres.2 (rows_ne HOE.out HRV.out (by decide))
        have := ownE_ents hoe (fun x hx => ⟨⟨(HOP.out x hx).1.1.kept hres.2 (rows_ne (HOP.out x hx).1.1 HRV.out (by decide)), (HOP.out x hx).1.2⟩, (HOP.out x hx).2⟩)
        rw [HTM.out] at this
        exact this
end Go.Proofs.Ytpfabbapfmfmmaa
