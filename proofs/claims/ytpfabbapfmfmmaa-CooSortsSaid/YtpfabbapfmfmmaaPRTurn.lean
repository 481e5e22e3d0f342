/- The document's Turn of layer 2. -/
import Derived.Test.YtpfabbapfmfmmaaG17
import Derived.Test.YtpfabbapfmfmmaaG16
import Derived.Test.YtpfabbapfmfmmaaG4
namespace Go.Proofs.Ytpfabbapfmfmmaa
open Go.RowKit

theorem setFst (w : World) (g : Nat) (u v a : Value) (t : TypeId) (h : w.heap[g]? = some (.cells #[u, v] t (0, 0))) : (w.setCell ⟨g, 0, none⟩ a).heap[g]? = some (.cells #[a, v] t (0, 0)) := by
  have h1 := blkE_set (i := 0) (cs := [u, v]) h a
  simpa using h1
set_option maxRecDepth 100000 in
set_option maxHeartbeats 16000000 in
theorem refTurnV_ok (A B Ao : Option Addr) (n c m e ro co : Nat) (xs os : List Int) (es : List Ent) (w : World) (h : CooV w A n B m xs es) (hE : cooF xs es = 0) (hok : OrdOk n os) (ho : Ints w w.heap.size Ao ro os) :
    Calls Try.prog 28 #[.agg #[.slice A n c, .slice B m e], .slice Ao ro co] w fun x w' => ∃ A1 c1 A2 c2 Ts, x = .returned (.tuple #[.agg #[.slice A1 n c1, .slice A2 m c2], .int .i64 0]) ∧ CooV w' A1 n A2 m (turnL (ordL n os) xs) Ts ∧ Hid (Ts.map keyE = (es.map keyE).map (turnK (ordL n os))) ∧ Below w.heap.size w w' := by
  have hn4 : n ≤ 4 := by rw [← h.1.1]; exact (cellsF_ok (cooF_parts hE).1).1
  have hm5 : m ≤ 65536 := by rw [← h.2.1]; exact (cooF_parts hE).2.1
  have hokk := keyOk_of h hE
  have HYN : Hid (∀ y ∈ es, y.n = n) := fun y hy => (hokk (keyE y) (List.mem_map_of_mem hy)).2.1
  have z0 := (Below.refl w.heap.size w).alloc (Nat.le_refl _) (.cells #[.slice A n c, .slice B m e] 25)
  have z1 := z0.alloc z0.size (.cells #[.slice none 0 0, .slice none 0 0] 25)
  have b1 := zf_two w (.cells #[.slice A n c, .slice B m e] 25) (.cells #[.slice none 0 0, .slice none 0 0] 25)
  have b2 := zf_snd w (.cells #[.slice none 0 0, .slice none 0 0] 25) (.cells #[.slice A n c, .slice B m e] 25)
  have HCK := fun W (hb : Below w.heap.size w W) => refCooCheck_any A B n c m e xs es W (h.below hb).1 (by omega) (h.below hb).2 (by omega)
  rw [hE] at HCK
  have HOR := fun W (hb : Below w.heap.size w W) => refOrder_ok Ao n ro co os W ((ho.below hb).more hb.size) (by omega) hok
  have HV := Lib.hid h
  have HOK := Lib.hid hok
  have HOL : Hid ((ordL n os).length = n) := ordL_len hok
  have HTL0 : Hid ((turnL (ordL n os) xs).length = n) := by unfold Hid; rw [turnL_len]; exact HOL.out
  have HEL : Hid (es.length = m) := h.2.1
  obtain ⟨i0, hi0, hz0, hz1, hz2⟩ := info_parts infoInt
  clear h hE z0 hokk ho hok
  go_enter Try.func28, Try.ntmps28
  go_wp2_with fail
  refine (HCK _ z1).mono ?_
  rintro x w1 ⟨rfl, hb1⟩
  have hsz0 : w.heap.size + 2 ≤ w1.heap.size := by have := hb1.size; simp at this; omega
  have hb := z1.trans (hb1.mono z1.size)
  have q1 := (hb1.block w.heap.size (by simp; omega)).trans b1
  have q2 := (hb1.block (w.heap.size + 1) (by simp)).trans b2
  obtain ⟨k0, k1, _, _⟩ := pair_cells q1
  clear HCK b1 b2 z1 hb1
  go_wp2_with fail
  refine (HOR _ hb).mono ?_
  rintro x w2 ⟨Am, cm, rfl, HO, hb2⟩
  have hbb := hb.trans (hb2.mono hb.size)
  have hs2 := hb2.size
  have r1 := (hb2.block w.heap.size (by omega)).trans q1
  have r2 := (hb2.block (w.heap.size + 1) (by omega)).trans q2
  have yb := (Below.refl w2.heap.size w2).alloc (Nat.le_refl _) (.cells #[.slice none 0 0, .slice none 0 0] 25)
  have y0 := heap_alloc_new w2 (.cells #[.slice none 0 0, .slice none 0 0] 25)
  have HOB : Hid (Ints (w2.alloc (.cells #[.slice none 0 0, .slice none 0 0] 25)) w2.heap.size Am n (ordL n os)) := HO.alloc (Nat.le_refl _) _
  have hbb3 := hbb.alloc hbb.size (.cells #[.slice none 0 0, .slice none 0 0] 25)
  replace r1 := (yb.block w.heap.size (by omega)).trans r1
  replace r2 := (yb.block (w.heap.size + 1) (by omega)).trans r2
  have hs3 : (w2.alloc (.cells #[.slice none 0 0, .slice none 0 0] 25)).heap.size = w2.heap.size + 1 := World.size_alloc _ _
  obtain ⟨wB, hw3⟩ : ∃ w3, w2.alloc (.cells #[.slice none 0 0, .slice none 0 0] 25) = w3 := ⟨_, rfl⟩
  rw [hw3] at y0 HOB r1 r2 hbb3 hs3
  have H3 := Lib.hid hw3
  have HY0 := Lib.hid y0
  have HR1 := Lib.hid r1
  have HR2 := Lib.hid r2
  have HBB := Lib.hid hbb3
  have hsB : w2.heap.size + 1 ≤ wB.heap.size := by omega
  clear k0 k1 hb hb2 hbb q1 q2 yb y0 HO hbb3 hw3 r1 r2 HOR
  go_upto_region 8 with fail
  rw [H3.out]
  go_wp2_with fail
  go_loopw [37] (fun v wr => ∃ (k : Nat) (A1 : Option Addr) (c1 : Nat), v = .int .i64 (k : Int) ∧ k ≤ n ∧ Hid (wr.heap[w2.heap.size]? = some (.cells #[.slice A1 k c1, .slice none 0 0] 25 (0, 0))) ∧ Hid (OwnI wr wB.heap.size 3 A1 c1 ((turnL (ordL n os) xs).take k)) ∧ Hid (Below w2.heap.size wB wr)) (fun v _ => n - (intOf v).toNat)
  case atStart => exact ⟨0, none, 0, rfl, Nat.zero_le _, HY0, by unfold Hid; rw [List.take_zero]; exact OwnI.nil_ _ _ _, Lib.hid (Below.refl _ _)⟩
  case round =>
    obtain ⟨k, A1, c1, rfl, hk, HBX, HA, HB⟩ := hrel
    have hszr := HB.out.size
    have hr1 := (HB.out.block w.heap.size (by omega)).trans HR1.out
    have hbw : Below w.heap.size w wr := HBB.out.trans (HB.out.mono (by omega))
    by_cases hlt : k < n
    · obtain ⟨bo, oo, q, rfl, _, HQ, hcq, hq1, hq2⟩ := (HOB.out.below HB.out).at_ hlt
      have hqm := ordL_mem HOK.out (List.mem_of_getElem? HQ.out)
      obtain ⟨bx, ox, vx, rfl, hbx, HVX, hcx, hx1, hx2⟩ := (HV.out.below hbw).1.at_ (k := q.toNat) (by omega)
      have hqn : 0 ≤ q := hqm.1
      have hqn2 : q < n := hqm.2
      have htk : (turnL (ordL n os) xs)[k]? = some vx := by unfold turnL; rw [List.getElem?_map, HQ.out]; show some (pickE xs q) = _; rw [pickE_of HVX.out]
      have HTS : Hid ((turnL (ordL n os) xs).take k ++ [vx] = (turnL (ordL n os) xs).take (k + 1)) := by unfold Hid; rw [take_succ_of htk]
      have HLK : Hid (((turnL (ordL n os) xs).take k).length = k) := by unfold Hid; rw [List.length_take, HTL0.out]; omega
      have HOA : Hid (OwnI (wr.alloc (.cells #[.int .i64 vx] 3)).drew wB.heap.size 3 A1 c1 ((turnL (ordL n os) xs).take k)) := HA.out.alloc _
      have HSA : Hid (Ints (wr.alloc (.cells #[.int .i64 vx] 3)).drew (wr.heap.size + 1) (some ⟨wr.heap.size, 0, none⟩) 1 [vx]) := src_new wr ⟨hx1, hx2⟩
      have HZA : Hid (wB.heap.size ≤ (wr.alloc (.cells #[.int .i64 vx] 3)).drew.heap.size) := by unfold Hid; have : (wr.alloc (.cells #[.int .i64 vx] 3)).drew.heap.size = wr.heap.size + 1 := World.size_alloc ..; omega
      have HBA : Hid (Below wB.heap.size wr (wr.alloc (.cells #[.int .i64 vx] 3)).drew) := ((Below.refl wr.heap.size wr).alloc (Nat.le_refl _) _).drew.mono hszr
      have HB0 := Lib.hid HBX.out
      obtain ⟨p0, p1, pf0, pf1⟩ := pair_cells HBX.out
      obtain ⟨x0, x1, _, _⟩ := pair_cells hr1
      have P0 := fun o => cellPast o p0
      have P1 := fun o => cellPast o p1
      have F0 := fun o => frozenPast o p0 pf0
      have X0 := fun o => cellPast o x0
      have X1 := fun o => cellPast o x1
      have CX := fun o => cellPast o hcx
      have hltB := lt_of_heap HBX.out
      clear hr1 htk hqm
      have hkk : k + 1 ≤ 1000000 := by omega
      have hlt2 : w2.heap.size < wB.heap.size := by omega
      have hle2 : w2.heap.size ≤ wB.heap.size := by omega
      go_wp2_with fail
      go_region_law (refine step_appendInts rfl (.tmp 42) (.tmp 48) 22 rfl wB.heap.size 3 i0 Try.underlying22 hi0 hz0 hz1 hz2 A1 (some ⟨wr.heap.size, 0, none⟩) c1 1 1 (wr.heap.size + 1) k (k + 1) ((turnL (ordL n os) xs).take k) [vx] rfl rfl HOA.out HLK.out rfl HSA.out hkk HZA.out ?_; intro A4 c4 w4 HO4 HG4; rw [HTS.out] at HO4; have hbA := below_app HBA.out HG4 HOA.out HLK.out HZA.out; have r4 := (hbA.block w2.heap.size hlt2).trans HB0.out; obtain ⟨l0, l1, lf0, lf1⟩ := pair_cells r4; have hz4 := hbA.size; have HO4s := Lib.hid (HO4.setBelow (a := ⟨w2.heap.size, 0, none⟩) hlt2 (.slice A4 (k + 1) c4)); have r4s := Lib.hid (setFst w4 w2.heap.size _ _ (.slice A4 (k + 1) c4) _ r4); have hbS := Lib.hid ((HB.out.trans (hbA.mono hle2)).setCell (p := ⟨w2.heap.size, 0, none⟩) (Nat.le_refl _) (.slice A4 (k + 1) c4)); clear HO4 HG4 r4 hbA)
      all_goals (
        go_wp2_with fail
        go_roundw
        case rel => exact ⟨k + 1, A4, c4, by go_num, by omega, r4s, HO4s, hbS⟩
        case measure => simp [intOf]; omega)
    · have dk : decide ((k : Int) < (n : Int)) = false := by simp; omega
      have dk2 : decide (k < n) = false := by simp; omega
      have hkn : k = n := by omega
      have HAF : Hid (OwnI wr wB.heap.size 3 A1 c1 (turnL (ordL n os) xs)) := by unfold Hid; have := HA.out; rwa [List.take_of_length_le (by rw [HTL0.out]; omega)] at this
      have HBF : Hid (wr.heap[w2.heap.size]? = some (.cells #[.slice A1 n c1, .slice none 0 0] 25 (0, 0))) := by unfold Hid; rw [← hkn]; exact HBX.out
      have hbW := Lib.hid hbw
      have HBC := HB
      obtain ⟨x0, x1, _, _⟩ := pair_cells hr1
      clear hr1 hbw HA HBX hkn hlt
      obtain ⟨wC, hwC⟩ : ∃ W : World, W = wr := ⟨_, rfl⟩
      rw [← hwC] at HAF HBF HBC hbW hszr x0 x1 ⊢
      clear HB hwC
      go_wp2_with fail
      clear x0 x1
      go_loopw [55] (fun v wr => ∃ (k : Nat) (Ts : List Ent) (A3 : Option Addr) (c3 : Nat), v = .int .i64 (k : Int) ∧ k ≤ m ∧ Hid (Ts.length = k) ∧ Hid (wr.heap[w2.heap.size]? = some (.cells #[.slice A1 n c1, .slice A3 k c3] 25 (0, 0))) ∧ Hid (OwnI wr wB.heap.size 3 A1 c1 (turnL (ordL n os) xs)) ∧ Hid (OwnE wr wB.heap.size A3 c3 Ts) ∧ Hid (∀ x ∈ Ts, OwnP wr wB.heap.size x) ∧ Hid (Ts.map keyE = ((es.take k).map keyE).map (turnK (ordL n os))) ∧ Hid (Below w2.heap.size wB wr)) (fun v _ => m - (intOf v).toNat)
      case atStart => exact ⟨0, [], none, 0, rfl, Nat.zero_le _, rfl, HBF, HAF, Lib.hid (OwnE.nil_ _ _), (fun x hx => by cases hx), by unfold Hid; simp, HBC⟩
      case round =>
        clear HAF HBF HBC hbW hszr
        obtain ⟨k, Ts, A3, c3, rfl, hk, HTK, HBX, HA, HOE, HOP, HKE, HB⟩ := hrel
        have hszr := HB.out.size
        have hr1 := (HB.out.block w.heap.size (by omega)).trans HR1.out
        have hbw : Below w.heap.size w wr := HBB.out.trans (HB.out.mono (by omega))
        by_cases hlt : k < m
        · obtain ⟨b, off, y, hyA, hbb, HY, hc0, hc1, iy, hy1, hy2, hy3, hy4⟩ := (HV.out.below hbw).2.at_ hlt
          subst hyA
          have hyn' := HYN.out y (List.mem_of_getElem? HY.out)
          have hyn := Lib.hid hyn'
          clear hyn'
          have hc2 : wr.cell? ⟨b, off + k * 2, none⟩ = some (.slice y.A y.n y.c) := by rw [Nat.mul_comm k 2]; exact hc0
          have hc3 : wr.cell? ⟨b, off + k * 2 + 1, none⟩ = some (.int .i64 y.v) := by rw [Nat.mul_comm k 2]; exact hc1
          have hk0 : (0 : Int) ≤ k := by omega
          have hk1 : (k : Int) < m := by omega
          have hal := (Below.refl wr.heap.size wr).alloc (Nat.le_refl _) (.cells #[.slice y.A y.n y.c, .int .i64 y.v] 37)
          have bt := heap_alloc_new wr (.cells #[.slice y.A y.n y.c, .int .i64 y.v] 37)
          have iy2 := (iy.below hal).more hal.size
          have HBt : Hid (Below w2.heap.size wB (wr.alloc (.cells #[.slice y.A y.n y.c, .int .i64 y.v] 37))) := HB.out.trans (hal.mono (by omega))
          have HBXt : Hid ((wr.alloc (.cells #[.slice y.A y.n y.c, .int .i64 y.v] 37)).heap[w2.heap.size]? = some (.cells #[.slice A1 n c1, .slice A3 k c3] 25 (0, 0))) := (hal.block w2.heap.size (lt_of_heap HBX.out)).trans HBX.out
          have HAt : Hid (OwnI (wr.alloc (.cells #[.slice y.A y.n y.c, .int .i64 y.v] 37)) wB.heap.size 3 A1 c1 (turnL (ordL n os) xs)) := HA.out.alloc _
          have HOEt : Hid (OwnE (wr.alloc (.cells #[.slice y.A y.n y.c, .int .i64 y.v] 37)) wB.heap.size A3 c3 Ts) := HOE.out.below hal (Nat.le_refl _)
          have HOPt : Hid (∀ x ∈ Ts, OwnP (wr.alloc (.cells #[.slice y.A y.n y.c, .int .i64 y.v] 37)) wB.heap.size x) := fun x hx => ⟨(HOP.out x hx).1.alloc _, (HOP.out x hx).2⟩
          obtain ⟨wt, hwt⟩ : ∃ wt, wr.alloc (.cells #[.slice y.A y.n y.c, .int .i64 y.v] 37) = wt := ⟨_, rfl⟩
          have hszt : wr.heap.size + 1 = wt.heap.size := by rw [← hwt]; simp
          rw [hwt] at bt iy2 HBt HBXt HAt HOEt HOPt
          have HWT := Lib.hid hwt
          have BT := Lib.hid bt
          have HTL : Hid ((turnL (ordL n os) y.cs).length = n) := by unfold Hid; rw [turnL_len]; exact HOL.out
          have HTKs : Hid (es.take (k + 1) = es.take k ++ [y]) := take_succ_of HY.out
          have HIY := Lib.hid iy2
          have HVB : Hid (-9223372036854775808 ≤ y.v ∧ y.v ≤ 9223372036854775807) := ⟨hy3, hy4⟩
          clear hal hwt hc0 hc1 iy hr1 hbw bt HBX HA HOE HOP HB iy2
          go_upto_region 17 with fail
          rw [HWT.out]
          clear hc2 hc3 HWT
          go_wp2_with fail
          go_loopw [14, 61] (fun u v ws => ∃ (q : Nat) (A4 : Option Addr) (c4 : Nat), u = .slice A4 q c4 ∧ v = .int .i64 (q : Int) ∧ q ≤ n ∧ Hid (OwnI ws wt.heap.size 3 A4 c4 ((turnL (ordL n os) y.cs).take q)) ∧ Hid (Below wt.heap.size wt ws)) (fun _ v _ => n - (intOf v).toNat)
          case atStart => exact ⟨0, none, 0, rfl, rfl, Nat.zero_le _, by unfold Hid; rw [List.take_zero]; exact OwnI.nil_ _ _ _, Lib.hid (Below.refl _ _)⟩
          case round =>
            obtain ⟨ws, rfl⟩ : ∃ W : World, W = wr := ⟨_, rfl⟩
            obtain ⟨q, A4, c4, rfl, rfl, hq, HQ4, HB4⟩ := hrel
            have hs4 := HB4.out.size
            by_cases hqn : q < n
            · obtain ⟨bo, oo, p, rfl, _, HP, hcp, hp1, hp2⟩ := (HOB.out.below (HBt.out.trans (HB4.out.mono (by omega)))).at_ hqn
              have hpm := ordL_mem HOK.out (List.mem_of_getElem? HP.out)
              obtain ⟨bz, oz, vz, hzA, _, HVZ, hcz, hv1, hv2⟩ := (HIY.out.below HB4.out).at_ (k := p.toNat) (by have := hyn.out; omega)
              have hpn : 0 ≤ p := hpm.1
              have hpn2 : p < y.n := by have := hyn.out; omega
              have htk : (turnL (ordL n os) y.cs)[q]? = some vz := by unfold turnL; rw [List.getElem?_map, HP.out]; show some (pickE y.cs p) = _; rw [pickE_of HVZ.out]
              have HTS : Hid ((turnL (ordL n os) y.cs).take q ++ [vz] = (turnL (ordL n os) y.cs).take (q + 1)) := by unfold Hid; rw [take_succ_of htk]
              have HLQ : Hid (((turnL (ordL n os) y.cs).take q).length = q) := by unfold Hid; rw [List.length_take, HTL.out]; omega
              have HTT := (HB4.out.block _ (lt_of_heap BT.out)).trans BT.out
              obtain ⟨t0, t1, _, _⟩ := pair_cells HTT
              rw [hzA] at t0
              have hbig : -9223372036854775808 ≤ vz ∧ vz ≤ 9223372036854775807 := ⟨hv1, hv2⟩
              clear htk hpm hzA
              go_wp2_with (at_builtin; refine wpList_appendInts _ rfl (.tmp 65) (.tmp 71) 22 rfl wt.heap.size 3 i0 Try.underlying22 hi0 hz0 hz1 hz2 A4 (some ⟨ws.heap.size, 0, none⟩) c4 1 1 (ws.heap.size + 1) q (q + 1) ((turnL (ordL n os) y.cs).take q) [vz] rfl rfl (HQ4.out.alloc _) HLQ.out rfl (src_new ws hbig) (by omega) (by simp; omega) ?_; intro A5 c5 w5 HO5 HG5; have hb5 := below_app (HB4.out.alloc hs4 _) HG5 (HQ4.out.alloc _) HLQ.out (by simp; omega); rw [HTS.out] at HO5; have HO6 := Lib.hid HO5; have HB6 := Lib.hid hb5; clear HO5 HG5 hb5)
              go_roundw
              case rel => exact ⟨q + 1, A5, c5, rfl, by go_num, by omega, HO6, HB6⟩
              case measure => simp [intOf]; omega
            · have dq : decide ((q : Int) < (n : Int)) = false := by simp; omega
              have dq2 : decide (q < n) = false := by simp; omega
              have hqe : q = n := by omega
              have HQF : Hid (OwnI ws wB.heap.size 3 A4 c4 (turnL (ordL n os) y.cs)) := by unfold Hid; have := HQ4.out; rw [List.take_of_length_le (by rw [HTL.out]; omega)] at this; exact this.mono (by omega)
              have HBX5 := (HB4.out.block w2.heap.size (by have := lt_of_heap HBXt.out; omega)).trans HBXt.out
              have HA5 : Hid (OwnI ws wB.heap.size 3 A1 c1 (turnL (ordL n os) xs)) := HAt.out.below HB4.out (Nat.le_refl _)
              have HOE5 : Hid (OwnE ws wB.heap.size A3 c3 Ts) := HOEt.out.below HB4.out (Nat.le_refl _)
              have HOP5 : Hid (∀ x ∈ Ts, OwnP ws wB.heap.size x) := fun x hx => ⟨(HOPt.out x hx).1.below HB4.out (Nat.le_refl _), (HOPt.out x hx).2⟩
              have HB5 : Hid (Below w2.heap.size wB ws) := HBt.out.trans (HB4.out.mono (by omega))
              have HTT := (HB4.out.block _ (lt_of_heap BT.out)).trans BT.out
              obtain ⟨t0, t1, _, _⟩ := pair_cells HTT
              obtain ⟨u0, u1, uf0, uf1⟩ := pair_cells HBX5
              have HBH := Lib.hid HBX5
              have hsws : wB.heap.size ≤ ws.heap.size := by omega
              clear HTT HBX5 HQ4 HAt HOEt HOPt HBt HB4 hlt
              have hqi : (q : Int) = (n : Int) := by omega
              subst hqe
              go_wp2_with (at_builtin; refine wpList_appendEntG rfl (.tmp 75) (.tmp 80) rfl wB.heap.size A3 c3 k (k + 1) ⟨A4, q, c4, turnL (ordL q os) y.cs, y.v⟩ Ts rfl rfl HOE5.out HTK.out rfl (by omega) hsws ?_; intro A5 c5 w5 HO5 hg5; have HO5' := Lib.hid HO5; clear HO5; have HG5 : Hid (ws.grownBy w5 (Value.slice A3 Ts.length c3).ownBlock) := (by unfold Hid; rw [HTK.out]; exact hg5); clear hg5; have rbx := box_keptE HBH.out (by decide) HOE5.out HG5.out; obtain ⟨s0, s1, sf0, sf1⟩ := pair_cells rbx; have HRB := Lib.hid rbx; clear rbx)
              have hsn := set_snd w5 w2.heap.size _ _ (.slice A5 (k + 1 : Nat) c5) _ HRB.out
              have HOWN6 : Hid (OwnE (w5.setCell ⟨w2.heap.size, 1, none⟩ (.slice A5 (k + 1 : Nat) c5)) wB.heap.size A5 c5 (Ts ++ [⟨A4, q, c4, turnL (ordL q os) y.cs, y.v⟩])) := World.ownsRow.kept HO5'.out hsn.2 (rows_ne HO5'.out HRB.out (by decide))
              have HOP6 : Hid (∀ x ∈ Ts ++ [⟨A4, q, c4, turnL (ordL q os) y.cs, y.v⟩], OwnP (w5.setCell ⟨w2.heap.size, 1, none⟩ (.slice A5 (k + 1 : Nat) c5)) wB.heap.size x) := fun x hx => by
                have hq : OwnP ws wB.heap.size x := by
                  rcases List.mem_append.1 hx with hx | hx
                  · exact HOP5.out x hx
                  · rw [List.mem_singleton.1 hx]; exact ⟨HQF.out, HTL.out.symm, HVB.out.1, HVB.out.2⟩
                have q5 := hq.1.keptE HOE5.out HG5.out
                exact ⟨⟨q5.1.kept hsn.2 (rows_ne q5.1 HRB.out (by decide)), q5.2⟩, hq.2⟩
              have HA6 : Hid (OwnI (w5.setCell ⟨w2.heap.size, 1, none⟩ (.slice A5 (k + 1 : Nat) c5)) wB.heap.size 3 A1 c1 (turnL (ordL q os) xs)) := by
                have q5 := HA5.out.keptE HOE5.out HG5.out
                exact ⟨q5.1.kept hsn.2 (rows_ne q5.1 HRB.out (by decide)), q5.2⟩
              have HBF6 : Hid (Below w2.heap.size wB (w5.setCell ⟨w2.heap.size, 1, none⟩ (.slice A5 (k + 1 : Nat) c5))) := by
                have q5 : Below w2.heap.size wB w5 := HB5.out.grown HG5.out (by omega) (fun k hk => by have := (World.ownsRow.lt HOE5.out k hk).1; omega)
                exact q5.setCell (p := ⟨w2.heap.size, 1, none⟩) (Nat.le_refl _) _
              have HHP6 := Lib.hid hsn.1
              have HKE6 : Hid ((Ts ++ [⟨A4, q, c4, turnL (ordL q os) y.cs, y.v⟩] : List Ent).map keyE = ((es.take (k + 1)).map keyE).map (turnK (ordL q os))) := by
                unfold Hid
                rw [HTKs.out, List.map_append, List.map_append, List.map_append, HKE.out]
                show _ ++ [(turnL (ordL q os) y.cs, y.v, q)] = _ ++ [(turnL (ordL q os) y.cs, y.v, (ordL q os).length)]
                rw [HOL.out]
              have hlen6 : Hid ((Ts ++ [⟨A4, q, c4, turnL (ordL q os) y.cs, y.v⟩] : List Ent).length = k + 1) := by unfold Hid; rw [List.length_append, HTK.out]; rfl
              clear hsn
              go_roundw
              case rel => exact ⟨k + 1, Ts ++ [⟨A4, q, c4, turnL (ordL q os) y.cs, y.v⟩], A5, c5, by go_num, by omega, hlen6, HHP6, HA6, HOWN6, HOP6, HKE6, HBF6⟩
              case measure => simp [intOf]; omega
        · have hkm : k = m := by omega
          have HKF : Hid (Ts.map keyE = (es.map keyE).map (turnK (ordL n os))) := by unfold Hid; rw [HKE.out, List.take_of_length_le (by rw [HEL.out]; omega)]
          have dk : decide ((k : Int) < (m : Int)) = false := by simp; omega
          have dk2 : decide (k < m) = false := by simp; omega
          have hr2 := (HB.out.block (w.heap.size + 1) (by omega)).trans HR2.out
          obtain ⟨v0, v1, vf0, vf1⟩ := pair_cells hr2
          have HRV := Lib.hid hr2
          have hbx := HBX.out
          rw [hkm] at hbx
          obtain ⟨p0, p1, _, _⟩ := pair_cells hbx
          have HBW := Lib.hid hbw
          have HTM : Hid (Ts.length = m) := by unfold Hid; rw [HTK.out, hkm]
          clear hr1 hr2 hbx hbw hlt HBX
          go_wp2_with fail
          have hres := set_two wr (w.heap.size + 1) _ _ (.slice A1 n c1) (.slice A3 m c3) _ HRV.out
          obtain ⟨s0, s1, _, _⟩ := pair_cells hres.1
          obtain ⟨wz, hwz⟩ : ∃ wz, (wr.setCell ⟨w.heap.size + 1, 0, none⟩ (.slice A1 n c1)).setCell ⟨w.heap.size + 1, 1, none⟩ (.slice A3 m c3) = wz := ⟨_, rfl⟩
          rw [hwz] at hres s0 s1 ⊢
          refine bodyPost_ret (v := .tuple #[.agg #[.slice A1 n c1, .slice A3 m c3], .int .i64 0]) (by simp [results, Try.results28, go_sem, s0, s1]) rfl ⟨A1, c1, A3, c3, Ts, rfl, ⟨?_, ?_⟩, HKF, HBW.out.grown hres.2 HBW.out.size (fun k hk => by injection hk with hk; omega)⟩
          · have hoa : OwnI wz wB.heap.size 3 A1 c1 (turnL (ordL n os) xs) := ⟨HA.out.1.kept hres.2 (rows_ne HA.out.1 HRV.out (by decide)), HA.out.2⟩
            have := hoa.ints
            rwa [HTL0.out] at this
          · have hoe : OwnE wz wB.heap.size A3 c3 Ts := World.ownsRow.kept HOE.out hres.2 (rows_ne HOE.out HRV.out (by decide))
            have := ownE_ents hoe (fun x hx => ⟨⟨(HOP.out x hx).1.1.kept hres.2 (rows_ne (HOP.out x hx).1.1 HRV.out (by decide)), (HOP.out x hx).1.2⟩, (HOP.out x hx).2⟩)
            rw [HTM.out] at this
            exact this
end Go.Proofs.Ytpfabbapfmfmmaa
