/- purflelaw02.CooBack returns true at every list and order. -/
import Derived.Test.YtapbcmhkipaecaaPEBackX
import Derived.Test.YtapbcmhkipaecaaPEBackL
import Derived.Test.YtapbcmhkipaecaaPECooB
namespace Go.Proofs.Ytapbcmhkipaecaa
open Go.RowKit

theorem sort_parts {xs os : List Int} {n : Nat} {es : List Ent} (ha : sortE' xs os n es = 0) : cooF xs es = 0 ∧ OrdOk n os := by
  unfold sortE' at ha
  by_cases h0 : cooF xs es = 0
  · rw [if_pos h0] at ha
    refine ⟨h0, ?_⟩
    by_cases h : OrdOk n os
    · exact h
    · rw [if_neg h] at ha; cases ha
  · rw [if_neg h0] at ha; exact absurd ha h0
theorem ordL_some {n : Nat} {os : List Int} (h : os ≠ []) : ordL n os = os := by unfold ordL; rw [if_neg h]
theorem ordOk_perm {n : Nat} {os : List Int} (h : os.Perm (iotaL n)) : OrdOk n os := .inr (sortI_iota.2 h)
theorem ne_nil {n : Nat} {os : List Int} (h : os.length = n) (h0 : n ≠ 0) : os ≠ [] := fun e => by rw [e] at h; exact h0 h.symm
theorem turnL_get {os l : List Int} {q p : Nat} {y : Int} (h : os[q]? = some (p : Int)) (h2 : l[p]? = some y) : (turnL os l)[q]? = some y := by
  unfold turnL
  rw [List.getElem?_map, h]
  show some (pickE l (p : Int)) = _
  unfold pickE
  rw [List.getD_eq_getElem?_getD, Int.toNat_natCast, h2]; rfl
theorem cooF_keys2 {xs : List Int} {es fs : List Ent} (h : es.map keyE = fs.map keyE) (hE : cooF xs es = 0) : cooF xs fs = 0 := by
  refine cooF_of hE ?_ fun x hx => ?_
  · have := congrArg List.length h
    rw [List.length_map, List.length_map] at this
    omega
  · have : keyE x ∈ es.map keyE := by rw [h]; exact List.mem_map_of_mem hx
    exact map_cs ⟨keyE x, this, rfl⟩

set_option maxRecDepth 100000 in
set_option maxHeartbeats 8000000 in
theorem cooBack_w (A B Ao : Option Addr) (n c m e ro co : Nat) (xs os : List Int) (es : List Ent) (w : World) (h : Ints w w.heap.size A n xs) (hn : n ≤ 9223372036854775807) (hv : Ents w w.heap.size B m es) (hm : m ≤ 9223372036854775807) (ha : Ints w w.heap.size Ao ro os) (hro : ro ≤ 9223372036854775807) :
    Calls Try.prog 7 #[.agg #[.slice A n c, .slice B m e], .slice Ao ro co] w fun x w' => x = .returned (.bool true) ∧ Below w.heap.size w w' := by
  by_cases hq1 : fewC [((⟨A, n, c, B, m, e⟩ : Hdr), es)] = true ∧ ro ≤ 20 ∧ ro ≠ 0
  case neg => exact back_exit1 A B Ao n c m e ro co xs os es w h hn hv hm ha hro hq1
  obtain ⟨hf, h2, h3⟩ := hq1
  by_cases hx : sortE' xs os n es = 0
  case neg => exact back_exit2 A B Ao n c m e ro co xs os es w h hn hv hm ha hro hf h2 h3 hx
  obtain ⟨hC0, hok⟩ := sort_parts hx
  have hos : os ≠ [] := ne_nil ha.1 h3
  have hpo := ordL_perm hok
  rw [ordL_some hos] at hpo
  obtain rfl : ro = n := by have := hpo.length_eq; rw [iotaL_len] at this; have := ha.1; omega
  have VX : CooV w A ro B m xs es := ⟨h, hv⟩
  have IA := ha
  clear h hv ha
  have hnm := fewC_one hf
  have hn4 : ro ≤ 4 := by rw [← VX.1.1]; exact (cellsF_ok (cooF_parts hC0).1).1
  have hm5 : m ≤ 65536 := by rw [← VX.2.1]; exact (cooF_parts hC0).2.1
  have HFW := Lib.hid hf
  have HPO := Lib.hid hpo
  have HC0 := Lib.hid hC0
  have HOK := Lib.hid hok
  have HOL : Hid (ordL ro os = os) := ordL_some hos
  have HKO := Lib.hid (keyOk_of VX hC0)
  have HXL : Hid (xs.length = ro) := VX.1.1
  obtain ⟨Y, hY⟩ : ∃ Y, turnL os xs = Y := ⟨_, rfl⟩
  have HY := Lib.hid hY
  obtain ⟨E, hE⟩ : ∃ E, denE xs es = E := ⟨_, rfl⟩
  have HE := Lib.hid hE
  have d1 : decide (20 < (ro : Int)) = false := by simp; omega
  have d2 : ((ro : Int) == 0) = false := by simp; omega
  have dE : (E != E) = false := by simp
  obtain ⟨i0, hi0, hz0, hz1, hz2⟩ := info_parts infoInt
  have hmk := fun W => run_makeAll (P := Try.prog) 22 3 i0 Try.underlying22 hi0 hz0 hz1 hz2 ro (by omega) W
  clear hf hnm hpo hC0 hok hos hY hE hx
  go_enter Try.func7, Try.ntmps7
  have hal := (Below.refl w.heap.size w).alloc (Nat.le_refl _) (.cells #[.slice A ro c, .slice B m e] 25)
  have QX := heap_alloc_new w (.cells #[.slice A ro c, .slice B m e] 25)
  obtain ⟨w1, hw⟩ : ∃ W, w.alloc (.cells #[.slice A ro c, .slice B m e] 25) = W := ⟨_, rfl⟩
  rw [hw] at hal QX
  have hT := hal
  replace VX := VX.below hal
  replace IA := (IA.below hal).more hal.size
  have HW := Lib.hid hw
  clear hal hw
  go_upto_region 1 with fail
  rw [HW.out]
  clear HW
  go_wp2_with fail
  refine (cooLive_any _).mono ?_
  rintro x w2 ⟨rfl, hbk⟩
  replace hT := hT.trans (hbk.mono hT.size)
  replace QX := heapAt hbk QX
  replace VX := VX.below hbk
  replace IA := (IA.below hbk).more hbk.size
  clear hbk
  obtain ⟨QX0, QX1, _, _⟩ := pair_cells QX
  go_wp2_with fail
  refine (few_coo A B ro c m e xs es _ VX true HFW).mono ?_
  rintro x w3 ⟨rfl, hbk⟩
  clear QX0 QX1
  replace hT := hT.trans (hbk.mono hT.size)
  replace QX := heapAt hbk QX
  replace VX := VX.below hbk
  replace IA := (IA.below hbk).more hbk.size
  clear hbk
  obtain ⟨QX0, QX1, _, _⟩ := pair_cells QX
  go_wp2_with fail
  refine (turnV_ok A B Ao ro c m e ro co xs os es _ VX HC0.out HOK.out IA (by omega)).mono ?_
  rintro x w4 ⟨A1, c1, A2, c2, Ts, rfl, VT, HTK, hbk⟩
  clear QX0 QX1
  replace hT := hT.trans (hbk.mono hT.size)
  replace QX := heapAt hbk QX
  replace VX := VX.below hbk
  replace IA := (IA.below hbk).more hbk.size
  clear hbk
  rw [HOL.out] at HTK
  rw [HOL.out, HY.out] at VT
  have HTC : Hid (cooF Y Ts = 0) := by unfold Hid; rw [← HY.out]; exact cooF_turn HPO.out HXL.out HC0.out HTK.out
  have hal := (Below.refl w4.heap.size w4).alloc (Nat.le_refl _) (.cells #[.slice A1 ro c1, .slice A2 m c2] 25)
  have QY := heap_alloc_new w4 (.cells #[.slice A1 ro c1, .slice A2 m c2] 25)
  obtain ⟨w5, hw⟩ : ∃ W, w4.alloc (.cells #[.slice A1 ro c1, .slice A2 m c2] 25) = W := ⟨_, rfl⟩
  rw [hw] at hal QY
  replace hT := hT.trans (hal.mono hT.size)
  replace QX := heapAt hal QX
  replace VX := VX.below hal
  replace VT := VT.below hal
  replace IA := (IA.below hal).more hal.size
  have HW := Lib.hid hw
  clear hal hw
  go_upto_region 5 with fail
  rw [HW.out]
  clear HW
  have HO := own_made w5 3 ro w5.heap.size (Nat.le_refl _) (by omega)
  have hal := (Below.refl w5.heap.size w5).alloc (Nat.le_refl _) (.cells (madeCells #[.int .i64 0] ro) 3)
  go_wp2_with fail
  go_loopw [56] (fun i wr => ∃ q : Nat, q ≤ ro ∧ i = .int .i64 q ∧ ∃ bs, Hid (InvTo ro os bs q) ∧ OwnI wr w5.heap.size 3 (some ⟨w5.heap.size, 0, none⟩) ro bs ∧ Below w5.heap.size w5 wr) (fun i _ => ro - (intOf i).toNat)
  case atStart => exact ⟨0, Nat.zero_le _, rfl, _, invTo_zero ro os, HO, hal⟩
  case round =>
    clear HO hal hmk
    obtain ⟨q, hq, rfl, bs, HI, HO, hbr⟩ := hrel
    by_cases hlt : q < ro
    · obtain ⟨p, hp, hpn⟩ := order_at HPO.out hlt
      have HNX := Lib.hid (invTo_step HPO.out HI.out hp hpn)
      obtain ⟨bo, offo, xo, rfl, hbo, HXo, hco, _, _⟩ := ((IA.below hbr).more hbr.size).at_ hlt
      obtain rfl : xo = (p : Int) := by have := HXo.out; rw [hp] at this; injection this with this; exact this.symm
      obtain ⟨x0, hx0⟩ : ∃ x0, bs[p]? = some x0 := ⟨_, List.getElem?_eq_getElem (by have := HI.out.1; omega)⟩
      obtain ⟨hcz, hfz⟩ := HO.cell_ hx0
      have hset := HO.set_ p (q : Int) (by omega)
      have hT2 := hbr.setCell (p := ⟨w5.heap.size, p, none⟩) (Nat.le_refl _) (.int .i64 (q : Int))
      have hp0 : (0 : Int) ≤ (p : Int) := by omega
      have hp1 : (p : Int) < (ro : Int) := by omega
      clear hp hx0 HXo HO
      go_wp2_with fail
      go_roundw
      case rel => exact ⟨q + 1, by omega, by go_num, _, HNX, hset, hT2⟩
      case measure => simp [intOf]; omega
    · have dz : decide ((q : Int) < (ro : Int)) = false := by simp; omega
      have dz2 : decide (q < ro) = false := by simp; omega
      have hqn : q = ro := by omega
      rw [hqn] at HI
      have HIV := Lib.hid (invTo_end (by rw [HPO.out.length_eq, iotaL_len]) HI.out)
      have hbl : bs.length = ro := HI.out.1
      have IB := HO.ints
      rw [hbl] at IB
      have HBP := Lib.hid (inv_perm HPO.out HIV.out)
      have HBO : Hid (ordL ro bs = bs) := ordL_some (ne_nil hbl h3)
      have HTB : Hid (turnL bs Y = xs) := by unfold Hid; rw [← HY.out]; exact turn_back HPO.out HIV.out HXL.out
      clear HO HI hbl hqn hlt
      replace hT := hT.trans (hbr.mono hT.size)
      replace QX := heapAt hbr QX
      replace QY := heapAt hbr QY
      replace VX := VX.below hbr
      replace VT := VT.below hbr
      replace IA := (IA.below hbr).more hbr.size
      clear hbr
      obtain ⟨QY0, QY1, _, _⟩ := pair_cells QY
      go_wp2_with fail
      refine (turnV_ok A1 A2 (some ⟨w5.heap.size, 0, none⟩) ro c1 m c2 ro ro Y bs Ts _ VT HTC.out (ordOk_perm HBP.out) IB (by omega)).mono ?_
      rintro x w41 ⟨A3, c3, A4, c4, Zs, rfl, VZ, HZK, hbk⟩
      clear QY0 QY1
      replace hT := hT.trans (hbk.mono hT.size)
      replace QX := heapAt hbk QX
      replace QY := heapAt hbk QY
      replace VX := VX.below hbk
      replace VT := VT.below hbk
      replace IA := (IA.below hbk).more hbk.size
      replace IB := (IB.below hbk).more hbk.size
      clear hbk
      rw [HBO.out] at HZK
      rw [HBO.out, HTB.out] at VZ
      have HZ : Hid (Zs.map keyE = es.map keyE) := by unfold Hid; rw [HZK.out, HTK.out]; exact keys_back HPO.out HIV.out HKO.out
      have HE2 : Hid (denE Y Ts = E) := by unfold Hid; rw [← HE.out]; unfold denE; rw [HTC.out, HC0.out, ← HY.out, laidF_turn HPO.out HXL.out (by omega)]
      have hal := (Below.refl w41.heap.size w41).alloc (Nat.le_refl _) (.cells #[.slice A3 ro c3, .slice A4 m c4] 25)
      have QZ := heap_alloc_new w41 (.cells #[.slice A3 ro c3, .slice A4 m c4] 25)
      obtain ⟨w42, hw⟩ : ∃ W, w41.alloc (.cells #[.slice A3 ro c3, .slice A4 m c4] 25) = W := ⟨_, rfl⟩
      rw [hw] at hal QZ
      replace hT := hT.trans (hal.mono hT.size)
      replace QX := heapAt hal QX
      replace QY := heapAt hal QY
      replace VX := VX.below hal
      replace VT := VT.below hal
      replace VZ := VZ.below hal
      replace IA := (IA.below hal).more hal.size
      replace IB := (IB.below hal).more hal.size
      have HW := Lib.hid hw
      clear hal hw
      go_upto_region 14 with fail
      rw [HW.out]
      clear HW
      obtain ⟨QX0, QX1, _, _⟩ := pair_cells QX
      go_wp2_with fail
      refine (denV_f A B ro c m e xs es _ VX (by omega) (by omega) E HE).mono ?_
      rintro x w43 ⟨Ad, nd, cd, Bd, md, ed, rfl, VD, hbk⟩
      clear QX0 QX1
      replace hT := hT.trans (hbk.mono hT.size)
      replace QX := heapAt hbk QX
      replace QY := heapAt hbk QY
      replace QZ := heapAt hbk QZ
      replace VX := VX.below hbk
      replace VT := VT.below hbk
      replace VZ := VZ.below hbk
      replace IA := (IA.below hbk).more hbk.size
      replace IB := (IB.below hbk).more hbk.size
      clear hbk
      have hal := (Below.refl w43.heap.size w43).alloc (Nat.le_refl _) (.cells #[.slice Ad nd cd, .slice Bd md ed] 41)
      have QD := heap_alloc_new w43 (.cells #[.slice Ad nd cd, .slice Bd md ed] 41)
      obtain ⟨w44, hw⟩ : ∃ W, w43.alloc (.cells #[.slice Ad nd cd, .slice Bd md ed] 41) = W := ⟨_, rfl⟩
      rw [hw] at hal QD
      replace hT := hT.trans (hal.mono hT.size)
      replace QX := heapAt hal QX
      replace QY := heapAt hal QY
      replace QZ := heapAt hal QZ
      replace VX := VX.below hal
      replace VT := VT.below hal
      replace VZ := VZ.below hal
      replace VD := VD.below hal
      replace IA := (IA.below hal).more hal.size
      replace IB := (IB.below hal).more hal.size
      have HW := Lib.hid hw
      clear hal hw
      go_upto_region 15 with fail
      rw [HW.out]
      clear HW
      obtain ⟨QY0, QY1, _, _⟩ := pair_cells QY
      go_wp2_with fail
      refine (denV_f A1 A2 ro c1 m c2 Y Ts _ VT (by omega) (by omega) E HE2).mono ?_
      rintro x w45 ⟨At, nt, ct, Bt, mt, et, rfl, VU, hbk⟩
      clear QY0 QY1
      replace hT := hT.trans (hbk.mono hT.size)
      replace QX := heapAt hbk QX
      replace QY := heapAt hbk QY
      replace QZ := heapAt hbk QZ
      replace QD := heapAt hbk QD
      replace VX := VX.below hbk
      replace VT := VT.below hbk
      replace VZ := VZ.below hbk
      replace VD := VD.below hbk
      replace IA := (IA.below hbk).more hbk.size
      replace IB := (IB.below hbk).more hbk.size
      clear hbk
      have hal := (Below.refl w45.heap.size w45).alloc (Nat.le_refl _) (.cells #[.slice At nt ct, .slice Bt mt et] 41)
      have QU := heap_alloc_new w45 (.cells #[.slice At nt ct, .slice Bt mt et] 41)
      obtain ⟨w46, hw⟩ : ∃ W, w45.alloc (.cells #[.slice At nt ct, .slice Bt mt et] 41) = W := ⟨_, rfl⟩
      rw [hw] at hal QU
      replace hT := hT.trans (hal.mono hT.size)
      replace QX := heapAt hal QX
      replace QY := heapAt hal QY
      replace QZ := heapAt hal QZ
      replace QD := heapAt hal QD
      replace VX := VX.below hal
      replace VT := VT.below hal
      replace VZ := VZ.below hal
      replace VD := VD.below hal
      replace VU := VU.below hal
      replace IA := (IA.below hal).more hal.size
      replace IB := (IB.below hal).more hal.size
      have HW := Lib.hid hw
      clear hal hw
      go_upto_region 16 with fail
      rw [HW.out]
      clear HW
      obtain ⟨QZ0, QZ1, _, _⟩ := pair_cells QZ
      obtain ⟨QX0, QX1, _, _⟩ := pair_cells QX
      go_wp2_with fail
      refine (sameV A3 A4 A B ro c3 m c4 ro c m e xs xs Zs es _ VZ (by omega) (by omega) VX (by omega) (by omega) true (sameC_t (cooF_keys2 HZ.out.symm HC0.out) HZ.out)).mono ?_
      rintro x w47 ⟨rfl, hbk⟩
      clear QZ0 QZ1 QX0 QX1
      replace hT := hT.trans (hbk.mono hT.size)
      replace QX := heapAt hbk QX
      replace QY := heapAt hbk QY
      replace QZ := heapAt hbk QZ
      replace QD := heapAt hbk QD
      replace QU := heapAt hbk QU
      replace VX := VX.below hbk
      replace VT := VT.below hbk
      replace VZ := VZ.below hbk
      replace VD := VD.below hbk
      replace VU := VU.below hbk
      replace IA := (IA.below hbk).more hbk.size
      replace IB := (IB.below hbk).more hbk.size
      clear hbk
      by_cases hE0 : E = 0
      · have d3 : (E != 0) = false := by simpa using hE0
        have d3' : (E == 0) = true := by simpa using hE0
        obtain ⟨hnd, VDd, hmd, hcd⟩ := VD hE0
        obtain ⟨hnt, VUd, hmt, hcu⟩ := VU hE0
        obtain rfl := hnd.symm
        obtain rfl := hnt.symm
        have HCD := Lib.hid hcd
        have HCU := Lib.hid hcu
        have HIN : Hid (∀ x ∈ es, insideF xs x.cs = true) := (cooF_parts HC0.out).2.2
        clear hcd hcu VD VU hE0 dE hnd hnt HE HE2
        obtain ⟨QX0, QX1, _, _⟩ := pair_cells QX
        go_wp2_with fail
        clear QX0 QX1
        go_loopw [101] (fun i wr => ∃ k : Nat, k ≤ m ∧ i = .int .i64 k ∧ Below w47.heap.size w47 wr) (fun i _ => m - (intOf i).toNat)
        case atStart => exact ⟨0, Nat.zero_le _, rfl, Below.refl _ _⟩
        case round =>
          obtain ⟨k, hk, rfl, hbr⟩ := hrel
          by_cases hlt : k < m
          · have HBR := Lib.hid hbr
            replace hT := hT.trans (hbr.mono hT.size)
            replace QX := heapAt hbr QX
            replace QY := heapAt hbr QY
            replace QZ := heapAt hbr QZ
            replace QD := heapAt hbr QD
            replace QU := heapAt hbr QU
            replace VX := VX.below hbr
            replace VT := VT.below hbr
            replace VZ := VZ.below hbr
            replace VDd := VDd.below hbr
            replace VUd := VUd.below hbr
            replace IA := (IA.below hbr).more hbr.size
            replace IB := (IB.below hbr).more hbr.size
            clear hbr
            obtain ⟨b2, off2, y, rfl, hb2, HYE, hc0, hc1, IY, hy1, hy2, hy3, hy4⟩ := VX.2.at_ hlt
            have hin := HIN.out y (List.mem_of_getElem? HYE.out)
            have hyn : ro = y.n := by rw [← IY.1, ← (inn_of_insideF hin).len, HXL.out]
            have hc2 : wr.cell? ⟨b2, off2 + k * 2, none⟩ = some (.slice y.A y.n y.c) := by rw [Nat.mul_comm k 2]; exact hc0
            have hc3 : wr.cell? ⟨b2, off2 + k * 2 + 1, none⟩ = some (.int .i64 y.v) := by rw [Nat.mul_comm k 2]; exact hc1
            obtain ⟨yA, yn, yc, ycs, yv⟩ := y
            dsimp only at hc0 hc1 hc2 hc3 IY hy1 hy2 hy3 hy4 hin hyn
            obtain rfl := hyn
            have HINY := Lib.hid hin
            have HYL : Hid (ycs.length = ro) := IY.1
            clear hin hc0 hc1 HYE
            have hal := (Below.refl wr.heap.size wr).alloc (Nat.le_refl _) (.cells #[.slice yA ro yc, .int .i64 yv] 37)
            have QE := heap_alloc_new wr (.cells #[.slice yA ro yc, .int .i64 yv] 37)
            obtain ⟨we, hw⟩ : ∃ W, wr.alloc (.cells #[.slice yA ro yc, .int .i64 yv] 37) = W := ⟨_, rfl⟩
            rw [hw] at hal QE
            have HW := Lib.hid hw
            clear hw
            go_upto_region 23 with fail
            rw [HW.out]
            replace HBR := Lib.hid (HBR.out.trans (hal.mono HBR.out.size))
            clear hc2 hc3
            replace hT := hT.trans (hal.mono hT.size)
            replace QX := heapAt hal QX
            replace QY := heapAt hal QY
            replace QZ := heapAt hal QZ
            replace QD := heapAt hal QD
            replace QU := heapAt hal QU
            replace VX := VX.below hal
            replace VT := VT.below hal
            replace VZ := VZ.below hal
            replace VDd := VDd.below hal
            replace VUd := VUd.below hal
            replace IA := (IA.below hal).more hal.size
            replace IB := (IB.below hal).more hal.size
            replace IY := (IY.below hal).more hal.size
            clear hal HW
            go_wp2_with fail
            have HLt : Hid ((turnL os ycs).length = ro) := by unfold Hid; rw [turnL_len, HPO.out.length_eq, iotaL_len]
            go_loopw [19, 107] (fun v u wr => ∃ (A' : Option Addr) (c' q : Nat), v = .slice A' q c' ∧ u = .int .i64 q ∧ q ≤ ro ∧ Hid (OwnI wr we.heap.size 3 A' c' ((turnL os ycs).take q)) ∧ Below we.heap.size we wr) (fun _ u _ => ro - (intOf u).toNat)
            case atStart => exact ⟨none, 0, 0, rfl, rfl, Nat.zero_le _, by unfold Hid; rw [List.take_zero]; exact OwnI.nil_ _ _ _, Below.refl _ _⟩
            case round =>
              obtain ⟨A', c', q, rfl, rfl, hq, HO, hb⟩ := hrel
              by_cases hlq : q < ro
              · have hsz := hb.size
                have QE2 := heapAt hb QE
                obtain ⟨QE0, QE1, _, _⟩ := pair_cells QE2
                obtain ⟨pp, hp, hpn⟩ := order_at HPO.out hlq
                obtain ⟨bo, offo, xo, rfl, hbo, HXo, hco, _, _⟩ := ((IA.below hb).more hb.size).at_ hlq
                obtain rfl : xo = (pp : Int) := by have := HXo.out; rw [hp] at this; injection this with this; exact this.symm
                obtain ⟨bc, offc, yy, rfl, hbc, HYY, hcy, hyy1, hyy2⟩ := ((IY.below hb).more hb.size).at_ hpn
                have HLk : Hid (((turnL os ycs).take q).length = q) := by unfold Hid; rw [List.length_take, HLt.out]; omega
                have HS : Hid ((turnL os ycs).take q ++ [yy] = (turnL os ycs).take (q + 1)) := by unfold Hid; rw [take_succ_of (turnL_get HXo.out HYY.out)]
                have hbig : -9223372036854775808 ≤ yy ∧ yy ≤ 9223372036854775807 := ⟨hyy1, hyy2⟩
                have hp0 : (0 : Int) ≤ (pp : Int) := by omega
                have hp1 : (pp : Int) < (ro : Int) := by omega
                clear hp QE2
                go_wp2_with (at_builtin; refine wpList_appendInts _ rfl (.tmp 111) (.tmp 117) 22 rfl we.heap.size 3 i0 Try.underlying22 hi0 hz0 hz1 hz2 A' (some ⟨wr.heap.size, 0, none⟩) c' 1 1 (wr.heap.size + 1) q (q + 1) ((turnL os ycs).take q) [yy] rfl rfl (HO.out.alloc _) HLk.out rfl (src_new wr hbig) (by omega) (by simp; omega) ?_; intro A8 c8 w8 HO8 HG8; have hb8 := below_app (hb.alloc hsz _) HG8 (HO.out.alloc _) HLk.out (by simp; omega); rw [HS.out] at HO8; have HO9 := Lib.hid HO8; clear HO8 HG8)
                go_roundw
                case rel => exact ⟨A8, c8, q + 1, rfl, by go_num, by omega, HO9, hb8⟩
                case measure => simp [intOf]; omega
              · have dz : decide ((q : Int) < (ro : Int)) = false := by simp; omega
                have dz2 : decide (q < ro) = false := by simp; omega
                obtain rfl : ro = q := by omega
                have HOF := HO.out
                rw [List.take_of_length_le (by rw [HLt.out]; omega)] at HOF
                have IC := HOF.ints
                rw [HLt.out] at IC
                clear HOF HO hlq hq
                replace HBR := Lib.hid (HBR.out.trans (hb.mono HBR.out.size))
                replace hT := hT.trans (hb.mono hT.size)
                replace QX := heapAt hb QX
                replace QY := heapAt hb QY
                replace QZ := heapAt hb QZ
                replace QD := heapAt hb QD
                replace QU := heapAt hb QU
                replace QE := heapAt hb QE
                replace VX := VX.below hb
                replace VT := VT.below hb
                replace VZ := VZ.below hb
                replace VDd := VDd.below hb
                replace VUd := VUd.below hb
                replace IA := (IA.below hb).more hb.size
                replace IB := (IB.below hb).more hb.size
                replace IY := (IY.below hb).more hb.size
                clear hb
                obtain ⟨G, hG⟩ : ∃ G, wrap64 (totP (fun q => decide ((numR xs q).toNat = (numR xs ycs).toNat)) (es.map keyE)) = G := ⟨_, rfl⟩
                have hg1 := get_cell (K := es.map keyE) HCD.out HINY.out
                rw [hG] at hg1
                have hg2 := get_turn (M2 := mt) (K := es.map keyE) HPO.out HXL.out HCD.out (by rw [HY.out]; exact HCU.out) HINY.out (fun t ht => by obtain ⟨y, hy, rfl⟩ := List.mem_map.1 ht; exact HIN.out y hy)
                rw [hg1, HY.out, ← HTK.out] at hg2
                have HG2 := Lib.hid hg2
                have dG : (G != G) = false := by simp
                have HC1 := get_any Ad Bd yA ro cd md ed ro yc xs (denseK xs (es.map keyE)) ycs wr VDd.1 VDd.2 IY (by omega) (by omega)
                rw [hg1] at HC1
                dsimp only at HC1
                clear hg1 hg2 hG
                obtain ⟨QD0, QD1, _, _⟩ := pair_cells QD
                obtain ⟨QE0, QE1, _, _⟩ := pair_cells QE
                go_wp2_with fail
                refine HC1.mono ?_
                rintro x wg ⟨rfl, hbk⟩
                clear QD0 QD1 QE0 QE1
                clear HC1
                replace HBR := Lib.hid (HBR.out.trans (hbk.mono HBR.out.size))
                replace hT := hT.trans (hbk.mono hT.size)
                replace QX := heapAt hbk QX
                replace QY := heapAt hbk QY
                replace QZ := heapAt hbk QZ
                replace QD := heapAt hbk QD
                replace QU := heapAt hbk QU
                replace QE := heapAt hbk QE
                replace VX := VX.below hbk
                replace VT := VT.below hbk
                replace VZ := VZ.below hbk
                replace VDd := VDd.below hbk
                replace VUd := VUd.below hbk
                replace IA := (IA.below hbk).more hbk.size
                replace IB := (IB.below hbk).more hbk.size
                replace IY := (IY.below hbk).more hbk.size
                replace IC := (IC.below hbk).more hbk.size
                clear hbk
                have HC2 := get_any At Bt A' ro ct mt et ro c' Y (denseK Y (Ts.map keyE)) (turnL os ycs) wg VUd.1 VUd.2 IC (by omega) (by omega)
                rw [HG2.out] at HC2
                dsimp only at HC2
                obtain ⟨QU0, QU1, _, _⟩ := pair_cells QU
                go_wp2_with fail
                refine HC2.mono ?_
                rintro x wh ⟨rfl, hbk⟩
                clear QU0 QU1
                clear HC2
                replace HBR := Lib.hid (HBR.out.trans (hbk.mono HBR.out.size))
                clear hbk
                go_wp2_with fail
                go_roundw
                case rel => exact ⟨k + 1, by omega, by go_num, HBR.out⟩
                case measure => simp [intOf]; omega
          · have dz : decide ((k : Int) < (m : Int)) = false := by simp; omega
            have dz2 : decide (k < m) = false := by simp; omega
            replace hT := hT.trans (hbr.mono hT.size)
            replace QX := heapAt hbr QX
            replace QY := heapAt hbr QY
            replace QZ := heapAt hbr QZ
            replace QD := heapAt hbr QD
            replace QU := heapAt hbr QU
            replace VX := VX.below hbr
            replace VT := VT.below hbr
            replace VZ := VZ.below hbr
            replace VDd := VDd.below hbr
            replace VUd := VUd.below hbr
            replace IA := (IA.below hbr).more hbr.size
            replace IB := (IB.below hbr).more hbr.size
            go_wp2_with fail
            go_ret
            exact ⟨rfl, hT⟩
      · have d3 : (E != 0) = true := by simpa using hE0
        have d3' : (E == 0) = false := by simpa using hE0
        go_wp2_with fail
        go_ret
        exact ⟨rfl, hT⟩

theorem cooBack_any (w : World) (A : Option Addr) (n c : Nat) (B : Option Addr) (m e : Nat) (xs : List Int) (es : List Ent) (h : Ints w w.heap.size A n xs) (hn : n ≤ 9223372036854775807) (hv : Ents w w.heap.size B m es) (hm : m ≤ 9223372036854775807) (_ : n ≤ c) (_ : m ≤ e)
  (Ao : Option Addr) (ro co : Nat) (os : List Int) (ha : Ints w w.heap.size Ao ro os) (hro : ro ≤ 9223372036854775807) :
    Calls Try.prog 7 #[.agg #[.slice A n c, .slice B m e], .slice Ao ro co] w fun x w' => x = .returned (.bool true) ∧ Below w.heap.size w w' :=
  cooBack_w A B Ao n c m e ro co xs os es w h hn hv hm ha hro

end Go.Proofs.Ytapbcmhkipaecaa
