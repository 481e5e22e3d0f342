/- The walk of MergeWhole. -/
import Derived.Test.YtnaehnlpcjaaeaaPMWholeM
import Derived.BigQuiet
namespace Go.Proofs.Ytnaehnlpcjaaeaa
open Go.RowKit

theorem belowQ {B : Nat} {w w1 w2 : World} {q : Nat} (h : Below B w w1) (hw : w2 = w1.drewN q) : Below B w w2 := by rw [hw]; exact ⟨h.os, h.tape, h.output, h.size, h.block⟩
set_option maxRecDepth 100000 in
set_option maxHeartbeats 8000000 in
theorem mergeWhole_in (w : World) (A : Option Addr) (n c : Nat) (LL : List (List Int)) (h : IntsLL w w.heap.size A n LL) (hL : ∀ L ∈ LL, L.length ≤ 17592186044416) (hs : n ≤ 50) (ht : LL.flatten.length ≤ 500) (hR : AllRise LL) :
    Calls Try.prog 4 #[.slice A n c] w fun e w' => e = .returned (.bool true) ∧ Below w.heap.size w w' := by
  have cL := mLive_any w
  have HH := Lib.hid h
  have HL := Lib.hid hL
  have HT := Lib.hid ht
  have HR := Lib.hid hR
  obtain ⟨i0, hi0, hz0, hz1, hz2⟩ := info_parts infoInt
  have hmk := fun W => run_makeAll (P := Try.prog) 25 3 i0 Try.underlying25 hi0 hz0 hz1 hz2 n (by omega) W
  clear h hL ht hR
  go_enter Try.func4, Try.ntmps4
  go_wp2_with (first | (go_at_call 9; refine cL.mono ?_; rintro e w1 ⟨rfl, hb1⟩) | (go_at_call 10; refine (few_small A n c _ LL w1 (HH.out.below hb1) HL.out hs true (decide_eq_true HT.out)).mono ?_; rintro e w2 ⟨rfl, q2, hw2⟩; have hb2 := belowQ hb1 hw2; clear hw2) | (go_at_call 17; refine (walk_ok A n c LL w2 ((HH.out.below hb2).more hb2.size) (by omega) (by have := HT.out; omega) HR.out).mono ?_; rintro e w3 ⟨ss, As, r, cs, rfl, hr, hrc, hWI, hSt, hb3⟩; have HB3 := Lib.hid (hb2.trans (hb3.mono hb2.size)); have HRL := Lib.hid hr; have HWI := Lib.hid hWI; have HST := Lib.hid hSt; clear hr hrc hWI hSt hb3))
  have HLN : Hid (LL.length = n) := HH.out.1
  have HRB : Hid (r ≤ 500) := by
    have h1 : (ss.map (·.at_)).length ≤ LL.flatten.length := List.Nodup.length_le_of_subset (HWI.out.union.rise.imp fun h e => by omega) fun m hm => by
      obtain ⟨L, hL, hmL⟩ := (HWI.out.union.mem m).1 hm
      exact List.mem_flatten.2 ⟨L, hL, hmL⟩
    rw [List.length_map, HRL.out] at h1
    exact Nat.le_trans h1 HT.out
  have hO0 := own_made w3 3 n w3.heap.size (Nat.le_refl _) (by omega)
  rw [← HLN.out, ← nxV_start LL (ss.map (·.at_)), HLN.out] at hO0
  have HO0 := Lib.hid hO0
  have HB0 := Lib.hid (belowM w3 (.cells (madeCells #[.int .i64 0] n) 3))
  have hrb := HRB.out
  clear hO0 hmk cL hb1 hb2
  go_loopw [41] (fun v wr => ∃ (i : Nat), v = .int .i64 (i : Int) ∧ i ≤ r ∧ Hid (OwnI wr w3.heap.size 3 (some ⟨w3.heap.size, 0, none⟩) n (nxV LL (ss.map (·.at_)) i 0)) ∧ Hid (Below w3.heap.size w3 wr)) (fun v _ => r - (intOf v).toNat)
  case atStart => exact ⟨0, rfl, Nat.zero_le _, HO0, HB0⟩
  case round =>
    clear HO0 HB0
    obtain ⟨i, rfl, hi, HO, HB⟩ := hrel
    by_cases hlt : i < r
    · obtain ⟨b, off, ⟨v, X, nx, cx, xs⟩, rfl, hbz, HX, hc, hc', hI, hcap, hv1, hv2⟩ := (HST.out.below HB.out).at_ hlt
      simp only at hc hc' hI hcap hv1 hv2
      obtain ⟨hnx, hxs⟩ := HWI.out.ins _ (List.mem_of_getElem? HX.out)
      simp only at hnx hxs
      obtain rfl : nx = n := hnx
      have HV : Hid ((ss.map (·.at_))[i]? = some v) := by unfold Hid; rw [List.getElem?_map, HX.out]; rfl
      have HXS := Lib.hid hxs
      have HI := Lib.hid hI
      have hzl := HO.out.ltL.2
      obtain ⟨wo, hwo⟩ : ∃ wo : World, wo = wr := ⟨_, rfl⟩
      rw [← hwo] at HO HB HI hc hc' hzl ⊢
      have HBX := Lib.hid (heap_alloc_new wo (.cells #[.int .i64 v, .slice X nx cx] 36))
      have HOA := Lib.hid (HO.out.alloc (.cells #[.int .i64 v, .slice X nx cx] 36))
      have HBA := Lib.hid (HB.out.alloc HB.out.size (.cells #[.int .i64 v, .slice X nx cx] 36))
      have i0' : (0 : Int) ≤ (i : Int) := by omega
      have i1 : (i : Int) < (r : Int) := by omega
      have e1 : ((nx : Int) != (nx : Int)) = false := by simp
      have HPV : Hid (∀ p, i = p + 1 → ∃ v', (ss.map (·.at_))[p]? = some v' ∧ v' < v) := fun p hp => by
        have h1 : p < (ss.map (·.at_)).length := by rw [List.length_map, HRL.out]; omega
        obtain ⟨h2, h3⟩ := List.getElem?_eq_some_iff.1 HV.out
        refine ⟨_, List.getElem?_eq_getElem h1, ?_⟩
        have := (List.pairwise_iff_getElem.1 HWI.out.union.rise) p i h1 h2 (by omega)
        rw [h3] at this
        exact this
      clear hwo hxs hI hcap
      go_wp2_with fail
      go_cut [66] (fun s wx => s = .bool false ∧ ∃ q, wx = (wo.alloc (.cells #[.int .i64 v, .slice X nx cx] 36)).drewN q)
      case first =>
        obtain ⟨t0, _⟩ := blk_cell (cs := [.int .i64 v, .slice X nx cx]) (i := 0) HBX.out rfl
        obtain ⟨t1, _⟩ := blk_cell (cs := [.int .i64 v, .slice X nx cx]) (i := 1) HBX.out rfl
        rcases Nat.eq_zero_or_pos i with rfl | hpos
        · go_quiet (fail)
          go_wp2_with fail
          go_meet
          exact ⟨rfl, _, rfl⟩
        · obtain ⟨p, hp⟩ : ∃ p, i = p + 1 := ⟨i - 1, by omega⟩
          obtain ⟨v', hv', hlt'⟩ := HPV.out p hp
          obtain ⟨b', off', ⟨y, Y, ny, cy, ys⟩, e, _, HY, hd, _, _, _, _, _⟩ := (HST.out.below HBA.out).at_ (k := p) (by omega)
          injection e with e
          injection e with e1 e2
          subst e1 e2
          simp only at hd
          have ey : y = v' := by
            rw [List.getElem?_map, HY.out] at hv'
            simpa using hv'
          rw [ey] at hd
          have wk : IntKind.i64.wrap ((i : Int) - 1) = (p : Int) := by rw [wrap_eq, IntWalk.wrap64_in _ ⟨by omega, by omega⟩]; omega
          have dv : decide (v ≤ v') = false := decide_eq_false (by omega)
          have p0 : (0 : Int) ≤ (p : Int) := by omega
          have p1 : (p : Int) < (r : Int) := by omega
          have dp : decide (0 < i) = true := decide_eq_true hpos
          have HP := Lib.hid hp
          clear ey hv' hlt' hp
          go_quiet (fail)
          go_wp2_with fail
          go_meet
          exact ⟨rfl, _, rfl⟩
      case rest =>
        obtain ⟨rfl, q, hq⟩ := hcut
        obtain ⟨wg, rfl⟩ : ∃ W : World, W = wc := ⟨_, rfl⟩
        have HOC : Hid (OwnI wg w3.heap.size 3 (some ⟨w3.heap.size, 0, none⟩) nx (nxV LL (ss.map (·.at_)) i 0)) := by rw [hq]; exact HOA.out
        have HBC : Hid (Below w3.heap.size w3 wg) := belowQ HBA.out hq
        have HXC : Hid (wg.heap[wo.heap.size]? = some (.cells #[.int .i64 v, .slice X nx cx] 36 (0, 0))) := by rw [hq]; exact HBX.out
        obtain ⟨t0, _⟩ := blk_cell (cs := [.int .i64 v, .slice X nx cx]) (i := 0) HXC.out rfl
        obtain ⟨t1, _⟩ := blk_cell (cs := [.int .i64 v, .slice X nx cx]) (i := 1) HXC.out rfl
        have HIX : Hid (Ints w3 w3.heap.size X nx xs) := by
          obtain ⟨_, _, s', _, _, hX', _, _, hI', _⟩ := HST.out.at_ hlt
          have e : s' = ⟨v, X, nx, cx, xs⟩ := by have := hX'.out; rw [HX.out] at this; injection this with this; exact this.symm
          rw [e] at hI'
          exact hI'
        have hzl2 : wo.heap.size ≠ w3.heap.size := by omega
        clear hq HOA HBA HBX HO HB HI hc hc' hzl
        go_wp2_with fail
        clear t0 t1
        go_loopw [70, 9] (fun u f wx => ∃ (j : Nat), u = .int .i64 (j : Int) ∧ f = .bool (someB LL v j) ∧ j ≤ nx ∧ Hid (OwnI wx w3.heap.size 3 (some ⟨w3.heap.size, 0, none⟩) nx (nxV LL (ss.map (·.at_)) i j)) ∧ Hid (wx.heap[wo.heap.size]? = some (.cells #[.int .i64 v, .slice X nx cx] 36 (0, 0))) ∧ Hid (Below w3.heap.size w3 wx)) (fun u _ _ => nx - (intOf u).toNat)
        case atStart => exact ⟨0, rfl, rfl, Nat.zero_le _, HOC, HXC, HBC⟩
        case round =>
          clear HOC HXC HBC
          obtain ⟨j, rfl, rfl, hj, HO2, HX2, HB2⟩ := hrel
          by_cases hjn : j < nx
          · obtain ⟨bx, offx, y, rfl, _, HY, hcy, _, _⟩ := (HIX.out.below HB2.out).at_ hjn
            have hbw := HB3.out.trans (HB2.out.mono HB3.out.size)
            obtain ⟨bl, offl, L, a, lc, rfl, _, HLJ, hcl, hcapl, hIL⟩ := (HH.out.below hbw).at_ hjn
            have ey : y = placeI L v := by
              have h1 := HY.out
              rw [HXS.out] at h1
              simp only [List.getElem?_map, HLJ.out, Option.map_some, Option.some.injEq] at h1
              exact h1.symm
            have hLm := List.mem_of_getElem? HLJ.out
            have hsb := someB_succ (v := v) HLJ.out
            have j0 : (0 : Int) ≤ (j : Int) := by omega
            have j1 : (j : Int) < (nx : Int) := by omega
            by_cases hm : v ∈ L
            · obtain ⟨hat, hpl⟩ := nextF_at HWI.out.union HR.out hLm HV.out hm
              have hno := nxV_has HLJ.out HV.out hm
              have hna := nxV_at (LL := LL) (u := ss.map (·.at_)) (i := i) (j := j) (k := j) (by rw [HLN.out]; exact hjn)
              rw [if_neg (by omega)] at hna
              have hg : LL.getD j [] = L := by rw [List.getD_eq_getElem?_getD, HLJ.out]; rfl
              rw [hg] at hna
              have hqr := nextF_le L (ss.map (·.at_)) i
              rw [List.length_map, HRL.out] at hqr
              have hql := (List.getElem?_eq_some_iff.1 hat).1
              obtain ⟨qn, hqn⟩ : ∃ qn, nextF L (ss.map (·.at_)) i = qn := ⟨_, rfl⟩
              rw [hqn] at hat hpl hno hna hqr hql
              obtain ⟨M, hM⟩ : ∃ M, L.length = M := ⟨_, rfl⟩
              rw [hM] at hcl hcapl hIL hql
              obtain ⟨bq, offq, z, rfl, _, HZ, hcz, _, _⟩ := hIL.at_ hql
              have ez : z = v := by have := HZ.out; rw [hat] at this; injection this with this; exact this.symm
              rw [ez] at hcz
              rw [ey, hpl] at hcy
              obtain ⟨nc, nf⟩ := HO2.out.cell_ hna
              have hset := HO2.out.set_ j ((qn : Int) + 1) ⟨by omega, by omega⟩
              rw [← hno] at hset
              have HSET := Lib.hid hset
              have HX3 : Hid ((wr.setCell ⟨w3.heap.size, j, none⟩ (.int .i64 ((qn : Int) + 1))).heap[wo.heap.size]? = some (.cells #[.int .i64 v, .slice (some ⟨bx, offx, none⟩) nx cx] 36 (0, 0))) := (Below.heap_setCell wr ⟨w3.heap.size, j, none⟩ _ _ (fun e => hzl2 (by first | exact e | exact e.symm))).trans HX2.out
              have HB4 := Lib.hid (HB2.out.setCell (p := ⟨w3.heap.size, j, none⟩) (Nat.le_refl _) (.int .i64 ((qn : Int) + 1)))
              have HSB : Hid (someB LL v (j + 1) = true) := by
                unfold Hid
                rw [hsb]
                have : L.contains v = true := by simpa using hm
                rw [this, Bool.or_true]
              obtain ⟨t0, _⟩ := blk_cell (cs := [.int .i64 v, .slice _ nx cx]) (i := 0) HX2.out rfl
              have wq : IntKind.i64.wrap ((qn : Int) + 1) = (qn : Int) + 1 := by rw [wrap_eq]; exact IntWalk.wrap64_in _ ⟨by omega, by omega⟩
              have q0 : (0 : Int) ≤ (qn : Int) := by omega
              have q1 : (qn : Int) < (M : Int) := by omega
              have e3 : ((qn : Int) != (qn : Int)) = false := by simp
              have e4 : (v != v) = false := by simp
              have dm : decide (M ≤ qn) = false := decide_eq_false (by omega)
              clear hset hno hna hg hsb ey ez hat hpl hm hqn hM hIL hbw hLm
              go_wp2_with fail
              go_quiet (fail)
              go_wp2_with fail
              go_roundw
              case rel => exact ⟨j + 1, by go_num, by rw [HSB.out], by omega, HSET, HX3, ⟨HB4.out.os, HB4.out.tape, HB4.out.output, HB4.out.size, HB4.out.block⟩⟩
              case measure => simp [intOf]; omega
            · have hpl := placeI_none hm
              have hno := nxV_not HLJ.out HV.out hm
              rw [ey, hpl] at hcy
              have HO3 : Hid (OwnI wr w3.heap.size 3 (some ⟨w3.heap.size, 0, none⟩) nx (nxV LL (ss.map (·.at_)) i (j + 1))) := by unfold Hid; rw [hno]; exact HO2.out
              have HSB : Hid (someB LL v (j + 1) = someB LL v j) := by
                unfold Hid
                rw [hsb]
                have : L.contains v = false := by simpa using hm
                rw [this, Bool.or_false]
              clear hno hpl hsb ey hm hIL hbw hLm
              go_wp2_with fail
              go_roundw
              case rel => exact ⟨j + 1, by go_num, by rw [HSB.out], by omega, HO3, HX2, HB2⟩
              case measure => simp [intOf]; omega
          · obtain rfl : j = nx := by omega
            have hall := someB_all HWI.out.union HV.out
            rw [HLN.out] at hall
            have hturn := nxV_turn LL (ss.map (·.at_)) i
            rw [HLN.out] at hturn
            have HO3 : Hid (OwnI wr w3.heap.size 3 (some ⟨w3.heap.size, 0, none⟩) j (nxV LL (ss.map (·.at_)) (i + 1) 0)) := by unfold Hid; rw [← hturn]; exact HO2.out
            rw [hall]
            clear hjn hall hturn
            go_wp2_with fail
            go_roundw
            case rel => exact ⟨i + 1, by go_num, by omega, HO3, HB2⟩
            case measure => simp [intOf]; omega
    · obtain rfl : i = r := by omega
      clear hlt hi
      go_wp2_with fail
      go_loopw [116] (fun v wx => ∃ (k : Nat), v = .int .i64 (k : Int) ∧ k ≤ n ∧ wx = wr) (fun v _ => n - (intOf v).toNat)
      case atStart => exact ⟨0, rfl, Nat.zero_le _, rfl⟩
      case round =>
        obtain ⟨k, rfl, hk, rfl⟩ := hrel
        by_cases hlt : k < n
        · have hbw := HB3.out.trans (HB.out.mono HB3.out.size)
          obtain ⟨b, off, L, a, lc, rfl, _, HX, hc, hcap, hI⟩ := (HH.out.below hbw).at_ hlt
          have hna := nxV_at (LL := LL) (u := ss.map (·.at_)) (i := i) (j := 0) (k := k) (by rw [HLN.out]; exact hlt)
          rw [if_neg (by omega)] at hna
          have hg : LL.getD k [] = L := by rw [List.getD_eq_getElem?_getD, HX.out]; rfl
          have hall := nextF_all HWI.out.union HR.out (List.mem_of_getElem? HX.out)
          rw [List.length_map, HRL.out] at hall
          rw [hg, hall] at hna
          obtain ⟨nc, _⟩ := HO.out.cell_ hna
          obtain ⟨M, hM⟩ : ∃ M, L.length = M := ⟨_, rfl⟩
          rw [hM] at hc nc
          have k0 : (0 : Int) ≤ (k : Int) := by omega
          have k1 : (k : Int) < (n : Int) := by omega
          have e1 : ((M : Int) != (M : Int)) = false := by simp
          clear hna hall hg hI hbw hcap hM
          go_wp2
          go_roundw
          case rel => exact ⟨k + 1, by go_num, by omega, by first | trivial | rfl⟩
          case measure => simp [intOf]; omega
        · obtain rfl : k = n := by omega
          clear hlt
          go_wp2
          go_ret
          exact ⟨rfl, HB3.out.trans (HB.out.mono HB3.out.size)⟩
end Go.Proofs.Ytnaehnlpcjaaeaa
