/- purflelaw15.ValidEnds returns true. -/
import Derived.Test.YtmnadieblhdcpaaDoorG27
namespace Go.Proofs.YtmnadieblhdcpaaDoor
open Go.RowKit

set_option maxRecDepth 100000 in
set_option maxHeartbeats 8000000 in
theorem validEnds_any (w : World) (q : Cq) (hq : q.In w) (PA : Option Addr) (pn pc : Nat) (ps : List Bool) (hp : Bools w w.heap.size PA pn ps) (hpn : pn ≤ 9223372036854775807) (hSh : ShT w) : Calls Tryd.prog 6 #[q.val, .slice PA pn pc] w fun r w' => r = .returned (.bool true) ∧ Below w.heap.size w w' := by
  obtain ⟨R, A, I, P, n, c, l⟩ := q
  have HQ := Lib.hid hq
  have HSh := Lib.hid hSh
  have HP := Lib.hid hp
  have HLN : Hid (l.length = n) := hq.len
  have hn1 : n ≤ 9223372036854775807 := hq.n1
  have HXO : Hid (∀ x ∈ l, x.ok) := hq.ins.2.1
  obtain ⟨W0, hW0⟩ : ∃ W, w.alloc (Cq.obj ⟨R, A, I, P, n, c, l⟩) = W := ⟨_, rfl⟩
  have HB0 : Hid (Below w.heap.size w W0) := by rw [← hW0]; exact lvBelow w _
  have HX0 : Hid (W0.heap[w.heap.size]? = some (Cq.obj ⟨R, A, I, P, n, c, l⟩)) := by rw [← hW0]; exact heap_alloc_new w _
  clear hq hp hSh
  by_cases hf : n ≤ 300
  case neg =>
    have d0 : decide (n ≤ 300) = false := decide_eq_false hf
    go_enter Tryd.func6, Tryd.ntmps6
    go_wp2_with fail
    try rw [hW0]
    refine (live15_any W0 (HSh.out.on HB0.out)).mono ?_
    rintro e w1 ⟨rfl, hb⟩
    have HB1 := Lib.hid (HB0.out.trans (hb.mono HB0.out.size))
    have HX1 := Lib.hid (keep_b hb HX0.out)
    clear hb hW0
    obtain ⟨m0, m1, m2, m3, _⟩ := lvCells HX1.out
    go_wp2_with fail
    refine (refFew14_any ⟨R, A, I, P, n, c, l⟩ w1 (HQ.out.on HB1.out)).mono ?_
    rintro e w2 ⟨rfl, hb⟩
    have HB2 := Lib.hid (HB1.out.trans (hb.mono HB1.out.size))
    have HX2 := Lib.hid (keep_b hb HX1.out)
    clear hb m0 m1 m2 m3
    dsimp only
    rw [d0]
    go_wp2_with fail
    go_ret
    exact ⟨rfl, HB2.out⟩
  have d0 : decide (n ≤ 300) = true := decide_eq_true hf
  cases hm : Cd.may (Cq.cd ⟨R, A, I, P, n, c, l⟩) with
  | false =>
    have HE := Lib.hid (Cd.e_no hm)
    clear hm
    go_enter Tryd.func6, Tryd.ntmps6
    go_wp2_with fail
    try rw [hW0]
    refine (live15_any W0 (HSh.out.on HB0.out)).mono ?_
    rintro e w1 ⟨rfl, hb⟩
    have HB1 := Lib.hid (HB0.out.trans (hb.mono HB0.out.size))
    have HX1 := Lib.hid (keep_b hb HX0.out)
    clear hb hW0
    obtain ⟨m0, m1, m2, m3, _⟩ := lvCells HX1.out
    go_wp2_with fail
    refine (refFew14_any ⟨R, A, I, P, n, c, l⟩ w1 (HQ.out.on HB1.out)).mono ?_
    rintro e w2 ⟨rfl, hb⟩
    have HB2 := Lib.hid (HB1.out.trans (hb.mono HB1.out.size))
    have HX2 := Lib.hid (keep_b hb HX1.out)
    clear hb m0 m1 m2 m3
    dsimp only
    rw [d0]
    have hC := validLoops_any ⟨R, A, I, P, n, c, l⟩ w2 (HQ.out.on HB2.out) (HSh.out.on HB2.out)
    unfold LoopsP at hC
    rw [HE.out] at hC
    obtain ⟨m0, m1, m2, m3, _⟩ := lvCells HX2.out
    go_wp2_with fail
    refine hC.mono ?_
    rintro e w3 ⟨A3, n3, c3, rfl, hI, hb⟩
    have HB3 := Lib.hid (HB2.out.trans (hb.mono HB2.out.size))
    have HX3 := Lib.hid (keep_b hb HX2.out)
    have hn3 : (loopsC (Cq.cd ⟨R, A, I, P, n, c, l⟩)).length = n3 := hI.1
    clear hb hC hI m0 m1 m2 m3
    clear hn3
    go_wp2_with fail
    go_ret
    exact ⟨rfl, HB3.out⟩
  | true =>
    have HE := Lib.hid (Cd.e_yes hm)
    have HM := Lib.hid hm
    have HLC : Hid (loopsC (Cq.cd ⟨R, A, I, P, n, c, l⟩) = (loopsN (Cq.cd ⟨R, A, I, P, n, c, l⟩)).map (fun n : Nat => (n : Int))) := by unfold Hid loopsC; rw [hm]; rfl
    obtain ⟨⟨_, _, _, _, _, _, hl0, hl1⟩, _⟩ := Cd.may_parts hm
    have hl0 : 1 ≤ l.length := hl0
    rw [HLN.out] at hl0
    clear hm
    go_enter Tryd.func6, Tryd.ntmps6
    go_wp2_with fail
    try rw [hW0]
    refine (live15_any W0 (HSh.out.on HB0.out)).mono ?_
    rintro e w1 ⟨rfl, hb⟩
    have HB1 := Lib.hid (HB0.out.trans (hb.mono HB0.out.size))
    have HX1 := Lib.hid (keep_b hb HX0.out)
    clear hb hW0
    obtain ⟨m0, m1, m2, m3, _⟩ := lvCells HX1.out
    go_wp2_with fail
    refine (refFew14_any ⟨R, A, I, P, n, c, l⟩ w1 (HQ.out.on HB1.out)).mono ?_
    rintro e w2 ⟨rfl, hb⟩
    have HB2 := Lib.hid (HB1.out.trans (hb.mono HB1.out.size))
    have HX2 := Lib.hid (keep_b hb HX1.out)
    clear hb m0 m1 m2 m3
    dsimp only
    rw [d0]
    have hC := validLoops_any ⟨R, A, I, P, n, c, l⟩ w2 (HQ.out.on HB2.out) (HSh.out.on HB2.out)
    unfold LoopsP at hC
    rw [HE.out] at hC
    obtain ⟨m0, m1, m2, m3, _⟩ := lvCells HX2.out
    go_wp2_with fail
    refine hC.mono ?_
    rintro e w3 ⟨A3, n3, c3, rfl, hI, hb⟩
    have HB3 := Lib.hid (HB2.out.trans (hb.mono HB2.out.size))
    have HX3 := Lib.hid (keep_b hb HX2.out)
    have hn3 : (loopsC (Cq.cd ⟨R, A, I, P, n, c, l⟩)).length = n3 := hI.1
    clear hb hC hI m0 m1 m2 m3
    rw [HLC.out, List.length_map] at hn3
    by_cases hz : n3 = 0
    case neg =>
      have z0 : (0 : Int) < (n3 : Int) := by omega
      clear hn3 hz
      go_wp2_with fail
      go_ret
      exact ⟨rfl, HB3.out⟩
    have HLZ : Hid (loopsN (Cq.cd ⟨R, A, I, P, n, c, l⟩) = []) := List.eq_nil_of_length_eq_zero (by omega)
    subst hz
    clear hn3
    obtain ⟨m0, m1, m2, m3, _⟩ := lvCells HX3.out
    go_wp2_with fail
    clear m0 m1 m2 m3
    go_loopw [8, 32] (fun a b wr => ∃ (i k : Nat), i ≤ n ∧ b = .int .i64 i ∧ a = .int .i64 k ∧ i ≤ k ∧ Hid (Way l (-1) k) ∧ Hid (Below w.heap.size w wr) ∧ Hid (wr.heap[w.heap.size]? = some (Cq.obj ⟨R, A, I, P, n, c, l⟩))) (fun _ b _ => n - (intOf b).toNat)
    case atStart => exact ⟨0, 0, Nat.zero_le _, rfl, rfl, Nat.le_refl _, .start, HB3, HX3⟩
    case round =>
      obtain ⟨i, k, hi, rfl, rfl, hik, HWAY, HB, HX⟩ := hrel
      have hkn : k < n := by
        have h := Way.lt HM.out (i := k) HWAY.out
        have e : (Cq.cd ⟨R, A, I, P, n, c, l⟩).l.length = n := HLN.out
        rw [e] at h
        exact h
      by_cases hin : i < n
      case neg => omega
      obtain ⟨b, off, x, hA, hbb, HXX, ⟨y0, y1, y2, y3, y4⟩, hxo⟩ := ((HQ.out.on HB.out).ins).at_ hkn
      subst hA
      have hk1 : (k : Int) < (n : Int) := by omega
      have hk2 : ¬ (k : Int) < 0 := by omega
      have hk3 : ¬ (n : Int) ≤ (k : Int) := by omega
      have hii : (i : Int) < (n : Int) := by omega
      have HXK := Lib.hid hxo
      obtain ⟨m0, m1, m2, m3, _⟩ := lvCells HX.out
      have hNx := codeNext_any x (k : Int) wr HXK.out (by omega) (by first | exact HSh.out.on HB.out | exact HSh.out.on HB0.out | exact HSh.out.on HB1.out | exact HSh.out.on HB2.out | exact HSh.out.on HB3.out | exact HSh.out.on HB4.out | exact HSh.out.on HB5.out | exact HSh.out.on HB6.out | exact HSh.out.on HB7.out | exact HSh.out.on HB8.out | exact HSh.out.on HB9.out | exact HSh.out.on HB10.out | exact HSh.out.on HB11.out | exact HSh.out.on HB12.out | exact HSh.out.on HB13.out | exact HSh.out.on HB14.out | exact HSh.out.on HB15.out | exact HSh.out.on HB16.out | exact HSh.out.on HBk.out | exact HSh.out.on HBK.out | exact HSh.out.on HBG.out | exact HSh.out.on HD0.out | exact HSh.out.on HT6.out.bel | exact HSh.out.on HT7.out.bel | exact HSh.out.on HT8.out.bel | exact HSh.out.on HT9.out.bel | exact HSh.out.on HT10.out.bel | exact HSh.out.on HT11.out.bel | exact HSh.out.on HT12.out.bel | exact HSh.out.on HT13.out.bel | exact HSh.out.on HT9b.out.bel | exact HSh.out.on HT.out.bel | exact HSh.out.on HW.out.bel | exact HSh.out.on HI.out.bel | exact HSh.out.on HW6.out.bel | exact HSh.out.on HW7.out.bel | exact HSh.out.on HW8.out.bel | exact HSh.out.on HW9.out.bel | exact HSh.out.on HW10.out.bel | exact HSh.out.on HW11.out.bel | exact HSh.out.on HW12.out.bel | exact HSh.out.on HI6.out.bel | exact HSh.out.on HI7.out.bel | exact HSh.out.on HI8.out.bel | exact HSh.out.on HI9.out.bel | exact HSh.out.on HI10.out.bel | exact HSh.out.on HI11.out.bel | exact HSh.out.on HI12.out.bel | exact HSh.out.on (HB.out.trans (hb.mono HB.out.size)) | exact HSh.out.on (HB0.out.trans (hb.mono HB0.out.size)) | exact HSh.out.on (HB1.out.trans (hb.mono HB1.out.size)) | exact HSh.out.on (HB2.out.trans (hb.mono HB2.out.size)) | exact HSh.out.on (HB3.out.trans (hb.mono HB3.out.size)) | exact HSh.out.on (HB4.out.trans (hb.mono HB4.out.size)) | exact HSh.out.on (HB5.out.trans (hb.mono HB5.out.size)) | exact HSh.out.on (HB6.out.trans (hb.mono HB6.out.size)) | exact HSh.out.on (HB7.out.trans (hb.mono HB7.out.size)) | exact HSh.out.on (HB8.out.trans (hb.mono HB8.out.size)) | exact HSh.out.on (HB9.out.trans (hb.mono HB9.out.size)) | exact HSh.out.on (HB10.out.trans (hb.mono HB10.out.size)) | exact HSh.out.on (HB11.out.trans (hb.mono HB11.out.size)) | exact HSh.out.on (HB12.out.trans (hb.mono HB12.out.size)) | exact HSh.out.on (HB13.out.trans (hb.mono HB13.out.size)) | exact HSh.out.on (HB14.out.trans (hb.mono HB14.out.size)) | exact HSh.out.on (HB15.out.trans (hb.mono HB15.out.size)) | exact HSh.out.on (HB16.out.trans (hb.mono HB16.out.size)) | exact HSh.out.on (HBk.out.trans (hb.mono HBk.out.size)) | exact HSh.out.on (HBK.out.trans (hb.mono HBK.out.size)) | exact HSh.out.on (HBG.out.trans (hb.mono HBG.out.size)) | exact HSh.out.on (HD0.out.trans (hb.mono HD0.out.size)) | exact HSh.out.on (HT6.out.bel.trans (hb.mono HT6.out.bel.size)) | exact HSh.out.on (HT7.out.bel.trans (hb.mono HT7.out.bel.size)) | exact HSh.out.on (HT8.out.bel.trans (hb.mono HT8.out.bel.size)) | exact HSh.out.on (HT9.out.bel.trans (hb.mono HT9.out.bel.size)) | exact HSh.out.on (HT10.out.bel.trans (hb.mono HT10.out.bel.size)) | exact HSh.out.on (HT11.out.bel.trans (hb.mono HT11.out.bel.size)) | exact HSh.out.on (HT12.out.bel.trans (hb.mono HT12.out.bel.size)) | exact HSh.out.on (HT13.out.bel.trans (hb.mono HT13.out.bel.size)) | exact HSh.out.on (HT9b.out.bel.trans (hb.mono HT9b.out.bel.size)) | exact HSh.out.on (HT.out.bel.trans (hb.mono HT.out.bel.size)) | exact HSh.out.on (HW.out.bel.trans (hb.mono HW.out.bel.size)) | exact HSh.out.on (HI.out.bel.trans (hb.mono HI.out.bel.size)) | exact HSh.out.on (HW6.out.bel.trans (hb.mono HW6.out.bel.size)) | exact HSh.out.on (HW7.out.bel.trans (hb.mono HW7.out.bel.size)) | exact HSh.out.on (HW8.out.bel.trans (hb.mono HW8.out.bel.size)) | exact HSh.out.on (HW9.out.bel.trans (hb.mono HW9.out.bel.size)) | exact HSh.out.on (HW10.out.bel.trans (hb.mono HW10.out.bel.size)) | exact HSh.out.on (HW11.out.bel.trans (hb.mono HW11.out.bel.size)) | exact HSh.out.on (HW12.out.bel.trans (hb.mono HW12.out.bel.size)) | exact HSh.out.on (HI6.out.bel.trans (hb.mono HI6.out.bel.size)) | exact HSh.out.on (HI7.out.bel.trans (hb.mono HI7.out.bel.size)) | exact HSh.out.on (HI8.out.bel.trans (hb.mono HI8.out.bel.size)) | exact HSh.out.on (HI9.out.bel.trans (hb.mono HI9.out.bel.size)) | exact HSh.out.on (HI10.out.bel.trans (hb.mono HI10.out.bel.size)) | exact HSh.out.on (HI11.out.bel.trans (hb.mono HI11.out.bel.size)) | exact HSh.out.on (HI12.out.bel.trans (hb.mono HI12.out.bel.size)))
      unfold NextP at hNx
      have hMX : ∀ z ∈ nextJ x k, (k : Int) < z ∧ z < n := by
        intro z hz
        have h1 := loops_none HLZ.out (i := k) HWAY.out (x := x) HXX.out z hz
        have h2 := Cd.next_in HM.out (i := k) (x := x) HXX.out z hz
        have e : (Cq.cd ⟨R, A, I, some ⟨b, off, none⟩, n, c, l⟩).l.length = n := HLN.out
        rw [e] at h2
        exact ⟨h1, h2.2⟩
      have HON : Hid (∀ z : Nat, (z : Int) ∈ nextJ x k → Way l (-1) z) := fun z hz => Way.on (c := Cq.cd ⟨R, A, I, some ⟨b, off, none⟩, n, c, l⟩) HM.out HWAY.out HXX.out hz
      have hnx2 : (nextJ x k).length ≤ 2 := next_two15 x k
      obtain ⟨nx, hnx⟩ : ∃ z, nextJ x (k : Int) = z := ⟨_, rfl⟩
      rw [hnx] at hNx HON hMX hnx2
      have HMX := Lib.hid hMX
      clear hnx hMX hbb hxo
      go_wp2_with fail
      (with_reducible refine hNx.mono ?_)
      rintro e w5 ⟨A5, c5, rfl, hO5, hb⟩
      have HB5 := Lib.hid (HB.out.trans (hb.mono HB.out.size))
      have HX5 := Lib.hid (keep_b hb HX.out)
      have HP5 := Lib.hid (HP.out.keep (w' := w5) fun p hp => HB5.out.cell hp)
      have HO5 := Lib.hid hO5
      clear hb hO5 hNx y0 y1 y2 y3 y4 m0 m1 m2 m3
      match nx, hnx2 with
      | [], _ =>
        go_wp2_with fail
        go_ret
        exact ⟨rfl, HB5.out⟩
      | [u], _ =>
        have hub := HMX.out u (by simp)
        obtain ⟨z, rfl⟩ : ∃ z : Nat, u = (z : Int) := ⟨u.toNat, by omega⟩
        have HWAY2 : Hid (Way l (-1) z) := HON.out z (by simp)
        have hiz : i + 1 ≤ z := by omega
        obtain ⟨g5, rfl, u0⟩ := own_at15 HO5.out (k := 0) rfl
        have hl : ([(z : Int)] : List Int).length = 1 := rfl
        by_cases hpi : i < pn
        · obtain ⟨bp, offp, v, rfl, _, _, p0⟩ := HP5.out.at_ hpi
          have hpp : (i : Int) < (pn : Int) := by omega
          cases v
          all_goals (
            go_wp2_with fail
            go_roundw
            case rel => exact ⟨i + 1, z, by omega, by go_num, rfl, by omega, HWAY2, HB5, HX5⟩
            case measure => simp [intOf]; omega)
        · have hpp : ¬ (i : Int) < (pn : Int) := by omega
          go_wp2_with fail
          go_roundw
          case rel => exact ⟨i + 1, z, by omega, by go_num, rfl, by omega, HWAY2, HB5, HX5⟩
          case measure => simp [intOf]; omega
      | [u, u2], _ =>
        have hub := HMX.out u (by simp)
        have hub2 := HMX.out u2 (by simp)
        obtain ⟨z, rfl⟩ : ∃ z : Nat, u = (z : Int) := ⟨u.toNat, by omega⟩
        obtain ⟨z2, rfl⟩ : ∃ z : Nat, u2 = (z : Int) := ⟨u2.toNat, by omega⟩
        have HWAY2 : Hid (Way l (-1) z) := HON.out z (by simp)
        have HWAY3 : Hid (Way l (-1) z2) := HON.out z2 (by simp)
        have hiz : i + 1 ≤ z := by omega
        have hiz2 : i + 1 ≤ z2 := by omega
        obtain ⟨g5, rfl, u0⟩ := own_at15 HO5.out (k := 0) rfl
        obtain ⟨g6, e6, u1⟩ := own_at15 HO5.out (k := 1) rfl
        injection e6 with e6; injection e6 with e6
        subst e6
        have hl : ([(z : Int), (z2 : Int)] : List Int).length = 2 := rfl
        by_cases hpi : i < pn
        · obtain ⟨bp, offp, v, rfl, _, _, p0⟩ := HP5.out.at_ hpi
          have hpp : (i : Int) < (pn : Int) := by omega
          cases v with
          | false =>
            go_wp2_with fail
            go_roundw
            case rel => exact ⟨i + 1, z, by omega, by go_num, rfl, by omega, HWAY2, HB5, HX5⟩
            case measure => simp [intOf]; omega
          | true =>
            go_wp2_with fail
            go_roundw
            case rel => exact ⟨i + 1, z2, by omega, by go_num, rfl, by omega, HWAY3, HB5, HX5⟩
            case measure => simp [intOf]; omega
        · have hpp : ¬ (i : Int) < (pn : Int) := by omega
          go_wp2_with fail
          go_roundw
          case rel => exact ⟨i + 1, z, by omega, by go_num, rfl, by omega, HWAY2, HB5, HX5⟩
          case measure => simp [intOf]; omega
end Go.Proofs.YtmnadieblhdcpaaDoor
