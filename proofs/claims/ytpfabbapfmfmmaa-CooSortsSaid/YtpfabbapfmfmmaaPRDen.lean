/- The document's Dense of layer 2: a list laid out. -/
import Derived.Test.YtpfabbapfmfmmaaG11
import Derived.Test.YtpfabbapfmfmmaaG4
namespace Go.Proofs.Ytpfabbapfmfmmaa
open Go.RowKit

set_option maxRecDepth 100000 in
theorem refDen_err (A B : Option Addr) (n c m e : Nat) (xs : List Int) (es : List Ent) (E : Int) (w : World) (h : Ints w w.heap.size A n xs) (hn : n ≤ 9223372036854775807) (hv : Ents w w.heap.size B m es) (hm : m ≤ 9223372036854775807) (hE : cooF xs es = E) (h0 : E ≠ 0) :
    Calls Try.prog 30 #[.agg #[.slice A n c, .slice B m e]] w fun x w' => x = .returned (.tuple #[.agg #[.slice none 0 0, .slice none 0 0], .int .i64 E]) ∧ Below w.heap.size w w' := by
  have z0 := (Below.refl w.heap.size w).alloc (Nat.le_refl _) (.cells #[.slice A n c, .slice B m e] 25)
  have z1 := z0.alloc z0.size (.cells #[.slice none 0 0, .slice none 0 0] 41)
  have b2 := zf_snd w (.cells #[.slice none 0 0, .slice none 0 0] 41) (.cells #[.slice A n c, .slice B m e] 25)
  have HC := fun W (hb : Below w.heap.size w W) => refCooCheck_any A B n c m e xs es W ((h.below hb).more hb.size) hn ((hv.below hb).more hb.size) hm
  rw [hE] at HC
  have e1 : (E == 0) = false := by simpa using h0
  have e2 : (E != 0) = true := by simpa using h0
  clear hE h0
  go_enter Try.func30, Try.ntmps30
  go_wp2_with fail
  refine (HC _ z1).mono ?_
  rintro x w1 ⟨rfl, hb1⟩
  have hb := z1.trans (hb1.mono z1.size)
  have q2 := (hb1.block (w.heap.size + 1) (by simp)).trans b2
  obtain ⟨v0, v1, vf0, vf1⟩ := pair_cells q2
  have Q2 := Lib.hid q2
  clear q2 b2 z0 z1 HC hb1
  go_wp2_with fail
  have hres := denseRes w1 (w.heap.size + 1) _ _ (.slice none 0 0) (.slice none 0 0) Q2.out
  obtain ⟨s0, s1, _, _⟩ := pair_cells hres.1
  obtain ⟨wz, hwz⟩ : ∃ wz, (w1.setCell ⟨w.heap.size + 1, 0, none⟩ (.slice none 0 0)).setCell ⟨w.heap.size + 1, 1, none⟩ (.slice none 0 0) = wz := ⟨_, rfl⟩
  rw [hwz] at hres s0 s1 ⊢
  exact bodyPost_ret (v := .tuple #[.agg #[.slice none 0 0, .slice none 0 0], .int .i64 E]) (by simp [results, Try.results30, go_sem, s0, s1]) rfl ⟨rfl, hb.grown hres.2 hb.size (fun k hk => by injection hk with hk; omega)⟩

set_option maxRecDepth 100000 in
theorem refDen_large (A B : Option Addr) (n c m e : Nat) (xs : List Int) (es : List Ent) (E : Int) (w : World) (h : Ints w w.heap.size A n xs) (hn : n ≤ 9223372036854775807) (hv : Ents w w.heap.size B m es) (hm : m ≤ 9223372036854775807) (hck : cooF xs es = 0) (hE : (laidF xs).2 = E) (h0 : E ≠ 0) :
    Calls Try.prog 30 #[.agg #[.slice A n c, .slice B m e]] w fun x w' => x = .returned (.tuple #[.agg #[.slice none 0 0, .slice none 0 0], .int .i64 E]) ∧ Below w.heap.size w w' := by
  have z0 := (Below.refl w.heap.size w).alloc (Nat.le_refl _) (.cells #[.slice A n c, .slice B m e] 25)
  have z1 := z0.alloc z0.size (.cells #[.slice none 0 0, .slice none 0 0] 41)
  have b1 := zf_two w (.cells #[.slice A n c, .slice B m e] 25) (.cells #[.slice none 0 0, .slice none 0 0] 41)
  have b2 := zf_snd w (.cells #[.slice none 0 0, .slice none 0 0] 41) (.cells #[.slice A n c, .slice B m e] 25)
  have HC := fun W (hb : Below w.heap.size w W) => refCooCheck_any A B n c m e xs es W ((h.below hb).more hb.size) hn ((hv.below hb).more hb.size) hm
  rw [hck] at HC
  have HZ := fun W (hb : Below w.heap.size w W) => refZero_err A n c xs W ((h.below hb).more hb.size) hn (by rw [hE]; exact h0)
  rw [hE] at HZ
  have e1 : (E == 0) = false := by simpa using h0
  have e2 : (E != 0) = true := by simpa using h0
  clear hE h0 hck
  go_enter Try.func30, Try.ntmps30
  go_wp2_with fail
  refine (HC _ z1).mono ?_
  rintro x w1 ⟨rfl, hb1⟩
  have hb := z1.trans (hb1.mono z1.size)
  have q1 := (hb1.block w.heap.size (by simp; omega)).trans b1
  have q2 := (hb1.block (w.heap.size + 1) (by simp)).trans b2
  obtain ⟨k0, k1, _, _⟩ := pair_cells q1
  clear b1 b2 z0 z1 HC hb1 q1
  go_wp2_with fail
  refine (HZ _ hb).mono ?_
  rintro x w2 ⟨rfl, hb2⟩
  have hb3 := hb.trans (hb2.mono hb.size)
  have hlt := lt_of_heap q2
  have q3 := (hb2.block (w.heap.size + 1) hlt).trans q2
  have hal := (Below.refl w2.heap.size w2).alloc (Nat.le_refl _) (.cells #[.slice none 0 0, .slice none 0 0] 41)
  have q4 := (hal.block (w.heap.size + 1) (by have := hb2.size; omega)).trans q3
  have hb4 := hb3.trans (hal.mono hb3.size)
  obtain ⟨W5, hW5⟩ : ∃ W5, w2.alloc (.cells #[.slice none 0 0, .slice none 0 0] 41) = W5 := ⟨_, rfl⟩
  rw [hW5] at q4 hb4
  have HW5 := Lib.hid hW5
  obtain ⟨v0, v1, vf0, vf1⟩ := pair_cells q4
  have Q4 := Lib.hid q4
  clear k0 k1 q2 q3 q4 hb hb2 hb3 hal HZ hlt hW5
  go_upto_region 5 with fail
  rw [HW5.out]
  go_wp2_with fail
  have hres := denseRes W5 (w.heap.size + 1) _ _ (.slice none 0 0) (.slice none 0 0) Q4.out
  obtain ⟨s0, s1, _, _⟩ := pair_cells hres.1
  obtain ⟨wz, hwz⟩ : ∃ wz, (W5.setCell ⟨w.heap.size + 1, 0, none⟩ (.slice none 0 0)).setCell ⟨w.heap.size + 1, 1, none⟩ (.slice none 0 0) = wz := ⟨_, rfl⟩
  rw [hwz] at hres s0 s1 ⊢
  exact bodyPost_ret (v := .tuple #[.agg #[.slice none 0 0, .slice none 0 0], .int .i64 E]) (by simp [results, Try.results30, go_sem, s0, s1]) rfl ⟨rfl, hb4.grown hres.2 hb4.size (fun k hk => by injection hk with hk; omega)⟩

set_option maxRecDepth 100000 in
set_option maxHeartbeats 4000000 in
theorem refDen_ok (A B : Option Addr) (n c m e : Nat) (xs : List Int) (es : List Ent) (w : World) (h : Ints w w.heap.size A n xs) (hv : Ents w w.heap.size B m es) (hm : m ≤ 9223372036854775807) (hck : cooF xs es = 0) (hla : (laidF xs).2 = 0) :
    Calls Try.prog 30 #[.agg #[.slice A n c, .slice B m e]] w fun x w' => ∃ A1 c1 A2 c2, x = .returned (.tuple #[.agg #[.slice A1 n c1, .slice A2 (denseV xs es).length c2], .int .i64 0]) ∧ OwnI w' w.heap.size 3 A1 c1 xs ∧ OwnI w' w.heap.size 2 A2 c2 (denseV xs es) ∧ Below w.heap.size w w' := by
  obtain ⟨p1, p2, p3⟩ := cooF_parts hck
  have hn4 : n ≤ 4 := by rw [← h.1]; exact (cellsF_ok p1).1
  obtain ⟨N, hN, hN2⟩ : ∃ N : Nat, (laidF xs).1 = N ∧ N ≤ 65536 := ⟨(laidF xs).1.toNat, by have := (laidF_nonneg (xs := xs)); omega, by have := (laidF_nonneg (xs := xs)); omega⟩
  have HIN : Hid (∀ y ∈ es, (atF xs y.cs) = (numR xs y.cs, 0) ∧ 0 ≤ numR xs y.cs ∧ numR xs y.cs < N) := fun y hy => by
    have hi := p3 y hy
    have e : atF xs y.cs = (numR xs y.cs, 0) := by unfold atF; rw [if_pos p1, if_pos hi]
    obtain ⟨_, hI, _, hP⟩ := atF_ok (xs := xs) (cs := y.cs) (by rw [e])
    have hb := hI.bound
    have := (laidF_ok hla).2
    exact ⟨e, hb.1, by omega⟩
  have z0 := (Below.refl w.heap.size w).alloc (Nat.le_refl _) (.cells #[.slice A n c, .slice B m e] 25)
  have z1 := z0.alloc z0.size (.cells #[.slice none 0 0, .slice none 0 0] 41)
  have b1 := zf_two w (.cells #[.slice A n c, .slice B m e] 25) (.cells #[.slice none 0 0, .slice none 0 0] 41)
  have b2 := zf_snd w (.cells #[.slice none 0 0, .slice none 0 0] 41) (.cells #[.slice A n c, .slice B m e] 25)
  have HC := fun W (hb : Below w.heap.size w W) => refCooCheck_any A B n c m e xs es W ((h.below hb).more hb.size) (by omega) ((hv.below hb).more hb.size) hm
  rw [hck] at HC
  have HZ := fun W (hb : Below w.heap.size w W) => refZero_ok A n c xs N W ((h.below hb).more hb.size) (by omega) hla hN hN2
  have HAT := fun (y : Ent) W (hb : Below w.heap.size w W) (hy : Ints w w.heap.size y.A y.n y.cs) (hyn : y.n ≤ 9223372036854775807) => refAtB A y.A n y.n c y.c xs y.cs W ((h.below hb).more hb.size) ((hy.below hb).more hb.size) (by omega) hyn
  have HV := Lib.hid hv
  have HEL : Hid (es.length = m) := hv.1
  have HDV : Hid (denseV xs es = scat (goesE xs es) N (es.map (·.v))) := by unfold Hid denseV; rw [hN, Int.toNat_natCast]
  have hdl : (denseV xs es).length = N := by rw [HDV.out, scat_length]
  rw [hdl]
  clear hck hla p1 p2 p3 h hv hN hdl
  go_enter Try.func30, Try.ntmps30
  go_wp2_with fail
  refine (HC _ z1).mono ?_
  rintro x w1 ⟨rfl, hb1⟩
  have hb := z1.trans (hb1.mono z1.size)
  have hsz0 : w.heap.size + 2 ≤ w1.heap.size := by have := hb1.size; simp at this; omega
  have q1 := (hb1.block w.heap.size (by simp; omega)).trans b1
  have q2 := (hb1.block (w.heap.size + 1) (by simp)).trans b2
  obtain ⟨k0, k1, _, _⟩ := pair_cells q1
  clear b1 b2 z0 z1 HC hb1
  go_wp2_with fail
  refine (HZ _ hb).mono ?_
  rintro x w2 ⟨A1, c1, A2, c2, rfl, HA1, HA2, hb2⟩
  have hal := (Below.refl w2.heap.size w2).alloc (Nat.le_refl _) (.cells #[.slice A1 n c1, .slice A2 N c2] 41)
  have hbd := heap_alloc_new w2 (.cells #[.slice A1 n c1, .slice A2 N c2] 41)
  have HA1' := Lib.hid (HA1.alloc (.cells #[.slice A1 n c1, .slice A2 N c2] 41))
  have HA2' := Lib.hid (HA2.alloc (.cells #[.slice A1 n c1, .slice A2 N c2] 41))
  have hb1' := hb2.trans (hal.mono hb2.size)
  obtain ⟨W5, hW5⟩ : ∃ W5, w2.alloc (.cells #[.slice A1 n c1, .slice A2 N c2] 41) = W5 := ⟨_, rfl⟩
  rw [hW5] at hbd HA1' HA2' hb1'
  have HW5 := Lib.hid hW5
  have HB1 := Lib.hid hb1'
  have HBD := Lib.hid hbd
  have hz2 := hb2.size
  have HQ1 := Lib.hid q1
  have HQ2 := Lib.hid q2
  have HBW := Lib.hid hb
  obtain ⟨p0, p1', _, _⟩ := pair_cells ((hb1'.block w.heap.size (by omega)).trans q1)
  clear k0 k1 q1 q2 hb hb2 hal HZ hW5 hbd hb1' HA1 HA2
  go_upto_region 5 with fail
  rw [HW5.out]
  go_wp2_with fail
  go_loopw [30] (fun v wr => ∃ q : Nat, v = .int .i64 (q : Int) ∧ q ≤ m ∧ Hid (OwnI wr w1.heap.size 2 A2 c2 (scat (goesE xs es) N ((es.map (·.v)).take q))) ∧ Hid (OwnI wr w1.heap.size 3 A1 c1 xs) ∧ Hid (wr.heap[w2.heap.size]? = some (.cells #[.slice A1 n c1, .slice A2 N c2] 41 (0, 0))) ∧ Hid (Below w1.heap.size w1 wr)) (fun v _ => m - (intOf v).toNat)
  case atStart => exact ⟨0, rfl, Nat.zero_le _, by unfold Hid; rw [List.take_zero, scat_nil]; exact HA2'.out, HA1', HBD, HB1⟩
  case round =>
    clear p0 p1'
    obtain ⟨q, rfl, hq, HO2, HO1, HD, HB⟩ := hrel
    have hszr := HB.out.size
    obtain ⟨k0, k1, _, _⟩ := pair_cells ((HB.out.block w.heap.size (by omega)).trans HQ1.out)
    obtain ⟨d0, d1, _, _⟩ := pair_cells HD.out
    have hbr := HBW.out.trans (HB.out.mono (by omega))
    by_cases hlt : q < m
    · obtain ⟨b2, off2, y, rfl, hb2, HY, hc0, hc1, iy, hy1, hy2, hy3, hy4⟩ := HV.out.at_ hlt
      have hym := List.mem_of_getElem? HY.out
      obtain ⟨hat, hn0, hnN⟩ := HIN.out y hym
      have hc2 : wr.cell? ⟨b2, off2 + q * 2, none⟩ = some (.slice y.A y.n y.c) := by rw [Nat.mul_comm q 2]; exact (hbr.cell (p := ⟨b2, off2 + 2 * q, none⟩) hb2).trans hc0
      have hc3 : wr.cell? ⟨b2, off2 + q * 2 + 1, none⟩ = some (.int .i64 y.v) := by rw [Nat.mul_comm q 2]; exact (hbr.cell (p := ⟨b2, off2 + 2 * q + 1, none⟩) hb2).trans hc1
      have HA := fun W (hb : Below w.heap.size w W) => HAT y W hb iy hy1
      rw [hat] at HA
      dsimp only at HA
      obtain ⟨j, hj⟩ : ∃ j : Nat, numR xs y.cs = (j : Int) := ⟨(numR xs y.cs).toNat, by omega⟩
      rw [hj] at HA hnN
      have hjN : j < N := by omega
      have hgo : goesE xs es q = j := by unfold goesE; rw [HY.out]; simp [hj]
      have hwt := hbr.alloc hbr.size (.cells #[.slice y.A y.n y.c, .int .i64 y.v] 37)
      have hwr := (Below.refl wr.heap.size wr).alloc (Nat.le_refl _) (.cells #[.slice y.A y.n y.c, .int .i64 y.v] 37)
      have htb := heap_alloc_new wr (.cells #[.slice y.A y.n y.c, .int .i64 y.v] 37)
      obtain ⟨x0, hx0⟩ : ∃ x0, (scat (goesE xs es) N ((es.map (·.v)).take q))[goesE xs es q]? = some x0 := ⟨_, scat_at _ (by rw [hgo]; exact hjN)⟩
      have hstep := scat_step (V := es.map (·.v)) (k := q) (v := y.v) (by rw [List.getElem?_map, HY.out]; rfl) hx0
      rw [hgo] at hx0 hstep
      have hqm : (q : Int) < (m : Int) := by omega
      have hq0 : (0 : Int) ≤ (q : Int) := by omega
      have hj0 : (0 : Int) ≤ (j : Int) := by omega
      have hj3 : (j : Int) < (N : Int) := by omega
      have HX0 := Lib.hid hx0
      have HST := Lib.hid hstep
      have HWR := Lib.hid hwr
      have HTB := Lib.hid htb
      have kp0 := fun o => cellPast o k0
      obtain ⟨th0, th1, _, _⟩ := pair_cells htb
      clear hat hn0 hnN hj hgo hx0 hstep hc0 hc1 iy hwr htb HY
      go_wp2_with fail
      refine (HA _ hwt).mono ?_
      rintro x w6 ⟨rfl, hb6⟩
      have hbw6 := HWR.out.trans (hb6.mono HWR.out.size)
      have hszw := hbw6.size
      have hD6 := (hbw6.block w2.heap.size (lt_of_heap HD.out)).trans HD.out
      have hT6 := (hb6.block wr.heap.size (by simp)).trans HTB.out
      have hO6 := HO2.out.below hbw6 (Nat.le_refl _)
      have hA6 := HO1.out.below hbw6 (Nat.le_refl _)
      have hB6 := HB.out.trans (hbw6.mono hszr)
      obtain ⟨k0', k1', _, _⟩ := pair_cells ((hB6.block w.heap.size (by omega)).trans HQ1.out)
      obtain ⟨e0, e1, _, _⟩ := pair_cells hD6
      obtain ⟨t0, t1, _, _⟩ := pair_cells hT6
      rcases hO6.1.2 with ⟨_, hzz⟩ | ⟨gv, cap, cur, hA2, hgb, _, _⟩
      · rw [scat_length] at hzz; omega
      obtain rfl : A2 = some ⟨gv, 0, none⟩ := by injection hA2
      obtain ⟨hcz, hfz⟩ := hO6.cell_ HX0.out
      have hset := hO6.set_ j (wrap64 (x0 + y.v)) (wrap64_range _)
      rw [← HST.out] at hset
      have HS := Lib.hid hset
      have HS1 := Lib.hid (hA6.other_ hO6 (by decide) j (.int .i64 (wrap64 (x0 + y.v))))
      have hnev := hO6.ne hD6 (by decide)
      have HS2 : Hid ((w6.setCell ⟨gv, j, none⟩ (.int .i64 (wrap64 (x0 + y.v)))).heap[w2.heap.size]? = some (.cells #[.slice A1 n c1, .slice (some ⟨gv, 0, none⟩) N c2] 41 (0, 0))) := (Below.heap_setCell _ ⟨gv, j, none⟩ _ _ (fun e => hnev (by rw [e]))).trans hD6
      have HS3 := Lib.hid (hB6.setCell (p := ⟨gv, j, none⟩) hgb (.int .i64 (wrap64 (x0 + y.v))))
      clear hset hO6 hA6 hD6 hT6 hB6 hb6 k0 k1 d0 d1 hbw6 kp0 th0 th1
      go_wp2_with fail
      go_region
      all_goals
        obtain ⟨w7, hw7⟩ : ∃ w7, w6.setCell ⟨gv, j, none⟩ (.int .i64 (wrap64 (x0 + y.v))) = w7 := ⟨_, rfl⟩
        rw [hw7] at HS HS1 HS2 HS3 ⊢
        clear hw7 k0' k1' e0 e1 t0 t1 hcz hfz
        go_wp2_with fail
        go_roundw
        case rel => exact ⟨q + 1, by go_num, by omega, Lib.hid HS.out.drew, Lib.hid HS1.out.drew, HS2, Lib.hid HS3.out.drew⟩
        case measure => simp [intOf]; omega
    · obtain rfl : q = m := by omega
      have hrv := (HB.out.block (w.heap.size + 1) (by omega)).trans HQ2.out
      obtain ⟨v0, v1, vf0, vf1⟩ := pair_cells hrv
      have HRV := Lib.hid hrv
      clear hrv
      go_wp2_with fail
      have hres := denseRes wr (w.heap.size + 1) _ _ (.slice A1 n c1) (.slice A2 N c2) HRV.out
      obtain ⟨s0, s1, _, _⟩ := pair_cells hres.1
      obtain ⟨wz, hwz⟩ : ∃ wz, (wr.setCell ⟨w.heap.size + 1, 0, none⟩ (.slice A1 n c1)).setCell ⟨w.heap.size + 1, 1, none⟩ (.slice A2 N c2) = wz := ⟨_, rfl⟩
      rw [hwz] at hres s0 s1 ⊢
      have hfull : scat (goesE xs es) N ((es.map (·.v)).take q) = denseV xs es := by rw [HDV.out, List.take_of_length_le (by rw [List.length_map]; exact Nat.le_of_eq HEL.out)]
      have hO2 := HO2.out
      rw [hfull] at hO2
      refine bodyPost_ret (v := .tuple #[.agg #[.slice A1 n c1, .slice A2 N c2], .int .i64 0]) (by simp [results, Try.results30, go_sem, s0, s1]) rfl ⟨A1, c1, A2, c2, rfl, ?_, ?_, hbr.grown hres.2 hbr.size (fun k hk => by injection hk with hk; omega)⟩
      · exact OwnI.mono (w := wz) (base := w1.heap.size) ⟨HO1.out.1.kept hres.2 (rows_ne HO1.out.1 HRV.out (by decide)), HO1.out.2⟩ (by omega)
      · exact OwnI.mono (w := wz) (base := w1.heap.size) ⟨hO2.1.kept hres.2 (rows_ne hO2.1 HRV.out (by decide)), hO2.2⟩ (by omega)
end Go.Proofs.Ytpfabbapfmfmmaa
