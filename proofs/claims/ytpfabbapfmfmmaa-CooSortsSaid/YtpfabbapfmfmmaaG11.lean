/- coo.Dense: a list laid out. -/
import Derived.Test.YtpfabbapfmfmmaaG10
import Derived.Test.YtpfabbapfmfmmaaG4
import Derived.Shelf.Sort.Plain
import Derived.Shelf.Slices.In.SortNone
import Derived.Test.YtpfabbapfmfmmaaG1
import Derived.Test.YtpfabbapfmfmmaaProg
import Derived.Test.YtpfabbapfmfmmaaG3
import Derived.RangeFuncBox
import Derived.RangeFuncWrites
import Derived.Maps.AppendAt
import Derived.Sort.OwnSortedInts
import Derived.Test.YtpfabbapfmfmmaaG6
namespace Go.Proofs.Ytpfabbapfmfmmaa
open Go.RowKit

/-- what stands behind a tensor that the call itself holds -/
theorem denseRes (w : World) (g : Nat) (u v a b : Value) (h : w.heap[g]? = some (.cells #[u, v] 41 (0, 0))) : ((w.setCell ⟨g, 0, none⟩ a).setCell ⟨g, 1, none⟩ b).heap[g]? = some (.cells #[a, b] 41 (0, 0)) ∧ w.grownBy ((w.setCell ⟨g, 0, none⟩ a).setCell ⟨g, 1, none⟩ b) (some g) := set_two w g u v a b _ h

set_option maxRecDepth 100000 in
theorem cooDense_err (A B : Option Addr) (n c m e : Nat) (xs : List Int) (es : List Ent) (E : Int) (w : World) (h : Ints w w.heap.size A n xs) (hn : n ≤ 9223372036854775807) (hv : Ents w w.heap.size B m es) (hm : m ≤ 9223372036854775807) (hE : cooF xs es = E) (h0 : E ≠ 0) :
    Calls Try.prog 29 #[.agg #[.slice A n c, .slice B m e]] w fun x w' => x = .returned (.tuple #[.agg #[.slice none 0 0, .slice none 0 0], .int .i64 E]) ∧ Below w.heap.size w w' := by
  have z0 := (Below.refl w.heap.size w).alloc (Nat.le_refl _) (.cells #[.slice A n c, .slice B m e] 25)
  have z1 := z0.alloc z0.size (.cells #[.slice none 0 0, .slice none 0 0] 41)
  have b2 := zf_snd w (.cells #[.slice none 0 0, .slice none 0 0] 41) (.cells #[.slice A n c, .slice B m e] 25)
  have HC := fun W (hb : Below w.heap.size w W) => cooCheck_any A B n c m e xs es W ((h.below hb).more hb.size) hn ((hv.below hb).more hb.size) hm
  rw [hE] at HC
  have e1 : (E == 0) = false := by simpa using h0
  have e2 : (E != 0) = true := by simpa using h0
  clear hE h0
  go_enter Try.func29, Try.ntmps29
  go_wp2_with fail
  refine (HC _ z1).mono ?_
  rintro x w1 ⟨rfl, hb1⟩
  have hb := z1.trans (hb1.mono z1.size)
  have q2 := (hb1.block (w.heap.size + 1) (by simp)).trans b2
  obtain ⟨v0, v1, vf0, vf1⟩ := pair_cells q2
  have Q2 := Lib.hid q2
  clear q2 b2 z0 z1 HC hb1
  go_wp2_with fail
  have hres := denseRes w1 (w.heap.size + 1) _ _ (.slice none 0 0) (.slice none 0 0) Q2.out
  obtain ⟨s0, s1, _, _⟩ := pair_cells hres.1
  obtain ⟨wz, hwz⟩ : ∃ wz, (w1.setCell ⟨w.heap.size + 1, 0, none⟩ (.slice none 0 0)).setCell ⟨w.heap.size + 1, 1, none⟩ (.slice none 0 0) = wz := ⟨_, rfl⟩
  rw [hwz] at hres s0 s1 ⊢
  exact bodyPost_ret (v := .tuple #[.agg #[.slice none 0 0, .slice none 0 0], .int .i64 E]) (by simp [results, Try.results29, go_sem, s0, s1]) rfl ⟨rfl, hb.grown hres.2 hb.size (fun k hk => by injection hk with hk; omega)⟩

set_option maxRecDepth 100000 in
theorem cooDense_large (A B : Option Addr) (n c m e : Nat) (xs : List Int) (es : List Ent) (E : Int) (w : World) (h : Ints w w.heap.size A n xs) (hn : n ≤ 9223372036854775807) (hv : Ents w w.heap.size B m es) (hm : m ≤ 9223372036854775807) (hck : cooF xs es = 0) (hE : (laidF xs).2 = E) (h0 : E ≠ 0) :
    Calls Try.prog 29 #[.agg #[.slice A n c, .slice B m e]] w fun x w' => x = .returned (.tuple #[.agg #[.slice none 0 0, .slice none 0 0], .int .i64 E]) ∧ Below w.heap.size w w' := by
  have z0 := (Below.refl w.heap.size w).alloc (Nat.le_refl _) (.cells #[.slice A n c, .slice B m e] 25)
  have z1 := z0.alloc z0.size (.cells #[.slice none 0 0, .slice none 0 0] 41)
  have b1 := zf_two w (.cells #[.slice A n c, .slice B m e] 25) (.cells #[.slice none 0 0, .slice none 0 0] 41)
  have b2 := zf_snd w (.cells #[.slice none 0 0, .slice none 0 0] 41) (.cells #[.slice A n c, .slice B m e] 25)
  have HC := fun W (hb : Below w.heap.size w W) => cooCheck_any A B n c m e xs es W ((h.below hb).more hb.size) hn ((hv.below hb).more hb.size) hm
  rw [hck] at HC
  have HZ := fun W (hb : Below w.heap.size w W) => zero_err A n c xs W ((h.below hb).more hb.size) hn (by rw [hE]; exact h0)
  rw [hE] at HZ
  have e1 : (E == 0) = false := by simpa using h0
  have e2 : (E != 0) = true := by simpa using h0
  clear hE h0 hck
  go_enter Try.func29, Try.ntmps29
  go_wp2_with fail
  refine (HC _ z1).mono ?_
  rintro x w1 ⟨rfl, hb1⟩
  have hb := z1.trans (hb1.mono z1.size)
  have q1 := (hb1.block w.heap.size (by simp; omega)).trans b1
  have q2 := (hb1.block (w.heap.size + 1) (by simp)).trans b2
  obtain ⟨k0, k1, _, _⟩ := pair_cells q1
  clear b1 b2 z0 z1 HC hb1 q1
  go_wp2_with fail
  refine (HZ _ hb).mono ?_
  rintro x w2 ⟨rfl, hb2⟩
  have hb3 := hb.trans (hb2.mono hb.size)
  have hlt := lt_of_heap q2
  have q3 := (hb2.block (w.heap.size + 1) hlt).trans q2
  have hal := (Below.refl w2.heap.size w2).alloc (Nat.le_refl _) (.cells #[.slice none 0 0, .slice none 0 0] 41)
  have q4 := (hal.block (w.heap.size + 1) (by have := hb2.size; omega)).trans q3
  have hb4 := hb3.trans (hal.mono hb3.size)
  obtain ⟨W5, hW5⟩ : ∃ W5, w2.alloc (.cells #[.slice none 0 0, .slice none 0 0] 41) = W5 := ⟨_, rfl⟩
  rw [hW5] at q4 hb4
  have HW5 := Lib.hid hW5
  obtain ⟨v0, v1, vf0, vf1⟩ := pair_cells q4
  have Q4 := Lib.hid q4
  clear k0 k1 q2 q3 q4 hb hb2 hb3 hal HZ hlt hW5
  go_upto_region 5 with fail
  rw [HW5.out]
  go_wp2_with fail
  have hres := denseRes W5 (w.heap.size + 1) _ _ (.slice none 0 0) (.slice none 0 0) Q4.out
  obtain ⟨s0, s1, _, _⟩ := pair_cells hres.1
  obtain ⟨wz, hwz⟩ : ∃ wz, (W5.setCell ⟨w.heap.size + 1, 0, none⟩ (.slice none 0 0)).setCell ⟨w.heap.size + 1, 1, none⟩ (.slice none 0 0) = wz := ⟨_, rfl⟩
  rw [hwz] at hres s0 s1 ⊢
  exact bodyPost_ret (v := .tuple #[.agg #[.slice none 0 0, .slice none 0 0], .int .i64 E]) (by simp [results, Try.results29, go_sem, s0, s1]) rfl ⟨rfl, hb4.grown hres.2 hb4.size (fun k hk => by injection hk with hk; omega)⟩

/-- where entry k goes, laid out -/
def goesE (xs : List Int) (es : List Ent) (k : Nat) : Nat := (numR xs (es[k]?.getD ⟨none, 0, 0, [], 0⟩).cs).toNat
/-- a list laid out -/
def denseV (xs : List Int) (es : List Ent) : List Int := scat (goesE xs es) (laidF xs).1.toNat (es.map (·.v))

set_option maxRecDepth 100000 in
set_option maxHeartbeats 4000000 in
theorem cooDense_ok (A B : Option Addr) (n c m e : Nat) (xs : List Int) (es : List Ent) (w : World) (h : Ints w w.heap.size A n xs) (hv : Ents w w.heap.size B m es) (hm : m ≤ 9223372036854775807) (hck : cooF xs es = 0) (hla : (laidF xs).2 = 0) :
    Calls Try.prog 29 #[.agg #[.slice A n c, .slice B m e]] w fun x w' => ∃ A1 c1 A2 c2, x = .returned (.tuple #[.agg #[.slice A1 n c1, .slice A2 (denseV xs es).length c2], .int .i64 0]) ∧ OwnI w' w.heap.size 3 A1 c1 xs ∧ OwnI w' w.heap.size 2 A2 c2 (denseV xs es) ∧ Below w.heap.size w w' := by
  obtain ⟨p1, p2, p3⟩ := cooF_parts hck
  have hn4 : n ≤ 4 := by rw [← h.1]; exact (cellsF_ok p1).1
  obtain ⟨N, hN, hN2⟩ : ∃ N : Nat, (laidF xs).1 = N ∧ N ≤ 65536 := ⟨(laidF xs).1.toNat, by have := (laidF_nonneg (xs := xs)); omega, by have := (laidF_nonneg (xs := xs)); omega⟩
  have HIN : Hid (∀ y ∈ es, (atF xs y.cs) = (numR xs y.cs, 0) ∧ 0 ≤ numR xs y.cs ∧ numR xs y.cs < N) := fun y hy => by
    have hi := p3 y hy
    have e : atF xs y.cs = (numR xs y.cs, 0) := by unfold atF; rw [if_pos p1, if_pos hi]
    obtain ⟨_, hI, _, hP⟩ := atF_ok (xs := xs) (cs := y.cs) (by rw [e])
    have hb := hI.bound
    have := (laidF_ok hla).2
    exact ⟨e, hb.1, by omega⟩
  have z0 := (Below.refl w.heap.size w).alloc (Nat.le_refl _) (.cells #[.slice A n c, .slice B m e] 25)
  have z1 := z0.alloc z0.size (.cells #[.slice none 0 0, .slice none 0 0] 41)
  have b1 := zf_two w (.cells #[.slice A n c, .slice B m e] 25) (.cells #[.slice none 0 0, .slice none 0 0] 41)
  have b2 := zf_snd w (.cells #[.slice none 0 0, .slice none 0 0] 41) (.cells #[.slice A n c, .slice B m e] 25)
  have HC := fun W (hb : Below w.heap.size w W) => cooCheck_any A B n c m e xs es W ((h.below hb).more hb.size) (by omega) ((hv.below hb).more hb.size) hm
  rw [hck] at HC
  have HZ := fun W (hb : Below w.heap.size w W) => zero_ok A n c xs N W ((h.below hb).more hb.size) (by omega) hla hN hN2
  have HAT := fun (y : Ent) W (hb : Below w.heap.size w W) (hy : Ints w w.heap.size y.A y.n y.cs) (hyn : y.n ≤ 9223372036854775807) => at_any A y.A n y.n c y.c xs y.cs W ((h.below hb).more hb.size) ((hy.below hb).more hb.size) (by omega) hyn
  have HV := Lib.hid hv
  have HEL : Hid (es.length = m) := hv.1
  have HDV : Hid (denseV xs es = scat (goesE xs es) N (es.map (·.v))) := by unfold Hid denseV; rw [hN, Int.toNat_natCast]
  have hdl : (denseV xs es).length = N := by rw [HDV.out, scat_length]
  rw [hdl]
  clear hck hla p1 p2 p3 h hv hN hdl
  go_enter Try.func29, Try.ntmps29
  go_wp2_with fail
  refine (HC _ z1).mono ?_
  rintro x w1 ⟨rfl, hb1⟩
  have hb := z1.trans (hb1.mono z1.size)
  have hsz0 : w.heap.size + 2 ≤ w1.heap.size := by have := hb1.size; simp at this; omega
  have q1 := (hb1.block w.heap.size (by simp; omega)).trans b1
  have q2 := (hb1.block (w.heap.size + 1) (by simp)).trans b2
  obtain ⟨k0, k1, _, _⟩ := pair_cells q1
  clear b1 b2 z0 z1 HC hb1
  go_wp2_with fail
  refine (HZ _ hb).mono ?_
  rintro x w2 ⟨A1, c1, A2, c2, rfl, HA1, HA2, hb2⟩
  have hal := (Below.refl w2.heap.size w2).alloc (Nat.le_refl _) (.cells #[.slice A1 n c1, .slice A2 N c2] 41)
  have hbd := heap_alloc_new w2 (.cells #[.slice A1 n c1, .slice A2 N c2] 41)
  have HA1' := Lib.hid (HA1.alloc (.cells #[.slice A1 n c1, .slice A2 N c2] 41))
  have HA2' := Lib.hid (HA2.alloc (.cells #[.slice A1 n c1, .slice A2 N c2] 41))
  have hb1' := hb2.trans (hal.mono hb2.size)
  obtain ⟨W5, hW5⟩ : ∃ W5, w2.alloc (.cells #[.slice A1 n c1, .slice A2 N c2] 41) = W5 := ⟨_, rfl⟩
  rw [hW5] at hbd HA1' HA2' hb1'
  have HW5 := Lib.hid hW5
  have HB1 := Lib.hid hb1'
  have HBD := Lib.hid hbd
  have hz2 := hb2.size
  have HQ1 := Lib.hid q1
  have HQ2 := Lib.hid q2
  have HBW := Lib.hid hb
  obtain ⟨p0, p1', _, _⟩ := pair_cells ((hb1'.block w.heap.size (by omega)).trans q1)
  clear k0 k1 q1 q2 hb hb2 hal HZ hW5 hbd hb1' HA1 HA2
  go_upto_region 5 with fail
  rw [HW5.out]
  go_wp2_with fail
  go_loopw [30] (fun v wr => ∃ q : Nat, v = .int .i64 (q : Int) ∧ q ≤ m ∧ Hid (OwnI wr w1.heap.size 2 A2 c2 (scat (goesE xs es) N ((es.map (·.v)).take q))) ∧ Hid (OwnI wr w1.heap.size 3 A1 c1 xs) ∧ Hid (wr.heap[w2.heap.size]? = some (.cells #[.slice A1 n c1, .slice A2 N c2] 41 (0, 0))) ∧ Hid (Below w1.heap.size w1 wr)) (fun v _ => m - (intOf v).toNat)
  case atStart => exact ⟨0, rfl, Nat.zero_le _, by unfold Hid; rw [List.take_zero, scat_nil]; exact HA2'.out, HA1', HBD, HB1⟩
  case round =>
    clear p0 p1'
    obtain ⟨q, rfl, hq, HO2, HO1, HD, HB⟩ := hrel
    have hszr := HB.out.size
    obtain ⟨k0, k1, _, _⟩ := pair_cells ((HB.out.block w.heap.size (by omega)).trans HQ1.out)
    obtain ⟨d0, d1, _, _⟩ := pair_cells HD.out
    have hbr := HBW.out.trans (HB.out.mono (by omega))
    by_cases hlt : q < m
    · obtain ⟨b2, off2, y, rfl, hb2, HY, hc0, hc1, iy, hy1, hy2, hy3, hy4⟩ := HV.out.at_ hlt
      have hym := List.mem_of_getElem? HY.out
      obtain ⟨hat, hn0, hnN⟩ := HIN.out y hym
      have hc2 : wr.cell? ⟨b2, off2 + q * 2, none⟩ = some (.slice y.A y.n y.c) := by rw [Nat.mul_comm q 2]; exact (hbr.cell (p := ⟨b2, off2 + 2 * q, none⟩) hb2).trans hc0
      have hc3 : wr.cell? ⟨b2, off2 + q * 2 + 1, none⟩ = some (.int .i64 y.v) := by rw [Nat.mul_comm q 2]; exact (hbr.cell (p := ⟨b2, off2 + 2 * q + 1, none⟩) hb2).trans hc1
      have HA := fun W (hb : Below w.heap.size w W) => HAT y W hb iy hy1
      rw [hat] at HA
      dsimp only at HA
      obtain ⟨j, hj⟩ : ∃ j : Nat, numR xs y.cs = (j : Int) := ⟨(numR xs y.cs).toNat, by omega⟩
      rw [hj] at HA hnN
      have hjN : j < N := by omega
      have hgo : goesE xs es q = j := by unfold goesE; rw [HY.out]; simp [hj]
      have hwt := hbr.alloc hbr.size (.cells #[.slice y.A y.n y.c, .int .i64 y.v] 37)
      have hwr := (Below.refl wr.heap.size wr).alloc (Nat.le_refl _) (.cells #[.slice y.A y.n y.c, .int .i64 y.v] 37)
      have htb := heap_alloc_new wr (.cells #[.slice y.A y.n y.c, .int .i64 y.v] 37)
      obtain ⟨x0, hx0⟩ : ∃ x0, (scat (goesE xs es) N ((es.map (·.v)).take q))[goesE xs es q]? = some x0 := ⟨_, scat_at _ (by rw [hgo]; exact hjN)⟩
      have hstep := scat_step (V := es.map (·.v)) (k := q) (v := y.v) (by rw [List.getElem?_map, HY.out]; rfl) hx0
      rw [hgo] at hx0 hstep
      have hqm : (q : Int) < (m : Int) := by omega
      have hq0 : (0 : Int) ≤ (q : Int) := by omega
      have hj0 : (0 : Int) ≤ (j : Int) := by omega
      have hj3 : (j : Int) < (N : Int) := by omega
      have HX0 := Lib.hid hx0
      have HST := Lib.hid hstep
      have HWR := Lib.hid hwr
      have HTB := Lib.hid htb
      have kp0 := fun o => cellPast o k0
      obtain ⟨th0, th1, _, _⟩ := pair_cells htb
      clear hat hn0 hnN hj hgo hx0 hstep hc0 hc1 iy hwr htb HY
      go_wp2_with fail
      refine (HA _ hwt).mono ?_
      rintro x w6 ⟨rfl, hb6⟩
      have hbw6 := HWR.out.trans (hb6.mono HWR.out.size)
      have hszw := hbw6.size
      have hD6 := (hbw6.block w2.heap.size (lt_of_heap HD.out)).trans HD.out
      have hT6 := (hb6.block wr.heap.size (by simp)).trans HTB.out
      have hO6 := HO2.out.below hbw6 (Nat.le_refl _)
      have hA6 := HO1.out.below hbw6 (Nat.le_refl _)
      have hB6 := HB.out.trans (hbw6.mono hszr)
      obtain ⟨k0', k1', _, _⟩ := pair_cells ((hB6.block w.heap.size (by omega)).trans HQ1.out)
      obtain ⟨e0, e1, _, _⟩ := pair_cells hD6
      obtain ⟨t0, t1, _, _⟩ := pair_cells hT6
      rcases hO6.1.2 with ⟨_, hzz⟩ | ⟨gv, cap, cur, hA2, hgb, _, _⟩
      · rw [scat_length] at hzz; omega
      obtain rfl : A2 = some ⟨gv, 0, none⟩ := by injection hA2
      obtain ⟨hcz, hfz⟩ := hO6.cell_ HX0.out
      have hset := hO6.set_ j (wrap64 (x0 + y.v)) (wrap64_range _)
      rw [← HST.out] at hset
      have HS := Lib.hid hset
      have HS1 := Lib.hid (hA6.other_ hO6 (by decide) j (.int .i64 (wrap64 (x0 + y.v))))
      have hnev := hO6.ne hD6 (by decide)
      have HS2 : Hid ((w6.setCell ⟨gv, j, none⟩ (.int .i64 (wrap64 (x0 + y.v)))).heap[w2.heap.size]? = some (.cells #[.slice A1 n c1, .slice (some ⟨gv, 0, none⟩) N c2] 41 (0, 0))) := (Below.heap_setCell _ ⟨gv, j, none⟩ _ _ (fun e => hnev (by rw [e]))).trans hD6
      have HS3 := Lib.hid (hB6.setCell (p := ⟨gv, j, none⟩) hgb (.int .i64 (wrap64 (x0 + y.v))))
      clear hset hO6 hA6 hD6 hT6 hB6 hb6 k0 k1 d0 d1 hbw6 kp0 th0 th1
      go_wp2_with fail
      go_region
      all_goals
        obtain ⟨w7, hw7⟩ : ∃ w7, w6.setCell ⟨gv, j, none⟩ (.int .i64 (wrap64 (x0 + y.v))) = w7 := ⟨_, rfl⟩
        rw [hw7] at HS HS1 HS2 HS3 ⊢
        clear hw7 k0' k1' e0 e1 t0 t1 hcz hfz
        go_wp2_with fail
        go_roundw
        case rel => exact ⟨q + 1, by go_num, by omega, Lib.hid HS.out.drew, Lib.hid HS1.out.drew, HS2, Lib.hid HS3.out.drew⟩
        case measure => simp [intOf]; omega
    · obtain rfl : q = m := by omega
      have hrv := (HB.out.block (w.heap.size + 1) (by omega)).trans HQ2.out
      obtain ⟨v0, v1, vf0, vf1⟩ := pair_cells hrv
      have HRV := Lib.hid hrv
      clear hrv
      go_wp2_with fail
      have hres := denseRes wr (w.heap.size + 1) _ _ (.slice A1 n c1) (.slice A2 N c2) HRV.out
      obtain ⟨s0, s1, _, _⟩ := pair_cells hres.1
      obtain ⟨wz, hwz⟩ : ∃ wz, (wr.setCell ⟨w.heap.size + 1, 0, none⟩ (.slice A1 n c1)).setCell ⟨w.heap.size + 1, 1, none⟩ (.slice A2 N c2) = wz := ⟨_, rfl⟩
      rw [hwz] at hres s0 s1 ⊢
      have hfull : scat (goesE xs es) N ((es.map (·.v)).take q) = denseV xs es := by rw [HDV.out, List.take_of_length_le (by rw [List.length_map]; exact Nat.le_of_eq HEL.out)]
      have hO2 := HO2.out
      rw [hfull] at hO2
      refine bodyPost_ret (v := .tuple #[.agg #[.slice A1 n c1, .slice A2 N c2], .int .i64 0]) (by simp [results, Try.results29, go_sem, s0, s1]) rfl ⟨A1, c1, A2, c2, rfl, ?_, ?_, hbr.grown hres.2 hbr.size (fun k hk => by injection hk with hk; omega)⟩
      · exact OwnI.mono (w := wz) (base := w1.heap.size) ⟨HO1.out.1.kept hres.2 (rows_ne HO1.out.1 HRV.out (by decide)), HO1.out.2⟩ (by omega)
      · exact OwnI.mono (w := wz) (base := w1.heap.size) ⟨hO2.1.kept hres.2 (rows_ne hO2.1 HRV.out (by decide)), hO2.2⟩ (by omega)
end Go.Proofs.Ytpfabbapfmfmmaa
/- slices.Sort at []int, laid out of the library's contract. -/
namespace Go.Proofs.Ytpfabbapfmfmmaa
open Go.Shelf
def lays189_ren : Go.Shelf.Ren := ⟨fun | 189 => 85 | 125 => 95 | 257 => 94 | 128 => 106 | 129 => 107 | 294 => 97 | 295 => 98 | 296 => 99 | 297 => 100 | 298 => 101 | 299 => 102 | 216 => 103 | 300 => 104 | 301 => 105 | 328 => 109 | 329 => 110 | 330 => 111 | 331 => 112 | 332 => 113 | 215 => 89 | 343 => 114 | n => n, fun | 28 => 22 | 3 => 3 | 46 => 106 | 0 => 0 | 51 => 116 | 53 => 118 | 4 => 4 | 183 => 109 | 182 => 108 | 131 => 113 | 5 => 5 | 9 => 9 | 218 => 119 | 222 => 123 | 228 => 125 | 229 => 126 | n => n, fun | n => n⟩
set_option maxRecDepth 100000 in
theorem lays189 : Go.Proofs.Lays.n189 Try.prog lays189_ren := {
  mixed := by kernel_rfl
  f125 := Try.func95.trans (congrArg some (by kernel_rfl))
  f128 := Try.func106.trans (congrArg some (by kernel_rfl))
  f129 := Try.func107.trans (congrArg some (by kernel_rfl))
  f189 := Try.func85.trans (congrArg some (by kernel_rfl))
  f215 := Try.func89.trans (congrArg some (by kernel_rfl))
  f216 := Try.func103.trans (congrArg some (by kernel_rfl))
  f257 := Try.func94.trans (congrArg some (by kernel_rfl))
  f294 := Try.func97.trans (congrArg some (by kernel_rfl))
  f295 := Try.func98.trans (congrArg some (by kernel_rfl))
  f296 := Try.func99.trans (congrArg some (by kernel_rfl))
  f297 := Try.func100.trans (congrArg some (by kernel_rfl))
  f298 := Try.func101.trans (congrArg some (by kernel_rfl))
  f299 := Try.func102.trans (congrArg some (by kernel_rfl))
  f300 := Try.func104.trans (congrArg some (by kernel_rfl))
  f301 := Try.func105.trans (congrArg some (by kernel_rfl))
  f328 := Try.func109.trans (congrArg some (by kernel_rfl))
  f329 := Try.func110.trans (congrArg some (by kernel_rfl))
  f330 := Try.func111.trans (congrArg some (by kernel_rfl))
  f331 := Try.func112.trans (congrArg some (by kernel_rfl))
  f332 := Try.func113.trans (congrArg some (by kernel_rfl))
  f343 := Try.func114.trans (congrArg some (by kernel_rfl))
  t0 := Try.underlying0
  a0 := Try.isAgg0
  z0 := Try.sizeOf0
  v0 := Try.zeroValue0
  t3 := Try.underlying3
  a3 := Try.isAgg3
  z3 := Try.sizeOf3
  v3 := Try.zeroValue3
  t4 := Try.underlying4
  a4 := Try.isAgg4
  z4 := Try.sizeOf4
  v4 := Try.zeroValue4
  t5 := Try.underlying5
  a5 := Try.isAgg5
  z5 := Try.sizeOf5
  v5 := Try.zeroValue5
  t9 := Try.underlying9
  a9 := Try.isAgg9
  z9 := Try.sizeOf9
  v9 := Try.zeroValue9
  t28 := Try.underlying22
  a28 := Try.isAgg22
  z28 := Try.sizeOf22
  v28 := Try.zeroValue22
  t46 := Try.underlying106
  a46 := Try.isAgg106
  z46 := Try.sizeOf106
  v46 := Try.zeroValue106
  t51 := Try.underlying116
  a51 := Try.isAgg116
  z51 := Try.sizeOf116
  v51 := Try.zeroValue116
  t53 := Try.underlying118
  a53 := Try.isAgg118
  z53 := Try.sizeOf118
  v53 := Try.zeroValue118
  t131 := Try.underlying113
  a131 := Try.isAgg113
  z131 := Try.sizeOf113
  v131 := Try.zeroValue113
  t182 := Try.underlying108
  a182 := Try.isAgg108
  z182 := Try.sizeOf108
  v182 := Try.zeroValue108
  t183 := Try.underlying109
  a183 := Try.isAgg109
  z183 := Try.sizeOf109
  v183 := Try.zeroValue109
  t218 := Try.underlying119
  a218 := Try.isAgg119
  z218 := Try.sizeOf119
  v218 := Try.zeroValue119
  t222 := Try.underlying123
  a222 := Try.isAgg123
  z222 := Try.sizeOf123
  v222 := Try.zeroValue123
  t228 := Try.underlying125
  a228 := Try.isAgg125
  z228 := Try.sizeOf125
  v228 := Try.zeroValue125
  t229 := Try.underlying126
  a229 := Try.isAgg126
  z229 := Try.sizeOf126
  v229 := Try.zeroValue126 }
open Go.Sort Go.RowKit in
theorem shelfSort_int (blk off cap : Nat) (zs : List Int) (w : World) (hH : Holds (Value.int .i64) w blk off zs.toArray) (hblk : blk < w.heap.size) (hsz : zs.length < 4611686018427387904) :
    Calls Try.prog 85 #[.slice (some ⟨blk, off, none⟩) zs.length cap] w fun e w' =>
      e = .returned (.tuple #[]) ∧ ∃ n os, w' = grow (putRow (Value.int .i64) (Sort.ahead w n) blk off (zs.mergeSort fun x y => decide (x ≤ y)).toArray) os := Any.slices_Sort_int lays189 blk off cap zs w hH hblk hsz
open Go.RowKit Go.Sort in
/-- .. and plain. (LAID: no walk: one application.) -/
theorem shelfSort_int_none (p : Option Addr) (cap : Nat) (w : World) :
    Calls Try.prog 85 #[.slice p 0 cap] w fun e w' => e = .returned (.tuple #[]) ∧ w' = w := Any.slices_Sort_int_none lays189 p cap w
end Go.Proofs.Ytpfabbapfmfmmaa
/- slices.Values, AppendSeq, Collect, Sorted at []int: a new slice that holds the numbers in order. -/
namespace Go.Proofs.Ytpfabbapfmfmmaa
open Go.RowKit Go.Shelf
attribute [local go_sem] Oper.semAt_some

set_option maxRecDepth 100000 in
set_option maxHeartbeats 2000000 in
theorem values1_in (n : Nat) (hn : 1 ≤ n) (l Bs n₀ : Nat) (A : Option Addr) (r c : Nat) (xs : List Int) (hr : r ≤ 100000) (J Jx : List Int → World → Prop)
    (hY : ∀ pre x W, J pre W → pre.length < r → YieldAt Fence.wide (n - 1) Try.prog l #[.int .i64 x] W fun e W' =>
      (e = .returned (.bool true) ∧ J (pre ++ [x]) W' ∧ Below n₀ W W') ∨ (e = .returned (.bool false) ∧ Jx (pre ++ [x]) W'))
    (W : World) (hBs : W.cell? ⟨Bs, 0, none⟩ = some (.slice A r c)) (hI : Ints W n₀ A r xs) (h0 : J [] W) :
    CallsIn Fence.wide n Try.prog 86 #[.func (.yield l) #[] #[], .pointer (some ⟨Bs, 0, none⟩)] W fun e W' => (∃ v, e = .returned v) ∧
      ((∃ ys, ys = xs ∧ J ys W') ∨ (∃ pre, pre <+: xs ∧ Jx pre W')) := by
  have HL : Hid (xs.length = r) := hI.1
  refine callsIn_of_wp Try.func86 rfl trivial ?_ rfl
  simp only [Try.ntmps86, List.size_toArray, List.length_cons, List.length_nil, Nat.reduceAdd, Nat.reduceSub, Array.replicate_succ, Array.replicate_zero, List.push_toArray, List.append_toArray, List.nil_append, List.cons_append]
  gi_wp2
  gi_loopw [7] (fun i wr => ∃ (k : Nat) (ys : List Int), k ≤ r ∧ i = .int .i64 k ∧ Hid (ys = xs.take k) ∧ J ys wr ∧ Below n₀ W wr)
    (fun i _ => r - (intOf i).toNat)
  case atStart => exact ⟨0, [], Nat.zero_le _, rfl, rfl, h0, Below.refl _ _⟩
  case round =>
    obtain ⟨k, ys, hk, rfl, HY, hJs, hnx⟩ := hrel
    by_cases hlt : k < r
    · obtain ⟨b, off, x, rfl, hb, HX, hc, hx1, hx2⟩ := (hI.below hnx).at_ hlt
      obtain ⟨fn, tmps, assign, body, hy, hR⟩ := hY ys x wr hJs (by rw [HY.out, List.length_take, HL.out]; omega)
      have HS : Hid (ys ++ [x] = xs.take (k + 1)) := by unfold Hid; rw [take_succ_of HX.out, HY.out]
      gi_wp2
      refine hR.mono ?_
      rintro e W3 (⟨rfl, hJ3, hk3⟩ | ⟨rfl, hJx3⟩)
      · gi_wp2
        go_roundw
        case rel => exact ⟨k + 1, ys ++ [x], by omega, by go_num, HS, hJ3, hnx.trans hk3⟩
        case measure => simp [intOf]; omega
      · gi_wp2
        refine bodyPost_ret (results_none rfl _ _ _) rfl ?_
        exact ⟨⟨_, rfl⟩, .inr ⟨_, by rw [HS.out]; exact List.take_prefix _ _, hJx3⟩⟩
    · obtain rfl : k = r := by omega
      gi_wp2
      go_end0
      exact ⟨⟨_, rfl⟩, .inl ⟨_, by rw [HY.out]; exact List.take_of_length_le (Nat.le_of_eq HL.out), hJs⟩⟩

theorem values_stops (n : Nat) (hn : 1 ≤ n) (Bs n₀ : Nat) (A : Option Addr) (r c : Nat) (xs : List Int) (hr : r ≤ 100000) (w : World) (hBs : Bs < w.heap.size) (hn₀ : n₀ ≤ w.heap.size)
    (hc : w.cell? ⟨Bs, 0, none⟩ = some (.slice A r c)) (hI : Ints w n₀ A r xs) :
    SeqStopsK Fence.wide n Try.prog 86 #[.pointer (some ⟨Bs, 0, none⟩)] (fun x : Int => #[Value.int .i64 x]) (Below n₀) (fun ys => ys = xs) (fun pre => pre <+: xs) r w :=
  fun l J Jx W hW _ _ hY h0 => values1_in n hn l Bs n₀ A r c xs hr J Jx hY W ((hW.cell (p := ⟨Bs, 0, none⟩) hBs).trans hc) (hI.below (hW.mono hn₀)) h0

set_option maxRecDepth 100000 in
theorem values_any (A : Option Addr) (r c : Nat) (w : World) :
    Calls Try.prog 69 #[.slice A r c] w fun e w' => e = .returned (.func (.func 86) #[] #[.pointer (some ⟨w.heap.size, 0, none⟩)]) ∧ w' = w.alloc (.cells #[.slice A r c] 22) := by
  go_enter Try.func69, Try.ntmps69
  go_wp2
  go_ret
  exact ⟨rfl, rfl⟩

set_option maxRecDepth 100000 in
set_option maxHeartbeats 2000000 in
theorem appendSeq_in (n : Nat) (hn : 3 ≤ n) (Bs : Nat) (A : Option Addr) (r c : Nat) (xs : List Int) (hr : r ≤ 100000) (w : World) (hBl : Bs < w.heap.size) (hc : w.cell? ⟨Bs, 0, none⟩ = some (.slice A r c)) (hI : Ints w w.heap.size A r xs) :
    CallsIn Fence.wide n Try.prog 93 #[.slice none 0 0, .func (.func 86) #[] #[.pointer (some ⟨Bs, 0, none⟩)]] w fun e w' => ∃ v, e = .returned v ∧ w'.ownsRow w.heap.size 3 1 v r (xs.map (Value.int .i64)) ∧ Below w.heap.size w w' := by
  have h1 : 1 ≤ n := by omega
  have HL : Hid (xs.length = r) := hI.1
  obtain ⟨i0, hi, hz0, hz1, hz2⟩ := info_parts infoInt
  refine callsIn_of_wp_marks Try.func93 rfl trivial ?_ rfl
  simp only [Try.ntmps93, List.size_toArray, List.length_cons, List.length_nil, Nat.reduceAdd, Nat.reduceSub, Array.replicate_succ, Array.replicate_zero, List.push_toArray, List.append_toArray, List.nil_append, List.cons_append]
  gi_wp2
  have bO := Boxed.new w 22 (.slice none 0 0)
  have hB0 : Below w.heap.size w (w.alloc (.cells #[.slice none 0 0] 22)) := (Below.refl _ w).alloc (Nat.le_refl _) _
  refine wpIn_rangeFunc_ownG rfl h1 (gf := 86) (lb := #[.pointer (some ⟨Bs, 0, none⟩)]) rfl trivial (enters_of Try.func86 (by kernel_rfl) rfl)
    (values_stops (n - 1) (by omega) Bs w.heap.size A r c xs hr _ (by simp; omega) (by simp) (cellPast _ hc) (hI.below hB0)) belowK_t (belowK_b (by simp)) (Below.refl _ _) (fun _ => rfl)
    (fun (pre : List Int) W => (∃ v, Boxed W w.heap.size 22 v ∧ W.ownsRow w.heap.size 3 1 v pre.length (pre.map (Value.int .i64)) ∧ True) ∧ Below w.heap.size w W)
    (fun _ _ _ => False)
    (OwnFrom.and (Own.from (holdsRow_own w.heap.size w.heap.size 22 3 1 (fun pre : List Int => pre.length) (fun pre => pre.map (Value.int .i64)) (fun _ _ => True)) _) (ownFrom_below (Nat.le_refl _) (by simp)))
    (fun _ _ _ _ _ hs _ _ => hs)
    ⟨⟨_, bO, World.ownsRow_nil _ _ _ _, trivial⟩, hB0⟩
    (fun x => { tmps := #[.slice none 0 0, .func (.func 86) #[] #[.pointer (some ⟨Bs, 0, none⟩)], .pointer (some ⟨w.heap.size, 0, none⟩), undef, .slice none 0 0, .int .i64 x, .func (.func 86) #[] #[.pointer (some ⟨Bs, 0, none⟩)], .int .i64 x, undef, undef, undef, undef, undef], defers := [] }) ?assign ?body ?done ?stop
  case assign =>
    intro l x W K hK
    gi_wp2
    exact hK
  case body =>
    rintro l pre x W ⟨⟨v, hv, hrow, _⟩, hB⟩ hlt
    have hc := hv.cell
    gi_wp2_with (gi_at_builtin; refine wpListIn_append_own _ rfl _ _ 22 rfl w.heap.size 3 i0 (.int .i64 0) 1 8 Try.underlying22 hi hz0 hz1 hz2 rfl (by decide) _ _ _ rfl (hrow.alloc _) ⟨W.heap.size, 0, none⟩ 1 1 [.int .i64 x] rfl rfl (cell_one_new _ _ _) (by simp [Value.oneCell']) (by unfold maxLen; omega) (by omega) (by have := hB.size; simp; omega) ?_; intro v' w1 hown' hgrow _; obtain ⟨g', cap', rfl⟩ := ownsRow_succ hown'; obtain ⟨hv1, hv2, hr2, hk2, hb2⟩ := hv.appended (by decide) hrow hB.size (Nat.le_refl _) hown' hgrow; have hc1 := hv1.cell; have hf1 := hv1.frozen)
    exact ⟨hk2.from _, hb2, ⟨_, hv2, by simpa using hr2, trivial⟩, hB.trans hb2⟩
  case done =>
    rintro D ys W hD rfl ⟨⟨v, hv, hrow, _⟩, hB⟩ hK
    have hc := hv.cell
    gi_wp2
    refine ⟨by simp, .inl ⟨_, _, rfl, run_takeDeferred hK, ?_⟩⟩
    exact ⟨_, results_tmp rfl _ _ _, v, rfl, by rw [← HL.out]; exact ownsRow_putObj hrow _ hK rfl, hB.trans (belowK_b (w := w) (Nat.le_refl _) W D _ _ (by simp at hD; omega) hK rfl rfl)⟩
  case stop =>
    rintro D c pre W _ _ h _
    exact h.elim

theorem rowI_form {w : World} {base n : Nat} {e : TypeId} {v : Value} {ys : List Value} (h : w.ownsRow base e 1 v n ys) : ∃ A c, v = .slice A n c := by
  rcases h.2 with ⟨rfl, rfl⟩ | ⟨g, cap, cur, rfl, _⟩
  · exact ⟨_, _, rfl⟩
  · exact ⟨_, _, rfl⟩

set_option maxRecDepth 100000 in
theorem collect_any (Bs : Nat) (A : Option Addr) (r c : Nat) (xs : List Int) (hr : r ≤ 100000) (w : World) (hBl : Bs < w.heap.size) (hc : w.cell? ⟨Bs, 0, none⟩ = some (.slice A r c)) (hI : Ints w w.heap.size A r xs) :
    Calls Try.prog 84 #[.func (.func 86) #[] #[.pointer (some ⟨Bs, 0, none⟩)]] w fun e w' => ∃ A' c', e = .returned (.slice A' r c') ∧ OwnI w' w.heap.size 3 A' c' xs ∧ Below w.heap.size w w' := by
  have HA := callsIn_wide.1 (appendSeq_in 3 (Nat.le_refl _) Bs A r c xs hr w hBl hc hI)
  have HL : Hid (xs.length = r) := hI.1
  go_enter Try.func84, Try.ntmps84
  go_wp2_with fail
  refine HA.mono ?_
  rintro e w1 ⟨v, rfl, hrow, hb⟩
  obtain ⟨A', c', rfl⟩ := rowI_form hrow
  go_wp2
  go_ret
  exact ⟨A', c', rfl, ⟨by rw [HL.out]; exact hrow, hI.2.1⟩, hb⟩

/-- the numbers in order -/
def sortI (xs : List Int) : List Int := xs.mergeSort fun x y => decide (x ≤ y)
theorem sortI_perm (xs : List Int) : (sortI xs).Perm xs := List.mergeSort_perm _ _
theorem sortI_nil : sortI [] = [] := by unfold sortI; exact List.mergeSort_nil
theorem sortI_len (xs : List Int) : (sortI xs).length = xs.length := (sortI_perm xs).length_eq

set_option maxRecDepth 100000 in
open Go.Sort in
set_option maxHeartbeats 1000000 in
theorem sorted_any (Bs : Nat) (A : Option Addr) (r c : Nat) (xs : List Int) (hr : r ≤ 100000) (w : World) (hBl : Bs < w.heap.size) (hc : w.cell? ⟨Bs, 0, none⟩ = some (.slice A r c)) (hI : Ints w w.heap.size A r xs) :
    Calls Try.prog 68 #[.func (.func 86) #[] #[.pointer (some ⟨Bs, 0, none⟩)]] w fun e w' => ∃ A' c', e = .returned (.slice A' r c') ∧ OwnI w' w.heap.size 3 A' c' (sortI xs) ∧ Below w.heap.size w w' := by
  have HA := collect_any Bs A r c xs hr w hBl hc hI
  have HL : Hid (xs.length = r) := hI.1
  have HBD : Hid (∀ x ∈ sortI xs, -9223372036854775808 ≤ x ∧ x ≤ 9223372036854775807) := fun x hx => hI.2.1 x ((sortI_perm xs).mem_iff.1 hx)
  go_enter Try.func68, Try.ntmps68
  go_wp2_with fail
  refine HA.mono ?_
  rintro e w1 ⟨A', c', rfl, hO, hb⟩
  have hrow := hO.1
  rw [HL.out] at hrow
  rcases hrow.2 with ⟨h0, hr0⟩ | ⟨g, cap, cur, hv, hbase, hblk, h1, h2, h3, h4⟩
  · subst hr0
    obtain ⟨rfl, rfl⟩ : A' = none ∧ c' = 0 := by injection h0 with h0 _ h0c; exact ⟨h0, h0c⟩
    have hx0 : xs = [] := List.eq_nil_of_length_eq_zero HL.out
    have HS := shelfSort_int_none none 0 w1
    clear hrow h0 hO HA
    go_wp2_with fail
    refine HS.mono ?_
    rintro e w2 ⟨rfl, rfl⟩
    go_wp2
    go_ret
    exact ⟨none, 0, rfl, by rw [hx0, sortI_nil]; exact OwnI.nil_ _ _ _, hb⟩
  · obtain ⟨rfl, rfl⟩ : A' = some ⟨g, 0, none⟩ ∧ c' = cap := by injection hv with hv _ hvc; exact ⟨hv, hvc⟩
    have hgl : g < w1.heap.size := (Array.getElem?_eq_some_iff.1 hblk).1
    have hH := holds_of_blockI (ss := xs) hblk (by rw [HL.out]; simpa using h4)
    have HS := shelfSort_int g 0 c' xs w1 hH hgl (by rw [HL.out]; omega)
    rw [HL.out] at HS
    have HOS : Hid (∀ q os, (grow (Sort.putRow (Value.int .i64) (Sort.ahead w1 q) g 0 (sortI xs).toArray) os).ownsRow w.heap.size 3 1 (.slice (some ⟨g, 0, none⟩) r c') r ((sortI xs).map (Value.int .i64))) := fun q os => by
      have := ownsRow_sortedI (w := w1) (base := w.heap.size) (n := q) (os := os) (ss := xs) (ts := sortI xs) (sortI_len xs) hbase hblk (by rw [HL.out]; exact h1) h2 h3
      rw [HL.out] at this
      exact this
    have HB := Lib.hid hb
    clear hrow hv hO HA h4 hblk hb hH
    go_wp2_with fail
    refine HS.mono ?_
    rintro e w2 ⟨rfl, q, os, hw2⟩
    have hg2 : w1.grownBy w2 (some g) := by rw [hw2]; exact grownBy_sortedI _
    have ho2 : w2.ownsRow w.heap.size 3 1 (.slice (some ⟨g, 0, none⟩) r c') r ((sortI xs).map (Value.int .i64)) := by rw [hw2]; exact HOS.out q os
    clear hw2 HOS
    go_wp2
    go_ret
    exact ⟨_, _, rfl, ⟨by rw [sortI_len, HL.out]; exact ho2, HBD.out⟩, HB.out.grown hg2 (by have := HB.out.size; omega) (fun k hk => by injection hk with hk; omega)⟩
end Go.Proofs.Ytpfabbapfmfmmaa
/- coo.Sort where no order is named. -/
namespace Go.Proofs.Ytpfabbapfmfmmaa

section
open Go.RowKit
/-- the plain order -/
def iotaL (n : Nat) : List Int := (List.range n).map fun (k : Nat) => (k : Int)
theorem iotaL_len (n : Nat) : (iotaL n).length = n := by simp [iotaL]
theorem iotaL_at {n k : Nat} (h : k < n) : (iotaL n)[k]? = some (k : Int) := by
  unfold iotaL; rw [List.getElem?_map, List.getElem?_range h]; rfl

set_option maxRecDepth 100000 in
theorem modesBy_err (A B Ao : Option Addr) (n c m e ro co : Nat) (xs : List Int) (es : List Ent) (E : Int) (w : World) (h : Ints w w.heap.size A n xs) (hn : n ≤ 9223372036854775807) (hv : Ents w w.heap.size B m es) (hm : m ≤ 9223372036854775807) (hE : cooF xs es = E) (h0 : E ≠ 0) :
    Calls Try.prog 43 #[.agg #[.slice A n c, .slice B m e], .slice Ao ro co] w fun x w' => x = .returned (.tuple #[.slice none 0 0, .int .i64 E]) ∧ Below w.heap.size w w' := by
  have z0 := (Below.refl w.heap.size w).alloc (Nat.le_refl _) (.cells #[.slice A n c, .slice B m e] 25)
  have HC := fun W (hb : Below w.heap.size w W) => cooCheck_any A B n c m e xs es W ((h.below hb).more hb.size) hn ((hv.below hb).more hb.size) hm
  rw [hE] at HC
  have e1 : (E == 0) = false := by simpa using h0
  have e2 : (E != 0) = true := by simpa using h0
  clear hE h0
  go_enter Try.func43, Try.ntmps43
  go_wp2_with (go_at_call 23; refine (HC _ z0).mono ?_; rintro x w1 ⟨rfl, hb1⟩; have hb2 := z0.trans (hb1.mono z0.size))
  go_ret2
  exact ⟨rfl, hb2⟩

set_option maxRecDepth 100000 in
set_option maxHeartbeats 1000000 in
theorem modesBy_plain (A B Ao : Option Addr) (n c m e co : Nat) (xs : List Int) (es : List Ent) (w : World) (h : Ints w w.heap.size A n xs) (hn : n ≤ 100000) (hv : Ents w w.heap.size B m es) (hm : m ≤ 9223372036854775807) (hE : cooF xs es = 0) :
    Calls Try.prog 43 #[.agg #[.slice A n c, .slice B m e], .slice Ao 0 co] w fun x w' => ∃ gv, x = .returned (.tuple #[.slice (some ⟨gv, 0, none⟩) n n, .int .i64 0]) ∧ OwnI w' w.heap.size 3 (some ⟨gv, 0, none⟩) n (iotaL n) ∧ Below w.heap.size w w' := by
  have z0 := (Below.refl w.heap.size w).alloc (Nat.le_refl _) (.cells #[.slice A n c, .slice B m e] 25)
  have b1 := heap_alloc_new w (.cells #[.slice A n c, .slice B m e] 25)
  have HC := fun W (hb : Below w.heap.size w W) => cooCheck_any A B n c m e xs es W ((h.below hb).more hb.size) (by omega) ((hv.below hb).more hb.size) hm
  rw [hE] at HC
  obtain ⟨i0, hi0, hz0, hz1, hz2⟩ := info_parts infoInt
  have hmk := fun W => run_makeAll (P := Try.prog) 22 3 i0 Try.underlying22 hi0 hz0 hz1 hz2 n (by omega) W
  clear hE h hv
  go_enter Try.func43, Try.ntmps43
  go_wp2_with (go_at_call 23; refine (HC _ z0).mono ?_; rintro x w1 ⟨rfl, hb1⟩; have hb2 := z0.trans (hb1.mono z0.size); obtain ⟨k0, k1, _, _⟩ := pair_cells ((hb1.block w.heap.size (by simp)).trans b1))
  have hs1 : w.heap.size ≤ w1.heap.size := hb2.size
  have hown := own_made w1 3 n w.heap.size hs1 hn
  have HOW := Lib.hid hown
  have hbm := hb2.alloc hb2.size (.cells (madeCells #[.int .i64 0] n) 3)
  have HBM := Lib.hid hbm
  clear hown hbm HC z0 b1 hb1 k0 k1 hmk
  go_loopw [20] (fun v wr => ∃ k : Nat, v = .int .i64 (k : Int) ∧ k ≤ n ∧ Hid (OwnI wr w.heap.size 3 (some ⟨w1.heap.size, 0, none⟩) n ((iotaL n).take k ++ List.replicate (n - k) 0)) ∧ Hid (Below w.heap.size w wr)) (fun v _ => n - (intOf v).toNat)
  case atStart => exact ⟨0, rfl, Nat.zero_le _, by unfold Hid; simpa using HOW.out, HBM⟩
  case round =>
    clear HOW HBM
    obtain ⟨k, rfl, hk, HO, HB⟩ := hrel
    by_cases hlt : k < n
    · have hz : ((iotaL n).take k ++ List.replicate (n - k) 0)[k]? = some (0 : Int) := by
        rw [List.getElem?_append_right (by rw [List.length_take, iotaL_len]; omega), List.length_take, iotaL_len, Nat.min_eq_left (by omega), Nat.sub_self, List.getElem?_replicate_of_lt (by omega)]
      obtain ⟨hcz, hfz⟩ := HO.out.cell_ hz
      have hset := HO.out.set_ k (k : Int) (by omega)
      rw [fill_set (iotaL_len n) (iotaL_at hlt)] at hset
      have HS := Lib.hid hset
      have HB2 := Lib.hid (HB.out.setCell (p := ⟨w1.heap.size, k, none⟩) hs1 (.int .i64 (k : Int)))
      have hkn : (k : Int) < (n : Int) := by omega
      have hk0 : (0 : Int) ≤ (k : Int) := by omega
      clear hz hset
      go_wp2
      go_roundw
      case rel => exact ⟨k + 1, by go_num, by omega, HS, HB2⟩
      case measure => simp [intOf]; omega
    · obtain rfl : k = n := by omega
      have hfull : (iotaL k).take k ++ List.replicate (k - k) 0 = iotaL k := by rw [Nat.sub_self, List.replicate_zero, List.append_nil, List.take_of_length_le (Nat.le_of_eq (iotaL_len k))]
      have HF : Hid (OwnI wr w.heap.size 3 (some ⟨w1.heap.size, 0, none⟩) k (iotaL k)) := by unfold Hid; rw [← hfull]; exact HO.out
      clear hfull
      go_wp2
      go_ret2
      exact ⟨_, rfl, HF.out, HB.out⟩
end

section
open Go.RowKit
def ltK (os : List Int) (a b : List Int × Int × Nat) : Bool := decide (cmpE os a.1 b.1 < 0)
def insK (os : List Int) (P : List (List Int × Int × Nat)) (x : List Int × Int × Nat) : List (List Int × Int × Nat) := (P.reverse.dropWhile (ltK os x)).reverse ++ x :: (P.reverse.takeWhile (ltK os x)).reverse
/-- the insertion sort of places and numbers alone -/
def sortK (os : List Int) (l : List (List Int × Int × Nat)) : List (List Int × Int × Nat) := l.foldl (insK os) []
theorem insE_key (os : List Int) (P : List Ent) (x : Ent) : (insE os P x).map keyE = insK os (P.map keyE) (keyE x) := by
  unfold insE insK
  have e : ltE os x = ltK os (keyE x) ∘ keyE := rfl
  have h1 : (P.map keyE).reverse.takeWhile (ltK os (keyE x)) = (P.reverse.takeWhile (ltK os (keyE x) ∘ keyE)).map keyE := by rw [← List.map_reverse, List.takeWhile_map]
  have h2 : (P.map keyE).reverse.dropWhile (ltK os (keyE x)) = (P.reverse.dropWhile (ltK os (keyE x) ∘ keyE)).map keyE := by rw [← List.map_reverse, List.dropWhile_map]
  rw [h1, h2, e, List.map_append, List.map_cons, List.map_reverse, List.map_reverse]
theorem sortE_key (os : List Int) (l : List Ent) : (sortE os l).map keyE = sortK os (l.map keyE) := by
  have key : ∀ (l P : List Ent), (l.foldl (insE os) P).map keyE = (l.map keyE).foldl (insK os) (P.map keyE) := by
    intro l
    induction l with
    | nil => intro P; rfl
    | cons x l ih => intro P; rw [List.foldl_cons, ih, insE_key]; rfl
  exact key l []
set_option maxRecDepth 100000 in
theorem aheadBy_any (A : Option Addr) (n c : Nat) (w : World) :
    Calls Try.prog 46 #[.slice A n c] w fun e w' => e = .returned (.func (.func 72) #[] #[.pointer (some ⟨w.heap.size, 0, none⟩)]) ∧ w' = w.alloc (.cells #[.slice A n c] 22) := by
  go_enter Try.func46, Try.ntmps46
  go_wp2
  go_ret
  exact ⟨rfl, rfl⟩
theorem key_len {xs : List Int} {es : List Ent} (h : cooF xs es = 0) (hl : ∀ y ∈ es, y.cs.length = y.n) : ∀ y ∈ es, y.n = xs.length := fun y hy => by
  have := (cooF_parts h).2.2 y hy
  unfold insideF at this
  rw [Bool.and_eq_true] at this
  rw [← hl y hy]
  exact of_decide_eq_true this.1
theorem keys_mem {Ds es : List Ent} (h : Ds.map keyE = es.map keyE) {x : Ent} (hx : x ∈ Ds) : ∃ y ∈ es, keyE x = keyE y := by
  have : keyE x ∈ es.map keyE := by rw [← h]; exact List.mem_map_of_mem hx
  obtain ⟨y, hy, e⟩ := List.mem_map.1 this
  exact ⟨y, hy, e.symm⟩
theorem NewE.below {w w' : World} {base g : Nat} {x : Ent} (h : NewE w base g x) (hb : Below w.heap.size w w') : NewE w' base g x := h.grown (grown_below' (grown_same w g) hb)
set_option maxRecDepth 100000 in
set_option maxHeartbeats 4000000 in
theorem cooSort_pos (A B Ao : Option Addr) (n c m e co : Nat) (xs : List Int) (es : List Ent) (w : World) (h : Ints w w.heap.size A n xs) (hv : Ents w w.heap.size B m es) (hE : cooF xs es = 0) (hm0 : 0 < m) :
    Calls Try.prog 14 #[.agg #[.slice A n c, .slice B m e], .slice Ao 0 co] w fun x w' => ∃ A1 c1 A2 c2 Ds, x = .returned (.tuple #[.agg #[.slice A1 n c1, .slice A2 m c2], .int .i64 0]) ∧ OwnI w' w.heap.size 3 A1 c1 xs ∧ NewEs w' w.heap.size A2 c2 Ds ∧ Ds.map keyE = sortK (iotaL n) (es.map keyE) ∧ Below w.heap.size w w' := by
  have hn4 : n ≤ 4 := by rw [← h.1]; exact (cellsF_ok (cooF_parts hE).1).1
  have hm5 : m ≤ 65536 := by rw [← hv.1]; exact (cooF_parts hE).2.1
  have hyl : ∀ y ∈ es, y.n = n := fun y hy => by rw [← h.1]; exact key_len hE (fun y hy => (hv.2.1 y hy).1.1) y hy
  have z0 := (Below.refl w.heap.size w).alloc (Nat.le_refl _) (.cells #[.slice A n c, .slice B m e] 25)
  have z1 := z0.alloc z0.size (.cells #[.slice none 0 0, .slice none 0 0] 25)
  have b1 := zf_two w (.cells #[.slice A n c, .slice B m e] 25) (.cells #[.slice none 0 0, .slice none 0 0] 25)
  have b2 := zf_snd w (.cells #[.slice none 0 0, .slice none 0 0] 25) (.cells #[.slice A n c, .slice B m e] 25)
  have HMB := fun W (hb : Below w.heap.size w W) => modesBy_plain A B Ao n c m e co xs es W ((h.below hb).more hb.size) (by omega) ((hv.below hb).more hb.size) (by omega) hE
  have HCL := fun W (hb : Below w.heap.size w W) => cooClone_any A B n c m e xs es W ((h.below hb).more hb.size) (by omega) ((hv.below hb).more hb.size) hm5 (fun y hy => by have := hyl y hy; omega)
  have HYL := Lib.hid hyl
  have HVL : Hid (es.length = m) := hv.1
  clear h hv hE z0 hyl
  go_enter Try.func14, Try.ntmps14
  go_wp2_with fail
  refine (HMB _ z1).mono ?_
  rintro x w1 ⟨gv, rfl, HO, hb1⟩
  have hsz0 : w.heap.size + 2 ≤ w1.heap.size := by have := hb1.size; simp at this; omega
  have hb := z1.trans (hb1.mono z1.size)
  have q1 := (hb1.block w.heap.size (by simp; omega)).trans b1
  have q2 := (hb1.block (w.heap.size + 1) (by simp)).trans b2
  have HOO := Lib.hid HO
  have hgv : gv < w1.heap.size := (HO.1.lt gv rfl).2
  obtain ⟨k0, k1, _, _⟩ := pair_cells q1
  clear HMB b1 b2 z1 hb1 HO
  go_wp2_with fail
  refine (HCL _ hb).mono ?_
  rintro x w2 ⟨A1, c1, A2, c2, Ds, rfl, HA1, HNE, hkey, hb3⟩
  have hbb := hb.trans (hb3.mono hb.size)
  replace q2 := (hb3.block (w.heap.size + 1) (by omega)).trans q2
  have hdl : Ds.length = m := by have := congrArg List.length hkey; rw [List.length_map, List.length_map] at this; rw [this]; exact HVL.out
  rcases HNE with hnil | ⟨g, post, rfl, hgb, hrow, hnew, hlc⟩
  · rw [hnil] at hdl; simp at hdl; omega
  have HKEY := Lib.hid hkey
  have HOW := Lib.hid (HOO.out.below hb3 (Nat.le_refl _))
  have HA1' := Lib.hid HA1
  have hgl := hrow.lt
  have y0 := heap_alloc_new w2 (.cells #[.slice A1 n c1, .slice (some ⟨g, 0, none⟩) m c2] 25)
  have yb := (Below.refl w2.heap.size w2).alloc (Nat.le_refl _) (.cells #[.slice A1 n c1, .slice (some ⟨g, 0, none⟩) m c2] 25)
  obtain ⟨j0, j1, _, _⟩ := pair_cells y0
  clear HCL hb3 k0 k1 q1 hkey HA1 HOO
  have r2 := (yb.block (w.heap.size + 1) (by omega)).trans q2
  have hrow3 := hrow.below yb
  have HNEW3 : Hid (∀ x ∈ Ds, NewE (w2.alloc (.cells #[.slice A1 n c1, .slice (some ⟨g, 0, none⟩) m c2] 25)) w1.heap.size g x) := fun x hx => (hnew x hx).below yb
  have HOW3 := Lib.hid (HOW.out.alloc (.cells #[.slice A1 n c1, .slice (some ⟨g, 0, none⟩) m c2] 25))
  have HA3 := Lib.hid (HA1'.out.alloc (.cells #[.slice A1 n c1, .slice (some ⟨g, 0, none⟩) m c2] 25))
  have hbb3 := hbb.alloc hbb.size (.cells #[.slice A1 n c1, .slice (some ⟨g, 0, none⟩) m c2] 25)
  have hs3 : (w2.alloc (.cells #[.slice A1 n c1, .slice (some ⟨g, 0, none⟩) m c2] 25)).heap.size = w2.heap.size + 1 := World.size_alloc _ _
  obtain ⟨w3, hw3⟩ : ∃ w3, w2.alloc (.cells #[.slice A1 n c1, .slice (some ⟨g, 0, none⟩) m c2] 25) = w3 := ⟨_, rfl⟩
  rw [hw3] at y0 j0 j1 r2 hrow3 HNEW3 HOW3 HA3 hbb3 hs3
  have H3 := Lib.hid hw3
  have hs3a : w2.heap.size < w3.heap.size := by omega
  clear hs3
  have HR3 := Lib.hid hrow3
  have hsz2 : w1.heap.size ≤ w2.heap.size := by omega
  have HXN : Hid (∀ x ∈ Ds, x.n = n) := fun x hx => by
    obtain ⟨y, hy, e⟩ := keys_mem HKEY.out hx
    have e2 : x.n = y.n := congrArg (fun q => q.2.2) e
    rw [e2]; exact HYL.out y hy
  have HSO := fun W (hbW : Below w3.heap.size w3 W) (hc : W.cell? ⟨w3.heap.size, 0, none⟩ = some (.slice (some ⟨gv, 0, none⟩) n n)) =>
    sort_any g m c2 w3.heap.size Ds post (some ⟨gv, 0, none⟩) n n (iotaL n) W (HR3.out.below hbW) hdl (by omega)
      ⟨fun x hx => ⟨((HNEW3.out x hx).below hbW).1, fun q hq => by
          obtain ⟨k, hk, rfl⟩ := List.mem_map.1 hq
          have := List.mem_range.1 hk
          have := HXN.out x hx
          omega, (HNEW3.out x hx).2.2.2⟩, by
        have hi := ((HOW3.out.below hbW (Nat.le_refl _)).ints)
        rw [iotaL_len] at hi
        exact ⟨hi, fun b off e => by injection e with e; injection e with e; omega⟩, hc, by omega, by omega⟩
  have hj := fun o => cellPast o j1
  clear yb hw3 hrow hrow3 hnew hb q2 hbb
  go_upto_region 5 with fail
  rw [H3.out]
  go_region_law (first | (go_simp; go_at_call 46; refine (aheadBy_any _ _ _ _).mono ?_; rintro x w4 ⟨rfl, rfl⟩) | (go_simp; go_at_call 45; refine (HSO _ ?b0 ?b1).mono ?_; (case b0 => first | exact (Below.refl _ _).drew.alloc (Nat.le_refl _) _ | exact ((Below.refl _ _).alloc (Nat.le_refl _) _).drew | exact (Below.refl _ _).alloc (Nat.le_refl _) _); (case b1 => simp); rintro x w5 ⟨rfl, hr5, hg5⟩))
  all_goals
    have hbW : Below w3.heap.size w3 (w3.alloc (.cells #[.slice (some ⟨gv, 0, none⟩) n n] 22)).drew := ((Below.refl _ _).alloc (Nat.le_refl _) _).drew
    obtain ⟨W4, hW4⟩ : ∃ W4, (w3.alloc (.cells #[.slice (some ⟨gv, 0, none⟩) n n] 22)).drew = W4 := ⟨_, rfl⟩
    rw [hW4] at hg5 hbW
    have hsW := hbW.size
    have y5 := (hg5.block w2.heap.size (by omega) (by intro e; injection e with e; omega)).trans ((hbW.block w2.heap.size hs3a).trans y0)
    have r5 := (hg5.block (w.heap.size + 1) (by omega) (by intro e; injection e with e; omega)).trans ((hbW.block (w.heap.size + 1) (by omega)).trans r2)
    have HNE5 : Hid (∀ x ∈ sortE (iotaL n) Ds, NewE w5 w1.heap.size g x) := fun x hx => ((HNEW3.out x (sortE_sub hx)).below hbW).grown hg5
    have hA4 := HA3.out.below hbW (Nat.le_refl _)
    have hA5 : OwnI w5 w1.heap.size 3 A1 c1 xs := ⟨hA4.1.kept hg5 (rows_ne hA4.1 (HR3.out.below hbW) (by decide)), hA4.2⟩
    have HA5 := Lib.hid hA5
    have HR5 := Lib.hid hr5
    have HB5 : Hid (Below w.heap.size w w5) := (hbb3.trans (hbW.mono hbb3.size)).grown hg5 (by have := hbb3.size; omega) (fun k hk => by injection hk with hk; omega)
    have hwz := hbb3.size
    obtain ⟨k0, k1, _, _⟩ := pair_cells y5
    obtain ⟨v0, v1, vf0, vf1⟩ := pair_cells r5
    have HR2 := Lib.hid r5
    clear j0 j1 hj HSO hr5 hg5 hbW hW4 hA4 hA5 y5 r5 HNEW3 HOW3 HA3 HR3 H3
    go_wp2_with fail
    have hres := set_two w5 (w.heap.size + 1) _ _ (.slice A1 n c1) (.slice (some ⟨g, 0, none⟩) m c2) _ HR2.out
    obtain ⟨s0, s1, _, _⟩ := pair_cells hres.1
    obtain ⟨wz, hwz'⟩ : ∃ wz, (w5.setCell ⟨w.heap.size + 1, 0, none⟩ (.slice A1 n c1)).setCell ⟨w.heap.size + 1, 1, none⟩ (.slice (some ⟨g, 0, none⟩) m c2) = wz := ⟨_, rfl⟩
    rw [hwz'] at hres s0 s1 ⊢
    refine bodyPost_ret (v := .tuple #[.agg #[.slice A1 n c1, .slice (some ⟨g, 0, none⟩) m c2], .int .i64 0]) (by simp [results, Try.results14, go_sem, s0, s1]) rfl ⟨A1, c1, some ⟨g, 0, none⟩, c2, sortE (iotaL n) Ds, rfl, ?_, ?_, ?_, ?_⟩
    · exact OwnI.mono (w := wz) (base := w1.heap.size) ⟨HA5.out.1.kept hres.2 (rows_ne HA5.out.1 HR2.out (by decide)), HA5.out.2⟩ (by omega)
    · refine .inr ⟨g, post, rfl, by omega, (hres.2.block g HR5.out.lt (by intro e; injection e with e; omega)).trans HR5.out, fun x hx => ((HNE5.out x hx).far hres.2 (by omega)).mono (by omega), by rw [sortE_len]; exact hlc⟩
    · rw [sortE_key, HKEY.out]
    · exact HB5.out.grown hres.2 HB5.out.size (fun k hk => by injection hk with hk; omega)
end
end Go.Proofs.Ytpfabbapfmfmmaa
