/- The document's Equals of layer 2. -/
import Derived.Test.YtpfabbapfmfmmaaG14
import Derived.Deep.QuietTactic
namespace Go.Proofs.Ytpfabbapfmfmmaa
open Go.RowKit

set_option maxRecDepth 100000 in
set_option maxHeartbeats 4000000 in
theorem refEqualsE (A B A2 B2 : Option Addr) (n c m e n2 c2 m2 e2 : Nat) (xs ys : List Int) (es fs : List Ent) (w : World) (h : CooV w A n B m xs es) (h2 : CooV w A2 n2 B2 m2 ys fs) (hn : n ≤ 100000) (hm : m ≤ 100000) (hn2 : n2 ≤ 9223372036854775807) (hm2 : m2 ≤ 9223372036854775807) (hes : ∀ x ∈ es, x.n ≤ 100000)
    (R : Bool) (HR : Hid ((decide (xs = ys) && decide (es.map keyV = fs.map keyV)) = R)) :
    Calls Try.prog 22 #[.agg #[.slice A n c, .slice B m e], .agg #[.slice A2 n2 c2, .slice B2 m2 e2]] w fun x w' => x = .returned (.bool R) ∧ Below w.heap.size w w' := by
  have HL : Hid (es.length = m) := h.2.1
  have HL2 : Hid (fs.length = m2) := h2.2.1
  have HES := Lib.hid hes
  have z0 := (Below.refl w.heap.size w).alloc (Nat.le_refl _) (.cells #[.slice A n c, .slice B m e] 25)
  have z1 := z0.alloc z0.size (.cells #[.slice A2 n2 c2, .slice B2 m2 e2] 25)
  have b1 := zf_two w (.cells #[.slice A n c, .slice B m e] 25) (.cells #[.slice A2 n2 c2, .slice B2 m2 e2] 25)
  have b2 := zf_snd w (.cells #[.slice A2 n2 c2, .slice B2 m2 e2] 25) (.cells #[.slice A n c, .slice B m e] 25)
  have v1 := h.below z1
  have v2 := h2.below z1
  obtain ⟨W0, hW0⟩ : ∃ W0, (w.alloc (.cells #[.slice A n c, .slice B m e] 25)).alloc (.cells #[.slice A2 n2 c2, .slice B2 m2 e2] 25) = W0 := ⟨_, rfl⟩
  rw [hW0] at z1 b1 b2 v1 v2
  have HW0 := Lib.hid hW0
  obtain ⟨k0, k1, _, _⟩ := pair_cells b1
  obtain ⟨m0, m1, _, _⟩ := pair_cells b2
  have HQ := refEqual_any A A2 n n2 c c2 xs ys W0 W0.heap.size v1.1 v2.1 hn hn2
  clear h h2 z0 hes hW0
  go_enter Try.func22, Try.ntmps22
  by_cases hxy : xs = ys
  · rw [decide_eq_true hxy] at HQ
    by_cases hmm : m = m2
    · subst hmm
      have e1 : ((m : Int) == (m : Int)) = true := by simp
      have e2 : ((m : Int) != (m : Int)) = false := by simp
      have HR2 : Hid (decide (es.map keyV = fs.map keyV) = R) := by unfold Hid; rw [← HR.out, decide_eq_true hxy]; simp
      have B1 := Lib.hid b1
      have B2 := Lib.hid b2
      clear hxy HR b1 b2
      go_upto_region 1 with fail
      rw [HW0.out]
      go_wp2_with fail
      refine HQ.mono ?_
      rintro x w3 ⟨rfl, m3, rfl⟩
      have k0' : (W0.drewN m3).cell? ⟨w.heap.size, 0, none⟩ = _ := k0
      have k1' : (W0.drewN m3).cell? ⟨w.heap.size, 1, none⟩ = _ := k1
      have m0' : (W0.drewN m3).cell? ⟨w.heap.size + 1, 0, none⟩ = _ := m0
      have m1' : (W0.drewN m3).cell? ⟨w.heap.size + 1, 1, none⟩ = _ := m1
      go_wp2_with fail
      go_loopw [25] (fun i wr => ∃ k : Nat, k ≤ m ∧ i = .int .i64 k ∧ Hid ((es.map keyV).take k = (fs.map keyV).take k) ∧ Below W0.heap.size W0 wr) (fun i _ => m - (intOf i).toNat)
      case atStart => exact ⟨0, Nat.zero_le _, rfl, by unfold Hid; simp, below_drewN (Below.refl _ _) _⟩
      case round =>
        obtain ⟨k, hk, rfl, HK, hbr⟩ := hrel
        clear k0 k1 m0 m1 k0' k1' m0' m1'
        by_cases hlt : k < m
        · have hszr := hbr.size
          have hsW := z1.size
          obtain ⟨b, off, y, hyA, hbb, HY, hc0, hc1, iy, hy1, hy2, hy3, hy4⟩ := (v1.below hbr).2.at_ hlt
          obtain ⟨b', off', u, huA, hbb', HU, hu0, hu1, iu, hu2, hu3, hu4, hu5⟩ := (v2.below hbr).2.at_ hlt
          subst hyA huA
          have hyn := HES.out y (List.mem_of_getElem? HY.out)
          have hc2 : wr.cell? ⟨b, off + k * 2, none⟩ = some (.slice y.A y.n y.c) := by rw [Nat.mul_comm k 2]; exact hc0
          have hc3 : wr.cell? ⟨b, off + k * 2 + 1, none⟩ = some (.int .i64 y.v) := by rw [Nat.mul_comm k 2]; exact hc1
          have hk0 : (0 : Int) ≤ k := by omega
          have hk1 : (k : Int) < m := by omega
          have hal := (Below.refl wr.heap.size wr).alloc (Nat.le_refl _) (.cells #[.slice y.A y.n y.c, .int .i64 y.v] 37)
          have bt := heap_alloc_new wr (.cells #[.slice y.A y.n y.c, .int .i64 y.v] 37)
          have r2 := (hal.block (w.heap.size + 1) (by have := lt_of_heap B2.out; omega)).trans ((hbr.block (w.heap.size + 1) (lt_of_heap B2.out)).trans B2.out)
          have g0 : (wr.alloc (.cells #[.slice y.A y.n y.c, .int .i64 y.v] 37)).cell? ⟨b', off' + k * 2, none⟩ = some (.slice u.A u.n u.c) := by rw [Nat.mul_comm k 2]; exact (hal.cell (p := ⟨b', off' + 2 * k, none⟩) hbb').trans hu0
          have g1 : (wr.alloc (.cells #[.slice y.A y.n y.c, .int .i64 y.v] 37)).cell? ⟨b', off' + k * 2 + 1, none⟩ = some (.int .i64 u.v) := by rw [Nat.mul_comm k 2]; exact (hal.cell (p := ⟨b', off' + 2 * k + 1, none⟩) hbb').trans hu1
          have iy2 := (iy.below hal).more hal.size
          have iu2 := (iu.below hal).more hal.size
          have hbt := hbr.trans (hal.mono hszr)
          obtain ⟨wt, hwt⟩ : ∃ wt, wr.alloc (.cells #[.slice y.A y.n y.c, .int .i64 y.v] 37) = wt := ⟨_, rfl⟩
          rw [hwt] at bt r2 g0 g1 iy2 iu2 hbt
          have HWT := Lib.hid hwt
          obtain ⟨t0, t1, _, _⟩ := pair_cells bt
          obtain ⟨s0, s1, _, _⟩ := pair_cells r2
          have HE := fun q : Nat => refEqual_any y.A u.A y.n u.n y.c u.c y.cs u.cs (wt.drewN q) wt.heap.size iy2 iu2 hyn hu2
          clear hal hwt bt r2 hc0 hc1 hu0 hu1 iy iu iy2 iu2
          by_cases hv : y.v = u.v
          · have d1 : (y.v == u.v) = true := by simpa using hv
            have d2 : (y.v != u.v) = false := by simpa using hv
            by_cases hcs : y.cs = u.cs
            · rw [decide_eq_true hcs] at HE
              have HN : Hid ((es.map keyV).take (k + 1) = (fs.map keyV).take (k + 1)) := by
                unfold Hid
                rw [take_succ_of (x := keyV y) (by rw [List.getElem?_map, HY.out]; rfl), take_succ_of (x := keyV u) (by rw [List.getElem?_map, HU.out]; rfl), HK.out]
                unfold keyV
                rw [hcs, hv]
              clear hv hcs
              go_upto_region 6 with fail
              rw [HWT.out]
              go_quiet ((go_at_call 36; exact Calls.quiet_of (HE _)))
              go_wp2_with fail
              go_roundw
              case rel => exact ⟨k + 1, by omega, by go_num, HN, below_drewN hbt _⟩
              case measure => simp [intOf]; omega
            · rw [decide_eq_false hcs] at HE
              have HF : Hid (R = false) := by
                unfold Hid
                rw [← HR2.out, decide_eq_false]
                intro e
                have := congrArg (fun l => l[k]?) e
                simp only [List.getElem?_map, HY.out, HU.out, Option.map_some, Option.some.injEq] at this
                exact hcs (congrArg Prod.fst this)
              clear hv hcs
              go_upto_region 6 with fail
              rw [HWT.out]
              go_quiet ((go_at_call 36; exact Calls.quiet_of (HE _)))
              go_wp2_with fail
              go_ret
              exact ⟨by rw [HF.out]; rfl, z1.trans ((below_drewN hbt _).mono z1.size)⟩
          · have d1 : (y.v == u.v) = false := by simpa using hv
            have d2 : (y.v != u.v) = true := by simpa using hv
            have HF : Hid (R = false) := by
              unfold Hid
              rw [← HR2.out, decide_eq_false]
              intro e
              have := congrArg (fun l => l[k]?) e
              simp only [List.getElem?_map, HY.out, HU.out, Option.map_some, Option.some.injEq] at this
              exact hv (congrArg Prod.snd this)
            clear hv HE
            go_upto_region 6 with fail
            rw [HWT.out]
            go_quiet (fail)
            go_wp2_with fail
            go_ret
            exact ⟨by rw [HF.out]; rfl, z1.trans ((below_drewN hbt _).mono z1.size)⟩
        · have HF : Hid (R = true) := by
            unfold Hid
            rw [← HR2.out, decide_eq_true]
            exact take_eq_of (n := m) (k := k) (by rw [List.length_map, HL.out]) (by rw [List.length_map, HL2.out]) (by omega) HK.out
          go_wp2_with fail
          go_ret
          exact ⟨by rw [HF.out]; rfl, z1.trans (hbr.mono z1.size)⟩
    · have HF : Hid (R = false) := by
        unfold Hid
        rw [← HR.out, decide_eq_false (p := es.map keyV = fs.map keyV), Bool.and_false]
        intro e
        have := congrArg List.length e
        rw [List.length_map, List.length_map, HL.out, HL2.out] at this
        exact hmm this
      have e1 : ((m : Int) == (m2 : Int)) = false := by simp; omega
      have e2 : ((m : Int) != (m2 : Int)) = true := by simp; omega
      clear hxy hmm HR
      go_upto_region 1 with fail
      rw [HW0.out]
      go_wp2_with fail
      refine HQ.mono ?_
      rintro x w3 ⟨rfl, m3, rfl⟩
      have k1' : (W0.drewN m3).cell? ⟨w.heap.size, 1, none⟩ = _ := k1
      have m1' : (W0.drewN m3).cell? ⟨w.heap.size + 1, 1, none⟩ = _ := m1
      go_wp2_with fail
      go_ret
      exact ⟨by rw [HF.out]; rfl, below_drewN z1 _⟩
  · rw [decide_eq_false hxy] at HQ
    have HF : Hid (R = false) := by unfold Hid; rw [← HR.out, decide_eq_false hxy]; rfl
    clear hxy HR
    go_upto_region 1 with fail
    rw [HW0.out]
    go_wp2_with fail
    refine HQ.mono ?_
    rintro x w3 ⟨rfl, m3, rfl⟩
    go_wp2_with fail
    go_ret
    exact ⟨by rw [HF.out]; rfl, below_drewN z1 _⟩
end Go.Proofs.Ytpfabbapfmfmmaa
