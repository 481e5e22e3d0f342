/- The document's Equals of layer 2. -/
import Derived.Test.YteepiifhmbcciaaG14
import Derived.Deep.QuietTactic
import Derived.Test.YteepiifhmbcciaaG25
import Derived.Test.YteepiifhmbcciaaG21
import Derived.Test.YteepiifhmbcciaaG22
import Derived.Test.YteepiifhmbcciaaG24
import Derived.Test.YteepiifhmbcciaaRows
import Derived.Test.YteepiifhmbcciaaG1
import Derived.WalkKit
import Derived.ProofKit
import Derived.OpenShut
import Derived.ChangeOld
import Derived.Below
import Derived.Lib.SmallJoins
import Derived.Test.YteepiifhmbcciaaG7
import Derived.Deep.Slices
import Derived.Deep.Fields
namespace Go.Proofs.Yteepiifhmbcciaa
open Go.RowKit

set_option maxRecDepth 100000 in
set_option maxHeartbeats 4000000 in
theorem refEqualsE (A B A2 B2 : Option Addr) (n c m e n2 c2 m2 e2 : Nat) (xs ys : List Int) (es fs : List Ent) (w : World) (h : CooV w A n B m xs es) (h2 : CooV w A2 n2 B2 m2 ys fs) (hn : n ≤ 100000) (hm : m ≤ 100000) (hn2 : n2 ≤ 9223372036854775807) (hm2 : m2 ≤ 9223372036854775807) (hes : ∀ x ∈ es, x.n ≤ 100000)
    (R : Bool) (HR : Hid ((decide (xs = ys) && decide (es.map keyV = fs.map keyV)) = R)) :
    Calls Try.prog 21 #[.agg #[.slice A n c, .slice B m e], .agg #[.slice A2 n2 c2, .slice B2 m2 e2]] w fun x w' => x = .returned (.bool R) ∧ Below w.heap.size w w' := by
  have HL : Hid (es.length = m) := h.2.1
  have HL2 : Hid (fs.length = m2) := h2.2.1
  have HES := Lib.hid hes
  have z0 := (Below.refl w.heap.size w).alloc (Nat.le_refl _) (.cells #[.slice A n c, .slice B m e] 36)
  have z1 := z0.alloc z0.size (.cells #[.slice A2 n2 c2, .slice B2 m2 e2] 36)
  have b1 := zf_two w (.cells #[.slice A n c, .slice B m e] 36) (.cells #[.slice A2 n2 c2, .slice B2 m2 e2] 36)
  have b2 := zf_snd w (.cells #[.slice A2 n2 c2, .slice B2 m2 e2] 36) (.cells #[.slice A n c, .slice B m e] 36)
  have v1 := h.below z1
  have v2 := h2.below z1
  obtain ⟨W0, hW0⟩ : ∃ W0, (w.alloc (.cells #[.slice A n c, .slice B m e] 36)).alloc (.cells #[.slice A2 n2 c2, .slice B2 m2 e2] 36) = W0 := ⟨_, rfl⟩
  rw [hW0] at z1 b1 b2 v1 v2
  have HW0 := Lib.hid hW0
  obtain ⟨k0, k1, _, _⟩ := pair_cells b1
  obtain ⟨m0, m1, _, _⟩ := pair_cells b2
  have HQ := refEqual_any A A2 n n2 c c2 xs ys W0 W0.heap.size v1.1 v2.1 hn hn2
  clear h h2 z0 hes hW0
  go_enter Try.func21, Try.ntmps21
  by_cases hxy : xs = ys
  · rw [decide_eq_true hxy] at HQ
    by_cases hmm : m = m2
    · subst hmm
      have e1 : ((m : Int) == (m : Int)) = true := by simp
      have e2 : ((m : Int) != (m : Int)) = false := by simp
      have HR2 : Hid (decide (es.map keyV = fs.map keyV) = R) := by unfold Hid; rw [← HR.out, decide_eq_true hxy]; simp
      have B1 := Lib.hid b1
      have B2 := Lib.hid b2
      clear hxy HR b1 b2
      go_upto_region 1 with fail
      rw [HW0.out]
      go_wp2_with fail
      refine HQ.mono ?_
      rintro x w3 ⟨rfl, m3, rfl⟩
      have k0' : (W0.drewN m3).cell? ⟨w.heap.size, 0, none⟩ = _ := k0
      have k1' : (W0.drewN m3).cell? ⟨w.heap.size, 1, none⟩ = _ := k1
      have m0' : (W0.drewN m3).cell? ⟨w.heap.size + 1, 0, none⟩ = _ := m0
      have m1' : (W0.drewN m3).cell? ⟨w.heap.size + 1, 1, none⟩ = _ := m1
      go_wp2_with fail
      go_loopw [25] (fun i wr => ∃ k : Nat, k ≤ m ∧ i = .int .i64 k ∧ Hid ((es.map keyV).take k = (fs.map keyV).take k) ∧ Below W0.heap.size W0 wr) (fun i _ => m - (intOf i).toNat)
      case atStart => exact ⟨0, Nat.zero_le _, rfl, by unfold Hid; simp, below_drewN (Below.refl _ _) _⟩
      case round =>
        obtain ⟨k, hk, rfl, HK, hbr⟩ := hrel
        clear k0 k1 m0 m1 k0' k1' m0' m1'
        by_cases hlt : k < m
        · have hszr := hbr.size
          have hsW := z1.size
          obtain ⟨b, off, y, hyA, hbb, HY, hc0, hc1, iy, hy1, hy2, hy3, hy4⟩ := (v1.below hbr).2.at_ hlt
          obtain ⟨b', off', u, huA, hbb', HU, hu0, hu1, iu, hu2, hu3, hu4, hu5⟩ := (v2.below hbr).2.at_ hlt
          subst hyA huA
          have hyn := HES.out y (List.mem_of_getElem? HY.out)
          have hc2 : wr.cell? ⟨b, off + k * 2, none⟩ = some (.slice y.A y.n y.c) := by rw [Nat.mul_comm k 2]; exact hc0
          have hc3 : wr.cell? ⟨b, off + k * 2 + 1, none⟩ = some (.int .i64 y.v) := by rw [Nat.mul_comm k 2]; exact hc1
          have hk0 : (0 : Int) ≤ k := by omega
          have hk1 : (k : Int) < m := by omega
          have hal := (Below.refl wr.heap.size wr).alloc (Nat.le_refl _) (.cells #[.slice y.A y.n y.c, .int .i64 y.v] 53)
          have bt := heap_alloc_new wr (.cells #[.slice y.A y.n y.c, .int .i64 y.v] 53)
          have r2 := (hal.block (w.heap.size + 1) (by have := lt_of_heap B2.out; omega)).trans ((hbr.block (w.heap.size + 1) (lt_of_heap B2.out)).trans B2.out)
          have g0 : (wr.alloc (.cells #[.slice y.A y.n y.c, .int .i64 y.v] 53)).cell? ⟨b', off' + k * 2, none⟩ = some (.slice u.A u.n u.c) := by rw [Nat.mul_comm k 2]; exact (hal.cell (p := ⟨b', off' + 2 * k, none⟩) hbb').trans hu0
          have g1 : (wr.alloc (.cells #[.slice y.A y.n y.c, .int .i64 y.v] 53)).cell? ⟨b', off' + k * 2 + 1, none⟩ = some (.int .i64 u.v) := by rw [Nat.mul_comm k 2]; exact (hal.cell (p := ⟨b', off' + 2 * k + 1, none⟩) hbb').trans hu1
          have iy2 := (iy.below hal).more hal.size
          have iu2 := (iu.below hal).more hal.size
          have hbt := hbr.trans (hal.mono hszr)
          obtain ⟨wt, hwt⟩ : ∃ wt, wr.alloc (.cells #[.slice y.A y.n y.c, .int .i64 y.v] 53) = wt := ⟨_, rfl⟩
          rw [hwt] at bt r2 g0 g1 iy2 iu2 hbt
          have HWT := Lib.hid hwt
          obtain ⟨t0, t1, _, _⟩ := pair_cells bt
          obtain ⟨s0, s1, _, _⟩ := pair_cells r2
          have HE := fun q : Nat => refEqual_any y.A u.A y.n u.n y.c u.c y.cs u.cs (wt.drewN q) wt.heap.size iy2 iu2 hyn hu2
          clear hal hwt bt r2 hc0 hc1 hu0 hu1 iy iu iy2 iu2
          by_cases hv : y.v = u.v
          · have d1 : (y.v == u.v) = true := by simpa using hv
            have d2 : (y.v != u.v) = false := by simpa using hv
            by_cases hcs : y.cs = u.cs
            · rw [decide_eq_true hcs] at HE
              have HN : Hid ((es.map keyV).take (k + 1) = (fs.map keyV).take (k + 1)) := by
                unfold Hid
                rw [take_succ_of (x := keyV y) (by rw [List.getElem?_map, HY.out]; rfl), take_succ_of (x := keyV u) (by rw [List.getElem?_map, HU.out]; rfl), HK.out]
                unfold keyV
                rw [hcs, hv]
              clear hv hcs
              go_upto_region 6 with fail
              rw [HWT.out]
              go_quiet ((go_at_call 23; exact Calls.quiet_of (HE _)))
              go_wp2_with fail
              go_roundw
              case rel => exact ⟨k + 1, by omega, by go_num, HN, below_drewN hbt _⟩
              case measure => simp [intOf]; omega
            · rw [decide_eq_false hcs] at HE
              have HF : Hid (R = false) := by
                unfold Hid
                rw [← HR2.out, decide_eq_false]
                intro e
                have := congrArg (fun l => l[k]?) e
                simp only [List.getElem?_map, HY.out, HU.out, Option.map_some, Option.some.injEq] at this
                exact hcs (congrArg Prod.fst this)
              clear hv hcs
              go_upto_region 6 with fail
              rw [HWT.out]
              go_quiet ((go_at_call 23; exact Calls.quiet_of (HE _)))
              go_wp2_with fail
              go_ret
              exact ⟨by rw [HF.out]; rfl, z1.trans ((below_drewN hbt _).mono z1.size)⟩
          · have d1 : (y.v == u.v) = false := by simpa using hv
            have d2 : (y.v != u.v) = true := by simpa using hv
            have HF : Hid (R = false) := by
              unfold Hid
              rw [← HR2.out, decide_eq_false]
              intro e
              have := congrArg (fun l => l[k]?) e
              simp only [List.getElem?_map, HY.out, HU.out, Option.map_some, Option.some.injEq] at this
              exact hv (congrArg Prod.snd this)
            clear hv HE
            go_upto_region 6 with fail
            rw [HWT.out]
            go_quiet (fail)
            go_wp2_with fail
            go_ret
            exact ⟨by rw [HF.out]; rfl, z1.trans ((below_drewN hbt _).mono z1.size)⟩
        · have HF : Hid (R = true) := by
            unfold Hid
            rw [← HR2.out, decide_eq_true]
            exact take_eq_of (n := m) (k := k) (by rw [List.length_map, HL.out]) (by rw [List.length_map, HL2.out]) (by omega) HK.out
          go_wp2_with fail
          go_ret
          exact ⟨by rw [HF.out]; rfl, z1.trans (hbr.mono z1.size)⟩
    · have HF : Hid (R = false) := by
        unfold Hid
        rw [← HR.out, decide_eq_false (p := es.map keyV = fs.map keyV), Bool.and_false]
        intro e
        have := congrArg List.length e
        rw [List.length_map, List.length_map, HL.out, HL2.out] at this
        exact hmm this
      have e1 : ((m : Int) == (m2 : Int)) = false := by simp; omega
      have e2 : ((m : Int) != (m2 : Int)) = true := by simp; omega
      clear hxy hmm HR
      go_upto_region 1 with fail
      rw [HW0.out]
      go_wp2_with fail
      refine HQ.mono ?_
      rintro x w3 ⟨rfl, m3, rfl⟩
      have k1' : (W0.drewN m3).cell? ⟨w.heap.size, 1, none⟩ = _ := k1
      have m1' : (W0.drewN m3).cell? ⟨w.heap.size + 1, 1, none⟩ = _ := m1
      go_wp2_with fail
      go_ret
      exact ⟨by rw [HF.out]; rfl, below_drewN z1 _⟩
  · rw [decide_eq_false hxy] at HQ
    have HF : Hid (R = false) := by unfold Hid; rw [← HR.out, decide_eq_false hxy]; rfl
    clear hxy HR
    go_upto_region 1 with fail
    rw [HW0.out]
    go_wp2_with fail
    refine HQ.mono ?_
    rintro x w3 ⟨rfl, m3, rfl⟩
    go_wp2_with fail
    go_ret
    exact ⟨by rw [HF.out]; rfl, below_drewN z1 _⟩
end Go.Proofs.Yteepiifhmbcciaa
/- purflelaw05.StoreReads returns true. -/
namespace Go.Proofs.Yteepiifhmbcciaa
open Go.RowKit Go.Sort

theorem SameLs.q {ls ls' : List Lv} (h : SameLs ls ls') : ls.map Lv.q = ls'.map Lv.q := by
  refine List.ext_getElem? fun j => ?_
  rw [List.getElem?_map, List.getElem?_map]
  by_cases hj : j < ls.length
  · obtain ⟨m, hm⟩ : ∃ m, ls[j]? = some m := ⟨_, List.getElem?_eq_getElem hj⟩
    obtain ⟨l, hl⟩ : ∃ l, ls'[j]? = some l := ⟨_, List.getElem?_eq_getElem (by rw [h.1]; exact hj)⟩
    rw [hm, hl]
    show some m.q = some l.q
    rw [(Lv.q_iff l m).2 (h.2 j l m hl hm)]
  · rw [List.getElem?_eq_none (by omega), List.getElem?_eq_none (by rw [h.1]; omega)]
theorem CopyI.eqT {w0 wr : World} {t : Ten} {g : Nat} {A1 A2 A3 A4 : Option Addr} {c1 c2 c3 c4 : Nat} {ls' : List Lv} {f : Nat → Nat} (h : CopyI w0 t g A1 c1 A2 c2 A3 c3 t.ln A4 c4 ls' f wr) (hl : t.ls.length = t.ln) : eqT t (copyT t A1 c1 A2 c2 A3 c3 A4 c4 ls') := by
  refine ⟨⟨rfl, rfl⟩, rfl, ?_⟩
  refine SameLs.q ⟨by rw [h.len, hl], fun j l m h1 h2 => ?_⟩
  obtain ⟨m', hm, h3, h4, _, _, h5, h6⟩ := h.rel j l h1
  rw [h2] at hm
  cases hm
  exact ⟨h3, h4, h5, h6⟩
/-- the two tensors' boxes -/
structure S5 (w W : World) (T O : Ten) : Prop where
  bel : Below w.heap.size w W
  bt : W.heap[w.heap.size]? = some T.obj
  bo : W.heap[w.heap.size + 1]? = some O.obj
theorem S5.below {w W W' : World} {T O : Ten} (h : S5 w W T O) (hb : Below W.heap.size W W') : S5 w W' T O := ⟨h.bel.trans (hb.mono h.bel.size), keep_b hb h.bt, keep_b hb h.bo⟩
theorem S5.start (w : World) (T O : Ten) : S5 w ((w.alloc T.obj).alloc O.obj) T O := by
  have z0 := lvBelow w T.obj
  refine ⟨z0.alloc z0.size _, zf_two w T.obj O.obj, ?_⟩
  have h := heap_alloc_new (w.alloc T.obj) O.obj
  rwa [World.size_alloc] at h

set_option maxRecDepth 100000 in
set_option maxHeartbeats 8000000 in
theorem storeReads_any (w : World) (T : Ten) (ht : TenR.In w w.heap.size T) (O : Ten) (ho : TenR.In w w.heap.size O) (Cc : Option Addr) (cn cc : Nat) (cs : List Int) (hc : Ints w w.heap.size Cc cn cs) (hcn : cn ≤ 9223372036854775807) :
    Calls Try.prog 3 #[T.val, O.val, .slice Cc cn cc] w fun r w' => r = .returned (.bool true) ∧ Below w.heap.size w w' := by
  have HS := Lib.hid (S5.start w T O)
  have HIT : Hid (∀ W, Below w.heap.size w W → TenR.In W W.heap.size T) := fun W hW => ht.on hW
  have HIO : Hid (∀ W, Below w.heap.size w W → TenR.In W W.heap.size O) := fun W hW => ho.on hW
  by_cases hf : fewT T
  case neg =>
    have HF : Hid (pB (fewT T) = false) := pB_f hf
    clear hf ht ho hc
    obtain ⟨w0, hw0⟩ : ∃ W, (w.alloc T.obj).alloc O.obj = W := ⟨_, rfl⟩
    rw [hw0] at HS
    go_enter Try.func3, Try.ntmps3
    go_wp2_with fail
    try rw [hw0]
    clear hw0
    refine (stLive_any _).mono ?_
    rintro x w1 ⟨rfl, hb⟩
    replace HS := Lib.hid (HS.out.below hb)
    clear hb
    obtain ⟨k0, k1, k2, k3, _⟩ := lvCells HS.out.bt
    go_wp2_with fail
    refine (refFew5_any T w1 (HIT.out _ HS.out.bel)).mono ?_
    rintro x w2 ⟨rfl, hb⟩
    replace HS := Lib.hid (HS.out.below hb)
    clear hb k0 k1 k2 k3
    rw [HF.out]
    go_wp2_with fail
    go_ret
    exact ⟨rfl, HS.out.bel⟩
  have HF : Hid (pB (fewT T) = true) := pB_t hf
  have HT : Hid (∀ W, Below w.heap.size w W → Ten.In W W.heap.size T) := fun W hW => (ht.on hW).ten hf
  by_cases hg : fewT O
  case neg =>
    have HG : Hid (pB (fewT O) = false) := pB_f hg
    clear hf hg ht ho hc
    obtain ⟨w0, hw0⟩ : ∃ W, (w.alloc T.obj).alloc O.obj = W := ⟨_, rfl⟩
    rw [hw0] at HS
    go_enter Try.func3, Try.ntmps3
    go_wp2_with fail
    try rw [hw0]
    clear hw0
    refine (stLive_any _).mono ?_
    rintro x w1 ⟨rfl, hb⟩
    replace HS := Lib.hid (HS.out.below hb)
    clear hb
    obtain ⟨k0, k1, k2, k3, _⟩ := lvCells HS.out.bt
    go_wp2_with fail
    refine (refFew5_any T w1 (HIT.out _ HS.out.bel)).mono ?_
    rintro x w2 ⟨rfl, hb⟩
    replace HS := Lib.hid (HS.out.below hb)
    clear hb k0 k1 k2 k3
    rw [HF.out]
    obtain ⟨k0, k1, k2, k3, _⟩ := lvCells HS.out.bo
    go_wp2_with fail
    refine (refFew5_any O w2 (HIO.out _ HS.out.bel)).mono ?_
    rintro x w3 ⟨rfl, hb⟩
    replace HS := Lib.hid (HS.out.below hb)
    clear hb k0 k1 k2 k3
    rw [HG.out]
    go_wp2_with fail
    go_ret
    exact ⟨rfl, HS.out.bel⟩
  have HG : Hid (pB (fewT O) = true) := pB_t hg
  have HO : Hid (∀ W, Below w.heap.size w W → Ten.In W W.heap.size O) := fun W hW => (ho.on hW).ten hg
  by_cases hcv : 20 < cn
  case pos =>
    have c1 : decide (20 < cn) = true := decide_eq_true hcv
    have c2 : decide (20 < (cn : Int)) = true := decide_eq_true (by omega)
    clear hf hg ht ho hc hcv
    obtain ⟨w0, hw0⟩ : ∃ W, (w.alloc T.obj).alloc O.obj = W := ⟨_, rfl⟩
    rw [hw0] at HS
    go_enter Try.func3, Try.ntmps3
    go_wp2_with fail
    try rw [hw0]
    clear hw0
    refine (stLive_any _).mono ?_
    rintro x w1 ⟨rfl, hb⟩
    replace HS := Lib.hid (HS.out.below hb)
    clear hb
    obtain ⟨k0, k1, k2, k3, _⟩ := lvCells HS.out.bt
    go_wp2_with fail
    refine (refFew5_any T w1 (HIT.out _ HS.out.bel)).mono ?_
    rintro x w2 ⟨rfl, hb⟩
    replace HS := Lib.hid (HS.out.below hb)
    clear hb k0 k1 k2 k3
    rw [HF.out]
    obtain ⟨k0, k1, k2, k3, _⟩ := lvCells HS.out.bo
    go_wp2_with fail
    refine (refFew5_any O w2 (HIO.out _ HS.out.bel)).mono ?_
    rintro x w3 ⟨rfl, hb⟩
    replace HS := Lib.hid (HS.out.below hb)
    clear hb k0 k1 k2 k3
    rw [HG.out]
    go_wp2_with fail
    go_ret
    exact ⟨rfl, HS.out.bel⟩
  have c1 : decide (20 < cn) = false := decide_eq_false hcv
  have c2 : decide (20 < (cn : Int)) = false := decide_eq_false (by omega)
  have HFT := Lib.hid hf
  have HFO := Lib.hid hg
  have hmx : Try.prog.follows .mixedOrders = true := by kernel_rfl
  have hn1 : T.n ≤ 20 := hf.1
  have hl1 : T.ln ≤ 40 := hf.2.2.1
  have hv1 : T.vn ≤ 3000 := hf.2.2.2.1
  have HXL : Hid (T.xs.length = T.n) := (ht.ten hf).shape.1
  have HLL : Hid (T.ls.length = T.ln) := (ht.ten hf).lvs.1
  have HC : Hid (∀ W, Below w.heap.size w W → Ints W W.heap.size Cc cn cs) := fun W hW => (hc.below hW).more hW.size
  have hcn2 : cn ≤ 20 := by omega
  clear hf hg ht ho hc hcv
  obtain ⟨w0, hw0⟩ : ∃ W, (w.alloc T.obj).alloc O.obj = W := ⟨_, rfl⟩
  rw [hw0] at HS
  go_enter Try.func3, Try.ntmps3
  go_wp2_with fail
  try rw [hw0]
  clear hw0
  refine (stLive_any _).mono ?_
  rintro x w1 ⟨rfl, hb⟩
  replace HS := Lib.hid (HS.out.below hb)
  clear hb
  obtain ⟨k0, k1, k2, k3, _⟩ := lvCells HS.out.bt
  go_wp2_with fail
  refine (refFew5_any T w1 (HIT.out _ HS.out.bel)).mono ?_
  rintro x w2 ⟨rfl, hb⟩
  replace HS := Lib.hid (HS.out.below hb)
  clear hb k0 k1 k2 k3
  rw [HF.out]
  obtain ⟨k0, k1, k2, k3, _⟩ := lvCells HS.out.bo
  go_wp2_with fail
  refine (refFew5_any O w2 (HIO.out _ HS.out.bel)).mono ?_
  rintro x w3 ⟨rfl, hb⟩
  replace HS := Lib.hid (HS.out.below hb)
  clear hb k0 k1 k2 k3
  rw [HG.out]
  obtain ⟨k0, k1, k2, k3, _⟩ := lvCells HS.out.bt
  go_wp2_with fail
  refine (refCopy5_any T w3 (HT.out _ HS.out.bel) HFT.out).mono ?_
  rintro x w4 ⟨g, A1, s1, A2, s2, A3, s3, A4, s4, ls', f, rfl, hC⟩
  have hb := hC.bel
  replace HS := Lib.hid (HS.out.below hb)
  have HCP := Lib.hid hC
  clear hb hC k0 k1 k2 k3
  obtain ⟨W4, hW4⟩ : ∃ W, w4.alloc (.cells #[.slice A1 T.n s1, .slice A2 T.fn s2, .slice A4 T.ln s4, .slice A3 T.vn s3] 27) = W := ⟨_, rfl⟩
  obtain ⟨gw, hgw⟩ : ∃ g, w4.heap.size = g := ⟨_, rfl⟩
  have hb : Below w4.heap.size w4 W4 := by rw [← hW4]; exact lvBelow _ _
  have HWB : Hid (W4.heap[gw]? = some (.cells #[.slice A1 T.n s1, .slice A2 T.fn s2, .slice A4 T.ln s4, .slice A3 T.vn s3] 27 (0, 0))) := by rw [← hW4, ← hgw]; exact heap_alloc_new _ _
  have HW4 := Lib.hid hW4
  replace HS := Lib.hid (HS.out.below hb)
  replace HCP := Lib.hid (HCP.out.below hb)
  clear hb hW4
  go_upto_region 5 with fail
  try rw [HW4.out]
  try rw [hgw]
  clear hgw HW4
  obtain ⟨k0, k1, k2, k3, _⟩ := lvCells HS.out.bt
  obtain ⟨q0, q1, q2, q3, _⟩ := lvCells HS.out.bo
  have cC := fun d os => Calls.regrown_of (w := W4) (stCheck_any T (grow (redrawn W4 d) os) (HT.out _ (HS.out.bel.trans ((below_regrown W4 d os).mono HS.out.bel.size))))
  have cD := fun d os => Calls.regrown_of (w := W4) (refCheck5_any T (grow (redrawn W4 d) os) (HT.out _ (HS.out.bel.trans ((below_regrown W4 d os).mono HS.out.bel.size))) HFT.out)
  have cS := fun d os => Calls.regrown_of (w := W4) (stSame_any T O (grow (redrawn W4 d) os) (HT.out _ (HS.out.bel.trans ((below_regrown W4 d os).mono HS.out.bel.size))) (HO.out _ (HS.out.bel.trans ((below_regrown W4 d os).mono HS.out.bel.size))) HFT.out)
  have cR := fun d os => Calls.regrown_of (w := W4) (refSame5_any T O (grow (redrawn W4 d) os) (HT.out _ (HS.out.bel.trans ((below_regrown W4 d os).mono HS.out.bel.size))) (HO.out _ (HS.out.bel.trans ((below_regrown W4 d os).mono HS.out.bel.size))) HFT.out HFO.out)
  have x0 := cell_regrown k0
  have x1 := cell_regrown k1
  have x2 := cell_regrown k2
  have x3 := cell_regrown k3
  have y0 := cell_regrown q0
  have y1 := cell_regrown q1
  have y2 := cell_regrown q2
  have y3 := cell_regrown q3
  refine wp_region_quiet_below hmx (by kernel_rfl) ?_
  repeat (quiet_step (first | (go_at_call 7; with_reducible exact cC _ _) | (go_at_call 8; with_reducible exact cD _ _) | (go_at_call 9; with_reducible exact cS _ _) | (go_at_call 10; with_reducible exact cR _ _)))
  refine wpQuiet_nil ?_
  intro _ hw'
  obtain ⟨⟨dq, osq⟩, hw''⟩ := hw'
  subst hw''
  have hb := below_regrown W4 dq osq
  obtain ⟨WA, hWA⟩ : ∃ W, grow (redrawn W4 dq) osq = W := ⟨_, rfl⟩
  rw [hWA] at hb ⊢
  replace HS := Lib.hid (HS.out.below hb)
  replace HCP := Lib.hid (HCP.out.below hb)
  replace HWB := Lib.hid (keep_b hb HWB.out)
  clear hb hWA k0 k1 k2 k3 q0 q1 q2 q3 x0 x1 x2 x3 y0 y1 y2 y3 cC cD cS cR
  have HRB : Hid (Below WA.heap.size WA WA) := Below.refl _ _
  have HSA := HS
  have HCPA := HCP
  have HWBA := HWB
  obtain ⟨k0, k1, k2, k3, _⟩ := lvCells HS.out.bt
  go_wp2_with fail
  refine (stReadU T WA (HT.out _ HS.out.bel) HFT.out).mono ?_
  rintro x w5 ⟨hb, A5, n5, c5, A6, n6, c6, Ts, rfl, hR⟩
  replace HS := Lib.hid (HS.out.below hb)
  replace HCP := Lib.hid (HCP.out.below hb)
  replace HWB := Lib.hid (keep_b hb HWB.out)
  replace HRB := Lib.hid (HRB.out.trans (hb.mono HRB.out.size))
  have HRA := Lib.hid hR
  clear hR
  clear hb k0 k1 k2 k3
  obtain ⟨W5, hW5⟩ : ∃ W, w5.alloc (.cells #[.slice A5 n5 c5, .slice A6 n6 c6] 36) = W := ⟨_, rfl⟩
  obtain ⟨ga, hga⟩ : ∃ g, w5.heap.size = g := ⟨_, rfl⟩
  have hb : Below w5.heap.size w5 W5 := by rw [← hW5]; exact lvBelow _ _
  have HBA : Hid (W5.heap[ga]? = some (.cells #[.slice A5 n5 c5, .slice A6 n6 c6] 36 (0, 0))) := by rw [← hW5, ← hga]; exact heap_alloc_new _ _
  have HW5 := Lib.hid hW5
  replace HS := Lib.hid (HS.out.below hb)
  replace HCP := Lib.hid (HCP.out.below hb)
  replace HWB := Lib.hid (keep_b hb HWB.out)
  replace HRB := Lib.hid (HRB.out.trans (hb.mono HRB.out.size))
  replace HRA := Lib.hid (HRA.out.below hb)
  clear hb hW5
  go_upto_region 8 with fail
  try rw [HW5.out]
  try rw [hga]
  clear hga HW5
  obtain ⟨k0, k1, k2, k3, _⟩ := lvCells HS.out.bt
  go_wp2_with fail
  refine (refReadU T W5 (HT.out _ HS.out.bel) HFT.out).mono ?_
  rintro x w6 ⟨hb, A7, n7, c7, A8, n8, c8, Us, rfl, hR⟩
  replace HS := Lib.hid (HS.out.below hb)
  replace HCP := Lib.hid (HCP.out.below hb)
  replace HWB := Lib.hid (keep_b hb HWB.out)
  replace HRB := Lib.hid (HRB.out.trans (hb.mono HRB.out.size))
  replace HRA := Lib.hid (HRA.out.below hb)
  replace HBA := Lib.hid (keep_b hb HBA.out)
  have HRR := Lib.hid hR
  clear hR
  clear hb k0 k1 k2 k3
  obtain ⟨W6, hW6⟩ : ∃ W, w6.alloc (.cells #[.slice A7 n7 c7, .slice A8 n8 c8] 36) = W := ⟨_, rfl⟩
  obtain ⟨gr, hgr⟩ : ∃ g, w6.heap.size = g := ⟨_, rfl⟩
  have hb : Below w6.heap.size w6 W6 := by rw [← hW6]; exact lvBelow _ _
  have HBR : Hid (W6.heap[gr]? = some (.cells #[.slice A7 n7 c7, .slice A8 n8 c8] 36 (0, 0))) := by rw [← hW6, ← hgr]; exact heap_alloc_new _ _
  have HW6 := Lib.hid hW6
  replace HS := Lib.hid (HS.out.below hb)
  replace HCP := Lib.hid (HCP.out.below hb)
  replace HWB := Lib.hid (keep_b hb HWB.out)
  replace HRB := Lib.hid (HRB.out.trans (hb.mono HRB.out.size))
  replace HRA := Lib.hid (HRA.out.below hb)
  replace HBA := Lib.hid (keep_b hb HBA.out)
  replace HRR := Lib.hid (HRR.out.below hb)
  clear hb hW6
  go_upto_region 9 with fail
  try rw [HW6.out]
  try rw [hgr]
  clear hgr HW6
  obtain ⟨k0, k1, k2, k3, _⟩ := lvCells HS.out.bt
  go_wp2_with fail
  refine (stDenseU T W6 (HT.out _ HS.out.bel) HFT.out).mono ?_
  rintro x w7 ⟨hb, A9, n9, c9, B9, m9, e9, rfl, hR, b9, d9⟩
  replace HS := Lib.hid (HS.out.below hb)
  replace HCP := Lib.hid (HCP.out.below hb)
  replace HWB := Lib.hid (keep_b hb HWB.out)
  replace HRB := Lib.hid (HRB.out.trans (hb.mono HRB.out.size))
  replace HRA := Lib.hid (HRA.out.below hb)
  replace HBA := Lib.hid (keep_b hb HBA.out)
  replace HRR := Lib.hid (HRR.out.below hb)
  replace HBR := Lib.hid (keep_b hb HBR.out)
  have HDA := Lib.hid hR
  clear hR
  clear hb k0 k1 k2 k3
  obtain ⟨W7, hW7⟩ : ∃ W, w7.alloc (.cells #[.slice A9 n9 c9, .slice B9 m9 e9] 40) = W := ⟨_, rfl⟩
  obtain ⟨gx, hgx⟩ : ∃ g, w7.heap.size = g := ⟨_, rfl⟩
  have hb : Below w7.heap.size w7 W7 := by rw [← hW7]; exact lvBelow _ _
  have HBX : Hid (W7.heap[gx]? = some (.cells #[.slice A9 n9 c9, .slice B9 m9 e9] 40 (0, 0))) := by rw [← hW7, ← hgx]; exact heap_alloc_new _ _
  have HW7 := Lib.hid hW7
  replace HS := Lib.hid (HS.out.below hb)
  replace HCP := Lib.hid (HCP.out.below hb)
  replace HWB := Lib.hid (keep_b hb HWB.out)
  replace HRB := Lib.hid (HRB.out.trans (hb.mono HRB.out.size))
  replace HRA := Lib.hid (HRA.out.below hb)
  replace HBA := Lib.hid (keep_b hb HBA.out)
  replace HRR := Lib.hid (HRR.out.below hb)
  replace HBR := Lib.hid (keep_b hb HBR.out)
  replace HDA := Lib.hid (HDA.out.below hb)
  clear hb hW7
  go_upto_region 10 with fail
  try rw [HW7.out]
  try rw [hgx]
  clear hgx HW7
  obtain ⟨k0, k1, k2, k3, _⟩ := lvCells HS.out.bt
  go_wp2_with fail
  refine (refDenseU T W7 (HT.out _ HS.out.bel) HFT.out).mono ?_
  rintro x w8 ⟨hb, AA, nA, cA, BA, mA, eA, rfl, hR, bA, dA⟩
  replace HS := Lib.hid (HS.out.below hb)
  replace HCP := Lib.hid (HCP.out.below hb)
  replace HWB := Lib.hid (keep_b hb HWB.out)
  replace HRB := Lib.hid (HRB.out.trans (hb.mono HRB.out.size))
  replace HRA := Lib.hid (HRA.out.below hb)
  replace HBA := Lib.hid (keep_b hb HBA.out)
  replace HRR := Lib.hid (HRR.out.below hb)
  replace HBR := Lib.hid (keep_b hb HBR.out)
  replace HDA := Lib.hid (HDA.out.below hb)
  replace HBX := Lib.hid (keep_b hb HBX.out)
  have HDR := Lib.hid hR
  clear hR
  clear hb k0 k1 k2 k3
  obtain ⟨W8, hW8⟩ : ∃ W, w8.alloc (.cells #[.slice AA nA cA, .slice BA mA eA] 40) = W := ⟨_, rfl⟩
  obtain ⟨gy, hgy⟩ : ∃ g, w8.heap.size = g := ⟨_, rfl⟩
  have hb : Below w8.heap.size w8 W8 := by rw [← hW8]; exact lvBelow _ _
  have HBY : Hid (W8.heap[gy]? = some (.cells #[.slice AA nA cA, .slice BA mA eA] 40 (0, 0))) := by rw [← hW8, ← hgy]; exact heap_alloc_new _ _
  have HW8 := Lib.hid hW8
  replace HS := Lib.hid (HS.out.below hb)
  replace HCP := Lib.hid (HCP.out.below hb)
  replace HWB := Lib.hid (keep_b hb HWB.out)
  replace HRB := Lib.hid (HRB.out.trans (hb.mono HRB.out.size))
  replace HRA := Lib.hid (HRA.out.below hb)
  replace HBA := Lib.hid (keep_b hb HBA.out)
  replace HRR := Lib.hid (HRR.out.below hb)
  replace HBR := Lib.hid (keep_b hb HBR.out)
  replace HDA := Lib.hid (HDA.out.below hb)
  replace HBX := Lib.hid (keep_b hb HBX.out)
  replace HDR := Lib.hid (HDR.out.below hb)
  clear hb hW8
  go_upto_region 11 with fail
  try rw [HW8.out]
  try rw [hgy]
  clear hgy HW8
  obtain ⟨k0, k1, k2, k3, _⟩ := lvCells HS.out.bt
  go_wp2_with fail
  refine (stGetU T W8 (HT.out _ HS.out.bel) Cc cn cc cs (HC.out _ HS.out.bel) hcn2).mono ?_
  rintro x w9 ⟨gv, gb, ge, rfl, hgt, hb⟩
  replace HS := Lib.hid (HS.out.below hb)
  replace HCP := Lib.hid (HCP.out.below hb)
  replace HWB := Lib.hid (keep_b hb HWB.out)
  replace HRB := Lib.hid (HRB.out.trans (hb.mono HRB.out.size))
  replace HRA := Lib.hid (HRA.out.below hb)
  replace HBA := Lib.hid (keep_b hb HBA.out)
  replace HRR := Lib.hid (HRR.out.below hb)
  replace HBR := Lib.hid (keep_b hb HBR.out)
  replace HDA := Lib.hid (HDA.out.below hb)
  replace HBX := Lib.hid (keep_b hb HBX.out)
  replace HDR := Lib.hid (HDR.out.below hb)
  replace HBY := Lib.hid (keep_b hb HBY.out)
  have HGT := Lib.hid hgt
  clear hgt
  clear hb k0 k1 k2 k3
  obtain ⟨k0, k1, k2, k3, _⟩ := lvCells HS.out.bt
  go_wp2_with fail
  refine (refGetU T w9 (HT.out _ HS.out.bel) HFT.out Cc cn cc cs (HC.out _ HS.out.bel) hcn2).mono ?_
  rintro x w10 ⟨gv2, gb2, ge2, rfl, hgt, hb⟩
  replace HS := Lib.hid (HS.out.below hb)
  replace HCP := Lib.hid (HCP.out.below hb)
  replace HWB := Lib.hid (keep_b hb HWB.out)
  replace HRB := Lib.hid (HRB.out.trans (hb.mono HRB.out.size))
  replace HRA := Lib.hid (HRA.out.below hb)
  replace HBA := Lib.hid (keep_b hb HBA.out)
  replace HRR := Lib.hid (HRR.out.below hb)
  replace HBR := Lib.hid (keep_b hb HBR.out)
  replace HDA := Lib.hid (HDA.out.below hb)
  replace HBX := Lib.hid (keep_b hb HBX.out)
  replace HDR := Lib.hid (HDR.out.below hb)
  replace HBY := Lib.hid (keep_b hb HBY.out)
  obtain ⟨rfl, rfl, rfl⟩ := gt_inj HGT.out hgt
  clear hgt HGT
  clear hb k0 k1 k2 k3
  obtain ⟨k0, k1, k2, k3, _⟩ := lvCells HS.out.bt
  go_wp2_with fail
  refine (stCountsU T w10 (HT.out _ HS.out.bel) HFT.out).mono ?_
  rintro x w11 ⟨hb, AC, nC, cC, rfl, hR, bC⟩
  replace HS := Lib.hid (HS.out.below hb)
  replace HCP := Lib.hid (HCP.out.below hb)
  replace HWB := Lib.hid (keep_b hb HWB.out)
  replace HRB := Lib.hid (HRB.out.trans (hb.mono HRB.out.size))
  replace HRA := Lib.hid (HRA.out.below hb)
  replace HBA := Lib.hid (keep_b hb HBA.out)
  replace HRR := Lib.hid (HRR.out.below hb)
  replace HBR := Lib.hid (keep_b hb HBR.out)
  replace HDA := Lib.hid (HDA.out.below hb)
  replace HBX := Lib.hid (keep_b hb HBX.out)
  replace HDR := Lib.hid (HDR.out.below hb)
  replace HBY := Lib.hid (keep_b hb HBY.out)
  have HCA := Lib.hid hR
  clear hR
  clear hb k0 k1 k2 k3
  obtain ⟨k0, k1, k2, k3, _⟩ := lvCells HS.out.bt
  go_wp2_with fail
  refine (refCountsU T w11 (HT.out _ HS.out.bel) HFT.out).mono ?_
  rintro x w12 ⟨hb, AD, nD, cD, rfl, hR, bD⟩
  replace HS := Lib.hid (HS.out.below hb)
  replace HCP := Lib.hid (HCP.out.below hb)
  replace HWB := Lib.hid (keep_b hb HWB.out)
  replace HRB := Lib.hid (HRB.out.trans (hb.mono HRB.out.size))
  replace HRA := Lib.hid (HRA.out.below hb)
  replace HBA := Lib.hid (keep_b hb HBA.out)
  replace HRR := Lib.hid (HRR.out.below hb)
  replace HBR := Lib.hid (keep_b hb HBR.out)
  replace HDA := Lib.hid (HDA.out.below hb)
  replace HBX := Lib.hid (keep_b hb HBX.out)
  replace HDR := Lib.hid (HDR.out.below hb)
  replace HBY := Lib.hid (keep_b hb HBY.out)
  replace HCA := Lib.hid ((HCA.out.below hb).more hb.size)
  have HCR := Lib.hid hR
  clear hR
  clear hb k0 k1 k2 k3
  obtain ⟨k0, k1, k2, k3, _⟩ := lvCells HS.out.bt
  go_wp2_with fail
  refine (stEmptyU T w12 (HT.out _ HS.out.bel)).mono ?_
  rintro x w13 ⟨rfl, hb⟩
  replace HS := Lib.hid (HS.out.below hb)
  replace HCP := Lib.hid (HCP.out.below hb)
  replace HWB := Lib.hid (keep_b hb HWB.out)
  replace HRB := Lib.hid (HRB.out.trans (hb.mono HRB.out.size))
  replace HRA := Lib.hid (HRA.out.below hb)
  replace HBA := Lib.hid (keep_b hb HBA.out)
  replace HRR := Lib.hid (HRR.out.below hb)
  replace HBR := Lib.hid (keep_b hb HBR.out)
  replace HDA := Lib.hid (HDA.out.below hb)
  replace HBX := Lib.hid (keep_b hb HBX.out)
  replace HDR := Lib.hid (HDR.out.below hb)
  replace HBY := Lib.hid (keep_b hb HBY.out)
  replace HCA := Lib.hid ((HCA.out.below hb).more hb.size)
  replace HCR := Lib.hid ((HCR.out.below hb).more hb.size)
  clear hb k0 k1 k2 k3
  obtain ⟨k0, k1, k2, k3, _⟩ := lvCells HS.out.bt
  go_wp2_with fail
  refine (refEmptyU T w13 (HT.out _ HS.out.bel) HFT.out).mono ?_
  rintro x w14 ⟨rfl, hb⟩
  replace HS := Lib.hid (HS.out.below hb)
  replace HCP := Lib.hid (HCP.out.below hb)
  replace HWB := Lib.hid (keep_b hb HWB.out)
  replace HRB := Lib.hid (HRB.out.trans (hb.mono HRB.out.size))
  replace HRA := Lib.hid (HRA.out.below hb)
  replace HBA := Lib.hid (keep_b hb HBA.out)
  replace HRR := Lib.hid (HRR.out.below hb)
  replace HBR := Lib.hid (keep_b hb HBR.out)
  replace HDA := Lib.hid (HDA.out.below hb)
  replace HBX := Lib.hid (keep_b hb HBX.out)
  replace HDR := Lib.hid (HDR.out.below hb)
  replace HBY := Lib.hid (keep_b hb HBY.out)
  replace HCA := Lib.hid ((HCA.out.below hb).more hb.size)
  replace HCR := Lib.hid ((HCR.out.below hb).more hb.size)
  clear hb k0 k1 k2 k3
  obtain ⟨a0, a1, _, _⟩ := pair_cells HBA.out
  obtain ⟨b0, b1, _, _⟩ := pair_cells HBR.out
  have hQ1 := refEqualsE A5 A6 A7 A8 n5 c5 n6 c6 n7 c7 n8 c8 (rdS T) (rdS T) Ts Us w14 HRA.out.coo HRR.out.coo HRA.out.n1b HRA.out.n3b (by have := HRR.out.n1b; omega) (by have := HRR.out.n3b; omega) (fun x hx => (HRA.out.pl x hx).2) true (by unfold Hid; rw [decide_eq_true rfl, decide_eq_true (keyV_key (HRA.out.key.trans HRR.out.key.symm))]; rfl)
  go_upto_region 17 with fail
  go_wp2_with fail
  refine hQ1.mono ?_
  rintro x w15 ⟨rfl, hb⟩
  replace HS := Lib.hid (HS.out.below hb)
  replace HCP := Lib.hid (HCP.out.below hb)
  replace HWB := Lib.hid (keep_b hb HWB.out)
  replace HRB := Lib.hid (HRB.out.trans (hb.mono HRB.out.size))
  replace HRA := Lib.hid (HRA.out.below hb)
  replace HBA := Lib.hid (keep_b hb HBA.out)
  replace HRR := Lib.hid (HRR.out.below hb)
  replace HBR := Lib.hid (keep_b hb HBR.out)
  replace HDA := Lib.hid (HDA.out.below hb)
  replace HBX := Lib.hid (keep_b hb HBX.out)
  replace HDR := Lib.hid (HDR.out.below hb)
  replace HBY := Lib.hid (keep_b hb HBY.out)
  replace HCA := Lib.hid ((HCA.out.below hb).more hb.size)
  replace HCR := Lib.hid ((HCR.out.below hb).more hb.size)
  clear hb hQ1 a0 a1 b0 b1
  obtain ⟨a0, a1, _, _⟩ := pair_cells HBX.out
  obtain ⟨b0, b1, _, _⟩ := pair_cells HBY.out
  have hQ2 := equals_any A9 B9 AA BA n9 c9 m9 e9 nA cA mA eA (dnS T) (dnV T) (dnS T) (dnV T) w15 HDA.out.1 HDA.out.2 HDR.out.1 HDR.out.2 b9 d9 (by omega) (by omega)
  rw [decide_eq_true rfl, decide_eq_true rfl] at hQ2
  go_wp2_with fail
  refine hQ2.mono ?_
  rintro x w16 ⟨rfl, hb⟩
  replace HS := Lib.hid (HS.out.below hb)
  replace HCP := Lib.hid (HCP.out.below hb)
  replace HWB := Lib.hid (keep_b hb HWB.out)
  replace HRB := Lib.hid (HRB.out.trans (hb.mono HRB.out.size))
  replace HRA := Lib.hid (HRA.out.below hb)
  replace HBA := Lib.hid (keep_b hb HBA.out)
  replace HRR := Lib.hid (HRR.out.below hb)
  replace HBR := Lib.hid (keep_b hb HBR.out)
  replace HDA := Lib.hid (HDA.out.below hb)
  replace HBX := Lib.hid (keep_b hb HBX.out)
  replace HDR := Lib.hid (HDR.out.below hb)
  replace HBY := Lib.hid (keep_b hb HBY.out)
  replace HCA := Lib.hid ((HCA.out.below hb).more hb.size)
  replace HCR := Lib.hid ((HCR.out.below hb).more hb.size)
  clear hb hQ2 a0 a1 b0 b1
  have hQ3 := eqG5 AC AD nC nD cC cD (ctL T) (ctL T) w16 HCA.out HCR.out bC (by omega)
  rw [decide_eq_true rfl] at hQ3
  go_wp2_with fail
  refine hQ3.mono ?_
  rintro x w17 ⟨rfl, hb⟩
  replace HS := Lib.hid (HS.out.below hb)
  replace HCP := Lib.hid (HCP.out.below hb)
  replace HWB := Lib.hid (keep_b hb HWB.out)
  replace HRB := Lib.hid (HRB.out.trans (hb.mono HRB.out.size))
  replace HRA := Lib.hid (HRA.out.below hb)
  replace HBA := Lib.hid (keep_b hb HBA.out)
  replace HRR := Lib.hid (HRR.out.below hb)
  replace HBR := Lib.hid (keep_b hb HBR.out)
  replace HDA := Lib.hid (HDA.out.below hb)
  replace HBX := Lib.hid (keep_b hb HBX.out)
  replace HDR := Lib.hid (HDR.out.below hb)
  replace HBY := Lib.hid (keep_b hb HBY.out)
  replace HCA := Lib.hid ((HCA.out.below hb).more hb.size)
  replace HCR := Lib.hid ((HCR.out.below hb).more hb.size)
  clear hb hQ3
  obtain ⟨a0, a1, _, _⟩ := pair_cells HBA.out
  go_wp2_with fail
  clear a0 a1
  have HWR := Lib.hid HRA.out.wr
  have hn6 : n6 ≤ 100000 := HRA.out.n3b
  obtain ⟨wt, hwt⟩ : ∃ W : World, W = w17 := ⟨_, rfl⟩
  subst hwt
  have HY1 := Lib.hid (pair_cells HBA.out).2.1
  go_loopw [177] (fun i wr => ∃ k : Nat, k ≤ n6 ∧ i = .int .i64 k ∧ Hid (Num wt wr) ∧ Hid (Below WA.heap.size wt wr)) (fun i _ => n6 - (intOf i).toNat)
  case atStart => exact ⟨0, Nat.zero_le _, rfl, Num.refl _, Below.refl _ _⟩
  case round =>
    obtain ⟨k, hk, rfl, HN, HB⟩ := hrel
    obtain ⟨wo, rfl⟩ : ∃ wo : World, wo = wr := ⟨_, rfl⟩
    by_cases hkn : k < n6
    · obtain ⟨x, hx⟩ : ∃ x, Ts[k]? = some x := ⟨_, List.getElem?_eq_getElem (by rw [HWR.out.1]; exact hkn)⟩
      obtain ⟨b, off, hBz, hc0, _⟩ := HWR.out.2.2 k x hx
      have HXM := Lib.hid (HWR.out.2.1 x (List.mem_of_getElem? hx))
      have hxn := HXM.out.1
      have HC0 := Lib.hid hc0
      have y1 := HN.out.other _ _ HY1.out slice_ne
      have x0 : wo.cell? ⟨b, off + k * 2, none⟩ = some (.slice x.A x.n x.c) := by rw [Nat.mul_comm k 2]; exact HN.out.other _ _ hc0 slice_ne
      have HBZ := Lib.hid hBz
      rw [hBz] at y1
      have hk1 : (k : Int) < (n6 : Int) := by omega
      have hk0 : (0 : Int) ≤ (k : Int) := by omega
      clear hBz hc0 hx
      go_wp2_with fail
      clear y1 x0
      go_loopw [187] (fun i wr => ∃ q : Nat, q ≤ x.n ∧ i = .int .i64 q ∧ Hid (Num wt wr) ∧ Hid (Below WA.heap.size wt wr)) (fun i _ => x.n - (intOf i).toNat)
      case atStart => exact ⟨0, Nat.zero_le _, rfl, HN, HB⟩
      case round =>
        obtain ⟨wv, rfl⟩ : ∃ wv : World, wv = wr := ⟨_, rfl⟩
        obtain ⟨q, hq, rfl, HN4, HB4⟩ := hrel
        by_cases hqn : q < x.n
        · obtain ⟨bq, oq, hxA, hIq⟩ := HXM.out.2 q hqn
          obtain ⟨hbq, ⟨t, ht⟩, hft⟩ := hIq.num HN4.out
          have y1 := HN4.out.other _ _ HY1.out slice_ne
          rw [HBZ.out] at y1
          have x0 : wv.cell? ⟨b, off + k * 2, none⟩ = some (.slice x.A x.n x.c) := by rw [Nat.mul_comm k 2]; exact HN4.out.other _ _ HC0.out slice_ne
          rw [hxA] at x0
          obtain ⟨u2, hu2⟩ : ∃ u, IntKind.i64.wrap (t + 1) = u := ⟨_, rfl⟩
          have hq1 : (q : Int) < (x.n : Int) := by omega
          have hq0 : (0 : Int) ≤ (q : Int) := by omega
          have o1 := Lib.hid (HN4.out.set ht u2)
          have o3 := Lib.hid (HB4.out.setCell (p := ⟨bq, oq + q, none⟩) hbq (.int .i64 u2))
          clear hxA hIq
          go_wp2_with fail
          go_roundw
          case rel => exact ⟨q + 1, by omega, by go_num, o1, o3⟩
          case measure => simp [intOf]; omega
        · have dq : decide ((q : Int) < (x.n : Int)) = false := by simp; omega
          have dq2 : decide (q < x.n) = false := by simp; omega
          go_wp2_with fail
          go_roundw
          case rel => exact ⟨k + 1, by omega, by go_num, HN4, HB4⟩
          case measure => simp [intOf]; omega
    · have dk : decide ((k : Int) < (n6 : Int)) = false := by simp; omega
      have dk2 : decide (k < n6) = false := by simp; omega
      have hfin := HRB.out.trans HB.out
      have HSF := Lib.hid (HSA.out.below hfin)
      have HCF := Lib.hid (HCPA.out.below hfin)
      have HWF := Lib.hid (keep_b hfin HWBA.out)
      obtain ⟨k0, k1, k2, k3, _⟩ := lvCells HSF.out.bt
      obtain ⟨q0, q1, q2, q3, _⟩ := lvCells HWF.out
      have hEQ := refEq5_any T (copyT T A1 s1 A2 s2 A3 s3 A4 s4 ls') wo (HT.out _ HSF.out.bel) (HCF.out.in_ (HT.out _ HSF.out.bel) rfl) HFT.out
      unfold EqTPost at hEQ
      rw [pB_t (HCF.out.eqT HLL.out)] at hEQ
      clear hfin
      go_wp2_with fail
      refine hEQ.mono ?_
      rintro x w99 ⟨rfl, hb⟩
      have HSG := Lib.hid (HSF.out.below hb)
      clear hb hEQ k0 k1 k2 k3 q0 q1 q2 q3
      go_wp2_with fail
      go_ret
      exact ⟨rfl, HSG.out.bel⟩
end Go.Proofs.Yteepiifhmbcciaa
/- How the arguments of the statements read: slices of integers, dense tensors, integers. -/
namespace Go.Proofs.Yteepiifhmbcciaa
open Go.ChangeShapes Go.WideShapes Go.ChangeAt Go.RowKit

set_option maxRecDepth 100000 in
theorem own : ownKnob Try.prog.godebug = none := by kernel_rfl
set_option maxRecDepth 100000 in
theorem laidOut : laidOutB Try.prog = true := by kernel_rfl

theorem lt_of_cell {w : World} {a : Addr} {v : Value} (h : w.cell? a = some v) : a.block < w.heap.size := by
  rcases Nat.lt_or_ge a.block w.heap.size with hlt | hge
  · exact hlt
  · have : w.heap[a.block]? = none := Array.getElem?_eq_none hge
    simp [World.cell?, this] at h

theorem wf_bounds {n : Int} (h : (Lit.int .i64 n).wf = true) : -9223372036854775808 ≤ n ∧ n ≤ 9223372036854775807 := by
  simp [Lit.wf, IntKind.min, IntKind.max, IntKind.signed, IntKind.bits] at h
  omega

theorem ints_of_row {w : World} {x : Addr} {len : Nat} {zs : List Int} (hz : len ≤ zs.length) (hcell : ∀ i, i < zs.length → w.cell? (x.add i) = some (.int .i64 (zs.getD i 0))) (hwz : ∀ n ∈ zs, (Lit.int .i64 n).wf = true) :
    Ints w w.heap.size (some x) len (zs.take len) := by
  refine ⟨by rw [List.length_take]; omega, fun n hn => wf_bounds (hwz n (List.mem_of_mem_take hn)), fun h0 => ?_⟩
  obtain ⟨b, off, spot⟩ := x
  have hc := hcell 0 (by omega)
  have hspot : spot = none := by simpa [Addr.add] using World.cell?_spot hc
  subst hspot
  have hlt : b < w.heap.size := by have := lt_of_cell hc; simpa [Addr.add] using this
  refine ⟨b, off, rfl, hlt, fun k y hy => ?_⟩
  have hk : k < len := by have := (List.getElem?_eq_some_iff.1 hy).1; rw [List.length_take] at this; omega
  have h1 := hcell k (by omega)
  have h2 : zs.getD k 0 = y := by
    rw [List.getElem?_take, if_pos hk] at hy
    simp [List.getD, hy]
  rw [h2] at h1
  by_cases hk0 : k = 0
  · subst hk0; simpa [Addr.add] using h1
  · simpa [Addr.add, hk0] using h1

section
variable {H : Type} {enc : TypeId × Value → H} {w : World} {base : Nat} {spare : Nat → Bool} {held : Bool}
/-- a []int, or a []int64, that came in -/
theorem open_nums {t e : TypeId} {v : Value} {d : DataW H} {p : List MemPlace} (ht : Try.prog.underlying t = some (.slice e)) (he : Try.prog.underlying e = some (.int .i64)) (hC : Try.prog.cellsOf e = 1) (hf : ∃ a n c, v = .slice a n c) (h : DataW.Trod enc Try.prog w base spare held t v d p) :
    ∃ A n c xs, v = .slice A n c ∧ Ints w w.heap.size A n xs ∧ n ≤ 9223372036854775807 := by
  obtain ⟨a0, len0, cap0, rfl⟩ := hf
  obtain ⟨fuel, hf⟩ := h
  rcases open_ints ht he hC hf with ⟨hcs, _⟩ | ⟨x, l, c, zs, hcs, _, hl, hm, hz, _, hcell, hwz⟩
  · simp [Value.cells] at hcs
    obtain ⟨rfl, rfl, rfl⟩ := hcs
    exact ⟨none, 0, 0, [], rfl, Ints.nil_, by omega⟩
  · simp [Value.cells] at hcs
    obtain ⟨rfl, rfl, rfl⟩ := hcs
    have hz' : len0 ≤ zs.length := by split at hz <;> omega
    refine ⟨_, _, _, _, rfl, ints_of_row hz' hcell hwz, ?_⟩
    unfold maxLen at hm
    omega
set_option maxRecDepth 100000 in
/-- an api.Dense that came in -/
theorem open_dense {r : Reach} {b0 : Nat} {v : Value} {d : DataW H} {p : List MemPlace} (hv : Value.okWide Try.prog w r b0 40 v) (h : DataW.Trod enc Try.prog w base spare held 40 v d p) :
    ∃ A n c B m e xs ys, v = .agg #[.slice A n c, .slice B m e] ∧ Ints w w.heap.size A n xs ∧ n ≤ 9223372036854775807 ∧ Ints w w.heap.size B m ys ∧ m ≤ 9223372036854775807 := by
  obtain ⟨v0, v1, y0, y1, k, rfl, _, _, h0, h1⟩ := Go.Joins.open_agg2 Try.underlying40 (by kernel_rfl) (by kernel_rfl) hv h
  obtain ⟨a0, l0, c0, e0⟩ := Go.Joins.slice_form Try.underlying22 h0
  obtain ⟨a1, l1, c1, e1⟩ := Go.Joins.slice_form Try.underlying25 h1
  simp only [List.cons.injEq, and_true] at e0 e1
  have t0 : DataW.Trod enc Try.prog w base spare held 22 v0 y0.1 y0.2 := ⟨k, by rw [e0] at h0 ⊢; exact h0⟩
  have t1 : DataW.Trod enc Try.prog w base spare held 25 v1 y1.1 y1.2 := ⟨k, by rw [e1] at h1 ⊢; exact h1⟩
  obtain ⟨A, n, c, xs, f0, i0, b0⟩ := open_nums Try.underlying22 Try.underlying3 (by kernel_rfl) ⟨_, _, _, e0⟩ t0
  obtain ⟨B, m, e, ys, f1, i1, b1⟩ := open_nums Try.underlying25 Try.underlying2 (by kernel_rfl) ⟨_, _, _, e1⟩ t1
  exact ⟨A, n, c, B, m, e, xs, ys, by rw [f0, f1], i0, b0, i1, b1⟩
end
end Go.Proofs.Yteepiifhmbcciaa
/- How a slice of integers that came in reads, with its room. -/
namespace Go.Proofs.Yteepiifhmbcciaa
open Go.ChangeShapes Go.WideShapes Go.ChangeAt Go.RowKit

section
variable {H : Type} {enc : TypeId × Value → H} {w : World} {base : Nat} {spare : Nat → Bool} {held : Bool}
/-- the same, and its room -/
theorem open_numsc {t e : TypeId} {v : Value} {d : DataW H} {p : List MemPlace} (ht : Try.prog.underlying t = some (.slice e)) (he : Try.prog.underlying e = some (.int .i64)) (hC : Try.prog.cellsOf e = 1) (hf : ∃ a n c, v = .slice a n c) (h : DataW.Trod enc Try.prog w base spare held t v d p) :
    ∃ A n c xs, v = .slice A n c ∧ Ints w w.heap.size A n xs ∧ n ≤ 9223372036854775807 ∧ n ≤ c := by
  obtain ⟨a0, len0, cap0, rfl⟩ := hf
  obtain ⟨fuel, hf⟩ := h
  rcases open_ints ht he hC hf with ⟨hcs, _⟩ | ⟨x, l, c, zs, hcs, _, hl, hm, hz, _, hcell, hwz⟩
  · simp [Value.cells] at hcs
    obtain ⟨rfl, rfl, rfl⟩ := hcs
    exact ⟨none, 0, 0, [], rfl, Ints.nil_, by omega, Nat.le_refl _⟩
  · simp [Value.cells] at hcs
    obtain ⟨rfl, rfl, rfl⟩ := hcs
    have hz' : len0 ≤ zs.length := by split at hz <;> omega
    refine ⟨_, _, _, _, rfl, ints_of_row hz' hcell hwz, ?_, hl⟩
    unfold maxLen at hm
    omega
end
end Go.Proofs.Yteepiifhmbcciaa
/- How a tensor that came in reads, with the room of its shape and of its cells. -/
namespace Go.Proofs.Yteepiifhmbcciaa
open Go.ChangeShapes Go.WideShapes Go.ChangeAt Go.RowKit

section
variable {H : Type} {enc : TypeId × Value → H} {w : World} {base : Nat} {spare : Nat → Bool} {held : Bool}
set_option maxRecDepth 100000 in
theorem open_densee {r : Reach} {b0 : Nat} {v : Value} {d : DataW H} {p : List MemPlace} (hv : Value.okWide Try.prog w r b0 40 v) (h : DataW.Trod enc Try.prog w base spare held 40 v d p) :
    ∃ A n c B m e xs ys, v = .agg #[.slice A n c, .slice B m e] ∧ Ints w w.heap.size A n xs ∧ n ≤ 9223372036854775807 ∧ Ints w w.heap.size B m ys ∧ m ≤ 9223372036854775807 ∧ n ≤ c ∧ m ≤ e := by
  obtain ⟨v0, v1, y0, y1, k, rfl, _, _, h0, h1⟩ := Go.Joins.open_agg2 Try.underlying40 (by kernel_rfl) (by kernel_rfl) hv h
  obtain ⟨a0, l0, c0, e0⟩ := Go.Joins.slice_form Try.underlying22 h0
  obtain ⟨a1, l1, c1, e1⟩ := Go.Joins.slice_form Try.underlying25 h1
  simp only [List.cons.injEq, and_true] at e0 e1
  have t0 : DataW.Trod enc Try.prog w base spare held 22 v0 y0.1 y0.2 := ⟨k, by rw [e0] at h0 ⊢; exact h0⟩
  have t1 : DataW.Trod enc Try.prog w base spare held 25 v1 y1.1 y1.2 := ⟨k, by rw [e1] at h1 ⊢; exact h1⟩
  obtain ⟨A, n, c, xs, f0, i0, b0, g0⟩ := open_numsc Try.underlying22 Try.underlying3 (by kernel_rfl) ⟨_, _, _, e0⟩ t0
  obtain ⟨B, m, e, ys, f1, i1, b1, g1⟩ := open_numsc Try.underlying25 Try.underlying2 (by kernel_rfl) ⟨_, _, _, e1⟩ t1
  exact ⟨A, n, c, B, m, e, xs, ys, by rw [f0, f1], i0, b0, i1, b1, g0, g1⟩
end
end Go.Proofs.Yteepiifhmbcciaa
/- How a slice of entries that came in reads. -/
namespace Go.Proofs.Yteepiifhmbcciaa
open Go.ChangeShapes Go.WideShapes Go.ChangeAt Go.RowKit Go.Deep

section
variable {H : Type} {enc : TypeId × Value → H} {w : World} {base : Nat} {spare : Nat → Bool} {held : Bool}
set_option maxRecDepth 100000 in
/-- one entry's cells -/
theorem open_entry {f0 f1 : Field} {fuel : Nat} {a : Addr} {cs : List Value} {x : DataW H × List MemPlace} (hs : Try.prog.underlying 53 = some (.struct #[f0, f1])) (hone : oneCellFields Try.prog #[f0, f1] = true) (ht0 : f0.type = 22) (ht1 : f1.type = 2) (hl : cs.length = 2)
    (hc : ∀ i, i < 2 → w.cell? (a.add i) = cs[i]?) (h : DataW.trod enc Try.prog w base spare held fuel 53 cs = some x) :
    ∃ y : Ent, w.cell? (a.add 0) = some (.slice y.A y.n y.c) ∧ w.cell? (a.add 1) = some (.int .i64 y.v) ∧ Ints w w.heap.size y.A y.n y.cs ∧ y.n ≤ 9223372036854775807 ∧ y.n ≤ y.c ∧ -9223372036854775808 ≤ y.v ∧ y.v ≤ 9223372036854775807 := by
  obtain ⟨ys, k, _, _, _, hyl, hf⟩ := DataW.trod_struct hs h
  match cs, hl with
  | [v0, v1], _ =>
    match ys, hyl with
    | [y0, y1], _ =>
      obtain ⟨o0, k0⟩ := hone_of hone 0 f0 rfl
      obtain ⟨o1, k1⟩ := hone_of hone 1 f1 rfl
      have h0 := hf 0 f0 rfl
      have h1 := hf 1 f1 rfl
      rw [o0, k0, ht0] at h0
      rw [o1, k1, ht1] at h1
      simp only [List.drop_zero, List.take_succ_cons, List.take_zero, List.drop_succ_cons, List.getElem?_cons_zero, List.getElem?_cons_succ] at h0 h1
      obtain ⟨a0, l0, c0, e0⟩ := Go.Joins.slice_form Try.underlying22 h0
      simp only [List.cons.injEq, and_true] at e0
      subst e0
      have t0 : DataW.Trod enc Try.prog w base spare held 22 (.slice a0 l0 c0) y0.1 y0.2 := ⟨k, h0⟩
      obtain ⟨A, n, c, zs, f0', i0, b0, g0⟩ := open_numsc Try.underlying22 Try.underlying3 (by kernel_rfl) ⟨_, _, _, rfl⟩ t0
      obtain ⟨v, e1, _, hw⟩ := DataW.trod_int Try.underlying2 h1
      simp only [List.cons.injEq, and_true] at e1
      subst e1
      have hb := wf_bounds hw
      refine ⟨⟨A, n, c, zs, v⟩, ?_, ?_, i0, b0, g0, hb.1, hb.2⟩
      · have := hc 0 (by omega); rw [this, ← f0']; rfl
      · have := hc 1 (by omega); rw [this]; rfl
theorem add_two (b off i : Nat) : (Addr.add ⟨b, off, none⟩ i : Addr) = ⟨b, off + i, none⟩ := by
  by_cases h : i = 0
  · subst h; simp [Addr.add]
  · simp [Addr.add, h]
set_option maxRecDepth 100000 in
/-- a []api.Entry that came in -/
theorem open_ents {v : Value} {d : DataW H} {p : List MemPlace} (hf : ∃ a n c, v = .slice a n c) (h : DataW.Trod enc Try.prog w base spare held 34 v d p) :
    ∃ A n c es, v = .slice A n c ∧ Ents w w.heap.size A n es ∧ n ≤ 9223372036854775807 ∧ n ≤ c := by
  obtain ⟨a0, len0, cap0, rfl⟩ := hf
  obtain ⟨fuel, hf⟩ := h
  rcases open_slice Try.underlying34 hf with ⟨hcs, _⟩ | ⟨x, l, c, m, k, D, Pl, hcs, _, hl, hm, hmm, _, hi⟩
  · simp [Value.cells] at hcs
    obtain ⟨rfl, rfl, rfl⟩ := hcs
    exact ⟨none, 0, 0, [], rfl, Ents.nil_, by omega, Nat.le_refl _⟩
  · simp [Value.cells] at hcs
    obtain ⟨rfl, rfl, rfl⟩ := hcs
    have hC : Try.prog.cellsOf 53 = 2 := by kernel_rfl
    have key : ∀ i, i < len0 → ∃ y : Ent, w.cell? ((x.add (i * 2)).add 0) = some (.slice y.A y.n y.c) ∧ w.cell? ((x.add (i * 2)).add 1) = some (.int .i64 y.v) ∧ Ints w w.heap.size y.A y.n y.cs ∧ y.n ≤ 9223372036854775807 ∧ y.n ≤ y.c ∧ -9223372036854775808 ≤ y.v ∧ y.v ≤ 9223372036854775807 := by
      intro i hil
      have hml : len0 ≤ m := by rw [hmm]; split <;> omega
      obtain ⟨cs', hc, ht'⟩ := hi i (by omega)
      rw [hC] at hc
      obtain ⟨_, hlen, hat⟩ := World.cells?_some hc
      exact open_entry Try.underlying53 (by kernel_rfl) (by kernel_rfl) (by kernel_rfl) hlen hat ht'
    refine ⟨_, _, _, (List.range len0).map fun i => if hh : i < len0 then Classical.choose (key i hh) else ⟨none, 0, 0, [], 0⟩, rfl, ⟨by simp, ?_, ?_⟩, by unfold maxLen at hm; omega, hl⟩
    · intro y hy
      rw [List.mem_map] at hy
      obtain ⟨i, hir, rfl⟩ := hy
      have hil := List.mem_range.1 hir
      rw [dif_pos hil]
      exact (Classical.choose_spec (key i hil)).2.2
    · intro h0
      obtain ⟨b, off, spot⟩ := x
      have hs := (Classical.choose_spec (key 0 h0)).1
      have hspot : spot = none := by simpa [Addr.add] using World.cell?_spot hs
      subst hspot
      have hlt : b < w.heap.size := by have := lt_of_cell hs; simpa [Addr.add] using this
      refine ⟨b, off, rfl, hlt, fun q y hy => ?_⟩
      rw [List.getElem?_map, Option.map_eq_some_iff] at hy
      obtain ⟨i, hir, hiy⟩ := hy
      have hq : q < len0 := by have := (List.getElem?_eq_some_iff.1 hir).1; simpa using this
      have hqi : i = q := by have := (List.getElem?_eq_some_iff.1 hir).2; simpa using this.symm
      subst hqi
      rw [dif_pos hq] at hiy
      have hk := Classical.choose_spec (key i hq)
      rw [hiy] at hk
      obtain ⟨k0, k1, _⟩ := hk
      rw [add_two, add_two] at k0 k1
      rw [show off + 2 * i = off + i * 2 + 0 by omega]
      exact ⟨k0, k1⟩
set_option maxRecDepth 100000 in
/-- an api.Coo that came in -/
theorem open_coo {r : Reach} {b0 : Nat} {v : Value} {d : DataW H} {p : List MemPlace} (hv : Value.okWide Try.prog w r b0 36 v) (h : DataW.Trod enc Try.prog w base spare held 36 v d p) :
    ∃ A n c B m e xs es, v = .agg #[.slice A n c, .slice B m e] ∧ Ints w w.heap.size A n xs ∧ n ≤ 9223372036854775807 ∧ Ents w w.heap.size B m es ∧ m ≤ 9223372036854775807 ∧ n ≤ c ∧ m ≤ e := by
  obtain ⟨v0, v1, y0, y1, k, rfl, _, _, h0, h1⟩ := Go.Joins.open_agg2 Try.underlying36 (by kernel_rfl) (by kernel_rfl) hv h
  obtain ⟨a0, l0, c0, e0⟩ := Go.Joins.slice_form Try.underlying22 h0
  obtain ⟨a1, l1, c1, e1⟩ := Go.Joins.slice_form Try.underlying34 h1
  simp only [List.cons.injEq, and_true] at e0 e1
  have t0 : DataW.Trod enc Try.prog w base spare held 22 v0 y0.1 y0.2 := ⟨k, by rw [e0] at h0 ⊢; exact h0⟩
  have t1 : DataW.Trod enc Try.prog w base spare held 34 v1 y1.1 y1.2 := ⟨k, by rw [e1] at h1 ⊢; exact h1⟩
  obtain ⟨A, n, c, xs, f0, i0, b0, g0⟩ := open_numsc Try.underlying22 Try.underlying3 (by kernel_rfl) ⟨_, _, _, e0⟩ t0
  obtain ⟨B, m, e, es, f1, i1, b1, g1⟩ := open_ents ⟨_, _, _, e1⟩ t1
  exact ⟨A, n, c, B, m, e, xs, es, by rw [f0, f1], i0, b0, i1, b1, g0, g1⟩
end
end Go.Proofs.Yteepiifhmbcciaa
