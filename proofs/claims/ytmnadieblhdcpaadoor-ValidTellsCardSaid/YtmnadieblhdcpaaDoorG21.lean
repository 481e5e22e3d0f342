/- The document's SameLists. -/
import Derived.Test.YtmnadieblhdcpaaDoorG8
import Derived.BigQuiet
import Derived.Test.YtmnadieblhdcpaaDoorG15
import Derived.Test.YtmnadieblhdcpaaDoorG1
import Derived.Test.YtmnadieblhdcpaaDoorG10
import Derived.BigFrame
import Derived.Test.YtmnadieblhdcpaaDoorRows
import Derived.WalkKit
import Derived.ProofKit
import Derived.OpenShut
import Derived.ChangeOld
import Derived.Below
import Derived.Lib.SmallJoins
import Derived.Test.YtmnadieblhdcpaaDoorG3
import Derived.Deep.Slices
import Derived.Deep.Fields
import Derived.Test.YtmnadieblhdcpaaDoorG6
import Derived.Test.YtmnadieblhdcpaaDoorG7
namespace Go.Proofs.YtmnadieblhdcpaaDoor
open Go.RowKit

theorem take_succJ {α : Type} {l : List α} {k : Nat} {x : α} (h : l[k]? = some x) : l.take (k + 1) = l.take k ++ [x] := by rw [List.take_add_one, h]; rfl
/-- lists without the first of them -/
theorem IntsLL.dropJ {w : World} {B n b off k : Nat} {LL : List (List Int)} (h : IntsLL w B (some ⟨b, off, none⟩) n LL) (hk : k ≤ n) : IntsLL w B (some ⟨b, off + k, none⟩) (n - k) (LL.drop k) := by
  refine ⟨by rw [List.length_drop, h.1], fun h0 => ?_⟩
  obtain ⟨b2, off2, e, hB, hx⟩ := h.2 (by omega)
  injection e with e; injection e with e1 e2
  subst e1; subst e2
  refine ⟨b, off + k, rfl, hB, fun j L hL => ?_⟩
  rw [List.getElem?_drop] at hL
  obtain ⟨a, c, h1, h2⟩ := hx _ L hL
  rw [show off + k + j = off + (k + j) by omega]
  exact ⟨a, c, h1, h2⟩
set_option maxRecDepth 100000 in
set_option maxHeartbeats 2000000 in
theorem sameListsJ_any (A A2 : Option Addr) (n n2 c c2 : Nat) (XS YS : List (List Int)) (w : World) (B : Nat) (h : IntsLL w B A n XS) (h2 : IntsLL w B A2 n2 YS) (hn : n ≤ 100000) (hn2 : n2 ≤ 100000) (hx : ∀ L ∈ XS, L.length ≤ 100000) (hy : ∀ L ∈ YS, L.length ≤ 100000) :
    Calls Tryd.prog 21 #[.slice A n c, .slice A2 n2 c2] w fun e w' => e = .returned (.bool (decide (XS = YS))) ∧ ∃ m, w' = w.drewN m := by
  have HL : Hid (XS.length = n) := h.1
  have HL2 : Hid (YS.length = n2) := h2.1
  by_cases hne : n = n2
  · subst hne
    go_enter Tryd.func21, Tryd.ntmps21
    go_wp2
    go_loopw [14] (fun i wr => ∃ (k m : Nat), k ≤ n ∧ i = .int .i64 k ∧ wr = w.drewN m ∧ Hid (XS.take k = YS.take k)) (fun i _ => n - (intOf i).toNat)
    case atStart => exact ⟨0, 0, Nat.zero_le _, rfl, rfl, by unfold Hid; simp⟩
    case round =>
      obtain ⟨k, m, hk, rfl, rfl, HK⟩ := hrel
      by_cases hlt : k < n
      · obtain ⟨b, off, L, a, cL, rfl, _, HX, hc, _, hI⟩ := h.at_ hlt
        obtain ⟨b2, off2, M, a2, cM, rfl, _, HY, hc2, _, hI2⟩ := h2.at_ hlt
        have hlL := hx L (List.mem_of_getElem? HX.out)
        have hlM := hy M (List.mem_of_getElem? HY.out)
        have hk0 : (0 : Int) ≤ k := by omega
        have hk1 : (k : Int) < n := by omega
        obtain ⟨lL, hlLe⟩ : ∃ l, L.length = l := ⟨_, rfl⟩
        obtain ⟨lM, hlMe⟩ : ∃ l, M.length = l := ⟨_, rfl⟩
        rw [hlLe] at hc hI hlL
        rw [hlMe] at hc2 hI2 hlM
        have HLL := Lib.hid hlLe
        have HLM := Lib.hid hlMe
        clear hlLe hlMe
        by_cases hll : lL = lM
        · subst hll
          have e1 : ((lL : Int) == (lL : Int)) = true := by simp
          have e2 : ((lL : Int) != (lL : Int)) = false := by simp
          go_wp2
          go_quiet (fail)
          go_wp2
          go_loopw [33] (fun i wr => ∃ (j m : Nat), j ≤ lL ∧ i = .int .i64 j ∧ wr = w.drewN m ∧ Hid (L.take j = M.take j)) (fun i _ => lL - (intOf i).toNat)
          case atStart => exact ⟨0, _, Nat.zero_le _, rfl, rfl, by unfold Hid; simp⟩
          case round =>
            obtain ⟨j, m2, hj, rfl, rfl, HJ⟩ := hrel
            by_cases hjl : j < lL
            · obtain ⟨b3, off3, x, rfl, _, HX3, hc3, hx1, hx2⟩ := hI.at_ hjl
              obtain ⟨b4, off4, y, rfl, _, HY3, hc4, hy1, hy2⟩ := hI2.at_ hjl
              have hj0 : (0 : Int) ≤ j := by omega
              have hj1 : (j : Int) < lL := by omega
              by_cases hxy : x = y
              · have HN : Hid (L.take (j + 1) = M.take (j + 1)) := by unfold Hid; rw [take_succJ HX3.out, take_succJ HY3.out, HJ.out, hxy]
                have e1 : (x == y) = true := by simpa using hxy
                have e2 : (x != y) = false := by simpa using hxy
                clear hxy
                go_wp2
                go_quiet (fail)
                go_wp2
                go_roundw
                case rel => exact ⟨j + 1, _, by omega, by go_num, rfl, HN⟩
                case measure => simp [intOf]; omega
              · have HF : Hid (decide (XS = YS) = false) := by
                  unfold Hid; rw [decide_eq_false]; intro e; subst e
                  have e3 := HX.out; rw [HY.out] at e3; injection e3 with e3; subst e3
                  have := HX3.out; rw [HY3.out] at this; exact hxy (by injection this with this; exact this.symm)
                have e1 : (x == y) = false := by simpa using hxy
                have e2 : (x != y) = true := by simpa using hxy
                clear hxy
                go_wp2
                go_quiet (fail)
                go_wp2
                go_ret
                exact ⟨by rw [HF.out]; rfl, _, World.drewN_drewN _ _ _⟩
            · have HN : Hid (XS.take (k + 1) = YS.take (k + 1)) := by
                unfold Hid; rw [take_succJ HX.out, take_succJ HY.out, HK.out]
                have := HJ.out
                rw [List.take_of_length_le (by rw [HLL.out]; omega), List.take_of_length_le (by rw [HLM.out]; omega)] at this
                rw [this]
              go_wp2
              go_roundw
              case rel => exact ⟨k + 1, _, by omega, by go_num, rfl, HN⟩
              case measure => simp [intOf]; omega
        · have HF : Hid (decide (XS = YS) = false) := by
            unfold Hid; rw [decide_eq_false]; intro e; subst e
            have e3 := HX.out; rw [HY.out] at e3; injection e3 with e3; subst e3
            exact hll (by rw [← HLL.out, ← HLM.out])
          have e1 : ((lL : Int) == (lM : Int)) = false := by simp; omega
          have e2 : ((lL : Int) != (lM : Int)) = true := by simp; omega
          clear hll
          go_wp2
          go_quiet (fail)
          go_wp2
          go_ret
          exact ⟨by rw [HF.out]; rfl, _, World.drewN_drewN _ _ _⟩
      · have HF : Hid (decide (XS = YS) = true) := by
          unfold Hid; rw [decide_eq_true]; have := HK.out
          rwa [List.take_of_length_le (by rw [HL.out]; omega), List.take_of_length_le (by rw [HL2.out]; omega)] at this
        go_wp2
        go_ret
        exact ⟨by rw [HF.out]; rfl, _, rfl⟩
  · have HF : Hid (decide (XS = YS) = false) := by unfold Hid; rw [decide_eq_false]; intro e; subst e; exact hne (by rw [← HL.out, ← HL2.out])
    have hne1 : ((n : Int) == (n2 : Int)) = false := by simp; omega
    have hne2 : ((n : Int) != (n2 : Int)) = true := by simp; omega
    clear hne
    go_enter Tryd.func21, Tryd.ntmps21
    go_wp2
    go_ret
    exact ⟨by rw [HF.out]; rfl, 0, rfl⟩

end Go.Proofs.YtmnadieblhdcpaaDoor
/- The document's Trim. -/
namespace Go.Proofs.YtmnadieblhdcpaaDoor
open Go.RowKit

theorem place_in {c : Cd} (hm : c.may = true) {x : Ji} (hx : x ∈ c.l) : (x.op = 10 → 0 ≤ x.a ∧ x.a < c.l.length) ∧ (x.op = 11 ∨ x.op = 12 → 0 ≤ x.c ∧ x.c < c.l.length) := by
  obtain ⟨⟨h0, h1⟩, h2, _⟩ := mayJ_parts ((Cd.may_parts hm).2.1 x hx)
  have i0 := h2 0 (by omega)
  have i2 := h2 2 (by omega)
  unfold InB at i0 i2
  obtain ⟨op, a, b, cc, m⟩ := x
  dsimp only at h0 h1
  refine ⟨fun e => ?_, fun e => ?_⟩
  · dsimp only at e
    subst e
    simpa [kJ, kindsJ, limJ, Ji.f] using i0
  · dsimp only at e
    rcases e with rfl | rfl <;> simpa [kJ, kindsJ, limJ, Ji.f] using i2
set_option maxRecDepth 100000 in
set_option maxHeartbeats 8000000 in
theorem refTrim15_any (q : Cq) (w : World) (hq : q.In w) : Calls Tryd.prog 17 #[q.val] w (TrimP q w) := by
  have HQ := Lib.hid hq
  obtain ⟨R, A, I, P, n, c, l⟩ := q
  have HLN : Hid (l.length = n) := hq.len
  obtain ⟨W0, hW0⟩ : ∃ W, (w.alloc (Cq.obj ⟨R, A, I, P, n, c, l⟩)).alloc zeroC = W := ⟨_, rfl⟩
  have HB0 : Hid (Below w.heap.size w W0) := by rw [← hW0]; exact ((Below.refl w.heap.size w).alloc (Nat.le_refl _) _).alloc (by simp) _
  have HX0 : Hid (W0.heap[w.heap.size]? = some (Cq.obj ⟨R, A, I, P, n, c, l⟩)) := by rw [← hW0]; exact pastJ _ (heap_alloc_new w _)
  have HR0 : Hid (W0.heap[w.heap.size + 1]? = some zeroC) := by
    have h := heap_alloc_new (w.alloc (Cq.obj ⟨R, A, I, P, n, c, l⟩)) zeroC
    rw [World.size_alloc, hW0] at h
    exact h
  have hC := refReach15_any ⟨R, A, I, P, n, c, l⟩ W0 (hq.on HB0.out)
  unfold ReachP at hC
  obtain ⟨k0, k1, k2, k3, _⟩ := lvCells HX0.out
  clear hq
  cases hm : Cd.may (Cq.cd ⟨R, A, I, P, n, c, l⟩) with
  | false =>
    have HM := Lib.hid hm
    rw [Cd.e_no hm] at hC
    clear hm
    go_enter Tryd.func17, Tryd.ntmps17
    go_wp2_with fail
    try rw [hW0]
    refine hC.mono ?_
    rintro e w1 ⟨A1, n1, c1, rfl, _, hb⟩
    have HB1 := Lib.hid (HB0.out.trans (hb.mono HB0.out.size))
    have HR1 := Lib.hid (keep_b hb HR0.out)
    clear hb hC k0 k1 k2 k3 hW0
    obtain ⟨r0, r1, r2, r3, rf0, rf1, rf2, rf3⟩ := lvCells HR1.out
    go_wp2_with fail
    obtain ⟨s0, s1, s2, s3⟩ := putC_cells HR1.out 0 0 0 (.slice none 0 0)
    have hd := trim_none (q := ⟨R, A, I, P, n, c, l⟩) (g := w.heap.size + 1) HB1.out (by omega) HM.out
    obtain ⟨wz, hwz⟩ : ∃ wz, putC w1 (w.heap.size + 1) 0 0 0 (.slice none 0 0) = wz := ⟨_, rfl⟩
    rw [hwz] at hd s0 s1 s2 s3
    unfold putC at hwz
    try rw [hwz]
    exact bodyPost_ret (v := .tuple #[.agg #[.int .i64 0, .int .i64 0, .int .i64 0, .slice none 0 0], .int .i64 1]) (by simp [results, Tryd.results17, go_sem, s0, s1, s2, s3]) rfl hd
  | true =>
    have HE := Lib.hid (Cd.e_yes hm)
    have HRC : Hid (reachC (Cq.cd ⟨R, A, I, P, n, c, l⟩) = reachB (Cq.cd ⟨R, A, I, P, n, c, l⟩) (-1)) := by unfold Hid reachC; rw [hm]; rfl
    have HTC : Hid (trimC (Cq.cd ⟨R, A, I, P, n, c, l⟩) = (Cq.cd ⟨R, A, I, P, n, c, l⟩).trim) := by unfold Hid trimC; rw [hm]; rfl
    have HM := Lib.hid hm
    obtain ⟨⟨_, _, _, _, _, _, hl0, hl1⟩, _⟩ := Cd.may_parts hm
    have hl1 : l.length ≤ 4096 := hl1
    rw [HLN.out] at hl1
    have HPI : Hid (∀ x ∈ l, (x.op = 10 → 0 ≤ x.a ∧ x.a < n) ∧ (x.op = 11 ∨ x.op = 12 → 0 ≤ x.c ∧ x.c < n)) := fun x hx => by
      have h := place_in hm (x := x) hx
      have e : (Cq.cd ⟨R, A, I, P, n, c, l⟩).l.length = n := HLN.out
      rw [e] at h
      exact h
    obtain ⟨i1, hi1, hy0, hy1, hy2⟩ := info_parts infoInt
    have hmk := fun W => run_makeIn (P := Tryd.prog) 34 3 i1 Tryd.underlying34 hi1 hy0 hy1 hy2 n (by omega) W
    rw [HE.out, HRC.out] at hC
    clear hm
    go_enter Tryd.func17, Tryd.ntmps17
    go_wp2_with fail
    try rw [hW0]
    refine hC.mono ?_
    rintro e w1 ⟨A1, n1, c1, rfl, hO, hb⟩
    have HB1 := Lib.hid (HB0.out.trans (hb.mono HB0.out.size))
    have HX1 := Lib.hid (keep_b hb HX0.out)
    have HR1 := Lib.hid (keep_b hb HR0.out)
    have hn1 : n1 = n := by rw [← hO.1, reachB_len]; exact HLN.out
    subst hn1
    have HO := Lib.hid hO
    clear hb hC hO k0 k1 k2 k3 hW0
    obtain ⟨k0, k1, k2, k3, _⟩ := lvCells HX1.out
    obtain ⟨W2, hW2⟩ : ∃ W, w1.alloc (.cells (Array.replicate n1 (Value.int .i64 0)) 3) = W := ⟨_, rfl⟩
    obtain ⟨ga, hga⟩ : ∃ z, w1.heap.size = z := ⟨_, rfl⟩
    have hb2 : Below w1.heap.size w1 W2 := by rw [← hW2]; exact lvBelow _ _
    have HB2 := Lib.hid (HB1.out.trans (hb2.mono HB1.out.size))
    have HX2 := Lib.hid (keep_b hb2 HX1.out)
    have HR2 := Lib.hid (keep_b hb2 HR1.out)
    have HC2 := Lib.hid hb2
    have HAB : Hid (InB_ W2 ga (rkL (Cq.cd ⟨R, A, I, P, n1, c, l⟩) n1 0)) := by rw [rkL_zero, ← hga, ← hW2]; exact InB_.made w1 n1
    have HLT : Hid (w.heap.size + 1 < w1.heap.size) := lt_of_heap HR1.out
    have HW2 := Lib.hid hW2
    have HGA := Lib.hid hga
    clear hW2 hb2
    go_upto_region 5 with fail
    try rw [HW2.out]
    try rw [HGA.out]
    clear k0 k1 k2 k3 hmk HW2
    obtain ⟨cd, hcd⟩ : ∃ cd, Cq.cd ⟨R, A, I, P, n1, c, l⟩ = cd := ⟨_, rfl⟩
    have HCL : Hid (cd.l.length = n1) := by rw [← hcd]; exact HLN
    have HCE : Hid (cd.l = l) := by rw [← hcd]; rfl
    rw [hcd] at HO HE HM HTC HAB
    have HCD := Lib.hid hcd
    have HGL : Hid (w1.heap.size ≤ ga) := Nat.le_of_eq hga
    clear hcd hga HGA
    obtain ⟨k0, k1, k2, k3, _⟩ := lvCells HX2.out
    go_wp2_with fail
    clear k0 k1 k2 k3
    go_loopw [7, 28] (fun v a wr => ∃ (i : Nat), i ≤ n1 ∧ a = .int .i64 i ∧ v = .int .i64 (rk cd i : Nat) ∧ Hid (Below w.heap.size w wr) ∧ Hid (Below w1.heap.size w1 wr) ∧ Hid (wr.heap[w.heap.size]? = some (Cq.obj ⟨R, A, I, P, n1, c, l⟩)) ∧ Hid (wr.heap[w.heap.size + 1]? = some zeroC) ∧ Hid (InB_ wr ga (rkL cd n1 i))) (fun _ a _ => n1 - (intOf a).toNat)
    case atStart => exact ⟨0, Nat.zero_le _, rfl, rfl, HB2, HC2, HX2, HR2, HAB⟩
    case round =>
      obtain ⟨i, hi, rfl, rfl, HB, HC, HX, HR, HAB⟩ := hrel
      have hlt1 := HLT.out
      have hgl := HGL.out
      by_cases hin : i < n1
      · have hii : (i : Int) < (n1 : Int) := by omega
        obtain ⟨ba, offa, v, hA1, _, hv, v0⟩ := (HO.out.keep fun p hp => HC.out.cell hp).at_ hin
        subst hA1
        obtain ⟨u, hu⟩ := rkL_get cd hin
        obtain ⟨a0, af0⟩ := HAB.out.at_ hu
        have HAB2 : Hid (InB_ (wr.setCell ⟨ga, i, none⟩ (.int .i64 (rk cd i : Nat))) ga (rkL cd n1 (i + 1))) := by rw [← rkL_set cd hin]; exact Lib.hid (HAB.out.set i _)
        have HB3 : Hid (Below w.heap.size w (wr.setCell ⟨ga, i, none⟩ (.int .i64 (rk cd i : Nat)))) := HB.out.setCell (p := ⟨ga, i, none⟩) (by show w.heap.size ≤ ga; omega) _
        have HC3 : Hid (Below w1.heap.size w1 (wr.setCell ⟨ga, i, none⟩ (.int .i64 (rk cd i : Nat)))) := HC.out.setCell (p := ⟨ga, i, none⟩) (by show w1.heap.size ≤ ga; omega) _
        have HX3 : Hid ((wr.setCell ⟨ga, i, none⟩ (.int .i64 (rk cd i : Nat))).heap[w.heap.size]? = some (Cq.obj ⟨R, A, I, P, n1, c, l⟩)) := (Below.heap_setCell _ ⟨ga, i, none⟩ _ _ (by show w.heap.size ≠ ga; omega)).trans HX.out
        have HR3 : Hid ((wr.setCell ⟨ga, i, none⟩ (.int .i64 (rk cd i : Nat))).heap[w.heap.size + 1]? = some zeroC) := (Below.heap_setCell _ ⟨ga, i, none⟩ _ _ (by show w.heap.size + 1 ≠ ga; omega)).trans HR.out
        have hrk := rk_le cd i
        have HV := Lib.hid (wayB_of (reachB_iff hv.out))
        have v1 : (wr.setCell ⟨ga, i, none⟩ (.int .i64 (rk cd i : Nat))).cell? ⟨ba, offa + i, none⟩ = some (.bool v) := by
          obtain ⟨ba2, offa2, v2, e2, _, hv2, v02⟩ := (HO.out.keep fun p hp => HC3.out.cell hp).at_ hin
          injection e2 with e2; injection e2 with e2 e3
          subst e2; subst e3
          rw [v02]
          have h1 := hv2.out
          rw [hv.out] at h1
          injection h1 with h1
          rw [h1]
        clear hu hv v0
        obtain ⟨W5, hW5⟩ : ∃ W, wr.setCell ⟨ga, i, none⟩ (.int .i64 (rk cd i : Nat)) = W := ⟨_, rfl⟩
        rw [hW5] at HAB2 HB3 HC3 HX3 HR3 v1
        have HW5 := Lib.hid hW5
        clear hW5
        go_upto_region 10 with fail
        try rw [HW5.out]
        clear a0 af0
        cases v with
        | false =>
          have HRK : Hid (rk cd (i + 1) = rk cd i) := rk_no HV.out
          go_wp2_with fail
          go_roundw
          case rel => exact ⟨i + 1, by omega, by go_num, by rw [HRK.out], HB3, HC3, HX3, HR3, HAB2⟩
          case measure => simp [intOf]; omega
        | true =>
          have HRK : Hid (rk cd (i + 1) = rk cd i + 1) := rk_succ HV.out
          go_wp2_with fail
          go_roundw
          case rel => exact ⟨i + 1, by omega, by go_num, by rw [HRK.out]; go_num, HB3, HC3, HX3, HR3, HAB2⟩
          case measure => simp [intOf]; omega
      obtain rfl : i = n1 := by omega
      obtain ⟨k0, k1, k2, k3, _⟩ := lvCells HX.out
      obtain ⟨W6, hW6⟩ : ∃ W, wr.alloc (.cells #[.int .i64 R, .int .i64 A, .int .i64 I, .slice none 0 0] 24) = W := ⟨_, rfl⟩
      obtain ⟨g9, hg9⟩ : ∃ z, wr.heap.size = z := ⟨_, rfl⟩
      have HT0 : Hid (TrI w w1 ⟨R, A, I, P, i, c, l⟩ ga g9 (rkL cd i i) W6 none 0 []) := by
        have hb : Below wr.heap.size wr W6 := by rw [← hW6]; exact lvBelow _ _
        exact ⟨HB.out.trans (hb.mono HB.out.size), HC.out.trans (hb.mono HC.out.size), keep_b hb HX.out, keep_b hb HR.out, hlt1, hgl, by rw [← hg9]; exact lt_of_heap HAB.out, keep_b hb HAB.out, by rw [← hg9, ← hW6]; exact heap_alloc_new wr _, OwnJ.nil_ _ _⟩
      have HW6 := Lib.hid hW6
      clear hW6
      go_upto_region 14 with fail
      try rw [HW6.out]
      try rw [hg9]
      clear hg9 HW6 k0 k1 k2 k3 hin hi HB HC HX HR HAB
      obtain ⟨k0, k1, k2, k3, _⟩ := lvCells HT0.out.bx
      obtain ⟨n1, rfl⟩ : ∃ m, m = i := ⟨_, rfl⟩
      go_wp2_with fail
      clear k0 k1 k2 k3
      go_loopw [52] (fun a wr => ∃ (k : Nat) (A' : Option Addr) (c' : Nat), k ≤ n1 ∧ a = .int .i64 k ∧ Hid (TrI w w1 ⟨R, A, I, P, n1, c, l⟩ ga g9 (rkL cd n1 n1) wr A' c' (trL cd k))) (fun a _ => n1 - (intOf a).toNat)
      case atStart => exact ⟨0, none, 0, Nat.zero_le _, rfl, HT0⟩
      case round =>
        obtain ⟨k, A', c', hk, rfl, HT⟩ := hrel
        by_cases hkn : k < n1
        case neg =>
          obtain rfl : k = n1 := by omega
          have HTL : Hid (trL cd k = cd.trim.l) := by have h := trL_all cd; rw [HCL.out] at h; exact h
          have HLN2 : Hid ((trL cd k).length = rk cd k) := trL_len cd k
          obtain ⟨x0, x1, x2, x3, _⟩ := lvCells HT.out.box
          rw [HLN2.out] at x3
          obtain ⟨r0, r1, r2, r3, rf0, rf1, rf2, rf3⟩ := lvCells HT.out.rv
          go_wp2_with fail
          obtain ⟨s0, s1, s2, s3⟩ := putC_cells HT.out.rv R A I (.slice A' (rk cd k) c')
          have hd : TrimP ⟨R, A, I, P, k, c, l⟩ w (.returned (.tuple #[.agg #[.int .i64 R, .int .i64 A, .int .i64 I, .slice A' (rk cd k) c'], .int .i64 0])) (putC wr (w.heap.size + 1) R A I (.slice A' (rk cd k) c')) := by
            unfold TrimP
            rw [HCD.out, HTC.out, HE.out]
            have eR : cd.trim.R = R := by rw [← HCD.out]; rfl
            have eA : cd.trim.A = A := by rw [← HCD.out]; rfl
            have eI : cd.trim.I = I := by rw [← HCD.out]; rfl
            have hlt := HT.out.lt
            have ho := HT.out.own.mono (base' := w.heap.size) (by omega)
            rw [HTL.out] at ho
            refine ⟨A', c', by rw [eR, eA, eI, ← HTL.out, HLN2.out], putC_own ho HT.out.rv _ _ _ _, ?_⟩
            exact (((HT.out.bel.setCell (p := ⟨w.heap.size + 1, 0, none⟩) (by show w.heap.size ≤ w.heap.size + 1; omega) _).setCell (p := ⟨w.heap.size + 1, 1, none⟩) (by show w.heap.size ≤ w.heap.size + 1; omega) _).setCell (p := ⟨w.heap.size + 1, 2, none⟩) (by show w.heap.size ≤ w.heap.size + 1; omega) _).setCell (p := ⟨w.heap.size + 1, 3, none⟩) (by show w.heap.size ≤ w.heap.size + 1; omega) _
          obtain ⟨wz, hwz⟩ : ∃ wz, putC wr (w.heap.size + 1) R A I (.slice A' (rk cd k) c') = wz := ⟨_, rfl⟩
          rw [hwz] at hd s0 s1 s2 s3
          unfold putC at hwz
          try rw [hwz]
          exact bodyPost_ret (v := .tuple #[.agg #[.int .i64 R, .int .i64 A, .int .i64 I, .slice A' (rk cd k) c'], .int .i64 0]) (by simp [results, Tryd.results17, go_sem, s0, s1, s2, s3]) rfl hd
        obtain ⟨b, off, x, hA, hbb, HXX, ⟨y0, y1, y2, y3, y4⟩, hxo⟩ := ((HQ.out.on HT.out.bel).ins).at_ hkn
        subst hA
        have hkk : (k : Int) < (n1 : Int) := by omega
        have HXC : Hid (cd.l[k]? = some x) := by unfold Hid; rw [HCE.out]; exact HXX.out
        have hpl := HPI.out x (List.mem_of_getElem? HXX.out)
        obtain ⟨W4, hW4⟩ : ∃ W, wr.alloc x.obj = W := ⟨_, rfl⟩
        have hb4 : Below wr.heap.size wr W4 := by rw [← hW4]; exact lvBelow _ _
        have HT4 := Lib.hid (HT.out.on hb4)
        have HY4 : Hid (W4.heap[wr.heap.size]? = some x.obj) := by rw [← hW4]; exact newJ wr x
        have HOF : Hid (∀ b, A' = some ⟨b, 0, none⟩ → b ≠ wr.heap.size) := by
          intro b hbA
          rcases HT.out.own.heap with h1 | ⟨g', cur, h1, _, h3⟩
          · rw [h1] at hbA; cases hbA
          · rw [h1] at hbA; injection hbA with hbA; injection hbA with hbA; subst hbA; have := lt_of_heap h3; omega
        have HGW : Hid (g9 < wr.heap.size) := lt_of_heap HT.out.box
        obtain ⟨gx, hgx⟩ : ∃ z, wr.heap.size = z := ⟨_, rfl⟩
        rw [hgx] at HY4 HOF HGW
        have HWQ := Lib.hid hW4
        clear hbb hxo hb4 hW4 HXX
        go_upto_region 17 with fail
        try rw [HWQ.out]
        try rw [hgx]
        clear hgx HWQ y0 y1 y2 y3 y4
        obtain ⟨ba, offa, v, hA1, _, hv, v0⟩ := (HO.out.keep fun p hp => HT4.out.bel1.cell hp).at_ hkn
        subst hA1
        have HV := Lib.hid (wayB_of (reachB_iff hv.out))
        clear hv
        cases v with
        | false =>
          have HTR : Hid (trL cd (k + 1) = trL cd k) := trL_no HV.out
          go_wp2_with fail
          go_roundw
          case rel => exact ⟨k + 1, A', c', by omega, by go_num, by rw [HTR.out]; exact HT4⟩
          case measure => simp [intOf]; omega
        | true =>
          have HTR : Hid (trL cd (k + 1) = trL cd k ++ [renum (rk cd) x]) := trL_yes HV.out HXC.out
          have HLK : Hid ((trL cd k).length = rk cd k) := trL_len cd k
          have hrkk := rk_le cd k
          have hle : rk cd k + 1 ≤ 1000000 := by omega
          obtain ⟨rk_, hrk_⟩ : ∃ r, rk cd k = r := ⟨_, rfl⟩
          rw [hrk_] at HLK hle
          clear hrkk hrk_
          obtain ⟨⟨y0, y1, y2, y3, y4⟩, yf⟩ := box_cellsJ HY4.out
          have yf1 := yf 1
          have yf3 := yf 3
          clear yf
          by_cases o10 : x.op = 10
          · have c0 : (x.op == 10) = true := by simpa using o10
            have hzb := hpl.1 o10
            obtain ⟨z, hz⟩ : ∃ z : Nat, x.a = (z : Int) := ⟨x.a.toNat, by omega⟩
            have hzn : z < n1 := by omega
            have HZN : Hid (renum (rk cd) x = ⟨x.op, (rk cd z : Nat), x.b, x.c, x.n⟩) := by
              unfold Hid renum
              rw [if_pos o10, show (x.a).toNat = z by omega]
            have hzi : (z : Int) < (n1 : Int) := by omega
            obtain ⟨a0, _⟩ := HT4.out.ab.at_ (rkL_at cd hzn)
            have yz : W4.cell? ⟨gx, 1, none⟩ = some (.int .i64 (z : Int)) := by rw [← hz]; exact y1
            have HT5 := Lib.hid (HT4.out.put (i := 1) (v := .int .i64 ((rk cd z : Nat) : Int)) HGW.out HOF.out)
            have HY5 : Hid ((W4.setCell ⟨gx, 1, none⟩ (.int .i64 ((rk cd z : Nat) : Int))).heap[gx]? = some (Ji.obj ⟨x.op, (rk cd z : Nat), x.b, x.c, x.n⟩)) := set_j (i := 1) (cs := [.int .i64 x.op, .int .i64 x.a, .int .i64 x.b, .int .i64 x.c, .int .i64 x.n]) HY4.out _
            obtain ⟨W5, hW5⟩ : ∃ W, W4.setCell ⟨gx, 1, none⟩ (.int .i64 ((rk cd z : Nat) : Int)) = W := ⟨_, rfl⟩
            rw [hW5] at HT5 HY5
            have HW5 := Lib.hid hW5
            clear hW5 hzb hz y1 o10
            go_upto_region 24 with fail
            try rw [HW5.out]
            clear y0 y2 y3 y4 yf1 yf3 yz a0
            obtain ⟨⟨z0, z1, z2, z3, z4⟩, _⟩ := box_cellsJ HY5.out
            obtain ⟨x0, x1, x2, x3, _⟩ := lvCells HT5.out.box
            rw [HLK.out] at x3
            have hsz : w1.heap.size ≤ W5.heap.size := HT5.out.bel1.size
            go_wp2_with (at_builtin; refine wpList_appendJ rfl (.tmp 82) (.tmp 84) rfl w1.heap.size A' c' rk_ (rk_ + 1) W5.heap.size ⟨x.op, (rk cd z : Nat), x.b, x.c, x.n⟩ (trL cd k) rfl rfl rfl HT5.out.own HLK.out rfl hle hsz ?_; intro A3 c3 w3 hO3 hG3; have hG3' : W5.grownBy w3 (Value.slice A' (trL cd k).length c').ownBlock := (by rw [HLK.out]; exact hG3); have h3 := box_keptJ HT5.out.box (by decide) hG3' HT5.out.own; obtain ⟨_, _, _, v3, _, _, _, vf3⟩ := lvCells h3)
            have hadd := HT5.out.add hO3 hG3'
            rw [HLK.out] at hadd
            go_roundw
            case rel => exact ⟨k + 1, A3, c3, by omega, by go_num, by rw [HTR.out, HZN.out]; exact hadd⟩
            case measure => simp [intOf]; omega
          have c0 : (x.op == 10) = false := by simpa using o10
          by_cases o11 : x.op = 11
          · have c1 : (x.op == 11) = true := by simpa using o11
            have hzb := hpl.2 (.inl o11)
            obtain ⟨z, hz⟩ : ∃ z : Nat, x.c = (z : Int) := ⟨x.c.toNat, by omega⟩
            have hzn : z < n1 := by omega
            have HZN : Hid (renum (rk cd) x = ⟨x.op, x.a, x.b, (rk cd z : Nat), x.n⟩) := by
              unfold Hid renum
              rw [if_neg o10, if_pos (Or.inl o11), show (x.c).toNat = z by omega]
            have hzi : (z : Int) < (n1 : Int) := by omega
            obtain ⟨a0, _⟩ := HT4.out.ab.at_ (rkL_at cd hzn)
            have yz : W4.cell? ⟨gx, 3, none⟩ = some (.int .i64 (z : Int)) := by rw [← hz]; exact y3
            have HT5 := Lib.hid (HT4.out.put (i := 3) (v := .int .i64 ((rk cd z : Nat) : Int)) HGW.out HOF.out)
            have HY5 : Hid ((W4.setCell ⟨gx, 3, none⟩ (.int .i64 ((rk cd z : Nat) : Int))).heap[gx]? = some (Ji.obj ⟨x.op, x.a, x.b, (rk cd z : Nat), x.n⟩)) := set_j (i := 3) (cs := [.int .i64 x.op, .int .i64 x.a, .int .i64 x.b, .int .i64 x.c, .int .i64 x.n]) HY4.out _
            obtain ⟨W5, hW5⟩ : ∃ W, W4.setCell ⟨gx, 3, none⟩ (.int .i64 ((rk cd z : Nat) : Int)) = W := ⟨_, rfl⟩
            rw [hW5] at HT5 HY5
            have HW5 := Lib.hid hW5
            clear hW5 hzb hz y3 o11
            go_upto_region 24 with fail
            try rw [HW5.out]
            clear y0 y1 y2 y4 yf1 yf3 yz a0
            obtain ⟨⟨z0, z1, z2, z3, z4⟩, _⟩ := box_cellsJ HY5.out
            obtain ⟨x0, x1, x2, x3, _⟩ := lvCells HT5.out.box
            rw [HLK.out] at x3
            have hsz : w1.heap.size ≤ W5.heap.size := HT5.out.bel1.size
            go_wp2_with (at_builtin; refine wpList_appendJ rfl (.tmp 82) (.tmp 84) rfl w1.heap.size A' c' rk_ (rk_ + 1) W5.heap.size ⟨x.op, x.a, x.b, (rk cd z : Nat), x.n⟩ (trL cd k) rfl rfl rfl HT5.out.own HLK.out rfl hle hsz ?_; intro A3 c3 w3 hO3 hG3; have hG3' : W5.grownBy w3 (Value.slice A' (trL cd k).length c').ownBlock := (by rw [HLK.out]; exact hG3); have h3 := box_keptJ HT5.out.box (by decide) hG3' HT5.out.own; obtain ⟨_, _, _, v3, _, _, _, vf3⟩ := lvCells h3)
            have hadd := HT5.out.add hO3 hG3'
            rw [HLK.out] at hadd
            go_roundw
            case rel => exact ⟨k + 1, A3, c3, by omega, by go_num, by rw [HTR.out, HZN.out]; exact hadd⟩
            case measure => simp [intOf]; omega
          have c1 : (x.op == 11) = false := by simpa using o11
          by_cases o12 : x.op = 12
          · have c2 : (x.op == 12) = true := by simpa using o12
            have hzb := hpl.2 (.inr o12)
            obtain ⟨z, hz⟩ : ∃ z : Nat, x.c = (z : Int) := ⟨x.c.toNat, by omega⟩
            have hzn : z < n1 := by omega
            have HZN : Hid (renum (rk cd) x = ⟨x.op, x.a, x.b, (rk cd z : Nat), x.n⟩) := by
              unfold Hid renum
              rw [if_neg o10, if_pos (Or.inr o12), show (x.c).toNat = z by omega]
            have hzi : (z : Int) < (n1 : Int) := by omega
            obtain ⟨a0, _⟩ := HT4.out.ab.at_ (rkL_at cd hzn)
            have yz : W4.cell? ⟨gx, 3, none⟩ = some (.int .i64 (z : Int)) := by rw [← hz]; exact y3
            have HT5 := Lib.hid (HT4.out.put (i := 3) (v := .int .i64 ((rk cd z : Nat) : Int)) HGW.out HOF.out)
            have HY5 : Hid ((W4.setCell ⟨gx, 3, none⟩ (.int .i64 ((rk cd z : Nat) : Int))).heap[gx]? = some (Ji.obj ⟨x.op, x.a, x.b, (rk cd z : Nat), x.n⟩)) := set_j (i := 3) (cs := [.int .i64 x.op, .int .i64 x.a, .int .i64 x.b, .int .i64 x.c, .int .i64 x.n]) HY4.out _
            obtain ⟨W5, hW5⟩ : ∃ W, W4.setCell ⟨gx, 3, none⟩ (.int .i64 ((rk cd z : Nat) : Int)) = W := ⟨_, rfl⟩
            rw [hW5] at HT5 HY5
            have HW5 := Lib.hid hW5
            clear hW5 hzb hz y3 o12
            go_upto_region 24 with fail
            try rw [HW5.out]
            clear y0 y1 y2 y4 yf1 yf3 yz a0
            obtain ⟨⟨z0, z1, z2, z3, z4⟩, _⟩ := box_cellsJ HY5.out
            obtain ⟨x0, x1, x2, x3, _⟩ := lvCells HT5.out.box
            rw [HLK.out] at x3
            have hsz : w1.heap.size ≤ W5.heap.size := HT5.out.bel1.size
            go_wp2_with (at_builtin; refine wpList_appendJ rfl (.tmp 82) (.tmp 84) rfl w1.heap.size A' c' rk_ (rk_ + 1) W5.heap.size ⟨x.op, x.a, x.b, (rk cd z : Nat), x.n⟩ (trL cd k) rfl rfl rfl HT5.out.own HLK.out rfl hle hsz ?_; intro A3 c3 w3 hO3 hG3; have hG3' : W5.grownBy w3 (Value.slice A' (trL cd k).length c').ownBlock := (by rw [HLK.out]; exact hG3); have h3 := box_keptJ HT5.out.box (by decide) hG3' HT5.out.own; obtain ⟨_, _, _, v3, _, _, _, vf3⟩ := lvCells h3)
            have hadd := HT5.out.add hO3 hG3'
            rw [HLK.out] at hadd
            go_roundw
            case rel => exact ⟨k + 1, A3, c3, by omega, by go_num, by rw [HTR.out, HZN.out]; exact hadd⟩
            case measure => simp [intOf]; omega
          have c2 : (x.op == 12) = false := by simpa using o12
          have HZN : Hid (renum (rk cd) x = ⟨x.op, x.a, x.b, x.c, x.n⟩) := by
            unfold Hid renum
            rw [if_neg o10, if_neg (fun h => h.elim o11 o12)]
          clear o10 o11 o12 hpl
          go_upto_region 24 with fail
          obtain ⟨x0, x1, x2, x3, _⟩ := lvCells HT4.out.box
          rw [HLK.out] at x3
          have hsz : w1.heap.size ≤ W4.heap.size := HT4.out.bel1.size
          go_wp2_with (at_builtin; refine wpList_appendJ rfl (.tmp 82) (.tmp 84) rfl w1.heap.size A' c' rk_ (rk_ + 1) W4.heap.size ⟨x.op, x.a, x.b, x.c, x.n⟩ (trL cd k) rfl rfl rfl HT4.out.own HLK.out rfl hle hsz ?_; intro A3 c3 w3 hO3 hG3; have hG3' : W4.grownBy w3 (Value.slice A' (trL cd k).length c').ownBlock := (by rw [HLK.out]; exact hG3); have h3 := box_keptJ HT4.out.box (by decide) hG3' HT4.out.own; obtain ⟨_, _, _, v3, _, _, _, vf3⟩ := lvCells h3)
          have hadd := HT4.out.add hO3 hG3'
          rw [HLK.out] at hadd
          go_roundw
          case rel => exact ⟨k + 1, A3, c3, by omega, by go_num, by rw [HTR.out, HZN.out]; exact hadd⟩
          case measure => simp [intOf]; omega
end Go.Proofs.YtmnadieblhdcpaaDoor
/- append of a whole list of instructions. -/
namespace Go.Proofs.YtmnadieblhdcpaaDoor
open Go.RowKit

theorem Jis.cells {w : World} {B n : Nat} {ad : Addr} {es : List Ji} (h : Jis w B (some ad) n es) : ∀ (j : Nat) (u : Value), (cellsJ es)[j]? = some u → w.cell? (ad.add j) = some u := by
  intro j u hu
  have hj := (List.getElem?_eq_some_iff.1 hu).1
  rw [cellsJ_length] at hj
  obtain ⟨hl, _, hc⟩ := h
  obtain ⟨b, off, e, _, hx⟩ := hc (by omega)
  injection e with e
  subst e
  have hk : j / 5 < es.length := by omega
  have hx' := hx (j / 5) _ (List.getElem?_eq_getElem hk) (j % 5) (by omega)
  have hce := cellsJ_at (List.getElem?_eq_getElem hk) (i := j % 5) (by omega)
  have hadd : (Addr.add ⟨b, off, none⟩ j : Addr) = ⟨b, off + j, none⟩ := by
    by_cases h0 : j = 0
    · subst h0; simp [Addr.add]
    · simp [Addr.add, h0]
  rw [show 5 * (j / 5) + j % 5 = j by omega, hu] at hce
  rw [show off + j / 5 * 5 + j % 5 = off + j by omega] at hx'
  rw [hadd, hx', hce]
theorem cellsJ_one (ss : List Ji) : ∀ u ∈ cellsJ ss, u.oneCell' = true := by
  induction ss with
  | nil => simp [cellsJ]
  | cons x ss ih =>
    intro u hu
    simp only [cellsJ, List.mem_cons] at hu
    rcases hu with rfl | rfl | rfl | rfl | rfl | hu
    all_goals first | (simp [Value.oneCell']; done) | exact ih u hu
theorem run_appendNilJ (w : World) (base : Nat) (ty : TypeId) (v : Value) (n : Nat) (xs : List Value) (hown : w.ownsRow base 40 5 v n xs) (c : Nat) :
    (Builtin.append_ #[22, 22] ty #[v, .slice none 0 c]).run Tryd.prog w = .ok v w := by
  obtain ⟨i, hi, hz, h1, h2⟩ := info_parts infoIns
  have ht := Tryd.underlying22
  rcases hown.2 with ⟨rfl, rfl⟩ | ⟨g, cap, cur, rfl, _, _, hnc, _⟩ <;> simp [Builtin.append_, run_underlying ht, sizeOf, typeInfo, Builtin.lenOf, Builtin.firstCells, *, storeCells]
theorem run_appendJs (w : World) (base : Nat) (ty : TypeId) (A A2 : Option Addr) (c m c2 B : Nat) (xs ys : List Ji) (ho : OwnJ w base A c xs) (hs : Jis w B A2 m ys) (hl : xs.length + m ≤ 1000000) (hb : base ≤ w.heap.size) :
    ∃ A' c' w', (Builtin.append_ #[22, 22] ty #[.slice A xs.length c, .slice A2 m c2]).run Tryd.prog w = .ok (.slice A' (xs.length + m) c') w' ∧ OwnJ w' base A' c' (xs ++ ys) ∧ w.grownBy w' (Value.slice A xs.length c).ownBlock := by
  obtain ⟨i, hi, hz, h1, h2⟩ := info_parts infoIns
  have hlen := hs.1
  rcases Option.eq_none_or_eq_some A2 with rfl | ⟨ad, rfl⟩
  · obtain rfl : m = 0 := by
      rcases Nat.eq_zero_or_pos m with h0 | h0
      · exact h0
      · obtain ⟨b, off, e', _⟩ := hs.2.2 h0; cases e'
    obtain rfl : ys = [] := List.eq_nil_of_length_eq_zero hlen
    have hrun := run_appendNilJ w base ty (.slice A xs.length c) xs.length (cellsJ xs) ho c2
    exact ⟨A, c, w, by simpa using hrun, by simpa using ho, World.grownBy.refl w _⟩
  · obtain ⟨v', w', hr, h3, h4, _⟩ := run_append_own (P := Tryd.prog) w base 22 ty 40 i (.agg #[.int .i64 0, .int .i64 0, .int .i64 0, .int .i64 0, .int .i64 0]) 5 40 Tryd.underlying22 hi hz h1 h2 rfl (by decide) (.slice A xs.length c) xs.length (cellsJ xs) ho ad m c2 (cellsJ ys) (by rw [cellsJ_length, hlen]; omega) hs.cells (cellsJ_one ys) (by unfold maxLen; omega) (by omega) hb
    obtain ⟨A', c', rfl⟩ : ∃ A' c', v' = .slice A' (xs.length + m) c' := by
      rcases h3.2 with ⟨rfl, h0⟩ | ⟨g, cap, cur, rfl, _⟩
      · rw [h0]; exact ⟨_, _, rfl⟩
      · exact ⟨_, _, rfl⟩
    refine ⟨A', c', w', hr, ?_, h4⟩
    unfold OwnJ
    rw [List.length_append, hlen, cellsJ_append]
    exact h3
theorem wpList_appendJs {ops : Array Oper} {rest : List Oper} {o : Oper} {a : Act} {w : World} {Q : Exit → Act → World → Prop}
    (hg : o.guard = none) (s x : Operand) (hop : o.op = Op.call { callee := Callee.builtin Builtin.append, args := #[s, x], argTypes := #[22, 22] })
    (base : Nat) (A A2 : Option Addr) (c m c2 B p r : Nat) (xs ys : List Ji) (hs : a.eval s = .slice A p c) (hx : a.eval x = .slice A2 m c2) (ho : OwnJ w base A c xs) (hp : xs.length = p) (hr : p + m = r) (hi2 : Jis w B A2 m ys) (hl : r ≤ 1000000) (hb : base ≤ w.heap.size)
    (hK : ∀ A' c' w', OwnJ w' base A' c' (xs ++ ys) → w.grownBy w' (Value.slice A p c).ownBlock → wpList Tryd.prog ops Q rest (a.put o.dst (.slice A' r c')) w') :
    wpList Tryd.prog ops Q (o :: rest) a w := by
  refine wpList_plain hg fun _ hK' => ?_
  subst hp
  subst hr
  obtain ⟨A', c', w', hrun, ho', hb'⟩ := run_appendJs w base o.type A A2 c m c2 B xs ys ho hi2 hl hb
  unfold Oper.wp
  simp [execOp, hop, resolve, invoke, builtin, hs, hx, hrun, Result.andThen]
  exact hK' _ _ (hK _ _ _ ho' hb')
end Go.Proofs.YtmnadieblhdcpaaDoor
/- How the arguments of the statements read: slices of integers, dense tensors, integers. -/
namespace Go.Proofs.YtmnadieblhdcpaaDoor
open Go.ChangeShapes Go.WideShapes Go.ChangeAt Go.RowKit

set_option maxRecDepth 100000 in
theorem own : ownKnob Tryd.prog.godebug = none := by kernel_rfl
set_option maxRecDepth 100000 in
theorem laidOut : laidOutB Tryd.prog = true := by kernel_rfl

theorem lt_of_cell {w : World} {a : Addr} {v : Value} (h : w.cell? a = some v) : a.block < w.heap.size := by
  rcases Nat.lt_or_ge a.block w.heap.size with hlt | hge
  · exact hlt
  · have : w.heap[a.block]? = none := Array.getElem?_eq_none hge
    simp [World.cell?, this] at h

theorem wf_bounds {n : Int} (h : (Lit.int .i64 n).wf = true) : -9223372036854775808 ≤ n ∧ n ≤ 9223372036854775807 := by
  simp [Lit.wf, IntKind.min, IntKind.max, IntKind.signed, IntKind.bits] at h
  omega

theorem ints_of_row {w : World} {x : Addr} {len : Nat} {zs : List Int} (hz : len ≤ zs.length) (hcell : ∀ i, i < zs.length → w.cell? (x.add i) = some (.int .i64 (zs.getD i 0))) (hwz : ∀ n ∈ zs, (Lit.int .i64 n).wf = true) :
    Ints w w.heap.size (some x) len (zs.take len) := by
  refine ⟨by rw [List.length_take]; omega, fun n hn => wf_bounds (hwz n (List.mem_of_mem_take hn)), fun h0 => ?_⟩
  obtain ⟨b, off, spot⟩ := x
  have hc := hcell 0 (by omega)
  have hspot : spot = none := by simpa [Addr.add] using World.cell?_spot hc
  subst hspot
  have hlt : b < w.heap.size := by have := lt_of_cell hc; simpa [Addr.add] using this
  refine ⟨b, off, rfl, hlt, fun k y hy => ?_⟩
  have hk : k < len := by have := (List.getElem?_eq_some_iff.1 hy).1; rw [List.length_take] at this; omega
  have h1 := hcell k (by omega)
  have h2 : zs.getD k 0 = y := by
    rw [List.getElem?_take, if_pos hk] at hy
    simp [List.getD, hy]
  rw [h2] at h1
  by_cases hk0 : k = 0
  · subst hk0; simpa [Addr.add] using h1
  · simpa [Addr.add, hk0] using h1

section
variable {H : Type} {enc : TypeId × Value → H} {w : World} {base : Nat} {spare : Nat → Bool} {held : Bool}
/-- a []int, or a []int64, that came in -/
theorem open_nums {t e : TypeId} {v : Value} {d : DataW H} {p : List MemPlace} (ht : Tryd.prog.underlying t = some (.slice e)) (he : Tryd.prog.underlying e = some (.int .i64)) (hC : Tryd.prog.cellsOf e = 1) (hf : ∃ a n c, v = .slice a n c) (h : DataW.Trod enc Tryd.prog w base spare held t v d p) :
    ∃ A n c xs, v = .slice A n c ∧ Ints w w.heap.size A n xs ∧ n ≤ 9223372036854775807 := by
  obtain ⟨a0, len0, cap0, rfl⟩ := hf
  obtain ⟨fuel, hf⟩ := h
  rcases open_ints ht he hC hf with ⟨hcs, _⟩ | ⟨x, l, c, zs, hcs, _, hl, hm, hz, _, hcell, hwz⟩
  · simp [Value.cells] at hcs
    obtain ⟨rfl, rfl, rfl⟩ := hcs
    exact ⟨none, 0, 0, [], rfl, Ints.nil_, by omega⟩
  · simp [Value.cells] at hcs
    obtain ⟨rfl, rfl, rfl⟩ := hcs
    have hz' : len0 ≤ zs.length := by split at hz <;> omega
    refine ⟨_, _, _, _, rfl, ints_of_row hz' hcell hwz, ?_⟩
    unfold maxLen at hm
    omega
end
end Go.Proofs.YtmnadieblhdcpaaDoor
/- How a slice of integers that came in reads, with its room. -/
namespace Go.Proofs.YtmnadieblhdcpaaDoor
open Go.ChangeShapes Go.WideShapes Go.ChangeAt Go.RowKit

section
variable {H : Type} {enc : TypeId × Value → H} {w : World} {base : Nat} {spare : Nat → Bool} {held : Bool}
/-- the same, and its room -/
theorem open_numsc {t e : TypeId} {v : Value} {d : DataW H} {p : List MemPlace} (ht : Tryd.prog.underlying t = some (.slice e)) (he : Tryd.prog.underlying e = some (.int .i64)) (hC : Tryd.prog.cellsOf e = 1) (hf : ∃ a n c, v = .slice a n c) (h : DataW.Trod enc Tryd.prog w base spare held t v d p) :
    ∃ A n c xs, v = .slice A n c ∧ Ints w w.heap.size A n xs ∧ n ≤ 9223372036854775807 ∧ n ≤ c := by
  obtain ⟨a0, len0, cap0, rfl⟩ := hf
  obtain ⟨fuel, hf⟩ := h
  rcases open_ints ht he hC hf with ⟨hcs, _⟩ | ⟨x, l, c, zs, hcs, _, hl, hm, hz, _, hcell, hwz⟩
  · simp [Value.cells] at hcs
    obtain ⟨rfl, rfl, rfl⟩ := hcs
    exact ⟨none, 0, 0, [], rfl, Ints.nil_, by omega, Nat.le_refl _⟩
  · simp [Value.cells] at hcs
    obtain ⟨rfl, rfl, rfl⟩ := hcs
    have hz' : len0 ≤ zs.length := by split at hz <;> omega
    refine ⟨_, _, _, _, rfl, ints_of_row hz' hcell hwz, ?_, hl⟩
    unfold maxLen at hm
    omega
end
end Go.Proofs.YtmnadieblhdcpaaDoor
/- How a slice of entries that came in reads. -/
namespace Go.Proofs.YtmnadieblhdcpaaDoor
open Go.ChangeShapes Go.WideShapes Go.ChangeAt Go.RowKit Go.Deep

section
variable {H : Type} {enc : TypeId × Value → H} {w : World} {base : Nat} {spare : Nat → Bool} {held : Bool}
theorem add_two (b off i : Nat) : (Addr.add ⟨b, off, none⟩ i : Addr) = ⟨b, off + i, none⟩ := by
  by_cases h : i = 0
  · subst h; simp [Addr.add]
  · simp [Addr.add, h]
end
end Go.Proofs.YtmnadieblhdcpaaDoor
/- How code, and an instruction, that came in read. -/
namespace Go.Proofs.YtmnadieblhdcpaaDoor
open Go.ChangeShapes Go.WideShapes Go.ChangeAt Go.RowKit Go.Deep

theorem list5 {α : Type} {l : List α} (h : l.length = 5) : ∃ a b c d e, l = [a, b, c, d, e] := by
  match l, h with
  | [a, b, c, d, e], _ => exact ⟨a, b, c, d, e, rfl⟩
theorem array5 {α : Type} {cs : Array α} (h : cs.size = 5) : ∃ a b c d e, cs = #[a, b, c, d, e] := by
  obtain ⟨l⟩ := cs
  match l, h with
  | [a, b, c, d, e], _ => exact ⟨a, b, c, d, e, rfl⟩
section
variable {H : Type} {enc : TypeId × Value → H} {w : World} {base : Nat} {spare : Nat → Bool} {held : Bool}
set_option maxRecDepth 100000 in
/-- five cells that read as an instruction -/
theorem open_ins5 {f0 f1 f2 f3 f4 : Field} {fuel : Nat} {v0 v1 v2 v3 v4 : Value} {x : DataW H × List MemPlace} (hs : Tryd.prog.underlying 40 = some (.struct #[f0, f1, f2, f3, f4])) (hone : oneCellFields Tryd.prog #[f0, f1, f2, f3, f4] = true) (ht0 : f0.type = 3) (ht1 : f1.type = 3) (ht2 : f2.type = 3) (ht3 : f3.type = 3) (ht4 : f4.type = 2)
    (h : DataW.trod enc Tryd.prog w base spare held fuel 40 [v0, v1, v2, v3, v4] = some x) :
    ∃ y : Ji, v0 = .int .i64 y.op ∧ v1 = .int .i64 y.a ∧ v2 = .int .i64 y.b ∧ v3 = .int .i64 y.c ∧ v4 = .int .i64 y.n ∧ y.ok := by
  obtain ⟨ys, k, _, _, _, hyl, hf⟩ := DataW.trod_struct hs h
  obtain ⟨y0, y1, y2, y3, y4, rfl⟩ := list5 hyl
  obtain ⟨o0, k0⟩ := hone_of hone 0 f0 rfl
  obtain ⟨o1, k1⟩ := hone_of hone 1 f1 rfl
  obtain ⟨o2, k2⟩ := hone_of hone 2 f2 rfl
  obtain ⟨o3, k3⟩ := hone_of hone 3 f3 rfl
  obtain ⟨o4, k4⟩ := hone_of hone 4 f4 rfl
  have h0 := hf 0 f0 rfl
  have h1 := hf 1 f1 rfl
  have h2 := hf 2 f2 rfl
  have h3 := hf 3 f3 rfl
  have h4 := hf 4 f4 rfl
  rw [o0, k0, ht0] at h0
  rw [o1, k1, ht1] at h1
  rw [o2, k2, ht2] at h2
  rw [o3, k3, ht3] at h3
  rw [o4, k4, ht4] at h4
  simp only [List.drop_zero, List.take_succ_cons, List.take_zero, List.drop_succ_cons, List.getElem?_cons_zero, List.getElem?_cons_succ] at h0 h1 h2 h3 h4
  obtain ⟨u0, e0, _, hw0⟩ := DataW.trod_int Tryd.underlying3 h0
  obtain ⟨u1, e1, _, hw1⟩ := DataW.trod_int Tryd.underlying3 h1
  obtain ⟨u2, e2, _, hw2⟩ := DataW.trod_int Tryd.underlying3 h2
  obtain ⟨u3, e3, _, hw3⟩ := DataW.trod_int Tryd.underlying3 h3
  obtain ⟨u4, e4, _, hw4⟩ := DataW.trod_int Tryd.underlying2 h4
  simp only [List.cons.injEq, and_true] at e0 e1 e2 e3 e4
  subst e0 e1 e2 e3 e4
  exact ⟨⟨u0, u1, u2, u3, u4⟩, rfl, rfl, rfl, rfl, rfl, ⟨wf_bounds hw0, wf_bounds hw1, wf_bounds hw2, wf_bounds hw3, wf_bounds hw4⟩⟩
set_option maxRecDepth 100000 in
/-- an instruction that came in -/
theorem open_ins {r : Reach} {b0 : Nat} {v : Value} {d : DataW H} {p : List MemPlace} (hv : Value.okWide Tryd.prog w r b0 40 v) (h : DataW.Trod enc Tryd.prog w base spare held 40 v d p) : ∃ y : Ji, v = y.val ∧ y.ok := by
  obtain ⟨cs, rfl, hsz⟩ := okWide_struct Tryd.underlying40 hv
  have hC : Tryd.prog.cellsOf 40 = 5 := by kernel_rfl
  obtain ⟨v0, v1, v2, v3, v4, rfl⟩ := array5 (hsz.trans hC)
  obtain ⟨fuel, hf⟩ := h
  obtain ⟨y, rfl, rfl, rfl, rfl, rfl, hy⟩ := open_ins5 Tryd.underlying40 (by kernel_rfl) (by kernel_rfl) (by kernel_rfl) (by kernel_rfl) (by kernel_rfl) (by kernel_rfl) hf
  exact ⟨y, rfl, hy⟩
set_option maxRecDepth 100000 in
/-- a []api.Ins that came in -/
theorem open_inss {v : Value} {d : DataW H} {p : List MemPlace} (hf : ∃ a n c, v = .slice a n c) (h : DataW.Trod enc Tryd.prog w base spare held 22 v d p) :
    ∃ A n c l, v = .slice A n c ∧ Jis w w.heap.size A n l ∧ n ≤ 9223372036854775807 ∧ n ≤ c := by
  obtain ⟨a0, len0, cap0, rfl⟩ := hf
  obtain ⟨fuel, hf⟩ := h
  rcases open_slice Tryd.underlying22 hf with ⟨hcs, _⟩ | ⟨x, l, c, m, k, D, Pl, hcs, _, hl, hm, hmm, _, hi⟩
  · simp [Value.cells] at hcs
    obtain ⟨rfl, rfl, rfl⟩ := hcs
    exact ⟨none, 0, 0, [], rfl, Jis.nil_, by omega, Nat.le_refl _⟩
  · simp [Value.cells] at hcs
    obtain ⟨rfl, rfl, rfl⟩ := hcs
    have hC : Tryd.prog.cellsOf 40 = 5 := by kernel_rfl
    have key : ∀ i, i < len0 → ∃ y : Ji, (∀ j, j < 5 → w.cell? ((x.add (i * 5)).add j) = some (.int .i64 (y.at j))) ∧ y.ok := by
      intro i hil
      have hml : len0 ≤ m := by rw [hmm]; split <;> omega
      obtain ⟨cs', hc, ht'⟩ := hi i (by omega)
      rw [hC] at hc
      obtain ⟨_, hlen, hat⟩ := World.cells?_some hc
      obtain ⟨v0, v1, v2, v3, v4, rfl⟩ := list5 hlen
      obtain ⟨y, rfl, rfl, rfl, rfl, rfl, hy⟩ := open_ins5 Tryd.underlying40 (by kernel_rfl) (by kernel_rfl) (by kernel_rfl) (by kernel_rfl) (by kernel_rfl) (by kernel_rfl) ht'
      refine ⟨y, fun j hj => ?_, hy⟩
      rw [hat j hj]
      match j, hj with
      | 0, _ => rfl
      | 1, _ => rfl
      | 2, _ => rfl
      | 3, _ => rfl
      | 4, _ => rfl
    refine ⟨_, _, _, (List.range len0).map fun i => if hh : i < len0 then Classical.choose (key i hh) else ⟨0, 0, 0, 0, 0⟩, rfl, ⟨by simp, ?_, ?_⟩, by unfold maxLen at hm; omega, hl⟩
    · intro y hy
      rw [List.mem_map] at hy
      obtain ⟨i, hir, rfl⟩ := hy
      have hil := List.mem_range.1 hir
      rw [dif_pos hil]
      exact (Classical.choose_spec (key i hil)).2
    · intro h0
      obtain ⟨b, off, spot⟩ := x
      have hs := (Classical.choose_spec (key 0 h0)).1 0 (by omega)
      have hspot : spot = none := by simpa [Addr.add] using World.cell?_spot hs
      subst hspot
      have hlt : b < w.heap.size := by have := lt_of_cell hs; simpa [Addr.add] using this
      refine ⟨b, off, rfl, hlt, fun q y hy j hj => ?_⟩
      rw [List.getElem?_map, Option.map_eq_some_iff] at hy
      obtain ⟨i, hir, hiy⟩ := hy
      have hq : q < len0 := by have := (List.getElem?_eq_some_iff.1 hir).1; simpa using this
      have hqi : i = q := by have := (List.getElem?_eq_some_iff.1 hir).2; simpa using this.symm
      subst hqi
      rw [dif_pos hq] at hiy
      have hk := (Classical.choose_spec (key i hq)).1 j hj
      rw [hiy] at hk
      rw [add_two, add_two] at hk
      exact hk
set_option maxRecDepth 100000 in
/-- code that came in -/
theorem open_code {r : Reach} {b0 : Nat} {v : Value} {d : DataW H} {p : List MemPlace} (hv : Value.okWide Tryd.prog w r b0 24 v) (h : DataW.Trod enc Tryd.prog w base spare held 24 v d p) :
    ∃ q : Cq, v = q.val ∧ q.In w := by
  obtain ⟨v0, v1, v2, v3, y0, y1, y2, y3, k, rfl, _, _, h0, h1, h2, h3⟩ := Go.Joins.open_agg4 Tryd.underlying24 (by kernel_rfl) (by kernel_rfl) hv h
  obtain ⟨R, e0, _, hw0⟩ := DataW.trod_int Tryd.underlying3 h0
  obtain ⟨A, e1, _, hw1⟩ := DataW.trod_int Tryd.underlying3 h1
  obtain ⟨I, e2, _, hw2⟩ := DataW.trod_int Tryd.underlying3 h2
  obtain ⟨a3, l3, c3, e3⟩ := Go.Joins.slice_form Tryd.underlying22 h3
  simp only [List.cons.injEq, and_true] at e0 e1 e2 e3
  have t3 : DataW.Trod enc Tryd.prog w base spare held 22 v3 y3.1 y3.2 := ⟨k, by rw [e3] at h3 ⊢; exact h3⟩
  obtain ⟨P, n, c, l, f3, i3, b3, g3⟩ := open_inss ⟨_, _, _, e3⟩ t3
  exact ⟨⟨R, A, I, P, n, c, l⟩, by rw [e0, e1, e2, f3], ⟨i3, wf_bounds hw0, wf_bounds hw1, wf_bounds hw2, b3, g3⟩⟩
end
end Go.Proofs.YtmnadieblhdcpaaDoor
/- How a list of marks that came in reads. -/
namespace Go.Proofs.YtmnadieblhdcpaaDoor
open Go.ChangeShapes Go.WideShapes Go.ChangeAt Go.RowKit Go.Deep

section
variable {H : Type} {enc : TypeId × Value → H} {w : World} {base : Nat} {spare : Nat → Bool} {held : Bool}
set_option maxRecDepth 100000 in
/-- a []bool that came in -/
theorem open_bools {v : Value} {d : DataW H} {p : List MemPlace} (hf : ∃ a n c, v = .slice a n c) (h : DataW.Trod enc Tryd.prog w base spare held 27 v d p) :
    ∃ A n c bs, v = .slice A n c ∧ Bools w w.heap.size A n bs ∧ n ≤ 9223372036854775807 := by
  obtain ⟨a0, len0, cap0, rfl⟩ := hf
  obtain ⟨fuel, hf⟩ := h
  rcases open_slice Tryd.underlying27 hf with ⟨hcs, _⟩ | ⟨x, l, c, m, k, D, Pl, hcs, _, hl, hm, hmm, _, hi⟩
  · simp [Value.cells] at hcs
    obtain ⟨rfl, rfl, rfl⟩ := hcs
    exact ⟨none, 0, 0, [], rfl, Bools.nil_, by omega⟩
  · simp [Value.cells] at hcs
    obtain ⟨rfl, rfl, rfl⟩ := hcs
    have hC : Tryd.prog.cellsOf 4 = 1 := by kernel_rfl
    have key : ∀ i, i < len0 → ∃ y : Bool, w.cell? ((x.add (i * 1)).add 0) = some (.bool y) := by
      intro i hil
      have hml : len0 ≤ m := by rw [hmm]; split <;> omega
      obtain ⟨cs', hc, ht'⟩ := hi i (by omega)
      rw [hC] at hc
      obtain ⟨_, hlen, hat⟩ := World.cells?_some hc
      obtain ⟨y, rfl, _⟩ := DataW.trod_bool Tryd.underlying4 ht'
      exact ⟨y, by rw [hat 0 (by omega)]; rfl⟩
    refine ⟨_, _, _, (List.range len0).map fun i => if hh : i < len0 then Classical.choose (key i hh) else false, rfl, ⟨by simp, fun h0 => ?_⟩, by unfold maxLen at hm; omega⟩
    obtain ⟨b, off, spot⟩ := x
    have hs := Classical.choose_spec (key 0 h0)
    have hspot : spot = none := by simpa [Addr.add] using World.cell?_spot hs
    subst hspot
    have hlt : b < w.heap.size := by have := lt_of_cell hs; simpa [Addr.add] using this
    refine ⟨b, off, rfl, hlt, fun q y hy => ?_⟩
    rw [List.getElem?_map, Option.map_eq_some_iff] at hy
    obtain ⟨i, hir, hiy⟩ := hy
    have hq : q < len0 := by have := (List.getElem?_eq_some_iff.1 hir).1; simpa using this
    have hqi : i = q := by have := (List.getElem?_eq_some_iff.1 hir).2; simpa using this.symm
    subst hqi
    rw [dif_pos hq] at hiy
    have hk := Classical.choose_spec (key i hq)
    rw [hiy, add_two, add_two, Nat.mul_one, Nat.add_zero] at hk
    exact hk
end
end Go.Proofs.YtmnadieblhdcpaaDoor
