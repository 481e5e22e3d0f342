/- Lists of places that are told by a mark; the document's 'is a number in a list'. -/
import Derived.Test.YtmnadieblhdcpaaDoorG9
import Derived.Test.YtmnadieblhdcpaaDoorG1
import Derived.WalkMore
namespace Go.Proofs.YtmnadieblhdcpaaDoor
open Go.RowKit

/-- those of the first i places that are marked -/
def flN (p : Nat → Bool) (i : Nat) : List Int := ((List.range i).filter p).map fun n : Nat => (n : Int)
theorem flN_zero (p : Nat → Bool) : flN p 0 = [] := rfl
theorem flN_yes {p : Nat → Bool} {i : Nat} (h : p i = true) : flN p (i + 1) = flN p i ++ [(i : Int)] := by
  unfold flN
  rw [List.range_succ, List.filter_append, List.map_append]
  simp [h]
theorem flN_no {p : Nat → Bool} {i : Nat} (h : p i = false) : flN p (i + 1) = flN p i := by
  unfold flN
  rw [List.range_succ, List.filter_append, List.map_append]
  simp [h]
theorem flN_len (p : Nat → Bool) (i : Nat) : (flN p i).length ≤ i := by
  unfold flN
  rw [List.length_map]
  refine Nat.le_trans (List.length_filter_le _ _) ?_
  simp
open Classical in
noncomputable def unsetB (c : Cd) (i : Nat) : Bool := decide (Way c.l (-1) i ∧ ∃ x, c.l[i]? = some x ∧ ∃ r ∈ readsJ x, r ∉ setN c i)
open Classical in
noncomputable def loopsB (c : Cd) (i : Nat) : Bool := decide (Way c.l (-1) i ∧ ∃ x, c.l[i]? = some x ∧ ∃ k ∈ nextJ x i, k ≤ (i : Int))
theorem unset_fl (c : Cd) : (unsetN c).map (fun n : Nat => (n : Int)) = flN (unsetB c) c.l.length := rfl
theorem loops_fl (c : Cd) : (loopsN c).map (fun n : Nat => (n : Int)) = flN (loopsB c) c.l.length := rfl
theorem unsetB_of {c : Cd} {i : Nat} {x : Ji} {b : Bool} (hx : c.l[i]? = some x) (h : b = true ↔ Way c.l (-1) i ∧ ∃ r ∈ readsJ x, r ∉ setN c i) : unsetB c i = b := by
  have : unsetB c i = true ↔ b = true := by
    rw [h]
    unfold unsetB
    simp only [decide_eq_true_eq]
    constructor
    · rintro ⟨h1, y, hy, h2⟩
      rw [hx] at hy
      injection hy with hy
      subst hy
      exact ⟨h1, h2⟩
    · rintro ⟨h1, h2⟩
      exact ⟨h1, x, hx, h2⟩
  cases b <;> cases h2 : unsetB c i <;> simp_all
theorem loopsB_of {c : Cd} {i : Nat} {x : Ji} {b : Bool} (hx : c.l[i]? = some x) (h : b = true ↔ Way c.l (-1) i ∧ ∃ k ∈ nextJ x i, k ≤ (i : Int)) : loopsB c i = b := by
  have : loopsB c i = true ↔ b = true := by
    rw [h]
    unfold loopsB
    simp only [decide_eq_true_eq]
    constructor
    · rintro ⟨h1, y, hy, h2⟩
      rw [hx] at hy
      injection hy with hy
      subst hy
      exact ⟨h1, h2⟩
    · rintro ⟨h1, h2⟩
      exact ⟨h1, x, hx, h2⟩
  cases b <;> cases h2 : loopsB c i <;> simp_all
theorem setsN_at {c : Cd} {i : Nat} {L : List Int} (h : (setsN c)[i]? = some L) : L = setN c i := by
  unfold setsN at h
  rw [List.getElem?_map] at h
  cases hr : (List.range c.l.length)[i]? with
  | none => rw [hr] at h; cases h
  | some j =>
    rw [hr] at h
    have hj : j = i := by
      have h2 := (List.getElem?_eq_some_iff.1 hr)
      obtain ⟨h3, h4⟩ := h2
      simpa using h4.symm
    subst hj
    simpa using h.symm
theorem setsN_len (c : Cd) : (setsN c).length = c.l.length := by simp [setsN]
theorem setN_len (c : Cd) (i : Nat) : (setN c i).length ≤ c.R.toNat := setK_len c _ i
set_option maxRecDepth 100000 in
set_option maxHeartbeats 4000000 in
theorem refIn15_any (A : Option Addr) (n c : Nat) (xs : List Int) (v : Int) (w : World) (h : Ints w w.heap.size A n xs) (hn : n ≤ 9223372036854775807) : Calls Tryd.prog 42 #[.slice A n c, .int .i64 v] w fun e w' => e = .returned (.bool (decide (v ∈ xs))) ∧ Below w.heap.size w w' := by
  have HL : Hid (xs.length = n) := h.1
  go_enter Tryd.func42, Tryd.ntmps42
  go_wp2_with fail
  go_loopw [9] (fun a wr => ∃ k : Nat, k ≤ n ∧ a = .int .i64 k ∧ Hid (∀ j : Nat, j < k → xs[j]? ≠ some v) ∧ wr = w) (fun a _ => n - (intOf a).toNat)
  case atStart => exact ⟨0, Nat.zero_le _, rfl, fun j hj => absurd hj (by omega), rfl⟩
  case round =>
    obtain ⟨k, hk, rfl, HK, rfl⟩ := hrel
    by_cases hlt : k < n
    · obtain ⟨b, off, x, rfl, _, hx, x0⟩ := h.at_ hlt
      have hki : (k : Int) < (n : Int) := by omega
      by_cases hv : x = v
      · have e0 : (x == v) = true := by simpa using hv
        have HM : Hid (v ∈ xs) := by unfold Hid; rw [← hv]; exact List.mem_of_getElem? hx
        clear hv hx
        go_wp2_with fail
        go_ret
        exact ⟨by rw [decide_eq_true HM.out]; rfl, Below.refl _ _⟩
      · have e0 : (x == v) = false := by simpa using hv
        have HK2 : Hid (∀ j : Nat, j < k + 1 → xs[j]? ≠ some v) := fun j hj => by
          by_cases e : j = k
          · subst e; rw [hx]; intro e2; injection e2 with e2; exact hv e2
          · exact HK.out j (by omega)
        clear hv hx
        go_wp2_with fail
        go_roundw
        case rel => exact ⟨k + 1, by omega, by go_num, HK2, by first | trivial | rfl⟩
        case measure => simp [intOf]; omega
    · obtain rfl : k = n := by omega
      have HM : Hid (v ∉ xs) := fun hm => by
        obtain ⟨j, hj⟩ := List.getElem?_of_mem hm
        exact HK.out j (by have := (List.getElem?_eq_some_iff.1 hj).1; have := HL.out; omega) hj
      go_wp2_with fail
      go_ret
      exact ⟨by rw [decide_eq_false HM.out]; rfl, Below.refl _ _⟩
set_option maxRecDepth 100000 in
set_option maxHeartbeats 4000000 in
theorem refSameBools_any (A B : Option Addr) (n m c e : Nat) (xs ys : List Bool) (w : World) (h : Bools w w.heap.size A n xs) (h2 : Bools w w.heap.size B m ys) (hn : n ≤ 9223372036854775807) (hm : m ≤ 9223372036854775807) : Calls Tryd.prog 20 #[.slice A n c, .slice B m e] w fun e w' => e = .returned (.bool (decide (xs = ys))) ∧ Below w.heap.size w w' := by
  have HL : Hid (xs.length = n) := h.1
  have HL2 : Hid (ys.length = m) := h2.1
  by_cases hnm : n = m
  case neg =>
    have e0 : ((n : Int) != (m : Int)) = true := by simp; omega
    have HM : Hid (xs ≠ ys) := fun e => hnm (by rw [← HL.out, ← HL2.out, e])
    clear hnm
    go_enter Tryd.func20, Tryd.ntmps20
    go_wp2_with fail
    go_ret
    exact ⟨by rw [decide_eq_false HM.out]; rfl, Below.refl _ _⟩
  subst hnm
  go_enter Tryd.func20, Tryd.ntmps20
  go_wp2_with fail
  go_loopw [13] (fun a wr => ∃ k : Nat, k ≤ n ∧ a = .int .i64 k ∧ Hid (∀ j : Nat, j < k → xs[j]? = ys[j]?) ∧ Hid (Below w.heap.size w wr)) (fun a _ => n - (intOf a).toNat)
  case atStart => exact ⟨0, Nat.zero_le _, rfl, fun j hj => absurd hj (by omega), Below.refl _ _⟩
  case round =>
    obtain ⟨k, hk, rfl, HK, HB⟩ := hrel
    by_cases hlt : k < n
    · obtain ⟨b, off, x, rfl, _, hx, x0⟩ := (h.keep (w' := wr) fun p hp => HB.out.cell hp).at_ hlt
      obtain ⟨b2, off2, y, rfl, _, hy, y0⟩ := (h2.keep (w' := wr) fun p hp => HB.out.cell hp).at_ hlt
      have hki : (k : Int) < (n : Int) := by omega
      by_cases hv : x = y
      · have HK2 : Hid (∀ j : Nat, j < k + 1 → xs[j]? = ys[j]?) := fun j hj => by
          by_cases e : j = k
          · subst e; rw [hx.out, hy.out, hv]
          · exact HK.out j (by omega)
        subst hv
        clear hx hy
        cases x
        all_goals (
          go_wp2_with fail
          go_quiet (fail)
          have HBQ := Lib.hid (belowD HB.out nq)
          go_wp2_with fail
          go_roundw
          case rel => exact ⟨k + 1, by omega, by go_num, HK2, HBQ⟩
          case measure => simp [intOf]; omega)
      · have HM : Hid (xs ≠ ys) := fun e => hv (by have h3 := hx.out; rw [e, hy.out] at h3; injection h3 with h3; exact h3.symm)
        clear hx hy
        cases x <;> cases y
        · exact absurd rfl hv
        · clear hv
          go_wp2_with fail
          go_quiet (fail)
          have HBQ := Lib.hid (belowD HB.out nq)
          go_wp2_with fail
          go_ret
          exact ⟨by rw [decide_eq_false HM.out]; rfl, HBQ.out⟩
        · clear hv
          go_wp2_with fail
          go_quiet (fail)
          have HBQ := Lib.hid (belowD HB.out nq)
          go_wp2_with fail
          go_ret
          exact ⟨by rw [decide_eq_false HM.out]; rfl, HBQ.out⟩
        · exact absurd rfl hv
    · obtain rfl : k = n := by omega
      have HM : Hid (xs = ys) := by
        apply List.ext_getElem?
        intro j
        by_cases hj : j < k
        · exact HK.out j hj
        · rw [List.getElem?_eq_none (by rw [HL.out]; omega), List.getElem?_eq_none (by rw [HL2.out]; omega)]
      go_wp2_with fail
      go_ret
      exact ⟨by rw [decide_eq_true HM.out]; rfl, HB.out⟩
end Go.Proofs.YtmnadieblhdcpaaDoor
/- The document's Unset. -/
namespace Go.Proofs.YtmnadieblhdcpaaDoor
open Go.RowKit

/-- where the variables of Unset and of Loops lie: what is read stays -/
structure UnW (w w2 : World) (q : Cq) (W : World) : Prop where
  bel : Below w.heap.size w W
  bel2 : Below w2.heap.size w2 W
  bx : W.heap[w.heap.size]? = some q.obj
theorem UnW.on {w w2 W W' : World} {q : Cq} (h : UnW w w2 q W) (hb : Below W.heap.size W W') : UnW w w2 q W' :=
  ⟨h.bel.trans (hb.mono h.bel.size), h.bel2.trans (hb.mono h.bel2.size), keep_b hb h.bx⟩
theorem UnW.app {w w2 W w4 : World} {q : Cq} {c p : Nat} {A : Option Addr} {xs : List Int} (h : UnW w w2 q W) (hlt : w.heap.size < w2.heap.size) (ho : OwnI W w2.heap.size 3 A c xs) (hG : W.grownBy w4 (Value.slice A p c).ownBlock) : UnW w w2 q w4 := by
  have hr : ∀ k, (Value.slice A p c).ownBlock = some k → w2.heap.size ≤ k := by
    intro k hk
    rcases ho.1.2 with ⟨h1, _⟩ | ⟨g', cap, cur, h1, h2, _⟩
    · injection h1 with h1; rw [h1] at hk; cases hk
    · injection h1 with h1
      rw [h1] at hk
      simp only [Value.ownBlock, Option.some.injEq] at hk
      omega
  have hsz := h.bel2.size
  refine ⟨h.bel.grown hG h.bel.size fun k hk => by have := hr k hk; omega, h.bel2.grown hG hsz hr, (hG.block _ (by omega) fun e => ?_).trans h.bx⟩
  have := hr _ e.symm
  omega
set_option maxRecDepth 100000 in
set_option maxHeartbeats 8000000 in
theorem refUnset15_any (q : Cq) (w : World) (hq : q.In w) : Calls Tryd.prog 15 #[q.val] w (UnsetP q w) := by
  have HQ := Lib.hid hq
  obtain ⟨R, A, I, P, n, c, l⟩ := q
  have HLN : Hid (l.length = n) := hq.len
  obtain ⟨W0, hW0⟩ : ∃ W, w.alloc (Cq.obj ⟨R, A, I, P, n, c, l⟩) = W := ⟨_, rfl⟩
  have HB0 : Hid (Below w.heap.size w W0) := by rw [← hW0]; exact lvBelow w _
  have HX0 : Hid (W0.heap[w.heap.size]? = some (Cq.obj ⟨R, A, I, P, n, c, l⟩)) := by rw [← hW0]; exact heap_alloc_new w _
  have hC := refReach15_any ⟨R, A, I, P, n, c, l⟩ W0 (hq.on HB0.out)
  unfold ReachP at hC
  obtain ⟨k0, k1, k2, k3, _⟩ := lvCells HX0.out
  clear hq
  cases hm : Cd.may (Cq.cd ⟨R, A, I, P, n, c, l⟩) with
  | false =>
    have HE := Lib.hid (Cd.e_no hm)
    have HD : Hid (unsetC (Cq.cd ⟨R, A, I, P, n, c, l⟩) = []) := by unfold Hid unsetC; rw [hm]; rfl
    rw [HE.out] at hC
    clear hm
    go_enter Tryd.func15, Tryd.ntmps15
    go_wp2_with fail
    try rw [hW0]
    refine hC.mono ?_
    rintro e w1 ⟨A1, n1, c1, rfl, _, hb⟩
    have HB1 := Lib.hid (HB0.out.trans (hb.mono HB0.out.size))
    clear hb hC k0 k1 k2 k3
    go_wp2_with fail
    go_ret2
    exact ⟨none, 0, 0, by rw [HE.out]; rfl, by rw [HD.out]; exact OwnI.ints (OwnI.nil_ _ 0 3), HB1.out⟩
  | true =>
    have HE := Lib.hid (Cd.e_yes hm)
    have HD : Hid (unsetC (Cq.cd ⟨R, A, I, P, n, c, l⟩) = (unsetN (Cq.cd ⟨R, A, I, P, n, c, l⟩)).map (fun n : Nat => (n : Int))) := by unfold Hid unsetC; rw [hm]; rfl
    have HRC : Hid (reachC (Cq.cd ⟨R, A, I, P, n, c, l⟩) = reachB (Cq.cd ⟨R, A, I, P, n, c, l⟩) (-1)) := by unfold Hid reachC; rw [hm]; rfl
    have HSC : Hid (setC (Cq.cd ⟨R, A, I, P, n, c, l⟩) = setsN (Cq.cd ⟨R, A, I, P, n, c, l⟩)) := by unfold Hid setC; rw [hm]; rfl
    have HM := Lib.hid hm
    obtain ⟨⟨hR0, hR1, _, _, _, _, hl0, hl1⟩, _⟩ := Cd.may_parts hm
    have hR0 : 0 ≤ R := hR0
    have hR1 : R ≤ 128 := hR1
    have hl1 : l.length ≤ 4096 := hl1
    rw [HLN.out] at hl1
    have HXO : Hid (∀ x ∈ l, x.ok) := HQ.out.ins.2.1
    obtain ⟨i1, hi1, hy0, hy1, hy2⟩ := info_parts infoInt
    rw [HE.out, HRC.out] at hC
    clear hm
    go_enter Tryd.func15, Tryd.ntmps15
    go_wp2_with fail
    try rw [hW0]
    refine hC.mono ?_
    rintro e w1 ⟨A1, n1, c1, rfl, hO, hb⟩
    have HB1 := Lib.hid (HB0.out.trans (hb.mono HB0.out.size))
    have HX1 := Lib.hid (keep_b hb HX0.out)
    have hn1 : n1 = n := by rw [← hO.1, reachB_len]; exact HLN.out
    subst hn1
    have HO1 := Lib.hid hO
    clear hb hC hO k0 k1 k2 k3 hW0
    have hC2 := refSet15_any ⟨R, A, I, P, n1, c, l⟩ w1 (HQ.out.on HB1.out)
    unfold SetP at hC2
    rw [HE.out, HSC.out] at hC2
    obtain ⟨k0, k1, k2, k3, _⟩ := lvCells HX1.out
    go_wp2_with fail
    refine hC2.mono ?_
    rintro e w2 ⟨A2, n2, c2, rfl, hO2, _, hb⟩
    have HB2 := Lib.hid (HB1.out.trans (hb.mono HB1.out.size))
    have HX2 := Lib.hid (keep_b hb HX1.out)
    have hn2 : n2 = n1 := by rw [← hO2.1, setsN_len]; exact HLN.out
    subst hn2
    have HO := Lib.hid (HO1.out.on hb)
    have HS2 := Lib.hid hO2
    clear hb hC2 hO2 k0 k1 k2 k3 HO1
    obtain ⟨k0, k1, k2, k3, _⟩ := lvCells HX2.out
    have HLT : Hid (w.heap.size < w2.heap.size) := lt_of_heap HX2.out
    have HW2 : Hid (UnW w w2 ⟨R, A, I, P, n2, c, l⟩ w2) := ⟨HB2.out, Below.refl _ _, HX2.out⟩
    obtain ⟨cd, hcd⟩ : ∃ cd, Cq.cd ⟨R, A, I, P, n2, c, l⟩ = cd := ⟨_, rfl⟩
    have HCL : Hid (cd.l.length = n2) := by rw [← hcd]; exact HLN
    have HCE : Hid (cd.l = l) := by rw [← hcd]; rfl
    have HRR : Hid (cd.R.toNat ≤ 128) := by rw [← hcd]; exact Lib.hid (by show R.toNat ≤ 128; omega)
    rw [hcd] at HO HD HE HM HS2
    have HCD := Lib.hid hcd
    clear hcd
    go_wp2_with fail
    clear k0 k1 k2 k3
    go_loopw [8, 30] (fun v a wr => ∃ (i p : Nat) (A' : Option Addr) (c' : Nat), i ≤ n2 ∧ a = .int .i64 i ∧ v = .slice A' p c' ∧ p ≤ i ∧ Hid ((flN (unsetB cd) i).length = p) ∧ Hid (OwnI wr w2.heap.size 3 A' c' (flN (unsetB cd) i)) ∧ Hid (UnW w w2 ⟨R, A, I, P, n2, c, l⟩ wr)) (fun _ a _ => n2 - (intOf a).toNat)
    case atStart => exact ⟨0, 0, none, 0, Nat.zero_le _, rfl, rfl, Nat.le_refl _, rfl, OwnI.nil_ _ _ _, HW2⟩
    case round =>
      obtain ⟨i, p, A', c', hi, rfl, rfl, hpi, HPL, HO4, HW⟩ := hrel
      by_cases hin : i < n2
      case neg =>
        obtain rfl : i = n2 := by omega
        go_wp2_with fail
        go_ret2
        have hrd := HO4.out.ints
        rw [HPL.out] at hrd
        refine ⟨A', p, c', by rw [HCD.out, HE.out]; rfl, ?_, HW.out.bel⟩
        rw [HCD.out, HD.out]
        rw [← HCL.out] at hrd
        exact hrd
      have hii : (i : Int) < (n2 : Int) := by omega
      obtain ⟨b, off, x, hA, hbb, HX, ⟨y0, y1, y2, y3, y4⟩, hxo⟩ := ((HQ.out.on HW.out.bel).ins).at_ hin
      subst hA
      have HXC : Hid (cd.l[i]? = some x) := by unfold Hid; rw [HCE.out]; exact HX.out
      have HXK := Lib.hid hxo
      obtain ⟨W4, hW4⟩ : ∃ W, wr.alloc x.obj = W := ⟨_, rfl⟩
      obtain ⟨g4, hg4⟩ : ∃ z, wr.heap.size = z := ⟨_, rfl⟩
      have hb4 : Below wr.heap.size wr W4 := by rw [← hW4]; exact lvBelow _ _
      have HW4 := Lib.hid (HW.out.on hb4)
      have HO5 := Lib.hid (HO4.out.below hb4 (Nat.le_refl _))
      have HY4 : Hid (W4.heap[g4]? = some x.obj) := by rw [← hW4, ← hg4]; exact newJ wr x
      have HWQ := Lib.hid hW4
      clear hbb hxo hb4 hW4 HX
      go_upto_region 9 with fail
      try rw [HWQ.out]
      try rw [hg4]
      clear hg4 HWQ y0 y1 y2 y3 y4
      obtain ⟨⟨y0, y1, y2, y3, y4⟩, _⟩ := box_cellsJ HY4.out
      have hNx := refReads_any x W4 HXK.out
      unfold ReadsP at hNx
      have hnx2 : (readsJ x).length ≤ 3 := readsJ_length x
      obtain ⟨nx, hnx⟩ : ∃ z, readsJ x = z := ⟨_, rfl⟩
      rw [hnx] at hNx hnx2
      have HNX := Lib.hid hnx
      obtain ⟨m, hm⟩ : ∃ m, nx.length = m := ⟨_, rfl⟩
      rw [hm] at hNx hnx2
      have HML := Lib.hid hm
      clear hnx hm
      go_wp2_with fail
      (with_reducible refine hNx.mono ?_)
      rintro e w6 ⟨A6, c6, rfl, hO6, hb⟩
      have HW6 := Lib.hid (HW4.out.on hb)
      have HO7 := Lib.hid (HO5.out.below hb (Nat.le_refl _))
      have HN6 := Lib.hid hO6
      obtain ⟨ba, offa, v, hA1, _, hv, _⟩ := (HO.out.keep fun p hp => HW6.out.bel2.cell hp).at_ hin
      subst hA1
      have HV := Lib.hid (reachB_iff hv.out)
      have HVA := hv
      clear hb hO6 hNx y0 y1 y2 y3 y4
      go_wp2_with fail
      go_loopw [11, 38] (fun bv a wr => ∃ (j : Nat) (bb : Bool), j ≤ m ∧ a = .int .i64 j ∧ bv = .bool bb ∧ Hid (bb = true ↔ Way cd.l (-1) i ∧ ∃ j2, j2 < j ∧ ∃ r, nx[j2]? = some r ∧ r ∉ setN cd i) ∧ Hid (OwnI wr W4.heap.size 3 A6 c6 nx) ∧ Hid (OwnI wr w2.heap.size 3 A' c' (flN (unsetB cd) i)) ∧ Hid (UnW w w2 ⟨R, A, I, some ⟨b, off, none⟩, n2, c, l⟩ wr)) (fun _ a _ => m - (intOf a).toNat)
      case atStart => exact ⟨0, false, Nat.zero_le _, rfl, rfl, ⟨fun h => (by cases h), fun h => (by obtain ⟨_, j2, h2, _⟩ := h; omega)⟩, HN6, HO7, HW6⟩
      case round =>
        obtain ⟨j, bb, hj, rfl, rfl, HBB, HN, HOU, HW7⟩ := hrel
        by_cases hjm : j < m
        case neg =>
          obtain rfl : j = m := by omega
          have HB : Hid (unsetB cd i = bb) := unsetB_of HXC.out (by
            rw [HBB.out, HNX.out]
            constructor
            · rintro ⟨h1, j2, _, r, h3, h4⟩
              exact ⟨h1, r, List.mem_of_getElem? h3, h4⟩
            · rintro ⟨h1, r, h3, h4⟩
              obtain ⟨j2, h5⟩ := List.mem_iff_getElem?.1 h3
              exact ⟨h1, j2, by have := (List.getElem?_eq_some_iff.1 h5).1; have := HML.out; omega, r, h5, h4⟩)
          cases bb with
          | false =>
            have HFL : Hid (flN (unsetB cd) (i + 1) = flN (unsetB cd) i) := flN_no HB.out
            go_wp2_with fail
            go_roundw
            case rel => exact ⟨i + 1, p, A', c', by omega, by go_num, rfl, by omega, by rw [HFL.out]; exact HPL, by rw [HFL.out]; exact HOU, HW7⟩
            case measure => simp [intOf]; omega
          | true =>
            have HFL : Hid (flN (unsetB cd) (i + 1) = flN (unsetB cd) i ++ [(i : Int)]) := flN_yes HB.out
            have hsz : w2.heap.size ≤ wr.heap.size := HW7.out.bel2.size
            have HWA : Hid (UnW w w2 ⟨R, A, I, some ⟨b, off, none⟩, n2, c, l⟩ (wr.alloc (.cells #[.int .i64 (i : Int)] 3))) := HW7.out.on (lvBelow _ _)
            go_wp2_with (at_builtin; refine wpList_appendWhere _ rfl (.tmp 60) (.tmp 62) 34 rfl w2.heap.size 3 i1 Tryd.underlying34 hi1 hy0 hy1 hy2 A' (some ⟨wr.heap.size, 0, none⟩) c' 1 1 (wr.heap.size + 1) p (p + 1) (flN (unsetB cd) i) [(i : Int)] rfl rfl (HOU.out.alloc _) HPL.out rfl (src_new wr ⟨by omega, by omega⟩) (by omega) (by simp; omega) ?_; intro A8 c8 w8 hO8 hG8 _; have HO8 := Lib.hid hO8; have HW8 := Lib.hid (HWA.out.app HLT.out (HOU.out.alloc _) hG8); clear hO8 hG8)
            go_roundw
            case rel => exact ⟨i + 1, p + 1, A8, c8, by omega, by go_num, rfl, by omega, by unfold Hid; rw [HFL.out, List.length_append, HPL.out]; rfl, by rw [HFL.out]; exact HO8, HW8⟩
            case measure => simp [intOf]; omega
        obtain ⟨z, hz⟩ : ∃ z, nx[j]? = some z := ⟨_, List.getElem?_eq_getElem (by rw [HML.out]; exact hjm)⟩
        have hjj : (j : Int) < (m : Int) := by omega
        obtain ⟨g6, rfl, z0⟩ := own_at15 HN.out hz
        have HZ := Lib.hid hz
        obtain ⟨ba2, offa2, v2, hA2, _, hv2, v0⟩ := (HO.out.keep fun p hp => HW7.out.bel2.cell hp).at_ hin
        injection hA2 with hA2; injection hA2 with hA2 hA3
        subst hA2; subst hA3
        have hvv : v2 = v := by have h1 := hv2.out; rw [HVA.out] at h1; injection h1 with h1; exact h1.symm
        subst hvv
        clear hz hv2
        cases bb with
        | true =>
          have HB2 : Hid (true = true ↔ Way cd.l (-1) i ∧ ∃ j2, j2 < j + 1 ∧ ∃ r, nx[j2]? = some r ∧ r ∉ setN cd i) := ⟨fun _ => by
            obtain ⟨h1, j2, h2, h3⟩ := HBB.out.1 rfl
            exact ⟨h1, j2, by omega, h3⟩, fun _ => rfl⟩
          go_wp2_with fail
          go_roundw
          case rel => exact ⟨j + 1, true, by omega, by go_num, rfl, by first | exact HB2 | exact Lib.hid (by simpa using HB2.out), HN, HOU, HW7⟩
          case measure => simp [intOf]; omega
        | false =>
          cases v2 with
          | false =>
            have HB2 : Hid (false = true ↔ Way cd.l (-1) i ∧ ∃ j2, j2 < j + 1 ∧ ∃ r, nx[j2]? = some r ∧ r ∉ setN cd i) := ⟨fun h => (by cases h), fun h => by
              have := HV.out.2 h.1
              cases this⟩
            go_wp2_with fail
            go_roundw
            case rel => exact ⟨j + 1, false, by omega, by go_num, rfl, by first | exact HB2 | exact Lib.hid (by simpa using HB2.out), HN, HOU, HW7⟩
            case measure => simp [intOf]; omega
          | true =>
            obtain ⟨bs, offs, L, a9, c9, hA4, _, hL, s0, _, hLI⟩ := (HS2.out.below HW7.out.bel2).at_ hin
            subst hA4
            have hLs : L = setN cd i := setsN_at hL.out
            have hIn := refIn15_any a9 L.length c9 L z wr (hLI.more HW7.out.bel2.size) (by rw [hLs]; have := setN_len cd i; have := HRR.out; omega)
            rw [hLs] at hIn s0
            obtain ⟨sl, hsl⟩ : ∃ k, (setN cd i).length = k := ⟨_, rfl⟩
            rw [hsl] at hIn s0
            clear hLI hLs hL hsl
            by_cases hd : z ∉ setN cd i
            · rw [decide_eq_false hd] at hIn
              have HB2 : Hid (true = true ↔ Way cd.l (-1) i ∧ ∃ j2, j2 < j + 1 ∧ ∃ r, nx[j2]? = some r ∧ r ∉ setN cd i) := ⟨fun _ => ⟨HV.out.1 rfl, j, by omega, z, HZ.out, hd⟩, fun _ => rfl⟩
              clear hd
              go_wp2_with fail
              (with_reducible refine hIn.mono ?_)
              rintro e w9 ⟨rfl, hb⟩
              have HN9 := Lib.hid (HN.out.below hb (Nat.le_refl _))
              have HOU9 := Lib.hid (HOU.out.below hb (Nat.le_refl _))
              have HW9 := Lib.hid (HW7.out.on hb)
              clear hb hIn
              go_wp2_with fail
              go_roundw
              case rel => exact ⟨j + 1, true, by omega, by go_num, rfl, by first | exact HB2 | exact Lib.hid (by simpa using HB2.out), HN9, HOU9, HW9⟩
              case measure => simp [intOf]; omega
            · rw [decide_eq_true (Classical.not_not.1 hd)] at hIn
              have HB2 : Hid (false = true ↔ Way cd.l (-1) i ∧ ∃ j2, j2 < j + 1 ∧ ∃ r, nx[j2]? = some r ∧ r ∉ setN cd i) := ⟨fun h => (by cases h), fun h => by
                obtain ⟨h1, j2, h2, r, h3, h4⟩ := h
                by_cases e : j2 = j
                · subst e
                  rw [HZ.out] at h3
                  injection h3 with h3
                  subst h3
                  exact absurd h4 hd
                · exact absurd (HBB.out.2 ⟨h1, j2, by omega, r, h3, h4⟩) (by decide)⟩
              clear hd
              go_wp2_with fail
              (with_reducible refine hIn.mono ?_)
              rintro e w9 ⟨rfl, hb⟩
              have HN9 := Lib.hid (HN.out.below hb (Nat.le_refl _))
              have HOU9 := Lib.hid (HOU.out.below hb (Nat.le_refl _))
              have HW9 := Lib.hid (HW7.out.on hb)
              clear hb hIn
              go_wp2_with fail
              go_roundw
              case rel => exact ⟨j + 1, false, by omega, by go_num, rfl, by first | exact HB2 | exact Lib.hid (by simpa using HB2.out), HN9, HOU9, HW9⟩
              case measure => simp [intOf]; omega
end Go.Proofs.YtmnadieblhdcpaaDoor
/- Loops, whose answer lies in blocks of the call's own. -/
namespace Go.Proofs.YtmnadieblhdcpaaDoor
open Go.RowKit

def LoopsF (q : Cq) (w : World) (e : Ending) (w' : World) : Prop := ∃ A n c, e = .returned (.tuple #[.slice A n c, .int .i64 q.cd.e]) ∧ Ints w' w'.heap.size A n (loopsC q.cd) ∧ (∀ b o, A = some ⟨b, o, none⟩ → w.heap.size ≤ b) ∧ Below w.heap.size w w'
theorem LoopsF.plain {q : Cq} {w w' : World} {e : Ending} (h : LoopsF q w e w') : LoopsP q w e w' := by
  obtain ⟨A, n, c, h1, h2, _, h3⟩ := h
  exact ⟨A, n, c, h1, h2, h3⟩
theorem OwnI.farJ {w : World} {base c : Nat} {e : TypeId} {A : Option Addr} {xs : List Int} (h : OwnI w base e A c xs) : ∀ b o, A = some ⟨b, o, none⟩ → base ≤ b := fun b o hA => by
  rcases h.1.2 with ⟨h1, _⟩ | ⟨g, cap, cur, h1, h2, _⟩
  · injection h1 with h1; rw [hA] at h1; cases h1
  · injection h1 with h1
    rw [hA] at h1
    injection h1 with h1; injection h1 with h1
    omega
/-- what changed is one block -/
structure OffG (g : Nat) (w w' : World) : Prop where
  size : w.heap.size ≤ w'.heap.size
  block : ∀ b, b ≠ g → w'.heap[b]? = w.heap[b]?
section
variable {g n B : Nat} {w w' : World} {A : Option Addr}
theorem OffG.refl (g : Nat) (w : World) : OffG g w w := ⟨Nat.le_refl _, fun _ _ => rfl⟩
theorem OffG.set (h : OffG g w w') (o : Nat) (v : Value) : OffG g w (w'.setCell ⟨g, o, none⟩ v) :=
  ⟨Nat.le_trans h.size ((Below.refl g w').setCell (p := ⟨g, o, none⟩) (Nat.le_refl _) v).size, fun b hb => (Below.heap_setCell _ ⟨g, o, none⟩ _ _ hb).trans (h.block b hb)⟩
theorem OffG.cell (h : OffG g w w') {p : Addr} (hp : p.block ≠ g) : w'.cell? p = w.cell? p := World.cell?_of_block (h.block _ hp)
theorem Ints.offG {xs : List Int} (h : Ints w B A n xs) (hO : OffG g w w') (hA : ∀ b o, A = some ⟨b, o, none⟩ → b < B → b ≠ g) : Ints w' B A n xs := by
  obtain ⟨h1, h2, h3⟩ := h
  refine ⟨h1, h2, fun h0 => ?_⟩
  obtain ⟨b, off, e, hb, hc⟩ := h3 h0
  exact ⟨b, off, e, hb, fun k x hx => (hO.cell (hA b off e hb)).trans (hc k x hx)⟩
theorem Jis.offG {xs : List Ji} (h : Jis w B A n xs) (hO : OffG g w w') (hA : ∀ b o, A = some ⟨b, o, none⟩ → b < B → b ≠ g) : Jis w' B A n xs := by
  obtain ⟨h1, h2, h3⟩ := h
  refine ⟨h1, h2, fun h0 => ?_⟩
  obtain ⟨b, off, e, hb, hc⟩ := h3 h0
  exact ⟨b, off, e, hb, fun k x hx i hi => (hO.cell (hA b off e hb)).trans (hc k x hx i hi)⟩
end
/-- a block of instructions, from the i-th on as they were -/
def RestJ (w : World) (g i : Nat) (l : List Ji) : Prop := ∃ cs : List Value, w.heap[g]? = some (.cells cs.toArray 40 (0, 0)) ∧ ∀ k x, i ≤ k → l[k]? = some x → ∀ j, j < 5 → cs[5 * k + j]? = some (.int .i64 (x.at j))
theorem RestJ.at_ {w : World} {g i : Nat} {l : List Ji} (h : RestJ w g i l) {x : Ji} (hx : l[i]? = some x) : CellsJ w g (i * 5) x ∧ w.frozen? ⟨g, i * 5, none⟩ = false := by
  obtain ⟨cs, hg, hc⟩ := h
  have e : i * 5 = 5 * i := by omega
  have hb := fun j hj => (blk_cell hg (hc i x (Nat.le_refl _) hx j hj)).1
  have hf := (blk_cell hg (hc i x (Nat.le_refl _) hx 0 (by omega))).2
  rw [e]
  exact ⟨⟨hb 0 (by omega), hb 1 (by omega), hb 2 (by omega), hb 3 (by omega), hb 4 (by omega)⟩, hf⟩
theorem RestJ.put {w : World} {g i : Nat} {l : List Ji} (h : RestJ w g i l) (v : Value) : RestJ (w.setCell ⟨g, i * 5, none⟩ v) g (i + 1) l := by
  obtain ⟨cs, hg, hc⟩ := h
  refine ⟨cs.set (i * 5) v, set_j hg _, fun k x hk hx j hj => ?_⟩
  rw [List.getElem?_set_ne (by omega)]
  exact hc k x (by omega) hx j hj
theorem OwnJ.rest {w : World} {base c : Nat} {A : Option Addr} {l : List Ji} (h : OwnJ w base A c l) (h0 : 0 < l.length) : ∃ g, A = some ⟨g, 0, none⟩ ∧ base ≤ g ∧ g < w.heap.size ∧ RestJ w g 0 l := by
  rcases h.2 with ⟨_, h1⟩ | ⟨g, cap, cur, hv, hb, hg, _, _, _, hr⟩
  · omega
  · have hA : A = some ⟨g, 0, none⟩ := by injection hv
    refine ⟨g, hA, hb, (Array.getElem?_eq_some_iff.1 hg).1, cur.toList, by simpa using hg, fun k x _ hx j hj => ?_⟩
    have c1 := cellsJ_at hx hj
    rw [← hr, List.getElem?_take] at c1
    split at c1
    · exact c1
    · cases c1
theorem OwnJ.far {w : World} {base c : Nat} {A : Option Addr} {l : List Ji} (h : OwnJ w base A c l) : ∀ b o, A = some ⟨b, o, none⟩ → base ≤ b := fun b o hA => by
  rcases h.heap with h1 | ⟨g, cur, h1, h2, _⟩
  · rw [hA] at h1; cases h1
  · rw [hA] at h1
    injection h1 with h1; injection h1 with h1
    omega
end Go.Proofs.YtmnadieblhdcpaaDoor
/- The document's Loops. -/
namespace Go.Proofs.YtmnadieblhdcpaaDoor
open Go.RowKit

set_option maxRecDepth 100000 in
set_option maxHeartbeats 8000000 in
theorem refLoops15_far (q : Cq) (w : World) (hq : q.In w) : Calls Tryd.prog 19 #[q.val] w (LoopsF q w) := by
  have HQ := Lib.hid hq
  obtain ⟨R, A, I, P, n, c, l⟩ := q
  have HLN : Hid (l.length = n) := hq.len
  obtain ⟨W0, hW0⟩ : ∃ W, w.alloc (Cq.obj ⟨R, A, I, P, n, c, l⟩) = W := ⟨_, rfl⟩
  have HB0 : Hid (Below w.heap.size w W0) := by rw [← hW0]; exact lvBelow w _
  have HX0 : Hid (W0.heap[w.heap.size]? = some (Cq.obj ⟨R, A, I, P, n, c, l⟩)) := by rw [← hW0]; exact heap_alloc_new w _
  have hC := refReach15_any ⟨R, A, I, P, n, c, l⟩ W0 (hq.on HB0.out)
  unfold ReachP at hC
  obtain ⟨k0, k1, k2, k3, _⟩ := lvCells HX0.out
  clear hq
  cases hm : Cd.may (Cq.cd ⟨R, A, I, P, n, c, l⟩) with
  | false =>
    have HE := Lib.hid (Cd.e_no hm)
    have HD : Hid (loopsC (Cq.cd ⟨R, A, I, P, n, c, l⟩) = []) := by unfold Hid loopsC; rw [hm]; rfl
    rw [HE.out] at hC
    clear hm
    go_enter Tryd.func19, Tryd.ntmps19
    go_wp2_with fail
    try rw [hW0]
    refine hC.mono ?_
    rintro e w1 ⟨A1, n1, c1, rfl, _, hb⟩
    have HB1 := Lib.hid (HB0.out.trans (hb.mono HB0.out.size))
    clear hb hC k0 k1 k2 k3
    go_wp2_with fail
    go_ret2
    exact ⟨none, 0, 0, by rw [HE.out]; rfl, by rw [HD.out]; exact OwnI.ints (OwnI.nil_ _ 0 3), fun b o h => (by cases h), HB1.out⟩
  | true =>
    have HE := Lib.hid (Cd.e_yes hm)
    have HD : Hid (loopsC (Cq.cd ⟨R, A, I, P, n, c, l⟩) = (loopsN (Cq.cd ⟨R, A, I, P, n, c, l⟩)).map (fun n : Nat => (n : Int))) := by unfold Hid loopsC; rw [hm]; rfl
    have HRC : Hid (reachC (Cq.cd ⟨R, A, I, P, n, c, l⟩) = reachB (Cq.cd ⟨R, A, I, P, n, c, l⟩) (-1)) := by unfold Hid reachC; rw [hm]; rfl
    have HSC : Hid (setC (Cq.cd ⟨R, A, I, P, n, c, l⟩) = setsN (Cq.cd ⟨R, A, I, P, n, c, l⟩)) := by unfold Hid setC; rw [hm]; rfl
    have HM := Lib.hid hm
    obtain ⟨⟨hR0, hR1, _, _, _, _, hl0, hl1⟩, _⟩ := Cd.may_parts hm
    have hR0 : 0 ≤ R := hR0
    have hR1 : R ≤ 128 := hR1
    have hl1 : l.length ≤ 4096 := hl1
    rw [HLN.out] at hl1
    have HXO : Hid (∀ x ∈ l, x.ok) := HQ.out.ins.2.1
    obtain ⟨i1, hi1, hy0, hy1, hy2⟩ := info_parts infoInt
    rw [HE.out, HRC.out] at hC
    clear hm
    go_enter Tryd.func19, Tryd.ntmps19
    go_wp2_with fail
    try rw [hW0]
    refine hC.mono ?_
    rintro e w1 ⟨A1, n1, c1, rfl, hO, hb⟩
    have HB1 := Lib.hid (HB0.out.trans (hb.mono HB0.out.size))
    have HX1 := Lib.hid (keep_b hb HX0.out)
    have hn1 : n1 = n := by rw [← hO.1, reachB_len]; exact HLN.out
    subst hn1
    have HO1 := Lib.hid hO
    clear hb hC hO k0 k1 k2 k3 hW0
    obtain ⟨w2, rfl⟩ : ∃ w2 : World, w2 = w1 := ⟨_, rfl⟩
    obtain ⟨n2, rfl⟩ : ∃ n2 : Nat, n2 = n1 := ⟨_, rfl⟩
    have HB2 := HB1
    have HX2 := HX1
    have HO := HO1
    clear HO1
    obtain ⟨k0, k1, k2, k3, _⟩ := lvCells HX2.out
    have HLT : Hid (w.heap.size < w2.heap.size) := lt_of_heap HX2.out
    have HW2 : Hid (UnW w w2 ⟨R, A, I, P, n2, c, l⟩ w2) := ⟨HB2.out, Below.refl _ _, HX2.out⟩
    obtain ⟨cd, hcd⟩ : ∃ cd, Cq.cd ⟨R, A, I, P, n2, c, l⟩ = cd := ⟨_, rfl⟩
    have HCL : Hid (cd.l.length = n2) := by rw [← hcd]; exact HLN
    have HCE : Hid (cd.l = l) := by rw [← hcd]; rfl
    have HRR : Hid (cd.R.toNat ≤ 128) := by rw [← hcd]; exact Lib.hid (by show R.toNat ≤ 128; omega)
    rw [hcd] at HO HD HE HM
    have HCD := Lib.hid hcd
    clear hcd
    go_wp2_with fail
    clear k0 k1 k2 k3
    go_loopw [6, 23] (fun v a wr => ∃ (i p : Nat) (A' : Option Addr) (c' : Nat), i ≤ n2 ∧ a = .int .i64 i ∧ v = .slice A' p c' ∧ p ≤ i ∧ Hid ((flN (loopsB cd) i).length = p) ∧ Hid (OwnI wr w2.heap.size 3 A' c' (flN (loopsB cd) i)) ∧ Hid (UnW w w2 ⟨R, A, I, P, n2, c, l⟩ wr)) (fun _ a _ => n2 - (intOf a).toNat)
    case atStart => exact ⟨0, 0, none, 0, Nat.zero_le _, rfl, rfl, Nat.le_refl _, rfl, OwnI.nil_ _ _ _, HW2⟩
    case round =>
      obtain ⟨i, p, A', c', hi, rfl, rfl, hpi, HPL, HO4, HW⟩ := hrel
      by_cases hin : i < n2
      case neg =>
        obtain rfl : i = n2 := by omega
        go_wp2_with fail
        go_ret2
        have hrd := HO4.out.ints
        rw [HPL.out] at hrd
        refine ⟨A', p, c', by rw [HCD.out, HE.out]; rfl, ?_, fun b o h => (by have h1 := HO4.out.farJ b o h; have h2 := HLT.out; omega), HW.out.bel⟩
        rw [HCD.out, HD.out]
        rw [← HCL.out] at hrd
        exact hrd
      have hii : (i : Int) < (n2 : Int) := by omega
      obtain ⟨b, off, x, hA, hbb, HX, ⟨y0, y1, y2, y3, y4⟩, hxo⟩ := ((HQ.out.on HW.out.bel).ins).at_ hin
      subst hA
      have HXC : Hid (cd.l[i]? = some x) := by unfold Hid; rw [HCE.out]; exact HX.out
      have HXK := Lib.hid hxo
      obtain ⟨W4, hW4⟩ : ∃ W, wr.alloc x.obj = W := ⟨_, rfl⟩
      obtain ⟨g4, hg4⟩ : ∃ z, wr.heap.size = z := ⟨_, rfl⟩
      have hb4 : Below wr.heap.size wr W4 := by rw [← hW4]; exact lvBelow _ _
      have HW4 := Lib.hid (HW.out.on hb4)
      have HO5 := Lib.hid (HO4.out.below hb4 (Nat.le_refl _))
      have HY4 : Hid (W4.heap[g4]? = some x.obj) := by rw [← hW4, ← hg4]; exact newJ wr x
      have HWQ := Lib.hid hW4
      clear hbb hxo hb4 hW4 HX
      go_upto_region 8 with fail
      try rw [HWQ.out]
      try rw [hg4]
      clear hg4 HWQ y0 y1 y2 y3 y4
      obtain ⟨⟨y0, y1, y2, y3, y4⟩, _⟩ := box_cellsJ HY4.out
      have hNx := refNext14_any x (i : Int) W4 HXK.out
      unfold NextP at hNx
      have hnx2 : (nextJ x (i : Int)).length ≤ 3 := Nat.le_trans (next_two15 x i) (by decide)
      obtain ⟨nx, hnx⟩ : ∃ z, nextJ x (i : Int) = z := ⟨_, rfl⟩
      rw [hnx] at hNx hnx2
      have HNX := Lib.hid hnx
      obtain ⟨m, hm⟩ : ∃ m, nx.length = m := ⟨_, rfl⟩
      rw [hm] at hNx hnx2
      have HML := Lib.hid hm
      clear hnx hm
      go_wp2_with fail
      (with_reducible refine hNx.mono ?_)
      rintro e w6 ⟨A6, c6, rfl, hO6, hb⟩
      have HW6 := Lib.hid (HW4.out.on hb)
      have HO7 := Lib.hid (HO5.out.below hb (Nat.le_refl _))
      have HN6 := Lib.hid hO6
      obtain ⟨ba, offa, v, hA1, _, hv, _⟩ := (HO.out.keep fun p hp => HW6.out.bel2.cell hp).at_ hin
      subst hA1
      have HV := Lib.hid (reachB_iff hv.out)
      have HVA := hv
      clear hb hO6 hNx y0 y1 y2 y3 y4
      go_wp2_with fail
      go_loopw [9, 32] (fun bv a wr => ∃ (j : Nat) (bb : Bool), j ≤ m ∧ a = .int .i64 j ∧ bv = .bool bb ∧ Hid (bb = true ↔ Way cd.l (-1) i ∧ ∃ j2, j2 < j ∧ ∃ r, nx[j2]? = some r ∧ r ≤ (i : Int)) ∧ Hid (OwnI wr W4.heap.size 3 A6 c6 nx) ∧ Hid (OwnI wr w2.heap.size 3 A' c' (flN (loopsB cd) i)) ∧ Hid (UnW w w2 ⟨R, A, I, some ⟨b, off, none⟩, n2, c, l⟩ wr)) (fun _ a _ => m - (intOf a).toNat)
      case atStart => exact ⟨0, false, Nat.zero_le _, rfl, rfl, ⟨fun h => (by cases h), fun h => (by obtain ⟨_, j2, h2, _⟩ := h; omega)⟩, HN6, HO7, HW6⟩
      case round =>
        obtain ⟨j, bb, hj, rfl, rfl, HBB, HN, HOU, HW7⟩ := hrel
        by_cases hjm : j < m
        case neg =>
          obtain rfl : j = m := by omega
          have HB : Hid (loopsB cd i = bb) := loopsB_of HXC.out (by
            rw [HBB.out, HNX.out]
            constructor
            · rintro ⟨h1, j2, _, r, h3, h4⟩
              exact ⟨h1, r, List.mem_of_getElem? h3, h4⟩
            · rintro ⟨h1, r, h3, h4⟩
              obtain ⟨j2, h5⟩ := List.mem_iff_getElem?.1 h3
              exact ⟨h1, j2, by have := (List.getElem?_eq_some_iff.1 h5).1; have := HML.out; omega, r, h5, h4⟩)
          cases bb with
          | false =>
            have HFL : Hid (flN (loopsB cd) (i + 1) = flN (loopsB cd) i) := flN_no HB.out
            go_wp2_with fail
            go_roundw
            case rel => exact ⟨i + 1, p, A', c', by omega, by go_num, rfl, by omega, by rw [HFL.out]; exact HPL, by rw [HFL.out]; exact HOU, HW7⟩
            case measure => simp [intOf]; omega
          | true =>
            have HFL : Hid (flN (loopsB cd) (i + 1) = flN (loopsB cd) i ++ [(i : Int)]) := flN_yes HB.out
            have hsz : w2.heap.size ≤ wr.heap.size := HW7.out.bel2.size
            have HWA : Hid (UnW w w2 ⟨R, A, I, some ⟨b, off, none⟩, n2, c, l⟩ (wr.alloc (.cells #[.int .i64 (i : Int)] 3))) := HW7.out.on (lvBelow _ _)
            go_wp2_with (at_builtin; refine wpList_appendWhere _ rfl (.tmp 50) (.tmp 52) 34 rfl w2.heap.size 3 i1 Tryd.underlying34 hi1 hy0 hy1 hy2 A' (some ⟨wr.heap.size, 0, none⟩) c' 1 1 (wr.heap.size + 1) p (p + 1) (flN (loopsB cd) i) [(i : Int)] rfl rfl (HOU.out.alloc _) HPL.out rfl (src_new wr ⟨by omega, by omega⟩) (by omega) (by simp; omega) ?_; intro A8 c8 w8 hO8 hG8 _; have HO8 := Lib.hid hO8; have HW8 := Lib.hid (HWA.out.app HLT.out (HOU.out.alloc _) hG8); clear hO8 hG8)
            go_roundw
            case rel => exact ⟨i + 1, p + 1, A8, c8, by omega, by go_num, rfl, by omega, by unfold Hid; rw [HFL.out, List.length_append, HPL.out]; rfl, by rw [HFL.out]; exact HO8, HW8⟩
            case measure => simp [intOf]; omega
        obtain ⟨z, hz⟩ : ∃ z, nx[j]? = some z := ⟨_, List.getElem?_eq_getElem (by rw [HML.out]; exact hjm)⟩
        have hjj : (j : Int) < (m : Int) := by omega
        obtain ⟨g6, rfl, z0⟩ := own_at15 HN.out hz
        have HZ := Lib.hid hz
        obtain ⟨ba2, offa2, v2, hA2, _, hv2, v0⟩ := (HO.out.keep fun p hp => HW7.out.bel2.cell hp).at_ hin
        injection hA2 with hA2; injection hA2 with hA2 hA3
        subst hA2; subst hA3
        have hvv : v2 = v := by have h1 := hv2.out; rw [HVA.out] at h1; injection h1 with h1; exact h1.symm
        subst hvv
        clear hz hv2
        cases bb with
        | true =>
          have HB2 : Hid (true = true ↔ Way cd.l (-1) i ∧ ∃ j2, j2 < j + 1 ∧ ∃ r, nx[j2]? = some r ∧ r ≤ (i : Int)) := ⟨fun _ => by
            obtain ⟨h1, j2, h2, h3⟩ := HBB.out.1 rfl
            exact ⟨h1, j2, by omega, h3⟩, fun _ => rfl⟩
          go_wp2_with fail
          go_roundw
          case rel => exact ⟨j + 1, true, by omega, by go_num, rfl, by first | exact HB2 | exact Lib.hid (by simpa using HB2.out), HN, HOU, HW7⟩
          case measure => simp [intOf]; omega
        | false =>
          cases v2 with
          | false =>
            have HB2 : Hid (false = true ↔ Way cd.l (-1) i ∧ ∃ j2, j2 < j + 1 ∧ ∃ r, nx[j2]? = some r ∧ r ≤ (i : Int)) := ⟨fun h => (by cases h), fun h => by
              have := HV.out.2 h.1
              cases this⟩
            go_wp2_with fail
            go_roundw
            case rel => exact ⟨j + 1, false, by omega, by go_num, rfl, by first | exact HB2 | exact Lib.hid (by simpa using HB2.out), HN, HOU, HW7⟩
            case measure => simp [intOf]; omega
          | true =>
            by_cases hd : z ≤ (i : Int)
            · have HB2 : Hid (true = true ↔ Way cd.l (-1) i ∧ ∃ j2, j2 < j + 1 ∧ ∃ r, nx[j2]? = some r ∧ r ≤ (i : Int)) := ⟨fun _ => ⟨HV.out.1 rfl, j, by omega, z, HZ.out, hd⟩, fun _ => rfl⟩
              have d0 : decide (z ≤ (i : Int)) = true := decide_eq_true hd
              go_wp2_with fail
              go_roundw
              case rel => exact ⟨j + 1, true, by omega, by go_num, rfl, by first | exact HB2 | exact Lib.hid (by simpa using HB2.out), HN, HOU, HW7⟩
              case measure => simp [intOf]; omega
            · have HB2 : Hid (false = true ↔ Way cd.l (-1) i ∧ ∃ j2, j2 < j + 1 ∧ ∃ r, nx[j2]? = some r ∧ r ≤ (i : Int)) := ⟨fun h => (by cases h), fun h => by
                obtain ⟨h1, j2, h2, r, h3, h4⟩ := h
                by_cases e : j2 = j
                · subst e
                  rw [HZ.out] at h3
                  injection h3 with h3
                  subst h3
                  exact absurd h4 hd
                · exact absurd (HBB.out.2 ⟨h1, j2, by omega, r, h3, h4⟩) (by decide)⟩
              have d0 : decide (z ≤ (i : Int)) = false := decide_eq_false hd
              go_wp2_with fail
              go_roundw
              case rel => exact ⟨j + 1, false, by omega, by go_num, rfl, by first | exact HB2 | exact Lib.hid (by simpa using HB2.out), HN, HOU, HW7⟩
              case measure => simp [intOf]; omega
theorem refLoops15_any (q : Cq) (w : World) (hq : q.In w) : Calls Tryd.prog 19 #[q.val] w (LoopsP q w) := (refLoops15_far q w hq).mono fun _ _ h => h.plain
end Go.Proofs.YtmnadieblhdcpaaDoor
/- The document's Check of what is surely set. -/
namespace Go.Proofs.YtmnadieblhdcpaaDoor
open Go.RowKit

/-- an instruction that writes where it may not -/
def badX (I : Int) (x : Ji) : Bool := (x.op == 7 || x.op == 9) && decide (x.a < I)
theorem validE_may {c : Cd} (h : c.may = false) : validE c = 1 := by unfold validE; rw [if_pos h]
theorem validE_unset {c : Cd} (h : c.may = true) (h2 : unsetN c ≠ []) : validE c = 7 := by unfold validE; rw [if_neg (by rw [h]; simp), if_pos h2]
theorem validE_range {c : Cd} (h : c.may = true) (h2 : unsetN c = []) (h3 : c.l.any (badX c.I) = true) : validE c = 3 := by
  unfold validE
  rw [if_neg (by rw [h]; simp), if_neg (by rw [h2]; simp)]
  exact if_pos h3
theorem validE_ok {c : Cd} (h : c.may = true) (h2 : unsetN c = []) (h3 : c.l.any (badX c.I) = false) : validE c = 0 := by
  unfold validE
  rw [if_neg (by rw [h]; simp), if_neg (by rw [h2]; simp)]
  exact if_neg (by show ¬ (c.l.any (badX c.I)) = true; rw [h3]; simp)
set_option maxRecDepth 100000 in
set_option maxHeartbeats 8000000 in
theorem refValid15_any (q : Cq) (w : World) (hq : q.In w) : Calls Tryd.prog 24 #[q.val] w (ValidP q w) := by
  have HQ := Lib.hid hq
  obtain ⟨R, A, I, P, n, c, l⟩ := q
  have HLN : Hid (l.length = n) := hq.len
  have hn0 : n ≤ 9223372036854775807 := hq.n1
  obtain ⟨W0, hW0⟩ : ∃ W, w.alloc (Cq.obj ⟨R, A, I, P, n, c, l⟩) = W := ⟨_, rfl⟩
  have HB0 : Hid (Below w.heap.size w W0) := by rw [← hW0]; exact lvBelow w _
  have HX0 : Hid (W0.heap[w.heap.size]? = some (Cq.obj ⟨R, A, I, P, n, c, l⟩)) := by rw [← hW0]; exact heap_alloc_new w _
  have hC := refUnset15_any ⟨R, A, I, P, n, c, l⟩ W0 (hq.on HB0.out)
  unfold UnsetP at hC
  obtain ⟨k0, k1, k2, k3, _⟩ := lvCells HX0.out
  clear hq
  cases hm : Cd.may (Cq.cd ⟨R, A, I, P, n, c, l⟩) with
  | false =>
    have HV : Hid (validE (Cq.cd ⟨R, A, I, P, n, c, l⟩) = 1) := validE_may hm
    have HE := Lib.hid (Cd.e_no hm)
    rw [HE.out] at hC
    clear hm
    go_enter Tryd.func24, Tryd.ntmps24
    go_wp2_with fail
    try rw [hW0]
    refine hC.mono ?_
    rintro e w1 ⟨A1, n1, c1, rfl, hU, hb⟩
    have HB1 := Lib.hid (HB0.out.trans (hb.mono HB0.out.size))
    have HX1 := Lib.hid (keep_b hb HX0.out)
    have hU1 : (unsetC (Cq.cd ⟨R, A, I, P, n, c, l⟩)).length = n1 := hU.1
    clear hb hC k0 k1 k2 k3 hW0 hU
    go_wp2_with fail
    go_ret
    exact ⟨by rw [HV.out]; rfl, HB1.out⟩
  | true =>
    have HM := Lib.hid hm
    have HUC : Hid (unsetC (Cq.cd ⟨R, A, I, P, n, c, l⟩) = (unsetN (Cq.cd ⟨R, A, I, P, n, c, l⟩)).map (fun n : Nat => (n : Int))) := by unfold Hid unsetC; rw [hm]; rfl
    have HE := Lib.hid (Cd.e_yes hm)
    rw [HE.out] at hC
    clear hm
    go_enter Tryd.func24, Tryd.ntmps24
    go_wp2_with fail
    try rw [hW0]
    refine hC.mono ?_
    rintro e w1 ⟨A1, n1, c1, rfl, hU, hb⟩
    have HB1 := Lib.hid (HB0.out.trans (hb.mono HB0.out.size))
    have HX1 := Lib.hid (keep_b hb HX0.out)
    have hU1 : (unsetC (Cq.cd ⟨R, A, I, P, n, c, l⟩)).length = n1 := hU.1
    clear hb hC k0 k1 k2 k3 hW0 hU
    rw [HUC.out, List.length_map] at hU1
    by_cases hz : n1 = 0
    case neg =>
      have HV : Hid (validE (Cq.cd ⟨R, A, I, P, n, c, l⟩) = 7) := validE_unset HM.out (fun e => hz (by rw [← hU1, e]; rfl))
      have z0 : (0 : Int) < (n1 : Int) := by omega
      clear hU1 hz
      go_wp2_with fail
      go_ret
      exact ⟨by rw [HV.out]; rfl, HB1.out⟩
    have HUN : Hid (unsetN (Cq.cd ⟨R, A, I, P, n, c, l⟩) = []) := List.eq_nil_of_length_eq_zero (by omega)
    subst hz
    clear hU1
    obtain ⟨k0, k1, k2, k3, _⟩ := lvCells HX1.out
    go_wp2_with fail
    clear k0 k1 k2 k3
    go_loopw [21] (fun a wr => ∃ k : Nat, k ≤ n ∧ a = .int .i64 k ∧ Hid ((l.take k).any (badX I) = false) ∧ Hid (Below w.heap.size w wr) ∧ Hid (wr.heap[w.heap.size]? = some (Cq.obj ⟨R, A, I, P, n, c, l⟩))) (fun a _ => n - (intOf a).toNat)
    case atStart => exact ⟨0, Nat.zero_le _, rfl, rfl, HB1, HX1⟩
    case round =>
      obtain ⟨k, hk, rfl, HK, HB, HX⟩ := hrel
      by_cases hkn : k < n
      case neg =>
        obtain rfl : k = n := by omega
        have HV : Hid (validE (Cq.cd ⟨R, A, I, P, k, c, l⟩) = 0) := validE_ok HM.out HUN.out (by have h := HK.out; rw [List.take_of_length_le (by rw [HLN.out]; exact Nat.le_refl _)] at h; exact h)
        go_wp2_with fail
        go_ret
        exact ⟨by rw [HV.out]; rfl, HB.out⟩
      obtain ⟨b, off, x, hA, hbb, HXX, ⟨y0, y1, y2, y3, y4⟩, hxo⟩ := ((HQ.out.on HB.out).ins).at_ hkn
      subst hA
      have hkk : (k : Int) < (n : Int) := by omega
      obtain ⟨W4, hW4⟩ : ∃ W, wr.alloc x.obj = W := ⟨_, rfl⟩
      obtain ⟨g4, hg4⟩ : ∃ z, wr.heap.size = z := ⟨_, rfl⟩
      have hb4 : Below wr.heap.size wr W4 := by rw [← hW4]; exact lvBelow _ _
      have HB4 := Lib.hid (HB.out.trans (hb4.mono HB.out.size))
      have HX4 := Lib.hid (keep_b hb4 HX.out)
      have HY4 : Hid (W4.heap[g4]? = some x.obj) := by rw [← hW4, ← hg4]; exact newJ wr x
      have HWQ := Lib.hid hW4
      have HXM : Hid (x ∈ l) := List.mem_of_getElem? HXX.out
      have HTK : Hid ((l.take (k + 1)).any (badX I) = badX I x) := by
        have := HXX.out
        unfold Hid
        rw [List.take_add_one, this, List.any_append, HK.out]; simp
      clear hbb hxo hb4 hW4
      go_upto_region 9 with fail
      try rw [HWQ.out]
      try rw [hg4]
      clear hg4 HWQ y0 y1 y2 y3 y4
      obtain ⟨⟨y0, y1, y2, y3, y4⟩, _⟩ := box_cellsJ HY4.out
      obtain ⟨k0, k1, k2, k3, _⟩ := lvCells HX4.out
      by_cases h79 : x.op = 7 ∨ x.op = 9
      · by_cases ha : x.a < I
        · have HBX : Hid (badX I x = true) := by
            unfold Hid badX
            rw [decide_eq_true ha]
            rcases h79 with h | h <;> rw [h] <;> rfl
          have HV : Hid (validE (Cq.cd ⟨R, A, I, some ⟨b, off, none⟩, n, c, l⟩) = 3) := validE_range HM.out HUN.out (List.any_eq_true.2 ⟨x, HXM.out, HBX.out⟩)
          have d0 : decide (x.a < I) = true := decide_eq_true ha
          clear ha
          rcases h79 with h | h
          · have e0 : (x.op == 7) = true := by rw [h]; rfl
            clear h
            go_wp2_with fail
            go_ret
            exact ⟨by rw [HV.out]; rfl, HB4.out⟩
          · have e0 : (x.op == 7) = false := by rw [h]; rfl
            have e1 : (x.op == 9) = true := by rw [h]; rfl
            clear h
            go_wp2_with fail
            go_ret
            exact ⟨by rw [HV.out]; rfl, HB4.out⟩
        · have HBX : Hid (badX I x = false) := by unfold Hid badX; rw [decide_eq_false ha, Bool.and_false]
          have HK2 : Hid ((l.take (k + 1)).any (badX I) = false) := HTK.out.trans HBX.out
          have d0 : decide (x.a < I) = false := decide_eq_false ha
          clear ha
          rcases h79 with h | h
          · have e0 : (x.op == 7) = true := by rw [h]; rfl
            clear h
            go_wp2_with fail
            go_roundw
            case rel => exact ⟨k + 1, by omega, by go_num, HK2, HB4, HX4⟩
            case measure => simp [intOf]; omega
          · have e0 : (x.op == 7) = false := by rw [h]; rfl
            have e1 : (x.op == 9) = true := by rw [h]; rfl
            clear h
            go_wp2_with fail
            go_roundw
            case rel => exact ⟨k + 1, by omega, by go_num, HK2, HB4, HX4⟩
            case measure => simp [intOf]; omega
      · have e0 : (x.op == 7) = false := by rw [beq_eq_false_iff_ne]; exact fun h => h79 (.inl h)
        have e1 : (x.op == 9) = false := by rw [beq_eq_false_iff_ne]; exact fun h => h79 (.inr h)
        have HBX : Hid (badX I x = false) := by unfold Hid badX; rw [e0, e1]; rfl
        have HK2 : Hid ((l.take (k + 1)).any (badX I) = false) := HTK.out.trans HBX.out
        clear h79
        go_wp2_with fail
        go_roundw
        case rel => exact ⟨k + 1, by omega, by go_num, HK2, HB4, HX4⟩
        case measure => simp [intOf]; omega
end Go.Proofs.YtmnadieblhdcpaaDoor
/- lexer.pass: where the next token begins, and whether a line ends ahead of it. -/
namespace Go.Proofs.YtmnadieblhdcpaaDoor
open Go.RowKit

/-- what is gone by ahead of a token: how many bytes, and whether a line ends (e: one has ended; i: within a remark) -/
def passL : Bool → Bool → List UInt8 → Nat × Bool
  | e, _, [] => (0, e)
  | e, i, c :: l =>
    if kb c = 2 then ((passL true false l).1 + 1, (passL true false l).2)
    else if kb c = 3 then ((passL e true l).1 + 1, (passL e true l).2)
    else if kb c ≠ 1 ∧ i = false then (0, e)
    else ((passL e i l).1 + 1, (passL e i l).2)
/-- the same, from a place on -/
def passAt (l : List UInt8) (k : Nat) (e i : Bool) : Nat × Bool := (k + (passL e i (l.drop k)).1, (passL e i (l.drop k)).2)
theorem drop_at {l : List UInt8} {k : Nat} {c : UInt8} (h : l[k]? = some c) : l.drop k = c :: l.drop (k + 1) := by
  obtain ⟨hk, e⟩ := List.getElem?_eq_some_iff.1 h
  rw [List.drop_eq_getElem_cons hk, e]
theorem passAt_end (l : List UInt8) (e i : Bool) : passAt l l.length e i = (l.length, e) := by
  unfold passAt
  rw [List.drop_of_length_le (Nat.le_refl _)]
  rfl
theorem passAt_line {l : List UInt8} {k : Nat} {c : UInt8} (h : l[k]? = some c) (hc : kb c = 2) (e i : Bool) : passAt l k e i = passAt l (k + 1) true false := by
  unfold passAt
  rw [drop_at h, passL, if_pos hc]
  simp only [Prod.mk.injEq, and_true]
  omega
theorem passAt_remark {l : List UInt8} {k : Nat} {c : UInt8} (h : l[k]? = some c) (hc : kb c = 3) (e i : Bool) : passAt l k e i = passAt l (k + 1) e true := by
  unfold passAt
  rw [drop_at h, passL, if_neg (by omega), if_pos hc]
  simp only [Prod.mk.injEq, and_true]
  omega
theorem passAt_stop {l : List UInt8} {k : Nat} {c : UInt8} (h : l[k]? = some c) (h2 : kb c ≠ 2) (h3 : kb c ≠ 3) (h1 : kb c ≠ 1) (e : Bool) : passAt l k e false = (k, e) := by
  unfold passAt
  rw [drop_at h, passL, if_neg h2, if_neg h3, if_pos ⟨h1, rfl⟩]
  rfl
theorem passAt_on {l : List UInt8} {k : Nat} {c : UInt8} (h : l[k]? = some c) (h2 : kb c ≠ 2) (h3 : kb c ≠ 3) (e i : Bool) (hi : kb c = 1 ∨ i = true) : passAt l k e i = passAt l (k + 1) e i := by
  unfold passAt
  rw [drop_at h, passL, if_neg h2, if_neg h3, if_neg (by rintro ⟨a, b⟩; rcases hi with hi | hi; exact a hi; rw [b] at hi; cases hi)]
  simp only [Prod.mk.injEq, and_true]
  omega
set_option maxRecDepth 100000 in
set_option maxHeartbeats 8000000 in
theorem pass_any (s : ByteArray) (p : Nat) (w : World) (hs : s.size ≤ 1000000) (hp : p ≤ s.size) (P : Nat) (E : Bool) (HP : Hid (passAt (bl s) p false false = (P, E))) : Calls Tryd.prog 72 #[.string s, .int .i64 p] w fun e w' => e = .returned (.tuple #[.int .i64 P, .bool E]) ∧ w = w' := by
  go_enter Tryd.func72, Tryd.ntmps72
  go_wp2
  go_step3
  go_wp2
  go_step3
  go_wp2
  go_loop [1, 6, 7] (fun a x y => ∃ (k : Nat) (e i : Bool), k ≤ s.size ∧ a = .int .i64 k ∧ x = .bool e ∧ y = .bool i ∧ Hid (passAt (bl s) k e i = (P, E))) (fun a _ _ => s.size - (intOf a).toNat)
  case atStart => exact ⟨p, false, false, hp, rfl, rfl, rfl, HP⟩
  case round =>
    obtain ⟨k, e, i, hk, rfl, rfl, rfl, HR⟩ := hrel
    by_cases hlt : k < s.size
    · have HG : Hid ((bl s)[k]? = some s[k]) := bl_get s k hlt
      obtain ⟨K, HK⟩ : ∃ K, Hid (kb s[k] = K) := ⟨_, Lib.hid rfl⟩
      have cK := fun w => kindOf_any s[k].toNat (u8_lt _) w K HK
      go_wp2_with (go_at_call 78; refine (cK _).mono ?_; rintro e w1 ⟨rfl, rfl⟩)
      · rename_i a
        exact ⟨⟨k + 1, true, false, by omega, by go_num, rfl, rfl, Lib.hid ((passAt_line HG.out (HK.out.trans (by simpa using a)) e i).symm.trans HR.out)⟩, by simp [intOf]; omega⟩
      · rename_i a
        exact ⟨⟨k + 1, e, true, by omega, by go_num, rfl, rfl, Lib.hid ((passAt_remark HG.out (HK.out.trans (by simpa using a)) e i).symm.trans HR.out)⟩, by simp [intOf]; omega⟩
      · rename_i a b c
        exact ⟨⟨k + 1, e, i, by omega, by go_num, rfl, rfl, Lib.hid ((passAt_on HG.out (by rw [HK.out]; simpa using a) (by rw [HK.out]; simpa using b) e i (Or.inl (HK.out.trans c))).symm.trans HR.out)⟩, by simp [intOf]; omega⟩
      · rename_i a b c d
        have hi : i = false := by simpa using d.2
        subst hi
        have h := (passAt_stop HG.out (by rw [HK.out]; simpa using a) (by rw [HK.out]; simpa using b) (by rw [HK.out]; exact c) e).symm.trans HR.out
        injection h with h1 h2
        subst h1 h2
        rw [Exit.noGoto_ret]
        exact bodyPost_ret (v := .tuple #[.int .i64 k, .bool e]) (by simp [results, Tryd.results72, go_sem]) rfl ⟨rfl, rfl⟩
      · rename_i a b c d
        have hi : i = true := by
          rcases d with d | d
          · exact absurd (by simpa using d) c
          · simpa using d
        exact ⟨⟨k + 1, e, i, by omega, by go_num, rfl, rfl, Lib.hid ((passAt_on HG.out (by rw [HK.out]; simpa using a) (by rw [HK.out]; simpa using b) e i (Or.inr hi)).symm.trans HR.out)⟩, by simp [intOf]; omega⟩
    · obtain rfl : s.size = k := by omega
      have h := HR.out
      rw [← bl_len s, passAt_end] at h
      injection h with h1 h2
      rw [bl_len] at h1
      subst h1 h2
      go_wp2
      exact bodyPost_ret (v := .tuple #[.int .i64 s.size, .bool e]) (by simp [results, Tryd.results72, go_sem]) rfl ⟨rfl, rfl⟩
end Go.Proofs.YtmnadieblhdcpaaDoor
