/- The program's Same of two results. -/
import Derived.Test.YtgkngimeokhhgaaDoorG21
import Derived.Test.YtgkngimeokhhgaaDoorG8
import Derived.Test.YtgkngimeokhhgaaDoorG17
import Derived.Test.YtgkngimeokhhgaaDoorG18
import Derived.Test.YtgkngimeokhhgaaDoorG20
import Derived.Test.YtgkngimeokhhgaaDoorG4
import Derived.Test.YtgkngimeokhhgaaDoorG7
import Derived.Test.YtgkngimeokhhgaaDoorG14
namespace Go.Proofs.YtgkngimeokhhgaaDoor
open Go.RowKit

set_option maxRecDepth 100000 in
set_option maxHeartbeats 2000000 in
theorem eqI64_any (A A2 : Option Addr) (n n2 c c2 : Nat) (L M : List Int) (w : World) (B : Nat) (h : Ints w B A n L) (h2 : Ints w B A2 n2 M) (hn : n ≤ 100000) (hn2 : n2 ≤ 100000) :
    Calls Tryd.prog 32 #[.slice A n c, .slice A2 n2 c2] w fun e w' => e = .returned (.bool (decide (L = M))) ∧ ∃ m, w' = w.drewN m := by
  have HL : Hid (L.length = n) := h.1
  have HL2 : Hid (M.length = n2) := h2.1
  by_cases hne : n = n2
  · subst hne
    have e1 : ((n : Int) != (n : Int)) = false := by simp
    go_enter Tryd.func32, Tryd.ntmps32
    go_wp2
    go_loopw [13] (fun i wr => ∃ (j m : Nat), j ≤ n ∧ i = .int .i64 j ∧ wr = w.drewN m ∧ Hid (L.take j = M.take j)) (fun i _ => n - (intOf i).toNat)
    case atStart => exact ⟨0, 0, Nat.zero_le _, rfl, rfl, by unfold Hid; simp⟩
    case round =>
      obtain ⟨j, m2, hj, rfl, rfl, HJ⟩ := hrel
      by_cases hjl : j < n
      · obtain ⟨b3, off3, x, rfl, _, HX3, hc3, hx1, hx2⟩ := h.at_ hjl
        obtain ⟨b4, off4, y, rfl, _, HY3, hc4, hy1, hy2⟩ := h2.at_ hjl
        have hj0 : (0 : Int) ≤ j := by omega
        have hj1 : (j : Int) < n := by omega
        by_cases hxy : x = y
        · have HN : Hid (L.take (j + 1) = M.take (j + 1)) := by unfold Hid; rw [take_succU HX3.out, take_succU HY3.out, HJ.out, hxy]
          have e2 : (x != y) = false := by simpa using hxy
          clear hxy
          go_wp2
          go_quiet (fail)
          go_wp2
          go_roundw
          case rel => exact ⟨j + 1, _, by omega, by go_num, rfl, HN⟩
          case measure => simp [intOf]; omega
        · have HF : Hid (decide (L = M) = false) := by
            unfold Hid; rw [decide_eq_false]; intro e; subst e
            have := HX3.out; rw [HY3.out] at this; exact hxy (by injection this with this; exact this.symm)
          have e2 : (x != y) = true := by simpa using hxy
          clear hxy
          go_wp2
          go_quiet (fail)
          go_wp2
          go_ret
          exact ⟨by rw [HF.out]; rfl, _, World.drewN_drewN _ _ _⟩
      · have HF : Hid (decide (L = M) = true) := by
          unfold Hid; rw [decide_eq_true]; have := HJ.out
          rwa [List.take_of_length_le (by rw [HL.out]; omega), List.take_of_length_le (by rw [HL2.out]; omega)] at this
        go_wp2
        go_ret
        exact ⟨by rw [HF.out]; rfl, _, rfl⟩
  · have HF : Hid (decide (L = M) = false) := by unfold Hid; rw [decide_eq_false]; intro e; subst e; exact hne (by rw [← HL.out, ← HL2.out])
    have hne2 : ((n : Int) != (n2 : Int)) = true := by simp; omega
    clear hne
    go_enter Tryd.func32, Tryd.ntmps32
    go_wp2
    go_ret
    exact ⟨by rw [HF.out]; rfl, 0, rfl⟩
set_option maxRecDepth 100000 in
set_option maxHeartbeats 2000000 in
theorem eqFn_any (A A2 : Option Addr) (n n2 c c2 : Nat) (XS YS : List (List Int)) (w : World) (B : Nat) (h : IntsLL w B A n XS) (h2 : IntsLL w B A2 n2 YS) (hn : n ≤ 100000) (hn2 : n2 ≤ 100000) (hx : ∀ L ∈ XS, L.length ≤ 100000) (hy : ∀ L ∈ YS, L.length ≤ 100000) :
    Calls Tryd.prog 31 #[.slice A n c, .slice A2 n2 c2, .func (.func 32) #[] #[]] w fun e w' => e = .returned (.bool (decide (XS = YS))) ∧ ∃ m, w' = w.drewN m := by
  have HL : Hid (XS.length = n) := h.1
  have HL2 : Hid (YS.length = n2) := h2.1
  by_cases hne : n = n2
  · subst hne
    have e1 : ((n : Int) != (n : Int)) = false := by simp
    go_enter Tryd.func31, Tryd.ntmps31
    go_wp2
    go_loopw [17] (fun i wr => ∃ (k m : Nat), k ≤ n ∧ i = .int .i64 k ∧ wr = w.drewN m ∧ Hid (XS.take k = YS.take k)) (fun i _ => n - (intOf i).toNat)
    case atStart => exact ⟨0, 0, Nat.zero_le _, rfl, rfl, by unfold Hid; simp⟩
    case round =>
      obtain ⟨k, m, hk, rfl, rfl, HK⟩ := hrel
      by_cases hlt : k < n
      · obtain ⟨b, off, L, a, cL, rfl, _, HX, hc, _, hI⟩ := h.at_ hlt
        obtain ⟨b2, off2, M, a2, cM, rfl, _, HY, hc2, _, hI2⟩ := h2.at_ hlt
        have hlL := hx L (List.mem_of_getElem? HX.out)
        have hlM := hy M (List.mem_of_getElem? HY.out)
        have hk0 : (0 : Int) ≤ k := by omega
        have hk1 : (k : Int) < n := by omega
        have cE := fun q => eqI64_any a a2 L.length M.length cL cM L M (w.drewN q) B hI hI2 hlL hlM
        clear hI hI2 hlL hlM
        by_cases hxy : L = M
        · have HN : Hid (XS.take (k + 1) = YS.take (k + 1)) := by unfold Hid; rw [take_succU HX.out, take_succU HY.out, HK.out, hxy]
          rw [decide_eq_true hxy] at cE
          clear hxy
          go_wp2_with (first | (go_at_call 32; refine (cE _).mono ?_; rintro e w3 ⟨rfl, q, rfl⟩))
          go_roundw
          case rel => exact ⟨k + 1, _, by omega, by go_num, (by first | rfl | exact World.drewN_drewN _ _ _), HN⟩
          case measure => simp [intOf]; omega
        · have HF : Hid (decide (XS = YS) = false) := by
            unfold Hid; rw [decide_eq_false]; intro e; subst e
            have e3 := HX.out; rw [HY.out] at e3; injection e3 with e3; exact hxy e3.symm
          rw [decide_eq_false hxy] at cE
          clear hxy
          go_wp2_with (first | (go_at_call 32; refine (cE _).mono ?_; rintro e w3 ⟨rfl, q, rfl⟩))
          go_ret
          exact ⟨by rw [HF.out]; rfl, _, (by first | rfl | exact World.drewN_drewN _ _ _)⟩
      · have HF : Hid (decide (XS = YS) = true) := by
          unfold Hid; rw [decide_eq_true]; have := HK.out
          rwa [List.take_of_length_le (by rw [HL.out]; omega), List.take_of_length_le (by rw [HL2.out]; omega)] at this
        go_wp2
        go_ret
        exact ⟨by rw [HF.out]; rfl, _, rfl⟩
  · have HF : Hid (decide (XS = YS) = false) := by unfold Hid; rw [decide_eq_false]; intro e; subst e; exact hne (by rw [← HL.out, ← HL2.out])
    have hne2 : ((n : Int) != (n2 : Int)) = true := by simp; omega
    clear hne
    go_enter Tryd.func31, Tryd.ntmps31
    go_wp2
    go_ret
    exact ⟨by rw [HF.out]; rfl, 0, rfl⟩
set_option maxRecDepth 100000 in
set_option maxHeartbeats 2000000 in
theorem progSame_any (a b : Rq) (w : World) (ha : a.In w) (hb : b.In w) : Calls Tryd.prog 13 #[a.val, b.val] w fun e w' => e = .returned (.bool (sameR a b)) ∧ Below w.heap.size w w' := by
  obtain ⟨A, n, c, L, st, ce⟩ := a
  obtain ⟨A2, n2, c2, L2, st2, ce2⟩ := b
  obtain ⟨W0, hW0⟩ : ∃ W, (w.alloc (Rq.obj ⟨A, n, c, L, st, ce⟩)).alloc (Rq.obj ⟨A2, n2, c2, L2, st2, ce2⟩) = W := ⟨_, rfl⟩
  obtain ⟨g0, hg0⟩ : ∃ z, w.heap.size = z := ⟨_, rfl⟩
  have hba := lvBelow w (Rq.obj ⟨A, n, c, L, st, ce⟩)
  have hbb := lvBelow (w.alloc (Rq.obj ⟨A, n, c, L, st, ce⟩)) (Rq.obj ⟨A2, n2, c2, L2, st2, ce2⟩)
  have hb1 := hba.trans (hbb.mono hba.size)
  have h1 := keep_b hbb (heap_alloc_new w (Rq.obj ⟨A, n, c, L, st, ce⟩))
  have h2 := heap_alloc_new (w.alloc (Rq.obj ⟨A, n, c, L, st, ce⟩)) (Rq.obj ⟨A2, n2, c2, L2, st2, ce2⟩)
  rw [hW0] at hb1 h1 h2
  simp only [World.size_alloc] at h2
  rw [hg0] at h1 h2
  have HB0 := Lib.hid hb1
  have hA := ha.on hb1
  have hC := hb.on hb1
  have cE := eqFn_any A A2 n n2 c c2 L L2 W0 W0.heap.size hA.out hC.out hA.few hC.few hA.all hC.all
  obtain ⟨k0, k1, k2⟩ := cells3U h1
  obtain ⟨k3, k4, k5⟩ := cells3U h2
  clear hb1 hba hbb h1 h2 ha hb hA hC
  by_cases e0 : st = st2
  case neg =>
    have f0 : (st == st2) = false := by simpa using e0
    have HS : Hid (sameR ⟨A, n, c, L, st, ce⟩ ⟨A2, n2, c2, L2, st2, ce2⟩ = false) := by unfold Hid sameR; simp [e0]
    clear e0
    go_enter Tryd.func13, Tryd.ntmps13
    go_upto_region 1 with fail
    try rw [hW0]
    try rw [hg0]
    clear hW0 hg0
    go_wp2_with fail
    go_ret
    exact ⟨by rw [HS.out]; rfl, HB0.out⟩
  have f0 : (st == st2) = true := by simpa using e0
  by_cases e1 : ce = ce2
  case neg =>
    have f1 : (ce == ce2) = false := by simpa using e1
    have HS : Hid (sameR ⟨A, n, c, L, st, ce⟩ ⟨A2, n2, c2, L2, st2, ce2⟩ = false) := by unfold Hid sameR; simp [e1]
    clear e0 e1
    go_enter Tryd.func13, Tryd.ntmps13
    go_upto_region 1 with fail
    try rw [hW0]
    try rw [hg0]
    clear hW0 hg0
    go_wp2_with fail
    go_ret
    exact ⟨by rw [HS.out]; rfl, HB0.out⟩
  have f1 : (ce == ce2) = true := by simpa using e1
  have HS : Hid (sameR ⟨A, n, c, L, st, ce⟩ ⟨A2, n2, c2, L2, st2, ce2⟩ = decide (L = L2)) := by unfold Hid sameR; simp [e0, e1]
  clear e0 e1
  go_enter Tryd.func13, Tryd.ntmps13
  go_upto_region 1 with fail
  try rw [hW0]
  try rw [hg0]
  clear hW0 hg0
  go_wp2_with (first | (go_at_call 31; refine cE.mono ?_; rintro e w3 ⟨rfl, q, rfl⟩))
  go_ret
  exact ⟨by rw [HS.out]; rfl, below_N HB0.out _⟩
end Go.Proofs.YtgkngimeokhhgaaDoor
/- The program's further: an instruction of code that is put further on. -/
namespace Go.Proofs.YtgkngimeokhhgaaDoor
open Go Go.RowKit

abbrev kindsV (op : Int) : Value := .agg #[.int .i64 (kA op 0), .int .i64 (kA op 1), .int .i64 (kA op 2), .int .i64 (kA op 3)]
theorem index_kinds {op : Int} {k : Nat} (hk : k < 4) (w : World) : Sem.run Tryd.prog (Instr.index 72 (kindsV op) (.int .i64 (k : Int))) w = .ok (.int .i64 (kA op k)) w := by
  match k, hk with
  | 0, _ => simp [Instr.index, run_underlying Tryd.underlying72, asIntOf, go_sem]
  | 1, _ => simp [Instr.index, run_underlying Tryd.underlying72, asIntOf, go_sem]
  | 2, _ => simp [Instr.index, run_underlying Tryd.underlying72, asIntOf, go_sem]
  | 3, _ => simp [Instr.index, run_underlying Tryd.underlying72, asIntOf, go_sem]
def pj (op by_ : Int) (k j : Nat) (v : Int) : Int := if j < k ∧ kA op j = 4 then wrap64 (v + by_) else v
/-- the parts so far -/
def pv (x : Ji) (by_ : Int) (k : Nat) : List Int := x.p.mapIdx (pj x.op by_ k)
theorem pv_len (x : Ji) (by_ : Int) (k : Nat) : (pv x by_ k).length = 4 := by unfold pv; rw [List.length_mapIdx]; rfl
theorem pv_at {x : Ji} {by_ v : Int} {k j : Nat} (hv : x.p[j]? = some v) : (pv x by_ k)[j]? = some (pj x.op by_ k j v) := by
  unfold pv
  rw [List.getElem?_mapIdx, hv]; rfl
theorem pv_zero (x : Ji) (by_ : Int) : pv x by_ 0 = x.p := by
  unfold pv
  apply List.ext_getElem?
  intro j
  rw [List.getElem?_mapIdx]
  cases x.p[j]? with
  | none => rfl
  | some v => simp [pj]
theorem pv_same {x : Ji} {by_ : Int} {k : Nat} (h : kA x.op k ≠ 4) : pv x by_ (k + 1) = pv x by_ k := by
  unfold pv
  apply List.ext_getElem?
  intro j
  rw [List.getElem?_mapIdx, List.getElem?_mapIdx]
  cases x.p[j]? with
  | none => rfl
  | some v =>
    simp only [Option.map_some, Option.some.injEq]
    unfold pj
    by_cases hj : j = k
    · subst hj
      rw [if_neg (by rintro ⟨_, h2⟩; exact h h2), if_neg (by rintro ⟨_, h2⟩; exact h h2)]
    · by_cases hl : j < k
      · simp [hl, Nat.lt_succ_of_lt hl]
      · rw [if_neg (by omega), if_neg (by omega)]
theorem pv_set {x : Ji} {by_ v : Int} {k : Nat} (hv : x.p[k]? = some v) (h : kA x.op k = 4) : pv x by_ (k + 1) = (pv x by_ k).set k (wrap64 (v + by_)) := by
  apply List.ext_getElem?
  intro j
  have hk : k < 4 := (List.getElem?_eq_some_iff.1 hv).1
  by_cases hj : j = k
  · subst hj
    rw [pv_at hv, List.getElem?_set_self (by rw [pv_len]; exact hk)]
    unfold pj
    rw [if_pos ⟨by omega, h⟩]
  · rw [List.getElem?_set_ne (Ne.symm hj)]
    unfold pv
    rw [List.getElem?_mapIdx, List.getElem?_mapIdx]
    cases x.p[j]? with
    | none => rfl
    | some u =>
      simp only [Option.map_some, Option.some.injEq]
      unfold pj
      by_cases hl : j < k
      · simp [hl, Nat.lt_succ_of_lt hl]
      · rw [if_neg (by omega), if_neg (by omega)]
theorem pv_four (x : Ji) (by_ : Int) : pv x by_ 4 = [pj x.op by_ 4 0 x.a, pj x.op by_ 4 1 x.b, pj x.op by_ 4 2 x.c, pj x.op by_ 4 3 x.n] := rfl
theorem further_eq (x : Ji) (by_ : Int) : (⟨x.op, pj x.op by_ 4 0 x.a, pj x.op by_ 4 1 x.b, pj x.op by_ 4 2 x.c, pj x.op by_ 4 3 x.n⟩ : Ji) = shiftJ by_ x := by
  obtain ⟨op, a, b, c, n⟩ := x
  unfold shiftJ pj kA
  dsimp only
  rcases op_split op with h | rfl | rfl | rfl | rfl | rfl | rfl | rfl | rfl | rfl | rfl | rfl | rfl | rfl
  · rw [kN_out h, if_neg (by omega : ¬ op = 10), if_neg (by omega : ¬ (op = 11 ∨ op = 12))]
    simp
  all_goals simp [kN, kindNs]
def pObj (vs : List Int) : Obj := .cells (vs.map (Value.int .i64)).toArray 102
def FurP (x : Ji) (by_ : Int) (w : World) (e : Ending) (w' : World) : Prop := e = .returned (shiftJ by_ x).val ∧ Below w.heap.size w w'
set_option maxRecDepth 100000 in
set_option maxHeartbeats 4000000 in
theorem further_any (x : Ji) (by_ : Int) (w : World) (hx : x.ok) (hS : ShT w) : Calls Tryd.prog 42 #[x.val, .int .i64 by_] w (FurP x by_ w) := by
  have hb0 := ((Below.refl w.heap.size w).alloc (Nat.le_refl _) x.obj).alloc (by simp) (Ji.obj ⟨0, 0, 0, 0, 0⟩)
  obtain ⟨W0, hW0⟩ : ∃ W, (w.alloc x.obj).alloc (Ji.obj ⟨0, 0, 0, 0, 0⟩) = W := ⟨_, rfl⟩
  have HB0 : Hid (Below w.heap.size w W0) := by rw [← hW0]; exact hb0
  have HX0 : Hid (W0.heap[w.heap.size]? = some x.obj) := by rw [← hW0]; exact pastJ _ (newJ w x)
  have HR0 : Hid (W0.heap[w.heap.size + 1]? = some (Ji.obj ⟨0, 0, 0, 0, 0⟩)) := by
    rw [← hW0]
    have h := newJ (w.alloc x.obj) ⟨0, 0, 0, 0, 0⟩
    rwa [World.size_alloc] at h
  have HOK := Lib.hid hx
  have HS := Lib.hid hS
  have cS := shapeOf_any x.op W0 (HS.out.on HB0.out)
  obtain ⟨⟨k0, k1, k2, k3, k4⟩, kf⟩ := box_cellsJ HX0.out
  clear hS hx hb0
  go_enter Tryd.func42, Tryd.ntmps42
  go_wp2_with fail
  try rw [hW0]
  refine cS.mono ?_
  rintro e w1 ⟨rfl, hb⟩
  unfold shV
  have HB1 := Lib.hid (HB0.out.trans (hb.mono HB0.out.size))
  have HX1 := Lib.hid (keep_b hb HX0.out)
  have HR1 := Lib.hid (keep_b hb HR0.out)
  clear hb hW0 k0 k1 k2 k3 k4 kf
  obtain ⟨W2, hW2⟩ : ∃ W, w1.alloc (shObj x.op) = W := ⟨_, rfl⟩
  have HB2 : Hid (Below w.heap.size w W2) := by rw [← hW2]; exact HB1.out.alloc HB1.out.size _
  have HX2 : Hid (W2.heap[w.heap.size]? = some x.obj) := by rw [← hW2]; exact pastJ _ HX1.out
  have HR2 : Hid (W2.heap[w.heap.size + 1]? = some (Ji.obj ⟨0, 0, 0, 0, 0⟩)) := by rw [← hW2]; exact pastJ _ HR1.out
  have HG2 : Hid (W2.heap[w1.heap.size]? = some (.cells #[.string (strJ (wJ x.op)), .int .i64 (kA x.op 0), .int .i64 (kA x.op 1), .int .i64 (kA x.op 2), .int .i64 (kA x.op 3)] 74 (0, 0))) := by rw [← hW2]; exact heap_alloc_new w1 (shObj x.op)
  go_upto_region 2 with fail
  try rw [hW2]
  have cP := parts_any x W2
  obtain ⟨⟨k0, k1, k2, k3, k4⟩, kf⟩ := box_cellsJ HX2.out
  have hg1 : w.heap.size ≤ w1.heap.size := HB1.out.size
  clear hW2 cS HX1
  go_wp2_with fail
  refine cP.mono ?_
  rintro e w3 ⟨rfl, hb⟩
  have HB3 := Lib.hid (HB2.out.trans (hb.mono HB2.out.size))
  have HX3 := Lib.hid (keep_b hb HX2.out)
  have HR3 := Lib.hid (keep_b hb HR2.out)
  have hG3 := keep_b hb HG2.out
  obtain ⟨G, hG⟩ : ∃ G, w1.heap.size = G := ⟨_, rfl⟩
  rw [hG] at hG3 hg1 ⊢
  clear hb cP HG2 HX2 HB2 HB1 HB0 HX0 HR0 HR1 HR2 k0 k1 k2 k3 k4 kf hG
  obtain ⟨W4, hW4⟩ : ∃ W, w3.alloc (.cells #[.int .i64 x.a, .int .i64 x.b, .int .i64 x.c, .int .i64 x.n] 102) = W := ⟨_, rfl⟩
  have HB4 : Hid (Below w.heap.size w W4) := by rw [← hW4]; exact HB3.out.alloc HB3.out.size _
  have HX4 : Hid (W4.heap[w.heap.size]? = some x.obj) := by rw [← hW4]; exact pastJ _ HX3.out
  have HR4 : Hid (W4.heap[w.heap.size + 1]? = some (Ji.obj ⟨0, 0, 0, 0, 0⟩)) := by rw [← hW4]; exact pastJ _ HR3.out
  have hG4 : W4.heap[G]? = some (.cells #[.string (strJ (wJ x.op)), .int .i64 (kA x.op 0), .int .i64 (kA x.op 1), .int .i64 (kA x.op 2), .int .i64 (kA x.op 3)] 74 (0, 0)) := by rw [← hW4]; exact pastJ _ hG3
  have HP4 : Hid (W4.heap[w3.heap.size]? = some (.cells (x.p.map (Value.int .i64)).toArray 102 (0, 0))) := by rw [← hW4]; exact heap_alloc_new w3 _
  obtain ⟨s0, s1, s2, s3, s4, _⟩ := cells5 hG4
  obtain ⟨H, hH⟩ : ∃ H, w3.heap.size = H := ⟨_, rfl⟩
  have hgH : w.heap.size + 1 < H := by rw [← hH]; exact lt_of_heap HR3.out
  go_upto_region 3 with fail
  try rw [hW4]
  rw [hH] at HP4
  try rw [hH]
  clear hW4 hG3 HX3 HR3 HB3 hH
  go_wp2_with fail
  clear s0 s1 s2 s3 s4 hG4
  go_loopw [20] (fun i wr => ∃ (k : Nat), k ≤ 4 ∧ i = .int .i64 k ∧ Hid (Below w.heap.size w wr) ∧ Hid (wr.heap[w.heap.size]? = some x.obj) ∧ Hid (wr.heap[w.heap.size + 1]? = some (Ji.obj ⟨0, 0, 0, 0, 0⟩)) ∧ Hid (wr.heap[H]? = some (.cells ((pv x by_ k).map (Value.int .i64)).toArray 102 (0, 0)))) (fun i _ => 4 - (intOf i).toNat)
  case atStart => exact ⟨0, Nat.zero_le _, rfl, HB4, HX4, HR4, by rw [pv_zero]; exact HP4⟩
  case round =>
    obtain ⟨k, hk, rfl, HB, HX, HR, HP⟩ := hrel
    by_cases hlt : k < 4
    · obtain ⟨v, hv, hv0, hv1⟩ := Ji.p_at HOK.out hlt
      have hix := index_kinds (op := x.op) hlt wr
      have hk4 : (k : Int) < 4 := by omega
      have hk0 : (0 : Int) ≤ (k : Int) := by omega
      by_cases hkd : kA x.op k = 4
      · have c1 : (kA x.op k == 4) = true := by simpa using hkd
        have HST : Hid (pv x by_ (k + 1) = (pv x by_ k).set k (wrap64 (v + by_))) := pv_set hv hkd
        have hat : (pv x by_ k)[k]? = some v := by
          rw [pv_at hv]; unfold pj; rw [if_neg (by omega)]
        have hc : wr.cell? ⟨H, k, none⟩ = some (.int .i64 v) := by
          refine (cell_of_row _ _ _ _ _ _ HP.out).trans ?_
          simp [hat]
        have hf : wr.frozen? ⟨H, k, none⟩ = false := by simp [World.frozen?, HP.out]
        have hs := set_j (i := k) HP.out (.int .i64 (wrap64 (v + by_)))
        rw [← List.map_set, ← HST.out] at hs
        have HPS := Lib.hid hs
        have HXS : Hid ((wr.setCell ⟨H, k, none⟩ (.int .i64 (wrap64 (v + by_)))).heap[w.heap.size]? = some x.obj) := (Below.heap_setCell _ ⟨H, k, none⟩ _ _ (by show w.heap.size ≠ H; omega)).trans HX.out
        have HRS : Hid ((wr.setCell ⟨H, k, none⟩ (.int .i64 (wrap64 (v + by_)))).heap[w.heap.size + 1]? = some (Ji.obj ⟨0, 0, 0, 0, 0⟩)) := (Below.heap_setCell _ ⟨H, k, none⟩ _ _ (by show w.heap.size + 1 ≠ H; omega)).trans HR.out
        have HBS : Hid (Below w.heap.size w (wr.setCell ⟨H, k, none⟩ (.int .i64 (wrap64 (v + by_))))) := HB.out.setCell (p := ⟨H, k, none⟩) (by show w.heap.size ≤ H; omega) _
        clear hkd hs hat hv
        go_wp2_with fail
        go_roundw
        case rel => exact ⟨k + 1, by omega, by go_num, HBS.out, HXS.out, HRS.out, HPS.out⟩
        case measure => simp [intOf]; omega
      · have c1 : (kA x.op k == 4) = false := by simpa using hkd
        have HST : Hid (pv x by_ (k + 1) = pv x by_ k) := pv_same hkd
        clear hkd hv
        go_wp2_with fail
        go_roundw
        case rel => exact ⟨k + 1, by omega, by go_num, HB.out, HX.out, HR.out, by rw [HST.out]; exact HP.out⟩
        case measure => simp [intOf]; omega
    · have hk4 : ¬ (k : Int) < 4 := by omega
      obtain rfl : k = 4 := by omega
      have hp := HP.out
      rw [pv_four] at hp
      have cW := fun W => whole_j ⟨x.op, pj x.op by_ 4 0 x.a, pj x.op by_ 4 1 x.b, pj x.op by_ 4 2 x.c, pj x.op by_ 4 3 x.n⟩ W
      have HFE := Lib.hid (further_eq x by_)
      generalize pj x.op by_ 4 0 x.a = q0 at hp cW HFE
      generalize pj x.op by_ 4 1 x.b = q1 at hp cW HFE
      generalize pj x.op by_ 4 2 x.c = q2 at hp cW HFE
      generalize pj x.op by_ 4 3 x.n = q3 at hp cW HFE
      obtain ⟨p0, p1, p2, p3, _⟩ := lvCells hp
      obtain ⟨⟨k0, k1, k2, k3, k4⟩, kf⟩ := box_cellsJ HX.out
      have cW2 := cW wr
      clear cW hp
      go_wp2_with fail
      refine cW2.mono ?_
      rintro e w5 ⟨rfl, hb⟩
      have HB5 := Lib.hid (HB.out.trans (hb.mono HB.out.size))
      have HR5 := Lib.hid (keep_b hb HR.out)
      clear hb cW2 k0 k1 k2 k3 k4 kf p0 p1 p2 p3
      obtain ⟨r0, r1, r2, r3, r4, rf0, rf1, rf2, rf3, rf4⟩ := cells5 HR5.out
      have HD := Lib.hid (put5_below HB5.out (show w.heap.size ≤ w.heap.size + 1 by omega) (.int .i64 x.op) (.int .i64 q0) (.int .i64 q1) (.int .i64 q2) (.int .i64 q3))
      obtain ⟨s0, s1, s2, s3, s4, _⟩ := cells5 (five_cells HR5.out (.int .i64 x.op) (.int .i64 q0) (.int .i64 q1) (.int .i64 q2) (.int .i64 q3))
      have HSS := Lib.hid (And.intro s0 (And.intro s1 (And.intro s2 (And.intro s3 s4))))
      clear s0 s1 s2 s3 s4
      go_wp2_with fail
      obtain ⟨s0, s1, s2, s3, s4⟩ := HSS.out
      exact bodyPost_ret (v := Ji.val ⟨x.op, q0, q1, q2, q3⟩) (by simp [results, Tryd.results42, go_sem, s0, s1, s2, s3, s4]) rfl ⟨by rw [HFE.out], HD.out⟩
end Go.Proofs.YtgkngimeokhhgaaDoor
/- The program's Shift: code put further on. -/
namespace Go.Proofs.YtgkngimeokhhgaaDoor
open Go.RowKit

/-- where the variables lie in the program's Shift -/
structure ShC (w : World) (q : Cq) (wr : World) (A' : Option Addr) (c' : Nat) (L : List Ji) : Prop where
  bel : Below w.heap.size w wr
  bx : wr.heap[w.heap.size]? = some q.obj
  rv : wr.heap[w.heap.size + 1]? = some (.cells #[.int .i64 0, .int .i64 0, .int .i64 0, .slice none 0 0] 24 (0, 0))
  own : OwnJ wr w.heap.size A' c' L
section
variable {w wr w' : World} {q : Cq} {c' c2 : Nat} {A' A2 : Option Addr} {L : List Ji} {y : Ji}
theorem ShC.below (h : ShC w q wr A' c' L) (hb : Below wr.heap.size wr w') : ShC w q w' A' c' L :=
  ⟨h.bel.trans (hb.mono h.bel.size), keep_b hb h.bx, keep_b hb h.rv, h.own.below hb (Nat.le_refl _)⟩
theorem ShC.add (h : ShC w q wr A' c' L) (hO : OwnJ w' w.heap.size A2 c2 (L ++ [y])) (hG : wr.grownBy w' (Value.slice A' L.length c').ownBlock) : ShC w q w' A2 c2 (L ++ [y]) :=
  ⟨below_appJ h.bel hG h.own h.bel.size, box_keptJ h.bx (by decide) hG h.own, box_keptJ h.rv (by decide) hG h.own, hO⟩
end
theorem set_bx {w : World} {q : Cq} {g : Nat} (h : w.heap[g]? = some q.obj) (v : Value) : (w.setCell ⟨g, 3, none⟩ v).heap[g]? = some (.cells #[.int .i64 q.R, .int .i64 q.A, .int .i64 q.I, v] 24 (0, 0)) :=
  set_j (i := 3) (cs := [.int .i64 q.R, .int .i64 q.A, .int .i64 q.I, .slice q.P q.n q.c]) h v
/-- the program's Shift: what is returned, stored -/
theorem ShC.done (q : Cq) (by_ : Int) {w wr : World} {c' : Nat} {A' : Option Addr} {L : List Ji} (h : ShC w q wr A' c' L) (hE : q.cd.shiftE by_ = 0) (hL : (q.cd.shift by_).l = L) (n : Nat) (hn : L.length = n) :
    ShP q by_ w (.returned (.tuple #[.agg #[.int .i64 q.R, .int .i64 q.A, .int .i64 q.I, .slice A' n c'], .int .i64 0])) (((((wr.setCell ⟨w.heap.size, 3, none⟩ (.slice A' n c')).setCell ⟨w.heap.size + 1, 0, none⟩ (.int .i64 q.R)).setCell ⟨w.heap.size + 1, 1, none⟩ (.int .i64 q.A)).setCell ⟨w.heap.size + 1, 2, none⟩ (.int .i64 q.I)).setCell ⟨w.heap.size + 1, 3, none⟩ (.slice A' n c')) := by
  have hC : q.cd.shiftC by_ = q.cd.shift by_ := by unfold Cd.shiftC; rw [if_pos hE]
  have h1 : OwnJ (wr.setCell ⟨w.heap.size, 3, none⟩ (.slice A' n c')) w.heap.size A' c' L := h.own.set_other h.bx (by decide) _ _
  have hb1 : Below w.heap.size w (wr.setCell ⟨w.heap.size, 3, none⟩ (.slice A' n c')) := h.bel.setCell (p := ⟨w.heap.size, 3, none⟩) (Nat.le_refl _) _
  have hr1 : (wr.setCell ⟨w.heap.size, 3, none⟩ (.slice A' n c')).heap[w.heap.size + 1]? = _ := (Below.heap_setCell _ ⟨w.heap.size, 3, none⟩ _ _ (by show w.heap.size + 1 ≠ w.heap.size; omega)).trans h.rv
  generalize wr.setCell ⟨w.heap.size, 3, none⟩ (.slice A' n c') = wr2 at h1 hb1 hr1
  have hg : wr2.grownBy ((((wr2.setCell ⟨w.heap.size + 1, 0, none⟩ (.int .i64 q.R)).setCell ⟨w.heap.size + 1, 1, none⟩ (.int .i64 q.A)).setCell ⟨w.heap.size + 1, 2, none⟩ (.int .i64 q.I)).setCell ⟨w.heap.size + 1, 3, none⟩ (.slice A' n c')) (some (w.heap.size + 1)) :=
    grownBy_setE (grownBy_setE (grownBy_setE (grownBy_setE (grown_same wr2 _) _ _) _ _) _ _) _ _
  refine ⟨A', c', ?_, ?_, hb1.grown hg hb1.size (fun k hk => by injection hk with hk; omega)⟩
  · rw [hC, hE, hL, hn]; rfl
  · rw [hC, hL]
    exact World.ownsRow.kept h1 hg (rows_ne h1 hr1 (by decide))
set_option maxRecDepth 100000 in
set_option maxHeartbeats 8000000 in
theorem codeShift_any (q : Cq) (by_ : Int) (w : World) (hq : q.In w) (hT : ShT w) : Calls Tryd.prog 19 #[q.val, .int .i64 by_] w (ShP q by_ w) := by
  obtain ⟨R, A, I, P, n, c, l⟩ := q
  obtain ⟨W0, hW0⟩ : ∃ W, (w.alloc (Cq.obj ⟨R, A, I, P, n, c, l⟩)).alloc (.cells #[.int .i64 0, .int .i64 0, .int .i64 0, .slice none 0 0] 24) = W := ⟨_, rfl⟩
  have HB0 : Hid (Below w.heap.size w W0) := by rw [← hW0]; exact ((Below.refl w.heap.size w).alloc (Nat.le_refl _) _).alloc (by simp) _
  have HX0 : Hid (W0.heap[w.heap.size]? = some (Cq.obj ⟨R, A, I, P, n, c, l⟩)) := by rw [← hW0]; exact pastJ _ (heap_alloc_new w _)
  have HR0 : Hid (W0.heap[w.heap.size + 1]? = some (.cells #[.int .i64 0, .int .i64 0, .int .i64 0, .slice none 0 0] 24 (0, 0))) := by
    have h := heap_alloc_new (w.alloc (Cq.obj ⟨R, A, I, P, n, c, l⟩)) (.cells #[.int .i64 0, .int .i64 0, .int .i64 0, .slice none 0 0] 24)
    rw [World.size_alloc, hW0] at h
    exact h
  have HQ := Lib.hid hq
  have hn1 : n ≤ 9223372036854775807 := hq.n1
  have HLN : Hid (l.length = n) := hq.len
  have hC := codeCheck_any ⟨R, A, I, P, n, c, l⟩ W0 (HQ.out.on HB0.out) (hT.on HB0.out)
  obtain ⟨k0, k1, k2, k3, _⟩ := lvCells HX0.out
  obtain ⟨E, hE⟩ : ∃ E, (Cq.cd ⟨R, A, I, P, n, c, l⟩).e = E := ⟨_, rfl⟩
  have HE := Lib.hid hE
  unfold CkP at hC
  rw [hE] at hC
  have hME : E = 0 ↔ (Cq.cd ⟨R, A, I, P, n, c, l⟩).may = true := by
    rw [← hE]; unfold Cd.e
    cases h : (Cq.cd ⟨R, A, I, P, n, c, l⟩).may <;> simp
  have HSL : Hid ((Cq.cd ⟨R, A, I, P, n, c, l⟩).l.length = n) := HLN.out
  clear hE hq
  by_cases hbad : E ≠ 0 ∨ by_ < 0 ∨ 4096 < by_
  · have hSE : (Cq.cd ⟨R, A, I, P, n, c, l⟩).shiftE by_ = 1 := by
      unfold Cd.shiftE
      rw [if_pos ?_]
      rcases hbad with h | h
      · left
        cases h2 : (Cq.cd ⟨R, A, I, P, n, c, l⟩).may with
        | false => rfl
        | true => exact absurd (hME.2 h2) h
      · right; exact h
    have HSC : Hid ((Cq.cd ⟨R, A, I, P, n, c, l⟩).shiftC by_ = ⟨0, 0, 0, []⟩) := by unfold Hid Cd.shiftC; rw [hSE]; rfl
    have HSE := Lib.hid hSE
    have hz : Hid (∀ wr : World, Below w.heap.size w wr → wr.heap[w.heap.size + 1]? = some (.cells #[.int .i64 0, .int .i64 0, .int .i64 0, .slice none 0 0] 24 (0, 0)) → ShP ⟨R, A, I, P, n, c, l⟩ by_ w (.returned (.tuple #[.agg #[.int .i64 0, .int .i64 0, .int .i64 0, .slice none 0 0], .int .i64 1])) ((((wr.setCell ⟨w.heap.size + 1, 0, none⟩ (.int .i64 0)).setCell ⟨w.heap.size + 1, 1, none⟩ (.int .i64 0)).setCell ⟨w.heap.size + 1, 2, none⟩ (.int .i64 0)).setCell ⟨w.heap.size + 1, 3, none⟩ (.slice none 0 0))) := fun wr hb _ => ⟨none, 0, by rw [HSC.out, HSE.out]; rfl, by rw [HSC.out]; exact OwnJ.nil_ _ _, (((hb.setCell (p := ⟨w.heap.size + 1, 0, none⟩) (by show w.heap.size ≤ w.heap.size + 1; omega) _).setCell (p := ⟨w.heap.size + 1, 1, none⟩) (by show w.heap.size ≤ w.heap.size + 1; omega) _).setCell (p := ⟨w.heap.size + 1, 2, none⟩) (by show w.heap.size ≤ w.heap.size + 1; omega) _).setCell (p := ⟨w.heap.size + 1, 3, none⟩) (by show w.heap.size ≤ w.heap.size + 1; omega) _⟩
    clear hSE
    by_cases hE0 : E = 0
    · have e0 : (E != 0) = false := by simp [hE0]
      by_cases hb0 : by_ < 0
      · have d0 : decide (by_ < 0) = true := decide_eq_true hb0
        clear hbad hME hE0 hb0
        go_enter Tryd.func19, Tryd.ntmps19
        go_wp2_with fail
        try rw [hW0]
        refine hC.mono ?_
        rintro e w1 ⟨rfl, hb⟩
        have HB1 := Lib.hid (HB0.out.trans (hb.mono HB0.out.size))
        have HX1 := Lib.hid (keep_b hb HX0.out)
        have HR1 := Lib.hid (keep_b hb HR0.out)
        clear hb hW0 hC k0 k1 k2 k3
        obtain ⟨k0, k1, k2, k3, _⟩ := lvCells HX1.out
        obtain ⟨r0, r1, r2, r3, rf0, rf1, rf2, rf3⟩ := lvCells HR1.out
        go_wp2_with fail
        have hfour := four_cells HR1.out (.int .i64 0) (.int .i64 0) (.int .i64 0) (.slice none 0 0)
        obtain ⟨s0, s1, s2, s3, _⟩ := lvCells hfour
        have hd := hz.out w1 HB1.out HR1.out
        obtain ⟨wz, hwz⟩ : ∃ wz, (((w1.setCell ⟨w.heap.size + 1, 0, none⟩ (.int .i64 0)).setCell ⟨w.heap.size + 1, 1, none⟩ (.int .i64 0)).setCell ⟨w.heap.size + 1, 2, none⟩ (.int .i64 0)).setCell ⟨w.heap.size + 1, 3, none⟩ (.slice none 0 0) = wz := ⟨_, rfl⟩
        rw [hwz] at hd s0 s1 s2 s3 ⊢
        exact bodyPost_ret (v := .tuple #[.agg #[.int .i64 0, .int .i64 0, .int .i64 0, .slice none 0 0], .int .i64 1]) (by simp [results, Tryd.results19, go_sem, s0, s1, s2, s3]) rfl hd
      · have d0 : decide (by_ < 0) = false := decide_eq_false hb0
        have d1 : decide (4096 < by_) = true := decide_eq_true (by omega)
        clear hbad hME hE0 hb0
        go_enter Tryd.func19, Tryd.ntmps19
        go_wp2_with fail
        try rw [hW0]
        refine hC.mono ?_
        rintro e w1 ⟨rfl, hb⟩
        have HB1 := Lib.hid (HB0.out.trans (hb.mono HB0.out.size))
        have HX1 := Lib.hid (keep_b hb HX0.out)
        have HR1 := Lib.hid (keep_b hb HR0.out)
        clear hb hW0 hC k0 k1 k2 k3
        obtain ⟨k0, k1, k2, k3, _⟩ := lvCells HX1.out
        obtain ⟨r0, r1, r2, r3, rf0, rf1, rf2, rf3⟩ := lvCells HR1.out
        go_wp2_with fail
        have hfour := four_cells HR1.out (.int .i64 0) (.int .i64 0) (.int .i64 0) (.slice none 0 0)
        obtain ⟨s0, s1, s2, s3, _⟩ := lvCells hfour
        have hd := hz.out w1 HB1.out HR1.out
        obtain ⟨wz, hwz⟩ : ∃ wz, (((w1.setCell ⟨w.heap.size + 1, 0, none⟩ (.int .i64 0)).setCell ⟨w.heap.size + 1, 1, none⟩ (.int .i64 0)).setCell ⟨w.heap.size + 1, 2, none⟩ (.int .i64 0)).setCell ⟨w.heap.size + 1, 3, none⟩ (.slice none 0 0) = wz := ⟨_, rfl⟩
        rw [hwz] at hd s0 s1 s2 s3 ⊢
        exact bodyPost_ret (v := .tuple #[.agg #[.int .i64 0, .int .i64 0, .int .i64 0, .slice none 0 0], .int .i64 1]) (by simp [results, Tryd.results19, go_sem, s0, s1, s2, s3]) rfl hd
    · have e0 : (E != 0) = true := by simpa using hE0
      clear hbad hME hE0
      go_enter Tryd.func19, Tryd.ntmps19
      go_wp2_with fail
      try rw [hW0]
      refine hC.mono ?_
      rintro e w1 ⟨rfl, hb⟩
      have HB1 := Lib.hid (HB0.out.trans (hb.mono HB0.out.size))
      have HX1 := Lib.hid (keep_b hb HX0.out)
      have HR1 := Lib.hid (keep_b hb HR0.out)
      clear hb hW0 hC k0 k1 k2 k3
      obtain ⟨k0, k1, k2, k3, _⟩ := lvCells HX1.out
      obtain ⟨r0, r1, r2, r3, rf0, rf1, rf2, rf3⟩ := lvCells HR1.out
      go_wp2_with fail
      have hfour := four_cells HR1.out (.int .i64 0) (.int .i64 0) (.int .i64 0) (.slice none 0 0)
      obtain ⟨s0, s1, s2, s3, _⟩ := lvCells hfour
      have hd := hz.out w1 HB1.out HR1.out
      obtain ⟨wz, hwz⟩ : ∃ wz, (((w1.setCell ⟨w.heap.size + 1, 0, none⟩ (.int .i64 0)).setCell ⟨w.heap.size + 1, 1, none⟩ (.int .i64 0)).setCell ⟨w.heap.size + 1, 2, none⟩ (.int .i64 0)).setCell ⟨w.heap.size + 1, 3, none⟩ (.slice none 0 0) = wz := ⟨_, rfl⟩
      rw [hwz] at hd s0 s1 s2 s3 ⊢
      exact bodyPost_ret (v := .tuple #[.agg #[.int .i64 0, .int .i64 0, .int .i64 0, .slice none 0 0], .int .i64 1]) (by simp [results, Tryd.results19, go_sem, s0, s1, s2, s3]) rfl hd
  have hE0 : E = 0 := by omega
  have hb0 : 0 ≤ by_ := by omega
  have hb1 : by_ ≤ 4096 := by omega
  have hmay := hME.1 hE0
  subst hE0
  have hnn : n ≤ 4096 := by
    unfold Cd.may at hmay
    rw [Bool.and_eq_true, Bool.and_eq_true] at hmay
    have := of_decide_eq_true hmay.1.1
    have h2 : (Cq.cd ⟨R, A, I, P, n, c, l⟩).l.length = n := HLN.out
    omega
  have d0 : decide (by_ < 0) = false := decide_eq_false (by omega)
  have d1 : decide (4096 < by_) = false := decide_eq_false (by omega)
  have HMAY := Lib.hid hmay
  clear hbad hME hmay
  by_cases hbig : 4096 < (n : Int) + by_
  · have hSE : (Cq.cd ⟨R, A, I, P, n, c, l⟩).shiftE by_ = 2 := by
      unfold Cd.shiftE
      rw [if_neg (by rw [HMAY.out]; simp; omega), if_pos (by rw [HSL.out]; exact hbig)]
    have HSC : Hid ((Cq.cd ⟨R, A, I, P, n, c, l⟩).shiftC by_ = ⟨0, 0, 0, []⟩) := by unfold Hid Cd.shiftC; rw [hSE]; rfl
    have HSE := Lib.hid hSE
    have hz : Hid (∀ wr : World, Below w.heap.size w wr → ShP ⟨R, A, I, P, n, c, l⟩ by_ w (.returned (.tuple #[.agg #[.int .i64 0, .int .i64 0, .int .i64 0, .slice none 0 0], .int .i64 2])) ((((wr.setCell ⟨w.heap.size + 1, 0, none⟩ (.int .i64 0)).setCell ⟨w.heap.size + 1, 1, none⟩ (.int .i64 0)).setCell ⟨w.heap.size + 1, 2, none⟩ (.int .i64 0)).setCell ⟨w.heap.size + 1, 3, none⟩ (.slice none 0 0))) := fun wr hb => ⟨none, 0, by rw [HSC.out, HSE.out]; rfl, by rw [HSC.out]; exact OwnJ.nil_ _ _, (((hb.setCell (p := ⟨w.heap.size + 1, 0, none⟩) (by show w.heap.size ≤ w.heap.size + 1; omega) _).setCell (p := ⟨w.heap.size + 1, 1, none⟩) (by show w.heap.size ≤ w.heap.size + 1; omega) _).setCell (p := ⟨w.heap.size + 1, 2, none⟩) (by show w.heap.size ≤ w.heap.size + 1; omega) _).setCell (p := ⟨w.heap.size + 1, 3, none⟩) (by show w.heap.size ≤ w.heap.size + 1; omega) _⟩
    have d2 : decide (4096 < (n : Int) + by_) = true := decide_eq_true hbig
    clear hSE hbig
    go_enter Tryd.func19, Tryd.ntmps19
    go_wp2_with fail
    try rw [hW0]
    refine hC.mono ?_
    rintro e w1 ⟨rfl, hb⟩
    have HB1 := Lib.hid (HB0.out.trans (hb.mono HB0.out.size))
    have HX1 := Lib.hid (keep_b hb HX0.out)
    have HR1 := Lib.hid (keep_b hb HR0.out)
    clear hb hW0 hC k0 k1 k2 k3
    obtain ⟨k0, k1, k2, k3, _⟩ := lvCells HX1.out
    obtain ⟨r0, r1, r2, r3, rf0, rf1, rf2, rf3⟩ := lvCells HR1.out
    go_wp2_with fail
    have hfour := four_cells HR1.out (.int .i64 0) (.int .i64 0) (.int .i64 0) (.slice none 0 0)
    obtain ⟨s0, s1, s2, s3, _⟩ := lvCells hfour
    have hd := hz.out w1 HB1.out
    obtain ⟨wz, hwz⟩ : ∃ wz, (((w1.setCell ⟨w.heap.size + 1, 0, none⟩ (.int .i64 0)).setCell ⟨w.heap.size + 1, 1, none⟩ (.int .i64 0)).setCell ⟨w.heap.size + 1, 2, none⟩ (.int .i64 0)).setCell ⟨w.heap.size + 1, 3, none⟩ (.slice none 0 0) = wz := ⟨_, rfl⟩
    rw [hwz] at hd s0 s1 s2 s3 ⊢
    exact bodyPost_ret (v := .tuple #[.agg #[.int .i64 0, .int .i64 0, .int .i64 0, .slice none 0 0], .int .i64 2]) (by simp [results, Tryd.results19, go_sem, s0, s1, s2, s3]) rfl hd
  have d2 : decide (4096 < (n : Int) + by_) = false := decide_eq_false hbig
  have hSE : (Cq.cd ⟨R, A, I, P, n, c, l⟩).shiftE by_ = 0 := by
    unfold Cd.shiftE
    rw [if_neg (by rw [HMAY.out]; simp; omega), if_neg (by rw [HSL.out]; exact hbig)]
  have HSE := Lib.hid hSE
  obtain ⟨b, rfl⟩ : ∃ b : Nat, by_ = (b : Int) := ⟨by_.toNat, by omega⟩
  clear hSE hb0
  go_enter Tryd.func19, Tryd.ntmps19
  go_wp2_with fail
  try rw [hW0]
  refine hC.mono ?_
  rintro e w1 ⟨rfl, hb⟩
  have HB1 := Lib.hid (HB0.out.trans (hb.mono HB0.out.size))
  have HX1 := Lib.hid (keep_b hb HX0.out)
  have HR1 := Lib.hid (keep_b hb HR0.out)
  clear hb hW0 hC k0 k1 k2 k3
  obtain ⟨k0, k1, k2, k3, _⟩ := lvCells HX1.out
  go_upto_region 5 with fail
  have HTW := Lib.hid hT
  have HS2 : Hid (ShC w ⟨R, A, I, P, n, c, l⟩ w1 none 0 []) := ⟨HB1.out, HX1.out, HR1.out, OwnJ.nil_ _ _⟩
  clear k0 k1 k2 k3 d0 d1 d2 hT
  have hbb : (b : Int) ≤ 4096 := by omega
  have hbn : b ≤ 4096 := by omega
  go_wp2_with fail
  go_loopw [6, 30] (fun v i wr => ∃ (k : Nat) (A' : Option Addr) (c' : Nat), k ≤ b ∧ i = .int .i64 k ∧ v = .slice A' k c' ∧ Hid (ShC w ⟨R, A, I, P, n, c, l⟩ wr A' c' (jumpsJ k))) (fun _ i _ => b - (intOf i).toNat)
  case atStart => exact ⟨0, none, 0, Nat.zero_le _, rfl, rfl, HS2.out⟩
  case round =>
    obtain ⟨k, A', c', hk, rfl, rfl, HS⟩ := hrel
    by_cases hlt : k < b
    · have hle : k + 1 ≤ 1000000 := by omega
      have hsz : w.heap.size ≤ wr.heap.size := HS.out.bel.size
      obtain ⟨gz, hgz⟩ : ∃ g, wr.heap.size = g := ⟨_, rfl⟩
      have HGZ := Lib.hid hgz
      clear hgz
      go_wp2_with (at_builtin; refine wpList_appendJ rfl (.tmp 33) (.tmp 37) rfl w.heap.size A' c' k (k + 1) wr.heap.size ⟨10, (k : Int) + 1, 0, 0, 0⟩ (jumpsJ k) rfl rfl rfl HS.out.own (jumpsJ_length k) rfl hle hsz ?_; intro A3 c3 w3 hO3 hG3; have hG3' : wr.grownBy w3 (Value.slice A' (jumpsJ k).length c').ownBlock := (by rw [jumpsJ_length]; exact hG3))
      have hadd := HS.out.add hO3 hG3'
      rw [show jumpsJ k ++ [⟨10, (k : Int) + 1, 0, 0, 0⟩] = jumpsJ (k + 1) by rw [jumpsJ_succ]; rfl] at hadd
      go_roundw
      case rel => exact ⟨k + 1, A3, c3, by omega, by go_num, rfl, hadd⟩
      case measure => simp [intOf]; omega
    · obtain rfl : k = b := by omega
      obtain ⟨k0, k1, k2, k3, _⟩ := lvCells HS.out.bx
      go_wp2_with fail
      clear k0 k1 k2 k3 hlt
      obtain ⟨wo, rfl⟩ : ∃ wo : World, wo = wr := ⟨_, rfl⟩
      go_loopw [6, 43] (fun v i wr => ∃ (m : Nat) (A' : Option Addr) (c' : Nat), m ≤ n ∧ i = .int .i64 m ∧ v = .slice A' (k + m) c' ∧ Hid (ShC w ⟨R, A, I, P, n, c, l⟩ wr A' c' (jumpsJ k ++ (l.take m).map (shiftJ k)))) (fun _ i _ => n - (intOf i).toNat)
      case atStart => exact ⟨0, A', c', Nat.zero_le _, rfl, rfl, by rw [List.take_zero, List.map_nil, List.append_nil]; exact HS.out⟩
      case round =>
        obtain ⟨m, A', c', hm, rfl, rfl, HS⟩ := hrel
        have HML : Hid ((jumpsJ k ++ (l.take m).map (shiftJ k)).length = k + m) := by unfold Hid; rw [List.length_append, jumpsJ_length, List.length_map, List.length_take]; have := HLN.out; omega
        by_cases hlt : m < n
        · obtain ⟨ba, off, y, hA, hb, HY, ⟨y0, y1, y2, y3, y4⟩, hyo⟩ := ((HQ.out.on HS.out.bel).ins).at_ hlt
          subst hA
          have HMS := Lib.hid (map_snocJ (shiftJ k) HY.out)
          obtain ⟨W4, hW4⟩ : ∃ W, wr.alloc y.obj = W := ⟨_, rfl⟩
          have hb4 : Below wr.heap.size wr W4 := by rw [← hW4]; exact lvBelow _ _
          have HS4 := Lib.hid (HS.out.below hb4)
          have HY4 : Hid (W4.heap[wr.heap.size]? = some y.obj) := by rw [← hW4]; exact newJ wr y
          have cF := further_any y (k : Int) W4 hyo (HTW.out.on HS4.out.bel)
          have HW4 := Lib.hid hW4
          clear hb hyo hb4 hW4
          have hlen := HML.out
          have hle : k + m + 1 ≤ 1000000 := by omega
          have hki : (m : Int) < (n : Int) := by omega
          go_upto_region 14 with fail
          try rw [HW4.out]
          clear HW4 y0 y1 y2 y3 y4
          obtain ⟨⟨y0, y1, y2, y3, y4⟩, yf⟩ := box_cellsJ HY4.out
          clear yf
          unfold FurP at cF
          go_wp2_with fail
          refine cF.mono ?_
          rintro e w5 ⟨rfl, hb⟩
          have HS5 := Lib.hid (HS4.out.below hb)
          have hsz : w.heap.size ≤ w5.heap.size := HS5.out.bel.size
          clear hb cF y0 y1 y2 y3 y4 hlen
          go_wp2_with (at_builtin; refine wpList_appendJ rfl (.tmp 47) (.tmp 51) rfl w.heap.size A' c' (k + m) (k + m + 1) w5.heap.size (shiftJ k y) (jumpsJ k ++ (l.take m).map (shiftJ k)) rfl rfl rfl HS5.out.own HML.out rfl hle hsz ?_; intro A3 c3 w6 hO6 hG6; have hG6' : w5.grownBy w6 (Value.slice A' (jumpsJ k ++ (l.take m).map (shiftJ k)).length c').ownBlock := (by rw [HML.out]; exact hG6))
          have hadd := HS5.out.add hO6 hG6'
          rw [List.append_assoc, ← HMS.out] at hadd
          go_roundw
          case rel => exact ⟨m + 1, A3, c3, by omega, by go_num, rfl, hadd⟩
          case measure => simp [intOf]; omega
        · obtain rfl : m = n := by omega
          have hL : (Cd.shift (Cq.cd ⟨R, A, I, P, m, c, l⟩) (k : Int)).l = jumpsJ k ++ (l.take m).map (shiftJ k) := by
            rw [List.take_of_length_le (by have := HLN.out; omega)]; rfl
          have hd := HS.out.done ⟨R, A, I, P, m, c, l⟩ (k : Int) HSE.out hL (k + m) HML.out
          have hbx := set_bx HS.out.bx (.slice A' (k + m) c')
          have hrv : (wr.setCell ⟨w.heap.size, 3, none⟩ (.slice A' (k + m) c')).heap[w.heap.size + 1]? = some (.cells #[.int .i64 0, .int .i64 0, .int .i64 0, .slice none 0 0] 24 (0, 0)) := (Below.heap_setCell _ ⟨w.heap.size, 3, none⟩ _ _ (by show w.heap.size + 1 ≠ w.heap.size; omega)).trans HS.out.rv
          obtain ⟨k0, k1, k2, k3, _, _, _, f3⟩ := lvCells HS.out.bx
          obtain ⟨W6, hW6⟩ : ∃ W, wr.setCell ⟨w.heap.size, 3, none⟩ (.slice A' (k + m) c') = W := ⟨_, rfl⟩
          rw [hW6] at hd hbx hrv
          have HBX := Lib.hid hbx
          have HRV := Lib.hid hrv
          obtain ⟨s0, s1, s2, s3, _⟩ := lvCells (four_cells hrv (.int .i64 R) (.int .i64 A) (.int .i64 I) (.slice A' (k + m) c'))
          have HSS := Lib.hid (And.intro s0 (And.intro s1 (And.intro s2 s3)))
          have HD := Lib.hid hd
          clear hL hbx hrv s0 s1 s2 s3 hd hlt
          go_upto_region 17 with fail
          try rw [hW6]
          clear hW6 k0 k1 k2 k3 f3
          obtain ⟨k0, k1, k2, k3, _⟩ := lvCells HBX.out
          obtain ⟨r0, r1, r2, r3, rf0, rf1, rf2, rf3⟩ := lvCells HRV.out
          go_wp2_with fail
          obtain ⟨s0, s1, s2, s3⟩ := HSS.out
          have hd := HD.out
          obtain ⟨wz, hwz⟩ : ∃ wz, (((W6.setCell ⟨w.heap.size + 1, 0, none⟩ (.int .i64 R)).setCell ⟨w.heap.size + 1, 1, none⟩ (.int .i64 A)).setCell ⟨w.heap.size + 1, 2, none⟩ (.int .i64 I)).setCell ⟨w.heap.size + 1, 3, none⟩ (.slice A' (k + m) c') = wz := ⟨_, rfl⟩
          rw [hwz] at hd s0 s1 s2 s3 ⊢
          exact bodyPost_ret (v := .tuple #[.agg #[.int .i64 R, .int .i64 A, .int .i64 I, .slice A' (k + m) c'], .int .i64 0]) (by simp [results, Tryd.results19, go_sem, s0, s1, s2, s3]) rfl hd
end Go.Proofs.YtgkngimeokhhgaaDoor
/- How the program reads a line of tokens, part by part: plain mathematics. -/
namespace Go.Proofs.YtgkngimeokhhgaaDoor
open Go.RowKit

def markL (kd : Int) : List UInt8 := if kd = 1 ∨ kd = 2 then [114] else if kd = 3 then [97] else []
def cutPL (p s : List UInt8) : List UInt8 × Bool := if s.take p.length = p then (s.drop p.length, true) else (s, false)
/-- one token as a part -/
def rdOne (kd : Int) (t : Tk) : Int × Nat := if (cutPL (markL kd) (bl t.s)).2 = true ∧ isNumL (cutPL (markL kd) (bl t.s)).1 = true then (numL (cutPL (markL kd) (bl t.s)).1, 1) else (0, 0)
/-- the part that tokens begin with -/
def rdPart (kd : Int) : List Tk → Int × Nat
  | [] => (0, 0)
  | t :: r => if kd = 0 then (0, 0) else if kd = 6 ∧ eqTk t minusTk = true then (match r with | [] => (0, 0) | u :: _ => if 0 < (rdOne 5 u).1 then (-(rdOne 5 u).1, (rdOne 5 u).2 + 1) else (0, 0)) else rdOne kd t
theorem rdOne_le (kd : Int) (t : Tk) : (rdOne kd t).2 ≤ 1 ∧ 0 ≤ (rdOne kd t).1 ∧ (rdOne kd t).1 < 1000000000000000000 := by
  unfold rdOne
  split
  · rename_i h
    have := isNumL_bound h.2
    exact ⟨Nat.le_refl _, this.1, this.2⟩
  · exact ⟨by omega, by omega, by omega⟩
theorem rdPart_zero (l : List Tk) : rdPart 0 l = (0, 0) := by cases l <;> simp [rdPart]
theorem rdPart_minus {t u : Tk} {r : List Tk} (h : eqTk t minusTk = true) : rdPart 6 (t :: u :: r) = if 0 < (rdOne 5 u).1 then (-(rdOne 5 u).1, (rdOne 5 u).2 + 1) else (0, 0) := by
  show (if (6 : Int) = 0 then (0, 0) else if (6 : Int) = 6 ∧ eqTk t minusTk = true then _ else _) = _
  rw [if_neg (by decide), if_pos ⟨rfl, h⟩]
theorem rdPart_alone {t : Tk} (h : eqTk t minusTk = true) : rdPart 6 [t] = (0, 0) := by
  show (if (6 : Int) = 0 then (0, 0) else if (6 : Int) = 6 ∧ eqTk t minusTk = true then _ else _) = _
  rw [if_neg (by decide), if_pos ⟨rfl, h⟩]
theorem rdPart_one {kd : Int} {t : Tk} {r : List Tk} (h0 : kd ≠ 0) (h : ¬ (kd = 6 ∧ eqTk t minusTk = true)) : rdPart kd (t :: r) = rdOne kd t := by
  show (if kd = 0 then (0, 0) else if kd = 6 ∧ eqTk t minusTk = true then _ else _) = _
  rw [if_neg h0, if_neg h]
theorem rdPart_le (kd : Int) (l : List Tk) : (rdPart kd l).2 ≤ l.length ∧ (rdPart kd l).2 ≤ 2 ∧ -1000000000000000000 < (rdPart kd l).1 ∧ (rdPart kd l).1 < 1000000000000000000 := by
  cases l with
  | nil => exact ⟨Nat.le_refl _, by simp [rdPart], by simp [rdPart], by simp [rdPart]⟩
  | cons t r =>
    by_cases h0 : kd = 0
    · subst h0
      rw [rdPart_zero]
      exact ⟨by simp, by simp, by simp, by simp⟩
    · by_cases h6 : kd = 6 ∧ eqTk t minusTk = true
      · obtain ⟨rfl, h6⟩ := h6
        cases r with
        | nil =>
          rw [rdPart_alone h6]
          exact ⟨by simp, by simp, by simp, by simp⟩
        | cons u r =>
          have hu := rdOne_le 5 u
          rw [rdPart_minus h6]
          by_cases hp : 0 < (rdOne 5 u).1
          · rw [if_pos hp]
            exact ⟨by simp only [List.length_cons]; omega, by show (rdOne 5 u).2 + 1 ≤ 2; omega, by show _ < -(rdOne 5 u).1; omega, by show -(rdOne 5 u).1 < _; omega⟩
          · rw [if_neg hp]
            exact ⟨by simp, by simp, by simp, by simp⟩
      · rw [rdPart_one h0 h6]
        have := rdOne_le kd t
        exact ⟨by simp only [List.length_cons]; omega, by omega, by omega, by omega⟩
/-- the parts of kinds, one behind the other -/
def rdG : List Int → List Tk → List Int × Bool × List Tk
  | [], l => ([], true, l)
  | k :: ks, l => ((rdPart k l).1 :: (rdG ks (l.drop (rdPart k l).2)).1, (decide (0 < (rdPart k l).2) || k == 0) && (rdG ks (l.drop (rdPart k l).2)).2.1, (rdG ks (l.drop (rdPart k l).2)).2.2)
/-- the same, as the loop goes -/
def rdS (ks : List Int) (b : Bool) (l : List Tk) : Nat → List Int × Bool × List Tk
  | 0 => ([0, 0, 0, 0], b, l)
  | k + 1 => ((rdS ks b l k).1.set k (rdPart (ks.getD k 0) (rdS ks b l k).2.2).1, (rdS ks b l k).2.1 && (decide (0 < (rdPart (ks.getD k 0) (rdS ks b l k).2.2).2) || ks.getD k 0 == 0), (rdS ks b l k).2.2.drop (rdPart (ks.getD k 0) (rdS ks b l k).2.2).2)
theorem rdS_four (k0 k1 k2 k3 : Int) (b : Bool) (l : List Tk) : rdS [k0, k1, k2, k3] b l 4 = ((rdG [k0, k1, k2, k3] l).1, b && (rdG [k0, k1, k2, k3] l).2.1, (rdG [k0, k1, k2, k3] l).2.2) := by
  simp only [rdS, rdG, List.getD_cons_zero, List.getD_cons_succ, List.set_cons_zero, List.set_cons_succ, Bool.and_assoc, Bool.and_true]
theorem rdS_len (ks : List Int) (b : Bool) (l : List Tk) (k : Nat) : (rdS ks b l k).1.length = 4 := by
  induction k with
  | zero => rfl
  | succ k ih => show ((rdS ks b l k).1.set k _).length = 4; rw [List.length_set, ih]
theorem rdS_mem (ks : List Int) (b : Bool) (l : List Tk) (k : Nat) : ∀ t ∈ (rdS ks b l k).2.2, t ∈ l := by
  induction k with
  | zero => exact fun t h => h
  | succ k ih => exact fun t h => ih t (List.mem_of_mem_drop h)
theorem rdS_fit (ks : List Int) (b : Bool) (l : List Tk) (k : Nat) : ∀ v ∈ (rdS ks b l k).1, -1000000000000000000 < v ∧ v < 1000000000000000000 := by
  induction k with
  | zero => intro v hv; simp [rdS] at hv; omega
  | succ k ih =>
    intro v hv
    rcases List.mem_or_eq_of_mem_set hv with h | rfl
    · exact ih v h
    · exact ⟨(rdPart_le _ _).2.2.1, (rdPart_le _ _).2.2.2⟩
theorem may_kinds {t : Tk} (h : mayT t) : (t.k = 4 ∧ bl t.s = []) ∨ (t.k = 1 ∧ ∃ c, (bl t.s)[0]? = some c ∧ kb c = 4) ∨ (t.k = 2 ∧ isNumL (bl t.s) = true ∧ t.n = numL (bl t.s)) ∨ (t.k = 3 ∧ ∃ c, (bl t.s)[0]? = some c ∧ kb c = 6) := by
  unfold mayT tokF at h
  split at h
  · rename_i h0
    injection h with h
    exact .inl ⟨by rw [← h], List.eq_nil_of_length_eq_zero (by rw [bl_len]; exact h0)⟩
  · split at h
    · rename_i hw
      injection h with h
      unfold isWordL at hw
      rw [decide_eq_true_iff] at hw
      exact .inr (.inl ⟨by rw [← h], hw.2.1⟩)
    · split at h
      · rename_i hn
        injection h with h
        exact .inr (.inr (.inl ⟨by rw [← h], hn, by rw [← h]⟩))
      · split at h
        · rename_i hs
          injection h with h
          unfold isSignL at hs
          rw [decide_eq_true_iff] at hs
          exact .inr (.inr (.inr ⟨by rw [← h], hs.2⟩))
        · cases h
theorem num_head {l : List UInt8} (h : isNumL l = true) : ∃ c, l[0]? = some c ∧ kb c = 5 := by
  unfold isNumL at h
  rw [decide_eq_true_iff] at h
  exact h.2.2.2 0 h.1
/-- a token that begins with a letter is a word -/
theorem may_letter {t : Tk} {c : UInt8} (h : mayT t) (hc : (bl t.s)[0]? = some c) (hk : kb c = 4) : t.k = 1 := by
  rcases may_kinds h with ⟨_, h2⟩ | ⟨h1, _⟩ | ⟨_, h2, _⟩ | ⟨_, d, h2, h3⟩
  · rw [h2] at hc; cases hc
  · exact h1
  · obtain ⟨d, h3, h4⟩ := num_head h2
    rw [hc] at h3
    injection h3 with h3
    subst h3
    omega
  · rw [hc] at h2
    injection h2 with h2
    subst h2
    omega
theorem may_num_iff {t : Tk} (h : mayT t) : (isNumL (bl t.s) = true ↔ t.k = 2) ∧ (t.k = 2 → t.n = numL (bl t.s)) := by
  rcases may_kinds h with ⟨h1, h2⟩ | ⟨h1, d, h2, h3⟩ | ⟨h1, h2, h3⟩ | ⟨h1, d, h2, h3⟩
  · refine ⟨⟨fun hn => ?_, fun hk => by omega⟩, fun hk => by omega⟩
    obtain ⟨e, h4, _⟩ := num_head hn
    rw [h2] at h4; cases h4
  · refine ⟨⟨fun hn => ?_, fun hk => by omega⟩, fun hk => by omega⟩
    obtain ⟨e, h4, h5⟩ := num_head hn
    rw [h2] at h4; injection h4 with h4; subst h4; omega
  · exact ⟨⟨fun _ => h1, fun _ => h2⟩, fun _ => h3⟩
  · refine ⟨⟨fun hn => ?_, fun hk => by omega⟩, fun hk => by omega⟩
    obtain ⟨e, h4, h5⟩ := num_head hn
    rw [h2] at h4; injection h4 with h4; subst h4; omega
theorem cutPL_one (c : UInt8) (s : List UInt8) : cutPL [c] s = if s.head? = some c then (s.drop 1, true) else (s, false) := by
  unfold cutPL
  cases s with
  | nil => rfl
  | cons d r => simp
theorem rdOne_letter {kd : Int} {t : Tk} {c : UInt8} (h : mayT t) (hk : markL kd = [c]) (hc : kb c = 4) : rdOne kd t = if (behindF t c).2 then ((behindF t c).1, 1) else (0, 0) := by
  unfold rdOne
  rw [hk, cutPL_one]
  by_cases h1 : (bl t.s).head? = some c
  · have hk1 : t.k = 1 := may_letter h (by rw [← List.head?_eq_getElem?]; exact h1) hc
    rw [if_pos h1]
    by_cases h2 : isNumL ((bl t.s).drop 1) = true
    · have hB : behindF t c = (numL ((bl t.s).drop 1), true) := by unfold behindF; rw [if_pos ⟨hk1, h1, h2⟩]
      rw [if_pos ⟨rfl, h2⟩, hB]; rfl
    · have hB : behindF t c = (0, false) := by unfold behindF; rw [if_neg (fun q => h2 q.2.2)]
      rw [if_neg (fun q => h2 q.2), hB]; rfl
  · have hB : behindF t c = (0, false) := by unfold behindF; rw [if_neg (fun q => h1 q.2.1)]
    rw [if_neg h1, if_neg (by rintro ⟨q, _⟩; cases q), hB]; rfl
theorem rdOne_reg {kd : Int} {t : Tk} (h : mayT t) (hk : kd = 1 ∨ kd = 2) : rdOne kd t = if (behindF t 114).2 then ((behindF t 114).1, 1) else (0, 0) :=
  rdOne_letter h (by unfold markL; rw [if_pos hk]) (by decide)
theorem rdOne_arr {t : Tk} (h : mayT t) : rdOne 3 t = if (behindF t 97).2 then ((behindF t 97).1, 1) else (0, 0) :=
  rdOne_letter h rfl (by decide)
theorem rdOne_num {kd : Int} {t : Tk} (h : mayT t) (hk : kd = 4 ∨ kd = 5 ∨ kd = 6) : rdOne kd t = if t.k = 2 then (t.n, 1) else (0, 0) := by
  have hm : markL kd = [] := by unfold markL; rw [if_neg (by omega), if_neg (by omega)]
  unfold rdOne
  rw [hm]
  show (if (true = true ∧ isNumL (bl t.s) = true) then (numL (bl t.s), 1) else (0, 0)) = _
  obtain ⟨h1, h2⟩ := may_num_iff h
  by_cases hk2 : t.k = 2
  · rw [if_pos ⟨rfl, h1.2 hk2⟩, if_pos hk2, h2 hk2]
  · rw [if_neg (fun q => hk2 (h1.1 q.2)), if_neg hk2]
end Go.Proofs.YtgkngimeokhhgaaDoor
