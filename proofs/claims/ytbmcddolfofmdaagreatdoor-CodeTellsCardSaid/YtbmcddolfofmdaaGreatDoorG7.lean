/- The program's further: an instruction of code that is put further on. -/
import Derived.Test.YtbmcddolfofmdaaGreatDoorG6
import Derived.Test.YtbmcddolfofmdaaGreatDoorG5
import Derived.Test.YtbmcddolfofmdaaGreatDoorG1
import Derived.WalkMore
import Derived.OwnWalk
import Derived.Below
namespace Go.Proofs.YtbmcddolfofmdaaGreatDoor
open Go Go.RowKit

abbrev kindsV (op : Int) : Value := .agg #[.int .i64 (kA op 0), .int .i64 (kA op 1), .int .i64 (kA op 2), .int .i64 (kA op 3)]
theorem index_kinds {op : Int} {k : Nat} (hk : k < 4) (w : World) : Sem.run Tryz.prog (Instr.index 56 (kindsV op) (.int .i64 (k : Int))) w = .ok (.int .i64 (kA op k)) w := by
  match k, hk with
  | 0, _ => simp [Instr.index, run_underlying Tryz.underlying56, asIntOf, go_sem]
  | 1, _ => simp [Instr.index, run_underlying Tryz.underlying56, asIntOf, go_sem]
  | 2, _ => simp [Instr.index, run_underlying Tryz.underlying56, asIntOf, go_sem]
  | 3, _ => simp [Instr.index, run_underlying Tryz.underlying56, asIntOf, go_sem]
def pj (op by_ : Int) (k j : Nat) (v : Int) : Int := if j < k ∧ kA op j = 4 then wrap64 (v + by_) else v
/-- the parts so far -/
def pv (x : Ji) (by_ : Int) (k : Nat) : List Int := x.p.mapIdx (pj x.op by_ k)
theorem pv_len (x : Ji) (by_ : Int) (k : Nat) : (pv x by_ k).length = 4 := by unfold pv; rw [List.length_mapIdx]; rfl
theorem pv_at {x : Ji} {by_ v : Int} {k j : Nat} (hv : x.p[j]? = some v) : (pv x by_ k)[j]? = some (pj x.op by_ k j v) := by
  unfold pv
  rw [List.getElem?_mapIdx, hv]; rfl
theorem pv_zero (x : Ji) (by_ : Int) : pv x by_ 0 = x.p := by
  unfold pv
  apply List.ext_getElem?
  intro j
  rw [List.getElem?_mapIdx]
  cases x.p[j]? with
  | none => rfl
  | some v => simp [pj]
theorem pv_same {x : Ji} {by_ : Int} {k : Nat} (h : kA x.op k ≠ 4) : pv x by_ (k + 1) = pv x by_ k := by
  unfold pv
  apply List.ext_getElem?
  intro j
  rw [List.getElem?_mapIdx, List.getElem?_mapIdx]
  cases x.p[j]? with
  | none => rfl
  | some v =>
    simp only [Option.map_some, Option.some.injEq]
    unfold pj
    by_cases hj : j = k
    · subst hj
      rw [if_neg (by rintro ⟨_, h2⟩; exact h h2), if_neg (by rintro ⟨_, h2⟩; exact h h2)]
    · by_cases hl : j < k
      · simp [hl, Nat.lt_succ_of_lt hl]
      · rw [if_neg (by omega), if_neg (by omega)]
theorem pv_set {x : Ji} {by_ v : Int} {k : Nat} (hv : x.p[k]? = some v) (h : kA x.op k = 4) : pv x by_ (k + 1) = (pv x by_ k).set k (wrap64 (v + by_)) := by
  apply List.ext_getElem?
  intro j
  have hk : k < 4 := (List.getElem?_eq_some_iff.1 hv).1
  by_cases hj : j = k
  · subst hj
    rw [pv_at hv, List.getElem?_set_self (by rw [pv_len]; exact hk)]
    unfold pj
    rw [if_pos ⟨by omega, h⟩]
  · rw [List.getElem?_set_ne (Ne.symm hj)]
    unfold pv
    rw [List.getElem?_mapIdx, List.getElem?_mapIdx]
    cases x.p[j]? with
    | none => rfl
    | some u =>
      simp only [Option.map_some, Option.some.injEq]
      unfold pj
      by_cases hl : j < k
      · simp [hl, Nat.lt_succ_of_lt hl]
      · rw [if_neg (by omega), if_neg (by omega)]
theorem pv_four (x : Ji) (by_ : Int) : pv x by_ 4 = [pj x.op by_ 4 0 x.a, pj x.op by_ 4 1 x.b, pj x.op by_ 4 2 x.c, pj x.op by_ 4 3 x.n] := rfl
theorem further_eq (x : Ji) (by_ : Int) : (⟨x.op, pj x.op by_ 4 0 x.a, pj x.op by_ 4 1 x.b, pj x.op by_ 4 2 x.c, pj x.op by_ 4 3 x.n⟩ : Ji) = shiftJ by_ x := by
  obtain ⟨op, a, b, c, n⟩ := x
  unfold shiftJ pj kA
  dsimp only
  rcases op_split op with h | rfl | rfl | rfl | rfl | rfl | rfl | rfl | rfl | rfl | rfl | rfl | rfl | rfl
  · rw [kN_out h, if_neg (by omega : ¬ op = 10), if_neg (by omega : ¬ (op = 11 ∨ op = 12))]
    simp
  all_goals simp [kN, kindNs]
def pObj (vs : List Int) : Obj := .cells (vs.map (Value.int .i64)).toArray 79
def FurP (x : Ji) (by_ : Int) (w : World) (e : Ending) (w' : World) : Prop := e = .returned (shiftJ by_ x).val ∧ Below w.heap.size w w'
set_option maxRecDepth 100000 in
set_option maxHeartbeats 4000000 in
theorem further_any (x : Ji) (by_ : Int) (w : World) (hx : x.ok) (hS : ShT w) : Calls Tryz.prog 28 #[x.val, .int .i64 by_] w (FurP x by_ w) := by
  have hb0 := ((Below.refl w.heap.size w).alloc (Nat.le_refl _) x.obj).alloc (by simp) (Ji.obj ⟨0, 0, 0, 0, 0⟩)
  obtain ⟨W0, hW0⟩ : ∃ W, (w.alloc x.obj).alloc (Ji.obj ⟨0, 0, 0, 0, 0⟩) = W := ⟨_, rfl⟩
  have HB0 : Hid (Below w.heap.size w W0) := by rw [← hW0]; exact hb0
  have HX0 : Hid (W0.heap[w.heap.size]? = some x.obj) := by rw [← hW0]; exact pastJ _ (newJ w x)
  have HR0 : Hid (W0.heap[w.heap.size + 1]? = some (Ji.obj ⟨0, 0, 0, 0, 0⟩)) := by
    rw [← hW0]
    have h := newJ (w.alloc x.obj) ⟨0, 0, 0, 0, 0⟩
    rwa [World.size_alloc] at h
  have HOK := Lib.hid hx
  have HS := Lib.hid hS
  have cS := shapeOf_any x.op W0 (HS.out.on HB0.out)
  obtain ⟨⟨k0, k1, k2, k3, k4⟩, kf⟩ := box_cellsJ HX0.out
  clear hS hx hb0
  go_enter Tryz.func28, Tryz.ntmps28
  go_wp2_with fail
  try rw [hW0]
  refine cS.mono ?_
  rintro e w1 ⟨rfl, hb⟩
  unfold shV
  have HB1 := Lib.hid (HB0.out.trans (hb.mono HB0.out.size))
  have HX1 := Lib.hid (keep_b hb HX0.out)
  have HR1 := Lib.hid (keep_b hb HR0.out)
  clear hb hW0 k0 k1 k2 k3 k4 kf
  obtain ⟨W2, hW2⟩ : ∃ W, w1.alloc (shObj x.op) = W := ⟨_, rfl⟩
  have HB2 : Hid (Below w.heap.size w W2) := by rw [← hW2]; exact HB1.out.alloc HB1.out.size _
  have HX2 : Hid (W2.heap[w.heap.size]? = some x.obj) := by rw [← hW2]; exact pastJ _ HX1.out
  have HR2 : Hid (W2.heap[w.heap.size + 1]? = some (Ji.obj ⟨0, 0, 0, 0, 0⟩)) := by rw [← hW2]; exact pastJ _ HR1.out
  have HG2 : Hid (W2.heap[w1.heap.size]? = some (.cells #[.string (strJ (wJ x.op)), .int .i64 (kA x.op 0), .int .i64 (kA x.op 1), .int .i64 (kA x.op 2), .int .i64 (kA x.op 3)] 58 (0, 0))) := by rw [← hW2]; exact heap_alloc_new w1 (shObj x.op)
  go_upto_region 2 with fail
  try rw [hW2]
  have cP := parts_any x W2
  obtain ⟨⟨k0, k1, k2, k3, k4⟩, kf⟩ := box_cellsJ HX2.out
  have hg1 : w.heap.size ≤ w1.heap.size := HB1.out.size
  clear hW2 cS HX1
  go_wp2_with fail
  refine cP.mono ?_
  rintro e w3 ⟨rfl, hb⟩
  have HB3 := Lib.hid (HB2.out.trans (hb.mono HB2.out.size))
  have HX3 := Lib.hid (keep_b hb HX2.out)
  have HR3 := Lib.hid (keep_b hb HR2.out)
  have hG3 := keep_b hb HG2.out
  obtain ⟨G, hG⟩ : ∃ G, w1.heap.size = G := ⟨_, rfl⟩
  rw [hG] at hG3 hg1 ⊢
  clear hb cP HG2 HX2 HB2 HB1 HB0 HX0 HR0 HR1 HR2 k0 k1 k2 k3 k4 kf hG
  obtain ⟨W4, hW4⟩ : ∃ W, w3.alloc (.cells #[.int .i64 x.a, .int .i64 x.b, .int .i64 x.c, .int .i64 x.n] 79) = W := ⟨_, rfl⟩
  have HB4 : Hid (Below w.heap.size w W4) := by rw [← hW4]; exact HB3.out.alloc HB3.out.size _
  have HX4 : Hid (W4.heap[w.heap.size]? = some x.obj) := by rw [← hW4]; exact pastJ _ HX3.out
  have HR4 : Hid (W4.heap[w.heap.size + 1]? = some (Ji.obj ⟨0, 0, 0, 0, 0⟩)) := by rw [← hW4]; exact pastJ _ HR3.out
  have hG4 : W4.heap[G]? = some (.cells #[.string (strJ (wJ x.op)), .int .i64 (kA x.op 0), .int .i64 (kA x.op 1), .int .i64 (kA x.op 2), .int .i64 (kA x.op 3)] 58 (0, 0)) := by rw [← hW4]; exact pastJ _ hG3
  have HP4 : Hid (W4.heap[w3.heap.size]? = some (.cells (x.p.map (Value.int .i64)).toArray 79 (0, 0))) := by rw [← hW4]; exact heap_alloc_new w3 _
  obtain ⟨s0, s1, s2, s3, s4, _⟩ := cells5 hG4
  obtain ⟨H, hH⟩ : ∃ H, w3.heap.size = H := ⟨_, rfl⟩
  have hgH : w.heap.size + 1 < H := by rw [← hH]; exact lt_of_heap HR3.out
  go_upto_region 3 with fail
  try rw [hW4]
  rw [hH] at HP4
  try rw [hH]
  clear hW4 hG3 HX3 HR3 HB3 hH
  go_wp2_with fail
  clear s0 s1 s2 s3 s4 hG4
  go_loopw [20] (fun i wr => ∃ (k : Nat), k ≤ 4 ∧ i = .int .i64 k ∧ Hid (Below w.heap.size w wr) ∧ Hid (wr.heap[w.heap.size]? = some x.obj) ∧ Hid (wr.heap[w.heap.size + 1]? = some (Ji.obj ⟨0, 0, 0, 0, 0⟩)) ∧ Hid (wr.heap[H]? = some (.cells ((pv x by_ k).map (Value.int .i64)).toArray 79 (0, 0)))) (fun i _ => 4 - (intOf i).toNat)
  case atStart => exact ⟨0, Nat.zero_le _, rfl, HB4, HX4, HR4, by rw [pv_zero]; exact HP4⟩
  case round =>
    obtain ⟨k, hk, rfl, HB, HX, HR, HP⟩ := hrel
    by_cases hlt : k < 4
    · obtain ⟨v, hv, hv0, hv1⟩ := Ji.p_at HOK.out hlt
      have hix := index_kinds (op := x.op) hlt wr
      have hk4 : (k : Int) < 4 := by omega
      have hk0 : (0 : Int) ≤ (k : Int) := by omega
      by_cases hkd : kA x.op k = 4
      · have c1 : (kA x.op k == 4) = true := by simpa using hkd
        have HST : Hid (pv x by_ (k + 1) = (pv x by_ k).set k (wrap64 (v + by_))) := pv_set hv hkd
        have hat : (pv x by_ k)[k]? = some v := by
          rw [pv_at hv]; unfold pj; rw [if_neg (by omega)]
        have hc : wr.cell? ⟨H, k, none⟩ = some (.int .i64 v) := by
          refine (cell_of_row _ _ _ _ _ _ HP.out).trans ?_
          simp [hat]
        have hf : wr.frozen? ⟨H, k, none⟩ = false := by simp [World.frozen?, HP.out]
        have hs := set_j (i := k) HP.out (.int .i64 (wrap64 (v + by_)))
        rw [← List.map_set, ← HST.out] at hs
        have HPS := Lib.hid hs
        have HXS : Hid ((wr.setCell ⟨H, k, none⟩ (.int .i64 (wrap64 (v + by_)))).heap[w.heap.size]? = some x.obj) := (Below.heap_setCell _ ⟨H, k, none⟩ _ _ (by show w.heap.size ≠ H; omega)).trans HX.out
        have HRS : Hid ((wr.setCell ⟨H, k, none⟩ (.int .i64 (wrap64 (v + by_)))).heap[w.heap.size + 1]? = some (Ji.obj ⟨0, 0, 0, 0, 0⟩)) := (Below.heap_setCell _ ⟨H, k, none⟩ _ _ (by show w.heap.size + 1 ≠ H; omega)).trans HR.out
        have HBS : Hid (Below w.heap.size w (wr.setCell ⟨H, k, none⟩ (.int .i64 (wrap64 (v + by_))))) := HB.out.setCell (p := ⟨H, k, none⟩) (by show w.heap.size ≤ H; omega) _
        clear hkd hs hat hv
        go_wp2_with fail
        go_roundw
        case rel => exact ⟨k + 1, by omega, by go_num, HBS.out, HXS.out, HRS.out, HPS.out⟩
        case measure => simp [intOf]; omega
      · have c1 : (kA x.op k == 4) = false := by simpa using hkd
        have HST : Hid (pv x by_ (k + 1) = pv x by_ k) := pv_same hkd
        clear hkd hv
        go_wp2_with fail
        go_roundw
        case rel => exact ⟨k + 1, by omega, by go_num, HB.out, HX.out, HR.out, by rw [HST.out]; exact HP.out⟩
        case measure => simp [intOf]; omega
    · have hk4 : ¬ (k : Int) < 4 := by omega
      obtain rfl : k = 4 := by omega
      have hp := HP.out
      rw [pv_four] at hp
      have cW := fun W => whole_j ⟨x.op, pj x.op by_ 4 0 x.a, pj x.op by_ 4 1 x.b, pj x.op by_ 4 2 x.c, pj x.op by_ 4 3 x.n⟩ W
      have HFE := Lib.hid (further_eq x by_)
      generalize pj x.op by_ 4 0 x.a = q0 at hp cW HFE
      generalize pj x.op by_ 4 1 x.b = q1 at hp cW HFE
      generalize pj x.op by_ 4 2 x.c = q2 at hp cW HFE
      generalize pj x.op by_ 4 3 x.n = q3 at hp cW HFE
      obtain ⟨p0, p1, p2, p3, _⟩ := lvCells hp
      obtain ⟨⟨k0, k1, k2, k3, k4⟩, kf⟩ := box_cellsJ HX.out
      have cW2 := cW wr
      clear cW hp
      go_wp2_with fail
      refine cW2.mono ?_
      rintro e w5 ⟨rfl, hb⟩
      have HB5 := Lib.hid (HB.out.trans (hb.mono HB.out.size))
      have HR5 := Lib.hid (keep_b hb HR.out)
      clear hb cW2 k0 k1 k2 k3 k4 kf p0 p1 p2 p3
      obtain ⟨r0, r1, r2, r3, r4, rf0, rf1, rf2, rf3, rf4⟩ := cells5 HR5.out
      have HD := Lib.hid (put5_below HB5.out (show w.heap.size ≤ w.heap.size + 1 by omega) (.int .i64 x.op) (.int .i64 q0) (.int .i64 q1) (.int .i64 q2) (.int .i64 q3))
      obtain ⟨s0, s1, s2, s3, s4, _⟩ := cells5 (five_cells HR5.out (.int .i64 x.op) (.int .i64 q0) (.int .i64 q1) (.int .i64 q2) (.int .i64 q3))
      have HSS := Lib.hid (And.intro s0 (And.intro s1 (And.intro s2 (And.intro s3 s4))))
      clear s0 s1 s2 s3 s4
      go_wp2_with fail
      obtain ⟨s0, s1, s2, s3, s4⟩ := HSS.out
      exact bodyPost_ret (v := Ji.val ⟨x.op, q0, q1, q2, q3⟩) (by simp [results, Tryz.results28, go_sem, s0, s1, s2, s3, s4]) rfl ⟨by rw [HFE.out], HD.out⟩
end Go.Proofs.YtbmcddolfofmdaaGreatDoor
/- The program's Shift: code put further on. -/
namespace Go.Proofs.YtbmcddolfofmdaaGreatDoor
open Go.RowKit

/-- where the variables lie in the program's Shift -/
structure ShC (w : World) (q : Cq) (wr : World) (A' : Option Addr) (c' : Nat) (L : List Ji) : Prop where
  bel : Below w.heap.size w wr
  bx : wr.heap[w.heap.size]? = some q.obj
  rv : wr.heap[w.heap.size + 1]? = some (.cells #[.int .i64 0, .int .i64 0, .int .i64 0, .slice none 0 0] 24 (0, 0))
  own : OwnJ wr w.heap.size A' c' L
section
variable {w wr w' : World} {q : Cq} {c' c2 : Nat} {A' A2 : Option Addr} {L : List Ji} {y : Ji}
theorem ShC.below (h : ShC w q wr A' c' L) (hb : Below wr.heap.size wr w') : ShC w q w' A' c' L :=
  ⟨h.bel.trans (hb.mono h.bel.size), keep_b hb h.bx, keep_b hb h.rv, h.own.below hb (Nat.le_refl _)⟩
theorem ShC.add (h : ShC w q wr A' c' L) (hO : OwnJ w' w.heap.size A2 c2 (L ++ [y])) (hG : wr.grownBy w' (Value.slice A' L.length c').ownBlock) : ShC w q w' A2 c2 (L ++ [y]) :=
  ⟨below_appJ h.bel hG h.own h.bel.size, box_keptJ h.bx (by decide) hG h.own, box_keptJ h.rv (by decide) hG h.own, hO⟩
end
theorem set_bx {w : World} {q : Cq} {g : Nat} (h : w.heap[g]? = some q.obj) (v : Value) : (w.setCell ⟨g, 3, none⟩ v).heap[g]? = some (.cells #[.int .i64 q.R, .int .i64 q.A, .int .i64 q.I, v] 24 (0, 0)) :=
  set_j (i := 3) (cs := [.int .i64 q.R, .int .i64 q.A, .int .i64 q.I, .slice q.P q.n q.c]) h v
/-- the program's Shift: what is returned, stored -/
theorem ShC.done (q : Cq) (by_ : Int) {w wr : World} {c' : Nat} {A' : Option Addr} {L : List Ji} (h : ShC w q wr A' c' L) (hE : q.cd.shiftE by_ = 0) (hL : (q.cd.shift by_).l = L) (n : Nat) (hn : L.length = n) :
    ShP q by_ w (.returned (.tuple #[.agg #[.int .i64 q.R, .int .i64 q.A, .int .i64 q.I, .slice A' n c'], .int .i64 0])) (((((wr.setCell ⟨w.heap.size, 3, none⟩ (.slice A' n c')).setCell ⟨w.heap.size + 1, 0, none⟩ (.int .i64 q.R)).setCell ⟨w.heap.size + 1, 1, none⟩ (.int .i64 q.A)).setCell ⟨w.heap.size + 1, 2, none⟩ (.int .i64 q.I)).setCell ⟨w.heap.size + 1, 3, none⟩ (.slice A' n c')) := by
  have hC : q.cd.shiftC by_ = q.cd.shift by_ := by unfold Cd.shiftC; rw [if_pos hE]
  have h1 : OwnJ (wr.setCell ⟨w.heap.size, 3, none⟩ (.slice A' n c')) w.heap.size A' c' L := h.own.set_other h.bx (by decide) _ _
  have hb1 : Below w.heap.size w (wr.setCell ⟨w.heap.size, 3, none⟩ (.slice A' n c')) := h.bel.setCell (p := ⟨w.heap.size, 3, none⟩) (Nat.le_refl _) _
  have hr1 : (wr.setCell ⟨w.heap.size, 3, none⟩ (.slice A' n c')).heap[w.heap.size + 1]? = _ := (Below.heap_setCell _ ⟨w.heap.size, 3, none⟩ _ _ (by show w.heap.size + 1 ≠ w.heap.size; omega)).trans h.rv
  generalize wr.setCell ⟨w.heap.size, 3, none⟩ (.slice A' n c') = wr2 at h1 hb1 hr1
  have hg : wr2.grownBy ((((wr2.setCell ⟨w.heap.size + 1, 0, none⟩ (.int .i64 q.R)).setCell ⟨w.heap.size + 1, 1, none⟩ (.int .i64 q.A)).setCell ⟨w.heap.size + 1, 2, none⟩ (.int .i64 q.I)).setCell ⟨w.heap.size + 1, 3, none⟩ (.slice A' n c')) (some (w.heap.size + 1)) :=
    grownBy_setE (grownBy_setE (grownBy_setE (grownBy_setE (grown_same wr2 _) _ _) _ _) _ _) _ _
  refine ⟨A', c', ?_, ?_, hb1.grown hg hb1.size (fun k hk => by injection hk with hk; omega)⟩
  · rw [hC, hE, hL, hn]; rfl
  · rw [hC, hL]
    exact World.ownsRow.kept h1 hg (rows_ne h1 hr1 (by decide))
set_option maxRecDepth 100000 in
set_option maxHeartbeats 8000000 in
theorem codeShift_any (q : Cq) (by_ : Int) (w : World) (hq : q.In w) (hT : ShT w) : Calls Tryz.prog 8 #[q.val, .int .i64 by_] w (ShP q by_ w) := by
  obtain ⟨R, A, I, P, n, c, l⟩ := q
  obtain ⟨W0, hW0⟩ : ∃ W, (w.alloc (Cq.obj ⟨R, A, I, P, n, c, l⟩)).alloc (.cells #[.int .i64 0, .int .i64 0, .int .i64 0, .slice none 0 0] 24) = W := ⟨_, rfl⟩
  have HB0 : Hid (Below w.heap.size w W0) := by rw [← hW0]; exact ((Below.refl w.heap.size w).alloc (Nat.le_refl _) _).alloc (by simp) _
  have HX0 : Hid (W0.heap[w.heap.size]? = some (Cq.obj ⟨R, A, I, P, n, c, l⟩)) := by rw [← hW0]; exact pastJ _ (heap_alloc_new w _)
  have HR0 : Hid (W0.heap[w.heap.size + 1]? = some (.cells #[.int .i64 0, .int .i64 0, .int .i64 0, .slice none 0 0] 24 (0, 0))) := by
    have h := heap_alloc_new (w.alloc (Cq.obj ⟨R, A, I, P, n, c, l⟩)) (.cells #[.int .i64 0, .int .i64 0, .int .i64 0, .slice none 0 0] 24)
    rw [World.size_alloc, hW0] at h
    exact h
  have HQ := Lib.hid hq
  have hn1 : n ≤ 9223372036854775807 := hq.n1
  have HLN : Hid (l.length = n) := hq.len
  have hC := codeCheck_any ⟨R, A, I, P, n, c, l⟩ W0 (HQ.out.on HB0.out) (hT.on HB0.out)
  obtain ⟨k0, k1, k2, k3, _⟩ := lvCells HX0.out
  obtain ⟨E, hE⟩ : ∃ E, (Cq.cd ⟨R, A, I, P, n, c, l⟩).e = E := ⟨_, rfl⟩
  have HE := Lib.hid hE
  unfold CkP at hC
  rw [hE] at hC
  have hME : E = 0 ↔ (Cq.cd ⟨R, A, I, P, n, c, l⟩).may = true := by
    rw [← hE]; unfold Cd.e
    cases h : (Cq.cd ⟨R, A, I, P, n, c, l⟩).may <;> simp
  have HSL : Hid ((Cq.cd ⟨R, A, I, P, n, c, l⟩).l.length = n) := HLN.out
  clear hE hq
  by_cases hbad : E ≠ 0 ∨ by_ < 0 ∨ 4096 < by_
  · have hSE : (Cq.cd ⟨R, A, I, P, n, c, l⟩).shiftE by_ = 1 := by
      unfold Cd.shiftE
      rw [if_pos ?_]
      rcases hbad with h | h
      · left
        cases h2 : (Cq.cd ⟨R, A, I, P, n, c, l⟩).may with
        | false => rfl
        | true => exact absurd (hME.2 h2) h
      · right; exact h
    have HSC : Hid ((Cq.cd ⟨R, A, I, P, n, c, l⟩).shiftC by_ = ⟨0, 0, 0, []⟩) := by unfold Hid Cd.shiftC; rw [hSE]; rfl
    have HSE := Lib.hid hSE
    have hz : Hid (∀ wr : World, Below w.heap.size w wr → wr.heap[w.heap.size + 1]? = some (.cells #[.int .i64 0, .int .i64 0, .int .i64 0, .slice none 0 0] 24 (0, 0)) → ShP ⟨R, A, I, P, n, c, l⟩ by_ w (.returned (.tuple #[.agg #[.int .i64 0, .int .i64 0, .int .i64 0, .slice none 0 0], .int .i64 1])) ((((wr.setCell ⟨w.heap.size + 1, 0, none⟩ (.int .i64 0)).setCell ⟨w.heap.size + 1, 1, none⟩ (.int .i64 0)).setCell ⟨w.heap.size + 1, 2, none⟩ (.int .i64 0)).setCell ⟨w.heap.size + 1, 3, none⟩ (.slice none 0 0))) := fun wr hb _ => ⟨none, 0, by rw [HSC.out, HSE.out]; rfl, by rw [HSC.out]; exact OwnJ.nil_ _ _, (((hb.setCell (p := ⟨w.heap.size + 1, 0, none⟩) (by show w.heap.size ≤ w.heap.size + 1; omega) _).setCell (p := ⟨w.heap.size + 1, 1, none⟩) (by show w.heap.size ≤ w.heap.size + 1; omega) _).setCell (p := ⟨w.heap.size + 1, 2, none⟩) (by show w.heap.size ≤ w.heap.size + 1; omega) _).setCell (p := ⟨w.heap.size + 1, 3, none⟩) (by show w.heap.size ≤ w.heap.size + 1; omega) _⟩
    clear hSE
    by_cases hE0 : E = 0
    · have e0 : (E != 0) = false := by simp [hE0]
      by_cases hb0 : by_ < 0
      · have d0 : decide (by_ < 0) = true := decide_eq_true hb0
        clear hbad hME hE0 hb0
        go_enter Tryz.func8, Tryz.ntmps8
        go_wp2_with fail
        try rw [hW0]
        refine hC.mono ?_
        rintro e w1 ⟨rfl, hb⟩
        have HB1 := Lib.hid (HB0.out.trans (hb.mono HB0.out.size))
        have HX1 := Lib.hid (keep_b hb HX0.out)
        have HR1 := Lib.hid (keep_b hb HR0.out)
        clear hb hW0 hC k0 k1 k2 k3
        obtain ⟨k0, k1, k2, k3, _⟩ := lvCells HX1.out
        obtain ⟨r0, r1, r2, r3, rf0, rf1, rf2, rf3⟩ := lvCells HR1.out
        go_wp2_with fail
        have hfour := four_cells HR1.out (.int .i64 0) (.int .i64 0) (.int .i64 0) (.slice none 0 0)
        obtain ⟨s0, s1, s2, s3, _⟩ := lvCells hfour
        have hd := hz.out w1 HB1.out HR1.out
        obtain ⟨wz, hwz⟩ : ∃ wz, (((w1.setCell ⟨w.heap.size + 1, 0, none⟩ (.int .i64 0)).setCell ⟨w.heap.size + 1, 1, none⟩ (.int .i64 0)).setCell ⟨w.heap.size + 1, 2, none⟩ (.int .i64 0)).setCell ⟨w.heap.size + 1, 3, none⟩ (.slice none 0 0) = wz := ⟨_, rfl⟩
        rw [hwz] at hd s0 s1 s2 s3 ⊢
        exact bodyPost_ret (v := .tuple #[.agg #[.int .i64 0, .int .i64 0, .int .i64 0, .slice none 0 0], .int .i64 1]) (by simp [results, Tryz.results8, go_sem, s0, s1, s2, s3]) rfl hd
      · have d0 : decide (by_ < 0) = false := decide_eq_false hb0
        have d1 : decide (4096 < by_) = true := decide_eq_true (by omega)
        clear hbad hME hE0 hb0
        go_enter Tryz.func8, Tryz.ntmps8
        go_wp2_with fail
        try rw [hW0]
        refine hC.mono ?_
        rintro e w1 ⟨rfl, hb⟩
        have HB1 := Lib.hid (HB0.out.trans (hb.mono HB0.out.size))
        have HX1 := Lib.hid (keep_b hb HX0.out)
        have HR1 := Lib.hid (keep_b hb HR0.out)
        clear hb hW0 hC k0 k1 k2 k3
        obtain ⟨k0, k1, k2, k3, _⟩ := lvCells HX1.out
        obtain ⟨r0, r1, r2, r3, rf0, rf1, rf2, rf3⟩ := lvCells HR1.out
        go_wp2_with fail
        have hfour := four_cells HR1.out (.int .i64 0) (.int .i64 0) (.int .i64 0) (.slice none 0 0)
        obtain ⟨s0, s1, s2, s3, _⟩ := lvCells hfour
        have hd := hz.out w1 HB1.out HR1.out
        obtain ⟨wz, hwz⟩ : ∃ wz, (((w1.setCell ⟨w.heap.size + 1, 0, none⟩ (.int .i64 0)).setCell ⟨w.heap.size + 1, 1, none⟩ (.int .i64 0)).setCell ⟨w.heap.size + 1, 2, none⟩ (.int .i64 0)).setCell ⟨w.heap.size + 1, 3, none⟩ (.slice none 0 0) = wz := ⟨_, rfl⟩
        rw [hwz] at hd s0 s1 s2 s3 ⊢
        exact bodyPost_ret (v := .tuple #[.agg #[.int .i64 0, .int .i64 0, .int .i64 0, .slice none 0 0], .int .i64 1]) (by simp [results, Tryz.results8, go_sem, s0, s1, s2, s3]) rfl hd
    · have e0 : (E != 0) = true := by simpa using hE0
      clear hbad hME hE0
      go_enter Tryz.func8, Tryz.ntmps8
      go_wp2_with fail
      try rw [hW0]
      refine hC.mono ?_
      rintro e w1 ⟨rfl, hb⟩
      have HB1 := Lib.hid (HB0.out.trans (hb.mono HB0.out.size))
      have HX1 := Lib.hid (keep_b hb HX0.out)
      have HR1 := Lib.hid (keep_b hb HR0.out)
      clear hb hW0 hC k0 k1 k2 k3
      obtain ⟨k0, k1, k2, k3, _⟩ := lvCells HX1.out
      obtain ⟨r0, r1, r2, r3, rf0, rf1, rf2, rf3⟩ := lvCells HR1.out
      go_wp2_with fail
      have hfour := four_cells HR1.out (.int .i64 0) (.int .i64 0) (.int .i64 0) (.slice none 0 0)
      obtain ⟨s0, s1, s2, s3, _⟩ := lvCells hfour
      have hd := hz.out w1 HB1.out HR1.out
      obtain ⟨wz, hwz⟩ : ∃ wz, (((w1.setCell ⟨w.heap.size + 1, 0, none⟩ (.int .i64 0)).setCell ⟨w.heap.size + 1, 1, none⟩ (.int .i64 0)).setCell ⟨w.heap.size + 1, 2, none⟩ (.int .i64 0)).setCell ⟨w.heap.size + 1, 3, none⟩ (.slice none 0 0) = wz := ⟨_, rfl⟩
      rw [hwz] at hd s0 s1 s2 s3 ⊢
      exact bodyPost_ret (v := .tuple #[.agg #[.int .i64 0, .int .i64 0, .int .i64 0, .slice none 0 0], .int .i64 1]) (by simp [results, Tryz.results8, go_sem, s0, s1, s2, s3]) rfl hd
  have hE0 : E = 0 := by omega
  have hb0 : 0 ≤ by_ := by omega
  have hb1 : by_ ≤ 4096 := by omega
  have hmay := hME.1 hE0
  subst hE0
  have hnn : n ≤ 4096 := by
    unfold Cd.may at hmay
    rw [Bool.and_eq_true, Bool.and_eq_true] at hmay
    have := of_decide_eq_true hmay.1.1
    have h2 : (Cq.cd ⟨R, A, I, P, n, c, l⟩).l.length = n := HLN.out
    omega
  have d0 : decide (by_ < 0) = false := decide_eq_false (by omega)
  have d1 : decide (4096 < by_) = false := decide_eq_false (by omega)
  have HMAY := Lib.hid hmay
  clear hbad hME hmay
  by_cases hbig : 4096 < (n : Int) + by_
  · have hSE : (Cq.cd ⟨R, A, I, P, n, c, l⟩).shiftE by_ = 2 := by
      unfold Cd.shiftE
      rw [if_neg (by rw [HMAY.out]; simp; omega), if_pos (by rw [HSL.out]; exact hbig)]
    have HSC : Hid ((Cq.cd ⟨R, A, I, P, n, c, l⟩).shiftC by_ = ⟨0, 0, 0, []⟩) := by unfold Hid Cd.shiftC; rw [hSE]; rfl
    have HSE := Lib.hid hSE
    have hz : Hid (∀ wr : World, Below w.heap.size w wr → ShP ⟨R, A, I, P, n, c, l⟩ by_ w (.returned (.tuple #[.agg #[.int .i64 0, .int .i64 0, .int .i64 0, .slice none 0 0], .int .i64 2])) ((((wr.setCell ⟨w.heap.size + 1, 0, none⟩ (.int .i64 0)).setCell ⟨w.heap.size + 1, 1, none⟩ (.int .i64 0)).setCell ⟨w.heap.size + 1, 2, none⟩ (.int .i64 0)).setCell ⟨w.heap.size + 1, 3, none⟩ (.slice none 0 0))) := fun wr hb => ⟨none, 0, by rw [HSC.out, HSE.out]; rfl, by rw [HSC.out]; exact OwnJ.nil_ _ _, (((hb.setCell (p := ⟨w.heap.size + 1, 0, none⟩) (by show w.heap.size ≤ w.heap.size + 1; omega) _).setCell (p := ⟨w.heap.size + 1, 1, none⟩) (by show w.heap.size ≤ w.heap.size + 1; omega) _).setCell (p := ⟨w.heap.size + 1, 2, none⟩) (by show w.heap.size ≤ w.heap.size + 1; omega) _).setCell (p := ⟨w.heap.size + 1, 3, none⟩) (by show w.heap.size ≤ w.heap.size + 1; omega) _⟩
    have d2 : decide (4096 < (n : Int) + by_) = true := decide_eq_true hbig
    clear hSE hbig
    go_enter Tryz.func8, Tryz.ntmps8
    go_wp2_with fail
    try rw [hW0]
    refine hC.mono ?_
    rintro e w1 ⟨rfl, hb⟩
    have HB1 := Lib.hid (HB0.out.trans (hb.mono HB0.out.size))
    have HX1 := Lib.hid (keep_b hb HX0.out)
    have HR1 := Lib.hid (keep_b hb HR0.out)
    clear hb hW0 hC k0 k1 k2 k3
    obtain ⟨k0, k1, k2, k3, _⟩ := lvCells HX1.out
    obtain ⟨r0, r1, r2, r3, rf0, rf1, rf2, rf3⟩ := lvCells HR1.out
    go_wp2_with fail
    have hfour := four_cells HR1.out (.int .i64 0) (.int .i64 0) (.int .i64 0) (.slice none 0 0)
    obtain ⟨s0, s1, s2, s3, _⟩ := lvCells hfour
    have hd := hz.out w1 HB1.out
    obtain ⟨wz, hwz⟩ : ∃ wz, (((w1.setCell ⟨w.heap.size + 1, 0, none⟩ (.int .i64 0)).setCell ⟨w.heap.size + 1, 1, none⟩ (.int .i64 0)).setCell ⟨w.heap.size + 1, 2, none⟩ (.int .i64 0)).setCell ⟨w.heap.size + 1, 3, none⟩ (.slice none 0 0) = wz := ⟨_, rfl⟩
    rw [hwz] at hd s0 s1 s2 s3 ⊢
    exact bodyPost_ret (v := .tuple #[.agg #[.int .i64 0, .int .i64 0, .int .i64 0, .slice none 0 0], .int .i64 2]) (by simp [results, Tryz.results8, go_sem, s0, s1, s2, s3]) rfl hd
  have d2 : decide (4096 < (n : Int) + by_) = false := decide_eq_false hbig
  have hSE : (Cq.cd ⟨R, A, I, P, n, c, l⟩).shiftE by_ = 0 := by
    unfold Cd.shiftE
    rw [if_neg (by rw [HMAY.out]; simp; omega), if_neg (by rw [HSL.out]; exact hbig)]
  have HSE := Lib.hid hSE
  obtain ⟨b, rfl⟩ : ∃ b : Nat, by_ = (b : Int) := ⟨by_.toNat, by omega⟩
  clear hSE hb0
  go_enter Tryz.func8, Tryz.ntmps8
  go_wp2_with fail
  try rw [hW0]
  refine hC.mono ?_
  rintro e w1 ⟨rfl, hb⟩
  have HB1 := Lib.hid (HB0.out.trans (hb.mono HB0.out.size))
  have HX1 := Lib.hid (keep_b hb HX0.out)
  have HR1 := Lib.hid (keep_b hb HR0.out)
  clear hb hW0 hC k0 k1 k2 k3
  obtain ⟨k0, k1, k2, k3, _⟩ := lvCells HX1.out
  go_upto_region 5 with fail
  have HTW := Lib.hid hT
  have HS2 : Hid (ShC w ⟨R, A, I, P, n, c, l⟩ w1 none 0 []) := ⟨HB1.out, HX1.out, HR1.out, OwnJ.nil_ _ _⟩
  clear k0 k1 k2 k3 d0 d1 d2 hT
  have hbb : (b : Int) ≤ 4096 := by omega
  have hbn : b ≤ 4096 := by omega
  go_wp2_with fail
  go_loopw [6, 30] (fun v i wr => ∃ (k : Nat) (A' : Option Addr) (c' : Nat), k ≤ b ∧ i = .int .i64 k ∧ v = .slice A' k c' ∧ Hid (ShC w ⟨R, A, I, P, n, c, l⟩ wr A' c' (jumpsJ k))) (fun _ i _ => b - (intOf i).toNat)
  case atStart => exact ⟨0, none, 0, Nat.zero_le _, rfl, rfl, HS2.out⟩
  case round =>
    obtain ⟨k, A', c', hk, rfl, rfl, HS⟩ := hrel
    by_cases hlt : k < b
    · have hle : k + 1 ≤ 1000000 := by omega
      have hsz : w.heap.size ≤ wr.heap.size := HS.out.bel.size
      obtain ⟨gz, hgz⟩ : ∃ g, wr.heap.size = g := ⟨_, rfl⟩
      have HGZ := Lib.hid hgz
      clear hgz
      go_wp2_with (at_builtin; refine wpList_appendJ rfl (.tmp 33) (.tmp 37) rfl w.heap.size A' c' k (k + 1) wr.heap.size ⟨10, (k : Int) + 1, 0, 0, 0⟩ (jumpsJ k) rfl rfl rfl HS.out.own (jumpsJ_length k) rfl hle hsz ?_; intro A3 c3 w3 hO3 hG3; have hG3' : wr.grownBy w3 (Value.slice A' (jumpsJ k).length c').ownBlock := (by rw [jumpsJ_length]; exact hG3))
      have hadd := HS.out.add hO3 hG3'
      rw [show jumpsJ k ++ [⟨10, (k : Int) + 1, 0, 0, 0⟩] = jumpsJ (k + 1) by rw [jumpsJ_succ]; rfl] at hadd
      go_roundw
      case rel => exact ⟨k + 1, A3, c3, by omega, by go_num, rfl, hadd⟩
      case measure => simp [intOf]; omega
    · obtain rfl : k = b := by omega
      obtain ⟨k0, k1, k2, k3, _⟩ := lvCells HS.out.bx
      go_wp2_with fail
      clear k0 k1 k2 k3 hlt
      obtain ⟨wo, rfl⟩ : ∃ wo : World, wo = wr := ⟨_, rfl⟩
      go_loopw [6, 43] (fun v i wr => ∃ (m : Nat) (A' : Option Addr) (c' : Nat), m ≤ n ∧ i = .int .i64 m ∧ v = .slice A' (k + m) c' ∧ Hid (ShC w ⟨R, A, I, P, n, c, l⟩ wr A' c' (jumpsJ k ++ (l.take m).map (shiftJ k)))) (fun _ i _ => n - (intOf i).toNat)
      case atStart => exact ⟨0, A', c', Nat.zero_le _, rfl, rfl, by rw [List.take_zero, List.map_nil, List.append_nil]; exact HS.out⟩
      case round =>
        obtain ⟨m, A', c', hm, rfl, rfl, HS⟩ := hrel
        have HML : Hid ((jumpsJ k ++ (l.take m).map (shiftJ k)).length = k + m) := by unfold Hid; rw [List.length_append, jumpsJ_length, List.length_map, List.length_take]; have := HLN.out; omega
        by_cases hlt : m < n
        · obtain ⟨ba, off, y, hA, hb, HY, ⟨y0, y1, y2, y3, y4⟩, hyo⟩ := ((HQ.out.on HS.out.bel).ins).at_ hlt
          subst hA
          have HMS := Lib.hid (map_snocJ (shiftJ k) HY.out)
          obtain ⟨W4, hW4⟩ : ∃ W, wr.alloc y.obj = W := ⟨_, rfl⟩
          have hb4 : Below wr.heap.size wr W4 := by rw [← hW4]; exact lvBelow _ _
          have HS4 := Lib.hid (HS.out.below hb4)
          have HY4 : Hid (W4.heap[wr.heap.size]? = some y.obj) := by rw [← hW4]; exact newJ wr y
          have cF := further_any y (k : Int) W4 hyo (HTW.out.on HS4.out.bel)
          have HW4 := Lib.hid hW4
          clear hb hyo hb4 hW4
          have hlen := HML.out
          have hle : k + m + 1 ≤ 1000000 := by omega
          have hki : (m : Int) < (n : Int) := by omega
          go_upto_region 14 with fail
          try rw [HW4.out]
          clear HW4 y0 y1 y2 y3 y4
          obtain ⟨⟨y0, y1, y2, y3, y4⟩, yf⟩ := box_cellsJ HY4.out
          clear yf
          unfold FurP at cF
          go_wp2_with fail
          refine cF.mono ?_
          rintro e w5 ⟨rfl, hb⟩
          have HS5 := Lib.hid (HS4.out.below hb)
          have hsz : w.heap.size ≤ w5.heap.size := HS5.out.bel.size
          clear hb cF y0 y1 y2 y3 y4 hlen
          go_wp2_with (at_builtin; refine wpList_appendJ rfl (.tmp 47) (.tmp 51) rfl w.heap.size A' c' (k + m) (k + m + 1) w5.heap.size (shiftJ k y) (jumpsJ k ++ (l.take m).map (shiftJ k)) rfl rfl rfl HS5.out.own HML.out rfl hle hsz ?_; intro A3 c3 w6 hO6 hG6; have hG6' : w5.grownBy w6 (Value.slice A' (jumpsJ k ++ (l.take m).map (shiftJ k)).length c').ownBlock := (by rw [HML.out]; exact hG6))
          have hadd := HS5.out.add hO6 hG6'
          rw [List.append_assoc, ← HMS.out] at hadd
          go_roundw
          case rel => exact ⟨m + 1, A3, c3, by omega, by go_num, rfl, hadd⟩
          case measure => simp [intOf]; omega
        · obtain rfl : m = n := by omega
          have hL : (Cd.shift (Cq.cd ⟨R, A, I, P, m, c, l⟩) (k : Int)).l = jumpsJ k ++ (l.take m).map (shiftJ k) := by
            rw [List.take_of_length_le (by have := HLN.out; omega)]; rfl
          have hd := HS.out.done ⟨R, A, I, P, m, c, l⟩ (k : Int) HSE.out hL (k + m) HML.out
          have hbx := set_bx HS.out.bx (.slice A' (k + m) c')
          have hrv : (wr.setCell ⟨w.heap.size, 3, none⟩ (.slice A' (k + m) c')).heap[w.heap.size + 1]? = some (.cells #[.int .i64 0, .int .i64 0, .int .i64 0, .slice none 0 0] 24 (0, 0)) := (Below.heap_setCell _ ⟨w.heap.size, 3, none⟩ _ _ (by show w.heap.size + 1 ≠ w.heap.size; omega)).trans HS.out.rv
          obtain ⟨k0, k1, k2, k3, _, _, _, f3⟩ := lvCells HS.out.bx
          obtain ⟨W6, hW6⟩ : ∃ W, wr.setCell ⟨w.heap.size, 3, none⟩ (.slice A' (k + m) c') = W := ⟨_, rfl⟩
          rw [hW6] at hd hbx hrv
          have HBX := Lib.hid hbx
          have HRV := Lib.hid hrv
          obtain ⟨s0, s1, s2, s3, _⟩ := lvCells (four_cells hrv (.int .i64 R) (.int .i64 A) (.int .i64 I) (.slice A' (k + m) c'))
          have HSS := Lib.hid (And.intro s0 (And.intro s1 (And.intro s2 s3)))
          have HD := Lib.hid hd
          clear hL hbx hrv s0 s1 s2 s3 hd hlt
          go_upto_region 17 with fail
          try rw [hW6]
          clear hW6 k0 k1 k2 k3 f3
          obtain ⟨k0, k1, k2, k3, _⟩ := lvCells HBX.out
          obtain ⟨r0, r1, r2, r3, rf0, rf1, rf2, rf3⟩ := lvCells HRV.out
          go_wp2_with fail
          obtain ⟨s0, s1, s2, s3⟩ := HSS.out
          have hd := HD.out
          obtain ⟨wz, hwz⟩ : ∃ wz, (((W6.setCell ⟨w.heap.size + 1, 0, none⟩ (.int .i64 R)).setCell ⟨w.heap.size + 1, 1, none⟩ (.int .i64 A)).setCell ⟨w.heap.size + 1, 2, none⟩ (.int .i64 I)).setCell ⟨w.heap.size + 1, 3, none⟩ (.slice A' (k + m) c') = wz := ⟨_, rfl⟩
          rw [hwz] at hd s0 s1 s2 s3 ⊢
          exact bodyPost_ret (v := .tuple #[.agg #[.int .i64 R, .int .i64 A, .int .i64 I, .slice A' (k + m) c'], .int .i64 0]) (by simp [results, Tryz.results8, go_sem, s0, s1, s2, s3]) rfl hd
end Go.Proofs.YtbmcddolfofmdaaGreatDoor
/- lexer.pass: where the next token begins, and whether a line ends ahead of it. -/
namespace Go.Proofs.YtbmcddolfofmdaaGreatDoor
open Go.RowKit

/-- what is gone by ahead of a token: how many bytes, and whether a line ends (e: one has ended; i: within a remark) -/
def passL : Bool → Bool → List UInt8 → Nat × Bool
  | e, _, [] => (0, e)
  | e, i, c :: l =>
    if kb c = 2 then ((passL true false l).1 + 1, (passL true false l).2)
    else if kb c = 3 then ((passL e true l).1 + 1, (passL e true l).2)
    else if kb c ≠ 1 ∧ i = false then (0, e)
    else ((passL e i l).1 + 1, (passL e i l).2)
/-- the same, from a place on -/
def passAt (l : List UInt8) (k : Nat) (e i : Bool) : Nat × Bool := (k + (passL e i (l.drop k)).1, (passL e i (l.drop k)).2)
theorem drop_at {l : List UInt8} {k : Nat} {c : UInt8} (h : l[k]? = some c) : l.drop k = c :: l.drop (k + 1) := by
  obtain ⟨hk, e⟩ := List.getElem?_eq_some_iff.1 h
  rw [List.drop_eq_getElem_cons hk, e]
theorem passAt_end (l : List UInt8) (e i : Bool) : passAt l l.length e i = (l.length, e) := by
  unfold passAt
  rw [List.drop_of_length_le (Nat.le_refl _)]
  rfl
theorem passAt_line {l : List UInt8} {k : Nat} {c : UInt8} (h : l[k]? = some c) (hc : kb c = 2) (e i : Bool) : passAt l k e i = passAt l (k + 1) true false := by
  unfold passAt
  rw [drop_at h, passL, if_pos hc]
  simp only [Prod.mk.injEq, and_true]
  omega
theorem passAt_remark {l : List UInt8} {k : Nat} {c : UInt8} (h : l[k]? = some c) (hc : kb c = 3) (e i : Bool) : passAt l k e i = passAt l (k + 1) e true := by
  unfold passAt
  rw [drop_at h, passL, if_neg (by omega), if_pos hc]
  simp only [Prod.mk.injEq, and_true]
  omega
theorem passAt_stop {l : List UInt8} {k : Nat} {c : UInt8} (h : l[k]? = some c) (h2 : kb c ≠ 2) (h3 : kb c ≠ 3) (h1 : kb c ≠ 1) (e : Bool) : passAt l k e false = (k, e) := by
  unfold passAt
  rw [drop_at h, passL, if_neg h2, if_neg h3, if_pos ⟨h1, rfl⟩]
  rfl
theorem passAt_on {l : List UInt8} {k : Nat} {c : UInt8} (h : l[k]? = some c) (h2 : kb c ≠ 2) (h3 : kb c ≠ 3) (e i : Bool) (hi : kb c = 1 ∨ i = true) : passAt l k e i = passAt l (k + 1) e i := by
  unfold passAt
  rw [drop_at h, passL, if_neg h2, if_neg h3, if_neg (by rintro ⟨a, b⟩; rcases hi with hi | hi; exact a hi; rw [b] at hi; cases hi)]
  simp only [Prod.mk.injEq, and_true]
  omega
set_option maxRecDepth 100000 in
set_option maxHeartbeats 8000000 in
theorem pass_any (s : ByteArray) (p : Nat) (w : World) (hs : s.size ≤ 1000000) (hp : p ≤ s.size) (P : Nat) (E : Bool) (HP : Hid (passAt (bl s) p false false = (P, E))) : Calls Tryz.prog 55 #[.string s, .int .i64 p] w fun e w' => e = .returned (.tuple #[.int .i64 P, .bool E]) ∧ w = w' := by
  go_enter Tryz.func55, Tryz.ntmps55
  go_wp2
  go_step3
  go_wp2
  go_step3
  go_wp2
  go_loop [1, 6, 7] (fun a x y => ∃ (k : Nat) (e i : Bool), k ≤ s.size ∧ a = .int .i64 k ∧ x = .bool e ∧ y = .bool i ∧ Hid (passAt (bl s) k e i = (P, E))) (fun a _ _ => s.size - (intOf a).toNat)
  case atStart => exact ⟨p, false, false, hp, rfl, rfl, rfl, HP⟩
  case round =>
    obtain ⟨k, e, i, hk, rfl, rfl, rfl, HR⟩ := hrel
    by_cases hlt : k < s.size
    · have HG : Hid ((bl s)[k]? = some s[k]) := bl_get s k hlt
      obtain ⟨K, HK⟩ : ∃ K, Hid (kb s[k] = K) := ⟨_, Lib.hid rfl⟩
      have cK := fun w => kindOf_any s[k].toNat (u8_lt _) w K HK
      go_wp2_with (go_at_call 70; refine (cK _).mono ?_; rintro e w1 ⟨rfl, rfl⟩)
      · rename_i a
        exact ⟨⟨k + 1, true, false, by omega, by go_num, rfl, rfl, Lib.hid ((passAt_line HG.out (HK.out.trans (by simpa using a)) e i).symm.trans HR.out)⟩, by simp [intOf]; omega⟩
      · rename_i a
        exact ⟨⟨k + 1, e, true, by omega, by go_num, rfl, rfl, Lib.hid ((passAt_remark HG.out (HK.out.trans (by simpa using a)) e i).symm.trans HR.out)⟩, by simp [intOf]; omega⟩
      · rename_i a b c
        exact ⟨⟨k + 1, e, i, by omega, by go_num, rfl, rfl, Lib.hid ((passAt_on HG.out (by rw [HK.out]; simpa using a) (by rw [HK.out]; simpa using b) e i (Or.inl (HK.out.trans c))).symm.trans HR.out)⟩, by simp [intOf]; omega⟩
      · rename_i a b c d
        have hi : i = false := by simpa using d.2
        subst hi
        have h := (passAt_stop HG.out (by rw [HK.out]; simpa using a) (by rw [HK.out]; simpa using b) (by rw [HK.out]; exact c) e).symm.trans HR.out
        injection h with h1 h2
        subst h1 h2
        rw [Exit.noGoto_ret]
        exact bodyPost_ret (v := .tuple #[.int .i64 k, .bool e]) (by simp [results, Tryz.results55, go_sem]) rfl ⟨rfl, rfl⟩
      · rename_i a b c d
        have hi : i = true := by
          rcases d with d | d
          · exact absurd (by simpa using d) c
          · simpa using d
        exact ⟨⟨k + 1, e, i, by omega, by go_num, rfl, rfl, Lib.hid ((passAt_on HG.out (by rw [HK.out]; simpa using a) (by rw [HK.out]; simpa using b) e i (Or.inr hi)).symm.trans HR.out)⟩, by simp [intOf]; omega⟩
    · obtain rfl : s.size = k := by omega
      have h := HR.out
      rw [← bl_len s, passAt_end] at h
      injection h with h1 h2
      rw [bl_len] at h1
      subst h1 h2
      go_wp2
      exact bodyPost_ret (v := .tuple #[.int .i64 s.size, .bool e]) (by simp [results, Tryz.results55, go_sem]) rfl ⟨rfl, rfl⟩
end Go.Proofs.YtbmcddolfofmdaaGreatDoor
/- What lexer.Cut gives, in plain words. -/
namespace Go.Proofs.YtbmcddolfofmdaaGreatDoor
open Go.RowKit

def ofL (l : List UInt8) : ByteArray := ⟨l.toArray⟩
theorem bl_ofL (l : List UInt8) : bl (ofL l) = l := by simp [bl, ofL]
theorem ofL_bl (s : ByteArray) : ofL (bl s) = s := Lib.mk_data s
theorem ofL_size (l : List UInt8) : (ofL l).size = l.length := by rw [← bl_len, bl_ofL]
theorem extract_ofL (s : ByteArray) (a b : Nat) : s.extract a b = ofL (((bl s).drop a).take (b - a)) := Lib.extract_eq s a b
/-- how long the first token of a text is -/
def mF (r : List UInt8) : Nat := max (alongL r) 1
theorem mF_pos (r : List UInt8) : 1 ≤ mF r := by unfold mF; omega
theorem mF_le {r : List UInt8} (h : r ≠ []) : mF r ≤ r.length := by
  have := alongL_le r
  have : 0 < r.length := List.length_pos_iff.2 h
  unfold mF
  omega
theorem passL_le : ∀ (l : List UInt8) (e i : Bool), (passL e i l).1 ≤ l.length
  | [], _, _ => Nat.le_refl _
  | c :: l, e, i => by
    have h1 := passL_le l true false
    have h2 := passL_le l e true
    have h3 := passL_le l e i
    rw [passL, List.length_cons]
    repeat' split
    all_goals simp only
    all_goals omega
def lineTk : Tk := ⟨4, ⟨#[]⟩, 0⟩
/-- one token more, behind an end of a line if one is told and there is one ahead -/
def withLine (e : Bool) (L : List Tk) (t : Tk) : List Tk := if e = true ∧ L ≠ [] then L ++ [lineTk] ++ [t] else L ++ [t]
/-- the tokens of a text that begins with one, behind those that are there; or how many bytes are left where none begins -/
def cutE (r : List UInt8) (e : Bool) (L : List Tk) : Except Nat (List Tk) :=
  if _h : r = [] then .ok L else
    match tokF (ofL (r.take (mF r))) with
    | none => .error r.length
    | some t => cutE ((r.drop (mF r)).drop (passL false false (r.drop (mF r))).1) (passL false false (r.drop (mF r))).2 (withLine e L t)
termination_by r.length
decreasing_by
  have h1 := mF_pos r
  have : 0 < r.length := List.length_pos_iff.2 _h
  simp only [List.length_drop]
  omega
theorem cutE_nil (e : Bool) (L : List Tk) : cutE [] e L = .ok L := by rw [cutE]; simp
theorem cutE_bad {r : List UInt8} (h : r ≠ []) (ht : tokF (ofL (r.take (mF r))) = none) (e : Bool) (L : List Tk) : cutE r e L = .error r.length := by
  rw [cutE, dif_neg h, ht]
theorem cutE_on {r : List UInt8} {t : Tk} (h : r ≠ []) (ht : tokF (ofL (r.take (mF r))) = some t) (e : Bool) (L : List Tk) :
    cutE r e L = cutE ((r.drop (mF r)).drop (passL false false (r.drop (mF r))).1) (passL false false (r.drop (mF r))).2 (withLine e L t) := by
  rw [cutE, dif_neg h, ht]
/-- the tokens of a text, or how many bytes are left where none begins -/
def cutG (l : List UInt8) : Except Nat (List Tk) := cutE (l.drop (passL false false l).1) (passL false false l).2 []
/-- what Cut gives of n bytes: tokens, a place, an error -/
def cutH (n : Nat) (R : Except Nat (List Tk)) : List Tk × Int × Int :=
  match R with
  | .error q => ([], ((n - q : Nat) : Int), 6)
  | .ok L => if 4096 < L.length then ([], 0, 2) else (L, (n : Int), 0)
def cutF (l : List UInt8) : List Tk × Int × Int := if 65536 < l.length then ([], 0, 2) else cutH l.length (cutG l)
theorem tokF_text {s : ByteArray} {t : Tk} (h0 : s.size ≠ 0) (h : tokF s = some t) : t.s = s := by
  unfold tokF at h
  rw [if_neg h0] at h
  repeat' split at h
  all_goals first | (injection h with h; rw [← h]) | cases h
/-- from a place on -/
theorem passAt_fst (l : List UInt8) (k : Nat) : passAt l k false false = (k + (passL false false (l.drop k)).1, (passL false false (l.drop k)).2) := rfl
theorem withLine_length (e : Bool) (L : List Tk) (t : Tk) : (withLine e L t).length ≤ L.length + 2 := by
  unfold withLine
  split <;> simp
end Go.Proofs.YtbmcddolfofmdaaGreatDoor
/- Texts put together, and their tokens: plain mathematics. -/
namespace Go.Proofs.YtbmcddolfofmdaaGreatDoor
open Go.RowKit

/-- the tokens from a place on where a line has ended, or not, behind those that are there -/
def cutQ (e : Bool) (l : List UInt8) (L : List Tk) : Except Nat (List Tk) := cutE (l.drop (passL e false l).1) (passL e false l).2 L
theorem cutG_eq (l : List UInt8) : cutG l = cutQ false l [] := rfl
theorem cutE_next {r : List UInt8} {t : Tk} (h : r ≠ []) (ht : tokF (ofL (r.take (mF r))) = some t) (e : Bool) (L : List Tk) : cutE r e L = cutQ false (r.drop (mF r)) (withLine e L t) := cutE_on h ht e L
theorem kb10 : kb 10 = 2 := by decide
theorem ld10 : isLD 10 = false := by decide
theorem passL_cat : ∀ (l y : List UInt8) (e i : Bool), passL e i (l ++ 10 :: y) = if (passL e i l).1 = l.length then (l.length + 1 + (passL true false y).1, (passL true false y).2) else passL e i l
  | [], y, e, i => by
    show passL e i (10 :: y) = (0 + 1 + (passL true false y).1, (passL true false y).2)
    rw [passL, if_pos kb10, Nat.zero_add, Nat.add_comm]
  | c :: l, y, e, i => by
    have h1 := passL_cat l y true false
    have h2 := passL_cat l y e true
    have h3 := passL_cat l y e i
    rw [List.cons_append, passL, passL, h1, h2, h3]
    by_cases k2 : kb c = 2
    · simp only [if_pos k2, List.length_cons, Nat.add_right_cancel_iff]
      split
      · simp only [Prod.mk.injEq, and_true]; omega
      · rfl
    · by_cases k3 : kb c = 3
      · simp only [if_neg k2, if_pos k3, List.length_cons, Nat.add_right_cancel_iff]
        split
        · simp only [Prod.mk.injEq, and_true]; omega
        · rfl
      · by_cases k1 : kb c ≠ 1 ∧ i = false
        · simp only [if_neg k2, if_neg k3, if_pos k1, List.length_cons]
          rw [if_neg (by omega)]
        · simp only [if_neg k2, if_neg k3, if_neg k1, List.length_cons, Nat.add_right_cancel_iff]
          split
          · simp only [Prod.mk.injEq, and_true]; omega
          · rfl
theorem alongL_cat : ∀ (r y : List UInt8), alongL (r ++ 10 :: y) = alongL r
  | [], y => by simp [alongL, ld10]
  | c :: r, y => by
    have h := alongL_cat r y
    unfold alongL at h ⊢
    rw [List.cons_append, List.takeWhile_cons, List.takeWhile_cons]
    split
    · rw [List.length_cons, h, List.length_cons]
    · rfl
theorem mF_cat (r y : List UInt8) : mF (r ++ 10 :: y) = mF r := by unfold mF; rw [alongL_cat]
/-- what stands behind an end of a line is cut behind what stands ahead of it -/
theorem cutQ_cat (n : Nat) : ∀ (l : List UInt8), l.length ≤ n → ∀ (y : List UInt8) (e : Bool) (L : List Tk), cutQ e (l ++ 10 :: y) L = match cutQ e l L with | .ok L' => cutQ true y L' | .error q => .error (q + 1 + y.length) := by
  induction n with
  | zero =>
    intro l hl y e L
    obtain rfl : l = [] := List.eq_nil_of_length_eq_zero (by omega)
    show cutE _ _ _ = match cutE [] e L with | .ok L' => cutQ true y L' | .error q => .error (q + 1 + y.length)
    rw [cutE_nil, List.nil_append, passL, if_pos kb10]
    rfl
  | succ n ih =>
    intro l hl y e L
    by_cases hp : (passL e false l).1 = l.length
    · have h1 : cutQ e l L = .ok L := by
        unfold cutQ
        rw [hp, List.drop_of_length_le (Nat.le_refl _), cutE_nil]
      rw [h1]
      unfold cutQ
      rw [passL_cat, if_pos hp]
      simp only
      rw [Nat.add_assoc, List.drop_append, Nat.add_sub_cancel_left, Nat.add_comm 1, List.drop_succ_cons, List.drop_of_length_le (by omega), List.nil_append]
    · have hle := passL_le l e false
      have h0 : l.drop (passL e false l).1 ≠ [] := by
        intro h
        have := congrArg List.length h
        rw [List.length_drop] at this
        simp at this
        omega
      have hcat : (l ++ 10 :: y).drop (passL e false l).1 = l.drop (passL e false l).1 ++ 10 :: y := by
        rw [List.drop_append, show (passL e false l).1 - l.length = 0 by omega, List.drop_zero]
      unfold cutQ
      rw [passL_cat, if_neg hp, hcat]
      generalize hr : l.drop (passL e false l).1 = r at *
      generalize (passL e false l).2 = e'
      have hrl : r.length ≤ l.length := by rw [← hr, List.length_drop]; omega
      have hm := mF_le h0
      have hm1 := mF_pos r
      have hne : r ++ 10 :: y ≠ [] := by simp
      have htk : (r ++ 10 :: y).take (mF r) = r.take (mF r) := by rw [List.take_append, show mF r - r.length = 0 by omega, List.take_zero, List.append_nil]
      have hdr : (r ++ 10 :: y).drop (mF r) = r.drop (mF r) ++ 10 :: y := by rw [List.drop_append, show mF r - r.length = 0 by omega, List.drop_zero]
      cases ht : tokF (ofL (r.take (mF r))) with
      | none =>
        rw [cutE_bad h0 ht, cutE_bad hne (by rw [mF_cat, htk]; exact ht)]
        simp only [List.length_append, List.length_cons]
        congr 1
        omega
      | some t =>
        rw [cutE_next h0 ht, cutE_next hne (t := t) (by rw [mF_cat, htk]; exact ht), mF_cat, hdr]
        exact ih _ (by rw [List.length_drop]; omega) y false _
theorem cutQ_line (l y : List UInt8) (e : Bool) (L : List Tk) : cutQ e (l ++ 10 :: y) L = match cutQ e l L with | .ok L' => cutQ true y L' | .error q => .error (q + 1 + y.length) := cutQ_cat l.length l (Nat.le_refl _) y e L
theorem passL_take : ∀ (l : List UInt8) (e i : Bool) (n : Nat), (passL e i l).1 ≤ n → passL e i (l.take n) = passL e i l
  | [], e, i, n, _ => by simp
  | c :: l, e, i, 0, h => by
    rw [List.take_zero]
    rw [passL] at h ⊢
    rw [passL]
    split at h
    · simp at h
    · split at h
      · simp at h
      · split at h
        · rename_i h2 h3 h1
          rw [if_neg h2, if_neg h3, if_pos h1]
        · simp at h
  | c :: l, e, i, n + 1, h => by
    have h1 := passL_take l true false n
    have h2 := passL_take l e true n
    have h3 := passL_take l e i n
    rw [List.take_succ_cons, passL, passL]
    rw [passL] at h
    split
    · rename_i k2
      rw [if_pos k2] at h
      rw [h1 (by simpa using h)]
    · rename_i k2
      rw [if_neg k2] at h
      split
      · rename_i k3
        rw [if_pos k3] at h
        rw [h2 (by simpa using h)]
      · rename_i k3
        rw [if_neg k3] at h
        split
        · rfl
        · rename_i k1
          rw [if_neg k1] at h
          rw [h3 (by simpa using h)]
theorem takeWhile_take {α : Type} (p : α → Bool) : ∀ (l : List α) (n : Nat), (l.takeWhile p).length ≤ n → ((l.take n).takeWhile p).length = (l.takeWhile p).length
  | [], n, _ => by simp
  | c :: l, 0, h => by
    rw [List.takeWhile_cons] at h ⊢
    split at h
    · simp at h
    · rename_i hc; simp [hc]
  | c :: l, n + 1, h => by
    rw [List.takeWhile_cons] at h
    rw [List.take_succ_cons, List.takeWhile_cons, List.takeWhile_cons]
    split
    · rename_i hc
      rw [if_pos hc] at h
      rw [List.length_cons, List.length_cons, takeWhile_take p l n (by simpa using h)]
    · rfl
theorem mF_take (r : List UInt8) (n : Nat) (h : mF r ≤ n) : mF (r.take n) = mF r := by
  unfold mF alongL at *
  rw [takeWhile_take isLD r n (by omega)]
/-- where a text is none, what stands ahead of its first wrong token is one -/
theorem cutQ_ahead (n : Nat) : ∀ (l : List UInt8), l.length ≤ n → ∀ (e : Bool) (L : List Tk) (q : Nat), cutQ e l L = .error q → 1 ≤ q ∧ q ≤ l.length ∧ ∃ L', cutQ e (l.take (l.length - q)) L = .ok L' := by
  induction n with
  | zero =>
    intro l hl e L q h
    obtain rfl : l = [] := List.eq_nil_of_length_eq_zero (by omega)
    unfold cutQ at h
    rw [List.drop_nil, cutE_nil] at h
    cases h
  | succ n ih =>
    intro l hl e L q h
    have hle := passL_le l e false
    unfold cutQ at h
    have hl2 : (l.drop (passL e false l).1).length = l.length - (passL e false l).1 := List.length_drop
    by_cases h0 : l.drop (passL e false l).1 = []
    · rw [h0, cutE_nil] at h; cases h
    · generalize hr : l.drop (passL e false l).1 = r at *
      have hm := mF_le h0
      have hm1 := mF_pos r
      cases ht : tokF (ofL (r.take (mF r))) with
      | none =>
        rw [cutE_bad h0 ht] at h
        injection h with h
        have : 0 < r.length := List.length_pos_iff.2 h0
        refine ⟨by omega, by omega, L, ?_⟩
        unfold cutQ
        rw [show l.length - q = (passL e false l).1 by omega, passL_take _ _ _ _ (Nat.le_refl _), List.drop_of_length_le (by rw [List.length_take]; omega), cutE_nil]
      | some t =>
        rw [cutE_next h0 ht] at h
        obtain ⟨a, b, L', c⟩ := ih _ (by rw [List.length_drop]; omega) _ _ _ h
        rw [List.length_drop] at b c
        refine ⟨a, by omega, L', ?_⟩
        have hb : q ≤ r.length - mF r := b
        unfold cutQ
        rw [passL_take _ _ _ _ (by omega), List.drop_take, hr]
        have e1 : mF (r.take (l.length - q - (passL e false l).1)) = mF r := mF_take _ _ (by omega)
        have hne : r.take (l.length - q - (passL e false l).1) ≠ [] := by
          intro h
          have h2 := congrArg List.length h
          rw [List.length_take, List.length_nil] at h2
          omega
        rw [cutE_next hne (t := t) (by rw [e1, List.take_take, Nat.min_eq_left (by omega)]; exact ht), e1, List.drop_take, show l.length - q - (passL e false l).1 - mF r = r.length - mF r - q by omega]
        exact c
theorem cutG_ahead {l : List UInt8} {q : Nat} (h : cutG l = .error q) : 1 ≤ q ∧ q ≤ l.length ∧ ∃ L', cutG (l.take (l.length - q)) = .ok L' := cutQ_ahead l.length l (Nat.le_refl _) false [] q h
/-- tokens that are there, behind others -/
theorem withLine_behind (e : Bool) (K L : List Tk) (t : Tk) (h : L ≠ []) : withLine e (K ++ L) t = K ++ withLine e L t := by
  unfold withLine
  by_cases he : e = true
  · rw [if_pos ⟨he, by simp [h]⟩, if_pos ⟨he, h⟩]; simp
  · rw [if_neg (fun h => he h.1), if_neg (fun h => he h.1)]; simp
theorem withLine_ne (e : Bool) (L : List Tk) (t : Tk) : withLine e L t ≠ [] := by unfold withLine; split <;> simp
theorem cutE_behind (n : Nat) : ∀ (r : List UInt8), r.length ≤ n → ∀ (e : Bool) (K L : List Tk), L ≠ [] → cutE r e (K ++ L) = (cutE r e L).map (K ++ ·) := by
  induction n with
  | zero =>
    intro r hr e K L hL
    obtain rfl : r = [] := List.eq_nil_of_length_eq_zero (by omega)
    rw [cutE_nil, cutE_nil]; rfl
  | succ n ih =>
    intro r hr e K L hL
    by_cases h0 : r = []
    · subst h0; rw [cutE_nil, cutE_nil]; rfl
    · have hm := mF_le h0
      have hm1 := mF_pos r
      cases ht : tokF (ofL (r.take (mF r))) with
      | none => rw [cutE_bad h0 ht, cutE_bad h0 ht]; rfl
      | some t =>
        rw [cutE_next h0 ht, cutE_next h0 ht, withLine_behind e K L t hL]
        exact ih _ (by rw [List.length_drop, List.length_drop]; omega) _ K _ (withLine_ne _ _ _)
/-- tokens behind others: an end of a line between, if one is told -/
theorem cutE_more {r : List UInt8} (h0 : r ≠ []) (e : Bool) (L : List Tk) (hL : L ≠ []) : cutE r e L = (cutE r e []).map ((L ++ if e then [lineTk] else []) ++ ·) := by
  cases ht : tokF (ofL (r.take (mF r))) with
  | none => rw [cutE_bad h0 ht, cutE_bad h0 ht]; rfl
  | some t =>
    rw [cutE_next h0 ht, cutE_next h0 ht]
    have h1 : withLine e [] t = [t] := by unfold withLine; rw [if_neg (fun h => h.2 rfl)]; rfl
    have h2 : withLine e L t = (L ++ if e then [lineTk] else []) ++ [t] := by
      unfold withLine
      cases e
      · rw [if_neg (by simp)]; simp
      · rw [if_pos ⟨rfl, hL⟩]; simp
    rw [h1, h2]
    unfold cutQ
    exact cutE_behind _ _ (Nat.le_refl _) _ _ _ (by simp)
theorem passL_e : ∀ (l : List UInt8) (e i : Bool), (passL e i l).1 = (passL false i l).1 ∧ (passL e i l).2 = (e || (passL false i l).2)
  | [], e, i => by simp [passL]
  | c :: l, e, i => by
    have h2 := passL_e l e true
    have h3 := passL_e l e i
    rw [passL, passL]
    split
    · have h1 := passL_true l false
      simp [h1]
    · split
      · simp [h2]
      · split
        · simp
        · simp [h3]
where
  passL_true : ∀ (l : List UInt8) (i : Bool), (passL true i l).2 = true
    | [], i => rfl
    | c :: l, i => by
      have h1 := passL_true l false
      have h2 := passL_true l true
      have h3 := passL_true l i
      rw [passL]
      repeat' split
      all_goals first | exact h1 | exact h2 | exact h3 | rfl
theorem cutQ_first (e : Bool) (l : List UInt8) : cutQ e l [] = cutQ false l [] := by
  unfold cutQ
  obtain ⟨h1, _⟩ := passL_e l e false
  rw [h1]
  by_cases h0 : l.drop (passL false false l).1 = []
  · rw [h0, cutE_nil, cutE_nil]
  · cases ht : tokF (ofL ((l.drop (passL false false l).1).take (mF (l.drop (passL false false l).1)))) with
    | none => rw [cutE_bad h0 ht, cutE_bad h0 ht]
    | some t =>
      rw [cutE_next h0 ht, cutE_next h0 ht]
      have h : ∀ e, withLine e [] t = [t] := fun e => by unfold withLine; rw [if_neg (fun h => h.2 rfl)]; rfl
      rw [h, h]
theorem cutE_ne {r : List UInt8} (h0 : r ≠ []) (e : Bool) : cutE r e [] ≠ .ok [] := by
  cases ht : tokF (ofL (r.take (mF r))) with
  | none => rw [cutE_bad h0 ht]; intro h; cases h
  | some t =>
    rw [cutE_next h0 ht]
    have h1 : withLine e [] t = [t] := by unfold withLine; rw [if_neg (fun h => h.2 rfl)]; rfl
    rw [h1]
    unfold cutQ
    have := cutE_behind _ ((r.drop (mF r)).drop (passL false false (r.drop (mF r))).1) (Nat.le_refl _) (passL false false (r.drop (mF r))).2 [t] [t] (by simp)
    intro h
    rw [h] at this
    have h2 := cutE_len _ ((r.drop (mF r)).drop (passL false false (r.drop (mF r))).1) (Nat.le_refl _) (passL false false (r.drop (mF r))).2 [t] [] h
    simp at h2
where
  cutE_len (n : Nat) : ∀ (r : List UInt8), r.length ≤ n → ∀ (e : Bool) (L M : List Tk), cutE r e L = .ok M → L.length ≤ M.length := by
    induction n with
    | zero =>
      intro r hr e L M h
      obtain rfl : r = [] := List.eq_nil_of_length_eq_zero (by omega)
      rw [cutE_nil] at h; injection h with h; subst h; exact Nat.le_refl _
    | succ n ih =>
      intro r hr e L M h
      by_cases h0 : r = []
      · subst h0; rw [cutE_nil] at h; injection h with h; subst h; exact Nat.le_refl _
      · have hm := mF_le h0
        have hm1 := mF_pos r
        cases ht : tokF (ofL (r.take (mF r))) with
        | none => rw [cutE_bad h0 ht] at h; cases h
        | some t =>
          rw [cutE_next h0 ht] at h
          have := ih _ (by rw [List.length_drop, List.length_drop]; omega) _ _ _ h
          have h2 : L.length ≤ (withLine e L t).length := by unfold withLine; split <;> simp
          omega
/-- behind an end of a line -/
theorem cutQ_behind {l : List UInt8} {B : List Tk} (h : cutQ false l [] = .ok B) (L : List Tk) (hL : L ≠ []) : cutQ true l L = .ok (if B = [] then L else L ++ [lineTk] ++ B) := by
  have h' := (cutQ_first true l).trans h
  unfold cutQ at h' ⊢
  obtain ⟨h1, h2⟩ := passL_e l true false
  rw [h2, Bool.true_or] at h' ⊢
  by_cases h0 : l.drop (passL true false l).1 = []
  · rw [h0, cutE_nil] at h' ⊢
    injection h' with h'
    subst h'
    rw [if_pos rfl]
  · have hB : B ≠ [] := by
      intro e
      subst e
      exact cutE_ne h0 _ h'
    rw [cutE_more h0 true L hL, h', if_neg hB, if_pos rfl]
    rfl
end Go.Proofs.YtbmcddolfofmdaaGreatDoor
/- Tokens: how they read; slices of the call's own of them, and one more behind them. -/
namespace Go.Proofs.YtbmcddolfofmdaaGreatDoor
open Go.RowKit

/-- numbers and texts that Go holds -/
def Tk.ok (t : Tk) : Prop := -9223372036854775808 ≤ t.k ∧ t.k ≤ 9223372036854775807 ∧ -9223372036854775808 ≤ t.n ∧ t.n ≤ 9223372036854775807 ∧ t.s.size ≤ maxLen
def cellsT : List Tk → List Value
  | [] => []
  | x :: ss => .int .i64 x.k :: .string x.s :: .int .i64 x.n :: cellsT ss
theorem cellsT_length (ss : List Tk) : (cellsT ss).length = 3 * ss.length := by
  induction ss with
  | nil => rfl
  | cons x ss ih => simp only [cellsT, List.length_cons, ih]; omega
theorem cellsT_append (a b : List Tk) : cellsT (a ++ b) = cellsT a ++ cellsT b := by
  induction a with
  | nil => rfl
  | cons x a ih => simp only [List.cons_append, cellsT, ih]
theorem cellsT_at {ss : List Tk} {k : Nat} {x : Tk} (h : ss[k]? = some x) : (cellsT ss)[3 * k]? = some (.int .i64 x.k) ∧ (cellsT ss)[3 * k + 1]? = some (.string x.s) ∧ (cellsT ss)[3 * k + 2]? = some (.int .i64 x.n) := by
  induction ss generalizing k with
  | nil => simp at h
  | cons y ss ih =>
    cases k with
    | zero => simp at h; subst h; exact ⟨rfl, rfl, rfl⟩
    | succ k =>
      have := ih (k := k) (by simpa using h)
      exact ⟨by rw [← this.1]; rfl, by rw [← this.2.1]; rfl, by rw [← this.2.2]; rfl⟩
/-- the header (A, n) leads to the tokens ss, in blocks below B -/
def Toks (w : World) (B : Nat) (A : Option Addr) (n : Nat) (ss : List Tk) : Prop :=
  ss.length = n ∧ (∀ x ∈ ss, x.ok) ∧
  (0 < n → ∃ b off, A = some ⟨b, off, none⟩ ∧ b < B ∧ ∀ (k : Nat) (x : Tk), ss[k]? = some x → w.cell? ⟨b, off + k * 3, none⟩ = some (.int .i64 x.k) ∧ w.cell? ⟨b, off + k * 3 + 1, none⟩ = some (.string x.s) ∧ w.cell? ⟨b, off + k * 3 + 2, none⟩ = some (.int .i64 x.n))
section
variable {w w' : World} {B B' n : Nat} {A : Option Addr} {ss : List Tk}
theorem Toks.nil_ : Toks w B A 0 [] := ⟨rfl, by simp, fun h => absurd h (by omega)⟩
theorem Toks.keep (h : Toks w B A n ss) (hk : ∀ p : Addr, p.block < B → w'.cell? p = w.cell? p) : Toks w' B A n ss := by
  obtain ⟨hl, hb, hc⟩ := h
  refine ⟨hl, hb, fun hn => ?_⟩
  obtain ⟨b, off, e, hB, hx⟩ := hc hn
  exact ⟨b, off, e, hB, fun k x hx' => ⟨(hk _ hB).trans (hx k x hx').1, (hk _ hB).trans (hx k x hx').2.1, (hk _ hB).trans (hx k x hx').2.2⟩⟩
theorem Toks.more (h : Toks w B A n ss) (hB : B ≤ B') : Toks w B' A n ss := by
  obtain ⟨hl, hb, hc⟩ := h
  refine ⟨hl, hb, fun hn => ?_⟩
  obtain ⟨b, off, e, hB', hx⟩ := hc hn
  exact ⟨b, off, e, by omega, hx⟩
theorem Toks.below (h : Toks w B A n ss) (hb : Below B w w') : Toks w' B A n ss := h.keep fun _ hp => hb.cell hp
theorem Toks.drewN (h : Toks w B A n ss) (k : Nat) : Toks (w.drewN k) B A n ss := h
theorem Toks.at_ {k : Nat} (h : Toks w B A n ss) (hk : k < n) :
    ∃ b off x, A = some ⟨b, off, none⟩ ∧ b < B ∧ Hid (ss[k]? = some x) ∧ w.cell? ⟨b, off + k * 3, none⟩ = some (.int .i64 x.k) ∧ w.cell? ⟨b, off + k * 3 + 1, none⟩ = some (.string x.s) ∧ w.cell? ⟨b, off + k * 3 + 2, none⟩ = some (.int .i64 x.n) ∧ x.ok := by
  obtain ⟨hl, hb, hc⟩ := h
  obtain ⟨b, off, rfl, hB, hx⟩ := hc (by omega)
  have hk' : k < ss.length := by omega
  have hm := hb _ (List.getElem_mem hk')
  have hx' := hx k _ (List.getElem?_eq_getElem hk')
  exact ⟨b, off, ss[k], rfl, hB, List.getElem?_eq_getElem hk', hx'.1, hx'.2.1, hx'.2.2, hm⟩
end
set_option maxRecDepth 100000 in
theorem infoTok : (Tryz.prog.info? 49).map (fun i => (i.zero, i.size, i.bytes)) = some (some (.agg #[.int .i64 0, .string ⟨#[]⟩, .int .i64 0]), 3, 32) := by kernel_rfl
/-- a slice of the call's own, of tokens -/
def OwnT (w : World) (base : Nat) (A : Option Addr) (c : Nat) (ss : List Tk) : Prop := w.ownsRow base 49 3 (.slice A ss.length c) ss.length (cellsT ss)
section
variable {w w' : World} {base B c : Nat} {A : Option Addr} {ss : List Tk}
theorem OwnT.nil_ (w : World) (base : Nat) : OwnT w base none 0 [] := w.ownsRow_nil base _ 3
theorem OwnT.below (h : OwnT w base A c ss) (hb : Below B w w') (hB : w.heap.size ≤ B) : OwnT w' base A c ss :=
  World.ownsRow.kept h ⟨hb.os, hb.tape, hb.output, hb.size, fun i hi _ => hb.block i (by omega)⟩ (row := none) (by cases hh : (Value.slice A ss.length c).ownBlock with | none => exact .inl rfl | some k => exact .inr (by simp))
theorem OwnT.alloc (h : OwnT w base A c ss) (o : Obj) : OwnT (w.alloc o) base A c ss := World.ownsRow.alloc h o
theorem OwnT.lt {g : Nat} (h : OwnT w base (some ⟨g, 0, none⟩) c ss) : base ≤ g ∧ g < w.heap.size := World.ownsRow.lt h g rfl
theorem OwnT.heap (h : OwnT w base A c ss) : A = none ∨ ∃ g cur, A = some ⟨g, 0, none⟩ ∧ base ≤ g ∧ w.heap[g]? = some (.cells cur 49 (0, 0)) := by
  rcases h.2 with ⟨h1, _⟩ | ⟨g, cap, cur, h1, h2, h3, _⟩
  · injection h1 with h1; exact .inl h1
  · injection h1 with h1; exact .inr ⟨g, cur, h1, h2, h3⟩
theorem OwnT.same (h : OwnT w base A c ss) (hq : ∀ b, A = some ⟨b, 0, none⟩ → w'.heap[b]? = w.heap[b]?) : OwnT w' base A c ss := by
  refine ⟨h.1, ?_⟩
  rcases h.2 with h1 | ⟨b, cap, cur, h1, h2, h3, h4⟩
  · exact .inl h1
  · refine .inr ⟨b, cap, cur, h1, h2, ?_, h4⟩
    injection h1 with h1
    rw [hq b h1]; exact h3
theorem OwnT.rows (h : OwnT w base A c ss) : ∀ (k : Nat) (x : Tk), ss[k]? = some x → ∃ g, A = some ⟨g, 0, none⟩ ∧ base ≤ g ∧ g < w.heap.size ∧ w.cell? ⟨g, 3 * k, none⟩ = some (.int .i64 x.k) ∧ w.cell? ⟨g, 3 * k + 1, none⟩ = some (.string x.s) ∧ w.cell? ⟨g, 3 * k + 2, none⟩ = some (.int .i64 x.n) := by
  intro k x hx
  have hk := (List.getElem?_eq_some_iff.1 hx).1
  rcases h.2 with ⟨_, h1⟩ | ⟨g, cap, cur, hv, hb, hg, _, _, _, hr⟩
  · omega
  · have hA : A = some ⟨g, 0, none⟩ := by injection hv
    obtain ⟨c1, c2, c3⟩ := cellsT_at hx
    have hl := cellsT_length ss
    refine ⟨g, hA, hb, (Array.getElem?_eq_some_iff.1 hg).1, (cell_of_row _ _ _ _ _ _ hg).trans ?_, (cell_of_row _ _ _ _ _ _ hg).trans ?_, (cell_of_row _ _ _ _ _ _ hg).trans ?_⟩
    · rw [← hr, List.getElem?_take] at c1
      split at c1
      · simpa using c1
      · cases c1
    · rw [← hr, List.getElem?_take] at c2
      split at c2
      · simpa using c2
      · cases c2
    · rw [← hr, List.getElem?_take] at c3
      split at c3
      · simpa using c3
      · cases c3
/-- tokens of the call's own read as tokens -/
theorem OwnT.toks (h : OwnT w base A c ss) (hx : ∀ x ∈ ss, x.ok) : Toks w w.heap.size A ss.length ss := by
  refine ⟨rfl, hx, fun h0 => ?_⟩
  obtain ⟨g, e, _, hlt, _⟩ := h.rows 0 _ (List.getElem?_eq_getElem h0)
  refine ⟨g, 0, e, hlt, fun k x hk => ?_⟩
  obtain ⟨g', e', _, _, a1, a2, a3⟩ := h.rows k x hk
  rw [e] at e'
  injection e' with e'; injection e' with e'
  subst e'
  rw [Nat.zero_add, Nat.mul_comm k 3]
  exact ⟨a1, a2, a3⟩
theorem OwnT.lenCap (h : OwnT w base A c ss) : ss.length ≤ c := by
  rcases h.2 with ⟨h1, h2⟩ | ⟨g, cap, cur, h1, _, _, h5, _⟩
  · omega
  · injection h1 with _ _ h1; omega
end
/-- one token more, and what was written -/
theorem wpList_appendTok {ops : Array Oper} {rest : List Oper} {o : Oper} {a : Act} {w : World} {Q : Exit → Act → World → Prop}
    (hg : o.guard = none) (s x : Operand) (hop : o.op = Op.call { callee := Callee.builtin Builtin.append, args := #[s, x], argTypes := #[46, 46] })
    (base : Nat) (A : Option Addr) (c p r g : Nat) (y : Tk) (L : List Tk) (hgz : w.heap.size = g) (hs : a.eval s = .slice A p c) (hx : a.eval x = .slice (some ⟨g, 0, none⟩) 1 1)
    (ho : OwnT w base A c L) (hp : L.length = p) (hr : p + 1 = r) (hl : r ≤ 1000000) (hb : base ≤ w.heap.size)
    (hK : ∀ A' c' w', OwnT w' base A' c' (L ++ [y]) → w.grownBy w' (Value.slice A p c).ownBlock → wpList Tryz.prog ops Q rest (a.put o.dst (.slice A' r c')) w') :
    wpList Tryz.prog ops Q (o :: rest) a (w.alloc (.cells #[.int .i64 y.k, .string y.s, .int .i64 y.n] 49)) := by
  obtain ⟨i, hi, hz, h1, h2⟩ := info_parts infoTok
  subst hp
  subst hr
  subst hgz
  refine wpList_append_own _ hg s x 46 hop base 49 i (.agg #[.int .i64 0, .string ⟨#[]⟩, .int .i64 0]) 3 32 Tryz.underlying46 hi hz h1 h2 (by rfl) (by decide) _ L.length (cellsT L) hs (World.ownsRow.alloc ho _) ⟨w.heap.size, 0, none⟩ 1 1 [.int .i64 y.k, .string y.s, .int .i64 y.n] hx rfl ?_ (by simp [Value.oneCell']) (by unfold maxLen; omega) (by omega) (by simp; omega) ?_
  · intro j u hj
    match j, hj with
    | 0, hj => simp at hj; subst hj; simp [Addr.add]
    | 1, hj => simp at hj; subst hj; simp [Addr.add]
    | 2, hj => simp at hj; subst hj; simp [Addr.add]
    | j + 3, hj => simp at hj
  · intro v' w' hown hgr _
    obtain ⟨A', c', rfl⟩ : ∃ A' c', v' = .slice A' (L.length + 1) c' := by
      rcases hown.2 with ⟨rfl, h0⟩ | ⟨g, cap, cur, rfl, _⟩
      · omega
      · exact ⟨_, _, rfl⟩
    refine hK A' c' w' ?_ ((World.grownBy_alloc w _ _).trans hgr)
    unfold OwnT
    rw [List.length_append, cellsT_append]
    exact hown
theorem block_keptT {w w' : World} {base' c' g p : Nat} {A' : Option Addr} {L : List Tk} {cs : Array Value} {t : TypeId} {fr : Nat × Nat} (h : w.heap[g]? = some (.cells cs t fr)) (hG : ∀ g', A' = some ⟨g', 0, none⟩ → g' ≠ g) (hg : w.grownBy w' (Value.slice A' p c').ownBlock) (hS : OwnT w base' A' c' L) : w'.heap[g]? = some (.cells cs t fr) := by
  refine (hg.block g (Array.getElem?_eq_some_iff.1 h).1 ?_).trans h
  rcases hS.heap with h1 | ⟨g', cur, h1, _, hh⟩
  · rw [h1]; simp [Value.ownBlock]
  · rw [h1]
    intro e
    exact hG g' h1 (by simpa [Value.ownBlock] using e.symm)
theorem below_appT {w1 W w3 : World} {base p c : Nat} {A : Option Addr} {xs : List Tk} (hb : Below base w1 W) (hg : W.grownBy w3 (Value.slice A p c).ownBlock) (ho : OwnT W base A c xs) (hs : base ≤ W.heap.size) : Below base w1 w3 :=
  hb.grown hg hs fun k hk => by
    rcases ho.heap with h1 | ⟨g', cur, h1, h2, _⟩
    · rw [h1] at hk; cases hk
    · rw [h1] at hk
      simp only [Value.ownBlock, Option.some.injEq] at hk
      omega
end Go.Proofs.YtbmcddolfofmdaaGreatDoor
