/- The program's shapes of instructions, and their parts. -/
import Derived.Test.YtmnadieblhdcpaaDoorG15
import Derived.Test.YtmnadieblhdcpaaDoorG7
import Derived.StillTail
import Derived.StillTailTactics
import Derived.Lib.QuietBelow
namespace Go.Proofs.YtmnadieblhdcpaaDoor
open Go.RowKit

abbrev zeroSh : Obj := .cells #[.string ⟨#[]⟩, .int .i64 0, .int .i64 0, .int .i64 0, .int .i64 0] 72
theorem cells5 {W : World} {g : Nat} {u v x y z : Value} {t : TypeId} (h : W.heap[g]? = some (.cells #[u, v, x, y, z] t (0, 0))) :
    W.cell? ⟨g, 0, none⟩ = some u ∧ W.cell? ⟨g, 1, none⟩ = some v ∧ W.cell? ⟨g, 2, none⟩ = some x ∧ W.cell? ⟨g, 3, none⟩ = some y ∧ W.cell? ⟨g, 4, none⟩ = some z ∧ W.frozen? ⟨g, 0, none⟩ = false ∧ W.frozen? ⟨g, 1, none⟩ = false ∧ W.frozen? ⟨g, 2, none⟩ = false ∧ W.frozen? ⟨g, 3, none⟩ = false ∧ W.frozen? ⟨g, 4, none⟩ = false :=
  ⟨by simpa using cell_of_row _ _ 0 _ t (0, 0) h, by simpa using cell_of_row _ _ 1 _ t (0, 0) h, by simpa using cell_of_row _ _ 2 _ t (0, 0) h, by simpa using cell_of_row _ _ 3 _ t (0, 0) h, by simpa using cell_of_row _ _ 4 _ t (0, 0) h, by simp [World.frozen?, h], by simp [World.frozen?, h], by simp [World.frozen?, h], by simp [World.frozen?, h], by simp [World.frozen?, h]⟩
theorem five_cells {w : World} {g : Nat} {a b c d e : Value} {t : TypeId} (h : w.heap[g]? = some (.cells #[a, b, c, d, e] t (0, 0))) (x0 x1 x2 x3 x4 : Value) :
    (((((w.setCell ⟨g, 0, none⟩ x0).setCell ⟨g, 1, none⟩ x1).setCell ⟨g, 2, none⟩ x2).setCell ⟨g, 3, none⟩ x3).setCell ⟨g, 4, none⟩ x4).heap[g]? = some (.cells #[x0, x1, x2, x3, x4] t (0, 0)) := by
  have h1 := set_j (i := 0) (cs := [a, b, c, d, e]) h x0
  have h2 := set_j (i := 1) (cs := [x0, b, c, d, e]) h1 x1
  have h3 := set_j (i := 2) (cs := [x0, x1, c, d, e]) h2 x2
  have h4 := set_j (i := 3) (cs := [x0, x1, x2, d, e]) h3 x3
  exact set_j (i := 4) (cs := [x0, x1, x2, x3, e]) h4 x4
/-- five cells of a block of the call's own, written -/
def put5 (w : World) (g : Nat) (x0 x1 x2 x3 x4 : Value) : World := ((((w.setCell ⟨g, 0, none⟩ x0).setCell ⟨g, 1, none⟩ x1).setCell ⟨g, 2, none⟩ x2).setCell ⟨g, 3, none⟩ x3).setCell ⟨g, 4, none⟩ x4
theorem put5_below {w0 w : World} {B g : Nat} (h : Below B w0 w) (hg : B ≤ g) (x0 x1 x2 x3 x4 : Value) : Below B w0 (put5 w g x0 x1 x2 x3 x4) :=
  ((((h.setCell (p := ⟨g, 0, none⟩) hg _).setCell (p := ⟨g, 1, none⟩) hg _).setCell (p := ⟨g, 2, none⟩) hg _).setCell (p := ⟨g, 3, none⟩) hg _).setCell (p := ⟨g, 4, none⟩) hg _
theorem put5_heap {w : World} {g : Nat} {a b c d e : Value} {t : TypeId} (h : w.heap[g]? = some (.cells #[a, b, c, d, e] t (0, 0))) (x0 x1 x2 x3 x4 : Value) : (put5 w g x0 x1 x2 x3 x4).heap[g]? = some (.cells #[x0, x1, x2, x3, x4] t (0, 0)) := five_cells h x0 x1 x2 x3 x4
theorem put5_other {w : World} {g j : Nat} (hj : j ≠ g) (x0 x1 x2 x3 x4 : Value) : (put5 w g x0 x1 x2 x3 x4).heap[j]? = w.heap[j]? := by
  unfold put5
  rw [Below.heap_setCell _ ⟨g, 4, none⟩ _ _ hj, Below.heap_setCell _ ⟨g, 3, none⟩ _ _ hj, Below.heap_setCell _ ⟨g, 2, none⟩ _ _ hj, Below.heap_setCell _ ⟨g, 1, none⟩ _ _ hj, Below.heap_setCell _ ⟨g, 0, none⟩ _ _ hj]
theorem shapeOf_end {w W0 : World} (HB0 : Below w.heap.size w W0) (_h : W0.heap[w.heap.size]? = some (.cells #[.string ⟨#[]⟩, .int .i64 0, .int .i64 0, .int .i64 0, .int .i64 0] 72 (0, 0))) {op : Int} {x0 x1 x2 x3 x4 : Value} (b : Bool) (hv : shV op = .agg #[x0, x1, x2, x3, x4]) (hb : isOp op = b) :
    ShapeP op w (.returned (.tuple #[.agg #[x0, x1, x2, x3, x4], .bool b])) (put5 W0 w.heap.size x0 x1 x2 x3 x4) := by
  unfold ShapeP
  rw [hv, hb]
  exact ⟨rfl, put5_below HB0 (Nat.le_refl _) _ _ _ _ _⟩
set_option maxRecDepth 100000 in
set_option maxHeartbeats 2000000 in
theorem shapeOf_any (op : Int) (w : World) (hS : ShT w) : Calls Tryd.prog 51 #[.int .i64 op] w (ShapeP op w) := by
  have hb1 := (Below.refl w.heap.size w).alloc (Nat.le_refl _) zeroSh
  have HS := Lib.hid (hS _ hb1)
  obtain ⟨W0, hW0⟩ : ∃ W, w.alloc zeroSh = W := ⟨_, rfl⟩
  have HB0 : Hid (Below w.heap.size w W0) := by rw [← hW0]; exact hb1
  have HX : Hid (W0.heap[w.heap.size]? = some (.cells #[.string ⟨#[]⟩, .int .i64 0, .int .i64 0, .int .i64 0, .int .i64 0] 72 (0, 0))) := by rw [← hW0]; exact heap_alloc_new w zeroSh
  rw [hW0] at HS
  clear hb1 hS
  obtain ⟨b0, b1, b2, b3, b4, f0, f1, f2, f3, f4⟩ := cells5 HX.out
  by_cases h : op < 0 ∨ 12 < op
  · have e1 : wJ op = [] := by unfold wJ; rw [if_neg (by omega)]
    have e2 : ∀ j, j < 4 → kA op j = 0 := fun j hj => by
      unfold kA kN
      rw [if_neg (by omega)]
      match j, hj with
      | 0, _ => rfl
      | 1, _ => rfl
      | 2, _ => rfl
      | 3, _ => rfl
    have hd := fun b hb => shapeOf_end (op := op) HB0.out HX.out b (show shV op = .agg #[.string ⟨#[]⟩, .int .i64 0, .int .i64 0, .int .i64 0, .int .i64 0] by unfold shV; rw [e1, e2 0 (by omega), e2 1 (by omega), e2 2 (by omega), e2 3 (by omega)]; rfl) hb
    have hd := hd false (decide_eq_false (by omega))
    have hs := five_cells HX.out (.string ⟨#[]⟩) (.int .i64 0) (.int .i64 0) (.int .i64 0) (.int .i64 0)
    obtain ⟨s0, s1, s2, s3, s4, _⟩ := cells5 hs
    have HD := Lib.hid hd
    have HSS := Lib.hid (And.intro s0 (And.intro s1 (And.intro s2 (And.intro s3 s4))))
    have hc : decide (op < 0) = true ∨ (decide (op < 0) = false ∧ decide (13 ≤ op) = true) := by
      by_cases h0 : op < 0
      · exact .inl (decide_eq_true h0)
      · exact .inr ⟨decide_eq_false h0, decide_eq_true (by omega)⟩
    clear h hd e1 e2 hs s0 s1 s2 s3 s4
    rcases hc with hc | ⟨hc, hc2⟩
    all_goals
      go_enter Tryd.func51, Tryd.ntmps51
      go_upto_region 1 with fail
      try rw [hW0]
      go_wp2_with fail
      obtain ⟨s0, s1, s2, s3, s4⟩ := HSS.out
      exact bodyPost_ret (v := .tuple #[.agg #[.string ⟨#[]⟩, .int .i64 0, .int .i64 0, .int .i64 0, .int .i64 0], .bool false]) (by simp [results, Tryd.results51, go_sem, s0, s1, s2, s3, s4]) rfl HD.out
  · obtain ⟨k, rfl⟩ : ∃ k : Nat, op = (k : Int) := ⟨op.toNat, by omega⟩
    have hk : k < 13 := by omega
    obtain ⟨c0, c1, c2, c3, c4⟩ := HS.out.row hk
    have hd := shapeOf_end (op := (k : Int)) HB0.out HX.out true rfl (decide_eq_true (by omega))
    have hs := five_cells HX.out (.string (strJ (wJ (k : Int)))) (.int .i64 (kA (k : Int) 0)) (.int .i64 (kA (k : Int) 1)) (.int .i64 (kA (k : Int) 2)) (.int .i64 (kA (k : Int) 3))
    obtain ⟨s0, s1, s2, s3, s4, _⟩ := cells5 hs
    have HD := Lib.hid hd
    have HSS := Lib.hid (And.intro s0 (And.intro s1 (And.intro s2 (And.intro s3 s4))))
    have d0 : decide ((k : Int) < 0) = false := decide_eq_false (by omega)
    have d1 : decide (13 ≤ (k : Int)) = false := decide_eq_false (by omega)
    have hk2 : (k : Int) < 13 := by omega
    clear h hd hs s0 s1 s2 s3 s4
    go_enter Tryd.func51, Tryd.ntmps51
    go_upto_region 1 with fail
    try rw [hW0]
    go_wp2_with fail
    obtain ⟨s0, s1, s2, s3, s4⟩ := HSS.out
    exact bodyPost_ret (v := .tuple #[shV (k : Int), .bool true]) (by unfold shV; simp [results, Tryd.results51, go_sem, s0, s1, s2, s3, s4]) rfl HD.out
end Go.Proofs.YtmnadieblhdcpaaDoor
/- The program's parts of an instruction, and those of a kind. -/
namespace Go.Proofs.YtmnadieblhdcpaaDoor
open Go Go.RowKit

/-- an instruction's parts -/
def Ji.p (x : Ji) : List Int := [x.a, x.b, x.c, x.n]
abbrev partsV (x : Ji) : Value := .agg #[.int .i64 x.a, .int .i64 x.b, .int .i64 x.c, .int .i64 x.n]
abbrev zeroP : Obj := .cells #[.int .i64 0, .int .i64 0, .int .i64 0, .int .i64 0] 92
set_option maxRecDepth 100000 in
theorem parts_any (x : Ji) (w : World) : Calls Tryd.prog 69 #[x.val] w fun e w' => e = .returned (partsV x) ∧ Below w.heap.size w w' := by
  have hb1 := ((Below.refl w.heap.size w).alloc (Nat.le_refl _) x.obj).alloc (by simp) zeroP
  obtain ⟨W0, hW0⟩ : ∃ W, (w.alloc x.obj).alloc zeroP = W := ⟨_, rfl⟩
  have HB0 : Hid (Below w.heap.size w W0) := by rw [← hW0]; exact hb1
  have hX : W0.heap[w.heap.size]? = some x.obj := by rw [← hW0]; exact pastJ _ (heap_alloc_new w _)
  have HR : Hid (W0.heap[w.heap.size + 1]? = some (.cells #[.int .i64 0, .int .i64 0, .int .i64 0, .int .i64 0] 92 (0, 0))) := by
    rw [← hW0]
    have h := heap_alloc_new (w.alloc x.obj) zeroP
    rwa [World.size_alloc] at h
  obtain ⟨⟨k0, k1, k2, k3, k4⟩, kf⟩ := box_cellsJ hX
  obtain ⟨r0, r1, r2, r3, rf0, rf1, rf2, rf3⟩ := lvCells HR.out
  have hd : Below w.heap.size w ((((W0.setCell ⟨w.heap.size + 1, 0, none⟩ (.int .i64 x.a)).setCell ⟨w.heap.size + 1, 1, none⟩ (.int .i64 x.b)).setCell ⟨w.heap.size + 1, 2, none⟩ (.int .i64 x.c)).setCell ⟨w.heap.size + 1, 3, none⟩ (.int .i64 x.n)) :=
    (((HB0.out.setCell (p := ⟨w.heap.size + 1, 0, none⟩) (by simp) _).setCell (p := ⟨w.heap.size + 1, 1, none⟩) (by simp) _).setCell (p := ⟨w.heap.size + 1, 2, none⟩) (by simp) _).setCell (p := ⟨w.heap.size + 1, 3, none⟩) (by simp) _
  obtain ⟨s0, s1, s2, s3, _⟩ := lvCells (four_cells HR.out (.int .i64 x.a) (.int .i64 x.b) (.int .i64 x.c) (.int .i64 x.n))
  have HD := Lib.hid hd
  have HSS := Lib.hid (And.intro s0 (And.intro s1 (And.intro s2 s3)))
  clear hb1 hX hd s0 s1 s2 s3
  go_enter Tryd.func69, Tryd.ntmps69
  go_upto_region 1 with fail
  try rw [hW0]
  go_wp2_with fail
  obtain ⟨s0, s1, s2, s3⟩ := HSS.out
  exact bodyPost_ret (v := partsV x) (by simp [results, Tryd.results69, go_sem, s0, s1, s2, s3]) rfl ⟨rfl, HD.out⟩
set_option maxRecDepth 100000 in
set_option maxHeartbeats 1000000 in
theorem whole_j (x : Ji) (w : World) : Calls Tryd.prog 71 #[.int .i64 x.op, partsV x] w fun e w' => e = .returned x.val ∧ Below w.heap.size w w' := by
  have hb1 := ((Below.refl w.heap.size w).alloc (Nat.le_refl _) (.cells #[.int .i64 x.a, .int .i64 x.b, .int .i64 x.c, .int .i64 x.n] 92)).alloc (by simp) (Ji.obj ⟨0, 0, 0, 0, 0⟩)
  obtain ⟨W0, hW0⟩ : ∃ W, (w.alloc (.cells #[.int .i64 x.a, .int .i64 x.b, .int .i64 x.c, .int .i64 x.n] 92)).alloc (Ji.obj ⟨0, 0, 0, 0, 0⟩) = W := ⟨_, rfl⟩
  have HB0 : Hid (Below w.heap.size w W0) := by rw [← hW0]; exact hb1
  have hX : W0.heap[w.heap.size]? = some (.cells #[.int .i64 x.a, .int .i64 x.b, .int .i64 x.c, .int .i64 x.n] 92 (0, 0)) := by rw [← hW0]; exact pastJ _ (heap_alloc_new w _)
  have HR : Hid (W0.heap[w.heap.size + 1]? = some (.cells #[.int .i64 0, .int .i64 0, .int .i64 0, .int .i64 0, .int .i64 0] 40 (0, 0))) := by
    rw [← hW0]
    have h := heap_alloc_new (w.alloc (.cells #[.int .i64 x.a, .int .i64 x.b, .int .i64 x.c, .int .i64 x.n] 92)) (Ji.obj ⟨0, 0, 0, 0, 0⟩)
    rwa [World.size_alloc] at h
  obtain ⟨k0, k1, k2, k3, kf0, kf1, kf2, kf3⟩ := lvCells hX
  obtain ⟨r0, r1, r2, r3, r4, rf0, rf1, rf2, rf3, rf4⟩ := cells5 HR.out
  have HD := Lib.hid (put5_below HB0.out (show w.heap.size ≤ w.heap.size + 1 by omega) (.int .i64 x.op) (.int .i64 x.a) (.int .i64 x.b) (.int .i64 x.c) (.int .i64 x.n))
  obtain ⟨s0, s1, s2, s3, s4, _⟩ := cells5 (five_cells HR.out (.int .i64 x.op) (.int .i64 x.a) (.int .i64 x.b) (.int .i64 x.c) (.int .i64 x.n))
  have HSS := Lib.hid (And.intro s0 (And.intro s1 (And.intro s2 (And.intro s3 s4))))
  clear hb1 hX s0 s1 s2 s3 s4
  go_enter Tryd.func71, Tryd.ntmps71
  go_upto_region 1 with fail
  try rw [hW0]
  go_wp2_with fail
  obtain ⟨s0, s1, s2, s3, s4⟩ := HSS.out
  exact bodyPost_ret (v := x.val) (by simp [results, Tryd.results71, go_sem, s0, s1, s2, s3, s4]) rfl ⟨rfl, HD.out⟩
/-- the parts of a kind -/
def namedG (kd : Int) : List Int → List Int → List Int
  | k :: ks, v :: vs => if k = kd then v :: namedG kd ks vs else namedG kd ks vs
  | _, _ => []
def namedJ (x : Ji) (kd : Int) : List Int := namedG kd (kN x.op) x.p
theorem namedG_length (kd : Int) : ∀ (ks vs : List Int), (namedG kd ks vs).length ≤ vs.length
  | [], _ => by simp [namedG]
  | _ :: _, [] => by simp [namedG]
  | k :: ks, v :: vs => by
    have := namedG_length kd ks vs
    unfold namedG
    split <;> simp <;> omega
theorem namedG_snoc (kd : Int) : ∀ (ks vs : List Int) (i : Nat) (k v : Int), ks[i]? = some k → vs[i]? = some v → namedG kd (ks.take (i + 1)) vs = namedG kd (ks.take i) vs ++ if k = kd then [v] else []
  | [], _, i, _, _, h, _ => by simp at h
  | _ :: _, [], i, _, _, _, h => by simp at h
  | k0 :: ks, v0 :: vs, 0, k, v, h, h2 => by
    simp at h h2
    subst h; subst h2
    simp [namedG]
  | k0 :: ks, v0 :: vs, i + 1, k, v, h, h2 => by
    have := namedG_snoc kd ks vs i k v (by simpa using h) (by simpa using h2)
    simp only [List.take_succ_cons]
    unfold namedG
    split
    · rw [this]; rfl
    · exact this
theorem Ji.p_at {x : Ji} (h : x.ok) {k : Nat} (hk : k < 4) : ∃ v, x.p[k]? = some v ∧ -9223372036854775808 ≤ v ∧ v ≤ 9223372036854775807 := by
  match k, hk with
  | 0, _ => exact ⟨_, rfl, h.a⟩
  | 1, _ => exact ⟨_, rfl, h.b⟩
  | 2, _ => exact ⟨_, rfl, h.c⟩
  | 3, _ => exact ⟨_, rfl, h.n⟩
theorem kN_at (op : Int) {k : Nat} (hk : k < 4) : (kN op)[k]? = some (kA op k) := by
  have := kN_len op
  unfold kA
  rw [List.getD_eq_getElem?_getD, List.getElem?_eq_getElem (by omega)]; rfl
abbrev shObj (op : Int) : Obj := .cells #[.string (strJ (wJ op)), .int .i64 (kA op 0), .int .i64 (kA op 1), .int .i64 (kA op 2), .int .i64 (kA op 3)] 72
def NamedP (x : Ji) (kd : Int) (w : World) (e : Ending) (w' : World) : Prop := ∃ A c, e = .returned (.slice A (namedJ x kd).length c) ∧ OwnI w' w.heap.size 3 A c (namedJ x kd) ∧ Below w.heap.size w w'
theorem sh_cell {W : World} {g : Nat} {op : Int} (h : W.heap[g]? = some (.cells #[.string (strJ (wJ op)), .int .i64 (kA op 0), .int .i64 (kA op 1), .int .i64 (kA op 2), .int .i64 (kA op 3)] 72 (0, 0))) {k : Nat} (hk : k < 4) : W.cell? ⟨g, 1 + k, none⟩ = some (.int .i64 (kA op k)) := by
  obtain ⟨_, c1, c2, c3, c4, _⟩ := cells5 h
  match k, hk with
  | 0, _ => exact c1
  | 1, _ => exact c2
  | 2, _ => exact c3
  | 3, _ => exact c4
theorem index_parts {x : Ji} {k : Nat} {v : Int} (hv : x.p[k]? = some v) (w : World) : Sem.run Tryd.prog (Instr.index 92 (partsV x) (.int .i64 (k : Int))) w = .ok (.int .i64 v) w := by
  match k, hv with
  | 0, hv => cases hv; simp [Instr.index, run_underlying Tryd.underlying92, asIntOf, go_sem]
  | 1, hv => cases hv; simp [Instr.index, run_underlying Tryd.underlying92, asIntOf, go_sem]
  | 2, hv => cases hv; simp [Instr.index, run_underlying Tryd.underlying92, asIntOf, go_sem]
  | 3, hv => cases hv; simp [Instr.index, run_underlying Tryd.underlying92, asIntOf, go_sem]
  | k + 4, hv => cases hv
set_option maxRecDepth 100000 in
set_option maxHeartbeats 4000000 in
theorem named_any (x : Ji) (kd : Int) (w : World) (hx : x.ok) (_hd : 0 ≤ kd ∧ kd ≤ 6) (hS : ShT w) : Calls Tryd.prog 50 #[x.val, .int .i64 kd] w (NamedP x kd w) := by
  have HB0 := Lib.hid ((Below.refl w.heap.size w).alloc (Nat.le_refl _) x.obj)
  have HX0 := Lib.hid (newJ w x)
  have HOK := Lib.hid hx
  have HS := Lib.hid hS
  obtain ⟨W0, hW0⟩ : ∃ W, w.alloc x.obj = W := ⟨_, rfl⟩
  rw [hW0] at HB0 HX0
  have cS := shapeOf_any x.op W0 (HS.out.on HB0.out)
  obtain ⟨⟨k0, k1, k2, k3, k4⟩, kf⟩ := box_cellsJ HX0.out
  obtain ⟨i0, hi0, hz0, hz1, hz2⟩ := info_parts infoInt
  clear hS
  go_enter Tryd.func50, Tryd.ntmps50
  go_wp2_with fail
  try rw [hW0]
  refine cS.mono ?_
  rintro e w1 ⟨rfl, hb⟩
  unfold shV
  have HB1 := Lib.hid (HB0.out.trans (hb.mono HB0.out.size))
  have HX1 := Lib.hid (keep_b hb HX0.out)
  clear hb hW0 k0 k1 k2 k3 k4 kf
  obtain ⟨W2, hW2⟩ : ∃ W, w1.alloc (shObj x.op) = W := ⟨_, rfl⟩
  have HB2 : Hid (Below w.heap.size w W2) := by rw [← hW2]; exact HB1.out.alloc HB1.out.size _
  have HX2 : Hid (W2.heap[w.heap.size]? = some x.obj) := by rw [← hW2]; exact pastJ _ HX1.out
  have HG2 : Hid (W2.heap[w1.heap.size]? = some (.cells #[.string (strJ (wJ x.op)), .int .i64 (kA x.op 0), .int .i64 (kA x.op 1), .int .i64 (kA x.op 2), .int .i64 (kA x.op 3)] 72 (0, 0))) := by rw [← hW2]; exact heap_alloc_new w1 (shObj x.op)
  go_upto_region 2 with fail
  try rw [hW2]
  have cP := parts_any x W2
  obtain ⟨⟨k0, k1, k2, k3, k4⟩, kf⟩ := box_cellsJ HX2.out
  have hg1 : w.heap.size ≤ w1.heap.size := HB1.out.size
  clear hW2 cS HX1
  go_wp2_with fail
  refine cP.mono ?_
  rintro e w3 ⟨rfl, hb⟩
  have HB3 := Lib.hid (HB2.out.trans (hb.mono HB2.out.size))
  have HG3 := Lib.hid (keep_b hb HG2.out)
  obtain ⟨G, hG⟩ : ∃ G, w1.heap.size = G := ⟨_, rfl⟩
  rw [hG] at HG3 hg1 ⊢
  clear hb cP HG2 HX2 HB2 HB1 HB0 HX0 k0 k1 k2 k3 k4 kf hG
  go_wp2_with fail
  go_loopw [7, 18] (fun v i wr => ∃ (k : Nat) (A : Option Addr) (c : Nat), k ≤ 4 ∧ i = .int .i64 k ∧ v = .slice A (namedG kd ((kN x.op).take k) x.p).length c ∧ Hid (OwnI wr w.heap.size 3 A c (namedG kd ((kN x.op).take k) x.p)) ∧ Hid (Below w.heap.size w wr) ∧ Hid (wr.heap[G]? = some (.cells #[.string (strJ (wJ x.op)), .int .i64 (kA x.op 0), .int .i64 (kA x.op 1), .int .i64 (kA x.op 2), .int .i64 (kA x.op 3)] 72 (0, 0)))) (fun _ i _ => 4 - (intOf i).toNat)
  case atStart => exact ⟨0, none, 0, Nat.zero_le _, rfl, by rw [List.take_zero]; rfl, by rw [List.take_zero]; exact OwnI.nil_ _ _ _, HB3.out, HG3.out⟩
  case round =>
    obtain ⟨k, A, c, hk, rfl, rfl, HO, HB, HG⟩ := hrel
    by_cases hlt : k < 4
    · obtain ⟨v, hv, hv0, hv1⟩ := Ji.p_at HOK.out hlt
      have hkn := kN_at x.op hlt
      have hsn := namedG_snoc kd (kN x.op) x.p k (kA x.op k) v hkn hv
      have hrl : (namedG kd ((kN x.op).take k) x.p).length ≤ 4 := namedG_length kd _ _
      have hc := sh_cell HG.out hlt
      have HSN := Lib.hid hsn
      have HV := Lib.hid hv
      have hix := index_parts hv wr
      have hk4 : (k : Int) < 4 := by omega
      have hk0 : (0 : Int) ≤ (k : Int) := by omega
      clear hsn hv hkn
      by_cases hkd : kA x.op k = kd
      · have c1 : (kA x.op k == kd) = true := by simpa using hkd
        have HST : Hid (namedG kd ((kN x.op).take (k + 1)) x.p = namedG kd ((kN x.op).take k) x.p ++ [v]) := by unfold Hid; rw [HSN.out, if_pos hkd]
        obtain ⟨m, hm⟩ : ∃ m, (namedG kd ((kN x.op).take k) x.p).length = m := ⟨_, rfl⟩
        have HM := Lib.hid hm
        rw [hm] at hrl
        have hle : m + 1 ≤ 1000000 := by omega
        have hsz : w.heap.size ≤ wr.heap.size := HB.out.size
        rw [hm]
        clear hm hkd
        go_wp2_with (at_builtin; refine wpList_appendInts _ rfl (.tmp 28) (.tmp 30) 34 rfl w.heap.size 3 i0 Tryd.underlying34 hi0 hz0 hz1 hz2 A (some ⟨wr.heap.size, 0, none⟩) c 1 1 (wr.heap.size + 1) m (m + 1) (namedG kd ((kN x.op).take k) x.p) [v] rfl rfl (HO.out.alloc _) HM.out rfl (src_new wr ⟨hv0, hv1⟩) hle (by simp; omega) ?_; intro A3 c3 w3 hO3 hG3)
        have hb3 := below_app (HB.out.alloc hsz _) hG3 (HO.out.alloc _) HM.out (by simp; omega)
        have hX3 := past_int (HO.out.alloc _) (pastJ _ HG.out) (by decide) HM.out hG3
        have HO3 := Lib.hid hO3
        have HB4 := Lib.hid hb3
        have HG4 := Lib.hid hX3
        clear hO3 hb3 hX3 hG3
        go_wp2_with fail
        go_roundw
        case rel => exact ⟨k + 1, A3, c3, by omega, by go_num, by rw [HST.out, List.length_append, HM.out]; rfl, by rw [HST.out]; exact HO3.out, HB4.out, HG4.out⟩
        case measure => simp [intOf]; omega
      · have c1 : (kA x.op k == kd) = false := by simpa using hkd
        have HST : Hid (namedG kd ((kN x.op).take (k + 1)) x.p = namedG kd ((kN x.op).take k) x.p) := by unfold Hid; rw [HSN.out, if_neg hkd, List.append_nil]
        clear hkd
        go_wp2_with fail
        go_roundw
        case rel => exact ⟨k + 1, A, c, by omega, by go_num, by rw [HST.out], by rw [HST.out]; exact HO.out, HB.out, HG.out⟩
        case measure => simp [intOf]; omega
    · have hk4 : ¬ (k : Int) < 4 := by omega
      have HT : Hid (namedG kd ((kN x.op).take k) x.p = namedJ x kd) := by unfold Hid namedJ; rw [List.take_of_length_le (by rw [kN_len]; omega)]
      rw [HT.out] at HO ⊢
      go_wp2_with fail
      go_ret
      exact ⟨A, c, rfl, HO.out, HB.out⟩
end Go.Proofs.YtmnadieblhdcpaaDoor
/- The program's registers and places of an instruction. -/
namespace Go.Proofs.YtmnadieblhdcpaaDoor
open Go.RowKit

theorem op_split (op : Int) : (op < 0 ∨ 12 < op) ∨ op = 0 ∨ op = 1 ∨ op = 2 ∨ op = 3 ∨ op = 4 ∨ op = 5 ∨ op = 6 ∨ op = 7 ∨ op = 8 ∨ op = 9 ∨ op = 10 ∨ op = 11 ∨ op = 12 := by omega
theorem kN_out {op : Int} (h : op < 0 ∨ 12 < op) : kN op = [0, 0, 0, 0] := by unfold kN; rw [if_neg (by omega)]
theorem kJ_out {op : Int} (h : op < 0 ∨ 12 < op) : kJ op = [] := by unfold kJ; rw [if_neg (by omega)]
theorem named_reads (x : Ji) : namedJ x 2 = readsJ x := by
  obtain ⟨op, a, b, c, n⟩ := x
  unfold namedJ readsJ
  show namedG 2 (kN op) [a, b, c, n] = readsG (kJ op) [a, b, c]
  rcases op_split op with h | rfl | rfl | rfl | rfl | rfl | rfl | rfl | rfl | rfl | rfl | rfl | rfl | rfl
  · rw [kN_out h, kJ_out h]; simp [namedG, readsG]
  all_goals simp [namedG, readsG, kN, kJ, kindNs, kindsJ]
theorem named_sets (x : Ji) : namedJ x 1 = if setsJ x then [x.a] else [] := by
  obtain ⟨op, a, b, c, n⟩ := x
  unfold namedJ setsJ
  show namedG 1 (kN op) [a, b, c, n] = if (kJ op).head? == some 119 then [a] else []
  rcases op_split op with h | rfl | rfl | rfl | rfl | rfl | rfl | rfl | rfl | rfl | rfl | rfl | rfl | rfl
  · rw [kN_out h, kJ_out h]; simp [namedG]
  all_goals simp [namedG, kN, kJ, kindNs, kindsJ]
theorem named_place (x : Ji) : namedJ x 4 = if x.op = 10 then [x.a] else if x.op = 11 ∨ x.op = 12 then [x.c] else [] := by
  obtain ⟨op, a, b, c, n⟩ := x
  unfold namedJ
  show namedG 4 (kN op) [a, b, c, n] = if op = 10 then [a] else if op = 11 ∨ op = 12 then [c] else []
  rcases op_split op with h | rfl | rfl | rfl | rfl | rfl | rfl | rfl | rfl | rfl | rfl | rfl | rfl | rfl
  · rw [kN_out h, if_neg (by omega), if_neg (by omega)]; simp [namedG]
  all_goals simp [namedG, kN, kindNs]
set_option maxRecDepth 100000 in
theorem codeReads_any (x : Ji) (w : World) (hx : x.ok) (hS : ShT w) : Calls Tryd.prog 26 #[x.val] w (ReadsP x w) := by
  have HB0 := Lib.hid ((Below.refl w.heap.size w).alloc (Nat.le_refl _) x.obj)
  have HX0 := Lib.hid (newJ w x)
  obtain ⟨W0, hW0⟩ : ∃ W, w.alloc x.obj = W := ⟨_, rfl⟩
  rw [hW0] at HB0 HX0
  have cN := named_any x 2 W0 hx (by omega) (hS.on HB0.out)
  unfold NamedP at cN
  rw [named_reads] at cN
  obtain ⟨⟨k0, k1, k2, k3, k4⟩, kf⟩ := box_cellsJ HX0.out
  clear hS
  go_enter Tryd.func26, Tryd.ntmps26
  go_wp2_with fail
  try rw [hW0]
  refine cN.mono ?_
  rintro e w1 ⟨A, c, rfl, hO, hb⟩
  have HB1 := Lib.hid (HB0.out.trans (hb.mono HB0.out.size))
  have HO := Lib.hid (hO.mono HB0.out.size)
  clear hb hO cN k0 k1 k2 k3 k4 kf
  go_wp2_with fail
  go_ret
  exact ⟨A, c, rfl, HO.out, HB1.out⟩
set_option maxRecDepth 100000 in
theorem codeWrites_any (x : Ji) (w : World) (hx : x.ok) (hS : ShT w) : Calls Tryd.prog 27 #[x.val] w (WritesP x w) := by
  have HB0 := Lib.hid ((Below.refl w.heap.size w).alloc (Nat.le_refl _) x.obj)
  have HX0 := Lib.hid (newJ w x)
  obtain ⟨W0, hW0⟩ : ∃ W, w.alloc x.obj = W := ⟨_, rfl⟩
  rw [hW0] at HB0 HX0
  have cN := named_any x 1 W0 hx (by omega) (hS.on HB0.out)
  unfold NamedP at cN
  rw [named_sets] at cN
  obtain ⟨⟨k0, k1, k2, k3, k4⟩, kf⟩ := box_cellsJ HX0.out
  clear hS
  by_cases hs : setsJ x = true
  · have HE : Hid (writesJ x = x.a ∧ setsJ x = true) := ⟨by unfold writesJ; rw [if_pos hs], hs⟩
    rw [if_pos hs] at cN
    clear hs
    go_enter Tryd.func27, Tryd.ntmps27
    go_wp2_with fail
    try rw [hW0]
    refine cN.mono ?_
    rintro e w1 ⟨A, c, rfl, hO, hb⟩
    have HB1 := Lib.hid (HB0.out.trans (hb.mono HB0.out.size))
    obtain ⟨g, off, v, rfl, hgv, hl, hc, _⟩ := hO.ints.at_ (k := 0) (by simp)
    obtain rfl : x.a = v := Option.some.inj hl.out
    rw [Nat.add_zero] at hc
    clear hb hO cN k0 k1 k2 k3 k4 kf hl
    go_wp2_with fail
    go_ret2
    exact ⟨by rw [HE.out.1, HE.out.2]; rfl, HB1.out⟩
  · have hf : setsJ x = false := by simpa using hs
    have HE : Hid (writesJ x = 0 ∧ setsJ x = false) := ⟨by unfold writesJ; rw [if_neg hs], hf⟩
    rw [if_neg hs] at cN
    clear hs hf
    go_enter Tryd.func27, Tryd.ntmps27
    go_wp2_with fail
    try rw [hW0]
    refine cN.mono ?_
    rintro e w1 ⟨A, c, rfl, hO, hb⟩
    have HB1 := Lib.hid (HB0.out.trans (hb.mono HB0.out.size))
    clear hb hO cN k0 k1 k2 k3 k4 kf
    go_wp2_with fail
    go_ret2
    exact ⟨by rw [HE.out.1, HE.out.2]; rfl, HB1.out⟩
set_option maxRecDepth 100000 in
set_option maxHeartbeats 4000000 in
theorem codeNext_any (x : Ji) (at_ : Int) (w : World) (hx : x.ok) (_ha : -9223372036854775808 ≤ at_ ∧ at_ ≤ 9223372036854775807) (hS : ShT w) : Calls Tryd.prog 28 #[x.val, .int .i64 at_] w (NextP x at_ w) := by
  have HB0 := Lib.hid ((Below.refl w.heap.size w).alloc (Nat.le_refl _) x.obj)
  have HX0 := Lib.hid (newJ w x)
  have HS := Lib.hid hS
  have HOK := Lib.hid hx
  obtain ⟨W0, hW0⟩ : ∃ W, w.alloc x.obj = W := ⟨_, rfl⟩
  rw [hW0] at HB0 HX0
  have cS := shapeOf_any x.op W0 (HS.out.on HB0.out)
  obtain ⟨⟨k0, k1, k2, k3, k4⟩, kf⟩ := box_cellsJ HX0.out
  obtain ⟨i0, hi0, hz0, hz1, hz2⟩ := info_parts infoInt
  clear hS
  by_cases hop : x.op ≤ 0 ∨ 12 < x.op
  · have HN : Hid (nextJ x at_ = []) := by unfold Hid nextJ; rw [if_pos hop]
    have hc : isOp x.op = false ∨ (isOp x.op = true ∧ (x.op == 0) = true) := by
      by_cases h0 : x.op = 0
      · exact .inr ⟨decide_eq_true (by omega), by simpa using h0⟩
      · exact .inl (decide_eq_false (by omega))
    clear hop _ha
    rcases hc with hc | ⟨hc, hc2⟩
    all_goals
      go_enter Tryd.func28, Tryd.ntmps28
      go_wp2_with fail
      try rw [hW0]
      refine cS.mono ?_
      rintro e w1 ⟨rfl, hb⟩
      unfold shV
      have HB1 := Lib.hid (HB0.out.trans (hb.mono HB0.out.size))
      have HX1 := Lib.hid (keep_b hb HX0.out)
      clear hb hW0 k0 k1 k2 k3 k4 kf cS
      obtain ⟨W2, hW2⟩ : ∃ W, w1.alloc (shObj x.op) = W := ⟨_, rfl⟩
      have HB2 : Hid (Below w.heap.size w W2) := by rw [← hW2]; exact HB1.out.alloc HB1.out.size _
      have HX2 : Hid (W2.heap[w.heap.size]? = some x.obj) := by rw [← hW2]; exact pastJ _ HX1.out
      obtain ⟨⟨k0, k1, k2, k3, k4⟩, kf⟩ := box_cellsJ HX2.out
      go_upto_region 2 with fail
      try rw [hW2]
      go_wp2_with fail
      go_ret
      exact ⟨none, 0, by rw [HN.out]; rfl, by rw [HN.out]; exact OwnI.nil_ _ _ _, HB2.out⟩
  · have hc : isOp x.op = true := decide_eq_true (by omega)
    have hc2 : (x.op == 0) = false := by
      have : x.op ≠ 0 := by omega
      simpa using this
    have hr : 1 ≤ x.op ∧ x.op ≤ 12 := by omega
    have HR := Lib.hid hr
    clear hop hr
    go_enter Tryd.func28, Tryd.ntmps28
    go_wp2_with fail
    try rw [hW0]
    refine cS.mono ?_
    rintro e w1 ⟨rfl, hb⟩
    unfold shV
    have HB1 := Lib.hid (HB0.out.trans (hb.mono HB0.out.size))
    have HX1 := Lib.hid (keep_b hb HX0.out)
    clear hb hW0 k0 k1 k2 k3 k4 kf cS
    obtain ⟨W2, hW2⟩ : ∃ W, w1.alloc (shObj x.op) = W := ⟨_, rfl⟩
    have HB2 : Hid (Below w.heap.size w W2) := by rw [← hW2]; exact HB1.out.alloc HB1.out.size _
    have HX2 : Hid (W2.heap[w.heap.size]? = some x.obj) := by rw [← hW2]; exact pastJ _ HX1.out
    have cN := named_any x 4 W2 HOK.out (by omega) (HS.out.on HB2.out)
    unfold NamedP at cN
    obtain ⟨⟨k0, k1, k2, k3, k4⟩, kf⟩ := box_cellsJ HX2.out
    go_upto_region 2 with fail
    try rw [hW2]
    clear hW2 HX1 HB1
    go_wp2_with fail
    refine cN.mono ?_
    rintro e w3 ⟨A, c, rfl, hO, hb⟩
    have HB3 := Lib.hid (HB2.out.trans (hb.mono HB2.out.size))
    have HX3 := Lib.hid (keep_b hb HX2.out)
    have HO := Lib.hid (hO.mono HB2.out.size)
    clear hb hO cN k0 k1 k2 k3 k4 kf
    obtain ⟨⟨k0, k1, k2, k3, k4⟩, kf⟩ := box_cellsJ HX3.out
    by_cases h10 : x.op = 10
    · have e1 : (x.op == 10) = true := by simpa using h10
      have HL : Hid (namedJ x 4 = nextJ x at_) := by
        unfold Hid nextJ
        rw [named_place, if_pos h10, if_neg (by omega), if_pos h10]
      clear h10
      go_wp2_with fail
      go_ret
      exact ⟨A, c, by rw [HL.out]; rfl, by rw [← HL.out]; exact HO.out, HB3.out⟩
    · have e1 : (x.op == 10) = false := by simpa using h10
      have HL : Hid ([wrap64 (at_ + 1)] ++ namedJ x 4 = nextJ x at_) := by
        have hr := HR.out
        unfold Hid nextJ
        rw [named_place, if_neg (show ¬ (x.op ≤ 0 ∨ 12 < x.op) by omega), if_neg h10, if_neg h10]
        split <;> rfl
      have hl4 : (namedJ x 4).length ≤ 4 := namedG_length _ _ _
      have hsz : w.heap.size ≤ w3.heap.size := HB3.out.size
      obtain ⟨m, hm⟩ : ∃ m, (namedJ x 4).length = m := ⟨_, rfl⟩
      have HM := Lib.hid hm
      have hIn : Ints (w3.alloc (.cells #[.int .i64 (wrap64 (at_ + 1))] 3)) (w3.heap.size + 1) A m (namedJ x 4) := by
        have := HO.out.ints.alloc' (.cells #[.int .i64 (wrap64 (at_ + 1))] 3)
        rw [hm, World.size_alloc] at this
        exact this
      rw [hm] at hl4 ⊢
      have hle : 1 + m ≤ 1000000 := by omega
      clear h10 hm
      go_wp2_with (at_builtin; refine wpList_appendInts _ rfl (.tmp 29) (.tmp 30) 34 rfl w.heap.size 3 i0 Tryd.underlying34 hi0 hz0 hz1 hz2 (some ⟨w3.heap.size, 0, none⟩) A 1 m c (w3.heap.size + 1) 1 (1 + m) [wrap64 (at_ + 1)] (namedJ x 4) rfl rfl (own_one w3 _ _ hsz (wrap64_bounds _)) rfl rfl hIn hle (by simp; omega) ?_; intro A3 c3 w4 hO3 hG3)
      have hb3 := below_app (HB3.out.alloc hsz _) hG3 (own_one w3 _ _ hsz (wrap64_bounds _)) rfl (by simp; omega)
      have HO3 := Lib.hid hO3
      have HB4 := Lib.hid hb3
      clear hO3 hb3 hG3
      go_wp2_with fail
      go_ret
      exact ⟨A3, c3, by rw [← HL.out, List.length_append, HM.out, List.length_singleton]; rfl, by rw [← HL.out]; exact HO3.out, HB4.out⟩
end Go.Proofs.YtmnadieblhdcpaaDoor
/- Whether an instruction may be in code, as the program asks it: part by part. -/
namespace Go.Proofs.YtmnadieblhdcpaaDoor
open Go.RowKit

/-- a part of a kind fits -/
def fitB (R A L kd n : Int) : Bool :=
  if kd = 1 ∨ kd = 2 then decide (0 ≤ n) && decide (n < R) else if kd = 3 then decide (0 ≤ n) && decide (n < A) else if kd = 4 then decide (0 ≤ n) && decide (n < L)
  else if kd = 6 then decide (-1000000000000000000 < n) && decide (n < 1000000000000000000) else n == 0
def fitsTo (R A L : Int) (x : Ji) (k : Nat) : Bool := isOp x.op && (List.range k).all fun j => fitB R A L (kA x.op j) (x.p.getD j 0)
theorem fitsTo_succ (R A L : Int) (x : Ji) (k : Nat) : fitsTo R A L x (k + 1) = (fitsTo R A L x k && fitB R A L (kA x.op k) (x.p.getD k 0)) := by
  unfold fitsTo
  rw [List.range_succ, List.all_append, Bool.and_assoc]
  simp
theorem fitsTo_all (R A L : Int) (x : Ji) : fitsTo R A L x 4 = mayJ R A L x := by
  obtain ⟨op, a, b, c, n⟩ := x
  rcases op_split op with h | h
  · rw [mayJ_out (by exact h)]
    unfold fitsTo isOp
    rw [decide_eq_false (by show ¬ (0 ≤ op ∧ op ≤ 12); omega), Bool.false_and]
  · rw [Bool.eq_iff_iff]
    rcases h with rfl | rfl | rfl | rfl | rfl | rfl | rfl | rfl | rfl | rfl | rfl | rfl | rfl
    all_goals
      simp only [fitsTo_succ, Bool.and_eq_true]
      simp [fitsTo, isOp, mayJ, kA, kN, kindNs, fitB, kJ, kindsJ, limJ, Ji.f, Ji.p, List.range_succ]
      try omega
theorem ret_boolJ2 {a b : Bool} (h : a = b) : Ending.returned (.bool a) = .returned (.bool b) := by rw [h]
theorem kA_bound (op : Int) {k : Nat} (hk : k < 4) : 0 ≤ kA op k ∧ kA op k ≤ 6 := kN_bound op _ (List.mem_of_getElem? (kN_at op hk))
theorem kA_no5 (op : Int) {k : Nat} (hk : k < 4) : kA op k ≠ 5 := by
  have h : ∀ v ∈ kN op, v ≠ 5 := by
    unfold kN
    split
    · rename_i h
      rcases op_cases h.1 h.2 with rfl | rfl | rfl | rfl | rfl | rfl | rfl | rfl | rfl | rfl | rfl | rfl | rfl <;> decide
    · decide
  exact h _ (List.mem_of_getElem? (kN_at op hk))
set_option maxRecDepth 100000 in
/-- a part fits: the program's fits -/
theorem fits_any (kd v : Int) (q : Cq) (w : World) (hq : q.In w) (hd : 0 ≤ kd ∧ kd ≤ 6) (h5 : kd ≠ 5) : Calls Tryd.prog 70 #[.int .i64 kd, .int .i64 v, q.val] w fun e w' => e = .returned (.bool (fitB q.R q.A q.n kd v)) ∧ Below w.heap.size w w' := by
  obtain ⟨R, A, I, P, n, c, l⟩ := q
  have hX := heap_alloc_new w (Cq.obj ⟨R, A, I, P, n, c, l⟩)
  obtain ⟨k0, k1, k2, k3, _⟩ := lvCells hX
  clear hX
  have hb := lvBelow w (Cq.obj ⟨R, A, I, P, n, c, l⟩)
  have HB := Lib.hid hb
  clear hb hq
  rcases (by omega : kd = 0 ∨ kd = 1 ∨ kd = 2 ∨ kd = 3 ∨ kd = 4 ∨ kd = 6) with rfl | rfl | rfl | rfl | rfl | rfl
  all_goals
    go_enter Tryd.func70, Tryd.ntmps70
    go_wp2_with fail
    all_goals
      go_ret
      refine ⟨ret_boolJ2 ?_, HB.out⟩
      simp [fitB]
      try omega
end Go.Proofs.YtmnadieblhdcpaaDoor
/- The program's may: whether an instruction may be, in code. -/
namespace Go.Proofs.YtmnadieblhdcpaaDoor
open Go.RowKit

theorem newQ (w : World) (q : Cq) : (w.alloc q.obj).heap[w.heap.size]? = some q.obj := heap_alloc_new w _
set_option maxRecDepth 100000 in
theorem codeMay_any (x : Ji) (q : Cq) (w : World) (hx : x.ok) (hq : q.In w) (hS : ShT w) : Calls Tryd.prog 54 #[x.val, q.val] w fun e w' => e = .returned (.bool (mayJ q.R q.A q.n x)) ∧ Below w.heap.size w w' := by
  have hb0 := ((Below.refl w.heap.size w).alloc (Nat.le_refl _) x.obj).alloc (by simp) q.obj
  obtain ⟨W0, hW0⟩ : ∃ W, (w.alloc x.obj).alloc q.obj = W := ⟨_, rfl⟩
  have HB0 : Hid (Below w.heap.size w W0) := by rw [← hW0]; exact hb0
  have HX0 : Hid (W0.heap[w.heap.size]? = some x.obj) := by rw [← hW0]; exact pastJ _ (newJ w x)
  have HQ0 : Hid (W0.heap[w.heap.size + 1]? = some q.obj) := by
    rw [← hW0]
    have h := newQ (w.alloc x.obj) q
    rwa [World.size_alloc] at h
  have HOK := Lib.hid hx
  have HS := Lib.hid hS
  have HIN := Lib.hid hq
  have cS := shapeOf_any x.op W0 (HS.out.on HB0.out)
  obtain ⟨⟨k0, k1, k2, k3, k4⟩, kf⟩ := box_cellsJ HX0.out
  obtain ⟨q0, q1, q2, q3, _⟩ := lvCells HQ0.out
  clear hS hq hx hb0
  go_enter Tryd.func54, Tryd.ntmps54
  go_wp2_with fail
  try rw [hW0]
  refine cS.mono ?_
  rintro e w1 ⟨rfl, hb⟩
  unfold shV
  have HB1 := Lib.hid (HB0.out.trans (hb.mono HB0.out.size))
  have HX1 := Lib.hid (keep_b hb HX0.out)
  have HQ1 := Lib.hid (keep_b hb HQ0.out)
  clear hb hW0 k0 k1 k2 k3 k4 kf q0 q1 q2 q3
  obtain ⟨W2, hW2⟩ : ∃ W, w1.alloc (shObj x.op) = W := ⟨_, rfl⟩
  have HB2 : Hid (Below w.heap.size w W2) := by rw [← hW2]; exact HB1.out.alloc HB1.out.size _
  have HX2 : Hid (W2.heap[w.heap.size]? = some x.obj) := by rw [← hW2]; exact pastJ _ HX1.out
  have HQ2 : Hid (W2.heap[w.heap.size + 1]? = some q.obj) := by rw [← hW2]; exact pastJ _ HQ1.out
  have HG2 : Hid (W2.heap[w1.heap.size]? = some (.cells #[.string (strJ (wJ x.op)), .int .i64 (kA x.op 0), .int .i64 (kA x.op 1), .int .i64 (kA x.op 2), .int .i64 (kA x.op 3)] 72 (0, 0))) := by rw [← hW2]; exact heap_alloc_new w1 (shObj x.op)
  go_upto_region 2 with fail
  try rw [hW2]
  have cP := parts_any x W2
  obtain ⟨⟨k0, k1, k2, k3, k4⟩, kf⟩ := box_cellsJ HX2.out
  have hg1 : w.heap.size ≤ w1.heap.size := HB1.out.size
  clear hW2 cS HX1
  go_wp2_with fail
  refine cP.mono ?_
  rintro e w3 ⟨rfl, hb⟩
  have HB3 := Lib.hid (HB2.out.trans (hb.mono HB2.out.size))
  have HG3 := Lib.hid (keep_b hb HG2.out)
  have HQ3 := Lib.hid (keep_b hb HQ2.out)
  obtain ⟨G, hG⟩ : ∃ G, w1.heap.size = G := ⟨_, rfl⟩
  rw [hG] at HG3 hg1 ⊢
  clear hb cP HG2 HX2 HB2 HB1 HB0 HX0 HQ0 HQ1 HQ2 k0 k1 k2 k3 k4 kf hG
  go_wp2_with fail
  go_loopw [6, 17] (fun v i wr => ∃ (k : Nat), k ≤ 4 ∧ i = .int .i64 k ∧ v = .bool (fitsTo q.R q.A q.n x k) ∧ Hid (Below w.heap.size w wr) ∧ Hid (wr.heap[w.heap.size + 1]? = some q.obj) ∧ Hid (wr.heap[G]? = some (.cells #[.string (strJ (wJ x.op)), .int .i64 (kA x.op 0), .int .i64 (kA x.op 1), .int .i64 (kA x.op 2), .int .i64 (kA x.op 3)] 72 (0, 0)))) (fun _ i _ => 4 - (intOf i).toNat)
  case atStart => exact ⟨0, Nat.zero_le _, rfl, by unfold fitsTo; simp, HB3, HQ3, HG3⟩
  case round =>
    obtain ⟨k, hk, rfl, rfl, HB, HQ, HG⟩ := hrel
    by_cases hlt : k < 4
    · obtain ⟨v, hv, hv0, hv1⟩ := Ji.p_at HOK.out hlt
      have hc := sh_cell HG.out hlt
      have hix := index_parts hv wr
      have hk4 : (k : Int) < 4 := by omega
      have hk0 : (0 : Int) ≤ (k : Int) := by omega
      have HSU : Hid (fitsTo q.R q.A q.n x (k + 1) = (fitsTo q.R q.A q.n x k && fitB q.R q.A q.n (kA x.op k) v)) := by
        unfold Hid
        rw [fitsTo_succ, List.getD_eq_getElem?_getD, hv]; rfl
      have hkb := kA_bound x.op hlt
      have hk5 : kA x.op k ≠ 5 := kA_no5 x.op hlt
      obtain ⟨q0, q1, q2, q3, _⟩ := lvCells HQ.out
      have cF := fits_any (kA x.op k) v q wr.drew (HIN.out.on HB.out.drew) hkb hk5
      clear hv hkb hk5
      obtain ⟨b, hb⟩ : ∃ b, fitsTo q.R q.A q.n x k = b := ⟨_, rfl⟩
      rw [hb] at HSU ⊢
      clear hb
      cases b
      · clear cF
        rw [Bool.false_and] at HSU
        go_wp2_with fail
        go_quiet (fail)
        go_wp2_with fail
        go_roundw
        case rel => exact ⟨k + 1, by omega, by go_num, by rw [HSU.out], belowD HB.out _, HQ.out, HG.out⟩
        case measure => simp [intOf]; omega
      · rw [Bool.true_and] at HSU
        go_wp2_with fail
        go_still_tail 8, (by kernel_rfl)
        change wpList _ _ _ _ _ wr.drew
        go_wp2_with fail
        refine cF.mono ?_
        rintro e w4 ⟨rfl, hb⟩
        have hb : Below wr.heap.size wr.drew w4 := hb
        have HB4 := Lib.hid ((HB.out.drew).trans (hb.mono HB.out.size))
        have HQ4 := Lib.hid (keep_b (w := wr.drew) hb HQ.out)
        have HG4 := Lib.hid (keep_b (w := wr.drew) hb HG.out)
        clear hb cF
        go_wp2_with fail
        go_roundw
        case rel => exact ⟨k + 1, by omega, by go_num, by rw [HSU.out], HB4.out, HQ4.out, HG4.out⟩
        case measure => simp [intOf]; omega
    · have hk4 : ¬ (k : Int) < 4 := by omega
      obtain rfl : k = 4 := by omega
      rw [fitsTo_all]
      go_wp2_with fail
      go_ret
      exact ⟨rfl, HB.out⟩
end Go.Proofs.YtmnadieblhdcpaaDoor
/- The program's Check: whether code may be. -/
namespace Go.Proofs.YtmnadieblhdcpaaDoor
open Go.RowKit

abbrev ckF : Fn := .func 53
set_option maxRecDepth 100000 in
theorem ckClo_any (x : Ji) (q : Cq) (g : Nat) (w : World) (hx : x.ok) (hq : q.In w) (hg : w.heap[g]? = some q.obj) (hS : ShT w) : Calls Tryd.prog 53 #[x.val, .pointer (some ⟨g, 0, none⟩)] w fun e w' => e = .returned (.bool (!(mayJ q.R q.A q.n x))) ∧ Below w.heap.size w w' := by
  have hb0 := (Below.refl w.heap.size w).alloc (Nat.le_refl _) x.obj
  obtain ⟨W0, hW0⟩ : ∃ W, w.alloc x.obj = W := ⟨_, rfl⟩
  have HB0 : Hid (Below w.heap.size w W0) := by rw [← hW0]; exact hb0
  have hX : W0.heap[w.heap.size]? = some x.obj := by rw [← hW0]; exact newJ w x
  have hQ : W0.heap[g]? = some q.obj := by rw [← hW0]; exact pastJ _ hg
  have cM := codeMay_any x q W0 hx (hq.on HB0.out) (hS.on HB0.out)
  obtain ⟨⟨k0, k1, k2, k3, k4⟩, kf⟩ := box_cellsJ hX
  obtain ⟨q0, q1, q2, q3, _⟩ := lvCells hQ
  generalize mayJ q.R q.A q.n x = b at cM ⊢
  clear hb0 hX hQ hS hq hx hg
  go_enter Tryd.func53, Tryd.ntmps53
  go_upto_region 1 with fail
  try rw [hW0]
  go_wp2_with fail
  refine cM.mono ?_
  rintro e w1 ⟨rfl, hb⟩
  have HB1 := Lib.hid (HB0.out.trans (hb.mono HB0.out.size))
  clear hb cM
  go_wp2_with fail
  go_ret
  exact ⟨rfl, HB1.out⟩
def IdxJP (w : World) (q : Cq) (e : Ending) (w' : World) : Prop := ∃ v : Int, e = .returned (.int .i64 v) ∧ decide (0 ≤ v) = !(q.l.all (mayJ q.R q.A q.n)) ∧ Below w.heap.size w w'
set_option maxRecDepth 100000 in
set_option maxHeartbeats 4000000 in
theorem indexJ_any (q : Cq) (g : Nat) (w : World) (hq : q.In w) (hg : w.heap[g]? = some q.obj) (hn : q.n ≤ 1000000) (hS : ShT w) : Calls Tryd.prog 68 #[.slice q.P q.n q.c, .func ckF #[] #[.pointer (some ⟨g, 0, none⟩)]] w (IdxJP w q) := by
  have HN := Lib.hid hq.len
  have HIN := Lib.hid hq
  have HG := Lib.hid hg
  have HS := Lib.hid hS
  clear hq hg hS
  go_enter Tryd.func68, Tryd.ntmps68
  go_wp2
  go_loopw [8] (fun i wr => ∃ k : Nat, k ≤ q.n ∧ i = .int .i64 k ∧ Hid (∀ j x, j < k → q.l[j]? = some x → mayJ q.R q.A q.n x = true) ∧ Hid (Below w.heap.size w wr)) (fun i _ => q.n - (intOf i).toNat)
  case atStart => exact ⟨0, Nat.zero_le _, rfl, fun j x hj => absurd hj (by omega), Below.refl _ _⟩
  case round =>
    obtain ⟨k, hk, rfl, HA, HB⟩ := hrel
    by_cases hlt : k < q.n
    · obtain ⟨b, off, y, hA, hbl, HX, ⟨y0, y1, y2, y3, y4⟩, hyo⟩ := ((HIN.out.on HB.out).ins).at_ hlt
      have hbw : w.heap.size ≤ wr.heap.size := HB.out.size
      have hk0 : (0 : Int) ≤ k := by omega
      have hk1 : (k : Int) < q.n := by omega
      have cB := ckClo_any y q g wr hyo (HIN.out.on HB.out) (keep_b HB.out HG.out) (HS.out.on HB.out)
      rw [hA]
      clear hyo
      by_cases hm : mayJ q.R q.A q.n y = true
      · rw [hm] at cB
        have HA2 : Hid (∀ j z, j < k + 1 → q.l[j]? = some z → mayJ q.R q.A q.n z = true) := fun j z hj hz => by
          by_cases e : j = k
          · subst e
            rw [HX.out] at hz
            injection hz with hz
            subst hz
            exact hm
          · exact HA.out j z (by omega) hz
        clear hm HA
        go_wp2_with (go_at_call 53; (with_reducible refine cB.mono ?_); rintro e w2 ⟨rfl, hb2⟩)
        go_roundw
        case rel => exact ⟨k + 1, by omega, by go_num, HA2, HB.out.trans (hb2.mono hbw)⟩
        case measure => simp [intOf]; omega
      · have hmf : mayJ q.R q.A q.n y = false := by simpa using hm
        rw [hmf] at cB
        have HF : Hid (decide ((0 : Int) ≤ (k : Int)) = !(q.l.all (mayJ q.R q.A q.n))) := by
          have : q.l.all (mayJ q.R q.A q.n) = false := by
            rw [List.all_eq_false]
            exact ⟨y, List.mem_of_getElem? HX.out, hm⟩
          unfold Hid
          rw [this]
          simp
        clear hm hmf HA
        go_wp2_with (go_at_call 53; (with_reducible refine cB.mono ?_); rintro e w2 ⟨rfl, hb2⟩)
        go_ret
        exact ⟨k, rfl, HF.out, HB.out.trans (hb2.mono hbw)⟩
    · have hkn : ¬ (k : Int) < (q.n : Int) := by omega
      have HF : Hid (decide ((0 : Int) ≤ -1) = !(q.l.all (mayJ q.R q.A q.n))) := by
        have : q.l.all (mayJ q.R q.A q.n) = true := by
          rw [List.all_eq_true]
          intro t ht
          obtain ⟨j, hj, e⟩ := List.getElem_of_mem ht
          exact HA.out j t (by have := HN.out; omega) (by rw [List.getElem?_eq_getElem hj, e])
        unfold Hid
        rw [this]
        decide
      clear HA hlt
      go_wp2
      go_ret
      exact ⟨-1, rfl, HF.out, HB.out⟩
set_option maxRecDepth 100000 in
theorem someJ_any (q : Cq) (g : Nat) (w : World) (hq : q.In w) (hg : w.heap[g]? = some q.obj) (hn : q.n ≤ 1000000) (hS : ShT w) : Calls Tryd.prog 47 #[.slice q.P q.n q.c, .func ckF #[] #[.pointer (some ⟨g, 0, none⟩)]] w fun e w' => e = .returned (.bool (!(q.l.all (mayJ q.R q.A q.n)))) ∧ Below w.heap.size w w' := by
  have cI := indexJ_any q g w hq hg hn hS
  clear hq hg hS
  go_enter Tryd.func47, Tryd.ntmps47
  go_wp2_with (go_at_call 68; (with_reducible refine cI.mono ?_); rintro e w2 ⟨v, rfl, hv, hb2⟩; have HV := Lib.hid hv; clear hv)
  go_ret
  exact ⟨by rw [← HV.out]; rfl, hb2⟩
/-- the numbers of code may be -/
def okHB (c : Cd) : Bool := decide c.okH
set_option maxRecDepth 100000 in
theorem counted_any (q : Cq) (w : World) (hq : q.In w) : Calls Tryd.prog 52 #[q.val] w fun e w' => e = .returned (.bool (okHB q.cd)) ∧ Below w.heap.size w w' := by
  have HL : Hid (okHB q.cd = decide (0 ≤ q.R ∧ q.R ≤ 128 ∧ 0 ≤ q.A ∧ q.A ≤ 128 ∧ 0 ≤ q.I ∧ q.I ≤ q.A ∧ 1 ≤ q.n ∧ q.n ≤ 4096)) := by
    unfold Hid okHB Cd.okH
    rw [show q.cd.l.length = q.n from hq.len]; rfl
  obtain ⟨R, A, I, P, n, c, l⟩ := q
  have hX := heap_alloc_new w (Cq.obj ⟨R, A, I, P, n, c, l⟩)
  obtain ⟨k0, k1, k2, k3, _⟩ := lvCells hX
  have HB := Lib.hid (lvBelow w (Cq.obj ⟨R, A, I, P, n, c, l⟩))
  clear hX hq
  dsimp only at HL
  go_enter Tryd.func52, Tryd.ntmps52
  go_wp2_with fail
  all_goals
    go_ret
    refine ⟨ret_boolJ2 ?_, HB.out⟩
    rw [HL.out]
    symm
    first | (rw [decide_eq_false_iff_not]; omega) | (rw [decide_eq_decide]; omega)
set_option maxRecDepth 100000 in
set_option maxHeartbeats 4000000 in
theorem codeCheck_any (q : Cq) (w : World) (hq : q.In w) (hS : ShT w) : Calls Tryd.prog 29 #[q.val] w (CkP q w) := by
  have HIN := Lib.hid hq
  have hb0 := lvBelow w q.obj
  obtain ⟨W0, hW0⟩ : ∃ W, w.alloc q.obj = W := ⟨_, rfl⟩
  have HB0 : Hid (Below w.heap.size w W0) := by rw [← hW0]; exact hb0
  have HQ0 : Hid (W0.heap[w.heap.size]? = some q.obj) := by rw [← hW0]; exact newQ w q
  have HS := Lib.hid hS
  have cK := counted_any q W0 (hq.on HB0.out)
  have hlen : q.cd.l.length = q.n := hq.len
  obtain ⟨q0, q1, q2, q3, _⟩ := lvCells HQ0.out
  clear hb0 hq hS
  by_cases h1 : q.cd.okH
  case neg =>
    have HE : Hid (q.cd.e = 1) := Cd.may_head h1
    rw [show okHB q.cd = false from decide_eq_false h1] at cK
    clear h1 hlen
    go_enter Tryd.func29, Tryd.ntmps29
    go_upto_region 1 with fail
    try rw [hW0]
    go_wp2_with fail
    refine cK.mono ?_
    rintro e w1 ⟨rfl, hb⟩
    have HB1 := Lib.hid (HB0.out.trans (hb.mono HB0.out.size))
    clear hb cK q0 q1 q2 q3
    go_wp2_with fail
    go_ret
    exact ⟨by rw [HE.out]; rfl, HB1.out⟩
  have hn : 1 ≤ q.n ∧ q.n ≤ 4096 := by obtain ⟨_, _, _, _, _, _, g6, g7⟩ := h1; omega
  rw [show okHB q.cd = true from decide_eq_true h1] at cK
  by_cases h2 : q.cd.l.all (mayJ q.R q.A q.n) = true
  case neg =>
    have h2f : q.l.all (mayJ q.R q.A q.n) = false := eq_false_of_ne_true h2
    have HE : Hid (q.cd.e = 1) := Cd.may_all (by rw [hlen]; exact h2f)
    have HAF := Lib.hid h2f
    clear h1 h2 hlen h2f
    go_enter Tryd.func29, Tryd.ntmps29
    go_upto_region 1 with fail
    try rw [hW0]
    go_wp2_with fail
    refine cK.mono ?_
    rintro e w1 ⟨rfl, hb⟩
    have HB1 := Lib.hid (HB0.out.trans (hb.mono HB0.out.size))
    have HQ1 := Lib.hid (keep_b hb HQ0.out)
    have cC := someJ_any q w.heap.size w1 (HIN.out.on HB1.out) HQ1.out (by omega) (HS.out.on HB1.out)
    rw [HAF.out] at cC
    clear hb cK q0 q1 q2 q3
    obtain ⟨q0, q1, q2, q3, _⟩ := lvCells HQ1.out
    go_wp2_with fail
    refine cC.mono ?_
    rintro e w2 ⟨rfl, hb⟩
    have HB2 := Lib.hid (HB1.out.trans (hb.mono HB1.out.size))
    clear hb cC q0 q1 q2 q3
    go_wp2_with fail
    go_ret
    exact ⟨by rw [HE.out]; rfl, HB2.out⟩
  obtain ⟨k, hk⟩ : ∃ k, q.n = k + 1 := ⟨q.n - 1, by omega⟩
  have hkl : k < q.cd.l.length := by omega
  have hx : q.cd.l[q.cd.l.length - 1]? = some q.cd.l[k] := by rw [show q.cd.l.length - 1 = k by omega, List.getElem?_eq_getElem hkl]
  have HE := Lib.hid (Cd.may_last h1 (by rw [hlen]; exact h2) hx)
  have HAT : Hid (q.l.all (mayJ q.R q.A q.n) = true) := h2
  have HXK : Hid (q.l[k]? = some q.cd.l[k]) := List.getElem?_eq_getElem hkl
  generalize q.cd.l[k] = y at HE HXK
  have HK := Lib.hid hk
  clear h1 h2 hx hkl hlen hk
  go_enter Tryd.func29, Tryd.ntmps29
  go_upto_region 1 with fail
  try rw [hW0]
  go_wp2_with fail
  refine cK.mono ?_
  rintro e w1 ⟨rfl, hb⟩
  have HB1 := Lib.hid (HB0.out.trans (hb.mono HB0.out.size))
  have HQ1 := Lib.hid (keep_b hb HQ0.out)
  have cC := someJ_any q w.heap.size w1 (HIN.out.on HB1.out) HQ1.out (by omega) (HS.out.on HB1.out)
  rw [HAT.out] at cC
  clear hb cK q0 q1 q2 q3
  obtain ⟨q0, q1, q2, q3, _⟩ := lvCells HQ1.out
  go_wp2_with fail
  refine cC.mono ?_
  rintro e w2 ⟨rfl, hb⟩
  have HB2 := Lib.hid (HB1.out.trans (hb.mono HB1.out.size))
  have HQ2 := Lib.hid (keep_b hb HQ1.out)
  obtain ⟨b, off, y2, hA, hbl, HX, ⟨y0, y1, y3, y4, y5⟩, hyo⟩ := ((HIN.out.on HB2.out).ins).at_ (k := k) (by have := HK.out; omega)
  obtain rfl : y = y2 := by have := HX.out; rw [HXK.out] at this; exact Option.some.inj this
  clear hb cC q0 q1 q2 q3 hbl hyo y1 y3 y4 y5
  obtain ⟨q0, q1, q2, q3, _⟩ := lvCells HQ2.out
  rw [hA] at q3
  have hi : IntKind.i64.wrap ((q.n : Int) - 1) = (k : Int) := by
    have := HK.out
    rw [show (q.n : Int) - 1 = (k : Int) by omega]
    rw [wrap_eq]
    exact IntWalk.wrap64_in _ ⟨by omega, by omega⟩
  have hk0 : (0 : Int) ≤ (k : Int) := by omega
  have hk1 : (k : Int) < (q.n : Int) := by have := HK.out; omega
  clear hA HX HXK
  go_upto_region 4 with fail
  by_cases e0 : y.op = 0
  · have d0 : (y.op != 0) = false := by simp [e0]
    have HR : Hid (q.cd.e = 0) := by unfold Hid; rw [HE.out, if_pos (.inl e0)]
    clear e0 HE
    go_wp2_with fail
    go_ret
    exact ⟨by rw [HR.out]; rfl, HB2.out⟩
  · have d0 : (y.op != 0) = true := by simpa using e0
    by_cases e1 : y.op = 10
    · have d1 : (y.op != 10) = false := by simp [e1]
      have HR : Hid (q.cd.e = 0) := by unfold Hid; rw [HE.out, if_pos (.inr e1)]
      clear e0 e1 HE
      go_wp2_with fail
      go_ret
      exact ⟨by rw [HR.out]; rfl, HB2.out⟩
    · have d1 : (y.op != 10) = true := by simpa using e1
      have HR : Hid (q.cd.e = 1) := by unfold Hid; rw [HE.out, if_neg (by omega)]
      clear e0 e1 HE
      go_wp2_with fail
      go_ret
      exact ⟨by rw [HR.out]; rfl, HB2.out⟩
end Go.Proofs.YtmnadieblhdcpaaDoor
