/- The program's table of instructions' shapes, as the row lays it, and how it is read; what stands behind a word, as the table's numbers. -/
import Derived.Test.YtgkngimeokhhgaaDoorG4
import Derived.Lib.LaidTab
import Derived.OpenShut
import Derived.LaidMore
import Derived.StillTail
import Derived.Deep.Quiet
import Derived.Lib.QuietBelow
import Derived.Test.YtgkngimeokhhgaaDoorG6
import Derived.Below
import Derived.Test.YtgkngimeokhhgaaDoorG1
namespace Go.Proofs.YtgkngimeokhhgaaDoor
open Go.RowKit

/-- what stands behind a word: the table's numbers -/
def kindNs : List (List Int) := [[0, 0, 0, 0], [1, 0, 0, 6], [1, 2, 0, 0], [1, 2, 2, 0], [1, 2, 2, 0], [1, 2, 2, 0], [1, 3, 2, 0], [3, 2, 2, 0], [1, 3, 0, 0], [3, 2, 0, 0], [4, 0, 0, 0], [2, 2, 4, 0], [2, 2, 4, 0]]
def kN (op : Int) : List Int := if 0 ≤ op ∧ op ≤ 12 then kindNs.getD op.toNat [0, 0, 0, 0] else [0, 0, 0, 0]
theorem kN_len (op : Int) : (kN op).length = 4 := by
  unfold kN
  split
  · rename_i h
    rcases op_cases h.1 h.2 with rfl | rfl | rfl | rfl | rfl | rfl | rfl | rfl | rfl | rfl | rfl | rfl | rfl <;> decide
  · decide
theorem kN_bound (op : Int) : ∀ v ∈ kN op, 0 ≤ v ∧ v ≤ 6 := by
  unfold kN
  split
  · rename_i h
    rcases op_cases h.1 h.2 with rfl | rfl | rfl | rfl | rfl | rfl | rfl | rfl | rfl | rfl | rfl | rfl | rfl <;> decide
  · decide
def shRow (l : List UInt8) (ks : List Int) : List Value := .string (strJ l) :: ks.map (Value.int .i64)
def shAll : List (List UInt8) → List (List Int) → List Value
  | w :: ws, k :: ks => shRow w k ++ shAll ws ks
  | _, _ => []
/-- the table's cells -/
def shCells : List Value := shAll wordsJ kindNs
/-- the table's datum -/
def shData : DataW Unit := .agg (wordsJ.zipWith (fun w k => .agg [.lit (.string w), Lib.tabData .i64 k]) kindNs)
/-- the table holds what it was laid with -/
def ShIs (w : World) : Prop := w.var? Tryd.prog "purfle/code.shapes" = some shCells.toArray
/-- so at this world, and whatever is written behind it -/
def ShT (W : World) : Prop := ∀ w, Below W.heap.size W w → ShIs w
theorem ShT.here {W : World} (h : ShT W) : ShIs W := h W (Below.refl _ _)
theorem ShT.on {W w : World} (h : ShT W) (hb : Below W.heap.size W w) : ShT w := fun w' h' => h w' (hb.trans (h'.mono hb.size))
set_option maxRecDepth 100000 in
theorem gSh : Tryd.prog.globalNamed "purfle/code.shapes" = some 0 := by kernel_rfl
theorem shT_of {W : World} (h : ShIs W) : ShT W := fun w hb => by
  unfold ShIs World.var? at *
  rw [gSh] at h ⊢
  simp only [Option.bind_some] at h ⊢
  have hl : 0 < W.heap.size := by
    cases hh : W.heap[(0 : Nat)]? with
    | none => rw [hh] at h; cases h
    | some o => exact (Array.getElem?_eq_some_iff.1 hh).1
  rw [hb.block _ hl]
  exact h
theorem str_of {l : List UInt8} {s : ByteArray} (h : s.data.toList = l) : s = strJ l := by
  subst h
  cases s
  rfl
set_option maxRecDepth 100000 in
theorem row_of_trod {W : World} {base : Nat} {sp : Nat → Bool} {held : Bool} {fuel : Nat} {cs : List Value} {l : List UInt8} {ks : List Int} {p : List MemPlace} {enc : TypeId × Value → Unit}
    (h : DataW.trod enc Tryd.prog W base sp held fuel 74 cs = some (.agg [.lit (.string l), Lib.tabData .i64 ks], p)) : cs = shRow l ks := by
  obtain ⟨y0, y1, n, hx, hl, h0, h1⟩ := Go.ChangeShapes.trod_struct2 Tryd.underlying74 h
  injection hx with hx _
  injection hx with hx
  injection hx with hx0 hx1
  injection hx1 with hx1 _
  obtain ⟨s, hs, hy, _⟩ := DataW.trod_string Tryd.underlying9 h0
  have hc1 := Lib.cells_of_tab (p := y1.2) (zs := ks) Tryd.underlying72 Tryd.underlying3 (by kernel_rfl) (by kernel_rfl) (by rw [h1]; exact congrArg some (Prod.ext hx1.symm rfl))
  have hlen : cs.length = 5 := hl.trans (by kernel_rfl)
  have es : s = strJ l := by
    rw [hy] at hx0
    injection hx0 with hx0
    injection hx0 with hx0
    exact str_of hx0.symm
  subst es
  have e0 : (cs.drop 0).take 1 = [.string (strJ l)] := hs
  have e1 : (cs.drop 1).take 4 = ks.map (Value.int .i64) := hc1
  rw [List.drop_zero] at e0
  rw [List.take_of_length_le (by simp; omega)] at e1
  rw [← List.take_append_drop 1 cs, e0, e1]
  rfl
theorem rows_of_chunks : ∀ (ws : List (List UInt8)) (ks : List (List Int)) (cs : List Value), ws.length = ks.length → cs.length = ws.length * 5 →
    (∀ (i : Nat) (w : List UInt8) (k : List Int), ws[i]? = some w → ks[i]? = some k → (cs.drop (i * 5)).take 5 = shRow w k) → cs = shAll ws ks
  | [], _, cs, _, hl, _ => by
    rw [List.eq_nil_of_length_eq_zero (l := cs) (by simpa using hl)]
    unfold shAll; rfl
  | w :: ws, [], cs, h, _, _ => by simp at h
  | w :: ws, k :: ks, cs, h, hl, hc => by
    have h0 := hc 0 w k rfl rfl
    rw [Nat.zero_mul, List.drop_zero] at h0
    show cs = shRow w k ++ shAll ws ks
    rw [← h0]
    have ih := rows_of_chunks ws ks (cs.drop 5) (by simpa using h) (by simp only [List.length_cons] at hl; rw [List.length_drop]; omega) (fun i w' k' hw hk => by
      have := hc (i + 1) w' k' (by simpa using hw) (by simpa using hk)
      rw [List.drop_drop, show 5 + i * 5 = (i + 1) * 5 by omega]
      exact this)
    rw [← ih, List.take_append_drop]
set_option maxRecDepth 100000 in
theorem sh_of_trod {W : World} {base : Nat} {sp : Nat → Bool} {held : Bool} {fuel : Nat} {cs : List Value} {p : List MemPlace} {enc : TypeId × Value → Unit}
    (h : DataW.trod enc Tryd.prog W base sp held fuel 101 cs = some (shData, p)) : cs = shCells := by
  obtain ⟨xs, m, _, hx, hl, hxl, hch⟩ := DataW.trod_array Tryd.underlying101 h
  injection hx with hx _
  unfold shData at hx
  injection hx with hx
  have hlen : cs.length = 65 := hl.trans (by kernel_rfl)
  have hce : Tryd.prog.cellsOf 74 = 5 := by kernel_rfl
  refine rows_of_chunks wordsJ kindNs cs (by decide) (by rw [hlen]; decide) fun i w k hw hk => ?_
  have hi : i < 13 := (List.getElem?_eq_some_iff.1 hw).1
  have hc := hch i hi
  rw [hce] at hc
  have hxi : i < xs.length := by omega
  rw [List.getElem?_eq_getElem hxi] at hc
  have hz := congrArg (·[i]?) hx
  simp only [List.getElem?_zipWith, hw, hk, List.getElem?_map, List.getElem?_eq_getElem hxi, Option.map_some] at hz
  have hz' := Option.some.inj hz
  exact row_of_trod (p := xs[i].2) (hc.trans (congrArg some (Prod.ext hz'.symm rfl)))
theorem shAll_at : ∀ (ws : List (List UInt8)) (ks : List (List Int)) (k i : Nat) (w : List UInt8) (q : List Int), (∀ q ∈ ks, q.length = 4) → ws[k]? = some w → ks[k]? = some q → i < 5 → (shAll ws ks)[k * 5 + i]? = (shRow w q)[i]?
  | [], _, k, _, _, _, _, h, _, _ => by simp at h
  | _ :: _, [], k, _, _, _, _, _, h, _ => by simp at h
  | w :: ws, q :: ks, 0, i, w', q', hl, hw, hq, hi => by
    simp at hw hq
    subst hw; subst hq
    have h4 := hl q (by simp)
    show (shRow w q ++ shAll ws ks)[0 * 5 + i]? = _
    rw [Nat.zero_mul, Nat.zero_add, List.getElem?_append_left (by simp [shRow]; omega)]
  | w :: ws, q :: ks, k + 1, i, w', q', hl, hw, hq, hi => by
    have h4 := hl q (by simp)
    have hr : (shRow w q).length = 5 := by simp [shRow]; omega
    show (shRow w q ++ shAll ws ks)[(k + 1) * 5 + i]? = _
    rw [List.getElem?_append_right (by omega), hr, show (k + 1) * 5 + i - 5 = k * 5 + i by omega]
    exact shAll_at ws ks k i w' q' (fun z hz => hl z (by simp [hz])) (by simpa using hw) (by simpa using hq) hi
theorem shCells_at {k i : Nat} (hk : k < 13) (hi : i < 5) : shCells[k * 5 + i]? = (shRow (wJ k) (kN k))[i]? := by
  refine shAll_at wordsJ kindNs k i _ _ (by decide) ?_ ?_ hi
  · unfold wJ
    rw [if_pos (by omega), Int.toNat_natCast, List.getD_eq_getElem?_getD, List.getElem?_eq_getElem (show k < wordsJ.length from hk)]; rfl
  · unfold kN
    rw [if_pos (by omega), Int.toNat_natCast, List.getD_eq_getElem?_getD, List.getElem?_eq_getElem (show k < kindNs.length from hk)]; rfl
/-- what stands behind a word, at one place -/
def kA (op : Int) (j : Nat) : Int := (kN op).getD j 0
/-- the cells of one op's row -/
structure ShRow (w : World) (o : Nat) (op : Int) : Prop where
  c0 : w.cell? ⟨0, o, none⟩ = some (.string (strJ (wJ op)))
  c1 : w.cell? ⟨0, o + 1, none⟩ = some (.int .i64 (kA op 0))
  c2 : w.cell? ⟨0, o + 2, none⟩ = some (.int .i64 (kA op 1))
  c3 : w.cell? ⟨0, o + 3, none⟩ = some (.int .i64 (kA op 2))
  c4 : w.cell? ⟨0, o + 4, none⟩ = some (.int .i64 (kA op 3))
theorem ShIs.row {w : World} (h : ShIs w) {k : Nat} (hk : k < 13) : ShRow w (k * 5) (k : Int) := by
  have c : ∀ i, i < 5 → w.cell? ⟨0, k * 5 + i, none⟩ = (shRow (wJ k) (kN k))[i]? := fun i hi => by
    rw [World.var?_cell gSh h (k * 5 + i), List.getElem?_toArray]
    exact shCells_at hk hi
  have e : ∀ j, j < 4 → (shRow (wJ k) (kN k))[j + 1]? = some (.int .i64 (kA (k : Int) j)) := fun j hj => by
    unfold kA
    have hl := kN_len (k : Int)
    show ((kN (k : Int)).map (Value.int .i64))[j]? = _
    rw [List.getD_eq_getElem?_getD, List.getElem?_map, List.getElem?_eq_getElem (by omega)]
    rfl
  exact ⟨c 0 (by omega), (c 1 (by omega)).trans (e 0 (by omega)), (c 2 (by omega)).trans (e 1 (by omega)), (c 3 (by omega)).trans (e 2 (by omega)), (c 4 (by omega)).trans (e 3 (by omega))⟩
/-- a shape, as a value -/
def shV (op : Int) : Value := .agg #[.string (strJ (wJ op)), .int .i64 (kA op 0), .int .i64 (kA op 1), .int .i64 (kA op 2), .int .i64 (kA op 3)]
def isOp (op : Int) : Bool := decide (0 ≤ op ∧ op ≤ 12)
def ShapeP (op : Int) (w : World) (e : Ending) (w' : World) : Prop := e = .returned (.tuple #[shV op, .bool (isOp op)]) ∧ Below w.heap.size w w'
end Go.Proofs.YtgkngimeokhhgaaDoor
/- The program's shapes of instructions, and their parts. -/
namespace Go.Proofs.YtgkngimeokhhgaaDoor
open Go.RowKit

abbrev zeroSh : Obj := .cells #[.string ⟨#[]⟩, .int .i64 0, .int .i64 0, .int .i64 0, .int .i64 0] 74
theorem cells5 {W : World} {g : Nat} {u v x y z : Value} {t : TypeId} (h : W.heap[g]? = some (.cells #[u, v, x, y, z] t (0, 0))) :
    W.cell? ⟨g, 0, none⟩ = some u ∧ W.cell? ⟨g, 1, none⟩ = some v ∧ W.cell? ⟨g, 2, none⟩ = some x ∧ W.cell? ⟨g, 3, none⟩ = some y ∧ W.cell? ⟨g, 4, none⟩ = some z ∧ W.frozen? ⟨g, 0, none⟩ = false ∧ W.frozen? ⟨g, 1, none⟩ = false ∧ W.frozen? ⟨g, 2, none⟩ = false ∧ W.frozen? ⟨g, 3, none⟩ = false ∧ W.frozen? ⟨g, 4, none⟩ = false :=
  ⟨by simpa using cell_of_row _ _ 0 _ t (0, 0) h, by simpa using cell_of_row _ _ 1 _ t (0, 0) h, by simpa using cell_of_row _ _ 2 _ t (0, 0) h, by simpa using cell_of_row _ _ 3 _ t (0, 0) h, by simpa using cell_of_row _ _ 4 _ t (0, 0) h, by simp [World.frozen?, h], by simp [World.frozen?, h], by simp [World.frozen?, h], by simp [World.frozen?, h], by simp [World.frozen?, h]⟩
theorem five_cells {w : World} {g : Nat} {a b c d e : Value} {t : TypeId} (h : w.heap[g]? = some (.cells #[a, b, c, d, e] t (0, 0))) (x0 x1 x2 x3 x4 : Value) :
    (((((w.setCell ⟨g, 0, none⟩ x0).setCell ⟨g, 1, none⟩ x1).setCell ⟨g, 2, none⟩ x2).setCell ⟨g, 3, none⟩ x3).setCell ⟨g, 4, none⟩ x4).heap[g]? = some (.cells #[x0, x1, x2, x3, x4] t (0, 0)) := by
  have h1 := set_j (i := 0) (cs := [a, b, c, d, e]) h x0
  have h2 := set_j (i := 1) (cs := [x0, b, c, d, e]) h1 x1
  have h3 := set_j (i := 2) (cs := [x0, x1, c, d, e]) h2 x2
  have h4 := set_j (i := 3) (cs := [x0, x1, x2, d, e]) h3 x3
  exact set_j (i := 4) (cs := [x0, x1, x2, x3, e]) h4 x4
/-- five cells of a block of the call's own, written -/
def put5 (w : World) (g : Nat) (x0 x1 x2 x3 x4 : Value) : World := ((((w.setCell ⟨g, 0, none⟩ x0).setCell ⟨g, 1, none⟩ x1).setCell ⟨g, 2, none⟩ x2).setCell ⟨g, 3, none⟩ x3).setCell ⟨g, 4, none⟩ x4
theorem put5_below {w0 w : World} {B g : Nat} (h : Below B w0 w) (hg : B ≤ g) (x0 x1 x2 x3 x4 : Value) : Below B w0 (put5 w g x0 x1 x2 x3 x4) :=
  ((((h.setCell (p := ⟨g, 0, none⟩) hg _).setCell (p := ⟨g, 1, none⟩) hg _).setCell (p := ⟨g, 2, none⟩) hg _).setCell (p := ⟨g, 3, none⟩) hg _).setCell (p := ⟨g, 4, none⟩) hg _
theorem put5_heap {w : World} {g : Nat} {a b c d e : Value} {t : TypeId} (h : w.heap[g]? = some (.cells #[a, b, c, d, e] t (0, 0))) (x0 x1 x2 x3 x4 : Value) : (put5 w g x0 x1 x2 x3 x4).heap[g]? = some (.cells #[x0, x1, x2, x3, x4] t (0, 0)) := five_cells h x0 x1 x2 x3 x4
theorem put5_other {w : World} {g j : Nat} (hj : j ≠ g) (x0 x1 x2 x3 x4 : Value) : (put5 w g x0 x1 x2 x3 x4).heap[j]? = w.heap[j]? := by
  unfold put5
  rw [Below.heap_setCell _ ⟨g, 4, none⟩ _ _ hj, Below.heap_setCell _ ⟨g, 3, none⟩ _ _ hj, Below.heap_setCell _ ⟨g, 2, none⟩ _ _ hj, Below.heap_setCell _ ⟨g, 1, none⟩ _ _ hj, Below.heap_setCell _ ⟨g, 0, none⟩ _ _ hj]
theorem shapeOf_end {w W0 : World} (HB0 : Below w.heap.size w W0) (_h : W0.heap[w.heap.size]? = some (.cells #[.string ⟨#[]⟩, .int .i64 0, .int .i64 0, .int .i64 0, .int .i64 0] 74 (0, 0))) {op : Int} {x0 x1 x2 x3 x4 : Value} (b : Bool) (hv : shV op = .agg #[x0, x1, x2, x3, x4]) (hb : isOp op = b) :
    ShapeP op w (.returned (.tuple #[.agg #[x0, x1, x2, x3, x4], .bool b])) (put5 W0 w.heap.size x0 x1 x2 x3 x4) := by
  unfold ShapeP
  rw [hv, hb]
  exact ⟨rfl, put5_below HB0 (Nat.le_refl _) _ _ _ _ _⟩
set_option maxRecDepth 100000 in
set_option maxHeartbeats 2000000 in
theorem shapeOf_any (op : Int) (w : World) (hS : ShT w) : Calls Tryd.prog 36 #[.int .i64 op] w (ShapeP op w) := by
  have hb1 := (Below.refl w.heap.size w).alloc (Nat.le_refl _) zeroSh
  have HS := Lib.hid (hS _ hb1)
  obtain ⟨W0, hW0⟩ : ∃ W, w.alloc zeroSh = W := ⟨_, rfl⟩
  have HB0 : Hid (Below w.heap.size w W0) := by rw [← hW0]; exact hb1
  have HX : Hid (W0.heap[w.heap.size]? = some (.cells #[.string ⟨#[]⟩, .int .i64 0, .int .i64 0, .int .i64 0, .int .i64 0] 74 (0, 0))) := by rw [← hW0]; exact heap_alloc_new w zeroSh
  rw [hW0] at HS
  clear hb1 hS
  obtain ⟨b0, b1, b2, b3, b4, f0, f1, f2, f3, f4⟩ := cells5 HX.out
  by_cases h : op < 0 ∨ 12 < op
  · have e1 : wJ op = [] := by unfold wJ; rw [if_neg (by omega)]
    have e2 : ∀ j, j < 4 → kA op j = 0 := fun j hj => by
      unfold kA kN
      rw [if_neg (by omega)]
      match j, hj with
      | 0, _ => rfl
      | 1, _ => rfl
      | 2, _ => rfl
      | 3, _ => rfl
    have hd := fun b hb => shapeOf_end (op := op) HB0.out HX.out b (show shV op = .agg #[.string ⟨#[]⟩, .int .i64 0, .int .i64 0, .int .i64 0, .int .i64 0] by unfold shV; rw [e1, e2 0 (by omega), e2 1 (by omega), e2 2 (by omega), e2 3 (by omega)]; rfl) hb
    have hd := hd false (decide_eq_false (by omega))
    have hs := five_cells HX.out (.string ⟨#[]⟩) (.int .i64 0) (.int .i64 0) (.int .i64 0) (.int .i64 0)
    obtain ⟨s0, s1, s2, s3, s4, _⟩ := cells5 hs
    have HD := Lib.hid hd
    have HSS := Lib.hid (And.intro s0 (And.intro s1 (And.intro s2 (And.intro s3 s4))))
    have hc : decide (op < 0) = true ∨ (decide (op < 0) = false ∧ decide (13 ≤ op) = true) := by
      by_cases h0 : op < 0
      · exact .inl (decide_eq_true h0)
      · exact .inr ⟨decide_eq_false h0, decide_eq_true (by omega)⟩
    clear h hd e1 e2 hs s0 s1 s2 s3 s4
    rcases hc with hc | ⟨hc, hc2⟩
    all_goals
      go_enter Tryd.func36, Tryd.ntmps36
      go_upto_region 1 with fail
      try rw [hW0]
      go_wp2_with fail
      obtain ⟨s0, s1, s2, s3, s4⟩ := HSS.out
      exact bodyPost_ret (v := .tuple #[.agg #[.string ⟨#[]⟩, .int .i64 0, .int .i64 0, .int .i64 0, .int .i64 0], .bool false]) (by simp [results, Tryd.results36, go_sem, s0, s1, s2, s3, s4]) rfl HD.out
  · obtain ⟨k, rfl⟩ : ∃ k : Nat, op = (k : Int) := ⟨op.toNat, by omega⟩
    have hk : k < 13 := by omega
    obtain ⟨c0, c1, c2, c3, c4⟩ := HS.out.row hk
    have hd := shapeOf_end (op := (k : Int)) HB0.out HX.out true rfl (decide_eq_true (by omega))
    have hs := five_cells HX.out (.string (strJ (wJ (k : Int)))) (.int .i64 (kA (k : Int) 0)) (.int .i64 (kA (k : Int) 1)) (.int .i64 (kA (k : Int) 2)) (.int .i64 (kA (k : Int) 3))
    obtain ⟨s0, s1, s2, s3, s4, _⟩ := cells5 hs
    have HD := Lib.hid hd
    have HSS := Lib.hid (And.intro s0 (And.intro s1 (And.intro s2 (And.intro s3 s4))))
    have d0 : decide ((k : Int) < 0) = false := decide_eq_false (by omega)
    have d1 : decide (13 ≤ (k : Int)) = false := decide_eq_false (by omega)
    have hk2 : (k : Int) < 13 := by omega
    clear h hd hs s0 s1 s2 s3 s4
    go_enter Tryd.func36, Tryd.ntmps36
    go_upto_region 1 with fail
    try rw [hW0]
    go_wp2_with fail
    obtain ⟨s0, s1, s2, s3, s4⟩ := HSS.out
    exact bodyPost_ret (v := .tuple #[shV (k : Int), .bool true]) (by unfold shV; simp [results, Tryd.results36, go_sem, s0, s1, s2, s3, s4]) rfl HD.out
end Go.Proofs.YtgkngimeokhhgaaDoor
/- A region of code that draws its order of evaluation, whose operations up to the last ones only read and call (what they call lays new blocks at most): one walk in the text's order serves every order; the last ones are walked behind it, in whatever world the class allows. Nothing is claimed of the program here. -/
namespace Go.Proofs.YtgkngimeokhhgaaDoor
open Go.Sort Go.RowKit

section
variable {P : Program} {ops : Array Oper} {md : Region.Mode} {C : World → Prop}
/-- whatever order of the first n operations is picked, each of them is quiet in the class -/
def headQ (P : Program) (md : Region.Mode) (ops : Array Oper) (C : World → Prop) (n : Nat) (L : Array Bool → Act → Prop) : Nat → Array Bool → Act → Prop
  | 0, listed, a => L listed a
  | f + 1, listed, a => Region.ready md ops listed ≠ [] ∧ ∀ i ∈ Region.ready md ops listed, i < n ∧ qOp P ops C i (headQ P md ops C n L f (listed.setIfInBounds i true)) a
theorem any_of_headQ {n g : Nat} {L : Array Bool → Act → Prop} {Q' : Exit → Act → World → Prop} (hL : ∀ listed a w, C w → L listed a → wpAny P md ops Q' g listed a w) :
    ∀ (f : Nat) (listed : Array Bool) (a : Act) (w : World), C w → headQ P md ops C n L f listed a → wpAny P md ops Q' (f + g) listed a w := by
  intro f
  induction f with
  | zero => intro listed a w hw h; rw [Nat.zero_add]; exact hL _ _ _ hw h
  | succ f ih =>
    intro listed a w hw h
    rw [show f + 1 + g = (f + g) + 1 by omega]
    exact ⟨fun h0 => absurd h0 h.1, fun i hi => wpOp_of_qOp hw (fun a' w' hw' h' => ih _ a' w' hw' h') (h.2 i hi).2⟩
theorem headQ_first {n i : Nat} {oi : Oper} {v : Value} {L : Array Bool → Act → Prop} (hi : ops[i]? = some oi) (hsel : ∀ (j : Nat) (o : Oper) cs b, ops[j]? = some o → o.op ≠ .select cs b)
    (hs : Region.sinkB md ops n = true) (hc : Region.chainB md ops n = true) (hn : n < ops.size) (hin : i < n)
    (hdone : ∀ listed a, L listed a → ∀ j ∈ Region.ready md ops listed, n ≤ j) (f : Nat) :
    ∀ (listed : Array Bool) (a : Act), HeadInv md ops n listed →
      (∀ j oj, ops[j]? = some oj → j ≠ i → listed.getD j true = false → (∀ e ∈ oj.after, Region.binds md e = true → e.on ≠ i) → oi.apart ops oj = true) →
      i ∈ Region.ready md ops listed → YieldsIn P ops C oi v a →
      headQ P md ops C n L f (listed.setIfInBounds i true) (a.put oi.dst v) → headQ P md ops C n L (f + 1) listed a := by
  induction f with
  | zero =>
    intro listed a inv _ hr hy H
    have hun := (mem_ready.1 hr).1
    refine ⟨fun h => (by rw [h] at hr; cases hr), fun j hj => ?_⟩
    have hjn : j < n := Nat.lt_of_not_le fun h => tail_waits hs hc hn inv _ i rfl hin hun j h hj
    refine ⟨hjn, ?_⟩
    by_cases hji : j = i
    · subst hji; exact hy.qOp hi H
    · have := hdone _ _ H j (ready_mono hj hji)
      omega
  | succ f ih =>
    intro listed a inv hfree hr hy H
    have hun := (mem_ready.1 hr).1
    refine ⟨fun h => (by rw [h] at hr; cases hr), fun j hj => ?_⟩
    have hjn : j < n := Nat.lt_of_not_le fun h => tail_waits hs hc hn inv _ i rfl hin hun j h hj
    refine ⟨hjn, ?_⟩
    by_cases hji : j = i
    · subst hji; exact hy.qOp hi H
    · obtain ⟨hjun, oj, hoj, hall⟩ := mem_ready.1 hj
      have hnot : ∀ e ∈ oj.after, Region.binds md e = true → e.on ≠ i := fun e he hb heq => by
        have h1 := hall e he hb
        rw [heq, getD_both hun] at h1
        cases h1
      have h2 := qOp_put hoj (hfree j oj hoj hji hjun hnot) (fun cs b => hsel i oi cs b hi) (fun cs b => hsel j oj cs b hoj) hy (H.2 j (ready_mono hj hji)).2
      refine qOp_mono (fun a' h3 => ih (listed.setIfInBounds j true) a' (inv.set hj hjn) (fun k ok hk hki hk2 hno => hfree k ok hk hki ?_ hno) (ready_mono hr (Ne.symm hji)) h3.1 ?_) h2
      · by_cases hjk : j = k
        · subst hjk; exact hjun
        · rw [getD_set_ne true hjk] at hk2; exact hk2
      · rw [Array.setIfInBounds_comm _ _ hji]
        exact h3.2
theorem headQ_lex {n g : Nat} {Lq : Act → Prop} (hsel : Region.noSelect ops = true) (hs : Region.sinkB md ops n = true) (hc : Region.chainB md ops n = true) (hn : n < ops.size) (l : List Oper) :
    ∀ (k : Nat) (listed : Array Bool) (a : Act), (∀ j, j < l.length → l[j]? = ops[k + j]?) → k + l.length = n → HeadInv md ops n listed →
    Region.lexHead md ops g l.length k listed = true → wpQuiet P ops C Lq l a →
    headQ P md ops C n (fun listed' a' => Region.seqB md ops g n listed' = true ∧ Lq a') l.length listed a := by
  induction l with
  | nil =>
    intro k listed a _ hk _ hB h
    have : k = n := by simpa using hk
    subst this
    exact ⟨by simpa [Region.lexHead] using hB, h⟩
  | cons o l ih =>
    intro k listed a hl hk inv hB h
    have h0 : ops[k]? = some o := by simpa using (hl 0 (by simp)).symm
    simp only [List.length_cons, Region.lexHead, Bool.and_eq_true] at hB
    obtain ⟨⟨hr, hf⟩, hB'⟩ := hB
    have hkn : k < n := by simp only [List.length_cons] at hk; omega
    have hr' : k ∈ Region.ready md ops listed := by simpa using hr
    have hst : qOp P ops C k (wpQuiet P ops C Lq l) a := by unfold qOp; simp only [h0]; exact h
    obtain ⟨v, hy, hK⟩ := yieldsIn_of_qOp h0 hst
    refine headQ_first h0 (Region.noSelect_spec hsel) hs hc hn hkn (fun listed' a' hL => seqB_ready hL.1) l.length listed a inv (Region.free_spec h0 hf) hr' hy ?_
    exact ih (k + 1) _ _ (fun j hj => by have := hl (j + 1) (by simp; omega); simpa [Nat.add_assoc, Nat.add_comm 1 j] using this) (by simp only [List.length_cons] at hk; omega) (inv.set hr' hkn) hB' hK
theorem wp_region_quiet_tail {id : Nat} {Q : Exit → Act → World → Prop} {a : Act} {w : World} {l : List Oper} (n : Nat) (hm : P.follows .mixedOrders = true) (hB : Region.lexTailB .any l.toArray n = true) (hC : C { w with drawn := w.drawn + 1 })
    (h : wpQuiet P l.toArray C (fun a' => ∀ w', C w' → wpList P l.toArray Q (l.drop n) a' w') (l.take n) a) : (Code.region id l.toArray true).wp P Q a w := by
  simp only [Region.lexTailB, Bool.and_eq_true, decide_eq_true_eq] at hB
  obtain ⟨⟨⟨⟨hsel, hn⟩, hs⟩, hc⟩, hlex⟩ := hB
  have htl : (l.take n).length = n := by
    have hn' : n < l.length := by simpa using hn
    simp; omega
  have hdl : (l.drop n).length = l.toArray.size - n := by simp
  have inv0 : HeadInv .any l.toArray n (Array.replicate l.toArray.size false) :=
    ⟨by simp, fun j oj _ hl => (by rw [getD_replicate_false] at hl; cases hl), fun t _ ht => getD_in (by simpa using ht) (getD_replicate_false _ _)⟩
  have H := headQ_lex (md := .any) (g := l.toArray.size - n) hsel hs hc hn (l.take n) 0 _ a (fun j hj => by
    have hj' : j < n := by rw [htl] at hj; exact hj
    simp [hj']) (by simpa using htl) inv0 (by rw [htl]; exact hlex) h
  refine wp_region_any hm ?_
  have := any_of_headQ (Q' := Q) (g := l.toArray.size - n) (fun listed a' w' hw' hL => by
    have := wpAny_of_seq (md := .any) (Q' := Q) (l.drop n) n listed a' w' (fun j => by simp [List.getElem?_drop]) (by rw [hdl]; exact hL.1) (hL.2 w' hw')
    rwa [hdl] at this) _ _ _ _ hC H
  rw [htl, show n + (l.toArray.size - n) = l.toArray.size by omega] at this
  exact this
/-- at the class 'new blocks at most' -/
theorem wp_region_below_tail {id : Nat} {Q : Exit → Act → World → Prop} {a : Act} {w : World} {l : List Oper} (n : Nat) (hm : P.follows .mixedOrders = true) (hB : Region.lexTailB .any l.toArray n = true)
    (h : wpQuiet P l.toArray (fun w' => ∃ p : Regrown, w' = grow (redrawn w p.d) p.os) (fun a' => ∀ w', (∃ p : Regrown, w' = grow (redrawn w p.d) p.os) → wpList P l.toArray Q (l.drop n) a' w') (l.take n) a) : (Code.region id l.toArray true).wp P Q a w :=
  wp_region_quiet_tail (C := fun w' => ∃ p : Regrown, w' = grow (redrawn w p.d) p.os) n hm hB ⟨⟨w.drawn + 1, #[]⟩, by rw [grow_empty]; rfl⟩ h
end
end Go.Proofs.YtgkngimeokhhgaaDoor
/- The document's step: registers. -/
namespace Go.Proofs.YtgkngimeokhhgaaDoor
open Go.RowKit Go.Sort

/-- what a step comes to -/
def StepP (base gR gA : Nat) (s : Ms) (x : Ji) (cells : Int) (w : World) (e : Ending) (w' : World) : Prop :=
  (∃ z rs', doM s.tick x cells = .ok z ∧ e = .returned (.tuple #[stV z gR gA, .int .i64 0]) ∧ MsW w' base gR gA z rs' ∧ KeepU base w w') ∨
  (∃ v, doM s.tick x cells = .error v ∧ e = .returned (.tuple #[stV s.tick gR gA, .int .i64 v]) ∧ KeepU base w w')
theorem KeepU.put5 {w W : World} {base g : Nat} (h : KeepU base w W) (hg : w.heap.size ≤ g) (hB : base ≤ w.heap.size) (x0 x1 x2 x3 x4 : Value) : KeepU base w (put5 W g x0 x1 x2 x3 x4) :=
  ((((h.box hg hB 0 x0).box hg hB 1 x1).box hg hB 2 x2).box hg hB 3 x3).box hg hB 4 x4
theorem MsW.tick {w : World} {base gR gA : Nat} {s : Ms} {rs : List RowU} (h : MsW w base gR gA s rs) : MsW w base gR gA s.tick rs := ⟨h.R, h.A, h.L, h.far⟩
theorem MsW.goto_ {w : World} {base gR gA : Nat} {s : Ms} {rs : List RowU} (h : MsW w base gR gA s rs) (i : Int) : MsW w base gR gA (s.goto_ i) rs := ⟨h.R, h.A, h.L, h.far⟩
end Go.Proofs.YtgkngimeokhhgaaDoor
/- A region of code that draws its order of evaluation, by an invariant: what holds whichever operations have come up. Nothing is claimed of the program here. -/
namespace Go.Proofs.YtgkngimeokhhgaaDoor
open Go.RowKit

section
variable {P : Program} {ops : Array Oper} {md : Region.Mode} {Q : Exit → Act → World → Prop}
def unlN (n : Nat) (listed : Array Bool) : Nat := (List.range n).countP fun i => listed.getD i true == false
theorem unlN_set {n i : Nat} {listed : Array Bool} (hi : listed.getD i true = false) (hn : i < n) : unlN n (listed.setIfInBounds i true) + 1 ≤ unlN n listed := by
  unfold unlN
  have hne : ∀ j, j ≠ i → (listed.setIfInBounds i true).getD j true = listed.getD j true := fun j hj => getD_set_ne true (Ne.symm hj)
  have hsz : i < listed.size := by
    rcases Nat.lt_or_ge i listed.size with h | h
    · exact h
    · simp [Array.getElem?_eq_none h] at hi
  have heq : (listed.setIfInBounds i true).getD i true = true := by simp [hsz]
  have key : ∀ m, (List.range m).countP (fun j => (listed.setIfInBounds i true).getD j true == false) + (if i < m then 1 else 0) = (List.range m).countP (fun j => listed.getD j true == false) := by
    intro m
    induction m with
    | zero => simp
    | succ m ih =>
      rw [List.range_succ, List.countP_append, List.countP_append]
      simp only [List.countP_singleton]
      by_cases hm : m = i
      · subst hm
        have e1 : ¬ m < m := Nat.lt_irrefl m
        have e2 : m < m + 1 := Nat.lt_succ_self m
        rw [heq, hi]
        simp only [e1, e2, if_true, if_false] at ih ⊢
        simp at ih ⊢
        omega
      · rw [hne m hm]
        by_cases hl : i < m
        · have e2 : i < m + 1 := by omega
          simp only [hl, e2, if_true] at ih ⊢
          omega
        · have e2 : ¬ i < m + 1 := by omega
          simp only [hl, e2, if_false] at ih ⊢
          omega
  have := key n
  rw [if_pos hn] at this
  omega
theorem wpAny_inv {I : Array Bool → Act → World → Prop} (hend : ∀ listed a w, I listed a w → (∀ i, i < ops.size → listed.getD i false = true) → Q .normal a w)
    (hacyc : ∀ listed : Array Bool, Region.ready md ops listed = [] → ∀ i, i < ops.size → listed.getD i true = true)
    (hstep : ∀ listed a w i, I listed a w → i ∈ Region.ready md ops listed → wpOp P ops Q i (fun a' w' => I (listed.setIfInBounds i true) a' w') a w) (fuel : Nat) :
    ∀ (listed : Array Bool) (a : Act) (w : World), listed.size = ops.size → unlN ops.size listed ≤ fuel → I listed a w → wpAny P md ops Q fuel listed a w := by
  have hin : ∀ listed : Array Bool, listed.size = ops.size → Region.ready md ops listed = [] → ∀ i, i < ops.size → listed.getD i false = true := fun listed hs hr i hi => by
    have h1 := hacyc listed hr i hi
    have h2 : i < listed.size := by omega
    simp [h2] at h1 ⊢
    exact h1
  induction fuel with
  | zero =>
    intro listed a w hs hf hI
    have hr : Region.ready md ops listed = [] := by
      rw [List.eq_nil_iff_forall_not_mem]
      intro i hi
      obtain ⟨hun, o, ho, _⟩ := mem_ready.1 hi
      have := unlN_set hun (Array.getElem?_eq_some_iff.1 ho).1
      omega
    exact ⟨hr, hend _ _ _ hI (hin _ hs hr)⟩
  | succ f ih =>
    intro listed a w hs hf hI
    refine ⟨fun hr => hend _ _ _ hI (hin _ hs hr), fun i hi => ?_⟩
    obtain ⟨hun, o, ho, _⟩ := mem_ready.1 hi
    have := unlN_set hun (Array.getElem?_eq_some_iff.1 ho).1
    exact wpOp_mono (fun a' w' h' => ih _ a' w' (by simpa using hs) (by omega) h') (hstep _ _ _ _ hI hi)
/-- each operation waits for such ahead of it alone -/
def upB (ops : Array Oper) : Bool := (List.range ops.size).all fun i => match ops[i]? with
  | some o => o.after.all fun e => decide (e.on < i)
  | none => true
theorem acyc_of (h : upB ops = true) (listed : Array Bool) (hr : Region.ready md ops listed = []) : ∀ i, i < ops.size → listed.getD i true = true := by
  intro i
  induction i using Nat.strongRecOn with
  | _ i ih =>
    intro hi
    cases hl : listed.getD i true with
    | true => rfl
    | false =>
      exfalso
      obtain ⟨o, ho⟩ : ∃ o, ops[i]? = some o := ⟨_, Array.getElem?_eq_getElem hi⟩
      have h1 := List.all_eq_true.1 h i (List.mem_range.2 hi)
      rw [ho] at h1
      simp only at h1
      have hm : i ∈ Region.ready md ops listed := by
        refine mem_ready.2 ⟨hl, o, ho, fun e he _ => ?_⟩
        have h2 := Array.all_eq_true'.1 h1 e he
        have hlt : e.on < i := by simpa using h2
        have h3 := ih e.on hlt (by omega)
        -- listed up to i, as i is not listed
        have hs : i < listed.size := by
          rcases Nat.lt_or_ge i listed.size with h | h
          · exact h
          · simp [Array.getElem?_eq_none h] at hl
        have hs2 : e.on < listed.size := by omega
        simp [hs2] at h3 ⊢
        exact h3
      rw [hr] at hm
      cases hm
theorem wp_region_inv {id : Nat} {a : Act} {w : World} {l : List Oper} (I : Act → Array Bool → Act → World → Prop) (hm : P.follows .mixedOrders = true) (hup : upB l.toArray = true)
    (h0 : I a (Array.replicate l.toArray.size false) a w.drew) (hend : ∀ listed a' w', I a listed a' w' → (∀ i, i < l.toArray.size → listed.getD i false = true) → Q .normal a' w')
    (hstep : ∀ listed a' w' i, I a listed a' w' → i ∈ Region.ready .any l.toArray listed → wpOp P l.toArray Q i (fun a'' w'' => I a (listed.setIfInBounds i true) a'' w'') a' w') : (Code.region id l.toArray true).wp P Q a w := by
  refine wp_region_any hm (wpAny_inv hend (fun listed hr => acyc_of hup listed hr) hstep _ _ _ _ (by simp) ?_ h0)
  unfold unlN
  exact Nat.le_trans List.countP_le_length (by simp)
/-- one operation, what follows behind a variable -/
theorem wpOp_of {i : Nat} {a : Act} {w : World} {o : Oper} {I : Act → World → Prop} (ho : ops[i]? = some o) (h : ∀ K : Act → World → Prop, (∀ a w, I a w → K a w) → if Region.wanted o (yielded ops a.tmps) = true then Oper.wp P o a w K Q else K (a.put o.dst undef) w) : wpOp P ops Q i I a w := by
  have h := h I (fun _ _ h => h)
  unfold wpOp
  rw [ho]
  simp only
  split
  · next hw => rw [if_pos hw] at h; exact .inl h
  · next hw => rw [if_neg hw] at h; exact h
/-- an operation that comes up has behind it what it waits for -/
theorem ready_at {i : Nat} {listed : Array Bool} {o : Oper} (hi : i ∈ Region.ready md ops listed) (ho : ops[i]? = some o) (k : Nat) (hk : o.after.toList.any (fun e => Region.binds md e && e.on == k) = true) : listed.getD k false = true := by
  obtain ⟨_, o', ho', hall⟩ := mem_ready.1 hi
  rw [ho] at ho'
  cases ho'
  obtain ⟨e, he, hb⟩ := List.any_eq_true.1 hk
  simp only [Bool.and_eq_true, beq_iff_eq] at hb
  rw [← hb.2]
  exact hall e (Array.mem_toList_iff.1 he) hb.1
end
end Go.Proofs.YtgkngimeokhhgaaDoor
/- A region of code that draws its order of evaluation, by what each of its values is: whichever operations have come up. Nothing is claimed of the program here. -/
namespace Go.Proofs.YtgkngimeokhhgaaDoor
open Go.RowKit

/-- values, put into the places that operations have -/
def putV (vs : Nat → Value) : Nat → List (Option Tmp) → Act → Act
  | _, [], a => a
  | k, d :: ds, a => putV vs (k + 1) ds (a.put d (vs k))
theorem put_put (a : Act) (d : Option Tmp) (u v : Value) : (a.put d u).put d v = a.put d v := by
  cases d with
  | none => rfl
  | some d => simp [Act.put]
theorem putV_out (vs : Nat → Value) (v : Value) : ∀ (ds : List (Option Tmp)) (k : Nat) (a : Act) (d : Option Tmp), (∀ x, d = some x → some x ∉ ds) → (putV vs k ds a).put d v = putV vs k ds (a.put d v)
  | [], _, _, _, _ => rfl
  | d2 :: ds, k, a, d, h => by
    unfold putV
    rw [putV_out vs v ds (k + 1) _ d (fun x hx hm => h x hx (List.mem_cons_of_mem _ hm))]
    rw [Act.put_comm a (vs k) v (x := d2) (y := d) (fun x hx e => h x e (by rw [hx]; exact List.mem_cons_self))]
theorem putV_same (vs us : Nat → Value) : ∀ (ds : List (Option Tmp)) (k : Nat) (a : Act), (∀ j, k ≤ j → vs j = us j) → putV vs k ds a = putV us k ds a
  | [], _, _, _ => rfl
  | d :: ds, k, a, h => by
    unfold putV
    rw [h k (Nat.le_refl _)]
    exact putV_same vs us ds (k + 1) _ (fun j hj => h j (by omega))
/-- each place once -/
def onceD : List (Option Tmp) → Bool
  | [] => true
  | none :: ds => onceD ds
  | some d :: ds => !(ds.contains (some d)) && onceD ds
theorem putV_at (vs : Nat → Value) (v : Value) : ∀ (ds : List (Option Tmp)) (k i : Nat) (a : Act) (d : Option Tmp), onceD ds = true → ds[i]? = some d → (putV vs k ds a).put d v = putV (fun j => if j = k + i then v else vs j) k ds a
  | [], _, _, _, _, _, h => by simp at h
  | d2 :: ds, k, 0, a, d, ho, h => by
    simp at h
    subst h
    unfold putV
    have hno : ∀ x, d2 = some x → some x ∉ ds := by
      intro x hx hm
      subst hx
      unfold onceD at ho
      simp only [Bool.and_eq_true, Bool.not_eq_true'] at ho
      have := ho.1
      rw [List.contains_iff_mem.2 hm] at this
      cases this
    rw [putV_out _ _ _ _ _ _ hno, put_put]
    simp only [Nat.add_zero, if_true]
    exact putV_same _ _ _ _ _ (fun j hj => by rw [if_neg (by omega)])
  | d2 :: ds, k, i + 1, a, d, ho, h => by
    have ho' : onceD ds = true := by
      cases d2 with
      | none => exact ho
      | some x => unfold onceD at ho; simp only [Bool.and_eq_true] at ho; exact ho.2
    unfold putV
    rw [putV_at vs v ds (k + 1) i _ d ho' (by simpa using h)]
    simp only [show k ≠ k + (i + 1) by omega, if_false]
    exact putV_same _ _ _ _ _ (fun j _ => by rw [show k + 1 + i = k + (i + 1) by omega])
theorem put_own (a : Act) (d : Option Tmp) : a.put d (match d with | some d => a.tmps.getD d undef | none => undef) = a := by
  cases d with
  | none => rfl
  | some d =>
    obtain ⟨t, de⟩ := a
    simp only [Act.put, Act.mk.injEq, and_true]
    apply Array.ext
    · simp
    · intro i h1 h2
      rw [Array.getElem_setIfInBounds]
      split
      · subst_vars; simp [Array.getD, h2]
      · rfl
theorem putV_self (a : Act) : ∀ (ds : List (Option Tmp)) (k : Nat), ∃ vs, putV vs k ds a = a
  | [], _ => ⟨fun _ => undef, rfl⟩
  | d :: ds, k => by
    obtain ⟨vs, h⟩ := putV_self a ds (k + 1)
    refine ⟨fun j => if j = k then (match d with | some d => a.tmps.getD d undef | none => undef) else vs j, ?_⟩
    unfold putV
    simp only [if_true]
    rw [put_own, putV_same _ vs _ _ _ (fun j hj => by rw [if_neg (by omega)]), h]
/-- what a value is: told, or a new list of numbers -/
inductive Vk where
  | fix (u : Value)
  | ints (xs : List Int)
def Vk.ok : Vk → Value → World → Prop
  | .fix u, v, _ => v = u
  | .ints xs, v, w => ∃ A c, v = .slice A xs.length c ∧ Ints w w.heap.size A xs.length xs
theorem Vk.stay (k : Vk) (v : Value) (w1 w2 : World) (hb : Below w1.heap.size w1 w2) (h : k.ok v w1) : k.ok v w2 := by
  cases k with
  | fix u => exact h
  | ints xs =>
    obtain ⟨A, c, rfl, h⟩ := h
    exact ⟨A, c, rfl, (h.below hb).more hb.size⟩
def Vk.at (tab : List Vk) (i : Nat) (v : Value) (w : World) : Prop := match tab[i]? with | some k => k.ok v w | none => True
theorem Vk.at_stay (tab : List Vk) (i : Nat) (v : Value) (w1 w2 : World) (hb : Below w1.heap.size w1 w2) (h : Vk.at tab i v w1) : Vk.at tab i v w2 := by
  unfold Vk.at at *
  cases hk : tab[i]? with
  | none => trivial
  | some k => rw [hk] at h; exact k.stay v w1 w2 hb h
section
variable {P : Program} {Q : Exit → Act → World → Prop} {a : Act} {w : World} {l : List Oper}
/-- a region whose operations read, and call what lays new blocks at most: each value is as it is told, whichever come first -/
theorem wp_region_vals {id : Nat} (R : Nat → Value → World → Prop) (hm : P.follows .mixedOrders = true) (hup : upB l.toArray = true) (ho : onceD (l.map (·.dst)) = true)
    (hR : ∀ i v w1 w2, Below w1.heap.size w1 w2 → R i v w1 → R i v w2)
    (hstep : ∀ i o, l[i]? = some o → ∀ vs w', Below w.heap.size w w' → (∀ k, o.after.toList.any (fun e => Region.binds .any e && e.on == k) = true → R k (vs k) w') → ∀ K : Act → World → Prop, (∀ a'' v w'', a'' = (putV vs 0 (l.map (·.dst)) a).put o.dst v → Below w'.heap.size w' w'' → R i v w'' → K a'' w'') →
      if Region.wanted o (yielded l.toArray (putV vs 0 (l.map (·.dst)) a).tmps) = true then Oper.wp P o (putV vs 0 (l.map (·.dst)) a) w' K Q else K ((putV vs 0 (l.map (·.dst)) a).put o.dst undef) w')
    (hend : ∀ vs w', Below w.heap.size w w' → (∀ i, i < l.length → R i (vs i) w') → Q .normal (putV vs 0 (l.map (·.dst)) a) w') : (Code.region id l.toArray true).wp P Q a w := by
  refine wp_region_inv (fun a0 L a' w' => ∃ vs, a' = putV vs 0 (l.map (·.dst)) a0 ∧ Below w.heap.size w w' ∧ ∀ k, k < l.length → L.getD k false = true → R k (vs k) w') hm hup ?_ ?_ ?_
  · obtain ⟨vs, h⟩ := putV_self a (l.map (·.dst)) 0
    refine ⟨vs, h.symm, (Below.refl _ _).drew, fun k hk h1 => ?_⟩
    rw [show (Array.replicate l.toArray.size false).getD k false = false by unfold Array.getD; split <;> simp] at h1
    cases h1
  · rintro L a' w' ⟨vs, rfl, hb, hl⟩ hall
    exact hend vs w' hb (fun i hi => hl i hi (hall i (by simpa using hi)))
  · rintro L a' w' i ⟨vs, rfl, hb, hl⟩ hi
    obtain ⟨hun, o, ho1, _⟩ := mem_ready.1 hi
    have ho2 : l[i]? = some o := by simpa using ho1
    have hlt : i < l.length := (List.getElem?_eq_some_iff.1 ho2).1
    refine wpOp_of ho1 (fun K hK => hstep i o ho2 vs w' hb (fun k hk => ?_) K ?_)
    · have hon := ready_at hi ho1 k hk
      have hk2 : k < i := by
        have h1 := List.all_eq_true.1 hup i (List.mem_range.2 (by simpa using hlt))
        rw [ho1] at h1
        simp only at h1
        obtain ⟨e, he, hb2⟩ := List.any_eq_true.1 hk
        simp only [Bool.and_eq_true, beq_iff_eq] at hb2
        have h2 := Array.all_eq_true'.1 h1 e (Array.mem_toList_iff.1 he)
        rw [← hb2.2]
        simpa using h2
      exact hl k (by omega) hon
    · intro a'' v w'' e hb2 hr
      refine hK _ _ ⟨fun j => if j = 0 + i then v else vs j, ?_, hb.trans (hb2.mono hb.size), fun k hk h1 => ?_⟩
      · rw [e]
        exact putV_at vs v _ 0 i a o.dst ho (by rw [List.getElem?_map, ho2]; rfl)
      · by_cases hki : k = i
        · subst hki
          simp only [Nat.zero_add, if_true]
          exact hr
        · simp only [Nat.zero_add, hki, if_false]
          refine hR _ _ _ _ hb2 (hl k hk ?_)
          rwa [getD_set_ne false (Ne.symm hki)] at h1
end
end Go.Proofs.YtgkngimeokhhgaaDoor
/- A region of code that draws its order of evaluation, by what its values are, together with what lies in memory. Nothing is claimed of the program here. -/
namespace Go.Proofs.YtgkngimeokhhgaaDoor
open Go.RowKit

section
variable {P : Program} {Q : Exit → Act → World → Prop} {a : Act} {w : World} {l : List Oper}
/-- each operation waits for such ahead of it alone, where it waits in every mode -/
def upC (ops : Array Oper) : Bool := (List.range ops.size).all fun i => match ops[i]? with
  | some o => o.after.all fun e => !Region.binds .any e || decide (e.on < i)
  | none => true
theorem acyc_ofC {ops : Array Oper} (h : upC ops = true) (listed : Array Bool) (hr : Region.ready .any ops listed = []) : ∀ i, i < ops.size → listed.getD i true = true := by
  intro i
  induction i using Nat.strongRecOn with
  | _ i ih =>
    intro hi
    cases hl : listed.getD i true with
    | true => rfl
    | false =>
      exfalso
      obtain ⟨o, ho⟩ : ∃ o, ops[i]? = some o := ⟨_, Array.getElem?_eq_getElem hi⟩
      have h1 := List.all_eq_true.1 h i (List.mem_range.2 hi)
      rw [ho] at h1
      simp only at h1
      have hm : i ∈ Region.ready .any ops listed := by
        refine mem_ready.2 ⟨hl, o, ho, fun e he hbd => ?_⟩
        have h2 := Array.all_eq_true'.1 h1 e he
        have hlt : e.on < i := by
          rw [hbd] at h2
          simpa using h2
        have h3 := ih e.on hlt (by omega)
        have hs : i < listed.size := by
          rcases Nat.lt_or_ge i listed.size with h | h
          · exact h
          · simp [Array.getElem?_eq_none h] at hl
        have hs2 : e.on < listed.size := by omega
        simp [hs2] at h3 ⊢
        exact h3
      rw [hr] at hm
      cases hm
theorem wp_region_invC {id : Nat} (I : Act → Array Bool → Act → World → Prop) (hm : P.follows .mixedOrders = true) (hup : upC l.toArray = true)
    (h0 : I a (Array.replicate l.toArray.size false) a w.drew) (hend : ∀ listed a' w', I a listed a' w' → (∀ i, i < l.toArray.size → listed.getD i false = true) → Q .normal a' w')
    (hstep : ∀ listed a' w' i, I a listed a' w' → i ∈ Region.ready .any l.toArray listed → wpOp P l.toArray Q i (fun a'' w'' => I a (listed.setIfInBounds i true) a'' w'') a' w') : (Code.region id l.toArray true).wp P Q a w := by
  refine wp_region_any hm (wpAny_inv hend (fun listed hr => acyc_ofC hup listed hr) hstep _ _ _ _ (by simp) ?_ h0)
  unfold unlN
  exact Nat.le_trans List.countP_le_length (by simp)
/-- J D vs w: what holds of the values vs and the world, where D says which operations have come up -/
theorem wp_region_joint {id : Nat} (J : (Nat → Bool) → (Nat → Value) → World → Prop) (hm : P.follows .mixedOrders = true) (hup : upC l.toArray = true) (ho : onceD (l.map (·.dst)) = true)
    (h0 : ∀ D vs, (∀ i, i < l.length → D i = false) → J D vs w.drew)
    (hstep : ∀ i o, l[i]? = some o → ∀ D vs w', J D vs w' → D i = false → (∀ k, o.after.toList.any (fun e => Region.binds .any e && e.on == k) = true → D k = true) →
      ∀ K : Act → World → Prop, (∀ a'' v w'' D', a'' = (putV vs 0 (l.map (·.dst)) a).put o.dst v → (∀ j, j ≠ i → D' j = D j) → D' i = true → J D' (fun j => if j = i then v else vs j) w'' → K a'' w'') →
      if Region.wanted o (yielded l.toArray (putV vs 0 (l.map (·.dst)) a).tmps) = true then Oper.wp P o (putV vs 0 (l.map (·.dst)) a) w' K Q else K ((putV vs 0 (l.map (·.dst)) a).put o.dst undef) w')
    (hend : ∀ D vs w', J D vs w' → (∀ i, i < l.length → D i = true) → Q .normal (putV vs 0 (l.map (·.dst)) a) w')
    (hJ : ∀ D D' vs w', (∀ i, i < l.length → D i = D' i) → J D vs w' → J D' vs w') : (Code.region id l.toArray true).wp P Q a w := by
  refine wp_region_invC (fun a0 L a' w' => ∃ vs, a' = putV vs 0 (l.map (·.dst)) a0 ∧ J (fun k => L.getD k false) vs w' ∧ L.size = l.length) hm hup ?_ ?_ ?_
  · obtain ⟨vs, h⟩ := putV_self a (l.map (·.dst)) 0
    refine ⟨vs, h.symm, h0 _ vs fun i _ => ?_, by simp⟩
    show (Array.replicate l.toArray.size false).getD i false = false
    unfold Array.getD
    split <;> simp
  · rintro L a' w' ⟨vs, rfl, hj, _⟩ hall
    exact hend _ vs w' hj (fun i hi => hall i (by simpa using hi))
  · rintro L a' w' i ⟨vs, rfl, hj, hsz⟩ hi
    obtain ⟨hun, o, ho1, _⟩ := mem_ready.1 hi
    have ho2 : l[i]? = some o := by simpa using ho1
    have hlt : i < l.length := (List.getElem?_eq_some_iff.1 ho2).1
    have hD : L.getD i false = false := by
      have h2 : i < L.size := by omega
      simp [h2] at hun ⊢
      exact hun
    refine wpOp_of ho1 (fun K hK => hstep i o ho2 _ vs w' hj hD (fun k hk => ready_at hi ho1 k hk) K ?_)
    intro a'' v w'' D' e hD1 hD2 hr
    refine hK _ _ ⟨fun j => if j = 0 + i then v else vs j, ?_, ?_, by simp [hsz]⟩
    · rw [e]
      exact putV_at vs v _ 0 i a o.dst ho (by rw [List.getElem?_map, ho2]; rfl)
    · simp only [Nat.zero_add]
      refine hJ D' _ _ _ (fun j hj => ?_) hr
      by_cases hji : j = i
      · subst hji
        rw [hD2]
        have h2 : j < L.size := by omega
        simp [h2]
      · rw [hD1 j hji, getD_set_ne false (Ne.symm hji)]
end
end Go.Proofs.YtgkngimeokhhgaaDoor
/- A number more in an array, in a region that draws its order. -/
namespace Go.Proofs.YtgkngimeokhhgaaDoor
open Go.RowKit Go.Sort

theorem MsW.size_ {w : World} {base gR gA : Nat} {s : Ms} {rs : List RowU} (h : MsW w base gR gA s rs) : base ≤ w.heap.size := by have := h.R.ltL; omega
theorem ints_lit {w : World} {g : Nat} {v : Int} {t : TypeId} (h : w.heap[g]? = some (.cells #[.int .i64 v] t (0, 0))) (hv : I64 v) : Ints w (g + 1) (some ⟨g, 0, none⟩) 1 [v] := by
  refine ⟨rfl, fun x hx => by rw [List.mem_singleton.1 hx]; exact hv, fun _ => ⟨g, 0, rfl, by omega, fun k x hx => ?_⟩⟩
  rw [Nat.zero_add, cell_of_row w g k _ _ (0, 0) h]
  match k, hx with
  | 0, hx => simp at hx; subst hx; rfl
  | k + 1, hx => simp at hx
theorem step_appendWhereU {P : Program} {ops : Array Oper} {o : Oper} {a : Act} {w : World} {K : Act → World → Prop} {Q : Exit → Act → World → Prop} {E : Prop}
    (hg : o.guard = none) (s x : Operand) (t : TypeId) (hop : o.op = Op.call { callee := Callee.builtin Builtin.append, args := #[s, x], argTypes := #[t, t] })
    (base : Nat) (e : TypeId) (i : TypeInfo) (ht : P.underlying t = some (.slice e)) (hi : P.info? e = some i) (hz : i.zero = some (.int .i64 0)) (h1 : i.size = 1) (h2 : i.bytes = 8)
    (A A2 : Option Addr) (c m c2 B p r : Nat) (xs ys : List Int) (hs : a.eval s = .slice A p c) (hx : a.eval x = .slice A2 m c2) (ho : OwnI w base e A c xs) (hp : xs.length = p) (hr : p + m = r) (hi2 : Ints w B A2 m ys) (hl : r ≤ 1000000) (hb : base ≤ w.heap.size)
    (hK : ∀ A' c' w', OwnI w' base e A' c' (xs ++ ys) → w.grownBy w' (Value.slice A p c).ownBlock → (∀ g, A' = some ⟨g, 0, none⟩ → A = some ⟨g, 0, none⟩ ∨ w.heap.size ≤ g) → K (a.put o.dst (.slice A' r c')) w') :
    if Region.wanted o (yielded ops a.tmps) = true then Oper.wp P o a w K Q else E := by
  have hw : Region.wanted o (yielded ops a.tmps) = true := by simp [Region.wanted, hg]
  rw [if_pos hw]
  subst hp
  subst hr
  obtain ⟨A', c', w', hrun, ho', hb'⟩ := run_appendInts (P := P) w base t o.type e i ht hi hz h1 h2 A A2 c m c2 B xs ys ho hi2 hl hb
  have hwh := append_where (P := P) w base t o.type e i ht hi hz h1 h2 A A2 c m c2 B xs ys ho hi2 hl hrun
  unfold Oper.wp
  simp [execOp, hop, resolve, invoke, builtin, hs, hx, hrun, Result.andThen]
  exact hK _ _ _ ho' hb' hwh
structure PuJ (W2 : World) (base gR gA i m : Nat) (T : Ms) (rs : List RowU) (r : RowU) (v : Int) (F : Nat → Value) (D : Nat → Bool) (vs : Nat → Value) (w' : World) : Prop where
  keep : KeepU base W2 w'
  vals : ∀ o, o < 20 → o ≠ 16 → o ≠ 17 → o ≠ 19 → D o = true → vs o = F o
  lit : D 16 = true → ∃ g, vs 16 = .slice (some ⟨g, 0, none⟩) 1 1 ∧ W2.heap.size ≤ g ∧ (D 17 = false → w'.heap[g]? = some (.cells #[.int .i64 v] 2 (0, 0)))
  pre : D 17 = false → Below W2.heap.size W2 w'
  app_ : D 17 = true → D 19 = false → ∃ Wb A8 c8, vs 17 = .slice A8 (m + 1) c8 ∧ MsW Wb base gR gA T rs ∧ OwnI w' base 2 A8 c8 (r.L ++ [v]) ∧ Wb.grownBy w' (Value.slice r.A m r.c).ownBlock ∧ (∀ b, A8 = some ⟨b, 0, none⟩ → r.A = some ⟨b, 0, none⟩ ∨ Wb.heap.size ≤ b)
  o17 : D 17 = true → D 9 = true ∧ D 16 = true
  o16 : D 16 = true → D 15 = true
  fin : D 19 = true → D 17 = true ∧ ∃ A8 c8, MsW w' base gR gA { T.arr (i : Int) (T.a (i : Int) ++ [v]) with ce := T.ce + 1 } (rs.set i ⟨A8, c8, r.L ++ [v]⟩)
section
variable {W2 w' w'' : World} {base gR gA i m : Nat} {T : Ms} {rs : List RowU} {r : RowU} {v : Int} {F : Nat → Value} {D D' : Nat → Bool} {vs : Nat → Value}
theorem PuJ.done (h : PuJ W2 base gR gA i m T rs r v F D vs w') (hd : D 19 = true) : ∃ A8 c8, MsW w' base gR gA { T.arr (i : Int) (T.a (i : Int) ++ [v]) with ce := T.ce + 1 } (rs.set i ⟨A8, c8, r.L ++ [v]⟩) := (h.fin hd).2
theorem PuJ.not17 (h : PuJ W2 base gR gA i m T rs r v F D vs w') (hd : D 9 = false ∨ D 15 = false) : D 17 = false := by
  cases e : D 17 with
  | false => rfl
  | true =>
    obtain ⟨h9, h16⟩ := h.o17 e
    have h15 := h.o16 h16
    rcases hd with hd | hd
    · rw [h9] at hd; cases hd
    · rw [h15] at hd; cases hd
theorem PuJ.other (h : PuJ W2 base gR gA i m T rs r v F D vs w') {o : Nat} (ho : o ≠ 16 ∧ o ≠ 17 ∧ o ≠ 19) (hD : ∀ q, q ≠ o → D' q = D q) (hDo : D' o = true) : PuJ W2 base gR gA i m T rs r v F D' (fun j => if j = o then F o else vs j) w' := by
  obtain ⟨h16, h17, h19⟩ := ho
  have up : ∀ q, D q = true → D' q = true := fun q hq => by
    by_cases e : q = o
    · rw [e]; exact hDo
    · rw [hD q e]; exact hq
  refine ⟨h.keep, fun q hq q6 q7 q9 hd => ?_, ?_, ?_, ?_, ?_, ?_, ?_⟩
  · by_cases e : q = o
    · subst e; exact if_pos rfl
    · show (if q = o then F o else vs q) = _
      rw [if_neg e]
      exact h.vals q hq q6 q7 q9 (by rw [← hD q e]; exact hd)
  · rw [hD 16 h16.symm, hD 17 h17.symm, if_neg h16.symm]; exact h.lit
  · rw [hD 17 h17.symm]; exact h.pre
  · rw [hD 17 h17.symm, hD 19 h19.symm, if_neg h17.symm]; exact h.app_
  · rw [hD 17 h17.symm]
    exact fun e => ⟨up 9 (h.o17 e).1, up 16 (h.o17 e).2⟩
  · rw [hD 16 h16.symm]
    exact fun e => up 15 (h.o16 e)
  · rw [hD 19 h19.symm]
    exact fun e => ⟨up 17 (h.fin e).1, (h.fin e).2⟩
theorem PuJ.lay (h : PuJ W2 base gR gA i m T rs r v F D vs w') (hDi : D 16 = false) (h15 : D 15 = true) (hD : ∀ q, q ≠ 16 → D' q = D q) (hB : base ≤ w'.heap.size) : PuJ W2 base gR gA i m T rs r v F D' (fun j => if j = 16 then .slice (some ⟨w'.heap.size, 0, none⟩) 1 1 else vs j) (w'.alloc (.cells #[.int .i64 v] 2)) := by
  have hb : Below w'.heap.size w' (w'.alloc (.cells #[.int .i64 v] 2)) := lvBelow _ _
  have d17 : D 17 = false := by
    cases e : D 17 with
    | false => rfl
    | true => rw [(h.o17 e).2] at hDi; cases hDi
  have d19 : D 19 = false := by
    cases e : D 19 with
    | false => rfl
    | true => rw [(h.fin e).1] at d17; cases d17
  have hp := h.pre d17
  refine ⟨h.keep.trans (KeepU.of_below hb hB), fun q hq q6 q7 q9 hd => ?_, fun _ => ⟨_, if_pos rfl, hp.size, fun _ => heap_alloc_new w' _⟩, fun _ => hp.trans (hb.mono hp.size), fun e => ?_, fun e => ?_, fun _ => ?_, fun e => ?_⟩
  · show (if q = 16 then _ else vs q) = _
    rw [if_neg q6]
    exact h.vals q hq q6 q7 q9 (by rw [← hD q q6]; exact hd)
  · rw [hD 17 (by decide), d17] at e; cases e
  · rw [hD 17 (by decide), d17] at e; cases e
  · rw [hD 15 (by decide)]; exact h15
  · rw [hD 19 (by decide), d19] at e; cases e
theorem PuJ.app (h : PuJ W2 base gR gA i m T rs r v F D vs w') (hDi : D 17 = false) (h9 : D 9 = true) (h16 : D 16 = true) {A8 : Option Addr} {c8 : Nat} (hM : MsW w' base gR gA T rs) (hO : OwnI w'' base 2 A8 c8 (r.L ++ [v])) (hG : w'.grownBy w'' (Value.slice r.A m r.c).ownBlock) (hA : ∀ b, A8 = some ⟨b, 0, none⟩ → r.A = some ⟨b, 0, none⟩ ∨ w'.heap.size ≤ b) (hr : rs[i]? = some r) (hm : r.L.length = m) (hD : ∀ q, q ≠ 17 → D' q = D q) (hDs : D' 17 = true) :
    PuJ W2 base gR gA i m T rs r v F D' (fun j => if j = 17 then .slice A8 (m + 1) c8 else vs j) w'' := by
  have d19 : D 19 = false := by
    cases e : D 19 with
    | false => rfl
    | true => rw [(h.fin e).1] at hDi; cases hDi
  have hrO := hM.A.ins r (List.mem_of_getElem? hr)
  have hown : ∀ b, (Value.slice r.A m r.c).ownBlock = some b → base ≤ b ∧ ∃ cs, w'.heap[b]? = some (.cells cs 2 (0, 0)) := by
    subst hm
    intro b hb
    rcases hrO.1.2 with ⟨h1, _⟩ | ⟨g', cap, cur2, h1, h2, h3, _⟩
    · rw [h1] at hb; cases hb
    · rw [h1] at hb
      simp only [Value.ownBlock, Option.some.injEq] at hb
      subst hb
      exact ⟨h2, cur2, h3⟩
  have hk : KeepU base w' w'' := ⟨(Below.refl base w').grown hG hM.size_ fun b hb => (hown b hb).1, fun b cs t hb h1 _ => (hG.block b (lt_of_heap hb) (fun e => by
    obtain ⟨_, cs2, h3⟩ := hown b e.symm
    rw [hb] at h3
    injection h3 with h3; injection h3 with _ h3
    exact h1 h3)).trans hb⟩
  refine ⟨h.keep.trans hk, fun q hq q6 q7 q9 hd => ?_, fun e => ?_, fun e => ?_, fun _ _ => ⟨w', A8, c8, if_pos rfl, hM, hO, hG, hA⟩, fun _ => ?_, fun e => ?_, fun e => ?_⟩
  · show (if q = 17 then _ else vs q) = _
    rw [if_neg q7]
    exact h.vals q hq q6 q7 q9 (by rw [← hD q q7]; exact hd)
  · obtain ⟨g, a1, a2, _⟩ := h.lit h16
    exact ⟨g, by rw [if_neg (by decide)]; exact a1, a2, fun e2 => by rw [hDs] at e2; cases e2⟩
  · rw [hDs] at e; cases e
  · rw [hD 9 (by decide), hD 16 (by decide)]; exact ⟨h9, h16⟩
  · rw [hD 16 (by decide)] at e
    rw [hD 15 (by decide)]; exact h.o16 e
  · rw [hD 19 (by decide), d19] at e; cases e
theorem PuJ.ready (h : PuJ W2 base gR gA i m T rs r v F D vs w') (h17 : D 17 = true) (hDi : D 19 = false) (hr : rs[i]? = some r) (hm : r.L.length = m) :
    ∃ A8 c8, vs 17 = .slice A8 (m + 1) c8 ∧ w'.cell? ⟨gA, i, none⟩ = some (.slice r.A r.L.length r.c) ∧ w'.frozen? ⟨gA, i, none⟩ = false ∧
      ∀ (D' : Nat → Bool) (u : Value), (∀ q, q ≠ 19 → D' q = D q) → D' 19 = true → PuJ W2 base gR gA i m T rs r v F D' (fun j => if j = 19 then u else vs j) (w'.setCell ⟨gA, i, none⟩ (.slice A8 (m + 1) c8)) := by
  obtain ⟨Wb, A8, c8, e17, hM, hO, hG, hA⟩ := h.app_ h17 hDi
  obtain ⟨p1, p2, p3, p4⟩ := hM.push hr hm hO hG hA
  obtain ⟨hbg, cur, hg⟩ := hM.A.heap
  have hrO := hM.A.ins r (List.mem_of_getElem? hr)
  have hne : some gA ≠ (Value.slice r.A m r.c).ownBlock := by
    subst hm
    intro e
    rcases hrO.1.2 with ⟨h1, _⟩ | ⟨g', cap, cur2, h1, _, h3, _⟩
    · rw [h1] at e; cases e
    · rw [h1] at e
      simp only [Value.ownBlock, Option.some.injEq] at e
      subst e
      rw [hg] at h3
      injection h3 with h3; injection h3 with _ h3
      exact absurd h3 (by decide)
  have hg4 : w'.heap[gA]? = some (.cells cur 50 (0, 0)) := (hG.block gA (lt_of_heap hg) hne).trans hg
  refine ⟨A8, c8, e17, p3, p4, fun D' u hD hDs => ⟨h.keep.trans ⟨(Below.refl base w').setCell (p := ⟨gA, i, none⟩) hbg _, fun b cs t hb h1 h2 => ?_⟩, fun q hq q6 q7 q9 hd => ?_, fun e => ?_, fun e => ?_, fun _ e => ?_, fun _ => ?_, fun e => ?_, fun _ => ⟨?_, A8, c8, p1⟩⟩⟩
  · refine (heap_setCell_other w' _ b _ (fun e => ?_)).trans hb
    have e : b = gA := e
    subst e
    rw [hg4] at hb
    injection hb with hb; injection hb with _ hb
    exact h2 hb.symm
  · show (if q = 19 then u else vs q) = _
    rw [if_neg q9]
    exact h.vals q hq q6 q7 q9 (by rw [← hD q q9]; exact hd)
  · rw [hD 16 (by decide)] at e
    obtain ⟨g, a1, a2, _⟩ := h.lit e
    exact ⟨g, by rw [if_neg (by decide)]; exact a1, a2, fun e2 => by rw [hD 17 (by decide), h17] at e2; cases e2⟩
  · rw [hD 17 (by decide), h17] at e; cases e
  · rw [hDs] at e; cases e
  · rw [hD 9 (by decide), hD 16 (by decide)]; exact h.o17 h17
  · rw [hD 16 (by decide)] at e
    rw [hD 15 (by decide)]; exact h.o16 e
  · rw [hD 17 (by decide)]; exact h17
theorem PuJ.same (h : PuJ W2 base gR gA i m T rs r v F D vs w') (hD : ∀ q, q < 20 → D q = D' q) : PuJ W2 base gR gA i m T rs r v F D' vs w' := by
  have e9 := hD 9 (by decide); have e15 := hD 15 (by decide); have e16 := hD 16 (by decide); have e17 := hD 17 (by decide); have e19 := hD 19 (by decide)
  refine ⟨h.keep, fun q hq q6 q7 q9 hd => h.vals q hq q6 q7 q9 (by rw [hD q hq]; exact hd), ?_, ?_, ?_, ?_, ?_, ?_⟩
  · rw [← e16, ← e17]; exact h.lit
  · rw [← e17]; exact h.pre
  · rw [← e17, ← e19]; exact h.app_
  · rw [← e17, ← e9, ← e16]; exact h.o17
  · rw [← e16, ← e15]; exact h.o16
  · rw [← e19, ← e17]; exact h.fin
end
end Go.Proofs.YtgkngimeokhhgaaDoor
