/- Arrays of marks, whole: as they lie in memory, alone and as rows of a greater block. -/
import Derived.Test.YtgkngimeokhhgaaGreatDoorG18
import Derived.Deep.MidRow
import Derived.Test.YtgkngimeokhhgaaGreatDoorG6
import Derived.Test.YtgkngimeokhhgaaGreatDoorG4
import Derived.Test.YtgkngimeokhhgaaGreatDoorG14
import Derived.ChangeKeysEq
namespace Go.Proofs.YtgkngimeokhhgaaGreatDoor
open Go.RowKit

/-- marks as an array's cells -/
def arA (r : List Bool) : Array Value := (r.map Value.bool).toArray
theorem arA_size (r : List Bool) : (arA r).size = r.length := by unfold arA; simp
theorem arA_list (r : List Bool) : (arA r).toList = r.map Value.bool := by unfold arA; simp
theorem arA_one (r : List Bool) : (arA r).all (·.oneCell') = true := by
  unfold arA
  exact all_oneCell_toArray fun v hv => by obtain ⟨b, _, rfl⟩ := List.mem_map.1 hv; rfl
theorem arA_at {r : List Bool} {n : Nat} {v : Bool} (h : r[n]? = some v) : (arA r)[n]? = some (.bool v) := by unfold arA; simp [h]
theorem arA_set (r : List Bool) (n : Nat) (v : Bool) : (arA r).setIfInBounds n (.bool v) = arA (r.set n v) := by
  unfold arA
  rw [List.map_set]
  simp
set_option maxRecDepth 100000 in
theorem info8 : (Tryz.prog.info? 116).map (·.size) = some 128 := by kernel_rfl
set_option maxRecDepth 100000 in
theorem under8 : Tryz.prog.underlying 116 = some (.array 128 4) := by kernel_rfl
/-- an array in a block of its own -/
def ArB (w : World) (g : Nat) (r : List Bool) : Prop := w.heap[g]? = some (.cells (arA r) 116 (0, 0))
theorem ArB.at_ {w : World} {g i : Nat} {r : List Bool} {v : Bool} (h : ArB w g r) (hv : r[i]? = some v) : w.cell? ⟨g, i, none⟩ = some (.bool v) ∧ w.frozen? ⟨g, i, none⟩ = false := by
  unfold ArB at h
  exact ⟨by rw [cell_of_row w g i _ _ (0, 0) h]; exact arA_at hv, frozen_of_row w g i _ _ h⟩
theorem ArB.set {w : World} {g : Nat} {r : List Bool} (h : ArB w g r) (i : Nat) (v : Bool) : ArB (w.setCell ⟨g, i, none⟩ (.bool v)) g (r.set i v) := by
  unfold ArB at *
  rw [heap_setCell_same w g i _ _ _ h, arA_set]
theorem ArB.new (w : World) (r : List Bool) : ArB (w.alloc (.cells (arA r) 116)) w.heap.size r := heap_alloc_new w _
theorem ArB.range {w : World} {g : Nat} {r : List Bool} (h : ArB w g r) : w.rangeAt g 0 (r.map Value.bool) := fun j v hv => by
  rw [Nat.zero_add, cell_of_row w g j _ _ (0, 0) h]
  unfold arA
  simpa using hv
/-- rows of arrays in one block -/
def RwB (w : World) (g : Nat) (rows : List (List Bool)) : Prop := w.heap[g]? = some (.cells (arA rows.flatten) 116 (0, 0))
theorem flat_at : ∀ (rows : List (List Bool)) (k j : Nat) (r : List Bool), (∀ s ∈ rows, s.length = 128) → rows[k]? = some r → j < 128 → rows.flatten[k * 128 + j]? = r[j]?
  | [], _, _, _, _, h, _ => by simp at h
  | s :: rows, 0, j, r, hl, h, hj => by
    simp only [List.getElem?_cons_zero, Option.some.injEq] at h
    subst h
    have := hl s (List.mem_cons_self ..)
    rw [List.flatten_cons, Nat.zero_mul, Nat.zero_add, List.getElem?_append_left (by omega)]
  | s :: rows, k + 1, j, r, hl, h, hj => by
    have := hl s (List.mem_cons_self ..)
    rw [List.flatten_cons, List.getElem?_append_right (by omega), show (k + 1) * 128 + j - s.length = k * 128 + j by omega]
    exact flat_at rows k j r (fun t ht => hl t (List.mem_cons_of_mem _ ht)) (by simpa using h) hj
theorem flat_len : ∀ (rows : List (List Bool)), (∀ s ∈ rows, s.length = 128) → rows.flatten.length = rows.length * 128
  | [], _ => rfl
  | s :: rows, hl => by
    rw [List.flatten_cons, List.length_append, List.length_cons, flat_len rows (fun t ht => hl t (List.mem_cons_of_mem _ ht)), hl s (List.mem_cons_self ..)]
    omega
theorem RwB.cell {w : World} {g k j : Nat} {rows : List (List Bool)} {r : List Bool} {v : Bool} (h : RwB w g rows) (hl : ∀ s ∈ rows, s.length = 128) (hr : rows[k]? = some r) (hv : r[j]? = some v) : w.cell? ⟨g, k * 128 + j, none⟩ = some (.bool v) := by
  have hj : j < 128 := by
    have h1 := (List.getElem?_eq_some_iff.1 hv).1
    rw [hl r (List.mem_of_getElem? hr)] at h1; exact h1
  rw [cell_of_row w g _ _ _ (0, 0) h]
  exact arA_at (by rw [flat_at rows k j r hl hr hj, hv])
theorem RwB.range {w : World} {g k : Nat} {rows : List (List Bool)} {r : List Bool} (h : RwB w g rows) (hl : ∀ s ∈ rows, s.length = 128) (hr : rows[k]? = some r) : w.rangeAt g (k * 128) (r.map Value.bool) := fun j v hv => by
  rw [List.getElem?_map] at hv
  cases hb : r[j]? with
  | none => rw [hb] at hv; cases hv
  | some b =>
    rw [hb] at hv
    injection hv with hv
    subst hv
    exact h.cell hl hr hb
theorem flat_splice : ∀ (rows : List (List Bool)) (k : Nat) (t : List Bool), (∀ s ∈ rows, s.length = 128) → t.length = 128 → k < rows.length → (rows.set k t).flatten = rows.flatten.take (k * 128) ++ t ++ rows.flatten.drop (k * 128 + 128)
  | [], _, _, _, _, h => by simp at h
  | s :: rows, 0, t, hl, ht, _ => by
    have h := hl s (List.mem_cons_self ..)
    rw [List.set_cons_zero, List.flatten_cons, List.flatten_cons, Nat.zero_mul, List.take_zero, List.nil_append, Nat.zero_add]
    congr 1
    rw [← h, List.drop_left]
  | s :: rows, k + 1, t, hl, ht, hk => by
    have h := hl s (List.mem_cons_self ..)
    rw [List.set_cons_succ, List.flatten_cons, List.flatten_cons, flat_splice rows k t (fun u hu => hl u (List.mem_cons_of_mem _ hu)) ht (by simpa using hk)]
    rw [show (k + 1) * 128 = s.length + k * 128 by omega, List.take_length_add_append, show s.length + k * 128 + 128 = s.length + (k * 128 + 128) by omega, List.drop_length_add_append]
    simp
/-- the world with a row stored -/
def rowPut (w : World) (g : Nat) (rows : List (List Bool)) : World := w.setRow g (arA rows.flatten)
theorem RwB.store {w : World} {g k : Nat} {rows : List (List Bool)} {t : List Bool} (h : RwB w g rows) (hl : ∀ s ∈ rows, s.length = 128) (ht : t.length = 128) (hk : k < rows.length) :
    (storeCells ⟨g, k * 128, none⟩ (arA t).toList 0).run Tryz.prog w = .ok () (rowPut w g (rows.set k t)) := by
  have hf := flat_len rows hl
  have h1 := run_storeCells_at Tryz.prog g (k * 128) 116 (arA t).toList 0 (arA rows.flatten) w h (by
    rw [arA_list, List.length_map, arA_size, hf]
    have : k * 128 + 128 ≤ rows.length * 128 := by omega
    omega) (fun v hv => by
      rw [arA_list] at hv
      obtain ⟨b, _, rfl⟩ := List.mem_map.1 hv; rfl)
  rw [h1]
  unfold rowPut
  congr 2
  rw [arA_list, arA_list, flat_splice rows k t hl ht hk]
  unfold arA
  rw [List.map_append, List.map_append, List.map_take, List.map_drop, List.length_map, ht, Nat.add_zero]
theorem rowPut_rows {w : World} {g : Nat} {rows : List (List Bool)} (h : RwB w g rows) (rows2 : List (List Bool)) : RwB (rowPut w g rows2) g rows2 := setRow_heap w g _ _ _ _ h
theorem rowPut_other (w : World) {g k : Nat} (rows2 : List (List Bool)) (h : k ≠ g) : (rowPut w g rows2).heap[k]? = w.heap[k]? := setRow_other w g k _ h
end Go.Proofs.YtgkngimeokhhgaaGreatDoor
/- The program's parts of an instruction, and those of a kind. -/
namespace Go.Proofs.YtgkngimeokhhgaaGreatDoor
open Go Go.RowKit

/-- an instruction's parts -/
def Ji.p (x : Ji) : List Int := [x.a, x.b, x.c, x.n]
abbrev partsV (x : Ji) : Value := .agg #[.int .i64 x.a, .int .i64 x.b, .int .i64 x.c, .int .i64 x.n]
abbrev zeroP : Obj := .cells #[.int .i64 0, .int .i64 0, .int .i64 0, .int .i64 0] 81
set_option maxRecDepth 100000 in
theorem parts_any (x : Ji) (w : World) : Calls Tryz.prog 69 #[x.val] w fun e w' => e = .returned (partsV x) ∧ Below w.heap.size w w' := by
  have hb1 := ((Below.refl w.heap.size w).alloc (Nat.le_refl _) x.obj).alloc (by simp) zeroP
  obtain ⟨W0, hW0⟩ : ∃ W, (w.alloc x.obj).alloc zeroP = W := ⟨_, rfl⟩
  have HB0 : Hid (Below w.heap.size w W0) := by rw [← hW0]; exact hb1
  have hX : W0.heap[w.heap.size]? = some x.obj := by rw [← hW0]; exact pastJ _ (heap_alloc_new w _)
  have HR : Hid (W0.heap[w.heap.size + 1]? = some (.cells #[.int .i64 0, .int .i64 0, .int .i64 0, .int .i64 0] 81 (0, 0))) := by
    rw [← hW0]
    have h := heap_alloc_new (w.alloc x.obj) zeroP
    rwa [World.size_alloc] at h
  obtain ⟨⟨k0, k1, k2, k3, k4⟩, kf⟩ := box_cellsJ hX
  obtain ⟨r0, r1, r2, r3, rf0, rf1, rf2, rf3⟩ := lvCells HR.out
  have hd : Below w.heap.size w ((((W0.setCell ⟨w.heap.size + 1, 0, none⟩ (.int .i64 x.a)).setCell ⟨w.heap.size + 1, 1, none⟩ (.int .i64 x.b)).setCell ⟨w.heap.size + 1, 2, none⟩ (.int .i64 x.c)).setCell ⟨w.heap.size + 1, 3, none⟩ (.int .i64 x.n)) :=
    (((HB0.out.setCell (p := ⟨w.heap.size + 1, 0, none⟩) (by simp) _).setCell (p := ⟨w.heap.size + 1, 1, none⟩) (by simp) _).setCell (p := ⟨w.heap.size + 1, 2, none⟩) (by simp) _).setCell (p := ⟨w.heap.size + 1, 3, none⟩) (by simp) _
  obtain ⟨s0, s1, s2, s3, _⟩ := lvCells (four_cells HR.out (.int .i64 x.a) (.int .i64 x.b) (.int .i64 x.c) (.int .i64 x.n))
  have HD := Lib.hid hd
  have HSS := Lib.hid (And.intro s0 (And.intro s1 (And.intro s2 s3)))
  clear hb1 hX hd s0 s1 s2 s3
  go_enter Tryz.func69, Tryz.ntmps69
  go_upto_region 1 with fail
  try rw [hW0]
  go_wp2_with fail
  obtain ⟨s0, s1, s2, s3⟩ := HSS.out
  exact bodyPost_ret (v := partsV x) (by simp [results, Tryz.results69, go_sem, s0, s1, s2, s3]) rfl ⟨rfl, HD.out⟩
set_option maxRecDepth 100000 in
set_option maxHeartbeats 1000000 in
theorem whole_j (x : Ji) (w : World) : Calls Tryz.prog 67 #[.int .i64 x.op, partsV x] w fun e w' => e = .returned x.val ∧ Below w.heap.size w w' := by
  have hb1 := ((Below.refl w.heap.size w).alloc (Nat.le_refl _) (.cells #[.int .i64 x.a, .int .i64 x.b, .int .i64 x.c, .int .i64 x.n] 81)).alloc (by simp) (Ji.obj ⟨0, 0, 0, 0, 0⟩)
  obtain ⟨W0, hW0⟩ : ∃ W, (w.alloc (.cells #[.int .i64 x.a, .int .i64 x.b, .int .i64 x.c, .int .i64 x.n] 81)).alloc (Ji.obj ⟨0, 0, 0, 0, 0⟩) = W := ⟨_, rfl⟩
  have HB0 : Hid (Below w.heap.size w W0) := by rw [← hW0]; exact hb1
  have hX : W0.heap[w.heap.size]? = some (.cells #[.int .i64 x.a, .int .i64 x.b, .int .i64 x.c, .int .i64 x.n] 81 (0, 0)) := by rw [← hW0]; exact pastJ _ (heap_alloc_new w _)
  have HR : Hid (W0.heap[w.heap.size + 1]? = some (.cells #[.int .i64 0, .int .i64 0, .int .i64 0, .int .i64 0, .int .i64 0] 70 (0, 0))) := by
    rw [← hW0]
    have h := heap_alloc_new (w.alloc (.cells #[.int .i64 x.a, .int .i64 x.b, .int .i64 x.c, .int .i64 x.n] 81)) (Ji.obj ⟨0, 0, 0, 0, 0⟩)
    rwa [World.size_alloc] at h
  obtain ⟨k0, k1, k2, k3, kf0, kf1, kf2, kf3⟩ := lvCells hX
  obtain ⟨r0, r1, r2, r3, r4, rf0, rf1, rf2, rf3, rf4⟩ := cells5 HR.out
  have HD := Lib.hid (put5_below HB0.out (show w.heap.size ≤ w.heap.size + 1 by omega) (.int .i64 x.op) (.int .i64 x.a) (.int .i64 x.b) (.int .i64 x.c) (.int .i64 x.n))
  obtain ⟨s0, s1, s2, s3, s4, _⟩ := cells5 (five_cells HR.out (.int .i64 x.op) (.int .i64 x.a) (.int .i64 x.b) (.int .i64 x.c) (.int .i64 x.n))
  have HSS := Lib.hid (And.intro s0 (And.intro s1 (And.intro s2 (And.intro s3 s4))))
  clear hb1 hX s0 s1 s2 s3 s4
  go_enter Tryz.func67, Tryz.ntmps67
  go_upto_region 1 with fail
  try rw [hW0]
  go_wp2_with fail
  obtain ⟨s0, s1, s2, s3, s4⟩ := HSS.out
  exact bodyPost_ret (v := x.val) (by simp [results, Tryz.results67, go_sem, s0, s1, s2, s3, s4]) rfl ⟨rfl, HD.out⟩
/-- the parts of a kind -/
def namedG (kd : Int) : List Int → List Int → List Int
  | k :: ks, v :: vs => if k = kd then v :: namedG kd ks vs else namedG kd ks vs
  | _, _ => []
def namedJ (x : Ji) (kd : Int) : List Int := namedG kd (kN x.op) x.p
theorem namedG_length (kd : Int) : ∀ (ks vs : List Int), (namedG kd ks vs).length ≤ vs.length
  | [], _ => by simp [namedG]
  | _ :: _, [] => by simp [namedG]
  | k :: ks, v :: vs => by
    have := namedG_length kd ks vs
    unfold namedG
    split <;> simp <;> omega
theorem namedG_snoc (kd : Int) : ∀ (ks vs : List Int) (i : Nat) (k v : Int), ks[i]? = some k → vs[i]? = some v → namedG kd (ks.take (i + 1)) vs = namedG kd (ks.take i) vs ++ if k = kd then [v] else []
  | [], _, i, _, _, h, _ => by simp at h
  | _ :: _, [], i, _, _, _, h => by simp at h
  | k0 :: ks, v0 :: vs, 0, k, v, h, h2 => by
    simp at h h2
    subst h; subst h2
    simp [namedG]
  | k0 :: ks, v0 :: vs, i + 1, k, v, h, h2 => by
    have := namedG_snoc kd ks vs i k v (by simpa using h) (by simpa using h2)
    simp only [List.take_succ_cons]
    unfold namedG
    split
    · rw [this]; rfl
    · exact this
theorem Ji.p_at {x : Ji} (h : x.ok) {k : Nat} (hk : k < 4) : ∃ v, x.p[k]? = some v ∧ -9223372036854775808 ≤ v ∧ v ≤ 9223372036854775807 := by
  match k, hk with
  | 0, _ => exact ⟨_, rfl, h.a⟩
  | 1, _ => exact ⟨_, rfl, h.b⟩
  | 2, _ => exact ⟨_, rfl, h.c⟩
  | 3, _ => exact ⟨_, rfl, h.n⟩
theorem kN_at (op : Int) {k : Nat} (hk : k < 4) : (kN op)[k]? = some (kA op k) := by
  have := kN_len op
  unfold kA
  rw [List.getD_eq_getElem?_getD, List.getElem?_eq_getElem (by omega)]; rfl
abbrev shObj (op : Int) : Obj := .cells #[.string (strJ (wJ op)), .int .i64 (kA op 0), .int .i64 (kA op 1), .int .i64 (kA op 2), .int .i64 (kA op 3)] 85
def NamedP (x : Ji) (kd : Int) (w : World) (e : Ending) (w' : World) : Prop := ∃ A c, e = .returned (.slice A (namedJ x kd).length c) ∧ OwnI w' w.heap.size 3 A c (namedJ x kd) ∧ Below w.heap.size w w'
theorem sh_cell {W : World} {g : Nat} {op : Int} (h : W.heap[g]? = some (.cells #[.string (strJ (wJ op)), .int .i64 (kA op 0), .int .i64 (kA op 1), .int .i64 (kA op 2), .int .i64 (kA op 3)] 85 (0, 0))) {k : Nat} (hk : k < 4) : W.cell? ⟨g, 1 + k, none⟩ = some (.int .i64 (kA op k)) := by
  obtain ⟨_, c1, c2, c3, c4, _⟩ := cells5 h
  match k, hk with
  | 0, _ => exact c1
  | 1, _ => exact c2
  | 2, _ => exact c3
  | 3, _ => exact c4
theorem index_parts {x : Ji} {k : Nat} {v : Int} (hv : x.p[k]? = some v) (w : World) : Sem.run Tryz.prog (Instr.index 81 (partsV x) (.int .i64 (k : Int))) w = .ok (.int .i64 v) w := by
  match k, hv with
  | 0, hv => cases hv; simp [Instr.index, run_underlying Tryz.underlying81, asIntOf, go_sem]
  | 1, hv => cases hv; simp [Instr.index, run_underlying Tryz.underlying81, asIntOf, go_sem]
  | 2, hv => cases hv; simp [Instr.index, run_underlying Tryz.underlying81, asIntOf, go_sem]
  | 3, hv => cases hv; simp [Instr.index, run_underlying Tryz.underlying81, asIntOf, go_sem]
  | k + 4, hv => cases hv
set_option maxRecDepth 100000 in
set_option maxHeartbeats 4000000 in
theorem named_any (x : Ji) (kd : Int) (w : World) (hx : x.ok) (_hd : 0 ≤ kd ∧ kd ≤ 6) (hS : ShT w) : Calls Tryz.prog 92 #[x.val, .int .i64 kd] w (NamedP x kd w) := by
  have HB0 := Lib.hid ((Below.refl w.heap.size w).alloc (Nat.le_refl _) x.obj)
  have HX0 := Lib.hid (newJ w x)
  have HOK := Lib.hid hx
  have HS := Lib.hid hS
  obtain ⟨W0, hW0⟩ : ∃ W, w.alloc x.obj = W := ⟨_, rfl⟩
  rw [hW0] at HB0 HX0
  have cS := shapeOf_any x.op W0 (HS.out.on HB0.out)
  obtain ⟨⟨k0, k1, k2, k3, k4⟩, kf⟩ := box_cellsJ HX0.out
  obtain ⟨i0, hi0, hz0, hz1, hz2⟩ := info_parts infoInt
  clear hS
  go_enter Tryz.func92, Tryz.ntmps92
  go_wp2_with fail
  try rw [hW0]
  refine cS.mono ?_
  rintro e w1 ⟨rfl, hb⟩
  unfold shV
  have HB1 := Lib.hid (HB0.out.trans (hb.mono HB0.out.size))
  have HX1 := Lib.hid (keep_b hb HX0.out)
  clear hb hW0 k0 k1 k2 k3 k4 kf
  obtain ⟨W2, hW2⟩ : ∃ W, w1.alloc (shObj x.op) = W := ⟨_, rfl⟩
  have HB2 : Hid (Below w.heap.size w W2) := by rw [← hW2]; exact HB1.out.alloc HB1.out.size _
  have HX2 : Hid (W2.heap[w.heap.size]? = some x.obj) := by rw [← hW2]; exact pastJ _ HX1.out
  have HG2 : Hid (W2.heap[w1.heap.size]? = some (.cells #[.string (strJ (wJ x.op)), .int .i64 (kA x.op 0), .int .i64 (kA x.op 1), .int .i64 (kA x.op 2), .int .i64 (kA x.op 3)] 85 (0, 0))) := by rw [← hW2]; exact heap_alloc_new w1 (shObj x.op)
  go_upto_region 2 with fail
  try rw [hW2]
  have cP := parts_any x W2
  obtain ⟨⟨k0, k1, k2, k3, k4⟩, kf⟩ := box_cellsJ HX2.out
  have hg1 : w.heap.size ≤ w1.heap.size := HB1.out.size
  clear hW2 cS HX1
  go_wp2_with fail
  refine cP.mono ?_
  rintro e w3 ⟨rfl, hb⟩
  have HB3 := Lib.hid (HB2.out.trans (hb.mono HB2.out.size))
  have HG3 := Lib.hid (keep_b hb HG2.out)
  obtain ⟨G, hG⟩ : ∃ G, w1.heap.size = G := ⟨_, rfl⟩
  rw [hG] at HG3 hg1 ⊢
  clear hb cP HG2 HX2 HB2 HB1 HB0 HX0 k0 k1 k2 k3 k4 kf hG
  go_wp2_with fail
  go_loopw [7, 18] (fun v i wr => ∃ (k : Nat) (A : Option Addr) (c : Nat), k ≤ 4 ∧ i = .int .i64 k ∧ v = .slice A (namedG kd ((kN x.op).take k) x.p).length c ∧ Hid (OwnI wr w.heap.size 3 A c (namedG kd ((kN x.op).take k) x.p)) ∧ Hid (Below w.heap.size w wr) ∧ Hid (wr.heap[G]? = some (.cells #[.string (strJ (wJ x.op)), .int .i64 (kA x.op 0), .int .i64 (kA x.op 1), .int .i64 (kA x.op 2), .int .i64 (kA x.op 3)] 85 (0, 0)))) (fun _ i _ => 4 - (intOf i).toNat)
  case atStart => exact ⟨0, none, 0, Nat.zero_le _, rfl, by rw [List.take_zero]; rfl, by rw [List.take_zero]; exact OwnI.nil_ _ _ _, HB3.out, HG3.out⟩
  case round =>
    obtain ⟨k, A, c, hk, rfl, rfl, HO, HB, HG⟩ := hrel
    by_cases hlt : k < 4
    · obtain ⟨v, hv, hv0, hv1⟩ := Ji.p_at HOK.out hlt
      have hkn := kN_at x.op hlt
      have hsn := namedG_snoc kd (kN x.op) x.p k (kA x.op k) v hkn hv
      have hrl : (namedG kd ((kN x.op).take k) x.p).length ≤ 4 := namedG_length kd _ _
      have hc := sh_cell HG.out hlt
      have HSN := Lib.hid hsn
      have HV := Lib.hid hv
      have hix := index_parts hv wr
      have hk4 : (k : Int) < 4 := by omega
      have hk0 : (0 : Int) ≤ (k : Int) := by omega
      clear hsn hv hkn
      by_cases hkd : kA x.op k = kd
      · have c1 : (kA x.op k == kd) = true := by simpa using hkd
        have HST : Hid (namedG kd ((kN x.op).take (k + 1)) x.p = namedG kd ((kN x.op).take k) x.p ++ [v]) := by unfold Hid; rw [HSN.out, if_pos hkd]
        obtain ⟨m, hm⟩ : ∃ m, (namedG kd ((kN x.op).take k) x.p).length = m := ⟨_, rfl⟩
        have HM := Lib.hid hm
        rw [hm] at hrl
        have hle : m + 1 ≤ 1000000 := by omega
        have hsz : w.heap.size ≤ wr.heap.size := HB.out.size
        rw [hm]
        clear hm hkd
        go_wp2_with (at_builtin; refine wpList_appendInts _ rfl (.tmp 28) (.tmp 30) 36 rfl w.heap.size 3 i0 Tryz.underlying36 hi0 hz0 hz1 hz2 A (some ⟨wr.heap.size, 0, none⟩) c 1 1 (wr.heap.size + 1) m (m + 1) (namedG kd ((kN x.op).take k) x.p) [v] rfl rfl (HO.out.alloc _) HM.out rfl (src_new wr ⟨hv0, hv1⟩) hle (by simp; omega) ?_; intro A3 c3 w3 hO3 hG3)
        have hb3 := below_app (HB.out.alloc hsz _) hG3 (HO.out.alloc _) HM.out (by simp; omega)
        have hX3 := past_int (HO.out.alloc _) (pastJ _ HG.out) (by decide) HM.out hG3
        have HO3 := Lib.hid hO3
        have HB4 := Lib.hid hb3
        have HG4 := Lib.hid hX3
        clear hO3 hb3 hX3 hG3
        go_wp2_with fail
        go_roundw
        case rel => exact ⟨k + 1, A3, c3, by omega, by go_num, by rw [HST.out, List.length_append, HM.out]; rfl, by rw [HST.out]; exact HO3.out, HB4.out, HG4.out⟩
        case measure => simp [intOf]; omega
      · have c1 : (kA x.op k == kd) = false := by simpa using hkd
        have HST : Hid (namedG kd ((kN x.op).take (k + 1)) x.p = namedG kd ((kN x.op).take k) x.p) := by unfold Hid; rw [HSN.out, if_neg hkd, List.append_nil]
        clear hkd
        go_wp2_with fail
        go_roundw
        case rel => exact ⟨k + 1, A, c, by omega, by go_num, by rw [HST.out], by rw [HST.out]; exact HO.out, HB.out, HG.out⟩
        case measure => simp [intOf]; omega
    · have hk4 : ¬ (k : Int) < 4 := by omega
      have HT : Hid (namedG kd ((kN x.op).take k) x.p = namedJ x kd) := by unfold Hid namedJ; rw [List.take_of_length_le (by rw [kN_len]; omega)]
      rw [HT.out] at HO ⊢
      go_wp2_with fail
      go_ret
      exact ⟨A, c, rfl, HO.out, HB.out⟩
end Go.Proofs.YtgkngimeokhhgaaGreatDoor
/- The program's registers and places of an instruction. -/
namespace Go.Proofs.YtgkngimeokhhgaaGreatDoor
open Go.RowKit

theorem op_split (op : Int) : (op < 0 ∨ 12 < op) ∨ op = 0 ∨ op = 1 ∨ op = 2 ∨ op = 3 ∨ op = 4 ∨ op = 5 ∨ op = 6 ∨ op = 7 ∨ op = 8 ∨ op = 9 ∨ op = 10 ∨ op = 11 ∨ op = 12 := by omega
theorem kN_out {op : Int} (h : op < 0 ∨ 12 < op) : kN op = [0, 0, 0, 0] := by unfold kN; rw [if_neg (by omega)]
theorem kJ_out {op : Int} (h : op < 0 ∨ 12 < op) : kJ op = [] := by unfold kJ; rw [if_neg (by omega)]
theorem named_reads (x : Ji) : namedJ x 2 = readsJ x := by
  obtain ⟨op, a, b, c, n⟩ := x
  unfold namedJ readsJ
  show namedG 2 (kN op) [a, b, c, n] = readsG (kJ op) [a, b, c]
  rcases op_split op with h | rfl | rfl | rfl | rfl | rfl | rfl | rfl | rfl | rfl | rfl | rfl | rfl | rfl
  · rw [kN_out h, kJ_out h]; simp [namedG, readsG]
  all_goals simp [namedG, readsG, kN, kJ, kindNs, kindsJ]
theorem named_sets (x : Ji) : namedJ x 1 = if setsJ x then [x.a] else [] := by
  obtain ⟨op, a, b, c, n⟩ := x
  unfold namedJ setsJ
  show namedG 1 (kN op) [a, b, c, n] = if (kJ op).head? == some 119 then [a] else []
  rcases op_split op with h | rfl | rfl | rfl | rfl | rfl | rfl | rfl | rfl | rfl | rfl | rfl | rfl | rfl
  · rw [kN_out h, kJ_out h]; simp [namedG]
  all_goals simp [namedG, kN, kJ, kindNs, kindsJ]
theorem named_place (x : Ji) : namedJ x 4 = if x.op = 10 then [x.a] else if x.op = 11 ∨ x.op = 12 then [x.c] else [] := by
  obtain ⟨op, a, b, c, n⟩ := x
  unfold namedJ
  show namedG 4 (kN op) [a, b, c, n] = if op = 10 then [a] else if op = 11 ∨ op = 12 then [c] else []
  rcases op_split op with h | rfl | rfl | rfl | rfl | rfl | rfl | rfl | rfl | rfl | rfl | rfl | rfl | rfl
  · rw [kN_out h, if_neg (by omega), if_neg (by omega)]; simp [namedG]
  all_goals simp [namedG, kN, kindNs]
set_option maxRecDepth 100000 in
theorem codeReads_any (x : Ji) (w : World) (hx : x.ok) (hS : ShT w) : Calls Tryz.prog 75 #[x.val] w (ReadsP x w) := by
  have HB0 := Lib.hid ((Below.refl w.heap.size w).alloc (Nat.le_refl _) x.obj)
  have HX0 := Lib.hid (newJ w x)
  obtain ⟨W0, hW0⟩ : ∃ W, w.alloc x.obj = W := ⟨_, rfl⟩
  rw [hW0] at HB0 HX0
  have cN := named_any x 2 W0 hx (by omega) (hS.on HB0.out)
  unfold NamedP at cN
  rw [named_reads] at cN
  obtain ⟨⟨k0, k1, k2, k3, k4⟩, kf⟩ := box_cellsJ HX0.out
  clear hS
  go_enter Tryz.func75, Tryz.ntmps75
  go_wp2_with fail
  try rw [hW0]
  refine cN.mono ?_
  rintro e w1 ⟨A, c, rfl, hO, hb⟩
  have HB1 := Lib.hid (HB0.out.trans (hb.mono HB0.out.size))
  have HO := Lib.hid (hO.mono HB0.out.size)
  clear hb hO cN k0 k1 k2 k3 k4 kf
  go_wp2_with fail
  go_ret
  exact ⟨A, c, rfl, HO.out, HB1.out⟩
set_option maxRecDepth 100000 in
theorem codeWrites_any (x : Ji) (w : World) (hx : x.ok) (hS : ShT w) : Calls Tryz.prog 99 #[x.val] w (WritesP x w) := by
  have HB0 := Lib.hid ((Below.refl w.heap.size w).alloc (Nat.le_refl _) x.obj)
  have HX0 := Lib.hid (newJ w x)
  obtain ⟨W0, hW0⟩ : ∃ W, w.alloc x.obj = W := ⟨_, rfl⟩
  rw [hW0] at HB0 HX0
  have cN := named_any x 1 W0 hx (by omega) (hS.on HB0.out)
  unfold NamedP at cN
  rw [named_sets] at cN
  obtain ⟨⟨k0, k1, k2, k3, k4⟩, kf⟩ := box_cellsJ HX0.out
  clear hS
  by_cases hs : setsJ x = true
  · have HE : Hid (writesJ x = x.a ∧ setsJ x = true) := ⟨by unfold writesJ; rw [if_pos hs], hs⟩
    rw [if_pos hs] at cN
    clear hs
    go_enter Tryz.func99, Tryz.ntmps99
    go_wp2_with fail
    try rw [hW0]
    refine cN.mono ?_
    rintro e w1 ⟨A, c, rfl, hO, hb⟩
    have HB1 := Lib.hid (HB0.out.trans (hb.mono HB0.out.size))
    obtain ⟨g, off, v, rfl, hgv, hl, hc, _⟩ := hO.ints.at_ (k := 0) (by simp)
    obtain rfl : x.a = v := Option.some.inj hl.out
    rw [Nat.add_zero] at hc
    clear hb hO cN k0 k1 k2 k3 k4 kf hl
    go_wp2_with fail
    go_ret2
    exact ⟨by rw [HE.out.1, HE.out.2]; rfl, HB1.out⟩
  · have hf : setsJ x = false := by simpa using hs
    have HE : Hid (writesJ x = 0 ∧ setsJ x = false) := ⟨by unfold writesJ; rw [if_neg hs], hf⟩
    rw [if_neg hs] at cN
    clear hs hf
    go_enter Tryz.func99, Tryz.ntmps99
    go_wp2_with fail
    try rw [hW0]
    refine cN.mono ?_
    rintro e w1 ⟨A, c, rfl, hO, hb⟩
    have HB1 := Lib.hid (HB0.out.trans (hb.mono HB0.out.size))
    clear hb hO cN k0 k1 k2 k3 k4 kf
    go_wp2_with fail
    go_ret2
    exact ⟨by rw [HE.out.1, HE.out.2]; rfl, HB1.out⟩
set_option maxRecDepth 100000 in
set_option maxHeartbeats 4000000 in
theorem codeNext_any (x : Ji) (at_ : Int) (w : World) (hx : x.ok) (_ha : -9223372036854775808 ≤ at_ ∧ at_ ≤ 9223372036854775807) (hS : ShT w) : Calls Tryz.prog 90 #[x.val, .int .i64 at_] w (NextP x at_ w) := by
  have HB0 := Lib.hid ((Below.refl w.heap.size w).alloc (Nat.le_refl _) x.obj)
  have HX0 := Lib.hid (newJ w x)
  have HS := Lib.hid hS
  have HOK := Lib.hid hx
  obtain ⟨W0, hW0⟩ : ∃ W, w.alloc x.obj = W := ⟨_, rfl⟩
  rw [hW0] at HB0 HX0
  have cS := shapeOf_any x.op W0 (HS.out.on HB0.out)
  obtain ⟨⟨k0, k1, k2, k3, k4⟩, kf⟩ := box_cellsJ HX0.out
  obtain ⟨i0, hi0, hz0, hz1, hz2⟩ := info_parts infoInt
  clear hS
  by_cases hop : x.op ≤ 0 ∨ 12 < x.op
  · have HN : Hid (nextJ x at_ = []) := by unfold Hid nextJ; rw [if_pos hop]
    have hc : isOp x.op = false ∨ (isOp x.op = true ∧ (x.op == 0) = true) := by
      by_cases h0 : x.op = 0
      · exact .inr ⟨decide_eq_true (by omega), by simpa using h0⟩
      · exact .inl (decide_eq_false (by omega))
    clear hop _ha
    rcases hc with hc | ⟨hc, hc2⟩
    all_goals
      go_enter Tryz.func90, Tryz.ntmps90
      go_wp2_with fail
      try rw [hW0]
      refine cS.mono ?_
      rintro e w1 ⟨rfl, hb⟩
      unfold shV
      have HB1 := Lib.hid (HB0.out.trans (hb.mono HB0.out.size))
      have HX1 := Lib.hid (keep_b hb HX0.out)
      clear hb hW0 k0 k1 k2 k3 k4 kf cS
      obtain ⟨W2, hW2⟩ : ∃ W, w1.alloc (shObj x.op) = W := ⟨_, rfl⟩
      have HB2 : Hid (Below w.heap.size w W2) := by rw [← hW2]; exact HB1.out.alloc HB1.out.size _
      have HX2 : Hid (W2.heap[w.heap.size]? = some x.obj) := by rw [← hW2]; exact pastJ _ HX1.out
      obtain ⟨⟨k0, k1, k2, k3, k4⟩, kf⟩ := box_cellsJ HX2.out
      go_upto_region 2 with fail
      try rw [hW2]
      go_wp2_with fail
      go_ret
      exact ⟨none, 0, by rw [HN.out]; rfl, by rw [HN.out]; exact OwnI.nil_ _ _ _, HB2.out⟩
  · have hc : isOp x.op = true := decide_eq_true (by omega)
    have hc2 : (x.op == 0) = false := by
      have : x.op ≠ 0 := by omega
      simpa using this
    have hr : 1 ≤ x.op ∧ x.op ≤ 12 := by omega
    have HR := Lib.hid hr
    clear hop hr
    go_enter Tryz.func90, Tryz.ntmps90
    go_wp2_with fail
    try rw [hW0]
    refine cS.mono ?_
    rintro e w1 ⟨rfl, hb⟩
    unfold shV
    have HB1 := Lib.hid (HB0.out.trans (hb.mono HB0.out.size))
    have HX1 := Lib.hid (keep_b hb HX0.out)
    clear hb hW0 k0 k1 k2 k3 k4 kf cS
    obtain ⟨W2, hW2⟩ : ∃ W, w1.alloc (shObj x.op) = W := ⟨_, rfl⟩
    have HB2 : Hid (Below w.heap.size w W2) := by rw [← hW2]; exact HB1.out.alloc HB1.out.size _
    have HX2 : Hid (W2.heap[w.heap.size]? = some x.obj) := by rw [← hW2]; exact pastJ _ HX1.out
    have cN := named_any x 4 W2 HOK.out (by omega) (HS.out.on HB2.out)
    unfold NamedP at cN
    obtain ⟨⟨k0, k1, k2, k3, k4⟩, kf⟩ := box_cellsJ HX2.out
    go_upto_region 2 with fail
    try rw [hW2]
    clear hW2 HX1 HB1
    go_wp2_with fail
    refine cN.mono ?_
    rintro e w3 ⟨A, c, rfl, hO, hb⟩
    have HB3 := Lib.hid (HB2.out.trans (hb.mono HB2.out.size))
    have HX3 := Lib.hid (keep_b hb HX2.out)
    have HO := Lib.hid (hO.mono HB2.out.size)
    clear hb hO cN k0 k1 k2 k3 k4 kf
    obtain ⟨⟨k0, k1, k2, k3, k4⟩, kf⟩ := box_cellsJ HX3.out
    by_cases h10 : x.op = 10
    · have e1 : (x.op == 10) = true := by simpa using h10
      have HL : Hid (namedJ x 4 = nextJ x at_) := by
        unfold Hid nextJ
        rw [named_place, if_pos h10, if_neg (by omega), if_pos h10]
      clear h10
      go_wp2_with fail
      go_ret
      exact ⟨A, c, by rw [HL.out]; rfl, by rw [← HL.out]; exact HO.out, HB3.out⟩
    · have e1 : (x.op == 10) = false := by simpa using h10
      have HL : Hid ([wrap64 (at_ + 1)] ++ namedJ x 4 = nextJ x at_) := by
        have hr := HR.out
        unfold Hid nextJ
        rw [named_place, if_neg (show ¬ (x.op ≤ 0 ∨ 12 < x.op) by omega), if_neg h10, if_neg h10]
        split <;> rfl
      have hl4 : (namedJ x 4).length ≤ 4 := namedG_length _ _ _
      have hsz : w.heap.size ≤ w3.heap.size := HB3.out.size
      obtain ⟨m, hm⟩ : ∃ m, (namedJ x 4).length = m := ⟨_, rfl⟩
      have HM := Lib.hid hm
      have hIn : Ints (w3.alloc (.cells #[.int .i64 (wrap64 (at_ + 1))] 3)) (w3.heap.size + 1) A m (namedJ x 4) := by
        have := HO.out.ints.alloc' (.cells #[.int .i64 (wrap64 (at_ + 1))] 3)
        rw [hm, World.size_alloc] at this
        exact this
      rw [hm] at hl4 ⊢
      have hle : 1 + m ≤ 1000000 := by omega
      clear h10 hm
      go_wp2_with (at_builtin; refine wpList_appendInts _ rfl (.tmp 29) (.tmp 30) 36 rfl w.heap.size 3 i0 Tryz.underlying36 hi0 hz0 hz1 hz2 (some ⟨w3.heap.size, 0, none⟩) A 1 m c (w3.heap.size + 1) 1 (1 + m) [wrap64 (at_ + 1)] (namedJ x 4) rfl rfl (own_one w3 _ _ hsz (wrap64_bounds _)) rfl rfl hIn hle (by simp; omega) ?_; intro A3 c3 w4 hO3 hG3)
      have hb3 := below_app (HB3.out.alloc hsz _) hG3 (own_one w3 _ _ hsz (wrap64_bounds _)) rfl (by simp; omega)
      have HO3 := Lib.hid hO3
      have HB4 := Lib.hid hb3
      clear hO3 hb3 hG3
      go_wp2_with fail
      go_ret
      exact ⟨A3, c3, by rw [← HL.out, List.length_append, HM.out, List.length_singleton]; rfl, by rw [← HL.out]; exact HO3.out, HB4.out⟩
end Go.Proofs.YtgkngimeokhhgaaGreatDoor
/- The program's registers: which are set in this and in another; which are set behind an instruction; their numbers. -/
namespace Go.Proofs.YtgkngimeokhhgaaGreatDoor
open Go.RowKit

set_option maxRecDepth 100000 in
theorem zero8 : Tryz.zeroCells116 = arA noR := by kernel_rfl
def andK (r s : List Bool) (k : Nat) : List Bool := (andR r s).take k ++ r.drop k
theorem andK_zero (r s : List Bool) : andK r s 0 = r := by unfold andK; simp
theorem andK_all {r s : List Bool} (h : r.length = s.length) : andK r s r.length = andR r s := by
  unfold andK
  rw [List.drop_length, List.append_nil, List.take_of_length_le (by rw [andR_len h, h]; exact Nat.le_refl _)]
theorem andK_at {r s : List Bool} {k : Nat} (h : r.length = s.length) (hk : k < r.length) : (andK r s k)[k]? = r[k]? := by
  unfold andK
  have : ((andR r s).take k).length = k := by rw [List.length_take, andR_len h]; omega
  rw [List.getElem?_append_right (by omega), this, Nat.sub_self, List.getElem?_drop, Nat.add_zero]
theorem andK_len {r s : List Bool} (h : r.length = s.length) (k : Nat) (hk : k ≤ r.length) : (andK r s k).length = r.length := by
  unfold andK
  rw [List.length_append, List.length_take, andR_len h, List.length_drop]
  omega
theorem andK_set {r s : List Bool} {k : Nat} {a b : Bool} (h : r.length = s.length) (ha : r[k]? = some a) (hb : s[k]? = some b) : (andK r s k).set k (a && b) = andK r s (k + 1) := by
  have hk : k < r.length := (List.getElem?_eq_some_iff.1 ha).1
  have hv : (andR r s)[k]? = some (a && b) := by unfold andR; rw [List.getElem?_zipWith, ha, hb]
  apply List.ext_getElem?
  intro i
  have hl1 : ((andR r s).take k).length = k := by rw [List.length_take, andR_len h]; omega
  have hl2 : ((andR r s).take (k + 1)).length = k + 1 := by rw [List.length_take, andR_len h]; omega
  by_cases e : k = i
  · subst e
    rw [List.getElem?_set_self (by rw [andK_len h k (by omega)]; exact hk)]
    unfold andK
    rw [List.getElem?_append_left (by omega), List.getElem?_take_of_lt (by omega), hv]
  · rw [List.getElem?_set_ne e]
    unfold andK
    by_cases hi : i < k
    · rw [List.getElem?_append_left (by omega), List.getElem?_append_left (by omega), List.getElem?_take_of_lt hi, List.getElem?_take_of_lt (by omega)]
    · rw [List.getElem?_append_right (by omega), List.getElem?_append_right (by omega), hl1, hl2, List.getElem?_drop, List.getElem?_drop]
      congr 1
      omega
/-- in the loop of both -/
structure BothI (w : World) (g : Nat) (r : List Bool) (W : World) : Prop where
  bel : Below w.heap.size w W
  lo : w.heap.size ≤ g
  a : ArB W g r
  o : ArB W (g + 1 + 1) noR
theorem BothI.put {w W : World} {g : Nat} {r : List Bool} (h : BothI w g r W) (k : Nat) (v : Bool) : BothI w g (r.set k v) (W.setCell ⟨g, k, none⟩ (.bool v)) :=
  ⟨h.bel.setCell (p := ⟨g, k, none⟩) h.lo _, h.lo, h.a.set k v, (Below.heap_setCell _ ⟨g, k, none⟩ _ _ (by show g + 1 + 1 ≠ g; omega)).trans h.o⟩
theorem index8 {s : List Bool} {k : Nat} {v : Bool} (hv : s[k]? = some v) (hs : s.length = 128) (w : World) : Sem.run Tryz.prog (Instr.index 116 (.agg (arA s)) (.int .i64 (k : Int))) w = .ok (.bool v) w := by
  have hk : k < 128 := by have := (List.getElem?_eq_some_iff.1 hv).1; omega
  have h2 := arA_at hv
  have h3 := arA_size s
  have hk2 : k < (arA s).size := by omega
  have h4 : (arA s)[k]'hk2 = .bool v := by
    rw [Array.getElem?_eq_getElem hk2] at h2
    injection h2
  simp [Instr.index, go_sem, hk, h2]
theorem below_setRow {w W : World} {B g : Nat} (h : Below B w W) (hg : B ≤ g) (cs2 : Array Value) : Below B w (W.setRow g cs2) :=
  ⟨h.os, h.tape, h.output, by rw [setRow_size]; exact h.size, fun k hk => (setRow_other W g k cs2 (by omega)).trans (h.block k hk)⟩
set_option maxRecDepth 100000 in
set_option maxHeartbeats 4000000 in
theorem bothR_any (r s : List Bool) (w : World) (hr : r.length = 128) (hs : s.length = 128) : Calls Tryz.prog 88 #[.agg (arA r), .agg (arA s)] w fun e w' => e = .returned (.agg (arA (andR r s))) ∧ Below w.heap.size w w' := by
  have hz := zero8
  obtain ⟨W0, hW0⟩ : ∃ W, ((w.alloc (.cells (arA r) 116)).alloc (.cells (arA s) 116)).alloc (.cells (arA noR) 116) = W := ⟨_, rfl⟩
  obtain ⟨g0, hg0⟩ : ∃ z, w.heap.size = z := ⟨_, rfl⟩
  have hb1 := lvBelow w (.cells (arA r) 116)
  have hb2 := lvBelow (w.alloc (.cells (arA r) 116)) (.cells (arA s) 116)
  have hb3 := lvBelow ((w.alloc (.cells (arA r) 116)).alloc (.cells (arA s) 116)) (.cells (arA noR) 116)
  have h1 := ArB.new w r
  have h2 := ArB.new (w.alloc (.cells (arA r) 116)) s
  have h3 := ArB.new ((w.alloc (.cells (arA r) 116)).alloc (.cells (arA s) 116)) noR
  have h1 := keep_b hb3 (keep_b hb2 h1)
  have h2 := keep_b hb3 h2
  have hbel := hb1.trans ((hb2.trans (hb3.mono hb2.size)).mono hb1.size)
  rw [hW0] at h1 h2 h3 hbel
  simp only [World.size_alloc] at h2 h3
  rw [hg0] at h1 h2 h3
  have HI0 : Hid (BothI w g0 r W0) := ⟨hbel, by omega, h1, h3⟩
  have H2 := Lib.hid h2
  have HR := Lib.hid hr
  have HS := Lib.hid hs
  have HG0 := Lib.hid hg0
  clear hb1 hb2 hb3 h1 h2 h3 hbel hr hs
  go_enter Tryz.func88, Tryz.ntmps88
  go_upto_region 1 with fail
  try rw [hW0]
  try rw [hg0]
  clear hW0 hz hg0
  apply wp_region_lit
  refine wpList_load_row rfl 116 (.tmp 3) rfl (g0 + 1) rfl _ _ _ _ H2.out under8 rfl (by rw [arA_size, HS.out]; exact info8) ?_
  simp only [Act.put, List.setIfInBounds_toArray, List.set_cons_succ, List.set_cons_zero]
  clear H2
  go_wp2_with fail
  go_loopw [8] (fun a wr => ∃ k : Nat, k ≤ 128 ∧ a = .int .i64 k ∧ Hid (BothI w g0 (andK r s k) wr)) (fun a _ => 128 - (intOf a).toNat)
  case atStart => exact ⟨0, by omega, rfl, by rw [andK_zero]; exact HI0⟩
  case round =>
    obtain ⟨k, hk, rfl, HI⟩ := hrel
    by_cases hlt : k < 128
    case neg =>
      obtain rfl : k = 128 := by omega
      have HA := HI.out.a
      rw [show (128 : Nat) = r.length from HR.out.symm, andK_all (by rw [HR.out, HS.out])] at HA
      have hal : (andR r s).length = 128 := by rw [andR_len (by rw [HR.out, HS.out]), HS.out]
      have HL := Lib.hid hal
      have HA := Lib.hid HA
      clear hal
      go_upto_region 6 with fail
      apply wp_region_lit
      refine wpList_load_row rfl 116 (.tmp 2) rfl g0 rfl _ _ _ _ HA.out under8 rfl (by rw [arA_size, HL.out]; exact info8) ?_
      refine wpList_store_row rfl 116 (.tmp 4) (.tmp 21) rfl (g0 + 1 + 1) (arA (andR r s)) rfl rfl _ _ HI.out.o (by rw [arA_size, HL.out]; exact info8) (by rw [arA_size, arA_size, HL.out, noR_len]) (arA_one _) ?_
      simp only [Act.put, List.setIfInBounds_toArray, List.set_cons_succ, List.set_cons_zero]
      have hrow := setRow_heap wr (g0 + 1 + 1) _ (arA (andR r s)) _ _ HI.out.o
      have HB := Lib.hid (below_setRow HI.out.bel (by have := HI.out.lo; omega : w.heap.size ≤ g0 + 1 + 1) (arA (andR r s)))
      obtain ⟨wz, hwz⟩ : ∃ wz, wr.setRow (g0 + 1 + 1) (arA (andR r s)) = wz := ⟨_, rfl⟩
      rw [hwz] at hrow HB
      rw [hwz]
      have HRW := Lib.hid hrow
      clear hrow hwz
      go_wp2_with fail
      exact bodyPost_ret (results_cell_row Tryz.results88 _ _ _ _ _ _ _ rfl HRW.out under8 rfl (by rw [arA_size, HL.out]; exact info8)) rfl ⟨rfl, HB.out⟩
    have hkz : (k : Int) < 128 := by omega
    obtain ⟨a, ha⟩ : ∃ v, r[k]? = some v := ⟨_, List.getElem?_eq_getElem (by rw [HR.out]; exact hlt)⟩
    obtain ⟨b, hb⟩ : ∃ v, s[k]? = some v := ⟨_, List.getElem?_eq_getElem (by rw [HS.out]; exact hlt)⟩
    have HK := Lib.hid (HI.out.put k (a && b))
    rw [andK_set (by rw [HR.out, HS.out]) ha hb] at HK
    obtain ⟨c0, c1⟩ := HI.out.a.at_ (i := k) (v := a) (by rw [andK_at (by rw [HR.out, HS.out]) (by rw [HR.out]; exact hlt)]; exact ha)
    have hx := fun W => index8 hb HS.out W
    clear ha hb
    cases a with
    | false =>
      rw [Bool.false_and] at HK
      go_wp2_with fail
      go_roundw
      case rel => exact ⟨k + 1, by omega, by go_num, HK⟩
      case measure => simp [intOf]; omega
    | true =>
      rw [Bool.true_and] at HK
      go_wp2_with fail
      go_roundw
      case rel => exact ⟨k + 1, by omega, by go_num, HK⟩
      case measure => simp [intOf]; omega
end Go.Proofs.YtgkngimeokhhgaaGreatDoor
/- The program's registers: which are set behind an instruction; their numbers. -/
namespace Go.Proofs.YtgkngimeokhhgaaGreatDoor
open Go.RowKit

set_option maxRecDepth 100000 in
set_option maxHeartbeats 4000000 in
theorem behR_any (x : Ji) (r : List Bool) (w : World) (hx : x.ok) (hr : r.length = 128) (hw : setsJ x = true → 0 ≤ writesJ x ∧ writesJ x < 128) (hS : ShT w) : Calls Tryz.prog 89 #[.agg (arA r), x.val] w fun e w' => e = .returned (.agg (arA (behR x r))) ∧ Below w.heap.size w w' := by
  have hz := zero8
  obtain ⟨W0, hW0⟩ : ∃ W, ((w.alloc (.cells (arA r) 116)).alloc x.obj).alloc (.cells (arA noR) 116) = W := ⟨_, rfl⟩
  obtain ⟨g0, hg0⟩ : ∃ z, w.heap.size = z := ⟨_, rfl⟩
  have hb1 := lvBelow w (.cells (arA r) 116)
  have hb2 := lvBelow (w.alloc (.cells (arA r) 116)) x.obj
  have hb3 := lvBelow ((w.alloc (.cells (arA r) 116)).alloc x.obj) (.cells (arA noR) 116)
  have h1 := ArB.new w r
  have h2 := newJ (w.alloc (.cells (arA r) 116)) x
  have h3 := ArB.new ((w.alloc (.cells (arA r) 116)).alloc x.obj) noR
  have h1 := keep_b hb3 (keep_b hb2 h1)
  have h2 := keep_b hb3 h2
  have hbel := hb1.trans ((hb2.trans (hb3.mono hb2.size)).mono hb1.size)
  rw [hW0] at h1 h2 h3 hbel
  simp only [World.size_alloc] at h2 h3
  rw [hg0] at h1 h2 h3
  have HI0 : Hid (BothI w g0 r W0) := ⟨hbel, by omega, h1, h3⟩
  have H2 := Lib.hid h2
  have HR := Lib.hid hr
  have HX := Lib.hid hx
  have HW := Lib.hid hw
  have HS := Lib.hid hS
  clear hb1 hb2 hb3 h1 h2 h3 hbel hr hx hw hS
  have hC := codeWrites_any x W0 HX.out (HS.out.on HI0.out.bel)
  unfold WritesP at hC
  go_enter Tryz.func89, Tryz.ntmps89
  go_upto_region 1 with fail
  try rw [hW0]
  try rw [hg0]
  obtain ⟨⟨y0, y1, y2, y3, y4⟩, _⟩ := box_cellsJ H2.out
  go_wp2_with fail
  refine hC.mono ?_
  rintro e w1 ⟨rfl, hb⟩
  have HI1 : Hid (BothI w g0 r w1) := ⟨HI0.out.bel.trans (hb.mono HI0.out.bel.size), HI0.out.lo, keep_b hb HI0.out.a, keep_b hb HI0.out.o⟩
  clear hb hC y0 y1 y2 y3 y4 HI0 hz hW0
  obtain ⟨sv, hsv⟩ : ∃ b, setsJ x = b := ⟨_, rfl⟩
  obtain ⟨wv, hwv⟩ : ∃ b, writesJ x = b := ⟨_, rfl⟩
  rw [hsv, hwv]
  have HWV := HW.out
  rw [hsv, hwv] at HWV
  have HBH : Hid (behR x r = if sv = true then r.set wv.toNat true else r) := by unfold Hid behR; rw [hsv, hwv]
  clear hsv hwv hg0 h1 h2
  cases sv with
  | false =>
    have HBE : Hid (behR x r = r) := HBH.out
    clear HWV HBH
    have HL : Hid ((r).length = 128) := HR
    have HA := Lib.hid HI1.out.a
    go_upto_region 4 with fail
    apply wp_region_lit
    refine wpList_load_row rfl 116 (.tmp 2) rfl g0 rfl _ _ _ _ HA.out under8 rfl (by rw [arA_size, HL.out]; exact info8) ?_
    refine wpList_store_row rfl 116 (.tmp 4) (.tmp 15) rfl (g0 + 1 + 1) (arA (r)) rfl rfl _ _ HI1.out.o (by rw [arA_size, HL.out]; exact info8) (by rw [arA_size, arA_size, HL.out, noR_len]) (arA_one _) ?_
    simp only [Act.put, List.setIfInBounds_toArray, List.set_cons_succ, List.set_cons_zero]
    have hrow := setRow_heap w1 (g0 + 1 + 1) _ (arA (r)) _ _ HI1.out.o
    have HB := Lib.hid (below_setRow HI1.out.bel (by have := HI1.out.lo; omega : w.heap.size ≤ g0 + 1 + 1) (arA (r)))
    obtain ⟨wz, hwz⟩ : ∃ wz, World.setRow w1 (g0 + 1 + 1) (arA (r)) = wz := ⟨_, rfl⟩
    rw [hwz] at hrow HB
    rw [hwz]
    have HRW := Lib.hid hrow
    clear hrow hwz
    go_wp2_with fail
    exact bodyPost_ret (results_cell_row Tryz.results89 _ _ _ _ _ _ _ rfl HRW.out under8 rfl (by rw [arA_size, HL.out]; exact info8)) rfl ⟨by rw [HBE.out], HB.out⟩
  | true =>
    obtain ⟨q0, q1⟩ := HWV rfl
    obtain ⟨n, rfl⟩ : ∃ n : Nat, wv = (n : Int) := ⟨wv.toNat, by omega⟩
    have HBE : Hid (behR x r = r.set n true) := HBH.out
    clear HWV HBH q0
    have hn : n < 128 := by omega
    obtain ⟨b, hb⟩ : ∃ v, r[n]? = some v := ⟨_, List.getElem?_eq_getElem (by rw [HR.out]; exact hn)⟩
    obtain ⟨c0, c1⟩ := HI1.out.a.at_ hb
    have HI2 := Lib.hid (HI1.out.put n true)
    clear hb
    go_upto_region 4 with fail
    clear c0 c1
    obtain ⟨w2, hw2⟩ : ∃ W, w1.setCell ⟨g0, n, none⟩ (.bool true) = W := ⟨_, rfl⟩
    rw [hw2] at HI2
    try rw [hw2]
    clear hw2
    have HL : Hid ((r.set n true).length = 128) := Lib.hid (by rw [List.length_set]; exact HR.out)
    have HA := Lib.hid HI2.out.a
    apply wp_region_lit
    refine wpList_load_row rfl 116 (.tmp 2) rfl g0 rfl _ _ _ _ HA.out under8 rfl (by rw [arA_size, HL.out]; exact info8) ?_
    refine wpList_store_row rfl 116 (.tmp 4) (.tmp 15) rfl (g0 + 1 + 1) (arA (r.set n true)) rfl rfl _ _ HI2.out.o (by rw [arA_size, HL.out]; exact info8) (by rw [arA_size, arA_size, HL.out, noR_len]) (arA_one _) ?_
    simp only [Act.put, List.setIfInBounds_toArray, List.set_cons_succ, List.set_cons_zero]
    have hrow := setRow_heap w2 (g0 + 1 + 1) _ (arA (r.set n true)) _ _ HI2.out.o
    have HB := Lib.hid (below_setRow HI2.out.bel (by have := HI2.out.lo; omega : w.heap.size ≤ g0 + 1 + 1) (arA (r.set n true)))
    obtain ⟨wz, hwz⟩ : ∃ wz, World.setRow w2 (g0 + 1 + 1) (arA (r.set n true)) = wz := ⟨_, rfl⟩
    rw [hwz] at hrow HB
    rw [hwz]
    have HRW := Lib.hid hrow
    clear hrow hwz
    go_wp2_with fail
    exact bodyPost_ret (results_cell_row Tryz.results89 _ _ _ _ _ _ _ rfl HRW.out under8 rfl (by rw [arA_size, HL.out]; exact info8)) rfl ⟨by rw [HBE.out], HB.out⟩
end Go.Proofs.YtgkngimeokhhgaaGreatDoor
/- Two arrays of marks compared. -/
namespace Go.Proofs.YtgkngimeokhhgaaGreatDoor
open Go.RowKit

theorem part8 {s : List Bool} {k : Nat} {v : Bool} (hv : s[k]? = some v) (w : World) : (part 4 (arA s) (k * 1)).run Tryz.prog w = .ok (.bool v) w := by
  have h2 := arA_at hv
  simp [part, go_sem, h2]
theorem items8 (d : Nat) {r s : List Bool} (hr : r.length = 128) (hs : s.length = 128) (w : World) : ∀ is : List Nat, (∀ i ∈ is, i < 128) →
    (Op.eqItems (d + 1) 4 1 (arA r) (arA s) is).run Tryz.prog w = .ok (is.all fun i => bitR r i == bitR s i) w
  | [], _ => by simp [Op.eqItems]
  | i :: is, h => by
    have hi := h i (List.mem_cons_self ..)
    obtain ⟨a, ha⟩ : ∃ v, r[i]? = some v := ⟨_, List.getElem?_eq_getElem (by omega)⟩
    obtain ⟨b, hb⟩ : ∃ v, s[i]? = some v := ⟨_, List.getElem?_eq_getElem (by omega)⟩
    have ih := items8 d hr hs w is fun j hj => h j (List.mem_cons_of_mem _ hj)
    have h3 : (Op.equalIn (d + 1) 4 (.bool a) (.bool b)).run Tryz.prog w = .ok (a == b) w := run_equalIn_bool w d 4 a b Tryz.underlying4
    simp only [Op.eqItems, Sem.run_bind, part8 ha, part8 hb, h3, Result.andThen_ok]
    rw [List.all_cons, bit_some ha, bit_some hb]
    cases hab : (a == b) with
    | false => simp
    | true => simpa using ih
theorem all_bits {r s : List Bool} (hr : r.length = 128) (hs : s.length = 128) : ((List.range 128).all fun i => bitR r i == bitR s i) = decide (r = s) := by
  by_cases e : r = s
  · subst e
    rw [decide_eq_true rfl, List.all_eq_true]
    intro i _
    simp
  · rw [decide_eq_false e, List.all_eq_false]
    apply Classical.byContradiction
    intro h
    apply e
    refine bit_ext (by omega) fun n => ?_
    by_cases hn : n < 128
    · apply Classical.byContradiction
      intro h2
      exact h ⟨n, List.mem_range.2 hn, by simpa using h2⟩
    · unfold bitR
      rw [List.getD_eq_getElem?_getD, List.getD_eq_getElem?_getD, List.getElem?_eq_none (by omega), List.getElem?_eq_none (by omega)]
set_option maxRecDepth 100000 in
theorem eqIn8 {r s : List Bool} (hr : r.length = 128) (hs : s.length = 128) (w : World) : (Op.equalIn 10000 116 (.agg (arA r)) (.agg (arA s))).run Tryz.prog w = .ok (decide (r = s)) w := by
  obtain ⟨i, hi, h0, h1, h2⟩ := info_parts infoBo
  have hc : Tryz.prog.cellsOf 4 = 1 := by kernel_rfl
  have h : ∀ d : Nat, (Op.equalIn (d + 1 + 1) 116 (.agg (arA r)) (.agg (arA s))).run Tryz.prog w = .ok (decide (r = s)) w := fun d => by
    rw [run_equalIn_array w (d + 1) (arA r) (arA s) under8 hi, hc, items8 d hr hs w _ fun i hi => List.mem_range.1 hi, all_bits hr hs]
  exact h 9998
set_option maxRecDepth 100000 in
theorem guard8 {r s : List Bool} (x y : Operand) (w : World) : (eqGuard .eql 116 x y (.agg (arA r)) (.agg (arA s))).run Tryz.prog w = .ok () w := by
  have hm : Tryz.prog.eqGuardType Tryz.prog.depth 116 = false := by kernel_rfl
  simp [eqGuard, run_program, hm]
end Go.Proofs.YtgkngimeokhhgaaGreatDoor
