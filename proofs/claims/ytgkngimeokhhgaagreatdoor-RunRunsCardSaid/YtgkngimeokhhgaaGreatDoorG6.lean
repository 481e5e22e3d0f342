/- Where code that runs has its registers and its arrays: own rows of numbers, written to one by one. -/
import Derived.Test.YtgkngimeokhhgaaGreatDoorG5
import Derived.Test.YtgkngimeokhhgaaGreatDoorG3
import Derived.Test.YtgkngimeokhhgaaGreatDoorG4
import Derived.StillTail
import Derived.Deep.Quiet
import Derived.Lib.QuietBelow
namespace Go.Proofs.YtgkngimeokhhgaaGreatDoor
open Go.RowKit

/-- blocks of other types stay -/
structure KeepU (base : Nat) (w w' : World) : Prop where
  bel : Below base w w'
  blk : ∀ (b : Nat) (cs : Array Value) (t : TypeId), w.heap[b]? = some (.cells cs t (0, 0)) → t ≠ 2 → t ≠ 28 → w'.heap[b]? = some (.cells cs t (0, 0))
section
variable {base : Nat} {w w' w'' : World}
theorem KeepU.refl (base : Nat) (w : World) : KeepU base w w := ⟨Below.refl _ _, fun _ _ _ h _ _ => h⟩
theorem KeepU.trans (h : KeepU base w w') (k : KeepU base w' w'') : KeepU base w w'' := ⟨h.bel.trans k.bel, fun b cs t hb h1 h2 => k.blk b cs t (h.blk b cs t hb h1 h2) h1 h2⟩
theorem KeepU.of_below (hb : Below w.heap.size w w') (hB : base ≤ w.heap.size) : KeepU base w w' := ⟨hb.mono hB, fun _ _ _ h _ _ => keep_b hb h⟩
end
/-- registers and arrays -/
structure MsW (w : World) (base gR gA : Nat) (s : Ms) (rs : List RowU) : Prop where
  R : OwnI w base 2 (some ⟨gR, 0, none⟩) s.R.length s.R
  A : RowsU w base gA rs
  L : rs.map (·.L) = s.A
  far : ∀ r ∈ rs, r.A ≠ some ⟨gR, 0, none⟩
section
variable {w w' w4 : World} {base gR gA : Nat} {s : Ms} {rs : List RowU}
theorem MsW.len (h : MsW w base gR gA s rs) : rs.length = s.A.length := by rw [← h.L, List.length_map]
theorem MsW.on (h : MsW w base gR gA s rs) (hb : Below w.heap.size w w') : MsW w' base gR gA s rs := ⟨h.R.below hb (Nat.le_refl _), h.A.below hb (Nat.le_refl _), h.L, h.far⟩
theorem MsW.ne (h : MsW w base gR gA s rs) : gA ≠ gR := by
  obtain ⟨_, cur, hg⟩ := h.A.heap
  intro e
  subst e
  rcases h.R.1.2 with ⟨h1, _⟩ | ⟨g', cap, cur2, h1, _, h3, _⟩
  · injection h1 with h1; cases h1
  · injection h1 with h1; injection h1 with h1; injection h1 with h1
    subst h1
    rw [hg] at h3
    injection h3 with h3; injection h3 with _ h3
    exact absurd h3 (by decide)
theorem MsW.reg (h : MsW w base gR gA s rs) {i : Nat} (hi : i < s.R.length) : w.cell? ⟨gR, i, none⟩ = some (.int .i64 (s.r i)) ∧ w.frozen? ⟨gR, i, none⟩ = false := by
  refine h.R.cell_ ?_
  unfold Ms.r
  rw [Int.toNat_natCast, List.getD_eq_getElem?_getD, List.getElem?_eq_getElem hi]; rfl
theorem MsW.row (h : MsW w base gR gA s rs) {i : Nat} (hi : i < s.A.length) : ∃ r, Hid (rs[i]? = some r) ∧ r.L = s.a i ∧ OwnI w base 2 r.A r.c r.L ∧ w.cell? ⟨gA, i, none⟩ = some (.slice r.A (s.a i).length r.c) ∧ w.frozen? ⟨gA, i, none⟩ = false := by
  have hi2 : i < rs.length := by rw [h.len]; exact hi
  have hr := List.getElem?_eq_getElem hi2
  have hL : (rs[i]).L = s.a i := by
    unfold Ms.a
    rw [Int.toNat_natCast, ← h.L, List.getD_eq_getElem?_getD, List.getElem?_map, hr]; rfl
  obtain ⟨c0, c1⟩ := h.A.at_ hr
  refine ⟨rs[i], hr, hL, h.A.ins _ (List.getElem_mem hi2), ?_, c1⟩
  rw [c0, ← hL]; rfl
/-- a register is another number -/
theorem MsW.setR (h : MsW w base gR gA s rs) (i : Nat) {v : Int} (hv : I64 v) : MsW (w.setCell ⟨gR, i, none⟩ (.int .i64 v)) base gR gA (s.put i v) rs ∧ KeepU base w (w.setCell ⟨gR, i, none⟩ (.int .i64 v)) := by
  have hgs : w.grownBy (w.setCell ⟨gR, i, none⟩ (.int .i64 v)) (some gR) := (World.ownsRow.stored h.R.1 i (.int .i64 v)).2
  have hlt := h.R.ltL
  refine ⟨⟨?_, ⟨World.ownsRow.kept h.A.rows hgs (.inr (by simpa [Value.ownBlock] using h.ne)), fun r hr => (h.A.ins r hr).grownL hgs fun q hq e => ?_, h.A.apart⟩, h.L, h.far⟩, ⟨?_, fun b cs t hb h1 _ => ?_⟩⟩
  · have := h.R.set_ i v hv
    show OwnI _ base 2 _ (s.R.set (i : Int).toNat v).length (s.R.set (i : Int).toNat v)
    rw [Int.toNat_natCast, List.length_set]
    exact this
  · injection e with e
    subst e
    exact h.far r hr hq
  · exact (Below.refl _ _).setCell (p := ⟨gR, i, none⟩) hlt.1 _
  · refine (Below.heap_setCell _ ⟨gR, i, none⟩ _ _ (fun e => ?_)).trans hb
    have e : b = gR := e
    subst e
    rcases h.R.1.2 with ⟨h3, _⟩ | ⟨g', cap, cur2, h3, _, h4, _⟩
    · injection h3 with h3; cases h3
    · injection h3 with h3; injection h3 with h3; injection h3 with h3
      subst h3
      rw [hb] at h4
      injection h4 with h4; injection h4 with _ h4
      exact h1 h4
/-- a number of an array is another one -/
theorem MsW.setA (h : MsW w base gR gA s rs) {i k : Nat} {r : RowU} {v : Int} (hr : rs[i]? = some r) (hk : k < r.L.length) (hv : I64 v) :
    ∃ b, r.A = some ⟨b, 0, none⟩ ∧ w.frozen? ⟨b, k, none⟩ = false ∧ MsW (w.setCell ⟨b, k, none⟩ (.int .i64 v)) base gR gA (s.arr i ((s.a i).set k v)) (rs.set i ⟨r.A, r.c, r.L.set k v⟩) ∧ KeepU base w (w.setCell ⟨b, k, none⟩ (.int .i64 v)) := by
  obtain ⟨b, hA, hb, hne, hf, hR⟩ := h.A.cell hr hk hv
  have hbR : gR ≠ b := fun e => h.far r (List.mem_of_getElem? hr) (by rw [hA, e])
  have hrO := h.A.ins r (List.mem_of_getElem? hr)
  rw [hA] at hrO
  have hL : r.L = s.a i := by
    unfold Ms.a
    rw [Int.toNat_natCast, ← h.L, List.getD_eq_getElem?_getD, List.getElem?_map, hr]; rfl
  refine ⟨b, hA, hf, ⟨h.R.apart hbR k _, hR, ?_, fun q hq => ?_⟩, ⟨(Below.refl _ _).setCell (p := ⟨b, k, none⟩) hb _, fun b2 cs t hb2 h1 _ => ?_⟩⟩
  · rw [List.map_set, h.L, hL]
    show s.A.set i _ = s.A.set (i : Int).toNat _
    rw [Int.toNat_natCast]
  · rcases List.mem_or_eq_of_mem_set hq with hq | hq
    · exact h.far q hq
    · rw [hq]; exact h.far r (List.mem_of_getElem? hr)
  · refine (Below.heap_setCell _ ⟨b, k, none⟩ _ _ (fun e => ?_)).trans hb2
    have e : b2 = b := e
    subst e
    rcases hrO.1.2 with ⟨h3, _⟩ | ⟨g', cap, cur2, h3, _, h4, _⟩
    · injection h3 with h3; cases h3
    · injection h3 with h3; injection h3 with h3; injection h3 with h3
      subst h3
      rw [hb2] at h4
      injection h4 with h4; injection h4 with _ h4
      exact h1 h4
/-- an array has a number more -/
theorem MsW.push (h : MsW w base gR gA s rs) {i m : Nat} {r : RowU} {v : Int} {c4 : Nat} {A4 : Option Addr} (hr : rs[i]? = some r) (hm : r.L.length = m) (hO : OwnI w4 base 2 A4 c4 (r.L ++ [v])) (hG : w.grownBy w4 (Value.slice r.A m r.c).ownBlock) (hl : ∀ b, A4 = some ⟨b, 0, none⟩ → r.A = some ⟨b, 0, none⟩ ∨ w.heap.size ≤ b) :
    MsW (w4.setCell ⟨gA, i, none⟩ (.slice A4 (m + 1) c4)) base gR gA { s.arr i (s.a i ++ [v]) with ce := s.ce + 1 } (rs.set i ⟨A4, c4, r.L ++ [v]⟩) ∧ KeepU base w (w4.setCell ⟨gA, i, none⟩ (.slice A4 (m + 1) c4)) ∧ w4.cell? ⟨gA, i, none⟩ = some r.hdr ∧ w4.frozen? ⟨gA, i, none⟩ = false := by
  subst hm
  have hrm := List.mem_of_getElem? hr
  have hrO := h.A.ins r hrm
  obtain ⟨p1, p2, p3, p4, p5⟩ := h.A.put hr hO hG hl
  obtain ⟨hbg, cur, hg⟩ := h.A.heap
  have hL : r.L = s.a i := by
    unfold Ms.a
    rw [Int.toNat_natCast, ← h.L, List.getD_eq_getElem?_getD, List.getElem?_map, hr]; rfl
  have hR4 : OwnI w4 base 2 (some ⟨gR, 0, none⟩) s.R.length s.R := h.R.grownL hG fun q hq e => by
    injection hq with hq; injection hq with hq
    subst hq
    rcases hrO.1.2 with ⟨h1, _⟩ | ⟨g', cap, cur2, h1, _⟩
    · injection h1 with h1; rw [h1] at e; cases e
    · injection h1 with h1
      rw [h1] at e
      simp only [Value.ownBlock, Option.some.injEq] at e
      subst e
      exact h.far r hrm h1
  have hgne : some gA ≠ (Value.slice r.A r.L.length r.c).ownBlock := by
    intro e
    rcases hrO.1.2 with ⟨h1, _⟩ | ⟨g', cap, cur2, h1, _, h3, _⟩
    · injection h1 with h1; rw [h1] at e; cases e
    · injection h1 with h1
      rw [h1] at e
      simp only [Value.ownBlock, Option.some.injEq] at e
      subst e
      rw [hg] at h3
      injection h3 with h3; injection h3 with _ h3
      exact absurd h3 (by decide)
  have hg4 : w4.heap[gA]? = some (.cells cur 28 (0, 0)) := (hG.block gA (lt_of_heap hg) hgne).trans hg
  refine ⟨⟨hR4.other hg4 (by decide) i _, p1, ?_, fun q hq => ?_⟩, ⟨p4 base w (Nat.le_refl _) (Below.refl _ _), fun b cs t hb h1 h2 => p5 b cs t hb h1 h2⟩, p2, p3⟩
  · rw [List.map_set, h.L, hL]
    show s.A.set i _ = s.A.set (i : Int).toNat _
    rw [Int.toNat_natCast]
  · rcases List.mem_or_eq_of_mem_set hq with hq | hq
    · exact h.far q hq
    · rw [hq]
      intro e
      have e : A4 = some ⟨gR, 0, none⟩ := e
      rcases hl gR e with h1 | h1
      · exact h.far r hrm h1
      · have := h.R.ltL
        omega
end
section
variable {w W : World} {base gR gA g : Nat} {s : Ms} {rs : List RowU}
/-- what is written to a box of another type turns nothing here -/
theorem MsW.box {cs : Array Value} {t : TypeId} (h : MsW w base gR gA s rs) (hg : w.heap[g]? = some (.cells cs t (0, 0))) (h1 : t ≠ 2) (h2 : t ≠ 28) (i : Nat) (v : Value) : MsW (w.setCell ⟨g, i, none⟩ v) base gR gA s rs := by
  obtain ⟨_, cur, hA⟩ := h.A.heap
  have hne : gA ≠ g := fun e => by
    subst e
    rw [hA] at hg
    injection hg with hg; injection hg with _ hg
    exact h2 hg.symm
  have hG : w.grownBy (w.setCell ⟨g, i, none⟩ v) (some g) := ⟨rfl, rfl, rfl, by rw [World.size_setCell]; exact Nat.le_refl _, fun k _ hk => heap_setCell_other w _ k _ (fun e => hk (by rw [e]))⟩
  refine ⟨h.R.other hg (Ne.symm h1) i v, ⟨World.ownsRow.kept h.A.rows hG (.inr (by simpa [Value.ownBlock] using hne)), fun r hr => (h.A.ins r hr).other hg (Ne.symm h1) i v, h.A.apart⟩, h.L, h.far⟩
theorem KeepU.box (h : KeepU base w W) (hg : w.heap.size ≤ g) (hB : base ≤ w.heap.size) (i : Nat) (v : Value) : KeepU base w (W.setCell ⟨g, i, none⟩ v) :=
  ⟨h.bel.setCell (p := ⟨g, i, none⟩) (by show base ≤ g; omega) _, fun b cs t hb h1 h2 => (heap_setCell_other W _ b _ (by have := lt_of_heap hb; show b ≠ g; omega)).trans (h.blk b cs t hb h1 h2)⟩
theorem KeepU.below (h : KeepU base w W) (hB : base ≤ w.heap.size) {W' : World} (hb : Below W.heap.size W W') : KeepU base w W' := h.trans (KeepU.of_below hb (Nat.le_trans hB h.bel.size))
end
/-- where code stands, as it is handed on -/
@[reducible] def stV (s : Ms) (gR gA : Nat) : Value := .agg #[.int .i64 (s.at_ : Int), .slice (some ⟨gR, 0, none⟩) s.R.length s.R.length, .slice (some ⟨gA, 0, none⟩) s.A.length s.A.length, .int .i64 (s.st : Int), .int .i64 (s.ce : Int)]
@[reducible] def stO (s : Ms) (gR gA : Nat) : Obj := .cells #[.int .i64 (s.at_ : Int), .slice (some ⟨gR, 0, none⟩) s.R.length s.R.length, .slice (some ⟨gA, 0, none⟩) s.A.length s.A.length, .int .i64 (s.st : Int), .int .i64 (s.ce : Int)] 54
@[reducible] def stZ : Obj := .cells #[.int .i64 0, .slice none 0 0, .slice none 0 0, .int .i64 0, .int .i64 0] 54
end Go.Proofs.YtgkngimeokhhgaaGreatDoor
/- The program's shapes of instructions, and their parts. -/
namespace Go.Proofs.YtgkngimeokhhgaaGreatDoor
open Go.RowKit

abbrev zeroSh : Obj := .cells #[.string ⟨#[]⟩, .int .i64 0, .int .i64 0, .int .i64 0, .int .i64 0] 85
theorem cells5 {W : World} {g : Nat} {u v x y z : Value} {t : TypeId} (h : W.heap[g]? = some (.cells #[u, v, x, y, z] t (0, 0))) :
    W.cell? ⟨g, 0, none⟩ = some u ∧ W.cell? ⟨g, 1, none⟩ = some v ∧ W.cell? ⟨g, 2, none⟩ = some x ∧ W.cell? ⟨g, 3, none⟩ = some y ∧ W.cell? ⟨g, 4, none⟩ = some z ∧ W.frozen? ⟨g, 0, none⟩ = false ∧ W.frozen? ⟨g, 1, none⟩ = false ∧ W.frozen? ⟨g, 2, none⟩ = false ∧ W.frozen? ⟨g, 3, none⟩ = false ∧ W.frozen? ⟨g, 4, none⟩ = false :=
  ⟨by simpa using cell_of_row _ _ 0 _ t (0, 0) h, by simpa using cell_of_row _ _ 1 _ t (0, 0) h, by simpa using cell_of_row _ _ 2 _ t (0, 0) h, by simpa using cell_of_row _ _ 3 _ t (0, 0) h, by simpa using cell_of_row _ _ 4 _ t (0, 0) h, by simp [World.frozen?, h], by simp [World.frozen?, h], by simp [World.frozen?, h], by simp [World.frozen?, h], by simp [World.frozen?, h]⟩
theorem five_cells {w : World} {g : Nat} {a b c d e : Value} {t : TypeId} (h : w.heap[g]? = some (.cells #[a, b, c, d, e] t (0, 0))) (x0 x1 x2 x3 x4 : Value) :
    (((((w.setCell ⟨g, 0, none⟩ x0).setCell ⟨g, 1, none⟩ x1).setCell ⟨g, 2, none⟩ x2).setCell ⟨g, 3, none⟩ x3).setCell ⟨g, 4, none⟩ x4).heap[g]? = some (.cells #[x0, x1, x2, x3, x4] t (0, 0)) := by
  have h1 := set_j (i := 0) (cs := [a, b, c, d, e]) h x0
  have h2 := set_j (i := 1) (cs := [x0, b, c, d, e]) h1 x1
  have h3 := set_j (i := 2) (cs := [x0, x1, c, d, e]) h2 x2
  have h4 := set_j (i := 3) (cs := [x0, x1, x2, d, e]) h3 x3
  exact set_j (i := 4) (cs := [x0, x1, x2, x3, e]) h4 x4
/-- five cells of a block of the call's own, written -/
def put5 (w : World) (g : Nat) (x0 x1 x2 x3 x4 : Value) : World := ((((w.setCell ⟨g, 0, none⟩ x0).setCell ⟨g, 1, none⟩ x1).setCell ⟨g, 2, none⟩ x2).setCell ⟨g, 3, none⟩ x3).setCell ⟨g, 4, none⟩ x4
theorem put5_below {w0 w : World} {B g : Nat} (h : Below B w0 w) (hg : B ≤ g) (x0 x1 x2 x3 x4 : Value) : Below B w0 (put5 w g x0 x1 x2 x3 x4) :=
  ((((h.setCell (p := ⟨g, 0, none⟩) hg _).setCell (p := ⟨g, 1, none⟩) hg _).setCell (p := ⟨g, 2, none⟩) hg _).setCell (p := ⟨g, 3, none⟩) hg _).setCell (p := ⟨g, 4, none⟩) hg _
theorem put5_other {w : World} {g j : Nat} (hj : j ≠ g) (x0 x1 x2 x3 x4 : Value) : (put5 w g x0 x1 x2 x3 x4).heap[j]? = w.heap[j]? := by
  unfold put5
  rw [Below.heap_setCell _ ⟨g, 4, none⟩ _ _ hj, Below.heap_setCell _ ⟨g, 3, none⟩ _ _ hj, Below.heap_setCell _ ⟨g, 2, none⟩ _ _ hj, Below.heap_setCell _ ⟨g, 1, none⟩ _ _ hj, Below.heap_setCell _ ⟨g, 0, none⟩ _ _ hj]
theorem shapeOf_end {w W0 : World} (HB0 : Below w.heap.size w W0) (_h : W0.heap[w.heap.size]? = some (.cells #[.string ⟨#[]⟩, .int .i64 0, .int .i64 0, .int .i64 0, .int .i64 0] 85 (0, 0))) {op : Int} {x0 x1 x2 x3 x4 : Value} (b : Bool) (hv : shV op = .agg #[x0, x1, x2, x3, x4]) (hb : isOp op = b) :
    ShapeP op w (.returned (.tuple #[.agg #[x0, x1, x2, x3, x4], .bool b])) (put5 W0 w.heap.size x0 x1 x2 x3 x4) := by
  unfold ShapeP
  rw [hv, hb]
  exact ⟨rfl, put5_below HB0 (Nat.le_refl _) _ _ _ _ _⟩
set_option maxRecDepth 100000 in
set_option maxHeartbeats 2000000 in
theorem shapeOf_any (op : Int) (w : World) (hS : ShT w) : Calls Tryz.prog 66 #[.int .i64 op] w (ShapeP op w) := by
  have hb1 := (Below.refl w.heap.size w).alloc (Nat.le_refl _) zeroSh
  have HS := Lib.hid (hS _ hb1)
  obtain ⟨W0, hW0⟩ : ∃ W, w.alloc zeroSh = W := ⟨_, rfl⟩
  have HB0 : Hid (Below w.heap.size w W0) := by rw [← hW0]; exact hb1
  have HX : Hid (W0.heap[w.heap.size]? = some (.cells #[.string ⟨#[]⟩, .int .i64 0, .int .i64 0, .int .i64 0, .int .i64 0] 85 (0, 0))) := by rw [← hW0]; exact heap_alloc_new w zeroSh
  rw [hW0] at HS
  clear hb1 hS
  obtain ⟨b0, b1, b2, b3, b4, f0, f1, f2, f3, f4⟩ := cells5 HX.out
  by_cases h : op < 0 ∨ 12 < op
  · have e1 : wJ op = [] := by unfold wJ; rw [if_neg (by omega)]
    have e2 : ∀ j, j < 4 → kA op j = 0 := fun j hj => by
      unfold kA kN
      rw [if_neg (by omega)]
      match j, hj with
      | 0, _ => rfl
      | 1, _ => rfl
      | 2, _ => rfl
      | 3, _ => rfl
    have hd := fun b hb => shapeOf_end (op := op) HB0.out HX.out b (show shV op = .agg #[.string ⟨#[]⟩, .int .i64 0, .int .i64 0, .int .i64 0, .int .i64 0] by unfold shV; rw [e1, e2 0 (by omega), e2 1 (by omega), e2 2 (by omega), e2 3 (by omega)]; rfl) hb
    have hd := hd false (decide_eq_false (by omega))
    have hs := five_cells HX.out (.string ⟨#[]⟩) (.int .i64 0) (.int .i64 0) (.int .i64 0) (.int .i64 0)
    obtain ⟨s0, s1, s2, s3, s4, _⟩ := cells5 hs
    have HD := Lib.hid hd
    have HSS := Lib.hid (And.intro s0 (And.intro s1 (And.intro s2 (And.intro s3 s4))))
    have hc : decide (op < 0) = true ∨ (decide (op < 0) = false ∧ decide (13 ≤ op) = true) := by
      by_cases h0 : op < 0
      · exact .inl (decide_eq_true h0)
      · exact .inr ⟨decide_eq_false h0, decide_eq_true (by omega)⟩
    clear h hd e1 e2 hs s0 s1 s2 s3 s4
    rcases hc with hc | ⟨hc, hc2⟩
    all_goals
      go_enter Tryz.func66, Tryz.ntmps66
      go_upto_region 1 with fail
      try rw [hW0]
      go_wp2_with fail
      obtain ⟨s0, s1, s2, s3, s4⟩ := HSS.out
      exact bodyPost_ret (v := .tuple #[.agg #[.string ⟨#[]⟩, .int .i64 0, .int .i64 0, .int .i64 0, .int .i64 0], .bool false]) (by simp [results, Tryz.results66, go_sem, s0, s1, s2, s3, s4]) rfl HD.out
  · obtain ⟨k, rfl⟩ : ∃ k : Nat, op = (k : Int) := ⟨op.toNat, by omega⟩
    have hk : k < 13 := by omega
    obtain ⟨c0, c1, c2, c3, c4⟩ := HS.out.row hk
    have hd := shapeOf_end (op := (k : Int)) HB0.out HX.out true rfl (decide_eq_true (by omega))
    have hs := five_cells HX.out (.string (strJ (wJ (k : Int)))) (.int .i64 (kA (k : Int) 0)) (.int .i64 (kA (k : Int) 1)) (.int .i64 (kA (k : Int) 2)) (.int .i64 (kA (k : Int) 3))
    obtain ⟨s0, s1, s2, s3, s4, _⟩ := cells5 hs
    have HD := Lib.hid hd
    have HSS := Lib.hid (And.intro s0 (And.intro s1 (And.intro s2 (And.intro s3 s4))))
    have d0 : decide ((k : Int) < 0) = false := decide_eq_false (by omega)
    have d1 : decide (13 ≤ (k : Int)) = false := decide_eq_false (by omega)
    have hk2 : (k : Int) < 13 := by omega
    clear h hd hs s0 s1 s2 s3 s4
    go_enter Tryz.func66, Tryz.ntmps66
    go_upto_region 1 with fail
    try rw [hW0]
    go_wp2_with fail
    obtain ⟨s0, s1, s2, s3, s4⟩ := HSS.out
    exact bodyPost_ret (v := .tuple #[shV (k : Int), .bool true]) (by unfold shV; simp [results, Tryz.results66, go_sem, s0, s1, s2, s3, s4]) rfl HD.out
end Go.Proofs.YtgkngimeokhhgaaGreatDoor
/- A region of code that draws its order of evaluation, whose operations up to the last ones only read and call (what they call lays new blocks at most): one walk in the text's order serves every order; the last ones are walked behind it, in whatever world the class allows. Nothing is claimed of the program here. -/
namespace Go.Proofs.YtgkngimeokhhgaaGreatDoor
open Go.Sort Go.RowKit

section
variable {P : Program} {ops : Array Oper} {md : Region.Mode} {C : World → Prop}
/-- whatever order of the first n operations is picked, each of them is quiet in the class -/
def headQ (P : Program) (md : Region.Mode) (ops : Array Oper) (C : World → Prop) (n : Nat) (L : Array Bool → Act → Prop) : Nat → Array Bool → Act → Prop
  | 0, listed, a => L listed a
  | f + 1, listed, a => Region.ready md ops listed ≠ [] ∧ ∀ i ∈ Region.ready md ops listed, i < n ∧ qOp P ops C i (headQ P md ops C n L f (listed.setIfInBounds i true)) a
theorem any_of_headQ {n g : Nat} {L : Array Bool → Act → Prop} {Q' : Exit → Act → World → Prop} (hL : ∀ listed a w, C w → L listed a → wpAny P md ops Q' g listed a w) :
    ∀ (f : Nat) (listed : Array Bool) (a : Act) (w : World), C w → headQ P md ops C n L f listed a → wpAny P md ops Q' (f + g) listed a w := by
  intro f
  induction f with
  | zero => intro listed a w hw h; rw [Nat.zero_add]; exact hL _ _ _ hw h
  | succ f ih =>
    intro listed a w hw h
    rw [show f + 1 + g = (f + g) + 1 by omega]
    exact ⟨fun h0 => absurd h0 h.1, fun i hi => wpOp_of_qOp hw (fun a' w' hw' h' => ih _ a' w' hw' h') (h.2 i hi).2⟩
theorem headQ_first {n i : Nat} {oi : Oper} {v : Value} {L : Array Bool → Act → Prop} (hi : ops[i]? = some oi) (hsel : ∀ (j : Nat) (o : Oper) cs b, ops[j]? = some o → o.op ≠ .select cs b)
    (hs : Region.sinkB md ops n = true) (hc : Region.chainB md ops n = true) (hn : n < ops.size) (hin : i < n)
    (hdone : ∀ listed a, L listed a → ∀ j ∈ Region.ready md ops listed, n ≤ j) (f : Nat) :
    ∀ (listed : Array Bool) (a : Act), HeadInv md ops n listed →
      (∀ j oj, ops[j]? = some oj → j ≠ i → listed.getD j true = false → (∀ e ∈ oj.after, Region.binds md e = true → e.on ≠ i) → oi.apart ops oj = true) →
      i ∈ Region.ready md ops listed → YieldsIn P ops C oi v a →
      headQ P md ops C n L f (listed.setIfInBounds i true) (a.put oi.dst v) → headQ P md ops C n L (f + 1) listed a := by
  induction f with
  | zero =>
    intro listed a inv _ hr hy H
    have hun := (mem_ready.1 hr).1
    refine ⟨fun h => (by rw [h] at hr; cases hr), fun j hj => ?_⟩
    have hjn : j < n := Nat.lt_of_not_le fun h => tail_waits hs hc hn inv _ i rfl hin hun j h hj
    refine ⟨hjn, ?_⟩
    by_cases hji : j = i
    · subst hji; exact hy.qOp hi H
    · have := hdone _ _ H j (ready_mono hj hji)
      omega
  | succ f ih =>
    intro listed a inv hfree hr hy H
    have hun := (mem_ready.1 hr).1
    refine ⟨fun h => (by rw [h] at hr; cases hr), fun j hj => ?_⟩
    have hjn : j < n := Nat.lt_of_not_le fun h => tail_waits hs hc hn inv _ i rfl hin hun j h hj
    refine ⟨hjn, ?_⟩
    by_cases hji : j = i
    · subst hji; exact hy.qOp hi H
    · obtain ⟨hjun, oj, hoj, hall⟩ := mem_ready.1 hj
      have hnot : ∀ e ∈ oj.after, Region.binds md e = true → e.on ≠ i := fun e he hb heq => by
        have h1 := hall e he hb
        rw [heq, getD_both hun] at h1
        cases h1
      have h2 := qOp_put hoj (hfree j oj hoj hji hjun hnot) (fun cs b => hsel i oi cs b hi) (fun cs b => hsel j oj cs b hoj) hy (H.2 j (ready_mono hj hji)).2
      refine qOp_mono (fun a' h3 => ih (listed.setIfInBounds j true) a' (inv.set hj hjn) (fun k ok hk hki hk2 hno => hfree k ok hk hki ?_ hno) (ready_mono hr (Ne.symm hji)) h3.1 ?_) h2
      · by_cases hjk : j = k
        · subst hjk; exact hjun
        · rw [getD_set_ne true hjk] at hk2; exact hk2
      · rw [Array.setIfInBounds_comm _ _ hji]
        exact h3.2
theorem headQ_lex {n g : Nat} {Lq : Act → Prop} (hsel : Region.noSelect ops = true) (hs : Region.sinkB md ops n = true) (hc : Region.chainB md ops n = true) (hn : n < ops.size) (l : List Oper) :
    ∀ (k : Nat) (listed : Array Bool) (a : Act), (∀ j, j < l.length → l[j]? = ops[k + j]?) → k + l.length = n → HeadInv md ops n listed →
    Region.lexHead md ops g l.length k listed = true → wpQuiet P ops C Lq l a →
    headQ P md ops C n (fun listed' a' => Region.seqB md ops g n listed' = true ∧ Lq a') l.length listed a := by
  induction l with
  | nil =>
    intro k listed a _ hk _ hB h
    have : k = n := by simpa using hk
    subst this
    exact ⟨by simpa [Region.lexHead] using hB, h⟩
  | cons o l ih =>
    intro k listed a hl hk inv hB h
    have h0 : ops[k]? = some o := by simpa using (hl 0 (by simp)).symm
    simp only [List.length_cons, Region.lexHead, Bool.and_eq_true] at hB
    obtain ⟨⟨hr, hf⟩, hB'⟩ := hB
    have hkn : k < n := by simp only [List.length_cons] at hk; omega
    have hr' : k ∈ Region.ready md ops listed := by simpa using hr
    have hst : qOp P ops C k (wpQuiet P ops C Lq l) a := by unfold qOp; simp only [h0]; exact h
    obtain ⟨v, hy, hK⟩ := yieldsIn_of_qOp h0 hst
    refine headQ_first h0 (Region.noSelect_spec hsel) hs hc hn hkn (fun listed' a' hL => seqB_ready hL.1) l.length listed a inv (Region.free_spec h0 hf) hr' hy ?_
    exact ih (k + 1) _ _ (fun j hj => by have := hl (j + 1) (by simp; omega); simpa [Nat.add_assoc, Nat.add_comm 1 j] using this) (by simp only [List.length_cons] at hk; omega) (inv.set hr' hkn) hB' hK
theorem wp_region_quiet_tail {id : Nat} {Q : Exit → Act → World → Prop} {a : Act} {w : World} {l : List Oper} (n : Nat) (hm : P.follows .mixedOrders = true) (hB : Region.lexTailB .any l.toArray n = true) (hC : C { w with drawn := w.drawn + 1 })
    (h : wpQuiet P l.toArray C (fun a' => ∀ w', C w' → wpList P l.toArray Q (l.drop n) a' w') (l.take n) a) : (Code.region id l.toArray true).wp P Q a w := by
  simp only [Region.lexTailB, Bool.and_eq_true, decide_eq_true_eq] at hB
  obtain ⟨⟨⟨⟨hsel, hn⟩, hs⟩, hc⟩, hlex⟩ := hB
  have htl : (l.take n).length = n := by
    have hn' : n < l.length := by simpa using hn
    simp; omega
  have hdl : (l.drop n).length = l.toArray.size - n := by simp
  have inv0 : HeadInv .any l.toArray n (Array.replicate l.toArray.size false) :=
    ⟨by simp, fun j oj _ hl => (by rw [getD_replicate_false] at hl; cases hl), fun t _ ht => getD_in (by simpa using ht) (getD_replicate_false _ _)⟩
  have H := headQ_lex (md := .any) (g := l.toArray.size - n) hsel hs hc hn (l.take n) 0 _ a (fun j hj => by
    have hj' : j < n := by rw [htl] at hj; exact hj
    simp [hj']) (by simpa using htl) inv0 (by rw [htl]; exact hlex) h
  refine wp_region_any hm ?_
  have := any_of_headQ (Q' := Q) (g := l.toArray.size - n) (fun listed a' w' hw' hL => by
    have := wpAny_of_seq (md := .any) (Q' := Q) (l.drop n) n listed a' w' (fun j => by simp [List.getElem?_drop]) (by rw [hdl]; exact hL.1) (hL.2 w' hw')
    rwa [hdl] at this) _ _ _ _ hC H
  rw [htl, show n + (l.toArray.size - n) = l.toArray.size by omega] at this
  exact this
/-- at the class 'new blocks at most' -/
theorem wp_region_below_tail {id : Nat} {Q : Exit → Act → World → Prop} {a : Act} {w : World} {l : List Oper} (n : Nat) (hm : P.follows .mixedOrders = true) (hB : Region.lexTailB .any l.toArray n = true)
    (h : wpQuiet P l.toArray (fun w' => ∃ p : Regrown, w' = grow (redrawn w p.d) p.os) (fun a' => ∀ w', (∃ p : Regrown, w' = grow (redrawn w p.d) p.os) → wpList P l.toArray Q (l.drop n) a' w') (l.take n) a) : (Code.region id l.toArray true).wp P Q a w :=
  wp_region_quiet_tail (C := fun w' => ∃ p : Regrown, w' = grow (redrawn w p.d) p.os) n hm hB ⟨⟨w.drawn + 1, #[]⟩, by rw [grow_empty]; rfl⟩ h
end
end Go.Proofs.YtgkngimeokhhgaaGreatDoor
