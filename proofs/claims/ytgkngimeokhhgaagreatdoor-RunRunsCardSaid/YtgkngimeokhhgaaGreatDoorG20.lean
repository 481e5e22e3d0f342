/- How the program follows ways through code: where its variables lie, what a step of it turns. -/
import Derived.Test.YtgkngimeokhhgaaGreatDoorG19
import Derived.Test.YtgkngimeokhhgaaGreatDoorG9
import Derived.Test.YtgkngimeokhhgaaGreatDoorG4
import Derived.StillTail
import Derived.StillTailTactics
import Derived.Lib.QuietBelow
namespace Go.Proofs.YtgkngimeokhhgaaGreatDoor
open Go.RowKit

structure FolB where
  bR : Nat
  bA : Nat
  bO : Nat
  gR : Nat
  gA : Nat
  base : Nat
  n : Nat
def opI (op : List Nat) : List Int := op.map fun k : Nat => (k : Int)
theorem opI_len (op : List Nat) : (opI op).length = op.length := by unfold opI; rw [List.length_map]
theorem opI_app (op : List Nat) (k : Nat) : opI (op ++ [k]) = opI op ++ [(k : Int)] := by unfold opI; rw [List.map_append]; rfl
/-- the variables of follow: what is marked, what is set, the pile -/
structure FolW (b : FolB) (w : World) (o : List Bool) (rows : List (List Bool)) (A : Option Addr) (c : Nat) (op : List Nat) : Prop where
  hbR : w.heap[b.bR]? = some (.cells #[.slice (some ⟨b.gR, 0, none⟩) b.n b.n] 108 (0, 0))
  hbA : w.heap[b.bA]? = some (.cells #[.slice (some ⟨b.gA, 0, none⟩) b.n b.n] 109 (0, 0))
  hbO : w.heap[b.bO]? = some (.cells #[.slice A op.length c] 36 (0, 0))
  mR : BoB w b.gR o
  mA : RwB w b.gA rows
  own : OwnI w b.base 3 A c (opI op)
  lt : b.bR < b.base ∧ b.bA < b.base ∧ b.bO < b.base ∧ b.gR < b.base ∧ b.gA < b.base
  sz : b.base ≤ w.heap.size
theorem heap_ne {w : World} {a b : Nat} {c d : Array Value} {s t : TypeId} {f g : Nat × Nat} (h : w.heap[a]? = some (.cells c s f)) (k : w.heap[b]? = some (.cells d t g)) (hn : s ≠ t) : a ≠ b := by
  intro e
  subst e
  rw [h] at k
  injection k with k
  injection k with _ k _
  exact hn k
theorem one_cell {w : World} {g : Nat} {v : Value} {t : TypeId} (h : w.heap[g]? = some (.cells #[v] t (0, 0))) : w.cell? ⟨g, 0, none⟩ = some v ∧ w.frozen? ⟨g, 0, none⟩ = false :=
  ⟨by rw [cell_of_row w g 0 _ _ (0, 0) h]; rfl, frozen_of_row w g 0 _ _ h⟩
section
variable {b : FolB} {w w' : World} {o : List Bool} {rows : List (List Bool)} {A : Option Addr} {c : Nat} {op : List Nat}
theorem FolW.on (h : FolW b w o rows A c op) (hb : Below w.heap.size w w') : FolW b w' o rows A c op :=
  ⟨keep_b hb h.hbR, keep_b hb h.hbA, keep_b hb h.hbO, keep_b hb h.mR, keep_b hb h.mA, h.own.below hb (Nat.le_refl _), h.lt, Nat.le_trans h.sz hb.size⟩
theorem FolW.ne (h : FolW b w o rows A c op) : b.gR ≠ b.gA ∧ b.bR ≠ b.gR ∧ b.bR ≠ b.gA ∧ b.bA ≠ b.gR ∧ b.bA ≠ b.gA ∧ b.bO ≠ b.gR ∧ b.bO ≠ b.gA ∧ b.bO ≠ b.bR ∧ b.bO ≠ b.bA :=
  ⟨heap_ne h.mR h.mA (by decide), heap_ne h.hbR h.mR (by decide), heap_ne h.hbR h.mA (by decide), heap_ne h.hbA h.mR (by decide), heap_ne h.hbA h.mA (by decide), heap_ne h.hbO h.mR (by decide), heap_ne h.hbO h.mA (by decide), heap_ne h.hbO h.hbR (by decide), heap_ne h.hbO h.hbA (by decide)⟩
end
/-- what a step keeps: all but the marks, what is set, the pile -/
structure KeptF (b : FolB) (A : Option Addr) (w w' : World) : Prop where
  os : w'.os = w.os
  tape : w'.tape = w.tape
  output : w'.output = w.output
  size : w.heap.size ≤ w'.heap.size
  blk : ∀ k, k < w.heap.size → k ≠ b.gR → k ≠ b.gA → k ≠ b.bO → (∀ g, A = some ⟨g, 0, none⟩ → k ≠ g) → w'.heap[k]? = w.heap[k]?
theorem KeptF.of_below {b : FolB} {A : Option Addr} {w w' : World} (h : Below w.heap.size w w') : KeptF b A w w' := ⟨h.os, h.tape, h.output, h.size, fun k hk _ _ _ _ => h.block k hk⟩
theorem KeptF.trans {b : FolB} {A : Option Addr} {w w1 w2 : World} (h : KeptF b A w w1) (k : KeptF b A w1 w2) : KeptF b A w w2 :=
  ⟨k.os.trans h.os, k.tape.trans h.tape, k.output.trans h.output, Nat.le_trans h.size k.size, fun i hi h1 h2 h3 h4 => (k.blk i (Nat.lt_of_lt_of_le hi h.size) h1 h2 h3 h4).trans (h.blk i hi h1 h2 h3 h4)⟩
/-- the two stores -/
structure TwoW (b : FolB) (W w' : World) (o : List Bool) (rows : List (List Bool)) : Prop where
  os : w'.os = W.os
  tape : w'.tape = W.tape
  output : w'.output = W.output
  size : w'.heap.size = W.heap.size
  blk : ∀ k, k ≠ b.gR → k ≠ b.gA → w'.heap[k]? = W.heap[k]?
  mR : BoB w' b.gR o
  mA : RwB w' b.gA rows
theorem TwoW.kept {b : FolB} {A : Option Addr} {W w' : World} {o : List Bool} {rows : List (List Bool)} (h : TwoW b W w' o rows) : KeptF b A W w' :=
  ⟨h.os, h.tape, h.output, by rw [h.size]; exact Nat.le_refl _, fun k _ h1 h2 _ _ => h.blk k h1 h2⟩
theorem own_same {w w' : World} {base c : Nat} {e : TypeId} {A : Option Addr} {xs : List Int} (h : OwnI w base e A c xs) (hk : ∀ g, A = some ⟨g, 0, none⟩ → w'.heap[g]? = w.heap[g]?) : OwnI w' base e A c xs := by
  refine ⟨?_, h.2⟩
  rcases h.1.2 with ⟨h1, h2⟩ | ⟨g, cap, cur, h1, h2, h3, h4, h5⟩
  · exact ⟨h.1.1, .inl ⟨h1, h2⟩⟩
  · injection h1 with h1 _ hc
    have := hk g h1
    exact ⟨h.1.1, .inr ⟨g, cap, cur, by rw [h1, hc], h2, by rw [this]; exact h3, h4, h5⟩⟩
theorem TwoW.fol {b : FolB} {W w' : World} {o o2 : List Bool} {rows rows2 : List (List Bool)} {A : Option Addr} {c : Nat} {op : List Nat} (h : TwoW b W w' o2 rows2) (hF : FolW b W o rows A c op) : FolW b w' o2 rows2 A c op := by
  obtain ⟨n1, n2, n3, n4, n5, n6, n7, _, _⟩ := hF.ne
  obtain ⟨_, _, _, l4, l5⟩ := hF.lt
  refine ⟨(h.blk _ n2 n3).trans hF.hbR, (h.blk _ n4 n5).trans hF.hbA, (h.blk _ n6 n7).trans hF.hbO, h.mR, h.mA, own_same hF.own (fun g hg => ?_), hF.lt, by rw [h.size]; exact hF.sz⟩
  have hO := hF.own
  rw [hg] at hO
  have := hO.ltL
  exact h.blk g (by omega) (by omega)
theorem own_from {w : World} {base c p : Nat} {e : TypeId} {A : Option Addr} {xs : List Int} (h : OwnI w base e A c xs) : ∀ k, (Value.slice A p c).ownBlock = some k → A = some ⟨k, 0, none⟩ ∧ base ≤ k := by
  intro k hk
  rcases h.1.2 with ⟨h1, _⟩ | ⟨g', cap, cur, h1, h2, _⟩
  · injection h1 with h1; rw [h1] at hk; cases hk
  · injection h1 with h1
    rw [h1] at hk
    simp only [Value.ownBlock, Option.some.injEq] at hk
    subst hk
    exact ⟨h1, h2⟩
/-- one more on the pile -/
theorem FolW.add {b : FolB} {W w5 : World} {o : List Bool} {rows : List (List Bool)} {A A5 : Option Addr} {c c5 k p : Nat} {op : List Nat} {ob : Obj} (h : FolW b W o rows A c op) (hp : op.length = p) (hO : OwnI w5 b.base 3 A5 c5 (opI op ++ [(k : Int)])) (hG : (W.alloc ob).grownBy w5 (Value.slice A p c).ownBlock) :
    FolW b (w5.setCell ⟨b.bO, 0, none⟩ (.slice A5 (p + 1) c5)) o rows A5 c5 (op ++ [k]) ∧ KeptF b A W (w5.setCell ⟨b.bO, 0, none⟩ (.slice A5 (p + 1) c5)) := by
  subst hp
  obtain ⟨n1, n2, n3, n4, n5, n6, n7, n8, n9⟩ := h.ne
  obtain ⟨l1, l2, l3, l4, l5⟩ := h.lt
  have hr := own_from (p := op.length) h.own
  have hs := h.sz
  have hb0 : Below W.heap.size W (W.alloc ob) := lvBelow W ob
  have hb1 : Below b.base W w5 := (hb0.mono hs).grown hG (Nat.le_trans hs hb0.size) fun k hk => (hr k hk).2
  have hk1 : ∀ k, k < b.base → w5.heap[k]? = W.heap[k]? := hb1.block
  have hbO : w5.heap[b.bO]? = _ := (hk1 _ l3).trans h.hbO
  have hst : (w5.setCell ⟨b.bO, 0, none⟩ (.slice A5 (op.length + 1) c5)).heap[b.bO]? = some (.cells #[.slice A5 (op.length + 1) c5] 36 (0, 0)) := by
    rw [heap_setCell_same w5 b.bO 0 _ _ _ hbO]
    rfl
  have hot : ∀ k, k ≠ b.bO → (w5.setCell ⟨b.bO, 0, none⟩ (.slice A5 (op.length + 1) c5)).heap[k]? = w5.heap[k]? := fun k hk => heap_setCell_other w5 _ k _ hk
  refine ⟨⟨(hot _ n8.symm).trans ((hk1 _ l1).trans h.hbR), (hot _ n9.symm).trans ((hk1 _ l2).trans h.hbA), ?_, (hot _ n6.symm).trans ((hk1 _ l4).trans h.mR), (hot _ n7.symm).trans ((hk1 _ l5).trans h.mA), ?_, h.lt, ?_⟩, ⟨hb1.os, hb1.tape, hb1.output, ?_, fun k hk _ _ h3 h4 => ?_⟩⟩
  · rw [List.length_append, List.length_singleton]; exact hst
  · rw [opI_app]
    exact hO.far l3 0 _
  · rw [World.size_setCell]; exact Nat.le_trans hs hb1.size
  · rw [World.size_setCell]; exact hb1.size
  · rw [hot k h3, hG.block k (by rw [World.size_alloc]; omega) (fun e => h4 k (hr k e.symm).1 rfl)]
    exact hb0.block k hk
/-- a region that calls, and stores what it is told in a box behind -/
structure StJ (W : World) (N s g : Nat) (F : Nat → Value) (zr st : List Bool) (D : Nat → Bool) (vs : Nat → Value) (w' : World) : Prop where
  bel : Below W.heap.size W w'
  gl : W.heap.size ≤ g
  vals : ∀ i, i < N → i ≠ s → D i = true → vs i = F i
  box : ArB w' g (if D s = true then st else zr)
  ord : D s = true → D 0 = true
section
variable {W w' w'' : World} {N s g : Nat} {F : Nat → Value} {zr st : List Bool} {D D' : Nat → Bool} {vs : Nat → Value}
theorem StJ.step (h : StJ W N s g F zr st D vs w') {i : Nat} (hs : i ≠ s) (hb : Below w'.heap.size w' w'') (hD : ∀ j, j ≠ i → D' j = D j) (hDi : D' i = true) : StJ W N s g F zr st D' (fun j => if j = i then F i else vs j) w'' := by
  refine ⟨h.bel.trans (hb.mono h.bel.size), h.gl, fun j hj js hd => ?_, ?_, fun hd => ?_⟩
  · by_cases e : j = i
    · subst e; exact if_pos rfl
    · show (if j = i then F i else vs j) = _
      rw [if_neg e]
      exact h.vals j hj js (by rw [← hD j e]; exact hd)
  · rw [hD s (Ne.symm hs)]
    exact keep_b hb h.box
  · rw [hD s (Ne.symm hs)] at hd
    by_cases e : 0 = i
    · rw [e]; exact hDi
    · rw [hD 0 e]; exact h.ord hd
theorem StJ.store (h : StJ W N s g F zr st D vs w') (hb : Below W.heap.size W w' → Below W.heap.size W w'') (hx : ArB w'' g st) (h0 : D 0 = true) (hs0 : 0 ≠ s) (u : Value) (hD : ∀ j, j ≠ s → D' j = D j) (hDs : D' s = true) : StJ W N s g F zr st D' (fun j => if j = s then u else vs j) w'' := by
  refine ⟨hb h.bel, h.gl, fun j hj js hd => ?_, by rw [if_pos hDs]; exact hx, fun _ => by rw [hD 0 hs0]; exact h0⟩
  show (if j = s then u else vs j) = _
  rw [if_neg js]
  exact h.vals j hj js (by rw [← hD j js]; exact hd)
theorem StJ.same (h : StJ W N s g F zr st D vs w') (hsN : s < N) (hD : ∀ i, i < N → D i = D' i) : StJ W N s g F zr st D' vs w' := by
  refine ⟨h.bel, h.gl, fun j hj js hd => h.vals j hj js (by rw [hD j hj]; exact hd), by rw [← hD s hsN]; exact h.box, fun hd => ?_⟩
  rw [← hD 0 (by omega)]
  exact h.ord (by rw [hD s hsN]; exact hd)
end
/-- a region that marks, and tells what is set -/
structure TwoJ (b : FolB) (W : World) (F : Nat → Value) (o o2 : List Bool) (rows rows2 : List (List Bool)) (D : Nat → Bool) (vs : Nat → Value) (w' : World) : Prop where
  vals : ∀ i, i < 9 → i ≠ 6 → i ≠ 8 → D i = true → vs i = F i
  two : TwoW b W w' (if D 6 = true then o2 else o) (if D 8 = true then rows2 else rows)
section
variable {b : FolB} {W w' w'' : World} {F : Nat → Value} {o o2 : List Bool} {rows rows2 : List (List Bool)} {D D' : Nat → Bool} {vs : Nat → Value}
theorem TwoJ.step (h : TwoJ b W F o o2 rows rows2 D vs w') {i : Nat} (h6 : i ≠ 6) (h8 : i ≠ 8) (hD : ∀ j, j ≠ i → D' j = D j) : TwoJ b W F o o2 rows rows2 D' (fun j => if j = i then F i else vs j) w' := by
  refine ⟨fun j hj j6 j8 hd => ?_, by rw [hD 6 (Ne.symm h6), hD 8 (Ne.symm h8)]; exact h.two⟩
  by_cases e : j = i
  · subst e; exact if_pos rfl
  · show (if j = i then F i else vs j) = _
    rw [if_neg e]
    exact h.vals j hj j6 j8 (by rw [← hD j e]; exact hd)
theorem TwoJ.mark (h : TwoJ b W F o o2 rows rows2 D vs w') (hne : b.gR ≠ b.gA) (hDi : D 6 = false) {k : Nat} (ho2 : o2 = o.set k true) (u : Value) (hD : ∀ j, j ≠ 6 → D' j = D j) (hDs : D' 6 = true) : TwoJ b W F o o2 rows rows2 D' (fun j => if j = 6 then u else vs j) (w'.setCell ⟨b.gR, k, none⟩ (.bool true)) := by
  have ht := h.two
  rw [hDi, if_neg (show ¬(false = true) by decide)] at ht
  refine ⟨fun j hj j6 j8 hd => ?_, ?_⟩
  · show (if j = 6 then u else vs j) = _
    rw [if_neg j6]
    exact h.vals j hj j6 j8 (by rw [← hD j j6]; exact hd)
  · rw [if_pos hDs, hD 8 (by decide)]
    have hot : ∀ q, q ≠ b.gR → (w'.setCell ⟨b.gR, k, none⟩ (.bool true)).heap[q]? = w'.heap[q]? := fun q hq => heap_setCell_other w' _ q _ hq
    exact ⟨ht.os, ht.tape, ht.output, by rw [World.size_setCell]; exact ht.size, fun q h1 h2 => (hot q h1).trans (ht.blk q h1 h2), by rw [ho2]; exact ht.mR.set k true, (hot _ (Ne.symm hne)).trans ht.mA⟩
theorem TwoJ.tell (h : TwoJ b W F o o2 rows rows2 D vs w') (hne : b.gR ≠ b.gA) (hDi : D 8 = false) (u : Value) (hD : ∀ j, j ≠ 8 → D' j = D j) (hDs : D' 8 = true) : TwoJ b W F o o2 rows rows2 D' (fun j => if j = 8 then u else vs j) (rowPut w' b.gA rows2) := by
  have ht := h.two
  rw [hDi, if_neg (show ¬(false = true) by decide)] at ht
  refine ⟨fun j hj j6 j8 hd => ?_, ?_⟩
  · show (if j = 8 then u else vs j) = _
    rw [if_neg j8]
    exact h.vals j hj j6 j8 (by rw [← hD j j8]; exact hd)
  · rw [if_pos hDs, hD 6 (by decide)]
    exact ⟨ht.os, ht.tape, ht.output, by unfold rowPut; rw [setRow_size]; exact ht.size, fun q h1 h2 => (rowPut_other w' rows2 h2).trans (ht.blk q h1 h2), (rowPut_other w' rows2 hne).trans ht.mR, rowPut_rows ht.mA rows2⟩
theorem TwoJ.same (h : TwoJ b W F o o2 rows rows2 D vs w') (hD : ∀ i, i < 9 → D i = D' i) : TwoJ b W F o o2 rows rows2 D' vs w' :=
  ⟨fun j hj j6 j8 hd => h.vals j hj j6 j8 (by rw [hD j hj]; exact hd), by rw [← hD 6 (by decide), ← hD 8 (by decide)]; exact h.two⟩
end
theorem FolW.mid {b : FolB} {W w5 : World} {o : List Bool} {rows : List (List Bool)} {A : Option Addr} {c p : Nat} {op : List Nat} {ob : Obj} (h : FolW b W o rows A c op) (hp : op.length = p) (hG : (W.alloc ob).grownBy w5 (Value.slice A p c).ownBlock) : w5.heap[b.bO]? = some (.cells #[.slice A p c] 36 (0, 0)) := by
  subst hp
  have hr := own_from (p := op.length) h.own
  have hs := h.sz
  have hb0 : Below W.heap.size W (W.alloc ob) := lvBelow W ob
  have hb1 : Below b.base W w5 := (hb0.mono hs).grown hG (Nat.le_trans hs hb0.size) fun k hk => (hr k hk).2
  exact (hb1.block _ h.lt.2.2.1).trans h.hbO
/-- a value stored in a block of arrays -/
theorem wp_store8 {op : Oper} {a : Act} {w : World} {K : Act → World → Prop} {Q : Exit → Act → World → Prop} (x y : Operand) (ho : op.op = .store 116 x y) {g k : Nat} {rows : List (List Bool)} {t : List Bool} (hx : a.eval x = .pointer (some ⟨g, k * 128, none⟩)) (hy : a.eval y = .agg (arA t)) (h : RwB w g rows) (hl : ∀ s ∈ rows, s.length = 128) (ht : t.length = 128) (hk : k < rows.length)
    (hK : K (a.put op.dst undef) (rowPut w g (rows.set k t))) : op.wp Tryz.prog a w K Q := by
  have hst := h.store hl ht hk
  have hsz : (sizeOf 116).run Tryz.prog w = .ok 128 w := Tryz.sizeOf116 w
  unfold Oper.wp execOp
  have hv : (storeVar 116 ⟨g, k * 128, none⟩ (.agg (arA t))).run Tryz.prog w = .ok () (rowPut w g (rows.set k t)) := by
    simp [storeVar, hsz, Value.cells, hst, arA_size, ht]
  simp only [ho, hx, hy, Instr.storeAt, Instr.sureAddr, Sem.run_bind, Sem.run_pure, Result.andThen_ok, hv]
  exact hK
end Go.Proofs.YtgkngimeokhhgaaGreatDoor
/- The contract of follow's closure: one step on a way through code. -/
namespace Go.Proofs.YtgkngimeokhhgaaGreatDoor
open Go.RowKit

/-- what a step comes to: nothing is turned, or there is one more on the pile -/
def ComeP (b : FolB) (k : Nat) (r : List Bool) (o : List Bool) (rows : List (List Bool)) (A : Option Addr) (c : Nat) (op : List Nat) (w : World) (e : Ending) (w' : World) : Prop :=
  e = .returned (.tuple #[]) ∧ ∃ A' c', KeptF b A w w' ∧ (∀ g, A' = some ⟨g, 0, none⟩ → A = some ⟨g, 0, none⟩ ∨ w.heap.size ≤ g) ∧
    ((o[k]? = some true ∧ (∃ s, rows[k]? = some s ∧ andR r s = s) ∧ A' = A ∧ c' = c ∧ FolW b w' o rows A c op) ∨
      ∃ v s t, o[k]? = some v ∧ rows[k]? = some s ∧ t = (if v = true then andR r s else r) ∧ (v = true → t ≠ s) ∧ FolW b w' (o.set k true) (rows.set k t) A' c' (op ++ [k]))
set_option maxRecDepth 100000 in
set_option maxHeartbeats 8000000 in
theorem come_any (b : FolB) (k : Nat) (r : List Bool) (o : List Bool) (rows : List (List Bool)) (A : Option Addr) (c : Nat) (op : List Nat) (w : World) (hF : FolW b w o rows A c op) (hon : o.length = b.n) (hrn : rows.length = b.n) (hl8 : ∀ s ∈ rows, s.length = 128) (hr : r.length = 128) (hkn : k < b.n) (hbn : b.n ≤ 4096) (hop : op.length ≤ 600000) :
    Calls Tryz.prog 87 #[.int .i64 (k : Int), .agg (arA r), .pointer (some ⟨b.bR, 0, none⟩), .pointer (some ⟨b.bA, 0, none⟩), .pointer (some ⟨b.bO, 0, none⟩)] w (ComeP b k r o rows A c op w) := by
  have hmx : Tryz.prog.follows .mixedOrders = true := by kernel_rfl
  obtain ⟨i1, hi1, hy0, hy1, hy2⟩ := info_parts infoInt
  obtain ⟨p, hp⟩ : ∃ p, op.length = p := ⟨_, rfl⟩
  have hle : p + 1 ≤ 1000000 := by omega
  obtain ⟨v, hv⟩ : ∃ v, o[k]? = some v := ⟨_, List.getElem?_eq_getElem (by rw [hon]; exact hkn)⟩
  obtain ⟨s, hs⟩ : ∃ s, rows[k]? = some s := ⟨_, List.getElem?_eq_getElem (by rw [hrn]; exact hkn)⟩
  have HS : Hid (s.length = 128) := hl8 s (List.mem_of_getElem? hs)
  have HPL := Lib.hid hp
  have HNE := Lib.hid hF.ne
  have HF := Lib.hid hF
  have HOK := Lib.hid hv
  have HRK := Lib.hid hs
  have HL8 := Lib.hid hl8
  have HR := Lib.hid hr
  have HRN := Lib.hid hrn
  obtain ⟨g6, hg6⟩ : ∃ z, w.heap.size = z := ⟨_, rfl⟩
  obtain ⟨W0, hW0⟩ : ∃ W, w.alloc (.cells (arA r) 116) = W := ⟨_, rfl⟩
  have hb0 := lvBelow w (.cells (arA r) 116)
  have hx0 := ArB.new w r
  rw [hW0] at hb0 hx0
  rw [hg6] at hx0
  have HB0 := Lib.hid hb0
  have HX0 := Lib.hid hx0
  have HF0 := Lib.hid (hF.on hb0)
  have HK0 : Hid (KeptF b A w W0) := KeptF.of_below hb0
  have HG6 : Hid (g6 ≠ b.gR ∧ g6 ≠ b.gA) := by
    have h1 := hF.lt
    have h2 := hF.sz
    exact ⟨by omega, by omega⟩
  have HGS : Hid (w.heap.size ≤ g6) := by unfold Hid; omega
  have hkz : (k : Int) < (b.n : Int) := by omega
  have hk0 : (0 : Int) ≤ (k : Int) := by omega
  clear hF hl8 hr hrn hon hop hp hv hs hb0 hx0
  go_enter Tryz.func87, Tryz.ntmps87
  go_upto_region 1 with fail
  try rw [hW0]
  try rw [hg6]
  clear hW0 hg6
  obtain ⟨b0, _⟩ := one_cell HF0.out.hbR
  obtain ⟨m0, _⟩ := HF0.out.mR.at_ HOK.out
  cases v with
  | false =>
    go_upto_region 4 with fail
    clear b0 m0
    let F : Nat → Value := fun i => match i with
      | 0 => .slice (some ⟨b.gR, 0, none⟩) b.n b.n
      | 1 => .int .i64 (k : Int)
      | 2 => .slice (some ⟨b.gA, 0, none⟩) b.n b.n
      | 3 => .int .i64 (k : Int)
      | 4 => .agg (arA (r))
      | 5 => .pointer (some ⟨b.gR, k, none⟩)
      | 7 => .pointer (some ⟨b.gA, k * 128, none⟩)
      | _ => undef
    refine wp_region_joint (TwoJ b W0 F o (o.set k true) rows (rows.set k (r))) hmx (by kernel_rfl) (by kernel_rfl) ?_ ?_ ?_ ?_
    · intro D vs hD
      refine ⟨fun i hi _ _ hd => (by rw [hD i hi] at hd; cases hd), ?_⟩
      rw [hD 6 (by decide), hD 8 (by decide)]
      exact ⟨rfl, rfl, rfl, rfl, fun _ _ _ => rfl, HF0.out.mR, HF0.out.mA⟩
    · intro i o9 ho D vs w2 hJ hDi hd K hK
      have hi : i < 9 := (List.getElem?_eq_some_iff.1 ho).1
      generalize hlit : putV vs 0 _ _ = z at hK ⊢
      simp only [List.map_cons, List.map_nil, putV, Act.put, List.setIfInBounds_toArray, List.set_cons_succ, List.set_cons_zero] at hlit
      subst hlit
      rcases (by omega : i = 0 ∨ i = 1 ∨ i = 2 ∨ i = 3 ∨ i = 4 ∨ i = 5 ∨ i = 6 ∨ i = 7 ∨ i = 8) with rfl | rfl | rfl | rfl | rfl | rfl | rfl | rfl | rfl
      · -- 0
        obtain rfl := Option.some.inj ho
        obtain ⟨cc, _⟩ := one_cell ((hJ.two.blk _ HNE.out.2.1 HNE.out.2.2.1).trans HF0.out.hbR)
        clear ho hd hi
        go_simp
        exact hK _ (F 0) _ (fun j => j == 0 || D j) (by simp [Act.put]; try rfl) (fun j hj => by simp [hj]) (by simp) (hJ.step (by decide) (by decide) (fun j hj => by simp [hj]))
      · -- 1
        obtain rfl := Option.some.inj ho
        clear ho hd hi
        go_simp
        exact hK _ (F 1) _ (fun j => j == 1 || D j) (by simp [Act.put]; try rfl) (fun j hj => by simp [hj]) (by simp) (hJ.step (by decide) (by decide) (fun j hj => by simp [hj]))
      · -- 2
        obtain rfl := Option.some.inj ho
        obtain ⟨cc, _⟩ := one_cell ((hJ.two.blk _ HNE.out.2.2.2.1 HNE.out.2.2.2.2.1).trans HF0.out.hbA)
        clear ho hd hi
        go_simp
        exact hK _ (F 2) _ (fun j => j == 2 || D j) (by simp [Act.put]; try rfl) (fun j hj => by simp [hj]) (by simp) (hJ.step (by decide) (by decide) (fun j hj => by simp [hj]))
      · -- 3
        obtain rfl := Option.some.inj ho
        clear ho hd hi
        go_simp
        exact hK _ (F 3) _ (fun j => j == 3 || D j) (by simp [Act.put]; try rfl) (fun j hj => by simp [hj]) (by simp) (hJ.step (by decide) (by decide) (fun j hj => by simp [hj]))
      · -- 4
        obtain rfl := Option.some.inj ho
        have hbx : ArB w2 g6 (r) := (hJ.two.blk _ HG6.out.1 HG6.out.2).trans HX0.out
        clear ho hd hi
        rw [if_pos (by simp only [Region.wanted])]
        refine wp_load_row 116 (.tmp 6) rfl g6 rfl _ _ _ _ hbx under8 rfl (by rw [arA_size, HR.out]; exact info8) ?_
        exact hK _ (F 4) _ (fun j => j == 4 || D j) rfl (fun j hj => by simp [hj]) (by simp) (hJ.step (by decide) (by decide) (fun j hj => by simp [hj]))
      · -- 5
        obtain rfl := Option.some.inj ho
        have v0 : vs 0 = F 0 := hJ.vals 0 (by decide) (by decide) (by decide) (hd 0 (by kernel_rfl))
        have v1 : vs 1 = F 1 := hJ.vals 1 (by decide) (by decide) (by decide) (hd 1 (by kernel_rfl))
        clear ho hd hi
        dsimp only [F] at v0
        dsimp only [F] at v1
        go_simp
        exact hK _ (F 5) _ (fun j => j == 5 || D j) (by simp [Act.put, v0, v1]; try rfl) (fun j hj => by simp [hj]) (by simp) (hJ.step (by decide) (by decide) (fun j hj => by simp [hj]))
      · -- 6
        obtain rfl := Option.some.inj ho
        have v5 : vs 5 = F 5 := hJ.vals 5 (by decide) (by decide) (by decide) (hd 5 (by kernel_rfl))
        have hmR := hJ.two.mR
        rw [hDi, if_neg (show ¬(false = true) by decide)] at hmR
        obtain ⟨cc, cf⟩ := hmR.at_ HOK.out
        clear ho hd hi
        dsimp only [F] at v5
        go_simp
        exact hK _ undef _ (fun j => j == 6 || D j) (by simp [Act.put, v5]; try rfl) (fun j hj => by simp [hj]) (by simp) (hJ.mark HNE.out.1 hDi rfl undef (fun j hj => by simp [hj]) (by simp))
      · -- 7
        obtain rfl := Option.some.inj ho
        have v2 : vs 2 = F 2 := hJ.vals 2 (by decide) (by decide) (by decide) (hd 2 (by kernel_rfl))
        have v3 : vs 3 = F 3 := hJ.vals 3 (by decide) (by decide) (by decide) (hd 3 (by kernel_rfl))
        clear ho hd hi
        dsimp only [F] at v2
        dsimp only [F] at v3
        go_simp
        exact hK _ (F 7) _ (fun j => j == 7 || D j) (by simp [Act.put, v2, v3]; try rfl) (fun j hj => by simp [hj]) (by simp) (hJ.step (by decide) (by decide) (fun j hj => by simp [hj]))
      · -- 8
        obtain rfl := Option.some.inj ho
        have v7 : vs 7 = F 7 := hJ.vals 7 (by decide) (by decide) (by decide) (hd 7 (by kernel_rfl))
        have v4 : vs 4 = F 4 := hJ.vals 4 (by decide) (by decide) (by decide) (hd 4 (by kernel_rfl))
        have hmA := hJ.two.mA
        rw [hDi, if_neg (show ¬(false = true) by decide)] at hmA
        clear ho hd hi
        dsimp only [F] at v7
        dsimp only [F] at v4
        rw [if_pos (by simp only [Region.wanted])]
        refine wp_store8 (.tmp 29) (.tmp 27) rfl (g := b.gA) (k := k) (t := (r)) v7 v4 hmA HL8.out HR.out (by rw [HRN.out]; exact hkn) ?_
        exact hK _ undef _ (fun j => j == 8 || D j) rfl (fun j hj => by simp [hj]) (by simp) (hJ.tell HNE.out.1 hDi undef (fun j hj => by simp [hj]) (by simp))
    · intro D vs w2 hJ hall
      have ht := hJ.two
      rw [hall 6 (by decide), hall 8 (by decide), if_pos rfl, if_pos rfl] at ht
      have v0 : vs 0 = F 0 := hJ.vals 0 (by decide) (by decide) (by decide) (hall 0 (by decide))
      have v1 : vs 1 = F 1 := hJ.vals 1 (by decide) (by decide) (by decide) (hall 1 (by decide))
      have v2 : vs 2 = F 2 := hJ.vals 2 (by decide) (by decide) (by decide) (hall 2 (by decide))
      have v3 : vs 3 = F 3 := hJ.vals 3 (by decide) (by decide) (by decide) (hall 3 (by decide))
      have v4 : vs 4 = F 4 := hJ.vals 4 (by decide) (by decide) (by decide) (hall 4 (by decide))
      have v5 : vs 5 = F 5 := hJ.vals 5 (by decide) (by decide) (by decide) (hall 5 (by decide))
      have v7 : vs 7 = F 7 := hJ.vals 7 (by decide) (by decide) (by decide) (hall 7 (by decide))
      dsimp only [F] at v0 v1 v2 v3 v4 v5 v7
      have HF9 := Lib.hid (ht.fol HF0.out)
      have HK9 := Lib.hid (HK0.out.trans (ht.kept (A := A)))
      generalize hlit : putV vs 0 _ _ = z
      simp only [List.map_cons, List.map_nil, putV, Act.put, List.setIfInBounds_toArray, List.set_cons_succ, List.set_cons_zero] at hlit
      rw [v0, v1, v2, v3, v4, v5, v7] at hlit
      subst hlit
      clear hJ hall ht v0 v1 v2 v3 v4 v5 v7 hmx
      clear F
      obtain ⟨c0, cf⟩ := one_cell HF9.out.hbO
      rw [HPL.out] at c0
      have hsz := HF9.out.sz
      have hsz2 : w.heap.size ≤ w2.heap.size := HK9.out.size
      have HPI : Hid ((opI op).length = p) := by unfold Hid; rw [opI_len]; exact HPL.out
      clear cf
      go_upto_region 5 with fail
      go_wp2_with (at_builtin; refine wpList_appendWhere _ rfl (.tmp 30) (.tmp 32) 36 rfl b.base 3 i1 Tryz.underlying36 hi1 hy0 hy1 hy2 A (some ⟨w2.heap.size, 0, none⟩) c 1 1 (w2.heap.size + 1) p (p + 1) (opI op) [(k : Int)] rfl rfl (HF9.out.own.alloc _) HPI.out rfl (src_new w2 ⟨by omega, by omega⟩) hle (by simp; omega) ?_; intro A8 c8 w8 hO8 hG8 hA8; obtain ⟨hF8, hK8⟩ := HF9.out.add HPL.out hO8 hG8; obtain ⟨f0, ff⟩ := one_cell (HF9.out.mid HPL.out hG8); have HF10 := Lib.hid hF8; have HK10 := Lib.hid (HK9.out.trans hK8); have HA8 : Hid (∀ g, A8 = some ⟨g, 0, none⟩ → A = some ⟨g, 0, none⟩ ∨ w.heap.size ≤ g) := (fun g hg => (hA8 g hg).imp id (fun h => by rw [World.size_alloc] at h; omega)); clear hF8 hK8 hO8 hG8 hA8)
      go_end0
      exact ⟨rfl, A8, c8, HK10.out, HA8.out, .inr ⟨false, s, (r), HOK.out, HRK.out, by simp, (fun h => absurd h (by decide)), HF10.out⟩⟩
    · exact fun D D' vs w' hD h => h.same hD
  | true =>
    have HAL : Hid ((andR r s).length = 128) := by unfold Hid; rw [andR_len (by rw [HR.out, HS.out])]; exact HS.out
    go_upto_region 2 with fail
    clear b0 m0
    let F : Nat → Value := fun i => match i with
      | 0 => .agg (arA r)
      | 1 => .slice (some ⟨b.gA, 0, none⟩) b.n b.n
      | 2 => .int .i64 (k : Int)
      | 3 => .pointer (some ⟨b.gA, k * 128, none⟩)
      | 4 => .agg (arA s)
      | 5 => .agg (arA (andR r s))
      | _ => undef
    refine wp_region_joint (StJ w 7 6 g6 F r (andR r s)) hmx (by kernel_rfl) (by kernel_rfl) ?_ ?_ ?_ ?_
    · intro D vs hD
      refine ⟨HB0.out.drew, HGS.out, fun i hi _ hd => (by rw [hD i hi] at hd; cases hd), ?_, fun hd => (by rw [hD 6 (by decide)] at hd; cases hd)⟩
      rw [hD 6 (by decide)]
      exact HX0.out
    · intro i o9 ho D vs w2 hJ hDi hd K hK
      have hi : i < 7 := (List.getElem?_eq_some_iff.1 ho).1
      generalize hlit : putV vs 0 _ _ = z at hK ⊢
      simp only [List.map_cons, List.map_nil, putV, Act.put, List.setIfInBounds_toArray, List.set_cons_succ, List.set_cons_zero] at hlit
      subst hlit
      rcases (by omega : i = 0 ∨ i = 1 ∨ i = 2 ∨ i = 3 ∨ i = 4 ∨ i = 5 ∨ i = 6) with rfl | rfl | rfl | rfl | rfl | rfl | rfl
      · -- 0
        obtain rfl := Option.some.inj ho
        have h6 : D 6 = false := by
          cases e : D 6 with
          | false => rfl
          | true => rw [hJ.ord e] at hDi; cases hDi
        have hbx := hJ.box
        rw [h6, if_neg (show ¬(false = true) by decide)] at hbx
        clear ho hd hi
        rw [if_pos (by simp only [Region.wanted])]
        refine wp_load_row 116 (.tmp 6) rfl g6 rfl _ _ _ _ hbx under8 rfl (by rw [arA_size, HR.out]; exact info8) ?_
        exact hK _ (F 0) _ (fun j => j == 0 || D j) rfl (fun j hj => by simp [hj]) (by simp) (hJ.step (by decide) (Below.refl _ _) (fun j hj => by simp [hj]) (by simp))
      · -- 1
        obtain rfl := Option.some.inj ho
        obtain ⟨cc, _⟩ := one_cell (HF.out.on hJ.bel).hbA
        clear ho hd hi
        go_simp
        exact hK _ (F 1) _ (fun j => j == 1 || D j) (by simp [Act.put]; try rfl) (fun j hj => by simp [hj]) (by simp) (hJ.step (by decide) (Below.refl _ _) (fun j hj => by simp [hj]) (by simp))
      · -- 2
        obtain rfl := Option.some.inj ho
        clear ho hd hi
        go_simp
        exact hK _ (F 2) _ (fun j => j == 2 || D j) (by simp [Act.put]; try rfl) (fun j hj => by simp [hj]) (by simp) (hJ.step (by decide) (Below.refl _ _) (fun j hj => by simp [hj]) (by simp))
      · -- 3
        obtain rfl := Option.some.inj ho
        have v1 : vs 1 = F 1 := hJ.vals 1 (by decide) (by decide) (hd 1 (by kernel_rfl))
        have v2 : vs 2 = F 2 := hJ.vals 2 (by decide) (by decide) (hd 2 (by kernel_rfl))
        clear ho hd hi
        dsimp only [F] at v1
        dsimp only [F] at v2
        go_simp
        exact hK _ (F 3) _ (fun j => j == 3 || D j) (by simp [Act.put, v1, v2]; try rfl) (fun j hj => by simp [hj]) (by simp) (hJ.step (by decide) (Below.refl _ _) (fun j hj => by simp [hj]) (by simp))
      · -- 4
        obtain rfl := Option.some.inj ho
        have v3 : vs 3 = F 3 := hJ.vals 3 (by decide) (by decide) (hd 3 (by kernel_rfl))
        clear ho hd hi
        dsimp only [F] at v3
        rw [if_pos (by simp only [Region.wanted])]
        refine wp_load_mid 116 (.tmp 14) rfl b.gA (k * 128) v3 (s.map Value.bool) _ ((HF.out.on hJ.bel).mA.range HL8.out HRK.out) under8 rfl (by rw [List.length_map, HS.out]; exact info8) ?_
        exact hK _ (F 4) _ (fun j => j == 4 || D j) rfl (fun j hj => by simp [hj]) (by simp) (hJ.step (by decide) (Below.refl _ _) (fun j hj => by simp [hj]) (by simp))
      · -- 5
        obtain rfl := Option.some.inj ho
        have v0 : vs 0 = F 0 := hJ.vals 0 (by decide) (by decide) (hd 0 (by kernel_rfl))
        have v4 : vs 4 = F 4 := hJ.vals 4 (by decide) (by decide) (hd 4 (by kernel_rfl))
        clear ho hd hi
        dsimp only [F] at v0
        dsimp only [F] at v4
        go_simp
        go_at_call 88
        refine (bothR_any r s w2 HR.out HS.out).mono ?_
        rintro e wf ⟨rfl, hbf⟩
        exact hK _ (F 5) _ (fun j => j == 5 || D j) (by simp [Act.put, v0, v4]; try rfl) (fun j hj => by simp [hj]) (by simp) (hJ.step (by decide) hbf (fun j hj => by simp [hj]) (by simp))
      · -- 6
        obtain rfl := Option.some.inj ho
        have v5 : vs 5 = F 5 := hJ.vals 5 (by decide) (by decide) (hd 5 (by kernel_rfl))
        have h0 := hd 0 (by kernel_rfl)
        have hbx := hJ.box
        rw [hDi, if_neg (show ¬(false = true) by decide)] at hbx
        clear ho hd hi
        dsimp only [F] at v5
        rw [if_pos (by simp only [Region.wanted])]
        refine wp_store_row 116 (.tmp 6) (.tmp 16) rfl g6 (arA (andR r s)) rfl v5 _ _ hbx (by rw [arA_size, HAL.out]; exact info8) (by rw [arA_size, arA_size, HAL.out, HR.out]) (arA_one _) ?_
        exact hK _ undef _ (fun j => j == 6 || D j) rfl (fun j hj => by simp [hj]) (by simp) (hJ.store (fun h => below_setRow h HGS.out _) (setRow_heap w2 g6 _ _ _ _ hbx) h0 (by decide) undef (fun j hj => by simp [hj]) (by simp))
    · intro D vs w2 hJ hall
      have hbx := hJ.box
      rw [hall 6 (by decide), if_pos rfl] at hbx
      have v0 : vs 0 = F 0 := hJ.vals 0 (by decide) (by decide) (hall 0 (by decide))
      have v1 : vs 1 = F 1 := hJ.vals 1 (by decide) (by decide) (hall 1 (by decide))
      have v2 : vs 2 = F 2 := hJ.vals 2 (by decide) (by decide) (hall 2 (by decide))
      have v3 : vs 3 = F 3 := hJ.vals 3 (by decide) (by decide) (hall 3 (by decide))
      have v4 : vs 4 = F 4 := hJ.vals 4 (by decide) (by decide) (hall 4 (by decide))
      have v5 : vs 5 = F 5 := hJ.vals 5 (by decide) (by decide) (hall 5 (by decide))
      dsimp only [F] at v0 v1 v2 v3 v4 v5
      have HB2 := Lib.hid hJ.bel
      have HX2 := Lib.hid hbx
      generalize hlit : putV vs 0 _ _ = z
      simp only [List.map_cons, List.map_nil, putV, Act.put, List.setIfInBounds_toArray, List.set_cons_succ, List.set_cons_zero] at hlit
      rw [v0, v1, v2, v3, v4, v5] at hlit
      subst hlit
      clear hJ hall hbx v0 v1 v2 v3 v4 v5
      clear F
      go_upto_region 3 with fail
      obtain ⟨q, hq⟩ : ∃ q, decide (andR r s = s) = q := ⟨_, rfl⟩
      let G : Nat → Value := fun i => match i with
        | 0 => .agg (arA (andR r s))
        | 1 => .slice (some ⟨b.gA, 0, none⟩) b.n b.n
        | 2 => .int .i64 (k : Int)
        | 3 => .pointer (some ⟨b.gA, k * 128, none⟩)
        | 4 => .agg (arA s)
        | _ => .bool q
      refine wp_region_vals (fun i v _ => v = G i) hmx (by kernel_rfl) (by kernel_rfl) (fun _ _ _ _ _ h => h) ?_ ?_
      · intro i o9 ho vs w3 hb3 hd K hK
        have hi : i < 6 := (List.getElem?_eq_some_iff.1 ho).1
        generalize hlit : putV vs 0 _ _ = z at hK ⊢
        simp only [List.map_cons, List.map_nil, putV, Act.put, List.setIfInBounds_toArray, List.set_cons_succ, List.set_cons_zero] at hlit
        subst hlit
        rcases (by omega : i = 0 ∨ i = 1 ∨ i = 2 ∨ i = 3 ∨ i = 4 ∨ i = 5) with rfl | rfl | rfl | rfl | rfl | rfl
        · -- 0
          obtain rfl := Option.some.inj ho
          clear ho hd hi
          rw [if_pos (by simp only [Region.wanted])]
          refine wp_load_row 116 (.tmp 6) rfl g6 rfl _ _ _ _ (keep_b hb3 HX2.out) under8 rfl (by rw [arA_size, HAL.out]; exact info8) ?_
          exact hK _ (G 0) _ rfl (Below.refl _ _) rfl
        · -- 1
          obtain rfl := Option.some.inj ho
          obtain ⟨cc, _⟩ := one_cell (HF.out.on (HB2.out.trans (hb3.mono HB2.out.size))).hbA
          clear ho hd hi
          go_simp
          exact hK _ (G 1) _ (by simp [Act.put]; try rfl) (Below.refl _ _) rfl
        · -- 2
          obtain rfl := Option.some.inj ho
          clear ho hd hi
          go_simp
          exact hK _ (G 2) _ (by simp [Act.put]; try rfl) (Below.refl _ _) rfl
        · -- 3
          obtain rfl := Option.some.inj ho
          have v1 : vs 1 = G 1 := hd 1 (by kernel_rfl)
          have v2 : vs 2 = G 2 := hd 2 (by kernel_rfl)
          clear ho hd hi
          dsimp only [G] at v1
          dsimp only [G] at v2
          go_simp
          exact hK _ (G 3) _ (by simp [Act.put, v1, v2]; try rfl) (Below.refl _ _) rfl
        · -- 4
          obtain rfl := Option.some.inj ho
          have v3 : vs 3 = G 3 := hd 3 (by kernel_rfl)
          clear ho hd hi
          dsimp only [G] at v3
          rw [if_pos (by simp only [Region.wanted])]
          refine wp_load_mid 116 (.tmp 20) rfl b.gA (k * 128) v3 (s.map Value.bool) _ ((HF.out.on (HB2.out.trans (hb3.mono HB2.out.size))).mA.range HL8.out HRK.out) under8 rfl (by rw [List.length_map, HS.out]; exact info8) ?_
          exact hK _ (G 4) _ rfl (Below.refl _ _) rfl
        · -- 5
          obtain rfl := Option.some.inj ho
          have v0 : vs 0 = G 0 := hd 0 (by kernel_rfl)
          have v4 : vs 4 = G 4 := hd 4 (by kernel_rfl)
          have he := eqIn8 HAL.out HS.out w3
          rw [hq] at he
          have hgd := fun x y => guard8 (r := andR r s) (s := s) x y w3
          clear ho hd hi
          dsimp only [G] at v0
          dsimp only [G] at v4
          go_simp
          exact hK _ (G 5) _ (by simp [Act.put, v0, v4]; try rfl) (Below.refl _ _) rfl
      · intro vs w3 hb3 hv
        have v0 : vs 0 = G 0 := hv 0 (by decide)
        have v1 : vs 1 = G 1 := hv 1 (by decide)
        have v2 : vs 2 = G 2 := hv 2 (by decide)
        have v3 : vs 3 = G 3 := hv 3 (by decide)
        have v4 : vs 4 = G 4 := hv 4 (by decide)
        have v5 : vs 5 = G 5 := hv 5 (by decide)
        dsimp only [G] at v0 v1 v2 v3 v4 v5
        have HB3 := Lib.hid (HB2.out.trans (hb3.mono HB2.out.size))
        have HX3 := Lib.hid (keep_b hb3 HX2.out)
        generalize hlit : putV vs 0 _ _ = z
        simp only [List.map_cons, List.map_nil, putV, Act.put, List.setIfInBounds_toArray, List.set_cons_succ, List.set_cons_zero] at hlit
        rw [v0, v1, v2, v3, v4, v5] at hlit
        subst hlit
        clear hb3 hv v0 v1 v2 v3 v4 v5
        clear G
        have HF3 := Lib.hid (HF.out.on HB3.out)
        have HK3 : Hid (KeptF b A w w3) := KeptF.of_below HB3.out
        cases q with
        | true =>
          have HQ := Lib.hid (show andR r s = s from of_decide_eq_true hq)
          clear hq
          go_wp2_with fail
          refine bodyPost_ret (results_none rfl _ _ _) rfl ?_
          exact ⟨rfl, A, c, HK3.out, fun g hg => .inl hg, .inl ⟨HOK.out, ⟨s, HRK.out, HQ.out⟩, rfl, rfl, HF3.out⟩⟩
        | false =>
          have HQ := Lib.hid (show andR r s ≠ s from of_decide_eq_false hq)
          clear hq
          go_upto_region 4 with fail
          let F : Nat → Value := fun i => match i with
            | 0 => .slice (some ⟨b.gR, 0, none⟩) b.n b.n
            | 1 => .int .i64 (k : Int)
            | 2 => .slice (some ⟨b.gA, 0, none⟩) b.n b.n
            | 3 => .int .i64 (k : Int)
            | 4 => .agg (arA (andR r s))
            | 5 => .pointer (some ⟨b.gR, k, none⟩)
            | 7 => .pointer (some ⟨b.gA, k * 128, none⟩)
            | _ => undef
          refine wp_region_joint (TwoJ b w3 F o (o.set k true) rows (rows.set k (andR r s))) hmx (by kernel_rfl) (by kernel_rfl) ?_ ?_ ?_ ?_
          · intro D vs hD
            refine ⟨fun i hi _ _ hd => (by rw [hD i hi] at hd; cases hd), ?_⟩
            rw [hD 6 (by decide), hD 8 (by decide)]
            exact ⟨rfl, rfl, rfl, rfl, fun _ _ _ => rfl, HF3.out.mR, HF3.out.mA⟩
          · intro i o9 ho D vs w2 hJ hDi hd K hK
            have hi : i < 9 := (List.getElem?_eq_some_iff.1 ho).1
            generalize hlit : putV vs 0 _ _ = z at hK ⊢
            simp only [List.map_cons, List.map_nil, putV, Act.put, List.setIfInBounds_toArray, List.set_cons_succ, List.set_cons_zero] at hlit
            subst hlit
            rcases (by omega : i = 0 ∨ i = 1 ∨ i = 2 ∨ i = 3 ∨ i = 4 ∨ i = 5 ∨ i = 6 ∨ i = 7 ∨ i = 8) with rfl | rfl | rfl | rfl | rfl | rfl | rfl | rfl | rfl
            · -- 0
              obtain rfl := Option.some.inj ho
              obtain ⟨cc, _⟩ := one_cell ((hJ.two.blk _ HNE.out.2.1 HNE.out.2.2.1).trans HF3.out.hbR)
              clear ho hd hi
              go_simp
              exact hK _ (F 0) _ (fun j => j == 0 || D j) (by simp [Act.put]; try rfl) (fun j hj => by simp [hj]) (by simp) (hJ.step (by decide) (by decide) (fun j hj => by simp [hj]))
            · -- 1
              obtain rfl := Option.some.inj ho
              clear ho hd hi
              go_simp
              exact hK _ (F 1) _ (fun j => j == 1 || D j) (by simp [Act.put]; try rfl) (fun j hj => by simp [hj]) (by simp) (hJ.step (by decide) (by decide) (fun j hj => by simp [hj]))
            · -- 2
              obtain rfl := Option.some.inj ho
              obtain ⟨cc, _⟩ := one_cell ((hJ.two.blk _ HNE.out.2.2.2.1 HNE.out.2.2.2.2.1).trans HF3.out.hbA)
              clear ho hd hi
              go_simp
              exact hK _ (F 2) _ (fun j => j == 2 || D j) (by simp [Act.put]; try rfl) (fun j hj => by simp [hj]) (by simp) (hJ.step (by decide) (by decide) (fun j hj => by simp [hj]))
            · -- 3
              obtain rfl := Option.some.inj ho
              clear ho hd hi
              go_simp
              exact hK _ (F 3) _ (fun j => j == 3 || D j) (by simp [Act.put]; try rfl) (fun j hj => by simp [hj]) (by simp) (hJ.step (by decide) (by decide) (fun j hj => by simp [hj]))
            · -- 4
              obtain rfl := Option.some.inj ho
              have hbx : ArB w2 g6 (andR r s) := (hJ.two.blk _ HG6.out.1 HG6.out.2).trans HX3.out
              clear ho hd hi
              rw [if_pos (by simp only [Region.wanted])]
              refine wp_load_row 116 (.tmp 6) rfl g6 rfl _ _ _ _ hbx under8 rfl (by rw [arA_size, HAL.out]; exact info8) ?_
              exact hK _ (F 4) _ (fun j => j == 4 || D j) rfl (fun j hj => by simp [hj]) (by simp) (hJ.step (by decide) (by decide) (fun j hj => by simp [hj]))
            · -- 5
              obtain rfl := Option.some.inj ho
              have v0 : vs 0 = F 0 := hJ.vals 0 (by decide) (by decide) (by decide) (hd 0 (by kernel_rfl))
              have v1 : vs 1 = F 1 := hJ.vals 1 (by decide) (by decide) (by decide) (hd 1 (by kernel_rfl))
              clear ho hd hi
              dsimp only [F] at v0
              dsimp only [F] at v1
              go_simp
              exact hK _ (F 5) _ (fun j => j == 5 || D j) (by simp [Act.put, v0, v1]; try rfl) (fun j hj => by simp [hj]) (by simp) (hJ.step (by decide) (by decide) (fun j hj => by simp [hj]))
            · -- 6
              obtain rfl := Option.some.inj ho
              have v5 : vs 5 = F 5 := hJ.vals 5 (by decide) (by decide) (by decide) (hd 5 (by kernel_rfl))
              have hmR := hJ.two.mR
              rw [hDi, if_neg (show ¬(false = true) by decide)] at hmR
              obtain ⟨cc, cf⟩ := hmR.at_ HOK.out
              clear ho hd hi
              dsimp only [F] at v5
              go_simp
              exact hK _ undef _ (fun j => j == 6 || D j) (by simp [Act.put, v5]; try rfl) (fun j hj => by simp [hj]) (by simp) (hJ.mark HNE.out.1 hDi rfl undef (fun j hj => by simp [hj]) (by simp))
            · -- 7
              obtain rfl := Option.some.inj ho
              have v2 : vs 2 = F 2 := hJ.vals 2 (by decide) (by decide) (by decide) (hd 2 (by kernel_rfl))
              have v3 : vs 3 = F 3 := hJ.vals 3 (by decide) (by decide) (by decide) (hd 3 (by kernel_rfl))
              clear ho hd hi
              dsimp only [F] at v2
              dsimp only [F] at v3
              go_simp
              exact hK _ (F 7) _ (fun j => j == 7 || D j) (by simp [Act.put, v2, v3]; try rfl) (fun j hj => by simp [hj]) (by simp) (hJ.step (by decide) (by decide) (fun j hj => by simp [hj]))
            · -- 8
              obtain rfl := Option.some.inj ho
              have v7 : vs 7 = F 7 := hJ.vals 7 (by decide) (by decide) (by decide) (hd 7 (by kernel_rfl))
              have v4 : vs 4 = F 4 := hJ.vals 4 (by decide) (by decide) (by decide) (hd 4 (by kernel_rfl))
              have hmA := hJ.two.mA
              rw [hDi, if_neg (show ¬(false = true) by decide)] at hmA
              clear ho hd hi
              dsimp only [F] at v7
              dsimp only [F] at v4
              rw [if_pos (by simp only [Region.wanted])]
              refine wp_store8 (.tmp 29) (.tmp 27) rfl (g := b.gA) (k := k) (t := (andR r s)) v7 v4 hmA HL8.out HAL.out (by rw [HRN.out]; exact hkn) ?_
              exact hK _ undef _ (fun j => j == 8 || D j) rfl (fun j hj => by simp [hj]) (by simp) (hJ.tell HNE.out.1 hDi undef (fun j hj => by simp [hj]) (by simp))
          · intro D vs w2 hJ hall
            have ht := hJ.two
            rw [hall 6 (by decide), hall 8 (by decide), if_pos rfl, if_pos rfl] at ht
            have v0 : vs 0 = F 0 := hJ.vals 0 (by decide) (by decide) (by decide) (hall 0 (by decide))
            have v1 : vs 1 = F 1 := hJ.vals 1 (by decide) (by decide) (by decide) (hall 1 (by decide))
            have v2 : vs 2 = F 2 := hJ.vals 2 (by decide) (by decide) (by decide) (hall 2 (by decide))
            have v3 : vs 3 = F 3 := hJ.vals 3 (by decide) (by decide) (by decide) (hall 3 (by decide))
            have v4 : vs 4 = F 4 := hJ.vals 4 (by decide) (by decide) (by decide) (hall 4 (by decide))
            have v5 : vs 5 = F 5 := hJ.vals 5 (by decide) (by decide) (by decide) (hall 5 (by decide))
            have v7 : vs 7 = F 7 := hJ.vals 7 (by decide) (by decide) (by decide) (hall 7 (by decide))
            dsimp only [F] at v0 v1 v2 v3 v4 v5 v7
            have HF9 := Lib.hid (ht.fol HF3.out)
            have HK9 := Lib.hid (HK3.out.trans (ht.kept (A := A)))
            generalize hlit : putV vs 0 _ _ = z
            simp only [List.map_cons, List.map_nil, putV, Act.put, List.setIfInBounds_toArray, List.set_cons_succ, List.set_cons_zero] at hlit
            rw [v0, v1, v2, v3, v4, v5, v7] at hlit
            subst hlit
            clear hJ hall ht v0 v1 v2 v3 v4 v5 v7 hmx
            clear F
            obtain ⟨c0, cf⟩ := one_cell HF9.out.hbO
            rw [HPL.out] at c0
            have hsz := HF9.out.sz
            have hsz2 : w.heap.size ≤ w2.heap.size := HK9.out.size
            have HPI : Hid ((opI op).length = p) := by unfold Hid; rw [opI_len]; exact HPL.out
            clear cf
            go_upto_region 5 with fail
            go_wp2_with (at_builtin; refine wpList_appendWhere _ rfl (.tmp 30) (.tmp 32) 36 rfl b.base 3 i1 Tryz.underlying36 hi1 hy0 hy1 hy2 A (some ⟨w2.heap.size, 0, none⟩) c 1 1 (w2.heap.size + 1) p (p + 1) (opI op) [(k : Int)] rfl rfl (HF9.out.own.alloc _) HPI.out rfl (src_new w2 ⟨by omega, by omega⟩) hle (by simp; omega) ?_; intro A8 c8 w8 hO8 hG8 hA8; obtain ⟨hF8, hK8⟩ := HF9.out.add HPL.out hO8 hG8; obtain ⟨f0, ff⟩ := one_cell (HF9.out.mid HPL.out hG8); have HF10 := Lib.hid hF8; have HK10 := Lib.hid (HK9.out.trans hK8); have HA8 : Hid (∀ g, A8 = some ⟨g, 0, none⟩ → A = some ⟨g, 0, none⟩ ∨ w.heap.size ≤ g) := (fun g hg => (hA8 g hg).imp id (fun h => by rw [World.size_alloc] at h; omega)); clear hF8 hK8 hO8 hG8 hA8)
            go_end0
            exact ⟨rfl, A8, c8, HK10.out, HA8.out, .inr ⟨true, s, (andR r s), HOK.out, HRK.out, by simp, (fun _ => HQ.out), HF10.out⟩⟩
          · exact fun D D' vs w' hD h => h.same hD
    · exact fun D D' vs w' hD h => h.same (by decide) hD
end Go.Proofs.YtgkngimeokhhgaaGreatDoor
/- Whether an instruction may be in code, as the program asks it: part by part. -/
namespace Go.Proofs.YtgkngimeokhhgaaGreatDoor
open Go.RowKit

/-- a part of a kind fits -/
def fitB (R A L kd n : Int) : Bool :=
  if kd = 1 ∨ kd = 2 then decide (0 ≤ n) && decide (n < R) else if kd = 3 then decide (0 ≤ n) && decide (n < A) else if kd = 4 then decide (0 ≤ n) && decide (n < L)
  else if kd = 6 then decide (-1000000000000000000 < n) && decide (n < 1000000000000000000) else n == 0
def fitsTo (R A L : Int) (x : Ji) (k : Nat) : Bool := isOp x.op && (List.range k).all fun j => fitB R A L (kA x.op j) (x.p.getD j 0)
theorem fitsTo_succ (R A L : Int) (x : Ji) (k : Nat) : fitsTo R A L x (k + 1) = (fitsTo R A L x k && fitB R A L (kA x.op k) (x.p.getD k 0)) := by
  unfold fitsTo
  rw [List.range_succ, List.all_append, Bool.and_assoc]
  simp
theorem fitsTo_all (R A L : Int) (x : Ji) : fitsTo R A L x 4 = mayJ R A L x := by
  obtain ⟨op, a, b, c, n⟩ := x
  rcases op_split op with h | h
  · rw [mayJ_out (by exact h)]
    unfold fitsTo isOp
    rw [decide_eq_false (by show ¬ (0 ≤ op ∧ op ≤ 12); omega), Bool.false_and]
  · rw [Bool.eq_iff_iff]
    rcases h with rfl | rfl | rfl | rfl | rfl | rfl | rfl | rfl | rfl | rfl | rfl | rfl | rfl
    all_goals
      simp only [fitsTo_succ, Bool.and_eq_true]
      simp [fitsTo, isOp, mayJ, kA, kN, kindNs, fitB, kJ, kindsJ, limJ, Ji.f, Ji.p, List.range_succ]
      try omega
theorem ret_boolJ2 {a b : Bool} (h : a = b) : Ending.returned (.bool a) = .returned (.bool b) := by rw [h]
theorem kA_bound (op : Int) {k : Nat} (hk : k < 4) : 0 ≤ kA op k ∧ kA op k ≤ 6 := kN_bound op _ (List.mem_of_getElem? (kN_at op hk))
theorem kA_no5 (op : Int) {k : Nat} (hk : k < 4) : kA op k ≠ 5 := by
  have h : ∀ v ∈ kN op, v ≠ 5 := by
    unfold kN
    split
    · rename_i h
      rcases op_cases h.1 h.2 with rfl | rfl | rfl | rfl | rfl | rfl | rfl | rfl | rfl | rfl | rfl | rfl | rfl <;> decide
    · decide
  exact h _ (List.mem_of_getElem? (kN_at op hk))
set_option maxRecDepth 100000 in
/-- a part fits: the program's fits -/
theorem fits_any (kd v : Int) (q : Cq) (w : World) (hq : q.In w) (hd : 0 ≤ kd ∧ kd ≤ 6) (h5 : kd ≠ 5) : Calls Tryz.prog 70 #[.int .i64 kd, .int .i64 v, q.val] w fun e w' => e = .returned (.bool (fitB q.R q.A q.n kd v)) ∧ Below w.heap.size w w' := by
  obtain ⟨R, A, I, P, n, c, l⟩ := q
  have hX := heap_alloc_new w (Cq.obj ⟨R, A, I, P, n, c, l⟩)
  obtain ⟨k0, k1, k2, k3, _⟩ := lvCells hX
  clear hX
  have hb := lvBelow w (Cq.obj ⟨R, A, I, P, n, c, l⟩)
  have HB := Lib.hid hb
  clear hb hq
  rcases (by omega : kd = 0 ∨ kd = 1 ∨ kd = 2 ∨ kd = 3 ∨ kd = 4 ∨ kd = 6) with rfl | rfl | rfl | rfl | rfl | rfl
  all_goals
    go_enter Tryz.func70, Tryz.ntmps70
    go_wp2_with fail
    all_goals
      go_ret
      refine ⟨ret_boolJ2 ?_, HB.out⟩
      simp [fitB]
      try omega
end Go.Proofs.YtgkngimeokhhgaaGreatDoor
/- The program's may: whether an instruction may be, in code. -/
namespace Go.Proofs.YtgkngimeokhhgaaGreatDoor
open Go.RowKit

theorem newQ (w : World) (q : Cq) : (w.alloc q.obj).heap[w.heap.size]? = some q.obj := heap_alloc_new w _
set_option maxRecDepth 100000 in
theorem codeMay_any (x : Ji) (q : Cq) (w : World) (hx : x.ok) (hq : q.In w) (hS : ShT w) : Calls Tryz.prog 42 #[x.val, q.val] w fun e w' => e = .returned (.bool (mayJ q.R q.A q.n x)) ∧ Below w.heap.size w w' := by
  have hb0 := ((Below.refl w.heap.size w).alloc (Nat.le_refl _) x.obj).alloc (by simp) q.obj
  obtain ⟨W0, hW0⟩ : ∃ W, (w.alloc x.obj).alloc q.obj = W := ⟨_, rfl⟩
  have HB0 : Hid (Below w.heap.size w W0) := by rw [← hW0]; exact hb0
  have HX0 : Hid (W0.heap[w.heap.size]? = some x.obj) := by rw [← hW0]; exact pastJ _ (newJ w x)
  have HQ0 : Hid (W0.heap[w.heap.size + 1]? = some q.obj) := by
    rw [← hW0]
    have h := newQ (w.alloc x.obj) q
    rwa [World.size_alloc] at h
  have HOK := Lib.hid hx
  have HS := Lib.hid hS
  have HIN := Lib.hid hq
  have cS := shapeOf_any x.op W0 (HS.out.on HB0.out)
  obtain ⟨⟨k0, k1, k2, k3, k4⟩, kf⟩ := box_cellsJ HX0.out
  obtain ⟨q0, q1, q2, q3, _⟩ := lvCells HQ0.out
  clear hS hq hx hb0
  go_enter Tryz.func42, Tryz.ntmps42
  go_wp2_with fail
  try rw [hW0]
  refine cS.mono ?_
  rintro e w1 ⟨rfl, hb⟩
  unfold shV
  have HB1 := Lib.hid (HB0.out.trans (hb.mono HB0.out.size))
  have HX1 := Lib.hid (keep_b hb HX0.out)
  have HQ1 := Lib.hid (keep_b hb HQ0.out)
  clear hb hW0 k0 k1 k2 k3 k4 kf q0 q1 q2 q3
  obtain ⟨W2, hW2⟩ : ∃ W, w1.alloc (shObj x.op) = W := ⟨_, rfl⟩
  have HB2 : Hid (Below w.heap.size w W2) := by rw [← hW2]; exact HB1.out.alloc HB1.out.size _
  have HX2 : Hid (W2.heap[w.heap.size]? = some x.obj) := by rw [← hW2]; exact pastJ _ HX1.out
  have HQ2 : Hid (W2.heap[w.heap.size + 1]? = some q.obj) := by rw [← hW2]; exact pastJ _ HQ1.out
  have HG2 : Hid (W2.heap[w1.heap.size]? = some (.cells #[.string (strJ (wJ x.op)), .int .i64 (kA x.op 0), .int .i64 (kA x.op 1), .int .i64 (kA x.op 2), .int .i64 (kA x.op 3)] 85 (0, 0))) := by rw [← hW2]; exact heap_alloc_new w1 (shObj x.op)
  go_upto_region 2 with fail
  try rw [hW2]
  have cP := parts_any x W2
  obtain ⟨⟨k0, k1, k2, k3, k4⟩, kf⟩ := box_cellsJ HX2.out
  have hg1 : w.heap.size ≤ w1.heap.size := HB1.out.size
  clear hW2 cS HX1
  go_wp2_with fail
  refine cP.mono ?_
  rintro e w3 ⟨rfl, hb⟩
  have HB3 := Lib.hid (HB2.out.trans (hb.mono HB2.out.size))
  have HG3 := Lib.hid (keep_b hb HG2.out)
  have HQ3 := Lib.hid (keep_b hb HQ2.out)
  obtain ⟨G, hG⟩ : ∃ G, w1.heap.size = G := ⟨_, rfl⟩
  rw [hG] at HG3 hg1 ⊢
  clear hb cP HG2 HX2 HB2 HB1 HB0 HX0 HQ0 HQ1 HQ2 k0 k1 k2 k3 k4 kf hG
  go_wp2_with fail
  go_loopw [6, 17] (fun v i wr => ∃ (k : Nat), k ≤ 4 ∧ i = .int .i64 k ∧ v = .bool (fitsTo q.R q.A q.n x k) ∧ Hid (Below w.heap.size w wr) ∧ Hid (wr.heap[w.heap.size + 1]? = some q.obj) ∧ Hid (wr.heap[G]? = some (.cells #[.string (strJ (wJ x.op)), .int .i64 (kA x.op 0), .int .i64 (kA x.op 1), .int .i64 (kA x.op 2), .int .i64 (kA x.op 3)] 85 (0, 0)))) (fun _ i _ => 4 - (intOf i).toNat)
  case atStart => exact ⟨0, Nat.zero_le _, rfl, by unfold fitsTo; simp, HB3, HQ3, HG3⟩
  case round =>
    obtain ⟨k, hk, rfl, rfl, HB, HQ, HG⟩ := hrel
    by_cases hlt : k < 4
    · obtain ⟨v, hv, hv0, hv1⟩ := Ji.p_at HOK.out hlt
      have hc := sh_cell HG.out hlt
      have hix := index_parts hv wr
      have hk4 : (k : Int) < 4 := by omega
      have hk0 : (0 : Int) ≤ (k : Int) := by omega
      have HSU : Hid (fitsTo q.R q.A q.n x (k + 1) = (fitsTo q.R q.A q.n x k && fitB q.R q.A q.n (kA x.op k) v)) := by
        unfold Hid
        rw [fitsTo_succ, List.getD_eq_getElem?_getD, hv]; rfl
      have hkb := kA_bound x.op hlt
      have hk5 : kA x.op k ≠ 5 := kA_no5 x.op hlt
      obtain ⟨q0, q1, q2, q3, _⟩ := lvCells HQ.out
      have cF := fits_any (kA x.op k) v q wr.drew (HIN.out.on HB.out.drew) hkb hk5
      clear hv hkb hk5
      obtain ⟨b, hb⟩ : ∃ b, fitsTo q.R q.A q.n x k = b := ⟨_, rfl⟩
      rw [hb] at HSU ⊢
      clear hb
      cases b
      · clear cF
        rw [Bool.false_and] at HSU
        go_wp2_with fail
        go_quiet (fail)
        go_wp2_with fail
        go_roundw
        case rel => exact ⟨k + 1, by omega, by go_num, by rw [HSU.out], belowD HB.out _, HQ.out, HG.out⟩
        case measure => simp [intOf]; omega
      · rw [Bool.true_and] at HSU
        go_wp2_with fail
        go_still_tail 8, (by kernel_rfl)
        change wpList _ _ _ _ _ wr.drew
        go_wp2_with fail
        refine cF.mono ?_
        rintro e w4 ⟨rfl, hb⟩
        have hb : Below wr.heap.size wr.drew w4 := hb
        have HB4 := Lib.hid ((HB.out.drew).trans (hb.mono HB.out.size))
        have HQ4 := Lib.hid (keep_b (w := wr.drew) hb HQ.out)
        have HG4 := Lib.hid (keep_b (w := wr.drew) hb HG.out)
        clear hb cF
        go_wp2_with fail
        go_roundw
        case rel => exact ⟨k + 1, by omega, by go_num, by rw [HSU.out], HB4.out, HQ4.out, HG4.out⟩
        case measure => simp [intOf]; omega
    · have hk4 : ¬ (k : Int) < 4 := by omega
      obtain rfl : k = 4 := by omega
      rw [fitsTo_all]
      go_wp2_with fail
      go_ret
      exact ⟨rfl, HB.out⟩
end Go.Proofs.YtgkngimeokhhgaaGreatDoor
