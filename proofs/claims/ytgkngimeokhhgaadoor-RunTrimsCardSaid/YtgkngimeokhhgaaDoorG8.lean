/- The machine that runs code: what lies in its block, and beside it. -/
import Derived.Test.YtgkngimeokhhgaaDoorG7
import Derived.Test.YtgkngimeokhhgaaDoorG5
import Derived.Test.YtgkngimeokhhgaaDoorG4
import Derived.Maps.OwnSet
import Derived.Test.YtgkngimeokhhgaaDoorG6
namespace Go.Proofs.YtgkngimeokhhgaaDoor
open Go.RowKit

/-- what does not turn while code runs -/
structure Mc where
  R : Int
  Ar : Int
  i : Nat
  P : Option Addr
  n0 : Nat
  c0 : Nat
  l : List Ji
  A : Option Addr
  n : Nat
  c : Nat
  ins : List (List Int)
  fuel : Int
  cells : Int
  g : Nat
  gR : Nat
  gO : Nat
  gD : Nat
  nr : Nat
  na : Nat
  cD : Nat
/-- what an instruction's kind does -/
def actF (op : Int) : FuncId :=
  if op = 1 then 69 else if op = 2 then 70 else if op = 3 then 71 else if op = 4 then 72 else if op = 5 then 73 else if op = 6 then 74 else if op = 7 then 75 else if op = 8 then 76 else if op = 9 then 77 else if op = 10 then 78 else if op = 11 then 79 else if op = 12 then 80 else 68
def actV (g : Nat) (op : Int) : Value := .func (.func (actF op)) #[.pointer (some ⟨g, 0, none⟩)] #[]
@[reducible] def Mc.cs (m : Mc) (at_ st ce : Nat) (en : Bool) : List Value := [.slice (some ⟨m.gO, 0, none⟩) m.na m.na, .int .i64 (st : Int), .int .i64 (ce : Int), .int .i64 m.R, .int .i64 m.Ar, .int .i64 (m.i : Int), .slice m.P m.n0 m.c0, .slice (some ⟨m.gR, 0, none⟩) m.nr m.nr, .slice m.A m.n m.c, .int .i64 m.fuel, .int .i64 m.cells, .slice (some ⟨m.gD, 0, none⟩) m.n0 m.cD, .int .i64 (at_ : Int), .bool en]
/-- its own arrays alone -/
def Ms.own (s : Ms) (i : Nat) : Ms := { s with A := s.A.drop i }
/-- what lies below stays, and each list of numbers of the plain kind, wherever it lies -/
structure BelI (base : Nat) (w w' : World) : Prop where
  bel : Below base w w'
  int_ : ∀ (b : Nat) (cs : Array Value), w.heap[b]? = some (.cells cs 3 (0, 0)) → w'.heap[b]? = some (.cells cs 3 (0, 0))
theorem BelI.refl (base : Nat) (w : World) : BelI base w w := ⟨Below.refl _ _, fun _ _ h => h⟩
theorem BelI.trans {base : Nat} {w w' w'' : World} (h : BelI base w w') (k : BelI base w' w'') : BelI base w w'' := ⟨h.bel.trans k.bel, fun b cs hb => k.int_ b cs (h.int_ b cs hb)⟩
theorem BelI.of {base : Nat} {w w' : World} (hb : Below w.heap.size w w') (hB : base ≤ w.heap.size) : BelI base w w' := ⟨hb.mono hB, fun _ _ h => keep_b hb h⟩
theorem BelI.ofK {base : Nat} {w w' : World} (h : KeepU base w w') : BelI base w w' := ⟨h.bel, fun b cs hb => h.blk b cs _ hb (by decide) (by decide)⟩
theorem BelI.N {base : Nat} {w w' : World} (h : BelI base w w') (k : Nat) : BelI base w (w'.drewN k) := ⟨⟨h.bel.os, h.bel.tape, h.bel.output, h.bel.size, h.bel.block⟩, h.int_⟩
structure MsM (w : World) (base : Nat) (m : Mc) (s : Ms) (rs : List RowU) (en : Bool) : Prop where
  H : w.heap[m.g]? = some (.cells (m.cs s.at_ s.st s.ce en).toArray 64 (0, 0))
  M : MsW w base m.gR m.gO (s.own m.i) rs
  D : ∃ cur : Array Value, w.heap[m.gD]? = some (.cells cur 97 (0, 0)) ∧ ∀ (k : Nat) (x : Ji), m.l[k]? = some x → cur[k]? = some (actV m.g x.op)
  jis : Jis w base m.P m.n0 m.l
  ill : IntsLL w base m.A m.n m.ins
  pre : s.A.take m.i = m.ins
  nr : s.R.length = m.nr
  na : (s.A.drop m.i).length = m.na
  g0 : base ≤ m.g
section
variable {w w' : World} {base : Nat} {m : Mc} {s s' : Ms} {rs rs' : List RowU} {en en' : Bool}
theorem MsM.size_ (h : MsM w base m s rs en) : base ≤ w.heap.size := h.M.size_
theorem MsM.on (h : MsM w base m s rs en) (hb : Below w.heap.size w w') : MsM w' base m s rs en := by
  obtain ⟨cur, h1, h2⟩ := h.D
  have hb' := hb.mono h.size_
  exact ⟨keep_b hb h.H, h.M.on hb, ⟨cur, keep_b hb h1, h2⟩, h.jis.below hb', h.ill.below hb', h.pre, h.nr, h.na, h.g0⟩
theorem MsM.drewN (h : MsM w base m s rs en) (k : Nat) : MsM (w.drewN k) base m s rs en := h.on ⟨rfl, rfl, rfl, Nat.le_refl _, fun _ _ => rfl⟩
theorem below_N {B : Nat} (h : Below B w w') (k : Nat) : Below B w (w'.drewN k) := ⟨h.os, h.tape, h.output, h.size, h.block⟩
theorem MsM.cells (h : MsM w base m s rs en) : w.cell? ⟨m.g, 0, none⟩ = some (.slice (some ⟨m.gO, 0, none⟩) m.na m.na) ∧ w.cell? ⟨m.g, 1, none⟩ = some (.int .i64 (s.st : Int)) ∧ w.cell? ⟨m.g, 2, none⟩ = some (.int .i64 (s.ce : Int)) ∧ w.cell? ⟨m.g, 3, none⟩ = some (.int .i64 m.R) ∧ w.cell? ⟨m.g, 4, none⟩ = some (.int .i64 m.Ar) ∧ w.cell? ⟨m.g, 5, none⟩ = some (.int .i64 (m.i : Int)) ∧ w.cell? ⟨m.g, 6, none⟩ = some (.slice m.P m.n0 m.c0) ∧ w.cell? ⟨m.g, 7, none⟩ = some (.slice (some ⟨m.gR, 0, none⟩) m.nr m.nr) ∧ w.cell? ⟨m.g, 8, none⟩ = some (.slice m.A m.n m.c) ∧ w.cell? ⟨m.g, 9, none⟩ = some (.int .i64 m.fuel) ∧ w.cell? ⟨m.g, 10, none⟩ = some (.int .i64 m.cells) ∧ w.cell? ⟨m.g, 11, none⟩ = some (.slice (some ⟨m.gD, 0, none⟩) m.n0 m.cD) ∧ w.cell? ⟨m.g, 12, none⟩ = some (.int .i64 (s.at_ : Int)) ∧ w.cell? ⟨m.g, 13, none⟩ = some (.bool en) :=
  ⟨cell_of_row _ _ _ _ _ _ h.H, cell_of_row _ _ _ _ _ _ h.H, cell_of_row _ _ _ _ _ _ h.H, cell_of_row _ _ _ _ _ _ h.H, cell_of_row _ _ _ _ _ _ h.H, cell_of_row _ _ _ _ _ _ h.H, cell_of_row _ _ _ _ _ _ h.H, cell_of_row _ _ _ _ _ _ h.H, cell_of_row _ _ _ _ _ _ h.H, cell_of_row _ _ _ _ _ _ h.H, cell_of_row _ _ _ _ _ _ h.H, cell_of_row _ _ _ _ _ _ h.H, cell_of_row _ _ _ _ _ _ h.H, cell_of_row _ _ _ _ _ _ h.H⟩
theorem MsM.fz (h : MsM w base m s rs en) (o : Nat) : w.frozen? ⟨m.g, o, none⟩ = false := by simp [World.frozen?, h.H]
theorem MsM.lt (h : MsM w base m s rs en) : m.g < w.heap.size := lt_of_heap h.H
/-- a field is another value -/
theorem MsM.field (h : MsM w base m s rs en) {i : Nat} {v : Value} (hR : s'.R = s.R) (hA : s'.A = s.A) (hc : (m.cs s.at_ s.st s.ce en).set i v = m.cs s'.at_ s'.st s'.ce en') :
    MsM (w.setCell ⟨m.g, i, none⟩ v) base m s' rs en' ∧ BelI base w (w.setCell ⟨m.g, i, none⟩ v) := by
  obtain ⟨cur, h1, h2⟩ := h.D
  have hb : Below base w (w.setCell ⟨m.g, i, none⟩ v) := (Below.refl _ _).setCell (p := ⟨m.g, i, none⟩) h.g0 _
  have hM := h.M.box h.H (by decide) (by decide) i v
  refine ⟨⟨?_, ⟨?_, hM.A, ?_, hM.far⟩, ⟨cur, ?_, h2⟩, h.jis.below hb, h.ill.below hb, ?_, ?_, ?_, h.g0⟩, ⟨hb, fun b cs hbk => (heap_setCell_other w _ b _ fun e => ?_).trans hbk⟩⟩
  · rw [← hc]
    exact set_j (i := i) (cs := m.cs s.at_ s.st s.ce en) h.H v
  · have := hM.R
    show OwnI _ base 2 _ s'.R.length s'.R
    rw [hR]; exact this
  · have := hM.L
    show _ = s'.A.drop m.i
    rw [hA]; exact this
  · refine (heap_setCell_other w _ m.gD _ fun e => ?_).trans h1
    have e : m.gD = m.g := e
    have h3 := h.H
    rw [← e, h1] at h3
    injection h3 with h3; injection h3 with _ h3
    exact absurd h3 (by decide)
  · rw [hA]; exact h.pre
  · rw [hR]; exact h.nr
  · rw [hA]; exact h.na
  · have e : b = m.g := e
    rw [e, h.H] at hbk
    injection hbk with hbk; injection hbk with _ hbk
    exact absurd hbk (by decide)
/-- what lies beside the block is other -/
theorem MsM.other (h : MsM w base m s rs en) (hk : KeepU base w w') (hM : MsW w' base m.gR m.gO (s'.own m.i) rs') (h1 : s'.at_ = s.at_) (h2 : s'.st = s.st) (h3 : s'.ce = s.ce) (hA : s'.A.take m.i = s.A.take m.i) (hR : s'.R.length = s.R.length) (hn : s'.A.length = s.A.length) : MsM w' base m s' rs' en := by
  obtain ⟨cur, h4, h5⟩ := h.D
  refine ⟨?_, hM, ⟨cur, hk.blk _ _ _ h4 (by decide) (by decide), h5⟩, h.jis.below hk.bel, h.ill.below hk.bel, hA.trans h.pre, hR.trans h.nr, ?_, h.g0⟩
  · rw [h1, h2, h3]; exact hk.blk _ _ _ h.H (by decide) (by decide)
  · have := h.na
    rw [List.length_drop] at this ⊢
    omega
theorem MsM.reg (h : MsM w base m s rs en) {i : Nat} (hi : i < m.nr) : w.cell? ⟨m.gR, i, none⟩ = some (.int .i64 (s.r (i : Int))) ∧ w.frozen? ⟨m.gR, i, none⟩ = false := by
  refine h.M.reg (i := i) ?_
  show i < s.R.length
  rw [h.nr]; exact hi
theorem MsM.setR (h : MsM w base m s rs en) (i : Nat) {v : Int} (hv : I64 v) : MsM (w.setCell ⟨m.gR, i, none⟩ (.int .i64 v)) base m (s.put (i : Int) v) rs en ∧ BelI base w (w.setCell ⟨m.gR, i, none⟩ (.int .i64 v)) := by
  obtain ⟨h1, h2⟩ := h.M.setR i hv
  exact ⟨h.other h2 h1 rfl rfl rfl rfl (by show (s.R.set _ _).length = _; rw [List.length_set]) rfl, .ofK h2⟩
theorem own_a (s : Ms) {i k : Nat} (hk : i ≤ k) : (s.own i).a ((k - i : Nat) : Int) = s.a (k : Int) := by
  unfold Ms.a Ms.own
  simp only [Int.toNat_natCast]
  rw [List.getD_eq_getElem?_getD, List.getD_eq_getElem?_getD, List.getElem?_drop, show i + (k - i) = k by omega]
theorem own_arr (s : Ms) {i k : Nat} (hk : i ≤ k) (L : List Int) : (s.own i).arr ((k - i : Nat) : Int) L = (s.arr (k : Int) L).own i := by
  unfold Ms.arr Ms.own
  simp only [Int.toNat_natCast, Ms.mk.injEq, true_and, and_true]
  rw [List.drop_set, if_neg (by omega)]
theorem arr_take (s : Ms) {i k : Nat} (hk : i ≤ k) (L : List Int) : (s.arr (k : Int) L).A.take i = s.A.take i := by
  unfold Ms.arr
  simp only [Int.toNat_natCast]
  rw [List.take_set]
  exact List.set_eq_of_length_le (by rw [List.length_take]; omega)
/-- an array that was handed in -/
theorem MsM.rowI (h : MsM w base m s rs en) {k : Nat} (hk : k < m.i) (hi : m.ins.length = m.i) : k < m.n ∧ ∃ b off a c, m.A = some ⟨b, off, none⟩ ∧ w.cell? ⟨b, off + k, none⟩ = some (.slice a (s.a (k : Int)).length c) ∧ (s.a (k : Int)).length ≤ c ∧ Ints w base a (s.a (k : Int)).length (s.a (k : Int)) := by
  have hn : m.i = m.n := hi.symm.trans h.ill.1
  obtain ⟨b, off, L, a, c, h1, _, h3, h4, h5, h6⟩ := h.ill.at_ (k := k) (by omega)
  have hL : s.a (k : Int) = L := by
    have h7 : m.ins[k]? = some L := h3
    rw [← h.pre, List.getElem?_take_of_lt hk] at h7
    unfold Ms.a
    rw [Int.toNat_natCast, List.getD_eq_getElem?_getD, h7]; rfl
  rw [hL]
  exact ⟨by omega, b, off, a, c, h1, h4, h5, h6⟩
/-- one of its own -/
theorem MsM.rowO (h : MsM w base m s rs en) {k : Nat} (hk : m.i ≤ k) (hk2 : k < s.A.length) : k - m.i < m.na ∧ ∃ r, Hid (rs[k - m.i]? = some r) ∧ r.L = s.a (k : Int) ∧ OwnI w base 2 r.A r.c r.L ∧ w.cell? ⟨m.gO, k - m.i, none⟩ = some (.slice r.A (s.a (k : Int)).length r.c) ∧ w.frozen? ⟨m.gO, k - m.i, none⟩ = false := by
  have hlt : k - m.i < (s.own m.i).A.length := by
    show k - m.i < (s.A.drop m.i).length
    rw [List.length_drop]; omega
  have := h.M.row (i := k - m.i) hlt
  rw [own_a s hk] at this
  exact ⟨by rw [← h.na]; exact hlt, this⟩
theorem MsM.setA (h : MsM w base m s rs en) {k q : Nat} {r : RowU} {v : Int} (hk : m.i ≤ k) (hr : rs[k - m.i]? = some r) (hq : q < r.L.length) (hv : I64 v) :
    ∃ b, r.A = some ⟨b, 0, none⟩ ∧ w.frozen? ⟨b, q, none⟩ = false ∧ MsM (w.setCell ⟨b, q, none⟩ (.int .i64 v)) base m (s.arr (k : Int) ((s.a (k : Int)).set q v)) (rs.set (k - m.i) ⟨r.A, r.c, r.L.set q v⟩) en ∧ BelI base w (w.setCell ⟨b, q, none⟩ (.int .i64 v)) := by
  obtain ⟨b, h1, h2, h3, h4⟩ := h.M.setA hr hq hv
  rw [own_a s hk, own_arr s hk] at h3
  exact ⟨b, h1, h2, h.other h4 h3 rfl rfl rfl (arr_take s hk _) rfl (by show (s.A.set _ _).length = _; rw [List.length_set]), .ofK h4⟩
end
/-- what an instruction comes to -/
def ActP (base : Nat) (m : Mc) (s : Ms) (x : Ji) (w : World) (e : Ending) (w' : World) : Prop :=
  (∃ z rs', doM s x m.cells = .ok z ∧ e = .returned (.int .i64 0) ∧ MsM w' base m z rs' (decide (x.op = 0)) ∧ BelI base w w') ∨
  (∃ v, doM s x m.cells = .error v ∧ e = .returned (.int .i64 v) ∧ BelI base w w')
end Go.Proofs.YtgkngimeokhhgaaDoor
/- What instructions do, by their kind: a map of methods of one machine. -/
namespace Go.Proofs.YtgkngimeokhhgaaDoor
open Go.RowKit Go.Maps

open Classical in
/-- how such a value reads -/
noncomputable def fnR (g : Nat) (v : Value) : Option (DataW Unit × List MemPlace) :=
  if h : ∃ f : FuncId, v = .func (.func f) #[.pointer (some ⟨g, 0, none⟩)] #[] then some (.lit (.int .i64 ((Classical.choose h : Nat) : Int)), []) else if v = .nilFunc then some (.lit (.bool false), []) else none
theorem fnR_func (g : Nat) (f : FuncId) : fnR g (.func (.func f) #[.pointer (some ⟨g, 0, none⟩)] #[]) = some (.lit (.int .i64 ((f : Nat) : Int)), []) := by
  have h : ∃ f' : FuncId, Value.func (.func f) #[.pointer (some ⟨g, 0, none⟩)] #[] = .func (.func f') #[.pointer (some ⟨g, 0, none⟩)] #[] := ⟨f, rfl⟩
  unfold fnR
  rw [dif_pos h]
  have h2 := Classical.choose_spec h
  injection h2 with h2
  injection h2 with h2
  rw [← h2]
theorem fnR_nil (g : Nat) : fnR g .nilFunc = some (.lit (.bool false), []) := by
  unfold fnR
  rw [dif_neg (by rintro ⟨f, h⟩; cases h), if_pos rfl]
theorem fnR_inv {g : Nat} {f : Nat} {v : Value} {ps : List MemPlace} (h : fnR g v = some (.lit (.int .i64 (f : Int)), ps)) : v = .func (.func f) #[.pointer (some ⟨g, 0, none⟩)] #[] := by
  unfold fnR at h
  split at h
  · rename_i h1
    have h2 := Classical.choose_spec h1
    simp only [Option.some.injEq, Prod.mk.injEq, DataW.lit.injEq, Lit.int.injEq, true_and] at h
    have h3 : Classical.choose h1 = f := Int.ofNat_inj.1 h.1
    rw [h3] at h2
    exact h2
  · split at h
    · simp at h
    · cases h
/-- the map, once so many of its entries are there -/
def actD : Nat → DataW Unit
  | 0 => .map []
  | n + 1 => (actD n).put (.int .i64 (n : Int)) (.lit (.int .i64 ((actF (n : Int) : Nat) : Int)))
def ActO (w : World) (g b n : Nat) : Prop := w.ownsMap Tryd.prog 3 (fnR g) b n (actD n)
theorem actD_tidy : ∀ n, Tidy (actD n)
  | 0 => tidy_empty
  | n + 1 => (actD_tidy n).put (k := .int .i64 (n : Int)) (by simp [WideAt.IsKeyLit]) _
theorem actD_at : ∀ (n k : Nat), k < n → (actD n).atKey (.int .i64 (k : Int)) (.lit (.bool false)) = .lit (.int .i64 ((actF (k : Int) : Nat) : Int))
  | 0, _, h => absurd h (Nat.not_lt_zero _)
  | n + 1, k, h => by
    unfold actD
    by_cases e : k = n
    · subst e
      exact atKey_put_same (k := .int .i64 (k : Int)) (actD_tidy k).isMap (by simp [WideAt.IsKeyLit]) _ _
    · rw [atKey_put_other (by intro e2; injection e2 with _ e2; omega)]
      exact actD_at n k (by omega)
theorem int_wf2 {x : Int} (h : -9223372036854775808 ≤ x ∧ x ≤ 9223372036854775807) : (Lit.int .i64 x).wf = true := by
  simp [Lit.wf, IntKind.min, IntKind.max, IntKind.signed, IntKind.bits]; omega
set_option maxRecDepth 100000 in
theorem zeroFn (w : World) : (zeroValue 97).run Tryd.prog w = .ok .nilFunc w := by kernel_rfl
theorem act_look {w : World} {g b : Nat} (h : ActO w g b 13) {x : Int} (h0 : 0 ≤ x) (h1 : x ≤ 12) :
    (Instr.lookup 95 (.map (some b)) (.int .i64 x) false).run Tryd.prog w = .ok (actV g x) w := by
  obtain ⟨k, rfl⟩ := Int.eq_ofNat_of_zero_le h0
  obtain ⟨v, ps, hrun, hv⟩ := World.ownsMap.lookup h (int_keyed Tryd.underlying3) Tryd.underlying95 (zeroFn w) (fnR_nil g) (keyOf_int_mk Tryd.underlying3 (int_wf2 (x := (k : Int)) (by omega)))
  rw [actD_at 13 k (by omega)] at hv
  rw [hrun, fnR_inv hv]; rfl
theorem wpList_act {w : World} {ops : Array Oper} {rest : List Oper} {o : Oper} {a : Act} {Q : Exit → Act → World → Prop} (hg : o.guard = none) (m x v : Operand) (hop : o.op = Op.insert 95 m x v) (g b n : Nat) (key : Int) (val : Value)
    (hm : a.eval m = .map (some b)) (hx : a.eval x = .int .i64 key) (hv : a.eval v = val) (hkn : key = (n : Int)) (hvn : val = actV g (n : Int)) (hown : ActO w g b n) (hn : n ≤ 12)
    (hK : ∀ w', ActO w' g b (n + 1) → w.grownBy w' (some b) → wpList Tryd.prog ops Q rest (a.put o.dst undef) w') : wpList Tryd.prog ops Q (o :: rest) a w := by
  subst hkn
  subst hvn
  refine wpList_plain hg fun K' hK' => ?_
  have hml : n < maxLen := by unfold maxLen; omega
  obtain ⟨w', hrun, r1, r2⟩ := World.ownsMap.update hown (int_keyed Tryd.underlying3) Tryd.underlying95 hml (keyOf_int_mk Tryd.underlying3 (int_wf2 (x := (n : Int)) (by omega))) (fnR_func g (actF (n : Int)))
  unfold Oper.wp
  simp [execOp, hop, hm, hx, hv]
  have hrun' : (Instr.mapUpdate 95 (.map (some b)) (.int .i64 (n : Int)) (actV g (n : Int))).run Tryd.prog w = .ok () w' := hrun
  rw [hrun']
  simp [Result.andThen]
  exact hK' _ _ (hK w' r1 r2)
set_option maxRecDepth 100000 in
set_option maxHeartbeats 4000000 in
theorem acts_any (g : Nat) (w : World) : Calls Tryd.prog 54 #[.pointer (some ⟨g, 0, none⟩)] w fun e w' => ∃ b, e = .returned (.map (some b)) ∧ ActO w' g b 13 ∧ w.heap.size ≤ b ∧ Below w.heap.size w w' := by
  have h0 : ActO (w.alloc (.map #[] 0)) g w.heap.size 0 := World.ownsMap_made w _ _ _
  have HB0 := Lib.hid (lvBelow w (.map #[] 0))
  have hmk : (Instr.makeMap 95 none).run Tryd.prog w = .ok (.map (some w.heap.size)) (w.alloc (.map #[] 0)) := by kernel_rfl
  go_enter Tryd.func54, Tryd.ntmps54
  go_upto_region 1 with fail
  go_wp2_with (first | (refine wpList_act rfl _ _ _ rfl g w.heap.size 0 _ _ rfl rfl rfl rfl rfl h0 (by decide) ?_; intro w1 h1 g1) | (refine wpList_act rfl _ _ _ rfl g w.heap.size 1 _ _ rfl rfl rfl rfl rfl h1 (by decide) ?_; intro w2 h2 g2) | (refine wpList_act rfl _ _ _ rfl g w.heap.size 2 _ _ rfl rfl rfl rfl rfl h2 (by decide) ?_; intro w3 h3 g3) | (refine wpList_act rfl _ _ _ rfl g w.heap.size 3 _ _ rfl rfl rfl rfl rfl h3 (by decide) ?_; intro w4 h4 g4) | (refine wpList_act rfl _ _ _ rfl g w.heap.size 4 _ _ rfl rfl rfl rfl rfl h4 (by decide) ?_; intro w5 h5 g5) | (refine wpList_act rfl _ _ _ rfl g w.heap.size 5 _ _ rfl rfl rfl rfl rfl h5 (by decide) ?_; intro w6 h6 g6) | (refine wpList_act rfl _ _ _ rfl g w.heap.size 6 _ _ rfl rfl rfl rfl rfl h6 (by decide) ?_; intro w7 h7 g7) | (refine wpList_act rfl _ _ _ rfl g w.heap.size 7 _ _ rfl rfl rfl rfl rfl h7 (by decide) ?_; intro w8 h8 g8) | (refine wpList_act rfl _ _ _ rfl g w.heap.size 8 _ _ rfl rfl rfl rfl rfl h8 (by decide) ?_; intro w9 h9 g9) | (refine wpList_act rfl _ _ _ rfl g w.heap.size 9 _ _ rfl rfl rfl rfl rfl h9 (by decide) ?_; intro w10 h10 g10) | (refine wpList_act rfl _ _ _ rfl g w.heap.size 10 _ _ rfl rfl rfl rfl rfl h10 (by decide) ?_; intro w11 h11 g11) | (refine wpList_act rfl _ _ _ rfl g w.heap.size 11 _ _ rfl rfl rfl rfl rfl h11 (by decide) ?_; intro w12 h12 g12) | (refine wpList_act rfl _ _ _ rfl g w.heap.size 12 _ _ rfl rfl rfl rfl rfl h12 (by decide) ?_; intro w13 h13 g13))
  go_ret
  have d1 := HB0.out.grown g1 (HB0.out.size) fun q hq => (by injection hq with hq; omega)
  have d2 := d1.grown g2 (d1.size) fun q hq => (by injection hq with hq; omega)
  have d3 := d2.grown g3 (d2.size) fun q hq => (by injection hq with hq; omega)
  have d4 := d3.grown g4 (d3.size) fun q hq => (by injection hq with hq; omega)
  have d5 := d4.grown g5 (d4.size) fun q hq => (by injection hq with hq; omega)
  have d6 := d5.grown g6 (d5.size) fun q hq => (by injection hq with hq; omega)
  have d7 := d6.grown g7 (d6.size) fun q hq => (by injection hq with hq; omega)
  have d8 := d7.grown g8 (d7.size) fun q hq => (by injection hq with hq; omega)
  have d9 := d8.grown g9 (d8.size) fun q hq => (by injection hq with hq; omega)
  have d10 := d9.grown g10 (d9.size) fun q hq => (by injection hq with hq; omega)
  have d11 := d10.grown g11 (d10.size) fun q hq => (by injection hq with hq; omega)
  have d12 := d11.grown g12 (d11.size) fun q hq => (by injection hq with hq; omega)
  have d13 := d12.grown g13 (d12.size) fun q hq => (by injection hq with hq; omega)
  exact ⟨_, rfl, h13, Nat.le_refl _, d13⟩
end Go.Proofs.YtgkngimeokhhgaaDoor
/- The document's step, on any instruction that may be. -/
namespace Go.Proofs.YtgkngimeokhhgaaDoor
open Go.RowKit Go.Sort

/-- what the kind of a place says of what stands there -/
theorem may_at {R A L : Int} {x : Ji} (h : mayJ R A L x = true) : (0 ≤ x.a ∧ x.a < limJ R A L ((kJ x.op).getD 0 32)) ∧ (0 ≤ x.b ∧ x.b < limJ R A L ((kJ x.op).getD 1 32)) ∧ (0 ≤ x.c ∧ x.c < limJ R A L ((kJ x.op).getD 2 32)) := by
  obtain ⟨_, h2, _, _⟩ := mayJ_parts h
  exact ⟨h2 0 (by omega), h2 1 (by omega), h2 2 (by omega)⟩
end Go.Proofs.YtgkngimeokhhgaaDoor
/- What a run lays ahead: registers, arrays, and a box for where it stands. -/
namespace Go.Proofs.YtgkngimeokhhgaaDoor
open Go.RowKit Go.Sort

theorem OwnI.madeU {w : World} {base g n : Nat} (hg : w.heap[g]? = some (.cells (Array.replicate n (Value.int .i64 0)) 2 (0, 0))) (hb : base ≤ g) (hn : n ≤ 100000) : OwnI w base 2 (some ⟨g, 0, none⟩) n (List.replicate n 0) := by
  refine ⟨?_, fun x hx => by rw [(List.mem_replicate.1 hx).2]; omega⟩
  rw [List.length_replicate, List.map_replicate]
  exact ⟨by simp, .inr ⟨g, n, Array.replicate n (Value.int .i64 0), rfl, hb, hg, Nat.le_refl _, by unfold maxLen; omega, by simp, by simp⟩⟩
theorem RowsU.madeU {w : World} {base g n : Nat} (hg : w.heap[g]? = some (.cells (Array.replicate n (Value.slice none 0 0)) 50 (0, 0))) (hb : base ≤ g) (hn : n ≤ 100000) : RowsU w base g (List.replicate n ⟨none, 0, []⟩) := by
  refine ⟨?_, fun r hr => ?_, fun i j r s _ hr _ g hA => ?_⟩
  · rw [List.length_replicate, List.map_replicate]
    exact ⟨by simp, .inr ⟨g, n, Array.replicate n (Value.slice none 0 0), rfl, hb, hg, Nat.le_refl _, by unfold maxLen; omega, by simp, by simp [RowU.hdr]⟩⟩
  · rw [(List.mem_replicate.1 hr).2]
    exact OwnI.nil_ _ _ _
  · have := (List.mem_replicate.1 (List.mem_of_getElem? hr)).2
    rw [this] at hA
    cases hA
/-- where code begins, before anything is handed in -/
def freshM (R A : Nat) : Ms := ⟨0, List.replicate R 0, List.replicate A [], 0, 0⟩
theorem MsW.madeU {w : World} {base gR gA R A : Nat} (h1 : w.heap[gR]? = some (.cells (Array.replicate R (Value.int .i64 0)) 2 (0, 0))) (h2 : w.heap[gA]? = some (.cells (Array.replicate A (Value.slice none 0 0)) 50 (0, 0))) (b1 : base ≤ gR) (b2 : base ≤ gA) (hR : R ≤ 100000) (hA : A ≤ 100000) :
    MsW w base gR gA (freshM R A) (List.replicate A ⟨none, 0, []⟩) := by
  refine ⟨?_, RowsU.madeU h2 b2 hA, ?_, fun r hr => ?_⟩
  · show OwnI w base 2 (some ⟨gR, 0, none⟩) (List.replicate R (0 : Int)).length (List.replicate R 0)
    rw [List.length_replicate]
    exact OwnI.madeU h1 b1 hR
  · rw [List.map_replicate]; rfl
  · rw [(List.mem_replicate.1 hr).2]; simp
section
variable {W w' w'' : World} {R A : Nat} {F : Nat → Value} {D D' : Nat → Bool} {vs : Nat → Value}
end
end Go.Proofs.YtgkngimeokhhgaaDoor
/- What the machine's instructions do: registers. -/
namespace Go.Proofs.YtgkngimeokhhgaaDoor
open Go.RowKit Go.Sort

set_option maxRecDepth 100000 in
set_option maxHeartbeats 8000000 in
theorem act_1 (m : Mc) (s : Ms) (rs : List RowU) (base : Nat) (w : World) (b c n : Int) (i : Nat) (h : MsM w base m s rs false) (_t0 : s.at_ ≤ 1000000) (_t1 : s.st ≤ 1000000) (_t2 : s.ce ≤ 1000000) (hrv : ∀ i, I64 (s.r i)) (hi : i < m.nr) (hn : I64 n) :
    Calls Tryd.prog 69 #[.pointer (some ⟨m.g, 0, none⟩), Ji.val (⟨1, (i : Int), b, c, n⟩)] w (ActP base m s (⟨1, (i : Int), b, c, n⟩) w) := by
  have hmx : Tryd.prog.follows .mixedOrders = true := by kernel_rfl
  obtain ⟨W0, hW0⟩ : ∃ W, w.alloc (Ji.obj (⟨1, (i : Int), b, c, n⟩)) = W := ⟨_, rfl⟩
  obtain ⟨g0, hg0⟩ : ∃ z, w.heap.size = z := ⟨_, rfl⟩
  have hb0 := lvBelow w (Ji.obj (⟨1, (i : Int), b, c, n⟩))
  have h2 := heap_alloc_new w (Ji.obj (⟨1, (i : Int), b, c, n⟩))
  rw [hW0] at hb0 h2
  rw [hg0] at h2
  have HB0 : Hid (BelI base w W0) := .of hb0 h.size_
  have HM0 := Lib.hid (h.on hb0)
  have HX0 := Lib.hid h2
  have HRV := Lib.hid hrv
  clear hb0 h2 h hrv
  go_enter Tryd.func69, Tryd.ntmps69
  go_upto_region 1 with fail
  try rw [hW0]
  try rw [hg0]
  clear hW0 hg0
  obtain ⟨x0, x1, x2, x3, x4, x5, x6, x7, x8, x9, x10, x11, x12, x13⟩ := MsM.cells HM0.out
  obtain ⟨⟨y0, y1, y2, y3, y4⟩, _⟩ := box_cellsJ HX0.out
  have hi0 : (0 : Int) ≤ (i : Int) := by omega
  have hi1 : (i : Int) < (m.nr : Int) := by omega
  clear x0 x1 x2 x3 x4 x5 x6 x8 x9 x10 x11 x12 x13 y0 y2 y3
  have xx7 := cell_regrown x7
  have xy1 := cell_regrown y1
  have xy4 := cell_regrown y4
  refine wp_region_below_tail 8 hmx (by kernel_rfl) ?_
  simp only [List.take_succ_cons, List.take_zero, List.drop_succ_cons, List.drop_zero]
  repeat (quiet_step (fail))
  refine wpQuiet_nil ?_
  intro _ hw'
  obtain ⟨⟨dq, osq⟩, hw''⟩ := hw'
  subst hw''
  obtain ⟨W9, hW9⟩ : ∃ W, grow (redrawn W0 dq) osq = W := ⟨_, rfl⟩
  have hb9 := below_regrown W0 dq osq
  rw [hW9] at hb9 ⊢
  have HM9 := Lib.hid (HM0.out.on hb9)
  have HB9 := Lib.hid (HB0.out.trans (.of hb9 HM0.out.size_))
  clear xx7 xy1 xy4 x7 y1 y4 hW9 hb9
  obtain ⟨c0, cf⟩ := HM9.out.reg (i := i) hi
  obtain ⟨hm2, hb2⟩ := HM9.out.setR i (v := n) (hn)
  have HM2 := Lib.hid hm2
  have HB2 := Lib.hid (HB9.out.trans hb2)
  clear hm2 hb2
  go_wp2_with fail
  go_ret
  exact .inl ⟨s.put (i : Int) n, rs, rfl, rfl, HM2.out, HB2.out⟩
set_option maxRecDepth 100000 in
set_option maxHeartbeats 8000000 in
theorem act_2 (m : Mc) (s : Ms) (rs : List RowU) (base : Nat) (w : World) (c n : Int) (i j : Nat) (h : MsM w base m s rs false) (_t0 : s.at_ ≤ 1000000) (_t1 : s.st ≤ 1000000) (_t2 : s.ce ≤ 1000000) (hrv : ∀ i, I64 (s.r i)) (hi : i < m.nr) (hj : j < m.nr) :
    Calls Tryd.prog 70 #[.pointer (some ⟨m.g, 0, none⟩), Ji.val (⟨2, (i : Int), (j : Int), c, n⟩)] w (ActP base m s (⟨2, (i : Int), (j : Int), c, n⟩) w) := by
  have hmx : Tryd.prog.follows .mixedOrders = true := by kernel_rfl
  obtain ⟨W0, hW0⟩ : ∃ W, w.alloc (Ji.obj (⟨2, (i : Int), (j : Int), c, n⟩)) = W := ⟨_, rfl⟩
  obtain ⟨g0, hg0⟩ : ∃ z, w.heap.size = z := ⟨_, rfl⟩
  have hb0 := lvBelow w (Ji.obj (⟨2, (i : Int), (j : Int), c, n⟩))
  have h2 := heap_alloc_new w (Ji.obj (⟨2, (i : Int), (j : Int), c, n⟩))
  rw [hW0] at hb0 h2
  rw [hg0] at h2
  have HB0 : Hid (BelI base w W0) := .of hb0 h.size_
  have HM0 := Lib.hid (h.on hb0)
  have HX0 := Lib.hid h2
  have HRV := Lib.hid hrv
  clear hb0 h2 h hrv
  go_enter Tryd.func70, Tryd.ntmps70
  go_upto_region 1 with fail
  try rw [hW0]
  try rw [hg0]
  clear hW0 hg0
  obtain ⟨x0, x1, x2, x3, x4, x5, x6, x7, x8, x9, x10, x11, x12, x13⟩ := MsM.cells HM0.out
  obtain ⟨⟨y0, y1, y2, y3, y4⟩, _⟩ := box_cellsJ HX0.out
  have hi0 : (0 : Int) ≤ (i : Int) := by omega
  have hi1 : (i : Int) < (m.nr : Int) := by omega
  have hj0 : (0 : Int) ≤ (j : Int) := by omega
  have hj1 : (j : Int) < (m.nr : Int) := by omega
  obtain ⟨b0, _⟩ := HM0.out.reg (i := j) hj
  clear x0 x1 x2 x3 x4 x5 x6 x8 x9 x10 x11 x12 x13 y0 y3 y4
  have xx7 := cell_regrown x7
  have xy1 := cell_regrown y1
  have xy2 := cell_regrown y2
  have xb0 := cell_regrown b0
  refine wp_region_below_tail 14 hmx (by kernel_rfl) ?_
  simp only [List.take_succ_cons, List.take_zero, List.drop_succ_cons, List.drop_zero]
  repeat (quiet_step (fail))
  refine wpQuiet_nil ?_
  intro _ hw'
  obtain ⟨⟨dq, osq⟩, hw''⟩ := hw'
  subst hw''
  obtain ⟨W9, hW9⟩ : ∃ W, grow (redrawn W0 dq) osq = W := ⟨_, rfl⟩
  have hb9 := below_regrown W0 dq osq
  rw [hW9] at hb9 ⊢
  have HM9 := Lib.hid (HM0.out.on hb9)
  have HB9 := Lib.hid (HB0.out.trans (.of hb9 HM0.out.size_))
  clear xx7 xy1 xy2 xb0 x7 y1 y2 b0 hW9 hb9
  obtain ⟨c0, cf⟩ := HM9.out.reg (i := i) hi
  obtain ⟨hm2, hb2⟩ := HM9.out.setR i (v := s.r (j : Int)) (HRV.out _)
  have HM2 := Lib.hid hm2
  have HB2 := Lib.hid (HB9.out.trans hb2)
  clear hm2 hb2
  go_wp2_with fail
  go_ret
  exact .inl ⟨s.put (i : Int) (s.r (j : Int)), rs, rfl, rfl, HM2.out, HB2.out⟩
set_option maxRecDepth 100000 in
set_option maxHeartbeats 8000000 in
theorem act_3 (m : Mc) (s : Ms) (rs : List RowU) (base : Nat) (w : World) (n : Int) (i j k : Nat) (h : MsM w base m s rs false) (_t0 : s.at_ ≤ 1000000) (_t1 : s.st ≤ 1000000) (_t2 : s.ce ≤ 1000000) (hrv : ∀ i, I64 (s.r i)) (hi : i < m.nr) (hj : j < m.nr) (hk : k < m.nr) :
    Calls Tryd.prog 71 #[.pointer (some ⟨m.g, 0, none⟩), Ji.val (⟨3, (i : Int), (j : Int), (k : Int), n⟩)] w (ActP base m s (⟨3, (i : Int), (j : Int), (k : Int), n⟩) w) := by
  have hmx : Tryd.prog.follows .mixedOrders = true := by kernel_rfl
  obtain ⟨W0, hW0⟩ : ∃ W, w.alloc (Ji.obj (⟨3, (i : Int), (j : Int), (k : Int), n⟩)) = W := ⟨_, rfl⟩
  obtain ⟨g0, hg0⟩ : ∃ z, w.heap.size = z := ⟨_, rfl⟩
  have hb0 := lvBelow w (Ji.obj (⟨3, (i : Int), (j : Int), (k : Int), n⟩))
  have h2 := heap_alloc_new w (Ji.obj (⟨3, (i : Int), (j : Int), (k : Int), n⟩))
  rw [hW0] at hb0 h2
  rw [hg0] at h2
  have HB0 : Hid (BelI base w W0) := .of hb0 h.size_
  have HM0 := Lib.hid (h.on hb0)
  have HX0 := Lib.hid h2
  have HRV := Lib.hid hrv
  clear hb0 h2 h hrv
  go_enter Tryd.func71, Tryd.ntmps71
  go_upto_region 1 with fail
  try rw [hW0]
  try rw [hg0]
  clear hW0 hg0
  obtain ⟨x0, x1, x2, x3, x4, x5, x6, x7, x8, x9, x10, x11, x12, x13⟩ := MsM.cells HM0.out
  obtain ⟨⟨y0, y1, y2, y3, y4⟩, _⟩ := box_cellsJ HX0.out
  have hi0 : (0 : Int) ≤ (i : Int) := by omega
  have hi1 : (i : Int) < (m.nr : Int) := by omega
  have hj0 : (0 : Int) ≤ (j : Int) := by omega
  have hj1 : (j : Int) < (m.nr : Int) := by omega
  have hk0 : (0 : Int) ≤ (k : Int) := by omega
  have hk1 : (k : Int) < (m.nr : Int) := by omega
  obtain ⟨b0, _⟩ := HM0.out.reg (i := j) hj
  obtain ⟨d0, _⟩ := HM0.out.reg (i := k) hk
  clear x0 x1 x2 x3 x4 x5 x6 x8 x9 x10 x11 x12 x13 y0 y4
  have xx7 := cell_regrown x7
  have xy1 := cell_regrown y1
  have xy2 := cell_regrown y2
  have xy3 := cell_regrown y3
  have xb0 := cell_regrown b0
  have xd0 := cell_regrown d0
  refine wp_region_below_tail 23 hmx (by kernel_rfl) ?_
  simp only [List.take_succ_cons, List.take_zero, List.drop_succ_cons, List.drop_zero]
  repeat (quiet_step (fail))
  refine wpQuiet_nil ?_
  intro _ hw'
  obtain ⟨⟨dq, osq⟩, hw''⟩ := hw'
  subst hw''
  obtain ⟨W9, hW9⟩ : ∃ W, grow (redrawn W0 dq) osq = W := ⟨_, rfl⟩
  have hb9 := below_regrown W0 dq osq
  rw [hW9] at hb9 ⊢
  have HM9 := Lib.hid (HM0.out.on hb9)
  have HB9 := Lib.hid (HB0.out.trans (.of hb9 HM0.out.size_))
  clear xx7 xy1 xy2 xy3 xb0 xd0 x7 y1 y2 y3 b0 d0 hW9 hb9
  obtain ⟨c0, cf⟩ := HM9.out.reg (i := i) hi
  obtain ⟨hm2, hb2⟩ := HM9.out.setR i (v := wrap64 (s.r (j : Int) + s.r (k : Int))) (.wrap _)
  have HM2 := Lib.hid hm2
  have HB2 := Lib.hid (HB9.out.trans hb2)
  clear hm2 hb2
  go_wp2_with fail
  go_ret
  exact .inl ⟨s.put (i : Int) (wrap64 (s.r (j : Int) + s.r (k : Int))), rs, rfl, rfl, HM2.out, HB2.out⟩
set_option maxRecDepth 100000 in
set_option maxHeartbeats 8000000 in
theorem act_4 (m : Mc) (s : Ms) (rs : List RowU) (base : Nat) (w : World) (n : Int) (i j k : Nat) (h : MsM w base m s rs false) (_t0 : s.at_ ≤ 1000000) (_t1 : s.st ≤ 1000000) (_t2 : s.ce ≤ 1000000) (hrv : ∀ i, I64 (s.r i)) (hi : i < m.nr) (hj : j < m.nr) (hk : k < m.nr) :
    Calls Tryd.prog 72 #[.pointer (some ⟨m.g, 0, none⟩), Ji.val (⟨4, (i : Int), (j : Int), (k : Int), n⟩)] w (ActP base m s (⟨4, (i : Int), (j : Int), (k : Int), n⟩) w) := by
  have hmx : Tryd.prog.follows .mixedOrders = true := by kernel_rfl
  obtain ⟨W0, hW0⟩ : ∃ W, w.alloc (Ji.obj (⟨4, (i : Int), (j : Int), (k : Int), n⟩)) = W := ⟨_, rfl⟩
  obtain ⟨g0, hg0⟩ : ∃ z, w.heap.size = z := ⟨_, rfl⟩
  have hb0 := lvBelow w (Ji.obj (⟨4, (i : Int), (j : Int), (k : Int), n⟩))
  have h2 := heap_alloc_new w (Ji.obj (⟨4, (i : Int), (j : Int), (k : Int), n⟩))
  rw [hW0] at hb0 h2
  rw [hg0] at h2
  have HB0 : Hid (BelI base w W0) := .of hb0 h.size_
  have HM0 := Lib.hid (h.on hb0)
  have HX0 := Lib.hid h2
  have HRV := Lib.hid hrv
  clear hb0 h2 h hrv
  go_enter Tryd.func72, Tryd.ntmps72
  go_upto_region 1 with fail
  try rw [hW0]
  try rw [hg0]
  clear hW0 hg0
  obtain ⟨x0, x1, x2, x3, x4, x5, x6, x7, x8, x9, x10, x11, x12, x13⟩ := MsM.cells HM0.out
  obtain ⟨⟨y0, y1, y2, y3, y4⟩, _⟩ := box_cellsJ HX0.out
  have hi0 : (0 : Int) ≤ (i : Int) := by omega
  have hi1 : (i : Int) < (m.nr : Int) := by omega
  have hj0 : (0 : Int) ≤ (j : Int) := by omega
  have hj1 : (j : Int) < (m.nr : Int) := by omega
  have hk0 : (0 : Int) ≤ (k : Int) := by omega
  have hk1 : (k : Int) < (m.nr : Int) := by omega
  obtain ⟨b0, _⟩ := HM0.out.reg (i := j) hj
  obtain ⟨d0, _⟩ := HM0.out.reg (i := k) hk
  clear x0 x1 x2 x3 x4 x5 x6 x8 x9 x10 x11 x12 x13 y0 y4
  have xx7 := cell_regrown x7
  have xy1 := cell_regrown y1
  have xy2 := cell_regrown y2
  have xy3 := cell_regrown y3
  have xb0 := cell_regrown b0
  have xd0 := cell_regrown d0
  refine wp_region_below_tail 23 hmx (by kernel_rfl) ?_
  simp only [List.take_succ_cons, List.take_zero, List.drop_succ_cons, List.drop_zero]
  repeat (quiet_step (fail))
  refine wpQuiet_nil ?_
  intro _ hw'
  obtain ⟨⟨dq, osq⟩, hw''⟩ := hw'
  subst hw''
  obtain ⟨W9, hW9⟩ : ∃ W, grow (redrawn W0 dq) osq = W := ⟨_, rfl⟩
  have hb9 := below_regrown W0 dq osq
  rw [hW9] at hb9 ⊢
  have HM9 := Lib.hid (HM0.out.on hb9)
  have HB9 := Lib.hid (HB0.out.trans (.of hb9 HM0.out.size_))
  clear xx7 xy1 xy2 xy3 xb0 xd0 x7 y1 y2 y3 b0 d0 hW9 hb9
  obtain ⟨c0, cf⟩ := HM9.out.reg (i := i) hi
  obtain ⟨hm2, hb2⟩ := HM9.out.setR i (v := wrap64 (s.r (j : Int) - s.r (k : Int))) (.wrap _)
  have HM2 := Lib.hid hm2
  have HB2 := Lib.hid (HB9.out.trans hb2)
  clear hm2 hb2
  go_wp2_with fail
  go_ret
  exact .inl ⟨s.put (i : Int) (wrap64 (s.r (j : Int) - s.r (k : Int))), rs, rfl, rfl, HM2.out, HB2.out⟩
set_option maxRecDepth 100000 in
set_option maxHeartbeats 8000000 in
theorem act_5 (m : Mc) (s : Ms) (rs : List RowU) (base : Nat) (w : World) (n : Int) (i j k : Nat) (h : MsM w base m s rs false) (_t0 : s.at_ ≤ 1000000) (_t1 : s.st ≤ 1000000) (_t2 : s.ce ≤ 1000000) (hrv : ∀ i, I64 (s.r i)) (hi : i < m.nr) (hj : j < m.nr) (hk : k < m.nr) :
    Calls Tryd.prog 73 #[.pointer (some ⟨m.g, 0, none⟩), Ji.val (⟨5, (i : Int), (j : Int), (k : Int), n⟩)] w (ActP base m s (⟨5, (i : Int), (j : Int), (k : Int), n⟩) w) := by
  have hmx : Tryd.prog.follows .mixedOrders = true := by kernel_rfl
  obtain ⟨W0, hW0⟩ : ∃ W, w.alloc (Ji.obj (⟨5, (i : Int), (j : Int), (k : Int), n⟩)) = W := ⟨_, rfl⟩
  obtain ⟨g0, hg0⟩ : ∃ z, w.heap.size = z := ⟨_, rfl⟩
  have hb0 := lvBelow w (Ji.obj (⟨5, (i : Int), (j : Int), (k : Int), n⟩))
  have h2 := heap_alloc_new w (Ji.obj (⟨5, (i : Int), (j : Int), (k : Int), n⟩))
  rw [hW0] at hb0 h2
  rw [hg0] at h2
  have HB0 : Hid (BelI base w W0) := .of hb0 h.size_
  have HM0 := Lib.hid (h.on hb0)
  have HX0 := Lib.hid h2
  have HRV := Lib.hid hrv
  clear hb0 h2 h hrv
  go_enter Tryd.func73, Tryd.ntmps73
  go_upto_region 1 with fail
  try rw [hW0]
  try rw [hg0]
  clear hW0 hg0
  obtain ⟨x0, x1, x2, x3, x4, x5, x6, x7, x8, x9, x10, x11, x12, x13⟩ := MsM.cells HM0.out
  obtain ⟨⟨y0, y1, y2, y3, y4⟩, _⟩ := box_cellsJ HX0.out
  have hi0 : (0 : Int) ≤ (i : Int) := by omega
  have hi1 : (i : Int) < (m.nr : Int) := by omega
  have hj0 : (0 : Int) ≤ (j : Int) := by omega
  have hj1 : (j : Int) < (m.nr : Int) := by omega
  have hk0 : (0 : Int) ≤ (k : Int) := by omega
  have hk1 : (k : Int) < (m.nr : Int) := by omega
  obtain ⟨b0, _⟩ := HM0.out.reg (i := j) hj
  obtain ⟨d0, _⟩ := HM0.out.reg (i := k) hk
  clear x0 x1 x2 x3 x4 x5 x6 x8 x9 x10 x11 x12 x13 y0 y4
  have xx7 := cell_regrown x7
  have xy1 := cell_regrown y1
  have xy2 := cell_regrown y2
  have xy3 := cell_regrown y3
  have xb0 := cell_regrown b0
  have xd0 := cell_regrown d0
  refine wp_region_below_tail 23 hmx (by kernel_rfl) ?_
  simp only [List.take_succ_cons, List.take_zero, List.drop_succ_cons, List.drop_zero]
  repeat (quiet_step (fail))
  refine wpQuiet_nil ?_
  intro _ hw'
  obtain ⟨⟨dq, osq⟩, hw''⟩ := hw'
  subst hw''
  obtain ⟨W9, hW9⟩ : ∃ W, grow (redrawn W0 dq) osq = W := ⟨_, rfl⟩
  have hb9 := below_regrown W0 dq osq
  rw [hW9] at hb9 ⊢
  have HM9 := Lib.hid (HM0.out.on hb9)
  have HB9 := Lib.hid (HB0.out.trans (.of hb9 HM0.out.size_))
  clear xx7 xy1 xy2 xy3 xb0 xd0 x7 y1 y2 y3 b0 d0 hW9 hb9
  obtain ⟨c0, cf⟩ := HM9.out.reg (i := i) hi
  obtain ⟨hm2, hb2⟩ := HM9.out.setR i (v := wrap64 (s.r (j : Int) * s.r (k : Int))) (.wrap _)
  have HM2 := Lib.hid hm2
  have HB2 := Lib.hid (HB9.out.trans hb2)
  clear hm2 hb2
  go_wp2_with fail
  go_ret
  exact .inl ⟨s.put (i : Int) (wrap64 (s.r (j : Int) * s.r (k : Int))), rs, rfl, rfl, HM2.out, HB2.out⟩
end Go.Proofs.YtgkngimeokhhgaaDoor
/- What the machine's instructions do: the end, and places. -/
namespace Go.Proofs.YtgkngimeokhhgaaDoor
open Go.RowKit Go.Sort

set_option maxRecDepth 100000 in
set_option maxHeartbeats 8000000 in
theorem act_0 (m : Mc) (s : Ms) (rs : List RowU) (base : Nat) (w : World) (a b c n : Int) (h : MsM w base m s rs false) (_t0 : s.at_ ≤ 1000000) (_t1 : s.st ≤ 1000000) (_t2 : s.ce ≤ 1000000) (hrv : ∀ i, I64 (s.r i)) :
    Calls Tryd.prog 68 #[.pointer (some ⟨m.g, 0, none⟩), Ji.val (⟨0, a, b, c, n⟩)] w (ActP base m s (⟨0, a, b, c, n⟩) w) := by
  have hmx : Tryd.prog.follows .mixedOrders = true := by kernel_rfl
  obtain ⟨W0, hW0⟩ : ∃ W, w.alloc (Ji.obj (⟨0, a, b, c, n⟩)) = W := ⟨_, rfl⟩
  obtain ⟨g0, hg0⟩ : ∃ z, w.heap.size = z := ⟨_, rfl⟩
  have hb0 := lvBelow w (Ji.obj (⟨0, a, b, c, n⟩))
  have h2 := heap_alloc_new w (Ji.obj (⟨0, a, b, c, n⟩))
  rw [hW0] at hb0 h2
  rw [hg0] at h2
  have HB0 : Hid (BelI base w W0) := .of hb0 h.size_
  have HM0 := Lib.hid (h.on hb0)
  have HX0 := Lib.hid h2
  have HRV := Lib.hid hrv
  clear hb0 h2 h hrv
  go_enter Tryd.func68, Tryd.ntmps68
  go_upto_region 1 with fail
  try rw [hW0]
  try rw [hg0]
  clear hW0 hg0
  obtain ⟨x0, x1, x2, x3, x4, x5, x6, x7, x8, x9, x10, x11, x12, x13⟩ := MsM.cells HM0.out
  obtain ⟨⟨y0, y1, y2, y3, y4⟩, _⟩ := box_cellsJ HX0.out
  have HF := Lib.hid (HM0.out.field (i := 13) (v := .bool true) (s' := s) (en' := true) rfl rfl rfl)
  have z13 := HM0.out.fz 13
  clear x0 x1 x2 x3 x4 x5 x6 x7 x8 x9 x10 x11 x12 y0 y1 y2 y3 y4
  go_wp2_with fail
  go_ret
  exact .inl ⟨s, rs, rfl, rfl, HF.out.1, HB0.out.trans HF.out.2⟩
set_option maxRecDepth 100000 in
set_option maxHeartbeats 8000000 in
theorem act_10 (m : Mc) (s : Ms) (rs : List RowU) (base : Nat) (w : World) (b c n : Int) (i : Nat) (h : MsM w base m s rs false) (_t0 : s.at_ ≤ 1000000) (_t1 : s.st ≤ 1000000) (_t2 : s.ce ≤ 1000000) (hrv : ∀ i, I64 (s.r i)) :
    Calls Tryd.prog 78 #[.pointer (some ⟨m.g, 0, none⟩), Ji.val (⟨10, (i : Int), b, c, n⟩)] w (ActP base m s (⟨10, (i : Int), b, c, n⟩) w) := by
  have hmx : Tryd.prog.follows .mixedOrders = true := by kernel_rfl
  obtain ⟨W0, hW0⟩ : ∃ W, w.alloc (Ji.obj (⟨10, (i : Int), b, c, n⟩)) = W := ⟨_, rfl⟩
  obtain ⟨g0, hg0⟩ : ∃ z, w.heap.size = z := ⟨_, rfl⟩
  have hb0 := lvBelow w (Ji.obj (⟨10, (i : Int), b, c, n⟩))
  have h2 := heap_alloc_new w (Ji.obj (⟨10, (i : Int), b, c, n⟩))
  rw [hW0] at hb0 h2
  rw [hg0] at h2
  have HB0 : Hid (BelI base w W0) := .of hb0 h.size_
  have HM0 := Lib.hid (h.on hb0)
  have HX0 := Lib.hid h2
  have HRV := Lib.hid hrv
  clear hb0 h2 h hrv
  go_enter Tryd.func78, Tryd.ntmps78
  go_upto_region 1 with fail
  try rw [hW0]
  try rw [hg0]
  clear hW0 hg0
  obtain ⟨x0, x1, x2, x3, x4, x5, x6, x7, x8, x9, x10, x11, x12, x13⟩ := MsM.cells HM0.out
  obtain ⟨⟨y0, y1, y2, y3, y4⟩, _⟩ := box_cellsJ HX0.out
  have HF := Lib.hid (HM0.out.field (i := 12) (v := .int .i64 (i : Int)) (s' := s.goto_ (i : Int)) (en' := false) rfl rfl rfl)
  have z12 := HM0.out.fz 12
  clear x0 x1 x2 x3 x4 x5 x6 x7 x8 x9 x10 x11 x13 y0 y2 y3 y4
  go_wp2_with fail
  go_ret
  exact .inl ⟨s.goto_ (i : Int), rs, rfl, rfl, HF.out.1, HB0.out.trans HF.out.2⟩
set_option maxRecDepth 100000 in
set_option maxHeartbeats 8000000 in
theorem act_11 (m : Mc) (s : Ms) (rs : List RowU) (base : Nat) (w : World) (n : Int) (i j k : Nat) (h : MsM w base m s rs false) (_t0 : s.at_ ≤ 1000000) (_t1 : s.st ≤ 1000000) (_t2 : s.ce ≤ 1000000) (hrv : ∀ i, I64 (s.r i)) (hi : i < m.nr) (hj : j < m.nr) :
    Calls Tryd.prog 79 #[.pointer (some ⟨m.g, 0, none⟩), Ji.val (⟨11, (i : Int), (j : Int), (k : Int), n⟩)] w (ActP base m s (⟨11, (i : Int), (j : Int), (k : Int), n⟩) w) := by
  have hmx : Tryd.prog.follows .mixedOrders = true := by kernel_rfl
  obtain ⟨W0, hW0⟩ : ∃ W, w.alloc (Ji.obj (⟨11, (i : Int), (j : Int), (k : Int), n⟩)) = W := ⟨_, rfl⟩
  obtain ⟨g0, hg0⟩ : ∃ z, w.heap.size = z := ⟨_, rfl⟩
  have hb0 := lvBelow w (Ji.obj (⟨11, (i : Int), (j : Int), (k : Int), n⟩))
  have h2 := heap_alloc_new w (Ji.obj (⟨11, (i : Int), (j : Int), (k : Int), n⟩))
  rw [hW0] at hb0 h2
  rw [hg0] at h2
  have HB0 : Hid (BelI base w W0) := .of hb0 h.size_
  have HM0 := Lib.hid (h.on hb0)
  have HX0 := Lib.hid h2
  have HRV := Lib.hid hrv
  clear hb0 h2 h hrv
  go_enter Tryd.func79, Tryd.ntmps79
  go_upto_region 1 with fail
  try rw [hW0]
  try rw [hg0]
  clear hW0 hg0
  obtain ⟨x0, x1, x2, x3, x4, x5, x6, x7, x8, x9, x10, x11, x12, x13⟩ := MsM.cells HM0.out
  obtain ⟨⟨y0, y1, y2, y3, y4⟩, _⟩ := box_cellsJ HX0.out
  have hi0 : (0 : Int) ≤ (i : Int) := by omega
  have hi1 : (i : Int) < (m.nr : Int) := by omega
  have hj0 : (0 : Int) ≤ (j : Int) := by omega
  have hj1 : (j : Int) < (m.nr : Int) := by omega
  obtain ⟨b0, _⟩ := HM0.out.reg (i := i) hi
  obtain ⟨d0, _⟩ := HM0.out.reg (i := j) hj
  have HF := fun x => Lib.hid ((HM0.out.drewN x).field (i := 12) (v := .int .i64 (k : Int)) (s' := s.goto_ (k : Int)) (en' := false) rfl rfl rfl)
  have z12 := HM0.out.fz 12
  obtain ⟨u, hu⟩ : ∃ u, s.r (i : Int) = u := ⟨_, rfl⟩
  obtain ⟨v, hv⟩ : ∃ v, s.r (j : Int) = v := ⟨_, rfl⟩
  rw [hu] at b0
  rw [hv] at d0
  have HUV := Lib.hid (And.intro hu hv)
  clear hu hv
  clear x0 x1 x2 x3 x4 x5 x6 x8 x9 x10 x11 x13 y0 y4
  by_cases hc : u < v
  · have hd : decide (u < v) = true := decide_eq_true hc
    have HC := Lib.hid hc
    clear hc
    go_quiet (fail)
    go_wp2_with fail
    go_ret
    exact .inl ⟨s.goto_ (k : Int), rs, by unfold doM; simp only [if_true, if_false, Int.reduceEq]; rw [HUV.out.1, HUV.out.2, if_pos HC.out], rfl, (HF _).out.1, (HB0.out.N _).trans (HF _).out.2⟩
  · have hd : decide (u < v) = false := decide_eq_false hc
    have HC := Lib.hid hc
    clear hc
    go_quiet (fail)
    go_wp2_with fail
    go_ret
    exact .inl ⟨s, rs, by unfold doM; simp only [if_true, if_false, Int.reduceEq]; rw [HUV.out.1, HUV.out.2, if_neg (Int.not_lt.2 HC.out)], rfl, HM0.out.drewN _, HB0.out.N _⟩
set_option maxRecDepth 100000 in
set_option maxHeartbeats 8000000 in
theorem act_12 (m : Mc) (s : Ms) (rs : List RowU) (base : Nat) (w : World) (n : Int) (i j k : Nat) (h : MsM w base m s rs false) (_t0 : s.at_ ≤ 1000000) (_t1 : s.st ≤ 1000000) (_t2 : s.ce ≤ 1000000) (hrv : ∀ i, I64 (s.r i)) (hi : i < m.nr) (hj : j < m.nr) :
    Calls Tryd.prog 80 #[.pointer (some ⟨m.g, 0, none⟩), Ji.val (⟨12, (i : Int), (j : Int), (k : Int), n⟩)] w (ActP base m s (⟨12, (i : Int), (j : Int), (k : Int), n⟩) w) := by
  have hmx : Tryd.prog.follows .mixedOrders = true := by kernel_rfl
  obtain ⟨W0, hW0⟩ : ∃ W, w.alloc (Ji.obj (⟨12, (i : Int), (j : Int), (k : Int), n⟩)) = W := ⟨_, rfl⟩
  obtain ⟨g0, hg0⟩ : ∃ z, w.heap.size = z := ⟨_, rfl⟩
  have hb0 := lvBelow w (Ji.obj (⟨12, (i : Int), (j : Int), (k : Int), n⟩))
  have h2 := heap_alloc_new w (Ji.obj (⟨12, (i : Int), (j : Int), (k : Int), n⟩))
  rw [hW0] at hb0 h2
  rw [hg0] at h2
  have HB0 : Hid (BelI base w W0) := .of hb0 h.size_
  have HM0 := Lib.hid (h.on hb0)
  have HX0 := Lib.hid h2
  have HRV := Lib.hid hrv
  clear hb0 h2 h hrv
  go_enter Tryd.func80, Tryd.ntmps80
  go_upto_region 1 with fail
  try rw [hW0]
  try rw [hg0]
  clear hW0 hg0
  obtain ⟨x0, x1, x2, x3, x4, x5, x6, x7, x8, x9, x10, x11, x12, x13⟩ := MsM.cells HM0.out
  obtain ⟨⟨y0, y1, y2, y3, y4⟩, _⟩ := box_cellsJ HX0.out
  have hi0 : (0 : Int) ≤ (i : Int) := by omega
  have hi1 : (i : Int) < (m.nr : Int) := by omega
  have hj0 : (0 : Int) ≤ (j : Int) := by omega
  have hj1 : (j : Int) < (m.nr : Int) := by omega
  obtain ⟨b0, _⟩ := HM0.out.reg (i := i) hi
  obtain ⟨d0, _⟩ := HM0.out.reg (i := j) hj
  have HF := fun x => Lib.hid ((HM0.out.drewN x).field (i := 12) (v := .int .i64 (k : Int)) (s' := s.goto_ (k : Int)) (en' := false) rfl rfl rfl)
  have z12 := HM0.out.fz 12
  obtain ⟨u, hu⟩ : ∃ u, s.r (i : Int) = u := ⟨_, rfl⟩
  obtain ⟨v, hv⟩ : ∃ v, s.r (j : Int) = v := ⟨_, rfl⟩
  rw [hu] at b0
  rw [hv] at d0
  have HUV := Lib.hid (And.intro hu hv)
  clear hu hv
  clear x0 x1 x2 x3 x4 x5 x6 x8 x9 x10 x11 x13 y0 y4
  by_cases hc : u = v
  · have hd : (u == v) = true := beq_iff_eq.2 hc
    have HC := Lib.hid hc
    clear hc
    go_quiet (fail)
    go_wp2_with fail
    go_ret
    exact .inl ⟨s.goto_ (k : Int), rs, by unfold doM; simp only [if_true, if_false, Int.reduceEq]; rw [HUV.out.1, HUV.out.2, if_pos HC.out], rfl, (HF _).out.1, (HB0.out.N _).trans (HF _).out.2⟩
  · have hd : (u == v) = false := by simpa using hc
    have HC := Lib.hid hc
    clear hc
    go_quiet (fail)
    go_wp2_with fail
    go_ret
    exact .inl ⟨s, rs, by unfold doM; simp only [if_true, if_false, Int.reduceEq]; rw [HUV.out.1, HUV.out.2, if_neg HC.out], rfl, HM0.out.drewN _, HB0.out.N _⟩
end Go.Proofs.YtgkngimeokhhgaaDoor
/- The machine's arrays: which one a number tells; whether a list has a place. -/
namespace Go.Proofs.YtgkngimeokhhgaaDoor
open Go.RowKit Go.Sort

/-- where an array's header lies -/
def RowAt (w : World) (m : Mc) (s : Ms) (k : Nat) (a : Option Addr) (c : Nat) : Prop :=
  (k < m.i ∧ k < m.n ∧ ∃ b off, m.A = some ⟨b, off, none⟩ ∧ w.cell? ⟨b, off + k, none⟩ = some (.slice a (s.a (k : Int)).length c)) ∨
  (m.i ≤ k ∧ k - m.i < m.na ∧ w.cell? ⟨m.gO, k - m.i, none⟩ = some (.slice a (s.a (k : Int)).length c))
theorem MsM.rowAt {w : World} {base : Nat} {m : Mc} {s : Ms} {rs : List RowU} {en : Bool} (h : MsM w base m s rs en) {k : Nat} (hk : k < s.A.length) (hi : m.ins.length = m.i) :
    ∃ a c, Hid (RowAt w m s k a c) ∧ Hid (Ints w w.heap.size a (s.a (k : Int)).length (s.a (k : Int))) ∧ Hid (m.i ≤ k → ∃ r, rs[k - m.i]? = some r ∧ r.A = a ∧ r.L = s.a (k : Int)) := by
  by_cases h1 : k < m.i
  · obtain ⟨h2, b, off, a, c, h3, h4, _, h6⟩ := h.rowI h1 hi
    exact ⟨a, c, .inl ⟨h1, h2, b, off, h3, h4⟩, h6.more h.size_, fun h7 => by omega⟩
  · obtain ⟨h2, r, h3, h4, h5, h6, _⟩ := h.rowO (k := k) (by omega) hk
    exact ⟨r.A, r.c, .inr ⟨by omega, h2, h6⟩, by rw [← h4]; exact h5.ints, fun _ => ⟨r, h3, rfl, h4⟩⟩
set_option maxRecDepth 100000 in
set_option maxHeartbeats 1000000 in
theorem has_any (A : Option Addr) (n c : Nat) (v : Int) (w : World) : Calls Tryd.prog 89 #[.slice A n c, .int .i64 v] w fun e w' => e = .returned (.bool (decide (0 ≤ v) && decide (v < (n : Int)))) ∧ w' = w := by
  by_cases h0 : 0 ≤ v
  · have d0 : decide (0 ≤ v) = true := decide_eq_true h0
    obtain ⟨b, hb⟩ : ∃ b, decide (v < (n : Int)) = b := ⟨_, rfl⟩
    rw [d0, hb]
    clear h0
    go_enter Tryd.func89, Tryd.ntmps89
    go_wp2_with fail
    go_ret
    exact ⟨rfl, rfl⟩
  · have d0 : decide (0 ≤ v) = false := decide_eq_false h0
    rw [d0]
    clear h0
    go_enter Tryd.func89, Tryd.ntmps89
    go_wp2_with fail
    go_ret
    exact ⟨rfl, rfl⟩
set_option maxRecDepth 100000 in
set_option maxHeartbeats 4000000 in
theorem array_any (m : Mc) (s : Ms) (rs : List RowU) (base : Nat) (w : World) (en : Bool) (h : MsM w base m s rs en) (k : Nat) (a : Option Addr) (c : Nat) (hr : RowAt w m s k a c) (h1 : k ≤ 1000) (h2 : m.i ≤ 1000) :
    Calls Tryd.prog 88 #[.pointer (some ⟨m.g, 0, none⟩), .int .i64 (k : Int)] w fun e w' => e = .returned (.slice a (s.a (k : Int)).length c) ∧ ∃ q, w' = w.drewN q := by
  obtain ⟨x0, x1, x2, x3, x4, x5, x6, x7, x8, x9, x10, x11, x12, x13⟩ := MsM.cells h
  clear h x1 x2 x3 x4 x6 x7 x9 x10 x11 x12 x13
  rcases hr with ⟨h3, h4, b, off, h5, h6⟩ | ⟨h3, h4, h6⟩
  · rw [h5] at x8
    have k0 : (0 : Int) ≤ (k : Int) := by omega
    have k1 : (k : Int) < (m.n : Int) := by omega
    have hd : decide (k < m.i) = true := decide_eq_true (by omega)
    clear h1 h2 h4 h5 x0
    go_enter Tryd.func88, Tryd.ntmps88
    go_wp2_with fail
    go_ret
    exact ⟨rfl, 0, rfl⟩
  · obtain ⟨p, hp⟩ : ∃ p, k - m.i = p := ⟨_, rfl⟩
    rw [hp] at h4 h6
    have hd : decide (k < m.i) = false := decide_eq_false (by omega)
    have hn : ¬ k < m.i := by omega
    have hs : (k : Int) - (m.i : Int) = (p : Int) := by omega
    have p0 : (0 : Int) ≤ (p : Int) := by omega
    have p1 : (p : Int) < (m.na : Int) := by omega
    clear h3 h4 hp x8
    go_enter Tryd.func88, Tryd.ntmps88
    go_upto_region 3 with fail
    go_quiet (fail)
    go_wp2_with fail
    go_ret
    exact ⟨rfl, _, rfl⟩
theorem array_b (m : Mc) (s : Ms) (rs : List RowU) (base : Nat) (w : World) (en : Bool) (h : MsM w base m s rs en) (k : Nat) (a : Option Addr) (c : Nat) (hr : RowAt w m s k a c) (h1 : k ≤ 1000) (h2 : m.i ≤ 1000) :
    Calls Tryd.prog 88 #[.pointer (some ⟨m.g, 0, none⟩), .int .i64 (k : Int)] w fun e w' => e = .returned (.slice a (s.a (k : Int)).length c) ∧ Below w.heap.size w w' :=
  (array_any m s rs base w en h k a c hr h1 h2).mono fun _ _ ⟨he, q, hw⟩ => ⟨he, by rw [hw]; exact below_N (Below.refl _ _) q⟩
theorem RowAt.on {w w' : World} {m : Mc} {s : Ms} {k c : Nat} {a : Option Addr} (h : RowAt w m s k a c) (hb : Below w.heap.size w w') : RowAt w' m s k a c := by
  rcases h with ⟨h1, h2, b, off, h3, h4⟩ | ⟨h1, h2, h4⟩
  · exact .inl ⟨h1, h2, b, off, h3, (hb.cell (World.block_lt_of_cell? _ _ h4)).trans h4⟩
  · exact .inr ⟨h1, h2, (hb.cell (World.block_lt_of_cell? _ _ h4)).trans h4⟩
end Go.Proofs.YtgkngimeokhhgaaDoor
