/- A number more in an array, in a region that draws its order. -/
import Derived.Test.YtgkngimeokhhgaaGreatDoorG9
import Derived.Test.YtgkngimeokhhgaaGreatDoorG3
import Derived.Maps.OwnSet
namespace Go.Proofs.YtgkngimeokhhgaaGreatDoor
open Go.RowKit Go.Sort

theorem MsW.size_ {w : World} {base gR gA : Nat} {s : Ms} {rs : List RowU} (h : MsW w base gR gA s rs) : base ≤ w.heap.size := by have := h.R.ltL; omega
theorem ints_lit {w : World} {g : Nat} {v : Int} {t : TypeId} (h : w.heap[g]? = some (.cells #[.int .i64 v] t (0, 0))) (hv : I64 v) : Ints w (g + 1) (some ⟨g, 0, none⟩) 1 [v] := by
  refine ⟨rfl, fun x hx => by rw [List.mem_singleton.1 hx]; exact hv, fun _ => ⟨g, 0, rfl, by omega, fun k x hx => ?_⟩⟩
  rw [Nat.zero_add, cell_of_row w g k _ _ (0, 0) h]
  match k, hx with
  | 0, hx => simp at hx; subst hx; rfl
  | k + 1, hx => simp at hx
theorem step_appendWhereU {P : Program} {ops : Array Oper} {o : Oper} {a : Act} {w : World} {K : Act → World → Prop} {Q : Exit → Act → World → Prop} {E : Prop}
    (hg : o.guard = none) (s x : Operand) (t : TypeId) (hop : o.op = Op.call { callee := Callee.builtin Builtin.append, args := #[s, x], argTypes := #[t, t] })
    (base : Nat) (e : TypeId) (i : TypeInfo) (ht : P.underlying t = some (.slice e)) (hi : P.info? e = some i) (hz : i.zero = some (.int .i64 0)) (h1 : i.size = 1) (h2 : i.bytes = 8)
    (A A2 : Option Addr) (c m c2 B p r : Nat) (xs ys : List Int) (hs : a.eval s = .slice A p c) (hx : a.eval x = .slice A2 m c2) (ho : OwnI w base e A c xs) (hp : xs.length = p) (hr : p + m = r) (hi2 : Ints w B A2 m ys) (hl : r ≤ 1000000) (hb : base ≤ w.heap.size)
    (hK : ∀ A' c' w', OwnI w' base e A' c' (xs ++ ys) → w.grownBy w' (Value.slice A p c).ownBlock → (∀ g, A' = some ⟨g, 0, none⟩ → A = some ⟨g, 0, none⟩ ∨ w.heap.size ≤ g) → K (a.put o.dst (.slice A' r c')) w') :
    if Region.wanted o (yielded ops a.tmps) = true then Oper.wp P o a w K Q else E := by
  have hw : Region.wanted o (yielded ops a.tmps) = true := by simp [Region.wanted, hg]
  rw [if_pos hw]
  subst hp
  subst hr
  obtain ⟨A', c', w', hrun, ho', hb'⟩ := run_appendInts (P := P) w base t o.type e i ht hi hz h1 h2 A A2 c m c2 B xs ys ho hi2 hl hb
  have hwh := append_where (P := P) w base t o.type e i ht hi hz h1 h2 A A2 c m c2 B xs ys ho hi2 hl hrun
  unfold Oper.wp
  simp [execOp, hop, resolve, invoke, builtin, hs, hx, hrun, Result.andThen]
  exact hK _ _ _ ho' hb' hwh
structure PuJ (W2 : World) (base gR gA i m : Nat) (T : Ms) (rs : List RowU) (r : RowU) (v : Int) (F : Nat → Value) (D : Nat → Bool) (vs : Nat → Value) (w' : World) : Prop where
  keep : KeepU base W2 w'
  vals : ∀ o, o < 20 → o ≠ 16 → o ≠ 17 → o ≠ 19 → D o = true → vs o = F o
  lit : D 16 = true → ∃ g, vs 16 = .slice (some ⟨g, 0, none⟩) 1 1 ∧ W2.heap.size ≤ g ∧ (D 17 = false → w'.heap[g]? = some (.cells #[.int .i64 v] 2 (0, 0)))
  pre : D 17 = false → Below W2.heap.size W2 w'
  app_ : D 17 = true → D 19 = false → ∃ Wb A8 c8, vs 17 = .slice A8 (m + 1) c8 ∧ MsW Wb base gR gA T rs ∧ OwnI w' base 2 A8 c8 (r.L ++ [v]) ∧ Wb.grownBy w' (Value.slice r.A m r.c).ownBlock ∧ (∀ b, A8 = some ⟨b, 0, none⟩ → r.A = some ⟨b, 0, none⟩ ∨ Wb.heap.size ≤ b)
  o17 : D 17 = true → D 9 = true ∧ D 16 = true
  o16 : D 16 = true → D 15 = true
  fin : D 19 = true → D 17 = true ∧ ∃ A8 c8, MsW w' base gR gA { T.arr (i : Int) (T.a (i : Int) ++ [v]) with ce := T.ce + 1 } (rs.set i ⟨A8, c8, r.L ++ [v]⟩)
section
variable {W2 w' w'' : World} {base gR gA i m : Nat} {T : Ms} {rs : List RowU} {r : RowU} {v : Int} {F : Nat → Value} {D D' : Nat → Bool} {vs : Nat → Value}
theorem PuJ.done (h : PuJ W2 base gR gA i m T rs r v F D vs w') (hd : D 19 = true) : ∃ A8 c8, MsW w' base gR gA { T.arr (i : Int) (T.a (i : Int) ++ [v]) with ce := T.ce + 1 } (rs.set i ⟨A8, c8, r.L ++ [v]⟩) := (h.fin hd).2
theorem PuJ.not17 (h : PuJ W2 base gR gA i m T rs r v F D vs w') (hd : D 9 = false ∨ D 15 = false) : D 17 = false := by
  cases e : D 17 with
  | false => rfl
  | true =>
    obtain ⟨h9, h16⟩ := h.o17 e
    have h15 := h.o16 h16
    rcases hd with hd | hd
    · rw [h9] at hd; cases hd
    · rw [h15] at hd; cases hd
theorem PuJ.other (h : PuJ W2 base gR gA i m T rs r v F D vs w') {o : Nat} (ho : o ≠ 16 ∧ o ≠ 17 ∧ o ≠ 19) (hD : ∀ q, q ≠ o → D' q = D q) (hDo : D' o = true) : PuJ W2 base gR gA i m T rs r v F D' (fun j => if j = o then F o else vs j) w' := by
  obtain ⟨h16, h17, h19⟩ := ho
  have up : ∀ q, D q = true → D' q = true := fun q hq => by
    by_cases e : q = o
    · rw [e]; exact hDo
    · rw [hD q e]; exact hq
  refine ⟨h.keep, fun q hq q6 q7 q9 hd => ?_, ?_, ?_, ?_, ?_, ?_, ?_⟩
  · by_cases e : q = o
    · subst e; exact if_pos rfl
    · show (if q = o then F o else vs q) = _
      rw [if_neg e]
      exact h.vals q hq q6 q7 q9 (by rw [← hD q e]; exact hd)
  · rw [hD 16 h16.symm, hD 17 h17.symm, if_neg h16.symm]; exact h.lit
  · rw [hD 17 h17.symm]; exact h.pre
  · rw [hD 17 h17.symm, hD 19 h19.symm, if_neg h17.symm]; exact h.app_
  · rw [hD 17 h17.symm]
    exact fun e => ⟨up 9 (h.o17 e).1, up 16 (h.o17 e).2⟩
  · rw [hD 16 h16.symm]
    exact fun e => up 15 (h.o16 e)
  · rw [hD 19 h19.symm]
    exact fun e => ⟨up 17 (h.fin e).1, (h.fin e).2⟩
theorem PuJ.lay (h : PuJ W2 base gR gA i m T rs r v F D vs w') (hDi : D 16 = false) (h15 : D 15 = true) (hD : ∀ q, q ≠ 16 → D' q = D q) (hB : base ≤ w'.heap.size) : PuJ W2 base gR gA i m T rs r v F D' (fun j => if j = 16 then .slice (some ⟨w'.heap.size, 0, none⟩) 1 1 else vs j) (w'.alloc (.cells #[.int .i64 v] 2)) := by
  have hb : Below w'.heap.size w' (w'.alloc (.cells #[.int .i64 v] 2)) := lvBelow _ _
  have d17 : D 17 = false := by
    cases e : D 17 with
    | false => rfl
    | true => rw [(h.o17 e).2] at hDi; cases hDi
  have d19 : D 19 = false := by
    cases e : D 19 with
    | false => rfl
    | true => rw [(h.fin e).1] at d17; cases d17
  have hp := h.pre d17
  refine ⟨h.keep.trans (KeepU.of_below hb hB), fun q hq q6 q7 q9 hd => ?_, fun _ => ⟨_, if_pos rfl, hp.size, fun _ => heap_alloc_new w' _⟩, fun _ => hp.trans (hb.mono hp.size), fun e => ?_, fun e => ?_, fun _ => ?_, fun e => ?_⟩
  · show (if q = 16 then _ else vs q) = _
    rw [if_neg q6]
    exact h.vals q hq q6 q7 q9 (by rw [← hD q q6]; exact hd)
  · rw [hD 17 (by decide), d17] at e; cases e
  · rw [hD 17 (by decide), d17] at e; cases e
  · rw [hD 15 (by decide)]; exact h15
  · rw [hD 19 (by decide), d19] at e; cases e
theorem PuJ.app (h : PuJ W2 base gR gA i m T rs r v F D vs w') (hDi : D 17 = false) (h9 : D 9 = true) (h16 : D 16 = true) {A8 : Option Addr} {c8 : Nat} (hM : MsW w' base gR gA T rs) (hO : OwnI w'' base 2 A8 c8 (r.L ++ [v])) (hG : w'.grownBy w'' (Value.slice r.A m r.c).ownBlock) (hA : ∀ b, A8 = some ⟨b, 0, none⟩ → r.A = some ⟨b, 0, none⟩ ∨ w'.heap.size ≤ b) (hr : rs[i]? = some r) (hm : r.L.length = m) (hD : ∀ q, q ≠ 17 → D' q = D q) (hDs : D' 17 = true) :
    PuJ W2 base gR gA i m T rs r v F D' (fun j => if j = 17 then .slice A8 (m + 1) c8 else vs j) w'' := by
  have d19 : D 19 = false := by
    cases e : D 19 with
    | false => rfl
    | true => rw [(h.fin e).1] at hDi; cases hDi
  have hrO := hM.A.ins r (List.mem_of_getElem? hr)
  have hown : ∀ b, (Value.slice r.A m r.c).ownBlock = some b → base ≤ b ∧ ∃ cs, w'.heap[b]? = some (.cells cs 2 (0, 0)) := by
    subst hm
    intro b hb
    rcases hrO.1.2 with ⟨h1, _⟩ | ⟨g', cap, cur2, h1, h2, h3, _⟩
    · rw [h1] at hb; cases hb
    · rw [h1] at hb
      simp only [Value.ownBlock, Option.some.injEq] at hb
      subst hb
      exact ⟨h2, cur2, h3⟩
  have hk : KeepU base w' w'' := ⟨(Below.refl base w').grown hG hM.size_ fun b hb => (hown b hb).1, fun b cs t hb h1 _ => (hG.block b (lt_of_heap hb) (fun e => by
    obtain ⟨_, cs2, h3⟩ := hown b e.symm
    rw [hb] at h3
    injection h3 with h3; injection h3 with _ h3
    exact h1 h3)).trans hb⟩
  refine ⟨h.keep.trans hk, fun q hq q6 q7 q9 hd => ?_, fun e => ?_, fun e => ?_, fun _ _ => ⟨w', A8, c8, if_pos rfl, hM, hO, hG, hA⟩, fun _ => ?_, fun e => ?_, fun e => ?_⟩
  · show (if q = 17 then _ else vs q) = _
    rw [if_neg q7]
    exact h.vals q hq q6 q7 q9 (by rw [← hD q q7]; exact hd)
  · obtain ⟨g, a1, a2, _⟩ := h.lit h16
    exact ⟨g, by rw [if_neg (by decide)]; exact a1, a2, fun e2 => by rw [hDs] at e2; cases e2⟩
  · rw [hDs] at e; cases e
  · rw [hD 9 (by decide), hD 16 (by decide)]; exact ⟨h9, h16⟩
  · rw [hD 16 (by decide)] at e
    rw [hD 15 (by decide)]; exact h.o16 e
  · rw [hD 19 (by decide), d19] at e; cases e
theorem PuJ.ready (h : PuJ W2 base gR gA i m T rs r v F D vs w') (h17 : D 17 = true) (hDi : D 19 = false) (hr : rs[i]? = some r) (hm : r.L.length = m) :
    ∃ A8 c8, vs 17 = .slice A8 (m + 1) c8 ∧ w'.cell? ⟨gA, i, none⟩ = some (.slice r.A r.L.length r.c) ∧ w'.frozen? ⟨gA, i, none⟩ = false ∧
      ∀ (D' : Nat → Bool) (u : Value), (∀ q, q ≠ 19 → D' q = D q) → D' 19 = true → PuJ W2 base gR gA i m T rs r v F D' (fun j => if j = 19 then u else vs j) (w'.setCell ⟨gA, i, none⟩ (.slice A8 (m + 1) c8)) := by
  obtain ⟨Wb, A8, c8, e17, hM, hO, hG, hA⟩ := h.app_ h17 hDi
  obtain ⟨p1, p2, p3, p4⟩ := hM.push hr hm hO hG hA
  obtain ⟨hbg, cur, hg⟩ := hM.A.heap
  have hrO := hM.A.ins r (List.mem_of_getElem? hr)
  have hne : some gA ≠ (Value.slice r.A m r.c).ownBlock := by
    subst hm
    intro e
    rcases hrO.1.2 with ⟨h1, _⟩ | ⟨g', cap, cur2, h1, _, h3, _⟩
    · rw [h1] at e; cases e
    · rw [h1] at e
      simp only [Value.ownBlock, Option.some.injEq] at e
      subst e
      rw [hg] at h3
      injection h3 with h3; injection h3 with _ h3
      exact absurd h3 (by decide)
  have hg4 : w'.heap[gA]? = some (.cells cur 28 (0, 0)) := (hG.block gA (lt_of_heap hg) hne).trans hg
  refine ⟨A8, c8, e17, p3, p4, fun D' u hD hDs => ⟨h.keep.trans ⟨(Below.refl base w').setCell (p := ⟨gA, i, none⟩) hbg _, fun b cs t hb h1 h2 => ?_⟩, fun q hq q6 q7 q9 hd => ?_, fun e => ?_, fun e => ?_, fun _ e => ?_, fun _ => ?_, fun e => ?_, fun _ => ⟨?_, A8, c8, p1⟩⟩⟩
  · refine (heap_setCell_other w' _ b _ (fun e => ?_)).trans hb
    have e : b = gA := e
    subst e
    rw [hg4] at hb
    injection hb with hb; injection hb with _ hb
    exact h2 hb.symm
  · show (if q = 19 then u else vs q) = _
    rw [if_neg q9]
    exact h.vals q hq q6 q7 q9 (by rw [← hD q q9]; exact hd)
  · rw [hD 16 (by decide)] at e
    obtain ⟨g, a1, a2, _⟩ := h.lit e
    exact ⟨g, by rw [if_neg (by decide)]; exact a1, a2, fun e2 => by rw [hD 17 (by decide), h17] at e2; cases e2⟩
  · rw [hD 17 (by decide), h17] at e; cases e
  · rw [hDs] at e; cases e
  · rw [hD 9 (by decide), hD 16 (by decide)]; exact h.o17 h17
  · rw [hD 16 (by decide)] at e
    rw [hD 15 (by decide)]; exact h.o16 e
  · rw [hD 17 (by decide)]; exact h17
theorem PuJ.same (h : PuJ W2 base gR gA i m T rs r v F D vs w') (hD : ∀ q, q < 20 → D q = D' q) : PuJ W2 base gR gA i m T rs r v F D' vs w' := by
  have e9 := hD 9 (by decide); have e15 := hD 15 (by decide); have e16 := hD 16 (by decide); have e17 := hD 17 (by decide); have e19 := hD 19 (by decide)
  refine ⟨h.keep, fun q hq q6 q7 q9 hd => h.vals q hq q6 q7 q9 (by rw [hD q hq]; exact hd), ?_, ?_, ?_, ?_, ?_, ?_⟩
  · rw [← e16, ← e17]; exact h.lit
  · rw [← e17]; exact h.pre
  · rw [← e17, ← e19]; exact h.app_
  · rw [← e17, ← e9, ← e16]; exact h.o17
  · rw [← e16, ← e15]; exact h.o16
  · rw [← e19, ← e17]; exact h.fin
end
end Go.Proofs.YtgkngimeokhhgaaGreatDoor
/- The machine that runs code: what lies in its block, and beside it. -/
namespace Go.Proofs.YtgkngimeokhhgaaGreatDoor
open Go.RowKit

/-- what does not turn while code runs -/
structure Mc where
  R : Int
  Ar : Int
  i : Nat
  P : Option Addr
  n0 : Nat
  c0 : Nat
  l : List Ji
  A : Option Addr
  n : Nat
  c : Nat
  ins : List (List Int)
  fuel : Int
  cells : Int
  g : Nat
  gR : Nat
  gO : Nat
  gD : Nat
  nr : Nat
  na : Nat
  cD : Nat
/-- what an instruction's kind does -/
def actF (op : Int) : FuncId :=
  if op = 1 then 47 else if op = 2 then 48 else if op = 3 then 49 else if op = 4 then 50 else if op = 5 then 51 else if op = 6 then 52 else if op = 7 then 53 else if op = 8 then 54 else if op = 9 then 55 else if op = 10 then 56 else if op = 11 then 57 else if op = 12 then 58 else 46
def actV (g : Nat) (op : Int) : Value := .func (.func (actF op)) #[.pointer (some ⟨g, 0, none⟩)] #[]
@[reducible] def Mc.cs (m : Mc) (at_ st ce : Nat) (en : Bool) : List Value := [.slice (some ⟨m.gO, 0, none⟩) m.na m.na, .int .i64 (st : Int), .int .i64 (ce : Int), .int .i64 m.R, .int .i64 m.Ar, .int .i64 (m.i : Int), .slice m.P m.n0 m.c0, .slice (some ⟨m.gR, 0, none⟩) m.nr m.nr, .slice m.A m.n m.c, .int .i64 m.fuel, .int .i64 m.cells, .slice (some ⟨m.gD, 0, none⟩) m.n0 m.cD, .int .i64 (at_ : Int), .bool en]
/-- its own arrays alone -/
def Ms.own (s : Ms) (i : Nat) : Ms := { s with A := s.A.drop i }
/-- what lies below stays, and each list of numbers of the plain kind, wherever it lies -/
structure BelI (base : Nat) (w w' : World) : Prop where
  bel : Below base w w'
  int_ : ∀ (b : Nat) (cs : Array Value), w.heap[b]? = some (.cells cs 3 (0, 0)) → w'.heap[b]? = some (.cells cs 3 (0, 0))
theorem BelI.refl (base : Nat) (w : World) : BelI base w w := ⟨Below.refl _ _, fun _ _ h => h⟩
theorem BelI.trans {base : Nat} {w w' w'' : World} (h : BelI base w w') (k : BelI base w' w'') : BelI base w w'' := ⟨h.bel.trans k.bel, fun b cs hb => k.int_ b cs (h.int_ b cs hb)⟩
theorem BelI.of {base : Nat} {w w' : World} (hb : Below w.heap.size w w') (hB : base ≤ w.heap.size) : BelI base w w' := ⟨hb.mono hB, fun _ _ h => keep_b hb h⟩
theorem BelI.ofK {base : Nat} {w w' : World} (h : KeepU base w w') : BelI base w w' := ⟨h.bel, fun b cs hb => h.blk b cs _ hb (by decide) (by decide)⟩
theorem BelI.N {base : Nat} {w w' : World} (h : BelI base w w') (k : Nat) : BelI base w (w'.drewN k) := ⟨⟨h.bel.os, h.bel.tape, h.bel.output, h.bel.size, h.bel.block⟩, h.int_⟩
structure MsM (w : World) (base : Nat) (m : Mc) (s : Ms) (rs : List RowU) (en : Bool) : Prop where
  H : w.heap[m.g]? = some (.cells (m.cs s.at_ s.st s.ce en).toArray 52 (0, 0))
  M : MsW w base m.gR m.gO (s.own m.i) rs
  D : ∃ cur : Array Value, w.heap[m.gD]? = some (.cells cur 71 (0, 0)) ∧ ∀ (k : Nat) (x : Ji), m.l[k]? = some x → cur[k]? = some (actV m.g x.op)
  jis : Jis w base m.P m.n0 m.l
  ill : IntsLL w base m.A m.n m.ins
  pre : s.A.take m.i = m.ins
  nr : s.R.length = m.nr
  na : (s.A.drop m.i).length = m.na
  g0 : base ≤ m.g
section
variable {w w' : World} {base : Nat} {m : Mc} {s s' : Ms} {rs rs' : List RowU} {en en' : Bool}
theorem MsM.size_ (h : MsM w base m s rs en) : base ≤ w.heap.size := h.M.size_
theorem MsM.on (h : MsM w base m s rs en) (hb : Below w.heap.size w w') : MsM w' base m s rs en := by
  obtain ⟨cur, h1, h2⟩ := h.D
  have hb' := hb.mono h.size_
  exact ⟨keep_b hb h.H, h.M.on hb, ⟨cur, keep_b hb h1, h2⟩, h.jis.below hb', h.ill.below hb', h.pre, h.nr, h.na, h.g0⟩
theorem MsM.drewN (h : MsM w base m s rs en) (k : Nat) : MsM (w.drewN k) base m s rs en := h.on ⟨rfl, rfl, rfl, Nat.le_refl _, fun _ _ => rfl⟩
theorem below_N {B : Nat} (h : Below B w w') (k : Nat) : Below B w (w'.drewN k) := ⟨h.os, h.tape, h.output, h.size, h.block⟩
theorem MsM.cells (h : MsM w base m s rs en) : w.cell? ⟨m.g, 0, none⟩ = some (.slice (some ⟨m.gO, 0, none⟩) m.na m.na) ∧ w.cell? ⟨m.g, 1, none⟩ = some (.int .i64 (s.st : Int)) ∧ w.cell? ⟨m.g, 2, none⟩ = some (.int .i64 (s.ce : Int)) ∧ w.cell? ⟨m.g, 3, none⟩ = some (.int .i64 m.R) ∧ w.cell? ⟨m.g, 4, none⟩ = some (.int .i64 m.Ar) ∧ w.cell? ⟨m.g, 5, none⟩ = some (.int .i64 (m.i : Int)) ∧ w.cell? ⟨m.g, 6, none⟩ = some (.slice m.P m.n0 m.c0) ∧ w.cell? ⟨m.g, 7, none⟩ = some (.slice (some ⟨m.gR, 0, none⟩) m.nr m.nr) ∧ w.cell? ⟨m.g, 8, none⟩ = some (.slice m.A m.n m.c) ∧ w.cell? ⟨m.g, 9, none⟩ = some (.int .i64 m.fuel) ∧ w.cell? ⟨m.g, 10, none⟩ = some (.int .i64 m.cells) ∧ w.cell? ⟨m.g, 11, none⟩ = some (.slice (some ⟨m.gD, 0, none⟩) m.n0 m.cD) ∧ w.cell? ⟨m.g, 12, none⟩ = some (.int .i64 (s.at_ : Int)) ∧ w.cell? ⟨m.g, 13, none⟩ = some (.bool en) :=
  ⟨cell_of_row _ _ _ _ _ _ h.H, cell_of_row _ _ _ _ _ _ h.H, cell_of_row _ _ _ _ _ _ h.H, cell_of_row _ _ _ _ _ _ h.H, cell_of_row _ _ _ _ _ _ h.H, cell_of_row _ _ _ _ _ _ h.H, cell_of_row _ _ _ _ _ _ h.H, cell_of_row _ _ _ _ _ _ h.H, cell_of_row _ _ _ _ _ _ h.H, cell_of_row _ _ _ _ _ _ h.H, cell_of_row _ _ _ _ _ _ h.H, cell_of_row _ _ _ _ _ _ h.H, cell_of_row _ _ _ _ _ _ h.H, cell_of_row _ _ _ _ _ _ h.H⟩
theorem MsM.fz (h : MsM w base m s rs en) (o : Nat) : w.frozen? ⟨m.g, o, none⟩ = false := by simp [World.frozen?, h.H]
theorem MsM.lt (h : MsM w base m s rs en) : m.g < w.heap.size := lt_of_heap h.H
/-- a field is another value -/
theorem MsM.field (h : MsM w base m s rs en) {i : Nat} {v : Value} (hR : s'.R = s.R) (hA : s'.A = s.A) (hc : (m.cs s.at_ s.st s.ce en).set i v = m.cs s'.at_ s'.st s'.ce en') :
    MsM (w.setCell ⟨m.g, i, none⟩ v) base m s' rs en' ∧ BelI base w (w.setCell ⟨m.g, i, none⟩ v) := by
  obtain ⟨cur, h1, h2⟩ := h.D
  have hb : Below base w (w.setCell ⟨m.g, i, none⟩ v) := (Below.refl _ _).setCell (p := ⟨m.g, i, none⟩) h.g0 _
  have hM := h.M.box h.H (by decide) (by decide) i v
  refine ⟨⟨?_, ⟨?_, hM.A, ?_, hM.far⟩, ⟨cur, ?_, h2⟩, h.jis.below hb, h.ill.below hb, ?_, ?_, ?_, h.g0⟩, ⟨hb, fun b cs hbk => (heap_setCell_other w _ b _ fun e => ?_).trans hbk⟩⟩
  · rw [← hc]
    exact set_j (i := i) (cs := m.cs s.at_ s.st s.ce en) h.H v
  · have := hM.R
    show OwnI _ base 2 _ s'.R.length s'.R
    rw [hR]; exact this
  · have := hM.L
    show _ = s'.A.drop m.i
    rw [hA]; exact this
  · refine (heap_setCell_other w _ m.gD _ fun e => ?_).trans h1
    have e : m.gD = m.g := e
    have h3 := h.H
    rw [← e, h1] at h3
    injection h3 with h3; injection h3 with _ h3
    exact absurd h3 (by decide)
  · rw [hA]; exact h.pre
  · rw [hR]; exact h.nr
  · rw [hA]; exact h.na
  · have e : b = m.g := e
    rw [e, h.H] at hbk
    injection hbk with hbk; injection hbk with _ hbk
    exact absurd hbk (by decide)
/-- what lies beside the block is other -/
theorem MsM.other (h : MsM w base m s rs en) (hk : KeepU base w w') (hM : MsW w' base m.gR m.gO (s'.own m.i) rs') (h1 : s'.at_ = s.at_) (h2 : s'.st = s.st) (h3 : s'.ce = s.ce) (hA : s'.A.take m.i = s.A.take m.i) (hR : s'.R.length = s.R.length) (hn : s'.A.length = s.A.length) : MsM w' base m s' rs' en := by
  obtain ⟨cur, h4, h5⟩ := h.D
  refine ⟨?_, hM, ⟨cur, hk.blk _ _ _ h4 (by decide) (by decide), h5⟩, h.jis.below hk.bel, h.ill.below hk.bel, hA.trans h.pre, hR.trans h.nr, ?_, h.g0⟩
  · rw [h1, h2, h3]; exact hk.blk _ _ _ h.H (by decide) (by decide)
  · have := h.na
    rw [List.length_drop] at this ⊢
    omega
theorem MsM.reg (h : MsM w base m s rs en) {i : Nat} (hi : i < m.nr) : w.cell? ⟨m.gR, i, none⟩ = some (.int .i64 (s.r (i : Int))) ∧ w.frozen? ⟨m.gR, i, none⟩ = false := by
  refine h.M.reg (i := i) ?_
  show i < s.R.length
  rw [h.nr]; exact hi
theorem MsM.setR (h : MsM w base m s rs en) (i : Nat) {v : Int} (hv : I64 v) : MsM (w.setCell ⟨m.gR, i, none⟩ (.int .i64 v)) base m (s.put (i : Int) v) rs en ∧ BelI base w (w.setCell ⟨m.gR, i, none⟩ (.int .i64 v)) := by
  obtain ⟨h1, h2⟩ := h.M.setR i hv
  exact ⟨h.other h2 h1 rfl rfl rfl rfl (by show (s.R.set _ _).length = _; rw [List.length_set]) rfl, .ofK h2⟩
theorem own_a (s : Ms) {i k : Nat} (hk : i ≤ k) : (s.own i).a ((k - i : Nat) : Int) = s.a (k : Int) := by
  unfold Ms.a Ms.own
  simp only [Int.toNat_natCast]
  rw [List.getD_eq_getElem?_getD, List.getD_eq_getElem?_getD, List.getElem?_drop, show i + (k - i) = k by omega]
theorem own_arr (s : Ms) {i k : Nat} (hk : i ≤ k) (L : List Int) : (s.own i).arr ((k - i : Nat) : Int) L = (s.arr (k : Int) L).own i := by
  unfold Ms.arr Ms.own
  simp only [Int.toNat_natCast, Ms.mk.injEq, true_and, and_true]
  rw [List.drop_set, if_neg (by omega)]
theorem arr_take (s : Ms) {i k : Nat} (hk : i ≤ k) (L : List Int) : (s.arr (k : Int) L).A.take i = s.A.take i := by
  unfold Ms.arr
  simp only [Int.toNat_natCast]
  rw [List.take_set]
  exact List.set_eq_of_length_le (by rw [List.length_take]; omega)
/-- an array that was handed in -/
theorem MsM.rowI (h : MsM w base m s rs en) {k : Nat} (hk : k < m.i) (hi : m.ins.length = m.i) : k < m.n ∧ ∃ b off a c, m.A = some ⟨b, off, none⟩ ∧ w.cell? ⟨b, off + k, none⟩ = some (.slice a (s.a (k : Int)).length c) ∧ (s.a (k : Int)).length ≤ c ∧ Ints w base a (s.a (k : Int)).length (s.a (k : Int)) := by
  have hn : m.i = m.n := hi.symm.trans h.ill.1
  obtain ⟨b, off, L, a, c, h1, _, h3, h4, h5, h6⟩ := h.ill.at_ (k := k) (by omega)
  have hL : s.a (k : Int) = L := by
    have h7 : m.ins[k]? = some L := h3
    rw [← h.pre, List.getElem?_take_of_lt hk] at h7
    unfold Ms.a
    rw [Int.toNat_natCast, List.getD_eq_getElem?_getD, h7]; rfl
  rw [hL]
  exact ⟨by omega, b, off, a, c, h1, h4, h5, h6⟩
/-- one of its own -/
theorem MsM.rowO (h : MsM w base m s rs en) {k : Nat} (hk : m.i ≤ k) (hk2 : k < s.A.length) : k - m.i < m.na ∧ ∃ r, Hid (rs[k - m.i]? = some r) ∧ r.L = s.a (k : Int) ∧ OwnI w base 2 r.A r.c r.L ∧ w.cell? ⟨m.gO, k - m.i, none⟩ = some (.slice r.A (s.a (k : Int)).length r.c) ∧ w.frozen? ⟨m.gO, k - m.i, none⟩ = false := by
  have hlt : k - m.i < (s.own m.i).A.length := by
    show k - m.i < (s.A.drop m.i).length
    rw [List.length_drop]; omega
  have := h.M.row (i := k - m.i) hlt
  rw [own_a s hk] at this
  exact ⟨by rw [← h.na]; exact hlt, this⟩
theorem MsM.setA (h : MsM w base m s rs en) {k q : Nat} {r : RowU} {v : Int} (hk : m.i ≤ k) (hr : rs[k - m.i]? = some r) (hq : q < r.L.length) (hv : I64 v) :
    ∃ b, r.A = some ⟨b, 0, none⟩ ∧ w.frozen? ⟨b, q, none⟩ = false ∧ MsM (w.setCell ⟨b, q, none⟩ (.int .i64 v)) base m (s.arr (k : Int) ((s.a (k : Int)).set q v)) (rs.set (k - m.i) ⟨r.A, r.c, r.L.set q v⟩) en ∧ BelI base w (w.setCell ⟨b, q, none⟩ (.int .i64 v)) := by
  obtain ⟨b, h1, h2, h3, h4⟩ := h.M.setA hr hq hv
  rw [own_a s hk, own_arr s hk] at h3
  exact ⟨b, h1, h2, h.other h4 h3 rfl rfl rfl (arr_take s hk _) rfl (by show (s.A.set _ _).length = _; rw [List.length_set]), .ofK h4⟩
end
/-- what an instruction comes to -/
def ActP (base : Nat) (m : Mc) (s : Ms) (x : Ji) (w : World) (e : Ending) (w' : World) : Prop :=
  (∃ z rs', doM s x m.cells = .ok z ∧ e = .returned (.int .i64 0) ∧ MsM w' base m z rs' (decide (x.op = 0)) ∧ BelI base w w') ∨
  (∃ v, doM s x m.cells = .error v ∧ e = .returned (.int .i64 v) ∧ BelI base w w')
end Go.Proofs.YtgkngimeokhhgaaGreatDoor
/- What instructions do, by their kind: a map of methods of one machine. -/
namespace Go.Proofs.YtgkngimeokhhgaaGreatDoor
open Go.RowKit Go.Maps

open Classical in
/-- how such a value reads -/
noncomputable def fnR (g : Nat) (v : Value) : Option (DataW Unit × List MemPlace) :=
  if h : ∃ f : FuncId, v = .func (.func f) #[.pointer (some ⟨g, 0, none⟩)] #[] then some (.lit (.int .i64 ((Classical.choose h : Nat) : Int)), []) else if v = .nilFunc then some (.lit (.bool false), []) else none
theorem fnR_func (g : Nat) (f : FuncId) : fnR g (.func (.func f) #[.pointer (some ⟨g, 0, none⟩)] #[]) = some (.lit (.int .i64 ((f : Nat) : Int)), []) := by
  have h : ∃ f' : FuncId, Value.func (.func f) #[.pointer (some ⟨g, 0, none⟩)] #[] = .func (.func f') #[.pointer (some ⟨g, 0, none⟩)] #[] := ⟨f, rfl⟩
  unfold fnR
  rw [dif_pos h]
  have h2 := Classical.choose_spec h
  injection h2 with h2
  injection h2 with h2
  rw [← h2]
theorem fnR_nil (g : Nat) : fnR g .nilFunc = some (.lit (.bool false), []) := by
  unfold fnR
  rw [dif_neg (by rintro ⟨f, h⟩; cases h), if_pos rfl]
theorem fnR_inv {g : Nat} {f : Nat} {v : Value} {ps : List MemPlace} (h : fnR g v = some (.lit (.int .i64 (f : Int)), ps)) : v = .func (.func f) #[.pointer (some ⟨g, 0, none⟩)] #[] := by
  unfold fnR at h
  split at h
  · rename_i h1
    have h2 := Classical.choose_spec h1
    simp only [Option.some.injEq, Prod.mk.injEq, DataW.lit.injEq, Lit.int.injEq, true_and] at h
    have h3 : Classical.choose h1 = f := Int.ofNat_inj.1 h.1
    rw [h3] at h2
    exact h2
  · split at h
    · simp at h
    · cases h
/-- the map, once so many of its entries are there -/
def actD : Nat → DataW Unit
  | 0 => .map []
  | n + 1 => (actD n).put (.int .i64 (n : Int)) (.lit (.int .i64 ((actF (n : Int) : Nat) : Int)))
def ActO (w : World) (g b n : Nat) : Prop := w.ownsMap Tryz.prog 3 (fnR g) b n (actD n)
theorem actD_tidy : ∀ n, Tidy (actD n)
  | 0 => tidy_empty
  | n + 1 => (actD_tidy n).put (k := .int .i64 (n : Int)) (by simp [WideAt.IsKeyLit]) _
theorem actD_at : ∀ (n k : Nat), k < n → (actD n).atKey (.int .i64 (k : Int)) (.lit (.bool false)) = .lit (.int .i64 ((actF (k : Int) : Nat) : Int))
  | 0, _, h => absurd h (Nat.not_lt_zero _)
  | n + 1, k, h => by
    unfold actD
    by_cases e : k = n
    · subst e
      exact atKey_put_same (k := .int .i64 (k : Int)) (actD_tidy k).isMap (by simp [WideAt.IsKeyLit]) _ _
    · rw [atKey_put_other (by intro e2; injection e2 with _ e2; omega)]
      exact actD_at n k (by omega)
theorem int_wf2 {x : Int} (h : -9223372036854775808 ≤ x ∧ x ≤ 9223372036854775807) : (Lit.int .i64 x).wf = true := by
  simp [Lit.wf, IntKind.min, IntKind.max, IntKind.signed, IntKind.bits]; omega
set_option maxRecDepth 100000 in
theorem zeroFn (w : World) : (zeroValue 71).run Tryz.prog w = .ok .nilFunc w := by kernel_rfl
theorem act_look {w : World} {g b : Nat} (h : ActO w g b 13) {x : Int} (h0 : 0 ≤ x) (h1 : x ≤ 12) :
    (Instr.lookup 67 (.map (some b)) (.int .i64 x) false).run Tryz.prog w = .ok (actV g x) w := by
  obtain ⟨k, rfl⟩ := Int.eq_ofNat_of_zero_le h0
  obtain ⟨v, ps, hrun, hv⟩ := World.ownsMap.lookup h (int_keyed Tryz.underlying3) Tryz.underlying67 (zeroFn w) (fnR_nil g) (keyOf_int_mk Tryz.underlying3 (int_wf2 (x := (k : Int)) (by omega)))
  rw [actD_at 13 k (by omega)] at hv
  rw [hrun, fnR_inv hv]; rfl
theorem wpList_act {w : World} {ops : Array Oper} {rest : List Oper} {o : Oper} {a : Act} {Q : Exit → Act → World → Prop} (hg : o.guard = none) (m x v : Operand) (hop : o.op = Op.insert 67 m x v) (g b n : Nat) (key : Int) (val : Value)
    (hm : a.eval m = .map (some b)) (hx : a.eval x = .int .i64 key) (hv : a.eval v = val) (hkn : key = (n : Int)) (hvn : val = actV g (n : Int)) (hown : ActO w g b n) (hn : n ≤ 12)
    (hK : ∀ w', ActO w' g b (n + 1) → w.grownBy w' (some b) → wpList Tryz.prog ops Q rest (a.put o.dst undef) w') : wpList Tryz.prog ops Q (o :: rest) a w := by
  subst hkn
  subst hvn
  refine wpList_plain hg fun K' hK' => ?_
  have hml : n < maxLen := by unfold maxLen; omega
  obtain ⟨w', hrun, r1, r2⟩ := World.ownsMap.update hown (int_keyed Tryz.underlying3) Tryz.underlying67 hml (keyOf_int_mk Tryz.underlying3 (int_wf2 (x := (n : Int)) (by omega))) (fnR_func g (actF (n : Int)))
  unfold Oper.wp
  simp [execOp, hop, hm, hx, hv]
  have hrun' : (Instr.mapUpdate 67 (.map (some b)) (.int .i64 (n : Int)) (actV g (n : Int))).run Tryz.prog w = .ok () w' := hrun
  rw [hrun']
  simp [Result.andThen]
  exact hK' _ _ (hK w' r1 r2)
set_option maxRecDepth 100000 in
set_option maxHeartbeats 4000000 in
theorem acts_any (g : Nat) (w : World) : Calls Tryz.prog 30 #[.pointer (some ⟨g, 0, none⟩)] w fun e w' => ∃ b, e = .returned (.map (some b)) ∧ ActO w' g b 13 ∧ w.heap.size ≤ b ∧ Below w.heap.size w w' := by
  have h0 : ActO (w.alloc (.map #[] 0)) g w.heap.size 0 := World.ownsMap_made w _ _ _
  have HB0 := Lib.hid (lvBelow w (.map #[] 0))
  have hmk : (Instr.makeMap 67 none).run Tryz.prog w = .ok (.map (some w.heap.size)) (w.alloc (.map #[] 0)) := by kernel_rfl
  go_enter Tryz.func30, Tryz.ntmps30
  go_upto_region 1 with fail
  go_wp2_with (first | (refine wpList_act rfl _ _ _ rfl g w.heap.size 0 _ _ rfl rfl rfl rfl rfl h0 (by decide) ?_; intro w1 h1 g1) | (refine wpList_act rfl _ _ _ rfl g w.heap.size 1 _ _ rfl rfl rfl rfl rfl h1 (by decide) ?_; intro w2 h2 g2) | (refine wpList_act rfl _ _ _ rfl g w.heap.size 2 _ _ rfl rfl rfl rfl rfl h2 (by decide) ?_; intro w3 h3 g3) | (refine wpList_act rfl _ _ _ rfl g w.heap.size 3 _ _ rfl rfl rfl rfl rfl h3 (by decide) ?_; intro w4 h4 g4) | (refine wpList_act rfl _ _ _ rfl g w.heap.size 4 _ _ rfl rfl rfl rfl rfl h4 (by decide) ?_; intro w5 h5 g5) | (refine wpList_act rfl _ _ _ rfl g w.heap.size 5 _ _ rfl rfl rfl rfl rfl h5 (by decide) ?_; intro w6 h6 g6) | (refine wpList_act rfl _ _ _ rfl g w.heap.size 6 _ _ rfl rfl rfl rfl rfl h6 (by decide) ?_; intro w7 h7 g7) | (refine wpList_act rfl _ _ _ rfl g w.heap.size 7 _ _ rfl rfl rfl rfl rfl h7 (by decide) ?_; intro w8 h8 g8) | (refine wpList_act rfl _ _ _ rfl g w.heap.size 8 _ _ rfl rfl rfl rfl rfl h8 (by decide) ?_; intro w9 h9 g9) | (refine wpList_act rfl _ _ _ rfl g w.heap.size 9 _ _ rfl rfl rfl rfl rfl h9 (by decide) ?_; intro w10 h10 g10) | (refine wpList_act rfl _ _ _ rfl g w.heap.size 10 _ _ rfl rfl rfl rfl rfl h10 (by decide) ?_; intro w11 h11 g11) | (refine wpList_act rfl _ _ _ rfl g w.heap.size 11 _ _ rfl rfl rfl rfl rfl h11 (by decide) ?_; intro w12 h12 g12) | (refine wpList_act rfl _ _ _ rfl g w.heap.size 12 _ _ rfl rfl rfl rfl rfl h12 (by decide) ?_; intro w13 h13 g13))
  go_ret
  have d1 := HB0.out.grown g1 (HB0.out.size) fun q hq => (by injection hq with hq; omega)
  have d2 := d1.grown g2 (d1.size) fun q hq => (by injection hq with hq; omega)
  have d3 := d2.grown g3 (d2.size) fun q hq => (by injection hq with hq; omega)
  have d4 := d3.grown g4 (d3.size) fun q hq => (by injection hq with hq; omega)
  have d5 := d4.grown g5 (d4.size) fun q hq => (by injection hq with hq; omega)
  have d6 := d5.grown g6 (d5.size) fun q hq => (by injection hq with hq; omega)
  have d7 := d6.grown g7 (d6.size) fun q hq => (by injection hq with hq; omega)
  have d8 := d7.grown g8 (d7.size) fun q hq => (by injection hq with hq; omega)
  have d9 := d8.grown g9 (d8.size) fun q hq => (by injection hq with hq; omega)
  have d10 := d9.grown g10 (d9.size) fun q hq => (by injection hq with hq; omega)
  have d11 := d10.grown g11 (d10.size) fun q hq => (by injection hq with hq; omega)
  have d12 := d11.grown g12 (d11.size) fun q hq => (by injection hq with hq; omega)
  have d13 := d12.grown g13 (d12.size) fun q hq => (by injection hq with hq; omega)
  exact ⟨_, rfl, h13, Nat.le_refl _, d13⟩
end Go.Proofs.YtgkngimeokhhgaaGreatDoor
/- The document's step: one more number. -/
namespace Go.Proofs.YtgkngimeokhhgaaGreatDoor
open Go.RowKit Go.Sort

set_option maxRecDepth 100000 in
set_option maxHeartbeats 8000000 in
theorem refStep_9 (c n : Int) (i j : Nat) (cells : Int) (s : Ms) (rs : List RowU) (base gR gA : Nat) (w : World) (h : MsW w base gR gA s rs) (hB : base ≤ w.heap.size) (hs : s.at_ ≤ 1000000 ∧ s.st ≤ 1000000 ∧ s.ce ≤ 1000000) (hrv : ∀ v ∈ s.R, I64 v) (hi : i < s.A.length) (hj : j < s.R.length) (hal : ∀ i : Nat, (s.a (i : Int)).length ≤ 900000) (_hav : ∀ l ∈ s.A, ∀ v ∈ l, I64 v) :
    Calls Tryz.prog 32 #[stV s gR gA, Ji.val (⟨9, (i : Int), (j : Int), c, n⟩), .int .i64 cells] w (StepP base gR gA s (⟨9, (i : Int), (j : Int), c, n⟩) cells w) := by
  obtain ⟨W0, hW0⟩ : ∃ W, ((w.alloc (stO s gR gA)).alloc (Ji.obj (⟨9, (i : Int), (j : Int), c, n⟩))).alloc stZ = W := ⟨_, rfl⟩
  obtain ⟨g0, hg0⟩ : ∃ z, w.heap.size = z := ⟨_, rfl⟩
  have hb1 := lvBelow w (stO s gR gA)
  have hb2 := lvBelow (w.alloc (stO s gR gA)) (Ji.obj (⟨9, (i : Int), (j : Int), c, n⟩))
  have hb3 := lvBelow ((w.alloc (stO s gR gA)).alloc (Ji.obj (⟨9, (i : Int), (j : Int), c, n⟩))) stZ
  have h1 := keep_b hb3 (keep_b hb2 (heap_alloc_new w (stO s gR gA)))
  have h2 := keep_b hb3 (heap_alloc_new (w.alloc (stO s gR gA)) (Ji.obj (⟨9, (i : Int), (j : Int), c, n⟩)))
  have h3 := heap_alloc_new ((w.alloc (stO s gR gA)).alloc (Ji.obj (⟨9, (i : Int), (j : Int), c, n⟩))) stZ
  have hb := hb1.trans ((hb2.trans (hb3.mono hb2.size)).mono hb1.size)
  rw [hW0] at h1 h2 h3 hb
  simp only [World.size_alloc] at h2 h3
  rw [hg0] at h1 h2 h3
  have HMR := Lib.hid (fun i => (show I64 (s.r i) from by
    rcases getD_mem (l := s.R) (i := i.toNat) (d := 0) with h1 | h1
    · exact hrv _ h1
    · show I64 (s.R.getD i.toNat 0); rw [h1]; exact .zero))
  obtain ⟨t0, t1, t2⟩ := hs
  have HG0 : Hid (w.heap.size ≤ g0) := Nat.le_of_eq hg0
  have HBB := Lib.hid hB
  have hk1 : KeepU base w ((W0.setCell ⟨g0, 3, none⟩ (.int .i64 ((s.st : Int) + 1))).setCell ⟨g0, 0, none⟩ (.int .i64 ((s.at_ : Int) + 1))) := ((KeepU.of_below hb hB).box (g := g0) (by omega) hB 3 _).box (g := g0) (by omega) hB 0 _
  have hm0 := (h.on hb).box h1 (by decide) (by decide) 3 (.int .i64 ((s.st : Int) + 1))
  have hs0 := set_j (i := 3) (cs := [.int .i64 (s.at_ : Int), .slice (some ⟨gR, 0, none⟩) s.R.length s.R.length, .slice (some ⟨gA, 0, none⟩) s.A.length s.A.length, .int .i64 (s.st : Int), .int .i64 (s.ce : Int)]) h1 (.int .i64 ((s.st : Int) + 1))
  have hm1 := hm0.box hs0 (by decide) (by decide) 0 (.int .i64 ((s.at_ : Int) + 1))
  have hs1 := set_j (i := 0) (cs := [.int .i64 (s.at_ : Int), .slice (some ⟨gR, 0, none⟩) s.R.length s.R.length, .slice (some ⟨gA, 0, none⟩) s.A.length s.A.length, .int .i64 ((s.st : Int) + 1), .int .i64 (s.ce : Int)]) hs0 (.int .i64 ((s.at_ : Int) + 1))
  have hx1 : ((W0.setCell ⟨g0, 3, none⟩ (.int .i64 ((s.st : Int) + 1))).setCell ⟨g0, 0, none⟩ (.int .i64 ((s.at_ : Int) + 1))).heap[g0 + 1]? = some (Ji.obj (⟨9, (i : Int), (j : Int), c, n⟩)) := by rw [heap_setCell_other _ _ _ _ (by show g0 + 1 ≠ g0; omega), heap_setCell_other _ _ _ _ (by show g0 + 1 ≠ g0; omega)]; exact h2
  have hz1 : ((W0.setCell ⟨g0, 3, none⟩ (.int .i64 ((s.st : Int) + 1))).setCell ⟨g0, 0, none⟩ (.int .i64 ((s.at_ : Int) + 1))).heap[g0 + 1 + 1]? = some stZ := by rw [heap_setCell_other _ _ _ _ (by show g0 + 1 + 1 ≠ g0; omega), heap_setCell_other _ _ _ _ (by show g0 + 1 + 1 ≠ g0; omega)]; exact h3
  obtain ⟨r0, r1, r2, r3, r4, rf0, rf1, rf2, rf3, rf4⟩ := cells5 h1
  obtain ⟨T, hT⟩ : ∃ T, s.tick = T := ⟨_, rfl⟩
  have HT := Lib.hid hT
  have HS1 : Hid (((W0.setCell ⟨g0, 3, none⟩ (.int .i64 ((s.st : Int) + 1))).setCell ⟨g0, 0, none⟩ (.int .i64 ((s.at_ : Int) + 1))).heap[g0]? = some (stO T gR gA)) := by rw [← hT]; exact hs1
  have HM1 : Hid (MsW ((W0.setCell ⟨g0, 3, none⟩ (.int .i64 ((s.st : Int) + 1))).setCell ⟨g0, 0, none⟩ (.int .i64 ((s.at_ : Int) + 1))) base gR gA T rs) := by rw [← hT]; exact hm1.tick
  have HTS : Hid (T.R = s.R ∧ T.A = s.A ∧ T.at_ = s.at_ + 1 ∧ T.st = s.st + 1 ∧ T.ce = s.ce) := by rw [← hT]; exact ⟨rfl, rfl, rfl, rfl, rfl⟩
  have HK1 := Lib.hid hk1
  have HX1 := Lib.hid hx1
  have HZ1 := Lib.hid hz1
  clear hb1 hb2 hb3 h1 h2 h3 hb h hk1 hm0 hs0 hm1 hs1 hx1 hz1 hT hrv
  go_enter Tryz.func32, Tryz.ntmps32
  go_upto_region 1 with fail
  try rw [hW0]
  try rw [hg0]
  go_upto_region 3 with fail
  clear r0 r1 r2 r3 r4 rf0 rf1 rf2 rf3 rf4 hB
  obtain ⟨W1, hW1⟩ : ∃ W, (W0.setCell ⟨g0, 3, none⟩ (.int .i64 ((s.st : Int) + 1))).setCell ⟨g0, 0, none⟩ (.int .i64 ((s.at_ : Int) + 1)) = W := ⟨_, rfl⟩
  rw [hW1] at HK1 HX1 HZ1 HS1 HM1
  try rw [hW1]
  clear hW1 hW0 hg0
  obtain ⟨r0, r1, r2, r3, r4, rf0, rf1, rf2, rf3, rf4⟩ := cells5 HS1.out
  obtain ⟨⟨y0, y1, y2, y3, y4⟩, _⟩ := box_cellsJ HX1.out
  have hi : i < T.A.length := by rw [HTS.out.2.1]; exact hi
  have hi0 : (0 : Int) ≤ (i : Int) := by omega
  have hi1 : (i : Int) < (T.A.length : Int) := by omega
  have hj : j < T.R.length := by rw [HTS.out.1]; exact hj
  have hj0 : (0 : Int) ≤ (j : Int) := by omega
  have hj1 : (j : Int) < (T.R.length : Int) := by omega
  have hmx : Tryz.prog.follows .mixedOrders = true := by kernel_rfl
  have HTR : Hid (∀ q, I64 (T.r q)) := fun q => by have := HMR.out q; unfold Ms.r at *; rw [HTS.out.1]; exact this
  by_cases h0 : cells ≤ (T.ce : Int)
  · have hl : decide (cells ≤ (T.ce : Int)) = true := decide_eq_true h0
    have HER := Lib.hid h0
    clear h0
    go_upto_region 28 with fail
    clear r0 r1 r2 r3 r4 rf0 rf1 rf2 rf3 rf4 y0 y1 y2 y3 y4
    clear hl
    obtain ⟨r0, r1, r2, r3, r4, rf0, rf1, rf2, rf3, rf4⟩ := cells5 HS1.out
    obtain ⟨q0, q1, q2, q3, q4, qf0, qf1, qf2, qf3, qf4⟩ := cells5 HZ1.out
    have HKE := Lib.hid (KeepU.put5 HK1.out (g := g0 + 1 + 1) (by have := HG0.out; omega) HBB.out (.int .i64 ((T.at_ : Nat) : Int)) (.slice (some ⟨gR, 0, none⟩) T.R.length T.R.length) (.slice (some ⟨gA, 0, none⟩) T.A.length T.A.length) (.int .i64 ((T.st : Nat) : Int)) (.int .i64 ((T.ce : Nat) : Int)))
    obtain ⟨s0, s1, s2, s3, s4, _⟩ := cells5 (five_cells HZ1.out (.int .i64 ((T.at_ : Nat) : Int)) (.slice (some ⟨gR, 0, none⟩) T.R.length T.R.length) (.slice (some ⟨gA, 0, none⟩) T.A.length T.A.length) (.int .i64 ((T.st : Nat) : Int)) (.int .i64 ((T.ce : Nat) : Int)))
    have HSS := Lib.hid (And.intro s0 (And.intro s1 (And.intro s2 (And.intro s3 s4))))
    clear s0 s1 s2 s3 s4
    go_wp2_with fail
    obtain ⟨s0, s1, s2, s3, s4⟩ := HSS.out
    exact bodyPost_ret (v := .tuple #[.agg #[.int .i64 ((T.at_ : Nat) : Int), .slice (some ⟨gR, 0, none⟩) T.R.length T.R.length, .slice (some ⟨gA, 0, none⟩) T.A.length T.A.length, .int .i64 ((T.st : Nat) : Int), .int .i64 ((T.ce : Nat) : Int)], .int .i64 10]) (by simp [results, Tryz.results32, go_sem, s0, s1, s2, s3, s4]) rfl (.inr ⟨10, (by rw [HT.out]; unfold doM; simp only [if_true, if_false, Int.reduceEq]; rw [if_pos HER.out]), (by rw [HT.out]), HKE.out⟩)
  have hl : decide (cells ≤ (T.ce : Int)) = false := decide_eq_false h0
  have HNE := Lib.hid h0
  clear h0
  obtain ⟨r, HRR, hrL, hrO, d1, _⟩ := HM1.out.row (i := i) hi
  have hlen : (T.a (i : Int)).length ≤ 900000 := by
    have : T.a (i : Int) = s.a (i : Int) := by unfold Ms.a; rw [HTS.out.2.1]
    rw [this]; exact hal i
  obtain ⟨m, hm⟩ : ∃ m, (T.a (i : Int)).length = m := ⟨_, rfl⟩
  rw [hm] at d1 hlen
  have HMM := Lib.hid hm
  have t3 : T.ce ≤ 1000000 := by rw [HTS.out.2.2.2.2]; exact t2
  have HA := Lib.hid (set_j (i := 4) (cs := [.int .i64 (T.at_ : Int), .slice (some ⟨gR, 0, none⟩) T.R.length T.R.length, .slice (some ⟨gA, 0, none⟩) T.A.length T.A.length, .int .i64 (T.st : Int), .int .i64 (T.ce : Int)]) HS1.out (.int .i64 ((T.ce : Int) + 1)))
  have HMA := Lib.hid (HM1.out.box HS1.out (by decide) (by decide) 4 (.int .i64 ((T.ce : Int) + 1)))
  have HKA := Lib.hid (HK1.out.box (g := g0) HG0.out HBB.out 4 (.int .i64 ((T.ce : Int) + 1)))
  have HZA : Hid ((W1.setCell ⟨g0, 4, none⟩ (.int .i64 ((T.ce : Int) + 1))).heap[g0 + 1 + 1]? = some stZ) := by unfold Hid; rw [heap_setCell_other _ _ _ _ (by show g0 + 1 + 1 ≠ g0; omega)]; exact HZ1.out
  have HXA : Hid ((W1.setCell ⟨g0, 4, none⟩ (.int .i64 ((T.ce : Int) + 1))).heap[g0 + 1]? = some (Ji.obj ⟨9, (i : Int), (j : Int), c, n⟩)) := by unfold Hid; rw [heap_setCell_other _ _ _ _ (by show g0 + 1 ≠ g0; omega)]; exact HX1.out
  obtain ⟨W2, hW2⟩ : ∃ W, W1.setCell ⟨g0, 4, none⟩ (.int .i64 ((T.ce : Int) + 1)) = W := ⟨_, rfl⟩
  have HS2 : Hid (W2.heap[g0]? = some (.cells #[.int .i64 (T.at_ : Int), .slice (some ⟨gR, 0, none⟩) T.R.length T.R.length, .slice (some ⟨gA, 0, none⟩) T.A.length T.A.length, .int .i64 (T.st : Int), .int .i64 ((T.ce : Int) + 1)] 54 (0, 0))) := by rw [← hW2]; exact HA
  rw [hW2] at HMA HKA HZA HXA
  clear hm HA
  go_upto_region 30 with fail
  try rw [hW2]
  clear hW2 d1 hl
  clear r0 r1 r2 r3 r4 rf0 rf1 rf2 rf3 rf4 y0 y1 y2 y3 y4
  obtain ⟨r0, r1, r2, r3, r4, rf0, rf1, rf2, rf3, rf4⟩ := cells5 HS2.out
  obtain ⟨⟨y0, y1, y2, y3, y4⟩, _⟩ := box_cellsJ HXA.out
  obtain ⟨b0, _⟩ := HMA.out.reg (i := j) hj
  obtain ⟨d1, df⟩ := HMA.out.A.at_ HRR.out
  have d1 : W2.cell? ⟨gA, i, none⟩ = some (.slice r.A m r.c) := by rw [d1, ← HMM.out, ← hrL]; rfl
  have hrO2 : OwnI W2 base 2 r.A r.c r.L := HMA.out.A.ins r (List.mem_of_getElem? HRR.out)
  have HRO := Lib.hid hrO2
  have HRL : Hid (r.L.length = m) := by rw [hrL]; exact HMM
  have HRE := Lib.hid hrL
  clear hrL hrO hrO2
  obtain ⟨i6, hi6, hy0, hy1, hy2⟩ := info_parts infoInt64
  have hle : m + 1 ≤ 1000000 := by omega
  have hrj := HTR.out (j : Int)
  have HI6 := Lib.hid (And.intro hi6 (And.intro hy0 (And.intro hy1 hy2)))
  have HRJ := Lib.hid hrj
  have HB0 := Lib.hid b0
  have HD1 := Lib.hid d1
  clear b0 d1 df hi6 hy0 hy1 hy2 hrj r0 r1 r2 r3 r4 rf0 rf1 rf2 rf3 rf4 y0 y1 y2 y3 y4
  let F : Nat → Value := fun o => match o with
    | 0 => .pointer (some ⟨g0, 2, none⟩)
    | 1 => .slice (some ⟨gA, 0, none⟩) T.A.length T.A.length
    | 2 => .pointer (some ⟨g0 + 1, 1, none⟩)
    | 3 => .int .i64 (i : Int)
    | 4 => .pointer (some ⟨g0, 2, none⟩)
    | 5 => .slice (some ⟨gA, 0, none⟩) T.A.length T.A.length
    | 6 => .pointer (some ⟨g0 + 1, 1, none⟩)
    | 7 => .int .i64 (i : Int)
    | 8 => .pointer (some ⟨gA, i, none⟩)
    | 9 => .slice r.A m r.c
    | 10 => .pointer (some ⟨g0, 1, none⟩)
    | 11 => .slice (some ⟨gR, 0, none⟩) T.R.length T.R.length
    | 12 => .pointer (some ⟨g0 + 1, 2, none⟩)
    | 13 => .int .i64 (j : Int)
    | 14 => .pointer (some ⟨gR, j, none⟩)
    | 15 => .int .i64 (T.r (j : Int))
    | 18 => .pointer (some ⟨gA, i, none⟩)
    | _ => undef
  refine wp_region_joint (PuJ W2 base gR gA i m T rs r (T.r (j : Int)) F) hmx (by kernel_rfl) (by kernel_rfl) ?_ ?_ ?_ ?_
  · intro D vs hD
    exact ⟨KeepU.of_below (Below.refl _ _).drew HMA.out.size_, fun o ho _ _ _ hd => (by rw [hD o ho] at hd; cases hd), fun hd => (by rw [hD 16 (by decide)] at hd; cases hd), fun _ => (Below.refl _ _).drew, fun hd => (by rw [hD 17 (by decide)] at hd; cases hd), fun hd => (by rw [hD 17 (by decide)] at hd; cases hd), fun hd => (by rw [hD 16 (by decide)] at hd; cases hd), fun hd => (by rw [hD 19 (by decide)] at hd; cases hd)⟩
  · intro o o9 ho D vs w2 hJ hDi hd K hK
    have hi9 : o < 20 := (List.getElem?_eq_some_iff.1 ho).1
    generalize hlit : putV vs 0 _ _ = z at hK ⊢
    simp only [List.map_cons, List.map_nil, putV, Act.put, List.setIfInBounds_toArray, List.set_cons_succ, List.set_cons_zero] at hlit
    subst hlit
    rcases (by omega : o = 0 ∨ o = 1 ∨ o = 2 ∨ o = 3 ∨ o = 4 ∨ o = 5 ∨ o = 6 ∨ o = 7 ∨ o = 8 ∨ o = 9 ∨ o = 10 ∨ o = 11 ∨ o = 12 ∨ o = 13 ∨ o = 14 ∨ o = 15 ∨ o = 16 ∨ o = 17 ∨ o = 18 ∨ o = 19) with rfl | rfl | rfl | rfl | rfl | rfl | rfl | rfl | rfl | rfl | rfl | rfl | rfl | rfl | rfl | rfl | rfl | rfl | rfl | rfl
    · -- 0
      obtain rfl := Option.some.inj ho
      clear ho hd hi9
      go_simp
      exact hK _ (F 0) _ (fun q => q == 0 || D q) (by simp [Act.put]; try rfl) (fun q hq => by simp [hq]) (by simp) (hJ.other (by decide) (fun q hq => by simp [hq]) (by simp))
    · -- 1
      obtain rfl := Option.some.inj ho
      have v0 : vs 0 = F 0 := hJ.vals 0 (by decide) (by decide) (by decide) (by decide) (hd 0 (by kernel_rfl))
      obtain ⟨_, r1, r2, _, _, _⟩ := cells5 (hJ.keep.blk _ _ _ HS2.out (by decide) (by decide))
      clear ho hd hi9
      dsimp only [F] at v0
      go_simp
      exact hK _ (F 1) _ (fun q => q == 1 || D q) (by simp [Act.put, v0]; try rfl) (fun q hq => by simp [hq]) (by simp) (hJ.other (by decide) (fun q hq => by simp [hq]) (by simp))
    · -- 2
      obtain rfl := Option.some.inj ho
      clear ho hd hi9
      go_simp
      exact hK _ (F 2) _ (fun q => q == 2 || D q) (by simp [Act.put]; try rfl) (fun q hq => by simp [hq]) (by simp) (hJ.other (by decide) (fun q hq => by simp [hq]) (by simp))
    · -- 3
      obtain rfl := Option.some.inj ho
      have v2 : vs 2 = F 2 := hJ.vals 2 (by decide) (by decide) (by decide) (by decide) (hd 2 (by kernel_rfl))
      obtain ⟨⟨_, y1, y2, _, _⟩, _⟩ := box_cellsJ (hJ.keep.blk _ _ _ HXA.out (by decide) (by decide))
      clear ho hd hi9
      dsimp only [F] at v2
      go_simp
      exact hK _ (F 3) _ (fun q => q == 3 || D q) (by simp [Act.put, v2]; try rfl) (fun q hq => by simp [hq]) (by simp) (hJ.other (by decide) (fun q hq => by simp [hq]) (by simp))
    · -- 4
      obtain rfl := Option.some.inj ho
      clear ho hd hi9
      go_simp
      exact hK _ (F 4) _ (fun q => q == 4 || D q) (by simp [Act.put]; try rfl) (fun q hq => by simp [hq]) (by simp) (hJ.other (by decide) (fun q hq => by simp [hq]) (by simp))
    · -- 5
      obtain rfl := Option.some.inj ho
      have v4 : vs 4 = F 4 := hJ.vals 4 (by decide) (by decide) (by decide) (by decide) (hd 4 (by kernel_rfl))
      obtain ⟨_, r1, r2, _, _, _⟩ := cells5 (hJ.keep.blk _ _ _ HS2.out (by decide) (by decide))
      clear ho hd hi9
      dsimp only [F] at v4
      go_simp
      exact hK _ (F 5) _ (fun q => q == 5 || D q) (by simp [Act.put, v4]; try rfl) (fun q hq => by simp [hq]) (by simp) (hJ.other (by decide) (fun q hq => by simp [hq]) (by simp))
    · -- 6
      obtain rfl := Option.some.inj ho
      clear ho hd hi9
      go_simp
      exact hK _ (F 6) _ (fun q => q == 6 || D q) (by simp [Act.put]; try rfl) (fun q hq => by simp [hq]) (by simp) (hJ.other (by decide) (fun q hq => by simp [hq]) (by simp))
    · -- 7
      obtain rfl := Option.some.inj ho
      have v6 : vs 6 = F 6 := hJ.vals 6 (by decide) (by decide) (by decide) (by decide) (hd 6 (by kernel_rfl))
      obtain ⟨⟨_, y1, y2, _, _⟩, _⟩ := box_cellsJ (hJ.keep.blk _ _ _ HXA.out (by decide) (by decide))
      clear ho hd hi9
      dsimp only [F] at v6
      go_simp
      exact hK _ (F 7) _ (fun q => q == 7 || D q) (by simp [Act.put, v6]; try rfl) (fun q hq => by simp [hq]) (by simp) (hJ.other (by decide) (fun q hq => by simp [hq]) (by simp))
    · -- 8
      obtain rfl := Option.some.inj ho
      have v5 : vs 5 = F 5 := hJ.vals 5 (by decide) (by decide) (by decide) (by decide) (hd 5 (by kernel_rfl))
      have v7 : vs 7 = F 7 := hJ.vals 7 (by decide) (by decide) (by decide) (by decide) (hd 7 (by kernel_rfl))
      clear ho hd hi9
      dsimp only [F] at v5
      dsimp only [F] at v7
      go_simp
      exact hK _ (F 8) _ (fun q => q == 8 || D q) (by simp [Act.put, v5, v7]; try rfl) (fun q hq => by simp [hq]) (by simp) (hJ.other (by decide) (fun q hq => by simp [hq]) (by simp))
    · -- 9
      obtain rfl := Option.some.inj ho
      have v8 : vs 8 = F 8 := hJ.vals 8 (by decide) (by decide) (by decide) (by decide) (hd 8 (by kernel_rfl))
      have h17 := hJ.not17 (.inl hDi)
      have hc := ((hJ.pre h17).cell (World.block_lt_of_cell? _ _ HD1.out)).trans HD1.out
      clear ho hd hi9
      dsimp only [F] at v8
      go_simp
      exact hK _ (F 9) _ (fun q => q == 9 || D q) (by simp [Act.put, v8]; try rfl) (fun q hq => by simp [hq]) (by simp) (hJ.other (by decide) (fun q hq => by simp [hq]) (by simp))
    · -- 10
      obtain rfl := Option.some.inj ho
      clear ho hd hi9
      go_simp
      exact hK _ (F 10) _ (fun q => q == 10 || D q) (by simp [Act.put]; try rfl) (fun q hq => by simp [hq]) (by simp) (hJ.other (by decide) (fun q hq => by simp [hq]) (by simp))
    · -- 11
      obtain rfl := Option.some.inj ho
      have v10 : vs 10 = F 10 := hJ.vals 10 (by decide) (by decide) (by decide) (by decide) (hd 10 (by kernel_rfl))
      obtain ⟨_, r1, r2, _, _, _⟩ := cells5 (hJ.keep.blk _ _ _ HS2.out (by decide) (by decide))
      clear ho hd hi9
      dsimp only [F] at v10
      go_simp
      exact hK _ (F 11) _ (fun q => q == 11 || D q) (by simp [Act.put, v10]; try rfl) (fun q hq => by simp [hq]) (by simp) (hJ.other (by decide) (fun q hq => by simp [hq]) (by simp))
    · -- 12
      obtain rfl := Option.some.inj ho
      clear ho hd hi9
      go_simp
      exact hK _ (F 12) _ (fun q => q == 12 || D q) (by simp [Act.put]; try rfl) (fun q hq => by simp [hq]) (by simp) (hJ.other (by decide) (fun q hq => by simp [hq]) (by simp))
    · -- 13
      obtain rfl := Option.some.inj ho
      have v12 : vs 12 = F 12 := hJ.vals 12 (by decide) (by decide) (by decide) (by decide) (hd 12 (by kernel_rfl))
      obtain ⟨⟨_, y1, y2, _, _⟩, _⟩ := box_cellsJ (hJ.keep.blk _ _ _ HXA.out (by decide) (by decide))
      clear ho hd hi9
      dsimp only [F] at v12
      go_simp
      exact hK _ (F 13) _ (fun q => q == 13 || D q) (by simp [Act.put, v12]; try rfl) (fun q hq => by simp [hq]) (by simp) (hJ.other (by decide) (fun q hq => by simp [hq]) (by simp))
    · -- 14
      obtain rfl := Option.some.inj ho
      have v11 : vs 11 = F 11 := hJ.vals 11 (by decide) (by decide) (by decide) (by decide) (hd 11 (by kernel_rfl))
      have v13 : vs 13 = F 13 := hJ.vals 13 (by decide) (by decide) (by decide) (by decide) (hd 13 (by kernel_rfl))
      clear ho hd hi9
      dsimp only [F] at v11
      dsimp only [F] at v13
      go_simp
      exact hK _ (F 14) _ (fun q => q == 14 || D q) (by simp [Act.put, v11, v13]; try rfl) (fun q hq => by simp [hq]) (by simp) (hJ.other (by decide) (fun q hq => by simp [hq]) (by simp))
    · -- 15
      obtain rfl := Option.some.inj ho
      have v14 : vs 14 = F 14 := hJ.vals 14 (by decide) (by decide) (by decide) (by decide) (hd 14 (by kernel_rfl))
      have h17 := hJ.not17 (.inr hDi)
      have hc := ((hJ.pre h17).cell (World.block_lt_of_cell? _ _ HB0.out)).trans HB0.out
      clear ho hd hi9
      dsimp only [F] at v14
      go_simp
      exact hK _ (F 15) _ (fun q => q == 15 || D q) (by simp [Act.put, v14]; try rfl) (fun q hq => by simp [hq]) (by simp) (hJ.other (by decide) (fun q hq => by simp [hq]) (by simp))
    · -- 16
      obtain rfl := Option.some.inj ho
      have v15 : vs 15 = F 15 := hJ.vals 15 (by decide) (by decide) (by decide) (by decide) (hd 15 (by kernel_rfl))
      have h15 := hd 15 (by kernel_rfl)
      clear ho hd hi9
      dsimp only [F] at v15
      go_simp
      exact hK _ (.slice (some ⟨w2.heap.size, 0, none⟩) 1 1) _ (fun q => q == 16 || D q) (by simp [Act.put, v15]; try rfl) (fun q hq => by simp [hq]) (by simp) (hJ.lay hDi h15 (fun q hq => by simp [hq]) (Nat.le_trans HMA.out.size_ hJ.keep.bel.size))
    · -- 17
      obtain rfl := Option.some.inj ho
      have v9 : vs 9 = F 9 := hJ.vals 9 (by decide) (by decide) (by decide) (by decide) (hd 9 (by kernel_rfl))
      have h9 := hd 9 (by kernel_rfl)
      have h16 := hd 16 (by kernel_rfl)
      obtain ⟨gl, v16, hgl, hlit⟩ := hJ.lit h16
      have hgl2 := hlit hDi
      have hbp := hJ.pre hDi
      have hMb := HMA.out.on hbp
      have hOb := HRO.out.below hbp (Nat.le_refl _)
      have hsrc : Ints w2 (gl + 1) (some ⟨gl, 0, none⟩) 1 [T.r (j : Int)] := ints_lit hgl2 HRJ.out
      have hbs : base ≤ w2.heap.size := hMb.size_
      clear ho hd hi9
      dsimp only [F] at v9
      refine step_appendWhereU rfl (.tmp 208) (.tmp 215) 28 rfl base 2 i6 Tryz.underlying28 HI6.out.1 HI6.out.2.1 HI6.out.2.2.1 HI6.out.2.2.2 r.A (some ⟨gl, 0, none⟩) r.c 1 1 (gl + 1) m (m + 1) r.L [T.r (j : Int)] v9 v16 hOb HRL.out rfl hsrc hle hbs ?_
      intro A8 c8 w8 hO8 hG8 hA8
      exact hK _ (.slice A8 (m + 1) c8) w8 (fun q => q == 17 || D q) rfl (fun q hq => by simp [hq]) (by simp) (hJ.app hDi h9 h16 hMb hO8 hG8 hA8 HRR.out HRL.out (fun q hq => by simp [hq]) (by simp))
    · -- 18
      obtain rfl := Option.some.inj ho
      have v1 : vs 1 = F 1 := hJ.vals 1 (by decide) (by decide) (by decide) (by decide) (hd 1 (by kernel_rfl))
      have v3 : vs 3 = F 3 := hJ.vals 3 (by decide) (by decide) (by decide) (by decide) (hd 3 (by kernel_rfl))
      clear ho hd hi9
      dsimp only [F] at v1
      dsimp only [F] at v3
      go_simp
      exact hK _ (F 18) _ (fun q => q == 18 || D q) (by simp [Act.put, v1, v3]; try rfl) (fun q hq => by simp [hq]) (by simp) (hJ.other (by decide) (fun q hq => by simp [hq]) (by simp))
    · -- 19
      obtain rfl := Option.some.inj ho
      have v18 : vs 18 = F 18 := hJ.vals 18 (by decide) (by decide) (by decide) (by decide) (hd 18 (by kernel_rfl))
      have h17 := hd 17 (by kernel_rfl)
      obtain ⟨A8, c8, v17, hcell, hfr, hst⟩ := hJ.ready h17 hDi HRR.out HRL.out
      clear ho hd hi9
      dsimp only [F] at v18
      go_simp
      exact hK _ undef _ (fun q => q == 19 || D q) (by simp [Act.put, v17, v18]; try rfl) (fun q hq => by simp [hq]) (by simp) (hst _ undef (fun q hq => by simp [hq]) (by simp))
  · intro D vs w5 hJ hall
    obtain ⟨A8, c8, hM8⟩ := hJ.done (hall 19 (by decide))
    have v0 : vs 0 = F 0 := hJ.vals 0 (by decide) (by decide) (by decide) (by decide) (hall 0 (by decide))
    have v1 : vs 1 = F 1 := hJ.vals 1 (by decide) (by decide) (by decide) (by decide) (hall 1 (by decide))
    have v2 : vs 2 = F 2 := hJ.vals 2 (by decide) (by decide) (by decide) (by decide) (hall 2 (by decide))
    have v3 : vs 3 = F 3 := hJ.vals 3 (by decide) (by decide) (by decide) (by decide) (hall 3 (by decide))
    have v4 : vs 4 = F 4 := hJ.vals 4 (by decide) (by decide) (by decide) (by decide) (hall 4 (by decide))
    have v5 : vs 5 = F 5 := hJ.vals 5 (by decide) (by decide) (by decide) (by decide) (hall 5 (by decide))
    have v6 : vs 6 = F 6 := hJ.vals 6 (by decide) (by decide) (by decide) (by decide) (hall 6 (by decide))
    have v7 : vs 7 = F 7 := hJ.vals 7 (by decide) (by decide) (by decide) (by decide) (hall 7 (by decide))
    have v8 : vs 8 = F 8 := hJ.vals 8 (by decide) (by decide) (by decide) (by decide) (hall 8 (by decide))
    have v9 : vs 9 = F 9 := hJ.vals 9 (by decide) (by decide) (by decide) (by decide) (hall 9 (by decide))
    have v10 : vs 10 = F 10 := hJ.vals 10 (by decide) (by decide) (by decide) (by decide) (hall 10 (by decide))
    have v11 : vs 11 = F 11 := hJ.vals 11 (by decide) (by decide) (by decide) (by decide) (hall 11 (by decide))
    have v12 : vs 12 = F 12 := hJ.vals 12 (by decide) (by decide) (by decide) (by decide) (hall 12 (by decide))
    have v13 : vs 13 = F 13 := hJ.vals 13 (by decide) (by decide) (by decide) (by decide) (hall 13 (by decide))
    have v14 : vs 14 = F 14 := hJ.vals 14 (by decide) (by decide) (by decide) (by decide) (hall 14 (by decide))
    have v15 : vs 15 = F 15 := hJ.vals 15 (by decide) (by decide) (by decide) (by decide) (hall 15 (by decide))
    have v18 : vs 18 = F 18 := hJ.vals 18 (by decide) (by decide) (by decide) (by decide) (hall 18 (by decide))
    dsimp only [F] at v0 v1 v2 v3 v4 v5 v6 v7 v8 v9 v10 v11 v12 v13 v14 v15 v18
    have HP1 := Lib.hid hM8
    have HKP := Lib.hid hJ.keep
    generalize hlit : putV vs 0 _ _ = z
    simp only [List.map_cons, List.map_nil, putV, Act.put, List.setIfInBounds_toArray, List.set_cons_succ, List.set_cons_zero] at hlit
    rw [v0, v1, v2, v3, v4, v5, v6, v7, v8, v9, v10, v11, v12, v13, v14, v15, v18] at hlit
    generalize vs 16 = u16 at hlit
    generalize vs 17 = u17 at hlit
    subst hlit
    clear hJ hall v0 v1 v2 v3 v4 v5 v6 v7 v8 v9 v10 v11 v12 v13 v14 v15 v18 hM8
    clear F
    have HS5 := Lib.hid (HKP.out.blk _ _ _ HS2.out (by decide) (by decide))
    have HZ5 := Lib.hid (HKP.out.blk _ _ _ HZA.out (by decide) (by decide))
    have HK5 := Lib.hid (HKA.out.trans HKP.out)
    go_upto_region 39 with fail
    obtain ⟨r0, r1, r2, r3, r4, rf0, rf1, rf2, rf3, rf4⟩ := cells5 HS5.out
    obtain ⟨q0, q1, q2, q3, q4, qf0, qf1, qf2, qf3, qf4⟩ := cells5 HZ5.out
    have HKE := Lib.hid (KeepU.put5 HK5.out (g := g0 + 1 + 1) (by have := HG0.out; omega) HBB.out (.int .i64 ((T.at_ : Nat) : Int)) (.slice (some ⟨gR, 0, none⟩) T.R.length T.R.length) (.slice (some ⟨gA, 0, none⟩) T.A.length T.A.length) (.int .i64 ((T.st : Nat) : Int)) (.int .i64 ((T.ce : Int) + 1)))
    obtain ⟨s0, s1, s2, s3, s4, _⟩ := cells5 (five_cells HZ5.out (.int .i64 ((T.at_ : Nat) : Int)) (.slice (some ⟨gR, 0, none⟩) T.R.length T.R.length) (.slice (some ⟨gA, 0, none⟩) T.A.length T.A.length) (.int .i64 ((T.st : Nat) : Int)) (.int .i64 ((T.ce : Int) + 1)))
    have HSS := Lib.hid (And.intro s0 (And.intro s1 (And.intro s2 (And.intro s3 s4))))
    have HME := Lib.hid (MsW.put5 HP1.out HZ5.out (.int .i64 ((T.at_ : Nat) : Int)) (.slice (some ⟨gR, 0, none⟩) T.R.length T.R.length) (.slice (some ⟨gA, 0, none⟩) T.A.length T.A.length) (.int .i64 ((T.st : Nat) : Int)) (.int .i64 ((T.ce : Int) + 1)))
    clear s0 s1 s2 s3 s4
    go_wp2_with fail
    obtain ⟨s0, s1, s2, s3, s4⟩ := HSS.out
    exact bodyPost_ret (v := .tuple #[.agg #[.int .i64 ((T.at_ : Nat) : Int), .slice (some ⟨gR, 0, none⟩) T.R.length T.R.length, .slice (some ⟨gA, 0, none⟩) T.A.length T.A.length, .int .i64 ((T.st : Nat) : Int), .int .i64 ((T.ce : Int) + 1)], .int .i64 0]) (by simp [results, Tryz.results32, go_sem, s0, s1, s2, s3, s4]) rfl (.inl ⟨{ T.arr (i : Int) (T.a (i : Int) ++ [T.r (j : Int)]) with ce := T.ce + 1 }, _, (by rw [HT.out]; unfold doM; simp only [if_true, if_false, Int.reduceEq]; rw [if_neg (by have := HNE.out; omega)]), (by simp [stV, Ms.arr]), HME.out, HKE.out⟩)
  · exact fun D D' vs w' hD h => h.same hD
end Go.Proofs.YtgkngimeokhhgaaGreatDoor
