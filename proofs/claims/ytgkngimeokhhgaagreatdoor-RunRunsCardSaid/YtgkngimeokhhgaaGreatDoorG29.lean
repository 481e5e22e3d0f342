/- What the two runs hand on, in one form. -/
import Derived.Test.YtgkngimeokhhgaaGreatDoorG28
import Derived.Test.YtgkngimeokhhgaaGreatDoorG5
namespace Go.Proofs.YtgkngimeokhhgaaGreatDoor
open Go.RowKit Go.Sort

/-- the lists that come out -/
def outR (I : Int) (r : Except Int (Ms × List Nat)) : List (List Int) := match r with
  | .ok zp => zp.1.A.drop I.toNat
  | .error _ => []
def RunU (q : Cq) (fuel cells : Int) (ins : List (List Int)) (w : World) (e : Ending) (w' : World) : Prop :=
  ∃ (X : Option Addr) (n : Nat), e = .returned (.tuple #[.agg #[.slice X n n, .int .i64 (needR (runM q.cd fuel cells ins)).1, .int .i64 (needR (runM q.cd fuel cells ins)).2.1], .int .i64 (needR (runM q.cd fuel cells ins)).2.2]) ∧ OutB w' w.heap.size w'.heap.size X n (outR q.I (runM q.cd fuel cells ins)) ∧ Below w.heap.size w w'
theorem OutB.nil_ (w : World) (T U : Nat) : OutB w T U none 0 [] := ⟨rfl, by omega, fun l h => (by cases h), fun h => absurd h (by omega)⟩
theorem runM_brief {c : Cd} {fuel cells : Int} {ins : List (List Int)} {z : Ms} {p : List Nat} (h : runM c fuel cells ins = .ok (z, p)) (hl : ∀ l ∈ ins, l.length ≤ 2000) (hf : fuel ≤ 2000) : ∀ l ∈ z.A, l.length ≤ 100000 := fun l hm => by
  have h1 := runM_long h hl l hm
  have h2 := (runM_keeps h).2.2.1
  omega
theorem RowsU.in_heap {w : World} {T g : Nat} {rs : List RowU} (h : RowsU w T g rs) : g < w.heap.size ∧ ∀ r ∈ rs, ∀ b, r.A = some ⟨b, 0, none⟩ → b < w.heap.size := by
  obtain ⟨_, cur, hg⟩ := h.heap
  refine ⟨lt_of_heap hg, fun r hr b hb => ?_⟩
  have hO := h.ins r hr
  rw [hb] at hO
  exact hO.ltL.2
theorem run16_u (q : Cq) (fuel cells : Int) (A : Option Addr) (n c : Nat) (ins : List (List Int)) (w : World) (h : RunIn q fuel A n ins 2000 w) (hf : fuel ≤ 2000) (hS : ShT w) :
    Calls Tryz.prog 6 #[q.val, .int .i64 fuel, .int .i64 cells, .slice A n c] w (RunU q fuel cells ins w) := by
  refine (run16_any q fuel cells A n c ins 2000 w h hS).mono ?_
  rintro e w' (⟨v, hr, rfl, hb⟩ | ⟨z, p, i, a, gO, rs, hr, hi, ha, hia, rfl, hR, hL, hb⟩)
  · refine ⟨none, 0, ?_, ?_, hb⟩
    · rw [hr]; rfl
    · rw [hr]; exact OutB.nil_ _ _ _
  · obtain ⟨i2, hi2, _, ha128⟩ := runM_ok hr
    obtain ⟨hg, hrs⟩ := hR.in_heap
    have hlen : rs.length = a - i := by
      have h1 : (rs.map (·.L)).length = _ := congrArg List.length hL
      rw [List.length_map, List.length_drop, ha] at h1
      exact h1
    refine ⟨some ⟨gO, 0, none⟩, a - i, ?_, ?_, hb⟩
    · rw [hr]; rfl
    · rw [hr]
      have ho : outR q.I (.ok (z, p)) = z.A.drop i := by show z.A.drop q.I.toNat = _; rw [hi, Int.toNat_natCast]
      rw [ho]
      exact ⟨by rw [List.length_drop, ha], by omega, fun l hm => runM_brief hr h.len hf l (List.mem_of_mem_drop hm), fun _ => ⟨gO, 0, rs, rfl, hR, by rw [List.drop_zero]; exact hL, by omega, hg, hrs⟩⟩
theorem refRun16_u (q : Cq) (fuel cells : Int) (A : Option Addr) (n c : Nat) (ins : List (List Int)) (w : World) (h : RunIn q fuel A n ins 2000 w) (hf : fuel ≤ 2000) :
    Calls Tryz.prog 7 #[q.val, .int .i64 fuel, .int .i64 cells, .slice A n c] w (RunU q fuel cells ins w) := by
  refine (refRunQ16_any q fuel cells A n c ins 2000 w h).mono ?_
  rintro e w' (⟨v, hr, rfl, hb⟩ | ⟨z, p, gR, gA, rs, i, a, hr, hi, ha, hia, ⟨X, hX, rfl⟩, hM, hb⟩)
  · refine ⟨none, 0, ?_, ?_, hb⟩
    · rw [hr]; rfl
    · rw [hr]; exact OutB.nil_ _ _ _
  · obtain ⟨i2, hi2, _, ha128⟩ := runM_ok hr
    obtain ⟨hg, hrs⟩ := hM.A.in_heap
    have hlen : rs.length = a := by rw [hM.len, ha]
    refine ⟨X, a - i, ?_, ?_, hb⟩
    · rw [hr]; rfl
    · rw [hr]
      have ho : outR q.I (.ok (z, p)) = z.A.drop i := by show z.A.drop q.I.toNat = _; rw [hi, Int.toNat_natCast]
      rw [ho]
      exact ⟨by rw [List.length_drop, ha], by omega, fun l hm => runM_brief hr h.len hf l (List.mem_of_mem_drop hm), fun h0 => ⟨gA, i, rs, hX (by omega), hM.A, by rw [hM.L], by omega, hg, hrs⟩⟩
/-- the six of them, at whatever world behind w -/
structure AllC (q : Cq) (f m1 : Int) (A : Option Addr) (n c : Nat) (s1 s2 s3 : Int) (LO : List (List Int)) (pl : List Int) (pe : Int) (w : World) : Prop where
  run : ∀ W, Below w.heap.size w W → Calls Tryz.prog 6 #[q.val, .int .i64 f, .int .i64 m1, .slice A n c] W fun e w' => ∃ X k, e = .returned (.tuple #[.agg #[.slice X k k, .int .i64 s1, .int .i64 s2], .int .i64 s3]) ∧ OutB w' W.heap.size w'.heap.size X k LO ∧ Below W.heap.size W w'
  ref : ∀ W, Below w.heap.size w W → Calls Tryz.prog 7 #[q.val, .int .i64 f, .int .i64 m1, .slice A n c] W fun e w' => ∃ X k, e = .returned (.tuple #[.agg #[.slice X k k, .int .i64 s1, .int .i64 s2], .int .i64 s3]) ∧ OutB w' W.heap.size w'.heap.size X k LO ∧ Below W.heap.size W w'
  need : ∀ W, Below w.heap.size w W → Calls Tryz.prog 8 #[q.val, .int .i64 f, .int .i64 m1, .slice A n c] W fun e w' => e = .returned (.tuple #[.int .i64 s1, .int .i64 s2, .int .i64 s3]) ∧ Below W.heap.size W w'
  refNeed : ∀ W, Below w.heap.size w W → Calls Tryz.prog 9 #[q.val, .int .i64 f, .int .i64 m1, .slice A n c] W fun e w' => e = .returned (.tuple #[.int .i64 s1, .int .i64 s2, .int .i64 s3]) ∧ Below W.heap.size W w'
  path : ∀ W, Below w.heap.size w W → Calls Tryz.prog 10 #[q.val, .int .i64 f, .int .i64 m1, .slice A n c] W fun e w' => ∃ Ap np cp, e = .returned (.tuple #[.slice Ap np cp, .int .i64 pe]) ∧ pl.length = np ∧ OwnI w' W.heap.size 3 Ap cp pl ∧ Below W.heap.size W w'
  refPath : ∀ W, Below w.heap.size w W → Calls Tryz.prog 11 #[q.val, .int .i64 f, .int .i64 m1, .slice A n c] W fun e w' => ∃ Ap np cp, e = .returned (.tuple #[.slice Ap np cp, .int .i64 pe]) ∧ pl.length = np ∧ OwnI w' W.heap.size 3 Ap cp pl ∧ Below W.heap.size W w'
  short : pl.length ≤ 100000
theorem allC {q : Cq} {f m1 : Int} {A : Option Addr} {n c : Nat} {LL : List (List Int)} {w : World} (hq : q.In w) (h : IntsLL w w.heap.size A n LL) (hf : few16 q n LL = true) (h1 : f ≤ 2000) (hS : ShT w) : ∃ s1 s2 s3 LO pl pe, AllC q f m1 A n c s1 s2 s3 LO pl pe w := by
  have hin : ∀ W, Below w.heap.size w W → RunIn q f A n LL 2000 W := fun W hb => RunIn.small hq h hf hb (by omega)
  refine ⟨_, _, _, _, (pathR (runM q.cd f m1 LL)).1, (pathR (runM q.cd f m1 LL)).2, ⟨fun W hb => run16_u q f m1 A n c LL W (hin W hb) h1 (hS.on hb), fun W hb => refRun16_u q f m1 A n c LL W (hin W hb) h1, fun W hb => need16_any q f m1 A n c LL 2000 W (hin W hb) (hS.on hb), fun W hb => refNeed16_any q f m1 A n c LL 2000 W (hin W hb), fun W hb => path16_any q f m1 A n c LL 2000 W (hin W hb) (by omega) (hS.on hb), fun W hb => refPath16_any q f m1 A n c LL 2000 W (hin W hb), ?_⟩⟩
  cases hr : runM q.cd f m1 LL with
  | error v => simp [pathR]
  | ok zp =>
    obtain ⟨z, p⟩ := zp
    have h3 := (runM_keeps hr).2.2.1
    show (p.map fun n : Nat => (n : Int)).length ≤ _
    rw [List.length_map]
    omega
/-- what stands as the one answer is written to -/
structure RnA (w wr : World) (g0 gA gB T2 U2 : Nat) (o0 oA oB : Obj) (X1 X2 : Option Addr) (n1 n2 : Nat) (LA LO : List (List Int)) (W : World) : Prop where
  bel : Below w.heap.size w W
  wr_ : Below wr.heap.size wr W
  cd : W.heap[g0]? = some o0
  bA : W.heap[gA]? = some oA
  bB : W.heap[gB]? = some oB
  a : OutB W wr.heap.size gA X1 n1 LA
  b : OutB W T2 U2 X2 n2 LO
  l0 : g0 < wr.heap.size
  l1 : w.heap.size ≤ wr.heap.size
  l2 : gA ≤ T2
  l3 : gA ≤ gB
section
variable {w wr W W' : World} {g0 gA gB T2 U2 : Nat} {o0 oA oB : Obj} {X1 X2 : Option Addr} {n1 n2 : Nat} {LA LA' LO : List (List Int)}
theorem RnA.on (h : RnA w wr g0 gA gB T2 U2 o0 oA oB X1 X2 n1 n2 LA LO W) (hb : Below W.heap.size W W') : RnA w wr g0 gA gB T2 U2 o0 oA oB X1 X2 n1 n2 LA LO W' :=
  ⟨h.bel.trans (hb.mono h.bel.size), h.wr_.trans (hb.mono h.wr_.size), keep_b hb h.cd, keep_b hb h.bA, keep_b hb h.bB, h.a.below hb, h.b.below hb, h.l0, h.l1, h.l2, h.l3⟩
theorem RnA.put {b : Nat} (h : RnA w wr g0 gA gB T2 U2 o0 oA oB X1 X2 n1 n2 LA LO W) (h1 : wr.heap.size ≤ b) (h2 : b < gA) (k : Nat) (v : Value) (ha : OutB (W.setCell ⟨b, k, none⟩ v) wr.heap.size gA X1 n1 LA') : RnA w wr g0 gA gB T2 U2 o0 oA oB X1 X2 n1 n2 LA' LO (W.setCell ⟨b, k, none⟩ v) := by
  have l0 := h.l0
  have l1 := h.l1
  have l2 := h.l2
  have l3 := h.l3
  exact ⟨h.bel.setCell (by show _ ≤ b; omega) _, h.wr_.setCell (by show _ ≤ b; omega) _, (heap_setCell_other W ⟨b, k, none⟩ g0 v (by show g0 ≠ b; omega)).trans h.cd, (heap_setCell_other W ⟨b, k, none⟩ gA v (by show gA ≠ b; omega)).trans h.bA, (heap_setCell_other W ⟨b, k, none⟩ gB v (by show gB ≠ b; omega)).trans h.bB, ha, h.b.far (by omega) k v, l0, l1, l2, l3⟩
end
end Go.Proofs.YtgkngimeokhhgaaGreatDoor
/- Lists of numbers of the call's own, in a list of the call's own, one more behind them. -/
namespace Go.Proofs.YtgkngimeokhhgaaGreatDoor
open Go.RowKit

/-- the heads of slices of the call's own -/
def HeadsU (w : World) (base : Nat) : List Value → List (List Int) → Prop
  | [], [] => True
  | v :: vs, L :: LL => (∃ a c, v = .slice a L.length c ∧ OwnI w base 2 a c L) ∧ HeadsU w base vs LL
  | _, _ => False
theorem HeadsU.len {w : World} {base : Nat} {vs : List Value} {LL : List (List Int)} (h : HeadsU w base vs LL) : vs.length = LL.length := by
  induction vs generalizing LL with
  | nil => cases LL with | nil => rfl | cons L LL => exact h.elim
  | cons v vs ih => cases LL with | nil => exact h.elim | cons L LL => simp [ih h.2]
theorem HeadsU.at_ {w : World} {base k : Nat} {vs : List Value} {LL : List (List Int)} {L : List Int} (h : HeadsU w base vs LL) (hk : LL[k]? = some L) : ∃ a c, vs[k]? = some (.slice a L.length c) ∧ OwnI w base 2 a c L := by
  induction vs generalizing LL k with
  | nil => cases LL with | nil => simp at hk | cons L LL => exact h.elim
  | cons v vs ih => cases LL with
    | nil => exact h.elim
    | cons L' LL => cases k with
      | zero => simp at hk; subst hk; obtain ⟨a, c, rfl, ho⟩ := h.1; exact ⟨a, c, rfl, ho⟩
      | succ k => exact ih h.2 (by simpa using hk)
theorem HeadsU.map {w w' : World} {base base' : Nat} {vs : List Value} {LL : List (List Int)} (h : HeadsU w base vs LL) (hm : ∀ a c L, OwnI w base 2 a c L → OwnI w' base' 2 a c L) : HeadsU w' base' vs LL := by
  induction vs generalizing LL with
  | nil => cases LL with | nil => trivial | cons L LL => exact h.elim
  | cons v vs ih => cases LL with
    | nil => exact h.elim
    | cons L LL => obtain ⟨⟨a, c, e, ho⟩, h2⟩ := h; exact ⟨⟨a, c, e, hm _ _ _ ho⟩, ih h2⟩
theorem HeadsU.snoc {w : World} {base c : Nat} {a : Option Addr} {vs : List Value} {LL : List (List Int)} {L : List Int} (h : HeadsU w base vs LL) (ho : OwnI w base 2 a c L) : HeadsU w base (vs ++ [.slice a L.length c]) (LL ++ [L]) := by
  induction vs generalizing LL with
  | nil => cases LL with | nil => exact ⟨⟨a, c, rfl, ho⟩, trivial⟩ | cons L LL => exact h.elim
  | cons v vs ih => cases LL with
    | nil => exact h.elim
    | cons L LL => exact ⟨h.1, ih h.2⟩

/-- a slice of the call's own, of slices of the call's own -/
def OwnLU (w : World) (base : Nat) (A : Option Addr) (c : Nat) (LL : List (List Int)) : Prop :=
  ∃ vs, w.ownsRow base 28 1 (.slice A LL.length c) LL.length vs ∧ HeadsU w base vs LL
theorem OwnLU.nil_ (w : World) (base : Nat) : OwnLU w base none 0 [] := ⟨[], w.ownsRow_nil base _ 1, trivial⟩
theorem OwnLU.ints {w : World} {base : Nat} {A : Option Addr} {c : Nat} {LL : List (List Int)} (h : OwnLU w base A c LL) : IntsLL w w.heap.size A LL.length LL := by
  obtain ⟨vs, hr, hh⟩ := h
  refine ⟨rfl, fun h0 => ?_⟩
  rcases hr.2 with ⟨_, h1⟩ | ⟨g, cap, cur, hv, _, hg, _⟩
  · omega
  have hA : A = some ⟨g, 0, none⟩ := by injection hv
  subst hA
  have hlt : g < w.heap.size := (hr.lt g rfl).2
  refine ⟨g, 0, rfl, hlt, fun k L hL => ?_⟩
  obtain ⟨a, c2, h1, h2⟩ := hh.at_ hL
  have hk := (List.getElem?_eq_some_iff.1 h1).1
  refine ⟨a, c2, ?_, h2.len_cap, h2.ints⟩
  rw [Nat.zero_add]
  exact (hr.cellAt k (by rw [← hh.len]; omega)).trans h1
theorem OwnLU.below {w w' : World} {base B : Nat} {A : Option Addr} {c : Nat} {LL : List (List Int)} (h : OwnLU w base A c LL) (hb : Below B w w') (hB : w.heap.size ≤ B) : OwnLU w' base A c LL := by
  obtain ⟨vs, hr, hh⟩ := h
  refine ⟨vs, ?_, hh.map fun a c L ho => ho.below hb hB⟩
  exact hr.kept ⟨hb.os, hb.tape, hb.output, hb.size, fun i hi _ => hb.block i (by omega)⟩ (row := none) (by cases hh : (Value.slice A LL.length c).ownBlock with | none => exact .inl rfl | some k => exact .inr (by simp))
theorem OwnLU.mono {w : World} {base base' : Nat} {A : Option Addr} {c : Nat} {LL : List (List Int)} (h : OwnLU w base A c LL) (hb : base' ≤ base) : OwnLU w base' A c LL := by
  obtain ⟨vs, hr, hh⟩ := h
  refine ⟨vs, ⟨hr.1, ?_⟩, hh.map fun a c L ho => ho.mono hb⟩
  rcases hr.2 with hh | ⟨g, cap, cur, h1, h2, h3⟩
  · exact .inl hh
  · exact .inr ⟨g, cap, cur, h1, by omega, h3⟩
theorem OwnLU.alloc {w : World} {base : Nat} {A : Option Addr} {c : Nat} {LL : List (List Int)} (h : OwnLU w base A c LL) (o : Obj) : OwnLU (w.alloc o) base A c LL := by
  obtain ⟨vs, hr, hh⟩ := h
  exact ⟨vs, hr.alloc o, hh.map fun a c L ho => ho.alloc o⟩

/-- one more -/
theorem wpList_appendRowU {ops : Array Oper} {rest : List Oper} {o : Oper} {a : Act} {w : World} {Q : Exit → Act → World → Prop}
    (hg : o.guard = none) (s x : Operand) (hop : o.op = Op.call { callee := Callee.builtin Builtin.append, args := #[s, x], argTypes := #[25, 25] })
    (base : Nat) (i : TypeInfo) (hi : Tryz.prog.info? 28 = some i) (hz : i.zero = some (.slice none 0 0)) (h1 : i.size = 1) (h2 : i.bytes = 24)
    (A : Option Addr) (c p r c2 c3 : Nat) (a2 : Option Addr) (LL : List (List Int)) (L : List Int) (hs : a.eval s = .slice A p c) (hx : a.eval x = .slice (some ⟨w.heap.size, 0, none⟩) 1 1)
    (ho : OwnLU w base A c LL) (hL : OwnI w base 2 a2 c2 L) (hc3 : L.length = c3) (hp : LL.length = p) (hr : p + 1 = r) (hl : r ≤ 1000000) (hb : base ≤ w.heap.size)
    (hK : ∀ A' c' w', OwnLU w' base A' c' (LL ++ [L]) → Below base w w' → wpList Tryz.prog ops Q rest (a.put o.dst (.slice A' r c')) w') :
    wpList Tryz.prog ops Q (o :: rest) a (w.alloc (.cells #[.slice a2 c3 c2] 28)) := by
  obtain ⟨vs, hrow, hh⟩ := ho
  subst hp
  subst hr
  subst hc3
  have hbk : ∀ k, (Value.slice A LL.length c).ownBlock = some k → ∃ cs, w.heap[k]? = some (.cells cs 28 (0, 0)) := by
    intro k hk
    rcases hrow.2 with ⟨hv, _⟩ | ⟨g, cap, cur, hv, _, hg, _⟩
    · rw [hv] at hk; cases hk
    · rw [hv] at hk; injection hk with hk; subst hk; exact ⟨cur, hg⟩
  refine wpList_append_own _ hg s x 25 hop base 28 i (.slice none 0 0) 1 24 Tryz.underlying25 hi hz h1 h2 rfl (by decide) _ LL.length vs hs (hrow.alloc _) ⟨w.heap.size, 0, none⟩ 1 1 [.slice a2 L.length c2] hx rfl ?_ (by simp [Value.oneCell']) (by unfold maxLen; omega) (by omega) (by simp; omega) ?_
  · intro j u hj
    cases j with
    | zero => simp at hj; subst hj; simp [Addr.add]
    | succ j => simp at hj
  · intro v' w' hown hgr _
    obtain ⟨A', c', rfl⟩ := row_form hown
    have hgr2 : w.grownBy w' (Value.slice A LL.length c).ownBlock := (World.grownBy_alloc w _ _).trans hgr
    refine hK A' c' w' ⟨vs ++ [.slice a2 L.length c2], by simpa using hown, ?_⟩ ?_
    · refine (hh.snoc hL).map fun a c L ho => ⟨ho.1.kept hgr2 ?_, ho.2⟩
      cases hob : (Value.slice a L.length c).ownBlock with
      | none => exact .inl rfl
      | some k =>
        right
        intro e
        obtain ⟨cs, hcs⟩ := hbk k e.symm
        rcases ho.1.2 with ⟨hv, _⟩ | ⟨g, cap, cur, hv, _, hg2, _⟩
        · rw [hv] at hob; cases hob
        · rw [hv] at hob; injection hob with hob; subst hob
          have := hcs.symm.trans hg2
          injection this with this; injection this with _ this _
          exact absurd this (by decide)
    · refine (Below.refl _ w).grown hgr2 hb (fun k hk => (hrow.lt k hk).1)
end Go.Proofs.YtgkngimeokhhgaaGreatDoor
