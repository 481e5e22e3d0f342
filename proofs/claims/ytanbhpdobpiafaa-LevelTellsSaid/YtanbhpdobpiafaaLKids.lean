/- Slices of children: how they read, those of the call's own, and one more behind them. -/
import Derived.Test.YtanbhpdobpiafaaLCheck
import Derived.Test.YtanbhpdobpiafaaLRows
namespace Go.Proofs.Ytanbhpdobpiafaa
open Go.RowKit

set_option maxRecDepth 100000 in
theorem infoChild : (Try.prog.info? 47).map (fun i => (i.zero, i.size, i.bytes)) = some (some (.agg #[.int .i64 0, .int .i64 0]), 2, 16) := by kernel_rfl

def chCells (L : List (Int × Int)) : List Value := L.flatMap fun x => [.int .i64 x.1, .int .i64 x.2]
theorem chCells_nil : chCells [] = [] := rfl
theorem chCells_append (L M : List (Int × Int)) : chCells (L ++ M) = chCells L ++ chCells M := by simp [chCells]
theorem chCells_length (L : List (Int × Int)) : (chCells L).length = L.length * 2 := by
  induction L with
  | nil => rfl
  | cons x L ih => show (([_, _] : List Value) ++ chCells L).length = _; rw [List.length_append, ih]; simp; omega
theorem chCells_at {L : List (Int × Int)} {k : Nat} {x : Int × Int} (h : L[k]? = some x) : (chCells L)[k * 2]? = some (.int .i64 x.1) ∧ (chCells L)[k * 2 + 1]? = some (.int .i64 x.2) := by
  induction L generalizing k with
  | nil => simp at h
  | cons y L ih =>
    have hc : chCells (y :: L) = .int .i64 y.1 :: .int .i64 y.2 :: chCells L := rfl
    cases k with
    | zero => simp at h; subst h; rw [hc]; exact ⟨rfl, rfl⟩
    | succ k =>
      have := ih (k := k) (by simpa using h)
      rw [hc, show (k + 1) * 2 = k * 2 + 1 + 1 by omega, show k * 2 + 1 + 1 + 1 = (k * 2 + 1) + 1 + 1 by omega]
      exact this
def FitC (L : List (Int × Int)) : Prop := ∀ x ∈ L, (-9223372036854775808 ≤ x.1 ∧ x.1 ≤ 9223372036854775807) ∧ (-9223372036854775808 ≤ x.2 ∧ x.2 ≤ 9223372036854775807)
/-- the header (A, n) leads to the children L, in blocks below B -/
def Chs (w : World) (B : Nat) (A : Option Addr) (n : Nat) (L : List (Int × Int)) : Prop :=
  L.length = n ∧ FitC L ∧ (0 < n → ∃ b off, A = some ⟨b, off, none⟩ ∧ b < B ∧ ∀ (k : Nat) (x : Int × Int), L[k]? = some x → w.cell? ⟨b, off + k * 2, none⟩ = some (.int .i64 x.1) ∧ w.cell? ⟨b, off + k * 2 + 1, none⟩ = some (.int .i64 x.2))
theorem Chs.at_ {w : World} {B n k : Nat} {A : Option Addr} {L : List (Int × Int)} (h : Chs w B A n L) (hk : k < n) :
    ∃ b off x, A = some ⟨b, off, none⟩ ∧ b < B ∧ Hid (L[k]? = some x) ∧ w.cell? ⟨b, off + k * 2, none⟩ = some (.int .i64 x.1) ∧ w.cell? ⟨b, off + k * 2 + 1, none⟩ = some (.int .i64 x.2) ∧ (-9223372036854775808 ≤ x.1 ∧ x.1 ≤ 9223372036854775807) ∧ (-9223372036854775808 ≤ x.2 ∧ x.2 ≤ 9223372036854775807) := by
  obtain ⟨hl, hb, hc⟩ := h
  obtain ⟨b, off, rfl, hB, hx⟩ := hc (by omega)
  have hk' : k < L.length := by omega
  have := hx k _ (List.getElem?_eq_getElem hk')
  have hf := hb _ (List.getElem_mem hk')
  exact ⟨b, off, L[k], rfl, hB, List.getElem?_eq_getElem hk', this.1, this.2, hf.1, hf.2⟩
theorem Chs.below {w w' : World} {B n : Nat} {A : Option Addr} {L : List (Int × Int)} (h : Chs w B A n L) (hb : Below B w w') : Chs w' B A n L := by
  refine ⟨h.1, h.2.1, fun h0 => ?_⟩
  obtain ⟨b, off, rfl, hB, hx⟩ := h.2.2 h0
  exact ⟨b, off, rfl, hB, fun k x hk => ⟨(hb.cell (p := ⟨b, off + k * 2, none⟩) hB).trans (hx k x hk).1, (hb.cell (p := ⟨b, off + k * 2 + 1, none⟩) hB).trans (hx k x hk).2⟩⟩
theorem Chs.more {w : World} {B B' n : Nat} {A : Option Addr} {L : List (Int × Int)} (h : Chs w B A n L) (hb : B ≤ B') : Chs w B' A n L := by
  refine ⟨h.1, h.2.1, fun h0 => ?_⟩
  obtain ⟨b, off, rfl, hB, hx⟩ := h.2.2 h0
  exact ⟨b, off, rfl, by omega, hx⟩
theorem Chs.nil_ (w : World) (B : Nat) (A : Option Addr) : Chs w B A 0 [] := ⟨rfl, (fun x hx => by cases hx), fun h => absurd h (by omega)⟩

/-- a slice of the call's own, of children -/
def OwnC (w : World) (base : Nat) (A : Option Addr) (c : Nat) (L : List (Int × Int)) : Prop :=
  w.ownsRow base 47 2 (.slice A L.length c) L.length (chCells L) ∧ FitC L
theorem OwnC.nil_ (w : World) (base : Nat) : OwnC w base none 0 [] := ⟨w.ownsRow_nil base _ 2, fun x hx => by cases hx⟩
theorem OwnC.chs {w : World} {base : Nat} {A : Option Addr} {c : Nat} {L : List (Int × Int)} (h : OwnC w base A c L) : Chs w w.heap.size A L.length L := by
  refine ⟨rfl, h.2, fun h0 => ?_⟩
  have hr := h.1
  rcases hr.2 with ⟨_, h1⟩ | ⟨g, cap, cur, hv, _, hg, _⟩
  · omega
  have hA : A = some ⟨g, 0, none⟩ := by injection hv
  subst hA
  refine ⟨g, 0, rfl, (hr.lt g rfl).2, fun k x hx => ?_⟩
  have hk := (List.getElem?_eq_some_iff.1 hx).1
  have hc := chCells_at hx
  rw [Nat.zero_add]
  exact ⟨(hr.cellAt (k * 2) (by omega)).trans hc.1, (hr.cellAt (k * 2 + 1) (by omega)).trans hc.2⟩
theorem OwnC.below {w w' : World} {base B : Nat} {A : Option Addr} {c : Nat} {L : List (Int × Int)} (h : OwnC w base A c L) (hb : Below B w w') (hB : w.heap.size ≤ B) : OwnC w' base A c L :=
  ⟨h.1.kept ⟨hb.os, hb.tape, hb.output, hb.size, fun i hi _ => hb.block i (by omega)⟩ (row := none) (by cases hh : (Value.slice A L.length c).ownBlock with | none => exact .inl rfl | some k => exact .inr (by simp)), h.2⟩
theorem OwnC.mono {w : World} {base base' : Nat} {A : Option Addr} {c : Nat} {L : List (Int × Int)} (h : OwnC w base A c L) (hb : base' ≤ base) : OwnC w base' A c L := by
  refine ⟨⟨h.1.1, ?_⟩, h.2⟩
  rcases h.1.2 with hh | ⟨g, cap, cur, h1, h2, h3⟩
  · exact .inl hh
  · exact .inr ⟨g, cap, cur, h1, by omega, h3⟩
theorem OwnC.made (w : World) (base N : Nat) (hb : base ≤ w.heap.size) (hN : N ≤ 1048576) : OwnC (w.alloc (.cells (madeCells #[.int .i64 0, .int .i64 0] (N * 2)) 47)) base (some ⟨w.heap.size, 0, none⟩) N [] :=
  ⟨World.ownsRow_made w _ N hb (by unfold maxLen; omega) (by rw [size_madeCells]), fun x hx => by cases hx⟩
theorem run_makeKids (N : Nat) (hN : N ≤ 1048576) (w : World) :
    (Instr.makeSlice 30 (.int .i64 0) (.int .i64 (N : Int))).run Try.prog w = .ok (.slice (some ⟨w.heap.size, 0, none⟩) 0 N) (w.alloc (.cells (madeCells #[.int .i64 0, .int .i64 0] (N * 2)) 47)) := by
  obtain ⟨i0, hi0, hz0, hz1, hz2⟩ := info_parts infoChild
  have hr := run_make (P := Try.prog) w 30 47 i0 _ Try.underlying30 hi0 hz0 .i64 .i64 0 N (by omega) (by omega) (by rw [hz2]; omega) (by omega)
  simp only [Int.toNat_natCast, hz1] at hr
  exact hr

/-- one more -/
theorem wpList_appendChild {ops : Array Oper} {rest : List Oper} {o : Oper} {a : Act} {w : World} {Q : Exit → Act → World → Prop}
    (hg : o.guard = none) (s x : Operand) (hop : o.op = Op.call { callee := Callee.builtin Builtin.append, args := #[s, x], argTypes := #[30, 30] })
    (base : Nat) (A : Option Addr) (c p r : Nat) (y z : Int) (L : List (Int × Int)) (hs : a.eval s = .slice A p c) (hx : a.eval x = .slice (some ⟨w.heap.size, 0, none⟩) 1 1)
    (ho : OwnC w base A c L) (hy : (-9223372036854775808 ≤ y ∧ y ≤ 9223372036854775807) ∧ (-9223372036854775808 ≤ z ∧ z ≤ 9223372036854775807)) (hp : L.length = p) (hr : p + 1 = r) (hl : r ≤ 2000000) (hb : base ≤ w.heap.size)
    (hK : ∀ A' c' w', OwnC w' base A' c' (L ++ [(y, z)]) → Below base w w' → wpList Try.prog ops Q rest (a.put o.dst (.slice A' r c')) w') :
    wpList Try.prog ops Q (o :: rest) a (w.alloc (.cells #[.int .i64 y, .int .i64 z] 47)) := by
  obtain ⟨i, hi, hz, h1, h2⟩ := info_parts infoChild
  subst hp
  subst hr
  refine wpList_append_own _ hg s x 30 hop base 47 i (.agg #[.int .i64 0, .int .i64 0]) 2 16 Try.underlying30 hi hz h1 h2 (by rfl) (by decide) _ L.length (chCells L) hs (ho.1.alloc _) ⟨w.heap.size, 0, none⟩ 1 1 [.int .i64 y, .int .i64 z] hx rfl ?_ (by simp [Value.oneCell']) (by unfold maxLen; omega) (by omega) (by simp; omega) ?_
  · intro j u hj
    match j, hj with
    | 0, hj => simp at hj; subst hj; simp [Addr.add]
    | 1, hj => simp at hj; subst hj; simp [Addr.add]
    | j + 2, hj => simp at hj
  · intro v' w' hown hgr _
    obtain ⟨A', c', rfl⟩ : ∃ A' c', v' = .slice A' (L.length + 1) c' := by
      rcases hown.2 with ⟨rfl, h0⟩ | ⟨g, cap, cur, rfl, _⟩
      · omega
      · exact ⟨_, _, rfl⟩
    have hgr2 : w.grownBy w' (Value.slice A L.length c).ownBlock := (World.grownBy_alloc w _ _).trans hgr
    refine hK A' c' w' ⟨by rw [List.length_append, chCells_append]; exact hown, ?_⟩ ((Below.refl _ w).grown hgr2 hb (fun k hk => (ho.1.lt k hk).1))
    intro q hq
    rcases List.mem_append.1 hq with hq | hq
    · exact ho.2 q hq
    · simp at hq; subst hq; exact hy
end Go.Proofs.Ytanbhpdobpiafaa
