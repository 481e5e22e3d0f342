/- lexer.blanked: the text of tokens of one line. -/
import Derived.Test.YtgkngimeokhhgaaGreatDoorG15
import Derived.Shelf.Lay
import Derived.Shelf.Strings.Builder1
import Derived.Shelf.Strings.Builder2
import Derived.Shelf.Strings.OnBuilder
import Derived.Test.YtgkngimeokhhgaaGreatDoorProg
import Derived.Laws.OwnMore
import Derived.Deep.AppendLies
import Derived.Deep.RegionLaw
import Derived.Deep.QuietTactic
import Derived.BigQuiet
import Derived.Deep.DeepCutAuto
import Derived.Test.YtgkngimeokhhgaaGreatDoorG3
import Derived.Test.YtgkngimeokhhgaaGreatDoorG1
import Derived.WalkLawsBesides
import Derived.Test.YtgkngimeokhhgaaGreatDoorG2
import Derived.Test.YtgkngimeokhhgaaGreatDoorG4
import Derived.Laws.StructEq
namespace Go.Proofs.YtgkngimeokhhgaaGreatDoor
open Go.RowKit

/-- a slice of the call's own, of texts -/
def OwnSt (w : World) (base : Nat) (A : Option Addr) (c : Nat) (ss : List ByteArray) : Prop := w.ownsRow base 9 1 (.slice A ss.length c) ss.length (ss.map Value.string)
section
variable {w w' : World} {base B c : Nat} {A : Option Addr} {ss : List ByteArray}
theorem OwnSt.nil_ (w : World) (base : Nat) : OwnSt w base none 0 [] := w.ownsRow_nil base _ 1
theorem OwnSt.below (h : OwnSt w base A c ss) (hb : Below B w w') (hB : w.heap.size ≤ B) : OwnSt w' base A c ss :=
  World.ownsRow.kept h ⟨hb.os, hb.tape, hb.output, hb.size, fun i hi _ => hb.block i (by omega)⟩ (row := none) (by cases hh : (Value.slice A ss.length c).ownBlock with | none => exact .inl rfl | some k => exact .inr (by simp))
theorem OwnSt.alloc (h : OwnSt w base A c ss) (o : Obj) : OwnSt (w.alloc o) base A c ss := World.ownsRow.alloc h o
theorem OwnSt.row {p : Nat} (h : OwnSt w base A c ss) : ∀ g, (Value.slice A p c).ownBlock = some g → base ≤ g := by
  intro g e
  rcases h.2 with ⟨h1, _⟩ | ⟨g', cap, cur, h1, h2, _⟩
  · injection h1 with h1; rw [h1] at e; cases e
  · injection h1 with h1
    rw [h1] at e
    simp only [Value.ownBlock, Option.some.injEq] at e
    omega
theorem OwnSt.cells (h : OwnSt w base A c ss) (h0 : 0 < ss.length) : ∃ g, A = some ⟨g, 0, none⟩ ∧ g < w.heap.size ∧ ss.length ≤ c ∧ ∀ (j : Nat) x, ss[j]? = some x → w.cell? ⟨g, 0 + j, none⟩ = some (.string x) := by
  rcases h.2 with ⟨_, h1⟩ | ⟨g, cap, cur, hv, hb, hg, hnc, _, _, hr⟩
  · omega
  · injection hv with hA _ hc
    subst hA
    subst hc
    refine ⟨g, rfl, (Array.getElem?_eq_some_iff.1 hg).1, hnc, fun j x hx => ?_⟩
    have hj := (List.getElem?_eq_some_iff.1 hx).1
    rw [Nat.zero_add, cell_of_row _ _ _ _ _ _ hg]
    have h2 := congrArg (fun l => l[j]?) hr
    simp only [List.getElem?_take, List.getElem?_map, hx, Option.map_some] at h2
    rw [if_pos (by omega)] at h2
    simpa using h2
end
end Go.Proofs.YtgkngimeokhhgaaGreatDoor
/- Lists of tokens of the call's own, in a slice of the call's own; no two share a block. -/
namespace Go.Proofs.YtgkngimeokhhgaaGreatDoor
open Go.RowKit

structure RowK where
  A : Option Addr
  c : Nat
  L : List Tk
def RowK.hdr (r : RowK) : Value := .slice r.A r.L.length r.c
structure RowsK (w : World) (base : Nat) (H : Option Addr) (ch : Nat) (rs : List RowK) : Prop where
  rows : w.ownsRow base 59 1 (.slice H rs.length ch) rs.length (rs.map RowK.hdr)
  ins : ∀ r ∈ rs, OwnT w base r.A r.c r.L
  apart : rs.Pairwise fun r s => ∀ g, r.A = some ⟨g, 0, none⟩ → s.A ≠ some ⟨g, 0, none⟩
set_option maxRecDepth 100000 in
theorem infoTkRow : (Tryz.prog.info? 59).map (fun i => (i.zero, i.size, i.bytes)) = some (some (.slice none 0 0), 1, 24) := by kernel_rfl
section
variable {w w' w4 : World} {base ch : Nat} {H : Option Addr} {rs : List RowK}
theorem RowsK.nil_ (w : World) (base : Nat) : RowsK w base none 0 [] := ⟨w.ownsRow_nil base _ 1, fun s hs => (by cases hs), List.Pairwise.nil⟩
theorem RowsK.below {B : Nat} (h : RowsK w base H ch rs) (hb : Below B w w') (hB : w.heap.size ≤ B) : RowsK w' base H ch rs :=
  ⟨World.ownsRow.kept h.rows ⟨hb.os, hb.tape, hb.output, hb.size, fun i hi _ => hb.block i (by omega)⟩ (row := none) (by cases hh : (Value.slice H rs.length ch).ownBlock with | none => exact .inl rfl | some k => exact .inr (by simp)), fun s hs => (h.ins s hs).below hb hB, h.apart⟩
theorem RowsK.alloc (h : RowsK w base H ch rs) (o : Obj) : RowsK (w.alloc o) base H ch rs := ⟨World.ownsRow.alloc h.rows o, fun s hs => (h.ins s hs).alloc o, h.apart⟩
theorem RowsK.heap (h : RowsK w base H ch rs) : H = none ∨ ∃ g cur, H = some ⟨g, 0, none⟩ ∧ base ≤ g ∧ w.heap[g]? = some (.cells cur 59 (0, 0)) := by
  rcases h.rows.2 with ⟨h1, _⟩ | ⟨g, cap, cur, h1, h2, h3, _⟩
  · injection h1 with h1; exact .inl h1
  · injection h1 with h1; exact .inr ⟨g, cur, h1, h2, h3⟩
/-- tokens stay over what is written to a slice of slices -/
theorem OwnT.past_rows {base' c' g : Nat} {A : Option Addr} {xs : List Tk} {cur : Array Value} (hO : OwnT w base' A c' xs) (hg : w.heap[g]? = some (.cells cur 59 (0, 0))) (hG : w.grownBy w' (some g)) : OwnT w' base' A c' xs := by
  rcases hO.heap with rfl | ⟨k, cur2, rfl, _, hk⟩
  · exact hO.same fun b e => by cases e
  · refine hO.same fun b e => ?_
    injection e with e; injection e with e
    subst e
    refine hG.block k (Array.getElem?_eq_some_iff.1 hk).1 fun e => ?_
    injection e with e
    subst e
    rw [hg] at hk
    injection hk with hk; injection hk with _ hk
    exact absurd hk (by decide)
/-- one list of tokens, that holds none -/
theorem RowsK.one (w : World) (base : Nat) (hb : base ≤ w.heap.size) : RowsK (w.alloc (.cells #[.slice none 0 0] 59)) base (some ⟨w.heap.size, 0, none⟩) 1 [⟨none, 0, []⟩] :=
  ⟨World.ownsRow_lit w _ 1 hb (by unfold maxLen; omega) rfl, fun s hs => by rw [List.mem_singleton.1 hs]; exact OwnT.nil_ _ _, List.pairwise_singleton _ _⟩
/-- the header of a list, where it stands -/
theorem RowsK.hdr_at {g k : Nat} {r : RowK} (h : RowsK w base (some ⟨g, 0, none⟩) ch rs) (hr : rs[k]? = some r) : w.cell? ⟨g, k, none⟩ = some r.hdr ∧ w.frozen? ⟨g, k, none⟩ = false := by
  have hk := (List.getElem?_eq_some_iff.1 hr).1
  exact ⟨(h.rows.cellAt k (by simpa using hk)).trans (by rw [List.getElem?_map, hr]; rfl), h.rows.frozenAt k⟩
theorem RowsK.some_ (h : RowsK w base H ch rs) (h0 : 0 < rs.length) : ∃ g, H = some ⟨g, 0, none⟩ ∧ base ≤ g ∧ g < w.heap.size := by
  obtain ⟨g, cap, hv, h1, h2⟩ := h.rows.form h0
  injection hv with hv
  exact ⟨g, hv, h1, h2⟩
/-- a list more, that holds none -/
theorem wpList_appendNew {ops : Array Oper} {rest : List Oper} {o : Oper} {a : Act} {Q : Exit → Act → World → Prop}
    (hg : o.guard = none) (s x : Operand) (hop : o.op = Op.call { callee := Callee.builtin Builtin.append, args := #[s, x], argTypes := #[62, 62] })
    (base : Nat) (H : Option Addr) (ch p r g : Nat) (rs : List RowK) (hgz : w.heap.size = g) (hs : a.eval s = .slice H p ch) (hx : a.eval x = .slice (some ⟨g, 0, none⟩) 1 1)
    (ho : RowsK w base H ch rs) (hp : rs.length = p) (hr : p + 1 = r) (hl : r ≤ 1000000) (hb : base ≤ w.heap.size)
    (hK : ∀ g' c' w', RowsK w' base (some ⟨g', 0, none⟩) c' (rs ++ [⟨none, 0, []⟩]) → (∀ B w0, B ≤ base → Below B w0 w → Below B w0 w') → wpList Tryz.prog ops Q rest (a.put o.dst (.slice (some ⟨g', 0, none⟩) r c')) w') :
    wpList Tryz.prog ops Q (o :: rest) a (w.alloc (.cells #[.slice none 0 0] 59)) := by
  obtain ⟨i, hi, hz, h1, h2⟩ := info_parts infoTkRow
  subst hp
  subst hr
  subst hgz
  refine wpList_append_lies _ hg s x 62 hop base 59 i (.slice none 0 0) 1 24 Tryz.underlying62 hi hz h1 h2 (by rfl) (by decide) _ rs.length (rs.map RowK.hdr) hs (World.ownsRow.alloc ho.rows _) ⟨w.heap.size, 0, none⟩ 1 1 [.slice none 0 0] hx rfl ?_ (by simp [Value.oneCell']) (by decide) (by unfold maxLen; omega) (by omega) (by simp; omega) _ rfl ?_
  · intro j u hj
    match j, hj with
    | 0, hj => simp at hj; subst hj; simp [Addr.add]
    | j + 1, hj => simp at hj
  · intro g cap w' hown hgr _ _
    have hgr2 := (World.grownBy_alloc w _ _).trans hgr
    refine hK g cap w' ⟨?_, fun s hs => ?_, ?_⟩ fun B w0 hB hb0 => ?_
    · rw [List.length_append, List.map_append]
      exact hown
    · rcases List.mem_append.1 hs with hs | hs
      · have hO := ho.ins s hs
        rcases ho.heap with rfl | ⟨k, cur, rfl, _, hk⟩
        · exact hO.same fun b e => hgr2.block b ((show OwnT w base (some ⟨b, 0, none⟩) s.c s.L from e ▸ hO).lt).2 (by intro e; cases e)
        · exact hO.past_rows hk hgr2
      · rw [List.mem_singleton.1 hs]; exact OwnT.nil_ _ _
    · rw [List.pairwise_append]
      refine ⟨ho.apart, List.pairwise_singleton _ _, fun r _ s hs g hg => ?_⟩
      rw [List.mem_singleton.1 hs]
      intro e; cases e
    · refine hb0.grown hgr2 (Nat.le_trans hB hb) fun k hk => ?_
      rcases ho.heap with rfl | ⟨k', cur, rfl, h, _⟩
      · cases hk
      · simp only [Value.ownBlock, Option.some.injEq] at hk
        omega
/-- the last list has a token more -/
theorem RowsK.last {r : RowK} {t : Tk} {gH g cap : Nat} (h : RowsK w base (some ⟨gH, 0, none⟩) ch (rs ++ [r])) (hO : OwnT w4 base (some ⟨g, 0, none⟩) cap (r.L ++ [t])) (hG : w.grownBy w4 (Value.slice r.A r.L.length r.c).ownBlock) (hl : (Value.slice r.A r.L.length r.c).ownBlock = some g ∨ w.heap.size ≤ g) :
    RowsK (w4.setCell ⟨gH, rs.length, none⟩ (.slice (some ⟨g, 0, none⟩) (r.L.length + 1) cap)) base (some ⟨gH, 0, none⟩) ch (rs ++ [⟨some ⟨g, 0, none⟩, cap, r.L ++ [t]⟩]) ∧ w4.cell? ⟨gH, rs.length, none⟩ = some r.hdr ∧ w4.frozen? ⟨gH, rs.length, none⟩ = false ∧ (∀ B w0, B ≤ base → Below B w0 w → Below B w0 (w4.setCell ⟨gH, rs.length, none⟩ (.slice (some ⟨g, 0, none⟩) (r.L.length + 1) cap))) := by
  have hrO := h.ins r (by simp)
  obtain ⟨gH', curH, eH, hbH, hH⟩ : ∃ g cur, (some ⟨gH, 0, none⟩ : Option Addr) = some ⟨g, 0, none⟩ ∧ base ≤ g ∧ w.heap[g]? = some (.cells cur 59 (0, 0)) := by
    rcases h.heap with h1 | h1
    · cases h1
    · exact h1
  injection eH with eH; injection eH with eH
  subst eH
  have hne : some gH ≠ (Value.slice r.A r.L.length r.c).ownBlock := by
    rcases hrO.heap with h1 | ⟨k, cur, h1, _, hk⟩
    · rw [h1]; intro e; cases e
    · rw [h1]
      intro e
      simp only [Value.ownBlock, Option.some.injEq] at e
      subst e
      rw [hH] at hk
      injection hk with hk; injection hk with _ hk
      exact absurd hk (by decide)
  have hltH := (Array.getElem?_eq_some_iff.1 hH).1
  have hH4 : w4.heap[gH]? = some (.cells curH 59 (0, 0)) := (hG.block gH hltH hne).trans hH
  have hrows4 : w4.ownsRow base 59 1 (.slice (some ⟨gH, 0, none⟩) (rs ++ [r]).length ch) (rs ++ [r]).length ((rs ++ [r]).map RowK.hdr) :=
    World.ownsRow.kept h.rows hG (.inr (by simpa [Value.ownBlock] using hne))
  obtain ⟨hst, hgs⟩ := hrows4.stored rs.length (.slice (some ⟨g, 0, none⟩) (r.L.length + 1) cap)
  refine ⟨⟨?_, fun s hs => ?_, ?_⟩, ?_, hrows4.frozenAt _, fun B w0 hB hb0 => ?_⟩
  · have e1 : (rs ++ [(⟨some ⟨g, 0, none⟩, cap, r.L ++ [t]⟩ : RowK)]).length = (rs ++ [r]).length := by simp
    have e2 : (rs ++ [(⟨some ⟨g, 0, none⟩, cap, r.L ++ [t]⟩ : RowK)]).map RowK.hdr = ((rs ++ [r]).map RowK.hdr).set rs.length (.slice (some ⟨g, 0, none⟩) (r.L.length + 1) cap) := by
      rw [List.map_append, List.map_append, List.set_append_right _ _ (by simp)]
      simp [RowK.hdr]
    rw [e1, e2]
    exact hst
  · rcases List.mem_append.1 hs with hs | hs
    · have hsO := h.ins s (by simp [hs])
      have hap : ∀ g', s.A = some ⟨g', 0, none⟩ → r.A ≠ some ⟨g', 0, none⟩ := (List.pairwise_append.1 h.apart).2.2 s hs r (by simp)
      have h4 : OwnT w4 base s.A s.c s.L := hsO.same fun b e => hG.block b ((show OwnT w base (some ⟨b, 0, none⟩) s.c s.L from e ▸ hsO).lt).2 (by
        rcases hrO.heap with h1 | ⟨k, cur, h1, _, _⟩
        · rw [h1]; intro e; cases e
        · rw [h1]
          intro e2
          simp only [Value.ownBlock, Option.some.injEq] at e2
          subst e2
          exact hap b e h1)
      exact h4.past_rows hH4 hgs
    · rw [List.mem_singleton.1 hs]
      exact hO.past_rows hH4 hgs
  · have hp := List.pairwise_append.1 h.apart
    rw [List.pairwise_append]
    refine ⟨hp.1, List.pairwise_singleton _ _, fun s hs s' hs' g' hg' => ?_⟩
    rw [List.mem_singleton.1 hs']
    intro e
    simp only [Option.some.injEq, Addr.mk.injEq, and_true] at e
    subst e
    have hsO := h.ins s (by simp [hs])
    have hlt := (show OwnT w base (some ⟨g, 0, none⟩) s.c s.L from hg' ▸ hsO).lt
    rcases hl with hl | hl
    · rcases hrO.heap with h1 | ⟨k, cur, h1, _, _⟩
      · rw [h1] at hl; cases hl
      · rw [h1] at hl
        simp only [Value.ownBlock, Option.some.injEq] at hl
        subst hl
        exact hp.2.2 s hs r (by simp) k hg' h1
    · omega
  · exact (hrows4.cellAt rs.length (by simp)).trans (by simp)
  · have hb4 : Below B w0 w4 := hb0.grown hG (by omega) fun k hk => by
      rcases hrO.heap with h1 | ⟨k', cur, h1, hbk, _⟩
      · rw [h1] at hk; cases hk
      · rw [h1] at hk
        simp only [Value.ownBlock, Option.some.injEq] at hk
        omega
    exact hb4.setCell (by show B ≤ gH; omega) _
end
end Go.Proofs.YtgkngimeokhhgaaGreatDoor
/- Tokens cut into lines: plain mathematics; one token more inside a region. -/
namespace Go.Proofs.YtgkngimeokhhgaaGreatDoor
open Go.RowKit

def linesK (done : List (List Tk)) (cur : List Tk) : List Tk → List (List Tk)
  | [] => done ++ [cur]
  | t :: l => if t.k = 4 then linesK (done ++ [cur]) [] l else linesK done (cur ++ [t]) l
/-- tokens, cut at each end of a line -/
def linesL (l : List Tk) : List (List Tk) := if l = [] then [] else linesK [] [] l
theorem linesK_line {cur l : List Tk} {D : List (List Tk)} {t : Tk} (h : t.k = 4) : linesK D cur (t :: l) = linesK (D ++ [cur]) [] l := by rw [linesK, if_pos h]
theorem linesK_on {cur l : List Tk} {D : List (List Tk)} {t : Tk} (h : t.k ≠ 4) : linesK D cur (t :: l) = linesK D (cur ++ [t]) l := by rw [linesK, if_neg h]
theorem drop_cons {l : List Tk} {k : Nat} {x : Tk} (h : l[k]? = some x) : l.drop k = x :: l.drop (k + 1) := by
  obtain ⟨hk, e⟩ := List.getElem?_eq_some_iff.1 h
  rw [List.drop_eq_getElem_cons hk, e]
def LinesP (w : World) (R : List (List Tk)) (e : Ending) (w' : World) : Prop :=
  ∃ H n ch rs, e = .returned (.slice H n ch) ∧ rs.length = n ∧ rs.map (·.L) = R ∧ RowsK w' w.heap.size H ch rs ∧ Below w.heap.size w w'
theorem RowsK.drew {w : World} {base ch : Nat} {H : Option Addr} {rs : List RowK} (h : RowsK w base H ch rs) : RowsK w.drew base H ch rs := ⟨h.rows, h.ins, h.apart⟩
/-- a token more, inside a region -/
theorem step_appendTokL {ops : Array Oper} {o : Oper} {a : Act} {w : World} {K : Act → World → Prop} {Q : Exit → Act → World → Prop} {E : Prop}
    (hg : o.guard = none) (s x : Operand) (hop : o.op = Op.call { callee := Callee.builtin Builtin.append, args := #[s, x], argTypes := #[59, 59] })
    (base : Nat) (A : Option Addr) (c p r g H : Nat) (y : Tk) (L : List Tk) (hs : a.eval s = .slice A p c) (hx : a.eval x = .slice (some ⟨g, 0, none⟩) 1 1) (hb3 : ∃ fz, w.heap[g]? = some (.cells #[.int .i64 y.k, .string y.s, .int .i64 y.n] 77 fz))
    (ho : OwnT w base A c L) (hp : L.length = p) (hr : p + 1 = r) (hl : r ≤ 1000000) (hb : base ≤ w.heap.size) (hH : w.heap.size = H)
    (hK : ∀ g' c' w', OwnT w' base (some ⟨g', 0, none⟩) c' (L ++ [y]) → w.grownBy w' (Value.slice A p c).ownBlock → ((Value.slice A p c).ownBlock = some g' ∨ g' = H) → K (a.put o.dst (.slice (some ⟨g', 0, none⟩) r c')) w') :
    if Region.wanted o (yielded ops a.tmps) = true then Oper.wp Tryz.prog o a w K Q else E := by
  obtain ⟨i, hi, hz, h1, h2⟩ := info_parts infoTok
  obtain ⟨fz, hb3⟩ := hb3
  subst hp
  subst hr
  refine step_append_lies w hg s x 59 hop base 77 i (.agg #[.int .i64 0, .string ⟨#[]⟩, .int .i64 0]) 3 32 Tryz.underlying59 hi hz h1 h2 (by rfl) (by decide) (.slice A L.length c) L.length (cellsT L) hs ho ⟨g, 0, none⟩ 1 1 [.int .i64 y.k, .string y.s, .int .i64 y.n] hx rfl (World.news_of_block hb3) (by simp [Value.oneCell']) (by decide) (by unfold maxLen; omega) (by omega) hb H hH ?_
  intro g' cap w' hown hgr hlie _
  refine hK g' cap w' ?_ hgr hlie
  unfold OwnT
  rw [List.length_append, cellsT_append]
  exact hown
theorem size_allocE (w : World) (o : Obj) : (w.alloc o).heap.size = w.heap.size + 1 := Array.size_push _
theorem heap_allocT (w : World) (o : Obj) : (w.alloc o).heap[w.heap.size]? = some o := by
  show (w.heap.push _)[w.heap.size]? = _
  rw [Array.getElem?_push_size]
theorem cellPastT {w : World} {p : Addr} {v : Value} (h : w.cell? p = some v) (o : Obj) : (w.alloc o).cell? p = some v := by
  have hlt : p.block < w.heap.size := by
    rcases Nat.lt_or_ge p.block w.heap.size with h1 | h1
    · exact h1
    · have : w.heap[p.block]? = none := Array.getElem?_eq_none h1
      simp [World.cell?, this] at h
  exact (World.cell?_alloc_lt w o p hlt).trans h
theorem RowsK.lastP {w w4 : World} {base ch : Nat} {rs : List RowK} {rA : Option Addr} {rc p P : Nat} {rL : List Tk} {t : Tk} {gH g cap : Nat} (h : RowsK w base (some ⟨gH, 0, none⟩) ch (rs ++ [⟨rA, rc, rL⟩])) (hp : rL.length = p) (hP : rs.length = P) (hO : OwnT w4 base (some ⟨g, 0, none⟩) cap (rL ++ [t])) (hG : w.grownBy w4 (Value.slice rA p rc).ownBlock) (hl : (Value.slice rA p rc).ownBlock = some g ∨ g = w.heap.size) :
    RowsK (w4.setCell ⟨gH, P, none⟩ (.slice (some ⟨g, 0, none⟩) (p + 1) cap)) base (some ⟨gH, 0, none⟩) ch (rs ++ [⟨some ⟨g, 0, none⟩, cap, rL ++ [t]⟩]) ∧ w4.cell? ⟨gH, P, none⟩ = some (.slice rA p rc) ∧ w4.frozen? ⟨gH, P, none⟩ = false ∧ (∀ B w0, B ≤ base → Below B w0 w → Below B w0 (w4.setCell ⟨gH, P, none⟩ (.slice (some ⟨g, 0, none⟩) (p + 1) cap))) := by
  subst hp
  subst hP
  exact RowsK.last h hO hG (hl.imp id fun e => Nat.le_of_eq e.symm)
end Go.Proofs.YtgkngimeokhhgaaGreatDoor
/- lexer.Lines: tokens cut into lines. -/
namespace Go.Proofs.YtgkngimeokhhgaaGreatDoor
open Go.RowKit

set_option maxRecDepth 100000 in
set_option maxHeartbeats 8000000 in
theorem lines_any (A : Option Addr) (n c : Nat) (L : List Tk) (w : World) (h : Toks w w.heap.size A n L) (hn : n ≤ 100000) : Calls Tryz.prog 26 #[.slice A n c] w (LinesP w (linesL L)) := by
  by_cases h0 : n = 0
  · subst h0
    have hL : Hid (linesL L = []) := by
      unfold Hid linesL
      rw [if_pos (List.eq_nil_of_length_eq_zero h.1)]
    go_enter Tryz.func26, Tryz.ntmps26
    go_wp2
    go_ret
    exact ⟨none, 0, 0, [], rfl, rfl, by rw [hL.out]; rfl, RowsK.nil_ _ _, Below.refl _ _⟩
  · have h1 : ((n : Int) == 0) = false := by rw [beq_eq_false_iff_ne]; omega
    obtain ⟨R, HR⟩ : ∃ R, Hid (linesL L = R) := ⟨_, Lib.hid rfl⟩
    have HI0 : Hid (linesK [] [] (L.drop 0) = R) := by
      unfold Hid
      rw [← HR.out]
      unfold linesL
      rw [if_neg (fun e => h0 (by rw [← h.1, e]; rfl)), List.drop_zero]
    have HN := Lib.hid h.1
    rw [HR.out]
    clear h0 HR
    go_enter Tryz.func26, Tryz.ntmps26
    go_wp2
    go_loopw [3, 13] (fun v i wr => ∃ (k gH ch P : Nat) (rs : List RowK) (r : RowK), k ≤ n ∧ i = .int .i64 k ∧ v = .slice (some ⟨gH, 0, none⟩) (P + 1) ch ∧ Hid (rs.length = P) ∧ P ≤ k ∧ r.L.length ≤ k ∧ Hid (linesK (rs.map (·.L)) r.L (L.drop k) = R) ∧ Hid (RowsK wr w.heap.size (some ⟨gH, 0, none⟩) ch (rs ++ [r])) ∧ Hid (Below w.heap.size w wr)) (fun _ i _ => n - (intOf i).toNat)
    case atStart => exact ⟨0, w.heap.size, 1, 0, [], ⟨none, 0, []⟩, Nat.zero_le _, rfl, rfl, rfl, Nat.le_refl _, Nat.le_refl _, HI0, RowsK.one w _ (Nat.le_refl _), (Below.refl _ _).alloc (Nat.le_refl _) _⟩
    case round =>
      obtain ⟨k, gH, ch, P, rs, ⟨rA, rc, rL⟩, hk, rfl, rfl, HP, hPk, hrk, HC, HRW, HB⟩ := hrel
      dsimp only at hrk HC
      by_cases hlt : k < n
      · obtain ⟨b, off, x, rfl, hbl, HX, hc0, hc1, hc2, _⟩ := (h.on HB.out (Nat.le_refl _)).at_ hlt
        have hbw : w.heap.size ≤ wr.heap.size := HB.out.size
        have hdr := drop_cons HX.out
        obtain ⟨w1, hw1⟩ : ∃ w1, wr.alloc (.cells #[.int .i64 x.k, .string x.s, .int .i64 x.n] 77) = w1 := ⟨_, rfl⟩
        by_cases h4 : x.k = 4
        · have HC2 : Hid (linesK ((rs ++ [(⟨rA, rc, rL⟩ : RowK)]).map (·.L)) [] (L.drop (k + 1)) = R) := by
            unfold Hid
            rw [← HC.out, hdr, linesK_line h4, List.map_append]
            rfl
          have b4 : (x.k == 4) = true := by rw [beq_iff_eq]; exact h4
          have HW1 : Hid (RowsK (wr.alloc (.cells #[.int .i64 x.k, .string x.s, .int .i64 x.n] 77)) w.heap.size (some ⟨gH, 0, none⟩) ch (rs ++ [(⟨rA, rc, rL⟩ : RowK)])) := HRW.out.alloc _
          have HB1 : Hid (Below w.heap.size w (wr.alloc (.cells #[.int .i64 x.k, .string x.s, .int .i64 x.n] 77))) := HB.out.alloc hbw _
          have HP1 : Hid ((rs ++ [(⟨rA, rc, rL⟩ : RowK)]).length = P + 1) := Lib.hid (by rw [List.length_append, HP.out]; rfl)
          clear hw1 hdr h4 HC HI0
          go_wp2_with (at_builtin; refine wpList_appendNew rfl (.tmp 23) (.tmp 24) rfl w.heap.size (some ⟨gH, 0, none⟩) ch (P + 1) (P + 1 + 1) (wr.heap.size + 1) (rs ++ [(⟨rA, rc, rL⟩ : RowK)]) (size_allocE _ _) rfl rfl HW1.out HP1.out rfl (by omega) HB1.out.size ?_; intro g' c' w4 HR4 HB4)
          go_roundw
          case rel => exact ⟨k + 1, g', c', P + 1, rs ++ [(⟨rA, rc, rL⟩ : RowK)], ⟨none, 0, []⟩, by omega, by go_num, rfl, HP1, by omega, Nat.zero_le _, HC2, HR4, HB4 _ _ (Nat.le_refl _) HB1.out⟩
          case measure => simp [intOf]; omega
        · have HC2 : Hid (linesK (rs.map (·.L)) (rL ++ [x]) (L.drop (k + 1)) = R) := by
            unfold Hid
            rw [← HC.out, hdr, linesK_on h4]
          have b4 : (x.k == 4) = false := by rw [beq_eq_false_iff_ne]; exact h4
          obtain ⟨q0, q1, q2⟩ : w1.cell? ⟨wr.heap.size, 0, none⟩ = some (.int .i64 x.k) ∧ w1.cell? ⟨wr.heap.size, 1, none⟩ = some (.string x.s) ∧ w1.cell? ⟨wr.heap.size, 2, none⟩ = some (.int .i64 x.n) := by
            rw [← hw1]
            exact boxCells (box_new wr x)
          obtain ⟨p, hp⟩ : ∃ p, rL.length = p := ⟨_, rfl⟩
          rw [hp] at hrk
          have hbw1 : w.heap.size ≤ w1.heap.size := by rw [← hw1]; exact Nat.le_trans hbw (size_allocT _ _)
          have HR1 : RowsK w1 w.heap.size (some ⟨gH, 0, none⟩) ch (rs ++ [(⟨rA, rc, rL⟩ : RowK)]) := by rw [← hw1]; exact HRW.out.alloc _
          have HB1 : Hid (Below w.heap.size w w1) := by unfold Hid; rw [← hw1]; exact HB.out.alloc hbw _
          obtain ⟨hc, hf⟩ := HR1.hdr_at (k := P) (r := ⟨rA, rc, rL⟩) (by rw [← HP.out]; simp)
          simp only [RowK.hdr, hp] at hc
          have HRA : Hid (RowsK (w1.alloc (.cells #[.int .i64 x.k, .string x.s, .int .i64 x.n] 77)).drew w.heap.size (some ⟨gH, 0, none⟩) ch (rs ++ [(⟨rA, rc, rL⟩ : RowK)])) := (HR1.alloc _).drew
          have HOA : Hid (OwnT (w1.alloc (.cells #[.int .i64 x.k, .string x.s, .int .i64 x.n] 77)).drew w.heap.size rA rc rL) := HRA.out.ins ⟨rA, rc, rL⟩ (by simp)
          have HBX : Hid (∃ fz, (w1.alloc (.cells #[.int .i64 x.k, .string x.s, .int .i64 x.n] 77)).drew.heap[w1.heap.size]? = some (.cells #[.int .i64 x.k, .string x.s, .int .i64 x.n] 77 fz)) := ⟨_, heap_allocT w1 _⟩
          have HSZ : Hid ((w1.alloc (.cells #[.int .i64 x.k, .string x.s, .int .i64 x.n] 77)).drew.heap.size = w1.heap.size + 1) := size_allocE _ _
          have HZA : Hid (w.heap.size ≤ (w1.alloc (.cells #[.int .i64 x.k, .string x.s, .int .i64 x.n] 77)).drew.heap.size) := Nat.le_trans hbw1 (size_allocT _ _)
          have HBA : Hid (Below w.heap.size w (w1.alloc (.cells #[.int .i64 x.k, .string x.s, .int .i64 x.n] 77)).drew) := (HB1.out.alloc hbw1 _).drew
          have hc2 := fun o => cellPastT hc o
          have HpL := Lib.hid hp
          have hl1 : p + 1 ≤ 1000000 := by omega
          have hPP : (P : Int) < (P : Int) + 1 := by omega
          clear hdr h4 HC HI0 HR1 hp
          go_wp2_with fail
          go_region_law (refine step_appendTokL rfl (.tmp 31) (.tmp 33) rfl w.heap.size rA rc p (p + 1) w1.heap.size (w1.heap.size + 1) x rL rfl rfl HBX.out HOA.out HpL.out rfl hl1 HZA.out HSZ.out ?_; intro g4 c4 w4 HO4 HG4 HL4; have hL5 : (Value.slice rA p rc).ownBlock = some g4 ∨ g4 = (w1.alloc (.cells #[.int .i64 x.k, .string x.s, .int .i64 x.n] 77)).drew.heap.size := (by rw [HSZ.out]; exact HL4); obtain ⟨key1, l4, m4, key2⟩ := RowsK.lastP HRA.out HpL.out HP.out HO4 HG4 hL5; have K1 := Lib.hid key1; have K2 := Lib.hid (key2 _ _ (Nat.le_refl _) HBA.out); clear key1 key2 hL5 HL4 HG4 HO4)
          all_goals (
            go_wp2_with fail
            go_roundw
            case rel => exact ⟨k + 1, gH, ch, P, rs, ⟨some ⟨g4, 0, none⟩, c4, rL ++ [x]⟩, by omega, by go_num, rfl, HP, by omega, by simp only [List.length_append, List.length_singleton]; rw [HpL.out]; omega, HC2, K1, K2⟩
            case measure => simp [intOf]; omega)
      · obtain rfl : n = k := by omega
        have HC2 : Hid ((rs ++ [(⟨rA, rc, rL⟩ : RowK)]).map (·.L) = R) := by
          unfold Hid
          rw [← HC.out, List.drop_of_length_le (by rw [HN.out]; omega), linesK, List.map_append]
          rfl
        clear hlt HC HI0
        go_wp2
        go_ret
        exact ⟨_, P + 1, ch, rs ++ [(⟨rA, rc, rL⟩ : RowK)], rfl, by rw [List.length_append, HP.out]; rfl, HC2.out, HRW.out, HB.out⟩
end Go.Proofs.YtgkngimeokhhgaaGreatDoor
/- Lists of tokens that read as such; a list of them behind another one; few. -/
namespace Go.Proofs.YtgkngimeokhhgaaGreatDoor
open Go.RowKit

/-- the header (H, n) leads to lists of tokens, all in blocks below B -/
structure RowsR (w : World) (B : Nat) (H : Option Addr) (n : Nat) (rs : List RowK) : Prop where
  len : rs.length = n
  at_ : 0 < n → ∃ b, H = some ⟨b, 0, none⟩ ∧ b < B ∧ ∀ (k : Nat) (r : RowK), rs[k]? = some r → w.cell? ⟨b, k, none⟩ = some r.hdr
  toks : ∀ r ∈ rs, Toks w B r.A r.L.length r.L
section
variable {w w' : World} {B B2 base ch n : Nat} {H : Option Addr} {rs : List RowK}
theorem RowsR.keep (h : RowsR w B H n rs) (hk : ∀ p : Addr, p.block < B → w'.cell? p = w.cell? p) : RowsR w' B H n rs :=
  ⟨h.len, fun h0 => by
    obtain ⟨b, e, hb, hc⟩ := h.at_ h0
    exact ⟨b, e, hb, fun k r hr => (hk _ hb).trans (hc k r hr)⟩, fun r hr => (h.toks r hr).keep hk⟩
theorem RowsR.on (h : RowsR w B H n rs) (hb : Below B2 w w') (hB : B ≤ B2) : RowsR w' B H n rs := h.keep fun _ hp => hb.cell (Nat.lt_of_lt_of_le hp hB)
theorem RowsR.more (h : RowsR w B H n rs) (hB : B ≤ B2) : RowsR w B2 H n rs :=
  ⟨h.len, fun h0 => by
    obtain ⟨b, e, hb, hc⟩ := h.at_ h0
    exact ⟨b, e, by omega, hc⟩, fun r hr => (h.toks r hr).more hB⟩
theorem RowsR.row (h : RowsR w B H n rs) {k : Nat} (hk : k < n) : ∃ b r, H = some ⟨b, 0, none⟩ ∧ b < B ∧ Hid (rs[k]? = some r) ∧ w.cell? ⟨b, k, none⟩ = some r.hdr ∧ Toks w B r.A r.L.length r.L := by
  obtain ⟨b, e, hb, hc⟩ := h.at_ (by omega)
  have hk' : k < rs.length := by rw [h.len]; exact hk
  exact ⟨b, rs[k], e, hb, List.getElem?_eq_getElem hk', hc k _ (List.getElem?_eq_getElem hk'), h.toks _ (List.getElem_mem hk')⟩
theorem RowsK.reads (h : RowsK w base H ch rs) (hn : rs.length = n) (ho : ∀ r ∈ rs, ∀ t ∈ r.L, t.ok) : RowsR w w.heap.size H n rs := by
  subst hn
  refine ⟨rfl, fun h0 => ?_, fun r hr => (h.ins r hr).toks (ho r hr)⟩
  obtain ⟨g, rfl, _, hlt⟩ := h.some_ h0
  exact ⟨g, rfl, hlt, fun k r hr => (h.hdr_at hr).1⟩
end
/-- headers of the call's own -/
def OwnHd (w : World) (base : Nat) (H : Option Addr) (ch : Nat) (hs : List RowK) : Prop := w.ownsRow base 59 1 (.slice H hs.length ch) hs.length (hs.map RowK.hdr)
theorem OwnHd.nil_ (w : World) (base : Nat) : OwnHd w base none 0 [] := w.ownsRow_nil base _ 1
theorem OwnHd.reads {w : World} {base ch n : Nat} {H : Option Addr} {hs : List RowK} (h : OwnHd w base H ch hs) (hn : hs.length = n) (ht : ∀ r ∈ hs, Toks w w.heap.size r.A r.L.length r.L) : RowsR w w.heap.size H n hs := by
  subst hn
  refine ⟨rfl, fun h0 => ?_, ht⟩
  obtain ⟨g, cap, hv, _, hlt⟩ := World.ownsRow.form h h0
  injection hv with hv
  subst hv
  refine ⟨g, rfl, hlt, fun k r hr => ?_⟩
  have hk := (List.getElem?_eq_some_iff.1 hr).1
  exact (World.ownsRow.cellAt h k (by simpa using hk)).trans (by rw [List.getElem?_map, hr]; rfl)
theorem OwnHd.row {w : World} {base ch p : Nat} {H : Option Addr} {hs : List RowK} (h : OwnHd w base H ch hs) : ∀ g, (Value.slice H p ch).ownBlock = some g → base ≤ g := by
  intro g e
  rcases h.2 with ⟨h1, _⟩ | ⟨g', cap, cur, h1, h2, _⟩
  · injection h1 with h1; rw [h1] at e; cases e
  · injection h1 with h1
    rw [h1] at e
    simp only [Value.ownBlock, Option.some.injEq] at e
    omega
end Go.Proofs.YtgkngimeokhhgaaGreatDoor
/- purflelaw08.LexerRows returns true at every two lists of tokens. -/
namespace Go.Proofs.YtgkngimeokhhgaaGreatDoor
open Go.RowKit

theorem linesK_all : ∀ (l cur : List Tk) (D : List (List Tk)), linesK D cur l = D ++ linesK [] cur l
  | [], cur, D => by simp [linesK]
  | t :: l, cur, D => by
    by_cases h : t.k = 4
    · rw [linesK_line h, linesK_line h, linesK_all l [] (D ++ [cur]), linesK_all l [] ([] ++ [cur])]
      simp
    · rw [linesK_on h, linesK_on h, linesK_all l (cur ++ [t]) D]
theorem linesK_cat {t : Tk} (ht : t.k = 4) (m : List Tk) : ∀ (l cur : List Tk), linesK [] cur (l ++ t :: m) = linesK [] cur l ++ linesK [] [] m
  | [], cur => by
    rw [List.nil_append, linesK_line ht, linesK_all]
    rfl
  | x :: l, cur => by
    rw [List.cons_append]
    by_cases h : x.k = 4
    · rw [linesK_line h, linesK_line h, linesK_all _ [] ([] ++ [cur]), linesK_all l [] ([] ++ [cur]), linesK_cat ht m l []]
      simp
    · rw [linesK_on h, linesK_on h, linesK_cat ht m l (cur ++ [x])]
end Go.Proofs.YtgkngimeokhhgaaGreatDoor
/- purflelaw08.LexerRows, where tokens are few. -/
namespace Go.Proofs.YtgkngimeokhhgaaGreatDoor
open Go.RowKit

theorem RowsR.two {w : World} {B n m : Nat} {H H2 : Option Addr} {rs ss : List RowK} (h : RowsR w B H n rs) (h2 : RowsR w B H2 m ss) : ∀ r ∈ rs ++ ss, Toks w B r.A r.L.length r.L := fun r hr => by
  rcases List.mem_append.1 hr with hr | hr
  · exact h.toks r hr
  · exact h2.toks r hr
end Go.Proofs.YtgkngimeokhhgaaGreatDoor
/- What is joined is cut as it was: plain mathematics. -/
namespace Go.Proofs.YtgkngimeokhhgaaGreatDoor
open Go.RowKit

/-- no line is empty -/
def fullL (cur l : List Tk) : Prop := ∀ R ∈ linesK [] cur l, R ≠ []
/-- what is cut may be joined -/
def goodL (K : List Tk) : Prop := K = [] ∨ fullL [] K
theorem full_snoc {t : Tk} (h4 : t.k ≠ 4) : ∀ (l cur : List Tk), fullL cur l → fullL cur (l ++ [t])
  | [], cur, _ => by
    unfold fullL
    rw [List.nil_append, linesK_on h4, linesK]
    simp
  | x :: l, cur, h => by
    unfold fullL at h ⊢
    rw [List.cons_append]
    by_cases hx : x.k = 4
    · rw [linesK_line hx, linesK_all] at h ⊢
      have ih := full_snoc h4 l [] (fun R hR => h R (by simp [hR]))
      intro R hR
      simp only [List.nil_append, List.singleton_append, List.mem_cons] at hR
      rcases hR with rfl | hR
      · exact h R (by simp)
      · exact ih R hR
    · rw [linesK_on hx] at h ⊢
      exact full_snoc h4 l (cur ++ [x]) h
theorem good_line {t : Tk} (h4 : t.k ≠ 4) {K : List Tk} (h : goodL K) (e : Bool) : goodL (withLine e K t) := by
  have one : fullL [] [t] := by
    unfold fullL
    rw [linesK_on h4, linesK]
    simp
  unfold withLine
  right
  split
  · rename_i he
    rcases h with h | h
    · exact absurd h he.2
    · unfold fullL
      rw [List.append_assoc, List.singleton_append, linesK_cat rfl]
      intro R hR
      rcases List.mem_append.1 hR with hR | hR
      · exact h R hR
      · exact one R hR
  · rcases h with rfl | h
    · exact one
    · exact full_snoc h4 K [] h
theorem tok_k {s : ByteArray} {t : Tk} (h0 : s.size ≠ 0) (h : tokF s = some t) : t.k ≠ 4 := by
  unfold tokF at h
  rw [if_neg h0] at h
  repeat' split at h
  all_goals first | (injection h with h; rw [← h]; simp) | cases h
def totT (L : List Tk) : Nat := (L.map (·.s.size)).sum
theorem cutE_good (n : Nat) : ∀ (r : List UInt8), r.length ≤ n → ∀ (e : Bool) (L M : List Tk), goodL L → cutE r e L = .ok M → goodL M ∧ totT M ≤ totT L + r.length := by
  induction n with
  | zero =>
    intro r hr e L M hL h
    obtain rfl : r = [] := List.eq_nil_of_length_eq_zero (by omega)
    rw [cutE_nil] at h; injection h with h; subst h; exact ⟨hL, by omega⟩
  | succ n ih =>
    intro r hr e L M hL h
    by_cases h0 : r = []
    · subst h0; rw [cutE_nil] at h; injection h with h; subst h; exact ⟨hL, by omega⟩
    · have hm := mF_le h0
      have hm1 := mF_pos r
      cases hk : tokF (ofL (r.take (mF r))) with
      | none => rw [cutE_bad h0 hk] at h; cases h
      | some t =>
        rw [cutE_next h0 hk] at h
        have hts := tokF_text (ofL_ne h0) hk
        obtain ⟨h1, h2⟩ := ih _ (by rw [List.length_drop, List.length_drop]; omega) _ _ _ (good_line (tok_k (ofL_ne h0) hk) hL e) h
        refine ⟨h1, Nat.le_trans h2 ?_⟩
        have : totT (withLine e L t) = totT L + mF r := by
          have hsz : t.s.size = mF r := by rw [hts, ofL_size, List.length_take]; omega
          unfold withLine totT
          split
          · have hz : lineTk.s.size = 0 := rfl
            simp [hsz, hz]
          · simp [hsz]
        rw [this, List.length_drop, List.length_drop]
        omega
end Go.Proofs.YtgkngimeokhhgaaGreatDoor
/- Code's text, and what it is read as: plain mathematics. Nothing is claimed of the program here. -/
namespace Go.Proofs.YtgkngimeokhhgaaGreatDoor
open Go.RowKit

/-- the token of a number that is not below 0 -/
def tokN (v : Int) : Tk := ⟨2, ofL (Lib.decDigits v.toNat), v⟩
def codeW : List UInt8 := [99, 111, 100, 101]
/-- the number behind a letter -/
def behindF (t : Tk) (c : UInt8) : Int × Bool := if t.k = 1 ∧ (bl t.s).head? = some c ∧ isNumL ((bl t.s).drop 1) = true then (numL ((bl t.s).drop 1), true) else (0, false)
/-- the op of a word; below 0: none -/
def opW (l : List UInt8) : Int := match wordsJ.findIdx? (· == l) with | some i => (i : Int) | none => -1
/-- what stands behind a word, as numbers -/
def insG : List UInt8 → List Tk → Int → Option (List Int × Int)
  | [], l, N => if l = [] then some ([], N) else none
  | _ :: _, [], _ => none
  | k :: ks, t :: r, N =>
    if k = 119 ∨ k = 114 then (if (behindF t 114).2 then (insG ks r N).map (fun p => ((behindF t 114).1 :: p.1, p.2)) else none)
    else if k = 97 then (if (behindF t 97).2 then (insG ks r N).map (fun p => ((behindF t 97).1 :: p.1, p.2)) else none)
    else if k = 112 then (if t.k = 2 then (insG ks r N).map (fun p => (t.n :: p.1, p.2)) else none)
    else if t.k = 3 ∧ bl t.s = [45] ∧ r.length = 1 then
      (if (r.getD 0 ⟨0, ⟨#[]⟩, 0⟩).k = 2 ∧ (r.getD 0 ⟨0, ⟨#[]⟩, 0⟩).n ≠ 0 then (insG ks (r.drop 1) (-(r.getD 0 ⟨0, ⟨#[]⟩, 0⟩).n)).map (fun p => (0 :: p.1, p.2)) else none)
    else if t.k = 2 then (insG ks r t.n).map (fun p => (0 :: p.1, p.2)) else none
/-- the instruction of a line's tokens -/
def insF : List Tk → Option Ji
  | [] => none
  | t :: r => if t.k = 1 ∧ 0 ≤ opW (bl t.s) then (insG (kJ (opW (bl t.s))) r 0).map fun p => ⟨opW (bl t.s), p.1.getD 0 0, p.1.getD 1 0, p.1.getD 2 0, p.2⟩ else none
end Go.Proofs.YtgkngimeokhhgaaGreatDoor
/- The document's token: what lexer.token gives of a text that has bytes. -/
namespace Go.Proofs.YtgkngimeokhhgaaGreatDoor
open Go.RowKit

/-- no text is a word and a number -/
theorem num_no_word {l : List UInt8} (h : isNumL l = true) : isWordL l = false := by
  unfold isNumL at h
  rw [decide_eq_true_iff] at h
  unfold isWordL
  rw [decide_eq_false_iff_not]
  rintro ⟨_, ⟨c, e1, e2⟩, _⟩
  obtain ⟨d, d1, d2⟩ := h.2.2.2 0 h.1
  rw [e1] at d1
  injection d1 with d1
  subst d1
  omega
end Go.Proofs.YtgkngimeokhhgaaGreatDoor
/- The document's Check: it gives what lexer.Check does. -/
namespace Go.Proofs.YtgkngimeokhhgaaGreatDoor
open Go.RowKit

theorem num_size {s : ByteArray} (h : isNumL (bl s) = true) : s.size ≠ 0 := by
  unfold isNumL at h
  rw [decide_eq_true_iff, bl_len] at h
  omega
theorem sign_size {s : ByteArray} (h : isSignL (bl s) = true) : s.size ≠ 0 ∧ isWordL (bl s) = false ∧ isNumL (bl s) = false := by
  unfold isSignL at h
  rw [decide_eq_true_iff] at h
  obtain ⟨h1, c, e1, e2⟩ := h
  refine ⟨by rw [bl_len] at h1; omega, ?_, ?_⟩
  · unfold isWordL
    rw [decide_eq_false_iff_not]
    rintro ⟨_, ⟨d, e3, e4⟩, _⟩
    rw [e1] at e3
    injection e3 with e3
    subst e3
    omega
  · unfold isNumL
    rw [decide_eq_false_iff_not]
    rintro ⟨h5, _, _, h6⟩
    obtain ⟨d, e3, e4⟩ := h6 0 h5
    rw [e1] at e3
    injection e3 with e3
    subst e3
    omega
theorem may_num (s : ByteArray) (n : Int) : mayB ⟨2, s, n⟩ = (isNumL (bl s) && (n == numL (bl s))) := by
  rw [Bool.eq_iff_iff, mayB_iff, Bool.and_eq_true, beq_iff_eq]
  unfold mayT tokF
  simp only
  constructor
  · intro h
    repeat' split at h
    all_goals first | (injection h with h; injection h with h1 h2 h3; first | (exact ⟨by assumption, h3.symm⟩) | (exact absurd h1 (by decide))) | cases h
  · rintro ⟨h, rfl⟩
    rw [if_neg (num_size h), if_neg (by rw [num_no_word h]; decide), if_pos h]
theorem may_sign (s : ByteArray) (n : Int) : mayB ⟨3, s, n⟩ = (isSignL (bl s) && (n == 0)) := by
  rw [Bool.eq_iff_iff, mayB_iff, Bool.and_eq_true, beq_iff_eq]
  unfold mayT tokF
  simp only
  constructor
  · intro h
    repeat' split at h
    all_goals first | (injection h with h; injection h with h1 h2 h3; first | (exact ⟨by assumption, h3.symm⟩) | (exact absurd h1 (by decide))) | cases h
  · rintro ⟨h, rfl⟩
    obtain ⟨h1, h2, h3⟩ := sign_size h
    rw [if_neg h1, if_neg (by rw [h2]; decide), if_neg (by rw [h3]; decide), if_pos h]
end Go.Proofs.YtgkngimeokhhgaaGreatDoor
/- What code's text is read as; what was written is read as it was, and the other way round: plain mathematics. Nothing is claimed of the program here. -/
namespace Go.Proofs.YtgkngimeokhhgaaGreatDoor
open Go.RowKit

/-- digits of a number, as they are written: there is one way -/
theorem digs_dd : ∀ (n : Nat) (l : List UInt8), l.length = n → (∀ c ∈ l, kb c = 5) → (l ≠ [] ∧ (1 < l.length → l[0]? ≠ some 48)) → Lib.decDigits (numL l).toNat = l := by
  intro n
  induction n with
  | zero => intro l hl _ h; exact absurd (List.eq_nil_of_length_eq_zero hl) h.1
  | succ n ih =>
    intro l hl hk h
    obtain ⟨r, c, rfl⟩ : ∃ r c, l = r ++ [c] := ⟨_, _, (List.dropLast_concat_getLast h.1).symm⟩
    have hc := dig_in (hk c (by simp))
    have hcc : c = UInt8.ofNat (48 + (c.toNat - 48)) := by
      apply UInt8.toNat_inj.1
      rw [(dig_byte (c.toNat - 48) (by omega)).2]
      omega
    rw [numL_snoc]
    by_cases hr : r = []
    · subst hr
      have e : numL ([] : List UInt8) = 0 := rfl
      rw [e, Lib.decDigits, dif_pos (by omega)]
      rw [show (0 * 10 + ((c.toNat : Int) - 48)).toNat = c.toNat - 48 by omega, ← hcc]; rfl
    · have hr0 : 0 < r.length := List.length_pos_iff.2 hr
      have h0 : r[0]? ≠ some 48 := by
        have := h.2 (by simp; omega)
        rw [List.getElem?_append_left hr0] at this
        exact this
      have i1 := ih r (by simp at hl; omega) (fun d hd => hk d (by simp [hd])) ⟨hr, fun _ => h0⟩
      have hb := numL_bound r.length r rfl (fun d hd => hk d (by simp [hd]))
      have h1 : 1 ≤ numL r := by
        apply Classical.byContradiction
        intro hn
        have e0 : (numL r).toNat = 0 := by omega
        rw [e0, Lib.decDigits] at i1
        rw [dif_pos (by omega)] at i1
        rw [← i1] at h0
        exact h0 rfl
      rw [Lib.decDigits, dif_neg (by omega)]
      rw [show (numL r * 10 + ((c.toNat : Int) - 48)).toNat / 10 = (numL r).toNat by omega, show (numL r * 10 + ((c.toNat : Int) - 48)).toNat % 10 = c.toNat - 48 by omega, i1, ← hcc]
theorem num_dd {l : List UInt8} (h : isNumL l = true) : Lib.decDigits (numL l).toNat = l := by
  unfold isNumL at h
  rw [decide_eq_true_iff] at h
  obtain ⟨h1, h2, h3, h4⟩ := h
  refine digs_dd l.length l rfl (fun c hc => ?_) ⟨List.length_pos_iff.1 h1, fun h5 h6 => h3 ⟨h5, h6⟩⟩
  obtain ⟨j, hj, e⟩ := List.getElem_of_mem hc
  obtain ⟨d, e1, e2⟩ := h4 j hj
  rw [List.getElem?_eq_getElem hj, e] at e1
  injection e1 with e1
  rw [e1]; exact e2
/-- tokens that may be, by their kinds -/
theorem may_num_of {t : Tk} (h : mayT t) (hk : t.k = 2) : t = tokN t.n ∧ 0 ≤ t.n ∧ t.n < 1000000000000000000 := by
  have hb := (mayB_iff t).2 h
  obtain ⟨k, s, n⟩ := t
  dsimp only at hk
  subst hk
  rw [may_num, Bool.and_eq_true] at hb
  have hn : n = numL (bl s) := by simpa using hb.2
  have b := isNumL_bound hb.1
  subst hn
  refine ⟨?_, b.1, b.2⟩
  unfold tokN
  rw [num_dd hb.1, ofL_bl]
theorem may_sign_of {t : Tk} (h : mayT t) (hk : t.k = 3) (hs : bl t.s = [45]) : t = minusTk := by
  have hb := (mayB_iff t).2 h
  obtain ⟨k, s, n⟩ := t
  dsimp only at hk hs
  subst hk
  rw [may_sign, Bool.and_eq_true] at hb
  have hn : n = 0 := by simpa using hb.2
  subst hn
  have : s = ⟨#[45]⟩ := by rw [← ofL_bl s, hs]; rfl
  subst this
  rfl
theorem opW_inv {l : List UInt8} (h : 0 ≤ opW l) : l = wJ (opW l) ∧ opW l ≤ 12 := by
  unfold opW at h ⊢
  cases e : wordsJ.findIdx? (· == l) with
  | none => rw [e] at h; exact absurd h (by decide)
  | some i =>
    rw [List.findIdx?_eq_some_iff_getElem] at e
    obtain ⟨hi, h1, _⟩ := e
    have hi' : i < 13 := hi
    have h2 : wordsJ[i] = l := eq_of_beq h1
    refine ⟨?_, by show (i : Int) ≤ 12; omega⟩
    show l = wJ (i : Int)
    unfold wJ
    rw [if_pos (by omega), ← h2, List.getD_eq_getElem?_getD, Int.toNat_natCast, List.getElem?_eq_getElem hi]
    rfl
/-- lines of tokens as instructions, or the first that is none -/
def rowsF : Nat → List (List Tk) → Except Nat (List Ji)
  | _, [] => .ok []
  | i, r :: rs => match insF r with
    | none => .error i
    | some x => match rowsF (i + 1) rs with
      | .error j => .error j
      | .ok l => .ok (x :: l)
def zTk : Tk := ⟨0, ⟨#[]⟩, 0⟩
def headOK (h : List Tk) : Bool := decide (h.length = 4) && (decide ((h.getD 0 zTk).k = 1) && (decide (bl (h.getD 0 zTk).s = codeW) && (decide ((h.getD 1 zTk).k = 2) && (decide ((h.getD 2 zTk).k = 2) && decide ((h.getD 3 zTk).k = 2)))))
def noCd : Cd := ⟨0, 0, 0, []⟩
def parseR (R : List (List Tk)) : Cd × Int × Int :=
  match R with
  | [] => (noCd, 0, 6)
  | h :: rs => if headOK h then (match rowsF 1 rs with
    | .error i => (noCd, (i : Int), 6)
    | .ok l => if Cd.may ⟨(h.getD 1 zTk).n, (h.getD 2 zTk).n, (h.getD 3 zTk).n, l⟩ then (⟨(h.getD 1 zTk).n, (h.getD 2 zTk).n, (h.getD 3 zTk).n, l⟩, ((rs.length + 1 : Nat) : Int), 0) else (noCd, 0, 1)) else (noCd, 0, 6)
/-- what a text is read as -/
def parseF (l : List UInt8) : Cd × Int × Int := if (cutF l).2.2 ≠ 0 then (noCd, (cutF l).2.1, (cutF l).2.2) else parseR (linesL (cutF l).1)
theorem linesK_may : ∀ (l cur : List Tk), (∀ t ∈ l, mayT t) → (∀ t ∈ cur, mayT t) → ∀ r ∈ linesK [] cur l, ∀ t ∈ r, mayT t
  | [], cur, _, hc, r, hr => by
    have : r = cur := by simpa [linesK] using hr
    subst this; exact hc
  | t :: l, cur, h, hc, r, hr => by
    by_cases h4 : t.k = 4
    · rw [linesK_line h4, linesK_all, List.nil_append] at hr
      rcases List.mem_append.1 hr with hr | hr
      · rw [List.mem_singleton.1 hr]; exact hc
      · exact linesK_may l [] (fun q hq => h q (by simp [hq])) (by simp) r hr
    · rw [linesK_on h4] at hr
      refine linesK_may l (cur ++ [t]) (fun q hq => h q (by simp [hq])) (fun q hq => ?_) r hr
      rcases List.mem_append.1 hq with hq | hq
      · exact hc q hq
      · rw [List.mem_singleton.1 hq]; exact h t (by simp)
end Go.Proofs.YtgkngimeokhhgaaGreatDoor
/- The document's instruction of tokens: what has been read of it so far; where the variables lie. -/
namespace Go.Proofs.YtgkngimeokhhgaaGreatDoor
open Go.RowKit

/-- what is still to be read of an instruction: the kinds K, by the tokens R; F stands in its places, N is its number -/
def GoI (op : Int) (r : List Tk) (K : List UInt8) (R : List Tk) (F : List Int) (N : Int) : Prop := insG (kJ op) r 0 = (insG K R N).map fun p => (F ++ p.1, p.2)
theorem GoI.start (op : Int) (r : List Tk) : GoI op r (kJ op) r [] 0 := by
  unfold GoI
  cases insG (kJ op) r 0 with
  | none => rfl
  | some p => rfl
theorem GoI.step {op : Int} {r R R2 : List Tk} {K K2 : List UInt8} {F : List Int} {N N2 v : Int} (h : GoI op r K R F N) (e : insG K R N = (insG K2 R2 N2).map fun p => (v :: p.1, p.2)) : GoI op r K2 R2 (F ++ [v]) N2 := by
  unfold GoI at *
  rw [h, e]
  cases insG K2 R2 N2 with
  | none => rfl
  | some p => simp
theorem GoI.bad {op : Int} {r R : List Tk} {K : List UInt8} {F : List Int} {N : Int} (h : GoI op r K R F N) (e : insG K R N = none) : insG (kJ op) r 0 = none := by
  unfold GoI at h
  rw [h, e]; rfl
theorem GoI.done {op : Int} {r R : List Tk} {F : List Int} {N : Int} (h : GoI op r [] R F N) : insG (kJ op) r 0 = if R = [] then some (F, N) else none := by
  unfold GoI at h
  rw [h]
  by_cases hR : R = []
  · subst hR
    simp [insG]
  · unfold insG
    rw [if_neg hR, if_neg hR]; rfl
section
variable {K : List UInt8} {R : List Tk} {t u : Tk} {N : Int}
end
/-- tokens without the first one -/
theorem Toks.rest {w : World} {B b o m : Nat} {t : Tk} {R : List Tk} (h : Toks w B (some ⟨b, o, none⟩) (m + 1) (t :: R)) : Toks w B (some ⟨b, o + 3, none⟩) m R := by
  obtain ⟨hl, ho, hc⟩ := h
  refine ⟨by simpa using hl, fun x hx => ho x (List.mem_cons_of_mem _ hx), fun _ => ?_⟩
  obtain ⟨b', off, e, hb, hx⟩ := hc (by omega)
  injection e with e; injection e with e1 e2
  subst e1; subst e2
  refine ⟨b, o + 3, rfl, hb, fun k x hk => ?_⟩
  have := hx (k + 1) x (by simpa using hk)
  rw [show o + (k + 1) * 3 = o + 3 + k * 3 by omega] at this
  exact this
theorem Toks.none_ {w : World} {B m : Nat} {A A' : Option Addr} {R : List Tk} (h : Toks w B A m R) (hm : m = 0) : Toks w B A' m R := ⟨h.1, h.2.1, fun h0 => absurd h0 (by omega)⟩
theorem Toks.first {w : World} {B b o m : Nat} {t : Tk} {R : List Tk} (h : Toks w B (some ⟨b, o, none⟩) (m + 1) (t :: R)) : w.cell? ⟨b, o, none⟩ = some (.int .i64 t.k) ∧ w.cell? ⟨b, o + 1, none⟩ = some (.string t.s) ∧ w.cell? ⟨b, o + 2, none⟩ = some (.int .i64 t.n) ∧ t.ok := by
  obtain ⟨hl, ho, hc⟩ := h
  obtain ⟨b', off, e, hb, hx⟩ := hc (by omega)
  injection e with e; injection e with e1 e2
  subst e1; subst e2
  have := hx 0 t rfl
  simp only [Nat.zero_mul, Nat.add_zero] at this
  exact ⟨this.1, this.2.1, this.2.2, ho t (by simp)⟩
theorem Toks.len {w : World} {B m : Nat} {A : Option Addr} {L : List Tk} (h : Toks w B A m L) : L.length = m := h.1
/-- the three places: those of F, and zeros behind -/
structure VOK (k : Nat) (V F : List Int) : Prop where
  eq : V = F ++ List.replicate (3 - k) 0
  fl : F.length = k
  le : k ≤ 3
  fit : ∀ v ∈ V, -9223372036854775808 ≤ v ∧ v ≤ 9223372036854775807
theorem VOK.start : VOK 0 [0, 0, 0] [] := ⟨rfl, rfl, by omega, fun v hv => by simp at hv; omega⟩
theorem VOK.len {k : Nat} {V F : List Int} (h : VOK k V F) : V.length = 3 := by rw [h.eq, List.length_append, h.fl, List.length_replicate]; have := h.le; omega
theorem VOK.step {k : Nat} {V F : List Int} (h : VOK k V F) (hk : k < 3) {v : Int} (hv : -9223372036854775808 ≤ v ∧ v ≤ 9223372036854775807) : VOK (k + 1) (V.set k v) (F ++ [v]) := by
  refine ⟨?_, by rw [List.length_append, h.fl]; rfl, by omega, fun x hx => ?_⟩
  · rw [h.eq, List.set_append_right _ _ (by rw [h.fl]; omega), h.fl, Nat.sub_self, show 3 - k = (3 - (k + 1)) + 1 by omega, List.replicate_succ, List.set_cons_zero, List.append_assoc]; rfl
  · rcases List.mem_or_eq_of_mem_set hx with hx | rfl
    · exact h.fit x hx
    · exact hv
theorem VOK.same {k : Nat} {V F : List Int} (h : VOK k V F) (hk : k < 3) : VOK (k + 1) V (F ++ [0]) := by
  refine ⟨?_, by rw [List.length_append, h.fl]; rfl, by omega, h.fit⟩
  rw [h.eq, show 3 - k = (3 - (k + 1)) + 1 by omega, List.replicate_succ, List.append_assoc]; rfl
theorem dropU {l : List UInt8} {k : Nat} {x : UInt8} (h : l[k]? = some x) : l.drop k = x :: l.drop (k + 1) := by
  obtain ⟨hk, e⟩ := List.getElem?_eq_some_iff.1 h
  rw [List.drop_eq_getElem_cons hk, e]
theorem Toks.restc {w : World} {B b o m cc : Nat} {t : Tk} {R : List Tk} (h : Toks w B (some ⟨b, o, none⟩) (m + 1) (t :: R)) (hc : m + 1 ≤ cc) : Toks w B (some ⟨b, if cc = 1 then o else o + 3, none⟩) m R := by
  split
  · exact h.rest.none_ (by omega)
  · exact h.rest
theorem cutA (cc b o : Nat) : (if cc = 1 then some (⟨b, o, none⟩ : Addr) else some ⟨b, o + 3, none⟩) = some ⟨b, if cc = 1 then o else o + 3, none⟩ := by split <;> rfl
abbrev zeroJ : Ji := ⟨0, 0, 0, 0, 0⟩
/-- where the variables of ins lie -/
structure InsI (w : World) (g f : Nat) (wr : World) (x : Ji) (V : List Int) : Prop where
  bel : Below w.heap.size w wr
  rv : wr.heap[w.heap.size]? = some zeroJ.obj
  gn : w.heap.size < g
  fn : g < f
  bx : wr.heap[g]? = some x.obj
  fb : wr.heap[f]? = some (.cells (V.map (Value.int .i64)).toArray 3 (0, 0))
section
variable {w wr w' : World} {g f : Nat} {x : Ji} {V : List Int}
theorem InsI.below (h : InsI w g f wr x V) (hb : Below wr.heap.size wr w') : InsI w g f w' x V :=
  ⟨h.bel.trans (hb.mono h.bel.size), keep_b hb h.rv, h.gn, h.fn, keep_b hb h.bx, keep_b hb h.fb⟩
end
end Go.Proofs.YtgkngimeokhhgaaGreatDoor
/- What code's text is read as, as a call's end. -/
namespace Go.Proofs.YtgkngimeokhhgaaGreatDoor
open Go.RowKit

def ParseP (s : ByteArray) (w : World) (e : Ending) (w' : World) : Prop :=
  ∃ A' c', e = .returned (.tuple #[.agg #[.int .i64 (parseF (bl s)).1.R, .int .i64 (parseF (bl s)).1.A, .int .i64 (parseF (bl s)).1.I, .slice A' (parseF (bl s)).1.l.length c'], .int .i64 (parseF (bl s)).2.1, .int .i64 (parseF (bl s)).2.2]) ∧ OwnJ w' w.heap.size A' c' (parseF (bl s)).1.l ∧ Below w.heap.size w w'
end Go.Proofs.YtgkngimeokhhgaaGreatDoor
/- The document's Join: it gives what lexer.Join does. -/
namespace Go.Proofs.YtgkngimeokhhgaaGreatDoor
open Go.RowKit

theorem Toks.cell {w : World} {B n b off k : Nat} {L : List Tk} {x : Tk} (h : Toks w B (some ⟨b, off, none⟩) n L) (hx : L[k]? = some x) : w.cell? ⟨b, off + k * 3, none⟩ = some (.int .i64 x.k) := by
  have hk := (List.getElem?_eq_some_iff.1 hx).1
  rw [h.1] at hk
  obtain ⟨b', off', e, _, hc⟩ := h.2.2 (by omega)
  injection e with e; injection e with e1 e2
  subst e1 e2
  exact (hc k x hx).1
end Go.Proofs.YtgkngimeokhhgaaGreatDoor
