/- How a slice of tokens that came in reads. -/
import Derived.Test.YtinjkakfnppjpaaG3
import Derived.Test.YtinjkakfnppjpaaG1
import Derived.Deep.Slices
import Derived.Deep.Fields
import Derived.SizedLaws
import Derived.Test.YtinjkakfnppjpaaG2
import Derived.Deep.AppendLies
import Derived.Laws.OwnMore
import Derived.Deep.RegionLaw
namespace Go.Proofs.Ytinjkakfnppjpaa
open Go.ChangeShapes Go.WideShapes Go.ChangeAt Go.RowKit Go.Deep

section
variable {H : Type} {enc : TypeId × Value → H} {w : World} {base : Nat} {spare : Nat → Bool} {held : Bool}
/-- one token's cells -/
theorem open_token {f0 f1 f2 : Field} {fuel : Nat} {a : Addr} {cs : List Value} {x : DataW H × List MemPlace} (hs : Try.prog.underlying 35 = some (.struct #[f0, f1, f2])) (hone : oneCellFields Try.prog #[f0, f1, f2] = true) (ht0 : f0.type = 3) (ht1 : f1.type = 9) (ht2 : f2.type = 2) (hl : cs.length = 3)
    (hc : ∀ i, i < 3 → w.cell? (a.add i) = cs[i]?) (h : DataW.trod enc Try.prog w base spare held fuel 35 cs = some x) :
    ∃ y : Tk, w.cell? (a.add 0) = some (.int .i64 y.k) ∧ w.cell? (a.add 1) = some (.string y.s) ∧ w.cell? (a.add 2) = some (.int .i64 y.n) ∧ y.ok := by
  obtain ⟨ys, k, _, _, _, hyl, hf⟩ := DataW.trod_struct hs h
  match cs, hl with
  | [v0, v1, v2], _ =>
    match ys, hyl with
    | [y0, y1, y2], _ =>
      obtain ⟨o0, k0⟩ := hone_of hone 0 f0 rfl
      obtain ⟨o1, k1⟩ := hone_of hone 1 f1 rfl
      obtain ⟨o2, k2⟩ := hone_of hone 2 f2 rfl
      have h0 := hf 0 f0 rfl
      have h1 := hf 1 f1 rfl
      have h2 := hf 2 f2 rfl
      rw [o0, k0, ht0] at h0
      rw [o1, k1, ht1] at h1
      rw [o2, k2, ht2] at h2
      simp only [List.drop_zero, List.take_succ_cons, List.take_zero, List.drop_succ_cons, List.getElem?_cons_zero, List.getElem?_cons_succ] at h0 h1 h2
      obtain ⟨v, e0, _, hw⟩ := DataW.trod_int Try.underlying3 h0
      simp only [List.cons.injEq, and_true] at e0
      subst e0
      obtain ⟨u, e2, _, hu⟩ := DataW.trod_int Try.underlying2 h2
      simp only [List.cons.injEq, and_true] at e2
      subst e2
      obtain ⟨s, e1, _, hss⟩ := DataW.trod_string Try.underlying9 h1
      simp only [List.cons.injEq, and_true] at e1
      subst e1
      have hb := wf_bounds hw
      have hb2 := wf_bounds hu
      refine ⟨⟨v, s, u⟩, ?_, ?_, ?_, hb.1, hb.2, hb2.1, hb2.2, hss⟩
      · have := hc 0 (by omega); rw [this]; rfl
      · have := hc 1 (by omega); rw [this]; rfl
      · have := hc 2 (by omega); rw [this]; rfl
theorem add_three (b off i : Nat) : (Addr.add ⟨b, off, none⟩ i : Addr) = ⟨b, off + i, none⟩ := by
  by_cases h : i = 0
  · subst h; simp [Addr.add]
  · simp [Addr.add, h]
set_option maxRecDepth 100000 in
/-- a []api.Token that came in -/
theorem bytesTok : Try.prog.bytesOf 35 = 32 := by kernel_rfl
set_option maxRecDepth 100000 in
theorem open_toks {v : Value} {d : DataW H} {p : List MemPlace} (hf : ∃ a n c, v = .slice a n c) (h : DataW.Trod enc Try.prog w base spare held 23 v d p) (hw : ∀ y ∈ d.weights Try.prog 23, y ≤ reachBytes) :
    ∃ A n c es, v = .slice A n c ∧ Toks w w.heap.size A n es ∧ n ≤ 4398046511104 ∧ n ≤ c := by
  obtain ⟨a0, len0, cap0, rfl⟩ := hf
  obtain ⟨fuel, hf⟩ := h
  rcases open_slice Try.underlying23 hf with ⟨hcs, _⟩ | ⟨x, l, c, m, k, D, Pl, hcs, _, hl, hm, hmm, hx, hi⟩
  · simp [Value.cells] at hcs
    obtain ⟨rfl, rfl, rfl⟩ := hcs
    exact ⟨none, 0, 0, [], rfl, Toks.nil_, by omega, Nat.le_refl _⟩
  · simp [Value.cells] at hcs
    obtain ⟨rfl, rfl, rfl⟩ := hcs
    have hC : Try.prog.cellsOf 35 = 3 := by kernel_rfl
    have key : ∀ i, i < len0 → ∃ y : Tk, w.cell? ((x.add (i * 3)).add 0) = some (.int .i64 y.k) ∧ w.cell? ((x.add (i * 3)).add 1) = some (.string y.s) ∧ w.cell? ((x.add (i * 3)).add 2) = some (.int .i64 y.n) ∧ y.ok := by
      intro i hil
      have hml : len0 ≤ m := by rw [hmm]; split <;> omega
      obtain ⟨cs', hc, ht'⟩ := hi i (by omega)
      rw [hC] at hc
      obtain ⟨_, hlen, hat⟩ := World.cells?_some hc
      exact open_token Try.underlying35 (by kernel_rfl) (by kernel_rfl) (by kernel_rfl) (by kernel_rfl) hlen hat ht'
    have hmax : len0 ≤ 4398046511104 := by
      have hd : d = .slice ((List.range len0).map D) ((List.range (m - len0)).map fun j => D (len0 + j)) := by injection hx
      have := hw ((((List.range len0).map D).length + ((List.range (m - len0)).map fun j => D (len0 + j)).length) * Try.prog.bytesOf 35) (by rw [hd]; simp [DataW.weights, Try.underlying23])
      rw [bytesTok] at this
      simp only [List.length_map, List.length_range, reachBytes] at this
      omega
    refine ⟨_, _, _, (List.range len0).map fun i => if hh : i < len0 then Classical.choose (key i hh) else ⟨0, ⟨#[]⟩, 0⟩, rfl, ⟨by simp, ?_, ?_⟩, hmax, hl⟩
    · intro y hy
      rw [List.mem_map] at hy
      obtain ⟨i, hir, rfl⟩ := hy
      have hil := List.mem_range.1 hir
      rw [dif_pos hil]
      exact (Classical.choose_spec (key i hil)).2.2.2
    · intro h0
      obtain ⟨b, off, spot⟩ := x
      have hs := (Classical.choose_spec (key 0 h0)).1
      have hspot : spot = none := by simpa [Addr.add] using World.cell?_spot hs
      subst hspot
      have hlt : b < w.heap.size := by have := lt_of_cell hs; simpa [Addr.add] using this
      refine ⟨b, off, rfl, hlt, fun q y hy => ?_⟩
      rw [List.getElem?_map, Option.map_eq_some_iff] at hy
      obtain ⟨i, hir, hiy⟩ := hy
      have hq : q < len0 := by have := (List.getElem?_eq_some_iff.1 hir).1; simpa using this
      have hqi : i = q := by have := (List.getElem?_eq_some_iff.1 hir).2; simpa using this.symm
      subst hqi
      rw [dif_pos hq] at hiy
      have hk := Classical.choose_spec (key i hq)
      rw [hiy] at hk
      obtain ⟨k0, k1, k2, _⟩ := hk
      rw [add_three, add_three] at k0 k1 k2
      exact ⟨k0, k1, k2⟩
end
end Go.Proofs.Ytinjkakfnppjpaa
/- Lists of tokens of the call's own, in a slice of the call's own; no two share a block. -/
namespace Go.Proofs.Ytinjkakfnppjpaa
open Go.RowKit

structure RowK where
  A : Option Addr
  c : Nat
  L : List Tk
def RowK.hdr (r : RowK) : Value := .slice r.A r.L.length r.c
structure RowsK (w : World) (base : Nat) (H : Option Addr) (ch : Nat) (rs : List RowK) : Prop where
  rows : w.ownsRow base 23 1 (.slice H rs.length ch) rs.length (rs.map RowK.hdr)
  ins : ∀ r ∈ rs, OwnT w base r.A r.c r.L
  apart : rs.Pairwise fun r s => ∀ g, r.A = some ⟨g, 0, none⟩ → s.A ≠ some ⟨g, 0, none⟩
set_option maxRecDepth 100000 in
theorem infoTkRow : (Try.prog.info? 23).map (fun i => (i.zero, i.size, i.bytes)) = some (some (.slice none 0 0), 1, 24) := by kernel_rfl
section
variable {w w' w4 : World} {base ch : Nat} {H : Option Addr} {rs : List RowK}
theorem RowsK.nil_ (w : World) (base : Nat) : RowsK w base none 0 [] := ⟨w.ownsRow_nil base _ 1, fun s hs => (by cases hs), List.Pairwise.nil⟩
theorem RowsK.below {B : Nat} (h : RowsK w base H ch rs) (hb : Below B w w') (hB : w.heap.size ≤ B) : RowsK w' base H ch rs :=
  ⟨World.ownsRow.kept h.rows ⟨hb.os, hb.tape, hb.output, hb.size, fun i hi _ => hb.block i (by omega)⟩ (row := none) (by cases hh : (Value.slice H rs.length ch).ownBlock with | none => exact .inl rfl | some k => exact .inr (by simp)), fun s hs => (h.ins s hs).below hb hB, h.apart⟩
theorem RowsK.alloc (h : RowsK w base H ch rs) (o : Obj) : RowsK (w.alloc o) base H ch rs := ⟨World.ownsRow.alloc h.rows o, fun s hs => (h.ins s hs).alloc o, h.apart⟩
theorem RowsK.heap (h : RowsK w base H ch rs) : H = none ∨ ∃ g cur, H = some ⟨g, 0, none⟩ ∧ base ≤ g ∧ w.heap[g]? = some (.cells cur 23 (0, 0)) := by
  rcases h.rows.2 with ⟨h1, _⟩ | ⟨g, cap, cur, h1, h2, h3, _⟩
  · injection h1 with h1; exact .inl h1
  · injection h1 with h1; exact .inr ⟨g, cur, h1, h2, h3⟩
/-- tokens stay over what is written to a slice of slices -/
theorem OwnT.past_rows {base' c' g : Nat} {A : Option Addr} {xs : List Tk} {cur : Array Value} (hO : OwnT w base' A c' xs) (hg : w.heap[g]? = some (.cells cur 23 (0, 0))) (hG : w.grownBy w' (some g)) : OwnT w' base' A c' xs := by
  rcases hO.heap with rfl | ⟨k, cur2, rfl, _, hk⟩
  · exact hO.same fun b e => by cases e
  · refine hO.same fun b e => ?_
    injection e with e; injection e with e
    subst e
    refine hG.block k (Array.getElem?_eq_some_iff.1 hk).1 fun e => ?_
    injection e with e
    subst e
    rw [hg] at hk
    injection hk with hk; injection hk with _ hk
    exact absurd hk (by decide)
/-- one list of tokens, that holds none -/
theorem RowsK.one (w : World) (base : Nat) (hb : base ≤ w.heap.size) : RowsK (w.alloc (.cells #[.slice none 0 0] 23)) base (some ⟨w.heap.size, 0, none⟩) 1 [⟨none, 0, []⟩] :=
  ⟨World.ownsRow_lit w _ 1 hb (by unfold maxLen; omega) rfl, fun s hs => by rw [List.mem_singleton.1 hs]; exact OwnT.nil_ _ _, List.pairwise_singleton _ _⟩
/-- the header of a list, where it stands -/
theorem RowsK.hdr_at {g k : Nat} {r : RowK} (h : RowsK w base (some ⟨g, 0, none⟩) ch rs) (hr : rs[k]? = some r) : w.cell? ⟨g, k, none⟩ = some r.hdr ∧ w.frozen? ⟨g, k, none⟩ = false := by
  have hk := (List.getElem?_eq_some_iff.1 hr).1
  exact ⟨(h.rows.cellAt k (by simpa using hk)).trans (by rw [List.getElem?_map, hr]; rfl), h.rows.frozenAt k⟩
theorem RowsK.some_ (h : RowsK w base H ch rs) (h0 : 0 < rs.length) : ∃ g, H = some ⟨g, 0, none⟩ ∧ base ≤ g ∧ g < w.heap.size := by
  obtain ⟨g, cap, hv, h1, h2⟩ := h.rows.form h0
  injection hv with hv
  exact ⟨g, hv, h1, h2⟩
/-- a list more, that holds none -/
theorem wpList_appendNew {ops : Array Oper} {rest : List Oper} {o : Oper} {a : Act} {Q : Exit → Act → World → Prop}
    (hg : o.guard = none) (s x : Operand) (hop : o.op = Op.call { callee := Callee.builtin Builtin.append, args := #[s, x], argTypes := #[32, 32] })
    (base : Nat) (H : Option Addr) (ch p r g : Nat) (rs : List RowK) (hgz : w.heap.size = g) (hs : a.eval s = .slice H p ch) (hx : a.eval x = .slice (some ⟨g, 0, none⟩) 1 1)
    (ho : RowsK w base H ch rs) (hp : rs.length = p) (hr : p + 1 = r) (hl : r ≤ 1000000) (hb : base ≤ w.heap.size)
    (hK : ∀ g' c' w', RowsK w' base (some ⟨g', 0, none⟩) c' (rs ++ [⟨none, 0, []⟩]) → (∀ B w0, B ≤ base → Below B w0 w → Below B w0 w') → wpList Try.prog ops Q rest (a.put o.dst (.slice (some ⟨g', 0, none⟩) r c')) w') :
    wpList Try.prog ops Q (o :: rest) a (w.alloc (.cells #[.slice none 0 0] 23)) := by
  obtain ⟨i, hi, hz, h1, h2⟩ := info_parts infoTkRow
  subst hp
  subst hr
  subst hgz
  refine wpList_append_lies _ hg s x 32 hop base 23 i (.slice none 0 0) 1 24 Try.underlying32 hi hz h1 h2 (by rfl) (by decide) _ rs.length (rs.map RowK.hdr) hs (World.ownsRow.alloc ho.rows _) ⟨w.heap.size, 0, none⟩ 1 1 [.slice none 0 0] hx rfl ?_ (by simp [Value.oneCell']) (by decide) (by unfold maxLen; omega) (by omega) (by simp; omega) _ rfl ?_
  · intro j u hj
    match j, hj with
    | 0, hj => simp at hj; subst hj; simp [Addr.add]
    | j + 1, hj => simp at hj
  · intro g cap w' hown hgr _ _
    have hgr2 := (World.grownBy_alloc w _ _).trans hgr
    refine hK g cap w' ⟨?_, fun s hs => ?_, ?_⟩ fun B w0 hB hb0 => ?_
    · rw [List.length_append, List.map_append]
      exact hown
    · rcases List.mem_append.1 hs with hs | hs
      · have hO := ho.ins s hs
        rcases ho.heap with rfl | ⟨k, cur, rfl, _, hk⟩
        · exact hO.same fun b e => hgr2.block b ((show OwnT w base (some ⟨b, 0, none⟩) s.c s.L from e ▸ hO).lt).2 (by intro e; cases e)
        · exact hO.past_rows hk hgr2
      · rw [List.mem_singleton.1 hs]; exact OwnT.nil_ _ _
    · rw [List.pairwise_append]
      refine ⟨ho.apart, List.pairwise_singleton _ _, fun r _ s hs g hg => ?_⟩
      rw [List.mem_singleton.1 hs]
      intro e; cases e
    · refine hb0.grown hgr2 (Nat.le_trans hB hb) fun k hk => ?_
      rcases ho.heap with rfl | ⟨k', cur, rfl, h, _⟩
      · cases hk
      · simp only [Value.ownBlock, Option.some.injEq] at hk
        omega
/-- the last list has a token more -/
theorem RowsK.last {r : RowK} {t : Tk} {gH g cap : Nat} (h : RowsK w base (some ⟨gH, 0, none⟩) ch (rs ++ [r])) (hO : OwnT w4 base (some ⟨g, 0, none⟩) cap (r.L ++ [t])) (hG : w.grownBy w4 (Value.slice r.A r.L.length r.c).ownBlock) (hl : (Value.slice r.A r.L.length r.c).ownBlock = some g ∨ w.heap.size ≤ g) :
    RowsK (w4.setCell ⟨gH, rs.length, none⟩ (.slice (some ⟨g, 0, none⟩) (r.L.length + 1) cap)) base (some ⟨gH, 0, none⟩) ch (rs ++ [⟨some ⟨g, 0, none⟩, cap, r.L ++ [t]⟩]) ∧ w4.cell? ⟨gH, rs.length, none⟩ = some r.hdr ∧ w4.frozen? ⟨gH, rs.length, none⟩ = false ∧ (∀ B w0, B ≤ base → Below B w0 w → Below B w0 (w4.setCell ⟨gH, rs.length, none⟩ (.slice (some ⟨g, 0, none⟩) (r.L.length + 1) cap))) := by
  have hrO := h.ins r (by simp)
  obtain ⟨gH', curH, eH, hbH, hH⟩ : ∃ g cur, (some ⟨gH, 0, none⟩ : Option Addr) = some ⟨g, 0, none⟩ ∧ base ≤ g ∧ w.heap[g]? = some (.cells cur 23 (0, 0)) := by
    rcases h.heap with h1 | h1
    · cases h1
    · exact h1
  injection eH with eH; injection eH with eH
  subst eH
  have hne : some gH ≠ (Value.slice r.A r.L.length r.c).ownBlock := by
    rcases hrO.heap with h1 | ⟨k, cur, h1, _, hk⟩
    · rw [h1]; intro e; cases e
    · rw [h1]
      intro e
      simp only [Value.ownBlock, Option.some.injEq] at e
      subst e
      rw [hH] at hk
      injection hk with hk; injection hk with _ hk
      exact absurd hk (by decide)
  have hltH := (Array.getElem?_eq_some_iff.1 hH).1
  have hH4 : w4.heap[gH]? = some (.cells curH 23 (0, 0)) := (hG.block gH hltH hne).trans hH
  have hrows4 : w4.ownsRow base 23 1 (.slice (some ⟨gH, 0, none⟩) (rs ++ [r]).length ch) (rs ++ [r]).length ((rs ++ [r]).map RowK.hdr) :=
    World.ownsRow.kept h.rows hG (.inr (by simpa [Value.ownBlock] using hne))
  obtain ⟨hst, hgs⟩ := hrows4.stored rs.length (.slice (some ⟨g, 0, none⟩) (r.L.length + 1) cap)
  refine ⟨⟨?_, fun s hs => ?_, ?_⟩, ?_, hrows4.frozenAt _, fun B w0 hB hb0 => ?_⟩
  · have e1 : (rs ++ [(⟨some ⟨g, 0, none⟩, cap, r.L ++ [t]⟩ : RowK)]).length = (rs ++ [r]).length := by simp
    have e2 : (rs ++ [(⟨some ⟨g, 0, none⟩, cap, r.L ++ [t]⟩ : RowK)]).map RowK.hdr = ((rs ++ [r]).map RowK.hdr).set rs.length (.slice (some ⟨g, 0, none⟩) (r.L.length + 1) cap) := by
      rw [List.map_append, List.map_append, List.set_append_right _ _ (by simp)]
      simp [RowK.hdr]
    rw [e1, e2]
    exact hst
  · rcases List.mem_append.1 hs with hs | hs
    · have hsO := h.ins s (by simp [hs])
      have hap : ∀ g', s.A = some ⟨g', 0, none⟩ → r.A ≠ some ⟨g', 0, none⟩ := (List.pairwise_append.1 h.apart).2.2 s hs r (by simp)
      have h4 : OwnT w4 base s.A s.c s.L := hsO.same fun b e => hG.block b ((show OwnT w base (some ⟨b, 0, none⟩) s.c s.L from e ▸ hsO).lt).2 (by
        rcases hrO.heap with h1 | ⟨k, cur, h1, _, _⟩
        · rw [h1]; intro e; cases e
        · rw [h1]
          intro e2
          simp only [Value.ownBlock, Option.some.injEq] at e2
          subst e2
          exact hap b e h1)
      exact h4.past_rows hH4 hgs
    · rw [List.mem_singleton.1 hs]
      exact hO.past_rows hH4 hgs
  · have hp := List.pairwise_append.1 h.apart
    rw [List.pairwise_append]
    refine ⟨hp.1, List.pairwise_singleton _ _, fun s hs s' hs' g' hg' => ?_⟩
    rw [List.mem_singleton.1 hs']
    intro e
    simp only [Option.some.injEq, Addr.mk.injEq, and_true] at e
    subst e
    have hsO := h.ins s (by simp [hs])
    have hlt := (show OwnT w base (some ⟨g, 0, none⟩) s.c s.L from hg' ▸ hsO).lt
    rcases hl with hl | hl
    · rcases hrO.heap with h1 | ⟨k, cur, h1, _, _⟩
      · rw [h1] at hl; cases hl
      · rw [h1] at hl
        simp only [Value.ownBlock, Option.some.injEq] at hl
        subst hl
        exact hp.2.2 s hs r (by simp) k hg' h1
    · omega
  · exact (hrows4.cellAt rs.length (by simp)).trans (by simp)
  · have hb4 : Below B w0 w4 := hb0.grown hG (by omega) fun k hk => by
      rcases hrO.heap with h1 | ⟨k', cur, h1, hbk, _⟩
      · rw [h1] at hk; cases hk
      · rw [h1] at hk
        simp only [Value.ownBlock, Option.some.injEq] at hk
        omega
    exact hb4.setCell (by show B ≤ gH; omega) _
end
end Go.Proofs.Ytinjkakfnppjpaa
/- Tokens cut into lines: plain mathematics; one token more inside a region. -/
namespace Go.Proofs.Ytinjkakfnppjpaa
open Go.RowKit

def linesK (done : List (List Tk)) (cur : List Tk) : List Tk → List (List Tk)
  | [] => done ++ [cur]
  | t :: l => if t.k = 4 then linesK (done ++ [cur]) [] l else linesK done (cur ++ [t]) l
/-- tokens, cut at each end of a line -/
def linesL (l : List Tk) : List (List Tk) := if l = [] then [] else linesK [] [] l
theorem linesK_line {cur l : List Tk} {D : List (List Tk)} {t : Tk} (h : t.k = 4) : linesK D cur (t :: l) = linesK (D ++ [cur]) [] l := by rw [linesK, if_pos h]
theorem linesK_on {cur l : List Tk} {D : List (List Tk)} {t : Tk} (h : t.k ≠ 4) : linesK D cur (t :: l) = linesK D (cur ++ [t]) l := by rw [linesK, if_neg h]
theorem drop_cons {l : List Tk} {k : Nat} {x : Tk} (h : l[k]? = some x) : l.drop k = x :: l.drop (k + 1) := by
  obtain ⟨hk, e⟩ := List.getElem?_eq_some_iff.1 h
  rw [List.drop_eq_getElem_cons hk, e]
def LinesP (w : World) (R : List (List Tk)) (e : Ending) (w' : World) : Prop :=
  ∃ H n ch rs, e = .returned (.slice H n ch) ∧ rs.length = n ∧ rs.map (·.L) = R ∧ RowsK w' w.heap.size H ch rs ∧ Below w.heap.size w w'
theorem RowsK.drew {w : World} {base ch : Nat} {H : Option Addr} {rs : List RowK} (h : RowsK w base H ch rs) : RowsK w.drew base H ch rs := ⟨h.rows, h.ins, h.apart⟩
/-- a token more, inside a region -/
theorem step_appendTokL {ops : Array Oper} {o : Oper} {a : Act} {w : World} {K : Act → World → Prop} {Q : Exit → Act → World → Prop} {E : Prop}
    (hg : o.guard = none) (s x : Operand) (hop : o.op = Op.call { callee := Callee.builtin Builtin.append, args := #[s, x], argTypes := #[23, 23] })
    (base : Nat) (A : Option Addr) (c p r g H : Nat) (y : Tk) (L : List Tk) (hs : a.eval s = .slice A p c) (hx : a.eval x = .slice (some ⟨g, 0, none⟩) 1 1) (hb3 : ∃ fz, w.heap[g]? = some (.cells #[.int .i64 y.k, .string y.s, .int .i64 y.n] 35 fz))
    (ho : OwnT w base A c L) (hp : L.length = p) (hr : p + 1 = r) (hl : r ≤ 1000000) (hb : base ≤ w.heap.size) (hH : w.heap.size = H)
    (hK : ∀ g' c' w', OwnT w' base (some ⟨g', 0, none⟩) c' (L ++ [y]) → w.grownBy w' (Value.slice A p c).ownBlock → ((Value.slice A p c).ownBlock = some g' ∨ g' = H) → K (a.put o.dst (.slice (some ⟨g', 0, none⟩) r c')) w') :
    if Region.wanted o (yielded ops a.tmps) = true then Oper.wp Try.prog o a w K Q else E := by
  obtain ⟨i, hi, hz, h1, h2⟩ := info_parts infoTok
  obtain ⟨fz, hb3⟩ := hb3
  subst hp
  subst hr
  refine step_append_lies w hg s x 23 hop base 35 i (.agg #[.int .i64 0, .string ⟨#[]⟩, .int .i64 0]) 3 32 Try.underlying23 hi hz h1 h2 (by rfl) (by decide) (.slice A L.length c) L.length (cellsT L) hs ho ⟨g, 0, none⟩ 1 1 [.int .i64 y.k, .string y.s, .int .i64 y.n] hx rfl (World.news_of_block hb3) (by simp [Value.oneCell']) (by decide) (by unfold maxLen; omega) (by omega) hb H hH ?_
  intro g' cap w' hown hgr hlie _
  refine hK g' cap w' ?_ hgr hlie
  unfold OwnT
  rw [List.length_append, cellsT_append]
  exact hown
theorem size_allocE (w : World) (o : Obj) : (w.alloc o).heap.size = w.heap.size + 1 := Array.size_push _
theorem heap_allocT (w : World) (o : Obj) : (w.alloc o).heap[w.heap.size]? = some o := by
  show (w.heap.push _)[w.heap.size]? = _
  rw [Array.getElem?_push_size]
theorem cellPastT {w : World} {p : Addr} {v : Value} (h : w.cell? p = some v) (o : Obj) : (w.alloc o).cell? p = some v := by
  have hlt : p.block < w.heap.size := by
    rcases Nat.lt_or_ge p.block w.heap.size with h1 | h1
    · exact h1
    · have : w.heap[p.block]? = none := Array.getElem?_eq_none h1
      simp [World.cell?, this] at h
  exact (World.cell?_alloc_lt w o p hlt).trans h
theorem RowsK.lastP {w w4 : World} {base ch : Nat} {rs : List RowK} {rA : Option Addr} {rc p P : Nat} {rL : List Tk} {t : Tk} {gH g cap : Nat} (h : RowsK w base (some ⟨gH, 0, none⟩) ch (rs ++ [⟨rA, rc, rL⟩])) (hp : rL.length = p) (hP : rs.length = P) (hO : OwnT w4 base (some ⟨g, 0, none⟩) cap (rL ++ [t])) (hG : w.grownBy w4 (Value.slice rA p rc).ownBlock) (hl : (Value.slice rA p rc).ownBlock = some g ∨ g = w.heap.size) :
    RowsK (w4.setCell ⟨gH, P, none⟩ (.slice (some ⟨g, 0, none⟩) (p + 1) cap)) base (some ⟨gH, 0, none⟩) ch (rs ++ [⟨some ⟨g, 0, none⟩, cap, rL ++ [t]⟩]) ∧ w4.cell? ⟨gH, P, none⟩ = some (.slice rA p rc) ∧ w4.frozen? ⟨gH, P, none⟩ = false ∧ (∀ B w0, B ≤ base → Below B w0 w → Below B w0 (w4.setCell ⟨gH, P, none⟩ (.slice (some ⟨g, 0, none⟩) (p + 1) cap))) := by
  subst hp
  subst hP
  exact RowsK.last h hO hG (hl.imp id fun e => Nat.le_of_eq e.symm)
end Go.Proofs.Ytinjkakfnppjpaa
