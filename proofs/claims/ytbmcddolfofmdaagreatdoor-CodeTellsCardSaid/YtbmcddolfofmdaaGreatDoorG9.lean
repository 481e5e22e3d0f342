/- lexer.blanked: the text of tokens of one line. -/
import Derived.Test.YtbmcddolfofmdaaGreatDoorG8
import Derived.Laws.OwnMore
import Derived.Deep.AppendLies
import Derived.Deep.RegionLaw
import Derived.Deep.QuietTactic
import Derived.BigQuiet
import Derived.Deep.DeepCutAuto
namespace Go.Proofs.YtbmcddolfofmdaaGreatDoor
open Go.RowKit

/-- a slice of the call's own, of texts -/
def OwnSt (w : World) (base : Nat) (A : Option Addr) (c : Nat) (ss : List ByteArray) : Prop := w.ownsRow base 9 1 (.slice A ss.length c) ss.length (ss.map Value.string)
set_option maxRecDepth 100000 in
theorem infoStr : (Tryz.prog.info? 9).map (fun i => (i.zero, i.size, i.bytes)) = some (some (.string ⟨#[]⟩), 1, 16) := by kernel_rfl
section
variable {w w' : World} {base B c : Nat} {A : Option Addr} {ss : List ByteArray}
theorem OwnSt.nil_ (w : World) (base : Nat) : OwnSt w base none 0 [] := w.ownsRow_nil base _ 1
theorem OwnSt.below (h : OwnSt w base A c ss) (hb : Below B w w') (hB : w.heap.size ≤ B) : OwnSt w' base A c ss :=
  World.ownsRow.kept h ⟨hb.os, hb.tape, hb.output, hb.size, fun i hi _ => hb.block i (by omega)⟩ (row := none) (by cases hh : (Value.slice A ss.length c).ownBlock with | none => exact .inl rfl | some k => exact .inr (by simp))
theorem OwnSt.alloc (h : OwnSt w base A c ss) (o : Obj) : OwnSt (w.alloc o) base A c ss := World.ownsRow.alloc h o
theorem OwnSt.row {p : Nat} (h : OwnSt w base A c ss) : ∀ g, (Value.slice A p c).ownBlock = some g → base ≤ g := by
  intro g e
  rcases h.2 with ⟨h1, _⟩ | ⟨g', cap, cur, h1, h2, _⟩
  · injection h1 with h1; rw [h1] at e; cases e
  · injection h1 with h1
    rw [h1] at e
    simp only [Value.ownBlock, Option.some.injEq] at e
    omega
theorem OwnSt.cells (h : OwnSt w base A c ss) (h0 : 0 < ss.length) : ∃ g, A = some ⟨g, 0, none⟩ ∧ g < w.heap.size ∧ ss.length ≤ c ∧ ∀ (j : Nat) x, ss[j]? = some x → w.cell? ⟨g, 0 + j, none⟩ = some (.string x) := by
  rcases h.2 with ⟨_, h1⟩ | ⟨g, cap, cur, hv, hb, hg, hnc, _, _, hr⟩
  · omega
  · injection hv with hA _ hc
    subst hA
    subst hc
    refine ⟨g, rfl, (Array.getElem?_eq_some_iff.1 hg).1, hnc, fun j x hx => ?_⟩
    have hj := (List.getElem?_eq_some_iff.1 hx).1
    rw [Nat.zero_add, cell_of_row _ _ _ _ _ _ hg]
    have h2 := congrArg (fun l => l[j]?) hr
    simp only [List.getElem?_take, List.getElem?_map, hx, Option.map_some] at h2
    rw [if_pos (by omega)] at h2
    simpa using h2
end
/-- a text more -/
theorem wpList_appendStr {ops : Array Oper} {rest : List Oper} {o : Oper} {a : Act} {w : World} {Q : Exit → Act → World → Prop}
    (hg : o.guard = none) (s x : Operand) (hop : o.op = Op.call { callee := Callee.builtin Builtin.append, args := #[s, x], argTypes := #[74, 74] })
    (base : Nat) (A : Option Addr) (c p r g : Nat) (y : ByteArray) (L : List ByteArray) (hgz : w.heap.size = g) (hs : a.eval s = .slice A p c) (hx : a.eval x = .slice (some ⟨g, 0, none⟩) 1 1)
    (ho : OwnSt w base A c L) (hp : L.length = p) (hr : p + 1 = r) (hl : r ≤ 1000000) (hb : base ≤ w.heap.size)
    (hK : ∀ A' c' w', OwnSt w' base A' c' (L ++ [y]) → w.grownBy w' (Value.slice A p c).ownBlock → wpList Tryz.prog ops Q rest (a.put o.dst (.slice A' r c')) w') :
    wpList Tryz.prog ops Q (o :: rest) a (w.alloc (.cells #[.string y] 9)) := by
  obtain ⟨i, hi, hz, h1, h2⟩ := info_parts infoStr
  subst hp
  subst hr
  subst hgz
  refine wpList_append_own _ hg s x 74 hop base 9 i (.string ⟨#[]⟩) 1 16 Tryz.underlying74 hi hz h1 h2 (by rfl) (by decide) _ L.length (L.map Value.string) hs (World.ownsRow.alloc ho _) ⟨w.heap.size, 0, none⟩ 1 1 [.string y] hx rfl ?_ (by simp [Value.oneCell']) (by unfold maxLen; omega) (by omega) (by simp; omega) ?_
  · intro j u hj
    match j, hj with
    | 0, hj => simp at hj; subst hj; simp [Addr.add]
    | j + 1, hj => simp at hj
  · intro v' w' hown hgr _
    obtain ⟨A', c', rfl⟩ : ∃ A' c', v' = .slice A' (L.length + 1) c' := by
      rcases hown.2 with ⟨rfl, h0⟩ | ⟨g, cap, cur, rfl, _⟩
      · omega
      · exact ⟨_, _, rfl⟩
    refine hK A' c' w' ?_ ((World.grownBy_alloc w _ _).trans hgr)
    unfold OwnSt
    rw [List.length_append, List.map_append]
    exact hown
/-- strings.Join of texts of the call's own -/
theorem joinSt_any {base : Nat} (A : Option Addr) (n c : Nat) (ss : List ByteArray) (sep : ByteArray) (w : World) (h : OwnSt w base A c ss) (hn : ss.length = n) (hl : (Lib.join (ss.map bl) (bl sep)).length ≤ 140737488355328) (hN : n ≤ 1000000) :
    Calls Tryz.prog 46 #[.slice A n c, .string sep] w fun e w' => e = .returned (.string (ofL (Lib.join (ss.map bl) (bl sep)))) ∧ Below w.heap.size w w' := by
  subst hn
  rcases Nat.eq_zero_or_pos ss.length with h0 | h0
  · obtain rfl : ss = [] := List.eq_nil_of_length_eq_zero h0
    refine (x_strings_Join_none A c sep w).mono ?_
    rintro e w' ⟨rfl, rfl⟩
    exact ⟨rfl, Below.refl _ _⟩
  · obtain ⟨g, rfl, hg, hc, hx⟩ := h.cells h0
    exact x_strings_Join g 0 c ss sep w hx hg (by omega) hc hl
/-- the text of one line -/
def blkL (L : List Tk) : List UInt8 := Lib.join (L.map fun t => bl t.s) [32]
set_option maxRecDepth 100000 in
set_option maxHeartbeats 4000000 in
theorem blanked_any (A : Option Addr) (n c : Nat) (L : List Tk) (w : World) (h : Toks w w.heap.size A n L) (hn : n ≤ 100000) (hl : (blkL L).length ≤ 140737488355328) : Calls Tryz.prog 45 #[.slice A n c] w fun e w' => e = .returned (.string (ofL (blkL L))) ∧ Below w.heap.size w w' := by
  have HN := Lib.hid h.1
  have HE : Hid (ofL (blkL L) = ofL (Lib.join ((L.map (·.s)).map bl) (bl ⟨#[32]⟩))) := Lib.hid (by unfold blkL; rw [List.map_map]; rfl)
  have HLn : Hid ((Lib.join ((L.map (·.s)).map bl) (bl ⟨#[32]⟩)).length ≤ 140737488355328) := Lib.hid (by rw [List.map_map]; exact hl)
  obtain ⟨T, HT0⟩ : ∃ T, Hid (ofL (Lib.join ((L.map (·.s)).map bl) (bl ⟨#[32]⟩)) = T) := ⟨_, Lib.hid rfl⟩
  rw [HE.out, HT0.out]
  clear HE hl
  go_enter Tryz.func45, Tryz.ntmps45
  go_wp2
  go_loopw [3, 8] (fun v i wr => ∃ (k c' : Nat) (A' : Option Addr), k ≤ n ∧ i = .int .i64 k ∧ v = .slice A' k c' ∧ Hid (OwnSt wr w.heap.size A' c' ((L.take k).map (·.s))) ∧ Hid (Below w.heap.size w wr)) (fun _ i _ => n - (intOf i).toNat)
  case atStart => exact ⟨0, 0, none, Nat.zero_le _, rfl, rfl, OwnSt.nil_ _ _, Below.refl _ _⟩
  case round =>
    obtain ⟨k, c', A', hk, rfl, rfl, HO, HB⟩ := hrel
    have HLk : Hid (((L.take k).map (·.s)).length = k) := Lib.hid (by rw [List.length_map, List.length_take, HN.out]; omega)
    by_cases hlt : k < n
    · obtain ⟨b, off, x, rfl, hbl, HX, hc0, hc1, hc2, _⟩ := (h.on HB.out (Nat.le_refl _)).at_ hlt
      have hbw : w.heap.size ≤ wr.heap.size := HB.out.size
      have HT : Hid ((L.take (k + 1)).map (·.s) = (L.take k).map (·.s) ++ [x.s]) := Lib.hid (by rw [List.take_add_one, HX.out, List.map_append]; rfl)
      have HB1 : Hid (Below w.heap.size w (wr.alloc (.cells #[.int .i64 x.k, .string x.s, .int .i64 x.n] 49))) := HB.out.alloc hbw _
      have HO1 : Hid (OwnSt (wr.alloc (.cells #[.int .i64 x.k, .string x.s, .int .i64 x.n] 49)) w.heap.size A' c' ((L.take k).map (·.s))) := HO.out.alloc _
      have hl1 : k + 1 ≤ 1000000 := by omega
      go_wp2_with (at_builtin; refine wpList_appendStr rfl (.tmp 12) (.tmp 15) rfl w.heap.size A' c' k (k + 1) (wr.heap.size + 1) x.s ((L.take k).map (·.s)) (Array.size_push _) rfl rfl HO1.out HLk.out rfl hl1 HB1.out.size ?_; intro A4 c4 w4 HO4 HG4)
      go_roundw
      case rel => exact ⟨k + 1, c4, A4, by omega, by go_num, rfl, by unfold Hid; rw [HT.out]; exact HO4, HB1.out.grown HG4 HB1.out.size HO1.out.row⟩
      case measure => simp [intOf]; omega
    · obtain rfl : n = k := by omega
      have HT : Hid ((L.take n) = L) := Lib.hid (List.take_of_length_le (by rw [HN.out]; omega))
      have HO2 : Hid (OwnSt wr w.heap.size A' c' (L.map (·.s))) := by have := HO.out; rw [HT.out] at this; exact this
      have HL2 : Hid ((L.map (·.s)).length = n) := Lib.hid (by rw [List.length_map, HN.out])
      clear HO HT hlt HLk
      go_wp2_with (go_at_call 46; (with_reducible refine (joinSt_any A' n c' (L.map (·.s)) ⟨#[32]⟩ wr HO2.out HL2.out HLn.out (by omega)).mono ?_); rintro e w5 ⟨rfl, hb5⟩; rw [HT0.out])
      go_ret
      exact ⟨rfl, HB.out.trans (hb5.mono HB.out.size)⟩
end Go.Proofs.YtbmcddolfofmdaaGreatDoor
/- Lists of tokens of the call's own, in a slice of the call's own; no two share a block. -/
namespace Go.Proofs.YtbmcddolfofmdaaGreatDoor
open Go.RowKit

structure RowK where
  A : Option Addr
  c : Nat
  L : List Tk
def RowK.hdr (r : RowK) : Value := .slice r.A r.L.length r.c
structure RowsK (w : World) (base : Nat) (H : Option Addr) (ch : Nat) (rs : List RowK) : Prop where
  rows : w.ownsRow base 46 1 (.slice H rs.length ch) rs.length (rs.map RowK.hdr)
  ins : ∀ r ∈ rs, OwnT w base r.A r.c r.L
  apart : rs.Pairwise fun r s => ∀ g, r.A = some ⟨g, 0, none⟩ → s.A ≠ some ⟨g, 0, none⟩
set_option maxRecDepth 100000 in
theorem infoTkRow : (Tryz.prog.info? 46).map (fun i => (i.zero, i.size, i.bytes)) = some (some (.slice none 0 0), 1, 24) := by kernel_rfl
section
variable {w w' w4 : World} {base ch : Nat} {H : Option Addr} {rs : List RowK}
theorem RowsK.nil_ (w : World) (base : Nat) : RowsK w base none 0 [] := ⟨w.ownsRow_nil base _ 1, fun s hs => (by cases hs), List.Pairwise.nil⟩
theorem RowsK.below {B : Nat} (h : RowsK w base H ch rs) (hb : Below B w w') (hB : w.heap.size ≤ B) : RowsK w' base H ch rs :=
  ⟨World.ownsRow.kept h.rows ⟨hb.os, hb.tape, hb.output, hb.size, fun i hi _ => hb.block i (by omega)⟩ (row := none) (by cases hh : (Value.slice H rs.length ch).ownBlock with | none => exact .inl rfl | some k => exact .inr (by simp)), fun s hs => (h.ins s hs).below hb hB, h.apart⟩
theorem RowsK.alloc (h : RowsK w base H ch rs) (o : Obj) : RowsK (w.alloc o) base H ch rs := ⟨World.ownsRow.alloc h.rows o, fun s hs => (h.ins s hs).alloc o, h.apart⟩
theorem RowsK.heap (h : RowsK w base H ch rs) : H = none ∨ ∃ g cur, H = some ⟨g, 0, none⟩ ∧ base ≤ g ∧ w.heap[g]? = some (.cells cur 46 (0, 0)) := by
  rcases h.rows.2 with ⟨h1, _⟩ | ⟨g, cap, cur, h1, h2, h3, _⟩
  · injection h1 with h1; exact .inl h1
  · injection h1 with h1; exact .inr ⟨g, cur, h1, h2, h3⟩
/-- tokens stay over what is written to a slice of slices -/
theorem OwnT.past_rows {base' c' g : Nat} {A : Option Addr} {xs : List Tk} {cur : Array Value} (hO : OwnT w base' A c' xs) (hg : w.heap[g]? = some (.cells cur 46 (0, 0))) (hG : w.grownBy w' (some g)) : OwnT w' base' A c' xs := by
  rcases hO.heap with rfl | ⟨k, cur2, rfl, _, hk⟩
  · exact hO.same fun b e => by cases e
  · refine hO.same fun b e => ?_
    injection e with e; injection e with e
    subst e
    refine hG.block k (Array.getElem?_eq_some_iff.1 hk).1 fun e => ?_
    injection e with e
    subst e
    rw [hg] at hk
    injection hk with hk; injection hk with _ hk
    exact absurd hk (by decide)
/-- one list of tokens, that holds none -/
theorem RowsK.one (w : World) (base : Nat) (hb : base ≤ w.heap.size) : RowsK (w.alloc (.cells #[.slice none 0 0] 46)) base (some ⟨w.heap.size, 0, none⟩) 1 [⟨none, 0, []⟩] :=
  ⟨World.ownsRow_lit w _ 1 hb (by unfold maxLen; omega) rfl, fun s hs => by rw [List.mem_singleton.1 hs]; exact OwnT.nil_ _ _, List.pairwise_singleton _ _⟩
/-- the header of a list, where it stands -/
theorem RowsK.hdr_at {g k : Nat} {r : RowK} (h : RowsK w base (some ⟨g, 0, none⟩) ch rs) (hr : rs[k]? = some r) : w.cell? ⟨g, k, none⟩ = some r.hdr ∧ w.frozen? ⟨g, k, none⟩ = false := by
  have hk := (List.getElem?_eq_some_iff.1 hr).1
  exact ⟨(h.rows.cellAt k (by simpa using hk)).trans (by rw [List.getElem?_map, hr]; rfl), h.rows.frozenAt k⟩
theorem RowsK.some_ (h : RowsK w base H ch rs) (h0 : 0 < rs.length) : ∃ g, H = some ⟨g, 0, none⟩ ∧ base ≤ g ∧ g < w.heap.size := by
  obtain ⟨g, cap, hv, h1, h2⟩ := h.rows.form h0
  injection hv with hv
  exact ⟨g, hv, h1, h2⟩
/-- a list more, that holds none -/
theorem wpList_appendNew {ops : Array Oper} {rest : List Oper} {o : Oper} {a : Act} {Q : Exit → Act → World → Prop}
    (hg : o.guard = none) (s x : Operand) (hop : o.op = Op.call { callee := Callee.builtin Builtin.append, args := #[s, x], argTypes := #[67, 67] })
    (base : Nat) (H : Option Addr) (ch p r g : Nat) (rs : List RowK) (hgz : w.heap.size = g) (hs : a.eval s = .slice H p ch) (hx : a.eval x = .slice (some ⟨g, 0, none⟩) 1 1)
    (ho : RowsK w base H ch rs) (hp : rs.length = p) (hr : p + 1 = r) (hl : r ≤ 1000000) (hb : base ≤ w.heap.size)
    (hK : ∀ g' c' w', RowsK w' base (some ⟨g', 0, none⟩) c' (rs ++ [⟨none, 0, []⟩]) → (∀ B w0, B ≤ base → Below B w0 w → Below B w0 w') → wpList Tryz.prog ops Q rest (a.put o.dst (.slice (some ⟨g', 0, none⟩) r c')) w') :
    wpList Tryz.prog ops Q (o :: rest) a (w.alloc (.cells #[.slice none 0 0] 46)) := by
  obtain ⟨i, hi, hz, h1, h2⟩ := info_parts infoTkRow
  subst hp
  subst hr
  subst hgz
  refine wpList_append_lies _ hg s x 67 hop base 46 i (.slice none 0 0) 1 24 Tryz.underlying67 hi hz h1 h2 (by rfl) (by decide) _ rs.length (rs.map RowK.hdr) hs (World.ownsRow.alloc ho.rows _) ⟨w.heap.size, 0, none⟩ 1 1 [.slice none 0 0] hx rfl ?_ (by simp [Value.oneCell']) (by decide) (by unfold maxLen; omega) (by omega) (by simp; omega) _ rfl ?_
  · intro j u hj
    match j, hj with
    | 0, hj => simp at hj; subst hj; simp [Addr.add]
    | j + 1, hj => simp at hj
  · intro g cap w' hown hgr _ _
    have hgr2 := (World.grownBy_alloc w _ _).trans hgr
    refine hK g cap w' ⟨?_, fun s hs => ?_, ?_⟩ fun B w0 hB hb0 => ?_
    · rw [List.length_append, List.map_append]
      exact hown
    · rcases List.mem_append.1 hs with hs | hs
      · have hO := ho.ins s hs
        rcases ho.heap with rfl | ⟨k, cur, rfl, _, hk⟩
        · exact hO.same fun b e => hgr2.block b ((show OwnT w base (some ⟨b, 0, none⟩) s.c s.L from e ▸ hO).lt).2 (by intro e; cases e)
        · exact hO.past_rows hk hgr2
      · rw [List.mem_singleton.1 hs]; exact OwnT.nil_ _ _
    · rw [List.pairwise_append]
      refine ⟨ho.apart, List.pairwise_singleton _ _, fun r _ s hs g hg => ?_⟩
      rw [List.mem_singleton.1 hs]
      intro e; cases e
    · refine hb0.grown hgr2 (Nat.le_trans hB hb) fun k hk => ?_
      rcases ho.heap with rfl | ⟨k', cur, rfl, h, _⟩
      · cases hk
      · simp only [Value.ownBlock, Option.some.injEq] at hk
        omega
/-- the last list has a token more -/
theorem RowsK.last {r : RowK} {t : Tk} {gH g cap : Nat} (h : RowsK w base (some ⟨gH, 0, none⟩) ch (rs ++ [r])) (hO : OwnT w4 base (some ⟨g, 0, none⟩) cap (r.L ++ [t])) (hG : w.grownBy w4 (Value.slice r.A r.L.length r.c).ownBlock) (hl : (Value.slice r.A r.L.length r.c).ownBlock = some g ∨ w.heap.size ≤ g) :
    RowsK (w4.setCell ⟨gH, rs.length, none⟩ (.slice (some ⟨g, 0, none⟩) (r.L.length + 1) cap)) base (some ⟨gH, 0, none⟩) ch (rs ++ [⟨some ⟨g, 0, none⟩, cap, r.L ++ [t]⟩]) ∧ w4.cell? ⟨gH, rs.length, none⟩ = some r.hdr ∧ w4.frozen? ⟨gH, rs.length, none⟩ = false ∧ (∀ B w0, B ≤ base → Below B w0 w → Below B w0 (w4.setCell ⟨gH, rs.length, none⟩ (.slice (some ⟨g, 0, none⟩) (r.L.length + 1) cap))) := by
  have hrO := h.ins r (by simp)
  obtain ⟨gH', curH, eH, hbH, hH⟩ : ∃ g cur, (some ⟨gH, 0, none⟩ : Option Addr) = some ⟨g, 0, none⟩ ∧ base ≤ g ∧ w.heap[g]? = some (.cells cur 46 (0, 0)) := by
    rcases h.heap with h1 | h1
    · cases h1
    · exact h1
  injection eH with eH; injection eH with eH
  subst eH
  have hne : some gH ≠ (Value.slice r.A r.L.length r.c).ownBlock := by
    rcases hrO.heap with h1 | ⟨k, cur, h1, _, hk⟩
    · rw [h1]; intro e; cases e
    · rw [h1]
      intro e
      simp only [Value.ownBlock, Option.some.injEq] at e
      subst e
      rw [hH] at hk
      injection hk with hk; injection hk with _ hk
      exact absurd hk (by decide)
  have hltH := (Array.getElem?_eq_some_iff.1 hH).1
  have hH4 : w4.heap[gH]? = some (.cells curH 46 (0, 0)) := (hG.block gH hltH hne).trans hH
  have hrows4 : w4.ownsRow base 46 1 (.slice (some ⟨gH, 0, none⟩) (rs ++ [r]).length ch) (rs ++ [r]).length ((rs ++ [r]).map RowK.hdr) :=
    World.ownsRow.kept h.rows hG (.inr (by simpa [Value.ownBlock] using hne))
  obtain ⟨hst, hgs⟩ := hrows4.stored rs.length (.slice (some ⟨g, 0, none⟩) (r.L.length + 1) cap)
  refine ⟨⟨?_, fun s hs => ?_, ?_⟩, ?_, hrows4.frozenAt _, fun B w0 hB hb0 => ?_⟩
  · have e1 : (rs ++ [(⟨some ⟨g, 0, none⟩, cap, r.L ++ [t]⟩ : RowK)]).length = (rs ++ [r]).length := by simp
    have e2 : (rs ++ [(⟨some ⟨g, 0, none⟩, cap, r.L ++ [t]⟩ : RowK)]).map RowK.hdr = ((rs ++ [r]).map RowK.hdr).set rs.length (.slice (some ⟨g, 0, none⟩) (r.L.length + 1) cap) := by
      rw [List.map_append, List.map_append, List.set_append_right _ _ (by simp)]
      simp [RowK.hdr]
    rw [e1, e2]
    exact hst
  · rcases List.mem_append.1 hs with hs | hs
    · have hsO := h.ins s (by simp [hs])
      have hap : ∀ g', s.A = some ⟨g', 0, none⟩ → r.A ≠ some ⟨g', 0, none⟩ := (List.pairwise_append.1 h.apart).2.2 s hs r (by simp)
      have h4 : OwnT w4 base s.A s.c s.L := hsO.same fun b e => hG.block b ((show OwnT w base (some ⟨b, 0, none⟩) s.c s.L from e ▸ hsO).lt).2 (by
        rcases hrO.heap with h1 | ⟨k, cur, h1, _, _⟩
        · rw [h1]; intro e; cases e
        · rw [h1]
          intro e2
          simp only [Value.ownBlock, Option.some.injEq] at e2
          subst e2
          exact hap b e h1)
      exact h4.past_rows hH4 hgs
    · rw [List.mem_singleton.1 hs]
      exact hO.past_rows hH4 hgs
  · have hp := List.pairwise_append.1 h.apart
    rw [List.pairwise_append]
    refine ⟨hp.1, List.pairwise_singleton _ _, fun s hs s' hs' g' hg' => ?_⟩
    rw [List.mem_singleton.1 hs']
    intro e
    simp only [Option.some.injEq, Addr.mk.injEq, and_true] at e
    subst e
    have hsO := h.ins s (by simp [hs])
    have hlt := (show OwnT w base (some ⟨g, 0, none⟩) s.c s.L from hg' ▸ hsO).lt
    rcases hl with hl | hl
    · rcases hrO.heap with h1 | ⟨k, cur, h1, _, _⟩
      · rw [h1] at hl; cases hl
      · rw [h1] at hl
        simp only [Value.ownBlock, Option.some.injEq] at hl
        subst hl
        exact hp.2.2 s hs r (by simp) k hg' h1
    · omega
  · exact (hrows4.cellAt rs.length (by simp)).trans (by simp)
  · have hb4 : Below B w0 w4 := hb0.grown hG (by omega) fun k hk => by
      rcases hrO.heap with h1 | ⟨k', cur, h1, hbk, _⟩
      · rw [h1] at hk; cases hk
      · rw [h1] at hk
        simp only [Value.ownBlock, Option.some.injEq] at hk
        omega
    exact hb4.setCell (by show B ≤ gH; omega) _
end
end Go.Proofs.YtbmcddolfofmdaaGreatDoor
/- Tokens cut into lines: plain mathematics; one token more inside a region. -/
namespace Go.Proofs.YtbmcddolfofmdaaGreatDoor
open Go.RowKit

def linesK (done : List (List Tk)) (cur : List Tk) : List Tk → List (List Tk)
  | [] => done ++ [cur]
  | t :: l => if t.k = 4 then linesK (done ++ [cur]) [] l else linesK done (cur ++ [t]) l
/-- tokens, cut at each end of a line -/
def linesL (l : List Tk) : List (List Tk) := if l = [] then [] else linesK [] [] l
theorem linesK_line {cur l : List Tk} {D : List (List Tk)} {t : Tk} (h : t.k = 4) : linesK D cur (t :: l) = linesK (D ++ [cur]) [] l := by rw [linesK, if_pos h]
theorem linesK_on {cur l : List Tk} {D : List (List Tk)} {t : Tk} (h : t.k ≠ 4) : linesK D cur (t :: l) = linesK D (cur ++ [t]) l := by rw [linesK, if_neg h]
theorem drop_cons {l : List Tk} {k : Nat} {x : Tk} (h : l[k]? = some x) : l.drop k = x :: l.drop (k + 1) := by
  obtain ⟨hk, e⟩ := List.getElem?_eq_some_iff.1 h
  rw [List.drop_eq_getElem_cons hk, e]
def LinesP (w : World) (R : List (List Tk)) (e : Ending) (w' : World) : Prop :=
  ∃ H n ch rs, e = .returned (.slice H n ch) ∧ rs.length = n ∧ rs.map (·.L) = R ∧ RowsK w' w.heap.size H ch rs ∧ Below w.heap.size w w'
theorem RowsK.drew {w : World} {base ch : Nat} {H : Option Addr} {rs : List RowK} (h : RowsK w base H ch rs) : RowsK w.drew base H ch rs := ⟨h.rows, h.ins, h.apart⟩
/-- a token more, inside a region -/
theorem step_appendTokL {ops : Array Oper} {o : Oper} {a : Act} {w : World} {K : Act → World → Prop} {Q : Exit → Act → World → Prop} {E : Prop}
    (hg : o.guard = none) (s x : Operand) (hop : o.op = Op.call { callee := Callee.builtin Builtin.append, args := #[s, x], argTypes := #[46, 46] })
    (base : Nat) (A : Option Addr) (c p r g H : Nat) (y : Tk) (L : List Tk) (hs : a.eval s = .slice A p c) (hx : a.eval x = .slice (some ⟨g, 0, none⟩) 1 1) (hb3 : ∃ fz, w.heap[g]? = some (.cells #[.int .i64 y.k, .string y.s, .int .i64 y.n] 49 fz))
    (ho : OwnT w base A c L) (hp : L.length = p) (hr : p + 1 = r) (hl : r ≤ 1000000) (hb : base ≤ w.heap.size) (hH : w.heap.size = H)
    (hK : ∀ g' c' w', OwnT w' base (some ⟨g', 0, none⟩) c' (L ++ [y]) → w.grownBy w' (Value.slice A p c).ownBlock → ((Value.slice A p c).ownBlock = some g' ∨ g' = H) → K (a.put o.dst (.slice (some ⟨g', 0, none⟩) r c')) w') :
    if Region.wanted o (yielded ops a.tmps) = true then Oper.wp Tryz.prog o a w K Q else E := by
  obtain ⟨i, hi, hz, h1, h2⟩ := info_parts infoTok
  obtain ⟨fz, hb3⟩ := hb3
  subst hp
  subst hr
  refine step_append_lies w hg s x 46 hop base 49 i (.agg #[.int .i64 0, .string ⟨#[]⟩, .int .i64 0]) 3 32 Tryz.underlying46 hi hz h1 h2 (by rfl) (by decide) (.slice A L.length c) L.length (cellsT L) hs ho ⟨g, 0, none⟩ 1 1 [.int .i64 y.k, .string y.s, .int .i64 y.n] hx rfl (World.news_of_block hb3) (by simp [Value.oneCell']) (by decide) (by unfold maxLen; omega) (by omega) hb H hH ?_
  intro g' cap w' hown hgr hlie _
  refine hK g' cap w' ?_ hgr hlie
  unfold OwnT
  rw [List.length_append, cellsT_append]
  exact hown
theorem size_allocE (w : World) (o : Obj) : (w.alloc o).heap.size = w.heap.size + 1 := Array.size_push _
theorem heap_allocT (w : World) (o : Obj) : (w.alloc o).heap[w.heap.size]? = some o := by
  show (w.heap.push _)[w.heap.size]? = _
  rw [Array.getElem?_push_size]
theorem cellPastT {w : World} {p : Addr} {v : Value} (h : w.cell? p = some v) (o : Obj) : (w.alloc o).cell? p = some v := by
  have hlt : p.block < w.heap.size := by
    rcases Nat.lt_or_ge p.block w.heap.size with h1 | h1
    · exact h1
    · have : w.heap[p.block]? = none := Array.getElem?_eq_none h1
      simp [World.cell?, this] at h
  exact (World.cell?_alloc_lt w o p hlt).trans h
theorem RowsK.lastP {w w4 : World} {base ch : Nat} {rs : List RowK} {rA : Option Addr} {rc p P : Nat} {rL : List Tk} {t : Tk} {gH g cap : Nat} (h : RowsK w base (some ⟨gH, 0, none⟩) ch (rs ++ [⟨rA, rc, rL⟩])) (hp : rL.length = p) (hP : rs.length = P) (hO : OwnT w4 base (some ⟨g, 0, none⟩) cap (rL ++ [t])) (hG : w.grownBy w4 (Value.slice rA p rc).ownBlock) (hl : (Value.slice rA p rc).ownBlock = some g ∨ g = w.heap.size) :
    RowsK (w4.setCell ⟨gH, P, none⟩ (.slice (some ⟨g, 0, none⟩) (p + 1) cap)) base (some ⟨gH, 0, none⟩) ch (rs ++ [⟨some ⟨g, 0, none⟩, cap, rL ++ [t]⟩]) ∧ w4.cell? ⟨gH, P, none⟩ = some (.slice rA p rc) ∧ w4.frozen? ⟨gH, P, none⟩ = false ∧ (∀ B w0, B ≤ base → Below B w0 w → Below B w0 (w4.setCell ⟨gH, P, none⟩ (.slice (some ⟨g, 0, none⟩) (p + 1) cap))) := by
  subst hp
  subst hP
  exact RowsK.last h hO hG (hl.imp id fun e => Nat.le_of_eq e.symm)
end Go.Proofs.YtbmcddolfofmdaaGreatDoor
/- lexer.Lines: tokens cut into lines. -/
namespace Go.Proofs.YtbmcddolfofmdaaGreatDoor
open Go.RowKit

set_option maxRecDepth 100000 in
set_option maxHeartbeats 8000000 in
theorem lines_any (A : Option Addr) (n c : Nat) (L : List Tk) (w : World) (h : Toks w w.heap.size A n L) (hn : n ≤ 100000) : Calls Tryz.prog 40 #[.slice A n c] w (LinesP w (linesL L)) := by
  by_cases h0 : n = 0
  · subst h0
    have hL : Hid (linesL L = []) := by
      unfold Hid linesL
      rw [if_pos (List.eq_nil_of_length_eq_zero h.1)]
    go_enter Tryz.func40, Tryz.ntmps40
    go_wp2
    go_ret
    exact ⟨none, 0, 0, [], rfl, rfl, by rw [hL.out]; rfl, RowsK.nil_ _ _, Below.refl _ _⟩
  · have h1 : ((n : Int) == 0) = false := by rw [beq_eq_false_iff_ne]; omega
    obtain ⟨R, HR⟩ : ∃ R, Hid (linesL L = R) := ⟨_, Lib.hid rfl⟩
    have HI0 : Hid (linesK [] [] (L.drop 0) = R) := by
      unfold Hid
      rw [← HR.out]
      unfold linesL
      rw [if_neg (fun e => h0 (by rw [← h.1, e]; rfl)), List.drop_zero]
    have HN := Lib.hid h.1
    rw [HR.out]
    clear h0 HR
    go_enter Tryz.func40, Tryz.ntmps40
    go_wp2
    go_loopw [3, 13] (fun v i wr => ∃ (k gH ch P : Nat) (rs : List RowK) (r : RowK), k ≤ n ∧ i = .int .i64 k ∧ v = .slice (some ⟨gH, 0, none⟩) (P + 1) ch ∧ Hid (rs.length = P) ∧ P ≤ k ∧ r.L.length ≤ k ∧ Hid (linesK (rs.map (·.L)) r.L (L.drop k) = R) ∧ Hid (RowsK wr w.heap.size (some ⟨gH, 0, none⟩) ch (rs ++ [r])) ∧ Hid (Below w.heap.size w wr)) (fun _ i _ => n - (intOf i).toNat)
    case atStart => exact ⟨0, w.heap.size, 1, 0, [], ⟨none, 0, []⟩, Nat.zero_le _, rfl, rfl, rfl, Nat.le_refl _, Nat.le_refl _, HI0, RowsK.one w _ (Nat.le_refl _), (Below.refl _ _).alloc (Nat.le_refl _) _⟩
    case round =>
      obtain ⟨k, gH, ch, P, rs, ⟨rA, rc, rL⟩, hk, rfl, rfl, HP, hPk, hrk, HC, HRW, HB⟩ := hrel
      dsimp only at hrk HC
      by_cases hlt : k < n
      · obtain ⟨b, off, x, rfl, hbl, HX, hc0, hc1, hc2, _⟩ := (h.on HB.out (Nat.le_refl _)).at_ hlt
        have hbw : w.heap.size ≤ wr.heap.size := HB.out.size
        have hdr := drop_cons HX.out
        obtain ⟨w1, hw1⟩ : ∃ w1, wr.alloc (.cells #[.int .i64 x.k, .string x.s, .int .i64 x.n] 49) = w1 := ⟨_, rfl⟩
        by_cases h4 : x.k = 4
        · have HC2 : Hid (linesK ((rs ++ [(⟨rA, rc, rL⟩ : RowK)]).map (·.L)) [] (L.drop (k + 1)) = R) := by
            unfold Hid
            rw [← HC.out, hdr, linesK_line h4, List.map_append]
            rfl
          have b4 : (x.k == 4) = true := by rw [beq_iff_eq]; exact h4
          have HW1 : Hid (RowsK (wr.alloc (.cells #[.int .i64 x.k, .string x.s, .int .i64 x.n] 49)) w.heap.size (some ⟨gH, 0, none⟩) ch (rs ++ [(⟨rA, rc, rL⟩ : RowK)])) := HRW.out.alloc _
          have HB1 : Hid (Below w.heap.size w (wr.alloc (.cells #[.int .i64 x.k, .string x.s, .int .i64 x.n] 49))) := HB.out.alloc hbw _
          have HP1 : Hid ((rs ++ [(⟨rA, rc, rL⟩ : RowK)]).length = P + 1) := Lib.hid (by rw [List.length_append, HP.out]; rfl)
          clear hw1 hdr h4 HC HI0
          go_wp2_with (at_builtin; refine wpList_appendNew rfl (.tmp 23) (.tmp 24) rfl w.heap.size (some ⟨gH, 0, none⟩) ch (P + 1) (P + 1 + 1) (wr.heap.size + 1) (rs ++ [(⟨rA, rc, rL⟩ : RowK)]) (size_allocE _ _) rfl rfl HW1.out HP1.out rfl (by omega) HB1.out.size ?_; intro g' c' w4 HR4 HB4)
          go_roundw
          case rel => exact ⟨k + 1, g', c', P + 1, rs ++ [(⟨rA, rc, rL⟩ : RowK)], ⟨none, 0, []⟩, by omega, by go_num, rfl, HP1, by omega, Nat.zero_le _, HC2, HR4, HB4 _ _ (Nat.le_refl _) HB1.out⟩
          case measure => simp [intOf]; omega
        · have HC2 : Hid (linesK (rs.map (·.L)) (rL ++ [x]) (L.drop (k + 1)) = R) := by
            unfold Hid
            rw [← HC.out, hdr, linesK_on h4]
          have b4 : (x.k == 4) = false := by rw [beq_eq_false_iff_ne]; exact h4
          obtain ⟨q0, q1, q2⟩ : w1.cell? ⟨wr.heap.size, 0, none⟩ = some (.int .i64 x.k) ∧ w1.cell? ⟨wr.heap.size, 1, none⟩ = some (.string x.s) ∧ w1.cell? ⟨wr.heap.size, 2, none⟩ = some (.int .i64 x.n) := by
            rw [← hw1]
            exact boxCells (box_new wr x)
          obtain ⟨p, hp⟩ : ∃ p, rL.length = p := ⟨_, rfl⟩
          rw [hp] at hrk
          have hbw1 : w.heap.size ≤ w1.heap.size := by rw [← hw1]; exact Nat.le_trans hbw (size_allocT _ _)
          have HR1 : RowsK w1 w.heap.size (some ⟨gH, 0, none⟩) ch (rs ++ [(⟨rA, rc, rL⟩ : RowK)]) := by rw [← hw1]; exact HRW.out.alloc _
          have HB1 : Hid (Below w.heap.size w w1) := by unfold Hid; rw [← hw1]; exact HB.out.alloc hbw _
          obtain ⟨hc, hf⟩ := HR1.hdr_at (k := P) (r := ⟨rA, rc, rL⟩) (by rw [← HP.out]; simp)
          simp only [RowK.hdr, hp] at hc
          have HRA : Hid (RowsK (w1.alloc (.cells #[.int .i64 x.k, .string x.s, .int .i64 x.n] 49)).drew w.heap.size (some ⟨gH, 0, none⟩) ch (rs ++ [(⟨rA, rc, rL⟩ : RowK)])) := (HR1.alloc _).drew
          have HOA : Hid (OwnT (w1.alloc (.cells #[.int .i64 x.k, .string x.s, .int .i64 x.n] 49)).drew w.heap.size rA rc rL) := HRA.out.ins ⟨rA, rc, rL⟩ (by simp)
          have HBX : Hid (∃ fz, (w1.alloc (.cells #[.int .i64 x.k, .string x.s, .int .i64 x.n] 49)).drew.heap[w1.heap.size]? = some (.cells #[.int .i64 x.k, .string x.s, .int .i64 x.n] 49 fz)) := ⟨_, heap_allocT w1 _⟩
          have HSZ : Hid ((w1.alloc (.cells #[.int .i64 x.k, .string x.s, .int .i64 x.n] 49)).drew.heap.size = w1.heap.size + 1) := size_allocE _ _
          have HZA : Hid (w.heap.size ≤ (w1.alloc (.cells #[.int .i64 x.k, .string x.s, .int .i64 x.n] 49)).drew.heap.size) := Nat.le_trans hbw1 (size_allocT _ _)
          have HBA : Hid (Below w.heap.size w (w1.alloc (.cells #[.int .i64 x.k, .string x.s, .int .i64 x.n] 49)).drew) := (HB1.out.alloc hbw1 _).drew
          have hc2 := fun o => cellPastT hc o
          have HpL := Lib.hid hp
          have hl1 : p + 1 ≤ 1000000 := by omega
          have hPP : (P : Int) < (P : Int) + 1 := by omega
          clear hdr h4 HC HI0 HR1 hp
          go_wp2_with fail
          go_region_law (refine step_appendTokL rfl (.tmp 31) (.tmp 33) rfl w.heap.size rA rc p (p + 1) w1.heap.size (w1.heap.size + 1) x rL rfl rfl HBX.out HOA.out HpL.out rfl hl1 HZA.out HSZ.out ?_; intro g4 c4 w4 HO4 HG4 HL4; have hL5 : (Value.slice rA p rc).ownBlock = some g4 ∨ g4 = (w1.alloc (.cells #[.int .i64 x.k, .string x.s, .int .i64 x.n] 49)).drew.heap.size := (by rw [HSZ.out]; exact HL4); obtain ⟨key1, l4, m4, key2⟩ := RowsK.lastP HRA.out HpL.out HP.out HO4 HG4 hL5; have K1 := Lib.hid key1; have K2 := Lib.hid (key2 _ _ (Nat.le_refl _) HBA.out); clear key1 key2 hL5 HL4 HG4 HO4)
          all_goals (
            go_wp2_with fail
            go_roundw
            case rel => exact ⟨k + 1, gH, ch, P, rs, ⟨some ⟨g4, 0, none⟩, c4, rL ++ [x]⟩, by omega, by go_num, rfl, HP, by omega, by simp only [List.length_append, List.length_singleton]; rw [HpL.out]; omega, HC2, K1, K2⟩
            case measure => simp [intOf]; omega)
      · obtain rfl : n = k := by omega
        have HC2 : Hid ((rs ++ [(⟨rA, rc, rL⟩ : RowK)]).map (·.L) = R) := by
          unfold Hid
          rw [← HC.out, List.drop_of_length_le (by rw [HN.out]; omega), linesK, List.map_append]
          rfl
        clear hlt HC HI0
        go_wp2
        go_ret
        exact ⟨_, P + 1, ch, rs ++ [(⟨rA, rc, rL⟩ : RowK)], rfl, by rw [List.length_append, HP.out]; rfl, HC2.out, HRW.out, HB.out⟩
end Go.Proofs.YtbmcddolfofmdaaGreatDoor
/- Lists of tokens that read as such; a list of them behind another one; few. -/
namespace Go.Proofs.YtbmcddolfofmdaaGreatDoor
open Go.RowKit

/-- the header (H, n) leads to lists of tokens, all in blocks below B -/
structure RowsR (w : World) (B : Nat) (H : Option Addr) (n : Nat) (rs : List RowK) : Prop where
  len : rs.length = n
  at_ : 0 < n → ∃ b, H = some ⟨b, 0, none⟩ ∧ b < B ∧ ∀ (k : Nat) (r : RowK), rs[k]? = some r → w.cell? ⟨b, k, none⟩ = some r.hdr
  toks : ∀ r ∈ rs, Toks w B r.A r.L.length r.L
section
variable {w w' : World} {B B2 base ch n : Nat} {H : Option Addr} {rs : List RowK}
theorem RowsR.keep (h : RowsR w B H n rs) (hk : ∀ p : Addr, p.block < B → w'.cell? p = w.cell? p) : RowsR w' B H n rs :=
  ⟨h.len, fun h0 => by
    obtain ⟨b, e, hb, hc⟩ := h.at_ h0
    exact ⟨b, e, hb, fun k r hr => (hk _ hb).trans (hc k r hr)⟩, fun r hr => (h.toks r hr).keep hk⟩
theorem RowsR.on (h : RowsR w B H n rs) (hb : Below B2 w w') (hB : B ≤ B2) : RowsR w' B H n rs := h.keep fun _ hp => hb.cell (Nat.lt_of_lt_of_le hp hB)
theorem RowsR.more (h : RowsR w B H n rs) (hB : B ≤ B2) : RowsR w B2 H n rs :=
  ⟨h.len, fun h0 => by
    obtain ⟨b, e, hb, hc⟩ := h.at_ h0
    exact ⟨b, e, by omega, hc⟩, fun r hr => (h.toks r hr).more hB⟩
theorem RowsR.row (h : RowsR w B H n rs) {k : Nat} (hk : k < n) : ∃ b r, H = some ⟨b, 0, none⟩ ∧ b < B ∧ Hid (rs[k]? = some r) ∧ w.cell? ⟨b, k, none⟩ = some r.hdr ∧ Toks w B r.A r.L.length r.L := by
  obtain ⟨b, e, hb, hc⟩ := h.at_ (by omega)
  have hk' : k < rs.length := by rw [h.len]; exact hk
  exact ⟨b, rs[k], e, hb, List.getElem?_eq_getElem hk', hc k _ (List.getElem?_eq_getElem hk'), h.toks _ (List.getElem_mem hk')⟩
theorem RowsK.reads (h : RowsK w base H ch rs) (hn : rs.length = n) (ho : ∀ r ∈ rs, ∀ t ∈ r.L, t.ok) : RowsR w w.heap.size H n rs := by
  subst hn
  refine ⟨rfl, fun h0 => ?_, fun r hr => (h.ins r hr).toks (ho r hr)⟩
  obtain ⟨g, rfl, _, hlt⟩ := h.some_ h0
  exact ⟨g, rfl, hlt, fun k r hr => (h.hdr_at hr).1⟩
end
/-- headers of the call's own -/
def OwnHd (w : World) (base : Nat) (H : Option Addr) (ch : Nat) (hs : List RowK) : Prop := w.ownsRow base 46 1 (.slice H hs.length ch) hs.length (hs.map RowK.hdr)
theorem OwnHd.nil_ (w : World) (base : Nat) : OwnHd w base none 0 [] := w.ownsRow_nil base _ 1
theorem OwnHd.reads {w : World} {base ch n : Nat} {H : Option Addr} {hs : List RowK} (h : OwnHd w base H ch hs) (hn : hs.length = n) (ht : ∀ r ∈ hs, Toks w w.heap.size r.A r.L.length r.L) : RowsR w w.heap.size H n hs := by
  subst hn
  refine ⟨rfl, fun h0 => ?_, ht⟩
  obtain ⟨g, cap, hv, _, hlt⟩ := World.ownsRow.form h h0
  injection hv with hv
  subst hv
  refine ⟨g, rfl, hlt, fun k r hr => ?_⟩
  have hk := (List.getElem?_eq_some_iff.1 hr).1
  exact (World.ownsRow.cellAt h k (by simpa using hk)).trans (by rw [List.getElem?_map, hr]; rfl)
theorem OwnHd.row {w : World} {base ch p : Nat} {H : Option Addr} {hs : List RowK} (h : OwnHd w base H ch hs) : ∀ g, (Value.slice H p ch).ownBlock = some g → base ≤ g := by
  intro g e
  rcases h.2 with ⟨h1, _⟩ | ⟨g', cap, cur, h1, h2, _⟩
  · injection h1 with h1; rw [h1] at e; cases e
  · injection h1 with h1
    rw [h1] at e
    simp only [Value.ownBlock, Option.some.injEq] at e
    omega
theorem run_appendNilH (w : World) (base : Nat) (ty : TypeId) (v : Value) (n : Nat) (xs : List Value) (hown : w.ownsRow base 46 1 v n xs) (c : Nat) :
    (Builtin.append_ #[67, 67] ty #[v, .slice none 0 c]).run Tryz.prog w = .ok v w := by
  obtain ⟨i, hi, hz, h1, h2⟩ := info_parts infoTkRow
  have ht := Tryz.underlying67
  rcases hown.2 with ⟨rfl, rfl⟩ | ⟨g, cap, cur, rfl, _, _, hnc, _⟩ <;> simp [Builtin.append_, run_underlying ht, sizeOf, typeInfo, Builtin.lenOf, Builtin.firstCells, *, storeCells]
theorem wpList_appendHds {ops : Array Oper} {rest : List Oper} {o : Oper} {a : Act} {w : World} {Q : Exit → Act → World → Prop}
    (hg : o.guard = none) (s x : Operand) (hop : o.op = Op.call { callee := Callee.builtin Builtin.append, args := #[s, x], argTypes := #[67, 67] })
    (base : Nat) (H H2 : Option Addr) (ch m c2 B p r : Nat) (hs ys : List RowK) (hse : a.eval s = .slice H p ch) (hx : a.eval x = .slice H2 m c2) (ho : OwnHd w base H ch hs) (hp : hs.length = p) (hr : p + m = r) (hi2 : RowsR w B H2 m ys) (hl : r ≤ 1000000) (hb : base ≤ w.heap.size)
    (hK : ∀ H' c' w', OwnHd w' base H' c' (hs ++ ys) → w.grownBy w' (Value.slice H p ch).ownBlock → wpList Tryz.prog ops Q rest (a.put o.dst (.slice H' r c')) w') :
    wpList Tryz.prog ops Q (o :: rest) a w := by
  obtain ⟨i, hi, hz, h1, h2⟩ := info_parts infoTkRow
  refine wpList_plain hg fun K hK' => ?_
  subst hp
  subst hr
  have hlen := hi2.len
  have key : ∃ H' c' w', (Builtin.append_ #[67, 67] o.type #[.slice H hs.length ch, .slice H2 m c2]).run Tryz.prog w = .ok (.slice H' (hs.length + m) c') w' ∧ OwnHd w' base H' c' (hs ++ ys) ∧ w.grownBy w' (Value.slice H hs.length ch).ownBlock := by
    rcases Nat.eq_zero_or_pos m with rfl | h0
    · obtain rfl : ys = [] := List.eq_nil_of_length_eq_zero hlen
      rcases Option.eq_none_or_eq_some H2 with rfl | ⟨ad, rfl⟩
      · exact ⟨H, ch, w, by simpa using run_appendNilH w base o.type (.slice H hs.length ch) hs.length _ ho c2, by simpa using ho, World.grownBy.refl w _⟩
      · obtain ⟨v', w', hr, h3, h4, _⟩ := run_append_own (P := Tryz.prog) w base 67 o.type 46 i (.slice none 0 0) 1 24 Tryz.underlying67 hi hz h1 h2 rfl (by decide) (.slice H hs.length ch) hs.length (hs.map RowK.hdr) ho ad 0 c2 [] rfl (by simp) (by simp) (by unfold maxLen; omega) (by omega) hb
        obtain ⟨H', c', rfl⟩ : ∃ H' c', v' = .slice H' (hs.length + 0) c' := by
          rcases h3.2 with ⟨rfl, h0⟩ | ⟨g, cap, cur, rfl, _⟩
          · rw [h0]; exact ⟨_, _, rfl⟩
          · exact ⟨_, _, rfl⟩
        refine ⟨H', c', w', hr, ?_, h4⟩
        unfold OwnHd
        simpa using h3
    · obtain ⟨b, rfl, _, hc⟩ := hi2.at_ h0
      obtain ⟨v', w', hr, h3, h4, _⟩ := run_append_own (P := Tryz.prog) w base 67 o.type 46 i (.slice none 0 0) 1 24 Tryz.underlying67 hi hz h1 h2 rfl (by decide) (.slice H hs.length ch) hs.length (hs.map RowK.hdr) ho ⟨b, 0, none⟩ m c2 (ys.map RowK.hdr) (by rw [List.length_map, hlen, Nat.mul_one]) (fun j u hj => by
          rw [List.getElem?_map] at hj
          obtain ⟨r, hr, rfl⟩ := Option.map_eq_some_iff.1 hj
          have hadd : (Addr.add ⟨b, 0, none⟩ j : Addr) = ⟨b, j, none⟩ := by unfold Addr.add; split <;> simp_all
          rw [hadd]; exact hc j r hr) (fun u hu => by obtain ⟨r, _, rfl⟩ := List.mem_map.1 hu; simp [RowK.hdr, Value.oneCell']) (by unfold maxLen; omega) (by omega) hb
      obtain ⟨H', c', rfl⟩ : ∃ H' c', v' = .slice H' (hs.length + m) c' := by
        rcases h3.2 with ⟨rfl, h0⟩ | ⟨g, cap, cur, rfl, _⟩
        · rw [h0]; exact ⟨_, _, rfl⟩
        · exact ⟨_, _, rfl⟩
      refine ⟨H', c', w', hr, ?_, h4⟩
      unfold OwnHd
      rw [List.length_append, hlen, List.map_append]
      exact h3
  obtain ⟨H', c', w', hrun, ho', hb'⟩ := key
  unfold Oper.wp
  simp [execOp, hop, resolve, invoke, builtin, hse, hx, hrun, Result.andThen]
  exact hK' _ _ (hK _ _ _ ho' hb')
/-- tokens are few, and short -/
def fewL (L : List Tk) : Bool := decide ((∀ t ∈ L, t.s.size ≤ 1000) ∧ L.length ≤ 5000)
end Go.Proofs.YtbmcddolfofmdaaGreatDoor
/- purflelaw08.LexerRows returns true at every two lists of tokens. -/
namespace Go.Proofs.YtbmcddolfofmdaaGreatDoor
open Go.RowKit

theorem linesK_all : ∀ (l cur : List Tk) (D : List (List Tk)), linesK D cur l = D ++ linesK [] cur l
  | [], cur, D => by simp [linesK]
  | t :: l, cur, D => by
    by_cases h : t.k = 4
    · rw [linesK_line h, linesK_line h, linesK_all l [] (D ++ [cur]), linesK_all l [] ([] ++ [cur])]
      simp
    · rw [linesK_on h, linesK_on h, linesK_all l (cur ++ [t]) D]
theorem linesK_cat {t : Tk} (ht : t.k = 4) (m : List Tk) : ∀ (l cur : List Tk), linesK [] cur (l ++ t :: m) = linesK [] cur l ++ linesK [] [] m
  | [], cur => by
    rw [List.nil_append, linesK_line ht, linesK_all]
    rfl
  | x :: l, cur => by
    rw [List.cons_append]
    by_cases h : x.k = 4
    · rw [linesK_line h, linesK_line h, linesK_all _ [] ([] ++ [cur]), linesK_all l [] ([] ++ [cur]), linesK_cat ht m l []]
      simp
    · rw [linesK_on h, linesK_on h, linesK_cat ht m l (cur ++ [x])]
theorem linesK_mem (P : Tk → Prop) : ∀ (l cur : List Tk) (D : List (List Tk)), (∀ R ∈ D, ∀ t ∈ R, P t) → (∀ t ∈ cur, P t) → (∀ t ∈ l, t.k ≠ 4 → P t) → ∀ R ∈ linesK D cur l, ∀ t ∈ R, P t
  | [], cur, D, h1, h2, _ => by
    intro R hR
    rw [linesK, List.mem_append, List.mem_singleton] at hR
    rcases hR with hR | rfl
    · exact h1 R hR
    · exact h2
  | t :: l, cur, D, h1, h2, h3 => by
    by_cases h : t.k = 4
    · rw [linesK_line h]
      refine linesK_mem P l [] (D ++ [cur]) (fun R hR => ?_) (by simp) fun x hx => h3 x (by simp [hx])
      rw [List.mem_append, List.mem_singleton] at hR
      rcases hR with hR | rfl
      · exact h1 R hR
      · exact h2
    · rw [linesK_on h]
      refine linesK_mem P l (cur ++ [t]) D h1 (fun x hx => ?_) fun x hx => h3 x (by simp [hx])
      rw [List.mem_append, List.mem_singleton] at hx
      rcases hx with hx | rfl
      · exact h2 x hx
      · exact h3 _ (by simp) h
theorem linesL_mem (P : Tk → Prop) {l : List Tk} (h : ∀ t ∈ l, t.k ≠ 4 → P t) : ∀ R ∈ linesL l, ∀ t ∈ R, P t := by
  unfold linesL
  split
  · intro R hR; cases hR
  · exact linesK_mem P l [] [] (by simp) (by simp) h
theorem linesL_cat {t : Tk} (ht : t.k = 4) {l m : List Tk} (hl : l ≠ []) (hm : m ≠ []) : linesL (l ++ [t] ++ m) = linesL l ++ linesL m := by
  unfold linesL
  rw [if_neg hl, if_neg hm, if_neg (by simp), List.append_assoc, List.singleton_append, linesK_cat ht]
end Go.Proofs.YtbmcddolfofmdaaGreatDoor
/- purflelaw08.LexerRows, where tokens are few. -/
namespace Go.Proofs.YtbmcddolfofmdaaGreatDoor
open Go.RowKit

theorem rows_mem (P : Tk → Prop) {rs : List RowK} {l : List Tk} (h : rs.map (·.L) = linesL l) (hP : ∀ t ∈ l, t.k ≠ 4 → P t) : ∀ r ∈ rs, ∀ t ∈ r.L, P t := fun r hr => linesL_mem P hP r.L (by rw [← h]; exact List.mem_map_of_mem hr)
theorem linesK_len : ∀ (l cur : List Tk) (D : List (List Tk)), (linesK D cur l).length ≤ D.length + 1 + l.length
  | [], cur, D => by simp [linesK]
  | t :: l, cur, D => by
    by_cases h : t.k = 4
    · rw [linesK_line h]
      have := linesK_len l [] (D ++ [cur])
      simp only [List.length_append, List.length_cons, List.length_nil] at this ⊢
      omega
    · rw [linesK_on h]
      have := linesK_len l (cur ++ [t]) D
      simp only [List.length_cons]
      omega
theorem linesL_len (l : List Tk) : (linesL l).length ≤ 1 + l.length := by
  unfold linesL
  split
  · simp
  · simpa using linesK_len l [] []
theorem linesK_short : ∀ (l cur : List Tk) (D : List (List Tk)), ∀ R ∈ linesK D cur l, R ∈ D ∨ R.length ≤ cur.length + l.length
  | [], cur, D => by
    intro R hR
    rw [linesK, List.mem_append, List.mem_singleton] at hR
    rcases hR with hR | rfl
    · exact .inl hR
    · exact .inr (by omega)
  | t :: l, cur, D => by
    intro R hR
    by_cases h : t.k = 4
    · rw [linesK_line h] at hR
      rcases linesK_short l [] (D ++ [cur]) R hR with h1 | h1
      · rw [List.mem_append, List.mem_singleton] at h1
        rcases h1 with h1 | rfl
        · exact .inl h1
        · exact .inr (by omega)
      · exact .inr (by simp only [List.length_nil, List.length_cons] at h1 ⊢; omega)
    · rw [linesK_on h] at hR
      rcases linesK_short l (cur ++ [t]) D R hR with h1 | h1
      · exact .inl h1
      · exact .inr (by simp only [List.length_append, List.length_cons, List.length_nil] at h1 ⊢; omega)
theorem linesL_short {l R : List Tk} (h : R ∈ linesL l) : R.length ≤ l.length := by
  unfold linesL at h
  split at h
  · cases h
  · rcases linesK_short l [] [] R h with h1 | h1
    · cases h1
    · simpa using h1
theorem RowsR.two {w : World} {B n m : Nat} {H H2 : Option Addr} {rs ss : List RowK} (h : RowsR w B H n rs) (h2 : RowsR w B H2 m ss) : ∀ r ∈ rs ++ ss, Toks w B r.A r.L.length r.L := fun r hr => by
  rcases List.mem_append.1 hr with hr | hr
  · exact h.toks r hr
  · exact h2.toks r hr
end Go.Proofs.YtbmcddolfofmdaaGreatDoor
/- lexer.Join: the text of tokens. -/
namespace Go.Proofs.YtbmcddolfofmdaaGreatDoor
open Go.RowKit

theorem joinTail_len (sep : List UInt8) (m : Nat) : ∀ (xs : List (List UInt8)), (∀ x ∈ xs, x.length ≤ m) → (Lib.joinTail sep xs).length ≤ xs.length * (m + sep.length)
  | [], _ => by simp [Lib.joinTail]
  | x :: xs, h => by
    have h1 := joinTail_len sep m xs fun y hy => h y (by simp [hy])
    have h2 := h x (by simp)
    simp only [Lib.joinTail, List.map_cons, List.flatten_cons, List.length_append, List.length_cons] at h1 ⊢
    rw [Nat.add_mul, Nat.one_mul]
    omega
theorem join_len (sep : List UInt8) (m : Nat) (xs : List (List UInt8)) (h : ∀ x ∈ xs, x.length ≤ m) : (Lib.join xs sep).length ≤ xs.length * (m + sep.length) := by
  match xs, h with
  | [], _ => simp [Lib.join_nil]
  | x :: xs, h =>
    rw [Lib.join_cons, List.length_append, List.length_cons, Nat.add_mul, Nat.one_mul]
    have h1 := joinTail_len sep m xs fun y hy => h y (by simp [hy])
    have h2 := h x (by simp)
    omega
theorem blkL_len {L : List Tk} (h : ∀ t ∈ L, mayT t) : (blkL L).length ≤ L.length * 19 := by
  have := join_len [32] 18 (L.map fun t => bl t.s) (fun x hx => by
    obtain ⟨t, ht, rfl⟩ := List.mem_map.1 hx
    rw [bl_len]
    exact tokF_len (h t ht))
  rw [List.length_map] at this
  exact this
/-- the text of tokens: lines, an end of a line between two -/
def joinT (L : List Tk) : List UInt8 := Lib.join ((linesL L).map blkL) [10]
theorem joinT_len {L : List Tk} (h : ∀ t ∈ L, mayT t) (hn : L.length ≤ 5000) : (joinT L).length ≤ 140737488355328 := by
  have h1 := join_len [10] 95000 ((linesL L).map blkL) (fun x hx => by
    obtain ⟨R, hR, rfl⟩ := List.mem_map.1 hx
    have a := blkL_len (L := R) (linesL_mem mayT (fun t ht _ => h t ht) R hR)
    have b := linesL_short hR
    omega)
  have h2 := linesL_len L
  rw [List.length_map] at h1
  simp only [List.length_cons, List.length_nil] at h1
  have : (linesL L).length * (95000 + (0 + 1)) ≤ 5001 * (95000 + (0 + 1)) := Nat.mul_le_mul_right _ (by omega)
  exact Nat.le_trans h1 (Nat.le_trans this (by decide))
/-- what Join gives -/
def joinF (L : List Tk) : ByteArray × Int :=
  if L.all mayB = false then (⟨#[]⟩, 1) else if (∃ R ∈ linesL L, R = []) then (⟨#[]⟩, 1) else if 4096 < L.length then (⟨#[]⟩, 2) else (ofL (joinT L), 0)
def JoinP (w : World) (T : ByteArray) (E : Int) (e : Ending) (w' : World) : Prop := e = .returned (.tuple #[.string T, .int .i64 E]) ∧ Below w.heap.size w w'
set_option maxRecDepth 100000 in
set_option maxHeartbeats 8000000 in
theorem join_any (A : Option Addr) (n c : Nat) (L : List Tk) (w : World) (h : Toks w w.heap.size A n L) (hn : n ≤ 5000) : Calls Tryz.prog 22 #[.slice A n c] w (JoinP w (joinF L).1 (joinF L).2) := by
  have cB := fun w h => someBad_any A n c L w h (by omega)
  obtain ⟨a, ha⟩ : ∃ a, L.all mayB = a := ⟨_, rfl⟩
  rw [ha] at cB
  have HN := Lib.hid h.1
  cases a with
  | false =>
    have HF : Hid (joinF L = (⟨#[]⟩, 1)) := by unfold Hid joinF; rw [if_pos ha]
    rw [HF.out]
    clear HF ha
    go_enter Tryz.func22, Tryz.ntmps22
    go_wp2_with (go_at_call 42; (with_reducible refine (cB _ h).mono ?_); rintro e w1 ⟨rfl, hb1⟩)
    go_ret2
    exact ⟨rfl, hb1⟩
  | true =>
    have hmay : ∀ t ∈ L, mayT t := fun t ht => (mayB_iff t).1 (List.all_eq_true.1 ha t ht)
    have HM := Lib.hid hmay
    have hTl := Lib.hid (joinT_len hmay (by rw [h.1]; exact hn))
    have ok := Lib.hid h.2.1
    have HA := Lib.hid ha
    clear ha hmay
    obtain ⟨JT, JE, HJ⟩ : ∃ JT JE, Hid (joinF L = (JT, JE)) := ⟨_, _, Lib.hid rfl⟩
    rw [HJ.out]
    dsimp only
    go_enter Tryz.func22, Tryz.ntmps22
    go_wp2_with (first | (go_at_call 42; (with_reducible refine (cB _ h).mono ?_); rintro e w1 ⟨rfl, hb1⟩) | (go_at_call 40; (with_reducible refine (lines_any A n c L _ ((h.on hb1 (Nat.le_refl _)).more hb1.size) (by omega)).mono ?_); rintro e w2 ⟨H, nr, ch, rs, rfl, hnr, hLr, HK, hb2⟩; have HNR := Lib.hid hnr; have HLR := Lib.hid hLr; have RR := HK.reads hnr (rows_mem Tk.ok hLr fun t ht _ => ok.out t ht); clear hnr hLr HK))
    have HB2 : Hid (Below w.heap.size w w2) := hb1.trans (hb2.mono hb1.size)
    have hbr : nr ≤ 5001 := by
      have := linesL_len L
      rw [← HLR.out, List.length_map, HNR.out, HN.out] at this
      omega
    go_loopw [4, 12] (fun v i wr => ∃ (k c' : Nat) (A' : Option Addr), k ≤ nr ∧ i = .int .i64 k ∧ v = .slice A' k c' ∧ Hid (OwnSt wr w2.heap.size A' c' ((rs.take k).map fun r => ofL (blkL r.L))) ∧ Hid (∀ j r, j < k → rs[j]? = some r → r.L ≠ []) ∧ Hid (Below w2.heap.size w2 wr)) (fun _ i _ => nr - (intOf i).toNat)
    case atStart => exact ⟨0, 0, none, Nat.zero_le _, rfl, rfl, OwnSt.nil_ _ _, fun j r hj => absurd hj (by omega), Below.refl _ _⟩
    case round =>
      obtain ⟨k, c', A', hk, rfl, rfl, HO, HNE, HB⟩ := hrel
      have hbw : w2.heap.size ≤ wr.heap.size := HB.out.size
      by_cases hlt : k < nr
      · obtain ⟨bz, ⟨rA, rc, rL⟩, rfl, hbz, HZK, hcz, TZ⟩ := (RR.on HB.out (Nat.le_refl _)).row hlt
        have hrL : rL ∈ linesL L := by rw [← HLR.out]; exact List.mem_map_of_mem (List.mem_of_getElem? HZK.out)
        have hrl := linesL_short hrL
        have hbl := blkL_len (L := rL) (linesL_mem mayT (fun t ht _ => HM.out t ht) rL hrL)
        rw [HN.out] at hrl
        obtain ⟨p, hp⟩ : ∃ p, rL.length = p := ⟨_, rfl⟩
        simp only [RowK.hdr, hp] at hcz TZ hrl hbl
        have HRL := Lib.hid hrL
        have HPL := Lib.hid hp
        have HLk : Hid (((rs.take k).map fun r => ofL (blkL r.L)).length = k) := Lib.hid (by rw [List.length_map, List.length_take, HNR.out]; omega)
        have TZ2 := TZ.more hbw
        clear hrL hp TZ
        by_cases hp0 : p = 0
        · subst hp0
          have HF : Hid (JT = ⟨#[]⟩ ∧ JE = 1) := by
            have e := HJ.out
            unfold joinF at e
            rw [if_neg (by rw [HA.out]; decide), if_pos ⟨rL, HRL.out, List.eq_nil_of_length_eq_zero HPL.out⟩] at e
            injection e with e1 e2
            exact ⟨e1.symm, e2.symm⟩
          go_wp2
          go_ret2
          exact ⟨by rw [HF.out.1, HF.out.2]; rfl, HB2.out.trans (HB.out.mono HB2.out.size)⟩
        · have b0 : ((p : Int) == 0) = false := by rw [beq_eq_false_iff_ne]; omega
          have cK := blanked_any rA p rc rL wr TZ2 (by omega) (by omega)
          obtain ⟨T, hT⟩ : ∃ T, ofL (blkL rL) = T := ⟨_, rfl⟩
          rw [hT] at cK
          have HT : Hid (((rs.take (k + 1)).map fun r => ofL (blkL r.L)) = ((rs.take k).map fun r => ofL (blkL r.L)) ++ [T]) := Lib.hid (by rw [List.take_add_one, HZK.out, List.map_append, ← hT]; rfl)
          have HNE2 : Hid (∀ j r, j < k + 1 → rs[j]? = some r → r.L ≠ []) := fun j r hj hr => by
            by_cases e : j = k
            · subst e
              rw [HZK.out] at hr
              injection hr with hr
              subst hr
              intro e2
              simp only at e2
              exact hp0 (by rw [← HPL.out, e2]; rfl)
            · exact HNE.out j r (by omega) hr
          have hl1 : k + 1 ≤ 1000000 := by omega
          obtain ⟨TS, hTS⟩ : ∃ TS, ((rs.take k).map fun r => ofL (blkL r.L)) = TS := ⟨_, rfl⟩
          rw [hTS] at HO HLk HT
          clear hT hTS hp0 HNE
          go_wp2_with (first | (go_at_call 45; (with_reducible refine cK.mono ?_); rintro e w5 ⟨rfl, hb5⟩; have HO5 := HO.out.below hb5 (Nat.le_refl _); have HB5 : Below w2.heap.size w2 w5 := HB.out.trans (hb5.mono hbw); have hs5 := HB5.size) | (at_builtin; refine wpList_appendStr rfl (.tmp 19) (.tmp 22) rfl w2.heap.size A' c' k (k + 1) w5.heap.size T TS rfl rfl rfl HO5 HLk.out rfl hl1 hs5 ?_; intro A6 c6 w6 HO6 HG6))
          go_roundw
          case rel => exact ⟨k + 1, c6, A6, by omega, by go_num, rfl, by unfold Hid; rw [HT.out]; exact HO6, HNE2, HB5.grown HG6 hs5 HO5.row⟩
          case measure => simp [intOf]; omega
      · obtain rfl : nr = k := by omega
        have HNE2 : Hid (¬ ∃ R ∈ linesL L, R = []) := by
          rintro ⟨R, hR, e⟩
          rw [← HLR.out] at hR
          obtain ⟨r, hr, rfl⟩ := List.mem_map.1 hR
          obtain ⟨j, hj, ej⟩ := List.getElem_of_mem hr
          exact HNE.out j r (by rw [← HNR.out]; exact hj) (by rw [List.getElem?_eq_getElem hj, ej]) e
        clear HNE hlt
        by_cases h4 : 4096 < n
        · have HF : Hid (JT = ⟨#[]⟩ ∧ JE = 2) := by
            have e := HJ.out
            unfold joinF at e
            rw [if_neg (by rw [HA.out]; decide), if_neg HNE2.out, if_pos (by rw [HN.out]; exact h4)] at e
            injection e with e1 e2
            exact ⟨e1.symm, e2.symm⟩
          go_wp2
          go_ret2
          exact ⟨by rw [HF.out.1, HF.out.2]; rfl, HB2.out.trans (HB.out.mono HB2.out.size)⟩
        · have HF : Hid (JT = ofL (joinT L) ∧ JE = 0) := by
            have e := HJ.out
            unfold joinF at e
            rw [if_neg (by rw [HA.out]; decide), if_neg HNE2.out, if_neg (by rw [HN.out]; exact h4)] at e
            injection e with e1 e2
            exact ⟨e1.symm, e2.symm⟩
          have hTK : ((rs.take nr).map fun r => ofL (blkL r.L)).map bl = (linesL L).map blkL := by
            rw [List.take_of_length_le (by rw [HNR.out]; omega), List.map_map, ← HLR.out, List.map_map]
            apply List.map_congr_left
            intro r _
            simp [bl_ofL]
          have hTL : ((rs.take nr).map fun r => ofL (blkL r.L)).length = nr := by rw [List.length_map, List.length_take, HNR.out, Nat.min_self]
          have cJ := fun sep hl => joinSt_any A' nr c' _ sep wr HO.out hTL hl (by omega)
          rw [hTK] at cJ
          have cJ2 := cJ ⟨#[10]⟩ hTl.out
          have hJ2 : ofL (Lib.join ((linesL L).map blkL) (bl ⟨#[10]⟩)) = JT := by rw [HF.out.1]; rfl
          rw [hJ2] at cJ2
          have HE2 : Hid (JE = 0) := HF.out.2
          clear cJ hTK hTL HF hJ2 HNE2 HJ
          go_wp2_with (go_at_call 46; (with_reducible refine cJ2.mono ?_); rintro e w5 ⟨rfl, hb5⟩)
          go_ret2
          exact ⟨by rw [HE2.out]; rfl, HB2.out.trans ((HB.out.trans (hb5.mono HB.out.size)).mono HB2.out.size)⟩
end Go.Proofs.YtbmcddolfofmdaaGreatDoor
/- Blanks, tabs, remarks and ends of lines in front of a text. -/
namespace Go.Proofs.YtbmcddolfofmdaaGreatDoor
open Go.RowKit

/-- five texts that hold no token, by their place; and whether a line ends in them -/
def blankB : Nat → ByteArray
  | 0 => ⟨#[32]⟩
  | 1 => ⟨#[9]⟩
  | 2 => ⟨#[10]⟩
  | 3 => ⟨#[32, 35, 32, 110, 111, 44, 32, 91, 10]⟩
  | _ => ⟨#[10, 32, 10, 9, 10]⟩
def blankE (j : Nat) : Bool := decide (2 ≤ j)
theorem passL_blank (j : Nat) (y : List UInt8) (e : Bool) : passL e false (bl (blankB j) ++ y) = ((bl (blankB j)).length + (passL (e || blankE j) false y).1, (passL (e || blankE j) false y).2) := by
  have k32 : kb 32 = 1 := by decide
  have k9 : kb 9 = 1 := by decide
  have k35 : kb 35 = 3 := by decide
  have k110 : kb 110 = 4 := by decide
  have k111 : kb 111 = 4 := by decide
  have k44 : kb 44 = 6 := by decide
  have k91 : kb 91 = 6 := by decide
  match j with
  | 0 => show passL e false (32 :: y) = _; simp [passL, k32, blankB, bl, blankE, Nat.add_comm]
  | 1 => show passL e false (9 :: y) = _; simp [passL, k9, blankB, bl, blankE, Nat.add_comm]
  | 2 => show passL e false (10 :: y) = _; simp [passL, kb10, blankB, bl, blankE, Nat.add_comm]
  | 3 => show passL e false (32 :: 35 :: 32 :: 110 :: 111 :: 44 :: 32 :: 91 :: 10 :: y) = _; simp [passL, k32, k35, k110, k111, k44, k91, kb10, blankB, bl, blankE]; omega
  | k + 4 => show passL e false (10 :: 32 :: 10 :: 9 :: 10 :: y) = _; simp [passL, k32, k9, kb10, blankB, bl, blankE]; omega
theorem cutQ_blank (j : Nat) (y : List UInt8) (e : Bool) (L : List Tk) : cutQ e (bl (blankB j) ++ y) L = cutQ (e || blankE j) y L := by
  unfold cutQ
  rw [passL_blank]
  simp only [List.drop_append, Nat.add_sub_cancel_left]
  rw [List.drop_of_length_le (by omega), List.nil_append]
theorem cutQ_blank0 (j : Nat) (e : Bool) (L : List Tk) : cutQ e (bl (blankB j)) L = .ok L := by
  have := cutQ_blank j [] e L
  rw [List.append_nil] at this
  rw [this]
  unfold cutQ
  rw [List.drop_nil, cutE_nil]
theorem blank_size (j : Nat) : (blankB j).size ≤ 9 := by
  match j with
  | 0 | 1 | 2 | 3 => decide
  | k + 4 => show 5 ≤ 9; decide
/-- blanks at either end -/
theorem cut_around (j : Nat) (s : ByteArray) {L : List Tk} (h : cutG (bl s) = .ok L) (hs : s.size ≤ 20000) (hL : L.length ≤ 4096) : (cutF (bl (blankB j ++ s ++ ⟨#[10]⟩ ++ blankB j))).1 = L ∧ (cutF (bl (blankB j ++ s ++ ⟨#[10]⟩ ++ blankB j))).2.2 = 0 := by
  have e1 : bl (blankB j ++ s ++ ⟨#[10]⟩ ++ blankB j) = bl (blankB j) ++ (bl s ++ 10 :: bl (blankB j)) := by
    rw [bl_append, bl_append, bl_append]
    show bl (blankB j) ++ bl s ++ [10] ++ bl (blankB j) = _
    simp
  have hz := blank_size j
  rw [← bl_len] at hz hs
  have e2 : cutG (bl (blankB j ++ s ++ ⟨#[10]⟩ ++ blankB j)) = .ok L := by
    rw [e1, cutG_eq, cutQ_blank, cutQ_line, cutQ_first, ← cutG_eq, h]
    exact cutQ_blank0 _ _ _
  rw [cutF_of_ok e2 (by rw [e1]; simp only [List.length_append, List.length_cons]; omega) hL]
  exact ⟨rfl, rfl⟩
/-- blanks between -/
theorem cut_between (j : Nat) (s t : ByteArray) {L M : List Tk} (h : cutG (bl s) = .ok L) (h2 : cutG (bl t) = .ok M) (hs : s.size + t.size ≤ 20000) (hL : L.length + M.length ≤ 4000) :
    (cutF (bl (s ++ ⟨#[10]⟩ ++ blankB j ++ t))).1 = (if L = [] then [] else if M = [] then L else L ++ [lineTk]) ++ (if L ≠ [] ∧ M = [] then [] else M) ∧ (cutF (bl (s ++ ⟨#[10]⟩ ++ blankB j ++ t))).2.2 = 0 := by
  have e1 : bl (s ++ ⟨#[10]⟩ ++ blankB j ++ t) = bl s ++ 10 :: (bl (blankB j) ++ bl t) := by
    rw [bl_append, bl_append, bl_append]
    show bl s ++ [10] ++ bl (blankB j) ++ bl t = _
    simp
  have hz := blank_size j
  have hlen : (bl (s ++ ⟨#[10]⟩ ++ blankB j ++ t)).length ≤ 65536 := by
    rw [e1]
    simp only [List.length_append, List.length_cons, bl_len]
    omega
  rw [cutG_eq] at h h2
  have e2 : cutG (bl (s ++ ⟨#[10]⟩ ++ blankB j ++ t)) = cutQ true (bl t) L := by
    rw [e1, cutG_eq, cutQ_line, h]
    simp only
    rw [cutQ_blank, Bool.true_or]
  by_cases hL0 : L = []
  · subst hL0
    rw [cutQ_first, h2] at e2
    rw [cutF_of_ok e2 hlen (by simp only [List.length_nil] at hL; omega)]
    simp
  · rw [cutQ_behind h2 L hL0] at e2
    by_cases hM : M = []
    · subst hM
      rw [if_pos rfl] at e2
      rw [cutF_of_ok e2 hlen (by omega)]
      simp [hL0]
    · rw [if_neg hM] at e2
      rw [cutF_of_ok e2 hlen (by simp only [List.length_append, List.length_cons, List.length_nil]; omega)]
      simp [hL0, hM]
end Go.Proofs.YtbmcddolfofmdaaGreatDoor
