/- lexer.blanked: the text of tokens of one line. -/
import Derived.Test.YtinjkakfnppjpaaG3
import Derived.Test.YtinjkakfnppjpaaG2
import Derived.Test.YtinjkakfnppjpaaPXShelfJ
import Derived.Laws.OwnMore
namespace Go.Proofs.Ytinjkakfnppjpaa
open Go.RowKit

/-- a slice of the call's own, of texts -/
def OwnSt (w : World) (base : Nat) (A : Option Addr) (c : Nat) (ss : List ByteArray) : Prop := w.ownsRow base 9 1 (.slice A ss.length c) ss.length (ss.map Value.string)
set_option maxRecDepth 100000 in
theorem infoStr : (Try.prog.info? 9).map (fun i => (i.zero, i.size, i.bytes)) = some (some (.string ⟨#[]⟩), 1, 16) := by kernel_rfl
section
variable {w w' : World} {base B c : Nat} {A : Option Addr} {ss : List ByteArray}
theorem OwnSt.nil_ (w : World) (base : Nat) : OwnSt w base none 0 [] := w.ownsRow_nil base _ 1
theorem OwnSt.below (h : OwnSt w base A c ss) (hb : Below B w w') (hB : w.heap.size ≤ B) : OwnSt w' base A c ss :=
  World.ownsRow.kept h ⟨hb.os, hb.tape, hb.output, hb.size, fun i hi _ => hb.block i (by omega)⟩ (row := none) (by cases hh : (Value.slice A ss.length c).ownBlock with | none => exact .inl rfl | some k => exact .inr (by simp))
theorem OwnSt.alloc (h : OwnSt w base A c ss) (o : Obj) : OwnSt (w.alloc o) base A c ss := World.ownsRow.alloc h o
theorem OwnSt.row {p : Nat} (h : OwnSt w base A c ss) : ∀ g, (Value.slice A p c).ownBlock = some g → base ≤ g := by
  intro g e
  rcases h.2 with ⟨h1, _⟩ | ⟨g', cap, cur, h1, h2, _⟩
  · injection h1 with h1; rw [h1] at e; cases e
  · injection h1 with h1
    rw [h1] at e
    simp only [Value.ownBlock, Option.some.injEq] at e
    omega
theorem OwnSt.cells (h : OwnSt w base A c ss) (h0 : 0 < ss.length) : ∃ g, A = some ⟨g, 0, none⟩ ∧ g < w.heap.size ∧ ss.length ≤ c ∧ ∀ (j : Nat) x, ss[j]? = some x → w.cell? ⟨g, 0 + j, none⟩ = some (.string x) := by
  rcases h.2 with ⟨_, h1⟩ | ⟨g, cap, cur, hv, hb, hg, hnc, _, _, hr⟩
  · omega
  · injection hv with hA _ hc
    subst hA
    subst hc
    refine ⟨g, rfl, (Array.getElem?_eq_some_iff.1 hg).1, hnc, fun j x hx => ?_⟩
    have hj := (List.getElem?_eq_some_iff.1 hx).1
    rw [Nat.zero_add, cell_of_row _ _ _ _ _ _ hg]
    have h2 := congrArg (fun l => l[j]?) hr
    simp only [List.getElem?_take, List.getElem?_map, hx, Option.map_some] at h2
    rw [if_pos (by omega)] at h2
    simpa using h2
end
/-- a text more -/
theorem wpList_appendStr {ops : Array Oper} {rest : List Oper} {o : Oper} {a : Act} {w : World} {Q : Exit → Act → World → Prop}
    (hg : o.guard = none) (s x : Operand) (hop : o.op = Op.call { callee := Callee.builtin Builtin.append, args := #[s, x], argTypes := #[38, 38] })
    (base : Nat) (A : Option Addr) (c p r g : Nat) (y : ByteArray) (L : List ByteArray) (hgz : w.heap.size = g) (hs : a.eval s = .slice A p c) (hx : a.eval x = .slice (some ⟨g, 0, none⟩) 1 1)
    (ho : OwnSt w base A c L) (hp : L.length = p) (hr : p + 1 = r) (hl : r ≤ 1000000) (hb : base ≤ w.heap.size)
    (hK : ∀ A' c' w', OwnSt w' base A' c' (L ++ [y]) → w.grownBy w' (Value.slice A p c).ownBlock → wpList Try.prog ops Q rest (a.put o.dst (.slice A' r c')) w') :
    wpList Try.prog ops Q (o :: rest) a (w.alloc (.cells #[.string y] 9)) := by
  obtain ⟨i, hi, hz, h1, h2⟩ := info_parts infoStr
  subst hp
  subst hr
  subst hgz
  refine wpList_append_own _ hg s x 38 hop base 9 i (.string ⟨#[]⟩) 1 16 Try.underlying38 hi hz h1 h2 (by rfl) (by decide) _ L.length (L.map Value.string) hs (World.ownsRow.alloc ho _) ⟨w.heap.size, 0, none⟩ 1 1 [.string y] hx rfl ?_ (by simp [Value.oneCell']) (by unfold maxLen; omega) (by omega) (by simp; omega) ?_
  · intro j u hj
    match j, hj with
    | 0, hj => simp at hj; subst hj; simp [Addr.add]
    | j + 1, hj => simp at hj
  · intro v' w' hown hgr _
    obtain ⟨A', c', rfl⟩ : ∃ A' c', v' = .slice A' (L.length + 1) c' := by
      rcases hown.2 with ⟨rfl, h0⟩ | ⟨g, cap, cur, rfl, _⟩
      · omega
      · exact ⟨_, _, rfl⟩
    refine hK A' c' w' ?_ ((World.grownBy_alloc w _ _).trans hgr)
    unfold OwnSt
    rw [List.length_append, List.map_append]
    exact hown
/-- strings.Join of texts of the call's own -/
theorem joinSt_any {base : Nat} (A : Option Addr) (n c : Nat) (ss : List ByteArray) (sep : ByteArray) (w : World) (h : OwnSt w base A c ss) (hn : ss.length = n) (hl : (Lib.join (ss.map bl) (bl sep)).length ≤ 140737488355328) (hN : n ≤ 1000000) :
    Calls Try.prog 29 #[.slice A n c, .string sep] w fun e w' => e = .returned (.string (ofL (Lib.join (ss.map bl) (bl sep)))) ∧ Below w.heap.size w w' := by
  subst hn
  rcases Nat.eq_zero_or_pos ss.length with h0 | h0
  · obtain rfl : ss = [] := List.eq_nil_of_length_eq_zero h0
    refine (x_strings_Join_none A c sep w).mono ?_
    rintro e w' ⟨rfl, rfl⟩
    exact ⟨rfl, Below.refl _ _⟩
  · obtain ⟨g, rfl, hg, hc, hx⟩ := h.cells h0
    exact x_strings_Join g 0 c ss sep w hx hg (by omega) hc hl
/-- the text of one line -/
def blkL (L : List Tk) : List UInt8 := Lib.join (L.map fun t => bl t.s) [32]
set_option maxRecDepth 100000 in
set_option maxHeartbeats 4000000 in
theorem blanked_any (A : Option Addr) (n c : Nat) (L : List Tk) (w : World) (h : Toks w w.heap.size A n L) (hn : n ≤ 100000) (hl : (blkL L).length ≤ 140737488355328) : Calls Try.prog 28 #[.slice A n c] w fun e w' => e = .returned (.string (ofL (blkL L))) ∧ Below w.heap.size w w' := by
  have HN := Lib.hid h.1
  have HE : Hid (ofL (blkL L) = ofL (Lib.join ((L.map (·.s)).map bl) (bl ⟨#[32]⟩))) := Lib.hid (by unfold blkL; rw [List.map_map]; rfl)
  have HLn : Hid ((Lib.join ((L.map (·.s)).map bl) (bl ⟨#[32]⟩)).length ≤ 140737488355328) := Lib.hid (by rw [List.map_map]; exact hl)
  obtain ⟨T, HT0⟩ : ∃ T, Hid (ofL (Lib.join ((L.map (·.s)).map bl) (bl ⟨#[32]⟩)) = T) := ⟨_, Lib.hid rfl⟩
  rw [HE.out, HT0.out]
  clear HE hl
  go_enter Try.func28, Try.ntmps28
  go_wp2
  go_loopw [3, 8] (fun v i wr => ∃ (k c' : Nat) (A' : Option Addr), k ≤ n ∧ i = .int .i64 k ∧ v = .slice A' k c' ∧ Hid (OwnSt wr w.heap.size A' c' ((L.take k).map (·.s))) ∧ Hid (Below w.heap.size w wr)) (fun _ i _ => n - (intOf i).toNat)
  case atStart => exact ⟨0, 0, none, Nat.zero_le _, rfl, rfl, OwnSt.nil_ _ _, Below.refl _ _⟩
  case round =>
    obtain ⟨k, c', A', hk, rfl, rfl, HO, HB⟩ := hrel
    have HLk : Hid (((L.take k).map (·.s)).length = k) := Lib.hid (by rw [List.length_map, List.length_take, HN.out]; omega)
    by_cases hlt : k < n
    · obtain ⟨b, off, x, rfl, hbl, HX, hc0, hc1, hc2, _⟩ := (h.on HB.out (Nat.le_refl _)).at_ hlt
      have hbw : w.heap.size ≤ wr.heap.size := HB.out.size
      have HT : Hid ((L.take (k + 1)).map (·.s) = (L.take k).map (·.s) ++ [x.s]) := Lib.hid (by rw [List.take_add_one, HX.out, List.map_append]; rfl)
      have HB1 : Hid (Below w.heap.size w (wr.alloc (.cells #[.int .i64 x.k, .string x.s, .int .i64 x.n] 35))) := HB.out.alloc hbw _
      have HO1 : Hid (OwnSt (wr.alloc (.cells #[.int .i64 x.k, .string x.s, .int .i64 x.n] 35)) w.heap.size A' c' ((L.take k).map (·.s))) := HO.out.alloc _
      have hl1 : k + 1 ≤ 1000000 := by omega
      go_wp2_with (at_builtin; refine wpList_appendStr rfl (.tmp 12) (.tmp 15) rfl w.heap.size A' c' k (k + 1) (wr.heap.size + 1) x.s ((L.take k).map (·.s)) (Array.size_push _) rfl rfl HO1.out HLk.out rfl hl1 HB1.out.size ?_; intro A4 c4 w4 HO4 HG4)
      go_roundw
      case rel => exact ⟨k + 1, c4, A4, by omega, by go_num, rfl, by unfold Hid; rw [HT.out]; exact HO4, HB1.out.grown HG4 HB1.out.size HO1.out.row⟩
      case measure => simp [intOf]; omega
    · obtain rfl : n = k := by omega
      have HT : Hid ((L.take n) = L) := Lib.hid (List.take_of_length_le (by rw [HN.out]; omega))
      have HO2 : Hid (OwnSt wr w.heap.size A' c' (L.map (·.s))) := by have := HO.out; rw [HT.out] at this; exact this
      have HL2 : Hid ((L.map (·.s)).length = n) := Lib.hid (by rw [List.length_map, HN.out])
      clear HO HT hlt HLk
      go_wp2_with (go_at_call 29; (with_reducible refine (joinSt_any A' n c' (L.map (·.s)) ⟨#[32]⟩ wr HO2.out HL2.out HLn.out (by omega)).mono ?_); rintro e w5 ⟨rfl, hb5⟩; rw [HT0.out])
      go_ret
      exact ⟨rfl, HB.out.trans (hb5.mono HB.out.size)⟩
end Go.Proofs.Ytinjkakfnppjpaa
