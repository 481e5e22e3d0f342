/- append of a whole list of tokens. -/
import Derived.Test.YtgkngimeokhhgaaDoorG11
import Derived.BigFrame
import Derived.WalkLawsBesides
import Derived.Laws.StructEq
import Derived.BigQuiet
import Derived.Deep.QuietTactic
import Derived.Shelf.Lay
import Derived.Shelf.Strings.Builder1
import Derived.Shelf.Strings.Builder2
import Derived.Shelf.Strings.OnBuilder
import Derived.Test.YtgkngimeokhhgaaDoorProg
import Derived.Laws.OwnMore
import Derived.Deep.AppendLies
import Derived.Deep.RegionLaw
namespace Go.Proofs.YtgkngimeokhhgaaDoor
open Go.RowKit

theorem Toks.cells {w : World} {B n : Nat} {ad : Addr} {es : List Tk} (h : Toks w B (some ad) n es) : ∀ (j : Nat) (u : Value), (cellsT es)[j]? = some u → w.cell? (ad.add j) = some u := by
  intro j u hu
  have hj := (List.getElem?_eq_some_iff.1 hu).1
  rw [cellsT_length] at hj
  obtain ⟨hl, _, hc⟩ := h
  obtain ⟨b, off, e, _, hx⟩ := hc (by omega)
  injection e with e
  subst e
  have hk : j / 3 < es.length := by omega
  have hx' := hx (j / 3) _ (List.getElem?_eq_getElem hk)
  have hce := cellsT_at (List.getElem?_eq_getElem hk)
  have hadd : (Addr.add ⟨b, off, none⟩ j : Addr) = ⟨b, off + j, none⟩ := by
    by_cases h0 : j = 0
    · subst h0; simp [Addr.add]
    · simp [Addr.add, h0]
  rw [hadd]
  generalize es[j / 3] = y at hx' hce
  generalize hq : j / 3 = q at hx' hce
  rcases (by omega : j = 3 * q ∨ j = 3 * q + 1 ∨ j = 3 * q + 2) with rfl | rfl | rfl
  · rw [← hu, hce.1, ← hx'.1, Nat.mul_comm]
  · rw [← hu, hce.2.1, ← hx'.2.1, Nat.mul_comm, Nat.add_assoc]
  · rw [← hu, hce.2.2, ← hx'.2.2, Nat.mul_comm, Nat.add_assoc]
theorem Toks.on {w w' : World} {B B2 n : Nat} {A : Option Addr} {ss : List Tk} (h : Toks w B A n ss) (hb : Below B2 w w') (hB : B ≤ B2) : Toks w' B A n ss := h.keep fun _ hp => hb.cell (Nat.lt_of_lt_of_le hp hB)
theorem Toks.alloc {w : World} {B n : Nat} {A : Option Addr} {ss : List Tk} (h : Toks w B A n ss) (hB : B ≤ w.heap.size) (o : Obj) : Toks (w.alloc o) B A n ss := h.keep fun p hp => World.cell?_alloc_lt w o p (by omega)
theorem size_allocT (w : World) (o : Obj) : w.heap.size ≤ (w.alloc o).heap.size := by
  show _ ≤ (w.heap.push o).size
  rw [Array.size_push]
  omega
theorem Toks.grown {w w' : World} {B n : Nat} {A : Option Addr} {ss : List Tk} (h : Toks w B A n ss) {row : Option Nat} (hg : w.grownBy w' row) (hB : B ≤ w.heap.size) (hr : ∀ g, row = some g → B ≤ g) : Toks w' B A n ss :=
  h.keep fun p hp => World.cell?_of_block (hg.block p.block (by omega) (fun e => by have := hr _ e.symm; omega))
theorem OwnT.row {w : World} {base c p : Nat} {A : Option Addr} {ss : List Tk} (h : OwnT w base A c ss) : ∀ g, (Value.slice A p c).ownBlock = some g → base ≤ g := by
  intro g e
  rcases h.heap with h1 | ⟨g', cur, h1, h2, _⟩
  · rw [h1] at e; cases e
  · rw [h1] at e
    simp only [Value.ownBlock, Option.some.injEq] at e
    omega
theorem cellsT_one (ss : List Tk) : ∀ u ∈ cellsT ss, u.oneCell' = true := by
  induction ss with
  | nil => simp [cellsT]
  | cons x ss ih =>
    intro u hu
    simp only [cellsT, List.mem_cons] at hu
    rcases hu with rfl | rfl | rfl | hu
    · simp [Value.oneCell']
    · simp [Value.oneCell']
    · simp [Value.oneCell']
    · exact ih u hu
theorem run_appendNilT (w : World) (base : Nat) (ty : TypeId) (v : Value) (n : Nat) (xs : List Value) (hown : w.ownsRow base 110 3 v n xs) (c : Nat) :
    (Builtin.append_ #[84, 84] ty #[v, .slice none 0 c]).run Tryd.prog w = .ok v w := by
  obtain ⟨i, hi, hz, h1, h2⟩ := info_parts infoTok
  have ht := Tryd.underlying84
  rcases hown.2 with ⟨rfl, rfl⟩ | ⟨g, cap, cur, rfl, _, _, hnc, _⟩ <;> simp [Builtin.append_, run_underlying ht, sizeOf, typeInfo, Builtin.lenOf, Builtin.firstCells, *, storeCells]
theorem run_appendToks (w : World) (base : Nat) (ty : TypeId) (A A2 : Option Addr) (c m c2 B : Nat) (xs ys : List Tk) (ho : OwnT w base A c xs) (hs : Toks w B A2 m ys) (hl : xs.length + m ≤ 1000000) (hb : base ≤ w.heap.size) :
    ∃ A' c' w', (Builtin.append_ #[84, 84] ty #[.slice A xs.length c, .slice A2 m c2]).run Tryd.prog w = .ok (.slice A' (xs.length + m) c') w' ∧ OwnT w' base A' c' (xs ++ ys) ∧ w.grownBy w' (Value.slice A xs.length c).ownBlock := by
  obtain ⟨i, hi, hz, h1, h2⟩ := info_parts infoTok
  have hlen := hs.1
  rcases Option.eq_none_or_eq_some A2 with rfl | ⟨ad, rfl⟩
  · obtain rfl : m = 0 := by
      rcases Nat.eq_zero_or_pos m with h0 | h0
      · exact h0
      · obtain ⟨b, off, e', _⟩ := hs.2.2 h0; cases e'
    obtain rfl : ys = [] := List.eq_nil_of_length_eq_zero hlen
    have hrun := run_appendNilT w base ty (.slice A xs.length c) xs.length (cellsT xs) ho c2
    exact ⟨A, c, w, by simpa using hrun, by simpa using ho, World.grownBy.refl w _⟩
  · obtain ⟨v', w', hr, h3, h4, _⟩ := run_append_own (P := Tryd.prog) w base 84 ty 110 i (.agg #[.int .i64 0, .string ⟨#[]⟩, .int .i64 0]) 3 32 Tryd.underlying84 hi hz h1 h2 rfl (by decide) (.slice A xs.length c) xs.length (cellsT xs) ho ad m c2 (cellsT ys) (by rw [cellsT_length, hlen]; omega) hs.cells (cellsT_one ys) (by unfold maxLen; omega) (by omega) hb
    obtain ⟨A', c', rfl⟩ : ∃ A' c', v' = .slice A' (xs.length + m) c' := by
      rcases h3.2 with ⟨rfl, h0⟩ | ⟨g, cap, cur, rfl, _⟩
      · rw [h0]; exact ⟨_, _, rfl⟩
      · exact ⟨_, _, rfl⟩
    refine ⟨A', c', w', hr, ?_, h4⟩
    unfold OwnT
    rw [List.length_append, hlen, cellsT_append]
    exact h3
theorem wp_appendToks {o : Oper} {a : Act} {w : World} {K : Act → World → Prop} {Q : Exit → Act → World → Prop}
    (s x : Operand) (hop : o.op = Op.call { callee := Callee.builtin Builtin.append, args := #[s, x], argTypes := #[84, 84] })
    (base : Nat) (A A2 : Option Addr) (c m c2 B p r : Nat) (xs ys : List Tk) (hs : a.eval s = .slice A p c) (hx : a.eval x = .slice A2 m c2) (ho : OwnT w base A c xs) (hp : xs.length = p) (hr : p + m = r) (hi2 : Toks w B A2 m ys) (hl : r ≤ 1000000) (hb : base ≤ w.heap.size)
    (hK : ∀ A' c' w', OwnT w' base A' c' (xs ++ ys) → w.grownBy w' (Value.slice A p c).ownBlock → K (a.put o.dst (.slice A' r c')) w') :
    Oper.wp Tryd.prog o a w K Q := by
  subst hp
  subst hr
  obtain ⟨A', c', w', hrun, ho', hb'⟩ := run_appendToks w base o.type A A2 c m c2 B xs ys ho hi2 hl hb
  unfold Oper.wp
  simp [execOp, hop, resolve, invoke, builtin, hs, hx, hrun, Result.andThen]
  exact hK _ _ _ ho' hb'
theorem wpList_appendToks {ops : Array Oper} {rest : List Oper} {o : Oper} {a : Act} {w : World} {Q : Exit → Act → World → Prop}
    (hg : o.guard = none) (s x : Operand) (hop : o.op = Op.call { callee := Callee.builtin Builtin.append, args := #[s, x], argTypes := #[84, 84] })
    (base : Nat) (A A2 : Option Addr) (c m c2 B p r : Nat) (xs ys : List Tk) (hs : a.eval s = .slice A p c) (hx : a.eval x = .slice A2 m c2) (ho : OwnT w base A c xs) (hp : xs.length = p) (hr : p + m = r) (hi2 : Toks w B A2 m ys) (hl : r ≤ 1000000) (hb : base ≤ w.heap.size)
    (hK : ∀ A' c' w', OwnT w' base A' c' (xs ++ ys) → w.grownBy w' (Value.slice A p c).ownBlock → wpList Tryd.prog ops Q rest (a.put o.dst (.slice A' r c')) w') :
    wpList Tryd.prog ops Q (o :: rest) a w :=
  wpList_plain hg fun _ hK' => wp_appendToks s x hop base A A2 c m c2 B p r xs ys hs hx ho hp hr hi2 hl hb fun A' c' w' h1 h2 => hK' _ _ (hK A' c' w' h1 h2)
theorem wpList_appendToksG {ops : Array Oper} {rest : List Oper} {o : Oper} {a : Act} {w : World} {Q : Exit → Act → World → Prop}
    (s x : Operand) (hop : o.op = Op.call { callee := Callee.builtin Builtin.append, args := #[s, x], argTypes := #[84, 84] }) (hw : Region.wanted o (yielded ops a.tmps) = true)
    (base : Nat) (A A2 : Option Addr) (c m c2 B p r : Nat) (xs ys : List Tk) (hs : a.eval s = .slice A p c) (hx : a.eval x = .slice A2 m c2) (ho : OwnT w base A c xs) (hp : xs.length = p) (hr : p + m = r) (hi2 : Toks w B A2 m ys) (hl : r ≤ 1000000) (hb : base ≤ w.heap.size)
    (hK : ∀ A' c' w', OwnT w' base A' c' (xs ++ ys) → w.grownBy w' (Value.slice A p c).ownBlock → wpList Tryd.prog ops Q rest (a.put o.dst (.slice A' r c')) w') :
    wpList Tryd.prog ops Q (o :: rest) a w :=
  BigFrame.wpList_want hw fun _ hK' => wp_appendToks s x hop base A A2 c m c2 B p r xs ys hs hx ho hp hr hi2 hl hb fun A' c' w' h1 h2 => hK' _ _ (hK A' c' w' h1 h2)
end Go.Proofs.YtgkngimeokhhgaaDoor
/- lexer.Cut: a text's tokens, or where there is none. -/
namespace Go.Proofs.YtgkngimeokhhgaaDoor
open Go.RowKit

/-- tokens of the call's own, a place and an error -/
def CutP (w : World) (L : List Tk) (N E : Int) (e : Ending) (w' : World) : Prop :=
  ∃ A n c, e = .returned (.tuple #[.slice A n c, .int .i64 N, .int .i64 E]) ∧ L.length = n ∧ OwnT w' w.heap.size A c L ∧ Below w.heap.size w w'
theorem ltK {w w2 : World} {base c : Nat} {A : Option Addr} {L : List Tk} (h : OwnT w base A c L) (hs : w.heap.size ≤ w2.heap.size) : ∀ g, A = some ⟨g, 0, none⟩ → g < w2.heap.size := by
  intro g e
  subst e
  have := h.lt.2
  omega
/-- a box of one token stays, over one token more -/
theorem boxK {W w4 : World} {base c n g : Nat} {A : Option Addr} {L : List Tk} {t : Tk} (hb : W.heap[g]? = some (.cells #[.int .i64 t.k, .string t.s, .int .i64 t.n] 110 (0, 0))) (hG : W.grownBy w4 (Value.slice A n c).ownBlock) (hO : OwnT W base A c L) (hA : A ≠ some ⟨g, 0, none⟩) : w4.heap[g]? = some (.cells #[.int .i64 t.k, .string t.s, .int .i64 t.n] 110 (0, 0)) :=
  block_keptT hb (fun g' e e2 => hA (by rw [e, e2])) hG hO
theorem notBox {w : World} {base c g : Nat} {A : Option Addr} {L : List Tk} {t : Tk} (hb : w.heap[g]? = some (.cells #[.int .i64 t.k, .string t.s, .int .i64 t.n] 110 (0, 0))) (hO : OwnT w base A c L) (h2 : 2 ≤ L.length) : A ≠ some ⟨g, 0, none⟩ := by
  intro e
  obtain ⟨g', e', _, _, h, _⟩ := hO.rows 1 _ (List.getElem?_eq_getElem h2)
  rw [e] at e'
  injection e' with e'; injection e' with e'
  subst e'
  rw [cell_of_row _ _ _ _ _ _ hb] at h
  simp at h
theorem boxCells {w : World} {g : Nat} {t : Tk} (hb : w.heap[g]? = some (.cells #[.int .i64 t.k, .string t.s, .int .i64 t.n] 110 (0, 0))) : w.cell? ⟨g, 0, none⟩ = some (.int .i64 t.k) ∧ w.cell? ⟨g, 1, none⟩ = some (.string t.s) ∧ w.cell? ⟨g, 2, none⟩ = some (.int .i64 t.n) :=
  ⟨cell_of_row _ _ 0 _ _ _ hb, cell_of_row _ _ 1 _ _ _ hb, cell_of_row _ _ 2 _ _ _ hb⟩
theorem box_new (w : World) (t : Tk) : (w.alloc (.cells #[.int .i64 t.k, .string t.s, .int .i64 t.n] 110)).heap[w.heap.size]? = some (.cells #[.int .i64 t.k, .string t.s, .int .i64 t.n] 110 (0, 0)) := by
  show (w.heap.push _)[w.heap.size]? = _
  rw [Array.getElem?_push_size]
set_option maxRecDepth 100000 in
set_option maxHeartbeats 8000000 in
theorem cut_any (s : ByteArray) (w : World) (hs : s.size ≤ maxLen) : Calls Tryd.prog 47 #[.string s] w (CutP w (cutF (bl s)).1 (cutF (bl s)).2.1 (cutF (bl s)).2.2) := by
  by_cases h6 : 65536 < s.size
  · have hE : cutF (bl s) = ([], 0, 2) := by unfold cutF; rw [bl_len, if_pos h6]
    rw [hE]
    clear hE
    unfold maxLen at hs
    go_enter Tryd.func47, Tryd.ntmps47
    go_wp2
    exact bodyPost_ret (v := .tuple #[.slice none 0 0, .int .i64 0, .int .i64 2]) (by simp [results, Tryd.results47, go_sem]) rfl ⟨none, 0, 0, rfl, rfl, OwnT.nil_ _ _, Below.refl _ _⟩
  · have hsz : s.size ≤ 65536 := by omega
    obtain ⟨R, HR⟩ : ∃ R, Hid (cutG (bl s) = R) := ⟨_, Lib.hid rfl⟩
    have HE : Hid (cutF (bl s) = cutH s.size R) := by
      unfold Hid cutF
      rw [bl_len, if_neg h6, HR.out]
    have cP := fun w => pass_any s 0 w (by omega) (by omega) _ _ (Lib.hid (passAt_fst (bl s) 0))
    obtain ⟨p0, hp0⟩ : ∃ p, 0 + (passL false false ((bl s).drop 0)).1 = p := ⟨_, rfl⟩
    obtain ⟨e0, he0⟩ : ∃ e, (passL false false ((bl s).drop 0)).2 = e := ⟨_, rfl⟩
    rw [hp0, he0] at cP
    have hp0l : p0 ≤ s.size := by
      have := passL_le ((bl s).drop 0) false false
      rw [List.length_drop, bl_len] at this
      omega
    have HI0 : Hid (cutE ((bl s).drop p0) e0 [] = R) := by
      unfold Hid
      rw [← HR.out, ← hp0, ← he0, List.drop_zero, Nat.zero_add]
      rfl
    clear hp0 he0 hs HR h6
    go_enter Tryd.func47, Tryd.ntmps47
    go_wp2_with (go_at_call 62; refine (cP _).mono ?_; rintro e w1 ⟨rfl, rfl⟩)
    go_loopw [5, 6, 7] (fun o a x wr => ∃ (L : List Tk) (A : Option Addr) (n c k : Nat) (e : Bool), o = .slice A n c ∧ a = .int .i64 k ∧ x = .bool e ∧ k ≤ s.size ∧ Hid (L.length = n) ∧ Hid (OwnT wr w.heap.size A c L) ∧ Hid (Below w.heap.size w wr) ∧ Hid (cutE ((bl s).drop k) e L = R) ∧ n ≤ 2 * k) (fun _ a _ _ => s.size - (intOf a).toNat)
    case atStart => exact ⟨[], none, 0, 0, p0, e0, rfl, rfl, rfl, hp0l, rfl, OwnT.nil_ _ _, Below.refl _ _, HI0, by omega⟩
    case round =>
      obtain ⟨L, A, n, c, k, e, rfl, rfl, rfl, hk, HL, HO, HB, HC, hn⟩ := hrel
      have hsz0 := HB.out.size
      by_cases hlt : k < s.size
      · have hr : (bl s).drop k ≠ [] := by
          intro h
          have := congrArg List.length h
          rw [List.length_drop, bl_len] at this
          simp at this
          omega
        obtain ⟨m, hm⟩ : ∃ m, mF ((bl s).drop k) = m := ⟨_, rfl⟩
        have hm1 : 1 ≤ m := by rw [← hm]; exact mF_pos _
        have hm2 : k + m ≤ s.size := by
          have := mF_le hr
          rw [hm, List.length_drop, bl_len] at this
          omega
        obtain ⟨v, hv⟩ : ∃ v, ofL (((bl s).drop k).take m) = v := ⟨_, rfl⟩
        have hvs : v.size = m := by rw [← hv, ofL_size, List.length_take, List.length_drop, bl_len]; omega
        have ex : s.extract k s.size = ofL ((bl s).drop k) := by
          rw [extract_ofL, List.take_of_length_le]
          rw [List.length_drop, bl_len]
          omega
        have cF : ∀ W, Calls Tryd.prog 64 #[.string (s.extract k s.size)] W fun e w' => e = .returned (.string v) ∧ W = w' := by
          intro W
          have h := front_any (s.extract k s.size) W (by rw [ex, ofL_size, List.length_drop, bl_len]; unfold maxLen; omega) (by rw [ex, ofL_size, List.length_drop, bl_len]; omega)
          rw [ex, bl_ofL, extract_ofL, bl_ofL, List.drop_zero, Nat.sub_zero] at h
          rw [ex, ← hv, ← hm]
          exact h
        have cT := fun W => token_any v W (by unfold maxLen; omega)
        have hvs1 : v.size ≠ 0 := by omega
        have c0 : (0 : Int) ≤ (k : Int) := by omega
        have c1 : (k : Int) ≤ (s.size : Int) := by omega
        cases ht : tokF v with
        | none =>
          rw [ht] at cT
          change ∀ W, Calls Tryd.prog 63 #[.string v] W fun e w' => e = .returned (.tuple #[.agg #[.int .i64 0, .string ⟨#[]⟩, .int .i64 0], .bool false]) ∧ Below W.heap.size W w' at cT
          have HQ : Hid (cutF (bl s) = ([], (k : Int), 6)) := by
            have h := HC.out
            rw [cutE_bad hr (by rw [hm, hv]; exact ht), List.length_drop, bl_len] at h
            unfold Hid
            rw [HE.out, ← h]
            show (([], ((s.size - (s.size - k) : Nat) : Int), 6) : List Tk × Int × Int) = _
            rw [show s.size - (s.size - k) = k by omega]
          clear ht hv hm ex hr HC HE HI0 cP
          go_wp2_with (first | (go_at_call 64; refine (cF _).mono ?_; rintro e w1 ⟨rfl, rfl⟩) | (go_at_call 63; refine (cT _).mono ?_; rintro e w2 ⟨rfl, hb2⟩))
          rw [HQ.out]
          exact bodyPost_ret (v := .tuple #[.slice none 0 0, .int .i64 k, .int .i64 6]) (by simp [results, Tryd.results47, go_sem]) rfl ⟨none, 0, 0, rfl, rfl, OwnT.nil_ _ _, (HB.out.trans (hb2.mono hsz0)).alloc (Nat.le_trans hsz0 hb2.size) _⟩
        | some t =>
          obtain ⟨a, v', nn⟩ := t
          have hvv := tokF_text hvs1 ht
          simp only at hvv
          subst hvv
          rw [ht] at cT
          change ∀ W, Calls Tryd.prog 63 #[.string v'] W fun e w' => e = .returned (.tuple #[.agg #[.int .i64 a, .string v', .int .i64 nn], .bool true]) ∧ Below W.heap.size W w' at cT
          have HHT := Lib.hid ht
          have HVM : Hid (v'.size = m) := hvs
          have hl1 : n + 1 ≤ 1000000 := by omega
          have hvb : k + v'.size ≤ s.size := by omega
          have hv1 : 1 ≤ v'.size := by omega
          have HC2 : ∀ L', withLine e L ⟨a, v', nn⟩ = L' → Hid (cutE (((bl s).drop (k + v'.size)).drop (passL false false ((bl s).drop (k + v'.size))).1) (passL false false ((bl s).drop (k + v'.size))).2 L' = R) := by
            intro L' e'
            have h := HC.out
            rw [cutE_on hr (by rw [hm, hv]; exact ht), hm, e'] at h
            unfold Hid
            rw [hvs]
            simp only [List.drop_drop] at h ⊢
            exact h
          have cP2 := fun W => pass_any s (k + v'.size) W (by omega) hvb _ _ (Lib.hid (passAt_fst (bl s) (k + v'.size)))
          have hple := passL_le ((bl s).drop (k + v'.size)) false false
          rw [List.length_drop, bl_len] at hple
          generalize hP1 : (passL false false ((bl s).drop (k + v'.size))).1 = P1 at HC2 cP2 hple
          generalize hE1 : (passL false false ((bl s).drop (k + v'.size))).2 = E1 at HC2 cP2
          simp only [Int.natCast_add, List.drop_drop] at cP2 HC2
          clear ht hv hm ex hr HC HE HI0 cP hvs hP1 hE1 hm2
          cases e with
          | false =>
            have HCN := HC2 (L ++ [⟨a, v', nn⟩]) (by unfold withLine; rw [if_neg (by simp)])
            clear HC2
            go_wp2_with (first | (go_at_call 64; refine (cF _).mono ?_; rintro e w1 ⟨rfl, rfl⟩) | (go_at_call 63; refine (cT _).mono ?_; rintro e w2 ⟨rfl, hb2⟩; have HO2 := Lib.hid ((HO.out.below hb2 (Nat.le_refl _)).alloc (.cells #[.int .i64 a, .string v', .int .i64 nn] 110)); have HB2 := Lib.hid ((HB.out.trans (hb2.mono hsz0)).alloc (Nat.le_trans hsz0 hb2.size) (.cells #[.int .i64 a, .string v', .int .i64 nn] 110)); have hsz2 := hb2.size; have HA2 := Lib.hid (ltK HO.out hb2.size); have HX2 := Lib.hid (box_new w2 ⟨a, v', nn⟩)) | (go_at_call 62; refine (cP2 _).mono ?_; rintro e w6 ⟨rfl, rfl⟩) | (at_builtin; refine wpList_appendTok rfl (.tmp 43) (.tmp 45) rfl w.heap.size A c n (n + 1) (w2.heap.size + 1) ⟨a, v', nn⟩ L (Array.size_push _) rfl rfl HO2.out HL.out rfl hl1 HB2.out.size ?_; intro A4 c4 w4 HO4 HG4; have HX4 := Lib.hid (boxK (t := ⟨a, v', nn⟩) HX2.out HG4 HO2.out (fun e => absurd (HA2.out _ e) (Nat.lt_irrefl _))); obtain ⟨_, hx4, _⟩ := boxCells (t := ⟨a, v', nn⟩) HX4.out; have hsz4 := HG4.size))
            refine ⟨⟨L ++ [⟨a, v', nn⟩], A4, n + 1, c4, k + v'.size + P1, E1, rfl, congrArg (Value.int .i64) (by omega), rfl, by omega, Lib.hid (by rw [List.length_append, HL.out]; rfl), Lib.hid HO4, Lib.hid (below_appT HB2.out HG4 HO2.out HB2.out.size), HCN, by omega⟩, by simp [intOf]; omega⟩
          | true =>
            by_cases hn0 : n = 0
            · subst hn0
              have HCN := HC2 (L ++ [⟨a, v', nn⟩]) (by unfold withLine; rw [if_neg (fun h => h.2 (List.eq_nil_of_length_eq_zero HL.out))])
              clear HC2
              go_wp2_with (first | (go_at_call 64; refine (cF _).mono ?_; rintro e w1 ⟨rfl, rfl⟩) | (go_at_call 63; refine (cT _).mono ?_; rintro e w2 ⟨rfl, hb2⟩; have HO2 := Lib.hid ((HO.out.below hb2 (Nat.le_refl _)).alloc (.cells #[.int .i64 a, .string v', .int .i64 nn] 110)); have HB2 := Lib.hid ((HB.out.trans (hb2.mono hsz0)).alloc (Nat.le_trans hsz0 hb2.size) (.cells #[.int .i64 a, .string v', .int .i64 nn] 110)); have hsz2 := hb2.size; have HA2 := Lib.hid (ltK HO.out hb2.size); have HX2 := Lib.hid (box_new w2 ⟨a, v', nn⟩)) | (go_at_call 62; refine (cP2 _).mono ?_; rintro e w6 ⟨rfl, rfl⟩) | (at_builtin; refine wpList_appendTok rfl (.tmp 43) (.tmp 45) rfl w.heap.size A c 0 (0 + 1) (w2.heap.size + 1) ⟨a, v', nn⟩ L (Array.size_push _) rfl rfl HO2.out HL.out rfl hl1 HB2.out.size ?_; intro A4 c4 w4 HO4 HG4; have HX4 := Lib.hid (boxK (t := ⟨a, v', nn⟩) HX2.out HG4 HO2.out (fun e => absurd (HA2.out _ e) (Nat.lt_irrefl _))); obtain ⟨_, hx4, _⟩ := boxCells (t := ⟨a, v', nn⟩) HX4.out; have hsz4 := HG4.size))
              refine ⟨⟨L ++ [⟨a, v', nn⟩], A4, 0 + 1, c4, k + v'.size + P1, E1, rfl, congrArg (Value.int .i64) (by omega), rfl, by omega, Lib.hid (by rw [List.length_append, HL.out]; rfl), Lib.hid HO4, Lib.hid (below_appT HB2.out HG4 HO2.out HB2.out.size), HCN, by omega⟩, by simp [intOf]; omega⟩
            · have HCN := HC2 (L ++ [lineTk] ++ [⟨a, v', nn⟩]) (by unfold withLine; rw [if_pos ⟨rfl, fun h => hn0 (by rw [← HL.out, h]; rfl)⟩])
              have hnp : 0 < n := by omega
              have hl2 : n + 1 + 1 ≤ 1000000 := by omega
              clear HC2 hn0
              go_wp2_with (first | (go_at_call 64; refine (cF _).mono ?_; rintro e w1 ⟨rfl, rfl⟩) | (go_at_call 63; refine (cT _).mono ?_; rintro e w2 ⟨rfl, hb2⟩; have HO2 := Lib.hid ((HO.out.below hb2 (Nat.le_refl _)).alloc (.cells #[.int .i64 a, .string v', .int .i64 nn] 110)); have HB2 := Lib.hid ((HB.out.trans (hb2.mono hsz0)).alloc (Nat.le_trans hsz0 hb2.size) (.cells #[.int .i64 a, .string v', .int .i64 nn] 110)); have hsz2 := hb2.size; have HA2 := Lib.hid (ltK HO.out hb2.size); have HX2 := Lib.hid (box_new w2 ⟨a, v', nn⟩)) | (go_at_call 62; refine (cP2 _).mono ?_; rintro e w6 ⟨rfl, rfl⟩) | (at_builtin; refine wpList_appendTok rfl (.tmp 39) (.tmp 41) rfl w.heap.size A c n (n + 1) (w2.heap.size + 1) lineTk L (Array.size_push _) rfl rfl HO2.out HL.out rfl hl1 HB2.out.size ?_; intro A4 c4 w4 HO4 HG4; have HX4 := Lib.hid (boxK (t := ⟨a, v', nn⟩) HX2.out HG4 HO2.out (fun e => absurd (HA2.out _ e) (Nat.lt_irrefl _))); obtain ⟨hx0, hx1, hx2⟩ := boxCells (t := ⟨a, v', nn⟩) HX4.out; have hsz4 := HG4.size; have HL4 : Hid ((L ++ [lineTk]).length = n + 1) := Lib.hid (by rw [List.length_append, HL.out]; rfl); have hB4 : w.heap.size ≤ w4.heap.size := Nat.le_trans HB2.out.size HG4.size) | (at_builtin; refine wpList_appendTok rfl (.tmp 43) (.tmp 45) rfl w.heap.size A4 c4 (n + 1) (n + 1 + 1) w4.heap.size ⟨a, v', nn⟩ (L ++ [lineTk]) rfl rfl rfl HO4 HL4.out rfl hl2 hB4 ?_; intro A5 c5 w5 HO5 HG5; have HX5 := Lib.hid (boxK (t := ⟨a, v', nn⟩) HX4.out HG5 HO4 (notBox (t := ⟨a, v', nn⟩) HX4.out HO4 (by rw [HL4.out]; omega))); obtain ⟨_, hx5, _⟩ := boxCells (t := ⟨a, v', nn⟩) HX5.out))
              refine ⟨⟨L ++ [lineTk] ++ [⟨a, v', nn⟩], A5, n + 1 + 1, c5, k + v'.size + P1, E1, rfl, congrArg (Value.int .i64) (by omega), rfl, by omega, Lib.hid (by rw [List.length_append, HL4.out]; rfl), Lib.hid HO5, Lib.hid (below_appT (below_appT HB2.out HG4 HO2.out HB2.out.size) HG5 HO4 hB4), HCN, by omega⟩, by simp [intOf]; omega⟩
      · obtain rfl : s.size = k := by omega
        have hR : R = .ok L := by
          rw [← HC.out, List.drop_of_length_le (by rw [bl_len]; omega), cutE_nil]
        subst hR
        clear hlt HC HI0 cP
        by_cases h4 : 4096 < n
        · have HQ : Hid (cutF (bl s) = ([], 0, 2)) := by
            unfold Hid
            rw [HE.out]
            unfold cutH
            simp only
            rw [if_pos (by rw [HL.out]; exact h4)]
          go_wp2
          rw [HQ.out]
          exact bodyPost_ret (v := .tuple #[.slice none 0 0, .int .i64 0, .int .i64 2]) (by simp [results, Tryd.results47, go_sem]) rfl ⟨none, 0, 0, rfl, rfl, OwnT.nil_ _ _, HB.out⟩
        · have HQ : Hid (cutF (bl s) = (L, (s.size : Int), 0)) := by
            unfold Hid
            rw [HE.out]
            unfold cutH
            simp only
            rw [if_neg (by rw [HL.out]; exact h4)]
          go_wp2
          rw [HQ.out]
          exact bodyPost_ret (v := .tuple #[.slice A n c, .int .i64 s.size, .int .i64 0]) (by simp [results, Tryd.results47, go_sem]) rfl ⟨A, n, c, rfl, HL.out, HO.out, HB.out⟩
end Go.Proofs.YtgkngimeokhhgaaDoor
/- The document's Same: whether two lists of tokens are. -/
namespace Go.Proofs.YtgkngimeokhhgaaDoor
open Go.RowKit

def eqTk (a b : Tk) : Bool := a.k == b.k && (a.s.toList == b.s.toList && a.n == b.n)
theorem eqTk_iff (a b : Tk) : eqTk a b = true ↔ a = b := by
  obtain ⟨k, s, n⟩ := a
  obtain ⟨k', s', n'⟩ := b
  unfold eqTk
  simp only [Bool.and_eq_true, beq_iff_eq, Tk.mk.injEq]
  have h : s.toList = s'.toList ↔ s = s' :=
    ⟨fun h => by rw [← Lib.mk_data s, ← Lib.mk_data s', ← Lib.toList_data, ← Lib.toList_data, h], fun h => by rw [h]⟩
  rw [h]
set_option maxRecDepth 100000 in
theorem tk_eqIn (a b : Tk) (w : World) : (Op.equalIn 10000 110 (.agg #[.int .i64 a.k, .string a.s, .int .i64 a.n]) (.agg #[.int .i64 b.k, .string b.s, .int .i64 b.n])).run Tryd.prog w = .ok (eqTk a b) w := by
  have hp0 : ∀ a : Tk, (part 3 #[Value.int .i64 a.k, .string a.s, .int .i64 a.n] 0).run Tryd.prog w = .ok (.int .i64 a.k) w := fun a => by kernel_rfl
  have hp1 : ∀ a : Tk, (part 9 #[Value.int .i64 a.k, .string a.s, .int .i64 a.n] 1).run Tryd.prog w = .ok (.string a.s) w := fun a => by kernel_rfl
  have hp2 : ∀ a : Tk, (part 2 #[Value.int .i64 a.k, .string a.s, .int .i64 a.n] 2).run Tryd.prog w = .ok (.int .i64 a.n) w := fun a => by kernel_rfl
  have hf : (Tryd.prog.fieldsOf 110).toList.map (fun f => (f.name, f.type, f.offset)) = [("Kind", 3, 0), ("S", 9, 1), ("N", 2, 2)] := by kernel_rfl
  rw [run_equalIn_struct w 9999 110 _ _ (by kernel_rfl) (by kernel_rfl)]
  obtain ⟨L, hL⟩ : ∃ L, (Tryd.prog.fieldsOf 110).toList = L := ⟨_, rfl⟩
  rw [hL] at hf ⊢
  match L, hf with
  | [f0, f1, f2], hf =>
    simp only [List.map_cons, List.map_nil, List.cons.injEq, Prod.mk.injEq, and_true] at hf
    obtain ⟨⟨n0, t0, o0⟩, ⟨n1, t1, o1⟩, n2, t2, o2⟩ := hf
    have h3 : ∀ a b : Int, (Op.equalIn 9999 3 (.int .i64 a) (.int .i64 b)).run Tryd.prog w = .ok (a == b) w := fun a b => run_equalIn_int w 9998 3 .i64 .i64 a b Tryd.underlying3
    have h4 : ∀ a b : Int, (Op.equalIn 9999 2 (.int .i64 a) (.int .i64 b)).run Tryd.prog w = .ok (a == b) w := fun a b => run_equalIn_int w 9998 2 .i64 .i64 a b Tryd.underlying2
    have h5 : ∀ a b : ByteArray, (Op.equalIn 9999 9 (.string a) (.string b)).run Tryd.prog w = .ok (a.toList == b.toList) w := fun a b => run_equalIn_string w 9998 9 a b Tryd.underlying9
    unfold eqTk
    cases e1 : (a.k == b.k) <;> cases e2 : (a.s.toList == b.s.toList) <;> cases e3 : (a.n == b.n) <;> simp [Op.eqFields, n0, n1, n2, t0, t1, t2, o0, o1, o2, hp0, hp1, hp2, h3, h4, h5, e1, e2, e3]
theorem tk_neq (a b : Tk) (w : World) : (binOp .neq 110 (.agg #[.int .i64 a.k, .string a.s, .int .i64 a.n]) (.agg #[.int .i64 b.k, .string b.s, .int .i64 b.n])).run Tryd.prog w = .ok (.bool !(eqTk a b)) w := by
  rw [run_neq_struct, tk_eqIn]
  rfl
theorem tk_eql (a b : Tk) (w : World) : (binOp .eql 110 (.agg #[.int .i64 a.k, .string a.s, .int .i64 a.n]) (.agg #[.int .i64 b.k, .string b.s, .int .i64 b.n])).run Tryd.prog w = .ok (.bool (eqTk a b)) w := by
  rw [run_eql_struct, tk_eqIn]
  rfl
/-- whether two lists of tokens are the same -/
def sameTL : List Tk → List Tk → Bool
  | [], [] => true
  | a :: l, b :: m => eqTk a b && sameTL l m
  | _, _ => false
theorem sameTL_iff : ∀ l m, sameTL l m = true ↔ l = m
  | [], [] => by simp [sameTL]
  | [], b :: m => by simp [sameTL]
  | a :: l, [] => by simp [sameTL]
  | a :: l, b :: m => by
    rw [sameTL, Bool.and_eq_true, eqTk_iff, sameTL_iff l m, List.cons.injEq]
theorem sameTL_no {l m : List Tk} (h : l ≠ m) : sameTL l m = false := by
  cases e : sameTL l m
  · rfl
  · exact absurd ((sameTL_iff l m).1 e) h
theorem drewN_two (w : World) (a b : Nat) : (w.drewN a).drewN b = w.drewN (a + b) := by
  first | exact World.drewN_drewN w a b | (simp [World.drewN]; omega)
end Go.Proofs.YtgkngimeokhhgaaDoor
/- What the laws over texts share. -/
namespace Go.Proofs.YtgkngimeokhhgaaDoor
open Go.RowKit

theorem OwnT.rd {w : World} {base c : Nat} {A : Option Addr} {ss : List Tk} (h : OwnT w base A c ss) (hx : ∀ x ∈ ss, x.ok) {n : Nat} (hn : ss.length = n) : Toks w w.heap.size A n ss := by
  subst hn; exact h.toks hx
theorem below_dX {B : Nat} {w W : World} (h : Below B w W) (m : Nat) : Below B w (W.drewN m) := ⟨h.os, h.tape, h.output, h.size, h.block⟩
theorem sameTL_rfl (l : List Tk) : sameTL l l = true := (sameTL_iff l l).2 rfl
theorem bl_append (s t : ByteArray) : bl (s ++ t) = bl s ++ bl t := by simp [bl]
theorem bl_take (s : ByteArray) (a : Nat) : bl (s.extract 0 a) = (bl s).take a := by
  rw [extract_ofL, bl_ofL, List.drop_zero, Nat.sub_zero]
/-- behind an end of a line -/
theorem cutG_line (l y : List UInt8) : cutG (l ++ 10 :: y) = match cutG l with | .ok L => cutQ true y L | .error q => .error (q + 1 + y.length) := cutQ_line l y false []
end Go.Proofs.YtgkngimeokhhgaaDoor
/- lexer.Check; whether each token of a list may be. -/
namespace Go.Proofs.YtgkngimeokhhgaaDoor
open Go.RowKit

/-- a token may be: it is the one whose text it has -/
def mayB (t : Tk) : Bool := match tokF t.s with | some u => eqTk t u | none => false
theorem mayB_iff (t : Tk) : mayB t = true ↔ mayT t := by
  unfold mayB mayT
  cases tokF t.s with
  | none => simp
  | some u =>
    simp only [eqTk_iff, Option.some.injEq]
    exact ⟨fun h => h.symm, fun h => h.symm⟩
/-- what Check gives -/
def chkE (b : Bool) : Int := if b then 0 else 1
end Go.Proofs.YtgkngimeokhhgaaDoor
/- lexer.blanked: the text of tokens of one line. -/
namespace Go.Proofs.YtgkngimeokhhgaaDoor
open Go.RowKit

/-- a slice of the call's own, of texts -/
def OwnSt (w : World) (base : Nat) (A : Option Addr) (c : Nat) (ss : List ByteArray) : Prop := w.ownsRow base 9 1 (.slice A ss.length c) ss.length (ss.map Value.string)
set_option maxRecDepth 100000 in
theorem infoStr : (Tryd.prog.info? 9).map (fun i => (i.zero, i.size, i.bytes)) = some (some (.string ⟨#[]⟩), 1, 16) := by kernel_rfl
section
variable {w w' : World} {base B c : Nat} {A : Option Addr} {ss : List ByteArray}
theorem OwnSt.nil_ (w : World) (base : Nat) : OwnSt w base none 0 [] := w.ownsRow_nil base _ 1
theorem OwnSt.below (h : OwnSt w base A c ss) (hb : Below B w w') (hB : w.heap.size ≤ B) : OwnSt w' base A c ss :=
  World.ownsRow.kept h ⟨hb.os, hb.tape, hb.output, hb.size, fun i hi _ => hb.block i (by omega)⟩ (row := none) (by cases hh : (Value.slice A ss.length c).ownBlock with | none => exact .inl rfl | some k => exact .inr (by simp))
theorem OwnSt.alloc (h : OwnSt w base A c ss) (o : Obj) : OwnSt (w.alloc o) base A c ss := World.ownsRow.alloc h o
theorem OwnSt.row {p : Nat} (h : OwnSt w base A c ss) : ∀ g, (Value.slice A p c).ownBlock = some g → base ≤ g := by
  intro g e
  rcases h.2 with ⟨h1, _⟩ | ⟨g', cap, cur, h1, h2, _⟩
  · injection h1 with h1; rw [h1] at e; cases e
  · injection h1 with h1
    rw [h1] at e
    simp only [Value.ownBlock, Option.some.injEq] at e
    omega
theorem OwnSt.cells (h : OwnSt w base A c ss) (h0 : 0 < ss.length) : ∃ g, A = some ⟨g, 0, none⟩ ∧ g < w.heap.size ∧ ss.length ≤ c ∧ ∀ (j : Nat) x, ss[j]? = some x → w.cell? ⟨g, 0 + j, none⟩ = some (.string x) := by
  rcases h.2 with ⟨_, h1⟩ | ⟨g, cap, cur, hv, hb, hg, hnc, _, _, hr⟩
  · omega
  · injection hv with hA _ hc
    subst hA
    subst hc
    refine ⟨g, rfl, (Array.getElem?_eq_some_iff.1 hg).1, hnc, fun j x hx => ?_⟩
    have hj := (List.getElem?_eq_some_iff.1 hx).1
    rw [Nat.zero_add, cell_of_row _ _ _ _ _ _ hg]
    have h2 := congrArg (fun l => l[j]?) hr
    simp only [List.getElem?_take, List.getElem?_map, hx, Option.map_some] at h2
    rw [if_pos (by omega)] at h2
    simpa using h2
end
/-- the text of one line -/
def blkL (L : List Tk) : List UInt8 := Lib.join (L.map fun t => bl t.s) [32]
end Go.Proofs.YtgkngimeokhhgaaDoor
/- Lists of tokens of the call's own, in a slice of the call's own; no two share a block. -/
namespace Go.Proofs.YtgkngimeokhhgaaDoor
open Go.RowKit

structure RowK where
  A : Option Addr
  c : Nat
  L : List Tk
def RowK.hdr (r : RowK) : Value := .slice r.A r.L.length r.c
structure RowsK (w : World) (base : Nat) (H : Option Addr) (ch : Nat) (rs : List RowK) : Prop where
  rows : w.ownsRow base 84 1 (.slice H rs.length ch) rs.length (rs.map RowK.hdr)
  ins : ∀ r ∈ rs, OwnT w base r.A r.c r.L
  apart : rs.Pairwise fun r s => ∀ g, r.A = some ⟨g, 0, none⟩ → s.A ≠ some ⟨g, 0, none⟩
set_option maxRecDepth 100000 in
theorem infoTkRow : (Tryd.prog.info? 84).map (fun i => (i.zero, i.size, i.bytes)) = some (some (.slice none 0 0), 1, 24) := by kernel_rfl
section
variable {w w' w4 : World} {base ch : Nat} {H : Option Addr} {rs : List RowK}
theorem RowsK.nil_ (w : World) (base : Nat) : RowsK w base none 0 [] := ⟨w.ownsRow_nil base _ 1, fun s hs => (by cases hs), List.Pairwise.nil⟩
theorem RowsK.below {B : Nat} (h : RowsK w base H ch rs) (hb : Below B w w') (hB : w.heap.size ≤ B) : RowsK w' base H ch rs :=
  ⟨World.ownsRow.kept h.rows ⟨hb.os, hb.tape, hb.output, hb.size, fun i hi _ => hb.block i (by omega)⟩ (row := none) (by cases hh : (Value.slice H rs.length ch).ownBlock with | none => exact .inl rfl | some k => exact .inr (by simp)), fun s hs => (h.ins s hs).below hb hB, h.apart⟩
theorem RowsK.alloc (h : RowsK w base H ch rs) (o : Obj) : RowsK (w.alloc o) base H ch rs := ⟨World.ownsRow.alloc h.rows o, fun s hs => (h.ins s hs).alloc o, h.apart⟩
theorem RowsK.heap (h : RowsK w base H ch rs) : H = none ∨ ∃ g cur, H = some ⟨g, 0, none⟩ ∧ base ≤ g ∧ w.heap[g]? = some (.cells cur 84 (0, 0)) := by
  rcases h.rows.2 with ⟨h1, _⟩ | ⟨g, cap, cur, h1, h2, h3, _⟩
  · injection h1 with h1; exact .inl h1
  · injection h1 with h1; exact .inr ⟨g, cur, h1, h2, h3⟩
/-- tokens stay over what is written to a slice of slices -/
theorem OwnT.past_rows {base' c' g : Nat} {A : Option Addr} {xs : List Tk} {cur : Array Value} (hO : OwnT w base' A c' xs) (hg : w.heap[g]? = some (.cells cur 84 (0, 0))) (hG : w.grownBy w' (some g)) : OwnT w' base' A c' xs := by
  rcases hO.heap with rfl | ⟨k, cur2, rfl, _, hk⟩
  · exact hO.same fun b e => by cases e
  · refine hO.same fun b e => ?_
    injection e with e; injection e with e
    subst e
    refine hG.block k (Array.getElem?_eq_some_iff.1 hk).1 fun e => ?_
    injection e with e
    subst e
    rw [hg] at hk
    injection hk with hk; injection hk with _ hk
    exact absurd hk (by decide)
/-- one list of tokens, that holds none -/
theorem RowsK.one (w : World) (base : Nat) (hb : base ≤ w.heap.size) : RowsK (w.alloc (.cells #[.slice none 0 0] 84)) base (some ⟨w.heap.size, 0, none⟩) 1 [⟨none, 0, []⟩] :=
  ⟨World.ownsRow_lit w _ 1 hb (by unfold maxLen; omega) rfl, fun s hs => by rw [List.mem_singleton.1 hs]; exact OwnT.nil_ _ _, List.pairwise_singleton _ _⟩
/-- the header of a list, where it stands -/
theorem RowsK.hdr_at {g k : Nat} {r : RowK} (h : RowsK w base (some ⟨g, 0, none⟩) ch rs) (hr : rs[k]? = some r) : w.cell? ⟨g, k, none⟩ = some r.hdr ∧ w.frozen? ⟨g, k, none⟩ = false := by
  have hk := (List.getElem?_eq_some_iff.1 hr).1
  exact ⟨(h.rows.cellAt k (by simpa using hk)).trans (by rw [List.getElem?_map, hr]; rfl), h.rows.frozenAt k⟩
theorem RowsK.some_ (h : RowsK w base H ch rs) (h0 : 0 < rs.length) : ∃ g, H = some ⟨g, 0, none⟩ ∧ base ≤ g ∧ g < w.heap.size := by
  obtain ⟨g, cap, hv, h1, h2⟩ := h.rows.form h0
  injection hv with hv
  exact ⟨g, hv, h1, h2⟩
/-- a list more, that holds none -/
theorem wpList_appendNew {ops : Array Oper} {rest : List Oper} {o : Oper} {a : Act} {Q : Exit → Act → World → Prop}
    (hg : o.guard = none) (s x : Operand) (hop : o.op = Op.call { callee := Callee.builtin Builtin.append, args := #[s, x], argTypes := #[87, 87] })
    (base : Nat) (H : Option Addr) (ch p r g : Nat) (rs : List RowK) (hgz : w.heap.size = g) (hs : a.eval s = .slice H p ch) (hx : a.eval x = .slice (some ⟨g, 0, none⟩) 1 1)
    (ho : RowsK w base H ch rs) (hp : rs.length = p) (hr : p + 1 = r) (hl : r ≤ 1000000) (hb : base ≤ w.heap.size)
    (hK : ∀ g' c' w', RowsK w' base (some ⟨g', 0, none⟩) c' (rs ++ [⟨none, 0, []⟩]) → (∀ B w0, B ≤ base → Below B w0 w → Below B w0 w') → wpList Tryd.prog ops Q rest (a.put o.dst (.slice (some ⟨g', 0, none⟩) r c')) w') :
    wpList Tryd.prog ops Q (o :: rest) a (w.alloc (.cells #[.slice none 0 0] 84)) := by
  obtain ⟨i, hi, hz, h1, h2⟩ := info_parts infoTkRow
  subst hp
  subst hr
  subst hgz
  refine wpList_append_lies _ hg s x 87 hop base 84 i (.slice none 0 0) 1 24 Tryd.underlying87 hi hz h1 h2 (by rfl) (by decide) _ rs.length (rs.map RowK.hdr) hs (World.ownsRow.alloc ho.rows _) ⟨w.heap.size, 0, none⟩ 1 1 [.slice none 0 0] hx rfl ?_ (by simp [Value.oneCell']) (by decide) (by unfold maxLen; omega) (by omega) (by simp; omega) _ rfl ?_
  · intro j u hj
    match j, hj with
    | 0, hj => simp at hj; subst hj; simp [Addr.add]
    | j + 1, hj => simp at hj
  · intro g cap w' hown hgr _ _
    have hgr2 := (World.grownBy_alloc w _ _).trans hgr
    refine hK g cap w' ⟨?_, fun s hs => ?_, ?_⟩ fun B w0 hB hb0 => ?_
    · rw [List.length_append, List.map_append]
      exact hown
    · rcases List.mem_append.1 hs with hs | hs
      · have hO := ho.ins s hs
        rcases ho.heap with rfl | ⟨k, cur, rfl, _, hk⟩
        · exact hO.same fun b e => hgr2.block b ((show OwnT w base (some ⟨b, 0, none⟩) s.c s.L from e ▸ hO).lt).2 (by intro e; cases e)
        · exact hO.past_rows hk hgr2
      · rw [List.mem_singleton.1 hs]; exact OwnT.nil_ _ _
    · rw [List.pairwise_append]
      refine ⟨ho.apart, List.pairwise_singleton _ _, fun r _ s hs g hg => ?_⟩
      rw [List.mem_singleton.1 hs]
      intro e; cases e
    · refine hb0.grown hgr2 (Nat.le_trans hB hb) fun k hk => ?_
      rcases ho.heap with rfl | ⟨k', cur, rfl, h, _⟩
      · cases hk
      · simp only [Value.ownBlock, Option.some.injEq] at hk
        omega
/-- the last list has a token more -/
theorem RowsK.last {r : RowK} {t : Tk} {gH g cap : Nat} (h : RowsK w base (some ⟨gH, 0, none⟩) ch (rs ++ [r])) (hO : OwnT w4 base (some ⟨g, 0, none⟩) cap (r.L ++ [t])) (hG : w.grownBy w4 (Value.slice r.A r.L.length r.c).ownBlock) (hl : (Value.slice r.A r.L.length r.c).ownBlock = some g ∨ w.heap.size ≤ g) :
    RowsK (w4.setCell ⟨gH, rs.length, none⟩ (.slice (some ⟨g, 0, none⟩) (r.L.length + 1) cap)) base (some ⟨gH, 0, none⟩) ch (rs ++ [⟨some ⟨g, 0, none⟩, cap, r.L ++ [t]⟩]) ∧ w4.cell? ⟨gH, rs.length, none⟩ = some r.hdr ∧ w4.frozen? ⟨gH, rs.length, none⟩ = false ∧ (∀ B w0, B ≤ base → Below B w0 w → Below B w0 (w4.setCell ⟨gH, rs.length, none⟩ (.slice (some ⟨g, 0, none⟩) (r.L.length + 1) cap))) := by
  have hrO := h.ins r (by simp)
  obtain ⟨gH', curH, eH, hbH, hH⟩ : ∃ g cur, (some ⟨gH, 0, none⟩ : Option Addr) = some ⟨g, 0, none⟩ ∧ base ≤ g ∧ w.heap[g]? = some (.cells cur 84 (0, 0)) := by
    rcases h.heap with h1 | h1
    · cases h1
    · exact h1
  injection eH with eH; injection eH with eH
  subst eH
  have hne : some gH ≠ (Value.slice r.A r.L.length r.c).ownBlock := by
    rcases hrO.heap with h1 | ⟨k, cur, h1, _, hk⟩
    · rw [h1]; intro e; cases e
    · rw [h1]
      intro e
      simp only [Value.ownBlock, Option.some.injEq] at e
      subst e
      rw [hH] at hk
      injection hk with hk; injection hk with _ hk
      exact absurd hk (by decide)
  have hltH := (Array.getElem?_eq_some_iff.1 hH).1
  have hH4 : w4.heap[gH]? = some (.cells curH 84 (0, 0)) := (hG.block gH hltH hne).trans hH
  have hrows4 : w4.ownsRow base 84 1 (.slice (some ⟨gH, 0, none⟩) (rs ++ [r]).length ch) (rs ++ [r]).length ((rs ++ [r]).map RowK.hdr) :=
    World.ownsRow.kept h.rows hG (.inr (by simpa [Value.ownBlock] using hne))
  obtain ⟨hst, hgs⟩ := hrows4.stored rs.length (.slice (some ⟨g, 0, none⟩) (r.L.length + 1) cap)
  refine ⟨⟨?_, fun s hs => ?_, ?_⟩, ?_, hrows4.frozenAt _, fun B w0 hB hb0 => ?_⟩
  · have e1 : (rs ++ [(⟨some ⟨g, 0, none⟩, cap, r.L ++ [t]⟩ : RowK)]).length = (rs ++ [r]).length := by simp
    have e2 : (rs ++ [(⟨some ⟨g, 0, none⟩, cap, r.L ++ [t]⟩ : RowK)]).map RowK.hdr = ((rs ++ [r]).map RowK.hdr).set rs.length (.slice (some ⟨g, 0, none⟩) (r.L.length + 1) cap) := by
      rw [List.map_append, List.map_append, List.set_append_right _ _ (by simp)]
      simp [RowK.hdr]
    rw [e1, e2]
    exact hst
  · rcases List.mem_append.1 hs with hs | hs
    · have hsO := h.ins s (by simp [hs])
      have hap : ∀ g', s.A = some ⟨g', 0, none⟩ → r.A ≠ some ⟨g', 0, none⟩ := (List.pairwise_append.1 h.apart).2.2 s hs r (by simp)
      have h4 : OwnT w4 base s.A s.c s.L := hsO.same fun b e => hG.block b ((show OwnT w base (some ⟨b, 0, none⟩) s.c s.L from e ▸ hsO).lt).2 (by
        rcases hrO.heap with h1 | ⟨k, cur, h1, _, _⟩
        · rw [h1]; intro e; cases e
        · rw [h1]
          intro e2
          simp only [Value.ownBlock, Option.some.injEq] at e2
          subst e2
          exact hap b e h1)
      exact h4.past_rows hH4 hgs
    · rw [List.mem_singleton.1 hs]
      exact hO.past_rows hH4 hgs
  · have hp := List.pairwise_append.1 h.apart
    rw [List.pairwise_append]
    refine ⟨hp.1, List.pairwise_singleton _ _, fun s hs s' hs' g' hg' => ?_⟩
    rw [List.mem_singleton.1 hs']
    intro e
    simp only [Option.some.injEq, Addr.mk.injEq, and_true] at e
    subst e
    have hsO := h.ins s (by simp [hs])
    have hlt := (show OwnT w base (some ⟨g, 0, none⟩) s.c s.L from hg' ▸ hsO).lt
    rcases hl with hl | hl
    · rcases hrO.heap with h1 | ⟨k, cur, h1, _, _⟩
      · rw [h1] at hl; cases hl
      · rw [h1] at hl
        simp only [Value.ownBlock, Option.some.injEq] at hl
        subst hl
        exact hp.2.2 s hs r (by simp) k hg' h1
    · omega
  · exact (hrows4.cellAt rs.length (by simp)).trans (by simp)
  · have hb4 : Below B w0 w4 := hb0.grown hG (by omega) fun k hk => by
      rcases hrO.heap with h1 | ⟨k', cur, h1, hbk, _⟩
      · rw [h1] at hk; cases hk
      · rw [h1] at hk
        simp only [Value.ownBlock, Option.some.injEq] at hk
        omega
    exact hb4.setCell (by show B ≤ gH; omega) _
end
end Go.Proofs.YtgkngimeokhhgaaDoor
/- Tokens cut into lines: plain mathematics; one token more inside a region. -/
namespace Go.Proofs.YtgkngimeokhhgaaDoor
open Go.RowKit

def linesK (done : List (List Tk)) (cur : List Tk) : List Tk → List (List Tk)
  | [] => done ++ [cur]
  | t :: l => if t.k = 4 then linesK (done ++ [cur]) [] l else linesK done (cur ++ [t]) l
/-- tokens, cut at each end of a line -/
def linesL (l : List Tk) : List (List Tk) := if l = [] then [] else linesK [] [] l
theorem linesK_line {cur l : List Tk} {D : List (List Tk)} {t : Tk} (h : t.k = 4) : linesK D cur (t :: l) = linesK (D ++ [cur]) [] l := by rw [linesK, if_pos h]
theorem linesK_on {cur l : List Tk} {D : List (List Tk)} {t : Tk} (h : t.k ≠ 4) : linesK D cur (t :: l) = linesK D (cur ++ [t]) l := by rw [linesK, if_neg h]
theorem drop_cons {l : List Tk} {k : Nat} {x : Tk} (h : l[k]? = some x) : l.drop k = x :: l.drop (k + 1) := by
  obtain ⟨hk, e⟩ := List.getElem?_eq_some_iff.1 h
  rw [List.drop_eq_getElem_cons hk, e]
def LinesP (w : World) (R : List (List Tk)) (e : Ending) (w' : World) : Prop :=
  ∃ H n ch rs, e = .returned (.slice H n ch) ∧ rs.length = n ∧ rs.map (·.L) = R ∧ RowsK w' w.heap.size H ch rs ∧ Below w.heap.size w w'
theorem RowsK.drew {w : World} {base ch : Nat} {H : Option Addr} {rs : List RowK} (h : RowsK w base H ch rs) : RowsK w.drew base H ch rs := ⟨h.rows, h.ins, h.apart⟩
/-- a token more, inside a region -/
theorem step_appendTokL {ops : Array Oper} {o : Oper} {a : Act} {w : World} {K : Act → World → Prop} {Q : Exit → Act → World → Prop} {E : Prop}
    (hg : o.guard = none) (s x : Operand) (hop : o.op = Op.call { callee := Callee.builtin Builtin.append, args := #[s, x], argTypes := #[84, 84] })
    (base : Nat) (A : Option Addr) (c p r g H : Nat) (y : Tk) (L : List Tk) (hs : a.eval s = .slice A p c) (hx : a.eval x = .slice (some ⟨g, 0, none⟩) 1 1) (hb3 : ∃ fz, w.heap[g]? = some (.cells #[.int .i64 y.k, .string y.s, .int .i64 y.n] 110 fz))
    (ho : OwnT w base A c L) (hp : L.length = p) (hr : p + 1 = r) (hl : r ≤ 1000000) (hb : base ≤ w.heap.size) (hH : w.heap.size = H)
    (hK : ∀ g' c' w', OwnT w' base (some ⟨g', 0, none⟩) c' (L ++ [y]) → w.grownBy w' (Value.slice A p c).ownBlock → ((Value.slice A p c).ownBlock = some g' ∨ g' = H) → K (a.put o.dst (.slice (some ⟨g', 0, none⟩) r c')) w') :
    if Region.wanted o (yielded ops a.tmps) = true then Oper.wp Tryd.prog o a w K Q else E := by
  obtain ⟨i, hi, hz, h1, h2⟩ := info_parts infoTok
  obtain ⟨fz, hb3⟩ := hb3
  subst hp
  subst hr
  refine step_append_lies w hg s x 84 hop base 110 i (.agg #[.int .i64 0, .string ⟨#[]⟩, .int .i64 0]) 3 32 Tryd.underlying84 hi hz h1 h2 (by rfl) (by decide) (.slice A L.length c) L.length (cellsT L) hs ho ⟨g, 0, none⟩ 1 1 [.int .i64 y.k, .string y.s, .int .i64 y.n] hx rfl (World.news_of_block hb3) (by simp [Value.oneCell']) (by decide) (by unfold maxLen; omega) (by omega) hb H hH ?_
  intro g' cap w' hown hgr hlie _
  refine hK g' cap w' ?_ hgr hlie
  unfold OwnT
  rw [List.length_append, cellsT_append]
  exact hown
theorem size_allocE (w : World) (o : Obj) : (w.alloc o).heap.size = w.heap.size + 1 := Array.size_push _
theorem heap_allocT (w : World) (o : Obj) : (w.alloc o).heap[w.heap.size]? = some o := by
  show (w.heap.push _)[w.heap.size]? = _
  rw [Array.getElem?_push_size]
theorem cellPastT {w : World} {p : Addr} {v : Value} (h : w.cell? p = some v) (o : Obj) : (w.alloc o).cell? p = some v := by
  have hlt : p.block < w.heap.size := by
    rcases Nat.lt_or_ge p.block w.heap.size with h1 | h1
    · exact h1
    · have : w.heap[p.block]? = none := Array.getElem?_eq_none h1
      simp [World.cell?, this] at h
  exact (World.cell?_alloc_lt w o p hlt).trans h
theorem RowsK.lastP {w w4 : World} {base ch : Nat} {rs : List RowK} {rA : Option Addr} {rc p P : Nat} {rL : List Tk} {t : Tk} {gH g cap : Nat} (h : RowsK w base (some ⟨gH, 0, none⟩) ch (rs ++ [⟨rA, rc, rL⟩])) (hp : rL.length = p) (hP : rs.length = P) (hO : OwnT w4 base (some ⟨g, 0, none⟩) cap (rL ++ [t])) (hG : w.grownBy w4 (Value.slice rA p rc).ownBlock) (hl : (Value.slice rA p rc).ownBlock = some g ∨ g = w.heap.size) :
    RowsK (w4.setCell ⟨gH, P, none⟩ (.slice (some ⟨g, 0, none⟩) (p + 1) cap)) base (some ⟨gH, 0, none⟩) ch (rs ++ [⟨some ⟨g, 0, none⟩, cap, rL ++ [t]⟩]) ∧ w4.cell? ⟨gH, P, none⟩ = some (.slice rA p rc) ∧ w4.frozen? ⟨gH, P, none⟩ = false ∧ (∀ B w0, B ≤ base → Below B w0 w → Below B w0 (w4.setCell ⟨gH, P, none⟩ (.slice (some ⟨g, 0, none⟩) (p + 1) cap))) := by
  subst hp
  subst hP
  exact RowsK.last h hO hG (hl.imp id fun e => Nat.le_of_eq e.symm)
end Go.Proofs.YtgkngimeokhhgaaDoor
/- lexer.Lines: tokens cut into lines. -/
namespace Go.Proofs.YtgkngimeokhhgaaDoor
open Go.RowKit

set_option maxRecDepth 100000 in
set_option maxHeartbeats 8000000 in
theorem lines_any (A : Option Addr) (n c : Nat) (L : List Tk) (w : World) (h : Toks w w.heap.size A n L) (hn : n ≤ 100000) : Calls Tryd.prog 48 #[.slice A n c] w (LinesP w (linesL L)) := by
  by_cases h0 : n = 0
  · subst h0
    have hL : Hid (linesL L = []) := by
      unfold Hid linesL
      rw [if_pos (List.eq_nil_of_length_eq_zero h.1)]
    go_enter Tryd.func48, Tryd.ntmps48
    go_wp2
    go_ret
    exact ⟨none, 0, 0, [], rfl, rfl, by rw [hL.out]; rfl, RowsK.nil_ _ _, Below.refl _ _⟩
  · have h1 : ((n : Int) == 0) = false := by rw [beq_eq_false_iff_ne]; omega
    obtain ⟨R, HR⟩ : ∃ R, Hid (linesL L = R) := ⟨_, Lib.hid rfl⟩
    have HI0 : Hid (linesK [] [] (L.drop 0) = R) := by
      unfold Hid
      rw [← HR.out]
      unfold linesL
      rw [if_neg (fun e => h0 (by rw [← h.1, e]; rfl)), List.drop_zero]
    have HN := Lib.hid h.1
    rw [HR.out]
    clear h0 HR
    go_enter Tryd.func48, Tryd.ntmps48
    go_wp2
    go_loopw [3, 13] (fun v i wr => ∃ (k gH ch P : Nat) (rs : List RowK) (r : RowK), k ≤ n ∧ i = .int .i64 k ∧ v = .slice (some ⟨gH, 0, none⟩) (P + 1) ch ∧ Hid (rs.length = P) ∧ P ≤ k ∧ r.L.length ≤ k ∧ Hid (linesK (rs.map (·.L)) r.L (L.drop k) = R) ∧ Hid (RowsK wr w.heap.size (some ⟨gH, 0, none⟩) ch (rs ++ [r])) ∧ Hid (Below w.heap.size w wr)) (fun _ i _ => n - (intOf i).toNat)
    case atStart => exact ⟨0, w.heap.size, 1, 0, [], ⟨none, 0, []⟩, Nat.zero_le _, rfl, rfl, rfl, Nat.le_refl _, Nat.le_refl _, HI0, RowsK.one w _ (Nat.le_refl _), (Below.refl _ _).alloc (Nat.le_refl _) _⟩
    case round =>
      obtain ⟨k, gH, ch, P, rs, ⟨rA, rc, rL⟩, hk, rfl, rfl, HP, hPk, hrk, HC, HRW, HB⟩ := hrel
      dsimp only at hrk HC
      by_cases hlt : k < n
      · obtain ⟨b, off, x, rfl, hbl, HX, hc0, hc1, hc2, _⟩ := (h.on HB.out (Nat.le_refl _)).at_ hlt
        have hbw : w.heap.size ≤ wr.heap.size := HB.out.size
        have hdr := drop_cons HX.out
        obtain ⟨w1, hw1⟩ : ∃ w1, wr.alloc (.cells #[.int .i64 x.k, .string x.s, .int .i64 x.n] 110) = w1 := ⟨_, rfl⟩
        by_cases h4 : x.k = 4
        · have HC2 : Hid (linesK ((rs ++ [(⟨rA, rc, rL⟩ : RowK)]).map (·.L)) [] (L.drop (k + 1)) = R) := by
            unfold Hid
            rw [← HC.out, hdr, linesK_line h4, List.map_append]
            rfl
          have b4 : (x.k == 4) = true := by rw [beq_iff_eq]; exact h4
          have HW1 : Hid (RowsK (wr.alloc (.cells #[.int .i64 x.k, .string x.s, .int .i64 x.n] 110)) w.heap.size (some ⟨gH, 0, none⟩) ch (rs ++ [(⟨rA, rc, rL⟩ : RowK)])) := HRW.out.alloc _
          have HB1 : Hid (Below w.heap.size w (wr.alloc (.cells #[.int .i64 x.k, .string x.s, .int .i64 x.n] 110))) := HB.out.alloc hbw _
          have HP1 : Hid ((rs ++ [(⟨rA, rc, rL⟩ : RowK)]).length = P + 1) := Lib.hid (by rw [List.length_append, HP.out]; rfl)
          clear hw1 hdr h4 HC HI0
          go_wp2_with (at_builtin; refine wpList_appendNew rfl (.tmp 23) (.tmp 24) rfl w.heap.size (some ⟨gH, 0, none⟩) ch (P + 1) (P + 1 + 1) (wr.heap.size + 1) (rs ++ [(⟨rA, rc, rL⟩ : RowK)]) (size_allocE _ _) rfl rfl HW1.out HP1.out rfl (by omega) HB1.out.size ?_; intro g' c' w4 HR4 HB4)
          go_roundw
          case rel => exact ⟨k + 1, g', c', P + 1, rs ++ [(⟨rA, rc, rL⟩ : RowK)], ⟨none, 0, []⟩, by omega, by go_num, rfl, HP1, by omega, Nat.zero_le _, HC2, HR4, HB4 _ _ (Nat.le_refl _) HB1.out⟩
          case measure => simp [intOf]; omega
        · have HC2 : Hid (linesK (rs.map (·.L)) (rL ++ [x]) (L.drop (k + 1)) = R) := by
            unfold Hid
            rw [← HC.out, hdr, linesK_on h4]
          have b4 : (x.k == 4) = false := by rw [beq_eq_false_iff_ne]; exact h4
          obtain ⟨q0, q1, q2⟩ : w1.cell? ⟨wr.heap.size, 0, none⟩ = some (.int .i64 x.k) ∧ w1.cell? ⟨wr.heap.size, 1, none⟩ = some (.string x.s) ∧ w1.cell? ⟨wr.heap.size, 2, none⟩ = some (.int .i64 x.n) := by
            rw [← hw1]
            exact boxCells (box_new wr x)
          obtain ⟨p, hp⟩ : ∃ p, rL.length = p := ⟨_, rfl⟩
          rw [hp] at hrk
          have hbw1 : w.heap.size ≤ w1.heap.size := by rw [← hw1]; exact Nat.le_trans hbw (size_allocT _ _)
          have HR1 : RowsK w1 w.heap.size (some ⟨gH, 0, none⟩) ch (rs ++ [(⟨rA, rc, rL⟩ : RowK)]) := by rw [← hw1]; exact HRW.out.alloc _
          have HB1 : Hid (Below w.heap.size w w1) := by unfold Hid; rw [← hw1]; exact HB.out.alloc hbw _
          obtain ⟨hc, hf⟩ := HR1.hdr_at (k := P) (r := ⟨rA, rc, rL⟩) (by rw [← HP.out]; simp)
          simp only [RowK.hdr, hp] at hc
          have HRA : Hid (RowsK (w1.alloc (.cells #[.int .i64 x.k, .string x.s, .int .i64 x.n] 110)).drew w.heap.size (some ⟨gH, 0, none⟩) ch (rs ++ [(⟨rA, rc, rL⟩ : RowK)])) := (HR1.alloc _).drew
          have HOA : Hid (OwnT (w1.alloc (.cells #[.int .i64 x.k, .string x.s, .int .i64 x.n] 110)).drew w.heap.size rA rc rL) := HRA.out.ins ⟨rA, rc, rL⟩ (by simp)
          have HBX : Hid (∃ fz, (w1.alloc (.cells #[.int .i64 x.k, .string x.s, .int .i64 x.n] 110)).drew.heap[w1.heap.size]? = some (.cells #[.int .i64 x.k, .string x.s, .int .i64 x.n] 110 fz)) := ⟨_, heap_allocT w1 _⟩
          have HSZ : Hid ((w1.alloc (.cells #[.int .i64 x.k, .string x.s, .int .i64 x.n] 110)).drew.heap.size = w1.heap.size + 1) := size_allocE _ _
          have HZA : Hid (w.heap.size ≤ (w1.alloc (.cells #[.int .i64 x.k, .string x.s, .int .i64 x.n] 110)).drew.heap.size) := Nat.le_trans hbw1 (size_allocT _ _)
          have HBA : Hid (Below w.heap.size w (w1.alloc (.cells #[.int .i64 x.k, .string x.s, .int .i64 x.n] 110)).drew) := (HB1.out.alloc hbw1 _).drew
          have hc2 := fun o => cellPastT hc o
          have HpL := Lib.hid hp
          have hl1 : p + 1 ≤ 1000000 := by omega
          have hPP : (P : Int) < (P : Int) + 1 := by omega
          clear hdr h4 HC HI0 HR1 hp
          go_wp2_with fail
          go_region_law (refine step_appendTokL rfl (.tmp 31) (.tmp 33) rfl w.heap.size rA rc p (p + 1) w1.heap.size (w1.heap.size + 1) x rL rfl rfl HBX.out HOA.out HpL.out rfl hl1 HZA.out HSZ.out ?_; intro g4 c4 w4 HO4 HG4 HL4; have hL5 : (Value.slice rA p rc).ownBlock = some g4 ∨ g4 = (w1.alloc (.cells #[.int .i64 x.k, .string x.s, .int .i64 x.n] 110)).drew.heap.size := (by rw [HSZ.out]; exact HL4); obtain ⟨key1, l4, m4, key2⟩ := RowsK.lastP HRA.out HpL.out HP.out HO4 HG4 hL5; have K1 := Lib.hid key1; have K2 := Lib.hid (key2 _ _ (Nat.le_refl _) HBA.out); clear key1 key2 hL5 HL4 HG4 HO4)
          all_goals (
            go_wp2_with fail
            go_roundw
            case rel => exact ⟨k + 1, gH, ch, P, rs, ⟨some ⟨g4, 0, none⟩, c4, rL ++ [x]⟩, by omega, by go_num, rfl, HP, by omega, by simp only [List.length_append, List.length_singleton]; rw [HpL.out]; omega, HC2, K1, K2⟩
            case measure => simp [intOf]; omega)
      · obtain rfl : n = k := by omega
        have HC2 : Hid ((rs ++ [(⟨rA, rc, rL⟩ : RowK)]).map (·.L) = R) := by
          unfold Hid
          rw [← HC.out, List.drop_of_length_le (by rw [HN.out]; omega), linesK, List.map_append]
          rfl
        clear hlt HC HI0
        go_wp2
        go_ret
        exact ⟨_, P + 1, ch, rs ++ [(⟨rA, rc, rL⟩ : RowK)], rfl, by rw [List.length_append, HP.out]; rfl, HC2.out, HRW.out, HB.out⟩
end Go.Proofs.YtgkngimeokhhgaaDoor
