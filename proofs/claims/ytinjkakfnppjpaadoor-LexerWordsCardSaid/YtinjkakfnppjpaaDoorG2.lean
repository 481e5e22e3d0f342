/- lexer.Cut: a text's tokens, or where there is none. -/
import Derived.Test.YtinjkakfnppjpaaDoorG1
import Derived.WalkLawsBesides
import Derived.Laws.StructEq
import Derived.BigQuiet
import Derived.Shelf.LaysM
import Derived.Shelf.Strconv.Itoa4
import Derived.Test.YtinjkakfnppjpaaDoorProg
import Derived.Test.YtinjkakfnppjpaaDoorRows
import Derived.WalkKit
import Derived.ProofKit
import Derived.OpenShut
import Derived.ChangeOld
import Derived.Below
import Derived.Lib.SmallJoins
namespace Go.Proofs.YtinjkakfnppjpaaDoor
open Go.RowKit

/-- tokens of the call's own, a place and an error -/
def CutP (w : World) (L : List Tk) (N E : Int) (e : Ending) (w' : World) : Prop :=
  ∃ A n c, e = .returned (.tuple #[.slice A n c, .int .i64 N, .int .i64 E]) ∧ L.length = n ∧ OwnT w' w.heap.size A c L ∧ Below w.heap.size w w'
theorem ltK {w w2 : World} {base c : Nat} {A : Option Addr} {L : List Tk} (h : OwnT w base A c L) (hs : w.heap.size ≤ w2.heap.size) : ∀ g, A = some ⟨g, 0, none⟩ → g < w2.heap.size := by
  intro g e
  subst e
  have := h.lt.2
  omega
/-- a box of one token stays, over one token more -/
theorem boxK {W w4 : World} {base c n g : Nat} {A : Option Addr} {L : List Tk} {t : Tk} (hb : W.heap[g]? = some (.cells #[.int .i64 t.k, .string t.s, .int .i64 t.n] 33 (0, 0))) (hG : W.grownBy w4 (Value.slice A n c).ownBlock) (hO : OwnT W base A c L) (hA : A ≠ some ⟨g, 0, none⟩) : w4.heap[g]? = some (.cells #[.int .i64 t.k, .string t.s, .int .i64 t.n] 33 (0, 0)) :=
  block_keptT hb (fun g' e e2 => hA (by rw [e, e2])) hG hO
theorem notBox {w : World} {base c g : Nat} {A : Option Addr} {L : List Tk} {t : Tk} (hb : w.heap[g]? = some (.cells #[.int .i64 t.k, .string t.s, .int .i64 t.n] 33 (0, 0))) (hO : OwnT w base A c L) (h2 : 2 ≤ L.length) : A ≠ some ⟨g, 0, none⟩ := by
  intro e
  obtain ⟨g', e', _, _, h, _⟩ := hO.rows 1 _ (List.getElem?_eq_getElem h2)
  rw [e] at e'
  injection e' with e'; injection e' with e'
  subst e'
  rw [cell_of_row _ _ _ _ _ _ hb] at h
  simp at h
theorem boxCells {w : World} {g : Nat} {t : Tk} (hb : w.heap[g]? = some (.cells #[.int .i64 t.k, .string t.s, .int .i64 t.n] 33 (0, 0))) : w.cell? ⟨g, 0, none⟩ = some (.int .i64 t.k) ∧ w.cell? ⟨g, 1, none⟩ = some (.string t.s) ∧ w.cell? ⟨g, 2, none⟩ = some (.int .i64 t.n) :=
  ⟨cell_of_row _ _ 0 _ _ _ hb, cell_of_row _ _ 1 _ _ _ hb, cell_of_row _ _ 2 _ _ _ hb⟩
theorem box_new (w : World) (t : Tk) : (w.alloc (.cells #[.int .i64 t.k, .string t.s, .int .i64 t.n] 33)).heap[w.heap.size]? = some (.cells #[.int .i64 t.k, .string t.s, .int .i64 t.n] 33 (0, 0)) := by
  show (w.heap.push _)[w.heap.size]? = _
  rw [Array.getElem?_push_size]
set_option maxRecDepth 100000 in
set_option maxHeartbeats 8000000 in
theorem cut_any (s : ByteArray) (w : World) (hs : s.size ≤ maxLen) : Calls Tryd.prog 12 #[.string s] w (CutP w (cutF (bl s)).1 (cutF (bl s)).2.1 (cutF (bl s)).2.2) := by
  by_cases h6 : 65536 < s.size
  · have hE : cutF (bl s) = ([], 0, 2) := by unfold cutF; rw [bl_len, if_pos h6]
    rw [hE]
    clear hE
    unfold maxLen at hs
    go_enter Tryd.func12, Tryd.ntmps12
    go_wp2
    exact bodyPost_ret (v := .tuple #[.slice none 0 0, .int .i64 0, .int .i64 2]) (by simp [results, Tryd.results12, go_sem]) rfl ⟨none, 0, 0, rfl, rfl, OwnT.nil_ _ _, Below.refl _ _⟩
  · have hsz : s.size ≤ 65536 := by omega
    obtain ⟨R, HR⟩ : ∃ R, Hid (cutG (bl s) = R) := ⟨_, Lib.hid rfl⟩
    have HE : Hid (cutF (bl s) = cutH s.size R) := by
      unfold Hid cutF
      rw [bl_len, if_neg h6, HR.out]
    have cP := fun w => pass_any s 0 w (by omega) (by omega) _ _ (Lib.hid (passAt_fst (bl s) 0))
    obtain ⟨p0, hp0⟩ : ∃ p, 0 + (passL false false ((bl s).drop 0)).1 = p := ⟨_, rfl⟩
    obtain ⟨e0, he0⟩ : ∃ e, (passL false false ((bl s).drop 0)).2 = e := ⟨_, rfl⟩
    rw [hp0, he0] at cP
    have hp0l : p0 ≤ s.size := by
      have := passL_le ((bl s).drop 0) false false
      rw [List.length_drop, bl_len] at this
      omega
    have HI0 : Hid (cutE ((bl s).drop p0) e0 [] = R) := by
      unfold Hid
      rw [← HR.out, ← hp0, ← he0, List.drop_zero, Nat.zero_add]
      rfl
    clear hp0 he0 hs HR h6
    go_enter Tryd.func12, Tryd.ntmps12
    go_wp2_with (go_at_call 19; refine (cP _).mono ?_; rintro e w1 ⟨rfl, rfl⟩)
    go_loopw [5, 6, 7] (fun o a x wr => ∃ (L : List Tk) (A : Option Addr) (n c k : Nat) (e : Bool), o = .slice A n c ∧ a = .int .i64 k ∧ x = .bool e ∧ k ≤ s.size ∧ Hid (L.length = n) ∧ Hid (OwnT wr w.heap.size A c L) ∧ Hid (Below w.heap.size w wr) ∧ Hid (cutE ((bl s).drop k) e L = R) ∧ n ≤ 2 * k) (fun _ a _ _ => s.size - (intOf a).toNat)
    case atStart => exact ⟨[], none, 0, 0, p0, e0, rfl, rfl, rfl, hp0l, rfl, OwnT.nil_ _ _, Below.refl _ _, HI0, by omega⟩
    case round =>
      obtain ⟨L, A, n, c, k, e, rfl, rfl, rfl, hk, HL, HO, HB, HC, hn⟩ := hrel
      have hsz0 := HB.out.size
      by_cases hlt : k < s.size
      · have hr : (bl s).drop k ≠ [] := by
          intro h
          have := congrArg List.length h
          rw [List.length_drop, bl_len] at this
          simp at this
          omega
        obtain ⟨m, hm⟩ : ∃ m, mF ((bl s).drop k) = m := ⟨_, rfl⟩
        have hm1 : 1 ≤ m := by rw [← hm]; exact mF_pos _
        have hm2 : k + m ≤ s.size := by
          have := mF_le hr
          rw [hm, List.length_drop, bl_len] at this
          omega
        obtain ⟨v, hv⟩ : ∃ v, ofL (((bl s).drop k).take m) = v := ⟨_, rfl⟩
        have hvs : v.size = m := by rw [← hv, ofL_size, List.length_take, List.length_drop, bl_len]; omega
        have ex : s.extract k s.size = ofL ((bl s).drop k) := by
          rw [extract_ofL, List.take_of_length_le]
          rw [List.length_drop, bl_len]
          omega
        have cF : ∀ W, Calls Tryd.prog 21 #[.string (s.extract k s.size)] W fun e w' => e = .returned (.string v) ∧ W = w' := by
          intro W
          have h := front_any (s.extract k s.size) W (by rw [ex, ofL_size, List.length_drop, bl_len]; unfold maxLen; omega) (by rw [ex, ofL_size, List.length_drop, bl_len]; omega)
          rw [ex, bl_ofL, extract_ofL, bl_ofL, List.drop_zero, Nat.sub_zero] at h
          rw [ex, ← hv, ← hm]
          exact h
        have cT := fun W => token_any v W (by unfold maxLen; omega)
        have hvs1 : v.size ≠ 0 := by omega
        have c0 : (0 : Int) ≤ (k : Int) := by omega
        have c1 : (k : Int) ≤ (s.size : Int) := by omega
        cases ht : tokF v with
        | none =>
          rw [ht] at cT
          change ∀ W, Calls Tryd.prog 20 #[.string v] W fun e w' => e = .returned (.tuple #[.agg #[.int .i64 0, .string ⟨#[]⟩, .int .i64 0], .bool false]) ∧ Below W.heap.size W w' at cT
          have HQ : Hid (cutF (bl s) = ([], (k : Int), 6)) := by
            have h := HC.out
            rw [cutE_bad hr (by rw [hm, hv]; exact ht), List.length_drop, bl_len] at h
            unfold Hid
            rw [HE.out, ← h]
            show (([], ((s.size - (s.size - k) : Nat) : Int), 6) : List Tk × Int × Int) = _
            rw [show s.size - (s.size - k) = k by omega]
          clear ht hv hm ex hr HC HE HI0 cP
          go_wp2_with (first | (go_at_call 21; refine (cF _).mono ?_; rintro e w1 ⟨rfl, rfl⟩) | (go_at_call 20; refine (cT _).mono ?_; rintro e w2 ⟨rfl, hb2⟩))
          rw [HQ.out]
          exact bodyPost_ret (v := .tuple #[.slice none 0 0, .int .i64 k, .int .i64 6]) (by simp [results, Tryd.results12, go_sem]) rfl ⟨none, 0, 0, rfl, rfl, OwnT.nil_ _ _, (HB.out.trans (hb2.mono hsz0)).alloc (Nat.le_trans hsz0 hb2.size) _⟩
        | some t =>
          obtain ⟨a, v', nn⟩ := t
          have hvv := tokF_text hvs1 ht
          simp only at hvv
          subst hvv
          rw [ht] at cT
          change ∀ W, Calls Tryd.prog 20 #[.string v'] W fun e w' => e = .returned (.tuple #[.agg #[.int .i64 a, .string v', .int .i64 nn], .bool true]) ∧ Below W.heap.size W w' at cT
          have HHT := Lib.hid ht
          have HVM : Hid (v'.size = m) := hvs
          have hl1 : n + 1 ≤ 1000000 := by omega
          have hvb : k + v'.size ≤ s.size := by omega
          have hv1 : 1 ≤ v'.size := by omega
          have HC2 : ∀ L', withLine e L ⟨a, v', nn⟩ = L' → Hid (cutE (((bl s).drop (k + v'.size)).drop (passL false false ((bl s).drop (k + v'.size))).1) (passL false false ((bl s).drop (k + v'.size))).2 L' = R) := by
            intro L' e'
            have h := HC.out
            rw [cutE_on hr (by rw [hm, hv]; exact ht), hm, e'] at h
            unfold Hid
            rw [hvs]
            simp only [List.drop_drop] at h ⊢
            exact h
          have cP2 := fun W => pass_any s (k + v'.size) W (by omega) hvb _ _ (Lib.hid (passAt_fst (bl s) (k + v'.size)))
          have hple := passL_le ((bl s).drop (k + v'.size)) false false
          rw [List.length_drop, bl_len] at hple
          generalize hP1 : (passL false false ((bl s).drop (k + v'.size))).1 = P1 at HC2 cP2 hple
          generalize hE1 : (passL false false ((bl s).drop (k + v'.size))).2 = E1 at HC2 cP2
          simp only [Int.natCast_add, List.drop_drop] at cP2 HC2
          clear ht hv hm ex hr HC HE HI0 cP hvs hP1 hE1 hm2
          cases e with
          | false =>
            have HCN := HC2 (L ++ [⟨a, v', nn⟩]) (by unfold withLine; rw [if_neg (by simp)])
            clear HC2
            go_wp2_with (first | (go_at_call 21; refine (cF _).mono ?_; rintro e w1 ⟨rfl, rfl⟩) | (go_at_call 20; refine (cT _).mono ?_; rintro e w2 ⟨rfl, hb2⟩; have HO2 := Lib.hid ((HO.out.below hb2 (Nat.le_refl _)).alloc (.cells #[.int .i64 a, .string v', .int .i64 nn] 33)); have HB2 := Lib.hid ((HB.out.trans (hb2.mono hsz0)).alloc (Nat.le_trans hsz0 hb2.size) (.cells #[.int .i64 a, .string v', .int .i64 nn] 33)); have hsz2 := hb2.size; have HA2 := Lib.hid (ltK HO.out hb2.size); have HX2 := Lib.hid (box_new w2 ⟨a, v', nn⟩)) | (go_at_call 19; refine (cP2 _).mono ?_; rintro e w6 ⟨rfl, rfl⟩) | (at_builtin; refine wpList_appendTok rfl (.tmp 43) (.tmp 45) rfl w.heap.size A c n (n + 1) (w2.heap.size + 1) ⟨a, v', nn⟩ L (Array.size_push _) rfl rfl HO2.out HL.out rfl hl1 HB2.out.size ?_; intro A4 c4 w4 HO4 HG4; have HX4 := Lib.hid (boxK (t := ⟨a, v', nn⟩) HX2.out HG4 HO2.out (fun e => absurd (HA2.out _ e) (Nat.lt_irrefl _))); obtain ⟨_, hx4, _⟩ := boxCells (t := ⟨a, v', nn⟩) HX4.out; have hsz4 := HG4.size))
            refine ⟨⟨L ++ [⟨a, v', nn⟩], A4, n + 1, c4, k + v'.size + P1, E1, rfl, congrArg (Value.int .i64) (by omega), rfl, by omega, Lib.hid (by rw [List.length_append, HL.out]; rfl), Lib.hid HO4, Lib.hid (below_appT HB2.out HG4 HO2.out HB2.out.size), HCN, by omega⟩, by simp [intOf]; omega⟩
          | true =>
            by_cases hn0 : n = 0
            · subst hn0
              have HCN := HC2 (L ++ [⟨a, v', nn⟩]) (by unfold withLine; rw [if_neg (fun h => h.2 (List.eq_nil_of_length_eq_zero HL.out))])
              clear HC2
              go_wp2_with (first | (go_at_call 21; refine (cF _).mono ?_; rintro e w1 ⟨rfl, rfl⟩) | (go_at_call 20; refine (cT _).mono ?_; rintro e w2 ⟨rfl, hb2⟩; have HO2 := Lib.hid ((HO.out.below hb2 (Nat.le_refl _)).alloc (.cells #[.int .i64 a, .string v', .int .i64 nn] 33)); have HB2 := Lib.hid ((HB.out.trans (hb2.mono hsz0)).alloc (Nat.le_trans hsz0 hb2.size) (.cells #[.int .i64 a, .string v', .int .i64 nn] 33)); have hsz2 := hb2.size; have HA2 := Lib.hid (ltK HO.out hb2.size); have HX2 := Lib.hid (box_new w2 ⟨a, v', nn⟩)) | (go_at_call 19; refine (cP2 _).mono ?_; rintro e w6 ⟨rfl, rfl⟩) | (at_builtin; refine wpList_appendTok rfl (.tmp 43) (.tmp 45) rfl w.heap.size A c 0 (0 + 1) (w2.heap.size + 1) ⟨a, v', nn⟩ L (Array.size_push _) rfl rfl HO2.out HL.out rfl hl1 HB2.out.size ?_; intro A4 c4 w4 HO4 HG4; have HX4 := Lib.hid (boxK (t := ⟨a, v', nn⟩) HX2.out HG4 HO2.out (fun e => absurd (HA2.out _ e) (Nat.lt_irrefl _))); obtain ⟨_, hx4, _⟩ := boxCells (t := ⟨a, v', nn⟩) HX4.out; have hsz4 := HG4.size))
              refine ⟨⟨L ++ [⟨a, v', nn⟩], A4, 0 + 1, c4, k + v'.size + P1, E1, rfl, congrArg (Value.int .i64) (by omega), rfl, by omega, Lib.hid (by rw [List.length_append, HL.out]; rfl), Lib.hid HO4, Lib.hid (below_appT HB2.out HG4 HO2.out HB2.out.size), HCN, by omega⟩, by simp [intOf]; omega⟩
            · have HCN := HC2 (L ++ [lineTk] ++ [⟨a, v', nn⟩]) (by unfold withLine; rw [if_pos ⟨rfl, fun h => hn0 (by rw [← HL.out, h]; rfl)⟩])
              have hnp : 0 < n := by omega
              have hl2 : n + 1 + 1 ≤ 1000000 := by omega
              clear HC2 hn0
              go_wp2_with (first | (go_at_call 21; refine (cF _).mono ?_; rintro e w1 ⟨rfl, rfl⟩) | (go_at_call 20; refine (cT _).mono ?_; rintro e w2 ⟨rfl, hb2⟩; have HO2 := Lib.hid ((HO.out.below hb2 (Nat.le_refl _)).alloc (.cells #[.int .i64 a, .string v', .int .i64 nn] 33)); have HB2 := Lib.hid ((HB.out.trans (hb2.mono hsz0)).alloc (Nat.le_trans hsz0 hb2.size) (.cells #[.int .i64 a, .string v', .int .i64 nn] 33)); have hsz2 := hb2.size; have HA2 := Lib.hid (ltK HO.out hb2.size); have HX2 := Lib.hid (box_new w2 ⟨a, v', nn⟩)) | (go_at_call 19; refine (cP2 _).mono ?_; rintro e w6 ⟨rfl, rfl⟩) | (at_builtin; refine wpList_appendTok rfl (.tmp 39) (.tmp 41) rfl w.heap.size A c n (n + 1) (w2.heap.size + 1) lineTk L (Array.size_push _) rfl rfl HO2.out HL.out rfl hl1 HB2.out.size ?_; intro A4 c4 w4 HO4 HG4; have HX4 := Lib.hid (boxK (t := ⟨a, v', nn⟩) HX2.out HG4 HO2.out (fun e => absurd (HA2.out _ e) (Nat.lt_irrefl _))); obtain ⟨hx0, hx1, hx2⟩ := boxCells (t := ⟨a, v', nn⟩) HX4.out; have hsz4 := HG4.size; have HL4 : Hid ((L ++ [lineTk]).length = n + 1) := Lib.hid (by rw [List.length_append, HL.out]; rfl); have hB4 : w.heap.size ≤ w4.heap.size := Nat.le_trans HB2.out.size HG4.size) | (at_builtin; refine wpList_appendTok rfl (.tmp 43) (.tmp 45) rfl w.heap.size A4 c4 (n + 1) (n + 1 + 1) w4.heap.size ⟨a, v', nn⟩ (L ++ [lineTk]) rfl rfl rfl HO4 HL4.out rfl hl2 hB4 ?_; intro A5 c5 w5 HO5 HG5; have HX5 := Lib.hid (boxK (t := ⟨a, v', nn⟩) HX4.out HG5 HO4 (notBox (t := ⟨a, v', nn⟩) HX4.out HO4 (by rw [HL4.out]; omega))); obtain ⟨_, hx5, _⟩ := boxCells (t := ⟨a, v', nn⟩) HX5.out))
              refine ⟨⟨L ++ [lineTk] ++ [⟨a, v', nn⟩], A5, n + 1 + 1, c5, k + v'.size + P1, E1, rfl, congrArg (Value.int .i64) (by omega), rfl, by omega, Lib.hid (by rw [List.length_append, HL4.out]; rfl), Lib.hid HO5, Lib.hid (below_appT (below_appT HB2.out HG4 HO2.out HB2.out.size) HG5 HO4 hB4), HCN, by omega⟩, by simp [intOf]; omega⟩
      · obtain rfl : s.size = k := by omega
        have hR : R = .ok L := by
          rw [← HC.out, List.drop_of_length_le (by rw [bl_len]; omega), cutE_nil]
        subst hR
        clear hlt HC HI0 cP
        by_cases h4 : 4096 < n
        · have HQ : Hid (cutF (bl s) = ([], 0, 2)) := by
            unfold Hid
            rw [HE.out]
            unfold cutH
            simp only
            rw [if_pos (by rw [HL.out]; exact h4)]
          go_wp2
          rw [HQ.out]
          exact bodyPost_ret (v := .tuple #[.slice none 0 0, .int .i64 0, .int .i64 2]) (by simp [results, Tryd.results12, go_sem]) rfl ⟨none, 0, 0, rfl, rfl, OwnT.nil_ _ _, HB.out⟩
        · have HQ : Hid (cutF (bl s) = (L, (s.size : Int), 0)) := by
            unfold Hid
            rw [HE.out]
            unfold cutH
            simp only
            rw [if_neg (by rw [HL.out]; exact h4)]
          go_wp2
          rw [HQ.out]
          exact bodyPost_ret (v := .tuple #[.slice A n c, .int .i64 s.size, .int .i64 0]) (by simp [results, Tryd.results12, go_sem]) rfl ⟨A, n, c, rfl, HL.out, HO.out, HB.out⟩
end Go.Proofs.YtinjkakfnppjpaaDoor
/- The document's Same: whether two lists of tokens are. -/
namespace Go.Proofs.YtinjkakfnppjpaaDoor
open Go.RowKit

def eqTk (a b : Tk) : Bool := a.k == b.k && (a.s.toList == b.s.toList && a.n == b.n)
theorem eqTk_iff (a b : Tk) : eqTk a b = true ↔ a = b := by
  obtain ⟨k, s, n⟩ := a
  obtain ⟨k', s', n'⟩ := b
  unfold eqTk
  simp only [Bool.and_eq_true, beq_iff_eq, Tk.mk.injEq]
  have h : s.toList = s'.toList ↔ s = s' :=
    ⟨fun h => by rw [← Lib.mk_data s, ← Lib.mk_data s', ← Lib.toList_data, ← Lib.toList_data, h], fun h => by rw [h]⟩
  rw [h]
set_option maxRecDepth 100000 in
theorem tk_eqIn (a b : Tk) (w : World) : (Op.equalIn 10000 33 (.agg #[.int .i64 a.k, .string a.s, .int .i64 a.n]) (.agg #[.int .i64 b.k, .string b.s, .int .i64 b.n])).run Tryd.prog w = .ok (eqTk a b) w := by
  have hp0 : ∀ a : Tk, (part 3 #[Value.int .i64 a.k, .string a.s, .int .i64 a.n] 0).run Tryd.prog w = .ok (.int .i64 a.k) w := fun a => by kernel_rfl
  have hp1 : ∀ a : Tk, (part 9 #[Value.int .i64 a.k, .string a.s, .int .i64 a.n] 1).run Tryd.prog w = .ok (.string a.s) w := fun a => by kernel_rfl
  have hp2 : ∀ a : Tk, (part 2 #[Value.int .i64 a.k, .string a.s, .int .i64 a.n] 2).run Tryd.prog w = .ok (.int .i64 a.n) w := fun a => by kernel_rfl
  have hf : (Tryd.prog.fieldsOf 33).toList.map (fun f => (f.name, f.type, f.offset)) = [("Kind", 3, 0), ("S", 9, 1), ("N", 2, 2)] := by kernel_rfl
  rw [run_equalIn_struct w 9999 33 _ _ (by kernel_rfl) (by kernel_rfl)]
  obtain ⟨L, hL⟩ : ∃ L, (Tryd.prog.fieldsOf 33).toList = L := ⟨_, rfl⟩
  rw [hL] at hf ⊢
  match L, hf with
  | [f0, f1, f2], hf =>
    simp only [List.map_cons, List.map_nil, List.cons.injEq, Prod.mk.injEq, and_true] at hf
    obtain ⟨⟨n0, t0, o0⟩, ⟨n1, t1, o1⟩, n2, t2, o2⟩ := hf
    have h3 : ∀ a b : Int, (Op.equalIn 9999 3 (.int .i64 a) (.int .i64 b)).run Tryd.prog w = .ok (a == b) w := fun a b => run_equalIn_int w 9998 3 .i64 .i64 a b Tryd.underlying3
    have h4 : ∀ a b : Int, (Op.equalIn 9999 2 (.int .i64 a) (.int .i64 b)).run Tryd.prog w = .ok (a == b) w := fun a b => run_equalIn_int w 9998 2 .i64 .i64 a b Tryd.underlying2
    have h5 : ∀ a b : ByteArray, (Op.equalIn 9999 9 (.string a) (.string b)).run Tryd.prog w = .ok (a.toList == b.toList) w := fun a b => run_equalIn_string w 9998 9 a b Tryd.underlying9
    unfold eqTk
    cases e1 : (a.k == b.k) <;> cases e2 : (a.s.toList == b.s.toList) <;> cases e3 : (a.n == b.n) <;> simp [Op.eqFields, n0, n1, n2, t0, t1, t2, o0, o1, o2, hp0, hp1, hp2, h3, h4, h5, e1, e2, e3]
theorem tk_neq (a b : Tk) (w : World) : (binOp .neq 33 (.agg #[.int .i64 a.k, .string a.s, .int .i64 a.n]) (.agg #[.int .i64 b.k, .string b.s, .int .i64 b.n])).run Tryd.prog w = .ok (.bool !(eqTk a b)) w := by
  rw [run_neq_struct, tk_eqIn]
  rfl
theorem tk_eql (a b : Tk) (w : World) : (binOp .eql 33 (.agg #[.int .i64 a.k, .string a.s, .int .i64 a.n]) (.agg #[.int .i64 b.k, .string b.s, .int .i64 b.n])).run Tryd.prog w = .ok (.bool (eqTk a b)) w := by
  rw [run_eql_struct, tk_eqIn]
  rfl
/-- whether two lists of tokens are the same -/
def sameTL : List Tk → List Tk → Bool
  | [], [] => true
  | a :: l, b :: m => eqTk a b && sameTL l m
  | _, _ => false
theorem sameTL_iff : ∀ l m, sameTL l m = true ↔ l = m
  | [], [] => by simp [sameTL]
  | [], b :: m => by simp [sameTL]
  | a :: l, [] => by simp [sameTL]
  | a :: l, b :: m => by
    rw [sameTL, Bool.and_eq_true, eqTk_iff, sameTL_iff l m, List.cons.injEq]
theorem sameTL_no {l m : List Tk} (h : l ≠ m) : sameTL l m = false := by
  cases e : sameTL l m
  · rfl
  · exact absurd ((sameTL_iff l m).1 e) h
theorem drewN_two (w : World) (a b : Nat) : (w.drewN a).drewN b = w.drewN (a + b) := by
  first | exact World.drewN_drewN w a b | (simp [World.drewN]; omega)
end Go.Proofs.YtinjkakfnppjpaaDoor
/- live: the chapter's example. -/
namespace Go.Proofs.YtinjkakfnppjpaaDoor
open Go.RowKit

set_option maxRecDepth 100000 in
theorem liveTok : tokF (ofL [65]) = some ⟨1, ⟨#[65]⟩, 0⟩ ∧ tokF (ofL [91]) = some ⟨3, ⟨#[91]⟩, 0⟩ ∧ tokF (ofL [105]) = some ⟨1, ⟨#[105]⟩, 0⟩ ∧ tokF (ofL [93]) = some ⟨3, ⟨#[93]⟩, 0⟩ ∧ tokF (ofL [61]) = some ⟨3, ⟨#[61]⟩, 0⟩ ∧ tokF (ofL [50]) = some ⟨2, ⟨#[50]⟩, 2⟩ := by
  refine ⟨?_, ?_, ?_, ?_, ?_, ?_⟩ <;> kernel_rfl
/-- "A[i] = 2" -/
def liveL : List UInt8 := [65, 91, 105, 93, 32, 61, 32, 50]
def liveT : List Tk := [⟨1, ⟨#[65]⟩, 0⟩, ⟨3, ⟨#[91]⟩, 0⟩, ⟨1, ⟨#[105]⟩, 0⟩, ⟨3, ⟨#[93]⟩, 0⟩, ⟨3, ⟨#[61]⟩, 0⟩, ⟨2, ⟨#[50]⟩, 2⟩]
/-- one step of cutting, with what it goes by -/
theorem cutE_step {r r' : List UInt8} {m p : Nat} {e e' : Bool} {t : Tk} {L L' : List Tk} (h : r ≠ []) (hm : mF r = m) (ht : tokF (ofL (r.take m)) = some t) (hp : passL false false (r.drop m) = (p, e')) (hr : (r.drop m).drop p = r') (hL : withLine e L t = L') : cutE r e L = cutE r' e' L' := by
  rw [cutE_on h (by rw [hm]; exact ht), hm, hp, hL, hr]
set_option maxRecDepth 100000 in
theorem live_cut : cutF liveL = (liveT, 8, 0) := by
  obtain ⟨t1, t2, t3, t4, t5, t6⟩ := liveTok
  have h : cutG liveL = .ok liveT := by
    show cutE liveL false [] = _
    refine (cutE_step (r := liveL) (m := 1) (p := 0) (e' := false) (r' := [91, 105, 93, 32, 61, 32, 50]) (by decide) (by kernel_rfl) t1 (by kernel_rfl) rfl rfl).trans ?_
    refine (cutE_step (r := [91, 105, 93, 32, 61, 32, 50]) (m := 1) (p := 0) (e' := false) (r' := [105, 93, 32, 61, 32, 50]) (by decide) (by kernel_rfl) t2 (by kernel_rfl) rfl rfl).trans ?_
    refine (cutE_step (r := [105, 93, 32, 61, 32, 50]) (m := 1) (p := 0) (e' := false) (r' := [93, 32, 61, 32, 50]) (by decide) (by kernel_rfl) t3 (by kernel_rfl) rfl rfl).trans ?_
    refine (cutE_step (r := [93, 32, 61, 32, 50]) (m := 1) (p := 1) (e' := false) (r' := [61, 32, 50]) (by decide) (by kernel_rfl) t4 (by kernel_rfl) rfl rfl).trans ?_
    refine (cutE_step (r := [61, 32, 50]) (m := 1) (p := 1) (e' := false) (r' := [50]) (by decide) (by kernel_rfl) t5 (by kernel_rfl) rfl rfl).trans ?_
    refine (cutE_step (r := [50]) (m := 1) (p := 0) (e' := false) (r' := []) (by decide) (by kernel_rfl) t6 (by kernel_rfl) rfl rfl).trans ?_
    rw [cutE_nil]
    rfl
  unfold cutF
  rw [if_neg (by decide), h]
  rfl
set_option maxRecDepth 100000 in
set_option maxHeartbeats 4000000 in
theorem live_any (w : World) : Calls Tryd.prog 5 #[] w fun e w' => e = .returned (.bool true) ∧ Below w.heap.size w w' := by
  have cC := fun W => cut_any ⟨#[65, 91, 105, 93, 32, 61, 32, 50]⟩ W (by decide)
  rw [show bl ⟨#[65, 91, 105, 93, 32, 61, 32, 50]⟩ = liveL from rfl, live_cut] at cC
  go_enter Tryd.func5, Tryd.ntmps5
  go_wp2_with (go_at_call 12; refine (cC _).mono ?_; rintro e w1 ⟨A, n, c, rfl, hn, hO, hb⟩; obtain rfl : 6 = n := hn; obtain ⟨g, hA, _, _, a0, a1, a2⟩ := hO.rows 0 _ rfl; subst hA; obtain ⟨g1, e1, _, _, b0, b1, b2⟩ := hO.rows 1 _ rfl; injection e1 with e1; injection e1 with e1; subst e1; obtain ⟨g5, e5, _, _, c0, c1, c2⟩ := hO.rows 5 _ rfl; injection e5 with e5; injection e5 with e5; subst e5)
  go_ret
  exact ⟨rfl, hb⟩
end Go.Proofs.YtinjkakfnppjpaaDoor
/- Texts put together, and their tokens: plain mathematics. -/
namespace Go.Proofs.YtinjkakfnppjpaaDoor
open Go.RowKit

/-- the tokens from a place on where a line has ended, or not, behind those that are there -/
def cutQ (e : Bool) (l : List UInt8) (L : List Tk) : Except Nat (List Tk) := cutE (l.drop (passL e false l).1) (passL e false l).2 L
theorem cutG_eq (l : List UInt8) : cutG l = cutQ false l [] := rfl
theorem cutE_next {r : List UInt8} {t : Tk} (h : r ≠ []) (ht : tokF (ofL (r.take (mF r))) = some t) (e : Bool) (L : List Tk) : cutE r e L = cutQ false (r.drop (mF r)) (withLine e L t) := cutE_on h ht e L
theorem kb10 : kb 10 = 2 := by decide
theorem ld10 : isLD 10 = false := by decide
theorem passL_cat : ∀ (l y : List UInt8) (e i : Bool), passL e i (l ++ 10 :: y) = if (passL e i l).1 = l.length then (l.length + 1 + (passL true false y).1, (passL true false y).2) else passL e i l
  | [], y, e, i => by
    show passL e i (10 :: y) = (0 + 1 + (passL true false y).1, (passL true false y).2)
    rw [passL, if_pos kb10, Nat.zero_add, Nat.add_comm]
  | c :: l, y, e, i => by
    have h1 := passL_cat l y true false
    have h2 := passL_cat l y e true
    have h3 := passL_cat l y e i
    rw [List.cons_append, passL, passL, h1, h2, h3]
    by_cases k2 : kb c = 2
    · simp only [if_pos k2, List.length_cons, Nat.add_right_cancel_iff]
      split
      · simp only [Prod.mk.injEq, and_true]; omega
      · rfl
    · by_cases k3 : kb c = 3
      · simp only [if_neg k2, if_pos k3, List.length_cons, Nat.add_right_cancel_iff]
        split
        · simp only [Prod.mk.injEq, and_true]; omega
        · rfl
      · by_cases k1 : kb c ≠ 1 ∧ i = false
        · simp only [if_neg k2, if_neg k3, if_pos k1, List.length_cons]
          rw [if_neg (by omega)]
        · simp only [if_neg k2, if_neg k3, if_neg k1, List.length_cons, Nat.add_right_cancel_iff]
          split
          · simp only [Prod.mk.injEq, and_true]; omega
          · rfl
theorem alongL_cat : ∀ (r y : List UInt8), alongL (r ++ 10 :: y) = alongL r
  | [], y => by simp [alongL, ld10]
  | c :: r, y => by
    have h := alongL_cat r y
    unfold alongL at h ⊢
    rw [List.cons_append, List.takeWhile_cons, List.takeWhile_cons]
    split
    · rw [List.length_cons, h, List.length_cons]
    · rfl
theorem mF_cat (r y : List UInt8) : mF (r ++ 10 :: y) = mF r := by unfold mF; rw [alongL_cat]
/-- what stands behind an end of a line is cut behind what stands ahead of it -/
theorem cutQ_cat (n : Nat) : ∀ (l : List UInt8), l.length ≤ n → ∀ (y : List UInt8) (e : Bool) (L : List Tk), cutQ e (l ++ 10 :: y) L = match cutQ e l L with | .ok L' => cutQ true y L' | .error q => .error (q + 1 + y.length) := by
  induction n with
  | zero =>
    intro l hl y e L
    obtain rfl : l = [] := List.eq_nil_of_length_eq_zero (by omega)
    show cutE _ _ _ = match cutE [] e L with | .ok L' => cutQ true y L' | .error q => .error (q + 1 + y.length)
    rw [cutE_nil, List.nil_append, passL, if_pos kb10]
    rfl
  | succ n ih =>
    intro l hl y e L
    by_cases hp : (passL e false l).1 = l.length
    · have h1 : cutQ e l L = .ok L := by
        unfold cutQ
        rw [hp, List.drop_of_length_le (Nat.le_refl _), cutE_nil]
      rw [h1]
      unfold cutQ
      rw [passL_cat, if_pos hp]
      simp only
      rw [Nat.add_assoc, List.drop_append, Nat.add_sub_cancel_left, Nat.add_comm 1, List.drop_succ_cons, List.drop_of_length_le (by omega), List.nil_append]
    · have hle := passL_le l e false
      have h0 : l.drop (passL e false l).1 ≠ [] := by
        intro h
        have := congrArg List.length h
        rw [List.length_drop] at this
        simp at this
        omega
      have hcat : (l ++ 10 :: y).drop (passL e false l).1 = l.drop (passL e false l).1 ++ 10 :: y := by
        rw [List.drop_append, show (passL e false l).1 - l.length = 0 by omega, List.drop_zero]
      unfold cutQ
      rw [passL_cat, if_neg hp, hcat]
      generalize hr : l.drop (passL e false l).1 = r at *
      generalize (passL e false l).2 = e'
      have hrl : r.length ≤ l.length := by rw [← hr, List.length_drop]; omega
      have hm := mF_le h0
      have hm1 := mF_pos r
      have hne : r ++ 10 :: y ≠ [] := by simp
      have htk : (r ++ 10 :: y).take (mF r) = r.take (mF r) := by rw [List.take_append, show mF r - r.length = 0 by omega, List.take_zero, List.append_nil]
      have hdr : (r ++ 10 :: y).drop (mF r) = r.drop (mF r) ++ 10 :: y := by rw [List.drop_append, show mF r - r.length = 0 by omega, List.drop_zero]
      cases ht : tokF (ofL (r.take (mF r))) with
      | none =>
        rw [cutE_bad h0 ht, cutE_bad hne (by rw [mF_cat, htk]; exact ht)]
        simp only [List.length_append, List.length_cons]
        congr 1
        omega
      | some t =>
        rw [cutE_next h0 ht, cutE_next hne (t := t) (by rw [mF_cat, htk]; exact ht), mF_cat, hdr]
        exact ih _ (by rw [List.length_drop]; omega) y false _
theorem cutQ_line (l y : List UInt8) (e : Bool) (L : List Tk) : cutQ e (l ++ 10 :: y) L = match cutQ e l L with | .ok L' => cutQ true y L' | .error q => .error (q + 1 + y.length) := cutQ_cat l.length l (Nat.le_refl _) y e L
theorem passL_take : ∀ (l : List UInt8) (e i : Bool) (n : Nat), (passL e i l).1 ≤ n → passL e i (l.take n) = passL e i l
  | [], e, i, n, _ => by simp
  | c :: l, e, i, 0, h => by
    rw [List.take_zero]
    rw [passL] at h ⊢
    rw [passL]
    split at h
    · simp at h
    · split at h
      · simp at h
      · split at h
        · rename_i h2 h3 h1
          rw [if_neg h2, if_neg h3, if_pos h1]
        · simp at h
  | c :: l, e, i, n + 1, h => by
    have h1 := passL_take l true false n
    have h2 := passL_take l e true n
    have h3 := passL_take l e i n
    rw [List.take_succ_cons, passL, passL]
    rw [passL] at h
    split
    · rename_i k2
      rw [if_pos k2] at h
      rw [h1 (by simpa using h)]
    · rename_i k2
      rw [if_neg k2] at h
      split
      · rename_i k3
        rw [if_pos k3] at h
        rw [h2 (by simpa using h)]
      · rename_i k3
        rw [if_neg k3] at h
        split
        · rfl
        · rename_i k1
          rw [if_neg k1] at h
          rw [h3 (by simpa using h)]
theorem takeWhile_take {α : Type} (p : α → Bool) : ∀ (l : List α) (n : Nat), (l.takeWhile p).length ≤ n → ((l.take n).takeWhile p).length = (l.takeWhile p).length
  | [], n, _ => by simp
  | c :: l, 0, h => by
    rw [List.takeWhile_cons] at h ⊢
    split at h
    · simp at h
    · rename_i hc; simp [hc]
  | c :: l, n + 1, h => by
    rw [List.takeWhile_cons] at h
    rw [List.take_succ_cons, List.takeWhile_cons, List.takeWhile_cons]
    split
    · rename_i hc
      rw [if_pos hc] at h
      rw [List.length_cons, List.length_cons, takeWhile_take p l n (by simpa using h)]
    · rfl
theorem mF_take (r : List UInt8) (n : Nat) (h : mF r ≤ n) : mF (r.take n) = mF r := by
  unfold mF alongL at *
  rw [takeWhile_take isLD r n (by omega)]
/-- where a text is none, what stands ahead of its first wrong token is one -/
theorem cutQ_ahead (n : Nat) : ∀ (l : List UInt8), l.length ≤ n → ∀ (e : Bool) (L : List Tk) (q : Nat), cutQ e l L = .error q → 1 ≤ q ∧ q ≤ l.length ∧ ∃ L', cutQ e (l.take (l.length - q)) L = .ok L' := by
  induction n with
  | zero =>
    intro l hl e L q h
    obtain rfl : l = [] := List.eq_nil_of_length_eq_zero (by omega)
    unfold cutQ at h
    rw [List.drop_nil, cutE_nil] at h
    cases h
  | succ n ih =>
    intro l hl e L q h
    have hle := passL_le l e false
    unfold cutQ at h
    have hl2 : (l.drop (passL e false l).1).length = l.length - (passL e false l).1 := List.length_drop
    by_cases h0 : l.drop (passL e false l).1 = []
    · rw [h0, cutE_nil] at h; cases h
    · generalize hr : l.drop (passL e false l).1 = r at *
      have hm := mF_le h0
      have hm1 := mF_pos r
      cases ht : tokF (ofL (r.take (mF r))) with
      | none =>
        rw [cutE_bad h0 ht] at h
        injection h with h
        have : 0 < r.length := List.length_pos_iff.2 h0
        refine ⟨by omega, by omega, L, ?_⟩
        unfold cutQ
        rw [show l.length - q = (passL e false l).1 by omega, passL_take _ _ _ _ (Nat.le_refl _), List.drop_of_length_le (by rw [List.length_take]; omega), cutE_nil]
      | some t =>
        rw [cutE_next h0 ht] at h
        obtain ⟨a, b, L', c⟩ := ih _ (by rw [List.length_drop]; omega) _ _ _ h
        rw [List.length_drop] at b c
        refine ⟨a, by omega, L', ?_⟩
        have hb : q ≤ r.length - mF r := b
        unfold cutQ
        rw [passL_take _ _ _ _ (by omega), List.drop_take, hr]
        have e1 : mF (r.take (l.length - q - (passL e false l).1)) = mF r := mF_take _ _ (by omega)
        have hne : r.take (l.length - q - (passL e false l).1) ≠ [] := by
          intro h
          have h2 := congrArg List.length h
          rw [List.length_take, List.length_nil] at h2
          omega
        rw [cutE_next hne (t := t) (by rw [e1, List.take_take, Nat.min_eq_left (by omega)]; exact ht), e1, List.drop_take, show l.length - q - (passL e false l).1 - mF r = r.length - mF r - q by omega]
        exact c
theorem cutG_ahead {l : List UInt8} {q : Nat} (h : cutG l = .error q) : 1 ≤ q ∧ q ≤ l.length ∧ ∃ L', cutG (l.take (l.length - q)) = .ok L' := cutQ_ahead l.length l (Nat.le_refl _) false [] q h
/-- tokens that are there, behind others -/
theorem withLine_behind (e : Bool) (K L : List Tk) (t : Tk) (h : L ≠ []) : withLine e (K ++ L) t = K ++ withLine e L t := by
  unfold withLine
  by_cases he : e = true
  · rw [if_pos ⟨he, by simp [h]⟩, if_pos ⟨he, h⟩]; simp
  · rw [if_neg (fun h => he h.1), if_neg (fun h => he h.1)]; simp
theorem withLine_ne (e : Bool) (L : List Tk) (t : Tk) : withLine e L t ≠ [] := by unfold withLine; split <;> simp
theorem cutE_behind (n : Nat) : ∀ (r : List UInt8), r.length ≤ n → ∀ (e : Bool) (K L : List Tk), L ≠ [] → cutE r e (K ++ L) = (cutE r e L).map (K ++ ·) := by
  induction n with
  | zero =>
    intro r hr e K L hL
    obtain rfl : r = [] := List.eq_nil_of_length_eq_zero (by omega)
    rw [cutE_nil, cutE_nil]; rfl
  | succ n ih =>
    intro r hr e K L hL
    by_cases h0 : r = []
    · subst h0; rw [cutE_nil, cutE_nil]; rfl
    · have hm := mF_le h0
      have hm1 := mF_pos r
      cases ht : tokF (ofL (r.take (mF r))) with
      | none => rw [cutE_bad h0 ht, cutE_bad h0 ht]; rfl
      | some t =>
        rw [cutE_next h0 ht, cutE_next h0 ht, withLine_behind e K L t hL]
        exact ih _ (by rw [List.length_drop, List.length_drop]; omega) _ K _ (withLine_ne _ _ _)
/-- tokens behind others: an end of a line between, if one is told -/
theorem cutE_more {r : List UInt8} (h0 : r ≠ []) (e : Bool) (L : List Tk) (hL : L ≠ []) : cutE r e L = (cutE r e []).map ((L ++ if e then [lineTk] else []) ++ ·) := by
  cases ht : tokF (ofL (r.take (mF r))) with
  | none => rw [cutE_bad h0 ht, cutE_bad h0 ht]; rfl
  | some t =>
    rw [cutE_next h0 ht, cutE_next h0 ht]
    have h1 : withLine e [] t = [t] := by unfold withLine; rw [if_neg (fun h => h.2 rfl)]; rfl
    have h2 : withLine e L t = (L ++ if e then [lineTk] else []) ++ [t] := by
      unfold withLine
      cases e
      · rw [if_neg (by simp)]; simp
      · rw [if_pos ⟨rfl, hL⟩]; simp
    rw [h1, h2]
    unfold cutQ
    exact cutE_behind _ _ (Nat.le_refl _) _ _ _ (by simp)
theorem passL_e : ∀ (l : List UInt8) (e i : Bool), (passL e i l).1 = (passL false i l).1 ∧ (passL e i l).2 = (e || (passL false i l).2)
  | [], e, i => by simp [passL]
  | c :: l, e, i => by
    have h2 := passL_e l e true
    have h3 := passL_e l e i
    rw [passL, passL]
    split
    · have h1 := passL_true l false
      simp [h1]
    · split
      · simp [h2]
      · split
        · simp
        · simp [h3]
where
  passL_true : ∀ (l : List UInt8) (i : Bool), (passL true i l).2 = true
    | [], i => rfl
    | c :: l, i => by
      have h1 := passL_true l false
      have h2 := passL_true l true
      have h3 := passL_true l i
      rw [passL]
      repeat' split
      all_goals first | exact h1 | exact h2 | exact h3 | rfl
theorem cutQ_first (e : Bool) (l : List UInt8) : cutQ e l [] = cutQ false l [] := by
  unfold cutQ
  obtain ⟨h1, _⟩ := passL_e l e false
  rw [h1]
  by_cases h0 : l.drop (passL false false l).1 = []
  · rw [h0, cutE_nil, cutE_nil]
  · cases ht : tokF (ofL ((l.drop (passL false false l).1).take (mF (l.drop (passL false false l).1)))) with
    | none => rw [cutE_bad h0 ht, cutE_bad h0 ht]
    | some t =>
      rw [cutE_next h0 ht, cutE_next h0 ht]
      have h : ∀ e, withLine e [] t = [t] := fun e => by unfold withLine; rw [if_neg (fun h => h.2 rfl)]; rfl
      rw [h, h]
theorem cutE_ne {r : List UInt8} (h0 : r ≠ []) (e : Bool) : cutE r e [] ≠ .ok [] := by
  cases ht : tokF (ofL (r.take (mF r))) with
  | none => rw [cutE_bad h0 ht]; intro h; cases h
  | some t =>
    rw [cutE_next h0 ht]
    have h1 : withLine e [] t = [t] := by unfold withLine; rw [if_neg (fun h => h.2 rfl)]; rfl
    rw [h1]
    unfold cutQ
    have := cutE_behind _ ((r.drop (mF r)).drop (passL false false (r.drop (mF r))).1) (Nat.le_refl _) (passL false false (r.drop (mF r))).2 [t] [t] (by simp)
    intro h
    rw [h] at this
    have h2 := cutE_len _ ((r.drop (mF r)).drop (passL false false (r.drop (mF r))).1) (Nat.le_refl _) (passL false false (r.drop (mF r))).2 [t] [] h
    simp at h2
where
  cutE_len (n : Nat) : ∀ (r : List UInt8), r.length ≤ n → ∀ (e : Bool) (L M : List Tk), cutE r e L = .ok M → L.length ≤ M.length := by
    induction n with
    | zero =>
      intro r hr e L M h
      obtain rfl : r = [] := List.eq_nil_of_length_eq_zero (by omega)
      rw [cutE_nil] at h; injection h with h; subst h; exact Nat.le_refl _
    | succ n ih =>
      intro r hr e L M h
      by_cases h0 : r = []
      · subst h0; rw [cutE_nil] at h; injection h with h; subst h; exact Nat.le_refl _
      · have hm := mF_le h0
        have hm1 := mF_pos r
        cases ht : tokF (ofL (r.take (mF r))) with
        | none => rw [cutE_bad h0 ht] at h; cases h
        | some t =>
          rw [cutE_next h0 ht] at h
          have := ih _ (by rw [List.length_drop, List.length_drop]; omega) _ _ _ h
          have h2 : L.length ≤ (withLine e L t).length := by unfold withLine; split <;> simp
          omega
/-- behind an end of a line -/
theorem cutQ_behind {l : List UInt8} {B : List Tk} (h : cutQ false l [] = .ok B) (L : List Tk) (hL : L ≠ []) : cutQ true l L = .ok (if B = [] then L else L ++ [lineTk] ++ B) := by
  have h' := (cutQ_first true l).trans h
  unfold cutQ at h' ⊢
  obtain ⟨h1, h2⟩ := passL_e l true false
  rw [h2, Bool.true_or] at h' ⊢
  by_cases h0 : l.drop (passL true false l).1 = []
  · rw [h0, cutE_nil] at h' ⊢
    injection h' with h'
    subst h'
    rw [if_pos rfl]
  · have hB : B ≠ [] := by
      intro e
      subst e
      exact cutE_ne h0 _ h'
    rw [cutE_more h0 true L hL, h', if_neg hB, if_pos rfl]
    rfl
end Go.Proofs.YtinjkakfnppjpaaDoor
/- The tokens that Cut gives: each may be, and none is longer than what was cut. -/
namespace Go.Proofs.YtinjkakfnppjpaaDoor
open Go.RowKit

theorem numL_bound : ∀ (n : Nat) (l : List UInt8), l.length = n → (∀ c ∈ l, kb c = 5) → 0 ≤ numL l ∧ numL l < 10 ^ n := by
  intro n
  induction n with
  | zero =>
    intro l hl _
    obtain rfl := List.eq_nil_of_length_eq_zero hl
    exact ⟨by decide, by decide⟩
  | succ n ih =>
    intro l hl h
    rcases List.eq_nil_or_concat l with rfl | ⟨l, c, rfl⟩
    · simp at hl
    · rw [List.concat_eq_append] at hl h ⊢
      obtain ⟨a, b⟩ := ih l (by simpa using hl) (fun x hx => h x (by simp [hx]))
      have hc := dig_in (h c (by simp))
      rw [numL_snoc]
      exact ⟨by omega, ten_step b (by omega)⟩
theorem pow18 (k : Nat) (h : k ≤ 18) : (10 : Int) ^ k ≤ 1000000000000000000 := by
  have : ∀ k, k < 19 → (10 : Int) ^ k ≤ 1000000000000000000 := by decide
  exact this k (by omega)
theorem isNumL_bound {l : List UInt8} (h : isNumL l = true) : 0 ≤ numL l ∧ numL l < 1000000000000000000 := by
  unfold isNumL at h
  rw [decide_eq_true_iff] at h
  obtain ⟨h1, h2, _, h3⟩ := h
  have := numL_bound _ l rfl (fun c hc => by
    obtain ⟨j, hj, e⟩ := List.getElem_of_mem hc
    obtain ⟨d, e1, e2⟩ := h3 j hj
    rw [List.getElem?_eq_getElem hj, e] at e1
    injection e1 with e1
    rw [e1]; exact e2)
  have := pow18 l.length h2
  omega
/-- a token may be: it is the one whose text it has -/
def mayT (t : Tk) : Prop := tokF t.s = some t
theorem tokF_len {s : ByteArray} {t : Tk} (h : tokF s = some t) : s.size ≤ 18 := by
  unfold tokF at h
  split at h
  · omega
  · split at h
    · rename_i hw
      unfold isWordL at hw
      rw [decide_eq_true_iff, bl_len] at hw
      omega
    · split at h
      · rename_i hw
        unfold isNumL at hw
        rw [decide_eq_true_iff, bl_len] at hw
        omega
      · split at h
        · rename_i hw
          unfold isSignL at hw
          rw [decide_eq_true_iff, bl_len] at hw
          omega
        · cases h
theorem tokF_ok {s : ByteArray} {t : Tk} (h : tokF s = some t) : t.ok := by
  have hl := tokF_len h
  unfold tokF at h
  unfold Tk.ok
  split at h
  · injection h with h; subst h; exact ⟨by decide, by decide, by decide, by decide, by decide⟩
  · split at h
    · injection h with h; subst h; exact ⟨by simp only; omega, by simp only; omega, by simp only; omega, by simp only; omega, by unfold maxLen; simp only; omega⟩
    · split at h
      · rename_i hn
        have := isNumL_bound hn
        injection h with h; subst h; exact ⟨by simp only; omega, by simp only; omega, by simp only; omega, by simp only; omega, by unfold maxLen; simp only; omega⟩
      · split at h
        · injection h with h; subst h; exact ⟨by simp only; omega, by simp only; omega, by simp only; omega, by simp only; omega, by unfold maxLen; simp only; omega⟩
        · cases h
theorem mayT.ok {t : Tk} (h : mayT t) : t.ok := tokF_ok h
theorem line_may : mayT lineTk := by unfold mayT lineTk; rfl
theorem ofL_ne {r : List UInt8} (h : r ≠ []) : (ofL (r.take (mF r))).size ≠ 0 := by
  have := mF_pos r
  have := mF_le h
  rw [ofL_size, List.length_take]
  omega
/-- whatever holds of an end of a line, and of each token, holds of all that is cut -/
theorem cutE_all (P : Tk → Prop) (hl : P lineTk) (ht : ∀ s t, s.size ≠ 0 → tokF s = some t → P t) (n : Nat) : ∀ (r : List UInt8), r.length ≤ n → ∀ (e : Bool) (L M : List Tk), (∀ t ∈ L, P t) → cutE r e L = .ok M → ∀ t ∈ M, P t := by
  induction n with
  | zero =>
    intro r hr e L M hL h
    obtain rfl : r = [] := List.eq_nil_of_length_eq_zero (by omega)
    rw [cutE_nil] at h; injection h with h; subst h; exact hL
  | succ n ih =>
    intro r hr e L M hL h
    by_cases h0 : r = []
    · subst h0; rw [cutE_nil] at h; injection h with h; subst h; exact hL
    · have hm := mF_le h0
      have hm1 := mF_pos r
      cases hk : tokF (ofL (r.take (mF r))) with
      | none => rw [cutE_bad h0 hk] at h; cases h
      | some t =>
        rw [cutE_next h0 hk] at h
        refine ih _ (by rw [List.length_drop, List.length_drop]; omega) _ _ _ (fun x hx => ?_) h
        have hp := ht _ _ (ofL_ne h0) hk
        unfold withLine at hx
        split at hx
        · simp only [List.mem_append, List.mem_singleton] at hx
          rcases hx with (hx | rfl) | rfl
          · exact hL x hx
          · exact hl
          · exact hp
        · simp only [List.mem_append, List.mem_singleton] at hx
          rcases hx with hx | rfl
          · exact hL x hx
          · exact hp
theorem cutG_all (P : Tk → Prop) (hl : P lineTk) (ht : ∀ s t, s.size ≠ 0 → tokF s = some t → P t) {l : List UInt8} {M : List Tk} (h : cutG l = .ok M) : ∀ t ∈ M, P t :=
  cutE_all P hl ht _ _ (Nat.le_refl _) _ _ _ (by simp) h
theorem cutF_mem {l : List UInt8} : (cutF l).1 = [] ∨ cutG l = .ok (cutF l).1 := by
  unfold cutF
  split
  · exact .inl rfl
  · unfold cutH
    split
    · exact .inl rfl
    · split
      · exact .inl rfl
      · rename_i h _; exact .inr h
theorem cutF_may (l : List UInt8) : ∀ t ∈ (cutF l).1, mayT t := by
  rcases cutF_mem (l := l) with h | h
  · rw [h]; simp
  · exact cutG_all mayT line_may (fun s t hs h => by unfold mayT; rw [tokF_text hs h]; exact h) h
theorem cutF_ok (l : List UInt8) : ∀ t ∈ (cutF l).1, t.ok := fun t ht => (cutF_may l t ht).ok
theorem cutF_len (l : List UInt8) : (cutF l).1.length ≤ 4096 := by
  unfold cutF
  split
  · simp
  · unfold cutH
    split
    · simp
    · split
      · simp
      · simp only; omega
/-- a place that Cut tells -/
theorem cutF_at (l : List UInt8) : 0 ≤ (cutF l).2.1 ∧ (cutF l).2.1 ≤ l.length := by
  unfold cutF
  split
  · exact ⟨Int.le_refl _, by simp only; omega⟩
  · unfold cutH
    split
    · simp only; omega
    · split
      · simp only; omega
      · simp only; omega
theorem cutF_err (l : List UInt8) : (cutF l).2.2 = 0 ∨ (cutF l).2.2 = 2 ∨ (cutF l).2.2 = 6 := by
  unfold cutF
  split
  · simp
  · unfold cutH
    split
    · simp
    · split <;> simp
theorem cutF_bad {l : List UInt8} (h : (cutF l).2.2 = 6) : ∃ q, cutG l = .error q ∧ (cutF l).2.1 = ((l.length - q : Nat) : Int) ∧ l.length ≤ 65536 := by
  unfold cutF at h ⊢
  split at h
  · cases h
  · rename_i h1
    rw [if_neg h1]
    unfold cutH at h ⊢
    split at h
    · rename_i q hq
      exact ⟨q, hq, rfl, by omega⟩
    · split at h <;> cases h
theorem cutF_good {l : List UInt8} (h : (cutF l).2.2 = 0) : cutG l = .ok (cutF l).1 ∧ l.length ≤ 65536 ∧ (cutF l).2.1 = l.length := by
  unfold cutF at h ⊢
  split at h
  · cases h
  · rename_i h1
    rw [if_neg h1]
    unfold cutH at h ⊢
    split at h
    · cases h
    · rename_i L hL
      split at h
      · cases h
      · rename_i h4
        rw [hL]
        simp only [if_neg h4, and_true, true_and]
        omega
/-- what Cut gives of a text that is not too long -/
theorem cutF_of_ok {l : List UInt8} {L : List Tk} (h : cutG l = .ok L) (h1 : l.length ≤ 65536) (h2 : L.length ≤ 4096) : cutF l = (L, (l.length : Int), 0) := by
  unfold cutF
  rw [if_neg (by omega), h]
  unfold cutH
  simp only
  rw [if_neg (by omega)]
theorem cutF_of_bad {l : List UInt8} {q : Nat} (h : cutG l = .error q) (h1 : l.length ≤ 65536) : cutF l = ([], ((l.length - q : Nat) : Int), 6) := by
  unfold cutF
  rw [if_neg (by omega), h]
  rfl
end Go.Proofs.YtinjkakfnppjpaaDoor
/- What the laws over texts share. -/
namespace Go.Proofs.YtinjkakfnppjpaaDoor
open Go.RowKit

theorem OwnT.rd {w : World} {base c : Nat} {A : Option Addr} {ss : List Tk} (h : OwnT w base A c ss) (hx : ∀ x ∈ ss, x.ok) {n : Nat} (hn : ss.length = n) : Toks w w.heap.size A n ss := by
  subst hn; exact h.toks hx
theorem below_dX {B : Nat} {w W : World} (h : Below B w W) (m : Nat) : Below B w (W.drewN m) := ⟨h.os, h.tape, h.output, h.size, h.block⟩
theorem sameTL_rfl (l : List Tk) : sameTL l l = true := (sameTL_iff l l).2 rfl
theorem bl_append (s t : ByteArray) : bl (s ++ t) = bl s ++ bl t := by simp [bl]
theorem bl_take (s : ByteArray) (a : Nat) : bl (s.extract 0 a) = (bl s).take a := by
  rw [extract_ofL, bl_ofL, List.drop_zero, Nat.sub_zero]
/-- behind an end of a line -/
theorem cutG_line (l y : List UInt8) : cutG (l ++ 10 :: y) = match cutG l with | .ok L => cutQ true y L | .error q => .error (q + 1 + y.length) := cutQ_line l y false []
end Go.Proofs.YtinjkakfnppjpaaDoor
/- strconv.FormatInt at base 10, laid out of the library's contract. -/
namespace Go.Proofs.YtinjkakfnppjpaaDoor
open Go.Shelf Go.Proofs
def x_laysM173_ren : Go.Shelf.Ren := ⟨fun | 173 => 15 | 246 => 23 | 283 => 25 | 284 => 26 | 285 => 27 | 286 => 28 | 129 => 31 | 317 => 30 | 318 => 32 | 319 => 33 | 320 => 34 | 337 => 35 | 338 => 36 | n => n, fun | 2 => 2 | 3 => 3 | 9 => 9 | 4 => 4 | 171 => 46 | 0 => 0 | 53 => 47 | 37 => 50 | 5 => 5 | 173 => 51 | 212 => 55 | 51 => 56 | 20 => 20 | 213 => 57 | 46 => 59 | 232 => 62 | 233 => 63 | n => n, fun | 17 => 0 | 18 => 2 | 19 => 3 | n => n⟩
set_option maxRecDepth 100000 in
theorem x_laysM173 : Go.Proofs.LaysM.n173 Tryd.prog x_laysM173_ren := {
  mixed := by kernel_rfl
  f129 := Tryd.func31.trans (congrArg some (by kernel_rfl))
  f173 := Tryd.func15.trans (congrArg some (by kernel_rfl))
  f246 := Tryd.func23.trans (congrArg some (by kernel_rfl))
  f283 := Tryd.func25.trans (congrArg some (by kernel_rfl))
  f284 := Tryd.func26.trans (congrArg some (by kernel_rfl))
  f285 := Tryd.func27.trans (congrArg some (by kernel_rfl))
  f286 := Tryd.func28.trans (congrArg some (by kernel_rfl))
  f317 := Tryd.func30.trans (congrArg some (by kernel_rfl))
  f318 := Tryd.func32.trans (congrArg some (by kernel_rfl))
  f319 := Tryd.func33.trans (congrArg some (by kernel_rfl))
  f320 := Tryd.func34.trans (congrArg some (by kernel_rfl))
  f337 := Tryd.func35.trans (congrArg some (by kernel_rfl))
  f338 := Tryd.func36.trans (congrArg some (by kernel_rfl))
  t0 := Tryd.underlying0
  a0 := Tryd.isAgg0
  z0 := Tryd.sizeOf0
  v0 := Tryd.zeroValue0
  t2 := Tryd.underlying2
  a2 := Tryd.isAgg2
  z2 := Tryd.sizeOf2
  v2 := Tryd.zeroValue2
  t3 := Tryd.underlying3
  a3 := Tryd.isAgg3
  z3 := Tryd.sizeOf3
  v3 := Tryd.zeroValue3
  t4 := Tryd.underlying4
  a4 := Tryd.isAgg4
  z4 := Tryd.sizeOf4
  v4 := Tryd.zeroValue4
  t5 := Tryd.underlying5
  a5 := Tryd.isAgg5
  z5 := Tryd.sizeOf5
  v5 := Tryd.zeroValue5
  t9 := Tryd.underlying9
  a9 := Tryd.isAgg9
  z9 := Tryd.sizeOf9
  v9 := Tryd.zeroValue9
  t20 := Tryd.underlying20
  a20 := Tryd.isAgg20
  z20 := Tryd.sizeOf20
  v20 := Tryd.zeroValue20
  t37 := Tryd.underlying50
  a37 := Tryd.isAgg50
  z37 := Tryd.sizeOf50
  v37 := Tryd.zeroValue50
  t46 := Tryd.underlying59
  a46 := Tryd.isAgg59
  z46 := Tryd.sizeOf59
  v46 := Tryd.zeroValue59
  t51 := Tryd.underlying56
  a51 := Tryd.isAgg56
  z51 := Tryd.sizeOf56
  v51 := Tryd.zeroValue56
  t53 := Tryd.underlying47
  a53 := Tryd.isAgg47
  z53 := Tryd.sizeOf47
  v53 := Tryd.zeroValue47
  t171 := Tryd.underlying46
  a171 := Tryd.isAgg46
  z171 := Tryd.sizeOf46
  v171 := Tryd.zeroValue46
  t173 := Tryd.underlying51
  a173 := Tryd.isAgg51
  z173 := Tryd.sizeOf51
  v173 := Tryd.zeroValue51
  t212 := Tryd.underlying55
  a212 := Tryd.isAgg55
  z212 := Tryd.sizeOf55
  v212 := Tryd.zeroValue55
  t213 := Tryd.underlying57
  a213 := Tryd.isAgg57
  z213 := Tryd.sizeOf57
  t232 := Tryd.underlying62
  a232 := Tryd.isAgg62
  z232 := Tryd.sizeOf62
  v232 := Tryd.zeroValue62
  t233 := Tryd.underlying63
  a233 := Tryd.isAgg63
  z233 := Tryd.sizeOf63
  v233 := Tryd.zeroValue63
  g17 := by kernel_rfl
  g18 := by kernel_rfl
  g19 := by kernel_rfl
  i0 := by kernel_rfl
  i2 := by kernel_rfl
  i3 := by kernel_rfl
  i4 := by kernel_rfl
  i5 := by kernel_rfl
  i9 := by kernel_rfl
  i20 := by kernel_rfl
  i37 := by kernel_rfl
  i46 := by kernel_rfl
  i51 := by kernel_rfl
  i53 := by kernel_rfl
  i171 := by kernel_rfl
  i173 := by kernel_rfl
  i212 := by kernel_rfl
  i232 := by kernel_rfl
  i233 := by kernel_rfl
  m17 := by kernel_rfl
  m18 := by kernel_rfl
  m19 := by kernel_rfl }
open Go.RowKit Go.Sort Go.Lib in
theorem x_strconv_FormatInt_10 (n : Int) (h0 : -9223372036854775808 ≤ n) (h1 : n ≤ 9223372036854775807) (w : World) (htab : Lib.TabIs Tryd.prog w "internal/strconv.uint64pow10" .u64 Lib.pow10Tab) :
    Calls Tryd.prog 15 #[.int .i64 n, .int .i64 10] w fun e w' => e = .returned (.string ⟨(Lib.itoa n).toArray⟩) ∧ ∃ k os, w' = grow (w.drewN k) os := Any.strconv_FormatInt_10 x_laysM173 n h0 h1 w htab
end Go.Proofs.YtinjkakfnppjpaaDoor
/- How the arguments of the statements read: slices of integers, dense tensors, integers. -/
namespace Go.Proofs.YtinjkakfnppjpaaDoor
open Go.ChangeShapes Go.WideShapes Go.ChangeAt Go.RowKit

set_option maxRecDepth 100000 in
theorem own : ownKnob Tryd.prog.godebug = none := by kernel_rfl
set_option maxRecDepth 100000 in
theorem laidOut : laidOutB Tryd.prog = true := by kernel_rfl

theorem lt_of_cell {w : World} {a : Addr} {v : Value} (h : w.cell? a = some v) : a.block < w.heap.size := by
  rcases Nat.lt_or_ge a.block w.heap.size with hlt | hge
  · exact hlt
  · have : w.heap[a.block]? = none := Array.getElem?_eq_none hge
    simp [World.cell?, this] at h

theorem wf_bounds {n : Int} (h : (Lit.int .i64 n).wf = true) : -9223372036854775808 ≤ n ∧ n ≤ 9223372036854775807 := by
  simp [Lit.wf, IntKind.min, IntKind.max, IntKind.signed, IntKind.bits] at h
  omega

theorem ints_of_row {w : World} {x : Addr} {len : Nat} {zs : List Int} (hz : len ≤ zs.length) (hcell : ∀ i, i < zs.length → w.cell? (x.add i) = some (.int .i64 (zs.getD i 0))) (hwz : ∀ n ∈ zs, (Lit.int .i64 n).wf = true) :
    Ints w w.heap.size (some x) len (zs.take len) := by
  refine ⟨by rw [List.length_take]; omega, fun n hn => wf_bounds (hwz n (List.mem_of_mem_take hn)), fun h0 => ?_⟩
  obtain ⟨b, off, spot⟩ := x
  have hc := hcell 0 (by omega)
  have hspot : spot = none := by simpa [Addr.add] using World.cell?_spot hc
  subst hspot
  have hlt : b < w.heap.size := by have := lt_of_cell hc; simpa [Addr.add] using this
  refine ⟨b, off, rfl, hlt, fun k y hy => ?_⟩
  have hk : k < len := by have := (List.getElem?_eq_some_iff.1 hy).1; rw [List.length_take] at this; omega
  have h1 := hcell k (by omega)
  have h2 : zs.getD k 0 = y := by
    rw [List.getElem?_take, if_pos hk] at hy
    simp [List.getD, hy]
  rw [h2] at h1
  by_cases hk0 : k = 0
  · subst hk0; simpa [Addr.add] using h1
  · simpa [Addr.add, hk0] using h1

section
variable {H : Type} {enc : TypeId × Value → H} {w : World} {base : Nat} {spare : Nat → Bool} {held : Bool}
/-- a []int, or a []int64, that came in -/
theorem open_nums {t e : TypeId} {v : Value} {d : DataW H} {p : List MemPlace} (ht : Tryd.prog.underlying t = some (.slice e)) (he : Tryd.prog.underlying e = some (.int .i64)) (hC : Tryd.prog.cellsOf e = 1) (hf : ∃ a n c, v = .slice a n c) (h : DataW.Trod enc Tryd.prog w base spare held t v d p) :
    ∃ A n c xs, v = .slice A n c ∧ Ints w w.heap.size A n xs ∧ n ≤ 9223372036854775807 := by
  obtain ⟨a0, len0, cap0, rfl⟩ := hf
  obtain ⟨fuel, hf⟩ := h
  rcases open_ints ht he hC hf with ⟨hcs, _⟩ | ⟨x, l, c, zs, hcs, _, hl, hm, hz, _, hcell, hwz⟩
  · simp [Value.cells] at hcs
    obtain ⟨rfl, rfl, rfl⟩ := hcs
    exact ⟨none, 0, 0, [], rfl, Ints.nil_, by omega⟩
  · simp [Value.cells] at hcs
    obtain ⟨rfl, rfl, rfl⟩ := hcs
    have hz' : len0 ≤ zs.length := by split at hz <;> omega
    refine ⟨_, _, _, _, rfl, ints_of_row hz' hcell hwz, ?_⟩
    unfold maxLen at hm
    omega
end
end Go.Proofs.YtinjkakfnppjpaaDoor
