/- The document's Join: it gives what lexer.Join does. -/
import Derived.Test.YtinjkakfnppjpaaPXBackM
import Derived.Test.YtinjkakfnppjpaaPXRefK2
namespace Go.Proofs.Ytinjkakfnppjpaa
open Go.RowKit

/-- no line is empty, one token after the other (e: the line is empty so far) -/
def fB : Bool → List Tk → Bool
  | e, [] => !e
  | e, t :: l => if t.k = 4 then !e && fB true l else fB false l
theorem fB_full : ∀ (l cur : List Tk), fullL cur l ↔ fB (decide (cur = [])) l = true
  | [], cur => by
    unfold fullL fB
    simp [linesK]
  | t :: l, cur => by
    unfold fB
    by_cases h : t.k = 4
    · have ih := fB_full l []
      unfold fullL at ih ⊢
      rw [linesK_line h, linesK_all, if_pos h]
      simp only [List.nil_append, List.singleton_append, List.mem_cons, forall_eq_or_imp, Bool.and_eq_true]
      rw [ih]
      simp
    · have ih := fB_full l (cur ++ [t])
      unfold fullL at ih ⊢
      rw [linesK_on h, if_neg h, ih]
      simp
theorem joinF_fB {L : List Tk} (h0 : L ≠ []) (hm : L.all mayB = true) : joinF L = if fB true L = false then (⟨#[]⟩, 1) else if 4096 < L.length then (⟨#[]⟩, 2) else (ofL (jt false L), 0) := by
  have h1 := fB_full L []
  unfold joinF
  rw [if_neg (by rw [hm]; decide), joinT_jt h0]
  by_cases hf : fB true L = false
  · rw [if_pos hf, if_pos]
    apply Classical.byContradiction
    intro hx
    have : fullL [] L := fun R hR e => hx ⟨R, by unfold linesL; rw [if_neg h0]; exact hR, e⟩
    rw [h1] at this
    simp [hf] at this
  · rw [if_neg hf, if_neg]
    rintro ⟨R, hR, e⟩
    have h2 : fullL [] L := by rw [h1]; simpa using hf
    unfold linesL at hR
    rw [if_neg h0] at hR
    exact h2 R hR e
theorem joinF_bad {L : List Tk} {t : Tk} (ht : t ∈ L) (hm : mayB t = false) : joinF L = (⟨#[]⟩, 1) := by
  unfold joinF
  rw [if_pos]
  rw [List.all_eq_false]
  exact ⟨t, ht, by rw [hm]; decide⟩
theorem fB_line {e : Bool} {t : Tk} {l : List Tk} (h : t.k = 4) : fB e (t :: l) = (!e && fB true l) := by rw [fB, if_pos h]
theorem fB_on {e : Bool} {t : Tk} {l : List Tk} (h : t.k ≠ 4) : fB e (t :: l) = fB false l := by rw [fB, if_neg h]
theorem all_drop {L : List Tk} {k : Nat} {x : Tk} (hx : L[k]? = some x) (h : (L.take k).all mayB = true) (hm : mayB x = true) : (L.take (k + 1)).all mayB = true := by
  rw [List.take_add_one, hx, List.all_append, h]
  simp [hm]
theorem Toks.cell {w : World} {B n b off k : Nat} {L : List Tk} {x : Tk} (h : Toks w B (some ⟨b, off, none⟩) n L) (hx : L[k]? = some x) : w.cell? ⟨b, off + k * 3, none⟩ = some (.int .i64 x.k) := by
  have hk := (List.getElem?_eq_some_iff.1 hx).1
  rw [h.1] at hk
  obtain ⟨b', off', e, _, hc⟩ := h.2.2 (by omega)
  injection e with e; injection e with e1 e2
  subst e1 e2
  exact (hc k x hx).1
theorem totT_le : ∀ (L : List Tk), (∀ t ∈ L, mayT t) → totT L ≤ 18 * L.length
  | [], _ => by simp [totT]
  | t :: l, h => by
    have h1 := totT_le l fun x hx => h x (by simp [hx])
    have h2 := tokF_len (h t (by simp))
    unfold totT at h1 ⊢
    simp only [List.map_cons, List.sum_cons, List.length_cons]
    omega
theorem bl_cat (s t : ByteArray) : bl (s ++ t) = bl s ++ bl t := bl_append s t
theorem jt_line {b : Bool} {t : Tk} {l : List Tk} (h : t.k = 4) : jt b (t :: l) = 10 :: jt false l := by rw [jt, if_pos h]
theorem jt_on {b : Bool} {t : Tk} {l : List Tk} (h : t.k ≠ 4) : jt b (t :: l) = (if b then 32 :: bl t.s else bl t.s) ++ jt true l := by rw [jt, if_neg h]
set_option maxRecDepth 100000 in
set_option maxHeartbeats 16000000 in
theorem refJoin_any (A : Option Addr) (n c : Nat) (L : List Tk) (w : World) (h : Toks w w.heap.size A n L) (hn : n ≤ 5000) : Calls Try.prog 15 #[.slice A n c] w (JoinP w (joinF L).1 (joinF L).2) := by
  have HN := Lib.hid h.1
  obtain ⟨JT, JE, HJ⟩ : ∃ JT JE, Hid (joinF L = (JT, JE)) := ⟨_, _, Lib.hid rfl⟩
  rw [HJ.out]
  dsimp only
  obtain ⟨F, HF⟩ : ∃ F, Hid (fB true L = F) := ⟨_, Lib.hid rfl⟩
  go_enter Try.func15, Try.ntmps15
  go_wp2
  go_loopw [11] (fun i wr => ∃ (k : Nat) (e : Bool), k ≤ n ∧ i = .int .i64 k ∧ Hid (k = 0 → e = true) ∧ Hid (∀ y, 0 < k → L[k - 1]? = some y → e = decide (y.k = 4)) ∧ Hid (0 < k → k = n → e = false) ∧ Hid ((L.take k).all mayB = true) ∧ Hid (fB e (L.drop k) = F) ∧ Hid (Below w.heap.size w wr)) (fun i _ => n - (intOf i).toNat)
  case atStart => exact ⟨0, true, Nat.zero_le _, rfl, fun _ => rfl, fun y h => absurd h (by omega), fun h => absurd h (by omega), rfl, HF, Below.refl _ _⟩
  case round =>
    obtain ⟨k, e, hk, rfl, HE0, HEp, HEn, HM, HFk, HB⟩ := hrel
    have hbw : w.heap.size ≤ wr.heap.size := HB.out.size
    by_cases hlt : k < n
    · obtain ⟨b, off, x, rfl, hbl, HX, hc0, hc1, hc2, hxo⟩ := (h.on HB.out (Nat.le_refl _)).at_ hlt
      have hxs := hxo.2.2.2.2
      have hdr := drop_cons HX.out
      have HB1 : Hid (Below w.heap.size w (wr.alloc (.cells #[.int .i64 x.k, .string x.s, .int .i64 x.n] 35))) := HB.out.alloc hbw _
      have hs1 := HB1.out.size
      obtain ⟨m, hm⟩ : ∃ m, mayB x = m := ⟨_, rfl⟩
      have cC := fun w => refCheck_any x w hxs
      rw [hm] at cC
      have hxm := List.mem_of_getElem? HX.out
      have HBX := Lib.hid (box_new wr x)
      have hltb : wr.heap.size < (wr.alloc (.cells #[.int .i64 x.k, .string x.s, .int .i64 x.n] 35)).heap.size := by rw [size_allocE]; omega
      clear hxo hxs
      cases m with
      | false =>
        have HR : Hid (JT = ⟨#[]⟩ ∧ JE = 1) := by
          have e := HJ.out
          rw [joinF_bad hxm hm] at e
          injection e with e1 e2
          exact ⟨e1.symm, e2.symm⟩
        have cC1 : ∀ w, Calls Try.prog 19 #[.agg #[.int .i64 x.k, .string x.s, .int .i64 x.n]] w fun e w' => e = .returned (.int .i64 1) ∧ Below w.heap.size w w' := cC
        clear cC hm hdr HE0 HEp HEn HM HFk HJ HF
        go_wp2_with (go_at_call 19; (with_reducible refine (cC1 _).mono ?_); rintro e w2 ⟨rfl, hb2⟩; have HX2 := (hb2.block wr.heap.size hltb).trans HBX.out; obtain ⟨x0, x1, x2⟩ := boxCells HX2; clear HX2; have HB2 : Below w.heap.size w w2 := HB1.out.trans (hb2.mono hs1))
        go_ret2
        exact ⟨by rw [HR.out.1, HR.out.2]; rfl, HB2⟩
      | true =>
        have cC1 : ∀ w, Calls Try.prog 19 #[.agg #[.int .i64 x.k, .string x.s, .int .i64 x.n]] w fun e w' => e = .returned (.int .i64 0) ∧ Below w.heap.size w w' := cC
        have HM2 := Lib.hid (all_drop HX.out HM.out hm)
        clear cC
        by_cases h4 : x.k = 4
        · have b4 : (x.k == 4) = true := by rw [beq_iff_eq]; exact h4
          by_cases hbad : k = 0 ∨ k = n - 1 ∨ e = true
          · have HFF : F = false := by
              rw [← HFk.out, hdr, fB_line h4]
              rcases hbad with h0 | h0 | h0
              · rw [HE0.out h0]; rfl
              · have : L.drop (k + 1) = [] := List.drop_of_length_le (by rw [HN.out]; omega)
                rw [this]
                simp [fB]
              · rw [h0]; rfl
            have HR : Hid (JT = ⟨#[]⟩ ∧ JE = 1) := by
              have e := HJ.out
              by_cases ha : L.all mayB = true
              · rw [joinF_fB (by intro h; rw [h] at hxm; cases hxm) ha, if_pos (by rw [HF.out]; exact HFF)] at e
                injection e with e1 e2
                exact ⟨e1.symm, e2.symm⟩
              · unfold joinF at e
                rw [if_pos (by simpa using ha)] at e
                injection e with e1 e2
                exact ⟨e1.symm, e2.symm⟩
            by_cases k0 : k = 0
            · have bk0 : ((k : Int) == 0) = true := by rw [beq_iff_eq]; omega
              clear hm hdr HE0 HEp HEn HM HFk HJ HF HFF hbad h4 k0
              go_wp2_with (go_at_call 19; (with_reducible refine (cC1 _).mono ?_); rintro e w2 ⟨rfl, hb2⟩; have HX2 := (hb2.block wr.heap.size hltb).trans HBX.out; obtain ⟨x0, x1, x2⟩ := boxCells HX2; clear HX2; have HB2 : Below w.heap.size w w2 := HB1.out.trans (hb2.mono hs1))
              go_ret2
              exact ⟨by rw [HR.out.1, HR.out.2]; rfl, HB2⟩
            · have bk0 : ((k : Int) == 0) = false := by rw [beq_eq_false_iff_ne]; omega
              by_cases k1 : k = n - 1
              · have bk1 : ((k : Int) == (n : Int) - 1) = true := by rw [beq_iff_eq]; omega
                clear hm hdr HE0 HEp HEn HM HFk HJ HF HFF hbad h4 k1 k0
                go_wp2_with (go_at_call 19; (with_reducible refine (cC1 _).mono ?_); rintro e w2 ⟨rfl, hb2⟩; have HX2 := (hb2.block wr.heap.size hltb).trans HBX.out; obtain ⟨x0, x1, x2⟩ := boxCells HX2; clear HX2; have HB2 : Below w.heap.size w w2 := HB1.out.trans (hb2.mono hs1))
                go_ret2
                exact ⟨by rw [HR.out.1, HR.out.2]; rfl, HB2⟩
              · have he : e = true := by rcases hbad with h | h | h; exact absurd h k0; exact absurd h k1; exact h
                obtain ⟨q, rfl⟩ : ∃ q, k = q + 1 := ⟨k - 1, by omega⟩
                obtain ⟨y, hy⟩ : ∃ y, L[q]? = some y := ⟨_, List.getElem?_eq_getElem (by rw [HN.out]; omega)⟩
                have hy4 : y.k = 4 := by
                  have := HEp.out y (by omega) hy
                  rw [he] at this
                  exact of_decide_eq_true this.symm
                have by4 : (y.k == 4) = true := by rw [beq_iff_eq]; exact hy4
                have bq0 : ((q : Int) + 1 == 0) = false := by rw [beq_eq_false_iff_ne]; omega
                have bq1 : ((q : Int) + 1 == (n : Int) - 1) = false := by rw [beq_eq_false_iff_ne]; omega
                have HY := Lib.hid hy
                clear hm hdr HE0 HEp HEn HM HFk HJ HF HFF hbad h4 k1 k0 he hy hy4 bk0
                go_wp2_with (go_at_call 19; (with_reducible refine (cC1 _).mono ?_); rintro e w2 ⟨rfl, hb2⟩; have HX2 := (hb2.block wr.heap.size hltb).trans HBX.out; obtain ⟨x0, x1, x2⟩ := boxCells HX2; clear HX2; have HB2 : Below w.heap.size w w2 := HB1.out.trans (hb2.mono hs1); have y0 := (h.on HB2 (Nat.le_refl _)).cell HY.out)
                go_ret2
                exact ⟨by rw [HR.out.1, HR.out.2]; rfl, HB2⟩
          · obtain ⟨q, rfl⟩ : ∃ q, k = q + 1 := ⟨k - 1, by omega⟩
            have he : e = false := by
              cases e with
              | false => rfl
              | true => exact absurd (.inr (.inr rfl)) hbad
            have hqn : q + 1 ≠ n - 1 := fun h => hbad (.inr (.inl h))
            obtain ⟨y, hy⟩ : ∃ y, L[q]? = some y := ⟨_, List.getElem?_eq_getElem (by rw [HN.out]; omega)⟩
            have hy4 : y.k ≠ 4 := by
              have := HEp.out y (by omega) hy
              rw [he] at this
              exact of_decide_eq_false this.symm
            have by4 : (y.k == 4) = false := by rw [beq_eq_false_iff_ne]; exact hy4
            have bq0 : ((q : Int) + 1 == 0) = false := by rw [beq_eq_false_iff_ne]; omega
            have bq1 : ((q : Int) + 1 == (n : Int) - 1) = false := by rw [beq_eq_false_iff_ne]; omega
            have HY := Lib.hid hy
            have HFk2 : Hid (fB true (L.drop (q + 1 + 1)) = F) := by
              unfold Hid
              rw [← HFk.out, hdr, fB_line h4, he]
              rfl
            have HEp2 : Hid (∀ z, 0 < q + 1 + 1 → L[q + 1 + 1 - 1]? = some z → true = decide (z.k = 4)) := fun z _ hz => by
              rw [Nat.add_sub_cancel, HX.out] at hz
              injection hz with hz
              subst hz
              simp [h4]
            have HEn2 : Hid (0 < q + 1 + 1 → q + 1 + 1 = n → true = false) := fun _ h => absurd h (by omega)
            clear hm hdr HE0 HEp HEn HM HFk hbad h4 he hy hy4 hqn
            go_wp2_with (go_at_call 19; (with_reducible refine (cC1 _).mono ?_); rintro e w2 ⟨rfl, hb2⟩; have HX2 := (hb2.block wr.heap.size hltb).trans HBX.out; obtain ⟨x0, x1, x2⟩ := boxCells HX2; clear HX2; have HB2 : Below w.heap.size w w2 := HB1.out.trans (hb2.mono hs1); have y0 := (h.on HB2 (Nat.le_refl _)).cell HY.out)
            go_roundw
            case rel => exact ⟨q + 1 + 1, true, by omega, by go_num, fun h => absurd h (by omega), HEp2, HEn2, HM2, HFk2, HB2⟩
            case measure => simp [intOf]; omega
        · have b4 : (x.k == 4) = false := by rw [beq_eq_false_iff_ne]; exact h4
          have HFk2 : Hid (fB false (L.drop (k + 1)) = F) := by
            unfold Hid
            rw [← HFk.out, hdr, fB_on h4]
          have HEp2 : Hid (∀ z, 0 < k + 1 → L[k + 1 - 1]? = some z → false = decide (z.k = 4)) := fun z _ hz => by
            rw [Nat.add_sub_cancel, HX.out] at hz
            injection hz with hz
            subst hz
            simp [h4]
          clear hm hdr HE0 HEp HEn HM HFk h4
          go_wp2_with (go_at_call 19; (with_reducible refine (cC1 _).mono ?_); rintro e w2 ⟨rfl, hb2⟩; have HX2 := (hb2.block wr.heap.size hltb).trans HBX.out; obtain ⟨x0, x1, x2⟩ := boxCells HX2; clear HX2; have HB2 : Below w.heap.size w w2 := HB1.out.trans (hb2.mono hs1))
          go_roundw
          case rel => exact ⟨k + 1, false, by omega, by go_num, fun h => absurd h (by omega), HEp2, fun _ _ => rfl, HM2, HFk2, HB2⟩
          case measure => simp [intOf]; omega
    · obtain rfl : n = k := by omega
      have hall : L.all mayB = true := by
        have := HM.out
        rwa [List.take_of_length_le (by rw [HN.out]; omega)] at this
      have HR : Hid ((4096 < n → JT = ⟨#[]⟩ ∧ JE = 2) ∧ (n ≤ 4096 → JT = ofL (jt false L) ∧ JE = 0)) := by
        have e := HJ.out
        by_cases hL : L = []
        · subst hL
          have hn0 : n = 0 := HN.out.symm
          rw [show joinF [] = (ofL (jt false []), 0) from rfl] at e
          injection e with e1 e2
          exact ⟨fun h => by omega, fun _ => ⟨e1.symm, e2.symm⟩⟩
        · have hFt : fB true L = true := by
            have h1 := HFk.out
            rw [List.drop_of_length_le (by rw [HN.out]; omega)] at h1
            rw [HF.out, ← h1]
            rw [HEn.out (by rw [← HN.out]; exact List.length_pos_iff.2 hL) rfl]
            rfl
          rw [joinF_fB hL hall, if_neg (by rw [hFt]; decide), HN.out] at e
          constructor
          · intro h4
            rw [if_pos h4] at e
            injection e with e1 e2
            exact ⟨e1.symm, e2.symm⟩
          · intro h4
            rw [if_neg (by omega)] at e
            injection e with e1 e2
            exact ⟨e1.symm, e2.symm⟩
      have HMY : Hid (∀ t ∈ L, mayT t) := fun t ht => (mayB_iff t).1 (List.all_eq_true.1 hall t ht)
      have hjl : (jt false L).length ≤ 95000 := by
        have h1 := jt_len L false
        have h2 := totT_le L HMY.out
        rw [HN.out] at h1 h2
        omega
      clear hlt HE0 HEp HEn HM HFk HJ HF hall
      by_cases h4 : 4096 < n
      · have HR2 := Lib.hid (HR.out.1 h4)
        clear HR
        go_wp2
        go_ret2
        exact ⟨by rw [HR2.out.1, HR2.out.2]; rfl, HB.out⟩
      · have HR2 := Lib.hid (HR.out.2 (by omega))
        obtain ⟨wo, rfl⟩ : ∃ wo : World, wo = wr := ⟨_, rfl⟩
        clear HR
        go_wp2
        go_loopw [6, 50] (fun v i wr => ∃ (k : Nat) (b : Bool) (S : ByteArray), k ≤ n ∧ i = .int .i64 k ∧ v = .string S ∧ Hid (k = 0 → b = false) ∧ Hid (∀ y, 0 < k → L[k - 1]? = some y → b = !(decide (y.k = 4))) ∧ Hid (bl S ++ jt b (L.drop k) = jt false L) ∧ Hid (Below w.heap.size w wr)) (fun _ i _ => n - (intOf i).toNat)
        case atStart => exact ⟨0, false, ⟨#[]⟩, Nat.zero_le _, rfl, rfl, fun _ => rfl, fun y h => absurd h (by omega), rfl, HB.out⟩
        case round =>
          obtain ⟨k, b, S, hk, rfl, rfl, HE0, HEp, HS, HB'⟩ := hrel
          have hbw' : w.heap.size ≤ wr.heap.size := HB'.out.size
          by_cases hlt : k < n
          · obtain ⟨bb, off, x, rfl, hbl, HX, hc0, hc1, hc2, hxo⟩ := (h.on HB'.out (Nat.le_refl _)).at_ hlt
            have hdr := drop_cons HX.out
            have hS9 : S.size ≤ 95000 := by
              have := congrArg List.length HS.out
              rw [List.length_append, bl_len] at this
              omega
            have hx9 : x.s.size ≤ 18 := tokF_len (HMY.out x (List.mem_of_getElem? HX.out))
            have HB1 : Hid (Below w.heap.size w (wr.alloc (.cells #[.int .i64 x.k, .string x.s, .int .i64 x.n] 35))) := HB'.out.alloc hbw' _
            clear hxo
            by_cases h4x : x.k = 4
            · have b4 : (x.k == 4) = true := by rw [beq_iff_eq]; exact h4x
              have HS2 : Hid (bl (S ++ ⟨#[10]⟩) ++ jt false (L.drop (k + 1)) = jt false L) := by
                unfold Hid
                rw [← HS.out, hdr, jt_line h4x, bl_cat, List.append_assoc]
                rfl
              have HEp2 : Hid (∀ z, 0 < k + 1 → L[k + 1 - 1]? = some z → false = !(decide (z.k = 4))) := fun z _ hz => by
                rw [Nat.add_sub_cancel, HX.out] at hz
                injection hz with hz
                subst hz
                simp [h4x]
              clear hdr HE0 HEp HS h4x
              go_wp2
              go_roundw
              case rel => exact ⟨k + 1, false, S ++ ⟨#[10]⟩, by omega, by go_num, rfl, fun _ => rfl, HEp2, HS2, HB1⟩
              case measure => simp [intOf]; omega
            · have b4 : (x.k == 4) = false := by rw [beq_eq_false_iff_ne]; exact h4x
              have HEp2 : Hid (∀ z, 0 < k + 1 → L[k + 1 - 1]? = some z → true = !(decide (z.k = 4))) := fun z _ hz => by
                rw [Nat.add_sub_cancel, HX.out] at hz
                injection hz with hz
                subst hz
                simp [h4x]
              cases b with
              | false =>
                have HS2 : Hid (bl (S ++ x.s) ++ jt true (L.drop (k + 1)) = jt false L) := by
                  unfold Hid
                  rw [← HS.out, hdr, jt_on h4x, bl_cat, List.append_assoc]
                  rfl
                by_cases k0 : k = 0
                · have bk : decide (0 < k) = false := decide_eq_false (by omega)
                  have bk2 : decide ((0 : Int) < (k : Int)) = false := decide_eq_false (by omega)
                  clear hdr HE0 HEp HS h4x k0
                  go_wp2
                  go_roundw
                  case rel => exact ⟨k + 1, true, S ++ x.s, by omega, by go_num, rfl, fun h => absurd h (by omega), HEp2, HS2, HB1⟩
                  case measure => simp [intOf]; omega
                · obtain ⟨q, rfl⟩ : ∃ q, k = q + 1 := ⟨k - 1, by omega⟩
                  obtain ⟨y, hy⟩ : ∃ y, L[q]? = some y := ⟨_, List.getElem?_eq_getElem (by rw [HN.out]; omega)⟩
                  have hy4 : y.k = 4 := by
                    have := HEp.out y (by omega) hy
                    simpa using this
                  have by4 : (y.k != 4) = false := by simp [hy4]
                  have y0 := (h.on HB1.out (Nat.le_refl _)).cell hy
                  clear hdr HE0 HEp HS h4x k0 hy hy4
                  go_wp2
                  go_roundw
                  case rel => exact ⟨q + 1 + 1, true, S ++ x.s, by omega, by go_num, rfl, fun h => absurd h (by omega), HEp2, HS2, HB1⟩
                  case measure => simp [intOf]; omega
              | true =>
                have HS2 : Hid (bl (S ++ ⟨#[32]⟩ ++ x.s) ++ jt true (L.drop (k + 1)) = jt false L) := by
                  unfold Hid
                  rw [← HS.out, hdr, jt_on h4x, bl_cat, bl_cat, List.append_assoc, List.append_assoc]
                  rfl
                have k0 : k ≠ 0 := fun h => by have := HE0.out h; cases this
                obtain ⟨q, rfl⟩ : ∃ q, k = q + 1 := ⟨k - 1, by omega⟩
                obtain ⟨y, hy⟩ : ∃ y, L[q]? = some y := ⟨_, List.getElem?_eq_getElem (by rw [HN.out]; omega)⟩
                have hy4 : y.k ≠ 4 := by
                  have := HEp.out y (by omega) hy
                  simpa using this
                have by4 : (y.k != 4) = true := by simp [hy4]
                have y0 := (h.on HB1.out (Nat.le_refl _)).cell hy
                clear hdr HE0 HEp HS h4x k0 hy hy4
                go_wp2
                go_roundw
                case rel => exact ⟨q + 1 + 1, true, S ++ ⟨#[32]⟩ ++ x.s, by omega, by go_num, rfl, fun h => absurd h (by omega), HEp2, HS2, HB1⟩
                case measure => simp [intOf]; omega
          · obtain rfl : n = k := by omega
            have HS2 : Hid (JT = S ∧ JE = 0) := by
              refine ⟨?_, HR2.out.2⟩
              have h1 := HS.out
              rw [List.drop_of_length_le (by rw [HN.out]; omega)] at h1
              simp only [jt, List.append_nil] at h1
              rw [HR2.out.1, ← h1, ofL_bl]
            go_wp2
            go_ret2
            exact ⟨by rw [HS2.out.1, HS2.out.2]; rfl, HB'.out⟩
end Go.Proofs.Ytinjkakfnppjpaa
