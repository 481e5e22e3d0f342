/- The document's instruction of tokens. -/
import Derived.Test.YtbmcddolfofmdaaGreatDoorG11
import Derived.Test.YtbmcddolfofmdaaGreatDoorG5
import Derived.Test.YtbmcddolfofmdaaGreatDoorG6
import Derived.Test.YtbmcddolfofmdaaGreatDoorG10
import Derived.Test.YtbmcddolfofmdaaGreatDoorG9
import Derived.IntWalk
namespace Go.Proofs.YtbmcddolfofmdaaGreatDoor
open Go.RowKit

end Go.Proofs.YtbmcddolfofmdaaGreatDoor
/- What code's text is read as, as a call's end. -/
namespace Go.Proofs.YtbmcddolfofmdaaGreatDoor
open Go.RowKit

def ParseP (s : ByteArray) (w : World) (e : Ending) (w' : World) : Prop :=
  ∃ A' c', e = .returned (.tuple #[.agg #[.int .i64 (parseF (bl s)).1.R, .int .i64 (parseF (bl s)).1.A, .int .i64 (parseF (bl s)).1.I, .slice A' (parseF (bl s)).1.l.length c'], .int .i64 (parseF (bl s)).2.1, .int .i64 (parseF (bl s)).2.2]) ∧ OwnJ w' w.heap.size A' c' (parseF (bl s)).1.l ∧ Below w.heap.size w w'
/-- what Text tells -/
def textF (c : Cd) : ByteArray × Int := if c.may then joinF (progT c) else (⟨#[]⟩, 1)
def TextP (q : Cq) (w : World) (e : Ending) (w' : World) : Prop := e = .returned (.tuple #[.string (textF q.cd).1, .int .i64 (textF q.cd).2]) ∧ Below w.heap.size w w'
end Go.Proofs.YtbmcddolfofmdaaGreatDoor
/- The document's Join: it gives what lexer.Join does. -/
namespace Go.Proofs.YtbmcddolfofmdaaGreatDoor
open Go.RowKit

/-- no line is empty, one token after the other (e: the line is empty so far) -/
def fB : Bool → List Tk → Bool
  | e, [] => !e
  | e, t :: l => if t.k = 4 then !e && fB true l else fB false l
theorem fB_full : ∀ (l cur : List Tk), fullL cur l ↔ fB (decide (cur = [])) l = true
  | [], cur => by
    unfold fullL fB
    simp [linesK]
  | t :: l, cur => by
    unfold fB
    by_cases h : t.k = 4
    · have ih := fB_full l []
      unfold fullL at ih ⊢
      rw [linesK_line h, linesK_all, if_pos h]
      simp only [List.nil_append, List.singleton_append, List.mem_cons, forall_eq_or_imp, Bool.and_eq_true]
      rw [ih]
      simp
    · have ih := fB_full l (cur ++ [t])
      unfold fullL at ih ⊢
      rw [linesK_on h, if_neg h, ih]
      simp
theorem joinF_fB {L : List Tk} (h0 : L ≠ []) (hm : L.all mayB = true) : joinF L = if fB true L = false then (⟨#[]⟩, 1) else if 4096 < L.length then (⟨#[]⟩, 2) else (ofL (jt false L), 0) := by
  have h1 := fB_full L []
  unfold joinF
  rw [if_neg (by rw [hm]; decide), joinT_jt h0]
  by_cases hf : fB true L = false
  · rw [if_pos hf, if_pos]
    apply Classical.byContradiction
    intro hx
    have : fullL [] L := fun R hR e => hx ⟨R, by unfold linesL; rw [if_neg h0]; exact hR, e⟩
    rw [h1] at this
    simp [hf] at this
  · rw [if_neg hf, if_neg]
    rintro ⟨R, hR, e⟩
    have h2 : fullL [] L := by rw [h1]; simpa using hf
    unfold linesL at hR
    rw [if_neg h0] at hR
    exact h2 R hR e
theorem joinF_bad {L : List Tk} {t : Tk} (ht : t ∈ L) (hm : mayB t = false) : joinF L = (⟨#[]⟩, 1) := by
  unfold joinF
  rw [if_pos]
  rw [List.all_eq_false]
  exact ⟨t, ht, by rw [hm]; decide⟩
theorem fB_line {e : Bool} {t : Tk} {l : List Tk} (h : t.k = 4) : fB e (t :: l) = (!e && fB true l) := by rw [fB, if_pos h]
theorem fB_on {e : Bool} {t : Tk} {l : List Tk} (h : t.k ≠ 4) : fB e (t :: l) = fB false l := by rw [fB, if_neg h]
theorem all_drop {L : List Tk} {k : Nat} {x : Tk} (hx : L[k]? = some x) (h : (L.take k).all mayB = true) (hm : mayB x = true) : (L.take (k + 1)).all mayB = true := by
  rw [List.take_add_one, hx, List.all_append, h]
  simp [hm]
theorem Toks.cell {w : World} {B n b off k : Nat} {L : List Tk} {x : Tk} (h : Toks w B (some ⟨b, off, none⟩) n L) (hx : L[k]? = some x) : w.cell? ⟨b, off + k * 3, none⟩ = some (.int .i64 x.k) := by
  have hk := (List.getElem?_eq_some_iff.1 hx).1
  rw [h.1] at hk
  obtain ⟨b', off', e, _, hc⟩ := h.2.2 (by omega)
  injection e with e; injection e with e1 e2
  subst e1 e2
  exact (hc k x hx).1
theorem totT_le : ∀ (L : List Tk), (∀ t ∈ L, mayT t) → totT L ≤ 18 * L.length
  | [], _ => by simp [totT]
  | t :: l, h => by
    have h1 := totT_le l fun x hx => h x (by simp [hx])
    have h2 := tokF_len (h t (by simp))
    unfold totT at h1 ⊢
    simp only [List.map_cons, List.sum_cons, List.length_cons]
    omega
theorem bl_cat (s t : ByteArray) : bl (s ++ t) = bl s ++ bl t := bl_append s t
theorem jt_line {b : Bool} {t : Tk} {l : List Tk} (h : t.k = 4) : jt b (t :: l) = 10 :: jt false l := by rw [jt, if_pos h]
theorem jt_on {b : Bool} {t : Tk} {l : List Tk} (h : t.k ≠ 4) : jt b (t :: l) = (if b then 32 :: bl t.s else bl t.s) ++ jt true l := by rw [jt, if_neg h]
set_option maxRecDepth 100000 in
set_option maxHeartbeats 16000000 in
theorem refJoin_any (A : Option Addr) (n c : Nat) (L : List Tk) (w : World) (h : Toks w w.heap.size A n L) (hn : n ≤ 5000) : Calls Tryz.prog 27 #[.slice A n c] w (JoinP w (joinF L).1 (joinF L).2) := by
  have HN := Lib.hid h.1
  obtain ⟨JT, JE, HJ⟩ : ∃ JT JE, Hid (joinF L = (JT, JE)) := ⟨_, _, Lib.hid rfl⟩
  rw [HJ.out]
  dsimp only
  obtain ⟨F, HF⟩ : ∃ F, Hid (fB true L = F) := ⟨_, Lib.hid rfl⟩
  go_enter Tryz.func27, Tryz.ntmps27
  go_wp2
  go_loopw [11] (fun i wr => ∃ (k : Nat) (e : Bool), k ≤ n ∧ i = .int .i64 k ∧ Hid (k = 0 → e = true) ∧ Hid (∀ y, 0 < k → L[k - 1]? = some y → e = decide (y.k = 4)) ∧ Hid (0 < k → k = n → e = false) ∧ Hid ((L.take k).all mayB = true) ∧ Hid (fB e (L.drop k) = F) ∧ Hid (Below w.heap.size w wr)) (fun i _ => n - (intOf i).toNat)
  case atStart => exact ⟨0, true, Nat.zero_le _, rfl, fun _ => rfl, fun y h => absurd h (by omega), fun h => absurd h (by omega), rfl, HF, Below.refl _ _⟩
  case round =>
    obtain ⟨k, e, hk, rfl, HE0, HEp, HEn, HM, HFk, HB⟩ := hrel
    have hbw : w.heap.size ≤ wr.heap.size := HB.out.size
    by_cases hlt : k < n
    · obtain ⟨b, off, x, rfl, hbl, HX, hc0, hc1, hc2, hxo⟩ := (h.on HB.out (Nat.le_refl _)).at_ hlt
      have hxs := hxo.2.2.2.2
      have hdr := drop_cons HX.out
      have HB1 : Hid (Below w.heap.size w (wr.alloc (.cells #[.int .i64 x.k, .string x.s, .int .i64 x.n] 49))) := HB.out.alloc hbw _
      have hs1 := HB1.out.size
      obtain ⟨m, hm⟩ : ∃ m, mayB x = m := ⟨_, rfl⟩
      have cC := fun w => refCheck_any x w hxs
      rw [hm] at cC
      have hxm := List.mem_of_getElem? HX.out
      have HBX := Lib.hid (box_new wr x)
      have hltb : wr.heap.size < (wr.alloc (.cells #[.int .i64 x.k, .string x.s, .int .i64 x.n] 49)).heap.size := by rw [size_allocE]; omega
      clear hxo hxs
      cases m with
      | false =>
        have HR : Hid (JT = ⟨#[]⟩ ∧ JE = 1) := by
          have e := HJ.out
          rw [joinF_bad hxm hm] at e
          injection e with e1 e2
          exact ⟨e1.symm, e2.symm⟩
        have cC1 : ∀ w, Calls Tryz.prog 51 #[.agg #[.int .i64 x.k, .string x.s, .int .i64 x.n]] w fun e w' => e = .returned (.int .i64 1) ∧ Below w.heap.size w w' := cC
        clear cC hm hdr HE0 HEp HEn HM HFk HJ HF
        go_wp2_with (go_at_call 51; (with_reducible refine (cC1 _).mono ?_); rintro e w2 ⟨rfl, hb2⟩; have HX2 := (hb2.block wr.heap.size hltb).trans HBX.out; obtain ⟨x0, x1, x2⟩ := boxCells HX2; clear HX2; have HB2 : Below w.heap.size w w2 := HB1.out.trans (hb2.mono hs1))
        go_ret2
        exact ⟨by rw [HR.out.1, HR.out.2]; rfl, HB2⟩
      | true =>
        have cC1 : ∀ w, Calls Tryz.prog 51 #[.agg #[.int .i64 x.k, .string x.s, .int .i64 x.n]] w fun e w' => e = .returned (.int .i64 0) ∧ Below w.heap.size w w' := cC
        have HM2 := Lib.hid (all_drop HX.out HM.out hm)
        clear cC
        by_cases h4 : x.k = 4
        · have b4 : (x.k == 4) = true := by rw [beq_iff_eq]; exact h4
          by_cases hbad : k = 0 ∨ k = n - 1 ∨ e = true
          · have HFF : F = false := by
              rw [← HFk.out, hdr, fB_line h4]
              rcases hbad with h0 | h0 | h0
              · rw [HE0.out h0]; rfl
              · have : L.drop (k + 1) = [] := List.drop_of_length_le (by rw [HN.out]; omega)
                rw [this]
                simp [fB]
              · rw [h0]; rfl
            have HR : Hid (JT = ⟨#[]⟩ ∧ JE = 1) := by
              have e := HJ.out
              by_cases ha : L.all mayB = true
              · rw [joinF_fB (by intro h; rw [h] at hxm; cases hxm) ha, if_pos (by rw [HF.out]; exact HFF)] at e
                injection e with e1 e2
                exact ⟨e1.symm, e2.symm⟩
              · unfold joinF at e
                rw [if_pos (by simpa using ha)] at e
                injection e with e1 e2
                exact ⟨e1.symm, e2.symm⟩
            by_cases k0 : k = 0
            · have bk0 : ((k : Int) == 0) = true := by rw [beq_iff_eq]; omega
              clear hm hdr HE0 HEp HEn HM HFk HJ HF HFF hbad h4 k0
              go_wp2_with (go_at_call 51; (with_reducible refine (cC1 _).mono ?_); rintro e w2 ⟨rfl, hb2⟩; have HX2 := (hb2.block wr.heap.size hltb).trans HBX.out; obtain ⟨x0, x1, x2⟩ := boxCells HX2; clear HX2; have HB2 : Below w.heap.size w w2 := HB1.out.trans (hb2.mono hs1))
              go_ret2
              exact ⟨by rw [HR.out.1, HR.out.2]; rfl, HB2⟩
            · have bk0 : ((k : Int) == 0) = false := by rw [beq_eq_false_iff_ne]; omega
              by_cases k1 : k = n - 1
              · have bk1 : ((k : Int) == (n : Int) - 1) = true := by rw [beq_iff_eq]; omega
                clear hm hdr HE0 HEp HEn HM HFk HJ HF HFF hbad h4 k1 k0
                go_wp2_with (go_at_call 51; (with_reducible refine (cC1 _).mono ?_); rintro e w2 ⟨rfl, hb2⟩; have HX2 := (hb2.block wr.heap.size hltb).trans HBX.out; obtain ⟨x0, x1, x2⟩ := boxCells HX2; clear HX2; have HB2 : Below w.heap.size w w2 := HB1.out.trans (hb2.mono hs1))
                go_ret2
                exact ⟨by rw [HR.out.1, HR.out.2]; rfl, HB2⟩
              · have he : e = true := by rcases hbad with h | h | h; exact absurd h k0; exact absurd h k1; exact h
                obtain ⟨q, rfl⟩ : ∃ q, k = q + 1 := ⟨k - 1, by omega⟩
                obtain ⟨y, hy⟩ : ∃ y, L[q]? = some y := ⟨_, List.getElem?_eq_getElem (by rw [HN.out]; omega)⟩
                have hy4 : y.k = 4 := by
                  have := HEp.out y (by omega) hy
                  rw [he] at this
                  exact of_decide_eq_true this.symm
                have by4 : (y.k == 4) = true := by rw [beq_iff_eq]; exact hy4
                have bq0 : ((q : Int) + 1 == 0) = false := by rw [beq_eq_false_iff_ne]; omega
                have bq1 : ((q : Int) + 1 == (n : Int) - 1) = false := by rw [beq_eq_false_iff_ne]; omega
                have HY := Lib.hid hy
                clear hm hdr HE0 HEp HEn HM HFk HJ HF HFF hbad h4 k1 k0 he hy hy4 bk0
                go_wp2_with (go_at_call 51; (with_reducible refine (cC1 _).mono ?_); rintro e w2 ⟨rfl, hb2⟩; have HX2 := (hb2.block wr.heap.size hltb).trans HBX.out; obtain ⟨x0, x1, x2⟩ := boxCells HX2; clear HX2; have HB2 : Below w.heap.size w w2 := HB1.out.trans (hb2.mono hs1); have y0 := (h.on HB2 (Nat.le_refl _)).cell HY.out)
                go_ret2
                exact ⟨by rw [HR.out.1, HR.out.2]; rfl, HB2⟩
          · obtain ⟨q, rfl⟩ : ∃ q, k = q + 1 := ⟨k - 1, by omega⟩
            have he : e = false := by
              cases e with
              | false => rfl
              | true => exact absurd (.inr (.inr rfl)) hbad
            have hqn : q + 1 ≠ n - 1 := fun h => hbad (.inr (.inl h))
            obtain ⟨y, hy⟩ : ∃ y, L[q]? = some y := ⟨_, List.getElem?_eq_getElem (by rw [HN.out]; omega)⟩
            have hy4 : y.k ≠ 4 := by
              have := HEp.out y (by omega) hy
              rw [he] at this
              exact of_decide_eq_false this.symm
            have by4 : (y.k == 4) = false := by rw [beq_eq_false_iff_ne]; exact hy4
            have bq0 : ((q : Int) + 1 == 0) = false := by rw [beq_eq_false_iff_ne]; omega
            have bq1 : ((q : Int) + 1 == (n : Int) - 1) = false := by rw [beq_eq_false_iff_ne]; omega
            have HY := Lib.hid hy
            have HFk2 : Hid (fB true (L.drop (q + 1 + 1)) = F) := by
              unfold Hid
              rw [← HFk.out, hdr, fB_line h4, he]
              rfl
            have HEp2 : Hid (∀ z, 0 < q + 1 + 1 → L[q + 1 + 1 - 1]? = some z → true = decide (z.k = 4)) := fun z _ hz => by
              rw [Nat.add_sub_cancel, HX.out] at hz
              injection hz with hz
              subst hz
              simp [h4]
            have HEn2 : Hid (0 < q + 1 + 1 → q + 1 + 1 = n → true = false) := fun _ h => absurd h (by omega)
            clear hm hdr HE0 HEp HEn HM HFk hbad h4 he hy hy4 hqn
            go_wp2_with (go_at_call 51; (with_reducible refine (cC1 _).mono ?_); rintro e w2 ⟨rfl, hb2⟩; have HX2 := (hb2.block wr.heap.size hltb).trans HBX.out; obtain ⟨x0, x1, x2⟩ := boxCells HX2; clear HX2; have HB2 : Below w.heap.size w w2 := HB1.out.trans (hb2.mono hs1); have y0 := (h.on HB2 (Nat.le_refl _)).cell HY.out)
            go_roundw
            case rel => exact ⟨q + 1 + 1, true, by omega, by go_num, fun h => absurd h (by omega), HEp2, HEn2, HM2, HFk2, HB2⟩
            case measure => simp [intOf]; omega
        · have b4 : (x.k == 4) = false := by rw [beq_eq_false_iff_ne]; exact h4
          have HFk2 : Hid (fB false (L.drop (k + 1)) = F) := by
            unfold Hid
            rw [← HFk.out, hdr, fB_on h4]
          have HEp2 : Hid (∀ z, 0 < k + 1 → L[k + 1 - 1]? = some z → false = decide (z.k = 4)) := fun z _ hz => by
            rw [Nat.add_sub_cancel, HX.out] at hz
            injection hz with hz
            subst hz
            simp [h4]
          clear hm hdr HE0 HEp HEn HM HFk h4
          go_wp2_with (go_at_call 51; (with_reducible refine (cC1 _).mono ?_); rintro e w2 ⟨rfl, hb2⟩; have HX2 := (hb2.block wr.heap.size hltb).trans HBX.out; obtain ⟨x0, x1, x2⟩ := boxCells HX2; clear HX2; have HB2 : Below w.heap.size w w2 := HB1.out.trans (hb2.mono hs1))
          go_roundw
          case rel => exact ⟨k + 1, false, by omega, by go_num, fun h => absurd h (by omega), HEp2, fun _ _ => rfl, HM2, HFk2, HB2⟩
          case measure => simp [intOf]; omega
    · obtain rfl : n = k := by omega
      have hall : L.all mayB = true := by
        have := HM.out
        rwa [List.take_of_length_le (by rw [HN.out]; omega)] at this
      have HR : Hid ((4096 < n → JT = ⟨#[]⟩ ∧ JE = 2) ∧ (n ≤ 4096 → JT = ofL (jt false L) ∧ JE = 0)) := by
        have e := HJ.out
        by_cases hL : L = []
        · subst hL
          have hn0 : n = 0 := HN.out.symm
          rw [show joinF [] = (ofL (jt false []), 0) from rfl] at e
          injection e with e1 e2
          exact ⟨fun h => by omega, fun _ => ⟨e1.symm, e2.symm⟩⟩
        · have hFt : fB true L = true := by
            have h1 := HFk.out
            rw [List.drop_of_length_le (by rw [HN.out]; omega)] at h1
            rw [HF.out, ← h1]
            rw [HEn.out (by rw [← HN.out]; exact List.length_pos_iff.2 hL) rfl]
            rfl
          rw [joinF_fB hL hall, if_neg (by rw [hFt]; decide), HN.out] at e
          constructor
          · intro h4
            rw [if_pos h4] at e
            injection e with e1 e2
            exact ⟨e1.symm, e2.symm⟩
          · intro h4
            rw [if_neg (by omega)] at e
            injection e with e1 e2
            exact ⟨e1.symm, e2.symm⟩
      have HMY : Hid (∀ t ∈ L, mayT t) := fun t ht => (mayB_iff t).1 (List.all_eq_true.1 hall t ht)
      have hjl : (jt false L).length ≤ 95000 := by
        have h1 := jt_len L false
        have h2 := totT_le L HMY.out
        rw [HN.out] at h1 h2
        omega
      clear hlt HE0 HEp HEn HM HFk HJ HF hall
      by_cases h4 : 4096 < n
      · have HR2 := Lib.hid (HR.out.1 h4)
        clear HR
        go_wp2
        go_ret2
        exact ⟨by rw [HR2.out.1, HR2.out.2]; rfl, HB.out⟩
      · have HR2 := Lib.hid (HR.out.2 (by omega))
        obtain ⟨wo, rfl⟩ : ∃ wo : World, wo = wr := ⟨_, rfl⟩
        clear HR
        go_wp2
        go_loopw [6, 50] (fun v i wr => ∃ (k : Nat) (b : Bool) (S : ByteArray), k ≤ n ∧ i = .int .i64 k ∧ v = .string S ∧ Hid (k = 0 → b = false) ∧ Hid (∀ y, 0 < k → L[k - 1]? = some y → b = !(decide (y.k = 4))) ∧ Hid (bl S ++ jt b (L.drop k) = jt false L) ∧ Hid (Below w.heap.size w wr)) (fun _ i _ => n - (intOf i).toNat)
        case atStart => exact ⟨0, false, ⟨#[]⟩, Nat.zero_le _, rfl, rfl, fun _ => rfl, fun y h => absurd h (by omega), rfl, HB.out⟩
        case round =>
          obtain ⟨k, b, S, hk, rfl, rfl, HE0, HEp, HS, HB'⟩ := hrel
          have hbw' : w.heap.size ≤ wr.heap.size := HB'.out.size
          by_cases hlt : k < n
          · obtain ⟨bb, off, x, rfl, hbl, HX, hc0, hc1, hc2, hxo⟩ := (h.on HB'.out (Nat.le_refl _)).at_ hlt
            have hdr := drop_cons HX.out
            have hS9 : S.size ≤ 95000 := by
              have := congrArg List.length HS.out
              rw [List.length_append, bl_len] at this
              omega
            have hx9 : x.s.size ≤ 18 := tokF_len (HMY.out x (List.mem_of_getElem? HX.out))
            have HB1 : Hid (Below w.heap.size w (wr.alloc (.cells #[.int .i64 x.k, .string x.s, .int .i64 x.n] 49))) := HB'.out.alloc hbw' _
            clear hxo
            by_cases h4x : x.k = 4
            · have b4 : (x.k == 4) = true := by rw [beq_iff_eq]; exact h4x
              have HS2 : Hid (bl (S ++ ⟨#[10]⟩) ++ jt false (L.drop (k + 1)) = jt false L) := by
                unfold Hid
                rw [← HS.out, hdr, jt_line h4x, bl_cat, List.append_assoc]
                rfl
              have HEp2 : Hid (∀ z, 0 < k + 1 → L[k + 1 - 1]? = some z → false = !(decide (z.k = 4))) := fun z _ hz => by
                rw [Nat.add_sub_cancel, HX.out] at hz
                injection hz with hz
                subst hz
                simp [h4x]
              clear hdr HE0 HEp HS h4x
              go_wp2
              go_roundw
              case rel => exact ⟨k + 1, false, S ++ ⟨#[10]⟩, by omega, by go_num, rfl, fun _ => rfl, HEp2, HS2, HB1⟩
              case measure => simp [intOf]; omega
            · have b4 : (x.k == 4) = false := by rw [beq_eq_false_iff_ne]; exact h4x
              have HEp2 : Hid (∀ z, 0 < k + 1 → L[k + 1 - 1]? = some z → true = !(decide (z.k = 4))) := fun z _ hz => by
                rw [Nat.add_sub_cancel, HX.out] at hz
                injection hz with hz
                subst hz
                simp [h4x]
              cases b with
              | false =>
                have HS2 : Hid (bl (S ++ x.s) ++ jt true (L.drop (k + 1)) = jt false L) := by
                  unfold Hid
                  rw [← HS.out, hdr, jt_on h4x, bl_cat, List.append_assoc]
                  rfl
                by_cases k0 : k = 0
                · have bk : decide (0 < k) = false := decide_eq_false (by omega)
                  have bk2 : decide ((0 : Int) < (k : Int)) = false := decide_eq_false (by omega)
                  clear hdr HE0 HEp HS h4x k0
                  go_wp2
                  go_roundw
                  case rel => exact ⟨k + 1, true, S ++ x.s, by omega, by go_num, rfl, fun h => absurd h (by omega), HEp2, HS2, HB1⟩
                  case measure => simp [intOf]; omega
                · obtain ⟨q, rfl⟩ : ∃ q, k = q + 1 := ⟨k - 1, by omega⟩
                  obtain ⟨y, hy⟩ : ∃ y, L[q]? = some y := ⟨_, List.getElem?_eq_getElem (by rw [HN.out]; omega)⟩
                  have hy4 : y.k = 4 := by
                    have := HEp.out y (by omega) hy
                    simpa using this
                  have by4 : (y.k != 4) = false := by simp [hy4]
                  have y0 := (h.on HB1.out (Nat.le_refl _)).cell hy
                  clear hdr HE0 HEp HS h4x k0 hy hy4
                  go_wp2
                  go_roundw
                  case rel => exact ⟨q + 1 + 1, true, S ++ x.s, by omega, by go_num, rfl, fun h => absurd h (by omega), HEp2, HS2, HB1⟩
                  case measure => simp [intOf]; omega
              | true =>
                have HS2 : Hid (bl (S ++ ⟨#[32]⟩ ++ x.s) ++ jt true (L.drop (k + 1)) = jt false L) := by
                  unfold Hid
                  rw [← HS.out, hdr, jt_on h4x, bl_cat, bl_cat, List.append_assoc, List.append_assoc]
                  rfl
                have k0 : k ≠ 0 := fun h => by have := HE0.out h; cases this
                obtain ⟨q, rfl⟩ : ∃ q, k = q + 1 := ⟨k - 1, by omega⟩
                obtain ⟨y, hy⟩ : ∃ y, L[q]? = some y := ⟨_, List.getElem?_eq_getElem (by rw [HN.out]; omega)⟩
                have hy4 : y.k ≠ 4 := by
                  have := HEp.out y (by omega) hy
                  simpa using this
                have by4 : (y.k != 4) = true := by simp [hy4]
                have y0 := (h.on HB1.out (Nat.le_refl _)).cell hy
                clear hdr HE0 HEp HS h4x k0 hy hy4
                go_wp2
                go_roundw
                case rel => exact ⟨q + 1 + 1, true, S ++ ⟨#[32]⟩ ++ x.s, by omega, by go_num, rfl, fun h => absurd h (by omega), HEp2, HS2, HB1⟩
                case measure => simp [intOf]; omega
          · obtain rfl : n = k := by omega
            have HS2 : Hid (JT = S ∧ JE = 0) := by
              refine ⟨?_, HR2.out.2⟩
              have h1 := HS.out
              rw [List.drop_of_length_le (by rw [HN.out]; omega)] at h1
              simp only [jt, List.append_nil] at h1
              rw [HR2.out.1, ← h1, ofL_bl]
            go_wp2
            go_ret2
            exact ⟨by rw [HS2.out.1, HS2.out.2]; rfl, HB'.out⟩
end Go.Proofs.YtbmcddolfofmdaaGreatDoor
/- The document's Text of code. -/
namespace Go.Proofs.YtbmcddolfofmdaaGreatDoor
open Go.RowKit

theorem argT_ok {c : UInt8} {v N : Int} (h0 : 0 ≤ v) (h1 : v ≤ 9223372036854775807) (hN0 : -9223372036854775807 ≤ N) (hN1 : N ≤ 9223372036854775807) : ∀ t ∈ argT c v N, t.ok := by
  have hreg : ∀ d : UInt8, (regT d v).ok := fun d => by
    rw [reg_text d h0]
    have h2 := itoa_size h0 h1
    refine ⟨by show -9223372036854775808 ≤ (1 : Int); decide, by show (1 : Int) ≤ 9223372036854775807; decide, by show -9223372036854775808 ≤ (0 : Int); decide, by show (0 : Int) ≤ 9223372036854775807; decide, ?_⟩
    show ((⟨#[d]⟩ : ByteArray) ++ ofL (Lib.itoa v)).size ≤ maxLen
    rw [ByteArray.size_append]
    have h3 : (⟨#[d]⟩ : ByteArray).size = 1 := rfl
    unfold maxLen
    omega
  intro t ht
  unfold argT at ht
  split at ht
  · rw [List.mem_singleton.1 ht]; exact hreg _
  · split at ht
    · rw [List.mem_singleton.1 ht]; exact hreg _
    · split at ht
      · exact numT_ok (by omega) h1 t ht
      · split at ht
        · exact numT_ok hN0 hN1 t ht
        · cases ht
theorem argsT_ok {N : Int} (hN0 : -9223372036854775807 ≤ N) (hN1 : N ≤ 9223372036854775807) : ∀ (ks : List UInt8) (vs : List Int), (∀ v ∈ vs, 0 ≤ v ∧ v ≤ 9223372036854775807) → ∀ t ∈ argsT ks vs N, t.ok
  | [], _, _, t, ht => by simp [argsT] at ht
  | _ :: _, [], _, t, ht => by simp [argsT] at ht
  | k :: ks, v :: vs, h, t, ht => by
    unfold argsT at ht
    rcases List.mem_append.1 ht with ht | ht
    · exact argT_ok (h v (by simp)).1 (h v (by simp)).2 hN0 hN1 t ht
    · exact argsT_ok hN0 hN1 ks vs (fun u hu => h u (by simp [hu])) t ht
theorem wJ_five (op : Int) : (wJ op).length ≤ 5 := by
  have hall : ∀ l ∈ wordsJ, l.length ≤ 5 := by decide
  unfold wJ
  split
  · by_cases hl : op.toNat < wordsJ.length
    · rw [List.getD_eq_getElem?_getD, List.getElem?_eq_getElem hl]
      exact hall _ (List.getElem_mem hl)
    · rw [List.getD_eq_getElem?_getD, List.getElem?_eq_none (by omega)]
      exact Nat.zero_le _
  · exact Nat.zero_le _
theorem tokW_ok {l : List UInt8} (h : l.length ≤ 5) : (tokW l).ok := by
  refine ⟨by show -9223372036854775808 ≤ (1 : Int); decide, by show (1 : Int) ≤ 9223372036854775807; decide, by show -9223372036854775808 ≤ (0 : Int); decide, by show (0 : Int) ≤ 9223372036854775807; decide, ?_⟩
  show (ofL l).size ≤ maxLen
  rw [ofL_size]
  unfold maxLen
  omega
theorem may_f0 {R A L : Int} {x : Ji} (h : mayJ R A L x = true) : ∀ (i : Nat) (v : Int), x.f[i]? = some v → 0 ≤ v := by
  intro i v hv
  have hi : i < 3 := (List.getElem?_eq_some_iff.1 hv).1
  have := ((mayJ_parts h).2.1 i hi).1
  rw [List.getD_eq_getElem?_getD, hv] at this
  exact this
theorem may_n0 {R A L : Int} {x : Ji} (h : mayJ R A L x = true) : -9223372036854775807 ≤ x.n ∧ x.n ≤ 9223372036854775807 := by
  obtain ⟨_, _, m3, m4⟩ := mayJ_parts h
  by_cases hk : (110 : UInt8) ∈ kJ x.op
  · have := m3 hk; omega
  · rw [m4 hk]; omega
theorem lineT_ok {R A L : Int} {x : Ji} (h : mayJ R A L x = true) (hx : x.ok) : ∀ t ∈ lineT x, t.ok := by
  intro t ht
  unfold lineT at ht
  rcases List.mem_cons.1 ht with rfl | ht
  · exact tokW_ok (wJ_five _)
  · refine argsT_ok (may_n0 h).1 (may_n0 h).2 _ _ (fun v hv => ?_) t ht
    obtain ⟨i, hi, rfl⟩ := List.mem_iff_getElem.1 hv
    have h1 := List.getElem?_eq_getElem hi
    exact ⟨may_f0 h i _ h1, (Ji.f_fits hx i _ h1).2⟩
theorem lineTk_ok : lineTk.ok := ⟨by decide, by decide, by decide, by decide, by show 0 ≤ maxLen; unfold maxLen; omega⟩
theorem restT_snoc : ∀ (l : List Ji) (x : Ji), restT (l ++ [x]) = restT l ++ (lineTk :: lineT x)
  | [], x => by simp [restT]
  | y :: l, x => by
    rw [List.cons_append]
    unfold restT
    rw [restT_snoc l x]
    simp
theorem prog_step {R A I : Int} {l : List Ji} {k : Nat} {x : Ji} (hx : l[k]? = some x) : progT ⟨R, A, I, l.take (k + 1)⟩ = (progT ⟨R, A, I, l.take k⟩ ++ [lineTk]) ++ lineT x := by
  show headT R A I ++ restT (l.take (k + 1)) = ((headT R A I ++ restT (l.take k)) ++ [lineTk]) ++ lineT x
  rw [List.take_add_one, hx]
  show headT R A I ++ restT (l.take k ++ [x]) = _
  rw [restT_snoc]
  simp
theorem step_appendToks {ops : Array Oper} {o : Oper} {a : Act} {w : World} {K : Act → World → Prop} {Q : Exit → Act → World → Prop} {E : Prop}
    (hg : o.guard = none) (s x : Operand) (hop : o.op = Op.call { callee := Callee.builtin Builtin.append, args := #[s, x], argTypes := #[46, 46] })
    (base : Nat) (A A2 : Option Addr) (c m c2 B p r : Nat) (xs ys : List Tk) (hs : a.eval s = .slice A p c) (hx : a.eval x = .slice A2 m c2) (ho : OwnT w base A c xs) (hp : xs.length = p) (hr : p + m = r) (hi2 : Toks w B A2 m ys) (hl : r ≤ 1000000) (hb : base ≤ w.heap.size)
    (hK : ∀ A' c' w', OwnT w' base A' c' (xs ++ ys) → w.grownBy w' (Value.slice A p c).ownBlock → K (a.put o.dst (.slice A' r c')) w') :
    if Region.wanted o (yielded ops a.tmps) = true then Oper.wp Tryz.prog o a w K Q else E := by
  rw [if_pos (by simp [Region.wanted, hg])]
  exact wp_appendToks s x hop base A A2 c m c2 B p r xs ys hs hx ho hp hr hi2 hl hb hK
def hdJ (R A I : Int) (k : Nat) : List Tk := tokW codeW :: ([R, A, I].take k).flatMap numT
theorem hdJ_step {R A I v : Int} {k : Nat} (hv : [R, A, I][k]? = some v) : hdJ R A I (k + 1) = hdJ R A I k ++ numT v := by
  unfold hdJ
  rw [List.take_add_one, hv, List.flatMap_append]
  simp
theorem hdJ_all (R A I : Int) : hdJ R A I 3 = progT ⟨R, A, I, []⟩ := by
  unfold hdJ progT headT restT
  simp
theorem hdJ_len (R A I : Int) (k : Nat) : (hdJ R A I k).length ≤ 7 := by
  have h1 := numT_two R
  have h2 := numT_two A
  have h3 := numT_two I
  unfold hdJ
  match k with
  | 0 => simp
  | 1 => simp; omega
  | 2 => simp; omega
  | k + 3 => simp; omega
theorem prog_ok {R A I : Int} (hR : 0 ≤ R ∧ R ≤ 128) (hA : 0 ≤ A ∧ A ≤ 128) (hI : 0 ≤ I ∧ I ≤ 128) : ∀ l : List Ji, (∀ x ∈ l, ∀ t ∈ lineT x, t.ok) → ∀ t ∈ progT ⟨R, A, I, l⟩, t.ok := by
  intro l hl t ht
  have hrest : ∀ l : List Ji, (∀ x ∈ l, ∀ t ∈ lineT x, t.ok) → ∀ t ∈ restT l, t.ok := by
    intro l
    induction l with
    | nil => intro _ t ht; simp [restT] at ht
    | cons x l ih =>
      intro h t ht
      unfold restT at ht
      rcases List.mem_cons.1 ht with rfl | ht
      · exact lineTk_ok
      · rcases List.mem_append.1 ht with ht | ht
        · exact h x (by simp) t ht
        · exact ih (fun y hy => h y (by simp [hy])) t ht
  rcases List.mem_append.1 (show t ∈ headT R A I ++ restT l from ht) with ht | ht
  · unfold headT at ht
    simp only [List.mem_append, List.mem_singleton] at ht
    rcases ht with ((rfl | ht) | ht) | ht
    · exact tokW_ok (by decide)
    · exact numT_ok (by omega) (by omega) t ht
    · exact numT_ok (by omega) (by omega) t ht
    · exact numT_ok (by omega) (by omega) t ht
  · exact hrest l hl t ht
set_option maxRecDepth 100000 in
set_option maxHeartbeats 8000000 in
theorem refText14_any (q : Cq) (w : World) (hq : q.In w) (hn : q.n ≤ 300) : Calls Tryz.prog 7 #[q.val] w (TextP q w) := by
  obtain ⟨R, A, I, P, n, c, l⟩ := q
  have HQ := Lib.hid hq
  have hn3 : n ≤ 300 := hn
  have HLN : Hid (l.length = n) := hq.len
  obtain ⟨W0, hW0⟩ : ∃ W, w.alloc (Cq.obj ⟨R, A, I, P, n, c, l⟩) = W := ⟨_, rfl⟩
  have HB0 : Hid (Below w.heap.size w W0) := by rw [← hW0]; exact lvBelow w _
  have HX0 : Hid (W0.heap[w.heap.size]? = some (Cq.obj ⟨R, A, I, P, n, c, l⟩)) := by rw [← hW0]; exact heap_alloc_new w _
  obtain ⟨E, hE⟩ : ∃ E, (Cq.cd ⟨R, A, I, P, n, c, l⟩).e = E := ⟨_, rfl⟩
  have hC := refCheck14_any ⟨R, A, I, P, n, c, l⟩ W0 (HQ.out.on HB0.out)
  unfold CkP at hC
  rw [hE] at hC
  have HE := Lib.hid hE
  clear hq hn hE
  obtain ⟨m0, m1, m2, m3, _⟩ := lvCells HX0.out
  by_cases hE0 : E = 0
  case neg =>
    have e0 : (E != 0) = true := by simpa using hE0
    have HT : Hid (textF (Cq.cd ⟨R, A, I, P, n, c, l⟩) = (⟨#[]⟩, 1)) := by
      unfold Hid textF
      have hm : (Cq.cd ⟨R, A, I, P, n, c, l⟩).may = false := by
        cases h : (Cq.cd ⟨R, A, I, P, n, c, l⟩).may with
        | false => rfl
        | true => exact absurd (by rw [← HE.out]; unfold Cd.e; rw [h]; rfl) hE0
      rw [hm]
      rfl
    clear hE0
    go_enter Tryz.func7, Tryz.ntmps7
    go_wp2_with fail
    try rw [hW0]
    refine hC.mono ?_
    rintro e w1 ⟨rfl, hb⟩
    have HB1 := Lib.hid (HB0.out.trans (hb.mono HB0.out.size))
    clear hb hC m0 m1 m2 m3
    go_wp2_with fail
    go_ret2
    unfold TextP
    rw [HT.out]
    exact ⟨rfl, HB1.out⟩
  subst hE0
  have hmay : (Cq.cd ⟨R, A, I, P, n, c, l⟩).may = true := by
    have h := HE.out
    unfold Cd.e at h
    split at h
    · assumption
    · cases h
  have HMY : Hid (∀ x ∈ l, ∃ R' A' L', mayJ R' A' L' x = true) := fun x hx => ⟨_, _, _, (Cd.may_parts hmay).2.1 x hx⟩
  obtain ⟨hR0, hR1, hA0, hA1, hI0, hI1, _, _⟩ := (Cd.may_parts hmay).1
  have HRR : Hid ((0 ≤ R ∧ R ≤ 128) ∧ (0 ≤ A ∧ A ≤ 128) ∧ 0 ≤ I ∧ I ≤ 128) := by
    have g1 : 0 ≤ R := hR0
    have g2 : R ≤ 128 := hR1
    have g3 : 0 ≤ A := hA0
    have g4 : A ≤ 128 := hA1
    have g5 : 0 ≤ I := hI0
    have g6 : I ≤ A := hI1
    unfold Hid
    omega
  have HT : Hid (textF (Cq.cd ⟨R, A, I, P, n, c, l⟩) = joinF (progT ⟨R, A, I, l⟩)) := by
    unfold Hid textF
    rw [if_pos hmay]
    rfl
  clear hmay hR0 hR1 hA0 hA1 hI0 hI1
  go_enter Tryz.func7, Tryz.ntmps7
  go_wp2_with fail
  try rw [hW0]
  refine hC.mono ?_
  rintro e w1 ⟨rfl, hb⟩
  have HB1 := Lib.hid (HB0.out.trans (hb.mono HB0.out.size))
  have HX1 := Lib.hid (keep_b hb HX0.out)
  clear hb hC m0 m1 m2 m3 hW0
  go_wp2_with fail
  refine (refNamed_any _ w1).mono ?_
  rintro e w2 ⟨rfl, hb⟩
  have HB2 := Lib.hid (HB1.out.trans (hb.mono HB1.out.size))
  have HX2 := Lib.hid (keep_b hb HX1.out)
  obtain ⟨W3, hW3⟩ : ∃ W, w2.alloc (.cells #[.int .i64 1, .string ⟨#[99, 111, 100, 101]⟩, .int .i64 0] 49) = W := ⟨_, rfl⟩
  have HO3 : Hid (OwnT W3 w.heap.size (some ⟨w2.heap.size, 0, none⟩) 1 (hdJ R A I 0)) := by
    rw [← hW3]
    exact ownT_one w2 (tokW codeW) w.heap.size HB2.out.size
  have hb3 : Below w2.heap.size w2 W3 := by rw [← hW3]; exact lvBelow _ _
  have HB3 := Lib.hid (HB2.out.trans (hb3.mono HB2.out.size))
  have HX3 := Lib.hid (keep_b hb3 HX2.out)
  have HW3 := Lib.hid hW3
  clear hb hb3 hW3
  go_upto_region 4 with fail
  try rw [HW3.out]
  obtain ⟨g2, hg2⟩ : ∃ g, w2.heap.size = g := ⟨_, rfl⟩
  rw [hg2] at HO3 ⊢
  clear hg2
  obtain ⟨W4, hW4⟩ : ∃ W, W3.alloc (.cells #[.int .i64 R, .int .i64 A, .int .i64 I] 3) = W := ⟨_, rfl⟩
  obtain ⟨gi, hgi⟩ : ∃ g, W3.heap.size = g := ⟨_, rfl⟩
  have hb4 : Below W3.heap.size W3 W4 := by rw [← hW4]; exact lvBelow _ _
  have HI4 : Hid (W4.heap[gi]? = some (.cells #[.int .i64 R, .int .i64 A, .int .i64 I] 3 (0, 0))) := by rw [← hW4, ← hgi]; exact heap_alloc_new _ _
  have HB4 := Lib.hid (HB3.out.trans (hb4.mono HB3.out.size))
  have HX4 := Lib.hid (keep_b hb4 HX3.out)
  have HO4 : Hid (OwnT W4 w.heap.size (some ⟨g2, 0, none⟩) 1 (hdJ R A I 0)) := HO3.out.below hb4 (Nat.le_refl _)
  have HW4 := Lib.hid hW4
  obtain ⟨m0, m1, m2, m3, _⟩ := lvCells HX3.out
  clear hb4 hW4
  go_upto_region 5 with fail
  try rw [HW4.out]
  try rw [hgi]
  clear m0 m1 m2 m3 hgi
  go_loopw [4, 6, 22] (fun v _ i wr => ∃ (k : Nat) (A' : Option Addr) (c' : Nat), k ≤ 3 ∧ i = .int .i64 k ∧ v = .slice A' (hdJ R A I k).length c' ∧ Hid (OwnT wr w.heap.size A' c' (hdJ R A I k)) ∧ Hid (Below w.heap.size w wr) ∧ Hid (wr.heap[w.heap.size]? = some (Cq.obj ⟨R, A, I, P, n, c, l⟩)) ∧ Hid (wr.heap[gi]? = some (.cells #[.int .i64 R, .int .i64 A, .int .i64 I] 3 (0, 0)))) (fun _ _ i _ => 3 - (intOf i).toNat)
  case atStart => exact ⟨0, _, _, by omega, rfl, rfl, HO4, HB4, HX4, HI4⟩
  case round =>
    obtain ⟨k, A', c', hk, rfl, rfl, HO, HB, HX, HI⟩ := hrel
    by_cases hlt : k < 3
    · obtain ⟨v, hv⟩ : ∃ v, [R, A, I][k]? = some v := ⟨_, List.getElem?_eq_getElem (by simpa using hlt)⟩
      have hvb : 0 ≤ v ∧ v ≤ 128 := by
        have h := List.mem_of_getElem? hv
        simp only [List.mem_cons, List.not_mem_nil, or_false] at h
        obtain ⟨a1, a2, a3⟩ := HRR.out
        rcases h with rfl | rfl | rfl
        · exact a1
        · exact a2
        · exact a3
      have hD := fun W => refNumbered_any v W (by omega) (by omega)
      have htw := numT_two v
      have HOKN := Lib.hid (numT_ok (v := v) (by omega) (by omega))
      have HST := Lib.hid (hdJ_step hv)
      have hll := hdJ_len R A I k
      have hcv : wr.cell? ⟨gi, k, none⟩ = some (.int .i64 v) := by
        have h3 : [R, A, I].map (Value.int .i64) = [.int .i64 R, .int .i64 A, .int .i64 I] := rfl
        have : ([R, A, I].map (Value.int .i64))[k]? = some (.int .i64 v) := by rw [List.getElem?_map, hv]; rfl
        rw [h3] at this
        refine (cell_of_row _ _ _ _ _ _ HI.out).trans ?_
        simpa using this
      obtain ⟨L, hL⟩ : ∃ L, numT v = L := ⟨_, rfl⟩
      obtain ⟨p, hp⟩ : ∃ p, L.length = p := ⟨_, rfl⟩
      obtain ⟨m, hm⟩ : ∃ m, (hdJ R A I k).length = m := ⟨_, rfl⟩
      unfold NumbP at hD
      rw [hL] at hD htw HOKN HST
      rw [hp] at hD htw
      have HP := Lib.hid hp
      have HM := Lib.hid hm
      rw [hm] at hll ⊢
      have hk0 : (0 : Int) ≤ (k : Int) := by omega
      have hk3 : (k : Int) < 3 := by omega
      have hle : m + p ≤ 1000000 := by omega
      clear hL hp hm hv
      go_wp2_with fail
      (with_reducible refine (hD wr).mono ?_)
      rintro e w3 ⟨A5, c5, rfl, hO5, hb⟩
      have HO5 := Lib.hid (HO.out.below hb (Nat.le_refl _))
      have HB5 := Lib.hid (HB.out.trans (hb.mono HB.out.size))
      have HX5 := Lib.hid (keep_b hb HX.out)
      have HI5 := Lib.hid (keep_b hb HI.out)
      have hs3 : w.heap.size ≤ w3.heap.size := HB5.out.size
      have HT5 : Hid (Toks w3 w3.heap.size A5 p L) := hO5.rd HOKN.out HP.out
      clear hb hD hO5 hcv
      go_wp2_with (at_builtin; refine wpList_appendToks rfl (.tmp 26) (.tmp 28) rfl w.heap.size A' A5 c' p c5 w3.heap.size m (m + p) (hdJ R A I k) L rfl rfl HO5.out HM.out rfl HT5.out hle hs3 ?_; intro A6 c6 w6 hO6 hG6)
      have HB6 := Lib.hid (below_appT HB5.out hG6 HO5.out hs3)
      have HX6 : Hid (w6.heap[w.heap.size]? = some (Cq.obj ⟨R, A, I, P, n, c, l⟩)) := past_tok HO5.out HX5.out (by decide) HM.out hG6
      have HI6 : Hid (w6.heap[gi]? = some (.cells #[.int .i64 R, .int .i64 A, .int .i64 I] 3 (0, 0))) := past_tok HO5.out HI5.out (by decide) HM.out hG6
      have HO6 := Lib.hid hO6
      clear hO6 hG6
      go_wp2_with fail
      go_roundw
      case rel => exact ⟨k + 1, A6, c6, by omega, by go_num, by rw [HST.out, List.length_append, HM.out, HP.out], by rw [HST.out]; exact HO6.out, HB6.out, HX6.out, HI6.out⟩
      case measure => simp [intOf]; omega
    · obtain rfl : k = 3 := by omega
      rw [hdJ_all] at HO ⊢
      have hp0 : progT ⟨R, A, I, []⟩ = progT ⟨R, A, I, l.take 0⟩ := by rw [List.take_zero]
      rw [hp0] at HO ⊢
      obtain ⟨m0, m1, m2, m3, _⟩ := lvCells HX.out
      clear hp0
      go_wp2_with fail
      clear m0 m1 m2 m3 HI
      obtain ⟨wq, rfl⟩ : ∃ wq : World, wq = wr := ⟨_, rfl⟩
      go_loopw [4, 34] (fun v i wr => ∃ (k : Nat) (A' : Option Addr) (c' : Nat), k ≤ n ∧ i = .int .i64 k ∧ v = .slice A' (progT ⟨R, A, I, l.take k⟩).length c' ∧ Hid (OwnT wr w.heap.size A' c' (progT ⟨R, A, I, l.take k⟩)) ∧ Hid (Below w.heap.size w wr)) (fun _ i _ => n - (intOf i).toNat)
      case atStart => exact ⟨0, _, _, Nat.zero_le _, rfl, rfl, HO, HB⟩
      case round =>
        obtain ⟨k, A', c', hk, rfl, rfl, HO, HB⟩ := hrel
        have hll := progT_len ⟨R, A, I, l.take k⟩
        have hlk : (l.take k).length ≤ k := by rw [List.length_take]; omega
        by_cases hlt : k < n
        · obtain ⟨b, off, y, hA, hbb, HY, ⟨y0, y1, y2, y3, y4⟩, hyo⟩ := ((HQ.out.on HB.out).ins).at_ hlt
          subst hA
          obtain ⟨R', A9, L', hmy⟩ := HMY.out y (List.mem_of_getElem? HY.out)
          have hL := fun W => refLine_any y W hyo (may_f0 hmy) (may_n0 hmy).1
          have HTL := Lib.hid (lineT_ok hmy hyo)
          have hq7 : (lineT y).length ≤ 7 := by
            have h1 := argsT_len (kJ y.op) y.f y.n
            have h2 := kJ_len y.op
            unfold lineT
            rw [List.length_cons]
            omega
          have HST := Lib.hid (prog_step (R := R) (A := A) (I := I) HY.out)
          unfold LineP at hL
          obtain ⟨T, hT⟩ : ∃ T, lineT y = T := ⟨_, rfl⟩
          obtain ⟨q, hq⟩ : ∃ q, T.length = q := ⟨_, rfl⟩
          rw [hT] at hL HTL hq7 HST
          rw [hq] at hL hq7
          have HLC := Lib.hid hL
          have HQL := Lib.hid hq
          obtain ⟨m, hm⟩ : ∃ m, (progT ⟨R, A, I, l.take k⟩).length = m := ⟨_, rfl⟩
          have HM := Lib.hid hm
          have hm7 : m ≤ 7 + 8 * (l.take k).length := by rw [← hm]; exact hll
          have hm5 : m ≤ 5000 := by omega
          rw [hm]
          obtain ⟨W4, hW4⟩ : ∃ W, wr.alloc y.obj = W := ⟨_, rfl⟩
          obtain ⟨gy, hgy⟩ : ∃ g, wr.heap.size = g := ⟨_, rfl⟩
          have hb4 : Below wr.heap.size wr W4 := by rw [← hW4]; exact lvBelow _ _
          have HB4 := Lib.hid (HB.out.trans (hb4.mono HB.out.size))
          have HY4 : Hid (W4.heap[gy]? = some y.obj) := by rw [← hW4, ← hgy]; exact newJ wr y
          have HO4 := Lib.hid (HO.out.below hb4 (Nat.le_refl _))
          have hk0 : (0 : Int) ≤ (k : Int) := by omega
          have hki : (k : Int) < (n : Int) := by omega
          have HW4 := Lib.hid hW4
          clear hbb hyo hb4 hW4 hL hT hq hm hm7 hll hlk hmy
          go_upto_region 12 with fail
          try rw [HW4.out]
          try rw [hgy]
          clear y0 y1 y2 y3 y4 hgy
          obtain ⟨⟨y0, y1, y2, y3, y4⟩, yf⟩ := box_cellsJ HY4.out
          clear yf
          have hs4 : w.heap.size ≤ W4.heap.size := HB4.out.size
          have HYA : Hid ((W4.alloc (.cells #[.int .i64 4, .string ⟨#[]⟩, .int .i64 0] 49)).drew.heap[gy]? = some y.obj) := pastJ _ HY4.out
          obtain ⟨⟨z0, z1, z2, z3, z4⟩, _⟩ := box_cellsJ HYA.out
          have HOD : Hid (OwnT W4.drew w.heap.size A' c' (progT ⟨R, A, I, l.take k⟩)) := HO4.out
          have HBD : Hid (Below w.heap.size w W4.drew) := HB4.out.drew
          have HYD : Hid (W4.drew.heap[gy]? = some y.obj) := HY4.out
          have hT1 := fun W : World => (ownT_one W lineTk 0 (Nat.zero_le _)).rd (fun x hx => by rw [List.mem_singleton.1 hx]; exact lineTk_ok) (rfl : [lineTk].length = 1)
          have HM1 : Hid ((progT ⟨R, A, I, l.take k⟩ ++ [lineTk]).length = m + 1) := by unfold Hid; rw [List.length_append, HM.out]; rfl
          have hle1 : m + 1 ≤ 1000000 := by omega
          have hle2 : m + 1 + q ≤ 1000000 := by omega
          go_region_law (first | (go_simp; go_at_call 26; (with_reducible refine (HLC.out _).mono ?_); rintro e w6 ⟨A6, c6, rfl, hO6, hb6⟩; have HT6 := Lib.hid (hO6.rd HTL.out HQL.out); have HO56 := Lib.hid (hO5.below hb6 (Nat.le_refl _)); have HB6 := Lib.hid (HB5.out.trans (hb6.mono HB5.out.size)); have hs6 : w.heap.size ≤ w6.heap.size := HB6.out.size; clear hb6 hO6) | (refine step_appendToks rfl (.tmp 38) (.tmp 40) rfl w.heap.size A' (some ⟨W4.heap.size, 0, none⟩) c' 1 1 _ m (m + 1) (progT ⟨R, A, I, l.take k⟩) [lineTk] rfl rfl (HOD.out.alloc _) HM.out rfl (hT1 _) hle1 (by simp; omega) ?_; intro A5 c5 w5 hO5 hG5; have HB5 := Lib.hid (below_appT (HBD.out.alloc hs4 _) hG5 (HOD.out.alloc _) (by simp; omega)); have HY5 : Hid (w5.heap[gy]? = some y.obj) := past_tok (HOD.out.alloc _) (pastJ _ HYD.out) (by decide) HM.out hG5; obtain ⟨⟨y0, y1, y2, y3, y4⟩, _⟩ := box_cellsJ HY5.out; clear hG5) | (refine step_appendToks rfl (.tmp 41) (.tmp 43) rfl w.heap.size A5 A6 c5 q c6 _ (m + 1) (m + 1 + q) (progT ⟨R, A, I, l.take k⟩ ++ [lineTk]) T rfl rfl HO56.out HM1.out rfl HT6.out hle2 hs6 ?_; intro A7 c7 w7 hO7 hG7; have HB7 := Lib.hid (below_appT HB6.out hG7 HO56.out hs6); have HO7 := Lib.hid hO7; clear hO7 hG7))
          all_goals
            go_wp2_with fail
            go_roundw
            case rel => exact ⟨k + 1, A7, c7, by omega, by go_num, by rw [HST.out, List.length_append, HM1.out, HQL.out], by rw [HST.out]; exact HO7.out, HB7.out⟩
            case measure => simp [intOf]; omega
        · obtain rfl : k = n := by omega
          have hpl : progT ⟨R, A, I, l.take k⟩ = progT ⟨R, A, I, l⟩ := by rw [List.take_of_length_le (by rw [HLN.out]; omega)]
          rw [hpl] at HO hll ⊢
          obtain ⟨m, hm⟩ : ∃ m, (progT ⟨R, A, I, l⟩).length = m := ⟨_, rfl⟩
          have hm5 : m ≤ 5000 := by
            have h1 : (progT ⟨R, A, I, l⟩).length ≤ 7 + 8 * (l.take k).length := hll
            omega
          have HTK : Hid (Toks wr wr.heap.size A' m (progT ⟨R, A, I, l⟩)) := HO.out.rd (prog_ok HRR.out.1 HRR.out.2.1 HRR.out.2.2 l (fun x hx => by
            obtain ⟨R', A', L', hm⟩ := HMY.out x hx
            exact lineT_ok hm (HQ.out.ins.2.1 x hx))) hm
          have hJ := refJoin_any A' m c' (progT ⟨R, A, I, l⟩) wr HTK.out hm5
          rw [hm]
          clear hm hpl hll hlk
          go_wp2_with fail
          refine hJ.mono ?_
          rintro e w4 ⟨rfl, hb⟩
          have HB4 := Lib.hid (HB.out.trans (hb.mono HB.out.size))
          clear hb hJ
          go_wp2_with fail
          go_ret2
          unfold TextP
          rw [HT.out]
          exact ⟨rfl, HB4.out⟩
end Go.Proofs.YtbmcddolfofmdaaGreatDoor
/- The document's Lines: tokens cut into lines. -/
namespace Go.Proofs.YtbmcddolfofmdaaGreatDoor
open Go.RowKit

end Go.Proofs.YtbmcddolfofmdaaGreatDoor
