/- lexer.Join: the text of tokens. -/
import Derived.Test.YtinjkakfnppjpaaPXAllB
import Derived.Test.YtinjkakfnppjpaaPXBlk
import Derived.Test.YtinjkakfnppjpaaPXLines
import Derived.Test.YtinjkakfnppjpaaPXRowsW
namespace Go.Proofs.Ytinjkakfnppjpaa
open Go.RowKit

theorem joinTail_len (sep : List UInt8) (m : Nat) : ∀ (xs : List (List UInt8)), (∀ x ∈ xs, x.length ≤ m) → (Lib.joinTail sep xs).length ≤ xs.length * (m + sep.length)
  | [], _ => by simp [Lib.joinTail]
  | x :: xs, h => by
    have h1 := joinTail_len sep m xs fun y hy => h y (by simp [hy])
    have h2 := h x (by simp)
    simp only [Lib.joinTail, List.map_cons, List.flatten_cons, List.length_append, List.length_cons] at h1 ⊢
    rw [Nat.add_mul, Nat.one_mul]
    omega
theorem join_len (sep : List UInt8) (m : Nat) (xs : List (List UInt8)) (h : ∀ x ∈ xs, x.length ≤ m) : (Lib.join xs sep).length ≤ xs.length * (m + sep.length) := by
  match xs, h with
  | [], _ => simp [Lib.join_nil]
  | x :: xs, h =>
    rw [Lib.join_cons, List.length_append, List.length_cons, Nat.add_mul, Nat.one_mul]
    have h1 := joinTail_len sep m xs fun y hy => h y (by simp [hy])
    have h2 := h x (by simp)
    omega
theorem blkL_len {L : List Tk} (h : ∀ t ∈ L, mayT t) : (blkL L).length ≤ L.length * 19 := by
  have := join_len [32] 18 (L.map fun t => bl t.s) (fun x hx => by
    obtain ⟨t, ht, rfl⟩ := List.mem_map.1 hx
    rw [bl_len]
    exact tokF_len (h t ht))
  rw [List.length_map] at this
  exact this
/-- the text of tokens: lines, an end of a line between two -/
def joinT (L : List Tk) : List UInt8 := Lib.join ((linesL L).map blkL) [10]
theorem joinT_len {L : List Tk} (h : ∀ t ∈ L, mayT t) (hn : L.length ≤ 5000) : (joinT L).length ≤ 140737488355328 := by
  have h1 := join_len [10] 95000 ((linesL L).map blkL) (fun x hx => by
    obtain ⟨R, hR, rfl⟩ := List.mem_map.1 hx
    have a := blkL_len (L := R) (linesL_mem mayT (fun t ht _ => h t ht) R hR)
    have b := linesL_short hR
    omega)
  have h2 := linesL_len L
  rw [List.length_map] at h1
  simp only [List.length_cons, List.length_nil] at h1
  have : (linesL L).length * (95000 + (0 + 1)) ≤ 5001 * (95000 + (0 + 1)) := Nat.mul_le_mul_right _ (by omega)
  exact Nat.le_trans h1 (Nat.le_trans this (by decide))
/-- what Join gives -/
def joinF (L : List Tk) : ByteArray × Int :=
  if L.all mayB = false then (⟨#[]⟩, 1) else if (∃ R ∈ linesL L, R = []) then (⟨#[]⟩, 1) else if 4096 < L.length then (⟨#[]⟩, 2) else (ofL (joinT L), 0)
def JoinP (w : World) (T : ByteArray) (E : Int) (e : Ending) (w' : World) : Prop := e = .returned (.tuple #[.string T, .int .i64 E]) ∧ Below w.heap.size w w'
set_option maxRecDepth 100000 in
set_option maxHeartbeats 8000000 in
theorem join_any (A : Option Addr) (n c : Nat) (L : List Tk) (w : World) (h : Toks w w.heap.size A n L) (hn : n ≤ 5000) : Calls Try.prog 14 #[.slice A n c] w (JoinP w (joinF L).1 (joinF L).2) := by
  have cB := fun w h => someBad_any A n c L w h (by omega)
  obtain ⟨a, ha⟩ : ∃ a, L.all mayB = a := ⟨_, rfl⟩
  rw [ha] at cB
  have HN := Lib.hid h.1
  cases a with
  | false =>
    have HF : Hid (joinF L = (⟨#[]⟩, 1)) := by unfold Hid joinF; rw [if_pos ha]
    rw [HF.out]
    clear HF ha
    go_enter Try.func14, Try.ntmps14
    go_wp2_with (go_at_call 26; (with_reducible refine (cB _ h).mono ?_); rintro e w1 ⟨rfl, hb1⟩)
    go_ret2
    exact ⟨rfl, hb1⟩
  | true =>
    have hmay : ∀ t ∈ L, mayT t := fun t ht => (mayB_iff t).1 (List.all_eq_true.1 ha t ht)
    have HM := Lib.hid hmay
    have hTl := Lib.hid (joinT_len hmay (by rw [h.1]; exact hn))
    have ok := Lib.hid h.2.1
    have HA := Lib.hid ha
    clear ha hmay
    obtain ⟨JT, JE, HJ⟩ : ∃ JT JE, Hid (joinF L = (JT, JE)) := ⟨_, _, Lib.hid rfl⟩
    rw [HJ.out]
    dsimp only
    go_enter Try.func14, Try.ntmps14
    go_wp2_with (first | (go_at_call 26; (with_reducible refine (cB _ h).mono ?_); rintro e w1 ⟨rfl, hb1⟩) | (go_at_call 16; (with_reducible refine (lines_any A n c L _ ((h.on hb1 (Nat.le_refl _)).more hb1.size) (by omega)).mono ?_); rintro e w2 ⟨H, nr, ch, rs, rfl, hnr, hLr, HK, hb2⟩; have HNR := Lib.hid hnr; have HLR := Lib.hid hLr; have RR := HK.reads hnr (rows_mem Tk.ok hLr fun t ht _ => ok.out t ht); clear hnr hLr HK))
    have HB2 : Hid (Below w.heap.size w w2) := hb1.trans (hb2.mono hb1.size)
    have hbr : nr ≤ 5001 := by
      have := linesL_len L
      rw [← HLR.out, List.length_map, HNR.out, HN.out] at this
      omega
    go_loopw [4, 12] (fun v i wr => ∃ (k c' : Nat) (A' : Option Addr), k ≤ nr ∧ i = .int .i64 k ∧ v = .slice A' k c' ∧ Hid (OwnSt wr w2.heap.size A' c' ((rs.take k).map fun r => ofL (blkL r.L))) ∧ Hid (∀ j r, j < k → rs[j]? = some r → r.L ≠ []) ∧ Hid (Below w2.heap.size w2 wr)) (fun _ i _ => nr - (intOf i).toNat)
    case atStart => exact ⟨0, 0, none, Nat.zero_le _, rfl, rfl, OwnSt.nil_ _ _, fun j r hj => absurd hj (by omega), Below.refl _ _⟩
    case round =>
      obtain ⟨k, c', A', hk, rfl, rfl, HO, HNE, HB⟩ := hrel
      have hbw : w2.heap.size ≤ wr.heap.size := HB.out.size
      by_cases hlt : k < nr
      · obtain ⟨bz, ⟨rA, rc, rL⟩, rfl, hbz, HZK, hcz, TZ⟩ := (RR.on HB.out (Nat.le_refl _)).row hlt
        have hrL : rL ∈ linesL L := by rw [← HLR.out]; exact List.mem_map_of_mem (List.mem_of_getElem? HZK.out)
        have hrl := linesL_short hrL
        have hbl := blkL_len (L := rL) (linesL_mem mayT (fun t ht _ => HM.out t ht) rL hrL)
        rw [HN.out] at hrl
        obtain ⟨p, hp⟩ : ∃ p, rL.length = p := ⟨_, rfl⟩
        simp only [RowK.hdr, hp] at hcz TZ hrl hbl
        have HRL := Lib.hid hrL
        have HPL := Lib.hid hp
        have HLk : Hid (((rs.take k).map fun r => ofL (blkL r.L)).length = k) := Lib.hid (by rw [List.length_map, List.length_take, HNR.out]; omega)
        have TZ2 := TZ.more hbw
        clear hrL hp TZ
        by_cases hp0 : p = 0
        · subst hp0
          have HF : Hid (JT = ⟨#[]⟩ ∧ JE = 1) := by
            have e := HJ.out
            unfold joinF at e
            rw [if_neg (by rw [HA.out]; decide), if_pos ⟨rL, HRL.out, List.eq_nil_of_length_eq_zero HPL.out⟩] at e
            injection e with e1 e2
            exact ⟨e1.symm, e2.symm⟩
          go_wp2
          go_ret2
          exact ⟨by rw [HF.out.1, HF.out.2]; rfl, HB2.out.trans (HB.out.mono HB2.out.size)⟩
        · have b0 : ((p : Int) == 0) = false := by rw [beq_eq_false_iff_ne]; omega
          have cK := blanked_any rA p rc rL wr TZ2 (by omega) (by omega)
          obtain ⟨T, hT⟩ : ∃ T, ofL (blkL rL) = T := ⟨_, rfl⟩
          rw [hT] at cK
          have HT : Hid (((rs.take (k + 1)).map fun r => ofL (blkL r.L)) = ((rs.take k).map fun r => ofL (blkL r.L)) ++ [T]) := Lib.hid (by rw [List.take_add_one, HZK.out, List.map_append, ← hT]; rfl)
          have HNE2 : Hid (∀ j r, j < k + 1 → rs[j]? = some r → r.L ≠ []) := fun j r hj hr => by
            by_cases e : j = k
            · subst e
              rw [HZK.out] at hr
              injection hr with hr
              subst hr
              intro e2
              simp only at e2
              exact hp0 (by rw [← HPL.out, e2]; rfl)
            · exact HNE.out j r (by omega) hr
          have hl1 : k + 1 ≤ 1000000 := by omega
          obtain ⟨TS, hTS⟩ : ∃ TS, ((rs.take k).map fun r => ofL (blkL r.L)) = TS := ⟨_, rfl⟩
          rw [hTS] at HO HLk HT
          clear hT hTS hp0 HNE
          go_wp2_with (first | (go_at_call 28; (with_reducible refine cK.mono ?_); rintro e w5 ⟨rfl, hb5⟩; have HO5 := HO.out.below hb5 (Nat.le_refl _); have HB5 : Below w2.heap.size w2 w5 := HB.out.trans (hb5.mono hbw); have hs5 := HB5.size) | (at_builtin; refine wpList_appendStr rfl (.tmp 19) (.tmp 22) rfl w2.heap.size A' c' k (k + 1) w5.heap.size T TS rfl rfl rfl HO5 HLk.out rfl hl1 hs5 ?_; intro A6 c6 w6 HO6 HG6))
          go_roundw
          case rel => exact ⟨k + 1, c6, A6, by omega, by go_num, rfl, by unfold Hid; rw [HT.out]; exact HO6, HNE2, HB5.grown HG6 hs5 HO5.row⟩
          case measure => simp [intOf]; omega
      · obtain rfl : nr = k := by omega
        have HNE2 : Hid (¬ ∃ R ∈ linesL L, R = []) := by
          rintro ⟨R, hR, e⟩
          rw [← HLR.out] at hR
          obtain ⟨r, hr, rfl⟩ := List.mem_map.1 hR
          obtain ⟨j, hj, ej⟩ := List.getElem_of_mem hr
          exact HNE.out j r (by rw [← HNR.out]; exact hj) (by rw [List.getElem?_eq_getElem hj, ej]) e
        clear HNE hlt
        by_cases h4 : 4096 < n
        · have HF : Hid (JT = ⟨#[]⟩ ∧ JE = 2) := by
            have e := HJ.out
            unfold joinF at e
            rw [if_neg (by rw [HA.out]; decide), if_neg HNE2.out, if_pos (by rw [HN.out]; exact h4)] at e
            injection e with e1 e2
            exact ⟨e1.symm, e2.symm⟩
          go_wp2
          go_ret2
          exact ⟨by rw [HF.out.1, HF.out.2]; rfl, HB2.out.trans (HB.out.mono HB2.out.size)⟩
        · have HF : Hid (JT = ofL (joinT L) ∧ JE = 0) := by
            have e := HJ.out
            unfold joinF at e
            rw [if_neg (by rw [HA.out]; decide), if_neg HNE2.out, if_neg (by rw [HN.out]; exact h4)] at e
            injection e with e1 e2
            exact ⟨e1.symm, e2.symm⟩
          have hTK : ((rs.take nr).map fun r => ofL (blkL r.L)).map bl = (linesL L).map blkL := by
            rw [List.take_of_length_le (by rw [HNR.out]; omega), List.map_map, ← HLR.out, List.map_map]
            apply List.map_congr_left
            intro r _
            simp [bl_ofL]
          have hTL : ((rs.take nr).map fun r => ofL (blkL r.L)).length = nr := by rw [List.length_map, List.length_take, HNR.out, Nat.min_self]
          have cJ := fun sep hl => joinSt_any A' nr c' _ sep wr HO.out hTL hl (by omega)
          rw [hTK] at cJ
          have cJ2 := cJ ⟨#[10]⟩ hTl.out
          have hJ2 : ofL (Lib.join ((linesL L).map blkL) (bl ⟨#[10]⟩)) = JT := by rw [HF.out.1]; rfl
          rw [hJ2] at cJ2
          have HE2 : Hid (JE = 0) := HF.out.2
          clear cJ hTK hTL HF hJ2 HNE2 HJ
          go_wp2_with (go_at_call 29; (with_reducible refine cJ2.mono ?_); rintro e w5 ⟨rfl, hb5⟩)
          go_ret2
          exact ⟨by rw [HE2.out]; rfl, HB2.out.trans ((HB.out.trans (hb5.mono HB.out.size)).mono HB2.out.size)⟩
end Go.Proofs.Ytinjkakfnppjpaa
