/- How the program reads code's lines: plain mathematics. -/
import Derived.Test.YtgkngimeokhhgaaGreatDoorG26
import Derived.Test.YtgkngimeokhhgaaGreatDoorG17
import Derived.Test.YtgkngimeokhhgaaGreatDoorG16
import Derived.Test.YtgkngimeokhhgaaGreatDoorG9
namespace Go.Proofs.YtgkngimeokhhgaaGreatDoor
open Go.RowKit

def codeS : ByteArray := ⟨#[99, 111, 100, 101]⟩
/-- the first line is the document's -/
theorem head_rd {t : Tk} {r : List Tk} (hm : ∀ q ∈ t :: r, mayT q) :
    ((rdAll codeS [5, 5, 5, 0] t r).2.1 && (rdAll codeS [5, 5, 5, 0] t r).2.2.isEmpty) = headOK (t :: r) ∧
    (headOK (t :: r) = true → (rdAll codeS [5, 5, 5, 0] t r).1 = [((t :: r).getD 1 zTk).n, ((t :: r).getD 2 zTk).n, ((t :: r).getD 3 zTk).n, 0]) := by
  have ht := hm t (by simp)
  have hb0 : (t.s.toList == codeS.toList) = decide (bl t.s = codeW) := by
    rw [Lib.toList_data, Lib.toList_data]
    show (bl t.s == bl codeS) = _
    rw [show bl codeS = codeW from rfl, Bool.eq_iff_iff, beq_iff_eq, decide_eq_true_iff]
  have hk1 : bl t.s = codeW → t.k = 1 := fun h => may_letter ht (by rw [h]; rfl) (by decide)
  unfold rdAll
  rw [rdS_four, hb0]
  have z5 : ∀ (u : Tk) (l : List Tk), rdPart 5 (u :: l) = rdOne 5 u := fun u l => rdPart_one (by decide) (fun q => absurd q.1 (by decide))
  have z0 : ∀ (l : List Tk), rdG [0] l = ([0], true, l) := fun l => rdG_zeros 1 l
  have hn : ∀ u ∈ r, rdOne 5 u = if u.k = 2 then (u.n, 1) else (0, 0) := fun u hu => rdOne_num (hm u (by simp [hu])) (.inr (.inl rfl))
  by_cases hw : bl t.s = codeW
  · have hk := hk1 hw
    rw [decide_eq_true hw]
    match r, hn with
    | [], _ => exact ⟨rfl, fun h => absurd h (by simp [headOK])⟩
    | [a], hn =>
      have ha := hn a (by simp)
      refine ⟨?_, fun h => absurd h (by simp [headOK])⟩
      simp only [rdG, z5, ha]
      by_cases h : a.k = 2
      · simp [h, headOK, rdPart]
      · simp [h, headOK]
    | [a, b], hn =>
      have ha := hn a (by simp)
      have hb := hn b (by simp)
      refine ⟨?_, fun h => absurd h (by simp [headOK])⟩
      simp only [rdG, z5, ha]
      by_cases h : a.k = 2
      · simp only [if_pos h, List.drop_one, List.tail_cons, z5, hb]
        by_cases h2 : b.k = 2
        · simp [h2, headOK, rdPart]
        · simp [h2, headOK]
      · simp [h, headOK]
    | a :: b :: c :: l, hn =>
      have ha := hn a (by simp)
      have hb := hn b (by simp)
      have hc := hn c (by simp)
      simp only [rdG, z5, ha, rdPart_zero]
      by_cases h : a.k = 2
      · simp only [if_pos h, List.drop_one, List.tail_cons, z5, hb]
        by_cases h2 : b.k = 2
        · simp only [if_pos h2, List.drop_one, List.tail_cons, z5, hc]
          by_cases h3 : c.k = 2
          · simp only [if_pos h3, List.drop_one, List.tail_cons, List.drop_zero]
            cases l with
            | nil => simp [headOK, zTk, hk, hw, h, h2, h3]
            | cons d l => simp [headOK]
          · simp [h3, headOK, zTk]
        · simp [h2, headOK, zTk]
      · simp [h, headOK, zTk]
  · have hz : headOK (t :: r) = false := by unfold headOK; simp [zTk, hw]
    rw [decide_eq_false hw, hz]
    exact ⟨rfl, fun h => by cases h⟩
/-- what the program reads of lines: code, the number of a line, whether it is code -/
def rcF (R : List (List Tk)) : Cd × Int × Bool :=
  match R with
  | [] => (noCd, 0, false)
  | h :: rs => if headOK h then (match rowsF 1 rs with
    | .error i => (noCd, (i : Int), false)
    | .ok l => (⟨(h.getD 1 zTk).n, (h.getD 2 zTk).n, (h.getD 3 zTk).n, l⟩, 0, true)) else (noCd, 0, false)
theorem rc_nil : rcF [] = (noCd, 0, false) := rfl
theorem rc_head {h : List Tk} {rs : List (List Tk)} (hh : headOK h = false) : rcF (h :: rs) = (noCd, 0, false) := by unfold rcF; dsimp only; rw [hh]; rfl
theorem rc_bad {h : List Tk} {rs : List (List Tk)} {i : Nat} (hh : headOK h = true) (hr : rowsF 1 rs = .error i) : rcF (h :: rs) = (noCd, (i : Int), false) := by unfold rcF; dsimp only; rw [hh, hr]; rfl
theorem rc_yes {h : List Tk} {rs : List (List Tk)} {xs : List Ji} (hh : headOK h = true) (hr : rowsF 1 rs = .ok xs) : rcF (h :: rs) = (⟨(h.getD 1 zTk).n, (h.getD 2 zTk).n, (h.getD 3 zTk).n, xs⟩, 0, true) := by unfold rcF; dsimp only; rw [hh, hr]; rfl
theorem rowsF_len : ∀ (rs : List (List Tk)) (i : Nat) (l : List Ji), rowsF i rs = .ok l → l.length = rs.length
  | [], _, l, h => by cases h; rfl
  | r :: rs, i, l, h => by
    unfold rowsF at h
    cases hi : insF r with
    | none => rw [hi] at h; cases h
    | some x =>
      rw [hi] at h
      cases hr : rowsF (i + 1) rs with
      | error j => rw [hr] at h; cases h
      | ok m =>
        rw [hr] at h
        cases h
        have := rowsF_len rs (i + 1) m hr
        simp [this]
theorem rc_len (R : List (List Tk)) : (rcF R).1.l.length ≤ R.length := by
  cases R with
  | nil => exact Nat.le_refl _
  | cons h rs =>
    cases hh : headOK h with
    | false => rw [rc_head hh]; exact Nat.zero_le _
    | true =>
      cases hr : rowsF 1 rs with
      | error i => rw [rc_bad hh hr]; exact Nat.zero_le _
      | ok xs =>
        rw [rc_yes hh hr]
        have := rowsF_len rs 1 xs hr
        simp only [List.length_cons]
        omega
theorem parse_rc (R : List (List Tk)) : parseR R = if (rcF R).2.2 then (if (rcF R).1.may then ((rcF R).1, (R.length : Int), 0) else (noCd, 0, 1)) else (noCd, (rcF R).2.1, 6) := by
  cases R with
  | nil => rfl
  | cons h rs =>
    cases hh : headOK h with
    | false => rw [rc_head hh, parse_head hh]; rfl
    | true =>
      cases hr : rowsF 1 rs with
      | error i => rw [rc_bad hh hr, parse_bad hh hr]; rfl
      | ok xs =>
        rw [rc_yes hh hr]
        cases hm : Cd.may ⟨(h.getD 1 zTk).n, (h.getD 2 zTk).n, (h.getD 3 zTk).n, xs⟩ with
        | false => rw [parse_no hh hr hm]; simp
        | true => rw [parse_yes hh hr hm]; simp
/-- lines that Cut gives have something on them -/
theorem rows_full {l : List UInt8} {L : List Tk} {N : Int} (h : cutF l = (L, N, 0)) : ∀ R ∈ linesL L, R ≠ [] := by
  have hg := (cutF_good (l := l) (by rw [h])).1
  rw [h] at hg
  dsimp only at hg
  obtain ⟨hgd, _⟩ := cutE_good _ _ (Nat.le_refl _) _ _ _ (.inl rfl) hg
  intro R hR e
  unfold linesL at hR
  split at hR
  · cases hR
  · rename_i h0
    rcases hgd with hgd | hgd
    · exact h0 hgd
    · exact hgd R hR e
end Go.Proofs.YtgkngimeokhhgaaGreatDoor
/- The program's opOf, first and readIns. -/
namespace Go.Proofs.YtgkngimeokhhgaaGreatDoor
open Go Go.RowKit

theorem opW_first {l : List UInt8} {k : Nat} (hk : k < 13) (h : wJ (k : Int) = l) (hn : ∀ j : Nat, j < k → wJ (j : Int) ≠ l) : opW l = (k : Int) := by
  have hw : ∀ (j : Nat) (hj : j < 13), wJ (j : Int) = wordsJ[j]'hj := fun j hj => by
    unfold wJ
    rw [if_pos (by omega), Int.toNat_natCast, List.getD_eq_getElem?_getD, List.getElem?_eq_getElem (show j < wordsJ.length from hj)]; rfl
  have : wordsJ.findIdx? (· == l) = some k := by
    rw [List.findIdx?_eq_some_iff_getElem]
    refine ⟨hk, ?_, fun j hj => ?_⟩
    · rw [← hw k hk, h]; simp
    · have := hn j hj
      rw [hw j (by omega)] at this
      exact fun h => this (eq_of_beq h)
  unfold opW
  rw [this]
theorem opW_no {l : List UInt8} (hn : ∀ j : Nat, j < 13 → wJ (j : Int) ≠ l) : opW l = -1 := by
  have : wordsJ.findIdx? (· == l) = none := by
    rw [List.findIdx?_eq_none_iff]
    intro x hx
    obtain ⟨j, hj, e⟩ := List.getElem_of_mem hx
    have := hn j hj
    unfold wJ at this
    rw [if_pos (by have : j < 13 := hj; omega), Int.toNat_natCast, List.getD_eq_getElem?_getD, List.getElem?_eq_getElem hj, Option.getD_some, e] at this
    simpa using this
  unfold opW
  rw [this]
def OpOfP (l : List UInt8) (w : World) (e : Ending) (w' : World) : Prop := e = .returned (.tuple #[.int .i64 (if 0 ≤ opW l then opW l else 0), .bool (decide (0 ≤ opW l))]) ∧ w = w'
set_option maxRecDepth 100000 in
set_option maxHeartbeats 4000000 in
theorem opOf_any (s : ByteArray) (w : World) (hS : ShT w) : Calls Tryz.prog 65 #[.string s] w (OpOfP (bl s) w) := by
  have HS := Lib.hid hS
  clear hS
  go_enter Tryz.func65, Tryz.ntmps65
  go_wp2_with fail
  go_loopw [5] (fun i wr => ∃ (k : Nat), k ≤ 13 ∧ i = .int .i64 k ∧ Hid (∀ j : Nat, j < k → wJ (j : Int) ≠ bl s) ∧ wr = w) (fun i _ => 13 - (intOf i).toNat)
  case atStart => exact ⟨0, Nat.zero_le _, rfl, fun j hj => absurd hj (by omega), rfl⟩
  case round =>
    obtain ⟨k, hk, rfl, HN, rfl⟩ := hrel
    by_cases hlt : k < 13
    · obtain ⟨c0, c1, c2, c3, c4⟩ := HS.out.here.row hlt
      have hk1 : (k : Int) < 13 := by omega
      have hk0 : (0 : Int) ≤ (k : Int) := by omega
      have he : ((strJ (wJ (k : Int))).toList == s.toList) = decide (wJ (k : Int) = bl s) := by
        rw [Lib.toList_data, Lib.toList_data, show (strJ (wJ (k : Int))).data.toList = bl (strJ (wJ (k : Int))) from rfl, bl_strJ, show s.data.toList = bl s from rfl]
        rw [Bool.eq_iff_iff, beq_iff_eq, decide_eq_true_iff]
      by_cases hw : wJ (k : Int) = bl s
      · rw [decide_eq_true hw] at he
        have HO := Lib.hid (opW_first hlt hw (fun j hj => HN.out j hj))
        clear hw
        go_wp2_with fail
        go_ret2
        exact ⟨by rw [HO.out, if_pos (by omega), decide_eq_true (by omega)]; rfl, rfl⟩
      · rw [decide_eq_false hw] at he
        have HN2 : Hid (∀ j : Nat, j < k + 1 → wJ (j : Int) ≠ bl s) := fun j hj => by
          by_cases e : j = k
          · subst e; exact hw
          · exact HN.out j (by omega)
        clear hw
        go_wp2_with fail
        go_roundw
        case rel => exact ⟨k + 1, by omega, by go_num, HN2, by first | trivial | rfl⟩
        case measure => simp [intOf]; omega
    · obtain rfl : k = 13 := by omega
      have HO := Lib.hid (opW_no HN.out)
      go_wp2_with fail
      go_ret2
      exact ⟨by rw [HO.out]; rfl, rfl⟩
set_option maxRecDepth 100000 in
theorem first_any (w : World) : Calls Tryz.prog 36 #[] w fun e w' => e = .returned (shW ⟨#[99, 111, 100, 101]⟩ 5 5 5 0) ∧ Below w.heap.size w w' := by
  have hb1 := (Below.refl w.heap.size w).alloc (Nat.le_refl _) zeroSh
  obtain ⟨W0, hW0⟩ : ∃ W, w.alloc zeroSh = W := ⟨_, rfl⟩
  have HB0 : Hid (Below w.heap.size w W0) := by rw [← hW0]; exact hb1
  have HX : Hid (W0.heap[w.heap.size]? = some (.cells #[.string ⟨#[]⟩, .int .i64 0, .int .i64 0, .int .i64 0, .int .i64 0] 85 (0, 0))) := by rw [← hW0]; exact heap_alloc_new w zeroSh
  obtain ⟨b0, b1, b2, b3, b4, f0, f1, f2, f3, f4⟩ := cells5 HX.out
  obtain ⟨s0, s1, s2, s3, s4, _⟩ := cells5 (five_cells HX.out (.string ⟨#[99, 111, 100, 101]⟩) (.int .i64 5) (.int .i64 5) (.int .i64 5) (.int .i64 0))
  have HSS := Lib.hid (And.intro s0 (And.intro s1 (And.intro s2 (And.intro s3 s4))))
  have HD := Lib.hid (put5_below HB0.out (Nat.le_refl _) (.string ⟨#[99, 111, 100, 101]⟩) (.int .i64 5) (.int .i64 5) (.int .i64 5) (.int .i64 0))
  clear hb1 s0 s1 s2 s3 s4
  go_enter Tryz.func36, Tryz.ntmps36
  go_upto_region 1 with fail
  try rw [hW0]
  go_wp2_with fail
  obtain ⟨s0, s1, s2, s3, s4⟩ := HSS.out
  exact bodyPost_ret (v := shW ⟨#[99, 111, 100, 101]⟩ 5 5 5 0) (by simp [results, Tryz.results36, go_sem, s0, s1, s2, s3, s4]) rfl ⟨rfl, HD.out⟩
/-- the instruction that a line is -/
def ReadInsP (L : List Tk) (w : World) (e : Ending) (w' : World) : Prop := ∃ x : Ji, x.ok ∧ e = .returned (.tuple #[x.val, .bool (insF L).isSome]) ∧ (∀ y, insF L = some y → x = y) ∧ Below w.heap.size w w'
set_option maxRecDepth 100000 in
set_option maxHeartbeats 4000000 in
theorem readIns_any (A : Option Addr) (n c : Nat) (t : Tk) (r : List Tk) (w : World) (hT : Toks w w.heap.size A n (t :: r)) (hm : ∀ q ∈ t :: r, mayT q) (hnc : n ≤ c) (hS : ShT w) :
    Calls Tryz.prog 38 #[.slice A n c] w (ReadInsP (t :: r) w) := by
  obtain ⟨m, rfl⟩ : ∃ m, n = m + 1 := ⟨n - 1, by have := hT.1; simp at this; omega⟩
  obtain ⟨b, o, t', hA, hbl, hX, c0, c1, c2, hto⟩ := hT.at_ (k := 0) (by omega)
  subst hA
  obtain rfl : t = t' := Option.some.inj hX.out
  rw [Nat.zero_mul, Nat.add_zero] at c0 c1 c2
  have hb0 := lvBelow w (Ji.obj ⟨0, 0, 0, 0, 0⟩)
  obtain ⟨W0, hW0⟩ : ∃ W, w.alloc (Ji.obj ⟨0, 0, 0, 0, 0⟩) = W := ⟨_, rfl⟩
  have HB0 : Hid (Below w.heap.size w W0) := by rw [← hW0]; exact hb0
  have HR0 : Hid (W0.heap[w.heap.size]? = some (Ji.obj ⟨0, 0, 0, 0, 0⟩)) := by rw [← hW0]; exact newJ w _
  replace c0 : W0.cell? ⟨b, o, none⟩ = some (.int .i64 t.k) := (HB0.out.cell hbl).trans c0
  replace c1 : W0.cell? ⟨b, o + 1, none⟩ = some (.string t.s) := (HB0.out.cell hbl).trans c1
  replace c2 : W0.cell? ⟨b, o + 2, none⟩ = some (.int .i64 t.n) := (HB0.out.cell hbl).trans c2
  have HT := Lib.hid hT
  have HM := Lib.hid hm
  have HS := Lib.hid hS
  have HNC := Lib.hid hnc
  have cO := opOf_any t.s W0 (hS.on HB0.out)
  have hnp : (0 : Int) < (m : Int) + 1 := by omega
  clear hT hX hto hb0 hm hS hbl hnc
  by_cases ho : 0 ≤ opW (bl t.s)
  case neg =>
    have HI := Lib.hid (insF_no (t := t) (r := r) (by omega))
    unfold OpOfP at cO
    rw [if_neg ho, decide_eq_false ho] at cO
    clear ho
    go_enter Tryz.func38, Tryz.ntmps38
    go_upto_region 1 with fail
    try rw [hW0]
    go_wp2_with fail
    refine cO.mono ?_
    rintro e w1 ⟨rfl, rfl⟩
    clear cO hW0 c0 c1 c2
    obtain ⟨r0, r1, r2, r3, r4, rf0, rf1, rf2, rf3, rf4⟩ := cells5 HR0.out
    have HD := Lib.hid (put5_below HB0.out (Nat.le_refl _) (.int .i64 0) (.int .i64 0) (.int .i64 0) (.int .i64 0) (.int .i64 0))
    obtain ⟨s0, s1, s2, s3, s4, _⟩ := cells5 (five_cells HR0.out (.int .i64 0) (.int .i64 0) (.int .i64 0) (.int .i64 0) (.int .i64 0))
    have HSS := Lib.hid (And.intro s0 (And.intro s1 (And.intro s2 (And.intro s3 s4))))
    clear s0 s1 s2 s3 s4
    go_wp2_with fail
    obtain ⟨s0, s1, s2, s3, s4⟩ := HSS.out
    refine bodyPost_ret (v := .tuple #[Ji.val ⟨0, 0, 0, 0, 0⟩, .bool false]) (by simp [results, Tryz.results38, go_sem, s0, s1, s2, s3, s4]) rfl ⟨⟨0, 0, 0, 0, 0⟩, ⟨by decide, by decide, by decide, by decide, by decide⟩, by rw [HI.out]; rfl, fun y hy => ?_, HD.out⟩
    rw [HI.out] at hy
    cases hy
  unfold OpOfP at cO
  rw [if_pos ho, decide_eq_true ho] at cO
  obtain ⟨op, hop⟩ : ∃ op, opW (bl t.s) = op := ⟨_, rfl⟩
  rw [hop] at cO ho
  have HOP := Lib.hid hop
  have H12 : Hid (0 ≤ op ∧ op ≤ 12) := by
    have := (opW_inv (l := bl t.s) (by omega)).2
    exact ⟨ho, by omega⟩
  clear hop ho
  go_enter Tryz.func38, Tryz.ntmps38
  go_upto_region 1 with fail
  try rw [hW0]
  go_wp2_with fail
  refine cO.mono ?_
  rintro e w1 ⟨rfl, rfl⟩
  have cS := shapeOf_any op W0 (HS.out.on HB0.out)
  clear cO hW0 c0 c1 c2
  go_wp2_with fail
  refine cS.mono ?_
  rintro e w1 ⟨rfl, hb⟩
  unfold shV
  have HB1 := Lib.hid (HB0.out.trans (hb.mono HB0.out.size))
  have HR1 := Lib.hid (keep_b hb HR0.out)
  clear hb cS
  obtain ⟨W2, hW2⟩ : ∃ W, w1.alloc (shObj op) = W := ⟨_, rfl⟩
  have HB2 : Hid (Below w.heap.size w W2) := by rw [← hW2]; exact HB1.out.alloc HB1.out.size _
  have HR2 : Hid (W2.heap[w.heap.size]? = some (Ji.obj ⟨0, 0, 0, 0, 0⟩)) := by rw [← hW2]; exact pastJ _ HR1.out
  have hG2 : W2.heap[w1.heap.size]? = some (.cells #[.string (strJ (wJ op)), .int .i64 (kA op 0), .int .i64 (kA op 1), .int .i64 (kA op 2), .int .i64 (kA op 3)] 85 (0, 0)) := by rw [← hW2]; exact heap_alloc_new w1 (shObj op)
  have hkN : kN op = [kA op 0, kA op 1, kA op 2, kA op 3] := by
    have := kN_len op
    unfold kA
    match kN op, this with
    | [k0, k1, k2, k3], _ => rfl
  have cR := read_any (strJ (wJ op)) (kA op 0) (kA op 1) (kA op 2) (kA op 3) (by rw [← hkN]; exact kN_bound op) (some ⟨b, o, none⟩) (m + 1) c t r W2 ((HT.out.below HB2.out).more HB2.out.size) HNC.out
  unfold ReadP at cR
  rw [← hkN] at cR
  obtain ⟨s0, s1, s2, s3, s4, _⟩ := cells5 hG2
  clear hkN hG2
  go_upto_region 5 with fail
  try rw [hW2]
  clear hW2
  go_wp2_with fail
  refine cR.mono ?_
  rintro e w3 ⟨a, b', c', d, hR, rfl, hb⟩
  have HB3 := Lib.hid (HB2.out.trans (hb.mono HB2.out.size))
  have HR3 := Lib.hid (keep_b hb HR2.out)
  have HI := Lib.hid (insF_rd HM.out HOP.out H12.out.1 hR)
  obtain ⟨B, hB⟩ : ∃ B, ((rdAll (strJ (wJ op)) (kN op) t r).2.1 && (rdAll (strJ (wJ op)) (kN op) t r).2.2.isEmpty) = B := ⟨_, rfl⟩
  rw [hB] at HI ⊢
  have HFIT : Hid (∀ v ∈ [a, b', c', d], -1000000000000000000 < v ∧ v < 1000000000000000000) := by
    have := rdS_fit (kN op) (t.s.toList == (strJ (wJ op)).toList) r 4
    rw [show (rdS (kN op) (t.s.toList == (strJ (wJ op)).toList) r 4).1 = [a, b', c', d] from hR] at this
    exact this
  clear hb cR s0 s1 s2 s3 s4 hR hB
  obtain ⟨W4, hW4⟩ : ∃ W, w3.alloc (.cells #[.int .i64 a, .int .i64 b', .int .i64 c', .int .i64 d] 81) = W := ⟨_, rfl⟩
  have HB4 : Hid (Below w.heap.size w W4) := by rw [← hW4]; exact HB3.out.alloc HB3.out.size _
  have HR4 : Hid (W4.heap[w.heap.size]? = some (Ji.obj ⟨0, 0, 0, 0, 0⟩)) := by rw [← hW4]; exact pastJ _ HR3.out
  have hP4 : W4.heap[w3.heap.size]? = some (.cells #[.int .i64 a, .int .i64 b', .int .i64 c', .int .i64 d] 81 (0, 0)) := by rw [← hW4]; exact heap_alloc_new w3 _
  obtain ⟨p0, p1, p2, p3, _⟩ := lvCells hP4
  have cW := whole_j ⟨op, a, b', c', d⟩ W4
  clear hP4
  go_upto_region 6 with fail
  try rw [hW4]
  clear hW4
  go_wp2_with fail
  refine cW.mono ?_
  rintro e w5 ⟨rfl, hb⟩
  have HB5 := Lib.hid (HB4.out.trans (hb.mono HB4.out.size))
  have HR5 := Lib.hid (keep_b hb HR4.out)
  clear hb cW p0 p1 p2 p3
  obtain ⟨r0, r1, r2, r3, r4, rf0, rf1, rf2, rf3, rf4⟩ := cells5 HR5.out
  have HD := Lib.hid (put5_below HB5.out (Nat.le_refl _) (.int .i64 op) (.int .i64 a) (.int .i64 b') (.int .i64 c') (.int .i64 d))
  obtain ⟨s0, s1, s2, s3, s4, _⟩ := cells5 (five_cells HR5.out (.int .i64 op) (.int .i64 a) (.int .i64 b') (.int .i64 c') (.int .i64 d))
  have HSS := Lib.hid (And.intro s0 (And.intro s1 (And.intro s2 (And.intro s3 s4))))
  clear s0 s1 s2 s3 s4
  go_wp2_with fail
  obtain ⟨s0, s1, s2, s3, s4⟩ := HSS.out
  have hf := HFIT.out
  refine bodyPost_ret (v := .tuple #[Ji.val ⟨op, a, b', c', d⟩, .bool B]) (by simp [results, Tryz.results38, go_sem, s0, s1, s2, s3, s4]) rfl ⟨⟨op, a, b', c', d⟩, ⟨by have := H12.out; exact ⟨by show _ ≤ op; omega, by show op ≤ _; omega⟩, by have := hf a (by simp); exact ⟨by show _ ≤ a; omega, by show a ≤ _; omega⟩, by have := hf b' (by simp); exact ⟨by show _ ≤ b'; omega, by show b' ≤ _; omega⟩, by have := hf c' (by simp); exact ⟨by show _ ≤ c'; omega, by show c' ≤ _; omega⟩, by have := hf d (by simp); exact ⟨by show _ ≤ d; omega, by show d ≤ _; omega⟩⟩, ?_, fun y hy => ?_, HD.out⟩
  · rw [HI.out]; cases B <;> rfl
  · rw [HI.out] at hy
    cases B
    · cases hy
    · injection hy
end Go.Proofs.YtgkngimeokhhgaaGreatDoor
/- The program's readCode. -/
namespace Go.Proofs.YtgkngimeokhhgaaGreatDoor
open Go Go.Sort Go.RowKit

def fitC (c : Cd) : Prop := (-9223372036854775808 ≤ c.R ∧ c.R ≤ 9223372036854775807) ∧ (-9223372036854775808 ≤ c.A ∧ c.A ≤ 9223372036854775807) ∧ (-9223372036854775808 ≤ c.I ∧ c.I ≤ 9223372036854775807) ∧ ∀ x ∈ c.l, x.ok
theorem fit_noCd : fitC noCd := ⟨by decide, by decide, by decide, fun x hx => by cases hx⟩
def ReadCodeP (R : List (List Tk)) (w : World) (e : Ending) (w' : World) : Prop :=
  ∃ A' c', e = .returned (.tuple #[.agg #[.int .i64 (rcF R).1.R, .int .i64 (rcF R).1.A, .int .i64 (rcF R).1.I, .slice A' (rcF R).1.l.length c'], .int .i64 (rcF R).2.1, .bool (rcF R).2.2]) ∧ OwnJ w' w.heap.size A' c' (rcF R).1.l ∧ fitC (rcF R).1 ∧ Below w.heap.size w w'
theorem rc_none {R : List (List Tk)} {w W : World} {N : Int} (hb : Below w.heap.size w W) (h : rcF R = (noCd, N, false)) : ReadCodeP R w (.returned (.tuple #[.agg #[.int .i64 0, .int .i64 0, .int .i64 0, .slice none 0 0], .int .i64 N, .bool false])) (putC W w.heap.size 0 0 0 (.slice none 0 0)) := by
  unfold ReadCodeP
  rw [h]
  exact ⟨none, 0, rfl, OwnJ.nil_ _ _, fit_noCd, putC_below hb _ _ _ _⟩
/-- values that are told, and a box that is laid, and then stored to -/
structure BoxJ (W0 : World) (N p s : Nat) (F : Nat → Value) (z st : Obj) (D : Nat → Bool) (vs : Nat → Value) (w' : World) : Prop where
  bel : Below W0.heap.size W0 w'
  vals : ∀ i, i < N → i ≠ p → i ≠ s → D i = true → vs i = F i
  sp : D s = true → D p = true
  box : D p = true → ∃ g, vs p = .pointer (some ⟨g, 0, none⟩) ∧ W0.heap.size ≤ g ∧ w'.heap[g]? = some (if D s then st else z)
section
variable {W0 w' w'' : World} {N p s : Nat} {F : Nat → Value} {z st : Obj} {D D' : Nat → Bool} {vs : Nat → Value}
theorem BoxJ.step (h : BoxJ W0 N p s F z st D vs w') {i : Nat} (hp : i ≠ p) (hs : i ≠ s) (hb : Below w'.heap.size w' w'') (hD : ∀ j, j ≠ i → D' j = D j) : BoxJ W0 N p s F z st D' (fun j => if j = i then F i else vs j) w'' := by
  refine ⟨h.bel.trans (hb.mono h.bel.size), fun j hj jp js hd => ?_, fun hd => ?_, fun hd => ?_⟩
  · by_cases e : j = i
    · subst e; exact if_pos rfl
    · show (if j = i then F i else vs j) = _
      rw [if_neg e]
      exact h.vals j hj jp js (by rw [← hD j e]; exact hd)
  · rw [hD s (Ne.symm hs)] at hd
    rw [hD p (Ne.symm hp)]
    exact h.sp hd
  · rw [hD p (Ne.symm hp)] at hd
    obtain ⟨g, h1, h2, h3⟩ := h.box hd
    refine ⟨g, ?_, h2, ?_⟩
    · show (if p = i then F i else vs p) = _
      rw [if_neg (Ne.symm hp)]; exact h1
    · rw [hD s (Ne.symm hs)]
      exact keep_b hb h3
theorem BoxJ.alloc_ (h : BoxJ W0 N p s F z st D vs w') (hps : p ≠ s) (hDp : D p = false) {cs : Array Value} {t : TypeId} (hz : z = .cells cs t (0, 0)) (hD : ∀ j, j ≠ p → D' j = D j) : BoxJ W0 N p s F z st D' (fun j => if j = p then .pointer (some ⟨w'.heap.size, 0, none⟩) else vs j) (w'.alloc (.cells cs t)) := by
  have hs0 : D s = false := by
    cases e : D s
    · rfl
    · rw [h.sp e] at hDp; cases hDp
  refine ⟨h.bel.alloc h.bel.size _, fun j hj jp js hd => ?_, fun hd => ?_, fun _ => ⟨w'.heap.size, if_pos rfl, h.bel.size, ?_⟩⟩
  · show (if j = p then _ else vs j) = _
    rw [if_neg jp]
    exact h.vals j hj jp js (by rw [← hD j jp]; exact hd)
  · rw [hD s (Ne.symm hps), hs0] at hd; cases hd
  · rw [hD s (Ne.symm hps), hs0, hz]
    exact heap_alloc_new w' _
theorem BoxJ.store_ (h : BoxJ W0 N p s F z st D vs w') (hps : p ≠ s) (hDp : D p = true) {g : Nat} (hg : vs p = .pointer (some ⟨g, 0, none⟩)) (u : Value) (hb : W0.heap.size ≤ g → Below W0.heap.size W0 w' → Below W0.heap.size W0 w'') (hst : w''.heap[g]? = some st) (hD : ∀ j, j ≠ s → D' j = D j) (hDs : D' s = true) : BoxJ W0 N p s F z st D' (fun j => if j = s then u else vs j) w'' := by
  obtain ⟨g2, h1, h2, h3⟩ := h.box hDp
  rw [hg] at h1
  injection h1 with h1; injection h1 with h1; injection h1 with h1
  subst h1
  refine ⟨hb h2 h.bel, fun j hj jp js hd => ?_, fun _ => by rw [hD p hps]; exact hDp, fun _ => ⟨g, ?_, h2, ?_⟩⟩
  · show (if j = s then u else vs j) = _
    rw [if_neg js]
    exact h.vals j hj jp js (by rw [← hD j js]; exact hd)
  · show (if p = s then u else vs p) = _
    rw [if_neg hps]; exact hg
  · rw [hDs, if_pos rfl]; exact hst
theorem BoxJ.same (h : BoxJ W0 N p s F z st D vs w') (hp : p < N) (hs : s < N) (hD : ∀ i, i < N → D i = D' i) : BoxJ W0 N p s F z st D' vs w' := by
  refine ⟨h.bel, fun j hj jp js hd => h.vals j hj jp js (by rw [hD j hj]; exact hd), fun hd => ?_, fun hd => ?_⟩
  · rw [← hD s hs] at hd; rw [← hD p hp]; exact h.sp hd
  · rw [← hD p hp] at hd; rw [← hD s hs]; exact h.box hd
end
theorem below4 {W0 w' : World} {B g : Nat} (hg : B ≤ g) (h : Below B W0 w') (x0 x1 x2 x3 : Value) : Below B W0 ((((w'.setCell ⟨g, 0, none⟩ x0).setCell ⟨g, 1, none⟩ x1).setCell ⟨g, 2, none⟩ x2).setCell ⟨g, 3, none⟩ x3) :=
  (((h.setCell (p := ⟨g, 0, none⟩) hg _).setCell (p := ⟨g, 1, none⟩) hg _).setCell (p := ⟨g, 2, none⟩) hg _).setCell (p := ⟨g, 3, none⟩) hg _
set_option maxRecDepth 100000 in
set_option maxHeartbeats 8000000 in
theorem readCode_any (H : Option Addr) (n ch : Nat) (rs : List RowK) (w : World) (hR : RowsR w w.heap.size H n rs) (hnc : n ≤ ch) (hcap : ∀ r ∈ rs, r.L.length ≤ r.c) (hmay : ∀ r ∈ rs, ∀ t ∈ r.L, mayT t) (hne : ∀ r ∈ rs, r.L ≠ []) (hn : n ≤ 5000) (hS : ShT w) :
    Calls Tryz.prog 27 #[.slice H n ch] w (ReadCodeP (rs.map (·.L)) w) := by
  have hb0 := lvBelow w zeroC
  obtain ⟨W0, hW0⟩ : ∃ W, w.alloc zeroC = W := ⟨_, rfl⟩
  have HB0 : Hid (Below w.heap.size w W0) := by rw [← hW0]; exact hb0
  have HR0 : Hid (W0.heap[w.heap.size]? = some zeroC) := by rw [← hW0]; exact heap_alloc_new w zeroC
  have HRR := Lib.hid hR
  have HCC := Lib.hid hcap
  have HMY := Lib.hid hmay
  have HNE := Lib.hid hne
  have HS := Lib.hid hS
  have hrn := hR.len
  clear hR hcap hmay hne hS hb0
  by_cases h0 : n = 0
  · subst h0
    obtain rfl : rs = [] := List.eq_nil_of_length_eq_zero hrn
    clear hrn hnc hn
    go_enter Tryz.func27, Tryz.ntmps27
    go_upto_region 1 with fail
    try rw [hW0]
    clear hW0
    obtain ⟨r0, r1, r2, r3, rf0, rf1, rf2, rf3⟩ := lvCells HR0.out
    go_wp2_with fail
    obtain ⟨s0, s1, s2, s3⟩ := putC_cells HR0.out 0 0 0 (.slice none 0 0)
    have hd := rc_none HB0.out rc_nil
    obtain ⟨wz, hwz⟩ : ∃ wz, putC W0 w.heap.size 0 0 0 (.slice none 0 0) = wz := ⟨_, rfl⟩
    rw [hwz] at hd s0 s1 s2 s3
    unfold putC at hwz
    try rw [hwz]
    exact bodyPost_ret (v := .tuple #[.agg #[.int .i64 0, .int .i64 0, .int .i64 0, .slice none 0 0], .int .i64 0, .bool false]) (by simp [results, Tryz.results27, go_sem, s0, s1, s2, s3]) rfl hd
  obtain ⟨hr, rs, rfl⟩ : ∃ r l, rs = r :: l := by
    cases rs with
    | nil => exact absurd hrn.symm h0
    | cons r l => exact ⟨r, l, rfl⟩
  obtain ⟨n, rfl⟩ : ∃ k, n = k + 1 := ⟨n - 1, by omega⟩
  obtain ⟨bH, r9, rfl, hbH, h9, hc0, hTH⟩ := HRR.out.row (k := 0) (by omega)
  obtain rfl : hr = r9 := by have := h9.out; simpa using this
  have HHC : Hid (hr.L.length ≤ hr.c) := HCC.out hr (by simp)
  obtain ⟨RT, hRT⟩ : ∃ RT, rs.map (·.L) = RT := ⟨_, rfl⟩
  have HRT := Lib.hid hRT
  have HRTL : Hid (RT.length = n) := by
    rw [← hRT]
    simp only [List.length_cons] at hrn
    exact Lib.hid (by rw [List.length_map]; omega)
  have hHM := HMY.out hr (by simp)
  have hHN := HNE.out hr (by simp)
  rw [List.map_cons, hRT]
  obtain ⟨A3, c3, L3⟩ := hr
  dsimp only [RowK.hdr] at hc0 hTH HHC hHM hHN ⊢
  obtain ⟨t3, r3, rfl⟩ : ∃ t r, L3 = t :: r := by
    cases L3 with
    | nil => exact absurd rfl hHN
    | cons t r => exact ⟨t, r, rfl⟩
  obtain ⟨hHD, hHV⟩ := head_rd hHM
  have n1' : ((n : Int) + 1 == 0) = false := by rw [beq_eq_false_iff_ne]; omega
  have p0 : (0 : Int) < (n : Int) + 1 := by omega
  have hlen := rdS_len [5, 5, 5, 0] (t3.s.toList == codeS.toList) r3 4
  obtain ⟨pa, pb, pc, pd, hP⟩ : ∃ a b c d, (rdAll codeS [5, 5, 5, 0] t3 r3).1 = [a, b, c, d] := by
    match (rdAll codeS [5, 5, 5, 0] t3 r3).1, hlen with
    | [a, b, c, d], _ => exact ⟨a, b, c, d, rfl⟩
  have cRd : ∀ W, Below w.heap.size w W → Calls Tryz.prog 37 #[shW ⟨#[99, 111, 100, 101]⟩ 5 5 5 0, .slice A3 (t3 :: r3).length c3] W fun e w' => e = .returned (.tuple #[.agg #[.int .i64 pa, .int .i64 pb, .int .i64 pc, .int .i64 pd], .bool (headOK (t3 :: r3))]) ∧ Below W.heap.size W w' := fun W hb => by
    refine (read_any codeS 5 5 5 0 (by decide) A3 (t3 :: r3).length c3 t3 r3 W ((hTH.below hb).more hb.size) HHC.out).mono ?_
    rintro e w' ⟨a, b, c, d, h1, h2, h3⟩
    rw [hP] at h1
    simp only [List.cons.injEq, and_true] at h1
    obtain ⟨rfl, rfl, rfl, rfl⟩ := h1
    rw [hHD] at h2
    exact ⟨h2, h3⟩
  have HRD := Lib.hid cRd
  have HHV : Hid (headOK (t3 :: r3) = true → pa = ((t3 :: r3).getD 1 zTk).n ∧ pb = ((t3 :: r3).getD 2 zTk).n ∧ pc = ((t3 :: r3).getD 3 zTk).n) := fun h => by
    have := hHV h
    rw [hP] at this
    simp only [List.cons.injEq] at this
    exact ⟨this.1, this.2.1, this.2.2.1⟩
  have HPF : Hid (∀ v ∈ [pa, pb, pc, pd], -1000000000000000000 < v ∧ v < 1000000000000000000) := by
    have := rdS_fit [5, 5, 5, 0] (t3.s.toList == codeS.toList) r3 4
    rw [show (rdS [5, 5, 5, 0] (t3.s.toList == codeS.toList) r3 4).1 = [pa, pb, pc, pd] from hP] at this
    exact this
  obtain ⟨m3, hm3⟩ : ∃ m, (t3 :: r3).length = m := ⟨_, rfl⟩
  have hmx : Tryz.prog.follows .mixedOrders = true := by kernel_rfl
  replace hc0 : W0.cell? ⟨bH, 0, none⟩ = some (.slice A3 m3 c3) := by rw [← hm3]; exact (HB0.out.cell hbH).trans hc0
  have x0 := fun d os => cell_regrown hc0 d os
  have cF : ∀ d os, Calls Tryz.prog 36 #[] (grow (redrawn W0 d) os) fun e w'' => e = .returned (shW ⟨#[99, 111, 100, 101]⟩ 5 5 5 0) ∧ ∃ p : Regrown, w'' = grow (redrawn W0 p.d) p.os := fun d os => Calls.regrown_of (first_any _)
  have cR : ∀ d os, Calls Tryz.prog 37 #[shW ⟨#[99, 111, 100, 101]⟩ 5 5 5 0, .slice A3 m3 c3] (grow (redrawn W0 d) os) fun e w'' => e = .returned (.tuple #[.agg #[.int .i64 pa, .int .i64 pb, .int .i64 pc, .int .i64 pd], .bool (headOK (t3 :: r3))]) ∧ ∃ p : Regrown, w'' = grow (redrawn W0 p.d) p.os := fun d os => Calls.regrown_of (by rw [← hm3]; exact HRD.out _ (HB0.out.trans ((below_regrown W0 d os).mono HB0.out.size)))
  obtain ⟨hk, hhk⟩ : ∃ b, headOK (t3 :: r3) = b := ⟨_, rfl⟩
  rw [hhk] at cR
  have HHK := Lib.hid hhk
  clear hHD hHV hlen hP cRd hhk hTH h9 hHM hHN hrn h0 hRT
  go_enter Tryz.func27, Tryz.ntmps27
  go_upto_region 3 with fail
  try rw [hW0]
  clear hW0
  have HFI := Lib.hid (fun W => first_any W)
  have hcH : ∀ W, Below W0.heap.size W0 W → W.cell? ⟨bH, 0, none⟩ = some (.slice A3 m3 c3) := fun W hb => (hb.cell (Nat.lt_of_lt_of_le hbH HB0.out.size)).trans hc0
  have HRD2 : Hid (∀ W, Below W0.heap.size W0 W → Calls Tryz.prog 37 #[shW ⟨#[99, 111, 100, 101]⟩ 5 5 5 0, .slice A3 m3 c3] W fun e w' => e = .returned (.tuple #[.agg #[.int .i64 pa, .int .i64 pb, .int .i64 pc, .int .i64 pd], .bool hk]) ∧ Below W.heap.size W w') := fun W hb => by
    have := HRD.out W (HB0.out.trans (hb.mono HB0.out.size))
    rw [hm3, HHK.out] at this
    exact this
  have HCH := Lib.hid hcH
  clear x0 cF cR hc0 hcH
  let F : Nat → Value := fun i => match i with
    | 0 => shW ⟨#[99, 111, 100, 101]⟩ 5 5 5 0
    | 1 => .slice (some ⟨bH, 0, none⟩) (n + 1) ch
    | 2 => .pointer (some ⟨bH, 0, none⟩)
    | 3 => .slice A3 m3 c3
    | 4 => .tuple #[.agg #[.int .i64 pa, .int .i64 pb, .int .i64 pc, .int .i64 pd], .bool hk]
    | 5 => .tuple #[.agg #[.int .i64 pa, .int .i64 pb, .int .i64 pc, .int .i64 pd], .bool hk]
    | 6 => .agg #[.int .i64 pa, .int .i64 pb, .int .i64 pc, .int .i64 pd]
    | 7 => .bool hk
    | _ => .bool hk
  refine wp_region_joint (BoxJ W0 11 8 9 F (.cells #[.int .i64 0, .int .i64 0, .int .i64 0, .int .i64 0] 81 (0, 0)) (.cells #[.int .i64 pa, .int .i64 pb, .int .i64 pc, .int .i64 pd] 81 (0, 0))) hmx (by kernel_rfl) (by kernel_rfl) ?_ ?_ ?_ ?_
  · intro D vs hD
    exact ⟨(Below.refl _ _).drew, fun i hi _ _ hd => (by rw [hD i hi] at hd; cases hd), fun hd => (by rw [hD 9 (by decide)] at hd; cases hd), fun hd => (by rw [hD 8 (by decide)] at hd; cases hd)⟩
  · intro i o ho D vs w2 hJ hDi hd K hK
    have hi : i < 11 := (List.getElem?_eq_some_iff.1 ho).1
    generalize hlit : putV vs 0 _ _ = z at hK ⊢
    simp only [List.map_cons, List.map_nil, putV, Act.put, List.setIfInBounds_toArray, List.set_cons_succ, List.set_cons_zero] at hlit
    subst hlit
    rcases (by omega : i = 0 ∨ i = 1 ∨ i = 2 ∨ i = 3 ∨ i = 4 ∨ i = 5 ∨ i = 6 ∨ i = 7 ∨ i = 8 ∨ i = 9 ∨ i = 10) with rfl | rfl | rfl | rfl | rfl | rfl | rfl | rfl | rfl | rfl | rfl
    · -- 0
      obtain rfl := Option.some.inj ho
      clear ho hd hi
      go_simp
      go_at_call 36
      refine (HFI.out _).mono ?_
      rintro e wf ⟨rfl, hbf⟩
      exact hK _ (F 0) _ (fun j => j == 0 || D j) (by simp [Act.put]; try rfl) (fun j hj => by simp [hj]) (by simp) (hJ.step (by decide) (by decide) hbf (fun j hj => by simp [hj]))
    · -- 1
      obtain rfl := Option.some.inj ho
      clear ho hd hi
      go_simp
      exact hK _ (F 1) _ (fun j => j == 1 || D j) (by simp [Act.put]; try rfl) (fun j hj => by simp [hj]) (by simp) (hJ.step (by decide) (by decide) (Below.refl _ _) (fun j hj => by simp [hj]))
    · -- 2
      obtain rfl := Option.some.inj ho
      have v1 : vs 1 = F 1 := hJ.vals 1 (by decide) (by decide) (by decide) (hd 1 (by kernel_rfl))
      clear ho hd hi
      dsimp only [F] at v1
      go_simp
      exact hK _ (F 2) _ (fun j => j == 2 || D j) (by simp [Act.put, v1]; try rfl) (fun j hj => by simp [hj]) (by simp) (hJ.step (by decide) (by decide) (Below.refl _ _) (fun j hj => by simp [hj]))
    · -- 3
      obtain rfl := Option.some.inj ho
      have v2 : vs 2 = F 2 := hJ.vals 2 (by decide) (by decide) (by decide) (hd 2 (by kernel_rfl))
      clear ho hd hi
      dsimp only [F] at v2
      have hc := HCH.out w2 hJ.bel
      go_simp
      exact hK _ (F 3) _ (fun j => j == 3 || D j) (by simp [Act.put, v2]; try rfl) (fun j hj => by simp [hj]) (by simp) (hJ.step (by decide) (by decide) (Below.refl _ _) (fun j hj => by simp [hj]))
    · -- 4
      obtain rfl := Option.some.inj ho
      have v0 : vs 0 = F 0 := hJ.vals 0 (by decide) (by decide) (by decide) (hd 0 (by kernel_rfl))
      have v3 : vs 3 = F 3 := hJ.vals 3 (by decide) (by decide) (by decide) (hd 3 (by kernel_rfl))
      clear ho hd hi
      dsimp only [F] at v0
      dsimp only [F] at v3
      go_simp
      go_at_call 37
      refine (HRD2.out _ hJ.bel).mono ?_
      rintro e wf ⟨rfl, hbf⟩
      exact hK _ (F 4) _ (fun j => j == 4 || D j) (by simp [Act.put, v0, v3]; try rfl) (fun j hj => by simp [hj]) (by simp) (hJ.step (by decide) (by decide) hbf (fun j hj => by simp [hj]))
    · -- 5
      obtain rfl := Option.some.inj ho
      have v4 : vs 4 = F 4 := hJ.vals 4 (by decide) (by decide) (by decide) (hd 4 (by kernel_rfl))
      clear ho hd hi
      dsimp only [F] at v4
      go_simp
      exact hK _ (F 5) _ (fun j => j == 5 || D j) (by simp [Act.put, v4]; try rfl) (fun j hj => by simp [hj]) (by simp) (hJ.step (by decide) (by decide) (Below.refl _ _) (fun j hj => by simp [hj]))
    · -- 6
      obtain rfl := Option.some.inj ho
      have v5 : vs 5 = F 5 := hJ.vals 5 (by decide) (by decide) (by decide) (hd 5 (by kernel_rfl))
      clear ho hd hi
      dsimp only [F] at v5
      go_simp
      exact hK _ (F 6) _ (fun j => j == 6 || D j) (by simp [Act.put, v5]; try rfl) (fun j hj => by simp [hj]) (by simp) (hJ.step (by decide) (by decide) (Below.refl _ _) (fun j hj => by simp [hj]))
    · -- 7
      obtain rfl := Option.some.inj ho
      have v5 : vs 5 = F 5 := hJ.vals 5 (by decide) (by decide) (by decide) (hd 5 (by kernel_rfl))
      clear ho hd hi
      dsimp only [F] at v5
      go_simp
      exact hK _ (F 7) _ (fun j => j == 7 || D j) (by simp [Act.put, v5]; try rfl) (fun j hj => by simp [hj]) (by simp) (hJ.step (by decide) (by decide) (Below.refl _ _) (fun j hj => by simp [hj]))
    · -- 8
      obtain rfl := Option.some.inj ho
      clear ho hd hi
      go_simp
      exact hK _ (.pointer (some ⟨w2.heap.size, 0, none⟩)) _ (fun j => j == 8 || D j) (by simp [Act.put]; try rfl) (fun j hj => by simp [hj]) (by simp) (hJ.alloc_ (by decide) hDi rfl (fun j hj => by simp [hj]))
    · -- 9
      obtain rfl := Option.some.inj ho
      have v6 : vs 6 = F 6 := hJ.vals 6 (by decide) (by decide) (by decide) (hd 6 (by kernel_rfl))
      obtain ⟨g, v8, hgn, hgh⟩ := hJ.box (hd 8 (by kernel_rfl))
      rw [hDi] at hgh
      dsimp only [F] at v6
      have hD8 := hd 8 (by kernel_rfl)
      clear ho hd hi
      obtain ⟨r0, r1, r2, r3, rf0, rf1, rf2, rf3⟩ := lvCells hgh
      go_simp
      exact hK _ undef _ (fun j => j == 9 || D j) (by simp [Act.put, v6, v8]; try rfl) (fun j hj => by simp [hj]) (by simp) (hJ.store_ (by decide) hD8 v8 undef (fun h1 h2 => below4 h1 h2 _ _ _ _) (four_cells hgh _ _ _ _) (fun j hj => by simp [hj]) (by simp))
    · -- 10
      obtain rfl := Option.some.inj ho
      have v7 : vs 7 = F 7 := hJ.vals 7 (by decide) (by decide) (by decide) (hd 7 (by kernel_rfl))
      clear ho hd hi
      dsimp only [F] at v7
      go_simp
      exact hK _ (F 10) _ (fun j => j == 10 || D j) (by simp [Act.put, v7]; try rfl) (fun j hj => by simp [hj]) (by simp) (hJ.step (by decide) (by decide) (Below.refl _ _) (fun j hj => by simp [hj]))
  · intro D vs w2 hJ hall
    obtain ⟨g0, v8, hgn, hgh⟩ := hJ.box (hall 8 (by decide))
    rw [hall 9 (by decide)] at hgh
    replace hgh : w2.heap[g0]? = some (.cells #[.int .i64 pa, .int .i64 pb, .int .i64 pc, .int .i64 pd] 81 (0, 0)) := hgh
    have v0 : vs 0 = F 0 := hJ.vals 0 (by decide) (by decide) (by decide) (hall 0 (by decide))
    have v1 : vs 1 = F 1 := hJ.vals 1 (by decide) (by decide) (by decide) (hall 1 (by decide))
    have v2 : vs 2 = F 2 := hJ.vals 2 (by decide) (by decide) (by decide) (hall 2 (by decide))
    have v3 : vs 3 = F 3 := hJ.vals 3 (by decide) (by decide) (by decide) (hall 3 (by decide))
    have v4 : vs 4 = F 4 := hJ.vals 4 (by decide) (by decide) (by decide) (hall 4 (by decide))
    have v5 : vs 5 = F 5 := hJ.vals 5 (by decide) (by decide) (by decide) (hall 5 (by decide))
    have v6 : vs 6 = F 6 := hJ.vals 6 (by decide) (by decide) (by decide) (hall 6 (by decide))
    have v7 : vs 7 = F 7 := hJ.vals 7 (by decide) (by decide) (by decide) (hall 7 (by decide))
    have v10 : vs 10 = F 10 := hJ.vals 10 (by decide) (by decide) (by decide) (hall 10 (by decide))
    dsimp only [F] at v0 v1 v2 v3 v4 v5 v6 v7 v10
    have HB2 := Lib.hid (HB0.out.trans (hJ.bel.mono HB0.out.size))
    have HR2 := Lib.hid (keep_b hJ.bel HR0.out)
    generalize hlit : putV vs 0 _ _ = z
    simp only [List.map_cons, List.map_nil, putV, Act.put, List.setIfInBounds_toArray, List.set_cons_succ, List.set_cons_zero] at hlit
    rw [v0, v1, v2, v3, v4, v5, v6, v7, v8, v10] at hlit
    subst hlit
    have HZ2 : Hid (w.heap.size < w2.heap.size) := lt_of_heap HR2.out
    have HGH := Lib.hid hgh
    clear hJ hall v0 v1 v2 v3 v4 v5 v6 v7 v8 v10 hgh
    clear F
    clear HRD HRD2 HCH HFI hmx HB0 HR0
    cases hk with
    | false =>
      have HP := Lib.hid (rc_head (rs := RT) HHK.out)
      obtain ⟨r0, r1, r2, r3, rf0, rf1, rf2, rf3⟩ := lvCells HR2.out
      go_wp2_with fail
      obtain ⟨s0, s1, s2, s3⟩ := putC_cells HR2.out 0 0 0 (.slice none 0 0)
      have hd := rc_none HB2.out HP.out
      obtain ⟨wz, hwz⟩ : ∃ wz, putC w2 w.heap.size 0 0 0 (.slice none 0 0) = wz := ⟨_, rfl⟩
      rw [hwz] at hd s0 s1 s2 s3
      unfold putC at hwz
      try rw [hwz]
      exact bodyPost_ret (v := .tuple #[.agg #[.int .i64 0, .int .i64 0, .int .i64 0, .slice none 0 0], .int .i64 0, .bool false]) (by simp [results, Tryz.results27, go_sem, s0, s1, s2, s3]) rfl hd
    | true =>
      obtain ⟨q0, q1, q2, q3, _⟩ := lvCells HGH.out
      obtain ⟨z0, z1, z2, z3, zf0, zf1, zf2, zf3⟩ := lvCells (heap_alloc_new w2 zeroC)
      go_upto_region 7 with fail
      obtain ⟨W3, hW3⟩ : ∃ W, w2.alloc (.cells #[.int .i64 pa, .int .i64 pb, .int .i64 pc, .slice none 0 0] 24) = W := ⟨_, rfl⟩
      have hb3 : Below w2.heap.size w2 W3 := by rw [← hW3]; exact lvBelow _ _
      have HI0 : Hid (PaI w w2 pa pb pc w2.heap.size W3 none 0 []) := ⟨HB2.out.trans (hb3.mono HB2.out.size), hb3, HZ2.out, keep_b hb3 HR2.out, Nat.le_refl _, by rw [← hW3]; exact heap_alloc_new w2 _, OwnJ.nil_ _ _⟩
      obtain ⟨g, hg⟩ : ∃ g, w2.heap.size = g := ⟨_, rfl⟩
      try rw [hW3]
      try rw [hg]
      rw [hg] at HI0
      clear hW3 hb3 z0 z1 z2 z3 zf0 zf1 zf2 zf3 q0 q1 q2 q3 hg
      have HVV := HHV.out HHK.out
      have HN1 : Hid (n + 1 ≤ ch) := hnc
      clear HHV hnc
      go_cut [34, 35, 36, 37] (fun u v l i wx => ∃ o', v = .slice (some ⟨bH, o', none⟩) n (ch - 1) ∧ l = .int .i64 n ∧ i = .int .i64 0 ∧ Hid (ch = 1 ∨ o' = 1) ∧ wx = W3)
      case first =>
        by_cases hc1 : ch = 1
        · go_wp2_with fail
          go_meet
          case rel => exact ⟨0, by rw [hc1], rfl, rfl, .inl hc1, rfl⟩
        · go_wp2_with fail
          go_meet
          case rel => exact ⟨1, rfl, rfl, rfl, .inr rfl, rfl⟩
      obtain ⟨o9, rfl, rfl, rfl, HO9, rfl⟩ := hcut
      have HHP := Lib.hid HVV
      have HRB := Lib.hid (HRR.out.on HB2.out (Nat.le_refl _))
      clear HVV
      go_wp2_with fail
      go_loopw [37] (fun i wr => ∃ (k : Nat) (A' : Option Addr) (c' : Nat) (xs : List Ji), k ≤ n ∧ i = .int .i64 k ∧ Hid (xs.length = k) ∧ Hid (∀ x ∈ xs, x.ok) ∧ Hid (GoR RT (1 + k) (RT.drop k) xs) ∧ Hid (PaI w w2 pa pb pc g wr A' c' xs)) (fun i _ => n - (intOf i).toNat)
      case atStart => exact ⟨0, none, 0, [], Nat.zero_le _, rfl, rfl, fun x hx => absurd hx (by simp), GoR.start RT, HI0⟩
      case round =>
        obtain ⟨k, A', c', xs, hk, rfl, HXL, HXO, HG, HI⟩ := hrel
        by_cases hlt : k < n
        · obtain ⟨bR, r, eR, -, HRK, hcR, hTR⟩ := (HRB.out.on HI.out.bel2 HB2.out.size).row (k := k + 1) (by omega)
          injection eR with eR; injection eR with eR
          subst eR
          obtain ⟨Ar, cr, Lr⟩ := r
          have hrk : rs[k]? = some ⟨Ar, cr, Lr⟩ := by have := HRK.out; simpa using this
          have hmem : (⟨Ar, cr, Lr⟩ : RowK) ∈ (⟨A3, c3, t3 :: r3⟩ :: rs : List RowK) := List.mem_cons_of_mem _ (List.mem_of_getElem? hrk)
          have hRk : RT[k]? = some Lr := by rw [← HRT.out, List.getElem?_map, hrk]; rfl
          have hcap : Lr.length ≤ cr := HCC.out ⟨Ar, cr, Lr⟩ hmem
          have hLm := HMY.out ⟨Ar, cr, Lr⟩ hmem
          have hLn := HNE.out ⟨Ar, cr, Lr⟩ hmem
          have hdr : RT.drop k = Lr :: RT.drop (k + 1) := by
            obtain ⟨hk', e⟩ := List.getElem?_eq_some_iff.1 hRk
            rw [List.drop_eq_getElem_cons hk', e]
          have HG2 : Hid (GoR RT (1 + k) (Lr :: RT.drop (k + 1)) xs) := by unfold Hid; rw [← hdr]; exact HG.out
          dsimp only [RowK.hdr] at hcR hTR hLm hLn
          obtain ⟨tr, rr, rfl⟩ : ∃ t r, Lr = t :: r := by
            cases Lr with
            | nil => exact absurd rfl hLn
            | cons t r => exact ⟨t, r, rfl⟩
          have hI := readIns_any Ar (tr :: rr).length cr tr rr wr (hTR.more HI.out.bel.size) hLm hcap (HS.out.on HI.out.bel)
          have ho9 : o9 = 1 := by have := HN1.out; rcases HO9.out with h | h <;> omega
          subst ho9
          rw [Nat.add_comm k 1] at hcR
          obtain ⟨mr, hmr⟩ : ∃ m, (tr :: rr).length = m := ⟨_, rfl⟩
          rw [hmr] at hcR hI
          clear hTR hrk hRk hcap hdr HRK hmr hmem hLm hLn
          go_wp2_with fail
          (with_reducible refine hI.mono ?_)
          rintro e w3 ⟨x, hxo, rfl, hxr, hb⟩
          have HXX := Lib.hid hxo
          have HI3 := Lib.hid (HI.out.below hb)
          obtain ⟨W4, hW4⟩ : ∃ W, w3.alloc x.obj = W := ⟨_, rfl⟩
          obtain ⟨gx, hgx⟩ : ∃ z, w3.heap.size = z := ⟨_, rfl⟩
          have hb4 : Below w3.heap.size w3 W4 := by rw [← hW4]; exact lvBelow _ _
          have HI4 := Lib.hid (HI3.out.below hb4)
          have HX4 : Hid (W4.heap[gx]? = some x.obj) := by rw [← hW4, ← hgx]; exact newJ w3 x
          have HW4 := Lib.hid hW4
          have HGX := Lib.hid hgx
          have HXR := Lib.hid hxr
          clear hb hI hb4 hW4 hxo hxr hcR hgx
          go_upto_region 11 with fail
          try rw [HW4.out]
          try rw [HGX.out]
          clear HGX HW4
          cases hins : insF (tr :: rr) with
          | none =>
            have HP : Hid (rcF ((t3 :: r3) :: RT) = (noCd, (k : Int) + 1, false)) := by
              unfold Hid
              rw [rc_bad HHK.out (HG2.out.bad hins)]
              rw [show ((1 + k : Nat) : Int) = (k : Int) + 1 by omega]
            have HR4 := Lib.hid HI4.out.rv
            have HBB := Lib.hid HI4.out.bel
            clear hins
            obtain ⟨r0, r1, r2, r3', rf0, rf1, rf2, rf3⟩ := lvCells HR4.out
            go_wp2_with fail
            obtain ⟨s0, s1, s2, s3⟩ := putC_cells HR4.out 0 0 0 (.slice none 0 0)
            have hd := rc_none HBB.out HP.out
            obtain ⟨wz, hwz⟩ : ∃ wz, putC W4 w.heap.size 0 0 0 (.slice none 0 0) = wz := ⟨_, rfl⟩
            rw [hwz] at hd s0 s1 s2 s3
            unfold putC at hwz
            try rw [hwz]
            exact bodyPost_ret (v := .tuple #[.agg #[.int .i64 0, .int .i64 0, .int .i64 0, .slice none 0 0], .int .i64 ((k : Int) + 1), .bool false]) (by simp [results, Tryz.results27, go_sem, s0, s1, s2, s3]) rfl hd
          | some y =>
            obtain rfl : x = y := HXR.out y hins
            have HG3 := Lib.hid (HG2.out.step hins)
            clear hins
            obtain ⟨x0, x1, x2, x3, _, _, _, xf3⟩ := lvCells HI4.out.box
            rw [HXL.out] at x3
            obtain ⟨⟨y0, y1, y2, y3, y4⟩, yf⟩ := box_cellsJ HX4.out
            clear yf
            have hle : k + 1 ≤ 1000000 := by omega
            have hsz : w2.heap.size ≤ W4.heap.size := HI4.out.bel2.size
            go_wp2_with (at_builtin; refine wpList_appendJ rfl (.tmp 53) (.tmp 55) rfl w2.heap.size A' c' k (k + 1) W4.heap.size x xs rfl rfl rfl HI4.out.own HXL.out rfl hle hsz ?_; intro A5 c5 w5 hO5 hG5; have hG5' : W4.grownBy w5 (Value.slice A' xs.length c').ownBlock := (by rw [HXL.out]; exact hG5); have h5 := box_keptJ HI4.out.box (by decide) hG5' HI4.out.own; obtain ⟨_, _, _, v3, _, _, _, vf3⟩ := lvCells h5)
            have hadd := HI4.out.add hO5 hG5'
            rw [HXL.out] at hadd
            go_roundw
            case rel => exact ⟨k + 1, A5, c5, xs ++ [x], by omega, by go_num, Lib.hid (by rw [List.length_append, HXL.out]; rfl), Lib.hid (fun y hy => (List.mem_append.1 hy).elim (fun hy => HXO.out y hy) (fun hy => by rw [List.mem_singleton.1 hy]; exact HXX.out)), HG3, hadd⟩
            case measure => simp [intOf]; omega
        · obtain rfl : k = n := by omega
          have HRW : Hid (rowsF 1 RT = .ok xs) := GoR.done (i := 1 + k) (by have h := HG.out; rw [List.drop_of_length_le (by rw [HRTL.out]; exact Nat.le_refl _)] at h; exact h)
          have HP : Hid (rcF ((t3 :: r3) :: RT) = (⟨pa, pb, pc, xs⟩, 0, true)) := by
            unfold Hid
            obtain ⟨h1, h2, h3⟩ := HHP.out
            rw [rc_yes HHK.out HRW.out, h1, h2, h3]
          obtain ⟨x0, x1, x2, x3, _⟩ := lvCells HI.out.box
          rw [HXL.out] at x3
          obtain ⟨r0, r1, r2, r3', rf0, rf1, rf2, rf3⟩ := lvCells HI.out.rv
          clear hlt HG
          go_wp2_with fail
          obtain ⟨s0, s1, s2, s3⟩ := putC_cells HI.out.rv pa pb pc (.slice A' k c')
          have hd : ReadCodeP ((t3 :: r3) :: RT) w (.returned (.tuple #[.agg #[.int .i64 pa, .int .i64 pb, .int .i64 pc, .slice A' k c'], .int .i64 0, .bool true])) (putC wr w.heap.size pa pb pc (.slice A' k c')) := by
            unfold ReadCodeP
            rw [HP.out]
            have ho := HI.out.own.mono (base' := w.heap.size) (by have := HI.out.lt; omega)
            have f1 := HPF.out pa (by simp)
            have f2 := HPF.out pb (by simp)
            have f3 := HPF.out pc (by simp)
            exact ⟨A', c', by dsimp only; rw [HXL.out], putC_own ho HI.out.rv _ _ _ _, ⟨⟨by show _ ≤ pa; omega, by show pa ≤ _; omega⟩, ⟨by show _ ≤ pb; omega, by show pb ≤ _; omega⟩, ⟨by show _ ≤ pc; omega, by show pc ≤ _; omega⟩, HXO.out⟩, putC_below HI.out.bel _ _ _ _⟩
          obtain ⟨wz, hwz⟩ : ∃ wz, putC wr w.heap.size pa pb pc (.slice A' k c') = wz := ⟨_, rfl⟩
          rw [hwz] at hd s0 s1 s2 s3
          unfold putC at hwz
          try rw [hwz]
          exact bodyPost_ret (v := .tuple #[.agg #[.int .i64 pa, .int .i64 pb, .int .i64 pc, .slice A' k c'], .int .i64 0, .bool true]) (by simp [results, Tryz.results27, go_sem, s0, s1, s2, s3]) rfl hd
  · exact fun D D' vs w' hD h => h.same (by decide) (by decide) hD
end Go.Proofs.YtgkngimeokhhgaaGreatDoor
