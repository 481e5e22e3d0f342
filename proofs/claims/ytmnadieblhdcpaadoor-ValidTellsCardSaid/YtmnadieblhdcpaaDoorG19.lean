/- How the program reads code's lines: plain mathematics. -/
import Derived.Test.YtmnadieblhdcpaaDoorG18
import Derived.Test.YtmnadieblhdcpaaDoorG15
import Derived.Below
import Derived.StillTail
import Derived.Test.YtmnadieblhdcpaaDoorG2
namespace Go.Proofs.YtmnadieblhdcpaaDoor
open Go.RowKit

def codeS : ByteArray := ⟨#[99, 111, 100, 101]⟩
/-- the first line is the document's -/
theorem head_rd {t : Tk} {r : List Tk} (hm : ∀ q ∈ t :: r, mayT q) :
    ((rdAll codeS [5, 5, 5, 0] t r).2.1 && (rdAll codeS [5, 5, 5, 0] t r).2.2.isEmpty) = headOK (t :: r) ∧
    (headOK (t :: r) = true → (rdAll codeS [5, 5, 5, 0] t r).1 = [((t :: r).getD 1 zTk).n, ((t :: r).getD 2 zTk).n, ((t :: r).getD 3 zTk).n, 0]) := by
  have ht := hm t (by simp)
  have hb0 : (t.s.toList == codeS.toList) = decide (bl t.s = codeW) := by
    rw [Lib.toList_data, Lib.toList_data]
    show (bl t.s == bl codeS) = _
    rw [show bl codeS = codeW from rfl, Bool.eq_iff_iff, beq_iff_eq, decide_eq_true_iff]
  have hk1 : bl t.s = codeW → t.k = 1 := fun h => may_letter ht (by rw [h]; rfl) (by decide)
  unfold rdAll
  rw [rdS_four, hb0]
  have z5 : ∀ (u : Tk) (l : List Tk), rdPart 5 (u :: l) = rdOne 5 u := fun u l => rdPart_one (by decide) (fun q => absurd q.1 (by decide))
  have z0 : ∀ (l : List Tk), rdG [0] l = ([0], true, l) := fun l => rdG_zeros 1 l
  have hn : ∀ u ∈ r, rdOne 5 u = if u.k = 2 then (u.n, 1) else (0, 0) := fun u hu => rdOne_num (hm u (by simp [hu])) (.inr (.inl rfl))
  by_cases hw : bl t.s = codeW
  · have hk := hk1 hw
    rw [decide_eq_true hw]
    match r, hn with
    | [], _ => exact ⟨rfl, fun h => absurd h (by simp [headOK])⟩
    | [a], hn =>
      have ha := hn a (by simp)
      refine ⟨?_, fun h => absurd h (by simp [headOK])⟩
      simp only [rdG, z5, ha]
      by_cases h : a.k = 2
      · simp [h, headOK, rdPart]
      · simp [h, headOK]
    | [a, b], hn =>
      have ha := hn a (by simp)
      have hb := hn b (by simp)
      refine ⟨?_, fun h => absurd h (by simp [headOK])⟩
      simp only [rdG, z5, ha]
      by_cases h : a.k = 2
      · simp only [if_pos h, List.drop_one, List.tail_cons, z5, hb]
        by_cases h2 : b.k = 2
        · simp [h2, headOK, rdPart]
        · simp [h2, headOK]
      · simp [h, headOK]
    | a :: b :: c :: l, hn =>
      have ha := hn a (by simp)
      have hb := hn b (by simp)
      have hc := hn c (by simp)
      simp only [rdG, z5, ha, rdPart_zero]
      by_cases h : a.k = 2
      · simp only [if_pos h, List.drop_one, List.tail_cons, z5, hb]
        by_cases h2 : b.k = 2
        · simp only [if_pos h2, List.drop_one, List.tail_cons, z5, hc]
          by_cases h3 : c.k = 2
          · simp only [if_pos h3, List.drop_one, List.tail_cons, List.drop_zero]
            cases l with
            | nil => simp [headOK, zTk, hk, hw, h, h2, h3]
            | cons d l => simp [headOK]
          · simp [h3, headOK, zTk]
        · simp [h2, headOK, zTk]
      · simp [h, headOK, zTk]
  · have hz : headOK (t :: r) = false := by unfold headOK; simp [zTk, hw]
    rw [decide_eq_false hw, hz]
    exact ⟨rfl, fun h => by cases h⟩
/-- what the program reads of lines: code, the number of a line, whether it is code -/
def rcF (R : List (List Tk)) : Cd × Int × Bool :=
  match R with
  | [] => (noCd, 0, false)
  | h :: rs => if headOK h then (match rowsF 1 rs with
    | .error i => (noCd, (i : Int), false)
    | .ok l => (⟨(h.getD 1 zTk).n, (h.getD 2 zTk).n, (h.getD 3 zTk).n, l⟩, 0, true)) else (noCd, 0, false)
theorem rc_nil : rcF [] = (noCd, 0, false) := rfl
theorem rc_head {h : List Tk} {rs : List (List Tk)} (hh : headOK h = false) : rcF (h :: rs) = (noCd, 0, false) := by unfold rcF; dsimp only; rw [hh]; rfl
theorem rc_bad {h : List Tk} {rs : List (List Tk)} {i : Nat} (hh : headOK h = true) (hr : rowsF 1 rs = .error i) : rcF (h :: rs) = (noCd, (i : Int), false) := by unfold rcF; dsimp only; rw [hh, hr]; rfl
theorem rc_yes {h : List Tk} {rs : List (List Tk)} {xs : List Ji} (hh : headOK h = true) (hr : rowsF 1 rs = .ok xs) : rcF (h :: rs) = (⟨(h.getD 1 zTk).n, (h.getD 2 zTk).n, (h.getD 3 zTk).n, xs⟩, 0, true) := by unfold rcF; dsimp only; rw [hh, hr]; rfl
theorem rowsF_len : ∀ (rs : List (List Tk)) (i : Nat) (l : List Ji), rowsF i rs = .ok l → l.length = rs.length
  | [], _, l, h => by cases h; rfl
  | r :: rs, i, l, h => by
    unfold rowsF at h
    cases hi : insF r with
    | none => rw [hi] at h; cases h
    | some x =>
      rw [hi] at h
      cases hr : rowsF (i + 1) rs with
      | error j => rw [hr] at h; cases h
      | ok m =>
        rw [hr] at h
        cases h
        have := rowsF_len rs (i + 1) m hr
        simp [this]
theorem rc_len (R : List (List Tk)) : (rcF R).1.l.length ≤ R.length := by
  cases R with
  | nil => exact Nat.le_refl _
  | cons h rs =>
    cases hh : headOK h with
    | false => rw [rc_head hh]; exact Nat.zero_le _
    | true =>
      cases hr : rowsF 1 rs with
      | error i => rw [rc_bad hh hr]; exact Nat.zero_le _
      | ok xs =>
        rw [rc_yes hh hr]
        have := rowsF_len rs 1 xs hr
        simp only [List.length_cons]
        omega
theorem parse_rc (R : List (List Tk)) : parseR R = if (rcF R).2.2 then (if (rcF R).1.may then ((rcF R).1, (R.length : Int), 0) else (noCd, 0, 1)) else (noCd, (rcF R).2.1, 6) := by
  cases R with
  | nil => rfl
  | cons h rs =>
    cases hh : headOK h with
    | false => rw [rc_head hh, parse_head hh]; rfl
    | true =>
      cases hr : rowsF 1 rs with
      | error i => rw [rc_bad hh hr, parse_bad hh hr]; rfl
      | ok xs =>
        rw [rc_yes hh hr]
        cases hm : Cd.may ⟨(h.getD 1 zTk).n, (h.getD 2 zTk).n, (h.getD 3 zTk).n, xs⟩ with
        | false => rw [parse_no hh hr hm]; simp
        | true => rw [parse_yes hh hr hm]; simp
/-- lines that Cut gives have something on them -/
theorem rows_full {l : List UInt8} {L : List Tk} {N : Int} (h : cutF l = (L, N, 0)) : ∀ R ∈ linesL L, R ≠ [] := by
  have hg := (cutF_good (l := l) (by rw [h])).1
  rw [h] at hg
  dsimp only at hg
  obtain ⟨hgd, _⟩ := cutE_good _ _ (Nat.le_refl _) _ _ _ (.inl rfl) hg
  intro R hR e
  unfold linesL at hR
  split at hR
  · cases hR
  · rename_i h0
    rcases hgd with hgd | hgd
    · exact h0 hgd
    · exact hgd R hR e
end Go.Proofs.YtmnadieblhdcpaaDoor
/- The program's opOf, first and readIns. -/
namespace Go.Proofs.YtmnadieblhdcpaaDoor
open Go Go.RowKit

theorem opW_first {l : List UInt8} {k : Nat} (hk : k < 13) (h : wJ (k : Int) = l) (hn : ∀ j : Nat, j < k → wJ (j : Int) ≠ l) : opW l = (k : Int) := by
  have hw : ∀ (j : Nat) (hj : j < 13), wJ (j : Int) = wordsJ[j]'hj := fun j hj => by
    unfold wJ
    rw [if_pos (by omega), Int.toNat_natCast, List.getD_eq_getElem?_getD, List.getElem?_eq_getElem (show j < wordsJ.length from hj)]; rfl
  have : wordsJ.findIdx? (· == l) = some k := by
    rw [List.findIdx?_eq_some_iff_getElem]
    refine ⟨hk, ?_, fun j hj => ?_⟩
    · rw [← hw k hk, h]; simp
    · have := hn j hj
      rw [hw j (by omega)] at this
      exact fun h => this (eq_of_beq h)
  unfold opW
  rw [this]
theorem opW_no {l : List UInt8} (hn : ∀ j : Nat, j < 13 → wJ (j : Int) ≠ l) : opW l = -1 := by
  have : wordsJ.findIdx? (· == l) = none := by
    rw [List.findIdx?_eq_none_iff]
    intro x hx
    obtain ⟨j, hj, e⟩ := List.getElem_of_mem hx
    have := hn j hj
    unfold wJ at this
    rw [if_pos (by have : j < 13 := hj; omega), Int.toNat_natCast, List.getD_eq_getElem?_getD, List.getElem?_eq_getElem hj, Option.getD_some, e] at this
    simpa using this
  unfold opW
  rw [this]
def OpOfP (l : List UInt8) (w : World) (e : Ending) (w' : World) : Prop := e = .returned (.tuple #[.int .i64 (if 0 ≤ opW l then opW l else 0), .bool (decide (0 ≤ opW l))]) ∧ w = w'
set_option maxRecDepth 100000 in
set_option maxHeartbeats 4000000 in
theorem opOf_any (s : ByteArray) (w : World) (hS : ShT w) : Calls Tryd.prog 83 #[.string s] w (OpOfP (bl s) w) := by
  have HS := Lib.hid hS
  clear hS
  go_enter Tryd.func83, Tryd.ntmps83
  go_wp2_with fail
  go_loopw [5] (fun i wr => ∃ (k : Nat), k ≤ 13 ∧ i = .int .i64 k ∧ Hid (∀ j : Nat, j < k → wJ (j : Int) ≠ bl s) ∧ wr = w) (fun i _ => 13 - (intOf i).toNat)
  case atStart => exact ⟨0, Nat.zero_le _, rfl, fun j hj => absurd hj (by omega), rfl⟩
  case round =>
    obtain ⟨k, hk, rfl, HN, rfl⟩ := hrel
    by_cases hlt : k < 13
    · obtain ⟨c0, c1, c2, c3, c4⟩ := HS.out.here.row hlt
      have hk1 : (k : Int) < 13 := by omega
      have hk0 : (0 : Int) ≤ (k : Int) := by omega
      have he : ((strJ (wJ (k : Int))).toList == s.toList) = decide (wJ (k : Int) = bl s) := by
        rw [Lib.toList_data, Lib.toList_data, show (strJ (wJ (k : Int))).data.toList = bl (strJ (wJ (k : Int))) from rfl, bl_strJ, show s.data.toList = bl s from rfl]
        rw [Bool.eq_iff_iff, beq_iff_eq, decide_eq_true_iff]
      by_cases hw : wJ (k : Int) = bl s
      · rw [decide_eq_true hw] at he
        have HO := Lib.hid (opW_first hlt hw (fun j hj => HN.out j hj))
        clear hw
        go_wp2_with fail
        go_ret2
        exact ⟨by rw [HO.out, if_pos (by omega), decide_eq_true (by omega)]; rfl, rfl⟩
      · rw [decide_eq_false hw] at he
        have HN2 : Hid (∀ j : Nat, j < k + 1 → wJ (j : Int) ≠ bl s) := fun j hj => by
          by_cases e : j = k
          · subst e; exact hw
          · exact HN.out j (by omega)
        clear hw
        go_wp2_with fail
        go_roundw
        case rel => exact ⟨k + 1, by omega, by go_num, HN2, by first | trivial | rfl⟩
        case measure => simp [intOf]; omega
    · obtain rfl : k = 13 := by omega
      have HO := Lib.hid (opW_no HN.out)
      go_wp2_with fail
      go_ret2
      exact ⟨by rw [HO.out]; rfl, rfl⟩
set_option maxRecDepth 100000 in
theorem first_any (w : World) : Calls Tryd.prog 75 #[] w fun e w' => e = .returned (shW ⟨#[99, 111, 100, 101]⟩ 5 5 5 0) ∧ Below w.heap.size w w' := by
  have hb1 := (Below.refl w.heap.size w).alloc (Nat.le_refl _) zeroSh
  obtain ⟨W0, hW0⟩ : ∃ W, w.alloc zeroSh = W := ⟨_, rfl⟩
  have HB0 : Hid (Below w.heap.size w W0) := by rw [← hW0]; exact hb1
  have HX : Hid (W0.heap[w.heap.size]? = some (.cells #[.string ⟨#[]⟩, .int .i64 0, .int .i64 0, .int .i64 0, .int .i64 0] 72 (0, 0))) := by rw [← hW0]; exact heap_alloc_new w zeroSh
  obtain ⟨b0, b1, b2, b3, b4, f0, f1, f2, f3, f4⟩ := cells5 HX.out
  obtain ⟨s0, s1, s2, s3, s4, _⟩ := cells5 (five_cells HX.out (.string ⟨#[99, 111, 100, 101]⟩) (.int .i64 5) (.int .i64 5) (.int .i64 5) (.int .i64 0))
  have HSS := Lib.hid (And.intro s0 (And.intro s1 (And.intro s2 (And.intro s3 s4))))
  have HD := Lib.hid (put5_below HB0.out (Nat.le_refl _) (.string ⟨#[99, 111, 100, 101]⟩) (.int .i64 5) (.int .i64 5) (.int .i64 5) (.int .i64 0))
  clear hb1 s0 s1 s2 s3 s4
  go_enter Tryd.func75, Tryd.ntmps75
  go_upto_region 1 with fail
  try rw [hW0]
  go_wp2_with fail
  obtain ⟨s0, s1, s2, s3, s4⟩ := HSS.out
  exact bodyPost_ret (v := shW ⟨#[99, 111, 100, 101]⟩ 5 5 5 0) (by simp [results, Tryd.results75, go_sem, s0, s1, s2, s3, s4]) rfl ⟨rfl, HD.out⟩
/-- the instruction that a line is -/
def ReadInsP (L : List Tk) (w : World) (e : Ending) (w' : World) : Prop := ∃ x : Ji, x.ok ∧ e = .returned (.tuple #[x.val, .bool (insF L).isSome]) ∧ (∀ y, insF L = some y → x = y) ∧ Below w.heap.size w w'
set_option maxRecDepth 100000 in
set_option maxHeartbeats 4000000 in
theorem readIns_any (A : Option Addr) (n c : Nat) (t : Tk) (r : List Tk) (w : World) (hT : Toks w w.heap.size A n (t :: r)) (hm : ∀ q ∈ t :: r, mayT q) (hnc : n ≤ c) (hS : ShT w) :
    Calls Tryd.prog 77 #[.slice A n c] w (ReadInsP (t :: r) w) := by
  obtain ⟨m, rfl⟩ : ∃ m, n = m + 1 := ⟨n - 1, by have := hT.1; simp at this; omega⟩
  obtain ⟨b, o, t', hA, hbl, hX, c0, c1, c2, hto⟩ := hT.at_ (k := 0) (by omega)
  subst hA
  obtain rfl : t = t' := Option.some.inj hX.out
  rw [Nat.zero_mul, Nat.add_zero] at c0 c1 c2
  have hb0 := lvBelow w (Ji.obj ⟨0, 0, 0, 0, 0⟩)
  obtain ⟨W0, hW0⟩ : ∃ W, w.alloc (Ji.obj ⟨0, 0, 0, 0, 0⟩) = W := ⟨_, rfl⟩
  have HB0 : Hid (Below w.heap.size w W0) := by rw [← hW0]; exact hb0
  have HR0 : Hid (W0.heap[w.heap.size]? = some (Ji.obj ⟨0, 0, 0, 0, 0⟩)) := by rw [← hW0]; exact newJ w _
  replace c0 : W0.cell? ⟨b, o, none⟩ = some (.int .i64 t.k) := (HB0.out.cell hbl).trans c0
  replace c1 : W0.cell? ⟨b, o + 1, none⟩ = some (.string t.s) := (HB0.out.cell hbl).trans c1
  replace c2 : W0.cell? ⟨b, o + 2, none⟩ = some (.int .i64 t.n) := (HB0.out.cell hbl).trans c2
  have HT := Lib.hid hT
  have HM := Lib.hid hm
  have HS := Lib.hid hS
  have HNC := Lib.hid hnc
  have cO := opOf_any t.s W0 (hS.on HB0.out)
  have hnp : (0 : Int) < (m : Int) + 1 := by omega
  clear hT hX hto hb0 hm hS hbl hnc
  by_cases ho : 0 ≤ opW (bl t.s)
  case neg =>
    have HI := Lib.hid (insF_no (t := t) (r := r) (by omega))
    unfold OpOfP at cO
    rw [if_neg ho, decide_eq_false ho] at cO
    clear ho
    go_enter Tryd.func77, Tryd.ntmps77
    go_upto_region 1 with fail
    try rw [hW0]
    go_wp2_with fail
    refine cO.mono ?_
    rintro e w1 ⟨rfl, rfl⟩
    clear cO hW0 c0 c1 c2
    obtain ⟨r0, r1, r2, r3, r4, rf0, rf1, rf2, rf3, rf4⟩ := cells5 HR0.out
    have HD := Lib.hid (put5_below HB0.out (Nat.le_refl _) (.int .i64 0) (.int .i64 0) (.int .i64 0) (.int .i64 0) (.int .i64 0))
    obtain ⟨s0, s1, s2, s3, s4, _⟩ := cells5 (five_cells HR0.out (.int .i64 0) (.int .i64 0) (.int .i64 0) (.int .i64 0) (.int .i64 0))
    have HSS := Lib.hid (And.intro s0 (And.intro s1 (And.intro s2 (And.intro s3 s4))))
    clear s0 s1 s2 s3 s4
    go_wp2_with fail
    obtain ⟨s0, s1, s2, s3, s4⟩ := HSS.out
    refine bodyPost_ret (v := .tuple #[Ji.val ⟨0, 0, 0, 0, 0⟩, .bool false]) (by simp [results, Tryd.results77, go_sem, s0, s1, s2, s3, s4]) rfl ⟨⟨0, 0, 0, 0, 0⟩, ⟨by decide, by decide, by decide, by decide, by decide⟩, by rw [HI.out]; rfl, fun y hy => ?_, HD.out⟩
    rw [HI.out] at hy
    cases hy
  unfold OpOfP at cO
  rw [if_pos ho, decide_eq_true ho] at cO
  obtain ⟨op, hop⟩ : ∃ op, opW (bl t.s) = op := ⟨_, rfl⟩
  rw [hop] at cO ho
  have HOP := Lib.hid hop
  have H12 : Hid (0 ≤ op ∧ op ≤ 12) := by
    have := (opW_inv (l := bl t.s) (by omega)).2
    exact ⟨ho, by omega⟩
  clear hop ho
  go_enter Tryd.func77, Tryd.ntmps77
  go_upto_region 1 with fail
  try rw [hW0]
  go_wp2_with fail
  refine cO.mono ?_
  rintro e w1 ⟨rfl, rfl⟩
  have cS := shapeOf_any op W0 (HS.out.on HB0.out)
  clear cO hW0 c0 c1 c2
  go_wp2_with fail
  refine cS.mono ?_
  rintro e w1 ⟨rfl, hb⟩
  unfold shV
  have HB1 := Lib.hid (HB0.out.trans (hb.mono HB0.out.size))
  have HR1 := Lib.hid (keep_b hb HR0.out)
  clear hb cS
  obtain ⟨W2, hW2⟩ : ∃ W, w1.alloc (shObj op) = W := ⟨_, rfl⟩
  have HB2 : Hid (Below w.heap.size w W2) := by rw [← hW2]; exact HB1.out.alloc HB1.out.size _
  have HR2 : Hid (W2.heap[w.heap.size]? = some (Ji.obj ⟨0, 0, 0, 0, 0⟩)) := by rw [← hW2]; exact pastJ _ HR1.out
  have hG2 : W2.heap[w1.heap.size]? = some (.cells #[.string (strJ (wJ op)), .int .i64 (kA op 0), .int .i64 (kA op 1), .int .i64 (kA op 2), .int .i64 (kA op 3)] 72 (0, 0)) := by rw [← hW2]; exact heap_alloc_new w1 (shObj op)
  have hkN : kN op = [kA op 0, kA op 1, kA op 2, kA op 3] := by
    have := kN_len op
    unfold kA
    match kN op, this with
    | [k0, k1, k2, k3], _ => rfl
  have cR := read_any (strJ (wJ op)) (kA op 0) (kA op 1) (kA op 2) (kA op 3) (by rw [← hkN]; exact kN_bound op) (some ⟨b, o, none⟩) (m + 1) c t r W2 ((HT.out.below HB2.out).more HB2.out.size) HNC.out
  unfold ReadP at cR
  rw [← hkN] at cR
  obtain ⟨s0, s1, s2, s3, s4, _⟩ := cells5 hG2
  clear hkN hG2
  go_upto_region 5 with fail
  try rw [hW2]
  clear hW2
  go_wp2_with fail
  refine cR.mono ?_
  rintro e w3 ⟨a, b', c', d, hR, rfl, hb⟩
  have HB3 := Lib.hid (HB2.out.trans (hb.mono HB2.out.size))
  have HR3 := Lib.hid (keep_b hb HR2.out)
  have HI := Lib.hid (insF_rd HM.out HOP.out H12.out.1 hR)
  obtain ⟨B, hB⟩ : ∃ B, ((rdAll (strJ (wJ op)) (kN op) t r).2.1 && (rdAll (strJ (wJ op)) (kN op) t r).2.2.isEmpty) = B := ⟨_, rfl⟩
  rw [hB] at HI ⊢
  have HFIT : Hid (∀ v ∈ [a, b', c', d], -1000000000000000000 < v ∧ v < 1000000000000000000) := by
    have := rdS_fit (kN op) (t.s.toList == (strJ (wJ op)).toList) r 4
    rw [show (rdS (kN op) (t.s.toList == (strJ (wJ op)).toList) r 4).1 = [a, b', c', d] from hR] at this
    exact this
  clear hb cR s0 s1 s2 s3 s4 hR hB
  obtain ⟨W4, hW4⟩ : ∃ W, w3.alloc (.cells #[.int .i64 a, .int .i64 b', .int .i64 c', .int .i64 d] 92) = W := ⟨_, rfl⟩
  have HB4 : Hid (Below w.heap.size w W4) := by rw [← hW4]; exact HB3.out.alloc HB3.out.size _
  have HR4 : Hid (W4.heap[w.heap.size]? = some (Ji.obj ⟨0, 0, 0, 0, 0⟩)) := by rw [← hW4]; exact pastJ _ HR3.out
  have hP4 : W4.heap[w3.heap.size]? = some (.cells #[.int .i64 a, .int .i64 b', .int .i64 c', .int .i64 d] 92 (0, 0)) := by rw [← hW4]; exact heap_alloc_new w3 _
  obtain ⟨p0, p1, p2, p3, _⟩ := lvCells hP4
  have cW := whole_j ⟨op, a, b', c', d⟩ W4
  clear hP4
  go_upto_region 6 with fail
  try rw [hW4]
  clear hW4
  go_wp2_with fail
  refine cW.mono ?_
  rintro e w5 ⟨rfl, hb⟩
  have HB5 := Lib.hid (HB4.out.trans (hb.mono HB4.out.size))
  have HR5 := Lib.hid (keep_b hb HR4.out)
  clear hb cW p0 p1 p2 p3
  obtain ⟨r0, r1, r2, r3, r4, rf0, rf1, rf2, rf3, rf4⟩ := cells5 HR5.out
  have HD := Lib.hid (put5_below HB5.out (Nat.le_refl _) (.int .i64 op) (.int .i64 a) (.int .i64 b') (.int .i64 c') (.int .i64 d))
  obtain ⟨s0, s1, s2, s3, s4, _⟩ := cells5 (five_cells HR5.out (.int .i64 op) (.int .i64 a) (.int .i64 b') (.int .i64 c') (.int .i64 d))
  have HSS := Lib.hid (And.intro s0 (And.intro s1 (And.intro s2 (And.intro s3 s4))))
  clear s0 s1 s2 s3 s4
  go_wp2_with fail
  obtain ⟨s0, s1, s2, s3, s4⟩ := HSS.out
  have hf := HFIT.out
  refine bodyPost_ret (v := .tuple #[Ji.val ⟨op, a, b', c', d⟩, .bool B]) (by simp [results, Tryd.results77, go_sem, s0, s1, s2, s3, s4]) rfl ⟨⟨op, a, b', c', d⟩, ⟨by have := H12.out; exact ⟨by show _ ≤ op; omega, by show op ≤ _; omega⟩, by have := hf a (by simp); exact ⟨by show _ ≤ a; omega, by show a ≤ _; omega⟩, by have := hf b' (by simp); exact ⟨by show _ ≤ b'; omega, by show b' ≤ _; omega⟩, by have := hf c' (by simp); exact ⟨by show _ ≤ c'; omega, by show c' ≤ _; omega⟩, by have := hf d (by simp); exact ⟨by show _ ≤ d; omega, by show d ≤ _; omega⟩⟩, ?_, fun y hy => ?_, HD.out⟩
  · rw [HI.out]; cases B <;> rfl
  · rw [HI.out] at hy
    cases B
    · cases hy
    · injection hy
end Go.Proofs.YtmnadieblhdcpaaDoor
/- A region of code that draws its order of evaluation, by an invariant: what holds whichever operations have come up. Nothing is claimed of the program here. -/
namespace Go.Proofs.YtmnadieblhdcpaaDoor
open Go.RowKit

section
variable {P : Program} {ops : Array Oper} {md : Region.Mode} {Q : Exit → Act → World → Prop}
def unlN (n : Nat) (listed : Array Bool) : Nat := (List.range n).countP fun i => listed.getD i true == false
theorem unlN_set {n i : Nat} {listed : Array Bool} (hi : listed.getD i true = false) (hn : i < n) : unlN n (listed.setIfInBounds i true) + 1 ≤ unlN n listed := by
  unfold unlN
  have hne : ∀ j, j ≠ i → (listed.setIfInBounds i true).getD j true = listed.getD j true := fun j hj => getD_set_ne true (Ne.symm hj)
  have hsz : i < listed.size := by
    rcases Nat.lt_or_ge i listed.size with h | h
    · exact h
    · simp [Array.getElem?_eq_none h] at hi
  have heq : (listed.setIfInBounds i true).getD i true = true := by simp [hsz]
  have key : ∀ m, (List.range m).countP (fun j => (listed.setIfInBounds i true).getD j true == false) + (if i < m then 1 else 0) = (List.range m).countP (fun j => listed.getD j true == false) := by
    intro m
    induction m with
    | zero => simp
    | succ m ih =>
      rw [List.range_succ, List.countP_append, List.countP_append]
      simp only [List.countP_singleton]
      by_cases hm : m = i
      · subst hm
        have e1 : ¬ m < m := Nat.lt_irrefl m
        have e2 : m < m + 1 := Nat.lt_succ_self m
        rw [heq, hi]
        simp only [e1, e2, if_true, if_false] at ih ⊢
        simp at ih ⊢
        omega
      · rw [hne m hm]
        by_cases hl : i < m
        · have e2 : i < m + 1 := by omega
          simp only [hl, e2, if_true] at ih ⊢
          omega
        · have e2 : ¬ i < m + 1 := by omega
          simp only [hl, e2, if_false] at ih ⊢
          omega
  have := key n
  rw [if_pos hn] at this
  omega
theorem wpAny_inv {I : Array Bool → Act → World → Prop} (hend : ∀ listed a w, I listed a w → (∀ i, i < ops.size → listed.getD i false = true) → Q .normal a w)
    (hacyc : ∀ listed : Array Bool, Region.ready md ops listed = [] → ∀ i, i < ops.size → listed.getD i true = true)
    (hstep : ∀ listed a w i, I listed a w → i ∈ Region.ready md ops listed → wpOp P ops Q i (fun a' w' => I (listed.setIfInBounds i true) a' w') a w) (fuel : Nat) :
    ∀ (listed : Array Bool) (a : Act) (w : World), listed.size = ops.size → unlN ops.size listed ≤ fuel → I listed a w → wpAny P md ops Q fuel listed a w := by
  have hin : ∀ listed : Array Bool, listed.size = ops.size → Region.ready md ops listed = [] → ∀ i, i < ops.size → listed.getD i false = true := fun listed hs hr i hi => by
    have h1 := hacyc listed hr i hi
    have h2 : i < listed.size := by omega
    simp [h2] at h1 ⊢
    exact h1
  induction fuel with
  | zero =>
    intro listed a w hs hf hI
    have hr : Region.ready md ops listed = [] := by
      rw [List.eq_nil_iff_forall_not_mem]
      intro i hi
      obtain ⟨hun, o, ho, _⟩ := mem_ready.1 hi
      have := unlN_set hun (Array.getElem?_eq_some_iff.1 ho).1
      omega
    exact ⟨hr, hend _ _ _ hI (hin _ hs hr)⟩
  | succ f ih =>
    intro listed a w hs hf hI
    refine ⟨fun hr => hend _ _ _ hI (hin _ hs hr), fun i hi => ?_⟩
    obtain ⟨hun, o, ho, _⟩ := mem_ready.1 hi
    have := unlN_set hun (Array.getElem?_eq_some_iff.1 ho).1
    exact wpOp_mono (fun a' w' h' => ih _ a' w' (by simpa using hs) (by omega) h') (hstep _ _ _ _ hI hi)
/-- each operation waits for such ahead of it alone -/
def upB (ops : Array Oper) : Bool := (List.range ops.size).all fun i => match ops[i]? with
  | some o => o.after.all fun e => decide (e.on < i)
  | none => true
theorem acyc_of (h : upB ops = true) (listed : Array Bool) (hr : Region.ready md ops listed = []) : ∀ i, i < ops.size → listed.getD i true = true := by
  intro i
  induction i using Nat.strongRecOn with
  | _ i ih =>
    intro hi
    cases hl : listed.getD i true with
    | true => rfl
    | false =>
      exfalso
      obtain ⟨o, ho⟩ : ∃ o, ops[i]? = some o := ⟨_, Array.getElem?_eq_getElem hi⟩
      have h1 := List.all_eq_true.1 h i (List.mem_range.2 hi)
      rw [ho] at h1
      simp only at h1
      have hm : i ∈ Region.ready md ops listed := by
        refine mem_ready.2 ⟨hl, o, ho, fun e he _ => ?_⟩
        have h2 := Array.all_eq_true'.1 h1 e he
        have hlt : e.on < i := by simpa using h2
        have h3 := ih e.on hlt (by omega)
        -- listed up to i, as i is not listed
        have hs : i < listed.size := by
          rcases Nat.lt_or_ge i listed.size with h | h
          · exact h
          · simp [Array.getElem?_eq_none h] at hl
        have hs2 : e.on < listed.size := by omega
        simp [hs2] at h3 ⊢
        exact h3
      rw [hr] at hm
      cases hm
theorem wp_region_inv {id : Nat} {a : Act} {w : World} {l : List Oper} (I : Act → Array Bool → Act → World → Prop) (hm : P.follows .mixedOrders = true) (hup : upB l.toArray = true)
    (h0 : I a (Array.replicate l.toArray.size false) a w.drew) (hend : ∀ listed a' w', I a listed a' w' → (∀ i, i < l.toArray.size → listed.getD i false = true) → Q .normal a' w')
    (hstep : ∀ listed a' w' i, I a listed a' w' → i ∈ Region.ready .any l.toArray listed → wpOp P l.toArray Q i (fun a'' w'' => I a (listed.setIfInBounds i true) a'' w'') a' w') : (Code.region id l.toArray true).wp P Q a w := by
  refine wp_region_any hm (wpAny_inv hend (fun listed hr => acyc_of hup listed hr) hstep _ _ _ _ (by simp) ?_ h0)
  unfold unlN
  exact Nat.le_trans List.countP_le_length (by simp)
/-- one operation, what follows behind a variable -/
theorem wpOp_of {i : Nat} {a : Act} {w : World} {o : Oper} {I : Act → World → Prop} (ho : ops[i]? = some o) (h : ∀ K : Act → World → Prop, (∀ a w, I a w → K a w) → if Region.wanted o (yielded ops a.tmps) = true then Oper.wp P o a w K Q else K (a.put o.dst undef) w) : wpOp P ops Q i I a w := by
  have h := h I (fun _ _ h => h)
  unfold wpOp
  rw [ho]
  simp only
  split
  · next hw => rw [if_pos hw] at h; exact .inl h
  · next hw => rw [if_neg hw] at h; exact h
/-- an operation that comes up has behind it what it waits for -/
theorem ready_at {i : Nat} {listed : Array Bool} {o : Oper} (hi : i ∈ Region.ready md ops listed) (ho : ops[i]? = some o) (k : Nat) (hk : o.after.toList.any (fun e => Region.binds md e && e.on == k) = true) : listed.getD k false = true := by
  obtain ⟨_, o', ho', hall⟩ := mem_ready.1 hi
  rw [ho] at ho'
  cases ho'
  obtain ⟨e, he, hb⟩ := List.any_eq_true.1 hk
  simp only [Bool.and_eq_true, beq_iff_eq] at hb
  rw [← hb.2]
  exact hall e (Array.mem_toList_iff.1 he) hb.1
end
end Go.Proofs.YtmnadieblhdcpaaDoor
/- A region of code that draws its order of evaluation, by what each of its values is: whichever operations have come up. Nothing is claimed of the program here. -/
namespace Go.Proofs.YtmnadieblhdcpaaDoor
open Go.RowKit

/-- values, put into the places that operations have -/
def putV (vs : Nat → Value) : Nat → List (Option Tmp) → Act → Act
  | _, [], a => a
  | k, d :: ds, a => putV vs (k + 1) ds (a.put d (vs k))
theorem put_put (a : Act) (d : Option Tmp) (u v : Value) : (a.put d u).put d v = a.put d v := by
  cases d with
  | none => rfl
  | some d => simp [Act.put]
theorem putV_out (vs : Nat → Value) (v : Value) : ∀ (ds : List (Option Tmp)) (k : Nat) (a : Act) (d : Option Tmp), (∀ x, d = some x → some x ∉ ds) → (putV vs k ds a).put d v = putV vs k ds (a.put d v)
  | [], _, _, _, _ => rfl
  | d2 :: ds, k, a, d, h => by
    unfold putV
    rw [putV_out vs v ds (k + 1) _ d (fun x hx hm => h x hx (List.mem_cons_of_mem _ hm))]
    rw [Act.put_comm a (vs k) v (x := d2) (y := d) (fun x hx e => h x e (by rw [hx]; exact List.mem_cons_self))]
theorem putV_same (vs us : Nat → Value) : ∀ (ds : List (Option Tmp)) (k : Nat) (a : Act), (∀ j, k ≤ j → vs j = us j) → putV vs k ds a = putV us k ds a
  | [], _, _, _ => rfl
  | d :: ds, k, a, h => by
    unfold putV
    rw [h k (Nat.le_refl _)]
    exact putV_same vs us ds (k + 1) _ (fun j hj => h j (by omega))
/-- each place once -/
def onceD : List (Option Tmp) → Bool
  | [] => true
  | none :: ds => onceD ds
  | some d :: ds => !(ds.contains (some d)) && onceD ds
theorem putV_at (vs : Nat → Value) (v : Value) : ∀ (ds : List (Option Tmp)) (k i : Nat) (a : Act) (d : Option Tmp), onceD ds = true → ds[i]? = some d → (putV vs k ds a).put d v = putV (fun j => if j = k + i then v else vs j) k ds a
  | [], _, _, _, _, _, h => by simp at h
  | d2 :: ds, k, 0, a, d, ho, h => by
    simp at h
    subst h
    unfold putV
    have hno : ∀ x, d2 = some x → some x ∉ ds := by
      intro x hx hm
      subst hx
      unfold onceD at ho
      simp only [Bool.and_eq_true, Bool.not_eq_true'] at ho
      have := ho.1
      rw [List.contains_iff_mem.2 hm] at this
      cases this
    rw [putV_out _ _ _ _ _ _ hno, put_put]
    simp only [Nat.add_zero, if_true]
    exact putV_same _ _ _ _ _ (fun j hj => by rw [if_neg (by omega)])
  | d2 :: ds, k, i + 1, a, d, ho, h => by
    have ho' : onceD ds = true := by
      cases d2 with
      | none => exact ho
      | some x => unfold onceD at ho; simp only [Bool.and_eq_true] at ho; exact ho.2
    unfold putV
    rw [putV_at vs v ds (k + 1) i _ d ho' (by simpa using h)]
    simp only [show k ≠ k + (i + 1) by omega, if_false]
    exact putV_same _ _ _ _ _ (fun j _ => by rw [show k + 1 + i = k + (i + 1) by omega])
theorem put_own (a : Act) (d : Option Tmp) : a.put d (match d with | some d => a.tmps.getD d undef | none => undef) = a := by
  cases d with
  | none => rfl
  | some d =>
    obtain ⟨t, de⟩ := a
    simp only [Act.put, Act.mk.injEq, and_true]
    apply Array.ext
    · simp
    · intro i h1 h2
      rw [Array.getElem_setIfInBounds]
      split
      · subst_vars; simp [Array.getD, h2]
      · rfl
theorem putV_self (a : Act) : ∀ (ds : List (Option Tmp)) (k : Nat), ∃ vs, putV vs k ds a = a
  | [], _ => ⟨fun _ => undef, rfl⟩
  | d :: ds, k => by
    obtain ⟨vs, h⟩ := putV_self a ds (k + 1)
    refine ⟨fun j => if j = k then (match d with | some d => a.tmps.getD d undef | none => undef) else vs j, ?_⟩
    unfold putV
    simp only [if_true]
    rw [put_own, putV_same _ vs _ _ _ (fun j hj => by rw [if_neg (by omega)]), h]
/-- what a value is: told, or a new list of numbers -/
inductive Vk where
  | fix (u : Value)
  | ints (xs : List Int)
def Vk.ok : Vk → Value → World → Prop
  | .fix u, v, _ => v = u
  | .ints xs, v, w => ∃ A c, v = .slice A xs.length c ∧ Ints w w.heap.size A xs.length xs
theorem Vk.stay (k : Vk) (v : Value) (w1 w2 : World) (hb : Below w1.heap.size w1 w2) (h : k.ok v w1) : k.ok v w2 := by
  cases k with
  | fix u => exact h
  | ints xs =>
    obtain ⟨A, c, rfl, h⟩ := h
    exact ⟨A, c, rfl, (h.below hb).more hb.size⟩
def Vk.at (tab : List Vk) (i : Nat) (v : Value) (w : World) : Prop := match tab[i]? with | some k => k.ok v w | none => True
theorem Vk.at_stay (tab : List Vk) (i : Nat) (v : Value) (w1 w2 : World) (hb : Below w1.heap.size w1 w2) (h : Vk.at tab i v w1) : Vk.at tab i v w2 := by
  unfold Vk.at at *
  cases hk : tab[i]? with
  | none => trivial
  | some k => rw [hk] at h; exact k.stay v w1 w2 hb h
section
variable {P : Program} {Q : Exit → Act → World → Prop} {a : Act} {w : World} {l : List Oper}
/-- a region whose operations read, and call what lays new blocks at most: each value is as it is told, whichever come first -/
theorem wp_region_vals {id : Nat} (R : Nat → Value → World → Prop) (hm : P.follows .mixedOrders = true) (hup : upB l.toArray = true) (ho : onceD (l.map (·.dst)) = true)
    (hR : ∀ i v w1 w2, Below w1.heap.size w1 w2 → R i v w1 → R i v w2)
    (hstep : ∀ i o, l[i]? = some o → ∀ vs w', Below w.heap.size w w' → (∀ k, o.after.toList.any (fun e => Region.binds .any e && e.on == k) = true → R k (vs k) w') → ∀ K : Act → World → Prop, (∀ a'' v w'', a'' = (putV vs 0 (l.map (·.dst)) a).put o.dst v → Below w'.heap.size w' w'' → R i v w'' → K a'' w'') →
      if Region.wanted o (yielded l.toArray (putV vs 0 (l.map (·.dst)) a).tmps) = true then Oper.wp P o (putV vs 0 (l.map (·.dst)) a) w' K Q else K ((putV vs 0 (l.map (·.dst)) a).put o.dst undef) w')
    (hend : ∀ vs w', Below w.heap.size w w' → (∀ i, i < l.length → R i (vs i) w') → Q .normal (putV vs 0 (l.map (·.dst)) a) w') : (Code.region id l.toArray true).wp P Q a w := by
  refine wp_region_inv (fun a0 L a' w' => ∃ vs, a' = putV vs 0 (l.map (·.dst)) a0 ∧ Below w.heap.size w w' ∧ ∀ k, k < l.length → L.getD k false = true → R k (vs k) w') hm hup ?_ ?_ ?_
  · obtain ⟨vs, h⟩ := putV_self a (l.map (·.dst)) 0
    refine ⟨vs, h.symm, (Below.refl _ _).drew, fun k hk h1 => ?_⟩
    rw [show (Array.replicate l.toArray.size false).getD k false = false by unfold Array.getD; split <;> simp] at h1
    cases h1
  · rintro L a' w' ⟨vs, rfl, hb, hl⟩ hall
    exact hend vs w' hb (fun i hi => hl i hi (hall i (by simpa using hi)))
  · rintro L a' w' i ⟨vs, rfl, hb, hl⟩ hi
    obtain ⟨hun, o, ho1, _⟩ := mem_ready.1 hi
    have ho2 : l[i]? = some o := by simpa using ho1
    have hlt : i < l.length := (List.getElem?_eq_some_iff.1 ho2).1
    refine wpOp_of ho1 (fun K hK => hstep i o ho2 vs w' hb (fun k hk => ?_) K ?_)
    · have hon := ready_at hi ho1 k hk
      have hk2 : k < i := by
        have h1 := List.all_eq_true.1 hup i (List.mem_range.2 (by simpa using hlt))
        rw [ho1] at h1
        simp only at h1
        obtain ⟨e, he, hb2⟩ := List.any_eq_true.1 hk
        simp only [Bool.and_eq_true, beq_iff_eq] at hb2
        have h2 := Array.all_eq_true'.1 h1 e (Array.mem_toList_iff.1 he)
        rw [← hb2.2]
        simpa using h2
      exact hl k (by omega) hon
    · intro a'' v w'' e hb2 hr
      refine hK _ _ ⟨fun j => if j = 0 + i then v else vs j, ?_, hb.trans (hb2.mono hb.size), fun k hk h1 => ?_⟩
      · rw [e]
        exact putV_at vs v _ 0 i a o.dst ho (by rw [List.getElem?_map, ho2]; rfl)
      · by_cases hki : k = i
        · subst hki
          simp only [Nat.zero_add, if_true]
          exact hr
        · simp only [Nat.zero_add, hki, if_false]
          refine hR _ _ _ _ hb2 (hl k hk ?_)
          rwa [getD_set_ne false (Ne.symm hki)] at h1
end
end Go.Proofs.YtmnadieblhdcpaaDoor
/- A region of code that draws its order of evaluation, by what its values are, together with what lies in memory. Nothing is claimed of the program here. -/
namespace Go.Proofs.YtmnadieblhdcpaaDoor
open Go.RowKit

section
variable {P : Program} {Q : Exit → Act → World → Prop} {a : Act} {w : World} {l : List Oper}
/-- each operation waits for such ahead of it alone, where it waits in every mode -/
def upC (ops : Array Oper) : Bool := (List.range ops.size).all fun i => match ops[i]? with
  | some o => o.after.all fun e => !Region.binds .any e || decide (e.on < i)
  | none => true
theorem acyc_ofC {ops : Array Oper} (h : upC ops = true) (listed : Array Bool) (hr : Region.ready .any ops listed = []) : ∀ i, i < ops.size → listed.getD i true = true := by
  intro i
  induction i using Nat.strongRecOn with
  | _ i ih =>
    intro hi
    cases hl : listed.getD i true with
    | true => rfl
    | false =>
      exfalso
      obtain ⟨o, ho⟩ : ∃ o, ops[i]? = some o := ⟨_, Array.getElem?_eq_getElem hi⟩
      have h1 := List.all_eq_true.1 h i (List.mem_range.2 hi)
      rw [ho] at h1
      simp only at h1
      have hm : i ∈ Region.ready .any ops listed := by
        refine mem_ready.2 ⟨hl, o, ho, fun e he hbd => ?_⟩
        have h2 := Array.all_eq_true'.1 h1 e he
        have hlt : e.on < i := by
          rw [hbd] at h2
          simpa using h2
        have h3 := ih e.on hlt (by omega)
        have hs : i < listed.size := by
          rcases Nat.lt_or_ge i listed.size with h | h
          · exact h
          · simp [Array.getElem?_eq_none h] at hl
        have hs2 : e.on < listed.size := by omega
        simp [hs2] at h3 ⊢
        exact h3
      rw [hr] at hm
      cases hm
theorem wp_region_invC {id : Nat} (I : Act → Array Bool → Act → World → Prop) (hm : P.follows .mixedOrders = true) (hup : upC l.toArray = true)
    (h0 : I a (Array.replicate l.toArray.size false) a w.drew) (hend : ∀ listed a' w', I a listed a' w' → (∀ i, i < l.toArray.size → listed.getD i false = true) → Q .normal a' w')
    (hstep : ∀ listed a' w' i, I a listed a' w' → i ∈ Region.ready .any l.toArray listed → wpOp P l.toArray Q i (fun a'' w'' => I a (listed.setIfInBounds i true) a'' w'') a' w') : (Code.region id l.toArray true).wp P Q a w := by
  refine wp_region_any hm (wpAny_inv hend (fun listed hr => acyc_ofC hup listed hr) hstep _ _ _ _ (by simp) ?_ h0)
  unfold unlN
  exact Nat.le_trans List.countP_le_length (by simp)
/-- J D vs w: what holds of the values vs and the world, where D says which operations have come up -/
theorem wp_region_joint {id : Nat} (J : (Nat → Bool) → (Nat → Value) → World → Prop) (hm : P.follows .mixedOrders = true) (hup : upC l.toArray = true) (ho : onceD (l.map (·.dst)) = true)
    (h0 : ∀ D vs, (∀ i, i < l.length → D i = false) → J D vs w.drew)
    (hstep : ∀ i o, l[i]? = some o → ∀ D vs w', J D vs w' → D i = false → (∀ k, o.after.toList.any (fun e => Region.binds .any e && e.on == k) = true → D k = true) →
      ∀ K : Act → World → Prop, (∀ a'' v w'' D', a'' = (putV vs 0 (l.map (·.dst)) a).put o.dst v → (∀ j, j ≠ i → D' j = D j) → D' i = true → J D' (fun j => if j = i then v else vs j) w'' → K a'' w'') →
      if Region.wanted o (yielded l.toArray (putV vs 0 (l.map (·.dst)) a).tmps) = true then Oper.wp P o (putV vs 0 (l.map (·.dst)) a) w' K Q else K ((putV vs 0 (l.map (·.dst)) a).put o.dst undef) w')
    (hend : ∀ D vs w', J D vs w' → (∀ i, i < l.length → D i = true) → Q .normal (putV vs 0 (l.map (·.dst)) a) w')
    (hJ : ∀ D D' vs w', (∀ i, i < l.length → D i = D' i) → J D vs w' → J D' vs w') : (Code.region id l.toArray true).wp P Q a w := by
  refine wp_region_invC (fun a0 L a' w' => ∃ vs, a' = putV vs 0 (l.map (·.dst)) a0 ∧ J (fun k => L.getD k false) vs w' ∧ L.size = l.length) hm hup ?_ ?_ ?_
  · obtain ⟨vs, h⟩ := putV_self a (l.map (·.dst)) 0
    refine ⟨vs, h.symm, h0 _ vs fun i _ => ?_, by simp⟩
    show (Array.replicate l.toArray.size false).getD i false = false
    unfold Array.getD
    split <;> simp
  · rintro L a' w' ⟨vs, rfl, hj, _⟩ hall
    exact hend _ vs w' hj (fun i hi => hall i (by simpa using hi))
  · rintro L a' w' i ⟨vs, rfl, hj, hsz⟩ hi
    obtain ⟨hun, o, ho1, _⟩ := mem_ready.1 hi
    have ho2 : l[i]? = some o := by simpa using ho1
    have hlt : i < l.length := (List.getElem?_eq_some_iff.1 ho2).1
    have hD : L.getD i false = false := by
      have h2 : i < L.size := by omega
      simp [h2] at hun ⊢
      exact hun
    refine wpOp_of ho1 (fun K hK => hstep i o ho2 _ vs w' hj hD (fun k hk => ready_at hi ho1 k hk) K ?_)
    intro a'' v w'' D' e hD1 hD2 hr
    refine hK _ _ ⟨fun j => if j = 0 + i then v else vs j, ?_, ?_, by simp [hsz]⟩
    · rw [e]
      exact putV_at vs v _ 0 i a o.dst ho (by rw [List.getElem?_map, ho2]; rfl)
    · simp only [Nat.zero_add]
      refine hJ D' _ _ _ (fun j hj => ?_) hr
      by_cases hji : j = i
      · subst hji
        rw [hD2]
        have h2 : j < L.size := by omega
        simp [h2]
      · rw [hD1 j hji, getD_set_ne false (Ne.symm hji)]
end
end Go.Proofs.YtmnadieblhdcpaaDoor
