/- A token at the front of a text. -/
import Derived.Test.YtinjkakfnppjpaaDoorG2
import Derived.Lib.ItoaNum
namespace Go.Proofs.YtinjkakfnppjpaaDoor
open Go.RowKit

theorem mayT_text {t : Tk} (h : mayT t) (h4 : t.k ≠ 4) : t.s.size ≠ 0 := by
  intro h0
  unfold mayT tokF at h
  rw [if_pos h0] at h
  injection h with h
  exact h4 (by rw [← h])
/-- a text that begins with no letter and no digit -/
def offL (y : List UInt8) : Prop := y = [] ∨ ∃ c r, y = c :: r ∧ isLD c = false
theorem along_all {x y : List UInt8} (hx : ∀ c ∈ x, isLD c = true) (hy : offL y) : alongL (x ++ y) = x.length := by
  unfold alongL
  induction x with
  | nil =>
    rcases hy with rfl | ⟨c, r, rfl, hc⟩
    · rfl
    · simp [hc]
  | cons c x ih =>
    rw [List.cons_append, List.takeWhile_cons, if_pos (hx c (by simp)), List.length_cons, ih (fun d hd => hx d (by simp [hd])), List.length_cons]
theorem ld_of_along {x : List UInt8} (h : alongL x = x.length) : ∀ c ∈ x, isLD c = true := by
  unfold alongL at h
  induction x with
  | nil => simp
  | cons c x ih =>
    rw [List.takeWhile_cons] at h
    split at h
    · rename_i hc
      intro d hd
      rcases List.mem_cons.1 hd with rfl | hd
      · exact hc
      · exact ih (by simpa using h) d hd
    · simp at h
/-- a token's text, and what begins no letter or digit behind it -/
theorem token_front {t : Tk} (h : mayT t) (h4 : t.k ≠ 4) {y : List UInt8} (hy : offL y) : mF (bl t.s ++ y) = t.s.size ∧ ∃ c r, bl t.s = c :: r ∧ (kb c = 4 ∨ kb c = 5 ∨ kb c = 6) := by
  have h0 := mayT_text h h4
  have hl := bl_len t.s
  have hne : ∃ c r, bl t.s = c :: r := by
    cases e : bl t.s with
    | nil => rw [e] at hl; exact absurd hl.symm h0
    | cons c r => exact ⟨c, r, rfl⟩
  obtain ⟨c, r, ec⟩ := hne
  unfold mayT tokF at h
  rw [if_neg h0] at h
  split at h
  · rename_i hw
    unfold isWordL at hw
    rw [decide_eq_true_iff] at hw
    obtain ⟨_, ⟨c', e1, e2⟩, h3⟩ := hw
    refine ⟨?_, c, r, ec, ?_⟩
    · unfold mF
      rw [along_all (ld_of_along h3) hy, hl]
      omega
    · rw [ec] at e1
      simp at e1
      subst e1
      exact .inl e2
  · split at h
    · rename_i hw
      unfold isNumL at hw
      rw [decide_eq_true_iff] at hw
      obtain ⟨_, _, _, h3⟩ := hw
      have h5 : ∀ c ∈ bl t.s, kb c = 5 := fun c hc => by
        obtain ⟨j, hj, e⟩ := List.getElem_of_mem hc
        obtain ⟨d, e1, e2⟩ := h3 j hj
        rw [List.getElem?_eq_getElem hj, e] at e1
        injection e1 with e1
        rw [e1]; exact e2
      refine ⟨?_, c, r, ec, .inr (.inl (h5 c (by rw [ec]; simp)))⟩
      unfold mF
      rw [along_all (fun d hd => by unfold isLD; simp [h5 d hd]) hy, hl]
      omega
    · split at h
      · rename_i hw
        unfold isSignL at hw
        rw [decide_eq_true_iff] at hw
        obtain ⟨h1, c', e1, e2⟩ := hw
        rw [ec] at e1
        simp at e1
        subst e1
        refine ⟨?_, c, r, ec, .inr (.inr e2)⟩
        have hf : isLD c = false := by unfold isLD; simp [e2]
        rw [ec]
        unfold mF alongL
        simp [hf]
        omega
      · cases h
theorem passL_front {c : UInt8} {r : List UInt8} (h : kb c = 4 ∨ kb c = 5 ∨ kb c = 6) (e : Bool) : passL e false (c :: r) = (0, e) := by
  rw [passL, if_neg (by omega), if_neg (by omega), if_pos ⟨by omega, rfl⟩]
theorem cutQ_token {t : Tk} (h : mayT t) (h4 : t.k ≠ 4) {y : List UInt8} (hy : offL y) (e : Bool) (K : List Tk) : cutQ e (bl t.s ++ y) K = cutQ false y (withLine e K t) := by
  obtain ⟨hm, c, r, ec, hc⟩ := token_front h h4 hy
  have hp : passL e false (bl t.s ++ y) = (0, e) := by rw [ec]; exact passL_front hc e
  have hl := bl_len t.s
  have hne : bl t.s ++ y ≠ [] := by rw [ec]; simp
  have htk : tokF (ofL ((bl t.s ++ y).take (mF (bl t.s ++ y)))) = some t := by
    rw [hm, ← hl, List.take_left, ofL_bl]
    exact h
  rw [cutQ, hp]
  simp only [List.drop_zero]
  rw [cutE_next hne htk, hm, ← hl, List.drop_left]
end Go.Proofs.YtinjkakfnppjpaaDoor
/- A number's digits, and how they are cut: plain mathematics. -/
namespace Go.Proofs.YtinjkakfnppjpaaDoor
open Go.RowKit

theorem dig_byte : ∀ d, d < 10 → kb (UInt8.ofNat (48 + d)) = 5 ∧ (UInt8.ofNat (48 + d)).toNat = 48 + d := by decide
theorem dd_kb (u : Nat) : ∀ c ∈ Lib.decDigits u, kb c = 5 := by
  induction u using Nat.strongRecOn with
  | ind u ih =>
    rw [Lib.decDigits]
    split
    · rename_i h
      intro c hc
      rw [List.mem_singleton.1 hc]
      exact (dig_byte u h).1
    · intro c hc
      rw [List.mem_append, List.mem_singleton] at hc
      rcases hc with hc | rfl
      · exact ih (u / 10) (by omega) c hc
      · exact (dig_byte (u % 10) (by omega)).1
theorem dd_num (u : Nat) : numL (Lib.decDigits u) = u := by
  induction u using Nat.strongRecOn with
  | ind u ih =>
    rw [Lib.decDigits]
    split
    · rename_i h
      have := (dig_byte u h).2
      have e : numL [UInt8.ofNat (48 + u)] = 0 * 10 + (((UInt8.ofNat (48 + u)).toNat : Int) - 48) := rfl
      rw [e, this]
      omega
    · rw [numL_snoc, ih (u / 10) (by omega), (dig_byte (u % 10) (by omega)).2]
      omega
theorem dd_pos (u : Nat) : 1 ≤ (Lib.decDigits u).length := by
  rw [Lib.decDigits]
  split <;> simp
theorem dd_le : ∀ (k u : Nat), u < 10 ^ (k + 1) → (Lib.decDigits u).length ≤ k + 1
  | 0, u, h => by
    rw [Lib.decDigits, dif_pos (by simpa using h)]
    simp
  | k + 1, u, h => by
    rw [Lib.decDigits]
    split
    · simp
    · have := dd_le k (u / 10) (by rw [Nat.pow_succ] at h; omega)
      rw [List.length_append, List.length_singleton]
      omega
theorem dd_ge : ∀ (k u : Nat), 10 ^ k ≤ u → k + 1 ≤ (Lib.decDigits u).length
  | 0, u, _ => dd_pos u
  | k + 1, u, h => by
    have h10 : 10 ≤ u := by
      have : 1 ≤ 10 ^ k := Nat.one_le_pow _ _ (by decide)
      rw [Nat.pow_succ] at h
      omega
    rw [Lib.decDigits, dif_neg (by omega)]
    have := dd_ge k (u / 10) (by rw [Nat.pow_succ] at h; omega)
    rw [List.length_append, List.length_singleton]
    omega
theorem dd_head (u : Nat) (h : 1 ≤ u) : ∃ c r, Lib.decDigits u = c :: r ∧ c ≠ 48 := by
  induction u using Nat.strongRecOn with
  | ind u ih =>
    rw [Lib.decDigits]
    split
    · rename_i h10
      refine ⟨_, [], rfl, fun e => ?_⟩
      have := (dig_byte u h10).2
      rw [e] at this
      simp at this
      omega
    · obtain ⟨c, r, e, hc⟩ := ih (u / 10) (by omega) (by omega)
      exact ⟨c, r ++ [UInt8.ofNat (48 + u % 10)], by rw [e]; rfl, hc⟩
theorem dd_isNum (u : Nat) : isNumL (Lib.decDigits u) = decide (u < 1000000000000000000) := by
  have hkb := dd_kb u
  have hall : ∀ j < (Lib.decDigits u).length, ∃ c, (Lib.decDigits u)[j]? = some c ∧ kb c = 5 := fun j hj => ⟨_, List.getElem?_eq_getElem hj, hkb _ (List.getElem_mem hj)⟩
  unfold isNumL
  rw [decide_eq_decide]
  constructor
  · rintro ⟨_, h, _⟩
    apply Classical.byContradiction
    intro h2
    have := dd_ge 18 u (by omega)
    omega
  · intro h
    refine ⟨dd_pos u, dd_le 17 u (by omega), ?_, hall⟩
    rintro ⟨h1, h2⟩
    have hu : 1 ≤ u := by
      apply Classical.byContradiction
      intro h0
      have : u = 0 := by omega
      subst this
      rw [Lib.decDigits] at h1
      simp at h1
    obtain ⟨c, r, e, hc⟩ := dd_head u hu
    rw [e] at h2
    simp at h2
    exact hc h2
/-- digits, put together: they are no word -/
theorem digs_word {l : List UInt8} (h : ∀ c ∈ l, kb c = 5) : isWordL l = false := by
  unfold isWordL
  rw [decide_eq_false_iff_not]
  rintro ⟨_, ⟨c, e1, e2⟩, _⟩
  have := h c (List.mem_of_getElem? e1)
  omega
theorem digs_sign {l : List UInt8} (h : ∀ c ∈ l, kb c = 5) : isSignL l = false := by
  unfold isSignL
  rw [decide_eq_false_iff_not]
  rintro ⟨_, c, e1, e2⟩
  have := h c (List.mem_of_getElem? e1)
  omega
theorem digs_num {l : List UInt8} (h : isNumL l = true) : tokF (ofL l) = some ⟨2, ofL l, numL l⟩ := by
  have h0 : 0 < l.length := by
    unfold isNumL at h
    rw [decide_eq_true_iff] at h
    exact h.1
  have hk : ∀ c ∈ l, kb c = 5 := fun c hc => by
    unfold isNumL at h
    rw [decide_eq_true_iff] at h
    obtain ⟨j, hj, e⟩ := List.getElem_of_mem hc
    obtain ⟨d, e1, e2⟩ := h.2.2.2 j hj
    rw [List.getElem?_eq_getElem hj, e] at e1
    injection e1 with e1
    rw [e1]; exact e2
  unfold tokF
  rw [bl_ofL, if_neg (by rw [ofL_size]; omega), if_neg (by rw [digs_word hk]; decide), if_pos h]
/-- digits that are a number, behind others -/
theorem cutQ_digs {l : List UInt8} (h : isNumL l = true) (e : Bool) (K : List Tk) : cutQ e l K = .ok (withLine e K ⟨2, ofL l, numL l⟩) := by
  have ht : mayT ⟨2, ofL l, numL l⟩ := digs_num h
  have := cutQ_token ht (by simp) (y := []) (.inl rfl) e K
  simp only [bl_ofL, List.append_nil] at this
  rw [this]
  unfold cutQ
  rw [List.drop_nil, cutE_nil]
/-- digits that are none -/
theorem cutQ_none {l : List UInt8} (hk : ∀ c ∈ l, kb c = 5) (h0 : l ≠ []) (h : isNumL l = false) (e : Bool) (K : List Tk) : cutQ e l K = .error l.length := by
  obtain ⟨c, r, ec⟩ : ∃ c r, l = c :: r := by
    cases l with
    | nil => exact absurd rfl h0
    | cons c r => exact ⟨c, r, rfl⟩
  have hp : passL e false l = (0, e) := by rw [ec]; exact passL_front (.inr (.inl (hk c (by rw [ec]; simp)))) e
  have hal : alongL l = l.length := by
    have := along_all (x := l) (y := []) (fun d hd => by unfold isLD; simp [hk d hd]) (.inl rfl)
    rwa [List.append_nil] at this
  have hm : mF l = l.length := by
    have : 0 < l.length := List.length_pos_iff.2 h0
    unfold mF
    omega
  have hn : tokF (ofL (l.take (mF l))) = none := by
    rw [hm, List.take_length]
    unfold tokF
    rw [bl_ofL, if_neg (by rw [ofL_size]; intro h; exact h0 (List.eq_nil_of_length_eq_zero h)), if_neg (by rw [digs_word hk]; decide), if_neg (by rw [h]; decide), if_neg (by rw [digs_sign hk]; decide)]
  unfold cutQ
  rw [hp]
  simp only [List.drop_zero]
  rw [cutE_bad h0 hn]
def minusTk : Tk := ⟨3, ⟨#[45]⟩, 0⟩
set_option maxRecDepth 100000 in
theorem cutQ_minus (l : List UInt8) : cutQ false (45 :: l) [] = cutQ false l [minusTk] := by
  have hk : kb 45 = 6 := by decide
  have hl : isLD 45 = false := by decide
  have hp : passL false false (45 :: l) = (0, false) := passL_front (.inr (.inr hk)) false
  have hm : mF (45 :: l) = 1 := by
    unfold mF alongL
    simp [hl]
  have ht : tokF (ofL ((45 :: l).take (mF (45 :: l)))) = some minusTk := by
    rw [hm]
    show tokF (ofL [45]) = _
    kernel_rfl
  unfold cutQ
  rw [hp]
  simp only [List.drop_zero]
  rw [cutE_next (by simp) ht, hm]
  rfl
/-- what Cut gives of a number's digits -/
theorem cut_itoa_pos (u : Nat) (h : u < 1000000000000000000) : cutF (Lib.itoa (u : Int)) = ([⟨2, ofL (Lib.itoa (u : Int)), (u : Int)⟩], (((Lib.itoa (u : Int)).length : Nat) : Int), 0) := by
  have e : Lib.itoa (u : Int) = Lib.decDigits u := by unfold Lib.itoa; rw [if_neg (by omega)]; simp
  rw [e]
  have hl := dd_le 17 u (by omega)
  refine cutF_of_ok ?_ (by omega) (by simp)
  rw [cutG_eq, cutQ_digs (by rw [dd_isNum]; exact decide_eq_true h), dd_num]
  rfl
theorem cut_itoa_big (u : Nat) (h : ¬ u < 1000000000000000000) (hl : (Lib.decDigits u).length ≤ 60000) : cutF (Lib.itoa (u : Int)) = ([], 0, 6) := by
  have e : Lib.itoa (u : Int) = Lib.decDigits u := by unfold Lib.itoa; rw [if_neg (by omega)]; simp
  rw [e]
  have h1 := dd_pos u
  have : cutG (Lib.decDigits u) = .error (Lib.decDigits u).length := by
    rw [cutG_eq]
    exact cutQ_none (dd_kb u) (by intro h0; rw [h0] at h1; simp at h1) (by rw [dd_isNum]; exact decide_eq_false h) _ _
  rw [cutF_of_bad this (by omega), Nat.sub_self]
  rfl
theorem itoa_minus (u : Nat) (h : 1 ≤ u) : Lib.itoa (-(u : Int)) = 45 :: Lib.decDigits u := by
  unfold Lib.itoa
  rw [if_pos (by omega)]
  simp
theorem cut_itoa_neg (u : Nat) (h1 : 1 ≤ u) (h : u < 1000000000000000000) : cutF (Lib.itoa (-(u : Int))) = ([minusTk, ⟨2, ofL (Lib.decDigits u), (u : Int)⟩], (((Lib.itoa (-(u : Int))).length : Nat) : Int), 0) := by
  have hl := dd_le 17 u (by omega)
  rw [itoa_minus u h1]
  refine cutF_of_ok ?_ (by simp only [List.length_cons]; omega) (by simp)
  rw [cutG_eq, cutQ_minus, cutQ_digs (by rw [dd_isNum]; exact decide_eq_true h), dd_num]
  rfl
theorem cut_itoa_low (u : Nat) (h : ¬ u < 1000000000000000000) (hl : (Lib.decDigits u).length ≤ 60000) : cutF (Lib.itoa (-(u : Int))) = ([], 1, 6) := by
  have h1 := dd_pos u
  rw [itoa_minus u (by omega)]
  have : cutG (45 :: Lib.decDigits u) = .error (Lib.decDigits u).length := by
    rw [cutG_eq, cutQ_minus]
    exact cutQ_none (dd_kb u) (by intro h0; rw [h0] at h1; simp at h1) (by rw [dd_isNum]; exact decide_eq_false h) _ _
  rw [cutF_of_bad this (by simp only [List.length_cons]; omega), List.length_cons, Nat.add_sub_cancel_left]
  rfl
/-- two numbers' digits beside one another -/
theorem cut_two (u v : Nat) (h1 : 1 ≤ u) (h : (Lib.decDigits u).length + (Lib.decDigits v).length ≤ 18) : (cutF (Lib.decDigits u ++ Lib.decDigits v)).1 = [⟨2, ofL (Lib.decDigits u ++ Lib.decDigits v), numL (Lib.decDigits u ++ Lib.decDigits v)⟩] ∧ (cutF (Lib.decDigits u ++ Lib.decDigits v)).2.2 = 0 := by
  have hk : ∀ c ∈ Lib.decDigits u ++ Lib.decDigits v, kb c = 5 := fun c hc => by
    rcases List.mem_append.1 hc with hc | hc
    · exact dd_kb u c hc
    · exact dd_kb v c hc
  have hn : isNumL (Lib.decDigits u ++ Lib.decDigits v) = true := by
    unfold isNumL
    rw [decide_eq_true_iff, List.length_append]
    have := dd_pos u
    refine ⟨by omega, h, ?_, fun j hj => ⟨_, List.getElem?_eq_getElem (by rw [List.length_append]; exact hj), hk _ (List.getElem_mem _)⟩⟩
    rintro ⟨_, h2⟩
    obtain ⟨c, r, e, hc⟩ := dd_head u h1
    rw [e] at h2
    simp at h2
    exact hc h2
  have hg : cutG (Lib.decDigits u ++ Lib.decDigits v) = .ok [⟨2, ofL (Lib.decDigits u ++ Lib.decDigits v), numL (Lib.decDigits u ++ Lib.decDigits v)⟩] := by
    rw [cutG_eq, cutQ_digs hn]
    rfl
  rw [cutF_of_ok hg (by rw [List.length_append]; omega) (by simp)]
  exact ⟨rfl, rfl⟩
end Go.Proofs.YtinjkakfnppjpaaDoor
