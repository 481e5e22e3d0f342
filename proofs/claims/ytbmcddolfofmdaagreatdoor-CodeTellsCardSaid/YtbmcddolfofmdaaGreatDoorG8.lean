/- The tokens that Cut gives: each may be, and none is longer than what was cut. -/
import Derived.Test.YtbmcddolfofmdaaGreatDoorG7
import Derived.Lib.ItoaNum
import Derived.WalkLawsBesides
import Derived.Laws.StructEq
import Derived.BigQuiet
import Derived.BigFrame
import Derived.Deep.QuietTactic
import Derived.Shelf.Lay
import Derived.Shelf.Strings.Builder1
import Derived.Shelf.Strings.Builder2
import Derived.Shelf.Strings.OnBuilder
import Derived.Test.YtbmcddolfofmdaaGreatDoorProg
namespace Go.Proofs.YtbmcddolfofmdaaGreatDoor
open Go.RowKit

theorem numL_bound : ∀ (n : Nat) (l : List UInt8), l.length = n → (∀ c ∈ l, kb c = 5) → 0 ≤ numL l ∧ numL l < 10 ^ n := by
  intro n
  induction n with
  | zero =>
    intro l hl _
    obtain rfl := List.eq_nil_of_length_eq_zero hl
    exact ⟨by decide, by decide⟩
  | succ n ih =>
    intro l hl h
    rcases List.eq_nil_or_concat l with rfl | ⟨l, c, rfl⟩
    · simp at hl
    · rw [List.concat_eq_append] at hl h ⊢
      obtain ⟨a, b⟩ := ih l (by simpa using hl) (fun x hx => h x (by simp [hx]))
      have hc := dig_in (h c (by simp))
      rw [numL_snoc]
      exact ⟨by omega, ten_step b (by omega)⟩
theorem pow18 (k : Nat) (h : k ≤ 18) : (10 : Int) ^ k ≤ 1000000000000000000 := by
  have : ∀ k, k < 19 → (10 : Int) ^ k ≤ 1000000000000000000 := by decide
  exact this k (by omega)
theorem isNumL_bound {l : List UInt8} (h : isNumL l = true) : 0 ≤ numL l ∧ numL l < 1000000000000000000 := by
  unfold isNumL at h
  rw [decide_eq_true_iff] at h
  obtain ⟨h1, h2, _, h3⟩ := h
  have := numL_bound _ l rfl (fun c hc => by
    obtain ⟨j, hj, e⟩ := List.getElem_of_mem hc
    obtain ⟨d, e1, e2⟩ := h3 j hj
    rw [List.getElem?_eq_getElem hj, e] at e1
    injection e1 with e1
    rw [e1]; exact e2)
  have := pow18 l.length h2
  omega
/-- a token may be: it is the one whose text it has -/
def mayT (t : Tk) : Prop := tokF t.s = some t
theorem tokF_len {s : ByteArray} {t : Tk} (h : tokF s = some t) : s.size ≤ 18 := by
  unfold tokF at h
  split at h
  · omega
  · split at h
    · rename_i hw
      unfold isWordL at hw
      rw [decide_eq_true_iff, bl_len] at hw
      omega
    · split at h
      · rename_i hw
        unfold isNumL at hw
        rw [decide_eq_true_iff, bl_len] at hw
        omega
      · split at h
        · rename_i hw
          unfold isSignL at hw
          rw [decide_eq_true_iff, bl_len] at hw
          omega
        · cases h
theorem tokF_ok {s : ByteArray} {t : Tk} (h : tokF s = some t) : t.ok := by
  have hl := tokF_len h
  unfold tokF at h
  unfold Tk.ok
  split at h
  · injection h with h; subst h; exact ⟨by decide, by decide, by decide, by decide, by decide⟩
  · split at h
    · injection h with h; subst h; exact ⟨by simp only; omega, by simp only; omega, by simp only; omega, by simp only; omega, by unfold maxLen; simp only; omega⟩
    · split at h
      · rename_i hn
        have := isNumL_bound hn
        injection h with h; subst h; exact ⟨by simp only; omega, by simp only; omega, by simp only; omega, by simp only; omega, by unfold maxLen; simp only; omega⟩
      · split at h
        · injection h with h; subst h; exact ⟨by simp only; omega, by simp only; omega, by simp only; omega, by simp only; omega, by unfold maxLen; simp only; omega⟩
        · cases h
theorem mayT.ok {t : Tk} (h : mayT t) : t.ok := tokF_ok h
theorem line_may : mayT lineTk := by unfold mayT lineTk; rfl
theorem ofL_ne {r : List UInt8} (h : r ≠ []) : (ofL (r.take (mF r))).size ≠ 0 := by
  have := mF_pos r
  have := mF_le h
  rw [ofL_size, List.length_take]
  omega
/-- whatever holds of an end of a line, and of each token, holds of all that is cut -/
theorem cutE_all (P : Tk → Prop) (hl : P lineTk) (ht : ∀ s t, s.size ≠ 0 → tokF s = some t → P t) (n : Nat) : ∀ (r : List UInt8), r.length ≤ n → ∀ (e : Bool) (L M : List Tk), (∀ t ∈ L, P t) → cutE r e L = .ok M → ∀ t ∈ M, P t := by
  induction n with
  | zero =>
    intro r hr e L M hL h
    obtain rfl : r = [] := List.eq_nil_of_length_eq_zero (by omega)
    rw [cutE_nil] at h; injection h with h; subst h; exact hL
  | succ n ih =>
    intro r hr e L M hL h
    by_cases h0 : r = []
    · subst h0; rw [cutE_nil] at h; injection h with h; subst h; exact hL
    · have hm := mF_le h0
      have hm1 := mF_pos r
      cases hk : tokF (ofL (r.take (mF r))) with
      | none => rw [cutE_bad h0 hk] at h; cases h
      | some t =>
        rw [cutE_next h0 hk] at h
        refine ih _ (by rw [List.length_drop, List.length_drop]; omega) _ _ _ (fun x hx => ?_) h
        have hp := ht _ _ (ofL_ne h0) hk
        unfold withLine at hx
        split at hx
        · simp only [List.mem_append, List.mem_singleton] at hx
          rcases hx with (hx | rfl) | rfl
          · exact hL x hx
          · exact hl
          · exact hp
        · simp only [List.mem_append, List.mem_singleton] at hx
          rcases hx with hx | rfl
          · exact hL x hx
          · exact hp
theorem cutG_all (P : Tk → Prop) (hl : P lineTk) (ht : ∀ s t, s.size ≠ 0 → tokF s = some t → P t) {l : List UInt8} {M : List Tk} (h : cutG l = .ok M) : ∀ t ∈ M, P t :=
  cutE_all P hl ht _ _ (Nat.le_refl _) _ _ _ (by simp) h
theorem cutF_mem {l : List UInt8} : (cutF l).1 = [] ∨ cutG l = .ok (cutF l).1 := by
  unfold cutF
  split
  · exact .inl rfl
  · unfold cutH
    split
    · exact .inl rfl
    · split
      · exact .inl rfl
      · rename_i h _; exact .inr h
theorem cutF_may (l : List UInt8) : ∀ t ∈ (cutF l).1, mayT t := by
  rcases cutF_mem (l := l) with h | h
  · rw [h]; simp
  · exact cutG_all mayT line_may (fun s t hs h => by unfold mayT; rw [tokF_text hs h]; exact h) h
theorem cutF_ok (l : List UInt8) : ∀ t ∈ (cutF l).1, t.ok := fun t ht => (cutF_may l t ht).ok
theorem cutF_len (l : List UInt8) : (cutF l).1.length ≤ 4096 := by
  unfold cutF
  split
  · simp
  · unfold cutH
    split
    · simp
    · split
      · simp
      · simp only; omega
/-- a place that Cut tells -/
theorem cutF_at (l : List UInt8) : 0 ≤ (cutF l).2.1 ∧ (cutF l).2.1 ≤ l.length := by
  unfold cutF
  split
  · exact ⟨Int.le_refl _, by simp only; omega⟩
  · unfold cutH
    split
    · simp only; omega
    · split
      · simp only; omega
      · simp only; omega
theorem cutF_err (l : List UInt8) : (cutF l).2.2 = 0 ∨ (cutF l).2.2 = 2 ∨ (cutF l).2.2 = 6 := by
  unfold cutF
  split
  · simp
  · unfold cutH
    split
    · simp
    · split <;> simp
theorem cutF_bad {l : List UInt8} (h : (cutF l).2.2 = 6) : ∃ q, cutG l = .error q ∧ (cutF l).2.1 = ((l.length - q : Nat) : Int) ∧ l.length ≤ 65536 := by
  unfold cutF at h ⊢
  split at h
  · cases h
  · rename_i h1
    rw [if_neg h1]
    unfold cutH at h ⊢
    split at h
    · rename_i q hq
      exact ⟨q, hq, rfl, by omega⟩
    · split at h <;> cases h
theorem cutF_good {l : List UInt8} (h : (cutF l).2.2 = 0) : cutG l = .ok (cutF l).1 ∧ l.length ≤ 65536 ∧ (cutF l).2.1 = l.length := by
  unfold cutF at h ⊢
  split at h
  · cases h
  · rename_i h1
    rw [if_neg h1]
    unfold cutH at h ⊢
    split at h
    · cases h
    · rename_i L hL
      split at h
      · cases h
      · rename_i h4
        rw [hL]
        simp only [if_neg h4, and_true, true_and]
        omega
/-- what Cut gives of a text that is not too long -/
theorem cutF_of_ok {l : List UInt8} {L : List Tk} (h : cutG l = .ok L) (h1 : l.length ≤ 65536) (h2 : L.length ≤ 4096) : cutF l = (L, (l.length : Int), 0) := by
  unfold cutF
  rw [if_neg (by omega), h]
  unfold cutH
  simp only
  rw [if_neg (by omega)]
theorem cutF_of_bad {l : List UInt8} {q : Nat} (h : cutG l = .error q) (h1 : l.length ≤ 65536) : cutF l = ([], ((l.length - q : Nat) : Int), 6) := by
  unfold cutF
  rw [if_neg (by omega), h]
  rfl
end Go.Proofs.YtbmcddolfofmdaaGreatDoor
/- A token at the front of a text. -/
namespace Go.Proofs.YtbmcddolfofmdaaGreatDoor
open Go.RowKit

theorem mayT_text {t : Tk} (h : mayT t) (h4 : t.k ≠ 4) : t.s.size ≠ 0 := by
  intro h0
  unfold mayT tokF at h
  rw [if_pos h0] at h
  injection h with h
  exact h4 (by rw [← h])
/-- a text that begins with no letter and no digit -/
def offL (y : List UInt8) : Prop := y = [] ∨ ∃ c r, y = c :: r ∧ isLD c = false
theorem along_all {x y : List UInt8} (hx : ∀ c ∈ x, isLD c = true) (hy : offL y) : alongL (x ++ y) = x.length := by
  unfold alongL
  induction x with
  | nil =>
    rcases hy with rfl | ⟨c, r, rfl, hc⟩
    · rfl
    · simp [hc]
  | cons c x ih =>
    rw [List.cons_append, List.takeWhile_cons, if_pos (hx c (by simp)), List.length_cons, ih (fun d hd => hx d (by simp [hd])), List.length_cons]
theorem ld_of_along {x : List UInt8} (h : alongL x = x.length) : ∀ c ∈ x, isLD c = true := by
  unfold alongL at h
  induction x with
  | nil => simp
  | cons c x ih =>
    rw [List.takeWhile_cons] at h
    split at h
    · rename_i hc
      intro d hd
      rcases List.mem_cons.1 hd with rfl | hd
      · exact hc
      · exact ih (by simpa using h) d hd
    · simp at h
/-- a token's text, and what begins no letter or digit behind it -/
theorem token_front {t : Tk} (h : mayT t) (h4 : t.k ≠ 4) {y : List UInt8} (hy : offL y) : mF (bl t.s ++ y) = t.s.size ∧ ∃ c r, bl t.s = c :: r ∧ (kb c = 4 ∨ kb c = 5 ∨ kb c = 6) := by
  have h0 := mayT_text h h4
  have hl := bl_len t.s
  have hne : ∃ c r, bl t.s = c :: r := by
    cases e : bl t.s with
    | nil => rw [e] at hl; exact absurd hl.symm h0
    | cons c r => exact ⟨c, r, rfl⟩
  obtain ⟨c, r, ec⟩ := hne
  unfold mayT tokF at h
  rw [if_neg h0] at h
  split at h
  · rename_i hw
    unfold isWordL at hw
    rw [decide_eq_true_iff] at hw
    obtain ⟨_, ⟨c', e1, e2⟩, h3⟩ := hw
    refine ⟨?_, c, r, ec, ?_⟩
    · unfold mF
      rw [along_all (ld_of_along h3) hy, hl]
      omega
    · rw [ec] at e1
      simp at e1
      subst e1
      exact .inl e2
  · split at h
    · rename_i hw
      unfold isNumL at hw
      rw [decide_eq_true_iff] at hw
      obtain ⟨_, _, _, h3⟩ := hw
      have h5 : ∀ c ∈ bl t.s, kb c = 5 := fun c hc => by
        obtain ⟨j, hj, e⟩ := List.getElem_of_mem hc
        obtain ⟨d, e1, e2⟩ := h3 j hj
        rw [List.getElem?_eq_getElem hj, e] at e1
        injection e1 with e1
        rw [e1]; exact e2
      refine ⟨?_, c, r, ec, .inr (.inl (h5 c (by rw [ec]; simp)))⟩
      unfold mF
      rw [along_all (fun d hd => by unfold isLD; simp [h5 d hd]) hy, hl]
      omega
    · split at h
      · rename_i hw
        unfold isSignL at hw
        rw [decide_eq_true_iff] at hw
        obtain ⟨h1, c', e1, e2⟩ := hw
        rw [ec] at e1
        simp at e1
        subst e1
        refine ⟨?_, c, r, ec, .inr (.inr e2)⟩
        have hf : isLD c = false := by unfold isLD; simp [e2]
        rw [ec]
        unfold mF alongL
        simp [hf]
        omega
      · cases h
theorem passL_front {c : UInt8} {r : List UInt8} (h : kb c = 4 ∨ kb c = 5 ∨ kb c = 6) (e : Bool) : passL e false (c :: r) = (0, e) := by
  rw [passL, if_neg (by omega), if_neg (by omega), if_pos ⟨by omega, rfl⟩]
theorem cutQ_token {t : Tk} (h : mayT t) (h4 : t.k ≠ 4) {y : List UInt8} (hy : offL y) (e : Bool) (K : List Tk) : cutQ e (bl t.s ++ y) K = cutQ false y (withLine e K t) := by
  obtain ⟨hm, c, r, ec, hc⟩ := token_front h h4 hy
  have hp : passL e false (bl t.s ++ y) = (0, e) := by rw [ec]; exact passL_front hc e
  have hl := bl_len t.s
  have hne : bl t.s ++ y ≠ [] := by rw [ec]; simp
  have htk : tokF (ofL ((bl t.s ++ y).take (mF (bl t.s ++ y)))) = some t := by
    rw [hm, ← hl, List.take_left, ofL_bl]
    exact h
  rw [cutQ, hp]
  simp only [List.drop_zero]
  rw [cutE_next hne htk, hm, ← hl, List.drop_left]
end Go.Proofs.YtbmcddolfofmdaaGreatDoor
/- A number's digits, and how they are cut: plain mathematics. -/
namespace Go.Proofs.YtbmcddolfofmdaaGreatDoor
open Go.RowKit

theorem dig_byte : ∀ d, d < 10 → kb (UInt8.ofNat (48 + d)) = 5 ∧ (UInt8.ofNat (48 + d)).toNat = 48 + d := by decide
theorem dd_kb (u : Nat) : ∀ c ∈ Lib.decDigits u, kb c = 5 := by
  induction u using Nat.strongRecOn with
  | ind u ih =>
    rw [Lib.decDigits]
    split
    · rename_i h
      intro c hc
      rw [List.mem_singleton.1 hc]
      exact (dig_byte u h).1
    · intro c hc
      rw [List.mem_append, List.mem_singleton] at hc
      rcases hc with hc | rfl
      · exact ih (u / 10) (by omega) c hc
      · exact (dig_byte (u % 10) (by omega)).1
theorem dd_num (u : Nat) : numL (Lib.decDigits u) = u := by
  induction u using Nat.strongRecOn with
  | ind u ih =>
    rw [Lib.decDigits]
    split
    · rename_i h
      have := (dig_byte u h).2
      have e : numL [UInt8.ofNat (48 + u)] = 0 * 10 + (((UInt8.ofNat (48 + u)).toNat : Int) - 48) := rfl
      rw [e, this]
      omega
    · rw [numL_snoc, ih (u / 10) (by omega), (dig_byte (u % 10) (by omega)).2]
      omega
theorem dd_pos (u : Nat) : 1 ≤ (Lib.decDigits u).length := by
  rw [Lib.decDigits]
  split <;> simp
theorem dd_le : ∀ (k u : Nat), u < 10 ^ (k + 1) → (Lib.decDigits u).length ≤ k + 1
  | 0, u, h => by
    rw [Lib.decDigits, dif_pos (by simpa using h)]
    simp
  | k + 1, u, h => by
    rw [Lib.decDigits]
    split
    · simp
    · have := dd_le k (u / 10) (by rw [Nat.pow_succ] at h; omega)
      rw [List.length_append, List.length_singleton]
      omega
theorem dd_ge : ∀ (k u : Nat), 10 ^ k ≤ u → k + 1 ≤ (Lib.decDigits u).length
  | 0, u, _ => dd_pos u
  | k + 1, u, h => by
    have h10 : 10 ≤ u := by
      have : 1 ≤ 10 ^ k := Nat.one_le_pow _ _ (by decide)
      rw [Nat.pow_succ] at h
      omega
    rw [Lib.decDigits, dif_neg (by omega)]
    have := dd_ge k (u / 10) (by rw [Nat.pow_succ] at h; omega)
    rw [List.length_append, List.length_singleton]
    omega
theorem dd_head (u : Nat) (h : 1 ≤ u) : ∃ c r, Lib.decDigits u = c :: r ∧ c ≠ 48 := by
  induction u using Nat.strongRecOn with
  | ind u ih =>
    rw [Lib.decDigits]
    split
    · rename_i h10
      refine ⟨_, [], rfl, fun e => ?_⟩
      have := (dig_byte u h10).2
      rw [e] at this
      simp at this
      omega
    · obtain ⟨c, r, e, hc⟩ := ih (u / 10) (by omega) (by omega)
      exact ⟨c, r ++ [UInt8.ofNat (48 + u % 10)], by rw [e]; rfl, hc⟩
theorem dd_isNum (u : Nat) : isNumL (Lib.decDigits u) = decide (u < 1000000000000000000) := by
  have hkb := dd_kb u
  have hall : ∀ j < (Lib.decDigits u).length, ∃ c, (Lib.decDigits u)[j]? = some c ∧ kb c = 5 := fun j hj => ⟨_, List.getElem?_eq_getElem hj, hkb _ (List.getElem_mem hj)⟩
  unfold isNumL
  rw [decide_eq_decide]
  constructor
  · rintro ⟨_, h, _⟩
    apply Classical.byContradiction
    intro h2
    have := dd_ge 18 u (by omega)
    omega
  · intro h
    refine ⟨dd_pos u, dd_le 17 u (by omega), ?_, hall⟩
    rintro ⟨h1, h2⟩
    have hu : 1 ≤ u := by
      apply Classical.byContradiction
      intro h0
      have : u = 0 := by omega
      subst this
      rw [Lib.decDigits] at h1
      simp at h1
    obtain ⟨c, r, e, hc⟩ := dd_head u hu
    rw [e] at h2
    simp at h2
    exact hc h2
/-- digits, put together: they are no word -/
theorem digs_word {l : List UInt8} (h : ∀ c ∈ l, kb c = 5) : isWordL l = false := by
  unfold isWordL
  rw [decide_eq_false_iff_not]
  rintro ⟨_, ⟨c, e1, e2⟩, _⟩
  have := h c (List.mem_of_getElem? e1)
  omega
theorem digs_sign {l : List UInt8} (h : ∀ c ∈ l, kb c = 5) : isSignL l = false := by
  unfold isSignL
  rw [decide_eq_false_iff_not]
  rintro ⟨_, c, e1, e2⟩
  have := h c (List.mem_of_getElem? e1)
  omega
theorem digs_num {l : List UInt8} (h : isNumL l = true) : tokF (ofL l) = some ⟨2, ofL l, numL l⟩ := by
  have h0 : 0 < l.length := by
    unfold isNumL at h
    rw [decide_eq_true_iff] at h
    exact h.1
  have hk : ∀ c ∈ l, kb c = 5 := fun c hc => by
    unfold isNumL at h
    rw [decide_eq_true_iff] at h
    obtain ⟨j, hj, e⟩ := List.getElem_of_mem hc
    obtain ⟨d, e1, e2⟩ := h.2.2.2 j hj
    rw [List.getElem?_eq_getElem hj, e] at e1
    injection e1 with e1
    rw [e1]; exact e2
  unfold tokF
  rw [bl_ofL, if_neg (by rw [ofL_size]; omega), if_neg (by rw [digs_word hk]; decide), if_pos h]
/-- digits that are a number, behind others -/
theorem cutQ_digs {l : List UInt8} (h : isNumL l = true) (e : Bool) (K : List Tk) : cutQ e l K = .ok (withLine e K ⟨2, ofL l, numL l⟩) := by
  have ht : mayT ⟨2, ofL l, numL l⟩ := digs_num h
  have := cutQ_token ht (by simp) (y := []) (.inl rfl) e K
  simp only [bl_ofL, List.append_nil] at this
  rw [this]
  unfold cutQ
  rw [List.drop_nil, cutE_nil]
/-- digits that are none -/
theorem cutQ_none {l : List UInt8} (hk : ∀ c ∈ l, kb c = 5) (h0 : l ≠ []) (h : isNumL l = false) (e : Bool) (K : List Tk) : cutQ e l K = .error l.length := by
  obtain ⟨c, r, ec⟩ : ∃ c r, l = c :: r := by
    cases l with
    | nil => exact absurd rfl h0
    | cons c r => exact ⟨c, r, rfl⟩
  have hp : passL e false l = (0, e) := by rw [ec]; exact passL_front (.inr (.inl (hk c (by rw [ec]; simp)))) e
  have hal : alongL l = l.length := by
    have := along_all (x := l) (y := []) (fun d hd => by unfold isLD; simp [hk d hd]) (.inl rfl)
    rwa [List.append_nil] at this
  have hm : mF l = l.length := by
    have : 0 < l.length := List.length_pos_iff.2 h0
    unfold mF
    omega
  have hn : tokF (ofL (l.take (mF l))) = none := by
    rw [hm, List.take_length]
    unfold tokF
    rw [bl_ofL, if_neg (by rw [ofL_size]; intro h; exact h0 (List.eq_nil_of_length_eq_zero h)), if_neg (by rw [digs_word hk]; decide), if_neg (by rw [h]; decide), if_neg (by rw [digs_sign hk]; decide)]
  unfold cutQ
  rw [hp]
  simp only [List.drop_zero]
  rw [cutE_bad h0 hn]
def minusTk : Tk := ⟨3, ⟨#[45]⟩, 0⟩
set_option maxRecDepth 100000 in
theorem cutQ_minus (l : List UInt8) : cutQ false (45 :: l) [] = cutQ false l [minusTk] := by
  have hk : kb 45 = 6 := by decide
  have hl : isLD 45 = false := by decide
  have hp : passL false false (45 :: l) = (0, false) := passL_front (.inr (.inr hk)) false
  have hm : mF (45 :: l) = 1 := by
    unfold mF alongL
    simp [hl]
  have ht : tokF (ofL ((45 :: l).take (mF (45 :: l)))) = some minusTk := by
    rw [hm]
    show tokF (ofL [45]) = _
    kernel_rfl
  unfold cutQ
  rw [hp]
  simp only [List.drop_zero]
  rw [cutE_next (by simp) ht, hm]
  rfl
/-- what Cut gives of a number's digits -/
theorem cut_itoa_pos (u : Nat) (h : u < 1000000000000000000) : cutF (Lib.itoa (u : Int)) = ([⟨2, ofL (Lib.itoa (u : Int)), (u : Int)⟩], (((Lib.itoa (u : Int)).length : Nat) : Int), 0) := by
  have e : Lib.itoa (u : Int) = Lib.decDigits u := by unfold Lib.itoa; rw [if_neg (by omega)]; simp
  rw [e]
  have hl := dd_le 17 u (by omega)
  refine cutF_of_ok ?_ (by omega) (by simp)
  rw [cutG_eq, cutQ_digs (by rw [dd_isNum]; exact decide_eq_true h), dd_num]
  rfl
theorem cut_itoa_big (u : Nat) (h : ¬ u < 1000000000000000000) (hl : (Lib.decDigits u).length ≤ 60000) : cutF (Lib.itoa (u : Int)) = ([], 0, 6) := by
  have e : Lib.itoa (u : Int) = Lib.decDigits u := by unfold Lib.itoa; rw [if_neg (by omega)]; simp
  rw [e]
  have h1 := dd_pos u
  have : cutG (Lib.decDigits u) = .error (Lib.decDigits u).length := by
    rw [cutG_eq]
    exact cutQ_none (dd_kb u) (by intro h0; rw [h0] at h1; simp at h1) (by rw [dd_isNum]; exact decide_eq_false h) _ _
  rw [cutF_of_bad this (by omega), Nat.sub_self]
  rfl
theorem itoa_minus (u : Nat) (h : 1 ≤ u) : Lib.itoa (-(u : Int)) = 45 :: Lib.decDigits u := by
  unfold Lib.itoa
  rw [if_pos (by omega)]
  simp
theorem cut_itoa_neg (u : Nat) (h1 : 1 ≤ u) (h : u < 1000000000000000000) : cutF (Lib.itoa (-(u : Int))) = ([minusTk, ⟨2, ofL (Lib.decDigits u), (u : Int)⟩], (((Lib.itoa (-(u : Int))).length : Nat) : Int), 0) := by
  have hl := dd_le 17 u (by omega)
  rw [itoa_minus u h1]
  refine cutF_of_ok ?_ (by simp only [List.length_cons]; omega) (by simp)
  rw [cutG_eq, cutQ_minus, cutQ_digs (by rw [dd_isNum]; exact decide_eq_true h), dd_num]
  rfl
theorem cut_itoa_low (u : Nat) (h : ¬ u < 1000000000000000000) (hl : (Lib.decDigits u).length ≤ 60000) : cutF (Lib.itoa (-(u : Int))) = ([], 1, 6) := by
  have h1 := dd_pos u
  rw [itoa_minus u (by omega)]
  have : cutG (45 :: Lib.decDigits u) = .error (Lib.decDigits u).length := by
    rw [cutG_eq, cutQ_minus]
    exact cutQ_none (dd_kb u) (by intro h0; rw [h0] at h1; simp at h1) (by rw [dd_isNum]; exact decide_eq_false h) _ _
  rw [cutF_of_bad this (by simp only [List.length_cons]; omega), List.length_cons, Nat.add_sub_cancel_left]
  rfl
/-- two numbers' digits beside one another -/
theorem cut_twoD (u v : Nat) (h1 : 1 ≤ u) (h : (Lib.decDigits u).length + (Lib.decDigits v).length ≤ 18) : (cutF (Lib.decDigits u ++ Lib.decDigits v)).1 = [⟨2, ofL (Lib.decDigits u ++ Lib.decDigits v), numL (Lib.decDigits u ++ Lib.decDigits v)⟩] ∧ (cutF (Lib.decDigits u ++ Lib.decDigits v)).2.2 = 0 := by
  have hk : ∀ c ∈ Lib.decDigits u ++ Lib.decDigits v, kb c = 5 := fun c hc => by
    rcases List.mem_append.1 hc with hc | hc
    · exact dd_kb u c hc
    · exact dd_kb v c hc
  have hn : isNumL (Lib.decDigits u ++ Lib.decDigits v) = true := by
    unfold isNumL
    rw [decide_eq_true_iff, List.length_append]
    have := dd_pos u
    refine ⟨by omega, h, ?_, fun j hj => ⟨_, List.getElem?_eq_getElem (by rw [List.length_append]; exact hj), hk _ (List.getElem_mem _)⟩⟩
    rintro ⟨_, h2⟩
    obtain ⟨c, r, e, hc⟩ := dd_head u h1
    rw [e] at h2
    simp at h2
    exact hc h2
  have hg : cutG (Lib.decDigits u ++ Lib.decDigits v) = .ok [⟨2, ofL (Lib.decDigits u ++ Lib.decDigits v), numL (Lib.decDigits u ++ Lib.decDigits v)⟩] := by
    rw [cutG_eq, cutQ_digs hn]
    rfl
  rw [cutF_of_ok hg (by rw [List.length_append]; omega) (by simp)]
  exact ⟨rfl, rfl⟩
end Go.Proofs.YtbmcddolfofmdaaGreatDoor
/- lexer.Cut: a text's tokens, or where there is none. -/
namespace Go.Proofs.YtbmcddolfofmdaaGreatDoor
open Go.RowKit

/-- tokens of the call's own, a place and an error -/
def CutP (w : World) (L : List Tk) (N E : Int) (e : Ending) (w' : World) : Prop :=
  ∃ A n c, e = .returned (.tuple #[.slice A n c, .int .i64 N, .int .i64 E]) ∧ L.length = n ∧ OwnT w' w.heap.size A c L ∧ Below w.heap.size w w'
theorem ltK {w w2 : World} {base c : Nat} {A : Option Addr} {L : List Tk} (h : OwnT w base A c L) (hs : w.heap.size ≤ w2.heap.size) : ∀ g, A = some ⟨g, 0, none⟩ → g < w2.heap.size := by
  intro g e
  subst e
  have := h.lt.2
  omega
/-- a box of one token stays, over one token more -/
theorem boxK {W w4 : World} {base c n g : Nat} {A : Option Addr} {L : List Tk} {t : Tk} (hb : W.heap[g]? = some (.cells #[.int .i64 t.k, .string t.s, .int .i64 t.n] 49 (0, 0))) (hG : W.grownBy w4 (Value.slice A n c).ownBlock) (hO : OwnT W base A c L) (hA : A ≠ some ⟨g, 0, none⟩) : w4.heap[g]? = some (.cells #[.int .i64 t.k, .string t.s, .int .i64 t.n] 49 (0, 0)) :=
  block_keptT hb (fun g' e e2 => hA (by rw [e, e2])) hG hO
theorem notBox {w : World} {base c g : Nat} {A : Option Addr} {L : List Tk} {t : Tk} (hb : w.heap[g]? = some (.cells #[.int .i64 t.k, .string t.s, .int .i64 t.n] 49 (0, 0))) (hO : OwnT w base A c L) (h2 : 2 ≤ L.length) : A ≠ some ⟨g, 0, none⟩ := by
  intro e
  obtain ⟨g', e', _, _, h, _⟩ := hO.rows 1 _ (List.getElem?_eq_getElem h2)
  rw [e] at e'
  injection e' with e'; injection e' with e'
  subst e'
  rw [cell_of_row _ _ _ _ _ _ hb] at h
  simp at h
theorem boxCells {w : World} {g : Nat} {t : Tk} (hb : w.heap[g]? = some (.cells #[.int .i64 t.k, .string t.s, .int .i64 t.n] 49 (0, 0))) : w.cell? ⟨g, 0, none⟩ = some (.int .i64 t.k) ∧ w.cell? ⟨g, 1, none⟩ = some (.string t.s) ∧ w.cell? ⟨g, 2, none⟩ = some (.int .i64 t.n) :=
  ⟨cell_of_row _ _ 0 _ _ _ hb, cell_of_row _ _ 1 _ _ _ hb, cell_of_row _ _ 2 _ _ _ hb⟩
theorem box_new (w : World) (t : Tk) : (w.alloc (.cells #[.int .i64 t.k, .string t.s, .int .i64 t.n] 49)).heap[w.heap.size]? = some (.cells #[.int .i64 t.k, .string t.s, .int .i64 t.n] 49 (0, 0)) := by
  show (w.heap.push _)[w.heap.size]? = _
  rw [Array.getElem?_push_size]
set_option maxRecDepth 100000 in
set_option maxHeartbeats 8000000 in
theorem cut_any (s : ByteArray) (w : World) (hs : s.size ≤ maxLen) : Calls Tryz.prog 39 #[.string s] w (CutP w (cutF (bl s)).1 (cutF (bl s)).2.1 (cutF (bl s)).2.2) := by
  by_cases h6 : 65536 < s.size
  · have hE : cutF (bl s) = ([], 0, 2) := by unfold cutF; rw [bl_len, if_pos h6]
    rw [hE]
    clear hE
    unfold maxLen at hs
    go_enter Tryz.func39, Tryz.ntmps39
    go_wp2
    exact bodyPost_ret (v := .tuple #[.slice none 0 0, .int .i64 0, .int .i64 2]) (by simp [results, Tryz.results39, go_sem]) rfl ⟨none, 0, 0, rfl, rfl, OwnT.nil_ _ _, Below.refl _ _⟩
  · have hsz : s.size ≤ 65536 := by omega
    obtain ⟨R, HR⟩ : ∃ R, Hid (cutG (bl s) = R) := ⟨_, Lib.hid rfl⟩
    have HE : Hid (cutF (bl s) = cutH s.size R) := by
      unfold Hid cutF
      rw [bl_len, if_neg h6, HR.out]
    have cP := fun w => pass_any s 0 w (by omega) (by omega) _ _ (Lib.hid (passAt_fst (bl s) 0))
    obtain ⟨p0, hp0⟩ : ∃ p, 0 + (passL false false ((bl s).drop 0)).1 = p := ⟨_, rfl⟩
    obtain ⟨e0, he0⟩ : ∃ e, (passL false false ((bl s).drop 0)).2 = e := ⟨_, rfl⟩
    rw [hp0, he0] at cP
    have hp0l : p0 ≤ s.size := by
      have := passL_le ((bl s).drop 0) false false
      rw [List.length_drop, bl_len] at this
      omega
    have HI0 : Hid (cutE ((bl s).drop p0) e0 [] = R) := by
      unfold Hid
      rw [← HR.out, ← hp0, ← he0, List.drop_zero, Nat.zero_add]
      rfl
    clear hp0 he0 hs HR h6
    go_enter Tryz.func39, Tryz.ntmps39
    go_wp2_with (go_at_call 55; refine (cP _).mono ?_; rintro e w1 ⟨rfl, rfl⟩)
    go_loopw [5, 6, 7] (fun o a x wr => ∃ (L : List Tk) (A : Option Addr) (n c k : Nat) (e : Bool), o = .slice A n c ∧ a = .int .i64 k ∧ x = .bool e ∧ k ≤ s.size ∧ Hid (L.length = n) ∧ Hid (OwnT wr w.heap.size A c L) ∧ Hid (Below w.heap.size w wr) ∧ Hid (cutE ((bl s).drop k) e L = R) ∧ n ≤ 2 * k) (fun _ a _ _ => s.size - (intOf a).toNat)
    case atStart => exact ⟨[], none, 0, 0, p0, e0, rfl, rfl, rfl, hp0l, rfl, OwnT.nil_ _ _, Below.refl _ _, HI0, by omega⟩
    case round =>
      obtain ⟨L, A, n, c, k, e, rfl, rfl, rfl, hk, HL, HO, HB, HC, hn⟩ := hrel
      have hsz0 := HB.out.size
      by_cases hlt : k < s.size
      · have hr : (bl s).drop k ≠ [] := by
          intro h
          have := congrArg List.length h
          rw [List.length_drop, bl_len] at this
          simp at this
          omega
        obtain ⟨m, hm⟩ : ∃ m, mF ((bl s).drop k) = m := ⟨_, rfl⟩
        have hm1 : 1 ≤ m := by rw [← hm]; exact mF_pos _
        have hm2 : k + m ≤ s.size := by
          have := mF_le hr
          rw [hm, List.length_drop, bl_len] at this
          omega
        obtain ⟨v, hv⟩ : ∃ v, ofL (((bl s).drop k).take m) = v := ⟨_, rfl⟩
        have hvs : v.size = m := by rw [← hv, ofL_size, List.length_take, List.length_drop, bl_len]; omega
        have ex : s.extract k s.size = ofL ((bl s).drop k) := by
          rw [extract_ofL, List.take_of_length_le]
          rw [List.length_drop, bl_len]
          omega
        have cF : ∀ W, Calls Tryz.prog 57 #[.string (s.extract k s.size)] W fun e w' => e = .returned (.string v) ∧ W = w' := by
          intro W
          have h := front_any (s.extract k s.size) W (by rw [ex, ofL_size, List.length_drop, bl_len]; unfold maxLen; omega) (by rw [ex, ofL_size, List.length_drop, bl_len]; omega)
          rw [ex, bl_ofL, extract_ofL, bl_ofL, List.drop_zero, Nat.sub_zero] at h
          rw [ex, ← hv, ← hm]
          exact h
        have cT := fun W => token_any v W (by unfold maxLen; omega)
        have hvs1 : v.size ≠ 0 := by omega
        have c0 : (0 : Int) ≤ (k : Int) := by omega
        have c1 : (k : Int) ≤ (s.size : Int) := by omega
        cases ht : tokF v with
        | none =>
          rw [ht] at cT
          change ∀ W, Calls Tryz.prog 56 #[.string v] W fun e w' => e = .returned (.tuple #[.agg #[.int .i64 0, .string ⟨#[]⟩, .int .i64 0], .bool false]) ∧ Below W.heap.size W w' at cT
          have HQ : Hid (cutF (bl s) = ([], (k : Int), 6)) := by
            have h := HC.out
            rw [cutE_bad hr (by rw [hm, hv]; exact ht), List.length_drop, bl_len] at h
            unfold Hid
            rw [HE.out, ← h]
            show (([], ((s.size - (s.size - k) : Nat) : Int), 6) : List Tk × Int × Int) = _
            rw [show s.size - (s.size - k) = k by omega]
          clear ht hv hm ex hr HC HE HI0 cP
          go_wp2_with (first | (go_at_call 57; refine (cF _).mono ?_; rintro e w1 ⟨rfl, rfl⟩) | (go_at_call 56; refine (cT _).mono ?_; rintro e w2 ⟨rfl, hb2⟩))
          rw [HQ.out]
          exact bodyPost_ret (v := .tuple #[.slice none 0 0, .int .i64 k, .int .i64 6]) (by simp [results, Tryz.results39, go_sem]) rfl ⟨none, 0, 0, rfl, rfl, OwnT.nil_ _ _, (HB.out.trans (hb2.mono hsz0)).alloc (Nat.le_trans hsz0 hb2.size) _⟩
        | some t =>
          obtain ⟨a, v', nn⟩ := t
          have hvv := tokF_text hvs1 ht
          simp only at hvv
          subst hvv
          rw [ht] at cT
          change ∀ W, Calls Tryz.prog 56 #[.string v'] W fun e w' => e = .returned (.tuple #[.agg #[.int .i64 a, .string v', .int .i64 nn], .bool true]) ∧ Below W.heap.size W w' at cT
          have HHT := Lib.hid ht
          have HVM : Hid (v'.size = m) := hvs
          have hl1 : n + 1 ≤ 1000000 := by omega
          have hvb : k + v'.size ≤ s.size := by omega
          have hv1 : 1 ≤ v'.size := by omega
          have HC2 : ∀ L', withLine e L ⟨a, v', nn⟩ = L' → Hid (cutE (((bl s).drop (k + v'.size)).drop (passL false false ((bl s).drop (k + v'.size))).1) (passL false false ((bl s).drop (k + v'.size))).2 L' = R) := by
            intro L' e'
            have h := HC.out
            rw [cutE_on hr (by rw [hm, hv]; exact ht), hm, e'] at h
            unfold Hid
            rw [hvs]
            simp only [List.drop_drop] at h ⊢
            exact h
          have cP2 := fun W => pass_any s (k + v'.size) W (by omega) hvb _ _ (Lib.hid (passAt_fst (bl s) (k + v'.size)))
          have hple := passL_le ((bl s).drop (k + v'.size)) false false
          rw [List.length_drop, bl_len] at hple
          generalize hP1 : (passL false false ((bl s).drop (k + v'.size))).1 = P1 at HC2 cP2 hple
          generalize hE1 : (passL false false ((bl s).drop (k + v'.size))).2 = E1 at HC2 cP2
          simp only [Int.natCast_add, List.drop_drop] at cP2 HC2
          clear ht hv hm ex hr HC HE HI0 cP hvs hP1 hE1 hm2
          cases e with
          | false =>
            have HCN := HC2 (L ++ [⟨a, v', nn⟩]) (by unfold withLine; rw [if_neg (by simp)])
            clear HC2
            go_wp2_with (first | (go_at_call 57; refine (cF _).mono ?_; rintro e w1 ⟨rfl, rfl⟩) | (go_at_call 56; refine (cT _).mono ?_; rintro e w2 ⟨rfl, hb2⟩; have HO2 := Lib.hid ((HO.out.below hb2 (Nat.le_refl _)).alloc (.cells #[.int .i64 a, .string v', .int .i64 nn] 49)); have HB2 := Lib.hid ((HB.out.trans (hb2.mono hsz0)).alloc (Nat.le_trans hsz0 hb2.size) (.cells #[.int .i64 a, .string v', .int .i64 nn] 49)); have hsz2 := hb2.size; have HA2 := Lib.hid (ltK HO.out hb2.size); have HX2 := Lib.hid (box_new w2 ⟨a, v', nn⟩)) | (go_at_call 55; refine (cP2 _).mono ?_; rintro e w6 ⟨rfl, rfl⟩) | (at_builtin; refine wpList_appendTok rfl (.tmp 43) (.tmp 45) rfl w.heap.size A c n (n + 1) (w2.heap.size + 1) ⟨a, v', nn⟩ L (Array.size_push _) rfl rfl HO2.out HL.out rfl hl1 HB2.out.size ?_; intro A4 c4 w4 HO4 HG4; have HX4 := Lib.hid (boxK (t := ⟨a, v', nn⟩) HX2.out HG4 HO2.out (fun e => absurd (HA2.out _ e) (Nat.lt_irrefl _))); obtain ⟨_, hx4, _⟩ := boxCells (t := ⟨a, v', nn⟩) HX4.out; have hsz4 := HG4.size))
            refine ⟨⟨L ++ [⟨a, v', nn⟩], A4, n + 1, c4, k + v'.size + P1, E1, rfl, congrArg (Value.int .i64) (by omega), rfl, by omega, Lib.hid (by rw [List.length_append, HL.out]; rfl), Lib.hid HO4, Lib.hid (below_appT HB2.out HG4 HO2.out HB2.out.size), HCN, by omega⟩, by simp [intOf]; omega⟩
          | true =>
            by_cases hn0 : n = 0
            · subst hn0
              have HCN := HC2 (L ++ [⟨a, v', nn⟩]) (by unfold withLine; rw [if_neg (fun h => h.2 (List.eq_nil_of_length_eq_zero HL.out))])
              clear HC2
              go_wp2_with (first | (go_at_call 57; refine (cF _).mono ?_; rintro e w1 ⟨rfl, rfl⟩) | (go_at_call 56; refine (cT _).mono ?_; rintro e w2 ⟨rfl, hb2⟩; have HO2 := Lib.hid ((HO.out.below hb2 (Nat.le_refl _)).alloc (.cells #[.int .i64 a, .string v', .int .i64 nn] 49)); have HB2 := Lib.hid ((HB.out.trans (hb2.mono hsz0)).alloc (Nat.le_trans hsz0 hb2.size) (.cells #[.int .i64 a, .string v', .int .i64 nn] 49)); have hsz2 := hb2.size; have HA2 := Lib.hid (ltK HO.out hb2.size); have HX2 := Lib.hid (box_new w2 ⟨a, v', nn⟩)) | (go_at_call 55; refine (cP2 _).mono ?_; rintro e w6 ⟨rfl, rfl⟩) | (at_builtin; refine wpList_appendTok rfl (.tmp 43) (.tmp 45) rfl w.heap.size A c 0 (0 + 1) (w2.heap.size + 1) ⟨a, v', nn⟩ L (Array.size_push _) rfl rfl HO2.out HL.out rfl hl1 HB2.out.size ?_; intro A4 c4 w4 HO4 HG4; have HX4 := Lib.hid (boxK (t := ⟨a, v', nn⟩) HX2.out HG4 HO2.out (fun e => absurd (HA2.out _ e) (Nat.lt_irrefl _))); obtain ⟨_, hx4, _⟩ := boxCells (t := ⟨a, v', nn⟩) HX4.out; have hsz4 := HG4.size))
              refine ⟨⟨L ++ [⟨a, v', nn⟩], A4, 0 + 1, c4, k + v'.size + P1, E1, rfl, congrArg (Value.int .i64) (by omega), rfl, by omega, Lib.hid (by rw [List.length_append, HL.out]; rfl), Lib.hid HO4, Lib.hid (below_appT HB2.out HG4 HO2.out HB2.out.size), HCN, by omega⟩, by simp [intOf]; omega⟩
            · have HCN := HC2 (L ++ [lineTk] ++ [⟨a, v', nn⟩]) (by unfold withLine; rw [if_pos ⟨rfl, fun h => hn0 (by rw [← HL.out, h]; rfl)⟩])
              have hnp : 0 < n := by omega
              have hl2 : n + 1 + 1 ≤ 1000000 := by omega
              clear HC2 hn0
              go_wp2_with (first | (go_at_call 57; refine (cF _).mono ?_; rintro e w1 ⟨rfl, rfl⟩) | (go_at_call 56; refine (cT _).mono ?_; rintro e w2 ⟨rfl, hb2⟩; have HO2 := Lib.hid ((HO.out.below hb2 (Nat.le_refl _)).alloc (.cells #[.int .i64 a, .string v', .int .i64 nn] 49)); have HB2 := Lib.hid ((HB.out.trans (hb2.mono hsz0)).alloc (Nat.le_trans hsz0 hb2.size) (.cells #[.int .i64 a, .string v', .int .i64 nn] 49)); have hsz2 := hb2.size; have HA2 := Lib.hid (ltK HO.out hb2.size); have HX2 := Lib.hid (box_new w2 ⟨a, v', nn⟩)) | (go_at_call 55; refine (cP2 _).mono ?_; rintro e w6 ⟨rfl, rfl⟩) | (at_builtin; refine wpList_appendTok rfl (.tmp 39) (.tmp 41) rfl w.heap.size A c n (n + 1) (w2.heap.size + 1) lineTk L (Array.size_push _) rfl rfl HO2.out HL.out rfl hl1 HB2.out.size ?_; intro A4 c4 w4 HO4 HG4; have HX4 := Lib.hid (boxK (t := ⟨a, v', nn⟩) HX2.out HG4 HO2.out (fun e => absurd (HA2.out _ e) (Nat.lt_irrefl _))); obtain ⟨hx0, hx1, hx2⟩ := boxCells (t := ⟨a, v', nn⟩) HX4.out; have hsz4 := HG4.size; have HL4 : Hid ((L ++ [lineTk]).length = n + 1) := Lib.hid (by rw [List.length_append, HL.out]; rfl); have hB4 : w.heap.size ≤ w4.heap.size := Nat.le_trans HB2.out.size HG4.size) | (at_builtin; refine wpList_appendTok rfl (.tmp 43) (.tmp 45) rfl w.heap.size A4 c4 (n + 1) (n + 1 + 1) w4.heap.size ⟨a, v', nn⟩ (L ++ [lineTk]) rfl rfl rfl HO4 HL4.out rfl hl2 hB4 ?_; intro A5 c5 w5 HO5 HG5; have HX5 := Lib.hid (boxK (t := ⟨a, v', nn⟩) HX4.out HG5 HO4 (notBox (t := ⟨a, v', nn⟩) HX4.out HO4 (by rw [HL4.out]; omega))); obtain ⟨_, hx5, _⟩ := boxCells (t := ⟨a, v', nn⟩) HX5.out))
              refine ⟨⟨L ++ [lineTk] ++ [⟨a, v', nn⟩], A5, n + 1 + 1, c5, k + v'.size + P1, E1, rfl, congrArg (Value.int .i64) (by omega), rfl, by omega, Lib.hid (by rw [List.length_append, HL4.out]; rfl), Lib.hid HO5, Lib.hid (below_appT (below_appT HB2.out HG4 HO2.out HB2.out.size) HG5 HO4 hB4), HCN, by omega⟩, by simp [intOf]; omega⟩
      · obtain rfl : s.size = k := by omega
        have hR : R = .ok L := by
          rw [← HC.out, List.drop_of_length_le (by rw [bl_len]; omega), cutE_nil]
        subst hR
        clear hlt HC HI0 cP
        by_cases h4 : 4096 < n
        · have HQ : Hid (cutF (bl s) = ([], 0, 2)) := by
            unfold Hid
            rw [HE.out]
            unfold cutH
            simp only
            rw [if_pos (by rw [HL.out]; exact h4)]
          go_wp2
          rw [HQ.out]
          exact bodyPost_ret (v := .tuple #[.slice none 0 0, .int .i64 0, .int .i64 2]) (by simp [results, Tryz.results39, go_sem]) rfl ⟨none, 0, 0, rfl, rfl, OwnT.nil_ _ _, HB.out⟩
        · have HQ : Hid (cutF (bl s) = (L, (s.size : Int), 0)) := by
            unfold Hid
            rw [HE.out]
            unfold cutH
            simp only
            rw [if_neg (by rw [HL.out]; exact h4)]
          go_wp2
          rw [HQ.out]
          exact bodyPost_ret (v := .tuple #[.slice A n c, .int .i64 s.size, .int .i64 0]) (by simp [results, Tryz.results39, go_sem]) rfl ⟨A, n, c, rfl, HL.out, HO.out, HB.out⟩
end Go.Proofs.YtbmcddolfofmdaaGreatDoor
/- The document's Same: whether two lists of tokens are. -/
namespace Go.Proofs.YtbmcddolfofmdaaGreatDoor
open Go.RowKit

def eqTk (a b : Tk) : Bool := a.k == b.k && (a.s.toList == b.s.toList && a.n == b.n)
theorem eqTk_iff (a b : Tk) : eqTk a b = true ↔ a = b := by
  obtain ⟨k, s, n⟩ := a
  obtain ⟨k', s', n'⟩ := b
  unfold eqTk
  simp only [Bool.and_eq_true, beq_iff_eq, Tk.mk.injEq]
  have h : s.toList = s'.toList ↔ s = s' :=
    ⟨fun h => by rw [← Lib.mk_data s, ← Lib.mk_data s', ← Lib.toList_data, ← Lib.toList_data, h], fun h => by rw [h]⟩
  rw [h]
set_option maxRecDepth 100000 in
theorem tk_eqIn (a b : Tk) (w : World) : (Op.equalIn 10000 49 (.agg #[.int .i64 a.k, .string a.s, .int .i64 a.n]) (.agg #[.int .i64 b.k, .string b.s, .int .i64 b.n])).run Tryz.prog w = .ok (eqTk a b) w := by
  have hp0 : ∀ a : Tk, (part 3 #[Value.int .i64 a.k, .string a.s, .int .i64 a.n] 0).run Tryz.prog w = .ok (.int .i64 a.k) w := fun a => by kernel_rfl
  have hp1 : ∀ a : Tk, (part 9 #[Value.int .i64 a.k, .string a.s, .int .i64 a.n] 1).run Tryz.prog w = .ok (.string a.s) w := fun a => by kernel_rfl
  have hp2 : ∀ a : Tk, (part 2 #[Value.int .i64 a.k, .string a.s, .int .i64 a.n] 2).run Tryz.prog w = .ok (.int .i64 a.n) w := fun a => by kernel_rfl
  have hf : (Tryz.prog.fieldsOf 49).toList.map (fun f => (f.name, f.type, f.offset)) = [("Kind", 3, 0), ("S", 9, 1), ("N", 2, 2)] := by kernel_rfl
  rw [run_equalIn_struct w 9999 49 _ _ (by kernel_rfl) (by kernel_rfl)]
  obtain ⟨L, hL⟩ : ∃ L, (Tryz.prog.fieldsOf 49).toList = L := ⟨_, rfl⟩
  rw [hL] at hf ⊢
  match L, hf with
  | [f0, f1, f2], hf =>
    simp only [List.map_cons, List.map_nil, List.cons.injEq, Prod.mk.injEq, and_true] at hf
    obtain ⟨⟨n0, t0, o0⟩, ⟨n1, t1, o1⟩, n2, t2, o2⟩ := hf
    have h3 : ∀ a b : Int, (Op.equalIn 9999 3 (.int .i64 a) (.int .i64 b)).run Tryz.prog w = .ok (a == b) w := fun a b => run_equalIn_int w 9998 3 .i64 .i64 a b Tryz.underlying3
    have h4 : ∀ a b : Int, (Op.equalIn 9999 2 (.int .i64 a) (.int .i64 b)).run Tryz.prog w = .ok (a == b) w := fun a b => run_equalIn_int w 9998 2 .i64 .i64 a b Tryz.underlying2
    have h5 : ∀ a b : ByteArray, (Op.equalIn 9999 9 (.string a) (.string b)).run Tryz.prog w = .ok (a.toList == b.toList) w := fun a b => run_equalIn_string w 9998 9 a b Tryz.underlying9
    unfold eqTk
    cases e1 : (a.k == b.k) <;> cases e2 : (a.s.toList == b.s.toList) <;> cases e3 : (a.n == b.n) <;> simp [Op.eqFields, n0, n1, n2, t0, t1, t2, o0, o1, o2, hp0, hp1, hp2, h3, h4, h5, e1, e2, e3]
theorem tk_neq (a b : Tk) (w : World) : (binOp .neq 49 (.agg #[.int .i64 a.k, .string a.s, .int .i64 a.n]) (.agg #[.int .i64 b.k, .string b.s, .int .i64 b.n])).run Tryz.prog w = .ok (.bool !(eqTk a b)) w := by
  rw [run_neq_struct, tk_eqIn]
  rfl
theorem tk_eql (a b : Tk) (w : World) : (binOp .eql 49 (.agg #[.int .i64 a.k, .string a.s, .int .i64 a.n]) (.agg #[.int .i64 b.k, .string b.s, .int .i64 b.n])).run Tryz.prog w = .ok (.bool (eqTk a b)) w := by
  rw [run_eql_struct, tk_eqIn]
  rfl
/-- whether two lists of tokens are the same -/
def sameTL : List Tk → List Tk → Bool
  | [], [] => true
  | a :: l, b :: m => eqTk a b && sameTL l m
  | _, _ => false
theorem sameTL_iff : ∀ l m, sameTL l m = true ↔ l = m
  | [], [] => by simp [sameTL]
  | [], b :: m => by simp [sameTL]
  | a :: l, [] => by simp [sameTL]
  | a :: l, b :: m => by
    rw [sameTL, Bool.and_eq_true, eqTk_iff, sameTL_iff l m, List.cons.injEq]
theorem sameTL_no {l m : List Tk} (h : l ≠ m) : sameTL l m = false := by
  cases e : sameTL l m
  · rfl
  · exact absurd ((sameTL_iff l m).1 e) h
theorem drewN_two (w : World) (a b : Nat) : (w.drewN a).drewN b = w.drewN (a + b) := by
  first | exact World.drewN_drewN w a b | (simp [World.drewN]; omega)
end Go.Proofs.YtbmcddolfofmdaaGreatDoor
/- live: the chapter's example. -/
namespace Go.Proofs.YtbmcddolfofmdaaGreatDoor
open Go.RowKit

set_option maxRecDepth 100000 in
theorem liveTok : tokF (ofL [65]) = some ⟨1, ⟨#[65]⟩, 0⟩ ∧ tokF (ofL [91]) = some ⟨3, ⟨#[91]⟩, 0⟩ ∧ tokF (ofL [105]) = some ⟨1, ⟨#[105]⟩, 0⟩ ∧ tokF (ofL [93]) = some ⟨3, ⟨#[93]⟩, 0⟩ ∧ tokF (ofL [61]) = some ⟨3, ⟨#[61]⟩, 0⟩ ∧ tokF (ofL [50]) = some ⟨2, ⟨#[50]⟩, 2⟩ := by
  refine ⟨?_, ?_, ?_, ?_, ?_, ?_⟩ <;> kernel_rfl
/-- "A[i] = 2" -/
def liveL : List UInt8 := [65, 91, 105, 93, 32, 61, 32, 50]
def liveT : List Tk := [⟨1, ⟨#[65]⟩, 0⟩, ⟨3, ⟨#[91]⟩, 0⟩, ⟨1, ⟨#[105]⟩, 0⟩, ⟨3, ⟨#[93]⟩, 0⟩, ⟨3, ⟨#[61]⟩, 0⟩, ⟨2, ⟨#[50]⟩, 2⟩]
/-- one step of cutting, with what it goes by -/
theorem cutE_step {r r' : List UInt8} {m p : Nat} {e e' : Bool} {t : Tk} {L L' : List Tk} (h : r ≠ []) (hm : mF r = m) (ht : tokF (ofL (r.take m)) = some t) (hp : passL false false (r.drop m) = (p, e')) (hr : (r.drop m).drop p = r') (hL : withLine e L t = L') : cutE r e L = cutE r' e' L' := by
  rw [cutE_on h (by rw [hm]; exact ht), hm, hp, hL, hr]
set_option maxRecDepth 100000 in
theorem live_cut : cutF liveL = (liveT, 8, 0) := by
  obtain ⟨t1, t2, t3, t4, t5, t6⟩ := liveTok
  have h : cutG liveL = .ok liveT := by
    show cutE liveL false [] = _
    refine (cutE_step (r := liveL) (m := 1) (p := 0) (e' := false) (r' := [91, 105, 93, 32, 61, 32, 50]) (by decide) (by kernel_rfl) t1 (by kernel_rfl) rfl rfl).trans ?_
    refine (cutE_step (r := [91, 105, 93, 32, 61, 32, 50]) (m := 1) (p := 0) (e' := false) (r' := [105, 93, 32, 61, 32, 50]) (by decide) (by kernel_rfl) t2 (by kernel_rfl) rfl rfl).trans ?_
    refine (cutE_step (r := [105, 93, 32, 61, 32, 50]) (m := 1) (p := 0) (e' := false) (r' := [93, 32, 61, 32, 50]) (by decide) (by kernel_rfl) t3 (by kernel_rfl) rfl rfl).trans ?_
    refine (cutE_step (r := [93, 32, 61, 32, 50]) (m := 1) (p := 1) (e' := false) (r' := [61, 32, 50]) (by decide) (by kernel_rfl) t4 (by kernel_rfl) rfl rfl).trans ?_
    refine (cutE_step (r := [61, 32, 50]) (m := 1) (p := 1) (e' := false) (r' := [50]) (by decide) (by kernel_rfl) t5 (by kernel_rfl) rfl rfl).trans ?_
    refine (cutE_step (r := [50]) (m := 1) (p := 0) (e' := false) (r' := []) (by decide) (by kernel_rfl) t6 (by kernel_rfl) rfl rfl).trans ?_
    rw [cutE_nil]
    rfl
  unfold cutF
  rw [if_neg (by decide), h]
  rfl
end Go.Proofs.YtbmcddolfofmdaaGreatDoor
/- What the laws over texts share. -/
namespace Go.Proofs.YtbmcddolfofmdaaGreatDoor
open Go.RowKit

theorem OwnT.rd {w : World} {base c : Nat} {A : Option Addr} {ss : List Tk} (h : OwnT w base A c ss) (hx : ∀ x ∈ ss, x.ok) {n : Nat} (hn : ss.length = n) : Toks w w.heap.size A n ss := by
  subst hn; exact h.toks hx
theorem below_dX {B : Nat} {w W : World} (h : Below B w W) (m : Nat) : Below B w (W.drewN m) := ⟨h.os, h.tape, h.output, h.size, h.block⟩
theorem sameTL_rfl (l : List Tk) : sameTL l l = true := (sameTL_iff l l).2 rfl
theorem bl_append (s t : ByteArray) : bl (s ++ t) = bl s ++ bl t := by simp [bl]
theorem bl_take (s : ByteArray) (a : Nat) : bl (s.extract 0 a) = (bl s).take a := by
  rw [extract_ofL, bl_ofL, List.drop_zero, Nat.sub_zero]
/-- behind an end of a line -/
theorem cutG_line (l y : List UInt8) : cutG (l ++ 10 :: y) = match cutG l with | .ok L => cutQ true y L | .error q => .error (q + 1 + y.length) := cutQ_line l y false []
end Go.Proofs.YtbmcddolfofmdaaGreatDoor
/- append of a whole list of tokens. -/
namespace Go.Proofs.YtbmcddolfofmdaaGreatDoor
open Go.RowKit

theorem Toks.cells {w : World} {B n : Nat} {ad : Addr} {es : List Tk} (h : Toks w B (some ad) n es) : ∀ (j : Nat) (u : Value), (cellsT es)[j]? = some u → w.cell? (ad.add j) = some u := by
  intro j u hu
  have hj := (List.getElem?_eq_some_iff.1 hu).1
  rw [cellsT_length] at hj
  obtain ⟨hl, _, hc⟩ := h
  obtain ⟨b, off, e, _, hx⟩ := hc (by omega)
  injection e with e
  subst e
  have hk : j / 3 < es.length := by omega
  have hx' := hx (j / 3) _ (List.getElem?_eq_getElem hk)
  have hce := cellsT_at (List.getElem?_eq_getElem hk)
  have hadd : (Addr.add ⟨b, off, none⟩ j : Addr) = ⟨b, off + j, none⟩ := by
    by_cases h0 : j = 0
    · subst h0; simp [Addr.add]
    · simp [Addr.add, h0]
  rw [hadd]
  generalize es[j / 3] = y at hx' hce
  generalize hq : j / 3 = q at hx' hce
  rcases (by omega : j = 3 * q ∨ j = 3 * q + 1 ∨ j = 3 * q + 2) with rfl | rfl | rfl
  · rw [← hu, hce.1, ← hx'.1, Nat.mul_comm]
  · rw [← hu, hce.2.1, ← hx'.2.1, Nat.mul_comm, Nat.add_assoc]
  · rw [← hu, hce.2.2, ← hx'.2.2, Nat.mul_comm, Nat.add_assoc]
theorem Toks.on {w w' : World} {B B2 n : Nat} {A : Option Addr} {ss : List Tk} (h : Toks w B A n ss) (hb : Below B2 w w') (hB : B ≤ B2) : Toks w' B A n ss := h.keep fun _ hp => hb.cell (Nat.lt_of_lt_of_le hp hB)
theorem Toks.alloc {w : World} {B n : Nat} {A : Option Addr} {ss : List Tk} (h : Toks w B A n ss) (hB : B ≤ w.heap.size) (o : Obj) : Toks (w.alloc o) B A n ss := h.keep fun p hp => World.cell?_alloc_lt w o p (by omega)
theorem size_allocT (w : World) (o : Obj) : w.heap.size ≤ (w.alloc o).heap.size := by
  show _ ≤ (w.heap.push o).size
  rw [Array.size_push]
  omega
theorem Toks.grown {w w' : World} {B n : Nat} {A : Option Addr} {ss : List Tk} (h : Toks w B A n ss) {row : Option Nat} (hg : w.grownBy w' row) (hB : B ≤ w.heap.size) (hr : ∀ g, row = some g → B ≤ g) : Toks w' B A n ss :=
  h.keep fun p hp => World.cell?_of_block (hg.block p.block (by omega) (fun e => by have := hr _ e.symm; omega))
theorem OwnT.row {w : World} {base c p : Nat} {A : Option Addr} {ss : List Tk} (h : OwnT w base A c ss) : ∀ g, (Value.slice A p c).ownBlock = some g → base ≤ g := by
  intro g e
  rcases h.heap with h1 | ⟨g', cur, h1, h2, _⟩
  · rw [h1] at e; cases e
  · rw [h1] at e
    simp only [Value.ownBlock, Option.some.injEq] at e
    omega
theorem cellsT_one (ss : List Tk) : ∀ u ∈ cellsT ss, u.oneCell' = true := by
  induction ss with
  | nil => simp [cellsT]
  | cons x ss ih =>
    intro u hu
    simp only [cellsT, List.mem_cons] at hu
    rcases hu with rfl | rfl | rfl | hu
    · simp [Value.oneCell']
    · simp [Value.oneCell']
    · simp [Value.oneCell']
    · exact ih u hu
theorem run_appendNilT (w : World) (base : Nat) (ty : TypeId) (v : Value) (n : Nat) (xs : List Value) (hown : w.ownsRow base 49 3 v n xs) (c : Nat) :
    (Builtin.append_ #[46, 46] ty #[v, .slice none 0 c]).run Tryz.prog w = .ok v w := by
  obtain ⟨i, hi, hz, h1, h2⟩ := info_parts infoTok
  have ht := Tryz.underlying46
  rcases hown.2 with ⟨rfl, rfl⟩ | ⟨g, cap, cur, rfl, _, _, hnc, _⟩ <;> simp [Builtin.append_, run_underlying ht, sizeOf, typeInfo, Builtin.lenOf, Builtin.firstCells, *, storeCells]
theorem run_appendToks (w : World) (base : Nat) (ty : TypeId) (A A2 : Option Addr) (c m c2 B : Nat) (xs ys : List Tk) (ho : OwnT w base A c xs) (hs : Toks w B A2 m ys) (hl : xs.length + m ≤ 1000000) (hb : base ≤ w.heap.size) :
    ∃ A' c' w', (Builtin.append_ #[46, 46] ty #[.slice A xs.length c, .slice A2 m c2]).run Tryz.prog w = .ok (.slice A' (xs.length + m) c') w' ∧ OwnT w' base A' c' (xs ++ ys) ∧ w.grownBy w' (Value.slice A xs.length c).ownBlock := by
  obtain ⟨i, hi, hz, h1, h2⟩ := info_parts infoTok
  have hlen := hs.1
  rcases Option.eq_none_or_eq_some A2 with rfl | ⟨ad, rfl⟩
  · obtain rfl : m = 0 := by
      rcases Nat.eq_zero_or_pos m with h0 | h0
      · exact h0
      · obtain ⟨b, off, e', _⟩ := hs.2.2 h0; cases e'
    obtain rfl : ys = [] := List.eq_nil_of_length_eq_zero hlen
    have hrun := run_appendNilT w base ty (.slice A xs.length c) xs.length (cellsT xs) ho c2
    exact ⟨A, c, w, by simpa using hrun, by simpa using ho, World.grownBy.refl w _⟩
  · obtain ⟨v', w', hr, h3, h4, _⟩ := run_append_own (P := Tryz.prog) w base 46 ty 49 i (.agg #[.int .i64 0, .string ⟨#[]⟩, .int .i64 0]) 3 32 Tryz.underlying46 hi hz h1 h2 rfl (by decide) (.slice A xs.length c) xs.length (cellsT xs) ho ad m c2 (cellsT ys) (by rw [cellsT_length, hlen]; omega) hs.cells (cellsT_one ys) (by unfold maxLen; omega) (by omega) hb
    obtain ⟨A', c', rfl⟩ : ∃ A' c', v' = .slice A' (xs.length + m) c' := by
      rcases h3.2 with ⟨rfl, h0⟩ | ⟨g, cap, cur, rfl, _⟩
      · rw [h0]; exact ⟨_, _, rfl⟩
      · exact ⟨_, _, rfl⟩
    refine ⟨A', c', w', hr, ?_, h4⟩
    unfold OwnT
    rw [List.length_append, hlen, cellsT_append]
    exact h3
theorem wp_appendToks {o : Oper} {a : Act} {w : World} {K : Act → World → Prop} {Q : Exit → Act → World → Prop}
    (s x : Operand) (hop : o.op = Op.call { callee := Callee.builtin Builtin.append, args := #[s, x], argTypes := #[46, 46] })
    (base : Nat) (A A2 : Option Addr) (c m c2 B p r : Nat) (xs ys : List Tk) (hs : a.eval s = .slice A p c) (hx : a.eval x = .slice A2 m c2) (ho : OwnT w base A c xs) (hp : xs.length = p) (hr : p + m = r) (hi2 : Toks w B A2 m ys) (hl : r ≤ 1000000) (hb : base ≤ w.heap.size)
    (hK : ∀ A' c' w', OwnT w' base A' c' (xs ++ ys) → w.grownBy w' (Value.slice A p c).ownBlock → K (a.put o.dst (.slice A' r c')) w') :
    Oper.wp Tryz.prog o a w K Q := by
  subst hp
  subst hr
  obtain ⟨A', c', w', hrun, ho', hb'⟩ := run_appendToks w base o.type A A2 c m c2 B xs ys ho hi2 hl hb
  unfold Oper.wp
  simp [execOp, hop, resolve, invoke, builtin, hs, hx, hrun, Result.andThen]
  exact hK _ _ _ ho' hb'
theorem wpList_appendToks {ops : Array Oper} {rest : List Oper} {o : Oper} {a : Act} {w : World} {Q : Exit → Act → World → Prop}
    (hg : o.guard = none) (s x : Operand) (hop : o.op = Op.call { callee := Callee.builtin Builtin.append, args := #[s, x], argTypes := #[46, 46] })
    (base : Nat) (A A2 : Option Addr) (c m c2 B p r : Nat) (xs ys : List Tk) (hs : a.eval s = .slice A p c) (hx : a.eval x = .slice A2 m c2) (ho : OwnT w base A c xs) (hp : xs.length = p) (hr : p + m = r) (hi2 : Toks w B A2 m ys) (hl : r ≤ 1000000) (hb : base ≤ w.heap.size)
    (hK : ∀ A' c' w', OwnT w' base A' c' (xs ++ ys) → w.grownBy w' (Value.slice A p c).ownBlock → wpList Tryz.prog ops Q rest (a.put o.dst (.slice A' r c')) w') :
    wpList Tryz.prog ops Q (o :: rest) a w :=
  wpList_plain hg fun _ hK' => wp_appendToks s x hop base A A2 c m c2 B p r xs ys hs hx ho hp hr hi2 hl hb fun A' c' w' h1 h2 => hK' _ _ (hK A' c' w' h1 h2)
theorem wpList_appendToksG {ops : Array Oper} {rest : List Oper} {o : Oper} {a : Act} {w : World} {Q : Exit → Act → World → Prop}
    (s x : Operand) (hop : o.op = Op.call { callee := Callee.builtin Builtin.append, args := #[s, x], argTypes := #[46, 46] }) (hw : Region.wanted o (yielded ops a.tmps) = true)
    (base : Nat) (A A2 : Option Addr) (c m c2 B p r : Nat) (xs ys : List Tk) (hs : a.eval s = .slice A p c) (hx : a.eval x = .slice A2 m c2) (ho : OwnT w base A c xs) (hp : xs.length = p) (hr : p + m = r) (hi2 : Toks w B A2 m ys) (hl : r ≤ 1000000) (hb : base ≤ w.heap.size)
    (hK : ∀ A' c' w', OwnT w' base A' c' (xs ++ ys) → w.grownBy w' (Value.slice A p c).ownBlock → wpList Tryz.prog ops Q rest (a.put o.dst (.slice A' r c')) w') :
    wpList Tryz.prog ops Q (o :: rest) a w :=
  BigFrame.wpList_want hw fun _ hK' => wp_appendToks s x hop base A A2 c m c2 B p r xs ys hs hx ho hp hr hi2 hl hb fun A' c' w' h1 h2 => hK' _ _ (hK A' c' w' h1 h2)
end Go.Proofs.YtbmcddolfofmdaaGreatDoor
/- lexer.Check; whether each token of a list may be. -/
namespace Go.Proofs.YtbmcddolfofmdaaGreatDoor
open Go.RowKit

/-- a token may be: it is the one whose text it has -/
def mayB (t : Tk) : Bool := match tokF t.s with | some u => eqTk t u | none => false
theorem mayB_iff (t : Tk) : mayB t = true ↔ mayT t := by
  unfold mayB mayT
  cases tokF t.s with
  | none => simp
  | some u =>
    simp only [eqTk_iff, Option.some.injEq]
    exact ⟨fun h => h.symm, fun h => h.symm⟩
/-- what Check gives -/
def chkE (b : Bool) : Int := if b then 0 else 1
set_option maxRecDepth 100000 in
set_option maxHeartbeats 4000000 in
theorem check_any (t : Tk) (w : World) (ht : t.s.size ≤ maxLen) : Calls Tryz.prog 44 #[.agg #[.int .i64 t.k, .string t.s, .int .i64 t.n]] w fun e w' => e = .returned (.int .i64 (chkE (mayB t))) ∧ Below w.heap.size w w' := by
  have cT := fun w => token_any t.s w ht
  obtain ⟨o, ho⟩ : ∃ o, Hid (tokF t.s = o) := ⟨_, Lib.hid rfl⟩
  have HB0 : Hid (Below w.heap.size w (w.alloc (.cells #[.int .i64 t.k, .string t.s, .int .i64 t.n] 49))) := (Below.refl _ _).alloc (Nat.le_refl _) _
  have hs0 : w.heap.size ≤ (w.alloc (.cells #[.int .i64 t.k, .string t.s, .int .i64 t.n] 49)).heap.size := size_allocT _ _
  have hlt0 : w.heap.size < (w.alloc (.cells #[.int .i64 t.k, .string t.s, .int .i64 t.n] 49)).heap.size := by
    show _ < (w.heap.push _).size
    rw [Array.size_push]
    omega
  have HX := Lib.hid (box_new w t)
  cases o with
  | none =>
    rw [ho.out] at cT
    change ∀ W, Calls Tryz.prog 56 #[.string t.s] W fun e w' => e = .returned (.tuple #[.agg #[.int .i64 0, .string ⟨#[]⟩, .int .i64 0], .bool false]) ∧ Below W.heap.size W w' at cT
    have HM : Hid (mayB t = false) := by unfold Hid mayB; rw [ho.out]
    rw [HM.out]
    clear ho
    go_enter Tryz.func44, Tryz.ntmps44
    go_wp2_with (go_at_call 56; (with_reducible refine (cT _).mono ?_); rintro e w2 ⟨rfl, hb2⟩)
    go_ret
    exact ⟨rfl, (HB0.out.trans (hb2.mono hs0)).alloc (Nat.le_trans hs0 hb2.size) _⟩
  | some u =>
    rw [ho.out] at cT
    change ∀ W, Calls Tryz.prog 56 #[.string t.s] W fun e w' => e = .returned (.tuple #[.agg #[.int .i64 u.k, .string u.s, .int .i64 u.n], .bool true]) ∧ Below W.heap.size W w' at cT
    obtain ⟨b, hb⟩ : ∃ b, eqTk t u = b := ⟨_, rfl⟩
    have HM : Hid (mayB t = b) := by unfold Hid mayB; rw [ho.out]; exact hb
    have hcn := fun W => tk_neq t u W
    rw [hb] at hcn
    have hgd := fun (o1 o2 : Operand) (W : World) => run_eqGuard_agg (P := Tryz.prog) W .neq 49 o1 o2 #[.int .i64 t.k, .string t.s, .int .i64 t.n] #[.int .i64 u.k, .string u.s, .int .i64 u.n] (by kernel_rfl)
    rw [HM.out]
    clear ho hb HM
    cases b
    all_goals
      go_enter Tryz.func44, Tryz.ntmps44
      go_wp2_with (go_at_call 56; (with_reducible refine (cT _).mono ?_); rintro e w2 ⟨rfl, hb2⟩; have HX2 := (hb2.block w.heap.size hlt0).trans HX.out; have HX3 := Lib.hid (box_new w2 u); obtain ⟨x0, x1, x2⟩ := boxCells (t := t) (w := w2.alloc (.cells #[.int .i64 u.k, .string u.s, .int .i64 u.n] 49)) (((Below.refl w2.heap.size w2).alloc (Nat.le_refl _) _).block w.heap.size (Nat.lt_of_lt_of_le hlt0 hb2.size) |>.trans HX2); obtain ⟨y0, y1, y2⟩ := boxCells HX3.out; clear HX2)
      go_ret
      exact ⟨rfl, (HB0.out.trans (hb2.mono hs0)).alloc (Nat.le_trans hs0 hb2.size) _⟩
end Go.Proofs.YtbmcddolfofmdaaGreatDoor
/- slices.ContainsFunc, as lexer.Join asks it: whether some token may not be. -/
namespace Go.Proofs.YtbmcddolfofmdaaGreatDoor
open Go.RowKit

set_option maxRecDepth 100000 in
set_option maxHeartbeats 4000000 in
theorem bad_any (t : Tk) (w : World) (ht : t.s.size ≤ maxLen) (b : Bool) (hb : Hid (mayB t = b)) : Calls Tryz.prog 43 #[.agg #[.int .i64 t.k, .string t.s, .int .i64 t.n]] w fun e w' => e = .returned (.bool !b) ∧ Below w.heap.size w w' := by
  have cC := fun w => check_any t w ht
  rw [hb.out] at cC
  have HB0 : Hid (Below w.heap.size w (w.alloc (.cells #[.int .i64 t.k, .string t.s, .int .i64 t.n] 49))) := (Below.refl _ _).alloc (Nat.le_refl _) _
  have hs0 : w.heap.size ≤ (w.alloc (.cells #[.int .i64 t.k, .string t.s, .int .i64 t.n] 49)).heap.size := size_allocT _ _
  clear hb
  cases b
  · have cC1 : ∀ w, Calls Tryz.prog 44 #[.agg #[.int .i64 t.k, .string t.s, .int .i64 t.n]] w fun e w' => e = .returned (.int .i64 1) ∧ Below w.heap.size w w' := cC
    clear cC
    go_enter Tryz.func43, Tryz.ntmps43
    go_wp2_with (go_at_call 44; (with_reducible refine (cC1 _).mono ?_); rintro e w2 ⟨rfl, hb2⟩)
    go_ret
    exact ⟨rfl, HB0.out.trans (hb2.mono hs0)⟩
  · have cC1 : ∀ w, Calls Tryz.prog 44 #[.agg #[.int .i64 t.k, .string t.s, .int .i64 t.n]] w fun e w' => e = .returned (.int .i64 0) ∧ Below w.heap.size w w' := cC
    clear cC
    go_enter Tryz.func43, Tryz.ntmps43
    go_wp2_with (go_at_call 44; (with_reducible refine (cC1 _).mono ?_); rintro e w2 ⟨rfl, hb2⟩)
    go_ret
    exact ⟨rfl, HB0.out.trans (hb2.mono hs0)⟩
def IdxP (w : World) (L : List Tk) (e : Ending) (w' : World) : Prop := ∃ v : Int, e = .returned (.int .i64 v) ∧ decide (0 ≤ v) = !(L.all mayB) ∧ Below w.heap.size w w'
set_option maxRecDepth 100000 in
set_option maxHeartbeats 4000000 in
theorem indexBad_any (A : Option Addr) (n c : Nat) (L : List Tk) (w : World) (h : Toks w w.heap.size A n L) (hn : n ≤ 4398046511104) : Calls Tryz.prog 60 #[.slice A n c, .func (.func 43) #[] #[]] w (IdxP w L) := by
  have HN := Lib.hid h.1
  go_enter Tryz.func60, Tryz.ntmps60
  go_wp2
  go_loopw [8] (fun i wr => ∃ k : Nat, k ≤ n ∧ i = .int .i64 k ∧ Hid (∀ j x, j < k → L[j]? = some x → mayB x = true) ∧ Hid (Below w.heap.size w wr)) (fun i _ => n - (intOf i).toNat)
  case atStart => exact ⟨0, Nat.zero_le _, rfl, fun j x hj => absurd hj (by omega), Below.refl _ _⟩
  case round =>
    obtain ⟨k, hk, rfl, HA, HB⟩ := hrel
    by_cases hlt : k < n
    · obtain ⟨b, off, x, rfl, hbl, HX, hc0, hc1, hc2, hxo⟩ := (h.on HB.out (Nat.le_refl _)).at_ hlt
      have hbw : w.heap.size ≤ wr.heap.size := HB.out.size
      have hk0 : (0 : Int) ≤ k := by omega
      have hk1 : (k : Int) < n := by omega
      have hxs := hxo.2.2.2.2
      obtain ⟨m, hm⟩ : ∃ m, Hid (mayB x = m) := ⟨_, Lib.hid rfl⟩
      have cB := fun w => bad_any x w hxs m hm
      clear hxo hxs
      cases m
      · have HF : Hid (decide ((0 : Int) ≤ (k : Int)) = !(L.all mayB)) := by
          have : L.all mayB = false := by
            rw [List.all_eq_false]
            exact ⟨x, List.mem_of_getElem? HX.out, by rw [hm.out]; decide⟩
          unfold Hid
          rw [this]
          simp
        clear hm HA
        go_wp2_with (go_at_call 43; (with_reducible refine (cB _).mono ?_); rintro e w2 ⟨rfl, hb2⟩)
        go_ret
        exact ⟨k, rfl, HF.out, HB.out.trans (hb2.mono hbw)⟩
      · have HA2 : Hid (∀ j y, j < k + 1 → L[j]? = some y → mayB y = true) := fun j y hj hy => by
          by_cases e : j = k
          · subst e
            rw [HX.out] at hy
            injection hy with hy
            subst hy
            exact hm.out
          · exact HA.out j y (by omega) hy
        clear hm HA
        go_wp2_with (go_at_call 43; (with_reducible refine (cB _).mono ?_); rintro e w2 ⟨rfl, hb2⟩)
        go_roundw
        case rel => exact ⟨k + 1, by omega, by go_num, HA2, HB.out.trans (hb2.mono hbw)⟩
        case measure => simp [intOf]; omega
    · obtain rfl : n = k := by omega
      have HF : Hid (decide ((0 : Int) ≤ -1) = !(L.all mayB)) := by
        have : L.all mayB = true := by
          rw [List.all_eq_true]
          intro t ht
          obtain ⟨j, hj, e⟩ := List.getElem_of_mem ht
          exact HA.out j t (by rw [← HN.out]; exact hj) (by rw [List.getElem?_eq_getElem hj, e])
        unfold Hid
        rw [this]
        decide
      clear HA hlt
      go_wp2
      go_ret
      exact ⟨-1, rfl, HF.out, HB.out⟩
set_option maxRecDepth 100000 in
set_option maxHeartbeats 4000000 in
theorem someBad_any (A : Option Addr) (n c : Nat) (L : List Tk) (w : World) (h : Toks w w.heap.size A n L) (hn : n ≤ 4398046511104) : Calls Tryz.prog 42 #[.slice A n c, .func (.func 43) #[] #[]] w fun e w' => e = .returned (.bool !(L.all mayB)) ∧ Below w.heap.size w w' := by
  have cI := indexBad_any A n c L w h hn
  go_enter Tryz.func42, Tryz.ntmps42
  go_wp2_with (go_at_call 60; (with_reducible refine cI.mono ?_); rintro e w2 ⟨v, rfl, hv, hb2⟩; have HV := Lib.hid hv; clear hv)
  go_ret
  exact ⟨by rw [← HV.out]; rfl, hb2⟩
end Go.Proofs.YtbmcddolfofmdaaGreatDoor
/- strings.Join, laid out of the library's contract. -/
namespace Go.Proofs.YtbmcddolfofmdaaGreatDoor
open Go.Shelf Go.Proofs
def x_lays156_ren : Go.Shelf.Ren := ⟨fun | 156 => 46 | 165 => 61 | 166 => 62 | 169 => 63 | 240 => 76 | 241 => 77 | 276 => 86 | 277 => 87 | n => n, fun | 31 => 74 | 9 => 9 | 3 => 3 | 4 => 4 | 0 => 0 | 20 => 20 | 72 => 98 | 76 => 102 | 70 => 95 | 37 => 96 | 75 => 101 | 127 => 114 | 164 => 122 | 5 => 5 | 80 => 104 | n => n, fun | n => n⟩
set_option maxRecDepth 100000 in
theorem x_lays156 : Go.Proofs.Lays.n156 Tryz.prog x_lays156_ren := {
  mixed := by kernel_rfl
  f156 := Tryz.func46.trans (congrArg some (by kernel_rfl))
  f165 := Tryz.func61.trans (congrArg some (by kernel_rfl))
  f166 := Tryz.func62.trans (congrArg some (by kernel_rfl))
  f169 := Tryz.func63.trans (congrArg some (by kernel_rfl))
  f240 := Tryz.func76.trans (congrArg some (by kernel_rfl))
  f241 := Tryz.func77.trans (congrArg some (by kernel_rfl))
  f276 := Tryz.func86.trans (congrArg some (by kernel_rfl))
  f277 := Tryz.func87.trans (congrArg some (by kernel_rfl))
  t0 := Tryz.underlying0
  a0 := Tryz.isAgg0
  z0 := Tryz.sizeOf0
  v0 := Tryz.zeroValue0
  t3 := Tryz.underlying3
  a3 := Tryz.isAgg3
  z3 := Tryz.sizeOf3
  v3 := Tryz.zeroValue3
  t4 := Tryz.underlying4
  a4 := Tryz.isAgg4
  z4 := Tryz.sizeOf4
  v4 := Tryz.zeroValue4
  t9 := Tryz.underlying9
  a9 := Tryz.isAgg9
  z9 := Tryz.sizeOf9
  v9 := Tryz.zeroValue9
  t20 := Tryz.underlying20
  a20 := Tryz.isAgg20
  z20 := Tryz.sizeOf20
  v20 := Tryz.zeroValue20
  t31 := Tryz.underlying74
  a31 := Tryz.isAgg74
  z31 := Tryz.sizeOf74
  v31 := Tryz.zeroValue74
  t37 := Tryz.underlying96
  a37 := Tryz.isAgg96
  z37 := Tryz.sizeOf96
  v37 := Tryz.zeroValue96
  t70 := Tryz.underlying95
  a70 := Tryz.isAgg95
  z70 := Tryz.sizeOf95
  v70 := Tryz.zeroValue95
  t72 := Tryz.underlying98
  a72 := Tryz.isAgg98
  z72 := Tryz.sizeOf98
  v72 := Tryz.zeroValue98
  t75 := Tryz.underlying101
  a75 := Tryz.isAgg101
  z75 := Tryz.sizeOf101
  v75 := Tryz.zeroValue101
  t76 := Tryz.underlying102
  a76 := Tryz.isAgg102
  z76 := Tryz.sizeOf102
  v76 := Tryz.zeroValue102
  t127 := Tryz.underlying114
  a127 := Tryz.isAgg114
  z127 := Tryz.sizeOf114
  v127 := Tryz.zeroValue114
  t164 := Tryz.underlying122
  a164 := Tryz.isAgg122
  z164 := Tryz.sizeOf122
  v164 := Tryz.zeroValue122 }
set_option maxRecDepth 100000 in
theorem x_Builder_Extra_156 : Builder.Extra Tryz.prog x_lays156_ren := {
  sizeBuilder := by kernel_rfl
  liesBuilder := by kernel_rfl
  t5 := Tryz.underlying5
  a5 := Tryz.isAgg5
  z5 := Tryz.sizeOf5
  v5 := Tryz.zeroValue5
  infoByte := by kernel_rfl
  cellsByte := by kernel_rfl
  sizeByte := by kernel_rfl
  neB5 := by decide }
open Go.RowKit in
theorem x_strings_Join_none (a : Option Addr) (c : Nat) (sep : ByteArray) (w : World) :
    Calls Tryz.prog 46 #[.slice a 0 c, .string sep] w fun e w' => e = .returned (.string ⟨#[]⟩) ∧ w' = w := Any.strings_Join_none x_lays156 x_Builder_Extra_156 a c sep w
open Go.RowKit in
theorem x_strings_Join (bk o c : Nat) (xs : List ByteArray) (sep : ByteArray) (w : World) (hcells : ∀ (j : Nat) x, xs[j]? = some x → w.cell? ⟨bk, o + j, none⟩ = some (.string x)) (hbk : bk < w.heap.size) (hN : xs.length ≤ 140737488355328) (hcap : xs.length ≤ c) (hlen : (Lib.join (xs.map (·.data.toList)) sep.data.toList).length ≤ 140737488355328) :
    Calls Tryz.prog 46 #[.slice (some ⟨bk, o, none⟩) xs.length c, .string sep] w fun e w' => e = .returned (.string ⟨(Lib.join (xs.map (·.data.toList)) sep.data.toList).toArray⟩) ∧ Below w.heap.size w w' := Any.strings_Join x_lays156 x_Builder_Extra_156 bk o c xs sep w hcells hbk hN hcap hlen
end Go.Proofs.YtbmcddolfofmdaaGreatDoor
