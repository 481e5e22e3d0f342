/- lexer.pass: where the next token begins, and whether a line ends ahead of it. -/
import Derived.Test.YtgkngimeokhhgaaDoorG1
import Derived.WalkMore
import Derived.OwnWalk
import Derived.Below
import Derived.Lib.ItoaNum
namespace Go.Proofs.YtgkngimeokhhgaaDoor
open Go.RowKit

/-- what is gone by ahead of a token: how many bytes, and whether a line ends (e: one has ended; i: within a remark) -/
def passL : Bool → Bool → List UInt8 → Nat × Bool
  | e, _, [] => (0, e)
  | e, i, c :: l =>
    if kb c = 2 then ((passL true false l).1 + 1, (passL true false l).2)
    else if kb c = 3 then ((passL e true l).1 + 1, (passL e true l).2)
    else if kb c ≠ 1 ∧ i = false then (0, e)
    else ((passL e i l).1 + 1, (passL e i l).2)
/-- the same, from a place on -/
def passAt (l : List UInt8) (k : Nat) (e i : Bool) : Nat × Bool := (k + (passL e i (l.drop k)).1, (passL e i (l.drop k)).2)
theorem drop_at {l : List UInt8} {k : Nat} {c : UInt8} (h : l[k]? = some c) : l.drop k = c :: l.drop (k + 1) := by
  obtain ⟨hk, e⟩ := List.getElem?_eq_some_iff.1 h
  rw [List.drop_eq_getElem_cons hk, e]
theorem passAt_end (l : List UInt8) (e i : Bool) : passAt l l.length e i = (l.length, e) := by
  unfold passAt
  rw [List.drop_of_length_le (Nat.le_refl _)]
  rfl
theorem passAt_line {l : List UInt8} {k : Nat} {c : UInt8} (h : l[k]? = some c) (hc : kb c = 2) (e i : Bool) : passAt l k e i = passAt l (k + 1) true false := by
  unfold passAt
  rw [drop_at h, passL, if_pos hc]
  simp only [Prod.mk.injEq, and_true]
  omega
theorem passAt_remark {l : List UInt8} {k : Nat} {c : UInt8} (h : l[k]? = some c) (hc : kb c = 3) (e i : Bool) : passAt l k e i = passAt l (k + 1) e true := by
  unfold passAt
  rw [drop_at h, passL, if_neg (by omega), if_pos hc]
  simp only [Prod.mk.injEq, and_true]
  omega
theorem passAt_stop {l : List UInt8} {k : Nat} {c : UInt8} (h : l[k]? = some c) (h2 : kb c ≠ 2) (h3 : kb c ≠ 3) (h1 : kb c ≠ 1) (e : Bool) : passAt l k e false = (k, e) := by
  unfold passAt
  rw [drop_at h, passL, if_neg h2, if_neg h3, if_pos ⟨h1, rfl⟩]
  rfl
theorem passAt_on {l : List UInt8} {k : Nat} {c : UInt8} (h : l[k]? = some c) (h2 : kb c ≠ 2) (h3 : kb c ≠ 3) (e i : Bool) (hi : kb c = 1 ∨ i = true) : passAt l k e i = passAt l (k + 1) e i := by
  unfold passAt
  rw [drop_at h, passL, if_neg h2, if_neg h3, if_neg (by rintro ⟨a, b⟩; rcases hi with hi | hi; exact a hi; rw [b] at hi; cases hi)]
  simp only [Prod.mk.injEq, and_true]
  omega
set_option maxRecDepth 100000 in
set_option maxHeartbeats 8000000 in
theorem pass_any (s : ByteArray) (p : Nat) (w : World) (hs : s.size ≤ 1000000) (hp : p ≤ s.size) (P : Nat) (E : Bool) (HP : Hid (passAt (bl s) p false false = (P, E))) : Calls Tryd.prog 62 #[.string s, .int .i64 p] w fun e w' => e = .returned (.tuple #[.int .i64 P, .bool E]) ∧ w = w' := by
  go_enter Tryd.func62, Tryd.ntmps62
  go_wp2
  go_step3
  go_wp2
  go_step3
  go_wp2
  go_loop [1, 6, 7] (fun a x y => ∃ (k : Nat) (e i : Bool), k ≤ s.size ∧ a = .int .i64 k ∧ x = .bool e ∧ y = .bool i ∧ Hid (passAt (bl s) k e i = (P, E))) (fun a _ _ => s.size - (intOf a).toNat)
  case atStart => exact ⟨p, false, false, hp, rfl, rfl, rfl, HP⟩
  case round =>
    obtain ⟨k, e, i, hk, rfl, rfl, rfl, HR⟩ := hrel
    by_cases hlt : k < s.size
    · have HG : Hid ((bl s)[k]? = some s[k]) := bl_get s k hlt
      obtain ⟨K, HK⟩ : ∃ K, Hid (kb s[k] = K) := ⟨_, Lib.hid rfl⟩
      have cK := fun w => kindOf_any s[k].toNat (u8_lt _) w K HK
      go_wp2_with (go_at_call 82; refine (cK _).mono ?_; rintro e w1 ⟨rfl, rfl⟩)
      · rename_i a
        exact ⟨⟨k + 1, true, false, by omega, by go_num, rfl, rfl, Lib.hid ((passAt_line HG.out (HK.out.trans (by simpa using a)) e i).symm.trans HR.out)⟩, by simp [intOf]; omega⟩
      · rename_i a
        exact ⟨⟨k + 1, e, true, by omega, by go_num, rfl, rfl, Lib.hid ((passAt_remark HG.out (HK.out.trans (by simpa using a)) e i).symm.trans HR.out)⟩, by simp [intOf]; omega⟩
      · rename_i a b c
        exact ⟨⟨k + 1, e, i, by omega, by go_num, rfl, rfl, Lib.hid ((passAt_on HG.out (by rw [HK.out]; simpa using a) (by rw [HK.out]; simpa using b) e i (Or.inl (HK.out.trans c))).symm.trans HR.out)⟩, by simp [intOf]; omega⟩
      · rename_i a b c d
        have hi : i = false := by simpa using d.2
        subst hi
        have h := (passAt_stop HG.out (by rw [HK.out]; simpa using a) (by rw [HK.out]; simpa using b) (by rw [HK.out]; exact c) e).symm.trans HR.out
        injection h with h1 h2
        subst h1 h2
        rw [Exit.noGoto_ret]
        exact bodyPost_ret (v := .tuple #[.int .i64 k, .bool e]) (by simp [results, Tryd.results62, go_sem]) rfl ⟨rfl, rfl⟩
      · rename_i a b c d
        have hi : i = true := by
          rcases d with d | d
          · exact absurd (by simpa using d) c
          · simpa using d
        exact ⟨⟨k + 1, e, i, by omega, by go_num, rfl, rfl, Lib.hid ((passAt_on HG.out (by rw [HK.out]; simpa using a) (by rw [HK.out]; simpa using b) e i (Or.inr hi)).symm.trans HR.out)⟩, by simp [intOf]; omega⟩
    · obtain rfl : s.size = k := by omega
      have h := HR.out
      rw [← bl_len s, passAt_end] at h
      injection h with h1 h2
      rw [bl_len] at h1
      subst h1 h2
      go_wp2
      exact bodyPost_ret (v := .tuple #[.int .i64 s.size, .bool e]) (by simp [results, Tryd.results62, go_sem]) rfl ⟨rfl, rfl⟩
end Go.Proofs.YtgkngimeokhhgaaDoor
/- What lexer.Cut gives, in plain words. -/
namespace Go.Proofs.YtgkngimeokhhgaaDoor
open Go.RowKit

def ofL (l : List UInt8) : ByteArray := ⟨l.toArray⟩
theorem bl_ofL (l : List UInt8) : bl (ofL l) = l := by simp [bl, ofL]
theorem ofL_bl (s : ByteArray) : ofL (bl s) = s := Lib.mk_data s
theorem ofL_size (l : List UInt8) : (ofL l).size = l.length := by rw [← bl_len, bl_ofL]
theorem extract_ofL (s : ByteArray) (a b : Nat) : s.extract a b = ofL (((bl s).drop a).take (b - a)) := Lib.extract_eq s a b
/-- how long the first token of a text is -/
def mF (r : List UInt8) : Nat := max (alongL r) 1
theorem mF_pos (r : List UInt8) : 1 ≤ mF r := by unfold mF; omega
theorem mF_le {r : List UInt8} (h : r ≠ []) : mF r ≤ r.length := by
  have := alongL_le r
  have : 0 < r.length := List.length_pos_iff.2 h
  unfold mF
  omega
theorem passL_le : ∀ (l : List UInt8) (e i : Bool), (passL e i l).1 ≤ l.length
  | [], _, _ => Nat.le_refl _
  | c :: l, e, i => by
    have h1 := passL_le l true false
    have h2 := passL_le l e true
    have h3 := passL_le l e i
    rw [passL, List.length_cons]
    repeat' split
    all_goals simp only
    all_goals omega
def lineTk : Tk := ⟨4, ⟨#[]⟩, 0⟩
/-- one token more, behind an end of a line if one is told and there is one ahead -/
def withLine (e : Bool) (L : List Tk) (t : Tk) : List Tk := if e = true ∧ L ≠ [] then L ++ [lineTk] ++ [t] else L ++ [t]
/-- the tokens of a text that begins with one, behind those that are there; or how many bytes are left where none begins -/
def cutE (r : List UInt8) (e : Bool) (L : List Tk) : Except Nat (List Tk) :=
  if _h : r = [] then .ok L else
    match tokF (ofL (r.take (mF r))) with
    | none => .error r.length
    | some t => cutE ((r.drop (mF r)).drop (passL false false (r.drop (mF r))).1) (passL false false (r.drop (mF r))).2 (withLine e L t)
termination_by r.length
decreasing_by
  have h1 := mF_pos r
  have : 0 < r.length := List.length_pos_iff.2 _h
  simp only [List.length_drop]
  omega
theorem cutE_nil (e : Bool) (L : List Tk) : cutE [] e L = .ok L := by rw [cutE]; simp
theorem cutE_bad {r : List UInt8} (h : r ≠ []) (ht : tokF (ofL (r.take (mF r))) = none) (e : Bool) (L : List Tk) : cutE r e L = .error r.length := by
  rw [cutE, dif_neg h, ht]
theorem cutE_on {r : List UInt8} {t : Tk} (h : r ≠ []) (ht : tokF (ofL (r.take (mF r))) = some t) (e : Bool) (L : List Tk) :
    cutE r e L = cutE ((r.drop (mF r)).drop (passL false false (r.drop (mF r))).1) (passL false false (r.drop (mF r))).2 (withLine e L t) := by
  rw [cutE, dif_neg h, ht]
/-- the tokens of a text, or how many bytes are left where none begins -/
def cutG (l : List UInt8) : Except Nat (List Tk) := cutE (l.drop (passL false false l).1) (passL false false l).2 []
/-- what Cut gives of n bytes: tokens, a place, an error -/
def cutH (n : Nat) (R : Except Nat (List Tk)) : List Tk × Int × Int :=
  match R with
  | .error q => ([], ((n - q : Nat) : Int), 6)
  | .ok L => if 4096 < L.length then ([], 0, 2) else (L, (n : Int), 0)
def cutF (l : List UInt8) : List Tk × Int × Int := if 65536 < l.length then ([], 0, 2) else cutH l.length (cutG l)
theorem tokF_text {s : ByteArray} {t : Tk} (h0 : s.size ≠ 0) (h : tokF s = some t) : t.s = s := by
  unfold tokF at h
  rw [if_neg h0] at h
  repeat' split at h
  all_goals first | (injection h with h; rw [← h]) | cases h
/-- from a place on -/
theorem passAt_fst (l : List UInt8) (k : Nat) : passAt l k false false = (k + (passL false false (l.drop k)).1, (passL false false (l.drop k)).2) := rfl
theorem withLine_length (e : Bool) (L : List Tk) (t : Tk) : (withLine e L t).length ≤ L.length + 2 := by
  unfold withLine
  split <;> simp
end Go.Proofs.YtgkngimeokhhgaaDoor
/- Texts put together, and their tokens: plain mathematics. -/
namespace Go.Proofs.YtgkngimeokhhgaaDoor
open Go.RowKit

/-- the tokens from a place on where a line has ended, or not, behind those that are there -/
def cutQ (e : Bool) (l : List UInt8) (L : List Tk) : Except Nat (List Tk) := cutE (l.drop (passL e false l).1) (passL e false l).2 L
theorem cutG_eq (l : List UInt8) : cutG l = cutQ false l [] := rfl
theorem cutE_next {r : List UInt8} {t : Tk} (h : r ≠ []) (ht : tokF (ofL (r.take (mF r))) = some t) (e : Bool) (L : List Tk) : cutE r e L = cutQ false (r.drop (mF r)) (withLine e L t) := cutE_on h ht e L
theorem kb10 : kb 10 = 2 := by decide
theorem ld10 : isLD 10 = false := by decide
theorem passL_cat : ∀ (l y : List UInt8) (e i : Bool), passL e i (l ++ 10 :: y) = if (passL e i l).1 = l.length then (l.length + 1 + (passL true false y).1, (passL true false y).2) else passL e i l
  | [], y, e, i => by
    show passL e i (10 :: y) = (0 + 1 + (passL true false y).1, (passL true false y).2)
    rw [passL, if_pos kb10, Nat.zero_add, Nat.add_comm]
  | c :: l, y, e, i => by
    have h1 := passL_cat l y true false
    have h2 := passL_cat l y e true
    have h3 := passL_cat l y e i
    rw [List.cons_append, passL, passL, h1, h2, h3]
    by_cases k2 : kb c = 2
    · simp only [if_pos k2, List.length_cons, Nat.add_right_cancel_iff]
      split
      · simp only [Prod.mk.injEq, and_true]; omega
      · rfl
    · by_cases k3 : kb c = 3
      · simp only [if_neg k2, if_pos k3, List.length_cons, Nat.add_right_cancel_iff]
        split
        · simp only [Prod.mk.injEq, and_true]; omega
        · rfl
      · by_cases k1 : kb c ≠ 1 ∧ i = false
        · simp only [if_neg k2, if_neg k3, if_pos k1, List.length_cons]
          rw [if_neg (by omega)]
        · simp only [if_neg k2, if_neg k3, if_neg k1, List.length_cons, Nat.add_right_cancel_iff]
          split
          · simp only [Prod.mk.injEq, and_true]; omega
          · rfl
theorem alongL_cat : ∀ (r y : List UInt8), alongL (r ++ 10 :: y) = alongL r
  | [], y => by simp [alongL, ld10]
  | c :: r, y => by
    have h := alongL_cat r y
    unfold alongL at h ⊢
    rw [List.cons_append, List.takeWhile_cons, List.takeWhile_cons]
    split
    · rw [List.length_cons, h, List.length_cons]
    · rfl
theorem mF_cat (r y : List UInt8) : mF (r ++ 10 :: y) = mF r := by unfold mF; rw [alongL_cat]
/-- what stands behind an end of a line is cut behind what stands ahead of it -/
theorem cutQ_cat (n : Nat) : ∀ (l : List UInt8), l.length ≤ n → ∀ (y : List UInt8) (e : Bool) (L : List Tk), cutQ e (l ++ 10 :: y) L = match cutQ e l L with | .ok L' => cutQ true y L' | .error q => .error (q + 1 + y.length) := by
  induction n with
  | zero =>
    intro l hl y e L
    obtain rfl : l = [] := List.eq_nil_of_length_eq_zero (by omega)
    show cutE _ _ _ = match cutE [] e L with | .ok L' => cutQ true y L' | .error q => .error (q + 1 + y.length)
    rw [cutE_nil, List.nil_append, passL, if_pos kb10]
    rfl
  | succ n ih =>
    intro l hl y e L
    by_cases hp : (passL e false l).1 = l.length
    · have h1 : cutQ e l L = .ok L := by
        unfold cutQ
        rw [hp, List.drop_of_length_le (Nat.le_refl _), cutE_nil]
      rw [h1]
      unfold cutQ
      rw [passL_cat, if_pos hp]
      simp only
      rw [Nat.add_assoc, List.drop_append, Nat.add_sub_cancel_left, Nat.add_comm 1, List.drop_succ_cons, List.drop_of_length_le (by omega), List.nil_append]
    · have hle := passL_le l e false
      have h0 : l.drop (passL e false l).1 ≠ [] := by
        intro h
        have := congrArg List.length h
        rw [List.length_drop] at this
        simp at this
        omega
      have hcat : (l ++ 10 :: y).drop (passL e false l).1 = l.drop (passL e false l).1 ++ 10 :: y := by
        rw [List.drop_append, show (passL e false l).1 - l.length = 0 by omega, List.drop_zero]
      unfold cutQ
      rw [passL_cat, if_neg hp, hcat]
      generalize hr : l.drop (passL e false l).1 = r at *
      generalize (passL e false l).2 = e'
      have hrl : r.length ≤ l.length := by rw [← hr, List.length_drop]; omega
      have hm := mF_le h0
      have hm1 := mF_pos r
      have hne : r ++ 10 :: y ≠ [] := by simp
      have htk : (r ++ 10 :: y).take (mF r) = r.take (mF r) := by rw [List.take_append, show mF r - r.length = 0 by omega, List.take_zero, List.append_nil]
      have hdr : (r ++ 10 :: y).drop (mF r) = r.drop (mF r) ++ 10 :: y := by rw [List.drop_append, show mF r - r.length = 0 by omega, List.drop_zero]
      cases ht : tokF (ofL (r.take (mF r))) with
      | none =>
        rw [cutE_bad h0 ht, cutE_bad hne (by rw [mF_cat, htk]; exact ht)]
        simp only [List.length_append, List.length_cons]
        congr 1
        omega
      | some t =>
        rw [cutE_next h0 ht, cutE_next hne (t := t) (by rw [mF_cat, htk]; exact ht), mF_cat, hdr]
        exact ih _ (by rw [List.length_drop]; omega) y false _
theorem cutQ_line (l y : List UInt8) (e : Bool) (L : List Tk) : cutQ e (l ++ 10 :: y) L = match cutQ e l L with | .ok L' => cutQ true y L' | .error q => .error (q + 1 + y.length) := cutQ_cat l.length l (Nat.le_refl _) y e L
theorem passL_take : ∀ (l : List UInt8) (e i : Bool) (n : Nat), (passL e i l).1 ≤ n → passL e i (l.take n) = passL e i l
  | [], e, i, n, _ => by simp
  | c :: l, e, i, 0, h => by
    rw [List.take_zero]
    rw [passL] at h ⊢
    rw [passL]
    split at h
    · simp at h
    · split at h
      · simp at h
      · split at h
        · rename_i h2 h3 h1
          rw [if_neg h2, if_neg h3, if_pos h1]
        · simp at h
  | c :: l, e, i, n + 1, h => by
    have h1 := passL_take l true false n
    have h2 := passL_take l e true n
    have h3 := passL_take l e i n
    rw [List.take_succ_cons, passL, passL]
    rw [passL] at h
    split
    · rename_i k2
      rw [if_pos k2] at h
      rw [h1 (by simpa using h)]
    · rename_i k2
      rw [if_neg k2] at h
      split
      · rename_i k3
        rw [if_pos k3] at h
        rw [h2 (by simpa using h)]
      · rename_i k3
        rw [if_neg k3] at h
        split
        · rfl
        · rename_i k1
          rw [if_neg k1] at h
          rw [h3 (by simpa using h)]
theorem takeWhile_take {α : Type} (p : α → Bool) : ∀ (l : List α) (n : Nat), (l.takeWhile p).length ≤ n → ((l.take n).takeWhile p).length = (l.takeWhile p).length
  | [], n, _ => by simp
  | c :: l, 0, h => by
    rw [List.takeWhile_cons] at h ⊢
    split at h
    · simp at h
    · rename_i hc; simp [hc]
  | c :: l, n + 1, h => by
    rw [List.takeWhile_cons] at h
    rw [List.take_succ_cons, List.takeWhile_cons, List.takeWhile_cons]
    split
    · rename_i hc
      rw [if_pos hc] at h
      rw [List.length_cons, List.length_cons, takeWhile_take p l n (by simpa using h)]
    · rfl
theorem mF_take (r : List UInt8) (n : Nat) (h : mF r ≤ n) : mF (r.take n) = mF r := by
  unfold mF alongL at *
  rw [takeWhile_take isLD r n (by omega)]
/-- where a text is none, what stands ahead of its first wrong token is one -/
theorem cutQ_ahead (n : Nat) : ∀ (l : List UInt8), l.length ≤ n → ∀ (e : Bool) (L : List Tk) (q : Nat), cutQ e l L = .error q → 1 ≤ q ∧ q ≤ l.length ∧ ∃ L', cutQ e (l.take (l.length - q)) L = .ok L' := by
  induction n with
  | zero =>
    intro l hl e L q h
    obtain rfl : l = [] := List.eq_nil_of_length_eq_zero (by omega)
    unfold cutQ at h
    rw [List.drop_nil, cutE_nil] at h
    cases h
  | succ n ih =>
    intro l hl e L q h
    have hle := passL_le l e false
    unfold cutQ at h
    have hl2 : (l.drop (passL e false l).1).length = l.length - (passL e false l).1 := List.length_drop
    by_cases h0 : l.drop (passL e false l).1 = []
    · rw [h0, cutE_nil] at h; cases h
    · generalize hr : l.drop (passL e false l).1 = r at *
      have hm := mF_le h0
      have hm1 := mF_pos r
      cases ht : tokF (ofL (r.take (mF r))) with
      | none =>
        rw [cutE_bad h0 ht] at h
        injection h with h
        have : 0 < r.length := List.length_pos_iff.2 h0
        refine ⟨by omega, by omega, L, ?_⟩
        unfold cutQ
        rw [show l.length - q = (passL e false l).1 by omega, passL_take _ _ _ _ (Nat.le_refl _), List.drop_of_length_le (by rw [List.length_take]; omega), cutE_nil]
      | some t =>
        rw [cutE_next h0 ht] at h
        obtain ⟨a, b, L', c⟩ := ih _ (by rw [List.length_drop]; omega) _ _ _ h
        rw [List.length_drop] at b c
        refine ⟨a, by omega, L', ?_⟩
        have hb : q ≤ r.length - mF r := b
        unfold cutQ
        rw [passL_take _ _ _ _ (by omega), List.drop_take, hr]
        have e1 : mF (r.take (l.length - q - (passL e false l).1)) = mF r := mF_take _ _ (by omega)
        have hne : r.take (l.length - q - (passL e false l).1) ≠ [] := by
          intro h
          have h2 := congrArg List.length h
          rw [List.length_take, List.length_nil] at h2
          omega
        rw [cutE_next hne (t := t) (by rw [e1, List.take_take, Nat.min_eq_left (by omega)]; exact ht), e1, List.drop_take, show l.length - q - (passL e false l).1 - mF r = r.length - mF r - q by omega]
        exact c
theorem cutG_ahead {l : List UInt8} {q : Nat} (h : cutG l = .error q) : 1 ≤ q ∧ q ≤ l.length ∧ ∃ L', cutG (l.take (l.length - q)) = .ok L' := cutQ_ahead l.length l (Nat.le_refl _) false [] q h
/-- tokens that are there, behind others -/
theorem withLine_behind (e : Bool) (K L : List Tk) (t : Tk) (h : L ≠ []) : withLine e (K ++ L) t = K ++ withLine e L t := by
  unfold withLine
  by_cases he : e = true
  · rw [if_pos ⟨he, by simp [h]⟩, if_pos ⟨he, h⟩]; simp
  · rw [if_neg (fun h => he h.1), if_neg (fun h => he h.1)]; simp
theorem withLine_ne (e : Bool) (L : List Tk) (t : Tk) : withLine e L t ≠ [] := by unfold withLine; split <;> simp
theorem cutE_behind (n : Nat) : ∀ (r : List UInt8), r.length ≤ n → ∀ (e : Bool) (K L : List Tk), L ≠ [] → cutE r e (K ++ L) = (cutE r e L).map (K ++ ·) := by
  induction n with
  | zero =>
    intro r hr e K L hL
    obtain rfl : r = [] := List.eq_nil_of_length_eq_zero (by omega)
    rw [cutE_nil, cutE_nil]; rfl
  | succ n ih =>
    intro r hr e K L hL
    by_cases h0 : r = []
    · subst h0; rw [cutE_nil, cutE_nil]; rfl
    · have hm := mF_le h0
      have hm1 := mF_pos r
      cases ht : tokF (ofL (r.take (mF r))) with
      | none => rw [cutE_bad h0 ht, cutE_bad h0 ht]; rfl
      | some t =>
        rw [cutE_next h0 ht, cutE_next h0 ht, withLine_behind e K L t hL]
        exact ih _ (by rw [List.length_drop, List.length_drop]; omega) _ K _ (withLine_ne _ _ _)
/-- tokens behind others: an end of a line between, if one is told -/
theorem cutE_more {r : List UInt8} (h0 : r ≠ []) (e : Bool) (L : List Tk) (hL : L ≠ []) : cutE r e L = (cutE r e []).map ((L ++ if e then [lineTk] else []) ++ ·) := by
  cases ht : tokF (ofL (r.take (mF r))) with
  | none => rw [cutE_bad h0 ht, cutE_bad h0 ht]; rfl
  | some t =>
    rw [cutE_next h0 ht, cutE_next h0 ht]
    have h1 : withLine e [] t = [t] := by unfold withLine; rw [if_neg (fun h => h.2 rfl)]; rfl
    have h2 : withLine e L t = (L ++ if e then [lineTk] else []) ++ [t] := by
      unfold withLine
      cases e
      · rw [if_neg (by simp)]; simp
      · rw [if_pos ⟨rfl, hL⟩]; simp
    rw [h1, h2]
    unfold cutQ
    exact cutE_behind _ _ (Nat.le_refl _) _ _ _ (by simp)
theorem passL_e : ∀ (l : List UInt8) (e i : Bool), (passL e i l).1 = (passL false i l).1 ∧ (passL e i l).2 = (e || (passL false i l).2)
  | [], e, i => by simp [passL]
  | c :: l, e, i => by
    have h2 := passL_e l e true
    have h3 := passL_e l e i
    rw [passL, passL]
    split
    · have h1 := passL_true l false
      simp [h1]
    · split
      · simp [h2]
      · split
        · simp
        · simp [h3]
where
  passL_true : ∀ (l : List UInt8) (i : Bool), (passL true i l).2 = true
    | [], i => rfl
    | c :: l, i => by
      have h1 := passL_true l false
      have h2 := passL_true l true
      have h3 := passL_true l i
      rw [passL]
      repeat' split
      all_goals first | exact h1 | exact h2 | exact h3 | rfl
theorem cutQ_first (e : Bool) (l : List UInt8) : cutQ e l [] = cutQ false l [] := by
  unfold cutQ
  obtain ⟨h1, _⟩ := passL_e l e false
  rw [h1]
  by_cases h0 : l.drop (passL false false l).1 = []
  · rw [h0, cutE_nil, cutE_nil]
  · cases ht : tokF (ofL ((l.drop (passL false false l).1).take (mF (l.drop (passL false false l).1)))) with
    | none => rw [cutE_bad h0 ht, cutE_bad h0 ht]
    | some t =>
      rw [cutE_next h0 ht, cutE_next h0 ht]
      have h : ∀ e, withLine e [] t = [t] := fun e => by unfold withLine; rw [if_neg (fun h => h.2 rfl)]; rfl
      rw [h, h]
theorem cutE_ne {r : List UInt8} (h0 : r ≠ []) (e : Bool) : cutE r e [] ≠ .ok [] := by
  cases ht : tokF (ofL (r.take (mF r))) with
  | none => rw [cutE_bad h0 ht]; intro h; cases h
  | some t =>
    rw [cutE_next h0 ht]
    have h1 : withLine e [] t = [t] := by unfold withLine; rw [if_neg (fun h => h.2 rfl)]; rfl
    rw [h1]
    unfold cutQ
    have := cutE_behind _ ((r.drop (mF r)).drop (passL false false (r.drop (mF r))).1) (Nat.le_refl _) (passL false false (r.drop (mF r))).2 [t] [t] (by simp)
    intro h
    rw [h] at this
    have h2 := cutE_len _ ((r.drop (mF r)).drop (passL false false (r.drop (mF r))).1) (Nat.le_refl _) (passL false false (r.drop (mF r))).2 [t] [] h
    simp at h2
where
  cutE_len (n : Nat) : ∀ (r : List UInt8), r.length ≤ n → ∀ (e : Bool) (L M : List Tk), cutE r e L = .ok M → L.length ≤ M.length := by
    induction n with
    | zero =>
      intro r hr e L M h
      obtain rfl : r = [] := List.eq_nil_of_length_eq_zero (by omega)
      rw [cutE_nil] at h; injection h with h; subst h; exact Nat.le_refl _
    | succ n ih =>
      intro r hr e L M h
      by_cases h0 : r = []
      · subst h0; rw [cutE_nil] at h; injection h with h; subst h; exact Nat.le_refl _
      · have hm := mF_le h0
        have hm1 := mF_pos r
        cases ht : tokF (ofL (r.take (mF r))) with
        | none => rw [cutE_bad h0 ht] at h; cases h
        | some t =>
          rw [cutE_next h0 ht] at h
          have := ih _ (by rw [List.length_drop, List.length_drop]; omega) _ _ _ h
          have h2 : L.length ≤ (withLine e L t).length := by unfold withLine; split <;> simp
          omega
/-- behind an end of a line -/
theorem cutQ_behind {l : List UInt8} {B : List Tk} (h : cutQ false l [] = .ok B) (L : List Tk) (hL : L ≠ []) : cutQ true l L = .ok (if B = [] then L else L ++ [lineTk] ++ B) := by
  have h' := (cutQ_first true l).trans h
  unfold cutQ at h' ⊢
  obtain ⟨h1, h2⟩ := passL_e l true false
  rw [h2, Bool.true_or] at h' ⊢
  by_cases h0 : l.drop (passL true false l).1 = []
  · rw [h0, cutE_nil] at h' ⊢
    injection h' with h'
    subst h'
    rw [if_pos rfl]
  · have hB : B ≠ [] := by
      intro e
      subst e
      exact cutE_ne h0 _ h'
    rw [cutE_more h0 true L hL, h', if_neg hB, if_pos rfl]
    rfl
end Go.Proofs.YtgkngimeokhhgaaDoor
/- Tokens: how they read; slices of the call's own of them, and one more behind them. -/
namespace Go.Proofs.YtgkngimeokhhgaaDoor
open Go.RowKit

/-- numbers and texts that Go holds -/
def Tk.ok (t : Tk) : Prop := -9223372036854775808 ≤ t.k ∧ t.k ≤ 9223372036854775807 ∧ -9223372036854775808 ≤ t.n ∧ t.n ≤ 9223372036854775807 ∧ t.s.size ≤ maxLen
def cellsT : List Tk → List Value
  | [] => []
  | x :: ss => .int .i64 x.k :: .string x.s :: .int .i64 x.n :: cellsT ss
theorem cellsT_length (ss : List Tk) : (cellsT ss).length = 3 * ss.length := by
  induction ss with
  | nil => rfl
  | cons x ss ih => simp only [cellsT, List.length_cons, ih]; omega
theorem cellsT_append (a b : List Tk) : cellsT (a ++ b) = cellsT a ++ cellsT b := by
  induction a with
  | nil => rfl
  | cons x a ih => simp only [List.cons_append, cellsT, ih]
theorem cellsT_at {ss : List Tk} {k : Nat} {x : Tk} (h : ss[k]? = some x) : (cellsT ss)[3 * k]? = some (.int .i64 x.k) ∧ (cellsT ss)[3 * k + 1]? = some (.string x.s) ∧ (cellsT ss)[3 * k + 2]? = some (.int .i64 x.n) := by
  induction ss generalizing k with
  | nil => simp at h
  | cons y ss ih =>
    cases k with
    | zero => simp at h; subst h; exact ⟨rfl, rfl, rfl⟩
    | succ k =>
      have := ih (k := k) (by simpa using h)
      exact ⟨by rw [← this.1]; rfl, by rw [← this.2.1]; rfl, by rw [← this.2.2]; rfl⟩
/-- the header (A, n) leads to the tokens ss, in blocks below B -/
def Toks (w : World) (B : Nat) (A : Option Addr) (n : Nat) (ss : List Tk) : Prop :=
  ss.length = n ∧ (∀ x ∈ ss, x.ok) ∧
  (0 < n → ∃ b off, A = some ⟨b, off, none⟩ ∧ b < B ∧ ∀ (k : Nat) (x : Tk), ss[k]? = some x → w.cell? ⟨b, off + k * 3, none⟩ = some (.int .i64 x.k) ∧ w.cell? ⟨b, off + k * 3 + 1, none⟩ = some (.string x.s) ∧ w.cell? ⟨b, off + k * 3 + 2, none⟩ = some (.int .i64 x.n))
section
variable {w w' : World} {B B' n : Nat} {A : Option Addr} {ss : List Tk}
theorem Toks.nil_ : Toks w B A 0 [] := ⟨rfl, by simp, fun h => absurd h (by omega)⟩
theorem Toks.keep (h : Toks w B A n ss) (hk : ∀ p : Addr, p.block < B → w'.cell? p = w.cell? p) : Toks w' B A n ss := by
  obtain ⟨hl, hb, hc⟩ := h
  refine ⟨hl, hb, fun hn => ?_⟩
  obtain ⟨b, off, e, hB, hx⟩ := hc hn
  exact ⟨b, off, e, hB, fun k x hx' => ⟨(hk _ hB).trans (hx k x hx').1, (hk _ hB).trans (hx k x hx').2.1, (hk _ hB).trans (hx k x hx').2.2⟩⟩
theorem Toks.more (h : Toks w B A n ss) (hB : B ≤ B') : Toks w B' A n ss := by
  obtain ⟨hl, hb, hc⟩ := h
  refine ⟨hl, hb, fun hn => ?_⟩
  obtain ⟨b, off, e, hB', hx⟩ := hc hn
  exact ⟨b, off, e, by omega, hx⟩
theorem Toks.below (h : Toks w B A n ss) (hb : Below B w w') : Toks w' B A n ss := h.keep fun _ hp => hb.cell hp
theorem Toks.drewN (h : Toks w B A n ss) (k : Nat) : Toks (w.drewN k) B A n ss := h
theorem Toks.at_ {k : Nat} (h : Toks w B A n ss) (hk : k < n) :
    ∃ b off x, A = some ⟨b, off, none⟩ ∧ b < B ∧ Hid (ss[k]? = some x) ∧ w.cell? ⟨b, off + k * 3, none⟩ = some (.int .i64 x.k) ∧ w.cell? ⟨b, off + k * 3 + 1, none⟩ = some (.string x.s) ∧ w.cell? ⟨b, off + k * 3 + 2, none⟩ = some (.int .i64 x.n) ∧ x.ok := by
  obtain ⟨hl, hb, hc⟩ := h
  obtain ⟨b, off, rfl, hB, hx⟩ := hc (by omega)
  have hk' : k < ss.length := by omega
  have hm := hb _ (List.getElem_mem hk')
  have hx' := hx k _ (List.getElem?_eq_getElem hk')
  exact ⟨b, off, ss[k], rfl, hB, List.getElem?_eq_getElem hk', hx'.1, hx'.2.1, hx'.2.2, hm⟩
end
set_option maxRecDepth 100000 in
theorem infoTok : (Tryd.prog.info? 110).map (fun i => (i.zero, i.size, i.bytes)) = some (some (.agg #[.int .i64 0, .string ⟨#[]⟩, .int .i64 0]), 3, 32) := by kernel_rfl
/-- a slice of the call's own, of tokens -/
def OwnT (w : World) (base : Nat) (A : Option Addr) (c : Nat) (ss : List Tk) : Prop := w.ownsRow base 110 3 (.slice A ss.length c) ss.length (cellsT ss)
section
variable {w w' : World} {base B c : Nat} {A : Option Addr} {ss : List Tk}
theorem OwnT.nil_ (w : World) (base : Nat) : OwnT w base none 0 [] := w.ownsRow_nil base _ 3
theorem OwnT.below (h : OwnT w base A c ss) (hb : Below B w w') (hB : w.heap.size ≤ B) : OwnT w' base A c ss :=
  World.ownsRow.kept h ⟨hb.os, hb.tape, hb.output, hb.size, fun i hi _ => hb.block i (by omega)⟩ (row := none) (by cases hh : (Value.slice A ss.length c).ownBlock with | none => exact .inl rfl | some k => exact .inr (by simp))
theorem OwnT.alloc (h : OwnT w base A c ss) (o : Obj) : OwnT (w.alloc o) base A c ss := World.ownsRow.alloc h o
theorem OwnT.lt {g : Nat} (h : OwnT w base (some ⟨g, 0, none⟩) c ss) : base ≤ g ∧ g < w.heap.size := World.ownsRow.lt h g rfl
theorem OwnT.heap (h : OwnT w base A c ss) : A = none ∨ ∃ g cur, A = some ⟨g, 0, none⟩ ∧ base ≤ g ∧ w.heap[g]? = some (.cells cur 110 (0, 0)) := by
  rcases h.2 with ⟨h1, _⟩ | ⟨g, cap, cur, h1, h2, h3, _⟩
  · injection h1 with h1; exact .inl h1
  · injection h1 with h1; exact .inr ⟨g, cur, h1, h2, h3⟩
theorem OwnT.same (h : OwnT w base A c ss) (hq : ∀ b, A = some ⟨b, 0, none⟩ → w'.heap[b]? = w.heap[b]?) : OwnT w' base A c ss := by
  refine ⟨h.1, ?_⟩
  rcases h.2 with h1 | ⟨b, cap, cur, h1, h2, h3, h4⟩
  · exact .inl h1
  · refine .inr ⟨b, cap, cur, h1, h2, ?_, h4⟩
    injection h1 with h1
    rw [hq b h1]; exact h3
theorem OwnT.rows (h : OwnT w base A c ss) : ∀ (k : Nat) (x : Tk), ss[k]? = some x → ∃ g, A = some ⟨g, 0, none⟩ ∧ base ≤ g ∧ g < w.heap.size ∧ w.cell? ⟨g, 3 * k, none⟩ = some (.int .i64 x.k) ∧ w.cell? ⟨g, 3 * k + 1, none⟩ = some (.string x.s) ∧ w.cell? ⟨g, 3 * k + 2, none⟩ = some (.int .i64 x.n) := by
  intro k x hx
  have hk := (List.getElem?_eq_some_iff.1 hx).1
  rcases h.2 with ⟨_, h1⟩ | ⟨g, cap, cur, hv, hb, hg, _, _, _, hr⟩
  · omega
  · have hA : A = some ⟨g, 0, none⟩ := by injection hv
    obtain ⟨c1, c2, c3⟩ := cellsT_at hx
    have hl := cellsT_length ss
    refine ⟨g, hA, hb, (Array.getElem?_eq_some_iff.1 hg).1, (cell_of_row _ _ _ _ _ _ hg).trans ?_, (cell_of_row _ _ _ _ _ _ hg).trans ?_, (cell_of_row _ _ _ _ _ _ hg).trans ?_⟩
    · rw [← hr, List.getElem?_take] at c1
      split at c1
      · simpa using c1
      · cases c1
    · rw [← hr, List.getElem?_take] at c2
      split at c2
      · simpa using c2
      · cases c2
    · rw [← hr, List.getElem?_take] at c3
      split at c3
      · simpa using c3
      · cases c3
/-- tokens of the call's own read as tokens -/
theorem OwnT.toks (h : OwnT w base A c ss) (hx : ∀ x ∈ ss, x.ok) : Toks w w.heap.size A ss.length ss := by
  refine ⟨rfl, hx, fun h0 => ?_⟩
  obtain ⟨g, e, _, hlt, _⟩ := h.rows 0 _ (List.getElem?_eq_getElem h0)
  refine ⟨g, 0, e, hlt, fun k x hk => ?_⟩
  obtain ⟨g', e', _, _, a1, a2, a3⟩ := h.rows k x hk
  rw [e] at e'
  injection e' with e'; injection e' with e'
  subst e'
  rw [Nat.zero_add, Nat.mul_comm k 3]
  exact ⟨a1, a2, a3⟩
theorem OwnT.lenCap (h : OwnT w base A c ss) : ss.length ≤ c := by
  rcases h.2 with ⟨h1, h2⟩ | ⟨g, cap, cur, h1, _, _, h5, _⟩
  · omega
  · injection h1 with _ _ h1; omega
end
/-- one token more, and what was written -/
theorem wpList_appendTok {ops : Array Oper} {rest : List Oper} {o : Oper} {a : Act} {w : World} {Q : Exit → Act → World → Prop}
    (hg : o.guard = none) (s x : Operand) (hop : o.op = Op.call { callee := Callee.builtin Builtin.append, args := #[s, x], argTypes := #[84, 84] })
    (base : Nat) (A : Option Addr) (c p r g : Nat) (y : Tk) (L : List Tk) (hgz : w.heap.size = g) (hs : a.eval s = .slice A p c) (hx : a.eval x = .slice (some ⟨g, 0, none⟩) 1 1)
    (ho : OwnT w base A c L) (hp : L.length = p) (hr : p + 1 = r) (hl : r ≤ 1000000) (hb : base ≤ w.heap.size)
    (hK : ∀ A' c' w', OwnT w' base A' c' (L ++ [y]) → w.grownBy w' (Value.slice A p c).ownBlock → wpList Tryd.prog ops Q rest (a.put o.dst (.slice A' r c')) w') :
    wpList Tryd.prog ops Q (o :: rest) a (w.alloc (.cells #[.int .i64 y.k, .string y.s, .int .i64 y.n] 110)) := by
  obtain ⟨i, hi, hz, h1, h2⟩ := info_parts infoTok
  subst hp
  subst hr
  subst hgz
  refine wpList_append_own _ hg s x 84 hop base 110 i (.agg #[.int .i64 0, .string ⟨#[]⟩, .int .i64 0]) 3 32 Tryd.underlying84 hi hz h1 h2 (by rfl) (by decide) _ L.length (cellsT L) hs (World.ownsRow.alloc ho _) ⟨w.heap.size, 0, none⟩ 1 1 [.int .i64 y.k, .string y.s, .int .i64 y.n] hx rfl ?_ (by simp [Value.oneCell']) (by unfold maxLen; omega) (by omega) (by simp; omega) ?_
  · intro j u hj
    match j, hj with
    | 0, hj => simp at hj; subst hj; simp [Addr.add]
    | 1, hj => simp at hj; subst hj; simp [Addr.add]
    | 2, hj => simp at hj; subst hj; simp [Addr.add]
    | j + 3, hj => simp at hj
  · intro v' w' hown hgr _
    obtain ⟨A', c', rfl⟩ : ∃ A' c', v' = .slice A' (L.length + 1) c' := by
      rcases hown.2 with ⟨rfl, h0⟩ | ⟨g, cap, cur, rfl, _⟩
      · omega
      · exact ⟨_, _, rfl⟩
    refine hK A' c' w' ?_ ((World.grownBy_alloc w _ _).trans hgr)
    unfold OwnT
    rw [List.length_append, cellsT_append]
    exact hown
theorem block_keptT {w w' : World} {base' c' g p : Nat} {A' : Option Addr} {L : List Tk} {cs : Array Value} {t : TypeId} {fr : Nat × Nat} (h : w.heap[g]? = some (.cells cs t fr)) (hG : ∀ g', A' = some ⟨g', 0, none⟩ → g' ≠ g) (hg : w.grownBy w' (Value.slice A' p c').ownBlock) (hS : OwnT w base' A' c' L) : w'.heap[g]? = some (.cells cs t fr) := by
  refine (hg.block g (Array.getElem?_eq_some_iff.1 h).1 ?_).trans h
  rcases hS.heap with h1 | ⟨g', cur, h1, _, hh⟩
  · rw [h1]; simp [Value.ownBlock]
  · rw [h1]
    intro e
    exact hG g' h1 (by simpa [Value.ownBlock] using e.symm)
theorem below_appT {w1 W w3 : World} {base p c : Nat} {A : Option Addr} {xs : List Tk} (hb : Below base w1 W) (hg : W.grownBy w3 (Value.slice A p c).ownBlock) (ho : OwnT W base A c xs) (hs : base ≤ W.heap.size) : Below base w1 w3 :=
  hb.grown hg hs fun k hk => by
    rcases ho.heap with h1 | ⟨g', cur, h1, h2, _⟩
    · rw [h1] at hk; cases hk
    · rw [h1] at hk
      simp only [Value.ownBlock, Option.some.injEq] at hk
      omega
end Go.Proofs.YtgkngimeokhhgaaDoor
/- The tokens that Cut gives: each may be, and none is longer than what was cut. -/
namespace Go.Proofs.YtgkngimeokhhgaaDoor
open Go.RowKit

theorem numL_bound : ∀ (n : Nat) (l : List UInt8), l.length = n → (∀ c ∈ l, kb c = 5) → 0 ≤ numL l ∧ numL l < 10 ^ n := by
  intro n
  induction n with
  | zero =>
    intro l hl _
    obtain rfl := List.eq_nil_of_length_eq_zero hl
    exact ⟨by decide, by decide⟩
  | succ n ih =>
    intro l hl h
    rcases List.eq_nil_or_concat l with rfl | ⟨l, c, rfl⟩
    · simp at hl
    · rw [List.concat_eq_append] at hl h ⊢
      obtain ⟨a, b⟩ := ih l (by simpa using hl) (fun x hx => h x (by simp [hx]))
      have hc := dig_in (h c (by simp))
      rw [numL_snoc]
      exact ⟨by omega, ten_step b (by omega)⟩
theorem pow18 (k : Nat) (h : k ≤ 18) : (10 : Int) ^ k ≤ 1000000000000000000 := by
  have : ∀ k, k < 19 → (10 : Int) ^ k ≤ 1000000000000000000 := by decide
  exact this k (by omega)
theorem isNumL_bound {l : List UInt8} (h : isNumL l = true) : 0 ≤ numL l ∧ numL l < 1000000000000000000 := by
  unfold isNumL at h
  rw [decide_eq_true_iff] at h
  obtain ⟨h1, h2, _, h3⟩ := h
  have := numL_bound _ l rfl (fun c hc => by
    obtain ⟨j, hj, e⟩ := List.getElem_of_mem hc
    obtain ⟨d, e1, e2⟩ := h3 j hj
    rw [List.getElem?_eq_getElem hj, e] at e1
    injection e1 with e1
    rw [e1]; exact e2)
  have := pow18 l.length h2
  omega
/-- a token may be: it is the one whose text it has -/
def mayT (t : Tk) : Prop := tokF t.s = some t
theorem tokF_len {s : ByteArray} {t : Tk} (h : tokF s = some t) : s.size ≤ 18 := by
  unfold tokF at h
  split at h
  · omega
  · split at h
    · rename_i hw
      unfold isWordL at hw
      rw [decide_eq_true_iff, bl_len] at hw
      omega
    · split at h
      · rename_i hw
        unfold isNumL at hw
        rw [decide_eq_true_iff, bl_len] at hw
        omega
      · split at h
        · rename_i hw
          unfold isSignL at hw
          rw [decide_eq_true_iff, bl_len] at hw
          omega
        · cases h
theorem tokF_ok {s : ByteArray} {t : Tk} (h : tokF s = some t) : t.ok := by
  have hl := tokF_len h
  unfold tokF at h
  unfold Tk.ok
  split at h
  · injection h with h; subst h; exact ⟨by decide, by decide, by decide, by decide, by decide⟩
  · split at h
    · injection h with h; subst h; exact ⟨by simp only; omega, by simp only; omega, by simp only; omega, by simp only; omega, by unfold maxLen; simp only; omega⟩
    · split at h
      · rename_i hn
        have := isNumL_bound hn
        injection h with h; subst h; exact ⟨by simp only; omega, by simp only; omega, by simp only; omega, by simp only; omega, by unfold maxLen; simp only; omega⟩
      · split at h
        · injection h with h; subst h; exact ⟨by simp only; omega, by simp only; omega, by simp only; omega, by simp only; omega, by unfold maxLen; simp only; omega⟩
        · cases h
theorem mayT.ok {t : Tk} (h : mayT t) : t.ok := tokF_ok h
theorem line_may : mayT lineTk := by unfold mayT lineTk; rfl
theorem ofL_ne {r : List UInt8} (h : r ≠ []) : (ofL (r.take (mF r))).size ≠ 0 := by
  have := mF_pos r
  have := mF_le h
  rw [ofL_size, List.length_take]
  omega
/-- whatever holds of an end of a line, and of each token, holds of all that is cut -/
theorem cutE_all (P : Tk → Prop) (hl : P lineTk) (ht : ∀ s t, s.size ≠ 0 → tokF s = some t → P t) (n : Nat) : ∀ (r : List UInt8), r.length ≤ n → ∀ (e : Bool) (L M : List Tk), (∀ t ∈ L, P t) → cutE r e L = .ok M → ∀ t ∈ M, P t := by
  induction n with
  | zero =>
    intro r hr e L M hL h
    obtain rfl : r = [] := List.eq_nil_of_length_eq_zero (by omega)
    rw [cutE_nil] at h; injection h with h; subst h; exact hL
  | succ n ih =>
    intro r hr e L M hL h
    by_cases h0 : r = []
    · subst h0; rw [cutE_nil] at h; injection h with h; subst h; exact hL
    · have hm := mF_le h0
      have hm1 := mF_pos r
      cases hk : tokF (ofL (r.take (mF r))) with
      | none => rw [cutE_bad h0 hk] at h; cases h
      | some t =>
        rw [cutE_next h0 hk] at h
        refine ih _ (by rw [List.length_drop, List.length_drop]; omega) _ _ _ (fun x hx => ?_) h
        have hp := ht _ _ (ofL_ne h0) hk
        unfold withLine at hx
        split at hx
        · simp only [List.mem_append, List.mem_singleton] at hx
          rcases hx with (hx | rfl) | rfl
          · exact hL x hx
          · exact hl
          · exact hp
        · simp only [List.mem_append, List.mem_singleton] at hx
          rcases hx with hx | rfl
          · exact hL x hx
          · exact hp
theorem cutG_all (P : Tk → Prop) (hl : P lineTk) (ht : ∀ s t, s.size ≠ 0 → tokF s = some t → P t) {l : List UInt8} {M : List Tk} (h : cutG l = .ok M) : ∀ t ∈ M, P t :=
  cutE_all P hl ht _ _ (Nat.le_refl _) _ _ _ (by simp) h
theorem cutF_mem {l : List UInt8} : (cutF l).1 = [] ∨ cutG l = .ok (cutF l).1 := by
  unfold cutF
  split
  · exact .inl rfl
  · unfold cutH
    split
    · exact .inl rfl
    · split
      · exact .inl rfl
      · rename_i h _; exact .inr h
theorem cutF_may (l : List UInt8) : ∀ t ∈ (cutF l).1, mayT t := by
  rcases cutF_mem (l := l) with h | h
  · rw [h]; simp
  · exact cutG_all mayT line_may (fun s t hs h => by unfold mayT; rw [tokF_text hs h]; exact h) h
theorem cutF_ok (l : List UInt8) : ∀ t ∈ (cutF l).1, t.ok := fun t ht => (cutF_may l t ht).ok
theorem cutF_len (l : List UInt8) : (cutF l).1.length ≤ 4096 := by
  unfold cutF
  split
  · simp
  · unfold cutH
    split
    · simp
    · split
      · simp
      · simp only; omega
/-- a place that Cut tells -/
theorem cutF_at (l : List UInt8) : 0 ≤ (cutF l).2.1 ∧ (cutF l).2.1 ≤ l.length := by
  unfold cutF
  split
  · exact ⟨Int.le_refl _, by simp only; omega⟩
  · unfold cutH
    split
    · simp only; omega
    · split
      · simp only; omega
      · simp only; omega
theorem cutF_err (l : List UInt8) : (cutF l).2.2 = 0 ∨ (cutF l).2.2 = 2 ∨ (cutF l).2.2 = 6 := by
  unfold cutF
  split
  · simp
  · unfold cutH
    split
    · simp
    · split <;> simp
theorem cutF_bad {l : List UInt8} (h : (cutF l).2.2 = 6) : ∃ q, cutG l = .error q ∧ (cutF l).2.1 = ((l.length - q : Nat) : Int) ∧ l.length ≤ 65536 := by
  unfold cutF at h ⊢
  split at h
  · cases h
  · rename_i h1
    rw [if_neg h1]
    unfold cutH at h ⊢
    split at h
    · rename_i q hq
      exact ⟨q, hq, rfl, by omega⟩
    · split at h <;> cases h
theorem cutF_good {l : List UInt8} (h : (cutF l).2.2 = 0) : cutG l = .ok (cutF l).1 ∧ l.length ≤ 65536 ∧ (cutF l).2.1 = l.length := by
  unfold cutF at h ⊢
  split at h
  · cases h
  · rename_i h1
    rw [if_neg h1]
    unfold cutH at h ⊢
    split at h
    · cases h
    · rename_i L hL
      split at h
      · cases h
      · rename_i h4
        rw [hL]
        simp only [if_neg h4, and_true, true_and]
        omega
/-- what Cut gives of a text that is not too long -/
theorem cutF_of_ok {l : List UInt8} {L : List Tk} (h : cutG l = .ok L) (h1 : l.length ≤ 65536) (h2 : L.length ≤ 4096) : cutF l = (L, (l.length : Int), 0) := by
  unfold cutF
  rw [if_neg (by omega), h]
  unfold cutH
  simp only
  rw [if_neg (by omega)]
theorem cutF_of_bad {l : List UInt8} {q : Nat} (h : cutG l = .error q) (h1 : l.length ≤ 65536) : cutF l = ([], ((l.length - q : Nat) : Int), 6) := by
  unfold cutF
  rw [if_neg (by omega), h]
  rfl
end Go.Proofs.YtgkngimeokhhgaaDoor
/- A token at the front of a text. -/
namespace Go.Proofs.YtgkngimeokhhgaaDoor
open Go.RowKit

theorem mayT_text {t : Tk} (h : mayT t) (h4 : t.k ≠ 4) : t.s.size ≠ 0 := by
  intro h0
  unfold mayT tokF at h
  rw [if_pos h0] at h
  injection h with h
  exact h4 (by rw [← h])
/-- a text that begins with no letter and no digit -/
def offL (y : List UInt8) : Prop := y = [] ∨ ∃ c r, y = c :: r ∧ isLD c = false
theorem along_all {x y : List UInt8} (hx : ∀ c ∈ x, isLD c = true) (hy : offL y) : alongL (x ++ y) = x.length := by
  unfold alongL
  induction x with
  | nil =>
    rcases hy with rfl | ⟨c, r, rfl, hc⟩
    · rfl
    · simp [hc]
  | cons c x ih =>
    rw [List.cons_append, List.takeWhile_cons, if_pos (hx c (by simp)), List.length_cons, ih (fun d hd => hx d (by simp [hd])), List.length_cons]
theorem ld_of_along {x : List UInt8} (h : alongL x = x.length) : ∀ c ∈ x, isLD c = true := by
  unfold alongL at h
  induction x with
  | nil => simp
  | cons c x ih =>
    rw [List.takeWhile_cons] at h
    split at h
    · rename_i hc
      intro d hd
      rcases List.mem_cons.1 hd with rfl | hd
      · exact hc
      · exact ih (by simpa using h) d hd
    · simp at h
/-- a token's text, and what begins no letter or digit behind it -/
theorem token_front {t : Tk} (h : mayT t) (h4 : t.k ≠ 4) {y : List UInt8} (hy : offL y) : mF (bl t.s ++ y) = t.s.size ∧ ∃ c r, bl t.s = c :: r ∧ (kb c = 4 ∨ kb c = 5 ∨ kb c = 6) := by
  have h0 := mayT_text h h4
  have hl := bl_len t.s
  have hne : ∃ c r, bl t.s = c :: r := by
    cases e : bl t.s with
    | nil => rw [e] at hl; exact absurd hl.symm h0
    | cons c r => exact ⟨c, r, rfl⟩
  obtain ⟨c, r, ec⟩ := hne
  unfold mayT tokF at h
  rw [if_neg h0] at h
  split at h
  · rename_i hw
    unfold isWordL at hw
    rw [decide_eq_true_iff] at hw
    obtain ⟨_, ⟨c', e1, e2⟩, h3⟩ := hw
    refine ⟨?_, c, r, ec, ?_⟩
    · unfold mF
      rw [along_all (ld_of_along h3) hy, hl]
      omega
    · rw [ec] at e1
      simp at e1
      subst e1
      exact .inl e2
  · split at h
    · rename_i hw
      unfold isNumL at hw
      rw [decide_eq_true_iff] at hw
      obtain ⟨_, _, _, h3⟩ := hw
      have h5 : ∀ c ∈ bl t.s, kb c = 5 := fun c hc => by
        obtain ⟨j, hj, e⟩ := List.getElem_of_mem hc
        obtain ⟨d, e1, e2⟩ := h3 j hj
        rw [List.getElem?_eq_getElem hj, e] at e1
        injection e1 with e1
        rw [e1]; exact e2
      refine ⟨?_, c, r, ec, .inr (.inl (h5 c (by rw [ec]; simp)))⟩
      unfold mF
      rw [along_all (fun d hd => by unfold isLD; simp [h5 d hd]) hy, hl]
      omega
    · split at h
      · rename_i hw
        unfold isSignL at hw
        rw [decide_eq_true_iff] at hw
        obtain ⟨h1, c', e1, e2⟩ := hw
        rw [ec] at e1
        simp at e1
        subst e1
        refine ⟨?_, c, r, ec, .inr (.inr e2)⟩
        have hf : isLD c = false := by unfold isLD; simp [e2]
        rw [ec]
        unfold mF alongL
        simp [hf]
        omega
      · cases h
theorem passL_front {c : UInt8} {r : List UInt8} (h : kb c = 4 ∨ kb c = 5 ∨ kb c = 6) (e : Bool) : passL e false (c :: r) = (0, e) := by
  rw [passL, if_neg (by omega), if_neg (by omega), if_pos ⟨by omega, rfl⟩]
theorem cutQ_token {t : Tk} (h : mayT t) (h4 : t.k ≠ 4) {y : List UInt8} (hy : offL y) (e : Bool) (K : List Tk) : cutQ e (bl t.s ++ y) K = cutQ false y (withLine e K t) := by
  obtain ⟨hm, c, r, ec, hc⟩ := token_front h h4 hy
  have hp : passL e false (bl t.s ++ y) = (0, e) := by rw [ec]; exact passL_front hc e
  have hl := bl_len t.s
  have hne : bl t.s ++ y ≠ [] := by rw [ec]; simp
  have htk : tokF (ofL ((bl t.s ++ y).take (mF (bl t.s ++ y)))) = some t := by
    rw [hm, ← hl, List.take_left, ofL_bl]
    exact h
  rw [cutQ, hp]
  simp only [List.drop_zero]
  rw [cutE_next hne htk, hm, ← hl, List.drop_left]
end Go.Proofs.YtgkngimeokhhgaaDoor
/- A number's digits, and how they are cut: plain mathematics. -/
namespace Go.Proofs.YtgkngimeokhhgaaDoor
open Go.RowKit

theorem dig_byte : ∀ d, d < 10 → kb (UInt8.ofNat (48 + d)) = 5 ∧ (UInt8.ofNat (48 + d)).toNat = 48 + d := by decide
theorem dd_kb (u : Nat) : ∀ c ∈ Lib.decDigits u, kb c = 5 := by
  induction u using Nat.strongRecOn with
  | ind u ih =>
    rw [Lib.decDigits]
    split
    · rename_i h
      intro c hc
      rw [List.mem_singleton.1 hc]
      exact (dig_byte u h).1
    · intro c hc
      rw [List.mem_append, List.mem_singleton] at hc
      rcases hc with hc | rfl
      · exact ih (u / 10) (by omega) c hc
      · exact (dig_byte (u % 10) (by omega)).1
theorem dd_num (u : Nat) : numL (Lib.decDigits u) = u := by
  induction u using Nat.strongRecOn with
  | ind u ih =>
    rw [Lib.decDigits]
    split
    · rename_i h
      have := (dig_byte u h).2
      have e : numL [UInt8.ofNat (48 + u)] = 0 * 10 + (((UInt8.ofNat (48 + u)).toNat : Int) - 48) := rfl
      rw [e, this]
      omega
    · rw [numL_snoc, ih (u / 10) (by omega), (dig_byte (u % 10) (by omega)).2]
      omega
theorem dd_pos (u : Nat) : 1 ≤ (Lib.decDigits u).length := by
  rw [Lib.decDigits]
  split <;> simp
theorem dd_le : ∀ (k u : Nat), u < 10 ^ (k + 1) → (Lib.decDigits u).length ≤ k + 1
  | 0, u, h => by
    rw [Lib.decDigits, dif_pos (by simpa using h)]
    simp
  | k + 1, u, h => by
    rw [Lib.decDigits]
    split
    · simp
    · have := dd_le k (u / 10) (by rw [Nat.pow_succ] at h; omega)
      rw [List.length_append, List.length_singleton]
      omega
theorem dd_ge : ∀ (k u : Nat), 10 ^ k ≤ u → k + 1 ≤ (Lib.decDigits u).length
  | 0, u, _ => dd_pos u
  | k + 1, u, h => by
    have h10 : 10 ≤ u := by
      have : 1 ≤ 10 ^ k := Nat.one_le_pow _ _ (by decide)
      rw [Nat.pow_succ] at h
      omega
    rw [Lib.decDigits, dif_neg (by omega)]
    have := dd_ge k (u / 10) (by rw [Nat.pow_succ] at h; omega)
    rw [List.length_append, List.length_singleton]
    omega
theorem dd_head (u : Nat) (h : 1 ≤ u) : ∃ c r, Lib.decDigits u = c :: r ∧ c ≠ 48 := by
  induction u using Nat.strongRecOn with
  | ind u ih =>
    rw [Lib.decDigits]
    split
    · rename_i h10
      refine ⟨_, [], rfl, fun e => ?_⟩
      have := (dig_byte u h10).2
      rw [e] at this
      simp at this
      omega
    · obtain ⟨c, r, e, hc⟩ := ih (u / 10) (by omega) (by omega)
      exact ⟨c, r ++ [UInt8.ofNat (48 + u % 10)], by rw [e]; rfl, hc⟩
theorem dd_isNum (u : Nat) : isNumL (Lib.decDigits u) = decide (u < 1000000000000000000) := by
  have hkb := dd_kb u
  have hall : ∀ j < (Lib.decDigits u).length, ∃ c, (Lib.decDigits u)[j]? = some c ∧ kb c = 5 := fun j hj => ⟨_, List.getElem?_eq_getElem hj, hkb _ (List.getElem_mem hj)⟩
  unfold isNumL
  rw [decide_eq_decide]
  constructor
  · rintro ⟨_, h, _⟩
    apply Classical.byContradiction
    intro h2
    have := dd_ge 18 u (by omega)
    omega
  · intro h
    refine ⟨dd_pos u, dd_le 17 u (by omega), ?_, hall⟩
    rintro ⟨h1, h2⟩
    have hu : 1 ≤ u := by
      apply Classical.byContradiction
      intro h0
      have : u = 0 := by omega
      subst this
      rw [Lib.decDigits] at h1
      simp at h1
    obtain ⟨c, r, e, hc⟩ := dd_head u hu
    rw [e] at h2
    simp at h2
    exact hc h2
/-- digits, put together: they are no word -/
theorem digs_word {l : List UInt8} (h : ∀ c ∈ l, kb c = 5) : isWordL l = false := by
  unfold isWordL
  rw [decide_eq_false_iff_not]
  rintro ⟨_, ⟨c, e1, e2⟩, _⟩
  have := h c (List.mem_of_getElem? e1)
  omega
theorem digs_sign {l : List UInt8} (h : ∀ c ∈ l, kb c = 5) : isSignL l = false := by
  unfold isSignL
  rw [decide_eq_false_iff_not]
  rintro ⟨_, c, e1, e2⟩
  have := h c (List.mem_of_getElem? e1)
  omega
theorem digs_num {l : List UInt8} (h : isNumL l = true) : tokF (ofL l) = some ⟨2, ofL l, numL l⟩ := by
  have h0 : 0 < l.length := by
    unfold isNumL at h
    rw [decide_eq_true_iff] at h
    exact h.1
  have hk : ∀ c ∈ l, kb c = 5 := fun c hc => by
    unfold isNumL at h
    rw [decide_eq_true_iff] at h
    obtain ⟨j, hj, e⟩ := List.getElem_of_mem hc
    obtain ⟨d, e1, e2⟩ := h.2.2.2 j hj
    rw [List.getElem?_eq_getElem hj, e] at e1
    injection e1 with e1
    rw [e1]; exact e2
  unfold tokF
  rw [bl_ofL, if_neg (by rw [ofL_size]; omega), if_neg (by rw [digs_word hk]; decide), if_pos h]
/-- digits that are a number, behind others -/
theorem cutQ_digs {l : List UInt8} (h : isNumL l = true) (e : Bool) (K : List Tk) : cutQ e l K = .ok (withLine e K ⟨2, ofL l, numL l⟩) := by
  have ht : mayT ⟨2, ofL l, numL l⟩ := digs_num h
  have := cutQ_token ht (by simp) (y := []) (.inl rfl) e K
  simp only [bl_ofL, List.append_nil] at this
  rw [this]
  unfold cutQ
  rw [List.drop_nil, cutE_nil]
/-- digits that are none -/
theorem cutQ_none {l : List UInt8} (hk : ∀ c ∈ l, kb c = 5) (h0 : l ≠ []) (h : isNumL l = false) (e : Bool) (K : List Tk) : cutQ e l K = .error l.length := by
  obtain ⟨c, r, ec⟩ : ∃ c r, l = c :: r := by
    cases l with
    | nil => exact absurd rfl h0
    | cons c r => exact ⟨c, r, rfl⟩
  have hp : passL e false l = (0, e) := by rw [ec]; exact passL_front (.inr (.inl (hk c (by rw [ec]; simp)))) e
  have hal : alongL l = l.length := by
    have := along_all (x := l) (y := []) (fun d hd => by unfold isLD; simp [hk d hd]) (.inl rfl)
    rwa [List.append_nil] at this
  have hm : mF l = l.length := by
    have : 0 < l.length := List.length_pos_iff.2 h0
    unfold mF
    omega
  have hn : tokF (ofL (l.take (mF l))) = none := by
    rw [hm, List.take_length]
    unfold tokF
    rw [bl_ofL, if_neg (by rw [ofL_size]; intro h; exact h0 (List.eq_nil_of_length_eq_zero h)), if_neg (by rw [digs_word hk]; decide), if_neg (by rw [h]; decide), if_neg (by rw [digs_sign hk]; decide)]
  unfold cutQ
  rw [hp]
  simp only [List.drop_zero]
  rw [cutE_bad h0 hn]
def minusTk : Tk := ⟨3, ⟨#[45]⟩, 0⟩
set_option maxRecDepth 100000 in
theorem cutQ_minus (l : List UInt8) : cutQ false (45 :: l) [] = cutQ false l [minusTk] := by
  have hk : kb 45 = 6 := by decide
  have hl : isLD 45 = false := by decide
  have hp : passL false false (45 :: l) = (0, false) := passL_front (.inr (.inr hk)) false
  have hm : mF (45 :: l) = 1 := by
    unfold mF alongL
    simp [hl]
  have ht : tokF (ofL ((45 :: l).take (mF (45 :: l)))) = some minusTk := by
    rw [hm]
    show tokF (ofL [45]) = _
    kernel_rfl
  unfold cutQ
  rw [hp]
  simp only [List.drop_zero]
  rw [cutE_next (by simp) ht, hm]
  rfl
/-- what Cut gives of a number's digits -/
theorem cut_itoa_pos (u : Nat) (h : u < 1000000000000000000) : cutF (Lib.itoa (u : Int)) = ([⟨2, ofL (Lib.itoa (u : Int)), (u : Int)⟩], (((Lib.itoa (u : Int)).length : Nat) : Int), 0) := by
  have e : Lib.itoa (u : Int) = Lib.decDigits u := by unfold Lib.itoa; rw [if_neg (by omega)]; simp
  rw [e]
  have hl := dd_le 17 u (by omega)
  refine cutF_of_ok ?_ (by omega) (by simp)
  rw [cutG_eq, cutQ_digs (by rw [dd_isNum]; exact decide_eq_true h), dd_num]
  rfl
theorem cut_itoa_big (u : Nat) (h : ¬ u < 1000000000000000000) (hl : (Lib.decDigits u).length ≤ 60000) : cutF (Lib.itoa (u : Int)) = ([], 0, 6) := by
  have e : Lib.itoa (u : Int) = Lib.decDigits u := by unfold Lib.itoa; rw [if_neg (by omega)]; simp
  rw [e]
  have h1 := dd_pos u
  have : cutG (Lib.decDigits u) = .error (Lib.decDigits u).length := by
    rw [cutG_eq]
    exact cutQ_none (dd_kb u) (by intro h0; rw [h0] at h1; simp at h1) (by rw [dd_isNum]; exact decide_eq_false h) _ _
  rw [cutF_of_bad this (by omega), Nat.sub_self]
  rfl
theorem itoa_minus (u : Nat) (h : 1 ≤ u) : Lib.itoa (-(u : Int)) = 45 :: Lib.decDigits u := by
  unfold Lib.itoa
  rw [if_pos (by omega)]
  simp
theorem cut_itoa_neg (u : Nat) (h1 : 1 ≤ u) (h : u < 1000000000000000000) : cutF (Lib.itoa (-(u : Int))) = ([minusTk, ⟨2, ofL (Lib.decDigits u), (u : Int)⟩], (((Lib.itoa (-(u : Int))).length : Nat) : Int), 0) := by
  have hl := dd_le 17 u (by omega)
  rw [itoa_minus u h1]
  refine cutF_of_ok ?_ (by simp only [List.length_cons]; omega) (by simp)
  rw [cutG_eq, cutQ_minus, cutQ_digs (by rw [dd_isNum]; exact decide_eq_true h), dd_num]
  rfl
theorem cut_itoa_low (u : Nat) (h : ¬ u < 1000000000000000000) (hl : (Lib.decDigits u).length ≤ 60000) : cutF (Lib.itoa (-(u : Int))) = ([], 1, 6) := by
  have h1 := dd_pos u
  rw [itoa_minus u (by omega)]
  have : cutG (45 :: Lib.decDigits u) = .error (Lib.decDigits u).length := by
    rw [cutG_eq, cutQ_minus]
    exact cutQ_none (dd_kb u) (by intro h0; rw [h0] at h1; simp at h1) (by rw [dd_isNum]; exact decide_eq_false h) _ _
  rw [cutF_of_bad this (by simp only [List.length_cons]; omega), List.length_cons, Nat.add_sub_cancel_left]
  rfl
/-- two numbers' digits beside one another -/
theorem cut_twoD (u v : Nat) (h1 : 1 ≤ u) (h : (Lib.decDigits u).length + (Lib.decDigits v).length ≤ 18) : (cutF (Lib.decDigits u ++ Lib.decDigits v)).1 = [⟨2, ofL (Lib.decDigits u ++ Lib.decDigits v), numL (Lib.decDigits u ++ Lib.decDigits v)⟩] ∧ (cutF (Lib.decDigits u ++ Lib.decDigits v)).2.2 = 0 := by
  have hk : ∀ c ∈ Lib.decDigits u ++ Lib.decDigits v, kb c = 5 := fun c hc => by
    rcases List.mem_append.1 hc with hc | hc
    · exact dd_kb u c hc
    · exact dd_kb v c hc
  have hn : isNumL (Lib.decDigits u ++ Lib.decDigits v) = true := by
    unfold isNumL
    rw [decide_eq_true_iff, List.length_append]
    have := dd_pos u
    refine ⟨by omega, h, ?_, fun j hj => ⟨_, List.getElem?_eq_getElem (by rw [List.length_append]; exact hj), hk _ (List.getElem_mem _)⟩⟩
    rintro ⟨_, h2⟩
    obtain ⟨c, r, e, hc⟩ := dd_head u h1
    rw [e] at h2
    simp at h2
    exact hc h2
  have hg : cutG (Lib.decDigits u ++ Lib.decDigits v) = .ok [⟨2, ofL (Lib.decDigits u ++ Lib.decDigits v), numL (Lib.decDigits u ++ Lib.decDigits v)⟩] := by
    rw [cutG_eq, cutQ_digs hn]
    rfl
  rw [cutF_of_ok hg (by rw [List.length_append]; omega) (by simp)]
  exact ⟨rfl, rfl⟩
end Go.Proofs.YtgkngimeokhhgaaDoor
