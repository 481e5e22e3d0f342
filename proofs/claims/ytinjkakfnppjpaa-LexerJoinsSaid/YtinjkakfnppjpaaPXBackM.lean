/- What is joined is cut as it was: plain mathematics. -/
import Derived.Test.YtinjkakfnppjpaaPXJoin
import Derived.Test.YtinjkakfnppjpaaPXBlanksM
namespace Go.Proofs.Ytinjkakfnppjpaa
open Go.RowKit

/-- the text of tokens, one by one (b: there is one ahead on this line) -/
def jt : Bool → List Tk → List UInt8
  | _, [] => []
  | b, t :: l => if t.k = 4 then 10 :: jt false l else (if b then 32 :: bl t.s else bl t.s) ++ jt true l
theorem join_two (x y : List UInt8) (r : List (List UInt8)) (sep : List UInt8) : Lib.join (x :: y :: r) sep = x ++ (sep ++ Lib.join (y :: r) sep) := by
  rw [Lib.join_cons, Lib.join_cons]
  simp [Lib.joinTail]
theorem blkL_snoc (cur : List Tk) (t : Tk) : blkL (cur ++ [t]) = blkL cur ++ (if cur = [] then bl t.s else 32 :: bl t.s) := by
  unfold blkL
  match cur with
  | [] => simp [Lib.join_one, Lib.join_nil]
  | c :: cur =>
    simp only [List.cons_append, List.map_cons, List.map_append, List.map_nil]
    rw [Lib.join_cons, Lib.join_cons]
    simp [Lib.joinTail]
theorem linesK_ne (cur : List Tk) (l : List Tk) : linesK [] cur l ≠ [] := by
  induction l generalizing cur with
  | nil => simp [linesK]
  | cons t l ih =>
    by_cases h : t.k = 4
    · rw [linesK_line h, linesK_all]; simp
    · rw [linesK_on h]; exact ih _
theorem join_jt : ∀ (l cur : List Tk), Lib.join ((linesK [] cur l).map blkL) [10] = blkL cur ++ jt (decide (cur ≠ [])) l
  | [], cur => by simp [linesK, Lib.join_one, jt]
  | t :: l, cur => by
    by_cases h : t.k = 4
    · have ih := join_jt l []
      rw [linesK_line h, linesK_all, List.nil_append, jt, if_pos h]
      obtain ⟨y, r, e⟩ : ∃ y r, linesK [] [] l = y :: r := by
        cases e : linesK [] [] l with
        | nil => exact absurd e (linesK_ne _ _)
        | cons y r => exact ⟨y, r, rfl⟩
      rw [e] at ih ⊢
      simp only [List.map_cons] at ih
      simp only [List.singleton_append, List.map_cons]
      rw [join_two, ih]
      simp [blkL, Lib.join_nil]
    · have ih := join_jt l (cur ++ [t])
      rw [linesK_on h, ih, blkL_snoc, jt, if_neg h, List.append_assoc]
      by_cases hc : cur = []
      · simp [hc]
      · simp [hc]
theorem joinT_jt {L : List Tk} (h : L ≠ []) : joinT L = jt false L := by
  unfold joinT linesL
  rw [if_neg h, join_jt]
  simp [blkL, Lib.join_nil]
/-- tokens as they are cut one by one -/
def runT : Bool → List Tk → List Tk → List Tk
  | _, K, [] => K
  | e, K, t :: l => if t.k = 4 then runT true K l else runT false (withLine e K t) l
theorem mayT_line {t : Tk} (h : mayT t) (h4 : t.k = 4) : t = lineTk := by
  unfold mayT at h
  by_cases h0 : t.s.size = 0
  · rw [size_zero h0] at h
    have : tokF ⟨#[]⟩ = some lineTk := rfl
    rw [this] at h
    injection h with h
    exact h.symm
  · unfold tokF at h
    rw [if_neg h0] at h
    repeat' split at h
    all_goals first | (injection h with h; rw [← h] at h4; simp at h4) | cases h
theorem mayT_text {t : Tk} (h : mayT t) (h4 : t.k ≠ 4) : t.s.size ≠ 0 := by
  intro h0
  unfold mayT tokF at h
  rw [if_pos h0] at h
  injection h with h
  exact h4 (by rw [← h])
/-- a text that begins with no letter and no digit -/
def offL (y : List UInt8) : Prop := y = [] ∨ ∃ c r, y = c :: r ∧ isLD c = false
theorem ld32 : isLD 32 = false := by decide
theorem jt_off (l : List Tk) : offL (jt true l) := by
  match l with
  | [] => exact .inl rfl
  | t :: l =>
    right
    rw [jt]
    split
    · exact ⟨10, _, rfl, ld10⟩
    · exact ⟨32, bl t.s ++ jt true l, rfl, ld32⟩
theorem along_all {x y : List UInt8} (hx : ∀ c ∈ x, isLD c = true) (hy : offL y) : alongL (x ++ y) = x.length := by
  unfold alongL
  induction x with
  | nil =>
    rcases hy with rfl | ⟨c, r, rfl, hc⟩
    · rfl
    · simp [hc]
  | cons c x ih =>
    rw [List.cons_append, List.takeWhile_cons, if_pos (hx c (by simp)), List.length_cons, ih (fun d hd => hx d (by simp [hd])), List.length_cons]
theorem ld_of_along {x : List UInt8} (h : alongL x = x.length) : ∀ c ∈ x, isLD c = true := by
  unfold alongL at h
  induction x with
  | nil => simp
  | cons c x ih =>
    rw [List.takeWhile_cons] at h
    split at h
    · rename_i hc
      intro d hd
      rcases List.mem_cons.1 hd with rfl | hd
      · exact hc
      · exact ih (by simpa using h) d hd
    · simp at h
/-- a token's text, and what begins no letter or digit behind it -/
theorem token_front {t : Tk} (h : mayT t) (h4 : t.k ≠ 4) {y : List UInt8} (hy : offL y) : mF (bl t.s ++ y) = t.s.size ∧ ∃ c r, bl t.s = c :: r ∧ (kb c = 4 ∨ kb c = 5 ∨ kb c = 6) := by
  have h0 := mayT_text h h4
  have hl := bl_len t.s
  have hne : ∃ c r, bl t.s = c :: r := by
    cases e : bl t.s with
    | nil => rw [e] at hl; exact absurd hl.symm h0
    | cons c r => exact ⟨c, r, rfl⟩
  obtain ⟨c, r, ec⟩ := hne
  unfold mayT tokF at h
  rw [if_neg h0] at h
  split at h
  · rename_i hw
    unfold isWordL at hw
    rw [decide_eq_true_iff] at hw
    obtain ⟨_, ⟨c', e1, e2⟩, h3⟩ := hw
    refine ⟨?_, c, r, ec, ?_⟩
    · unfold mF
      rw [along_all (ld_of_along h3) hy, hl]
      omega
    · rw [ec] at e1
      simp at e1
      subst e1
      exact .inl e2
  · split at h
    · rename_i hw
      unfold isNumL at hw
      rw [decide_eq_true_iff] at hw
      obtain ⟨_, _, _, h3⟩ := hw
      have h5 : ∀ c ∈ bl t.s, kb c = 5 := fun c hc => by
        obtain ⟨j, hj, e⟩ := List.getElem_of_mem hc
        obtain ⟨d, e1, e2⟩ := h3 j hj
        rw [List.getElem?_eq_getElem hj, e] at e1
        injection e1 with e1
        rw [e1]; exact e2
      refine ⟨?_, c, r, ec, .inr (.inl (h5 c (by rw [ec]; simp)))⟩
      unfold mF
      rw [along_all (fun d hd => by unfold isLD; simp [h5 d hd]) hy, hl]
      omega
    · split at h
      · rename_i hw
        unfold isSignL at hw
        rw [decide_eq_true_iff] at hw
        obtain ⟨h1, c', e1, e2⟩ := hw
        rw [ec] at e1
        simp at e1
        subst e1
        refine ⟨?_, c, r, ec, .inr (.inr e2)⟩
        have hf : isLD c = false := by unfold isLD; simp [e2]
        rw [ec]
        unfold mF alongL
        simp [hf]
        omega
      · cases h
theorem passL_front {c : UInt8} {r : List UInt8} (h : kb c = 4 ∨ kb c = 5 ∨ kb c = 6) (e : Bool) : passL e false (c :: r) = (0, e) := by
  rw [passL, if_neg (by omega), if_neg (by omega), if_pos ⟨by omega, rfl⟩]
theorem cutQ_token {t : Tk} (h : mayT t) (h4 : t.k ≠ 4) {y : List UInt8} (hy : offL y) (e : Bool) (K : List Tk) : cutQ e (bl t.s ++ y) K = cutQ false y (withLine e K t) := by
  obtain ⟨hm, c, r, ec, hc⟩ := token_front h h4 hy
  have hp : passL e false (bl t.s ++ y) = (0, e) := by rw [ec]; exact passL_front hc e
  have hl := bl_len t.s
  have hne : bl t.s ++ y ≠ [] := by rw [ec]; simp
  have htk : tokF (ofL ((bl t.s ++ y).take (mF (bl t.s ++ y)))) = some t := by
    rw [hm, ← hl, List.take_left, ofL_bl]
    exact h
  rw [cutQ, hp]
  simp only [List.drop_zero]
  rw [cutE_next hne htk, hm, ← hl, List.drop_left]
theorem cut_jt : ∀ (l : List Tk) (b e : Bool) (K : List Tk), (∀ t ∈ l, mayT t) → cutQ e (jt b l) K = .ok (runT e K l)
  | [], b, e, K, _ => by
    unfold cutQ
    rw [jt, List.drop_nil, cutE_nil]
    rfl
  | t :: l, b, e, K, h => by
    have ht := h t (by simp)
    have hl : ∀ t ∈ l, mayT t := fun x hx => h x (by simp [hx])
    rw [jt, runT]
    by_cases h4 : t.k = 4
    · rw [if_pos h4, if_pos h4]
      have := cutQ_line [] (jt false l) e K
      rw [List.nil_append] at this
      rw [this]
      have h0 : cutQ e [] K = .ok K := by unfold cutQ; rw [List.drop_nil, cutE_nil]
      rw [h0]
      exact cut_jt l false true K hl
    · rw [if_neg h4, if_neg h4]
      have key : cutQ e (bl t.s ++ jt true l) K = .ok (runT false (withLine e K t) l) := by
        rw [cutQ_token ht h4 (jt_off l)]
        exact cut_jt l true false _ hl
      cases b
      · exact key
      · rw [if_pos rfl]
        have := cutQ_blank 0 (bl t.s ++ jt true l) e K
        rw [show bl (blankB 0) = [32] from rfl, show blankE 0 = false from rfl, Bool.or_false] at this
        exact this.trans key
/-- no line is empty -/
def fullL (cur l : List Tk) : Prop := ∀ R ∈ linesK [] cur l, R ≠ []
theorem run_back : ∀ (l cur : List Tk), (∀ t ∈ l, mayT t) → fullL cur l → (cur ≠ [] → ∀ K, K ≠ [] → runT false K l = K ++ l) ∧ (cur = [] → (∀ K, K ≠ [] → runT true K l = K ++ [lineTk] ++ l) ∧ ∀ e, runT e [] l = l)
  | [], cur, _, hf => by
    refine ⟨fun _ K _ => by simp [runT], fun hc => ?_⟩
    exact absurd hc (hf cur (by simp [linesK]))
  | t :: l, cur, h, hf => by
    have ht := h t (by simp)
    have hl : ∀ t ∈ l, mayT t := fun x hx => h x (by simp [hx])
    by_cases h4 : t.k = 4
    · have e := mayT_line ht h4
      unfold fullL at hf
      rw [linesK_line h4, linesK_all] at hf
      have hc : cur ≠ [] := hf cur (by simp)
      have ih := run_back l [] hl (fun R hR => hf R (by simp [hR]))
      refine ⟨fun _ K hK => ?_, fun hc' => absurd hc' hc⟩
      rw [runT, if_pos h4, (ih.2 rfl).1 K hK, e]
      simp
    · unfold fullL at hf
      rw [linesK_on h4] at hf
      have ih := run_back l (cur ++ [t]) hl hf
      have ih1 := ih.1 (by simp)
      refine ⟨fun _ K hK => ?_, fun hc => ⟨fun K hK => ?_, fun e => ?_⟩⟩
      · rw [runT, if_neg h4, ih1 _ (withLine_ne _ _ _)]
        unfold withLine
        rw [if_neg (by simp)]
        simp
      · rw [runT, if_neg h4, ih1 _ (withLine_ne _ _ _)]
        unfold withLine
        rw [if_pos ⟨rfl, hK⟩]
        simp
      · rw [runT, if_neg h4, ih1 _ (withLine_ne _ _ _)]
        unfold withLine
        rw [if_neg (fun h => h.2 rfl)]
        rfl
theorem joinT_cut {L : List Tk} (h : ∀ t ∈ L, mayT t) (hf : ¬ ∃ R ∈ linesL L, R = []) : cutG (joinT L) = .ok L := by
  by_cases h0 : L = []
  · subst h0
    rw [show joinT [] = [] from rfl, cutG_eq]
    unfold cutQ
    rw [List.drop_nil, cutE_nil]
  · rw [joinT_jt h0, cutG_eq, cut_jt L false false [] h]
    have hf' : fullL [] L := fun R hR e => hf ⟨R, by unfold linesL; rw [if_neg h0]; exact hR, e⟩
    rw [((run_back L [] h hf').2 rfl).2 false]
/-- what Join gives is cut as it was -/
theorem joinF_cut {L : List Tk} {T : ByteArray} (h : joinF L = (T, 0)) : cutG (bl T) = .ok L ∧ L.length ≤ 4096 := by
  unfold joinF at h
  split at h
  · injection h with _ h; cases h
  · rename_i ha
    split at h
    · injection h with _ h; cases h
    · rename_i hf
      split at h
      · injection h with _ h; cases h
      · rename_i h4
        injection h with h _
        subst h
        rw [bl_ofL]
        refine ⟨joinT_cut (fun t ht => (mayB_iff t).1 ?_) hf, by omega⟩
        have : L.all mayB = true := by simpa using ha
        exact List.all_eq_true.1 this t ht
/-- what is cut may be joined -/
def goodL (K : List Tk) : Prop := K = [] ∨ fullL [] K
theorem full_snoc {t : Tk} (h4 : t.k ≠ 4) : ∀ (l cur : List Tk), fullL cur l → fullL cur (l ++ [t])
  | [], cur, _ => by
    unfold fullL
    rw [List.nil_append, linesK_on h4, linesK]
    simp
  | x :: l, cur, h => by
    unfold fullL at h ⊢
    rw [List.cons_append]
    by_cases hx : x.k = 4
    · rw [linesK_line hx, linesK_all] at h ⊢
      have ih := full_snoc h4 l [] (fun R hR => h R (by simp [hR]))
      intro R hR
      simp only [List.nil_append, List.singleton_append, List.mem_cons] at hR
      rcases hR with rfl | hR
      · exact h R (by simp)
      · exact ih R hR
    · rw [linesK_on hx] at h ⊢
      exact full_snoc h4 l (cur ++ [x]) h
theorem good_line {t : Tk} (h4 : t.k ≠ 4) {K : List Tk} (h : goodL K) (e : Bool) : goodL (withLine e K t) := by
  have one : fullL [] [t] := by
    unfold fullL
    rw [linesK_on h4, linesK]
    simp
  unfold withLine
  right
  split
  · rename_i he
    rcases h with h | h
    · exact absurd h he.2
    · unfold fullL
      rw [List.append_assoc, List.singleton_append, linesK_cat rfl]
      intro R hR
      rcases List.mem_append.1 hR with hR | hR
      · exact h R hR
      · exact one R hR
  · rcases h with rfl | h
    · exact one
    · exact full_snoc h4 K [] h
theorem tok_k {s : ByteArray} {t : Tk} (h0 : s.size ≠ 0) (h : tokF s = some t) : t.k ≠ 4 := by
  unfold tokF at h
  rw [if_neg h0] at h
  repeat' split at h
  all_goals first | (injection h with h; rw [← h]; simp) | cases h
def totT (L : List Tk) : Nat := (L.map (·.s.size)).sum
theorem cutE_good (n : Nat) : ∀ (r : List UInt8), r.length ≤ n → ∀ (e : Bool) (L M : List Tk), goodL L → cutE r e L = .ok M → goodL M ∧ totT M ≤ totT L + r.length := by
  induction n with
  | zero =>
    intro r hr e L M hL h
    obtain rfl : r = [] := List.eq_nil_of_length_eq_zero (by omega)
    rw [cutE_nil] at h; injection h with h; subst h; exact ⟨hL, by omega⟩
  | succ n ih =>
    intro r hr e L M hL h
    by_cases h0 : r = []
    · subst h0; rw [cutE_nil] at h; injection h with h; subst h; exact ⟨hL, by omega⟩
    · have hm := mF_le h0
      have hm1 := mF_pos r
      cases hk : tokF (ofL (r.take (mF r))) with
      | none => rw [cutE_bad h0 hk] at h; cases h
      | some t =>
        rw [cutE_next h0 hk] at h
        have hts := tokF_text (ofL_ne h0) hk
        obtain ⟨h1, h2⟩ := ih _ (by rw [List.length_drop, List.length_drop]; omega) _ _ _ (good_line (tok_k (ofL_ne h0) hk) hL e) h
        refine ⟨h1, Nat.le_trans h2 ?_⟩
        have : totT (withLine e L t) = totT L + mF r := by
          have hsz : t.s.size = mF r := by rw [hts, ofL_size, List.length_take]; omega
          unfold withLine totT
          split
          · have hz : lineTk.s.size = 0 := rfl
            simp [hsz, hz]
          · simp [hsz]
        rw [this, List.length_drop, List.length_drop]
        omega
theorem jt_len : ∀ (l : List Tk) (b : Bool), (jt b l).length ≤ totT l + l.length
  | [], b => by simp [jt]
  | t :: l, b => by
    have h1 := jt_len l false
    have h2 := jt_len l true
    rw [jt]
    unfold totT at h1 h2 ⊢
    simp only [List.map_cons, List.sum_cons, List.length_cons]
    split
    · simp only [List.length_cons]; omega
    · cases b
      · simp only [Bool.false_eq_true, if_false, List.length_append, bl_len]; omega
      · simp only [if_true, List.length_append, List.length_cons, bl_len]; omega
/-- what is cut may be joined, and that is cut as it was -/
theorem cut_join {l : List UInt8} {L : List Tk} {N : Int} (h : cutF l = (L, N, 0)) (hl : l.length ≤ 20000) : ∃ T, joinF L = (T, 0) ∧ T.size ≤ 65536 ∧ cutG (bl T) = .ok L := by
  have hg := (cutF_good (l := l) (by rw [h])).1
  have hmay := cutF_may l
  have hlen := cutF_len l
  rw [h] at hg hmay hlen
  dsimp only at hg hmay hlen
  obtain ⟨hgd, htot⟩ := cutE_good _ _ (Nat.le_refl _) _ _ _ (.inl rfl) hg
  have hne : ¬ ∃ R ∈ linesL L, R = [] := by
    rintro ⟨R, hR, e⟩
    unfold linesL at hR
    split at hR
    · cases hR
    · rename_i h0
      rcases hgd with hgd | hgd
      · exact h0 hgd
      · exact hgd R hR e
  have ha : L.all mayB = true := List.all_eq_true.2 fun t ht => (mayB_iff t).2 (hmay t ht)
  have hj : joinF L = (ofL (joinT L), 0) := by
    unfold joinF
    rw [if_neg (by rw [ha]; decide), if_neg hne, if_neg (by omega)]
  refine ⟨_, hj, ?_, (joinF_cut hj).1⟩
  rw [ofL_size]
  by_cases h0 : L = []
  · subst h0
    rw [show joinT [] = [] from rfl]
    simp
  · rw [joinT_jt h0]
    have := jt_len L false
    have h2 : totT ([] : List Tk) = 0 := rfl
    rw [h2, List.length_drop] at htot
    omega
theorem cutF_none {l : List UInt8} (h : (cutF l).2.2 ≠ 0) : (cutF l).1 = [] := by
  unfold cutF at h ⊢
  split
  · rfl
  · rename_i h1
    rw [if_neg h1] at h
    unfold cutH at h ⊢
    split
    · rfl
    · rename_i L hL
      rw [hL] at h
      simp only at h
      split
      · rfl
      · rename_i h4
        rw [if_neg h4] at h
        exact absurd rfl h
end Go.Proofs.Ytinjkakfnppjpaa
