/- What code's text is read as; what was written is read as it was, and the other way round: plain mathematics. Nothing is claimed of the program here. -/
import Derived.Test.YtgkngimeokhhgaaDoorG13
import Derived.Test.YtgkngimeokhhgaaDoorG11
import Derived.WalkLawsBesides
import Derived.Test.YtgkngimeokhhgaaDoorG12
import Derived.Test.YtgkngimeokhhgaaDoorG4
import Derived.Test.YtgkngimeokhhgaaDoorG1
import Derived.Laws.StructEq
import Derived.BigQuiet
import Derived.IntWalk
import Derived.Deep.CutBlock
import Derived.Deep.DeepCutAuto
import Derived.Deep.LoopGhost
namespace Go.Proofs.YtgkngimeokhhgaaDoor
open Go.RowKit

/-- digits of a number, as they are written: there is one way -/
theorem digs_dd : ∀ (n : Nat) (l : List UInt8), l.length = n → (∀ c ∈ l, kb c = 5) → (l ≠ [] ∧ (1 < l.length → l[0]? ≠ some 48)) → Lib.decDigits (numL l).toNat = l := by
  intro n
  induction n with
  | zero => intro l hl _ h; exact absurd (List.eq_nil_of_length_eq_zero hl) h.1
  | succ n ih =>
    intro l hl hk h
    obtain ⟨r, c, rfl⟩ : ∃ r c, l = r ++ [c] := ⟨_, _, (List.dropLast_concat_getLast h.1).symm⟩
    have hc := dig_in (hk c (by simp))
    have hcc : c = UInt8.ofNat (48 + (c.toNat - 48)) := by
      apply UInt8.toNat_inj.1
      rw [(dig_byte (c.toNat - 48) (by omega)).2]
      omega
    rw [numL_snoc]
    by_cases hr : r = []
    · subst hr
      have e : numL ([] : List UInt8) = 0 := rfl
      rw [e, Lib.decDigits, dif_pos (by omega)]
      rw [show (0 * 10 + ((c.toNat : Int) - 48)).toNat = c.toNat - 48 by omega, ← hcc]; rfl
    · have hr0 : 0 < r.length := List.length_pos_iff.2 hr
      have h0 : r[0]? ≠ some 48 := by
        have := h.2 (by simp; omega)
        rw [List.getElem?_append_left hr0] at this
        exact this
      have i1 := ih r (by simp at hl; omega) (fun d hd => hk d (by simp [hd])) ⟨hr, fun _ => h0⟩
      have hb := numL_bound r.length r rfl (fun d hd => hk d (by simp [hd]))
      have h1 : 1 ≤ numL r := by
        apply Classical.byContradiction
        intro hn
        have e0 : (numL r).toNat = 0 := by omega
        rw [e0, Lib.decDigits] at i1
        rw [dif_pos (by omega)] at i1
        rw [← i1] at h0
        exact h0 rfl
      rw [Lib.decDigits, dif_neg (by omega)]
      rw [show (numL r * 10 + ((c.toNat : Int) - 48)).toNat / 10 = (numL r).toNat by omega, show (numL r * 10 + ((c.toNat : Int) - 48)).toNat % 10 = c.toNat - 48 by omega, i1, ← hcc]
theorem num_dd {l : List UInt8} (h : isNumL l = true) : Lib.decDigits (numL l).toNat = l := by
  unfold isNumL at h
  rw [decide_eq_true_iff] at h
  obtain ⟨h1, h2, h3, h4⟩ := h
  refine digs_dd l.length l rfl (fun c hc => ?_) ⟨List.length_pos_iff.1 h1, fun h5 h6 => h3 ⟨h5, h6⟩⟩
  obtain ⟨j, hj, e⟩ := List.getElem_of_mem hc
  obtain ⟨d, e1, e2⟩ := h4 j hj
  rw [List.getElem?_eq_getElem hj, e] at e1
  injection e1 with e1
  rw [e1]; exact e2
/-- tokens that may be, by their kinds -/
theorem may_num_of {t : Tk} (h : mayT t) (hk : t.k = 2) : t = tokN t.n ∧ 0 ≤ t.n ∧ t.n < 1000000000000000000 := by
  have hb := (mayB_iff t).2 h
  obtain ⟨k, s, n⟩ := t
  dsimp only at hk
  subst hk
  rw [may_num, Bool.and_eq_true] at hb
  have hn : n = numL (bl s) := by simpa using hb.2
  have b := isNumL_bound hb.1
  subst hn
  refine ⟨?_, b.1, b.2⟩
  unfold tokN
  rw [num_dd hb.1, ofL_bl]
theorem may_word_of {t : Tk} (h : mayT t) (hk : t.k = 1) : t = tokW (bl t.s) ∧ isWordL (bl t.s) = true := by
  have hb := (mayB_iff t).2 h
  obtain ⟨k, s, n⟩ := t
  dsimp only at hk
  subst hk
  rw [may_word, Bool.and_eq_true] at hb
  have hn : n = 0 := by simpa using hb.2
  subst hn
  exact ⟨by unfold tokW; rw [ofL_bl], hb.1⟩
theorem may_sign_of {t : Tk} (h : mayT t) (hk : t.k = 3) (hs : bl t.s = [45]) : t = minusTk := by
  have hb := (mayB_iff t).2 h
  obtain ⟨k, s, n⟩ := t
  dsimp only at hk hs
  subst hk
  rw [may_sign, Bool.and_eq_true] at hb
  have hn : n = 0 := by simpa using hb.2
  subst hn
  have : s = ⟨#[45]⟩ := by rw [← ofL_bl s, hs]; rfl
  subst this
  rfl
theorem behind_inv {t : Tk} {c : UInt8} (h : mayT t) (hb : (behindF t c).2 = true) : t = regT c (behindF t c).1 ∧ 0 ≤ (behindF t c).1 := by
  unfold behindF at hb ⊢
  split at hb
  · rename_i hc
    rw [if_pos hc]
    obtain ⟨h1, h2, h3⟩ := hc
    have hw := (may_word_of h h1).1
    have hbd := isNumL_bound h3
    refine ⟨?_, hbd.1⟩
    show t = regT c (numL ((bl t.s).drop 1))
    unfold regT
    rw [num_dd h3]
    rw [hw, bl_tokW]
    congr 1
    cases e : bl t.s with
    | nil => rw [e] at h2; simp at h2
    | cons d r =>
      rw [e] at h2
      simp at h2
      rw [h2]; rfl
  · cases hb
theorem insG_inv : ∀ (ks : List UInt8) (r : List Tk) (N M X : Int) (f : List Int), (∀ k ∈ ks, k = 119 ∨ k = 114 ∨ k = 97 ∨ k = 112) → (∀ t ∈ r, mayT t) → insG ks r N = some (f, M) → M = N ∧ f.length = ks.length ∧ r = argsT ks f X := by
  intro ks
  induction ks with
  | nil =>
    intro r N M X f _ _ h
    unfold insG at h
    split at h
    · rename_i hr
      injection h with h; injection h with h1 h2
      subst h1; subst hr
      exact ⟨h2.symm, rfl, rfl⟩
    · cases h
  | cons k ks ih =>
    intro r N M X f hk hm h
    cases r with
    | nil => unfold insG at h; cases h
    | cons t r =>
      have hk' := fun q hq => hk q (List.mem_cons_of_mem _ hq)
      have hm' := fun q hq => hm q (List.mem_cons_of_mem _ hq)
      have ht := hm t (List.mem_cons_self ..)
      unfold insG at h
      split at h
      · rename_i hkk
        split at h
        · rename_i hb
          cases hr : insG ks r N with
          | none => rw [hr] at h; cases h
          | some p =>
            rw [hr] at h
            obtain ⟨g, M'⟩ := p
            simp only [Option.map_some, Option.some.injEq, Prod.mk.injEq] at h
            obtain ⟨h1, h2⟩ := h
            subst h1; subst h2
            obtain ⟨a1, a2, a3⟩ := ih r N M' X g hk' hm' hr
            obtain ⟨b1, _⟩ := behind_inv ht hb
            refine ⟨a1, by simp [a2], ?_⟩
            show t :: r = argT k (behindF t 114).1 X ++ argsT ks g X
            unfold argT
            rw [if_pos hkk, ← a3]
            show t :: r = regT 114 (behindF t 114).1 :: r
            rw [← b1]
        · cases h
      · rename_i hk1
        split at h
        · rename_i hk2
          split at h
          · rename_i hb
            cases hr : insG ks r N with
            | none => rw [hr] at h; cases h
            | some p =>
              rw [hr] at h
              obtain ⟨g, M'⟩ := p
              simp only [Option.map_some, Option.some.injEq, Prod.mk.injEq] at h
              obtain ⟨h1, h2⟩ := h
              subst h1; subst h2
              obtain ⟨a1, a2, a3⟩ := ih r N M' X g hk' hm' hr
              obtain ⟨b1, _⟩ := behind_inv ht hb
              refine ⟨a1, by simp [a2], ?_⟩
              show t :: r = argT k (behindF t 97).1 X ++ argsT ks g X
              unfold argT
              rw [if_neg hk1, if_pos hk2, ← a3]
              show t :: r = regT 97 (behindF t 97).1 :: r
              rw [← b1]
          · cases h
        · rename_i hk2
          split at h
          · rename_i hk3
            split at h
            · rename_i hb
              cases hr : insG ks r N with
              | none => rw [hr] at h; cases h
              | some p =>
                rw [hr] at h
                obtain ⟨g, M'⟩ := p
                simp only [Option.map_some, Option.some.injEq, Prod.mk.injEq] at h
                obtain ⟨h1, h2⟩ := h
                subst h1; subst h2
                obtain ⟨a1, a2, a3⟩ := ih r N M' X g hk' hm' hr
                obtain ⟨b1, b2, _⟩ := may_num_of ht hb
                refine ⟨a1, by simp [a2], ?_⟩
                show t :: r = argT k t.n X ++ argsT ks g X
                unfold argT
                rw [if_neg hk1, if_neg hk2, if_pos hk3, ← a3, numT_pos b2]
                show t :: r = tokN t.n :: r
                rw [← b1]
            · cases h
          · rename_i hk3
            have := hk k (List.mem_cons_self ..)
            exact absurd this (by
              intro h
              rcases h with h | h | h | h
              · exact hk1 (.inl h)
              · exact hk1 (.inr h)
              · exact hk2 h
              · exact hk3 h)
/-- the number alone -/
theorem insN_inv {r : List Tk} {N M : Int} {f : List Int} (hm : ∀ t ∈ r, mayT t) (h : insG [110] r N = some (f, M)) : f = [0] ∧ r = numT M := by
  cases r with
  | nil => unfold insG at h; cases h
  | cons t r =>
    have ht := hm t (List.mem_cons_self ..)
    have hm' := fun q hq => hm q (List.mem_cons_of_mem t hq)
    unfold insG at h
    rw [if_neg (by decide), if_neg (by decide), if_neg (by decide)] at h
    split at h
    · rename_i hc
      obtain ⟨c1, c2, c3⟩ := hc
      obtain ⟨u, rfl⟩ := List.length_eq_one_iff.1 c3
      split at h
      · rename_i hu
        have hu' : u.k = 2 ∧ u.n ≠ 0 := hu
        have h' : (insG [] [] (-u.n)).map (fun p => ((0 : Int) :: p.1, p.2)) = some (f, M) := h
        rw [insG_nil] at h'
        simp only [Option.map_some, Option.some.injEq, Prod.mk.injEq] at h'
        obtain ⟨h1, h2⟩ := h'
        obtain ⟨b1, b2, _⟩ := may_num_of (hm' u (by simp)) hu'.1
        refine ⟨h1.symm, ?_⟩
        rw [numT_neg (by omega), may_sign_of ht c1 c2, ← h2, Int.neg_neg, ← b1]
      · cases h
    · split at h
      · rename_i hk
        cases hr : insG [] r t.n with
        | none => rw [hr] at h; cases h
        | some p =>
          rw [hr] at h
          obtain ⟨g, M'⟩ := p
          simp only [Option.map_some, Option.some.injEq, Prod.mk.injEq] at h
          obtain ⟨h1, h2⟩ := h
          unfold insG at hr
          split at hr
          · rename_i hr0
            injection hr with hr; injection hr with e1 e2
            obtain ⟨b1, b2, _⟩ := may_num_of ht hk
            refine ⟨by rw [← h1, ← e1], ?_⟩
            rw [← h2, ← e2, numT_pos b2, hr0, ← b1]
          · cases hr
      · cases h
theorem opW_inv {l : List UInt8} (h : 0 ≤ opW l) : l = wJ (opW l) ∧ opW l ≤ 12 := by
  unfold opW at h ⊢
  cases e : wordsJ.findIdx? (· == l) with
  | none => rw [e] at h; exact absurd h (by decide)
  | some i =>
    rw [List.findIdx?_eq_some_iff_getElem] at e
    obtain ⟨hi, h1, _⟩ := e
    have hi' : i < 13 := hi
    have h2 : wordsJ[i] = l := eq_of_beq h1
    refine ⟨?_, by show (i : Int) ≤ 12; omega⟩
    show l = wJ (i : Int)
    unfold wJ
    rw [if_pos (by omega), ← h2, List.getD_eq_getElem?_getD, Int.toNat_natCast, List.getElem?_eq_getElem hi]
    rfl
/-- what was read, written, is the same line -/
theorem ins_inv {l : List Tk} {x : Ji} (hm : ∀ t ∈ l, mayT t) (h : insF l = some x) : l = lineT x := by
  cases l with
  | nil => cases h
  | cons t r =>
    have ht := hm t (List.mem_cons_self ..)
    have hm' := fun q hq => hm q (List.mem_cons_of_mem t hq)
    have h : (if t.k = 1 ∧ 0 ≤ opW (bl t.s) then (insG (kJ (opW (bl t.s))) r 0).map (fun p => (⟨opW (bl t.s), p.1.getD 0 0, p.1.getD 1 0, p.1.getD 2 0, p.2⟩ : Ji)) else none) = some x := h
    split at h
    · rename_i hc
      obtain ⟨c1, c2⟩ := hc
      obtain ⟨hw, h12⟩ := opW_inv c2
      obtain ⟨op, ho⟩ : ∃ op, opW (bl t.s) = op := ⟨_, rfl⟩
      rw [ho] at h c2 hw h12
      have htw : t = tokW (wJ op) := by rw [← hw]; exact (may_word_of ht c1).1
      cases hr : insG (kJ op) r 0 with
      | none => rw [hr] at h; cases h
      | some p =>
        rw [hr] at h
        obtain ⟨f, M⟩ := p
        simp only [Option.map_some, Option.some.injEq] at h
        subst h
        show t :: r = tokW (wJ op) :: argsT (kJ op) [f.getD 0 0, f.getD 1 0, f.getD 2 0] M
        rw [← htw]
        congr 1
        by_cases h1 : op = 1
        · subst h1
          have hk : kJ 1 = [119, 110] := rfl
          rw [hk] at hr ⊢
          cases r with
          | nil => unfold insG at hr; cases hr
          | cons u r =>
            unfold insG at hr
            rw [if_pos (.inl rfl)] at hr
            split at hr
            · rename_i hb
              cases hr2 : insG [110] r 0 with
              | none => rw [hr2] at hr; cases hr
              | some p =>
                rw [hr2] at hr
                obtain ⟨g, M'⟩ := p
                simp only [Option.map_some, Option.some.injEq, Prod.mk.injEq] at hr
                obtain ⟨e1, e2⟩ := hr
                subst e1; subst e2
                obtain ⟨b1, b2⟩ := insN_inv (fun q hq => hm' q (List.mem_cons_of_mem _ hq)) hr2
                subst b1
                obtain ⟨d1, _⟩ := behind_inv (hm' u (List.mem_cons_self ..)) hb
                show u :: r = argT 119 (behindF u 114).1 M' ++ (argT 110 0 M' ++ [])
                have a1 : argT 119 (behindF u 114).1 M' = [regT 114 (behindF u 114).1] := rfl
                have a2 : argT 110 0 M' = numT M' := rfl
                rw [a1, a2, List.append_nil, ← b2, ← d1]; rfl
            · cases hr
        · have hall : ∀ k ∈ kJ op, k = 119 ∨ k = 114 ∨ k = 97 ∨ k = 112 := by
            rcases op_cases c2 h12 with rfl | rfl | rfl | rfl | rfl | rfl | rfl | rfl | rfl | rfl | rfl | rfl | rfl
            case inr.inl => exact absurd rfl h1
            all_goals decide
          obtain ⟨_, a2, a3⟩ := insG_inv (kJ op) r 0 M M f hall hm' hr
          have hkl := kJ_len op
          rw [a3]
          generalize kJ op = ks at *
          match f, a2 with
          | [], a2 => rw [List.eq_nil_of_length_eq_zero a2.symm]; rfl
          | [a], a2 =>
            obtain ⟨k, rfl⟩ := List.length_eq_one_iff.1 a2.symm
            rfl
          | [a, b], a2 =>
            rcases ks with _ | ⟨k, _ | ⟨k2, _ | ⟨k3, ks⟩⟩⟩
            · simp at a2
            · simp at a2
            · rfl
            · simp at a2
          | [a, b, c], _ => rfl
          | a :: b :: c :: d :: f, a2 => simp at a2; omega
    · cases h
/-- lines of tokens as instructions, or the first that is none -/
def rowsF : Nat → List (List Tk) → Except Nat (List Ji)
  | _, [] => .ok []
  | i, r :: rs => match insF r with
    | none => .error i
    | some x => match rowsF (i + 1) rs with
      | .error j => .error j
      | .ok l => .ok (x :: l)
def zTk : Tk := ⟨0, ⟨#[]⟩, 0⟩
def headOK (h : List Tk) : Bool := decide (h.length = 4) && (decide ((h.getD 0 zTk).k = 1) && (decide (bl (h.getD 0 zTk).s = codeW) && (decide ((h.getD 1 zTk).k = 2) && (decide ((h.getD 2 zTk).k = 2) && decide ((h.getD 3 zTk).k = 2)))))
def noCd : Cd := ⟨0, 0, 0, []⟩
def parseR (R : List (List Tk)) : Cd × Int × Int :=
  match R with
  | [] => (noCd, 0, 6)
  | h :: rs => if headOK h then (match rowsF 1 rs with
    | .error i => (noCd, (i : Int), 6)
    | .ok l => if Cd.may ⟨(h.getD 1 zTk).n, (h.getD 2 zTk).n, (h.getD 3 zTk).n, l⟩ then (⟨(h.getD 1 zTk).n, (h.getD 2 zTk).n, (h.getD 3 zTk).n, l⟩, ((rs.length + 1 : Nat) : Int), 0) else (noCd, 0, 1)) else (noCd, 0, 6)
/-- what a text is read as -/
def parseF (l : List UInt8) : Cd × Int × Int := if (cutF l).2.2 ≠ 0 then (noCd, (cutF l).2.1, (cutF l).2.2) else parseR (linesL (cutF l).1)
theorem linesK_flat : ∀ (xs l cur : List Tk) (D : List (List Tk)), (∀ t ∈ xs, t.k ≠ 4) → linesK D cur (xs ++ l) = linesK D (cur ++ xs) l
  | [], l, cur, D, _ => by simp
  | x :: xs, l, cur, D, h => by
    rw [List.cons_append, linesK_on (h x (by simp)), linesK_flat xs l _ D (fun t ht => h t (by simp [ht]))]
    simp
theorem numT_k (v : Int) : ∀ t ∈ numT v, t.k ≠ 4 := by
  intro t ht
  unfold numT at ht
  split at ht
  · rcases List.mem_cons.1 ht with rfl | ht
    · decide
    · rw [List.mem_singleton.1 ht]; simp [tokN]
  · rw [List.mem_singleton.1 ht]; simp [tokN]
theorem argsT_k : ∀ (ks : List UInt8) (vs : List Int) (N : Int), ∀ t ∈ argsT ks vs N, t.k ≠ 4
  | [], vs, N, t, ht => by simp [argsT] at ht
  | _ :: _, [], N, t, ht => by simp [argsT] at ht
  | k :: ks, v :: vs, N, t, ht => by
    unfold argsT at ht
    rcases List.mem_append.1 ht with ht | ht
    · unfold argT at ht
      split at ht
      · rw [List.mem_singleton.1 ht]; simp [regT, tokW]
      · split at ht
        · rw [List.mem_singleton.1 ht]; simp [regT, tokW]
        · split at ht
          · exact numT_k v t ht
          · split at ht
            · exact numT_k N t ht
            · cases ht
    · exact argsT_k ks vs N t ht
theorem lineT_k (x : Ji) : ∀ t ∈ lineT x, t.k ≠ 4 := by
  intro t ht
  unfold lineT at ht
  rcases List.mem_cons.1 ht with rfl | ht
  · simp [tokW]
  · exact argsT_k _ _ _ t ht
theorem headT_k (R A I : Int) : ∀ t ∈ headT R A I, t.k ≠ 4 := by
  intro t ht
  unfold headT at ht
  simp only [List.mem_append] at ht
  rcases ht with ((ht | ht) | ht) | ht
  · rw [List.mem_singleton.1 ht]; simp [tokW]
  · exact numT_k _ t ht
  · exact numT_k _ t ht
  · exact numT_k _ t ht
theorem lines_rest : ∀ (l : List Ji) (cur : List Tk), linesK [] cur (restT l) = cur :: l.map lineT
  | [], cur => rfl
  | x :: l, cur => by
    show linesK [] cur (lineTk :: (lineT x ++ restT l)) = _
    rw [linesK_line rfl, linesK_flat _ _ _ _ (lineT_k x), linesK_all, List.nil_append, List.nil_append, lines_rest l (lineT x)]
    rfl
/-- the lines of code's text -/
theorem lines_prog (c : Cd) : linesL (progT c) = headT c.R c.A c.I :: c.l.map lineT := by
  unfold linesL progT
  rw [if_neg (by unfold headT; simp), linesK_flat _ _ _ _ (headT_k _ _ _), List.nil_append, lines_rest]
theorem rows_lines : ∀ (l : List Ji) (i : Nat), (∀ x ∈ l, insF (lineT x) = some x) → rowsF i (l.map lineT) = .ok l
  | [], _, _ => rfl
  | x :: l, i, h => by
    show (match insF (lineT x) with | none => _ | some x => _) = _
    rw [h x (by simp)]
    simp only
    rw [rows_lines l (i + 1) (fun y hy => h y (by simp [hy]))]
/-- code's text is read as the code -/
theorem parse_prog {c : Cd} (h : c.may = true) : parseR (linesL (progT c)) = (c, ((c.l.length + 1 : Nat) : Int), 0) := by
  obtain ⟨⟨r0, r1, a0, a1, i0, i1, n0, n1⟩, h2, _⟩ := c.may_parts h
  rw [lines_prog]
  have hh : headT c.R c.A c.I = [tokW codeW, tokN c.R, tokN c.A, tokN c.I] := by unfold headT; rw [numT_pos r0, numT_pos a0, numT_pos i0]; rfl
  rw [hh]
  have hk : headOK [tokW codeW, tokN c.R, tokN c.A, tokN c.I] = true := by
    unfold headOK
    simp [tokW, tokN, bl_ofL]
  unfold parseR
  simp only
  rw [if_pos hk, rows_lines c.l 1 (fun x hx => ins_line (R := c.R) (A := c.A) (L := c.l.length) (by omega) (by omega) (by omega) (h2 x hx))]
  simp only
  show (if Cd.may ⟨c.R, c.A, c.I, c.l⟩ = true then _ else _) = _
  rw [if_pos h, List.length_map]
  rfl
theorem parse_text {c : Cd} (h : c.may = true) {T : ByteArray} (hj : joinF (progT c) = (T, 0)) (hs : T.size ≤ 65536) : parseF (bl T) = (c, ((c.l.length + 1 : Nat) : Int), 0) := by
  obtain ⟨h1, h2⟩ := joinF_cut hj
  have hc := cutF_of_ok h1 (by rw [bl_len]; exact hs) h2
  unfold parseF
  rw [hc, if_neg (by simp)]
  exact parse_prog h
theorem rows_inv : ∀ (rs : List (List Tk)) (i : Nat) (l : List Ji), (∀ r ∈ rs, ∀ t ∈ r, mayT t) → rowsF i rs = .ok l → rs = l.map lineT
  | [], _, l, _, h => by cases h; rfl
  | r :: rs, i, l, hm, h => by
    have h : (match insF r with | none => Except.error i | some x => (match rowsF (i + 1) rs with | .error j => Except.error j | .ok l => Except.ok (x :: l))) = Except.ok l := h
    cases e : insF r with
    | none => rw [e] at h; cases h
    | some x =>
      rw [e] at h
      simp only at h
      cases e2 : rowsF (i + 1) rs with
      | error j => rw [e2] at h; cases h
      | ok m =>
        rw [e2] at h
        simp only [Except.ok.injEq] at h
        subst h
        rw [List.map_cons, ← ins_inv (hm r (by simp)) e, ← rows_inv rs (i + 1) m (fun q hq => hm q (by simp [hq])) e2]
theorem parseR_ok {R : List (List Tk)} {c : Cd} {n : Int} (hm : ∀ r ∈ R, ∀ t ∈ r, mayT t) (h : parseR R = (c, n, 0)) : c.may = true ∧ R = headT c.R c.A c.I :: c.l.map lineT := by
  unfold parseR at h
  cases R with
  | nil => simp at h
  | cons hd rs =>
    simp only at h
    split at h
    · rename_i hk
      cases e : rowsF 1 rs with
      | error i => rw [e] at h; simp at h
      | ok l =>
        rw [e] at h
        simp only at h
        split at h
        · rename_i hmay
          simp only [Prod.mk.injEq, and_true] at h
          obtain ⟨rfl, _⟩ := h
          refine ⟨hmay, ?_⟩
          rw [← rows_inv rs 1 l (fun q hq => hm q (by simp [hq])) e]
          congr 1
          unfold headOK at hk
          simp only [Bool.and_eq_true, decide_eq_true_eq] at hk
          obtain ⟨k0, k1, k2, k3, k4, k5⟩ := hk
          match hd, k0 with
          | [t0, t1, t2, t3], _ =>
            have m := fun t ht => hm _ (List.mem_cons_self ..) t ht
            have e0 := (may_word_of (m t0 (by simp)) k1).1
            rw [show bl t0.s = codeW from k2] at e0
            obtain ⟨e1, p1, _⟩ := may_num_of (m t1 (by simp)) k3
            obtain ⟨e2, p2, _⟩ := may_num_of (m t2 (by simp)) k4
            obtain ⟨e3, p3, _⟩ := may_num_of (m t3 (by simp)) k5
            show [t0, t1, t2, t3] = headT t1.n t2.n t3.n
            unfold headT
            rw [numT_pos p1, numT_pos p2, numT_pos p3, ← e0, ← e1, ← e2, ← e3]
            rfl
        · simp at h
    · simp at h
/-- lines, put together again -/
def unl : List (List Tk) → List Tk
  | [] => []
  | r :: rs => r ++ rs.flatMap (lineTk :: ·)
theorem unl_lines : ∀ (l cur : List Tk), (∀ t ∈ l, mayT t) → unl (linesK [] cur l) = cur ++ l
  | [], cur, _ => by simp [linesK, unl]
  | t :: l, cur, h => by
    by_cases h4 : t.k = 4
    · have ih := unl_lines l [] (fun q hq => h q (by simp [hq]))
      rw [linesK_line h4, linesK_all, List.nil_append]
      show cur ++ (linesK [] [] l).flatMap (lineTk :: ·) = _
      rw [mayT_line (h t (by simp)) h4]
      cases e : linesK [] [] l with
      | nil => exact absurd e (linesK_ne _ _)
      | cons r rs =>
        rw [e] at ih
        have ih : r ++ rs.flatMap (lineTk :: ·) = [] ++ l := ih
        rw [List.flatMap_cons, List.cons_append, ih]
        rfl
    · rw [linesK_on h4, unl_lines l _ (fun q hq => h q (by simp [hq]))]
      simp
theorem unl_prog (c : Cd) : unl (headT c.R c.A c.I :: c.l.map lineT) = progT c := by
  have : ∀ l : List Ji, (l.map lineT).flatMap (lineTk :: ·) = restT l := by
    intro l
    induction l with
    | nil => rfl
    | cons x l ih => rw [List.map_cons, List.flatMap_cons, ih]; rfl
  show headT c.R c.A c.I ++ (c.l.map lineT).flatMap (lineTk :: ·) = _
  rw [this]; rfl
theorem linesK_may : ∀ (l cur : List Tk), (∀ t ∈ l, mayT t) → (∀ t ∈ cur, mayT t) → ∀ r ∈ linesK [] cur l, ∀ t ∈ r, mayT t
  | [], cur, _, hc, r, hr => by
    have : r = cur := by simpa [linesK] using hr
    subst this; exact hc
  | t :: l, cur, h, hc, r, hr => by
    by_cases h4 : t.k = 4
    · rw [linesK_line h4, linesK_all, List.nil_append] at hr
      rcases List.mem_append.1 hr with hr | hr
      · rw [List.mem_singleton.1 hr]; exact hc
      · exact linesK_may l [] (fun q hq => h q (by simp [hq])) (by simp) r hr
    · rw [linesK_on h4] at hr
      refine linesK_may l (cur ++ [t]) (fun q hq => h q (by simp [hq])) (fun q hq => ?_) r hr
      rcases List.mem_append.1 hq with hq | hq
      · exact hc q hq
      · rw [List.mem_singleton.1 hq]; exact h t (by simp)
/-- what was read as code: its tokens are the code's -/
theorem parse_inv {l : List UInt8} {c : Cd} {n : Int} (h : parseF l = (c, n, 0)) : c.may = true ∧ (cutF l).2.2 = 0 ∧ (cutF l).1 = progT c := by
  unfold parseF at h
  split at h
  · rename_i h0
    simp only [Prod.mk.injEq] at h
    exact absurd h.2.2 h0
  · rename_i h0
    have h0 : (cutF l).2.2 = 0 := by simpa using h0
    have hm : ∀ r ∈ linesL (cutF l).1, ∀ t ∈ r, mayT t := by
      unfold linesL
      split
      · intro r hr; cases hr
      · exact linesK_may _ [] (cutF_may l) (by simp)
    obtain ⟨h1, h2⟩ := parseR_ok hm h
    refine ⟨h1, h0, ?_⟩
    have h3 : linesL (cutF l).1 = linesK [] [] (cutF l).1 := by
      unfold linesL
      rw [if_neg]
      intro e
      unfold linesL at h2
      rw [if_pos e] at h2
      cases h2
    have h4 := unl_lines (cutF l).1 [] (cutF_may l)
    rw [← h3, h2, unl_prog, List.nil_append] at h4
    exact h4.symm
theorem text_of_parse {l : List UInt8} {c : Cd} {n : Int} (h : parseF l = (c, n, 0)) (hl : l.length ≤ 20000) : c.may = true ∧ ∃ T, joinF (progT c) = (T, 0) ∧ T.size ≤ 65536 := by
  obtain ⟨h1, h2, h3⟩ := parse_inv h
  have e : cutF l = (progT c, (cutF l).2.1, 0) := by rw [← h3, ← h2]
  obtain ⟨T, a, b, _⟩ := cut_join e hl
  exact ⟨h1, T, a, b⟩
theorem argsT_len : ∀ (ks : List UInt8) (vs : List Int) (N : Int), (argsT ks vs N).length ≤ 2 * ks.length
  | [], vs, N => by simp [argsT]
  | _ :: _, [], N => by simp [argsT]
  | k :: ks, v :: vs, N => by
    have ih := argsT_len ks vs N
    have hn : ∀ v, (numT v).length ≤ 2 := fun v => by unfold numT; split <;> simp
    have : (argT k v N).length ≤ 2 := by
      unfold argT
      split
      · simp
      · split
        · simp
        · split
          · exact hn v
          · split
            · exact hn N
            · simp
    unfold argsT
    rw [List.length_append, List.length_cons]
    omega
theorem progT_len (c : Cd) : (progT c).length ≤ 7 + 8 * c.l.length := by
  have hn : ∀ v, (numT v).length ≤ 2 := fun v => by unfold numT; split <;> simp
  have hr : ∀ l : List Ji, (restT l).length ≤ 8 * l.length := by
    intro l
    induction l with
    | nil => simp [restT]
    | cons x l ih =>
      have h1 := argsT_len (kJ x.op) x.f x.n
      have h2 := kJ_len x.op
      unfold restT lineT
      simp only [List.length_cons, List.length_append]
      omega
  have := hr c.l
  have r := hn c.R
  have a := hn c.A
  have i := hn c.I
  unfold progT headT
  simp only [List.length_append, List.length_cons, List.length_nil]
  omega
theorem join_size {L : List Tk} {T : ByteArray} (h0 : L ≠ []) (h : joinF L = (T, 0)) : T.size ≤ 19 * L.length ∧ bl T = jt false L ∧ ∀ t ∈ L, mayT t := by
  have hm : ∀ t ∈ L, mayT t := by
    unfold joinF at h
    split at h
    · simp at h
    · rename_i ha
      have ha : L.all mayB = true := by simpa using ha
      exact fun t ht => (mayB_iff t).1 (List.all_eq_true.1 ha t ht)
  have hT : bl T = jt false L := by
    unfold joinF at h
    split at h
    · simp at h
    · split at h
      · simp at h
      · split at h
        · simp at h
        · injection h with h _
          rw [← h, bl_ofL, joinT_jt h0]
  have ht : totT L ≤ 18 * L.length := by
    unfold totT
    clear h hT h0
    induction L with
    | nil => simp
    | cons t L ih =>
      have h1 := ih (fun q hq => hm q (by simp [hq]))
      have h2 := tokF_len (hm t (by simp))
      simp only [List.map_cons, List.sum_cons, List.length_cons]
      omega
  have hj := jt_len L false
  refine ⟨?_, hT, hm⟩
  rw [← bl_len, hT]
  omega
end Go.Proofs.YtgkngimeokhhgaaDoor
/- The document's instruction of tokens: what has been read of it so far; where the variables lie. -/
namespace Go.Proofs.YtgkngimeokhhgaaDoor
open Go.RowKit

/-- what is still to be read of an instruction: the kinds K, by the tokens R; F stands in its places, N is its number -/
def GoI (op : Int) (r : List Tk) (K : List UInt8) (R : List Tk) (F : List Int) (N : Int) : Prop := insG (kJ op) r 0 = (insG K R N).map fun p => (F ++ p.1, p.2)
theorem GoI.start (op : Int) (r : List Tk) : GoI op r (kJ op) r [] 0 := by
  unfold GoI
  cases insG (kJ op) r 0 with
  | none => rfl
  | some p => rfl
theorem GoI.step {op : Int} {r R R2 : List Tk} {K K2 : List UInt8} {F : List Int} {N N2 v : Int} (h : GoI op r K R F N) (e : insG K R N = (insG K2 R2 N2).map fun p => (v :: p.1, p.2)) : GoI op r K2 R2 (F ++ [v]) N2 := by
  unfold GoI at *
  rw [h, e]
  cases insG K2 R2 N2 with
  | none => rfl
  | some p => simp
theorem GoI.bad {op : Int} {r R : List Tk} {K : List UInt8} {F : List Int} {N : Int} (h : GoI op r K R F N) (e : insG K R N = none) : insG (kJ op) r 0 = none := by
  unfold GoI at h
  rw [h, e]; rfl
theorem GoI.done {op : Int} {r R : List Tk} {F : List Int} {N : Int} (h : GoI op r [] R F N) : insG (kJ op) r 0 = if R = [] then some (F, N) else none := by
  unfold GoI at h
  rw [h]
  by_cases hR : R = []
  · subst hR
    simp [insG]
  · unfold insG
    rw [if_neg hR, if_neg hR]; rfl
section
variable {K : List UInt8} {R : List Tk} {t u : Tk} {N : Int}
theorem insG_short {k : UInt8} : insG (k :: K) [] N = none := rfl
theorem insG_r1 {k : UInt8} (hk : k = 119 ∨ k = 114) {v : Int} (h : behindF t 114 = (v, true)) : insG (k :: K) (t :: R) N = (insG K R N).map fun p => (v :: p.1, p.2) := by
  conv => lhs; unfold insG
  rw [if_pos hk, h, if_pos rfl]
theorem insG_r0 {k : UInt8} (hk : k = 119 ∨ k = 114) {v : Int} (h : behindF t 114 = (v, false)) : insG (k :: K) (t :: R) N = none := by
  unfold insG
  rw [if_pos hk, h, if_neg (by simp)]
theorem insG_a1 {v : Int} (h : behindF t 97 = (v, true)) : insG (97 :: K) (t :: R) N = (insG K R N).map fun p => (v :: p.1, p.2) := by
  conv => lhs; unfold insG
  rw [if_neg (by decide), if_pos rfl, h, if_pos rfl]
theorem insG_a0 {v : Int} (h : behindF t 97 = (v, false)) : insG (97 :: K) (t :: R) N = none := by
  unfold insG
  rw [if_neg (by decide), if_pos rfl, h, if_neg (by simp)]
theorem insG_p1 (h : t.k = 2) : insG (112 :: K) (t :: R) N = (insG K R N).map fun p => (t.n :: p.1, p.2) := by
  conv => lhs; unfold insG
  rw [if_neg (by decide), if_neg (by decide), if_pos rfl, if_pos h]
theorem insG_p0 (h : t.k ≠ 2) : insG (112 :: K) (t :: R) N = none := by
  unfold insG
  rw [if_neg (by decide), if_neg (by decide), if_pos rfl, if_neg h]
theorem insG_m1 (h1 : t.k = 3) (h2 : bl t.s = [45]) (h3 : u.k = 2) (h4 : u.n ≠ 0) : insG (110 :: K) [t, u] N = (insG K [] (-u.n)).map fun p => (0 :: p.1, p.2) := by
  conv => lhs; unfold insG
  rw [if_neg (by decide), if_neg (by decide), if_neg (by decide), if_pos ⟨h1, h2, rfl⟩, if_pos ⟨h3, h4⟩]; rfl
theorem insG_m0 (h1 : t.k = 3) (h2 : bl t.s = [45]) (h3 : ¬ (u.k = 2 ∧ u.n ≠ 0)) : insG (110 :: K) [t, u] N = none := by
  unfold insG
  rw [if_neg (by decide), if_neg (by decide), if_neg (by decide), if_pos ⟨h1, h2, rfl⟩]
  exact if_neg h3
theorem insG_n1 (h1 : ¬ (t.k = 3 ∧ bl t.s = [45] ∧ R.length = 1)) (h : t.k = 2) : insG (110 :: K) (t :: R) N = (insG K R t.n).map fun p => (0 :: p.1, p.2) := by
  conv => lhs; unfold insG
  rw [if_neg (by decide), if_neg (by decide), if_neg (by decide), if_neg h1, if_pos h]
theorem insG_n0 (h1 : ¬ (t.k = 3 ∧ bl t.s = [45] ∧ R.length = 1)) (h : t.k ≠ 2) : insG (110 :: K) (t :: R) N = none := by
  unfold insG
  rw [if_neg (by decide), if_neg (by decide), if_neg (by decide), if_neg h1, if_neg h]
end
/-- a token's number -/
theorem may_n {t : Tk} (h : mayT t) : 0 ≤ t.n ∧ t.n < 1000000000000000000 := by
  have h0 : t.k = 2 ∨ t.n = 0 := by
    have h2 := h
    unfold mayT tokF at h2
    split at h2
    · injection h2 with h2; rw [← h2]; exact .inr rfl
    · split at h2
      · injection h2 with h2; rw [← h2]; exact .inr rfl
      · split at h2
        · injection h2 with h2; rw [← h2]; exact .inl rfl
        · split at h2
          · injection h2 with h2; rw [← h2]; exact .inr rfl
          · cases h2
  rcases h0 with h0 | h0
  · exact (may_num_of h h0).2
  · omega
theorem may_w1 {t : Tk} (h : mayT t) (hk : t.k = 1) : 1 ≤ t.s.size := by
  have hw := (may_word_of h hk).2
  rcases Nat.eq_zero_or_pos t.s.size with h0 | h0
  · have : bl t.s = [] := List.eq_nil_of_length_eq_zero (by rw [bl_len]; exact h0)
    rw [this] at hw
    exact absurd hw (by decide)
  · exact h0
theorem behindF_fit (t : Tk) (c : UInt8) : -9223372036854775808 ≤ (behindF t c).1 ∧ (behindF t c).1 ≤ 9223372036854775807 := by
  unfold behindF
  split
  · rename_i h
    have := isNumL_bound h.2.2
    show -9223372036854775808 ≤ numL ((bl t.s).drop 1) ∧ numL ((bl t.s).drop 1) ≤ 9223372036854775807
    omega
  · show -9223372036854775808 ≤ (0 : Int) ∧ (0 : Int) ≤ 9223372036854775807
    omega
theorem behindF_ok0 {t : Tk} {c : UInt8} (h : (behindF t c).2 = false) : behindF t c = ((behindF t c).1, false) := Prod.ext rfl h
theorem behindF_ok1 {t : Tk} {c : UInt8} (h : (behindF t c).2 = true) : behindF t c = ((behindF t c).1, true) := Prod.ext rfl h
/-- tokens without the first one -/
theorem Toks.rest {w : World} {B b o m : Nat} {t : Tk} {R : List Tk} (h : Toks w B (some ⟨b, o, none⟩) (m + 1) (t :: R)) : Toks w B (some ⟨b, o + 3, none⟩) m R := by
  obtain ⟨hl, ho, hc⟩ := h
  refine ⟨by simpa using hl, fun x hx => ho x (List.mem_cons_of_mem _ hx), fun _ => ?_⟩
  obtain ⟨b', off, e, hb, hx⟩ := hc (by omega)
  injection e with e; injection e with e1 e2
  subst e1; subst e2
  refine ⟨b, o + 3, rfl, hb, fun k x hk => ?_⟩
  have := hx (k + 1) x (by simpa using hk)
  rw [show o + (k + 1) * 3 = o + 3 + k * 3 by omega] at this
  exact this
theorem Toks.none_ {w : World} {B m : Nat} {A A' : Option Addr} {R : List Tk} (h : Toks w B A m R) (hm : m = 0) : Toks w B A' m R := ⟨h.1, h.2.1, fun h0 => absurd h0 (by omega)⟩
theorem Toks.first {w : World} {B b o m : Nat} {t : Tk} {R : List Tk} (h : Toks w B (some ⟨b, o, none⟩) (m + 1) (t :: R)) : w.cell? ⟨b, o, none⟩ = some (.int .i64 t.k) ∧ w.cell? ⟨b, o + 1, none⟩ = some (.string t.s) ∧ w.cell? ⟨b, o + 2, none⟩ = some (.int .i64 t.n) ∧ t.ok := by
  obtain ⟨hl, ho, hc⟩ := h
  obtain ⟨b', off, e, hb, hx⟩ := hc (by omega)
  injection e with e; injection e with e1 e2
  subst e1; subst e2
  have := hx 0 t rfl
  simp only [Nat.zero_mul, Nat.add_zero] at this
  exact ⟨this.1, this.2.1, this.2.2, ho t (by simp)⟩
theorem Toks.cut {w : World} {B m : Nat} {A : Option Addr} {L : List Tk} (h : Toks w B A m L) (hm : 0 < m) : ∃ b o t R, A = some ⟨b, o, none⟩ ∧ L = t :: R ∧ m = R.length + 1 := by
  obtain ⟨hl, ho, hc⟩ := h
  obtain ⟨b, o, e, _⟩ := hc hm
  cases L with
  | nil => simp at hl; omega
  | cons t R => exact ⟨b, o, t, R, e, rfl, hl.symm⟩
theorem Toks.len {w : World} {B m : Nat} {A : Option Addr} {L : List Tk} (h : Toks w B A m L) : L.length = m := h.1
theorem Toks.okAll {w : World} {B m : Nat} {A : Option Addr} {L : List Tk} (h : Toks w B A m L) : ∀ t ∈ L, t.ok := h.2.1
/-- the three places: those of F, and zeros behind -/
structure VOK (k : Nat) (V F : List Int) : Prop where
  eq : V = F ++ List.replicate (3 - k) 0
  fl : F.length = k
  le : k ≤ 3
  fit : ∀ v ∈ V, -9223372036854775808 ≤ v ∧ v ≤ 9223372036854775807
theorem VOK.start : VOK 0 [0, 0, 0] [] := ⟨rfl, rfl, by omega, fun v hv => by simp at hv; omega⟩
theorem VOK.len {k : Nat} {V F : List Int} (h : VOK k V F) : V.length = 3 := by rw [h.eq, List.length_append, h.fl, List.length_replicate]; have := h.le; omega
theorem VOK.step {k : Nat} {V F : List Int} (h : VOK k V F) (hk : k < 3) {v : Int} (hv : -9223372036854775808 ≤ v ∧ v ≤ 9223372036854775807) : VOK (k + 1) (V.set k v) (F ++ [v]) := by
  refine ⟨?_, by rw [List.length_append, h.fl]; rfl, by omega, fun x hx => ?_⟩
  · rw [h.eq, List.set_append_right _ _ (by rw [h.fl]; omega), h.fl, Nat.sub_self, show 3 - k = (3 - (k + 1)) + 1 by omega, List.replicate_succ, List.set_cons_zero, List.append_assoc]; rfl
  · rcases List.mem_or_eq_of_mem_set hx with hx | rfl
    · exact h.fit x hx
    · exact hv
theorem VOK.same {k : Nat} {V F : List Int} (h : VOK k V F) (hk : k < 3) : VOK (k + 1) V (F ++ [0]) := by
  refine ⟨?_, by rw [List.length_append, h.fl]; rfl, by omega, h.fit⟩
  rw [h.eq, show 3 - k = (3 - (k + 1)) + 1 by omega, List.replicate_succ, List.append_assoc]; rfl
theorem dropU {l : List UInt8} {k : Nat} {x : UInt8} (h : l[k]? = some x) : l.drop k = x :: l.drop (k + 1) := by
  obtain ⟨hk, e⟩ := List.getElem?_eq_some_iff.1 h
  rw [List.drop_eq_getElem_cons hk, e]
theorem opW_fit {l : List UInt8} {op : Int} (h : opW l = op) : -9223372036854775808 ≤ op ∧ op ≤ 9223372036854775807 := by
  subst h
  by_cases h : 0 ≤ opW l
  · have := (opW_inv h).2
    omega
  · unfold opW at h ⊢
    split
    · rename_i i e
      rw [e] at h
      simp only at h
      omega
    · omega
theorem Toks.restc {w : World} {B b o m cc : Nat} {t : Tk} {R : List Tk} (h : Toks w B (some ⟨b, o, none⟩) (m + 1) (t :: R)) (hc : m + 1 ≤ cc) : Toks w B (some ⟨b, if cc = 1 then o else o + 3, none⟩) m R := by
  split
  · exact h.rest.none_ (by omega)
  · exact h.rest
theorem cutA (cc b o : Nat) : (if cc = 1 then some (⟨b, o, none⟩ : Addr) else some ⟨b, o + 3, none⟩) = some ⟨b, if cc = 1 then o else o + 3, none⟩ := by split <;> rfl
abbrev zeroJ : Ji := ⟨0, 0, 0, 0, 0⟩
/-- where the variables of ins lie -/
structure InsI (w : World) (g f : Nat) (wr : World) (x : Ji) (V : List Int) : Prop where
  bel : Below w.heap.size w wr
  rv : wr.heap[w.heap.size]? = some zeroJ.obj
  gn : w.heap.size < g
  fn : g < f
  bx : wr.heap[g]? = some x.obj
  fb : wr.heap[f]? = some (.cells (V.map (Value.int .i64)).toArray 3 (0, 0))
section
variable {w wr w' : World} {g f : Nat} {x : Ji} {V : List Int}
theorem InsI.below (h : InsI w g f wr x V) (hb : Below wr.heap.size wr w') : InsI w g f w' x V :=
  ⟨h.bel.trans (hb.mono h.bel.size), keep_b hb h.rv, h.gn, h.fn, keep_b hb h.bx, keep_b hb h.fb⟩
theorem InsI.setV (h : InsI w g f wr x V) (k : Nat) (v : Int) : InsI w g f (wr.setCell ⟨f, k, none⟩ (.int .i64 v)) x (V.set k v) := by
  have h1 := h.gn
  have h2 := h.fn
  refine ⟨h.bel.setCell (p := ⟨f, k, none⟩) (by show w.heap.size ≤ f; omega) _, (Below.heap_setCell _ ⟨f, k, none⟩ _ _ (by show w.heap.size ≠ f; omega)).trans h.rv, h1, h2, (Below.heap_setCell _ ⟨f, k, none⟩ _ _ (by show g ≠ f; omega)).trans h.bx, ?_⟩
  rw [List.map_set]
  exact set_j h.fb _
theorem InsI.setX (h : InsI w g f wr x V) {i : Nat} {v : Value} {y : Ji} (hy : #[Value.int .i64 y.op, .int .i64 y.a, .int .i64 y.b, .int .i64 y.c, .int .i64 y.n] = ([Value.int .i64 x.op, .int .i64 x.a, .int .i64 x.b, .int .i64 x.c, .int .i64 x.n].set i v).toArray) : InsI w g f (wr.setCell ⟨g, i, none⟩ v) y V := by
  have h1 := h.gn
  have h2 := h.fn
  refine ⟨h.bel.setCell (p := ⟨g, i, none⟩) (by show w.heap.size ≤ g; omega) _, (Below.heap_setCell _ ⟨g, i, none⟩ _ _ (by show w.heap.size ≠ g; omega)).trans h.rv, h1, h2, ?_, (Below.heap_setCell _ ⟨g, i, none⟩ _ _ (by show f ≠ g; omega)).trans h.fb⟩
  show _ = some (Obj.cells _ _ _)
  rw [hy]
  exact set_j (cs := [.int .i64 x.op, .int .i64 x.a, .int .i64 x.b, .int .i64 x.c, .int .i64 x.n]) h.bx v
end
theorem five_cellsI {w : World} {g : Nat} {a b c d e : Value} {t : TypeId} (h : w.heap[g]? = some (.cells #[a, b, c, d, e] t (0, 0))) (x0 x1 x2 x3 x4 : Value) :
    (((((w.setCell ⟨g, 0, none⟩ x0).setCell ⟨g, 1, none⟩ x1).setCell ⟨g, 2, none⟩ x2).setCell ⟨g, 3, none⟩ x3).setCell ⟨g, 4, none⟩ x4).heap[g]? = some (.cells #[x0, x1, x2, x3, x4] t (0, 0)) := by
  have h1 := set_j (i := 0) (cs := [a, b, c, d, e]) h x0
  have h2 := set_j (i := 1) (cs := [x0, b, c, d, e]) h1 x1
  have h3 := set_j (i := 2) (cs := [x0, x1, c, d, e]) h2 x2
  have h4 := set_j (i := 3) (cs := [x0, x1, x2, d, e]) h3 x3
  exact set_j (i := 4) (cs := [x0, x1, x2, x3, e]) h4 x4
/-- the result's cells, stored -/
def putJ (w : World) (g : Nat) (x : Ji) : World := (((((w.setCell ⟨g, 0, none⟩ (.int .i64 x.op)).setCell ⟨g, 1, none⟩ (.int .i64 x.a)).setCell ⟨g, 2, none⟩ (.int .i64 x.b)).setCell ⟨g, 3, none⟩ (.int .i64 x.c)).setCell ⟨g, 4, none⟩ (.int .i64 x.n))
theorem put_cells {w : World} {g : Nat} {y : Ji} (h : w.heap[g]? = some y.obj) (x : Ji) : CellsJ (putJ w g x) g 0 x := (box_cellsJ (five_cellsI h _ _ _ _ _)).1
theorem put_below {w0 w : World} {g : Nat} (h : Below g w0 w) (x : Ji) : Below g w0 (putJ w g x) :=
  ((((h.setCell (p := ⟨g, 0, none⟩) (Nat.le_refl g) _).setCell (p := ⟨g, 1, none⟩) (Nat.le_refl g) _).setCell (p := ⟨g, 2, none⟩) (Nat.le_refl g) _).setCell (p := ⟨g, 3, none⟩) (Nat.le_refl g) _).setCell (p := ⟨g, 4, none⟩) (Nat.le_refl g) _
/-- what is told of tokens as an instruction -/
def insR (L : List Tk) (x : Ji) (ok : Bool) : Prop := match insF L with
  | some y => ok = true ∧ x = y
  | none => ok = false
def InsEnd (L : List Tk) (w : World) (e : Ending) (w' : World) : Prop := ∃ (x : Ji) (ok : Bool), e = .returned (.tuple #[x.val, .bool ok]) ∧ x.ok ∧ insR L x ok ∧ Below w.heap.size w w'
theorem insR_none {L : List Tk} {x : Ji} (h : insF L = none) : insR L x false := by unfold insR; rw [h]
theorem insF_cons (t : Tk) (r : List Tk) : insF (t :: r) = if t.k = 1 ∧ 0 ≤ opW (bl t.s) then (insG (kJ (opW (bl t.s))) r 0).map fun p => ⟨opW (bl t.s), p.1.getD 0 0, p.1.getD 1 0, p.1.getD 2 0, p.2⟩ else none := rfl
theorem insF_bad {t : Tk} {r : List Tk} (h : insG (kJ (opW (bl t.s))) r 0 = none) : insF (t :: r) = none := by
  rw [insF_cons]
  split
  · rw [h]; rfl
  · rfl
theorem insF_word {t : Tk} {r : List Tk} (h : ¬ (t.k = 1 ∧ 0 ≤ opW (bl t.s))) : insF (t :: r) = none := by
  rw [insF_cons, if_neg h]
/-- all is read -/
theorem GoI.end_ {t : Tk} {r R : List Tk} {a b c N : Int} {F : List Int} (h : GoI (opW (bl t.s)) r [] R F N) (h1 : t.k = 1) (h0 : 0 ≤ opW (bl t.s)) (hV : [a, b, c] = F ++ List.replicate (3 - F.length) 0) : insR (t :: r) ⟨opW (bl t.s), a, b, c, N⟩ (decide (R = [])) := by
  have hd := h.done
  unfold insR
  rw [insF_cons, if_pos ⟨h1, h0⟩, hd]
  by_cases hR : R = []
  · rw [if_pos hR, decide_eq_true hR]
    have hF : F.length ≤ 3 := by
      have := congrArg List.length hV
      simp at this; omega
    have e : ∀ i, i < 3 → F.getD i 0 = [a, b, c].getD i 0 := by
      intro i hi
      rw [hV, List.getD_eq_getElem?_getD, List.getD_eq_getElem?_getD]
      by_cases hl : i < F.length
      · rw [List.getElem?_append_left hl]
      · rw [List.getElem?_eq_none (by omega), List.getElem?_append_right (by omega), List.getElem?_replicate]
        split <;> rfl
    have e0 := e 0 (by omega)
    have e1 := e 1 (by omega)
    have e2 := e 2 (by omega)
    refine ⟨rfl, ?_⟩
    show (⟨_, a, b, c, N⟩ : Ji) = ⟨_, F.getD 0 0, F.getD 1 0, F.getD 2 0, N⟩
    rw [e0, e1, e2]; rfl
  · rw [if_neg hR, decide_eq_false hR]; rfl
end Go.Proofs.YtgkngimeokhhgaaDoor
/- What code's text is read as, as a call's end. -/
namespace Go.Proofs.YtgkngimeokhhgaaDoor
open Go.RowKit

def ParseP (s : ByteArray) (w : World) (e : Ending) (w' : World) : Prop :=
  ∃ A' c', e = .returned (.tuple #[.agg #[.int .i64 (parseF (bl s)).1.R, .int .i64 (parseF (bl s)).1.A, .int .i64 (parseF (bl s)).1.I, .slice A' (parseF (bl s)).1.l.length c'], .int .i64 (parseF (bl s)).2.1, .int .i64 (parseF (bl s)).2.2]) ∧ OwnJ w' w.heap.size A' c' (parseF (bl s)).1.l ∧ Below w.heap.size w w'
/-- what Text tells -/
def textF (c : Cd) : ByteArray × Int := if c.may then joinF (progT c) else (⟨#[]⟩, 1)
def TextP (q : Cq) (w : World) (e : Ending) (w' : World) : Prop := e = .returned (.tuple #[.string (textF q.cd).1, .int .i64 (textF q.cd).2]) ∧ Below w.heap.size w w'
end Go.Proofs.YtgkngimeokhhgaaDoor
/- The document's Join: it gives what lexer.Join does. -/
namespace Go.Proofs.YtgkngimeokhhgaaDoor
open Go.RowKit

/-- no line is empty, one token after the other (e: the line is empty so far) -/
def fB : Bool → List Tk → Bool
  | e, [] => !e
  | e, t :: l => if t.k = 4 then !e && fB true l else fB false l
theorem fB_full : ∀ (l cur : List Tk), fullL cur l ↔ fB (decide (cur = [])) l = true
  | [], cur => by
    unfold fullL fB
    simp [linesK]
  | t :: l, cur => by
    unfold fB
    by_cases h : t.k = 4
    · have ih := fB_full l []
      unfold fullL at ih ⊢
      rw [linesK_line h, linesK_all, if_pos h]
      simp only [List.nil_append, List.singleton_append, List.mem_cons, forall_eq_or_imp, Bool.and_eq_true]
      rw [ih]
      simp
    · have ih := fB_full l (cur ++ [t])
      unfold fullL at ih ⊢
      rw [linesK_on h, if_neg h, ih]
      simp
theorem joinF_fB {L : List Tk} (h0 : L ≠ []) (hm : L.all mayB = true) : joinF L = if fB true L = false then (⟨#[]⟩, 1) else if 4096 < L.length then (⟨#[]⟩, 2) else (ofL (jt false L), 0) := by
  have h1 := fB_full L []
  unfold joinF
  rw [if_neg (by rw [hm]; decide), joinT_jt h0]
  by_cases hf : fB true L = false
  · rw [if_pos hf, if_pos]
    apply Classical.byContradiction
    intro hx
    have : fullL [] L := fun R hR e => hx ⟨R, by unfold linesL; rw [if_neg h0]; exact hR, e⟩
    rw [h1] at this
    simp [hf] at this
  · rw [if_neg hf, if_neg]
    rintro ⟨R, hR, e⟩
    have h2 : fullL [] L := by rw [h1]; simpa using hf
    unfold linesL at hR
    rw [if_neg h0] at hR
    exact h2 R hR e
theorem joinF_bad {L : List Tk} {t : Tk} (ht : t ∈ L) (hm : mayB t = false) : joinF L = (⟨#[]⟩, 1) := by
  unfold joinF
  rw [if_pos]
  rw [List.all_eq_false]
  exact ⟨t, ht, by rw [hm]; decide⟩
theorem fB_line {e : Bool} {t : Tk} {l : List Tk} (h : t.k = 4) : fB e (t :: l) = (!e && fB true l) := by rw [fB, if_pos h]
theorem fB_on {e : Bool} {t : Tk} {l : List Tk} (h : t.k ≠ 4) : fB e (t :: l) = fB false l := by rw [fB, if_neg h]
theorem all_drop {L : List Tk} {k : Nat} {x : Tk} (hx : L[k]? = some x) (h : (L.take k).all mayB = true) (hm : mayB x = true) : (L.take (k + 1)).all mayB = true := by
  rw [List.take_add_one, hx, List.all_append, h]
  simp [hm]
theorem Toks.cell {w : World} {B n b off k : Nat} {L : List Tk} {x : Tk} (h : Toks w B (some ⟨b, off, none⟩) n L) (hx : L[k]? = some x) : w.cell? ⟨b, off + k * 3, none⟩ = some (.int .i64 x.k) := by
  have hk := (List.getElem?_eq_some_iff.1 hx).1
  rw [h.1] at hk
  obtain ⟨b', off', e, _, hc⟩ := h.2.2 (by omega)
  injection e with e; injection e with e1 e2
  subst e1 e2
  exact (hc k x hx).1
theorem totT_le : ∀ (L : List Tk), (∀ t ∈ L, mayT t) → totT L ≤ 18 * L.length
  | [], _ => by simp [totT]
  | t :: l, h => by
    have h1 := totT_le l fun x hx => h x (by simp [hx])
    have h2 := tokF_len (h t (by simp))
    unfold totT at h1 ⊢
    simp only [List.map_cons, List.sum_cons, List.length_cons]
    omega
theorem bl_cat (s t : ByteArray) : bl (s ++ t) = bl s ++ bl t := bl_append s t
theorem jt_line {b : Bool} {t : Tk} {l : List Tk} (h : t.k = 4) : jt b (t :: l) = 10 :: jt false l := by rw [jt, if_pos h]
theorem jt_on {b : Bool} {t : Tk} {l : List Tk} (h : t.k ≠ 4) : jt b (t :: l) = (if b then 32 :: bl t.s else bl t.s) ++ jt true l := by rw [jt, if_neg h]
end Go.Proofs.YtgkngimeokhhgaaDoor
/- The document's Parse of code: what has been read of the lines so far; where the variables lie. -/
namespace Go.Proofs.YtgkngimeokhhgaaDoor
open Go.RowKit

theorem linesK_row : ∀ (l cur : List Tk) (D : List (List Tk)) (N : Nat), (∀ r ∈ D, r.length ≤ N) → cur.length + l.length ≤ N → ∀ r ∈ linesK D cur l, r.length ≤ N
  | [], cur, D, N, hD, hc, r, hr => by
    rw [linesK] at hr
    rcases List.mem_append.1 hr with hr | hr
    · exact hD r hr
    · rw [List.mem_singleton.1 hr]; simpa using hc
  | t :: l, cur, D, N, hD, hc, r, hr => by
    rw [linesK] at hr
    simp only [List.length_cons] at hc
    split at hr
    · refine linesK_row l [] (D ++ [cur]) N (fun s hs => ?_) (by simp only [List.length_nil]; omega) r hr
      rcases List.mem_append.1 hs with hs | hs
      · exact hD s hs
      · rw [List.mem_singleton.1 hs]; omega
    · exact linesK_row l (cur ++ [t]) D N hD (by rw [List.length_append, List.length_singleton]; omega) r hr
theorem linesL_row {l : List Tk} {r : List Tk} (h : r ∈ linesL l) : r.length ≤ l.length := by
  unfold linesL at h
  split at h
  · cases h
  · exact linesK_row l [] [] l.length (fun s hs => by cases hs) (by simp) r h
theorem linesL_mayAll {l : List Tk} (hm : ∀ t ∈ l, mayT t) {r : List Tk} (h : r ∈ linesL l) : ∀ t ∈ r, mayT t := by
  unfold linesL at h
  split at h
  · cases h
  · exact linesK_may l [] hm (fun t ht => by cases ht) r h
theorem linesL_few (l : List Tk) : (linesL l).length ≤ l.length + 1 := by
  have go : ∀ (l cur : List Tk) (D : List (List Tk)), (linesK D cur l).length ≤ D.length + l.length + 1 := by
    intro l
    induction l with
    | nil => intro cur D; simp [linesK]
    | cons t l ih =>
      intro cur D
      rw [linesK]
      split
      · refine Nat.le_trans (ih _ _) ?_
        simp only [List.length_append, List.length_cons, List.length_nil]; omega
      · refine Nat.le_trans (ih _ _) ?_
        simp only [List.length_cons]; omega
  unfold linesL
  split
  · simp
  · simpa using go l [] []
/-- the lines so far: xs is what they are, rs are still to be read, from line i on -/
def GoR (R : List (List Tk)) (i : Nat) (rs : List (List Tk)) (xs : List Ji) : Prop := rowsF 1 R = match rowsF i rs with
  | .error j => .error j
  | .ok l => .ok (xs ++ l)
theorem GoR.start (R : List (List Tk)) : GoR R 1 R [] := by
  unfold GoR
  cases rowsF 1 R <;> rfl
theorem GoR.step {R rs : List (List Tk)} {r : List Tk} {i : Nat} {xs : List Ji} {x : Ji} (h : GoR R i (r :: rs) xs) (hx : insF r = some x) : GoR R (i + 1) rs (xs ++ [x]) := by
  unfold GoR at *
  rw [h, rowsF, hx]
  cases rowsF (i + 1) rs with
  | error j => rfl
  | ok l => simp
theorem GoR.bad {R rs : List (List Tk)} {r : List Tk} {i : Nat} {xs : List Ji} (h : GoR R i (r :: rs) xs) (hx : insF r = none) : rowsF 1 R = .error i := by
  unfold GoR at h
  rw [h, rowsF, hx]
theorem GoR.done {R : List (List Tk)} {i : Nat} {xs : List Ji} (h : GoR R i [] xs) : rowsF 1 R = .ok xs := by
  unfold GoR at h
  rw [h, rowsF]
  simp
theorem parse_cut {l : List UInt8} (h : (cutF l).2.2 ≠ 0) : parseF l = (noCd, (cutF l).2.1, (cutF l).2.2) := by unfold parseF; rw [if_pos h]
theorem parse_lines {l : List UInt8} (h : (cutF l).2.2 = 0) : parseF l = parseR (linesL (cutF l).1) := by unfold parseF; rw [if_neg (by rw [h]; simp)]
theorem parse_head {h : List Tk} {rs : List (List Tk)} (hh : headOK h = false) : parseR (h :: rs) = (noCd, 0, 6) := by unfold parseR; dsimp only; rw [hh]; rfl
theorem parse_bad {h : List Tk} {rs : List (List Tk)} {i : Nat} (hh : headOK h = true) (hr : rowsF 1 rs = .error i) : parseR (h :: rs) = (noCd, (i : Int), 6) := by unfold parseR; dsimp only; rw [hh, hr]; rfl
theorem parse_no {h : List Tk} {rs : List (List Tk)} {xs : List Ji} (hh : headOK h = true) (hr : rowsF 1 rs = .ok xs) (hm : Cd.may ⟨(h.getD 1 zTk).n, (h.getD 2 zTk).n, (h.getD 3 zTk).n, xs⟩ = false) : parseR (h :: rs) = (noCd, 0, 1) := by unfold parseR; dsimp only; rw [hh, hr]; dsimp only; rw [hm]; rfl
theorem parse_yes {h : List Tk} {rs : List (List Tk)} {xs : List Ji} (hh : headOK h = true) (hr : rowsF 1 rs = .ok xs) (hm : Cd.may ⟨(h.getD 1 zTk).n, (h.getD 2 zTk).n, (h.getD 3 zTk).n, xs⟩ = true) : parseR (h :: rs) = (⟨(h.getD 1 zTk).n, (h.getD 2 zTk).n, (h.getD 3 zTk).n, xs⟩, ((rs.length + 1 : Nat) : Int), 0) := by unfold parseR; dsimp only; rw [hh, hr]; dsimp only; rw [hm]; rfl
abbrev zeroC : Obj := .cells #[.int .i64 0, .int .i64 0, .int .i64 0, .slice none 0 0] 24
/-- where the variables of Parse lie -/
structure PaI (w w2 : World) (R A I : Int) (g : Nat) (wr : World) (A' : Option Addr) (c' : Nat) (L : List Ji) : Prop where
  bel : Below w.heap.size w wr
  bel2 : Below w2.heap.size w2 wr
  lt : w.heap.size < w2.heap.size
  rv : wr.heap[w.heap.size]? = some zeroC
  gn : w2.heap.size ≤ g
  box : wr.heap[g]? = some (.cells #[.int .i64 R, .int .i64 A, .int .i64 I, .slice A' L.length c'] 24 (0, 0))
  own : OwnJ wr w2.heap.size A' c' L
section
variable {w w2 wr w' : World} {R A I : Int} {g c' c2 : Nat} {A' A2 : Option Addr} {L : List Ji} {y : Ji}
theorem PaI.below (h : PaI w w2 R A I g wr A' c' L) (hb : Below wr.heap.size wr w') : PaI w w2 R A I g w' A' c' L :=
  ⟨h.bel.trans (hb.mono h.bel.size), h.bel2.trans (hb.mono h.bel2.size), h.lt, keep_b hb h.rv, h.gn, keep_b hb h.box, h.own.below hb (Nat.le_refl _)⟩
theorem PaI.add (h : PaI w w2 R A I g wr A' c' L) (hO : OwnJ w' w2.heap.size A2 c2 (L ++ [y])) (hG : wr.grownBy w' (Value.slice A' L.length c').ownBlock) : PaI w w2 R A I g (w'.setCell ⟨g, 3, none⟩ (.slice A2 (L.length + 1) c2)) A2 c2 (L ++ [y]) := by
  have h2 := box_keptJ h.rv (by decide) hG h.own
  have h3 := box_keptJ h.box (by decide) hG h.own
  have hs := set_j (i := 3) (cs := [.int .i64 R, .int .i64 A, .int .i64 I, .slice A' L.length c']) h3 (.slice A2 (L.length + 1) c2)
  have hn := h.gn
  have hl := h.lt
  refine ⟨(below_appJ h.bel hG (h.own.mono (by omega)) h.bel.size).setCell (p := ⟨g, 3, none⟩) (by show w.heap.size ≤ g; omega) _, (below_appJ h.bel2 hG h.own h.bel2.size).setCell (p := ⟨g, 3, none⟩) hn _, hl, (Below.heap_setCell _ ⟨g, 3, none⟩ _ _ (by show w.heap.size ≠ g; omega)).trans h2, hn, ?_, hO.set_other h3 (by decide) _ _⟩
  rw [List.length_append]
  exact hs
end
/-- the result's four cells, stored -/
def putC (w : World) (g : Nat) (R A I : Int) (v : Value) : World := (((w.setCell ⟨g, 0, none⟩ (.int .i64 R)).setCell ⟨g, 1, none⟩ (.int .i64 A)).setCell ⟨g, 2, none⟩ (.int .i64 I)).setCell ⟨g, 3, none⟩ v
theorem putC_cells {w : World} {g : Nat} (h : w.heap[g]? = some zeroC) (R A I : Int) (v : Value) : (putC w g R A I v).cell? ⟨g, 0, none⟩ = some (.int .i64 R) ∧ (putC w g R A I v).cell? ⟨g, 1, none⟩ = some (.int .i64 A) ∧ (putC w g R A I v).cell? ⟨g, 2, none⟩ = some (.int .i64 I) ∧ (putC w g R A I v).cell? ⟨g, 3, none⟩ = some v := by
  obtain ⟨h0, h1, h2, h3, _⟩ := lvCells (four_cells h (.int .i64 R) (.int .i64 A) (.int .i64 I) v)
  exact ⟨h0, h1, h2, h3⟩
theorem putC_below {w0 w : World} {g : Nat} (h : Below g w0 w) (R A I : Int) (v : Value) : Below g w0 (putC w g R A I v) :=
  (((h.setCell (p := ⟨g, 0, none⟩) (Nat.le_refl g) _).setCell (p := ⟨g, 1, none⟩) (Nat.le_refl g) _).setCell (p := ⟨g, 2, none⟩) (Nat.le_refl g) _).setCell (p := ⟨g, 3, none⟩) (Nat.le_refl g) _
theorem putC_own {w : World} {base g c' : Nat} {A' : Option Addr} {L : List Ji} (h : OwnJ w base A' c' L) (hg : w.heap[g]? = some zeroC) (R A I : Int) (v : Value) : OwnJ (putC w g R A I v) base A' c' L :=
  World.ownsRow.kept h (grownBy_setE (grownBy_setE (grownBy_setE (grownBy_setE (grown_same w _) _ _) _ _) _ _) _ _) (rows_ne h hg (by decide))
theorem RowsK.lenCap {w : World} {base ch n : Nat} {H : Option Addr} {rs : List RowK} (h : RowsK w base H ch rs) (hn : rs.length = n) : n ≤ ch := by
  subst hn
  rcases h.rows.2 with ⟨h1, h2⟩ | ⟨g, cap, cur, h1, _, _, h5, _⟩
  · omega
  · injection h1 with _ _ h1; omega
theorem insR_false {L : List Tk} {x : Ji} (h : insR L x false) : insF L = none := by
  unfold insR at h
  cases hi : insF L with
  | none => rfl
  | some y => rw [hi] at h; exact absurd h.1 (by decide)
theorem insR_true {L : List Tk} {x : Ji} (h : insR L x true) : insF L = some x := by
  unfold insR at h
  cases hi : insF L with
  | none => simp [hi] at h
  | some y => rw [hi] at h; rw [h.2]
/-- nothing was read -/
theorem parse_none {s : ByteArray} {w W : World} {N E : Int} (hb : Below w.heap.size w W) (h : parseF (bl s) = (noCd, N, E)) : ParseP s w (.returned (.tuple #[.agg #[.int .i64 0, .int .i64 0, .int .i64 0, .slice none 0 0], .int .i64 N, .int .i64 E])) (putC W w.heap.size 0 0 0 (.slice none 0 0)) := by
  unfold ParseP
  rw [h]
  exact ⟨none, 0, rfl, OwnJ.nil_ _ _, putC_below hb _ _ _ _⟩
end Go.Proofs.YtgkngimeokhhgaaDoor
