/- How a tensor that came in reads, with the room of its shape and of its cells. -/
import Derived.Test.YtfimnmdcbnfhfaaG17
import Derived.Test.YtfimnmdcbnfhfaaG8
namespace Go.Proofs.Ytfimnmdcbnfhfaa
open Go.ChangeShapes Go.WideShapes Go.ChangeAt Go.RowKit

section
variable {H : Type} {enc : TypeId × Value → H} {w : World} {base : Nat} {spare : Nat → Bool} {held : Bool}
set_option maxRecDepth 100000 in
theorem open_densee {r : Reach} {b0 : Nat} {v : Value} {d : DataW H} {p : List MemPlace} (hv : Value.okWide Try.prog w r b0 45 v) (h : DataW.Trod enc Try.prog w base spare held 45 v d p) :
    ∃ A n c B m e xs ys, v = .agg #[.slice A n c, .slice B m e] ∧ Ints w w.heap.size A n xs ∧ n ≤ 9223372036854775807 ∧ Ints w w.heap.size B m ys ∧ m ≤ 9223372036854775807 ∧ n ≤ c ∧ m ≤ e := by
  obtain ⟨v0, v1, y0, y1, k, rfl, _, _, h0, h1⟩ := Go.Joins.open_agg2 Try.underlying45 (by kernel_rfl) (by kernel_rfl) hv h
  obtain ⟨a0, l0, c0, e0⟩ := Go.Joins.slice_form Try.underlying22 h0
  obtain ⟨a1, l1, c1, e1⟩ := Go.Joins.slice_form Try.underlying32 h1
  simp only [List.cons.injEq, and_true] at e0 e1
  have t0 : DataW.Trod enc Try.prog w base spare held 22 v0 y0.1 y0.2 := ⟨k, by rw [e0] at h0 ⊢; exact h0⟩
  have t1 : DataW.Trod enc Try.prog w base spare held 32 v1 y1.1 y1.2 := ⟨k, by rw [e1] at h1 ⊢; exact h1⟩
  obtain ⟨A, n, c, xs, f0, i0, b0, g0⟩ := open_numsc Try.underlying22 Try.underlying3 (by kernel_rfl) ⟨_, _, _, e0⟩ t0
  obtain ⟨B, m, e, ys, f1, i1, b1, g1⟩ := open_numsc Try.underlying32 Try.underlying2 (by kernel_rfl) ⟨_, _, _, e1⟩ t1
  exact ⟨A, n, c, B, m, e, xs, ys, by rw [f0, f1], i0, b0, i1, b1, g0, g1⟩
end
end Go.Proofs.Ytfimnmdcbnfhfaa
/- No two numbers of a stored tensor are at one place: from a place back to the levels' places, and from these back to the number. Plain mathematics. -/
namespace Go.Proofs.Ytfimnmdcbnfhfaa
open Go.RowKit

/-- the places of the levels on the way to node n of level k -/
noncomputable def pathN (ls : List Lv) : Nat → Nat → List Int
  | 0, _ => []
  | k + 1, n => match ls[k]? with
    | some l => pathN ls k (parN l (ahN ls k) n) ++ [atN l.k l.s l.ys n]
    | none => []
theorem pathN_succ {ls : List Lv} {k : Nat} {l : Lv} (hl : ls[k]? = some l) (n : Nat) : pathN ls (k + 1) n = pathN ls k (parN l (ahN ls k) n) ++ [atN l.k l.s l.ys n] := by rw [pathN, hl]
theorem pathN_length {ls : List Lv} {k : Nat} (hk : k ≤ ls.length) (n : Nat) : (pathN ls k n).length = k := by
  induction k generalizing n with
  | zero => rfl
  | succ k ih =>
    obtain ⟨l, hl⟩ : ∃ l, ls[k]? = some l := ⟨_, List.getElem?_eq_getElem (by omega)⟩
    rw [pathN_succ hl, List.length_append, ih (by omega)]
    rfl
/-- the place that level k has at a place of the shape -/
noncomputable def atK (fs : List Sp) (ls : List Lv) (c : List Int) (k : Nat) : Int := match fs[k]?, ls[k]? with
  | some f, some l => c.getD f.m.toNat 0 / stAt fs k % l.s
  | _, _ => 0
theorem atK_eq {fs : List Sp} {ls : List Lv} {k : Nat} {f : Sp} {l : Lv} (hf : fs[k]? = some f) (hl : ls[k]? = some l) (c : List Int) : atK fs ls c k = c.getD f.m.toNat 0 / stAt fs k % l.s := by unfold atK; rw [hf, hl]
theorem div_blk {q b d : Int} (h0 : 0 ≤ d) (h1 : d < b) : (q * b + d) / b = q := by
  rw [Int.add_comm, Int.add_mul_ediv_right _ _ (by omega), Int.ediv_eq_zero_of_lt h0 h1, Int.zero_add]
theorem mod_blk {q b d : Int} (h0 : 0 ≤ d) (h1 : d < b) : (q * b + d) % b = d := by
  rw [Int.add_comm, Int.add_mul_emod_self_right, Int.emod_eq_of_lt h0 h1]
theorem mul_div_blk {q b : Int} (h : 1 ≤ b) : q * b / b = q := Int.mul_ediv_cancel _ (by omega)
section
variable {xs : List Int} {fs : List Sp} {ls : List Lv}
theorem Tok.blockSize (h : Tok xs fs ls) {k : Nat} {l : Lv} {f : Sp} (hl : ls[k]? = some l) (hf : fs[k]? = some f) (h4 : f.k = 4) : l.s = bsz fs f.m := by
  have h1 := h.szStep hl hf
  have h2 := stAt_eq h.form hf
  rw [if_pos h4] at h1 h2
  rw [h2, Int.mul_one] at h1
  exact h1
/-- the levels' places are what a number's place says -/
theorem Tok.path_at (h : Tok xs fs ls) (k : Nat) (hk : k ≤ ls.length) : ∀ n, n < ahN ls k → ∀ j, j < k → (pathN ls k n)[j]? = some (atK fs ls (cN xs.length fs ls k n) j) := by
  induction k with
  | zero => intro n _ j hj; omega
  | succ k ih =>
    intro n hn j hj
    obtain ⟨l, hl⟩ : ∃ l, ls[k]? = some l := ⟨_, List.getElem?_eq_getElem (by omega)⟩
    obtain ⟨f, hf⟩ := h.spec hl
    rw [ahN_succ hl] at hn
    have hp := (parN_spec (h.lok hl) hn).1
    have hc := invC_node h k (by omega) _ hp
    obtain ⟨r1, r2, r3, r4, r5, r6⟩ := h.range hl hf hn hc
    have hpl := (h.lok hl).place n hn
    have hlen := pathN_length (ls := ls) (k := k) (by omega) (parN l (ahN ls k) n)
    obtain ⟨m, hm, hm2⟩ := h.mode hf
    rw [pathN_succ hl, cN_succ hl hf]
    obtain ⟨c, hcd⟩ : ∃ c, cN xs.length fs ls k (parN l (ahN ls k) n) = c := ⟨_, rfl⟩
    rw [hcd] at hc r2 r3 r5 r6 ⊢
    generalize atN l.k l.s l.ys n = a at *
    have hcl := hc.len
    by_cases e : j = k
    · subst e
      rw [List.getElem?_append_right (by omega), hlen, Nat.sub_self, atK_eq hf hl, stepC_same _ (by rw [hm, Int.toNat_natCast]; omega)]
      by_cases h4 : f.k = 4
      · obtain ⟨hst, hb, q, hq, hcq⟩ := r5 h4
        rw [hst, hcq, h.blockSize hl hf h4, Int.mul_one, Int.ediv_one, mod_blk hpl.1 hb]
        rfl
      · obtain ⟨hst, hz⟩ := r6 h4
        rw [hz, Int.zero_add, mul_div_blk r4, Int.emod_eq_of_lt hpl.1 hpl.2]
        rfl
    · have hjk : j < k := by omega
      rw [List.getElem?_append_left (by omega), ih (by omega) _ hp j hjk, hcd]
      obtain ⟨g, hg⟩ : ∃ g, fs[j]? = some g := ⟨_, List.getElem?_eq_getElem (by have := (List.getElem?_eq_some_iff.1 hf).1; omega)⟩
      obtain ⟨lj, hlj⟩ := h.level hg
      rw [atK_eq hg hlj, atK_eq hg hlj]
      obtain ⟨m', hm', hm2'⟩ := h.mode hg
      rw [hm', hm, Int.toNat_natCast, Int.toNat_natCast]
      by_cases em : m' = m
      · subst em
        have h4 : f.k = 4 := Classical.byContradiction fun h4 => plain_first h.form hf h4 j g hjk hg (by rw [hm', hm])
        obtain ⟨j0, z, _, hj0, hz, hzm, hz4, hone⟩ := block_first h.form hf h4
        obtain rfl := hone j g hjk hg (by rw [hm', hm])
        rw [hg] at hz; cases hz
        obtain ⟨hst, hb, q, hq, hcq⟩ := r5 h4
        have hsj := stAt_eq h.form hg
        rw [if_neg hz4, hm'] at hsj
        rw [hm, Int.toNat_natCast] at hcq
        rw [hm] at hb
        rw [stepC_same _ (by omega), hcq, hsj, hst, Int.mul_one]
        rw [div_blk hpl.1 hb, mul_div_blk (bsz_pos h.form _)]
      · rw [stepC_other _ em]
/-- a place of the shape is told by its levels' places -/
theorem Tok.place_one (h : Tok xs fs ls) {c c' : List Int} (hl : c.length = xs.length) (hl' : c'.length = xs.length) (hi : ∀ m : Nat, m < xs.length → 0 ≤ c.getD m 0 ∧ c.getD m 0 < xs.getD m 0) (hi' : ∀ m : Nat, m < xs.length → 0 ≤ c'.getD m 0 ∧ c'.getD m 0 < xs.getD m 0)
    (he : ∀ j, j < fs.length → atK fs ls c j = atK fs ls c' j) : c = c' := by
  refine List.ext_getElem? fun m => ?_
  rcases Nat.lt_or_ge m xs.length with hm | hm
  · have key : c.getD m 0 = c'.getD m 0 := by
      have hcnt := h.form.2 m hm
      -- the level of that mode which is no block
      have hpl : ∃ (j : Nat) (g : Sp), fs[j]? = some g ∧ g.m = (m : Int) ∧ g.k ≠ 4 := by
        obtain ⟨j, g, hg, hgm⟩ := cntS_find (fs := fs) (m := m) (by omega)
        by_cases h4 : g.k = 4
        · obtain ⟨j0, z, _, _, hz, hzm, hz4, _⟩ := block_first h.form hg h4
          exact ⟨j0, z, hz, by rw [hzm, hgm], hz4⟩
        · exact ⟨j, g, hg, hgm, h4⟩
      obtain ⟨j, g, hg, hgm, hg4⟩ := hpl
      obtain ⟨lj, hlj⟩ := h.level hg
      have hst := stAt_eq h.form hg
      have hss := h.szStep hlj hg
      rw [if_neg hg4, hgm] at hst hss
      rw [Int.toNat_natCast] at hss
      have hb := bsz_pos h.form (m : Int)
      have e1 := he j (List.getElem?_eq_some_iff.1 hg).1
      rw [atK_eq hg hlj, atK_eq hg hlj, hgm, Int.toNat_natCast, hst] at e1
      obtain ⟨p0, p1⟩ := hi m hm
      obtain ⟨p0', p1'⟩ := hi' m hm
      rw [hst] at hss
      have hd : ∀ a : Int, 0 ≤ a → a < xs.getD m 0 → 0 ≤ a / bsz fs m ∧ a / bsz fs m < lj.s := by
        intro a h0 h1
        refine ⟨Int.ediv_nonneg h0 (by omega), Int.ediv_lt_of_lt_mul (by omega) (by rw [hss]; exact h1)⟩
      obtain ⟨d0, d1⟩ := hd _ p0 p1
      obtain ⟨d0', d1'⟩ := hd _ p0' p1'
      rw [Int.emod_eq_of_lt d0 d1, Int.emod_eq_of_lt d0' d1'] at e1
      -- the rest: by the block's level, or there is none
      have e2 : c.getD m 0 % bsz fs m = c'.getD m 0 % bsz fs m := by
        cases hh : fs.find? (fun s => s.k == 4 && s.m == (m : Int)) with
        | none =>
          have : bsz fs m = 1 := by unfold bsz; rw [hh]
          rw [this, Int.emod_one, Int.emod_one]
        | some y =>
          have hy := List.find?_some hh
          have hym := List.mem_of_find?_eq_some hh
          simp at hy
          obtain ⟨i, hyi⟩ := List.mem_iff_getElem?.1 hym
          obtain ⟨li, hli⟩ := h.level hyi
          have e3 := he i (List.getElem?_eq_some_iff.1 hyi).1
          have hst3 := stAt_eq h.form hyi
          rw [if_pos hy.1] at hst3
          rw [atK_eq hyi hli, atK_eq hyi hli, hst3, Int.ediv_one, Int.ediv_one, h.blockSize hli hyi hy.1, hy.2, Int.toNat_natCast] at e3
          exact e3
      have a1 := Int.mul_ediv_add_emod (c.getD m 0) (bsz fs m)
      have a2 := Int.mul_ediv_add_emod (c'.getD m 0) (bsz fs m)
      rw [e1, e2] at a1
      omega
    rw [List.getD_eq_getElem?_getD, List.getD_eq_getElem?_getD] at key
    rw [List.getElem?_eq_getElem (by omega), List.getElem?_eq_getElem (by omega)] at key ⊢
    simpa using key
  · rw [List.getElem?_eq_none (by omega), List.getElem?_eq_none (by omega)]
/-- one child stands at one place -/
theorem child_one {l : Lv} {a p n n' : Nat} (hL : Lok l.k l.s l.xs l.ys a) (h2 : l.k ≠ 2) (hp : p < a) (h1 : offN l.k l.s l.xs p ≤ n) (hnn : n < n') (h3 : n' < offN l.k l.s l.xs (p + 1)) : atN l.k l.s l.ys n < atN l.k l.s l.ys n' := by
  have e1 := hL.sorted hp h1 (show n ≤ n' - 1 by omega) (by omega)
  have e2 := (hL.rise p hp n' (by omega) h3).2 h2
  omega
theorem Tok.path_one (h : Tok xs fs ls) (k : Nat) (hk : k ≤ ls.length) (hno : ∀ (j : Nat) (l : Lv), j < k → ls[j]? = some l → l.k ≠ 2) : ∀ n n', n < ahN ls k → n' < ahN ls k → pathN ls k n = pathN ls k n' → n = n' := by
  induction k with
  | zero => intro n n' hn hn' _; rw [ahN] at hn hn'; omega
  | succ k ih =>
    intro n n' hn hn' e
    obtain ⟨l, hl⟩ : ∃ l, ls[k]? = some l := ⟨_, List.getElem?_eq_getElem (by omega)⟩
    rw [ahN_succ hl] at hn hn'
    rw [pathN_succ hl, pathN_succ hl] at e
    obtain ⟨p1, p2, p3⟩ := parN_spec (h.lok hl) hn
    obtain ⟨q1, q2, q3⟩ := parN_spec (h.lok hl) hn'
    obtain ⟨e1, e2⟩ := List.append_inj e (by rw [pathN_length (by omega), pathN_length (by omega)])
    have ep := ih (by omega) (fun j l' hj hl' => hno j l' (by omega) hl') _ _ p1 q1 e1
    have e2' : atN l.k l.s l.ys n = atN l.k l.s l.ys n' := by injection e2
    have h2 := hno k l (by omega) hl
    rw [← ep] at q2 q3
    rcases Nat.lt_trichotomy n n' with hh | hh | hh
    · have := child_one (h.lok hl) h2 p1 p2 hh q3; omega
    · exact hh
    · have := child_one (h.lok hl) h2 p1 q2 hh p3; omega
theorem aheadB_trans {a b c : Nat} (ls : List Lv) (h1 : aheadB a b ls = true) (h2 : aheadB b c ls = true) : aheadB a c ls = true := by
  induction ls with
  | nil => cases h1
  | cons l r ih =>
    rw [aheadB] at h1 h2 ⊢
    by_cases e1 : l.ys[a]?.getD 0 = l.ys[b]?.getD 0
    · by_cases e2 : l.ys[b]?.getD 0 = l.ys[c]?.getD 0
      · rw [if_pos e1] at h1
        rw [if_pos e2] at h2
        rw [if_pos (by omega)]
        exact ih h1 h2
      · rw [if_neg e2] at h2
        have := of_decide_eq_true h2
        rw [if_neg (by omega)]
        exact decide_eq_true (by omega)
    · rw [if_neg e1] at h1
      have h1' := of_decide_eq_true h1
      by_cases e2 : l.ys[b]?.getD 0 = l.ys[c]?.getD 0
      · rw [if_neg (by omega)]
        exact decide_eq_true (by omega)
      · rw [if_neg e2] at h2
        have := of_decide_eq_true h2
        rw [if_neg (by omega)]
        exact decide_eq_true (by omega)
theorem aheadB_same {a b : Nat} (ls : List Lv) (h : ∀ l ∈ ls, l.ys[a]?.getD 0 = l.ys[b]?.getD 0) : aheadB a b ls = false := by
  induction ls with
  | nil => rfl
  | cons l r ih =>
    rw [aheadB, if_pos (h l (by simp))]
    exact ih fun x hx => h x (by simp [hx])
/-- behind a loose level the places of its children's numbers rise -/
theorem Tok.loose_lt (h : Tok xs fs ls) {kl : Nat} {l : Lv} (hl : ls[kl]? = some l) (h2 : l.k = 2) {p n n' : Nat} (hp : p < ahN ls kl) (h1 : offN l.k l.s l.xs p ≤ n) (hnn : n < n') (h3 : n' < offN l.k l.s l.xs (p + 1)) : aheadB n n' (ls.drop kl) = true := by
  have hL := h.lok hl
  have hpl := hL.posLen (.inr h2)
  have hr := h.rise kl l hl h2 p
  rw [h2] at h1 h3
  obtain ⟨d, rfl⟩ : ∃ d, n' = n + 1 + d := ⟨n' - n - 1, by omega⟩
  induction d with
  | zero => have := hr (n + 1) (by omega) (by omega) h3; exact this
  | succ d ih =>
    have a1 := ih (by omega) (by omega)
    have a2 := hr (n + 1 + (d + 1)) (by omega) (by omega) h3
    rw [show n + 1 + (d + 1) - 1 = n + 1 + d by omega] at a2
    exact aheadB_trans _ a1 a2
theorem Tok.single (h : Tok xs fs ls) {kl : Nat} {l : Lv} (hl : ls[kl]? = some l) (h2 : l.k = 2) {j : Nat} {y : Lv} (hj : kl < j) (hy : ls[j]? = some y) : y.k = 3 := by
  obtain ⟨f, hf⟩ := h.spec hl
  obtain ⟨g, hg⟩ := h.spec hy
  rw [h.kind hy hg]
  refine single_behind h.form hf (by rw [← h.kind hl hf]; exact h2) (j - kl - 1) g ?_
  rw [show kl + 1 + (j - kl - 1) = j by omega]
  exact hg
theorem parN_single {l : Lv} {a n : Nat} (hL : Lok l.k l.s l.xs l.ys a) (h3 : l.k = 3) (hn : n < totN l.k l.s l.ys a) : parN l a n = n := by
  have ha := hL.single h3
  refine parN_eq hL (by omega) ?_ ?_
  · rw [h3]; simp [offN, wholeB]
  · rw [h3]; simp [offN, wholeB]
/-- numbers whose levels' places are the same: one number -/
theorem Tok.paths_loose (h : Tok xs fs ls) {kl : Nat} {l : Lv} (hl : ls[kl]? = some l) (h2 : l.k = 2) (d : Nat) (hd : kl + 1 + d ≤ ls.length) : ∀ q q', q < ahN ls (kl + 1 + d) → q' < ahN ls (kl + 1 + d) → pathN ls (kl + 1 + d) q = pathN ls (kl + 1 + d) q' →
    q < ahN ls (kl + 1) ∧ q' < ahN ls (kl + 1) ∧ pathN ls (kl + 1) q = pathN ls (kl + 1) q' ∧ ∀ (i : Nat) (y : Lv), kl < i → i < kl + 1 + d → ls[i]? = some y → y.ys[q]?.getD 0 = y.ys[q']?.getD 0 := by
  induction d with
  | zero => intro q q' hq hq' e; exact ⟨hq, hq', e, fun i y h1 h2 => by omega⟩
  | succ d ih =>
    intro q q' hq hq' e
    obtain ⟨y, hy⟩ : ∃ y, ls[kl + 1 + d]? = some y := ⟨_, List.getElem?_eq_getElem (by omega)⟩
    have h3 := h.single hl h2 (show kl < kl + 1 + d by omega) hy
    have hL := h.lok hy
    rw [show kl + 1 + (d + 1) = (kl + 1 + d) + 1 by omega] at hq hq' e
    rw [ahN_succ hy] at hq hq'
    rw [pathN_succ hy, pathN_succ hy, parN_single hL h3 hq, parN_single hL h3 hq'] at e
    obtain ⟨e1, e2⟩ := List.append_inj e (by rw [pathN_length (by omega), pathN_length (by omega)])
    have e2' : atN y.k y.s y.ys q = atN y.k y.s y.ys q' := by injection e2
    rw [hL.single h3] at hq hq'
    obtain ⟨a1, a2, a3, a4⟩ := ih (by omega) q q' hq hq' e1
    refine ⟨a1, a2, a3, fun i z h1 h4 hz => ?_⟩
    by_cases ei : i = kl + 1 + d
    · subst ei
      rw [hy] at hz; cases hz
      rw [h3] at e2'
      simpa [atN, wholeB] using e2'
    · exact a4 i z h1 (by omega) hz
theorem Tok.path_inj (h : Tok xs fs ls) {q q' : Nat} (hq : q < ahN ls ls.length) (hq' : q' < ahN ls ls.length) (e : pathN ls ls.length q = pathN ls ls.length q') : q = q' := by
  by_cases hno : ∀ (j : Nat) (l : Lv), j < ls.length → ls[j]? = some l → l.k ≠ 2
  · exact h.path_one _ (Nat.le_refl _) hno q q' hq hq' e
  · have : ∃ (j : Nat) (l : Lv), ls[j]? = some l ∧ l.k = 2 := by
      refine Classical.byContradiction fun hh => hno fun j l _ hl h2 => hh ⟨j, l, hl, h2⟩
    obtain ⟨kl, l, hl, h2⟩ := this
    have hkl := (List.getElem?_eq_some_iff.1 hl).1
    obtain ⟨d, hd⟩ : ∃ d, ls.length = kl + 1 + d := ⟨ls.length - kl - 1, by omega⟩
    rw [hd] at hq hq' e
    obtain ⟨a1, a2, a3, a4⟩ := h.paths_loose hl h2 d (by omega) q q' hq hq' e
    rw [ahN_succ hl] at a1 a2
    rw [pathN_succ hl, pathN_succ hl] at a3
    obtain ⟨e1, e2⟩ := List.append_inj a3 (by rw [pathN_length (by omega), pathN_length (by omega)])
    have e2' : atN l.k l.s l.ys q = atN l.k l.s l.ys q' := by injection e2
    obtain ⟨p1, p2, p3⟩ := parN_spec (h.lok hl) a1
    obtain ⟨q1, q2, q3⟩ := parN_spec (h.lok hl) a2
    have hbef : ∀ (j : Nat) (l' : Lv), j < kl → ls[j]? = some l' → l'.k ≠ 2 := by
      intro j l' hj hl' hk
      have := h.single hl' hk hj hl
      omega
    have ep := h.path_one kl (by omega) hbef _ _ p1 q1 e1
    rw [← ep] at q2 q3
    have hs : ∀ y ∈ ls.drop kl, y.ys[q]?.getD 0 = y.ys[q']?.getD 0 := by
      intro y hy
      obtain ⟨i, hi⟩ := List.mem_iff_getElem?.1 hy
      rw [List.getElem?_drop] at hi
      have hil := (List.getElem?_eq_some_iff.1 hi).1
      by_cases h0 : i = 0
      · subst h0
        rw [Nat.add_zero, hl] at hi; cases hi
        rw [h2] at e2'
        simpa [atN, wholeB] using e2'
      · exact a4 (kl + i) y (by omega) (by omega) hi
    rcases Nat.lt_trichotomy q q' with hh | hh | hh
    · have := h.loose_lt hl h2 p1 p2 hh q3
      rw [aheadB_same _ hs] at this
      cases this
    · exact hh
    · have := h.loose_lt hl h2 p1 q2 hh p3
      rw [aheadB_same _ fun y hy => (hs y hy).symm] at this
      cases this
/-- no two numbers are at one place -/
theorem Tok.one (h : Tok xs fs ls) {q q' : Nat} (hq : q < ahN ls ls.length) (hq' : q' < ahN ls ls.length) (e : cN xs.length fs ls ls.length q = cN xs.length fs ls ls.length q') : q = q' := by
  refine h.path_inj hq hq' (List.ext_getElem? fun j => ?_)
  rcases Nat.lt_or_ge j ls.length with hj | hj
  · rw [h.path_at _ (Nat.le_refl _) q hq j hj, h.path_at _ (Nat.le_refl _) q' hq' j hj, e]
  · rw [List.getElem?_eq_none (by rw [pathN_length (Nat.le_refl _)]; exact hj), List.getElem?_eq_none (by rw [pathN_length (Nat.le_refl _)]; exact hj)]
/-- a number whose levels' places are those of a place of the shape is there -/
theorem Tok.there (h : Tok xs fs ls) {q : Nat} (hq : q < ahN ls ls.length) {c : List Int} (hl : c.length = xs.length) (hi : ∀ m : Nat, m < xs.length → 0 ≤ c.getD m 0 ∧ c.getD m 0 < xs.getD m 0) (e : ∀ j, j < ls.length → (pathN ls ls.length q)[j]? = some (atK fs ls c j)) : cN xs.length fs ls ls.length q = c := by
  have hI := invC_node h ls.length (Nat.le_refl _) q hq
  have hlen : fs.length = ls.length := h.of.1.symm
  refine h.place_one hI.len hl (fun m hm => hI.in_ m hm ?_) hi fun j hj => ?_
  · rw [List.take_of_length_le (by omega)]
    exact h.form.2 m hm
  · have h1 := e j (by omega)
    rw [h.path_at _ (Nat.le_refl _) q hq j (by omega)] at h1
    injection h1
/-- the ancestor, d levels up, at level k -/
noncomputable def ancD (ls : List Lv) (k : Nat) : Nat → Nat → Nat
  | 0, q => q
  | d + 1, q => match ls[k]? with
    | some l => parN l (ahN ls k) (ancD ls (k + 1) d q)
    | none => 0
termination_by d => d
theorem ancD_succ {k : Nat} {l : Lv} (hl : ls[k]? = some l) (d q : Nat) : ancD ls k (d + 1) q = parN l (ahN ls k) (ancD ls (k + 1) d q) := by rw [ancD, hl]
theorem Tok.anc_lt (h : Tok xs fs ls) (d : Nat) : ∀ k, k + d ≤ ls.length → ∀ q, q < ahN ls (k + d) → ancD ls k d q < ahN ls k := by
  induction d with
  | zero => intro k _ q hq; rw [ancD]; exact hq
  | succ d ih =>
    intro k hk q hq
    obtain ⟨l, hl⟩ : ∃ l, ls[k]? = some l := ⟨_, List.getElem?_eq_getElem (by omega)⟩
    have := ih (k + 1) (by omega) q (by rw [show k + 1 + d = k + (d + 1) by omega]; exact hq)
    rw [ancD_succ hl]
    rw [ahN_succ hl] at this
    exact (parN_spec (h.lok hl) this).1
theorem path_anc (d : Nat) : ∀ k, k + d ≤ ls.length → ∀ q, ∃ t, pathN ls (k + d) q = pathN ls k (ancD ls k d q) ++ t := by
  induction d with
  | zero => intro k _ q; exact ⟨[], by rw [ancD, List.append_nil, Nat.add_zero]⟩
  | succ d ih =>
    intro k hk q
    obtain ⟨l, hl⟩ : ∃ l, ls[k]? = some l := ⟨_, List.getElem?_eq_getElem (by omega)⟩
    obtain ⟨t, ht⟩ := ih (k + 1) (by omega) q
    rw [show k + 1 + d = k + (d + 1) by omega, pathN_succ hl] at ht
    rw [ancD_succ hl]
    exact ⟨_, by rw [ht, List.append_assoc]⟩
/-- the place of the way at level k -/
theorem path_here {k : Nat} {l : Lv} (hl : ls[k]? = some l) (d : Nat) (hk : k + 1 + d ≤ ls.length) (q : Nat) : (pathN ls (k + 1 + d) q)[k]? = some (atN l.k l.s l.ys (ancD ls (k + 1) d q)) := by
  obtain ⟨t, ht⟩ := path_anc d (k + 1) hk q
  rw [ht, pathN_succ hl, List.append_assoc, List.getElem?_append_right (by rw [pathN_length (by omega)]; exact Nat.le_refl _), pathN_length (by omega), Nat.sub_self]
  rfl
end
end Go.Proofs.Ytfimnmdcbnfhfaa
/- Each level's size goes into its mode's; of levels that are whole there are as many numbers as the shape has cells. Plain mathematics. -/
namespace Go.Proofs.Ytfimnmdcbnfhfaa
open Go.RowKit

/-- what the levels ahead make of each mode -/
noncomputable def prodK (xs : List Int) (fs : List Sp) : Nat → List Int
  | 0 => List.replicate xs.length 0
  | k + 1 => match fs[k]? with
    | some f => (prodK xs fs k).set f.m.toNat (if f.k = 4 then (prodK xs fs k).getD f.m.toNat 0 * szAt xs fs k else szAt xs fs k)
    | none => prodK xs fs k
theorem prodK_succ {xs : List Int} {fs : List Sp} {k : Nat} {f : Sp} (hf : fs[k]? = some f) : prodK xs fs (k + 1) = (prodK xs fs k).set f.m.toNat (if f.k = 4 then (prodK xs fs k).getD f.m.toNat 0 * szAt xs fs k else szAt xs fs k) := by rw [prodK, hf]
theorem prodK_length (xs : List Int) (fs : List Sp) (k : Nat) : (prodK xs fs k).length = xs.length := by
  induction k with
  | zero => simp [prodK]
  | succ k ih =>
    rw [prodK]
    split
    · rw [List.length_set, ih]
    · exact ih
theorem getD_set_same {l : List Int} {m : Nat} {v : Int} (h : m < l.length) : (l.set m v).getD m 0 = v := by rw [List.getD_eq_getElem?_getD, List.getElem?_set_self h]; rfl
theorem getD_set_other {l : List Int} {m i : Nat} {v : Int} (h : i ≠ m) : (l.set m v).getD i 0 = l.getD i 0 := by rw [List.getD_eq_getElem?_getD, List.getElem?_set_ne (by omega), List.getD_eq_getElem?_getD]
theorem prodI_set : ∀ (l : List Int) (m : Nat) (s : Int), m < l.length → prodI (l.set m (l.getD m 0 * s)) = prodI l * s
  | [], m, s, h => by simp at h
  | x :: r, 0, s, _ => by
    simp only [List.set_cons_zero, List.getD_cons_zero, prodI]
    rw [Int.mul_assoc, Int.mul_comm s, ← Int.mul_assoc]
  | x :: r, m + 1, s, h => by
    simp only [List.set_cons_succ, List.getD_cons_succ, prodI]
    rw [prodI_set r m s (by simpa using h), Int.mul_assoc]
theorem prodI_zero : ∀ (l : List Int), (l.any fun s => s == 0) = true → prodI l = 0
  | [], h => by simp at h
  | x :: r, h => by
    rw [List.any_cons, Bool.or_eq_true] at h
    rw [prodI]
    rcases h with h | h
    · rw [show x = 0 by simpa using h, Int.zero_mul]
    · rw [prodI_zero r h, Int.mul_zero]
theorem cellsF_prod {xs : List Int} (h : (cellsF xs).2 = 0) : (cellsF xs).1 = prodI xs := by
  by_cases hz : (xs.any fun s => s == 0) = true
  · rw [prodI_zero xs hz]
    unfold cellsF at h ⊢
    split at h
    · simp at h
    · next hh => rw [if_neg hh, if_pos hz]
  · refine (cellsF_ok_pos h fun x hx => ?_).1
    have h1 := (cellsF_ok h).2 x hx
    have h2 : x ≠ 0 := fun e => hz (List.any_eq_true.2 ⟨x, hx, by simpa using e⟩)
    omega
section
variable {xs : List Int} {fs : List Sp} {ls : List Lv}
theorem cnt_step {k : Nat} {f : Sp} {m : Nat} (hf : fs[k]? = some f) (hm : f.m = (m : Int)) (i : Nat) : cntS (fs.take (k + 1)) i = cntS (fs.take k) i + if i = m then 1 else 0 := by
  rw [take_succ_of hf, cntS_snoc, hm]
  by_cases e : i = m
  · subst e; simp
  · rw [if_neg (by omega), if_neg e]
/-- where a mode's product is -/
structure InvP (xs : List Int) (fs : List Sp) (k : Nat) : Prop where
  none_ : ∀ m : Nat, m < xs.length → cntS (fs.take k) m = 0 → (prodK xs fs k).getD m 0 = 0
  one_ : ∀ m : Nat, m < xs.length → cntS (fs.take k) m = 1 → (prodK xs fs k).getD m 0 * bsz fs m = xs.getD m 0
  two_ : ∀ m : Nat, m < xs.length → 2 ≤ cntS (fs.take k) m → (prodK xs fs k).getD m 0 = xs.getD m 0
theorem Tok.szAt_of (h : Tok xs fs ls) {k : Nat} {f : Sp} (hf : fs[k]? = some f) : szAt xs fs k * (if f.k = 4 then 1 else bsz fs f.m) = if f.k = 4 then bsz fs f.m else xs.getD f.m.toNat 0 := by
  obtain ⟨l, hl⟩ := h.level hf
  have h1 := h.szStep hl hf
  rw [stAt_eq h.form hf, h.sz hl hf] at h1
  exact h1
theorem Tok.invP (h : Tok xs fs ls) : ∀ k, k ≤ fs.length → InvP xs fs k := by
  intro k
  induction k with
  | zero =>
    intro _
    refine ⟨fun m hm _ => ?_, fun m _ hc => ?_, fun m _ hc => ?_⟩
    · show (List.replicate xs.length 0).getD m 0 = 0
      rw [List.getD_eq_getElem?_getD, List.getElem?_replicate, if_pos hm]; rfl
    · simp [cntS] at hc
    · simp [cntS] at hc
  | succ k ih =>
    intro hk
    have hi := ih (by omega)
    obtain ⟨f, hf⟩ : ∃ f, fs[k]? = some f := ⟨_, List.getElem?_eq_getElem (by omega)⟩
    obtain ⟨m, hm, hm2⟩ := h.mode hf
    have hs := (h.form.1 k f hf).2.2.2
    have hz := h.szAt_of hf
    have hlen := prodK_length xs fs k
    rw [hm] at hs
    by_cases h4 : f.k = 4
    · have hc1 : cntS (fs.take k) m = 1 := by
        rcases hs with hh | hh
        · exact absurd h4 hh.2.1
        · exact hh.1
      rw [if_pos h4, if_pos h4, Int.mul_one, hm] at hz
      have ho := hi.one_ m hm2 hc1
      refine ⟨fun i hi' hc => ?_, fun i hi' hc => ?_, fun i hi' hc => ?_⟩ <;> rw [cnt_step hf hm] at hc <;> rw [prodK_succ hf, if_pos h4, hm, Int.toNat_natCast]
      · have e : i ≠ m := by intro e; rw [if_pos e] at hc; omega
        rw [if_neg e] at hc
        rw [getD_set_other e]
        exact hi.none_ i hi' (by omega)
      · by_cases e : i = m
        · subst e; rw [if_pos rfl] at hc; omega
        · rw [if_neg e] at hc
          rw [getD_set_other e]
          exact hi.one_ i hi' (by omega)
      · by_cases e : i = m
        · subst e
          rw [getD_set_same (by omega), hz]
          exact ho
        · rw [if_neg e] at hc
          rw [getD_set_other e]
          exact hi.two_ i hi' (by omega)
    · have hc0 : cntS (fs.take k) m = 0 := by
        rcases hs with hh | hh
        · exact hh.1
        · exact absurd hh.2.1 h4
      rw [if_neg h4, if_neg h4, hm, Int.toNat_natCast] at hz
      refine ⟨fun i hi' hc => ?_, fun i hi' hc => ?_, fun i hi' hc => ?_⟩ <;> rw [cnt_step hf hm] at hc <;> rw [prodK_succ hf, if_neg h4, hm, Int.toNat_natCast]
      · have e : i ≠ m := by intro e; rw [if_pos e] at hc; omega
        rw [if_neg e] at hc
        rw [getD_set_other e]
        exact hi.none_ i hi' (by omega)
      · by_cases e : i = m
        · subst e
          rw [getD_set_same (by omega)]
          exact hz
        · rw [if_neg e] at hc
          rw [getD_set_other e]
          exact hi.one_ i hi' (by omega)
      · by_cases e : i = m
        · subst e; rw [if_pos rfl] at hc; omega
        · rw [if_neg e] at hc
          rw [getD_set_other e]
          exact hi.two_ i hi' (by omega)
/-- a block's product is the mode's size: it does not go around -/
theorem Tok.prod_block (h : Tok xs fs ls) {k : Nat} {f : Sp} (hf : fs[k]? = some f) (h4 : f.k = 4) : (prodK xs fs k).getD f.m.toNat 0 * szAt xs fs k = xs.getD f.m.toNat 0 := by
  obtain ⟨m, hm, hm2⟩ := h.mode hf
  have hs := (h.form.1 k f hf).2.2.2
  have hz := h.szAt_of hf
  have hc1 : cntS (fs.take k) m = 1 := by
    rcases hs with hh | hh
    · exact absurd h4 hh.2.1
    · rw [← hm]; exact hh.1
  rw [if_pos h4, if_pos h4, Int.mul_one] at hz
  rw [hz, hm, Int.toNat_natCast]
  exact (h.invP k (by have := (List.getElem?_eq_some_iff.1 hf).1; omega)).one_ m hm2 hc1
theorem Tok.bsz_alone (h : Tok xs fs ls) {m : Nat} (hc : cntS fs m = 1) : bsz fs m = 1 := by
  unfold bsz
  cases hh : fs.find? (fun s => s.k == 4 && s.m == (m : Int)) with
  | none => rfl
  | some y =>
    have hy := List.find?_some hh
    have hym := List.mem_of_find?_eq_some hh
    simp at hy
    obtain ⟨i, hi⟩ := List.mem_iff_getElem?.1 hym
    obtain ⟨j, z, _, hj, hz, hzm, _, _⟩ := block_first h.form hi hy.1
    have := cntS_two hz hi (by rw [hzm, hy.2]) hy.2 hj
    omega
/-- each level's size goes into its mode's -/
theorem Tok.prod_all (h : Tok xs fs ls) : prodK xs fs fs.length = xs := by
  have hI := h.invP fs.length (Nat.le_refl _)
  have hlen := prodK_length xs fs fs.length
  have key : ∀ m, m < xs.length → (prodK xs fs fs.length).getD m 0 = xs.getD m 0 := by
    intro m hm
    have hc := h.form.2 m hm
    have e : fs.take fs.length = fs := List.take_length
    by_cases h1 : cntS fs m = 1
    · have := hI.one_ m hm (by rw [e]; exact h1)
      rw [h.bsz_alone h1, Int.mul_one] at this
      exact this
    · exact hI.two_ m hm (by rw [e]; omega)
  refine List.ext_getElem? fun m => ?_
  rcases Nat.lt_or_ge m xs.length with hm | hm
  · have := key m hm
    rw [List.getD_eq_getElem?_getD, List.getD_eq_getElem?_getD] at this
    rw [List.getElem?_eq_getElem (by omega), List.getElem?_eq_getElem (by omega)] at this ⊢
    simpa using this
  · rw [List.getElem?_eq_none (by omega), List.getElem?_eq_none (by omega)]
/-- the products, and 1 of a mode that has none yet -/
noncomputable def onesK (xs : List Int) (fs : List Sp) (k : Nat) : List Int := (List.range xs.length).map fun m : Nat => if cntS (fs.take k) m = 0 then 1 else (prodK xs fs k).getD m 0
theorem onesK_at {k m : Nat} (hm : m < xs.length) : (onesK xs fs k).getD m 0 = if cntS (fs.take k) m = 0 then 1 else (prodK xs fs k).getD m 0 := by
  unfold onesK
  rw [List.getD_eq_getElem?_getD, List.getElem?_map, List.getElem?_range hm]
  rfl
theorem onesK_length (k : Nat) : (onesK xs fs k).length = xs.length := by simp [onesK]
theorem Tok.onesK_step (h : Tok xs fs ls) {k : Nat} {f : Sp} (hf : fs[k]? = some f) : prodI (onesK xs fs (k + 1)) = prodI (onesK xs fs k) * szAt xs fs k := by
  obtain ⟨m, hm, hm2⟩ := h.mode hf
  have hs := (h.form.1 k f hf).2.2.2
  rw [hm] at hs
  rw [← prodI_set _ m _ (by rw [onesK_length]; exact hm2)]
  congr 1
  refine List.ext_getElem? fun i => ?_
  rcases Nat.lt_or_ge i xs.length with hi | hi
  · have key : (onesK xs fs (k + 1)).getD i 0 = ((onesK xs fs k).set m ((onesK xs fs k).getD m 0 * szAt xs fs k)).getD i 0 := by
      rw [onesK_at hi, cnt_step hf hm, prodK_succ hf, hm, Int.toNat_natCast]
      by_cases e : i = m
      · subst e
        rw [if_pos rfl, if_neg (by omega), getD_set_same (by rw [prodK_length]; exact hi), getD_set_same (by rw [onesK_length]; exact hi), onesK_at hi]
        by_cases h4 : f.k = 4
        · have hc1 : cntS (fs.take k) i = 1 := by
            rcases hs with hh | hh
            · exact absurd h4 hh.2.1
            · exact hh.1
          rw [if_pos h4, if_neg (by omega)]
        · have hc0 : cntS (fs.take k) i = 0 := by
            rcases hs with hh | hh
            · exact hh.1
            · exact absurd hh.2.1 h4
          rw [if_neg h4, if_pos hc0, Int.one_mul]
      · rw [if_neg e, Nat.add_zero, getD_set_other e, getD_set_other e, onesK_at hi]
    rw [List.getD_eq_getElem?_getD, List.getD_eq_getElem?_getD] at key
    rw [List.getElem?_eq_getElem (by rw [onesK_length]; omega), List.getElem?_eq_getElem (by rw [List.length_set, onesK_length]; omega)] at key ⊢
    simpa using key
  · rw [List.getElem?_eq_none (by rw [onesK_length]; exact hi), List.getElem?_eq_none (by rw [List.length_set, onesK_length]; exact hi)]
/-- of levels that are whole there are as many as the shape has cells -/
theorem Tok.whole_tot (h : Tok xs fs ls) (hw : ∀ (k : Nat) (f : Sp), fs[k]? = some f → f.k = 0 ∨ f.k = 4) : ((ahN ls ls.length : Nat) : Int) = (cellsF xs).1 := by
  have hlen : ls.length = fs.length := h.of.1
  have key : ∀ k, k ≤ ls.length → ((ahN ls k : Nat) : Int) = prodI (onesK xs fs k) := by
    intro k
    induction k with
    | zero =>
      intro _
      have : onesK xs fs 0 = List.replicate xs.length 1 := by
        refine List.ext_getElem? fun i => ?_
        unfold onesK
        rw [List.getElem?_map, List.getElem?_replicate]
        rcases Nat.lt_or_ge i xs.length with hi | hi
        · rw [List.getElem?_range hi, if_pos hi]; simp [cntS]
        · rw [List.getElem?_eq_none (by simpa using hi), if_neg (by omega)]; rfl
      rw [this]
      have : ∀ n : Nat, prodI (List.replicate n 1) = 1 := by
        intro n
        induction n with
        | zero => rfl
        | succ n ih => rw [List.replicate_succ, prodI, ih]; rfl
      rw [this]
      rfl
    | succ k ih =>
      intro hk
      obtain ⟨l, hl⟩ : ∃ l, ls[k]? = some l := ⟨_, List.getElem?_eq_getElem (by omega)⟩
      obtain ⟨f, hf⟩ := h.spec hl
      have hw' : wholeB l.k = true := by rw [h.kind hl hf]; exact wholeB_iff.2 (hw k f hf)
      have h0 := (h.lok hl).size0
      rw [h.onesK_step hf, ← ih (by omega), ahN_succ hl]
      unfold totN
      rw [if_pos hw', Int.natCast_mul, Int.toNat_of_nonneg h0, h.sz hl hf]
  rw [key _ (Nat.le_refl _), hlen, cellsF_prod h.cells]
  congr 1
  refine List.ext_getElem? fun i => ?_
  rcases Nat.lt_or_ge i xs.length with hi | hi
  · have h1 := onesK_at (xs := xs) (fs := fs) (k := fs.length) hi
    rw [List.take_length, if_neg (h.form.2 i hi), h.prod_all] at h1
    rw [List.getD_eq_getElem?_getD, List.getD_eq_getElem?_getD] at h1
    rw [List.getElem?_eq_getElem (by rw [onesK_length]; omega), List.getElem?_eq_getElem (by omega)] at h1 ⊢
    simpa using h1
  · rw [List.getElem?_eq_none (by rw [onesK_length]; exact hi), List.getElem?_eq_none (by omega)]
end
end Go.Proofs.Ytfimnmdcbnfhfaa
/- A stored tensor of whatever size, as it came in; whether it is small enough to be played. -/
namespace Go.Proofs.Ytfimnmdcbnfhfaa
open Go.RowKit

/-- a level of whatever size -/
structure LvR.In (w : World) (B : Nat) (l : Lv) : Prop where
  k0 : -9223372036854775808 ≤ l.k ∧ l.k ≤ 9223372036854775807
  s0 : -9223372036854775808 ≤ l.s ∧ l.s ≤ 9223372036854775807
  pos : Ints w B l.A l.n l.xs
  crd : Ints w B l.B l.m l.ys
  n1 : l.n ≤ 9223372036854775807
  m1 : l.m ≤ 9223372036854775807
  nc : l.n ≤ l.c
  me : l.m ≤ l.e
def LvsR (w : World) (B : Nat) (A : Option Addr) (n : Nat) (ls : List Lv) : Prop :=
  ls.length = n ∧ (∀ x ∈ ls, LvR.In w B x) ∧
  (0 < n → ∃ b off, A = some ⟨b, off, none⟩ ∧ b < B ∧ ∀ (k : Nat) (x : Lv), ls[k]? = some x → w.cell? ⟨b, off + k * 4, none⟩ = some (.int .i64 x.k) ∧ w.cell? ⟨b, off + k * 4 + 1, none⟩ = some (.int .i64 x.s) ∧ w.cell? ⟨b, off + k * 4 + 2, none⟩ = some (.slice x.A x.n x.c) ∧ w.cell? ⟨b, off + k * 4 + 3, none⟩ = some (.slice x.B x.m x.e))
structure TenR.In (w : World) (B : Nat) (t : Ten) : Prop where
  shape : Ints w B t.A t.n t.xs
  form : Specs w B t.F t.fn t.fs
  lvs : LvsR w B t.L t.ln t.ls
  vals : Ints w B t.V t.vn t.vs
  nc : t.n ≤ t.c
  fc : t.fn ≤ t.fc
  lc : t.ln ≤ t.lc
  vc : t.vn ≤ t.vc
  n1 : t.n ≤ 9223372036854775807
  f1 : t.fn ≤ 9223372036854775807
  l1 : t.ln ≤ 9223372036854775807
  v1 : t.vn ≤ 9223372036854775807
section
variable {w w' : World} {B B' n : Nat} {A : Option Addr} {ls : List Lv} {t : Ten}
theorem LvR.In.keep {l : Lv} (h : LvR.In w B l) (hk : ∀ p : Addr, p.block < B → w'.cell? p = w.cell? p) : LvR.In w' B l :=
  ⟨h.k0, h.s0, h.pos.keep hk, h.crd.keep hk, h.n1, h.m1, h.nc, h.me⟩
theorem LvR.In.more {l : Lv} (h : LvR.In w B l) (hB : B ≤ B') : LvR.In w B' l := ⟨h.k0, h.s0, h.pos.more hB, h.crd.more hB, h.n1, h.m1, h.nc, h.me⟩
theorem LvsR.nil_ : LvsR w B A 0 [] := ⟨rfl, by simp, fun h => absurd h (by omega)⟩
theorem LvsR.keep (h : LvsR w B A n ls) (hk : ∀ p : Addr, p.block < B → w'.cell? p = w.cell? p) : LvsR w' B A n ls := by
  obtain ⟨hl, hb, hc⟩ := h
  refine ⟨hl, fun x hx => (hb x hx).keep hk, fun hn => ?_⟩
  obtain ⟨b, off, e, hB, hx⟩ := hc hn
  exact ⟨b, off, e, hB, fun k x hx' => ⟨(hk _ hB).trans (hx k x hx').1, (hk _ hB).trans (hx k x hx').2.1, (hk _ hB).trans (hx k x hx').2.2.1, (hk _ hB).trans (hx k x hx').2.2.2⟩⟩
theorem LvsR.more (h : LvsR w B A n ls) (hB : B ≤ B') : LvsR w B' A n ls := by
  obtain ⟨hl, hb, hc⟩ := h
  refine ⟨hl, fun x hx => (hb x hx).more hB, fun hn => ?_⟩
  obtain ⟨b, off, e, hB', hx⟩ := hc hn
  exact ⟨b, off, e, by omega, hx⟩
theorem LvsR.at_ {k : Nat} (h : LvsR w B A n ls) (hk : k < n) :
    ∃ b off x, A = some ⟨b, off, none⟩ ∧ b < B ∧ Hid (ls[k]? = some x) ∧ w.cell? ⟨b, off + k * 4, none⟩ = some (.int .i64 x.k) ∧ w.cell? ⟨b, off + k * 4 + 1, none⟩ = some (.int .i64 x.s) ∧ w.cell? ⟨b, off + k * 4 + 2, none⟩ = some (.slice x.A x.n x.c) ∧ w.cell? ⟨b, off + k * 4 + 3, none⟩ = some (.slice x.B x.m x.e) ∧ LvR.In w B x := by
  obtain ⟨hl, hb, hc⟩ := h
  obtain ⟨b, off, rfl, hB, hx⟩ := hc (by omega)
  have hk' : k < ls.length := by omega
  have hm := hb _ (List.getElem_mem hk')
  have hx' := hx k _ (List.getElem?_eq_getElem hk')
  exact ⟨b, off, ls[k], rfl, hB, List.getElem?_eq_getElem hk', hx'.1, hx'.2.1, hx'.2.2.1, hx'.2.2.2, hm⟩
theorem TenR.In.keep (h : TenR.In w B t) (hk : ∀ p : Addr, p.block < B → w'.cell? p = w.cell? p) : TenR.In w' B t :=
  ⟨h.shape.keep hk, h.form.keep hk, h.lvs.keep hk, h.vals.keep hk, h.nc, h.fc, h.lc, h.vc, h.n1, h.f1, h.l1, h.v1⟩
theorem TenR.In.more (h : TenR.In w B t) (hB : B ≤ B') : TenR.In w B' t := ⟨h.shape.more hB, h.form.more hB, h.lvs.more hB, h.vals.more hB, h.nc, h.fc, h.lc, h.vc, h.n1, h.f1, h.l1, h.v1⟩
theorem TenR.In.below (h : TenR.In w B t) (hb : Below B w w') : TenR.In w' B t := h.keep fun _ hp => hb.cell hp
theorem TenR.In.on (h : TenR.In w w.heap.size t) (hb : Below w.heap.size w w') : TenR.In w' w'.heap.size t := (h.below hb).more hb.size
/-- small enough to be played -/
def fewT (t : Ten) : Prop := t.n ≤ 20 ∧ t.fn ≤ 40 ∧ t.ln ≤ 40 ∧ t.vn ≤ 3000 ∧ ∀ l ∈ t.ls, l.n ≤ 3000 ∧ l.m ≤ 3000
theorem TenR.In.ten (h : TenR.In w B t) (hf : fewT t) : t.In w B := by
  obtain ⟨f1, f2, f3, f4, f5⟩ := hf
  refine ⟨h.shape, h.form, ⟨h.lvs.1, fun x hx => ?_, h.lvs.2.2⟩, h.vals, h.nc, h.fc, h.lc, h.vc, by omega, by omega, by omega, by omega⟩
  obtain ⟨a, b, c, d, _, _, e, f⟩ := h.lvs.2.1 x hx
  have := f5 x hx
  exact ⟨a, b, c, d, by omega, by omega, e, f⟩
end
def FewPost (w : World) (t : Ten) (e : Ending) (w' : World) : Prop := e = .returned (.bool (pB (fewT t))) ∧ Below w.heap.size w w'
theorem few_lens {t : Ten} (h : ¬ (t.n ≤ 20 ∧ t.fn ≤ 40 ∧ t.ln ≤ 40 ∧ t.vn ≤ 3000)) : pB (fewT t) = false := pB_f fun hh => h ⟨hh.1, hh.2.1, hh.2.2.1, hh.2.2.2.1⟩
theorem gt_not (a n : Nat) : decide (a < n) = !decide (n ≤ a) := by
  by_cases h : n ≤ a
  · rw [decide_eq_true h, decide_eq_false (by omega)]; rfl
  · rw [decide_eq_false h, decide_eq_true (by omega)]; rfl
set_option maxRecDepth 100000 in
set_option maxHeartbeats 8000000 in
theorem few_aux (T : Ten) (A : Option Addr) (n c : Nat) (xs : List Int) (F : Option Addr) (fn fc : Nat) (fs : List Sp) (L : Option Addr) (ln lc : Nat) (ls : List Lv) (V : Option Addr) (vn vc : Nat) (vs : List Int) (w : World) (hT : T = ⟨A, n, c, xs, F, fn, fc, fs, L, ln, lc, ls, V, vn, vc, vs⟩) (ht : TenR.In w w.heap.size ⟨A, n, c, xs, F, fn, fc, fs, L, ln, lc, ls, V, vn, vc, vs⟩) :
    Calls Try.prog 15 #[.agg #[.slice A n c, .slice F fn fc, .slice L ln lc, .slice V vn vc]] w (FewPost w T) := by
  have zz := heap_alloc_new w (.cells #[.slice A n c, .slice F fn fc, .slice L ln lc, .slice V vn vc] 34)
  obtain ⟨k0, k1, k2, k3, _⟩ := lvCells zz
  have HB0 := Lib.hid (lvBelow w (.cells #[.slice A n c, .slice F fn fc, .slice L ln lc, .slice V vn vc] 34))
  have e1 : decide (20 < n) = !decide (n ≤ 20) := gt_not _ _
  have e2 : decide (40 < fn) = !decide (fn ≤ 40) := gt_not _ _
  have e3 : decide (40 < ln) = !decide (ln ≤ 40) := gt_not _ _
  have e4 : decide (3000 < vn) = !decide (vn ≤ 3000) := gt_not _ _
  have i1 : decide (20 < (n : Int)) = !decide (n ≤ 20) := by rw [← e1]; exact decide_eq_decide.2 (by omega)
  have i2 : decide (40 < (fn : Int)) = !decide (fn ≤ 40) := by rw [← e2]; exact decide_eq_decide.2 (by omega)
  have i3 : decide (40 < (ln : Int)) = !decide (ln ≤ 40) := by rw [← e3]; exact decide_eq_decide.2 (by omega)
  have i4 : decide (3000 < (vn : Int)) = !decide (vn ≤ 3000) := by rw [← e4]; exact decide_eq_decide.2 (by omega)
  have b1 := ht.n1
  have b2 := ht.f1
  have b3 := ht.l1
  have b4 := ht.v1
  dsimp only at b1 b2 b3 b4
  by_cases hs : n ≤ 20 ∧ fn ≤ 40 ∧ ln ≤ 40 ∧ vn ≤ 3000
  · obtain ⟨s1, s2, s3, s4⟩ := hs
    rw [decide_eq_true s1] at e1 i1
    rw [decide_eq_true s2] at e2 i2
    rw [decide_eq_true s3] at e3 i3
    rw [decide_eq_true s4] at e4 i4
    simp only [Bool.not_true] at e1 e2 e3 e4 i1 i2 i3 i4
    have HT := Lib.hid hT
    have HS := Lib.hid (show n ≤ 20 ∧ fn ≤ 40 ∧ ln ≤ 40 ∧ vn ≤ 3000 from ⟨s1, s2, s3, s4⟩)
    have HI := Lib.hid ht
    have HL := Lib.hid ht.lvs.1
    clear zz hT ht s1 s2 s4
    go_enter Try.func15, Try.ntmps15
    go_wp2_with fail
    clear k0 k1 k2 k3 e1 e2 e3 e4 i1 i2 i3 i4
    go_loopw [30] (fun i wr => ∃ k : Nat, k ≤ ln ∧ i = .int .i64 k ∧ Hid (∀ l ∈ ls.take k, l.n ≤ 3000 ∧ l.m ≤ 3000) ∧ Hid (Below w.heap.size w wr)) (fun i _ => ln - (intOf i).toNat)
    case atStart => exact ⟨0, Nat.zero_le _, rfl, (fun l hl => by simp at hl), HB0.out⟩
    case round =>
      obtain ⟨k, hk, rfl, HK, HB⟩ := hrel
      by_cases hlt : k < ln
      · obtain ⟨bl, ol, l, rfl, hbb, HLk, d0, d1, d2, d3, li⟩ := ((HI.out.on HB.out).lvs).at_ hlt
        dsimp only at HLk
        obtain ⟨q0, q1, q2, q3, _⟩ := lvCells (heap_alloc_new wr (lvO l.k l.s l.A l.n l.c l.B l.m l.e))
        have HBa := Lib.hid ((HB.out).trans ((lvBelow wr (lvO l.k l.s l.A l.n l.c l.B l.m l.e)).mono HB.out.size))
        have n1 := li.n1
        have m1 := li.m1
        have e1 : decide (3000 < l.n) = !decide (l.n ≤ 3000) := gt_not _ _
        have e2 : decide (3000 < l.m) = !decide (l.m ≤ 3000) := gt_not _ _
        have i1 : decide (3000 < (l.n : Int)) = !decide (l.n ≤ 3000) := by rw [← e1]; exact decide_eq_decide.2 (by omega)
        have i2 : decide (3000 < (l.m : Int)) = !decide (l.m ≤ 3000) := by rw [← e2]; exact decide_eq_decide.2 (by omega)
        by_cases hs : l.n ≤ 3000 ∧ l.m ≤ 3000
        · have HK1 : Hid (∀ l ∈ ls.take (k + 1), l.n ≤ 3000 ∧ l.m ≤ 3000) := by
            unfold Hid
            rw [take_succ_of HLk.out]
            intro y hy
            rcases List.mem_append.1 hy with hy | hy
            · exact HK.out y hy
            · rw [List.mem_singleton.1 hy]; exact hs
          rw [decide_eq_true hs.1] at e1 i1
          rw [decide_eq_true hs.2] at e2 i2
          simp only [Bool.not_true] at e1 e2 i1 i2
          clear hs li
          go_wp2_with fail
          go_roundw
          case rel => exact ⟨k + 1, by omega, by go_num, HK1, HBa⟩
          case measure => simp [intOf]; omega
        · have HF : Hid (pB (fewT T) = false) := pB_f fun hh => hs (hh.2.2.2.2 l (by rw [HT.out]; exact List.mem_of_getElem? HLk.out))
          by_cases h1 : l.n ≤ 3000
          · have h2 : ¬ l.m ≤ 3000 := fun h2 => hs ⟨h1, h2⟩
            rw [decide_eq_true h1] at e1 i1
            rw [decide_eq_false h2] at e2 i2
            simp only [Bool.not_true, Bool.not_false] at e1 e2 i1 i2
            clear hs li
            go_wp2_with fail
            go_ret
            exact ⟨by rw [HF.out]; rfl, HBa.out⟩
          · rw [decide_eq_false h1] at e1 i1
            simp only [Bool.not_false] at e1 i1
            clear hs li
            go_wp2_with fail
            go_ret
            exact ⟨by rw [HF.out]; rfl, HBa.out⟩
      · obtain rfl : k = ln := by omega
        have HF : Hid (pB (fewT T) = true) := by
          refine pB_t ?_
          rw [HT.out]
          refine ⟨HS.out.1, HS.out.2.1, HS.out.2.2.1, HS.out.2.2.2, fun l hl => HK.out l ?_⟩
          have hl' : l ∈ ls := hl
          rw [List.take_of_length_le (by rw [HL.out]; exact Nat.le_refl _)]
          exact hl'
        go_wp2_with fail
        go_ret
        exact ⟨by rw [HF.out]; rfl, HB.out⟩
  · have HF : Hid (pB (fewT T) = false) := by rw [hT]; exact few_lens hs
    clear hT ht zz
    by_cases s1 : n ≤ 20
    · rw [decide_eq_true s1] at e1 i1
      simp only [Bool.not_true] at e1 i1
      by_cases s2 : fn ≤ 40
      · rw [decide_eq_true s2] at e2 i2
        simp only [Bool.not_true] at e2 i2
        by_cases s3 : ln ≤ 40
        · have s4 : ¬ vn ≤ 3000 := fun s4 => hs ⟨s1, s2, s3, s4⟩
          rw [decide_eq_true s3] at e3 i3
          rw [decide_eq_false s4] at e4 i4
          simp only [Bool.not_true, Bool.not_false] at e3 e4 i3 i4
          clear hs s1 s2 s3 s4
          go_enter Try.func15, Try.ntmps15
          go_wp2_with fail
          go_ret
          exact ⟨by rw [HF.out]; rfl, HB0.out⟩
        · rw [decide_eq_false s3] at e3 i3
          simp only [Bool.not_false] at e3 i3
          clear hs s1 s2 s3 e4 i4
          go_enter Try.func15, Try.ntmps15
          go_wp2_with fail
          go_ret
          exact ⟨by rw [HF.out]; rfl, HB0.out⟩
      · rw [decide_eq_false s2] at e2 i2
        simp only [Bool.not_false] at e2 i2
        clear hs s1 s2 e4 i4 e3 i3
        go_enter Try.func15, Try.ntmps15
        go_wp2_with fail
        go_ret
        exact ⟨by rw [HF.out]; rfl, HB0.out⟩
    · rw [decide_eq_false s1] at e1 i1
      simp only [Bool.not_false] at e1 i1
      clear hs s1 e4 i4 e3 i3 e2 i2
      go_enter Try.func15, Try.ntmps15
      go_wp2_with fail
      go_ret
      exact ⟨by rw [HF.out]; rfl, HB0.out⟩
theorem refFew5_any (t : Ten) (w : World) (ht : TenR.In w w.heap.size t) :
    Calls Try.prog 15 #[t.val] w (FewPost w t) := few_aux t _ _ _ _ _ _ _ _ _ _ _ _ _ _ _ _ w rfl ht
end Go.Proofs.Ytfimnmdcbnfhfaa
/- How a stored tensor that came in reads. -/
namespace Go.Proofs.Ytfimnmdcbnfhfaa
open Go.ChangeShapes Go.WideShapes Go.ChangeAt Go.RowKit Go.Deep

section
variable {H : Type} {enc : TypeId × Value → H} {w : World} {base : Nat} {spare : Nat → Bool} {held : Bool}
set_option maxRecDepth 100000 in
/-- one level's cells -/
theorem open_lev {f0 f1 f2 f3 : Field} {fuel : Nat} {a : Addr} {cs : List Value} {x : DataW H × List MemPlace} (hs : Try.prog.underlying 63 = some (.struct #[f0, f1, f2, f3])) (hone : oneCellFields Try.prog #[f0, f1, f2, f3] = true) (ht0 : f0.type = 3) (ht1 : f1.type = 3) (ht2 : f2.type = 22) (ht3 : f3.type = 22) (hl : cs.length = 4)
    (hc : ∀ i, i < 4 → w.cell? (a.add i) = cs[i]?) (h : DataW.trod enc Try.prog w base spare held fuel 63 cs = some x) :
    ∃ y : Lv, w.cell? (a.add 0) = some (.int .i64 y.k) ∧ w.cell? (a.add 1) = some (.int .i64 y.s) ∧ w.cell? (a.add 2) = some (.slice y.A y.n y.c) ∧ w.cell? (a.add 3) = some (.slice y.B y.m y.e) ∧ LvR.In w w.heap.size y := by
  obtain ⟨ys, k, _, _, _, hyl, hf⟩ := DataW.trod_struct hs h
  match cs, hl with
  | [v0, v1, v2, v3], _ =>
    match ys, hyl with
    | [y0, y1, y2, y3], _ =>
      obtain ⟨o0, k0⟩ := hone_of hone 0 f0 rfl
      obtain ⟨o1, k1⟩ := hone_of hone 1 f1 rfl
      obtain ⟨o2, k2⟩ := hone_of hone 2 f2 rfl
      obtain ⟨o3, k3⟩ := hone_of hone 3 f3 rfl
      have h0 := hf 0 f0 rfl
      have h1 := hf 1 f1 rfl
      have h2 := hf 2 f2 rfl
      have h3 := hf 3 f3 rfl
      rw [o0, k0, ht0] at h0
      rw [o1, k1, ht1] at h1
      rw [o2, k2, ht2] at h2
      rw [o3, k3, ht3] at h3
      simp only [List.drop_zero, List.take_succ_cons, List.take_zero, List.drop_succ_cons, List.getElem?_cons_zero, List.getElem?_cons_succ] at h0 h1 h2 h3
      obtain ⟨u0, e0, _, hw0⟩ := DataW.trod_int Try.underlying3 h0
      obtain ⟨u1, e1, _, hw1⟩ := DataW.trod_int Try.underlying3 h1
      obtain ⟨a2, l2, c2, e2⟩ := Go.Joins.slice_form Try.underlying22 h2
      obtain ⟨a3, l3, c3, e3⟩ := Go.Joins.slice_form Try.underlying22 h3
      simp only [List.cons.injEq, and_true] at e0 e1 e2 e3
      subst e0 e1 e2 e3
      have t2 : DataW.Trod enc Try.prog w base spare held 22 (.slice a2 l2 c2) y2.1 y2.2 := ⟨k, h2⟩
      have t3 : DataW.Trod enc Try.prog w base spare held 22 (.slice a3 l3 c3) y3.1 y3.2 := ⟨k, h3⟩
      obtain ⟨A, n, c, zs, f2', i2, b2, g2⟩ := open_numsc Try.underlying22 Try.underlying3 (by kernel_rfl) ⟨_, _, _, rfl⟩ t2
      obtain ⟨B, m, e, us, f3', i3, b3, g3⟩ := open_numsc Try.underlying22 Try.underlying3 (by kernel_rfl) ⟨_, _, _, rfl⟩ t3
      refine ⟨⟨u0, u1, A, n, c, B, m, e, zs, us⟩, ?_, ?_, ?_, ?_, ⟨wf_bounds hw0, wf_bounds hw1, i2, i3, b2, b3, g2, g3⟩⟩
      · have := hc 0 (by omega); rw [this]; rfl
      · have := hc 1 (by omega); rw [this]; rfl
      · have := hc 2 (by omega); rw [this, ← f2']; rfl
      · have := hc 3 (by omega); rw [this, ← f3']; rfl
set_option maxRecDepth 100000 in
/-- a []api.Level that came in -/
theorem open_levs {v : Value} {d : DataW H} {p : List MemPlace} (hf : ∃ a n c, v = .slice a n c) (h : DataW.Trod enc Try.prog w base spare held 31 v d p) :
    ∃ A n c ls, v = .slice A n c ∧ LvsR w w.heap.size A n ls ∧ n ≤ 9223372036854775807 ∧ n ≤ c := by
  obtain ⟨a0, len0, cap0, rfl⟩ := hf
  obtain ⟨fuel, hf⟩ := h
  rcases open_slice Try.underlying31 hf with ⟨hcs, _⟩ | ⟨x, l, c, m, k, D, Pl, hcs, _, hl, hm, hmm, _, hi⟩
  · simp [Value.cells] at hcs
    obtain ⟨rfl, rfl, rfl⟩ := hcs
    exact ⟨none, 0, 0, [], rfl, LvsR.nil_, by omega, Nat.le_refl _⟩
  · simp [Value.cells] at hcs
    obtain ⟨rfl, rfl, rfl⟩ := hcs
    have hC : Try.prog.cellsOf 63 = 4 := by kernel_rfl
    have key : ∀ i, i < len0 → ∃ y : Lv, w.cell? ((x.add (i * 4)).add 0) = some (.int .i64 y.k) ∧ w.cell? ((x.add (i * 4)).add 1) = some (.int .i64 y.s) ∧ w.cell? ((x.add (i * 4)).add 2) = some (.slice y.A y.n y.c) ∧ w.cell? ((x.add (i * 4)).add 3) = some (.slice y.B y.m y.e) ∧ LvR.In w w.heap.size y := by
      intro i hil
      have hml : len0 ≤ m := by rw [hmm]; split <;> omega
      obtain ⟨cs', hc, ht'⟩ := hi i (by omega)
      rw [hC] at hc
      obtain ⟨_, hlen, hat⟩ := World.cells?_some hc
      exact open_lev Try.underlying63 (by kernel_rfl) (by kernel_rfl) (by kernel_rfl) (by kernel_rfl) (by kernel_rfl) hlen hat ht'
    refine ⟨_, _, _, (List.range len0).map fun i => if hh : i < len0 then Classical.choose (key i hh) else ⟨0, 0, none, 0, 0, none, 0, 0, [], []⟩, rfl, ⟨by simp, ?_, ?_⟩, by unfold maxLen at hm; omega, hl⟩
    · intro y hy
      rw [List.mem_map] at hy
      obtain ⟨i, hir, rfl⟩ := hy
      have hil := List.mem_range.1 hir
      rw [dif_pos hil]
      exact (Classical.choose_spec (key i hil)).2.2.2.2
    · intro h0
      obtain ⟨b, off, spot⟩ := x
      have hs := (Classical.choose_spec (key 0 h0)).1
      have hspot : spot = none := by simpa [Addr.add] using World.cell?_spot hs
      subst hspot
      have hlt : b < w.heap.size := by have := lt_of_cell hs; simpa [Addr.add] using this
      refine ⟨b, off, rfl, hlt, fun q y hy => ?_⟩
      rw [List.getElem?_map, Option.map_eq_some_iff] at hy
      obtain ⟨i, hir, hiy⟩ := hy
      have hq : q < len0 := by have := (List.getElem?_eq_some_iff.1 hir).1; simpa using this
      have hqi : i = q := by have := (List.getElem?_eq_some_iff.1 hir).2; simpa using this.symm
      subst hqi
      rw [dif_pos hq] at hiy
      have hk := Classical.choose_spec (key i hq)
      rw [hiy] at hk
      obtain ⟨k0, k1, k2, k3, _⟩ := hk
      rw [add_two, add_two] at k0 k1 k2 k3
      exact ⟨k0, k1, k2, k3⟩
set_option maxRecDepth 100000 in
/-- a stored tensor that came in -/
theorem open_tensor {r : Reach} {b0 : Nat} {v : Value} {d : DataW H} {p : List MemPlace} (hv : Value.okWide Try.prog w r b0 34 v) (h : DataW.Trod enc Try.prog w base spare held 34 v d p) :
    ∃ t : Ten, v = t.val ∧ TenR.In w w.heap.size t := by
  obtain ⟨v0, v1, v2, v3, y0, y1, y2, y3, k, rfl, _, _, h0, h1, h2, h3⟩ := Go.Joins.open_agg4 Try.underlying34 (by kernel_rfl) (by kernel_rfl) hv h
  obtain ⟨a0, l0, c0, e0⟩ := Go.Joins.slice_form Try.underlying22 h0
  obtain ⟨a1, l1, c1, e1⟩ := Go.Joins.slice_form Try.underlying23 h1
  obtain ⟨a2, l2, c2, e2⟩ := Go.Joins.slice_form Try.underlying31 h2
  obtain ⟨a3, l3, c3, e3⟩ := Go.Joins.slice_form Try.underlying32 h3
  simp only [List.cons.injEq, and_true] at e0 e1 e2 e3
  have t0 : DataW.Trod enc Try.prog w base spare held 22 v0 y0.1 y0.2 := ⟨k, by rw [e0] at h0 ⊢; exact h0⟩
  have t1 : DataW.Trod enc Try.prog w base spare held 23 v1 y1.1 y1.2 := ⟨k, by rw [e1] at h1 ⊢; exact h1⟩
  have t2 : DataW.Trod enc Try.prog w base spare held 31 v2 y2.1 y2.2 := ⟨k, by rw [e2] at h2 ⊢; exact h2⟩
  have t3 : DataW.Trod enc Try.prog w base spare held 32 v3 y3.1 y3.2 := ⟨k, by rw [e3] at h3 ⊢; exact h3⟩
  obtain ⟨A, n, c, xs, f0, i0, b0, g0⟩ := open_numsc Try.underlying22 Try.underlying3 (by kernel_rfl) ⟨_, _, _, e0⟩ t0
  obtain ⟨F, fn, fc, fs, f1, i1, b1, g1⟩ := open_specs ⟨_, _, _, e1⟩ t1
  obtain ⟨L, ln, lc, ls, f2, i2, b2, g2⟩ := open_levs ⟨_, _, _, e2⟩ t2
  obtain ⟨V, vn, vc, vs, f3, i3, b3, g3⟩ := open_numsc Try.underlying32 Try.underlying2 (by kernel_rfl) ⟨_, _, _, e3⟩ t3
  exact ⟨⟨A, n, c, xs, F, fn, fc, fs, L, ln, lc, ls, V, vn, vc, vs⟩, by rw [f0, f1, f2, f3], ⟨i0, i1, i2, i3, g0, g1, g2, g3, b0, b1, b2, b3⟩⟩
end
end Go.Proofs.Ytfimnmdcbnfhfaa
