/- Tensors that are bent: what Check tells of them. -/
import Derived.Test.YtfimnmdcbnfhfaaPVCopyN
namespace Go.Proofs.Ytfimnmdcbnfhfaa
open Go.RowKit

/-- all blocks of other types are as they were -/
def KeepT (ty : TypeId) (w w' : World) : Prop := ∀ (b : Nat) (cur : Array Value) (t : TypeId), t ≠ ty → w.heap[b]? = some (.cells cur t (0, 0)) → w'.heap[b]? = w.heap[b]?
section
variable {w w' : World} {ty : TypeId} {base c : Nat} {A : Option Addr}
theorem KeepT.of_set {g : Nat} {p : Addr} {cs : Array Value} (hg : w.heap[g]? = some (.cells cs ty (0, 0))) (hp : p.block = g) (v : Value) : KeepT ty w (w.setCell p v) := by
  intro b cur t' h1 hb
  refine Below.heap_setCell w p v b ?_
  intro e
  rw [hp] at e
  subst e
  rw [hg] at hb
  injection hb with hb
  injection hb with _ hb
  exact h1 hb.symm
theorem KeepT.of_app {p : Nat} {xs : List Int} (hS : OwnI w base ty A c xs) (hg : w.grownBy w' (Value.slice A p c).ownBlock) : KeepT ty w w' := by
  intro b cur t h1 hb
  refine hg.block b (lt_of_heap hb) ?_
  rcases Option.eq_none_or_eq_some A with rfl | ⟨ad, rfl⟩
  · simp [Value.ownBlock]
  · rcases hS.1.2 with ⟨h2, _⟩ | ⟨g, cap, cur', h2, _, h3, _⟩
    · cases h2
    · injection h2 with h2
      injection h2 with h2
      subst h2
      simp only [Value.ownBlock]
      intro e
      injection e with e
      subst e
      rw [hb] at h3
      injection h3 with h3
      injection h3 with _ h3
      exact h1 h3
theorem OwnI.keepT {e : TypeId} {xs : List Int} (h : OwnI w base e A c xs) (h1 : e ≠ ty) (hk : KeepT ty w w') : OwnI w' base e A c xs :=
  ownI_same h fun b hb => by
    obtain ⟨cur, hc, _⟩ := ownI_blk h hb
    exact hk b cur e h1 hc
theorem OwnS.keepT {xs : List Sp} (h : OwnS w base A c xs) (h1 : 66 ≠ ty) (hk : KeepT ty w w') : OwnS w' base A c xs :=
  h.same fun b hb => by
    rcases h.heap with h2 | ⟨g, cur, h2, _, h3⟩
    · rw [h2] at hb; cases hb
    · rw [h2] at hb
      injection hb with hb
      injection hb with hb
      subst hb
      exact hk g cur _ h1 h3
theorem OwnV.keepT {xs : List Lv} (h : OwnV w base A c xs) (h1 : 63 ≠ ty) (hk : KeepT ty w w') : OwnV w' base A c xs :=
  h.same fun b hb => by
    rcases h.heap with h2 | ⟨g, cur, h2, _, h3⟩
    · rw [h2] at hb; cases hb
    · rw [h2] at hb
      injection hb with hb
      injection hb with hb
      subst hb
      exact hk g cur _ h1 h3
theorem LvO.keepT {lo hi : Nat} {l : Lv} (h : LvO w lo hi l) (h1 : 3 ≠ ty) (hk : KeepT ty w w') : LvO w' lo hi l :=
  ⟨h.pos.keepT h1 hk, h.crd.keepT h1 hk, h.posHi, h.crdHi, h.apart, h.n0, h.m0, h.k0, h.s0, h.n1, h.m1⟩
end
theorem cellsV_set1 {ls : List Lv} {R : Nat} {l : Lv} (h : ls[R]? = some l) (z : Int) : (cellsV ls).set (4 * R + 1) (.int .i64 z) = cellsV (ls.set R { l with s := z }) := by
  induction ls generalizing R with
  | nil => simp at h
  | cons y ls ih =>
    cases R with
    | zero => simp at h; subst h; rfl
    | succ R =>
      have := ih (R := R) (by simpa using h)
      rw [List.set_cons_succ, cellsV, cellsV, ← this, show 4 * (R + 1) + 1 = (4 * R + 1) + 1 + 1 + 1 + 1 by omega]
      rfl
theorem OwnV.set1 {w : World} {base c g R : Nat} {ls : List Lv} {l : Lv} (h : OwnV w base (some ⟨g, 0, none⟩) c ls) (hl : ls[R]? = some l) (z : Int) : OwnV (w.setCell ⟨g, 4 * R + 1, none⟩ (.int .i64 z)) base (some ⟨g, 0, none⟩) c (ls.set R { l with s := z }) := by
  have := (World.ownsRow.stored h (4 * R + 1) (.int .i64 z)).1
  rw [cellsV_set1 hl] at this
  unfold OwnV
  rw [List.length_set]
  exact this
/-- levels that are as others are, one by one -/
def SameLs (ls ls' : List Lv) : Prop := ls'.length = ls.length ∧ ∀ (j : Nat) (l m : Lv), ls'[j]? = some l → ls[j]? = some m → l.k = m.k ∧ l.s = m.s ∧ l.xs = m.xs ∧ l.ys = m.ys
section
variable {ls ls' : List Lv} {fs : List Sp} {zs : List Int} {k : Nat}
theorem ahN_congr (n : Nat) (hn : n ≤ ls.length) (hl : ls'.length = ls.length) (h : ∀ (j : Nat) (l m : Lv), j < n → ls'[j]? = some l → ls[j]? = some m → l.k = m.k ∧ l.s = m.s ∧ l.xs = m.xs ∧ l.ys = m.ys) : ∀ k, k ≤ n → ahN ls' k = ahN ls k := by
  intro k
  induction k with
  | zero => intro _; rfl
  | succ k ih =>
    intro hk
    obtain ⟨m, hm⟩ : ∃ m, ls[k]? = some m := ⟨_, List.getElem?_eq_getElem (by omega)⟩
    obtain ⟨l, hl'⟩ : ∃ l, ls'[k]? = some l := ⟨_, List.getElem?_eq_getElem (by omega)⟩
    obtain ⟨e1, e2, e3, e4⟩ := h k l m (by omega) hl' hm
    rw [ahN_succ hl', ahN_succ hm, ih (by omega), e1, e2, e4]
theorem levE_congr (n : Nat) (hn : n ≤ ls.length) (hl : ls'.length = ls.length) (h : ∀ (j : Nat) (l m : Lv), j < n → ls'[j]? = some l → ls[j]? = some m → l.k = m.k ∧ l.s = m.s ∧ l.xs = m.xs ∧ l.ys = m.ys) : ∀ k, k ≤ n → levE ls' k = levE ls k := by
  intro k
  induction k with
  | zero => intro _; rfl
  | succ k ih =>
    intro hk
    obtain ⟨m, hm⟩ : ∃ m, ls[k]? = some m := ⟨_, List.getElem?_eq_getElem (by omega)⟩
    obtain ⟨l, hl'⟩ : ∃ l, ls'[k]? = some l := ⟨_, List.getElem?_eq_getElem (by omega)⟩
    obtain ⟨e1, e2, e3, e4⟩ := h k l m (by omega) hl' hm
    rw [levE, levE, ih (by omega), hl', hm]
    simp only
    rw [e1, e2, e3, e4, ahN_congr n hn hl h k (by omega)]
theorem SameLs.of (h : SameLs ls ls') (ho : OfP ls fs zs) : OfP ls' fs zs := by
  refine ⟨h.1.trans ho.1, fun k l f z hl hf hz => ?_⟩
  obtain ⟨m, hm⟩ : ∃ m, ls[k]? = some m := ⟨_, List.getElem?_eq_getElem (by have := (List.getElem?_eq_some_iff.1 hl).1; have := h.1; omega)⟩
  obtain ⟨e1, e2, _, _⟩ := h.2 k l m hl hm
  rw [e1, e2]
  exact ho.2 k m f z hm hf hz
end
/-- another number of numbers -/
theorem bend_vn {t t' : Ten} (h : tenE t = 0) (hx : t'.xs = t.xs) (hf : t'.fs = t.fs) (hn : t'.ln = t.ln) (hs : SameLs t.ls t'.ls) (hll : t.ls.length = t.ln) (hv : t'.vn ≠ t.vn) : tenE t' = 1 := by
  obtain ⟨q1, q2, q3, q4, q5⟩ := tenE_small h
  have ho := hs.of q2
  have e1 := ahN_congr t.ls.length (Nat.le_refl _) hs.1 (fun j l m _ h1 h2 => hs.2 j l m h1 h2) t.ln (by omega)
  have e2 := levE_congr t.ls.length (Nat.le_refl _) hs.1 (fun j l m _ h1 h2 => hs.2 j l m h1 h2) t.ln (by omega)
  unfold tenE
  rw [hx, hf, hn, if_neg (by rw [q1]; simp), if_pos (pB_t ho), if_neg (by rw [e2, q3]; simp), if_pos (by rw [e1, ← q4]; exact hv)]
/-- another size of a level -/
theorem bend_size {t t' : Ten} (h : tenE t = 0) (hx : t'.xs = t.xs) (hf : t'.fs = t.fs) {R : Nat} {l m : Lv} (hl : t'.ls[R]? = some l) (hm : t.ls[R]? = some m) (hs : l.s ≠ m.s) : tenE t' = 1 := by
  obtain ⟨q1, q2, q3, q4, q5⟩ := tenE_small h
  have hno : ¬ OfP t'.ls t'.fs (sizesL t'.xs t'.fs) := by
    intro ho
    rw [hx, hf] at ho
    obtain ⟨f, hff⟩ := q2.spec hm
    obtain ⟨z, hz⟩ : ∃ z, (sizesL t.xs t.fs)[R]? = some z := ⟨_, List.getElem?_eq_getElem (by rw [sizesL_length]; exact (List.getElem?_eq_some_iff.1 hff).1)⟩
    have h1 := (ho.2 R l f z hl hff hz).2
    have h2 := (q2.2 R m f z hm hff hz).2
    omega
  unfold tenE
  rw [if_neg (by rw [hx, hf, q1]; simp), if_neg (by rw [pB_f hno]; simp)]
/-- a place that is none -/
theorem lvF_out {K S a : Int} {xs ys : List Int} {i : Nat} (h : lvF K S xs ys a = 0) (hi : i < ys.length) : lvF K S xs (ys.set i S) a = 3 := by
  obtain ⟨h1, h2, h3, h4, h5, h6⟩ := lvF_pos h
  have hT : ToldP K xs (ys.set i S) a := by
    refine ⟨fun hk => ?_, fun hk => ?_, fun k1 k2 k3 => ?_⟩
    · rw [List.length_set]; exact h2.1 hk
    · rw [List.length_set]; exact h2.2.1 hk
    · rw [List.length_set]; exact h2.2.2 k1 k2 k3
  have hM : manyF K S (ys.set i S) a = manyF K S ys a := by unfold manyF; rw [List.length_set]
  have hI : ¬ InsP S (ys.set i S) := by
    intro hI
    have := hI S (List.mem_of_getElem? (List.getElem?_set_self hi))
    omega
  unfold lvF
  rw [if_pos (pB_t ⟨h1, hT⟩), hM, List.length_set, if_neg (by omega), if_neg (by rw [pB_f hI]; simp)]
theorem bend_crd {t t' : Ten} (h : tenE t = 0) (hx : t'.xs = t.xs) (hf : t'.fs = t.fs) (hn : t'.ln = t.ln) (hll : t.ls.length = t.ln) (hlen : t'.ls.length = t.ls.length) {R i : Nat} {m : Lv} (hm : t.ls[R]? = some m) (hi : i < m.ys.length)
    (hoth : ∀ (j : Nat) (l l' : Lv), j ≠ R → t'.ls[j]? = some l' → t.ls[j]? = some l → l'.k = l.k ∧ l'.s = l.s ∧ l'.xs = l.xs ∧ l'.ys = l.ys) {l : Lv} (hl : t'.ls[R]? = some l) (e1 : l.k = m.k) (e2 : l.s = m.s) (e3 : l.xs = m.xs) (e4 : l.ys = m.ys.set i m.s) : tenE t' = 3 := by
  obtain ⟨q1, q2, q3, q4, q5⟩ := tenE_small h
  have hRl := (List.getElem?_eq_some_iff.1 hm).1
  have ho : OfP t'.ls t'.fs (sizesL t'.xs t'.fs) := by
    rw [hx, hf]
    refine ⟨hlen.trans q2.1, fun k l' f z hl' hff hz => ?_⟩
    by_cases e : k = R
    · subst e
      rw [hl] at hl'; cases hl'
      rw [e1, e2]
      exact q2.2 k m f z hm hff hz
    · obtain ⟨lk, hlk⟩ : ∃ lk, t.ls[k]? = some lk := ⟨_, List.getElem?_eq_getElem (by have := (List.getElem?_eq_some_iff.1 hl').1; omega)⟩
      obtain ⟨d1, d2, _, _⟩ := hoth k lk l' e hl' hlk
      rw [d1, d2]
      exact q2.2 k lk f z hlk hff hz
  have c1 := ahN_congr R (by omega) hlen (fun j l' m' hj h1 h2 => hoth j m' l' (by omega) h1 h2) R (Nat.le_refl _)
  have c2 := levE_congr R (by omega) hlen (fun j l' m' hj h1 h2 => hoth j m' l' (by omega) h1 h2) R (Nat.le_refl _)
  have h0 : levE t.ls R = 0 := levE_ok q3 (by omega)
  have hlv : lvF m.k m.s m.xs m.ys (ahN t.ls R) = 0 := by
    have := levE_ok q3 (k := R + 1) (by omega)
    rw [levE_succ hm h0] at this
    exact this
  have hE : levE t'.ls (R + 1) = 3 := by
    rw [levE_succ hl (by rw [c2, h0]), e1, e2, e3, e4, c1]
    exact lvF_out hlv hi
  have hE2 : levE t'.ls t.ln = 3 := by rw [levE_le (k := R + 1) (by omega) (by rw [hE]; decide), hE]
  unfold tenE
  rw [if_neg (by rw [hx, hf, q1]; simp), if_pos (pB_t ho), hn, if_pos (by rw [hE2]; decide), hE2]
end Go.Proofs.Ytfimnmdcbnfhfaa
