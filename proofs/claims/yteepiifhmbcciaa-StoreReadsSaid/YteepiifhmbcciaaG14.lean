/- Sorted, and joined: places and numbers alone. -/
import Derived.Test.YteepiifhmbcciaaG13
import Derived.Test.YteepiifhmbcciaaG9
import Derived.Laws.IdiomCopy
import Derived.Test.YteepiifhmbcciaaG10
import Derived.Test.YteepiifhmbcciaaG3
namespace Go.Proofs.Yteepiifhmbcciaa
open Go.RowKit

abbrev KeyT := List Int × Int × Nat
/-- keys of places of N modes, with numbers that fit -/
def KeyOk (N : Nat) (l : List KeyT) : Prop := ∀ t ∈ l, t.1.length = N ∧ t.2.2 = N ∧ -9223372036854775808 ≤ t.2.1 ∧ t.2.1 ≤ 9223372036854775807
def layK (l : List KeyT) : List Ent := l.map fun t => ⟨none, t.2.2, 0, t.1, t.2.1⟩
theorem layK_key (l : List KeyT) : (layK l).map keyE = l := by
  unfold layK
  rw [List.map_map]
  exact List.map_id l
theorem sortK_perm (os : List Int) (l : List KeyT) : (sortK os l).Perm l := by
  have h := (sortE_perm os (layK l)).map keyE
  rwa [sortE_key, layK_key] at h
def KOrd (os : List Int) (l : List KeyT) : Prop := l.Pairwise fun x y => cmpE os x.1 y.1 ≤ 0
def KRise (os : List Int) (l : List KeyT) : Prop := l.Pairwise fun x y => cmpE os x.1 y.1 < 0
theorem sortK_ord (os : List Int) (l : List KeyT) : KOrd os (sortK os l) := by
  have h : InOrd os (sortE os (layK l)) := sortE_ord os (layK l)
  have e : sortK os l = (sortE os (layK l)).map keyE := by rw [sortE_key, layK_key]
  unfold KOrd
  rw [e, List.pairwise_map]
  exact h
theorem cmpE_zero {os a b : List Int} : cmpE os a b = 0 ↔ ∀ m ∈ os, pickE a m = pickE b m := by
  induction os with
  | nil => simp [cmpE]
  | cons m os ih =>
    unfold cmpE
    by_cases h : cmpI (pickE a m) (pickE b m) = 0
    · rw [if_pos h, ih]
      have := cmpI_zero.1 h
      simp [this]
    · rw [if_neg h]
      simp only [h, List.mem_cons, forall_eq_or_imp, false_iff, not_and]
      intro h2
      exact absurd (cmpI_zero.2 h2) h
theorem cmpE_eq {N : Nat} {os a b : List Int} (ho : os.Perm (iotaL N)) (ha : a.length = N) (hb : b.length = N) (h : cmpE os a b = 0) : a = b := by
  have h1 := cmpE_zero.1 h
  apply List.ext_getElem (by omega)
  intro k hk hk2
  have hm : (k : Int) ∈ os := ho.mem_iff.2 (by unfold iotaL; exact List.mem_map.2 ⟨k, List.mem_range.2 (by omega), rfl⟩)
  have := h1 _ hm
  unfold pickE at this
  simpa [List.getD, List.getElem?_eq_getElem hk, List.getElem?_eq_getElem hk2] using this
theorem cmpE_self (os a : List Int) : cmpE os a a = 0 := cmpE_zero.2 fun _ _ => rfl

/-- the sum of the numbers of those whose place has P -/
def totP (P : List Int → Bool) : List KeyT → Int
  | [] => 0
  | t :: l => (if P t.1 = true then t.2.1 else 0) + totP P l
theorem totP_append (P : List Int → Bool) (a b : List KeyT) : totP P (a ++ b) = totP P a + totP P b := by
  induction a with
  | nil => simp [totP]
  | cons t l ih => simp only [List.cons_append, totP, ih]; omega
theorem totP_perm (P : List Int → Bool) {a b : List KeyT} (h : a.Perm b) : totP P a = totP P b := by
  induction h with
  | nil => rfl
  | cons x _ ih => simp only [totP, ih]
  | swap x y l => simp only [totP]; omega
  | trans _ _ ih1 ih2 => rw [ih1, ih2]
theorem totP_one (P : List Int → Bool) (t : KeyT) : totP P [t] = if P t.1 = true then t.2.1 else 0 := by simp [totP]

theorem joinStep_tot (P : List Int → Bool) (L : List KeyT) (t : KeyT) : wrap64 (totP P (joinStep L t)) = wrap64 (totP P (L ++ [t])) := by
  rcases List.eq_nil_or_concat L with rfl | ⟨L0, z, rfl⟩
  · rfl
  · rw [List.concat_eq_append]
    by_cases h : z.1 = t.1
    · rw [joinStep_same h, totP_append, totP_append, totP_append, totP_one, totP_one, totP_one]
      simp only [h]
      by_cases hp : P t.1 = true
      · rw [if_pos hp, if_pos hp, if_pos hp, wrap_add_r]; congr 1; omega
      · rw [if_neg hp, if_neg hp, if_neg hp]; congr 1; omega
    · rw [joinStep_other h]
theorem joinK_tot (P : List Int → Bool) (l : List KeyT) : wrap64 (totP P (joinK l)) = wrap64 (totP P l) := by
  induction l using list_snoc_ind with
  | h0 => rfl
  | hs l t ih =>
    rw [joinK_snoc, joinStep_tot, totP_append, totP_append, ← wrap_add_l, ih, wrap_add_l]
theorem joinStep_ok {N : Nat} {L : List KeyT} {t : KeyT} (h : KeyOk N L) (ht : KeyOk N [t]) : KeyOk N (joinStep L t) := by
  rcases List.eq_nil_or_concat L with rfl | ⟨L0, z, rfl⟩
  · exact ht
  · rw [List.concat_eq_append] at h ⊢
    by_cases e : z.1 = t.1
    · rw [joinStep_same e]
      intro q hq
      rcases List.mem_append.1 hq with hq | hq
      · exact h q (List.mem_append_left _ hq)
      · rw [List.mem_singleton.1 hq]
        have hz := h z (by simp)
        exact ⟨hz.1, hz.2.1, wrap64_bounds _⟩
    · rw [joinStep_other e]
      intro q hq
      rcases List.mem_append.1 hq with hq | hq
      · exact h q hq
      · exact ht q hq
theorem joinK_ok {N : Nat} {l : List KeyT} (h : KeyOk N l) : KeyOk N (joinK l) := by
  induction l using list_snoc_ind with
  | h0 => exact fun t ht => by cases ht
  | hs l t ih =>
    rw [joinK_snoc]
    exact joinStep_ok (ih fun q hq => h q (List.mem_append_left _ hq)) fun q hq => h q (List.mem_append_right _ hq)
theorem joinStep_mem (L : List KeyT) (t : KeyT) (p : List Int) : (∃ q ∈ joinStep L t, q.1 = p) ↔ (∃ q ∈ L, q.1 = p) ∨ t.1 = p := by
  rcases List.eq_nil_or_concat L with rfl | ⟨L0, z, rfl⟩
  · simp [joinStep_none]
  · rw [List.concat_eq_append]
    by_cases e : z.1 = t.1
    · rw [joinStep_same e]
      constructor
      · rintro ⟨q, hq, rfl⟩
        rcases List.mem_append.1 hq with hq | hq
        · exact .inl ⟨q, List.mem_append_left _ hq, rfl⟩
        · rw [List.mem_singleton.1 hq]; exact .inr e.symm
      · rintro (⟨q, hq, rfl⟩ | rfl)
        · rcases List.mem_append.1 hq with hq | hq
          · exact ⟨q, List.mem_append_left _ hq, rfl⟩
          · rw [List.mem_singleton.1 hq]; exact ⟨(z.1, wrap64 (z.2.1 + t.2.1), z.2.2), by simp, rfl⟩
        · exact ⟨(z.1, wrap64 (z.2.1 + t.2.1), z.2.2), by simp, e⟩
    · rw [joinStep_other e]
      constructor
      · rintro ⟨q, hq, rfl⟩
        rcases List.mem_append.1 hq with hq | hq
        · exact .inl ⟨q, hq, rfl⟩
        · rw [List.mem_singleton.1 hq]; exact .inr rfl
      · rintro (⟨q, hq, rfl⟩ | rfl)
        · exact ⟨q, List.mem_append_left _ hq, rfl⟩
        · exact ⟨t, by simp, rfl⟩
theorem joinK_mem (l : List KeyT) (p : List Int) : (∃ q ∈ joinK l, q.1 = p) ↔ ∃ q ∈ l, q.1 = p := by
  induction l using list_snoc_ind with
  | h0 => exact Iff.rfl
  | hs l t ih =>
    rw [joinK_snoc, joinStep_mem, ih]
    constructor
    · rintro (⟨q, hq, rfl⟩ | rfl)
      · exact ⟨q, List.mem_append_left _ hq, rfl⟩
      · exact ⟨t, by simp, rfl⟩
    · rintro ⟨q, hq, rfl⟩
      rcases List.mem_append.1 hq with hq | hq
      · exact .inl ⟨q, hq, rfl⟩
      · rw [List.mem_singleton.1 hq]; exact .inr rfl
theorem KRise.last {os : List Int} {L0 : List KeyT} {z q : KeyT} (h : KRise os (L0 ++ [z])) (hq : q ∈ L0 ++ [z]) : cmpE os q.1 z.1 ≤ 0 := by
  rcases List.mem_append.1 hq with hq | hq
  · have := (List.pairwise_append.1 h).2.2 q hq z (by simp)
    omega
  · rw [List.mem_singleton.1 hq, cmpE_self]; exact Int.le_refl _
theorem joinK_rise {N : Nat} {os : List Int} (ho : os.Perm (iotaL N)) {l : List KeyT} (hk : KeyOk N l) (h : KOrd os l) : KRise os (joinK l) := by
  induction l using list_snoc_ind with
  | h0 => exact List.Pairwise.nil
  | hs l t ih =>
    have hkl : KeyOk N l := fun q hq => hk q (List.mem_append_left _ hq)
    have ht := (hk t (by simp)).1
    have hO := List.pairwise_append.1 h
    have hr := ih hkl hO.1
    have hjk := joinK_ok hkl
    have hle : ∀ q ∈ joinK l, cmpE os q.1 t.1 ≤ 0 := fun q hq => by
      obtain ⟨s, hs, e⟩ := (joinK_mem l q.1).1 ⟨q, hq, rfl⟩
      rw [← e]
      exact hO.2.2 s hs t (by simp)
    rw [joinK_snoc]
    generalize joinK l = L at hr hle hjk
    rcases List.eq_nil_or_concat L with rfl | ⟨L0, z, rfl⟩
    · exact List.pairwise_singleton _ _
    · rw [List.concat_eq_append] at hr hle hjk ⊢
      by_cases e : z.1 = t.1
      · rw [joinStep_same e]
        have := List.pairwise_append.1 hr
        exact List.pairwise_append.2 ⟨this.1, List.pairwise_singleton _ _, fun a ha b hb => by rw [List.mem_singleton.1 hb]; exact this.2.2 a ha z (by simp)⟩
      · rw [joinStep_other e]
        refine List.pairwise_append.2 ⟨hr, List.pairwise_singleton _ _, fun q hq b hb => ?_⟩
        rw [List.mem_singleton.1 hb]
        have h1 := hle q hq
        have h2 := hle z (by simp)
        have h3 := hr.last hq
        have hne : cmpE os q.1 t.1 ≠ 0 := fun h0 => e (by
          have e1 := cmpE_eq ho (hjk q hq).1 ht h0
          rw [e1] at h3
          have := cmpE_neg os t.1 z.1
          exact (cmpE_eq ho (hjk z (by simp)).1 ht (by omega)))
        omega
theorem KRise.tot {os : List Int} {l : List KeyT} (h : KRise os l) {t : KeyT} (ht : t ∈ l) : totP (fun q => decide (q = t.1)) l = t.2.1 := by
  induction l with
  | nil => cases ht
  | cons x l ih =>
    have hx := List.pairwise_cons.1 h
    simp only [totP]
    have hzero : ∀ (p : List Int) (m : List KeyT), (∀ y ∈ m, y.1 ≠ p) → totP (fun q => decide (q = p)) m = 0 := by
      intro p m
      induction m with
      | nil => intro _; rfl
      | cons y m ihm =>
        intro hm
        simp only [totP]
        rw [if_neg (by simpa using hm y (by simp)), ihm (fun z hz => hm z (by simp [hz]))]
        rfl
    rcases List.mem_cons.1 ht with rfl | ht
    · rw [if_pos (by simp), hzero _ _ (fun y hy e => by have := hx.1 y hy; rw [e, cmpE_self] at this; omega)]
      omega
    · have := hx.1 t ht
      rw [if_neg (by
        simp only [decide_eq_true_eq]
        intro e
        rw [e, cmpE_self] at this
        omega), ih hx.2 ht]
      omega
theorem rise_ext {α : Type} {R : α → α → Prop} (asym : ∀ a b, R a b → R b a → False) : ∀ {l m : List α}, l.Pairwise R → m.Pairwise R → (∀ a, a ∈ l ↔ a ∈ m) → l = m
  | [], [], _, _, _ => rfl
  | [], y :: m, _, _, h => absurd ((h y).2 (by simp)) (by simp)
  | x :: l, [], _, _, h => absurd ((h x).1 (by simp)) (by simp)
  | x :: l, y :: m, hl, hm, h => by
    have hx := List.pairwise_cons.1 hl
    have hy := List.pairwise_cons.1 hm
    have e : x = y := by
      rcases List.mem_cons.1 ((h x).1 (by simp)) with e | e
      · exact e
      · rcases List.mem_cons.1 ((h y).2 (by simp)) with e2 | e2
        · exact e2.symm
        · exact (asym _ _ (hy.1 x e) (hx.1 y e2)).elim
    subst e
    have := rise_ext asym hx.2 hy.2 (fun a => by
      constructor
      · intro ha
        rcases List.mem_cons.1 ((h a).1 (by simp [ha])) with e | e
        · subst e; exact (asym _ _ (hx.1 a ha) (hx.1 a ha)).elim
        · exact e
      · intro ha
        rcases List.mem_cons.1 ((h a).2 (by simp [ha])) with e | e
        · subst e; exact (asym _ _ (hy.1 a ha) (hy.1 a ha)).elim
        · exact e)
    rw [this]
theorem KRise.asym {os : List Int} (a b : KeyT) (h : cmpE os a.1 b.1 < 0) (h2 : cmpE os b.1 a.1 < 0) : False := by
  have := cmpE_neg os a.1 b.1
  omega
theorem KeyOk.perm {N : Nat} {a b : List KeyT} (h : KeyOk N a) (hp : b.Perm a) : KeyOk N b := fun t ht => h t (hp.mem_iff.1 ht)
theorem wrap_fits {v : Int} (h : -9223372036854775808 ≤ v ∧ v ≤ 9223372036854775807) : wrap64 v = v := by unfold wrap64; omega
/-- what is joined: of each place once the sum -/
theorem joined_mem {N : Nat} {os : List Int} (ho : os.Perm (iotaL N)) {K : List KeyT} (hk : KeyOk N K) (t : KeyT) :
    t ∈ joinK (sortK os K) ↔ (∃ s ∈ K, s.1 = t.1) ∧ t.2.1 = wrap64 (totP (fun q => decide (q = t.1)) K) ∧ t.2.2 = N := by
  have hks := hk.perm (sortK_perm os K)
  have hr := joinK_rise ho hks (sortK_ord os K)
  have hjk := joinK_ok hks
  have hval : ∀ u ∈ joinK (sortK os K), u.2.1 = wrap64 (totP (fun q => decide (q = u.1)) K) := fun u hu => by
    have h1 := hr.tot hu
    have h2 := joinK_tot (fun q => decide (q = u.1)) (sortK os K)
    rw [h1, totP_perm _ (sortK_perm os K), wrap_fits (hjk u hu).2.2] at h2
    exact h2
  constructor
  · intro h
    obtain ⟨s, hs, e⟩ := (joinK_mem _ t.1).1 ⟨t, h, rfl⟩
    exact ⟨⟨s, (sortK_perm os K).mem_iff.1 hs, e⟩, hval t h, (hjk t h).2.1⟩
  · rintro ⟨⟨s, hs, e⟩, hv, hn⟩
    obtain ⟨u, hu, e2⟩ := (joinK_mem _ t.1).2 ⟨s, (sortK_perm os K).mem_iff.2 hs, e⟩
    have h3 := hval u hu
    have h4 := (hjk u hu).2.1
    have : u = t := by
      obtain ⟨u1, u2, u3⟩ := u
      obtain ⟨t1, t2, t3⟩ := t
      dsimp only at e2 h3 h4 hv hn
      subst e2
      rw [h3, hv, h4, hn]
    rw [← this]; exact hu
theorem KRise.sorted {N : Nat} {oa ob : List Int} (hb : ob.Perm (iotaL N)) {J : List KeyT} (hk : KeyOk N J) (h : KRise oa J) : KRise ob (sortK ob J) := by
  have hp := sortK_perm ob J
  have hne : (sortK ob J).Pairwise fun x y => x.1 ≠ y.1 := by
    have h1 : J.Pairwise fun x y => x.1 ≠ y.1 := h.imp (fun {a b} hab e => by rw [e, cmpE_self] at hab; omega)
    exact hp.symm.pairwise h1 (fun hxy e => hxy e.symm)
  have hks := hk.perm hp
  refine ((sortK_ord ob J).and hne).imp_of_mem (fun {a b} ha hb' hab => ?_)
  have h0 : cmpE ob a.1 b.1 ≠ 0 := fun h0 => hab.2 (cmpE_eq hb (hks a ha).1 (hks b hb').1 h0)
  omega
/-- joined by one order, and sorted by another one, is joined by the other one -/
theorem join_sort {N : Nat} {oa ob : List Int} (ha : oa.Perm (iotaL N)) (hb : ob.Perm (iotaL N)) {K : List KeyT} (hk : KeyOk N K) : sortK ob (joinK (sortK oa K)) = joinK (sortK ob K) := by
  have hka := hk.perm (sortK_perm oa K)
  have hra := joinK_rise ha hka (sortK_ord oa K)
  have hkb := hk.perm (sortK_perm ob K)
  have hrb := joinK_rise hb hkb (sortK_ord ob K)
  refine rise_ext (R := fun x y : KeyT => cmpE ob x.1 y.1 < 0) KRise.asym (KRise.sorted hb (joinK_ok hka) hra) hrb fun t => ?_
  rw [(sortK_perm ob _).mem_iff, joined_mem ha hk, joined_mem hb hk]
end Go.Proofs.Yteepiifhmbcciaa
/- coo.Same: whether two lists may be, and are the same. -/
namespace Go.Proofs.Yteepiifhmbcciaa
open Go.RowKit

/-- an entry's place and number -/
def keyV (x : Ent) : List Int × Int := (x.cs, x.v)
theorem two_ent (w : World) (u v : Value) (o : Obj) : (w.alloc (.cells #[u, v] 53)).heap[w.heap.size]? = some (.cells #[u, v] 53 (0, 0)) ∧ ((w.alloc (.cells #[u, v] 53)).alloc o).heap[w.heap.size]? = some (.cells #[u, v] 53 (0, 0)) := by
  have h := heap_alloc_new w (.cells #[u, v] 53)
  exact ⟨h, (Below.heap_alloc _ o _ (lt_of_heap h)).trans h⟩

theorem take_eq_of {α : Type} [DecidableEq α] {xs ys : List α} {k n : Nat} (hl : xs.length = n) (hl2 : ys.length = n) (hk : n ≤ k) (h : xs.take k = ys.take k) : xs = ys := by
  rwa [List.take_of_length_le (by omega), List.take_of_length_le (by omega)] at h

/-- whether two lists are the same -/
def sameC (xs ys : List Int) (es fs : List Ent) : Bool := decide (cooF xs es = 0) && decide (xs = ys) && decide (es.map keyV = fs.map keyV)
end Go.Proofs.Yteepiifhmbcciaa
/- The contract of purflelaw02.few. -/
namespace Go.Proofs.Yteepiifhmbcciaa
open Go.RowKit

def fewE (es : List Ent) : Bool := es.all fun y => decide (y.n ≤ 20)
def fewC (l : List (Hdr × List Ent)) : Bool := l.all fun x => (decide (x.1.n ≤ 20) && decide (x.1.m ≤ 2000)) && fewE x.2
theorem fewC_next {l : List (Hdr × List Ent)} {k : Nat} {x : Hdr × List Ent} (h0 : fewC (l.take k) = true) (hx : l[k]? = some x) (h1 : x.1.n ≤ 20) (h2 : x.1.m ≤ 2000) (h3 : fewE x.2 = true) : fewC (l.take (k + 1)) = true := by
  unfold fewC at h0 ⊢
  rw [take_succ_of hx, List.all_append, h0]; simp [h1, h2, h3]
theorem fewC_not {l : List (Hdr × List Ent)} {k : Nat} {x : Hdr × List Ent} (hx : l[k]? = some x) (h : ¬ (x.1.n ≤ 20 ∧ x.1.m ≤ 2000 ∧ fewE x.2 = true)) : fewC l = false := by
  unfold fewC
  rw [List.all_eq_false]
  refine ⟨x, List.mem_of_getElem? hx, fun hh => h ?_⟩
  simp only [Bool.and_eq_true, decide_eq_true_eq] at hh
  exact ⟨hh.1.1, hh.1.2, hh.2⟩

end Go.Proofs.Yteepiifhmbcciaa
/- Lists as they are read: Sort, Join and Same in one form. -/
namespace Go.Proofs.Yteepiifhmbcciaa
open Go.RowKit

/-- a list as it is read: its shape and its entries -/
def CooV (w : World) (A : Option Addr) (n : Nat) (B : Option Addr) (m : Nat) (xs : List Int) (es : List Ent) : Prop := Ints w w.heap.size A n xs ∧ Ents w w.heap.size B m es
section
variable {w w' : World} {A B : Option Addr} {n m : Nat} {xs : List Int} {es : List Ent}
theorem CooV.below (h : CooV w A n B m xs es) (hb : Below w.heap.size w w') : CooV w' A n B m xs es := ⟨(h.1.below hb).more hb.size, (h.2.below hb).more hb.size⟩
theorem CooV.alloc (h : CooV w A n B m xs es) (o : Obj) : CooV (w.alloc o) A n B m xs es := h.below ((Below.refl _ w).alloc (Nat.le_refl _) _)
theorem NewEs.ents {base c : Nat} {Js : List Ent} (h : NewEs w base A c Js) (hn : ∀ x ∈ Js, x.n ≤ 9223372036854775807) : Ents w w.heap.size A Js.length Js := by
  rcases h with rfl | ⟨g, post, rfl, hb, hr, hne, hl⟩
  · exact ⟨rfl, by simp, fun h => absurd h (by simp)⟩
  · refine ⟨rfl, fun x hx => ⟨(hne x hx).1.1, hn x hx, (hne x hx).2.2.1, (hne x hx).2.2.2⟩, fun _ => ⟨g, 0, rfl, hr.lt, fun k x hx => ?_⟩⟩
    obtain ⟨⟨a1, _⟩, a2, _⟩ := blk_ent hr hx
    rw [Nat.zero_add, Nat.mul_comm 2 k]
    exact ⟨a1, a2⟩
end
theorem cooF_mk {xs : List Int} {es : List Ent} (h1 : (cellsF xs).2 = 0) (h2 : es.length ≤ 65536) (h3 : ∀ x ∈ es, insideF xs x.cs = true) : cooF xs es = 0 := by
  unfold cooF
  rw [if_pos h1, if_neg (by omega), if_pos (List.all_eq_true.2 h3)]
theorem joinStep_len (L : List KeyT) (t : KeyT) : (joinStep L t).length ≤ L.length + 1 := by
  rcases List.eq_nil_or_concat L with rfl | ⟨L0, z, rfl⟩
  · exact Nat.le_refl _
  · rw [List.concat_eq_append]
    by_cases e : z.1 = t.1
    · rw [joinStep_same e]; simp
    · rw [joinStep_other e]; simp
theorem joinK_len (l : List KeyT) : (joinK l).length ≤ l.length := by
  induction l using list_snoc_ind with
  | h0 => exact Nat.le_refl _
  | hs l t ih => rw [joinK_snoc]; have := joinStep_len (joinK l) t; simp; omega
/-- keys that come of those of es -/
theorem cooF_of {xs : List Int} {es Js : List Ent} (h : cooF xs es = 0) (hl : Js.length ≤ es.length) (hm : ∀ x ∈ Js, ∃ y ∈ es, y.cs = x.cs) : cooF xs Js = 0 := by
  obtain ⟨p1, p2, p3⟩ := cooF_parts h
  exact cooF_mk p1 (by omega) fun x hx => by obtain ⟨y, hy, e⟩ := hm x hx; rw [← e]; exact p3 y hy
theorem map_cs {es : List Ent} {p : List Int} (h : ∃ q ∈ es.map keyE, q.1 = p) : ∃ y ∈ es, y.cs = p := by
  obtain ⟨q, hq, e⟩ := h
  obtain ⟨y, hy, rfl⟩ := List.mem_map.1 hq
  exact ⟨y, hy, e⟩
theorem cooF_sort {xs os : List Int} {es Ss : List Ent} (h : cooF xs es = 0) (hk : Ss.map keyE = sortK os (es.map keyE)) : cooF xs Ss = 0 := by
  refine cooF_of h ?_ fun x hx => ?_
  · have := congrArg List.length hk
    rw [List.length_map, (sortK_perm _ _).length_eq, List.length_map] at this
    omega
  · have : keyE x ∈ sortK os (es.map keyE) := by rw [← hk]; exact List.mem_map_of_mem hx
    exact map_cs ⟨keyE x, (sortK_perm _ _).mem_iff.1 this, rfl⟩
theorem cooF_join {xs os : List Int} {es Js : List Ent} (h : cooF xs es = 0) (hk : Js.map keyE = joinK (sortK os (es.map keyE))) : cooF xs Js = 0 := by
  refine cooF_of h ?_ fun x hx => ?_
  · have := congrArg List.length hk
    have h2 := joinK_len (sortK os (es.map keyE))
    rw [(sortK_perm _ _).length_eq, List.length_map] at h2
    rw [List.length_map] at this
    omega
  · have : keyE x ∈ joinK (sortK os (es.map keyE)) := by rw [← hk]; exact List.mem_map_of_mem hx
    obtain ⟨q, hq, e⟩ := (joinK_mem _ _).1 ⟨keyE x, this, rfl⟩
    exact map_cs ⟨q, (sortK_perm _ _).mem_iff.1 hq, e⟩
theorem keyOk_of {w : World} {A B : Option Addr} {n m : Nat} {xs : List Int} {es : List Ent} (h : CooV w A n B m xs es) (hE : cooF xs es = 0) : KeyOk n (es.map keyE) := by
  intro t ht
  obtain ⟨y, hy, rfl⟩ := List.mem_map.1 ht
  have hq := h.2.2.1 y hy
  have hl := key_len hE (fun z hz => (h.2.2.1 z hz).1.1) y hy
  have hn := h.1.1
  have hc := hq.1.1
  exact ⟨by show y.cs.length = n; omega, by show y.n = n; omega, hq.2.2.2⟩
theorem keyV_of {es fs : List Ent} (h : es.map keyE = fs.map keyE) : es.map keyV = fs.map keyV := by
  have := congrArg (List.map fun q : KeyT => (q.1, q.2.1)) h
  rw [List.map_map, List.map_map] at this
  exact this

theorem sameC_t {xs : List Int} {es fs : List Ent} (h : cooF xs es = 0) (hk : es.map keyE = fs.map keyE) : sameC xs xs es fs = true := by
  unfold sameC
  rw [h, keyV_of hk]; simp
theorem fewC_one {A B : Option Addr} {n c m e : Nat} {es : List Ent} (h : fewC [((⟨A, n, c, B, m, e⟩ : Hdr), es)] = true) : n ≤ 20 ∧ m ≤ 2000 := by
  unfold fewC at h
  simp at h
  exact h.1
theorem heapAt {w w' : World} {g : Nat} {o : Obj} (hb : Below w.heap.size w w') (h : w.heap[g]? = some o) : w'.heap[g]? = some o := (hb.block g (lt_of_heap h)).trans h
theorem heapPast {w : World} {g : Nat} {v : Obj} (o : Obj) (h : w.heap[g]? = some v) : (w.alloc o).heap[g]? = some v := (Below.heap_alloc w o g (lt_of_heap h)).trans h
end Go.Proofs.Yteepiifhmbcciaa
/- slices.DeleteFunc at entries, as coo.Trim calls it; coo.Trim. -/
namespace Go.Proofs.Yteepiifhmbcciaa
open Go.RowKit

def nzE (x : Ent) : Bool := !(x.v == 0)
/-! ### a part of a block, written at once -/
theorem blk_setCells {g : Nat} {t : TypeId} : ∀ (vs : List Value) (o : Nat) (L : List Value) (w : World), w.heap[g]? = some (.cells L.toArray t (0, 0)) → o + vs.length ≤ L.length →
    (w.setCells g o vs).heap[g]? = some (.cells (L.take o ++ vs ++ L.drop (o + vs.length)).toArray t (0, 0)) ∧ w.grownBy (w.setCells g o vs) (some g)
  | [], o, L, w, h, _ => ⟨by simpa [World.setCells] using h, grown_same w g⟩
  | v :: vs, o, L, w, h, hl => by
    have h1 := blkE_set (i := o) h v
    have hl' : o + (vs.length + 1) ≤ L.length := hl
    obtain ⟨h2, h3⟩ := blk_setCells vs (o + 1) (L.set o v) (w.setCell ⟨g, o, none⟩ v) h1 (by rw [List.length_set]; omega)
    refine ⟨?_, grown_trans (grownBy_setE (grown_same w g) o v) h3⟩
    have e : (L.set o v).take (o + 1) ++ vs ++ (L.set o v).drop (o + 1 + vs.length) = L.take o ++ (v :: vs) ++ L.drop (o + (v :: vs).length) := by
      have ho : o < L.length := by omega
      rw [List.take_add_one, List.getElem?_set_self ho, List.take_set_of_le (Nat.le_refl _), List.drop_set_of_lt (by omega)]
      simp [Nat.add_assoc, Nat.add_comm 1]
    rw [e] at h2
    exact h2
theorem part_list {α : Type} (F S P Z : List α) (a : Nat) (ha : F.length = a) (hz : Z.length = S.length) : (F ++ S ++ P).take a ++ Z ++ (F ++ S ++ P).drop (a + Z.length) = F ++ (Z ++ P) := by
  subst ha
  rw [hz, List.append_assoc F S P, List.take_left, List.append_assoc, ← List.drop_drop, List.drop_left, List.drop_left]
def zeroE : Ent := ⟨none, 0, 0, [], 0⟩
theorem zeroCells_ents (n : Nat) : (Builtin.zeroCells #[.slice none 0 0, .int .i64 0] n).toList = cellsE (List.replicate n zeroE) := by
  apply List.ext_getElem?
  intro j
  by_cases hj : j < n * 2
  · have hk : j / 2 < n := by omega
    have hz := cellsE_at (es := List.replicate n zeroE) (k := j / 2) (List.getElem?_replicate_of_lt hk)
    have hl : (Builtin.zeroCells #[.slice none 0 0, .int .i64 0] n).toList[j]? = some ((#[Value.slice none 0 0, .int .i64 0] : Array Value)[j % 2]!) := by
      simp [Builtin.zeroCells, hj]
    rw [hl]
    rcases Nat.mod_two_eq_zero_or_one j with hm | hm
    · have e : j = 2 * (j / 2) := by omega
      rw [hm]
      conv => rhs; rw [e]
      rw [hz.1]; rfl
    · have e : j = 2 * (j / 2) + 1 := by omega
      rw [hm]
      conv => rhs; rw [e]
      rw [hz.2]; rfl
  · rw [List.getElem?_eq_none (by simp [Builtin.zeroCells]; omega), List.getElem?_eq_none (by rw [cellsE_length]; simp; omega)]
theorem run_clearE (w : World) (g i n c : Nat) (F S : List Ent) (post : List Value) (hr : RowE w g (F ++ S) post) (hF : F.length = i) (hS : S.length = n) (hn : 0 < n) :
    ∃ w', (∀ ty, (Builtin.clear_ #[34] ty #[.slice (some ⟨g, i * 2, none⟩) n c]).run Try.prog w = .ok (.tuple #[]) w') ∧ RowE w' g F (cellsE (List.replicate n zeroE) ++ post) ∧ w.grownBy w' (some g) := by
  have hlF := cellsE_length F
  have hlS := cellsE_length S
  have hlZ := cellsE_length (List.replicate n zeroE)
  rw [List.length_replicate] at hlZ
  have hr' := hr
  unfold RowE at hr'
  rw [cellsE_append] at hr'
  have hcell : ∀ j, j < n * 2 → (w.cell? ⟨g, i * 2 + j, none⟩).isSome = true ∧ w.frozen? ⟨g, i * 2 + j, none⟩ = false := fun j hj => by
    have hlt : i * 2 + j < (cellsE F ++ cellsE S ++ post).length := by simp only [List.length_append]; omega
    refine ⟨?_, by simp [World.frozen?, hr']⟩
    rw [cell_of_row _ _ (i * 2 + j) _ _ (0, 0) hr']
    rw [List.getElem?_toArray, List.getElem?_eq_getElem hlt]; rfl
  have hst := run_storeCells_cells (P := Try.prog) g (i * 2) (cellsE (List.replicate n zeroE)) 0 w (fun j hj => by rw [Nat.add_zero]; exact (hcell j (by omega)).1) (fun j hj => by rw [Nat.add_zero]; exact (hcell j (by omega)).2) (fun v hv => cellsE_one _ v hv)
  rw [Nat.add_zero] at hst
  have hb := blk_setCells (cellsE (List.replicate n zeroE)) (i * 2) _ w hr' (by simp only [List.length_append]; omega)
  refine ⟨_, fun ty => ?_, ?_, hb.2⟩
  · obtain ⟨m, rfl⟩ : ∃ m, n = m + 1 := ⟨n - 1, by omega⟩
    have hz := zeroCells_ents (m + 1)
    simp only [Builtin.clear_]
    simp [run_underlying Try.underlying34, Try.zeroValue53, Value.cells, hz, hst]
  · unfold RowE
    rw [hb.1, part_list (cellsE F) (cellsE S) post (cellsE (List.replicate n zeroE)) (i * 2) (by omega) (by omega)]
end Go.Proofs.Yteepiifhmbcciaa
/- coo.Trim: the entries of 0 are left out. -/
namespace Go.Proofs.Yteepiifhmbcciaa
open Go.RowKit

set_option maxRecDepth 100000 in
theorem run_takeF {w : World} (A : Option Addr) (n c k : Nat) (hk : k ≤ n) (hc : n ≤ c) : (Instr.slice 34 (.slice A n c) none (some (.int .i64 (k : Int))) none).run Try.prog w = .ok (.slice A k c) w := by
  obtain ⟨i0, hi0, hz0, hz1, hz2⟩ := info_parts infoEnt
  rw [run_slice_h w 34 A n c (by kernel_rfl) .i64 (k : Int) (by omega) (by omega)]
  have hs : (sizeOf (Try.prog.elem 34)).run Try.prog w = .ok 2 w := by
    have he : Try.prog.elem 34 = 53 := by kernel_rfl
    rw [he]; simp [sizeOf, typeInfo, hi0, hz1]
  rw [hs]
  simp only [Result.andThen, sliced, Int.toNat_natCast, Nat.zero_mul, Nat.sub_zero]
  have : (if c = 0 then A else A.map (·.add 0)) = A := by
    split
    · rfl
    · cases A <;> simp [Addr.add]
  rw [this]
set_option maxRecDepth 100000 in
theorem run_dropF {w : World} (g n c k : Nat) (hk : k < n) (hc : n ≤ c) : (Instr.slice 34 (.slice (some ⟨g, 0, none⟩) n c) (some (.int .i64 (k : Int))) none none).run Try.prog w = .ok (.slice (some ⟨g, k * 2, none⟩) (n - k) (c - k)) w := by
  obtain ⟨i0, hi0, hz0, hz1, hz2⟩ := info_parts infoEnt
  rw [run_slice_l w 34 (some ⟨g, 0, none⟩) n c (by kernel_rfl) .i64 (k : Int) (by omega) (by omega)]
  have hs : (sizeOf (Try.prog.elem 34)).run Try.prog w = .ok 2 w := by
    have he : Try.prog.elem 34 = 53 := by kernel_rfl
    rw [he]; simp [sizeOf, typeInfo, hi0, hz1]
  rw [hs]
  simp only [Result.andThen, sliced, Int.toNat_natCast]
  rw [if_neg (by omega)]
  by_cases h0 : k * 2 = 0
  · have : k = 0 := by omega
    subst this; simp [Addr.add]
  · simp [Addr.add, h0]
theorem filter_all {l : List Ent} (h : ∀ x ∈ l, x.v ≠ 0) : l.filter nzE = l := List.filter_eq_self.2 fun x hx => by unfold nzE; simp [h x hx]
theorem first_zero : ∀ (es : List Ent), (∀ x ∈ es, x.v ≠ 0) ∨ ∃ p y, es[p]? = some y ∧ y.v = 0 ∧ ∀ x ∈ es.take p, x.v ≠ 0
  | [] => .inl (by simp)
  | z :: es => by
    by_cases hz : z.v = 0
    · exact .inr ⟨0, z, rfl, hz, by simp⟩
    · rcases first_zero es with h | ⟨p, y, h1, h2, h3⟩
      · exact .inl fun x hx => by rcases List.mem_cons.1 hx with rfl | hx; exact hz; exact h x hx
      · exact .inr ⟨p + 1, y, h1, h2, fun x hx => by
          rw [List.take_succ_cons] at hx
          rcases List.mem_cons.1 hx with rfl | hx; exact hz; exact h3 x hx⟩

theorem mid_list {F S D : List Ent} {x : Ent} {i j : Nat} (hF : F.length = i) (hS : S.length = j - i) (hij : i ≤ j) : (F ++ S ++ x :: D)[j]? = some x := by
  rw [List.getElem?_append_right (by rw [List.length_append]; omega), List.length_append, hF, hS, show j - (i + (j - i)) = 0 by omega]
  rfl
theorem keep_list {F S' D : List Ent} {s x : Ent} {i : Nat} (hF : F.length = i) : (F ++ (s :: S') ++ x :: D).set i x = F ++ [x] ++ (S' ++ [x]) ++ D := by
  subst hF
  rw [List.append_assoc, List.set_append_right _ _ (Nat.le_refl _), Nat.sub_self, List.cons_append, List.set_cons_zero]
  simp
theorem grownBy_of_below {w w' : World} (g : Nat) (hb : Below w.heap.size w w') : w.grownBy w' (some g) := grown_below' (grown_same w g) hb
theorem NewEs.skip {w w' : World} {base c q : Nat} {A : Option Addr} {es : List Ent} {cs : Array Value} (h : NewEs w base A c es) (hg : w.grownBy w' (some q)) (hx : ∀ x ∈ es, ∀ b off, x.A = some ⟨b, off, none⟩ → b ≠ q) (hq : w.heap[q]? = some (.cells cs 36 (0, 0))) : NewEs w' base A c es := by
  rcases h with h | ⟨g, post, h1, h2, h3, h4, h5⟩
  · exact .inl h
  · have hgq : g ≠ q := by
      rintro rfl
      unfold RowE at h3
      rw [hq] at h3
      injection h3 with h3
      injection h3 with _ h3
      exact absurd h3 (by decide)
    refine .inr ⟨g, post, h1, h2, (hg.block g h3.lt (by intro e; injection e with e; exact hgq e)).trans h3, fun x hx' => ?_, h5⟩
    have hn := h4 x hx'
    exact ⟨⟨IntsOff.grown ⟨hn.1.1, hx x hx'⟩ hg, hn.1.2⟩, fun b off e => ⟨(hn.2.1 b off e).1, Nat.lt_of_lt_of_le (hn.2.1 b off e).2.1 hg.size, by obtain ⟨cs, t, hc⟩ := (hn.2.1 b off e).2.2; exact ⟨cs, t, (hg.block b (hn.2.1 b off e).2.1 (by intro e2; injection e2 with e2; exact hx x hx' b off e e2)).trans hc⟩⟩, hn.2.2⟩
/-- what is read lies in blocks from base on -/
def FarC (w : World) (base : Nat) (A B : Option Addr) (es : List Ent) : Prop := (∀ b off, A = some ⟨b, off, none⟩ → base ≤ b) ∧ (es ≠ [] → ∀ b off, B = some ⟨b, off, none⟩ → base ≤ b ∧ ∃ cs t, w.heap[b]? = some (.cells cs t (0, 0))) ∧ ∀ x ∈ es, ∀ b off, x.A = some ⟨b, off, none⟩ → base ≤ b ∧ ∃ cs t, w.heap[b]? = some (.cells cs t (0, 0))
theorem ints_skip {w w' : World} {n q : Nat} {A : Option Addr} {xs : List Int} (h : Ints w w.heap.size A n xs) (hg : w.grownBy w' (some q)) (hA : ∀ b off, A = some ⟨b, off, none⟩ → b ≠ q) : Ints w' w'.heap.size A n xs := IntsOff.grown ⟨h, hA⟩ hg
theorem CooV.far {w w' : World} {base q n m : Nat} {A B : Option Addr} {xs : List Int} {es : List Ent} (h : CooV w A n B m xs es) (hf : FarC w base A B es) (hg : w.grownBy w' (some q)) (hq : q < base) : CooV w' A n B m xs es := by
  refine ⟨ints_skip h.1 hg (fun b off e => by have := hf.1 b off e; omega), h.2.1, fun x hx => ⟨ints_skip (h.2.2.1 x hx).1 hg (fun b off e => by have := (hf.2.2 x hx b off e).1; omega), (h.2.2.1 x hx).2⟩, fun h0 => ?_⟩
  obtain ⟨b, off, e, hb, hx⟩ := h.2.2.2 h0
  have hbq := (hf.2.1 (by intro e0; have := h.2.1; rw [e0] at this; simp at this; omega) b off e).1
  have hk : ∀ o, w'.cell? ⟨b, o, none⟩ = w.cell? ⟨b, o, none⟩ := fun o => World.cell?_of_block (a := ⟨b, o, none⟩) (hg.block b hb (by intro e; injection e with e; omega))
  exact ⟨b, off, e, Nat.lt_of_lt_of_le hb hg.size, fun k x hx' => ⟨(hk _).trans (hx k x hx').1, (hk _).trans (hx k x hx').2⟩⟩
theorem OwnI.farA {w : World} {base c : Nat} {e : TypeId} {A : Option Addr} {xs : List Int} (h : OwnI w base e A c xs) : ∀ b off, A = some ⟨b, off, none⟩ → base ≤ b := fun b off e => by
  rcases h.1.2 with ⟨h1, _⟩ | ⟨g, cap, cur, h1, h2, _⟩
  · injection h1 with h1; rw [h1] at e; cases e
  · injection h1 with h1; rw [h1] at e; injection e with e; injection e with e; omega
theorem NewEs.farB {w : World} {base c : Nat} {A : Option Addr} {es : List Ent} (h : NewEs w base A c es) : (es ≠ [] → ∀ b off, A = some ⟨b, off, none⟩ → base ≤ b ∧ ∃ cs t, w.heap[b]? = some (.cells cs t (0, 0))) ∧ ∀ x ∈ es, ∀ b off, x.A = some ⟨b, off, none⟩ → base ≤ b ∧ ∃ cs t, w.heap[b]? = some (.cells cs t (0, 0)) := by
  rcases h with h | ⟨g, post, h1, h2, h3, h4, h5⟩
  · exact ⟨fun h0 => absurd h h0, fun x hx => by rw [h] at hx; cases hx⟩
  · exact ⟨fun _ b off e => by rw [h1] at e; injection e with e; injection e with e; subst e; exact ⟨h2, _, _, h3⟩, fun x hx b off e => ⟨((h4 x hx).2.1 b off e).1, ((h4 x hx).2.1 b off e).2.2⟩⟩
def nzK (t : KeyT) : Bool := !(t.2.1 == 0)
theorem filter_key (es : List Ent) : (es.filter nzE).map keyE = (es.map keyE).filter nzK := by
  rw [List.filter_map]; rfl
end Go.Proofs.Yteepiifhmbcciaa
/- coo.Plain, and Trim of a list that may not be. -/
namespace Go.Proofs.Yteepiifhmbcciaa
open Go.RowKit

theorem ordOk_nil (n : Nat) : OrdOk n [] := .inl rfl
theorem ordL_nil (n : Nat) : ordL n [] = iotaL n := by unfold ordL; rw [if_pos rfl]
theorem sortE'_nil {xs : List Int} {n : Nat} {es : List Ent} : sortE' xs [] n es = cooF xs es := by
  unfold sortE'
  by_cases h : cooF xs es = 0
  · rw [if_pos h, if_pos (ordOk_nil n), h]
  · rw [if_neg h]
end Go.Proofs.Yteepiifhmbcciaa
/- coo.Dense: a list laid out. -/
namespace Go.Proofs.Yteepiifhmbcciaa
open Go.RowKit

/-- what stands behind a tensor that the call itself holds -/
theorem denseRes (w : World) (g : Nat) (u v a b : Value) (h : w.heap[g]? = some (.cells #[u, v] 40 (0, 0))) : ((w.setCell ⟨g, 0, none⟩ a).setCell ⟨g, 1, none⟩ b).heap[g]? = some (.cells #[a, b] 40 (0, 0)) ∧ w.grownBy ((w.setCell ⟨g, 0, none⟩ a).setCell ⟨g, 1, none⟩ b) (some g) := set_two w g u v a b _ h

set_option maxRecDepth 100000 in
theorem cooDense_err (A B : Option Addr) (n c m e : Nat) (xs : List Int) (es : List Ent) (E : Int) (w : World) (h : Ints w w.heap.size A n xs) (hn : n ≤ 9223372036854775807) (hv : Ents w w.heap.size B m es) (hm : m ≤ 9223372036854775807) (hE : cooF xs es = E) (h0 : E ≠ 0) :
    Calls Try.prog 40 #[.agg #[.slice A n c, .slice B m e]] w fun x w' => x = .returned (.tuple #[.agg #[.slice none 0 0, .slice none 0 0], .int .i64 E]) ∧ Below w.heap.size w w' := by
  have z0 := (Below.refl w.heap.size w).alloc (Nat.le_refl _) (.cells #[.slice A n c, .slice B m e] 36)
  have z1 := z0.alloc z0.size (.cells #[.slice none 0 0, .slice none 0 0] 40)
  have b2 := zf_snd w (.cells #[.slice none 0 0, .slice none 0 0] 40) (.cells #[.slice A n c, .slice B m e] 36)
  have HC := fun W (hb : Below w.heap.size w W) => cooCheck_any A B n c m e xs es W ((h.below hb).more hb.size) hn ((hv.below hb).more hb.size) hm
  rw [hE] at HC
  have e1 : (E == 0) = false := by simpa using h0
  have e2 : (E != 0) = true := by simpa using h0
  clear hE h0
  go_enter Try.func40, Try.ntmps40
  go_wp2_with fail
  refine (HC _ z1).mono ?_
  rintro x w1 ⟨rfl, hb1⟩
  have hb := z1.trans (hb1.mono z1.size)
  have q2 := (hb1.block (w.heap.size + 1) (by simp)).trans b2
  obtain ⟨v0, v1, vf0, vf1⟩ := pair_cells q2
  have Q2 := Lib.hid q2
  clear q2 b2 z0 z1 HC hb1
  go_wp2_with fail
  have hres := denseRes w1 (w.heap.size + 1) _ _ (.slice none 0 0) (.slice none 0 0) Q2.out
  obtain ⟨s0, s1, _, _⟩ := pair_cells hres.1
  obtain ⟨wz, hwz⟩ : ∃ wz, (w1.setCell ⟨w.heap.size + 1, 0, none⟩ (.slice none 0 0)).setCell ⟨w.heap.size + 1, 1, none⟩ (.slice none 0 0) = wz := ⟨_, rfl⟩
  rw [hwz] at hres s0 s1 ⊢
  exact bodyPost_ret (v := .tuple #[.agg #[.slice none 0 0, .slice none 0 0], .int .i64 E]) (by simp [results, Try.results40, go_sem, s0, s1]) rfl ⟨rfl, hb.grown hres.2 hb.size (fun k hk => by injection hk with hk; omega)⟩

set_option maxRecDepth 100000 in
theorem cooDense_large (A B : Option Addr) (n c m e : Nat) (xs : List Int) (es : List Ent) (E : Int) (w : World) (h : Ints w w.heap.size A n xs) (hn : n ≤ 9223372036854775807) (hv : Ents w w.heap.size B m es) (hm : m ≤ 9223372036854775807) (hck : cooF xs es = 0) (hE : (laidF xs).2 = E) (h0 : E ≠ 0) :
    Calls Try.prog 40 #[.agg #[.slice A n c, .slice B m e]] w fun x w' => x = .returned (.tuple #[.agg #[.slice none 0 0, .slice none 0 0], .int .i64 E]) ∧ Below w.heap.size w w' := by
  have z0 := (Below.refl w.heap.size w).alloc (Nat.le_refl _) (.cells #[.slice A n c, .slice B m e] 36)
  have z1 := z0.alloc z0.size (.cells #[.slice none 0 0, .slice none 0 0] 40)
  have b1 := zf_two w (.cells #[.slice A n c, .slice B m e] 36) (.cells #[.slice none 0 0, .slice none 0 0] 40)
  have b2 := zf_snd w (.cells #[.slice none 0 0, .slice none 0 0] 40) (.cells #[.slice A n c, .slice B m e] 36)
  have HC := fun W (hb : Below w.heap.size w W) => cooCheck_any A B n c m e xs es W ((h.below hb).more hb.size) hn ((hv.below hb).more hb.size) hm
  rw [hck] at HC
  have HZ := fun W (hb : Below w.heap.size w W) => zero_err A n c xs W ((h.below hb).more hb.size) hn (by rw [hE]; exact h0)
  rw [hE] at HZ
  have e1 : (E == 0) = false := by simpa using h0
  have e2 : (E != 0) = true := by simpa using h0
  clear hE h0 hck
  go_enter Try.func40, Try.ntmps40
  go_wp2_with fail
  refine (HC _ z1).mono ?_
  rintro x w1 ⟨rfl, hb1⟩
  have hb := z1.trans (hb1.mono z1.size)
  have q1 := (hb1.block w.heap.size (by simp; omega)).trans b1
  have q2 := (hb1.block (w.heap.size + 1) (by simp)).trans b2
  obtain ⟨k0, k1, _, _⟩ := pair_cells q1
  clear b1 b2 z0 z1 HC hb1 q1
  go_wp2_with fail
  refine (HZ _ hb).mono ?_
  rintro x w2 ⟨rfl, hb2⟩
  have hb3 := hb.trans (hb2.mono hb.size)
  have hlt := lt_of_heap q2
  have q3 := (hb2.block (w.heap.size + 1) hlt).trans q2
  have hal := (Below.refl w2.heap.size w2).alloc (Nat.le_refl _) (.cells #[.slice none 0 0, .slice none 0 0] 40)
  have q4 := (hal.block (w.heap.size + 1) (by have := hb2.size; omega)).trans q3
  have hb4 := hb3.trans (hal.mono hb3.size)
  obtain ⟨W5, hW5⟩ : ∃ W5, w2.alloc (.cells #[.slice none 0 0, .slice none 0 0] 40) = W5 := ⟨_, rfl⟩
  rw [hW5] at q4 hb4
  have HW5 := Lib.hid hW5
  obtain ⟨v0, v1, vf0, vf1⟩ := pair_cells q4
  have Q4 := Lib.hid q4
  clear k0 k1 q2 q3 q4 hb hb2 hb3 hal HZ hlt hW5
  go_upto_region 5 with fail
  rw [HW5.out]
  go_wp2_with fail
  have hres := denseRes W5 (w.heap.size + 1) _ _ (.slice none 0 0) (.slice none 0 0) Q4.out
  obtain ⟨s0, s1, _, _⟩ := pair_cells hres.1
  obtain ⟨wz, hwz⟩ : ∃ wz, (W5.setCell ⟨w.heap.size + 1, 0, none⟩ (.slice none 0 0)).setCell ⟨w.heap.size + 1, 1, none⟩ (.slice none 0 0) = wz := ⟨_, rfl⟩
  rw [hwz] at hres s0 s1 ⊢
  exact bodyPost_ret (v := .tuple #[.agg #[.slice none 0 0, .slice none 0 0], .int .i64 E]) (by simp [results, Try.results40, go_sem, s0, s1]) rfl ⟨rfl, hb4.grown hres.2 hb4.size (fun k hk => by injection hk with hk; omega)⟩

/-- where entry k goes, laid out -/
def goesE (xs : List Int) (es : List Ent) (k : Nat) : Nat := (numR xs (es[k]?.getD ⟨none, 0, 0, [], 0⟩).cs).toNat
/-- a list laid out -/
def denseV (xs : List Int) (es : List Ent) : List Int := scat (goesE xs es) (laidF xs).1.toNat (es.map (·.v))

set_option maxRecDepth 100000 in
set_option maxHeartbeats 4000000 in
theorem cooDense_ok (A B : Option Addr) (n c m e : Nat) (xs : List Int) (es : List Ent) (w : World) (h : Ints w w.heap.size A n xs) (hv : Ents w w.heap.size B m es) (hm : m ≤ 9223372036854775807) (hck : cooF xs es = 0) (hla : (laidF xs).2 = 0) :
    Calls Try.prog 40 #[.agg #[.slice A n c, .slice B m e]] w fun x w' => ∃ A1 c1 A2 c2, x = .returned (.tuple #[.agg #[.slice A1 n c1, .slice A2 (denseV xs es).length c2], .int .i64 0]) ∧ OwnI w' w.heap.size 3 A1 c1 xs ∧ OwnI w' w.heap.size 2 A2 c2 (denseV xs es) ∧ Below w.heap.size w w' := by
  obtain ⟨p1, p2, p3⟩ := cooF_parts hck
  have hn4 : n ≤ 4 := by rw [← h.1]; exact (cellsF_ok p1).1
  obtain ⟨N, hN, hN2⟩ : ∃ N : Nat, (laidF xs).1 = N ∧ N ≤ 65536 := ⟨(laidF xs).1.toNat, by have := (laidF_nonneg (xs := xs)); omega, by have := (laidF_nonneg (xs := xs)); omega⟩
  have HIN : Hid (∀ y ∈ es, (atF xs y.cs) = (numR xs y.cs, 0) ∧ 0 ≤ numR xs y.cs ∧ numR xs y.cs < N) := fun y hy => by
    have hi := p3 y hy
    have e : atF xs y.cs = (numR xs y.cs, 0) := by unfold atF; rw [if_pos p1, if_pos hi]
    obtain ⟨_, hI, _, hP⟩ := atF_ok (xs := xs) (cs := y.cs) (by rw [e])
    have hb := hI.bound
    have := (laidF_ok hla).2
    exact ⟨e, hb.1, by omega⟩
  have z0 := (Below.refl w.heap.size w).alloc (Nat.le_refl _) (.cells #[.slice A n c, .slice B m e] 36)
  have z1 := z0.alloc z0.size (.cells #[.slice none 0 0, .slice none 0 0] 40)
  have b1 := zf_two w (.cells #[.slice A n c, .slice B m e] 36) (.cells #[.slice none 0 0, .slice none 0 0] 40)
  have b2 := zf_snd w (.cells #[.slice none 0 0, .slice none 0 0] 40) (.cells #[.slice A n c, .slice B m e] 36)
  have HC := fun W (hb : Below w.heap.size w W) => cooCheck_any A B n c m e xs es W ((h.below hb).more hb.size) (by omega) ((hv.below hb).more hb.size) hm
  rw [hck] at HC
  have HZ := fun W (hb : Below w.heap.size w W) => zero_ok A n c xs N W ((h.below hb).more hb.size) (by omega) hla hN hN2
  have HAT := fun (y : Ent) W (hb : Below w.heap.size w W) (hy : Ints w w.heap.size y.A y.n y.cs) (hyn : y.n ≤ 9223372036854775807) => at_any A y.A n y.n c y.c xs y.cs W ((h.below hb).more hb.size) ((hy.below hb).more hb.size) (by omega) hyn
  have HV := Lib.hid hv
  have HEL : Hid (es.length = m) := hv.1
  have HDV : Hid (denseV xs es = scat (goesE xs es) N (es.map (·.v))) := by unfold Hid denseV; rw [hN, Int.toNat_natCast]
  have hdl : (denseV xs es).length = N := by rw [HDV.out, scat_length]
  rw [hdl]
  clear hck hla p1 p2 p3 h hv hN hdl
  go_enter Try.func40, Try.ntmps40
  go_wp2_with fail
  refine (HC _ z1).mono ?_
  rintro x w1 ⟨rfl, hb1⟩
  have hb := z1.trans (hb1.mono z1.size)
  have hsz0 : w.heap.size + 2 ≤ w1.heap.size := by have := hb1.size; simp at this; omega
  have q1 := (hb1.block w.heap.size (by simp; omega)).trans b1
  have q2 := (hb1.block (w.heap.size + 1) (by simp)).trans b2
  obtain ⟨k0, k1, _, _⟩ := pair_cells q1
  clear b1 b2 z0 z1 HC hb1
  go_wp2_with fail
  refine (HZ _ hb).mono ?_
  rintro x w2 ⟨A1, c1, A2, c2, rfl, HA1, HA2, hb2⟩
  have hal := (Below.refl w2.heap.size w2).alloc (Nat.le_refl _) (.cells #[.slice A1 n c1, .slice A2 N c2] 40)
  have hbd := heap_alloc_new w2 (.cells #[.slice A1 n c1, .slice A2 N c2] 40)
  have HA1' := Lib.hid (HA1.alloc (.cells #[.slice A1 n c1, .slice A2 N c2] 40))
  have HA2' := Lib.hid (HA2.alloc (.cells #[.slice A1 n c1, .slice A2 N c2] 40))
  have hb1' := hb2.trans (hal.mono hb2.size)
  obtain ⟨W5, hW5⟩ : ∃ W5, w2.alloc (.cells #[.slice A1 n c1, .slice A2 N c2] 40) = W5 := ⟨_, rfl⟩
  rw [hW5] at hbd HA1' HA2' hb1'
  have HW5 := Lib.hid hW5
  have HB1 := Lib.hid hb1'
  have HBD := Lib.hid hbd
  have hz2 := hb2.size
  have HQ1 := Lib.hid q1
  have HQ2 := Lib.hid q2
  have HBW := Lib.hid hb
  obtain ⟨p0, p1', _, _⟩ := pair_cells ((hb1'.block w.heap.size (by omega)).trans q1)
  clear k0 k1 q1 q2 hb hb2 hal HZ hW5 hbd hb1' HA1 HA2
  go_upto_region 5 with fail
  rw [HW5.out]
  go_wp2_with fail
  go_loopw [30] (fun v wr => ∃ q : Nat, v = .int .i64 (q : Int) ∧ q ≤ m ∧ Hid (OwnI wr w1.heap.size 2 A2 c2 (scat (goesE xs es) N ((es.map (·.v)).take q))) ∧ Hid (OwnI wr w1.heap.size 3 A1 c1 xs) ∧ Hid (wr.heap[w2.heap.size]? = some (.cells #[.slice A1 n c1, .slice A2 N c2] 40 (0, 0))) ∧ Hid (Below w1.heap.size w1 wr)) (fun v _ => m - (intOf v).toNat)
  case atStart => exact ⟨0, rfl, Nat.zero_le _, by unfold Hid; rw [List.take_zero, scat_nil]; exact HA2'.out, HA1', HBD, HB1⟩
  case round =>
    clear p0 p1'
    obtain ⟨q, rfl, hq, HO2, HO1, HD, HB⟩ := hrel
    have hszr := HB.out.size
    obtain ⟨k0, k1, _, _⟩ := pair_cells ((HB.out.block w.heap.size (by omega)).trans HQ1.out)
    obtain ⟨d0, d1, _, _⟩ := pair_cells HD.out
    have hbr := HBW.out.trans (HB.out.mono (by omega))
    by_cases hlt : q < m
    · obtain ⟨b2, off2, y, rfl, hb2, HY, hc0, hc1, iy, hy1, hy2, hy3, hy4⟩ := HV.out.at_ hlt
      have hym := List.mem_of_getElem? HY.out
      obtain ⟨hat, hn0, hnN⟩ := HIN.out y hym
      have hc2 : wr.cell? ⟨b2, off2 + q * 2, none⟩ = some (.slice y.A y.n y.c) := by rw [Nat.mul_comm q 2]; exact (hbr.cell (p := ⟨b2, off2 + 2 * q, none⟩) hb2).trans hc0
      have hc3 : wr.cell? ⟨b2, off2 + q * 2 + 1, none⟩ = some (.int .i64 y.v) := by rw [Nat.mul_comm q 2]; exact (hbr.cell (p := ⟨b2, off2 + 2 * q + 1, none⟩) hb2).trans hc1
      have HA := fun W (hb : Below w.heap.size w W) => HAT y W hb iy hy1
      rw [hat] at HA
      dsimp only at HA
      obtain ⟨j, hj⟩ : ∃ j : Nat, numR xs y.cs = (j : Int) := ⟨(numR xs y.cs).toNat, by omega⟩
      rw [hj] at HA hnN
      have hjN : j < N := by omega
      have hgo : goesE xs es q = j := by unfold goesE; rw [HY.out]; simp [hj]
      have hwt := hbr.alloc hbr.size (.cells #[.slice y.A y.n y.c, .int .i64 y.v] 53)
      have hwr := (Below.refl wr.heap.size wr).alloc (Nat.le_refl _) (.cells #[.slice y.A y.n y.c, .int .i64 y.v] 53)
      have htb := heap_alloc_new wr (.cells #[.slice y.A y.n y.c, .int .i64 y.v] 53)
      obtain ⟨x0, hx0⟩ : ∃ x0, (scat (goesE xs es) N ((es.map (·.v)).take q))[goesE xs es q]? = some x0 := ⟨_, scat_at _ (by rw [hgo]; exact hjN)⟩
      have hstep := scat_step (V := es.map (·.v)) (k := q) (v := y.v) (by rw [List.getElem?_map, HY.out]; rfl) hx0
      rw [hgo] at hx0 hstep
      have hqm : (q : Int) < (m : Int) := by omega
      have hq0 : (0 : Int) ≤ (q : Int) := by omega
      have hj0 : (0 : Int) ≤ (j : Int) := by omega
      have hj3 : (j : Int) < (N : Int) := by omega
      have HX0 := Lib.hid hx0
      have HST := Lib.hid hstep
      have HWR := Lib.hid hwr
      have HTB := Lib.hid htb
      have kp0 := fun o => cellPast o k0
      obtain ⟨th0, th1, _, _⟩ := pair_cells htb
      clear hat hn0 hnN hj hgo hx0 hstep hc0 hc1 iy hwr htb HY
      go_wp2_with fail
      refine (HA _ hwt).mono ?_
      rintro x w6 ⟨rfl, hb6⟩
      have hbw6 := HWR.out.trans (hb6.mono HWR.out.size)
      have hszw := hbw6.size
      have hD6 := (hbw6.block w2.heap.size (lt_of_heap HD.out)).trans HD.out
      have hT6 := (hb6.block wr.heap.size (by simp)).trans HTB.out
      have hO6 := HO2.out.below hbw6 (Nat.le_refl _)
      have hA6 := HO1.out.below hbw6 (Nat.le_refl _)
      have hB6 := HB.out.trans (hbw6.mono hszr)
      obtain ⟨k0', k1', _, _⟩ := pair_cells ((hB6.block w.heap.size (by omega)).trans HQ1.out)
      obtain ⟨e0, e1, _, _⟩ := pair_cells hD6
      obtain ⟨t0, t1, _, _⟩ := pair_cells hT6
      rcases hO6.1.2 with ⟨_, hzz⟩ | ⟨gv, cap, cur, hA2, hgb, _, _⟩
      · rw [scat_length] at hzz; omega
      obtain rfl : A2 = some ⟨gv, 0, none⟩ := by injection hA2
      obtain ⟨hcz, hfz⟩ := hO6.cell_ HX0.out
      have hset := hO6.set_ j (wrap64 (x0 + y.v)) (wrap64_range _)
      rw [← HST.out] at hset
      have HS := Lib.hid hset
      have HS1 := Lib.hid (hA6.other_ hO6 (by decide) j (.int .i64 (wrap64 (x0 + y.v))))
      have hnev := hO6.ne hD6 (by decide)
      have HS2 : Hid ((w6.setCell ⟨gv, j, none⟩ (.int .i64 (wrap64 (x0 + y.v)))).heap[w2.heap.size]? = some (.cells #[.slice A1 n c1, .slice (some ⟨gv, 0, none⟩) N c2] 40 (0, 0))) := (Below.heap_setCell _ ⟨gv, j, none⟩ _ _ (fun e => hnev (by rw [e]))).trans hD6
      have HS3 := Lib.hid (hB6.setCell (p := ⟨gv, j, none⟩) hgb (.int .i64 (wrap64 (x0 + y.v))))
      clear hset hO6 hA6 hD6 hT6 hB6 hb6 k0 k1 d0 d1 hbw6 kp0 th0 th1
      go_wp2_with fail
      go_region
      all_goals
        obtain ⟨w7, hw7⟩ : ∃ w7, w6.setCell ⟨gv, j, none⟩ (.int .i64 (wrap64 (x0 + y.v))) = w7 := ⟨_, rfl⟩
        rw [hw7] at HS HS1 HS2 HS3 ⊢
        clear hw7 k0' k1' e0 e1 t0 t1 hcz hfz
        go_wp2_with fail
        go_roundw
        case rel => exact ⟨q + 1, by go_num, by omega, Lib.hid HS.out.drew, Lib.hid HS1.out.drew, HS2, Lib.hid HS3.out.drew⟩
        case measure => simp [intOf]; omega
    · obtain rfl : q = m := by omega
      have hrv := (HB.out.block (w.heap.size + 1) (by omega)).trans HQ2.out
      obtain ⟨v0, v1, vf0, vf1⟩ := pair_cells hrv
      have HRV := Lib.hid hrv
      clear hrv
      go_wp2_with fail
      have hres := denseRes wr (w.heap.size + 1) _ _ (.slice A1 n c1) (.slice A2 N c2) HRV.out
      obtain ⟨s0, s1, _, _⟩ := pair_cells hres.1
      obtain ⟨wz, hwz⟩ : ∃ wz, (wr.setCell ⟨w.heap.size + 1, 0, none⟩ (.slice A1 n c1)).setCell ⟨w.heap.size + 1, 1, none⟩ (.slice A2 N c2) = wz := ⟨_, rfl⟩
      rw [hwz] at hres s0 s1 ⊢
      have hfull : scat (goesE xs es) N ((es.map (·.v)).take q) = denseV xs es := by rw [HDV.out, List.take_of_length_le (by rw [List.length_map]; exact Nat.le_of_eq HEL.out)]
      have hO2 := HO2.out
      rw [hfull] at hO2
      refine bodyPost_ret (v := .tuple #[.agg #[.slice A1 n c1, .slice A2 N c2], .int .i64 0]) (by simp [results, Try.results40, go_sem, s0, s1]) rfl ⟨A1, c1, A2, c2, rfl, ?_, ?_, hbr.grown hres.2 hbr.size (fun k hk => by injection hk with hk; omega)⟩
      · exact OwnI.mono (w := wz) (base := w1.heap.size) ⟨HO1.out.1.kept hres.2 (rows_ne HO1.out.1 HRV.out (by decide)), HO1.out.2⟩ (by omega)
      · exact OwnI.mono (w := wz) (base := w1.heap.size) ⟨hO2.1.kept hres.2 (rows_ne hO2.1 HRV.out (by decide)), hO2.2⟩ (by omega)
end Go.Proofs.Yteepiifhmbcciaa
