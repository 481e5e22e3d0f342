/- Sorted, and joined: places and numbers alone. -/
import Derived.Test.YtpfabbapfmfmmaaG12
import Derived.Test.YtpfabbapfmfmmaaG13
import Derived.Test.YtpfabbapfmfmmaaG6
namespace Go.Proofs.Ytpfabbapfmfmmaa
open Go.RowKit

abbrev KeyT := List Int × Int × Nat
/-- keys of places of N modes, with numbers that fit -/
def KeyOk (N : Nat) (l : List KeyT) : Prop := ∀ t ∈ l, t.1.length = N ∧ t.2.2 = N ∧ -9223372036854775808 ≤ t.2.1 ∧ t.2.1 ≤ 9223372036854775807
def layK (l : List KeyT) : List Ent := l.map fun t => ⟨none, t.2.2, 0, t.1, t.2.1⟩
theorem layK_key (l : List KeyT) : (layK l).map keyE = l := by
  unfold layK
  rw [List.map_map]
  exact List.map_id l
theorem sortK_perm (os : List Int) (l : List KeyT) : (sortK os l).Perm l := by
  have h := (sortE_perm os (layK l)).map keyE
  rwa [sortE_key, layK_key] at h
def KOrd (os : List Int) (l : List KeyT) : Prop := l.Pairwise fun x y => cmpE os x.1 y.1 ≤ 0
def KRise (os : List Int) (l : List KeyT) : Prop := l.Pairwise fun x y => cmpE os x.1 y.1 < 0
theorem sortK_ord (os : List Int) (l : List KeyT) : KOrd os (sortK os l) := by
  have h : InOrd os (sortE os (layK l)) := sortE_ord os (layK l)
  have e : sortK os l = (sortE os (layK l)).map keyE := by rw [sortE_key, layK_key]
  unfold KOrd
  rw [e, List.pairwise_map]
  exact h
theorem cmpE_zero {os a b : List Int} : cmpE os a b = 0 ↔ ∀ m ∈ os, pickE a m = pickE b m := by
  induction os with
  | nil => simp [cmpE]
  | cons m os ih =>
    unfold cmpE
    by_cases h : cmpI (pickE a m) (pickE b m) = 0
    · rw [if_pos h, ih]
      have := cmpI_zero.1 h
      simp [this]
    · rw [if_neg h]
      simp only [h, List.mem_cons, forall_eq_or_imp, false_iff, not_and]
      intro h2
      exact absurd (cmpI_zero.2 h2) h
theorem cmpE_eq {N : Nat} {os a b : List Int} (ho : os.Perm (iotaL N)) (ha : a.length = N) (hb : b.length = N) (h : cmpE os a b = 0) : a = b := by
  have h1 := cmpE_zero.1 h
  apply List.ext_getElem (by omega)
  intro k hk hk2
  have hm : (k : Int) ∈ os := ho.mem_iff.2 (by unfold iotaL; exact List.mem_map.2 ⟨k, List.mem_range.2 (by omega), rfl⟩)
  have := h1 _ hm
  unfold pickE at this
  simpa [List.getD, List.getElem?_eq_getElem hk, List.getElem?_eq_getElem hk2] using this
theorem cmpE_self (os a : List Int) : cmpE os a a = 0 := cmpE_zero.2 fun _ _ => rfl

/-- the sum of the numbers of those whose place has P -/
def totP (P : List Int → Bool) : List KeyT → Int
  | [] => 0
  | t :: l => (if P t.1 = true then t.2.1 else 0) + totP P l
theorem totP_append (P : List Int → Bool) (a b : List KeyT) : totP P (a ++ b) = totP P a + totP P b := by
  induction a with
  | nil => simp [totP]
  | cons t l ih => simp only [List.cons_append, totP, ih]; omega
theorem totP_perm (P : List Int → Bool) {a b : List KeyT} (h : a.Perm b) : totP P a = totP P b := by
  induction h with
  | nil => rfl
  | cons x _ ih => simp only [totP, ih]
  | swap x y l => simp only [totP]; omega
  | trans _ _ ih1 ih2 => rw [ih1, ih2]
theorem totP_one (P : List Int → Bool) (t : KeyT) : totP P [t] = if P t.1 = true then t.2.1 else 0 := by simp [totP]

theorem joinStep_tot (P : List Int → Bool) (L : List KeyT) (t : KeyT) : wrap64 (totP P (joinStep L t)) = wrap64 (totP P (L ++ [t])) := by
  rcases List.eq_nil_or_concat L with rfl | ⟨L0, z, rfl⟩
  · rfl
  · rw [List.concat_eq_append]
    by_cases h : z.1 = t.1
    · rw [joinStep_same h, totP_append, totP_append, totP_append, totP_one, totP_one, totP_one]
      simp only [h]
      by_cases hp : P t.1 = true
      · rw [if_pos hp, if_pos hp, if_pos hp, wrap_add_r]; congr 1; omega
      · rw [if_neg hp, if_neg hp, if_neg hp]; congr 1; omega
    · rw [joinStep_other h]
theorem joinK_tot (P : List Int → Bool) (l : List KeyT) : wrap64 (totP P (joinK l)) = wrap64 (totP P l) := by
  induction l using list_snoc_ind with
  | h0 => rfl
  | hs l t ih =>
    rw [joinK_snoc, joinStep_tot, totP_append, totP_append, ← wrap_add_l, ih, wrap_add_l]
theorem joinStep_ok {N : Nat} {L : List KeyT} {t : KeyT} (h : KeyOk N L) (ht : KeyOk N [t]) : KeyOk N (joinStep L t) := by
  rcases List.eq_nil_or_concat L with rfl | ⟨L0, z, rfl⟩
  · exact ht
  · rw [List.concat_eq_append] at h ⊢
    by_cases e : z.1 = t.1
    · rw [joinStep_same e]
      intro q hq
      rcases List.mem_append.1 hq with hq | hq
      · exact h q (List.mem_append_left _ hq)
      · rw [List.mem_singleton.1 hq]
        have hz := h z (by simp)
        exact ⟨hz.1, hz.2.1, wrap64_bounds _⟩
    · rw [joinStep_other e]
      intro q hq
      rcases List.mem_append.1 hq with hq | hq
      · exact h q hq
      · exact ht q hq
theorem joinK_ok {N : Nat} {l : List KeyT} (h : KeyOk N l) : KeyOk N (joinK l) := by
  induction l using list_snoc_ind with
  | h0 => exact fun t ht => by cases ht
  | hs l t ih =>
    rw [joinK_snoc]
    exact joinStep_ok (ih fun q hq => h q (List.mem_append_left _ hq)) fun q hq => h q (List.mem_append_right _ hq)
theorem joinStep_mem (L : List KeyT) (t : KeyT) (p : List Int) : (∃ q ∈ joinStep L t, q.1 = p) ↔ (∃ q ∈ L, q.1 = p) ∨ t.1 = p := by
  rcases List.eq_nil_or_concat L with rfl | ⟨L0, z, rfl⟩
  · simp [joinStep_none]
  · rw [List.concat_eq_append]
    by_cases e : z.1 = t.1
    · rw [joinStep_same e]
      constructor
      · rintro ⟨q, hq, rfl⟩
        rcases List.mem_append.1 hq with hq | hq
        · exact .inl ⟨q, List.mem_append_left _ hq, rfl⟩
        · rw [List.mem_singleton.1 hq]; exact .inr e.symm
      · rintro (⟨q, hq, rfl⟩ | rfl)
        · rcases List.mem_append.1 hq with hq | hq
          · exact ⟨q, List.mem_append_left _ hq, rfl⟩
          · rw [List.mem_singleton.1 hq]; exact ⟨(z.1, wrap64 (z.2.1 + t.2.1), z.2.2), by simp, rfl⟩
        · exact ⟨(z.1, wrap64 (z.2.1 + t.2.1), z.2.2), by simp, e⟩
    · rw [joinStep_other e]
      constructor
      · rintro ⟨q, hq, rfl⟩
        rcases List.mem_append.1 hq with hq | hq
        · exact .inl ⟨q, hq, rfl⟩
        · rw [List.mem_singleton.1 hq]; exact .inr rfl
      · rintro (⟨q, hq, rfl⟩ | rfl)
        · exact ⟨q, List.mem_append_left _ hq, rfl⟩
        · exact ⟨t, by simp, rfl⟩
theorem joinK_mem (l : List KeyT) (p : List Int) : (∃ q ∈ joinK l, q.1 = p) ↔ ∃ q ∈ l, q.1 = p := by
  induction l using list_snoc_ind with
  | h0 => exact Iff.rfl
  | hs l t ih =>
    rw [joinK_snoc, joinStep_mem, ih]
    constructor
    · rintro (⟨q, hq, rfl⟩ | rfl)
      · exact ⟨q, List.mem_append_left _ hq, rfl⟩
      · exact ⟨t, by simp, rfl⟩
    · rintro ⟨q, hq, rfl⟩
      rcases List.mem_append.1 hq with hq | hq
      · exact .inl ⟨q, hq, rfl⟩
      · rw [List.mem_singleton.1 hq]; exact .inr rfl
theorem KRise.last {os : List Int} {L0 : List KeyT} {z q : KeyT} (h : KRise os (L0 ++ [z])) (hq : q ∈ L0 ++ [z]) : cmpE os q.1 z.1 ≤ 0 := by
  rcases List.mem_append.1 hq with hq | hq
  · have := (List.pairwise_append.1 h).2.2 q hq z (by simp)
    omega
  · rw [List.mem_singleton.1 hq, cmpE_self]; exact Int.le_refl _
theorem joinK_rise {N : Nat} {os : List Int} (ho : os.Perm (iotaL N)) {l : List KeyT} (hk : KeyOk N l) (h : KOrd os l) : KRise os (joinK l) := by
  induction l using list_snoc_ind with
  | h0 => exact List.Pairwise.nil
  | hs l t ih =>
    have hkl : KeyOk N l := fun q hq => hk q (List.mem_append_left _ hq)
    have ht := (hk t (by simp)).1
    have hO := List.pairwise_append.1 h
    have hr := ih hkl hO.1
    have hjk := joinK_ok hkl
    have hle : ∀ q ∈ joinK l, cmpE os q.1 t.1 ≤ 0 := fun q hq => by
      obtain ⟨s, hs, e⟩ := (joinK_mem l q.1).1 ⟨q, hq, rfl⟩
      rw [← e]
      exact hO.2.2 s hs t (by simp)
    rw [joinK_snoc]
    generalize joinK l = L at hr hle hjk
    rcases List.eq_nil_or_concat L with rfl | ⟨L0, z, rfl⟩
    · exact List.pairwise_singleton _ _
    · rw [List.concat_eq_append] at hr hle hjk ⊢
      by_cases e : z.1 = t.1
      · rw [joinStep_same e]
        have := List.pairwise_append.1 hr
        exact List.pairwise_append.2 ⟨this.1, List.pairwise_singleton _ _, fun a ha b hb => by rw [List.mem_singleton.1 hb]; exact this.2.2 a ha z (by simp)⟩
      · rw [joinStep_other e]
        refine List.pairwise_append.2 ⟨hr, List.pairwise_singleton _ _, fun q hq b hb => ?_⟩
        rw [List.mem_singleton.1 hb]
        have h1 := hle q hq
        have h2 := hle z (by simp)
        have h3 := hr.last hq
        have hne : cmpE os q.1 t.1 ≠ 0 := fun h0 => e (by
          have e1 := cmpE_eq ho (hjk q hq).1 ht h0
          rw [e1] at h3
          have := cmpE_neg os t.1 z.1
          exact (cmpE_eq ho (hjk z (by simp)).1 ht (by omega)))
        omega
theorem KRise.tot {os : List Int} {l : List KeyT} (h : KRise os l) {t : KeyT} (ht : t ∈ l) : totP (fun q => decide (q = t.1)) l = t.2.1 := by
  induction l with
  | nil => cases ht
  | cons x l ih =>
    have hx := List.pairwise_cons.1 h
    simp only [totP]
    have hzero : ∀ (p : List Int) (m : List KeyT), (∀ y ∈ m, y.1 ≠ p) → totP (fun q => decide (q = p)) m = 0 := by
      intro p m
      induction m with
      | nil => intro _; rfl
      | cons y m ihm =>
        intro hm
        simp only [totP]
        rw [if_neg (by simpa using hm y (by simp)), ihm (fun z hz => hm z (by simp [hz]))]
        rfl
    rcases List.mem_cons.1 ht with rfl | ht
    · rw [if_pos (by simp), hzero _ _ (fun y hy e => by have := hx.1 y hy; rw [e, cmpE_self] at this; omega)]
      omega
    · have := hx.1 t ht
      rw [if_neg (by
        simp only [decide_eq_true_eq]
        intro e
        rw [e, cmpE_self] at this
        omega), ih hx.2 ht]
      omega
theorem rise_ext {α : Type} {R : α → α → Prop} (asym : ∀ a b, R a b → R b a → False) : ∀ {l m : List α}, l.Pairwise R → m.Pairwise R → (∀ a, a ∈ l ↔ a ∈ m) → l = m
  | [], [], _, _, _ => rfl
  | [], y :: m, _, _, h => absurd ((h y).2 (by simp)) (by simp)
  | x :: l, [], _, _, h => absurd ((h x).1 (by simp)) (by simp)
  | x :: l, y :: m, hl, hm, h => by
    have hx := List.pairwise_cons.1 hl
    have hy := List.pairwise_cons.1 hm
    have e : x = y := by
      rcases List.mem_cons.1 ((h x).1 (by simp)) with e | e
      · exact e
      · rcases List.mem_cons.1 ((h y).2 (by simp)) with e2 | e2
        · exact e2.symm
        · exact (asym _ _ (hy.1 x e) (hx.1 y e2)).elim
    subst e
    have := rise_ext asym hx.2 hy.2 (fun a => by
      constructor
      · intro ha
        rcases List.mem_cons.1 ((h a).1 (by simp [ha])) with e | e
        · subst e; exact (asym _ _ (hx.1 a ha) (hx.1 a ha)).elim
        · exact e
      · intro ha
        rcases List.mem_cons.1 ((h a).2 (by simp [ha])) with e | e
        · subst e; exact (asym _ _ (hy.1 a ha) (hy.1 a ha)).elim
        · exact e)
    rw [this]
theorem KRise.asym {os : List Int} (a b : KeyT) (h : cmpE os a.1 b.1 < 0) (h2 : cmpE os b.1 a.1 < 0) : False := by
  have := cmpE_neg os a.1 b.1
  omega
theorem KeyOk.perm {N : Nat} {a b : List KeyT} (h : KeyOk N a) (hp : b.Perm a) : KeyOk N b := fun t ht => h t (hp.mem_iff.1 ht)
theorem wrap_fits {v : Int} (h : -9223372036854775808 ≤ v ∧ v ≤ 9223372036854775807) : wrap64 v = v := by unfold wrap64; omega
/-- what is joined: of each place once the sum -/
theorem joined_mem {N : Nat} {os : List Int} (ho : os.Perm (iotaL N)) {K : List KeyT} (hk : KeyOk N K) (t : KeyT) :
    t ∈ joinK (sortK os K) ↔ (∃ s ∈ K, s.1 = t.1) ∧ t.2.1 = wrap64 (totP (fun q => decide (q = t.1)) K) ∧ t.2.2 = N := by
  have hks := hk.perm (sortK_perm os K)
  have hr := joinK_rise ho hks (sortK_ord os K)
  have hjk := joinK_ok hks
  have hval : ∀ u ∈ joinK (sortK os K), u.2.1 = wrap64 (totP (fun q => decide (q = u.1)) K) := fun u hu => by
    have h1 := hr.tot hu
    have h2 := joinK_tot (fun q => decide (q = u.1)) (sortK os K)
    rw [h1, totP_perm _ (sortK_perm os K), wrap_fits (hjk u hu).2.2] at h2
    exact h2
  constructor
  · intro h
    obtain ⟨s, hs, e⟩ := (joinK_mem _ t.1).1 ⟨t, h, rfl⟩
    exact ⟨⟨s, (sortK_perm os K).mem_iff.1 hs, e⟩, hval t h, (hjk t h).2.1⟩
  · rintro ⟨⟨s, hs, e⟩, hv, hn⟩
    obtain ⟨u, hu, e2⟩ := (joinK_mem _ t.1).2 ⟨s, (sortK_perm os K).mem_iff.2 hs, e⟩
    have h3 := hval u hu
    have h4 := (hjk u hu).2.1
    have : u = t := by
      obtain ⟨u1, u2, u3⟩ := u
      obtain ⟨t1, t2, t3⟩ := t
      dsimp only at e2 h3 h4 hv hn
      subst e2
      rw [h3, hv, h4, hn]
    rw [← this]; exact hu
theorem KRise.sorted {N : Nat} {oa ob : List Int} (hb : ob.Perm (iotaL N)) {J : List KeyT} (hk : KeyOk N J) (h : KRise oa J) : KRise ob (sortK ob J) := by
  have hp := sortK_perm ob J
  have hne : (sortK ob J).Pairwise fun x y => x.1 ≠ y.1 := by
    have h1 : J.Pairwise fun x y => x.1 ≠ y.1 := h.imp (fun {a b} hab e => by rw [e, cmpE_self] at hab; omega)
    exact hp.symm.pairwise h1 (fun hxy e => hxy e.symm)
  have hks := hk.perm hp
  refine ((sortK_ord ob J).and hne).imp_of_mem (fun {a b} ha hb' hab => ?_)
  have h0 : cmpE ob a.1 b.1 ≠ 0 := fun h0 => hab.2 (cmpE_eq hb (hks a ha).1 (hks b hb').1 h0)
  omega
/-- joined by one order, and sorted by another one, is joined by the other one -/
theorem join_sort {N : Nat} {oa ob : List Int} (ha : oa.Perm (iotaL N)) (hb : ob.Perm (iotaL N)) {K : List KeyT} (hk : KeyOk N K) : sortK ob (joinK (sortK oa K)) = joinK (sortK ob K) := by
  have hka := hk.perm (sortK_perm oa K)
  have hra := joinK_rise ha hka (sortK_ord oa K)
  have hkb := hk.perm (sortK_perm ob K)
  have hrb := joinK_rise hb hkb (sortK_ord ob K)
  refine rise_ext (R := fun x y : KeyT => cmpE ob x.1 y.1 < 0) KRise.asym (KRise.sorted hb (joinK_ok hka) hra) hrb fun t => ?_
  rw [(sortK_perm ob _).mem_iff, joined_mem ha hk, joined_mem hb hk]
end Go.Proofs.Ytpfabbapfmfmmaa
/- coo.Same: whether two lists may be, and are the same. -/
namespace Go.Proofs.Ytpfabbapfmfmmaa
open Go.RowKit

/-- an entry's place and number -/
def keyV (x : Ent) : List Int × Int := (x.cs, x.v)
theorem two_ent (w : World) (u v : Value) (o : Obj) : (w.alloc (.cells #[u, v] 37)).heap[w.heap.size]? = some (.cells #[u, v] 37 (0, 0)) ∧ ((w.alloc (.cells #[u, v] 37)).alloc o).heap[w.heap.size]? = some (.cells #[u, v] 37 (0, 0)) := by
  have h := heap_alloc_new w (.cells #[u, v] 37)
  exact ⟨h, (Below.heap_alloc _ o _ (lt_of_heap h)).trans h⟩

set_option maxRecDepth 100000 in
set_option maxHeartbeats 1000000 in
theorem same1_any (A A2 : Option Addr) (n n2 c c2 : Nat) (cs ds : List Int) (v u : Int) (w : World) (h : Ints w w.heap.size A n cs) (h2 : Ints w w.heap.size A2 n2 ds) (hn : n ≤ 100000) (hn2 : n2 ≤ 9223372036854775807) (R : Bool) (HR : Hid (decide ((cs, v) = (ds, u)) = R)) :
    Calls Try.prog 56 #[.agg #[.slice A n c, .int .i64 v], .agg #[.slice A2 n2 c2, .int .i64 u]] w fun e w' => e = .returned (.bool R) ∧ Below w.heap.size w w' := by
  have hB1 := (Below.refl w.heap.size w).alloc (Nat.le_refl _) (.cells #[.slice A n c, .int .i64 v] 37)
  have hB2 := hB1.alloc hB1.size (.cells #[.slice A2 n2 c2, .int .i64 u] 37)
  have i1 := (h.below hB2).more hB2.size
  have i2 := (h2.below hB2).more hB2.size
  have t1 := (two_ent w (.slice A n c) (.int .i64 v) (.cells #[.slice A2 n2 c2, .int .i64 u] 37)).2
  have t2 := (two_ent (w.alloc (.cells #[.slice A n c, .int .i64 v] 37)) (.slice A2 n2 c2) (.int .i64 u) (.cells #[] 37)).1
  rw [World.size_alloc] at t2
  have HEQ := equalI_bel A A2 n n2 c c2 cs ds _ i1 i2 hn hn2
  obtain ⟨k0, k1, _, _⟩ := pair_cells t1
  obtain ⟨m0, m1, _, _⟩ := pair_cells t2
  clear t1 t2 i1 i2 hB1
  by_cases hv : v = u
  · subst hv
    have e1 : (v == v) = true := by simp
    have HR2 : Hid (decide (cs = ds) = R) := by unfold Hid; rw [← HR.out]; simp
    rw [HR2.out] at HEQ
    go_enter Try.func56, Try.ntmps56
    go_wp2_with fail
    refine HEQ.mono ?_
    rintro e w3 ⟨rfl, hb3⟩
    have hb := hB2.trans (hb3.mono hB2.size)
    go_wp2_with fail
    go_ret
    exact ⟨rfl, hb⟩
  · have e1 : (v == u) = false := by simpa using hv
    have HR2 : Hid (false = R) := by unfold Hid; rw [← HR.out]; simp [hv]
    clear hv HEQ
    go_enter Try.func56, Try.ntmps56
    go_wp2_with fail
    go_ret
    exact ⟨by rw [← HR2.out]; rfl, hB2⟩

theorem take_eq_of {α : Type} [DecidableEq α] {xs ys : List α} {k n : Nat} (hl : xs.length = n) (hl2 : ys.length = n) (hk : n ≤ k) (h : xs.take k = ys.take k) : xs = ys := by
  rwa [List.take_of_length_le (by omega), List.take_of_length_le (by omega)] at h

set_option maxRecDepth 100000 in
set_option maxHeartbeats 4000000 in
theorem equalE_any (A B : Option Addr) (n m c d : Nat) (es fs : List Ent) (w : World) (h : Ents w w.heap.size A n es) (h2 : Ents w w.heap.size B m fs) (hn : n ≤ 100000) (hm : m ≤ 9223372036854775807) (hes : ∀ x ∈ es, x.n ≤ 100000) (R : Bool) (HR : Hid (decide (es.map keyV = fs.map keyV) = R)) :
    Calls Try.prog 55 #[.slice A n c, .slice B m d, .func (.func 56) #[] #[]] w fun e w' => e = .returned (.bool R) ∧ Below w.heap.size w w' := by
  have HL : Hid (es.length = n) := h.1
  have HL2 : Hid (fs.length = m) := h2.1
  have HES := Lib.hid hes
  clear hes
  by_cases hnm : n = m
  · subst hnm
    have e1 : ((n : Int) == (n : Int)) = true := by simp
    have e2 : ((n : Int) != (n : Int)) = false := by simp
    go_enter Try.func55, Try.ntmps55
    go_wp2
    go_loopw [17] (fun i wr => ∃ k : Nat, k ≤ n ∧ i = .int .i64 k ∧ Hid ((es.map keyV).take k = (fs.map keyV).take k) ∧ Below w.heap.size w wr) (fun i _ => n - (intOf i).toNat)
    case atStart => exact ⟨0, Nat.zero_le _, rfl, rfl, Below.refl _ _⟩
    case round =>
      obtain ⟨k, hk, rfl, HT, hT⟩ := hrel
      by_cases hlt : k < n
      · obtain ⟨b, off, x, rfl, hbb, HX, hc0, hc1, ix, hx1, hx2, hx3, hx4⟩ := (h.below hT).at_ hlt
        obtain ⟨b2, off2, y, rfl, hbb2, HY, hd0, hd1, iy, hy1, hy2, hy3, hy4⟩ := (h2.below hT).at_ hlt
        have hxn := HES.out x (List.mem_of_getElem? HX.out)
        obtain ⟨xA, xn, xc, xcs, xv⟩ := x
        obtain ⟨yA, yn, yc, ycs, yv⟩ := y
        dsimp only at hc0 hc1 hd0 hd1 ix iy hx1 hx2 hx3 hx4 hy1 hy2 hy3 hy4 hxn
        have hc2 : wr.cell? ⟨b, off + k * 2, none⟩ = some (.slice xA xn xc) := by rw [Nat.mul_comm k 2]; exact hc0
        have hc3 : wr.cell? ⟨b, off + k * 2 + 1, none⟩ = some (.int .i64 xv) := by rw [Nat.mul_comm k 2]; exact hc1
        have hd2 := fun o => cellPast o (show wr.cell? ⟨b2, off2 + k * 2, none⟩ = some (.slice yA yn yc) by rw [Nat.mul_comm k 2]; exact hd0)
        have hd3 := fun o => cellPast o (show wr.cell? ⟨b2, off2 + k * 2 + 1, none⟩ = some (.int .i64 yv) by rw [Nat.mul_comm k 2]; exact hd1)
        have HXT := Lib.hid (take_succ_of (xs := es.map keyV) (k := k) (x := (xcs, xv)) (by rw [List.getElem?_map, HX.out]; rfl))
        have HYT := Lib.hid (take_succ_of (xs := fs.map keyV) (k := k) (x := (ycs, yv)) (by rw [List.getElem?_map, HY.out]; rfl))
        have hB1 := hT.alloc hT.size (.cells #[.slice xA xn xc, .int .i64 xv] 37)
        have hB2 := hB1.alloc hB1.size (.cells #[.slice yA yn yc, .int .i64 yv] 37)
        have hBr1 := (Below.refl wr.heap.size wr).alloc (Nat.le_refl _) (.cells #[.slice xA xn xc, .int .i64 xv] 37)
        have hBr := hBr1.alloc hBr1.size (.cells #[.slice yA yn yc, .int .i64 yv] 37)
        have j1 := ((ix.more hT.size).below hBr).more hBr.size
        have j2 := ((iy.more hT.size).below hBr).more hBr.size
        have t1 := (two_ent wr (.slice xA xn xc) (.int .i64 xv) (.cells #[.slice yA yn yc, .int .i64 yv] 37)).2
        have t2 := (two_ent (wr.alloc (.cells #[.slice xA xn xc, .int .i64 xv] 37)) (.slice yA yn yc) (.int .i64 yv) (.cells #[] 37)).1
        rw [World.size_alloc] at t2
        obtain ⟨k0, k1, _, _⟩ := pair_cells t1
        obtain ⟨m0, m1, _, _⟩ := pair_cells t2
        by_cases hq : (xcs, xv) = (ycs, yv)
        · have HS := same1_any xA yA xn yn xc yc xcs ycs xv yv _ j1 j2 hxn hy1 true (decide_eq_true hq)
          have HN : Hid ((es.map keyV).take (k + 1) = (fs.map keyV).take (k + 1)) := by unfold Hid; rw [HXT.out, HYT.out, HT.out, hq]
          clear hq j1 j2 hBr hBr1 hB1 t1 t2 hc0 hc1 hd0 hd1 ix iy
          go_wp2_with fail
          refine HS.mono ?_
          rintro e w3 ⟨rfl, hb3⟩
          have hbw := hB2.trans (hb3.mono hB2.size)
          clear HS hb3
          go_wp2_with fail
          go_roundw
          case rel => exact ⟨k + 1, by omega, by go_num, HN, hbw⟩
          case measure => simp [intOf]; omega
        · have HS := same1_any xA yA xn yn xc yc xcs ycs xv yv _ j1 j2 hxn hy1 false (decide_eq_false hq)
          have HF : Hid (R = false) := by
            unfold Hid
            rw [← HR.out]
            refine decide_eq_false fun e => hq ?_
            have := congrArg (fun l => l[k]?) e
            simp only [List.getElem?_map, HX.out, HY.out] at this
            exact Option.some.inj this
          clear hq j1 j2 hBr hBr1 hB1 t1 t2 hc0 hc1 hd0 hd1 ix iy
          go_wp2_with fail
          refine HS.mono ?_
          rintro e w3 ⟨rfl, hb3⟩
          have hbw := hB2.trans (hb3.mono hB2.size)
          clear HS hb3
          go_wp2_with fail
          go_ret
          exact ⟨by rw [HF.out]; rfl, hbw⟩
      · have HF : Hid (R = true) := by
          unfold Hid
          rw [← HR.out]
          exact decide_eq_true (take_eq_of (n := n) (by rw [List.length_map]; exact HL.out) (by rw [List.length_map]; exact HL2.out) (by omega) HT.out)
        go_wp2
        go_ret
        exact ⟨by rw [HF.out]; rfl, hT⟩
  · have e1 : ((n : Int) == (m : Int)) = false := by simp; omega
    have e2 : ((n : Int) != (m : Int)) = true := by simp; omega
    have HF : Hid (R = false) := by
      unfold Hid
      rw [← HR.out]
      refine decide_eq_false fun e => hnm ?_
      have := congrArg List.length e
      rwa [List.length_map, List.length_map, HL.out, HL2.out] at this
    clear hnm
    go_enter Try.func55, Try.ntmps55
    go_wp2
    go_ret
    exact ⟨by rw [HF.out]; rfl, Below.refl _ _⟩

/-- whether two lists are the same -/
def sameC (xs ys : List Int) (es fs : List Ent) : Bool := decide (cooF xs es = 0) && decide (xs = ys) && decide (es.map keyV = fs.map keyV)
set_option maxRecDepth 100000 in
set_option maxHeartbeats 4000000 in
theorem cooSame_any (A B A2 B2 : Option Addr) (n c m e n2 c2 m2 e2 : Nat) (xs ys : List Int) (es fs : List Ent) (w : World) (h : Ints w w.heap.size A n xs) (hn : n ≤ 100000) (hv : Ents w w.heap.size B m es) (hm : m ≤ 100000)
   (h2 : Ints w w.heap.size A2 n2 ys) (hn2 : n2 ≤ 9223372036854775807) (hv2 : Ents w w.heap.size B2 m2 fs) (hm2 : m2 ≤ 9223372036854775807) (R : Bool) (HR : Hid (sameC xs ys es fs = R)) :
    Calls Try.prog 25 #[.agg #[.slice A n c, .slice B m e], .agg #[.slice A2 n2 c2, .slice B2 m2 e2]] w fun x w' => x = .returned (.bool R) ∧ Below w.heap.size w w' := by
  have z0 := (Below.refl w.heap.size w).alloc (Nat.le_refl _) (.cells #[.slice A n c, .slice B m e] 25)
  have z1 := z0.alloc z0.size (.cells #[.slice A2 n2 c2, .slice B2 m2 e2] 25)
  have b1 := zf_two w (.cells #[.slice A n c, .slice B m e] 25) (.cells #[.slice A2 n2 c2, .slice B2 m2 e2] 25)
  have b2 := zf_snd w (.cells #[.slice A2 n2 c2, .slice B2 m2 e2] 25) (.cells #[.slice A n c, .slice B m e] 25)
  have HC := fun W (hb : Below w.heap.size w W) => cooCheck_any A B n c m e xs es W ((h.below hb).more hb.size) (by omega) ((hv.below hb).more hb.size) (by omega)
  have HQ := fun W (hb : Below w.heap.size w W) => equalI_bel A A2 n n2 c c2 xs ys W ((h.below hb).more hb.size) ((h2.below hb).more hb.size) hn hn2
  obtain ⟨E, hE⟩ : ∃ E, cooF xs es = E := ⟨_, rfl⟩
  rw [hE] at HC
  by_cases h0 : E = 0
  · subst h0
    have hyl : ∀ y ∈ es, y.n ≤ 100000 := fun y hy => by
      have := key_len hE (fun y hy => (hv.2.1 y hy).1.1) y hy
      rw [this, h.1]; exact hn
    have HCE := Lib.hid hE
    by_cases hxy : xs = ys
    · have HF := fun W (hb : Below w.heap.size w W) => equalE_any B B2 m m2 e e2 es fs W ((hv.below hb).more hb.size) ((hv2.below hb).more hb.size) hm hm2 hyl R (by unfold Hid; rw [← HR.out]; unfold sameC; rw [decide_eq_true HCE.out, decide_eq_true hxy]; rfl)
      rw [decide_eq_true hxy] at HQ
      clear hE hxy h hv h2 hv2 hyl
      go_enter Try.func25, Try.ntmps25
      go_wp2_with fail
      refine (HC _ z1).mono ?_
      rintro x w1 ⟨rfl, hb1⟩
      have hb := z1.trans (hb1.mono z1.size)
      have q1 := (hb1.block w.heap.size (by simp; omega)).trans b1
      have q2 := (hb1.block (w.heap.size + 1) (by simp)).trans b2
      obtain ⟨k0, k1, _, _⟩ := pair_cells q1
      obtain ⟨m0, m1, _, _⟩ := pair_cells q2
      clear hb1 b1 b2 z1 z0
      go_wp2_with fail
      refine (HQ _ hb).mono ?_
      rintro x w2 ⟨rfl, hb2⟩
      have hbb := hb.trans (hb2.mono hb.size)
      obtain ⟨s0, s1, _, _⟩ := pair_cells ((hb2.block w.heap.size (lt_of_heap q1)).trans q1)
      obtain ⟨t0, t1, _, _⟩ := pair_cells ((hb2.block (w.heap.size + 1) (lt_of_heap q2)).trans q2)
      clear hb2 q1 q2 k0 k1 m0 m1 hb
      go_wp2_with fail
      refine (HF _ hbb).mono ?_
      rintro x w3 ⟨rfl, hb3⟩
      have hb4 := hbb.trans (hb3.mono hbb.size)
      clear hb3
      go_wp2_with fail
      go_ret
      exact ⟨rfl, hb4⟩
    · have HF : Hid (R = false) := by unfold Hid; rw [← HR.out]; unfold sameC; rw [decide_eq_false hxy, Bool.and_false, Bool.false_and]
      rw [decide_eq_false hxy] at HQ
      clear hE hxy h hv h2 hv2 hyl
      go_enter Try.func25, Try.ntmps25
      go_wp2_with fail
      refine (HC _ z1).mono ?_
      rintro x w1 ⟨rfl, hb1⟩
      have hb := z1.trans (hb1.mono z1.size)
      have q1 := (hb1.block w.heap.size (by simp; omega)).trans b1
      have q2 := (hb1.block (w.heap.size + 1) (by simp)).trans b2
      obtain ⟨k0, k1, _, _⟩ := pair_cells q1
      obtain ⟨m0, m1, _, _⟩ := pair_cells q2
      clear hb1 b1 b2 z1 z0
      go_wp2_with fail
      refine (HQ _ hb).mono ?_
      rintro x w2 ⟨rfl, hb2⟩
      have hbb := hb.trans (hb2.mono hb.size)
      clear hb2
      go_wp2_with fail
      go_ret
      exact ⟨by rw [HF.out]; rfl, hbb⟩
  · have HF : Hid (R = false) := by unfold Hid; rw [← HR.out]; unfold sameC; rw [hE, decide_eq_false h0]; rfl
    have e1 : (E == 0) = false := by simpa using h0
    have e2 : (E != 0) = true := by simpa using h0
    clear hE h0 h hv h2 hv2
    go_enter Try.func25, Try.ntmps25
    go_wp2_with fail
    refine (HC _ z1).mono ?_
    rintro x w1 ⟨rfl, hb1⟩
    have hb := z1.trans (hb1.mono z1.size)
    clear hb1
    go_wp2_with fail
    go_ret
    exact ⟨by rw [HF.out]; rfl, hb⟩
end Go.Proofs.Ytpfabbapfmfmmaa
/- The contract of purflelaw02.few. -/
namespace Go.Proofs.Ytpfabbapfmfmmaa
open Go.RowKit

def fewE (es : List Ent) : Bool := es.all fun y => decide (y.n ≤ 20)
def fewC (l : List (Hdr × List Ent)) : Bool := l.all fun x => (decide (x.1.n ≤ 20) && decide (x.1.m ≤ 2000)) && fewE x.2
theorem fewC_next {l : List (Hdr × List Ent)} {k : Nat} {x : Hdr × List Ent} (h0 : fewC (l.take k) = true) (hx : l[k]? = some x) (h1 : x.1.n ≤ 20) (h2 : x.1.m ≤ 2000) (h3 : fewE x.2 = true) : fewC (l.take (k + 1)) = true := by
  unfold fewC at h0 ⊢
  rw [take_succ_of hx, List.all_append, h0]; simp [h1, h2, h3]
theorem fewC_not {l : List (Hdr × List Ent)} {k : Nat} {x : Hdr × List Ent} (hx : l[k]? = some x) (h : ¬ (x.1.n ≤ 20 ∧ x.1.m ≤ 2000 ∧ fewE x.2 = true)) : fewC l = false := by
  unfold fewC
  rw [List.all_eq_false]
  refine ⟨x, List.mem_of_getElem? hx, fun hh => h ?_⟩
  simp only [Bool.and_eq_true, decide_eq_true_eq] at hh
  exact ⟨hh.1.1, hh.1.2, hh.2⟩

set_option maxRecDepth 100000 in
set_option maxHeartbeats 2000000 in
theorem fewC_any (g n c : Nat) (l : List (Hdr × List Ent)) (w : World) (hl : l.length = n) (hg : g < w.heap.size) (h : Hdrs w g (l.map (·.1))) (he : ∀ x ∈ l, Ents w w.heap.size x.1.B x.1.m x.2) (hn : n ≤ 100) :
    Calls Try.prog 12 #[.slice (some ⟨g, 0, none⟩) n c] w fun x w' => x = .returned (.bool (fewC l)) ∧ Below w.heap.size w w' := by
  have HL := Lib.hid hl
  clear hl
  go_enter Try.func12, Try.ntmps12
  go_wp2
  go_loopw [9] (fun i wr => ∃ k : Nat, k ≤ n ∧ i = .int .i64 k ∧ Below w.heap.size w wr ∧ Hid (fewC (l.take k) = true)) (fun i _ => n - (intOf i).toNat)
  case atStart => exact ⟨0, Nat.zero_le _, rfl, Below.refl _ _, rfl⟩
  case round =>
    obtain ⟨k, hk, rfl, hB, HK⟩ := hrel
    by_cases hlt : k < n
    · obtain ⟨d, hd⟩ : ∃ d, l[k]? = some d := ⟨_, List.getElem?_eq_getElem (by rw [HL.out]; exact hlt)⟩
      obtain ⟨hc0, hc1⟩ := h k d.1 (by rw [List.getElem?_map, hd]; rfl)
      have hc0' := (hB.cell (p := ⟨g, k * 2, none⟩) hg).trans hc0
      have hc1' := (hB.cell (p := ⟨g, k * 2 + 1, none⟩) hg).trans hc1
      have hE := (he d (List.mem_of_getElem? hd))
      have HD := Lib.hid hd
      clear hd hc0 hc1
      obtain ⟨⟨A, a, b, B, m, e⟩, es⟩ := d
      dsimp only at hc0' hc1' hE
      by_cases ha : 20 < a
      · have hd1 : decide (20 < (a : Int)) = true := by simp; omega
        have HF : Hid (fewC l = false) := fewC_not HD.out (fun hh => by have := hh.1; dsimp only at this; omega)
        clear ha
        go_wp2
        go_ret
        exact ⟨by rw [HF.out]; rfl, hB.alloc hB.size _⟩
      · have hd1 : decide (20 < (a : Int)) = false := by simp; omega
        by_cases hm : 2000 < m
        · have hd2 : decide (2000 < (m : Int)) = true := by simp; omega
          have HF : Hid (fewC l = false) := fewC_not HD.out (fun hh => by have := hh.2.1; dsimp only at this; omega)
          clear ha hm
          go_wp2
          go_ret
          exact ⟨by rw [HF.out]; rfl, hB.alloc hB.size _⟩
        · have hd2 : decide (2000 < (m : Int)) = false := by simp; omega
          have HEl := Lib.hid hE.1
          have hB2 := hB.alloc hB.size (.cells #[.slice A a b, .slice B m e] 25)
          have ha' : a ≤ 20 := by omega
          have hm' : m ≤ 2000 := by omega
          clear ha hm
          go_wp2
          go_loopw [26] (fun i wq => ∃ q : Nat, q ≤ m ∧ i = .int .i64 q ∧ Below w.heap.size w wq ∧ Hid (fewE (es.take q) = true)) (fun i _ => m - (intOf i).toNat)
          case atStart => exact ⟨0, Nat.zero_le _, rfl, hB2, rfl⟩
          case round =>
            clear hB2 hc0' hc1'
            obtain ⟨q, hq, rfl, hT, HQ⟩ := hrel
            by_cases hltq : q < m
            · obtain ⟨b2, off2, y, rfl, hb2, HY, hy0, hy1, iy, _, _, _, _⟩ := (hE.below hT).at_ hltq
              have hy2 : wr.cell? ⟨b2, off2 + q * 2, none⟩ = some (.slice y.A y.n y.c) := by rw [Nat.mul_comm q 2]; exact hy0
              have hy3 : wr.cell? ⟨b2, off2 + q * 2 + 1, none⟩ = some (.int .i64 y.v) := by rw [Nat.mul_comm q 2]; exact hy1
              obtain ⟨yA, yn, yc, ycs, yv⟩ := y
              dsimp only at hy0 hy1 hy2 hy3 iy
              by_cases hyn : 20 < yn
              · have hd3 : decide (20 < (yn : Int)) = true := by simp; omega
                have HF : Hid (fewC l = false) := fewC_not HD.out (fun hh => by
                  have h3 := hh.2.2
                  dsimp only at h3
                  unfold fewE at h3
                  have := List.all_eq_true.1 h3 _ (List.mem_of_getElem? HY.out)
                  simp at this; omega)
                clear hyn
                go_wp2
                go_ret
                exact ⟨by rw [HF.out]; rfl, hT.alloc hT.size _⟩
              · have hd3 : decide (20 < (yn : Int)) = false := by simp; omega
                have HN : Hid (fewE (es.take (q + 1)) = true) := by
                  have h0 := HQ.out
                  unfold fewE at h0
                  unfold Hid fewE
                  rw [take_succ_of HY.out, List.all_append, h0]; simp; omega
                clear hyn
                go_wp2
                go_roundw
                case rel => exact ⟨q + 1, by omega, by go_num, hT.alloc hT.size _, HN⟩
                case measure => simp [intOf]; omega
            · have HN : Hid (fewC (l.take (k + 1)) = true) := by
                have h3 := HQ.out
                rw [List.take_of_length_le (by rw [HEl.out]; omega)] at h3
                exact fewC_next HK.out HD.out ha' hm' h3
              go_wp2
              go_roundw
              case rel => exact ⟨k + 1, by omega, by go_num, hT, HN⟩
              case measure => simp [intOf]; omega
    · have HF : Hid (fewC l = true) := by
        have := HK.out
        rw [List.take_of_length_le (by rw [HL.out]; omega)] at this
        exact this
      go_wp2
      go_ret
      exact ⟨by rw [HF.out]; rfl, hB⟩
end Go.Proofs.Ytpfabbapfmfmmaa
/- Lists as they are read: Sort, Join and Same in one form. -/
namespace Go.Proofs.Ytpfabbapfmfmmaa
open Go.RowKit

/-- a list as it is read: its shape and its entries -/
def CooV (w : World) (A : Option Addr) (n : Nat) (B : Option Addr) (m : Nat) (xs : List Int) (es : List Ent) : Prop := Ints w w.heap.size A n xs ∧ Ents w w.heap.size B m es
section
variable {w w' : World} {A B : Option Addr} {n m : Nat} {xs : List Int} {es : List Ent}
theorem CooV.below (h : CooV w A n B m xs es) (hb : Below w.heap.size w w') : CooV w' A n B m xs es := ⟨(h.1.below hb).more hb.size, (h.2.below hb).more hb.size⟩
theorem CooV.alloc (h : CooV w A n B m xs es) (o : Obj) : CooV (w.alloc o) A n B m xs es := h.below ((Below.refl _ w).alloc (Nat.le_refl _) _)
theorem NewEs.ents {base c : Nat} {Js : List Ent} (h : NewEs w base A c Js) (hn : ∀ x ∈ Js, x.n ≤ 9223372036854775807) : Ents w w.heap.size A Js.length Js := by
  rcases h with rfl | ⟨g, post, rfl, hb, hr, hne, hl⟩
  · exact ⟨rfl, by simp, fun h => absurd h (by simp)⟩
  · refine ⟨rfl, fun x hx => ⟨(hne x hx).1.1, hn x hx, (hne x hx).2.2.1, (hne x hx).2.2.2⟩, fun _ => ⟨g, 0, rfl, hr.lt, fun k x hx => ?_⟩⟩
    obtain ⟨⟨a1, _⟩, a2, _⟩ := blk_ent hr hx
    rw [Nat.zero_add, Nat.mul_comm 2 k]
    exact ⟨a1, a2⟩
end
theorem cooF_mk {xs : List Int} {es : List Ent} (h1 : (cellsF xs).2 = 0) (h2 : es.length ≤ 65536) (h3 : ∀ x ∈ es, insideF xs x.cs = true) : cooF xs es = 0 := by
  unfold cooF
  rw [if_pos h1, if_neg (by omega), if_pos (List.all_eq_true.2 h3)]
theorem joinStep_len (L : List KeyT) (t : KeyT) : (joinStep L t).length ≤ L.length + 1 := by
  rcases List.eq_nil_or_concat L with rfl | ⟨L0, z, rfl⟩
  · exact Nat.le_refl _
  · rw [List.concat_eq_append]
    by_cases e : z.1 = t.1
    · rw [joinStep_same e]; simp
    · rw [joinStep_other e]; simp
theorem joinK_len (l : List KeyT) : (joinK l).length ≤ l.length := by
  induction l using list_snoc_ind with
  | h0 => exact Nat.le_refl _
  | hs l t ih => rw [joinK_snoc]; have := joinStep_len (joinK l) t; simp; omega
/-- keys that come of those of es -/
theorem cooF_of {xs : List Int} {es Js : List Ent} (h : cooF xs es = 0) (hl : Js.length ≤ es.length) (hm : ∀ x ∈ Js, ∃ y ∈ es, y.cs = x.cs) : cooF xs Js = 0 := by
  obtain ⟨p1, p2, p3⟩ := cooF_parts h
  exact cooF_mk p1 (by omega) fun x hx => by obtain ⟨y, hy, e⟩ := hm x hx; rw [← e]; exact p3 y hy
theorem map_cs {es : List Ent} {p : List Int} (h : ∃ q ∈ es.map keyE, q.1 = p) : ∃ y ∈ es, y.cs = p := by
  obtain ⟨q, hq, e⟩ := h
  obtain ⟨y, hy, rfl⟩ := List.mem_map.1 hq
  exact ⟨y, hy, e⟩
theorem cooF_sort {xs os : List Int} {es Ss : List Ent} (h : cooF xs es = 0) (hk : Ss.map keyE = sortK os (es.map keyE)) : cooF xs Ss = 0 := by
  refine cooF_of h ?_ fun x hx => ?_
  · have := congrArg List.length hk
    rw [List.length_map, (sortK_perm _ _).length_eq, List.length_map] at this
    omega
  · have : keyE x ∈ sortK os (es.map keyE) := by rw [← hk]; exact List.mem_map_of_mem hx
    exact map_cs ⟨keyE x, (sortK_perm _ _).mem_iff.1 this, rfl⟩
theorem cooF_join {xs os : List Int} {es Js : List Ent} (h : cooF xs es = 0) (hk : Js.map keyE = joinK (sortK os (es.map keyE))) : cooF xs Js = 0 := by
  refine cooF_of h ?_ fun x hx => ?_
  · have := congrArg List.length hk
    have h2 := joinK_len (sortK os (es.map keyE))
    rw [(sortK_perm _ _).length_eq, List.length_map] at h2
    rw [List.length_map] at this
    omega
  · have : keyE x ∈ joinK (sortK os (es.map keyE)) := by rw [← hk]; exact List.mem_map_of_mem hx
    obtain ⟨q, hq, e⟩ := (joinK_mem _ _).1 ⟨keyE x, this, rfl⟩
    exact map_cs ⟨q, (sortK_perm _ _).mem_iff.1 hq, e⟩
theorem keyOk_of {w : World} {A B : Option Addr} {n m : Nat} {xs : List Int} {es : List Ent} (h : CooV w A n B m xs es) (hE : cooF xs es = 0) : KeyOk n (es.map keyE) := by
  intro t ht
  obtain ⟨y, hy, rfl⟩ := List.mem_map.1 ht
  have hq := h.2.2.1 y hy
  have hl := key_len hE (fun z hz => (h.2.2.1 z hz).1.1) y hy
  have hn := h.1.1
  have hc := hq.1.1
  exact ⟨by show y.cs.length = n; omega, by show y.n = n; omega, hq.2.2.2⟩
theorem keyV_of {es fs : List Ent} (h : es.map keyE = fs.map keyE) : es.map keyV = fs.map keyV := by
  have := congrArg (List.map fun q : KeyT => (q.1, q.2.1)) h
  rw [List.map_map, List.map_map] at this
  exact this

theorem joinV_ok (A B Ao : Option Addr) (n c m e ro co : Nat) (xs os : List Int) (es : List Ent) (w : World) (h : CooV w A n B m xs es) (hE : sortE' xs os n es = 0) (ho : Ints w w.heap.size Ao ro os) (hro : ro ≤ 100000) :
    Calls Try.prog 16 #[.agg #[.slice A n c, .slice B m e], .slice Ao ro co] w fun x w' => ∃ A1 c1 A2 m2 c2 Js, x = .returned (.tuple #[.agg #[.slice A1 n c1, .slice A2 m2 c2], .int .i64 0]) ∧ CooV w' A1 n A2 m2 xs Js ∧ Hid (Js.map keyE = joinK (sortK (ordL n os) (es.map keyE))) ∧ Hid (cooF xs Js = 0) ∧ m2 ≤ 65536 ∧ Below w.heap.size w w' := by
  unfold sortE' at hE
  by_cases h0 : cooF xs es = 0
  · rw [if_pos h0] at hE
    by_cases hk : OrdOk n os
    · refine (cooJoin_ok A B Ao n c m e ro co xs os es w h.1 h.2 h0 ho hro hk).mono ?_
      rintro x w' ⟨A1, c1, A2, c2, Js, rfl, hO, hN, hkey, hb⟩
      have hi := hO.ints
      rw [h.1.1] at hi
      have hf := cooF_join h0 hkey
      have hok := joinK_ok ((keyOk_of h h0).perm (sortK_perm (ordL n os) _))
      rw [← hkey] at hok
      have hn4 : n ≤ 4 := by rw [← h.1.1]; exact (cellsF_ok (cooF_parts h0).1).1
      refine ⟨A1, c1, A2, Js.length, c2, Js, rfl, ⟨hi, hN.ents fun x hx => ?_⟩, hkey, hf, (cooF_parts hf).2.1, hb⟩
      have : x.n = n := (hok (keyE x) (List.mem_map_of_mem hx)).2.1
      omega
    · rw [if_neg hk] at hE; cases hE
  · rw [if_neg h0] at hE; exact absurd hE h0
theorem sortV_ok (A B Ao : Option Addr) (n c m e ro co : Nat) (xs os : List Int) (es : List Ent) (w : World) (h : CooV w A n B m xs es) (hE : sortE' xs os n es = 0) (ho : Ints w w.heap.size Ao ro os) (hro : ro ≤ 100000) :
    Calls Try.prog 14 #[.agg #[.slice A n c, .slice B m e], .slice Ao ro co] w fun x w' => ∃ A1 c1 A2 c2 Ss, x = .returned (.tuple #[.agg #[.slice A1 n c1, .slice A2 m c2], .int .i64 0]) ∧ CooV w' A1 n A2 m xs Ss ∧ Hid (Ss.map keyE = sortK (ordL n os) (es.map keyE)) ∧ Hid (cooF xs Ss = 0) ∧ m ≤ 65536 ∧ Below w.heap.size w w' := by
  unfold sortE' at hE
  by_cases h0 : cooF xs es = 0
  · rw [if_pos h0] at hE
    by_cases hk : OrdOk n os
    · refine (cooSort_ok A B Ao n c m e ro co xs os es w h.1 h.2 h0 ho hro hk).mono ?_
      rintro x w' ⟨A1, c1, A2, c2, Ss, rfl, hO, hN, hkey, hb⟩
      have hi := hO.ints
      rw [h.1.1] at hi
      have hf := cooF_sort h0 hkey
      have hok := (keyOk_of h h0).perm (sortK_perm (ordL n os) _)
      rw [← hkey] at hok
      have hn4 : n ≤ 4 := by rw [← h.1.1]; exact (cellsF_ok (cooF_parts h0).1).1
      have hlen : Ss.length = m := by
        have := congrArg List.length hkey
        rw [List.length_map, (sortK_perm _ _).length_eq, List.length_map, h.2.1] at this
        exact this
      have hen := hN.ents (fun x hx => by have : x.n = n := (hok (keyE x) (List.mem_map_of_mem hx)).2.1; omega)
      rw [hlen] at hen
      exact ⟨A1, c1, A2, c2, Ss, rfl, ⟨hi, hen⟩, hkey, hf, by have := (cooF_parts hf).2.1; omega, hb⟩
    · rw [if_neg hk] at hE; cases hE
  · rw [if_neg h0] at hE; exact absurd hE h0
theorem joinV_bad (A B Ao : Option Addr) (n c m e ro co : Nat) (xs os : List Int) (es : List Ent) (w : World) (h : CooV w A n B m xs es) (hn : n ≤ 100000) (hm : m ≤ 9223372036854775807) (E : Int) (hE : Hid (sortE' xs os n es = E)) (h0 : E ≠ 0) (ho : Ints w w.heap.size Ao ro os) (hro : ro ≤ 100000) :
    Calls Try.prog 16 #[.agg #[.slice A n c, .slice B m e], .slice Ao ro co] w fun x w' => x = .returned (.tuple #[.agg #[.slice none 0 0, .slice none 0 0], .int .i64 E]) ∧ Below w.heap.size w w' :=
  cooJoin_fail A B Ao n c m e ro co E w h0 (by have := modesBy_bad A B Ao n c m e ro co xs os es w h.1 hn h.2 hm ho hro (by rw [hE.out]; exact h0); rwa [hE.out] at this)
theorem sortV_bad (A B Ao : Option Addr) (n c m e ro co : Nat) (xs os : List Int) (es : List Ent) (w : World) (h : CooV w A n B m xs es) (hn : n ≤ 100000) (hm : m ≤ 9223372036854775807) (E : Int) (hE : Hid (sortE' xs os n es = E)) (h0 : E ≠ 0) (ho : Ints w w.heap.size Ao ro os) (hro : ro ≤ 100000) :
    Calls Try.prog 14 #[.agg #[.slice A n c, .slice B m e], .slice Ao ro co] w fun x w' => x = .returned (.tuple #[.agg #[.slice none 0 0, .slice none 0 0], .int .i64 E]) ∧ Below w.heap.size w w' :=
  cooSort_fail A B Ao n c m e ro co E w h0 (by have := modesBy_bad A B Ao n c m e ro co xs os es w h.1 hn h.2 hm ho hro (by rw [hE.out]; exact h0); rwa [hE.out] at this)
theorem sameV (A B A2 B2 : Option Addr) (n c m e n2 c2 m2 e2 : Nat) (xs ys : List Int) (es fs : List Ent) (w : World) (h : CooV w A n B m xs es) (hn : n ≤ 100000) (hm : m ≤ 100000)
   (h2 : CooV w A2 n2 B2 m2 ys fs) (hn2 : n2 ≤ 9223372036854775807) (hm2 : m2 ≤ 9223372036854775807) (R : Bool) (HR : Hid (sameC xs ys es fs = R)) :
    Calls Try.prog 25 #[.agg #[.slice A n c, .slice B m e], .agg #[.slice A2 n2 c2, .slice B2 m2 e2]] w fun x w' => x = .returned (.bool R) ∧ Below w.heap.size w w' :=
  cooSame_any A B A2 B2 n c m e n2 c2 m2 e2 xs ys es fs w h.1 hn h.2 hm h2.1 hn2 h2.2 hm2 R HR
/-- whichever way Join goes -/
theorem joinV_any (A B Ao : Option Addr) (n c m e ro co : Nat) (xs os : List Int) (es : List Ent) (w : World) (h : CooV w A n B m xs es) (hn : n ≤ 100000) (hm : m ≤ 9223372036854775807) (E : Int) (hE : Hid (sortE' xs os n es = E)) (ho : Ints w w.heap.size Ao ro os) (hro : ro ≤ 100000) :
    Calls Try.prog 16 #[.agg #[.slice A n c, .slice B m e], .slice Ao ro co] w fun x w' => ∃ A1 n1 c1 A2 m2 c2, x = .returned (.tuple #[.agg #[.slice A1 n1 c1, .slice A2 m2 c2], .int .i64 E]) ∧ Below w.heap.size w w' := by
  by_cases h0 : E = 0
  · subst h0
    refine (joinV_ok A B Ao n c m e ro co xs os es w h hE.out ho hro).mono ?_
    rintro x w' ⟨A1, c1, A2, m2, c2, Js, rfl, _, _, _, _, hb⟩
    exact ⟨_, _, _, _, _, _, rfl, hb⟩
  · refine (joinV_bad A B Ao n c m e ro co xs os es w h hn hm E hE h0 ho hro).mono ?_
    rintro x w' ⟨rfl, hb⟩
    exact ⟨_, _, _, _, _, _, rfl, hb⟩
theorem sameC_t {xs : List Int} {es fs : List Ent} (h : cooF xs es = 0) (hk : es.map keyE = fs.map keyE) : sameC xs xs es fs = true := by
  unfold sameC
  rw [h, keyV_of hk]; simp
theorem few_coo (A B : Option Addr) (n c m e : Nat) (xs : List Int) (es : List Ent) (w : World) (h : CooV w A n B m xs es) (R : Bool) (HR : Hid (fewC [((⟨A, n, c, B, m, e⟩ : Hdr), es)] = R)) :
    Calls Try.prog 12 #[.slice (some ⟨w.heap.size, 0, none⟩) 1 1] (w.alloc (.cells #[.slice A n c, .slice B m e] 25)) fun x w' => x = .returned (.bool R) ∧ Below w.heap.size w w' := by
  have hb : Below w.heap.size w (w.alloc (.cells #[.slice A n c, .slice B m e] 25)) := (Below.refl _ w).alloc (Nat.le_refl _) _
  have := fewC_any w.heap.size 1 1 [(⟨A, n, c, B, m, e⟩, es)] (w.alloc (.cells #[.slice A n c, .slice B m e] 25)) rfl (by simp) (fun k d hd => by
      match k, hd with
      | 0, hd => simp at hd; subst hd; exact ⟨(pair_cells (heap_alloc_new w (.cells #[.slice A n c, .slice B m e] 25))).1, (pair_cells (heap_alloc_new w (.cells #[.slice A n c, .slice B m e] 25))).2.1⟩
      | k + 1, hd => simp at hd) (fun x hx => by rw [List.mem_singleton.1 hx]; exact (h.2.below hb).more hb.size) (by omega)
  rw [HR.out] at this
  exact this.mono fun x w' ⟨h1, h2⟩ => ⟨h1, hb.trans (h2.mono hb.size)⟩
theorem fewC_one {A B : Option Addr} {n c m e : Nat} {es : List Ent} (h : fewC [((⟨A, n, c, B, m, e⟩ : Hdr), es)] = true) : n ≤ 20 ∧ m ≤ 2000 := by
  unfold fewC at h
  simp at h
  exact h.1
theorem heapAt {w w' : World} {g : Nat} {o : Obj} (hb : Below w.heap.size w w') (h : w.heap[g]? = some o) : w'.heap[g]? = some o := (hb.block g (lt_of_heap h)).trans h
theorem heapPast {w : World} {g : Nat} {v : Obj} (o : Obj) (h : w.heap[g]? = some v) : (w.alloc o).heap[g]? = some v := (Below.heap_alloc w o g (lt_of_heap h)).trans h
end Go.Proofs.Ytpfabbapfmfmmaa
/- coo.Turn's errors. -/
namespace Go.Proofs.Ytpfabbapfmfmmaa
open Go.RowKit

set_option maxRecDepth 100000 in
theorem cooTurn_fail (A B Ao : Option Addr) (n c m e ro co : Nat) (E : Int) (w : World) (h0 : E ≠ 0)
   (HC : ∀ W, Below w.heap.size w W → Calls Try.prog 43 #[.agg #[.slice A n c, .slice B m e], .slice Ao ro co] W fun x w' => x = .returned (.tuple #[.slice none 0 0, .int .i64 E]) ∧ Below W.heap.size W w') :
    Calls Try.prog 27 #[.agg #[.slice A n c, .slice B m e], .slice Ao ro co] w fun x w' => x = .returned (.tuple #[.agg #[.slice none 0 0, .slice none 0 0], .int .i64 E]) ∧ Below w.heap.size w w' := by
  have z0 := (Below.refl w.heap.size w).alloc (Nat.le_refl _) (.cells #[.slice A n c, .slice B m e] 25)
  have z1 := z0.alloc z0.size (.cells #[.slice none 0 0, .slice none 0 0] 25)
  have b2 := zf_snd w (.cells #[.slice none 0 0, .slice none 0 0] 25) (.cells #[.slice A n c, .slice B m e] 25)
  have e1 : (E == 0) = false := by simpa using h0
  have e2 : (E != 0) = true := by simpa using h0
  clear h0
  go_enter Try.func27, Try.ntmps27
  go_wp2_with fail
  refine (HC _ z1).mono ?_
  rintro x w1 ⟨rfl, hb1⟩
  have hb := z1.trans (hb1.mono z1.size)
  have q2 := (hb1.block (w.heap.size + 1) (by simp)).trans b2
  obtain ⟨v0, v1, vf0, vf1⟩ := pair_cells q2
  have Q2 := Lib.hid q2
  clear q2 b2 z0 z1 HC hb1
  go_wp2_with fail
  have hres := set_two w1 (w.heap.size + 1) _ _ (.slice none 0 0) (.slice none 0 0) _ Q2.out
  obtain ⟨s0, s1, _, _⟩ := pair_cells hres.1
  obtain ⟨wz, hwz⟩ : ∃ wz, (w1.setCell ⟨w.heap.size + 1, 0, none⟩ (.slice none 0 0)).setCell ⟨w.heap.size + 1, 1, none⟩ (.slice none 0 0) = wz := ⟨_, rfl⟩
  rw [hwz] at hres s0 s1 ⊢
  exact bodyPost_ret (v := .tuple #[.agg #[.slice none 0 0, .slice none 0 0], .int .i64 E]) (by simp [results, Try.results27, go_sem, s0, s1]) rfl ⟨rfl, hb.grown hres.2 hb.size (fun k hk => by injection hk with hk; omega)⟩


theorem turnV_bad (A B Ao : Option Addr) (n c m e ro co : Nat) (xs os : List Int) (es : List Ent) (w : World) (h : CooV w A n B m xs es) (hn : n ≤ 100000) (hm : m ≤ 9223372036854775807) (E : Int) (hE : Hid (sortE' xs os n es = E)) (h0 : E ≠ 0) (ho : Ints w w.heap.size Ao ro os) (hro : ro ≤ 100000) :
    Calls Try.prog 27 #[.agg #[.slice A n c, .slice B m e], .slice Ao ro co] w fun x w' => x = .returned (.tuple #[.agg #[.slice none 0 0, .slice none 0 0], .int .i64 E]) ∧ Below w.heap.size w w' :=
  cooTurn_fail A B Ao n c m e ro co E w h0 (by have := modesBy_bad A B Ao n c m e ro co xs os es w h.1 hn h.2 hm ho hro (by rw [hE.out]; exact h0); rwa [hE.out] at this)
end Go.Proofs.Ytpfabbapfmfmmaa
