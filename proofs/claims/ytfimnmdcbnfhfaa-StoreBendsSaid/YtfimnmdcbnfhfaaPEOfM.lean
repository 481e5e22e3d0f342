/- A list of a tensor that is laid out: its keys rise, and are those of the plain list (maths). -/
import Derived.Test.YtfimnmdcbnfhfaaG16
namespace Go.Proofs.Ytfimnmdcbnfhfaa
open Go.RowKit

/-- places compared from the first mode on -/
def lexC : List Int → List Int → Int
  | x :: a, y :: b => if cmpI x y = 0 then lexC a b else cmpI x y
  | _, _ => 0
theorem cmpE_lex (a b : List Int) : ∀ (m d : Nat), d + m = a.length → d + m = b.length → cmpE ((List.range' d m).map fun (k : Nat) => (k : Int)) a b = lexC (a.drop d) (b.drop d)
  | 0, d, ha, hb => by
    rw [List.drop_of_length_le (by omega), List.drop_of_length_le (by omega)]; rfl
  | m + 1, d, ha, hb => by
    have h1 : d < a.length := by omega
    have h2 : d < b.length := by omega
    rw [List.range'_succ, List.map_cons, List.drop_eq_getElem_cons h1, List.drop_eq_getElem_cons h2]
    have e1 : pickE a (d : Int) = a[d] := by unfold pickE; simp [List.getD, List.getElem?_eq_getElem h1]
    have e2 : pickE b (d : Int) = b[d] := by unfold pickE; simp [List.getD, List.getElem?_eq_getElem h2]
    unfold cmpE lexC
    rw [e1, e2, cmpE_lex a b m (d + 1) (by omega) (by omega)]
theorem cmpE_iota {n : Nat} {a b : List Int} (ha : a.length = n) (hb : b.length = n) : cmpE (iotaL n) a b = lexC a b := by
  have := cmpE_lex a b n 0 (by omega) (by omega)
  rw [List.drop_zero, List.drop_zero] at this
  rw [← this]
  unfold iotaL
  rw [List.range_eq_range']
theorem lexC_lt : ∀ (xs a b : List Int), Inn xs a → Inn xs b → numR xs a < numR xs b → lexC a b < 0
  | [], [], [], _, _, h => absurd h (by simp [numR])
  | s :: l, x :: a, y :: b, ha, hb, h => by
    have h1 := ha.2.2.bound
    have h2 := hb.2.2.bound
    simp only [numR] at h
    unfold lexC
    by_cases hxy : x = y
    · subst hxy
      rw [if_pos (by unfold cmpI; simp)]
      exact lexC_lt l a b ha.2.2 hb.2.2 (by omega)
    · have hlt : x < y := by
        rcases Int.lt_or_gt_of_ne hxy with h3 | h3
        · exact h3
        · exfalso
          have h4 : (y + 1) * prodI l ≤ x * prodI l := Int.mul_le_mul_of_nonneg_right (by omega) (by omega)
          have h5 : (y + 1) * prodI l = y * prodI l + prodI l := by rw [Int.add_mul, Int.one_mul]
          omega
      have e : cmpI x y = -1 := by unfold cmpI; rw [if_pos hlt]
      rw [e, if_neg (by decide)]
      decide

theorem numR_inj : ∀ (xs a b : List Int), Inn xs a → Inn xs b → numR xs a = numR xs b → a = b
  | [], [], [], _, _, _ => rfl
  | s :: l, x :: a, y :: b, ha, hb, h => by
    have h1 := ha.2.2.bound
    have h2 := hb.2.2.bound
    simp only [numR] at h
    have hxy : x = y := by
      rcases Int.lt_trichotomy x y with h3 | h3 | h3
      · have h4 : (x + 1) * prodI l ≤ y * prodI l := Int.mul_le_mul_of_nonneg_right (by omega) (by omega)
        rw [Int.add_mul, Int.one_mul] at h4
        omega
      · exact h3
      · have h4 : (y + 1) * prodI l ≤ x * prodI l := Int.mul_le_mul_of_nonneg_right (by omega) (by omega)
        rw [Int.add_mul, Int.one_mul] at h4
        omega
    subst hxy
    rw [numR_inj l a b ha.2.2 hb.2.2 (by omega)]
/-- the keys of what is laid out, from cell k on -/
def ofK (xs : List Int) : Nat → List Int → List KeyT
  | _, [] => []
  | k, v :: l => if v = 0 then ofK xs (k + 1) l else (placeR xs k, v, xs.length) :: ofK xs (k + 1) l
theorem ofK_mem {xs : List Int} {t : KeyT} : ∀ (k : Nat) (l : List Int), t ∈ ofK xs k l ↔ ∃ i v, l[i]? = some v ∧ v ≠ 0 ∧ t = (placeR xs ((k + i : Nat) : Int), v, xs.length)
  | k, [] => by simp [ofK]
  | k, v :: l => by
    have ih := ofK_mem (xs := xs) (t := t) (k + 1) l
    unfold ofK
    constructor
    · intro h
      by_cases hv : v = 0
      · rw [if_pos hv] at h
        obtain ⟨i, u, h1, h2, h3⟩ := ih.1 h
        exact ⟨i + 1, u, h1, h2, by rw [h3, show k + 1 + i = k + (i + 1) by omega]⟩
      · rw [if_neg hv] at h
        rcases List.mem_cons.1 h with rfl | h
        · exact ⟨0, v, rfl, hv, rfl⟩
        · obtain ⟨i, u, h1, h2, h3⟩ := ih.1 h
          exact ⟨i + 1, u, h1, h2, by rw [h3, show k + 1 + i = k + (i + 1) by omega]⟩
    · rintro ⟨i, u, h1, h2, h3⟩
      cases i with
      | zero =>
        simp at h1
        subst h1
        rw [if_neg h2, h3]
        exact List.mem_cons_self ..
      | succ i =>
        have := ih.2 ⟨i, u, by simpa using h1, h2, by rw [h3, show k + 1 + i = k + (i + 1) by omega]⟩
        split
        · exact this
        · exact List.mem_cons_of_mem _ this
theorem ofK_rise {xs : List Int} (hp : ∀ x ∈ xs, 1 ≤ x) : ∀ (k : Nat) (l : List Int), (k : Int) + l.length ≤ prodI xs → KRise (iotaL xs.length) (ofK xs k l)
  | k, [], _ => List.Pairwise.nil
  | k, v :: l, h => by
    rw [List.length_cons] at h
    have ih := ofK_rise hp (k + 1) l (by omega)
    unfold ofK
    split
    · exact ih
    · refine List.pairwise_cons.2 ⟨fun t ht => ?_, ih⟩
      obtain ⟨i, u, h1, _, rfl⟩ := (ofK_mem _ _).1 ht
      have hi := (List.getElem?_eq_some_iff.1 h1).1
      have n1 := numR_placeR hp (k : Int)
      have n2 := numR_placeR hp ((k + 1 + i : Nat) : Int)
      rw [Int.emod_eq_of_lt (by omega) (by omega)] at n1 n2
      show cmpE (iotaL xs.length) (placeR xs k) (placeR xs ((k + 1 + i : Nat) : Int)) < 0
      rw [cmpE_iota (placeR_length _ _) (placeR_length _ _)]
      exact lexC_lt xs _ _ (placeR_inn hp _) (placeR_inn hp _) (by rw [n1, n2]; omega)
theorem totP_none {P : List Int → Bool} : ∀ {K : List KeyT}, (∀ t ∈ K, P t.1 = false) → totP P K = 0
  | [], _ => rfl
  | t :: K, h => by
    simp only [totP]
    rw [if_neg (by rw [h t (by simp)]; decide), totP_none (fun s hs => h s (by simp [hs]))]
    rfl
theorem totP_same {P Q : List Int → Bool} : ∀ {K : List KeyT}, (∀ t ∈ K, P t.1 = Q t.1) → totP P K = totP Q K
  | [], _ => rfl
  | t :: K, h => by
    simp only [totP]
    rw [h t (by simp), totP_same (fun s hs => h s (by simp [hs]))]
/-- a list laid out and listed again is the plain one -/
theorem of_dense {n : Nat} {xs : List Int} {es : List Ent} (hxl : xs.length = n) (hE : denE xs es = 0) (hk : KeyOk n (es.map keyE)) : ofK xs 0 (denseK xs (es.map keyE)) = (joinK (sortK (iotaL n) (es.map keyE))).filter nzK := by
  unfold denE at hE
  have h0 : cooF xs es = 0 := by
    by_cases h0 : cooF xs es = 0
    · exact h0
    · rw [if_neg h0] at hE; exact absurd hE h0
  rw [if_pos h0] at hE
  obtain ⟨p1, p2, p3⟩ := cooF_parts h0
  have hla := laidF_ok hE
  have hnn := laidF_nonneg (xs := xs)
  have hinn : ∀ t ∈ es.map keyE, Inn xs t.1 := fun t ht => by
    obtain ⟨y, hy, rfl⟩ := List.mem_map.1 ht
    exact inn_of_insideF (p3 y hy)
  have hperm : (iotaL n).Perm (iotaL n) := List.Perm.refl _
  have hlen := denseK_length xs (es.map keyE)
  -- where there is a cell at all, the sizes are 1 or more, and their product is the number of cells
  by_cases hM : (laidF xs).1 = 0
  · have hd : denseK xs (es.map keyE) = [] := List.eq_nil_of_length_eq_zero (by rw [hlen, hM]; rfl)
    have he : es = [] := by
      cases es with
      | nil => rfl
      | cons y t =>
        exfalso
        have hi := hinn (keyE y) (by simp)
        have := hi.bound
        have hpos := cellsF_ok_pos p1 hi.pos
        omega
    rw [hd, he]; rfl
  · have hp := cellsF_nz p1 (by rw [← hla.2]; exact hM)
    have hprod := cellsF_ok_pos p1 hp
    have hr1 := ofK_rise hp 0 (denseK xs (es.map keyE)) (by rw [hlen]; omega)
    rw [hxl] at hr1
    have hks := hk.perm (sortK_perm (iotaL n) _)
    have hr2 := joinK_rise hperm hks (sortK_ord (iotaL n) _)
    refine rise_ext (R := fun x y : KeyT => cmpE (iotaL n) x.1 y.1 < 0) KRise.asym hr1 (hr2.filter _) fun t => ?_
    rw [ofK_mem, List.mem_filter, joined_mem hperm hk]
    have hcell : ∀ (j : Nat) (v : Int), (denseK xs (es.map keyE))[j]? = some v ↔ (j < (laidF xs).1.toNat ∧ wrap64 (totP (fun p => decide ((numR xs p).toNat = j)) (es.map keyE)) = v) := fun j v => by
      unfold denseK
      rw [List.getElem?_map]
      by_cases hj : j < (laidF xs).1.toNat
      · rw [List.getElem?_range hj]; simp [hj]
      · rw [List.getElem?_eq_none (by simp; omega)]; simp [hj]
    have hnum : ∀ s ∈ es.map keyE, ∀ j : Nat, j < (laidF xs).1.toNat → ((numR xs s.1).toNat = j ↔ s.1 = placeR xs (j : Int)) := fun s hs j hj => by
      have hb := (hinn s hs).bound
      have n1 := numR_placeR hp (j : Int)
      rw [Int.emod_eq_of_lt (by omega) (by omega)] at n1
      constructor
      · intro e
        exact numR_inj xs _ _ (hinn s hs) (placeR_inn hp _) (by rw [n1]; omega)
      · intro e; rw [e, n1]; omega
    have hsum : ∀ j : Nat, j < (laidF xs).1.toNat → totP (fun p => decide ((numR xs p).toNat = j)) (es.map keyE) = totP (fun p => decide (p = placeR xs (j : Int))) (es.map keyE) := fun j hj => totP_same fun s hs => by
      show decide ((numR xs s.1).toNat = j) = decide (s.1 = placeR xs (j : Int))
      exact decide_eq_decide.2 (hnum s hs j hj)
    constructor
    · rintro ⟨j, v, h1, h2, rfl⟩
      rw [Nat.zero_add]
      obtain ⟨hj, hv⟩ := (hcell j v).1 h1
      rw [hsum j hj] at hv
      refine ⟨⟨?_, hv.symm, hxl⟩, by unfold nzK; simp [h2]⟩
      rcases Classical.em (∃ s ∈ es.map keyE, s.1 = placeR xs (j : Int)) with h | h
      · exact h
      · exfalso
        rw [totP_none (fun s hs => decide_eq_false fun e => h ⟨s, hs, e⟩), wrap64_zero] at hv
        exact h2 hv.symm
    · rintro ⟨⟨⟨s, hs, e⟩, hv, hn⟩, hz⟩
      obtain ⟨t1, t2, t3⟩ := t
      dsimp only at e hv hn hz
      have hb := (hinn s hs).bound
      have hj : (numR xs s.1).toNat < (laidF xs).1.toNat := by omega
      have hpl := (hnum s hs _ hj).1 rfl
      refine ⟨(numR xs s.1).toNat, t2, (hcell _ _).2 ⟨hj, ?_⟩, by unfold nzK at hz; simpa using hz, ?_⟩
      · rw [hsum _ hj, ← hpl, e, hv]
      · rw [Nat.zero_add, ← hpl, e, hn, hxl]
end Go.Proofs.Ytfimnmdcbnfhfaa
