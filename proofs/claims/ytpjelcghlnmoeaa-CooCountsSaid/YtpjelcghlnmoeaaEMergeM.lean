/- Two runs of entries in order, merged: where it may be cut in two; what is merged of two sorted parts is the sorted whole. Nothing is claimed of the program here. -/
import Derived.Test.YtpjelcghlnmoeaaESortM
namespace Go.Proofs.Ytpjelcghlnmoeaa

/-- of two runs that stand in order the one that does: of those that are alike the first run's are ahead -/
def mergeE (os : List Int) (L R : List Ent) : List Ent := L.merge R (fun x y => !ltE os y x)
theorem mergeE_nil_left (os : List Int) (R : List Ent) : mergeE os [] R = R := by unfold mergeE; simp
theorem mergeE_nil_right (os : List Int) (L : List Ent) : mergeE os L [] = L := by unfold mergeE; simp
theorem mergeE_left {os : List Int} {x y : Ent} (L R : List Ent) (h : ltE os y x = false) : mergeE os (x :: L) (y :: R) = x :: mergeE os L (y :: R) := by
  unfold mergeE; rw [List.cons_merge_cons_pos]; simp [h]
theorem mergeE_right {os : List Int} {x y : Ent} (L R : List Ent) (h : ltE os y x = true) : mergeE os (x :: L) (y :: R) = y :: mergeE os (x :: L) R := by
  unfold mergeE; rw [List.cons_merge_cons_neg]; simp [h]
theorem mergeE_mem {os : List Int} {L R : List Ent} {x : Ent} : x ∈ mergeE os L R ↔ x ∈ L ∨ x ∈ R := by unfold mergeE; exact List.mem_merge
theorem mergeE_length (os : List Int) (L R : List Ent) : (mergeE os L R).length = L.length + R.length := by unfold mergeE; rw [List.length_merge]
theorem mergeE_split (os : List Int) (L1 L2 R1 R2 : List Ent) (h1 : ∀ y ∈ R1, ∀ x ∈ L2, ltE os y x = true) (h2 : ∀ x ∈ L1, ∀ y ∈ R2, ltE os y x = false) : mergeE os (L1 ++ L2) (R1 ++ R2) = mergeE os L1 R1 ++ mergeE os L2 R2 := by
  obtain ⟨n, hn⟩ : ∃ n, L1.length + R1.length = n := ⟨_, rfl⟩
  induction n generalizing L1 R1 with
  | zero =>
    obtain rfl : L1 = [] := List.eq_nil_of_length_eq_zero (by omega)
    obtain rfl : R1 = [] := List.eq_nil_of_length_eq_zero (by omega)
    rw [mergeE_nil_left]; rfl
  | succ n ih =>
    cases L1 with
    | nil =>
      cases R1 with
      | nil => simp at hn
      | cons y R1 =>
        rw [mergeE_nil_left, List.nil_append]
        cases L2 with
        | nil => rw [mergeE_nil_left, mergeE_nil_left]
        | cons x L2 =>
          rw [List.cons_append, mergeE_right _ _ (h1 y (by simp) x (by simp))]
          have := ih [] R1 (fun y hy => h1 y (List.mem_cons_of_mem _ hy)) (fun x hx => by cases hx) (by simp at hn ⊢; omega)
          rw [List.nil_append, mergeE_nil_left] at this
          rw [this]; rfl
    | cons x L1 =>
      cases R1 with
      | nil =>
        rw [mergeE_nil_right, List.nil_append]
        cases R2 with
        | nil => rw [mergeE_nil_right, mergeE_nil_right]
        | cons y R2 =>
          rw [List.cons_append, mergeE_left _ _ (h2 x (by simp) y (by simp))]
          have := ih L1 [] (fun y hy => by cases hy) (fun x hx => h2 x (List.mem_cons_of_mem _ hx)) (by simp at hn ⊢; omega)
          rw [List.nil_append, mergeE_nil_right] at this
          rw [this]; rfl
      | cons y R1 =>
        rw [List.cons_append, List.cons_append]
        cases h : ltE os y x with
        | true =>
          rw [mergeE_right _ _ h, mergeE_right _ _ h]
          have := ih (x :: L1) R1 (fun y hy => h1 y (List.mem_cons_of_mem _ hy)) h2 (by simp at hn ⊢; omega)
          rw [List.cons_append] at this
          rw [this]; rfl
        | false =>
          rw [mergeE_left _ _ h, mergeE_left _ _ h]
          have := ih L1 (y :: R1) h1 (fun x hx => h2 x (List.mem_cons_of_mem _ hx)) (by simp at hn ⊢; omega)
          rw [List.cons_append] at this
          rw [this]; rfl
theorem ltE_t {os : List Int} {x y : Ent} : ltE os x y = true ↔ cmpE os x.cs y.cs < 0 := by unfold ltE; exact decide_eq_true_iff
theorem ltE_f {os : List Int} {x y : Ent} : ltE os x y = false ↔ cmpE os y.cs x.cs ≤ 0 := by
  unfold ltE; rw [decide_eq_false_iff_not, cmpE_neg os y.cs x.cs]; omega
/-- not behind, and behind: behind -/
theorem ltE_le {os : List Int} {x y z : Ent} (h1 : ltE os x y = false) (h2 : ltE os x z = true) : ltE os y z = true := by
  cases h : ltE os y z with
  | true => rfl
  | false =>
    have := cmpE_trans (ltE_f.1 h) (ltE_f.1 h1)
    have h3 := ltE_t.1 h2
    rw [cmpE_neg] at h3
    omega
theorem ltE_asym {os : List Int} {x y : Ent} (h : ltE os x y = true) : ltE os y x = false := ltE_f.2 (by have := ltE_t.1 h; omega)
theorem InOrd.cut {os : List Int} {P : List Ent} (h : InOrd os P) (x : Ent) : ∃ P1 P2, P = P1 ++ P2 ∧ (∀ y ∈ P1, ltE os x y = false) ∧ (∀ y ∈ P2, ltE os x y = true) := by
  induction P with
  | nil => exact ⟨[], [], rfl, (fun y hy => by cases hy), (fun y hy => by cases hy)⟩
  | cons z P ih =>
    obtain ⟨h1, h2⟩ := List.pairwise_cons.1 h
    cases hz : ltE os x z with
    | true =>
      refine ⟨[], z :: P, rfl, (fun y hy => by cases hy), fun y hy => ?_⟩
      rcases List.mem_cons.1 hy with rfl | hy
      · exact hz
      · cases hq : ltE os x y with
        | true => rfl
        | false =>
          have := cmpE_trans (h1 y hy) (ltE_f.1 hq)
          have h3 := ltE_t.1 hz
          rw [cmpE_neg] at h3
          omega
    | false =>
      obtain ⟨P1, P2, rfl, e1, e2⟩ := ih h2
      refine ⟨z :: P1, P2, rfl, fun y hy => ?_, e2⟩
      rcases List.mem_cons.1 hy with rfl | hy
      · exact hz
      · exact e1 y hy
theorem insE_cut {os : List Int} {P1 P2 : List Ent} {x : Ent} (h1 : ∀ y ∈ P1, ltE os x y = false) (h2 : ∀ y ∈ P2, ltE os x y = true) : insE os (P1 ++ P2) x = P1 ++ x :: P2 :=
  insE_eq h2 (fun z hz => h1 z (List.mem_of_getLast? hz))
theorem insE_merge {os : List Int} {S T : List Ent} (hS : InOrd os S) (hT : InOrd os T) (x : Ent) : insE os (mergeE os S T) x = mergeE os S (insE os T x) := by
  obtain ⟨S1, S2, rfl, a1, a2⟩ := hS.cut x
  obtain ⟨T1, T2, rfl, b1, b2⟩ := hT.cut x
  rw [insE_cut b1 b2]
  have c1 : ∀ y ∈ T1, ∀ z ∈ S2, ltE os y z = true := fun y hy z hz => ltE_le (b1 y hy) (a2 z hz)
  have c2 : ∀ z ∈ S1, ∀ y ∈ T2, ltE os y z = false := fun z hz y hy => ltE_asym (ltE_le (a1 z hz) (b2 y hy))
  rw [mergeE_split os S1 S2 T1 T2 c1 c2]
  have e1 : T1 ++ x :: T2 = (T1 ++ [x]) ++ T2 := by simp
  rw [e1, mergeE_split os S1 S2 (T1 ++ [x]) T2 (fun y hy z hz => by
    rcases List.mem_append.1 hy with hy | hy
    · exact c1 y hy z hz
    · rw [List.mem_singleton.1 hy]; exact a2 z hz) c2]
  have e2 := mergeE_split os S1 [] T1 [x] (fun y _ z hz => by cases hz) (fun z hz y hy => by rw [List.mem_singleton.1 hy]; exact a1 z hz)
  rw [List.append_nil, mergeE_nil_left] at e2
  rw [e2, insE_cut (fun y hy => by
    rcases mergeE_mem.1 hy with hy | hy
    · exact a1 y hy
    · exact b1 y hy) (fun y hy => by
    rcases mergeE_mem.1 hy with hy | hy
    · exact a2 y hy
    · exact b2 y hy)]
  simp
/-- what is merged of two sorted parts is the sorted whole -/
theorem sortE_append (os : List Int) (A B : List Ent) : sortE os (A ++ B) = mergeE os (sortE os A) (sortE os B) := by
  obtain ⟨n, hn⟩ : ∃ n, B.length = n := ⟨_, rfl⟩
  induction n generalizing B with
  | zero =>
    obtain rfl : B = [] := List.eq_nil_of_length_eq_zero hn
    rw [List.append_nil]
    exact (mergeE_nil_right os _).symm
  | succ n ih =>
    obtain ⟨C, x, rfl⟩ : ∃ C x, B = C ++ [x] := ⟨B.dropLast, B.getLast (by intro e; subst e; simp at hn), (List.dropLast_concat_getLast _).symm⟩
    rw [← List.append_assoc, sortE_snoc, ih C (by simpa using hn), sortE_snoc, insE_merge (sortE_ord os A) (sortE_ord os C)]

/-- an element of a list that is cut in parts -/
theorem at_mid {α : Type} {P L S : List α} {a c : Nat} (ha : P.length = a) (h1 : a ≤ c) (h2 : c < a + L.length) : (P ++ L ++ S)[c]? = L[c - a]? := by
  rw [List.append_assoc, List.getElem?_append_right (by omega), List.getElem?_append_left (by omega), ha]
theorem InOrd.le {os : List Int} {L : List Ent} (h : InOrd os L) {i j : Nat} {x y : Ent} (hij : i ≤ j) (hx : L[i]? = some x) (hy : L[j]? = some y) : ltE os y x = false := by
  by_cases e : i = j
  · subst e; rw [hx] at hy; injection hy with hy; subst hy
    cases h : ltE os x x with
    | false => rfl
    | true => have h2 := ltE_asym h; rw [h] at h2; cases h2
  · obtain ⟨hi, rfl⟩ := List.getElem?_eq_some_iff.1 hx
    obtain ⟨hj, rfl⟩ := List.getElem?_eq_some_iff.1 hy
    exact ltE_f.2 (List.pairwise_iff_getElem.1 h i j hi hj (by omega))
/-- a run that is cut where a number belongs -/
theorem mergeE_one_left {os : List Int} {x : Ent} {R1 R2 : List Ent} (h1 : ∀ y ∈ R1, ltE os y x = true) (h2 : ∀ y, R2.head? = some y → ltE os y x = false) : mergeE os [x] (R1 ++ R2) = R1 ++ x :: R2 := by
  have e := mergeE_split os [] [x] R1 R2 (fun y hy z hz => by rw [List.mem_singleton.1 hz]; exact h1 y hy) (fun z hz => by cases hz)
  rw [List.nil_append, mergeE_nil_left] at e
  rw [e]
  cases R2 with
  | nil => rw [mergeE_nil_right]
  | cons y R2 => rw [mergeE_left _ _ (h2 y rfl), mergeE_nil_left]
theorem mergeE_one_right {os : List Int} {x : Ent} {L1 L2 : List Ent} (h1 : ∀ y ∈ L1, ltE os x y = false) (h2 : ∀ y, L2.head? = some y → ltE os x y = true) : mergeE os (L1 ++ L2) [x] = L1 ++ x :: L2 := by
  have e := mergeE_split os L1 L2 [] [x] (fun y hy => by cases hy) (fun z hz y hy => by rw [List.mem_singleton.1 hy]; exact h1 z hz)
  rw [List.nil_append, mergeE_nil_right] at e
  rw [e]
  cases L2 with
  | nil => rw [mergeE_nil_left]
  | cons y L2 => rw [mergeE_right _ _ (h2 y rfl), mergeE_nil_right]
end Go.Proofs.Ytpjelcghlnmoeaa
