/- What the insertion sort of entries makes is a permutation of them, and stands in order. -/
import Derived.Test.YtmnadieblhdcpaaDoorG4
import Derived.Test.YtmnadieblhdcpaaDoorG2
import Derived.Test.YtmnadieblhdcpaaDoorG3
import Derived.Deep.DeepCutAuto
import Derived.Deep.RegionHeld3
import Derived.Deep.RegionLaw
import Derived.Test.YtmnadieblhdcpaaDoorG1
namespace Go.Proofs.YtmnadieblhdcpaaDoor

theorem insE_perm (os : List Int) (P : List Ent) (x : Ent) : (insE os P x).Perm (x :: P) := by
  unfold insE
  refine List.perm_middle.trans (List.Perm.cons x ?_)
  rw [← List.reverse_append, List.takeWhile_append_dropWhile, List.reverse_reverse]
theorem foldE_perm (os : List Int) (l P : List Ent) : (l.foldl (insE os) P).Perm (P ++ l) := by
  induction l generalizing P with
  | nil => simp
  | cons x l ih =>
    refine (ih (insE os P x)).trans ?_
    exact ((insE_perm os P x).append_right l).trans List.perm_middle.symm
theorem sortE_perm (os : List Int) (l : List Ent) : (sortE os l).Perm l := foldE_perm os l []

theorem cmpI_zero {x y : Int} : cmpI x y = 0 ↔ x = y := by unfold cmpI; split <;> (try split) <;> constructor <;> intro h <;> omega
theorem cmpI_le {x y : Int} : cmpI x y ≤ 0 ↔ x ≤ y := by unfold cmpI; split <;> (try split) <;> constructor <;> intro h <;> omega
theorem cmpI_neg (x y : Int) : cmpI y x = -cmpI x y := by unfold cmpI; split <;> split <;> omega
theorem cmpE_neg (os a b : List Int) : cmpE os b a = -cmpE os a b := by
  induction os with
  | nil => rfl
  | cons m os ih =>
    unfold cmpE
    rw [cmpI_neg (pickE a m) (pickE b m), ih]
    by_cases h : cmpI (pickE a m) (pickE b m) = 0
    · rw [if_pos (by omega), if_pos h]
    · rw [if_neg (by omega), if_neg h]
theorem cmpE_trans {os a b c : List Int} (h1 : cmpE os a b ≤ 0) (h2 : cmpE os b c ≤ 0) : cmpE os a c ≤ 0 := by
  induction os with
  | nil => exact Int.le_refl _
  | cons m os ih =>
    unfold cmpE at h1 h2 ⊢
    by_cases e1 : cmpI (pickE a m) (pickE b m) = 0
    · by_cases e2 : cmpI (pickE b m) (pickE c m) = 0
      · rw [if_pos e1] at h1
        rw [if_pos e2] at h2
        rw [if_pos (cmpI_zero.2 ((cmpI_zero.1 e1).trans (cmpI_zero.1 e2)))]
        exact ih h1 h2
      · rw [if_neg e2] at h2
        have e3 := cmpI_zero.1 e1
        rw [e3, if_neg e2]
        exact h2
    · rw [if_neg e1] at h1
      have k1 := cmpI_le.1 h1
      have k0 : pickE a m ≠ pickE b m := fun e => e1 (cmpI_zero.2 e)
      have k2 : pickE b m ≤ pickE c m := by
        by_cases e2 : cmpI (pickE b m) (pickE c m) = 0
        · exact Int.le_of_eq (cmpI_zero.1 e2)
        · rw [if_neg e2] at h2; exact cmpI_le.1 h2
      rw [if_neg (fun e => by have := cmpI_zero.1 e; omega)]
      exact cmpI_le.2 (by omega)
theorem takeWhile_all {α : Type} (p : α → Bool) (l : List α) : ∀ y ∈ l.takeWhile p, p y = true := by
  induction l with
  | nil => intro y hy; cases hy
  | cons x l ih =>
    intro y hy
    by_cases h : p x = true
    · rw [List.takeWhile_cons_of_pos h] at hy
      rcases List.mem_cons.1 hy with rfl | hy
      · exact h
      · exact ih y hy
    · rw [List.takeWhile_cons_of_neg h] at hy; cases hy
/-- in order -/
def InOrd (os : List Int) (l : List Ent) : Prop := l.Pairwise (fun x y => cmpE os x.cs y.cs ≤ 0)
theorem insE_ord {os : List Int} {P : List Ent} (x : Ent) (h : InOrd os P) : InOrd os (insE os P x) := by
  have hP : P = (P.reverse.dropWhile (ltE os x)).reverse ++ (P.reverse.takeWhile (ltE os x)).reverse := by
    rw [← List.reverse_append, List.takeWhile_append_dropWhile, List.reverse_reverse]
  have hT : ∀ y ∈ (P.reverse.takeWhile (ltE os x)).reverse, cmpE os x.cs y.cs ≤ 0 := fun y hy => by
    have := takeWhile_all _ _ y (List.mem_reverse.1 hy)
    unfold ltE at this
    have := of_decide_eq_true this
    omega
  have hD : ∀ z, (P.reverse.dropWhile (ltE os x)).head? = some z → cmpE os z.cs x.cs ≤ 0 := fun z hz => by
    have := List.head?_dropWhile_not (ltE os x) P.reverse
    rw [hz] at this
    simp only [ltE, decide_eq_false_iff_not] at this
    rw [cmpE_neg]
    omega
  unfold insE
  generalize (P.reverse.dropWhile (ltE os x)) = D at hP hD
  generalize (P.reverse.takeWhile (ltE os x)).reverse = T at hP hT
  unfold InOrd at h ⊢
  rw [hP, List.pairwise_append] at h
  obtain ⟨d1, d2, d3⟩ := h
  have hDx : ∀ y ∈ D.reverse, cmpE os y.cs x.cs ≤ 0 := by
    cases D with
    | nil => intro y hy; cases hy
    | cons z D =>
      have hz := hD z rfl
      intro y hy
      rw [List.reverse_cons] at hy d1
      rcases List.mem_append.1 hy with hy | hy
      · exact cmpE_trans ((List.pairwise_append.1 d1).2.2 y hy z (by simp)) hz
      · rw [List.mem_singleton.1 hy]; exact hz
  refine List.pairwise_append.2 ⟨d1, List.pairwise_cons.2 ⟨hT, d2⟩, fun y hy v hv => ?_⟩
  rcases List.mem_cons.1 hv with rfl | hv
  · exact hDx y hy
  · exact d3 y hy v hv
theorem sortE_ord (os : List Int) (l : List Ent) : InOrd os (sortE os l) := by
  have key : ∀ (l P : List Ent), InOrd os P → InOrd os (l.foldl (insE os) P) := by
    intro l
    induction l with
    | nil => exact fun P h => h
    | cons x l ih => exact fun P h => ih _ (insE_ord x h)
  exact key l [] List.Pairwise.nil
end Go.Proofs.YtmnadieblhdcpaaDoor
/- Two runs of entries in order, merged: where it may be cut in two; what is merged of two sorted parts is the sorted whole. Nothing is claimed of the program here. -/
namespace Go.Proofs.YtmnadieblhdcpaaDoor

/-- of two runs that stand in order the one that does: of those that are alike the first run's are ahead -/
def mergeE (os : List Int) (L R : List Ent) : List Ent := L.merge R (fun x y => !ltE os y x)
theorem mergeE_nil_left (os : List Int) (R : List Ent) : mergeE os [] R = R := by unfold mergeE; simp
theorem mergeE_nil_right (os : List Int) (L : List Ent) : mergeE os L [] = L := by unfold mergeE; simp
theorem mergeE_left {os : List Int} {x y : Ent} (L R : List Ent) (h : ltE os y x = false) : mergeE os (x :: L) (y :: R) = x :: mergeE os L (y :: R) := by
  unfold mergeE; rw [List.cons_merge_cons_pos]; simp [h]
theorem mergeE_right {os : List Int} {x y : Ent} (L R : List Ent) (h : ltE os y x = true) : mergeE os (x :: L) (y :: R) = y :: mergeE os (x :: L) R := by
  unfold mergeE; rw [List.cons_merge_cons_neg]; simp [h]
theorem mergeE_mem {os : List Int} {L R : List Ent} {x : Ent} : x ∈ mergeE os L R ↔ x ∈ L ∨ x ∈ R := by unfold mergeE; exact List.mem_merge
theorem mergeE_length (os : List Int) (L R : List Ent) : (mergeE os L R).length = L.length + R.length := by unfold mergeE; rw [List.length_merge]
theorem mergeE_split (os : List Int) (L1 L2 R1 R2 : List Ent) (h1 : ∀ y ∈ R1, ∀ x ∈ L2, ltE os y x = true) (h2 : ∀ x ∈ L1, ∀ y ∈ R2, ltE os y x = false) : mergeE os (L1 ++ L2) (R1 ++ R2) = mergeE os L1 R1 ++ mergeE os L2 R2 := by
  obtain ⟨n, hn⟩ : ∃ n, L1.length + R1.length = n := ⟨_, rfl⟩
  induction n generalizing L1 R1 with
  | zero =>
    obtain rfl : L1 = [] := List.eq_nil_of_length_eq_zero (by omega)
    obtain rfl : R1 = [] := List.eq_nil_of_length_eq_zero (by omega)
    rw [mergeE_nil_left]; rfl
  | succ n ih =>
    cases L1 with
    | nil =>
      cases R1 with
      | nil => simp at hn
      | cons y R1 =>
        rw [mergeE_nil_left, List.nil_append]
        cases L2 with
        | nil => rw [mergeE_nil_left, mergeE_nil_left]
        | cons x L2 =>
          rw [List.cons_append, mergeE_right _ _ (h1 y (by simp) x (by simp))]
          have := ih [] R1 (fun y hy => h1 y (List.mem_cons_of_mem _ hy)) (fun x hx => by cases hx) (by simp at hn ⊢; omega)
          rw [List.nil_append, mergeE_nil_left] at this
          rw [this]; rfl
    | cons x L1 =>
      cases R1 with
      | nil =>
        rw [mergeE_nil_right, List.nil_append]
        cases R2 with
        | nil => rw [mergeE_nil_right, mergeE_nil_right]
        | cons y R2 =>
          rw [List.cons_append, mergeE_left _ _ (h2 x (by simp) y (by simp))]
          have := ih L1 [] (fun y hy => by cases hy) (fun x hx => h2 x (List.mem_cons_of_mem _ hx)) (by simp at hn ⊢; omega)
          rw [List.nil_append, mergeE_nil_right] at this
          rw [this]; rfl
      | cons y R1 =>
        rw [List.cons_append, List.cons_append]
        cases h : ltE os y x with
        | true =>
          rw [mergeE_right _ _ h, mergeE_right _ _ h]
          have := ih (x :: L1) R1 (fun y hy => h1 y (List.mem_cons_of_mem _ hy)) h2 (by simp at hn ⊢; omega)
          rw [List.cons_append] at this
          rw [this]; rfl
        | false =>
          rw [mergeE_left _ _ h, mergeE_left _ _ h]
          have := ih L1 (y :: R1) h1 (fun x hx => h2 x (List.mem_cons_of_mem _ hx)) (by simp at hn ⊢; omega)
          rw [List.cons_append] at this
          rw [this]; rfl
theorem ltE_t {os : List Int} {x y : Ent} : ltE os x y = true ↔ cmpE os x.cs y.cs < 0 := by unfold ltE; exact decide_eq_true_iff
theorem ltE_f {os : List Int} {x y : Ent} : ltE os x y = false ↔ cmpE os y.cs x.cs ≤ 0 := by
  unfold ltE; rw [decide_eq_false_iff_not, cmpE_neg os y.cs x.cs]; omega
/-- not behind, and behind: behind -/
theorem ltE_le {os : List Int} {x y z : Ent} (h1 : ltE os x y = false) (h2 : ltE os x z = true) : ltE os y z = true := by
  cases h : ltE os y z with
  | true => rfl
  | false =>
    have := cmpE_trans (ltE_f.1 h) (ltE_f.1 h1)
    have h3 := ltE_t.1 h2
    rw [cmpE_neg] at h3
    omega
theorem ltE_asym {os : List Int} {x y : Ent} (h : ltE os x y = true) : ltE os y x = false := ltE_f.2 (by have := ltE_t.1 h; omega)
theorem InOrd.cut {os : List Int} {P : List Ent} (h : InOrd os P) (x : Ent) : ∃ P1 P2, P = P1 ++ P2 ∧ (∀ y ∈ P1, ltE os x y = false) ∧ (∀ y ∈ P2, ltE os x y = true) := by
  induction P with
  | nil => exact ⟨[], [], rfl, (fun y hy => by cases hy), (fun y hy => by cases hy)⟩
  | cons z P ih =>
    obtain ⟨h1, h2⟩ := List.pairwise_cons.1 h
    cases hz : ltE os x z with
    | true =>
      refine ⟨[], z :: P, rfl, (fun y hy => by cases hy), fun y hy => ?_⟩
      rcases List.mem_cons.1 hy with rfl | hy
      · exact hz
      · cases hq : ltE os x y with
        | true => rfl
        | false =>
          have := cmpE_trans (h1 y hy) (ltE_f.1 hq)
          have h3 := ltE_t.1 hz
          rw [cmpE_neg] at h3
          omega
    | false =>
      obtain ⟨P1, P2, rfl, e1, e2⟩ := ih h2
      refine ⟨z :: P1, P2, rfl, fun y hy => ?_, e2⟩
      rcases List.mem_cons.1 hy with rfl | hy
      · exact hz
      · exact e1 y hy
theorem insE_cut {os : List Int} {P1 P2 : List Ent} {x : Ent} (h1 : ∀ y ∈ P1, ltE os x y = false) (h2 : ∀ y ∈ P2, ltE os x y = true) : insE os (P1 ++ P2) x = P1 ++ x :: P2 :=
  insE_eq h2 (fun z hz => h1 z (List.mem_of_getLast? hz))
theorem insE_merge {os : List Int} {S T : List Ent} (hS : InOrd os S) (hT : InOrd os T) (x : Ent) : insE os (mergeE os S T) x = mergeE os S (insE os T x) := by
  obtain ⟨S1, S2, rfl, a1, a2⟩ := hS.cut x
  obtain ⟨T1, T2, rfl, b1, b2⟩ := hT.cut x
  rw [insE_cut b1 b2]
  have c1 : ∀ y ∈ T1, ∀ z ∈ S2, ltE os y z = true := fun y hy z hz => ltE_le (b1 y hy) (a2 z hz)
  have c2 : ∀ z ∈ S1, ∀ y ∈ T2, ltE os y z = false := fun z hz y hy => ltE_asym (ltE_le (a1 z hz) (b2 y hy))
  rw [mergeE_split os S1 S2 T1 T2 c1 c2]
  have e1 : T1 ++ x :: T2 = (T1 ++ [x]) ++ T2 := by simp
  rw [e1, mergeE_split os S1 S2 (T1 ++ [x]) T2 (fun y hy z hz => by
    rcases List.mem_append.1 hy with hy | hy
    · exact c1 y hy z hz
    · rw [List.mem_singleton.1 hy]; exact a2 z hz) c2]
  have e2 := mergeE_split os S1 [] T1 [x] (fun y _ z hz => by cases hz) (fun z hz y hy => by rw [List.mem_singleton.1 hy]; exact a1 z hz)
  rw [List.append_nil, mergeE_nil_left] at e2
  rw [e2, insE_cut (fun y hy => by
    rcases mergeE_mem.1 hy with hy | hy
    · exact a1 y hy
    · exact b1 y hy) (fun y hy => by
    rcases mergeE_mem.1 hy with hy | hy
    · exact a2 y hy
    · exact b2 y hy)]
  simp
/-- what is merged of two sorted parts is the sorted whole -/
theorem sortE_append (os : List Int) (A B : List Ent) : sortE os (A ++ B) = mergeE os (sortE os A) (sortE os B) := by
  obtain ⟨n, hn⟩ : ∃ n, B.length = n := ⟨_, rfl⟩
  induction n generalizing B with
  | zero =>
    obtain rfl : B = [] := List.eq_nil_of_length_eq_zero hn
    rw [List.append_nil]
    exact (mergeE_nil_right os _).symm
  | succ n ih =>
    obtain ⟨C, x, rfl⟩ : ∃ C x, B = C ++ [x] := ⟨B.dropLast, B.getLast (by intro e; subst e; simp at hn), (List.dropLast_concat_getLast _).symm⟩
    rw [← List.append_assoc, sortE_snoc, ih C (by simpa using hn), sortE_snoc, insE_merge (sortE_ord os A) (sortE_ord os C)]

/-- an element of a list that is cut in parts -/
theorem at_mid {α : Type} {P L S : List α} {a c : Nat} (ha : P.length = a) (h1 : a ≤ c) (h2 : c < a + L.length) : (P ++ L ++ S)[c]? = L[c - a]? := by
  rw [List.append_assoc, List.getElem?_append_right (by omega), List.getElem?_append_left (by omega), ha]
theorem InOrd.le {os : List Int} {L : List Ent} (h : InOrd os L) {i j : Nat} {x y : Ent} (hij : i ≤ j) (hx : L[i]? = some x) (hy : L[j]? = some y) : ltE os y x = false := by
  by_cases e : i = j
  · subst e; rw [hx] at hy; injection hy with hy; subst hy
    cases h : ltE os x x with
    | false => rfl
    | true => have h2 := ltE_asym h; rw [h] at h2; cases h2
  · obtain ⟨hi, rfl⟩ := List.getElem?_eq_some_iff.1 hx
    obtain ⟨hj, rfl⟩ := List.getElem?_eq_some_iff.1 hy
    exact ltE_f.2 (List.pairwise_iff_getElem.1 h i j hi hj (by omega))
/-- a run that is cut where a number belongs -/
theorem mergeE_one_left {os : List Int} {x : Ent} {R1 R2 : List Ent} (h1 : ∀ y ∈ R1, ltE os y x = true) (h2 : ∀ y, R2.head? = some y → ltE os y x = false) : mergeE os [x] (R1 ++ R2) = R1 ++ x :: R2 := by
  have e := mergeE_split os [] [x] R1 R2 (fun y hy z hz => by rw [List.mem_singleton.1 hz]; exact h1 y hy) (fun z hz => by cases hz)
  rw [List.nil_append, mergeE_nil_left] at e
  rw [e]
  cases R2 with
  | nil => rw [mergeE_nil_right]
  | cons y R2 => rw [mergeE_left _ _ (h2 y rfl), mergeE_nil_left]
theorem mergeE_one_right {os : List Int} {x : Ent} {L1 L2 : List Ent} (h1 : ∀ y ∈ L1, ltE os x y = false) (h2 : ∀ y, L2.head? = some y → ltE os x y = true) : mergeE os (L1 ++ L2) [x] = L1 ++ x :: L2 := by
  have e := mergeE_split os L1 L2 [] [x] (fun y hy => by cases hy) (fun z hz y hy => by rw [List.mem_singleton.1 hy]; exact h1 z hz)
  rw [List.nil_append, mergeE_nil_right] at e
  rw [e]
  cases L2 with
  | nil => rw [mergeE_nil_left]
  | cons y L2 => rw [mergeE_right _ _ (h2 y rfl), mergeE_nil_right]
end Go.Proofs.YtmnadieblhdcpaaDoor
/- slices.swapRangeCmpFunc and slices.rotateCmpFunc at entries. -/
namespace Go.Proofs.YtmnadieblhdcpaaDoor
open Go.RowKit

theorem swap_two {α : Type} (P Q S : List α) (x y : α) {k l : Nat} (hk : P.length = k) (hl : k + 1 + Q.length = l) : ((P ++ x :: Q ++ y :: S).set k y).set l x = P ++ y :: Q ++ x :: S := by
  subst hk
  subst hl
  induction P with
  | nil =>
    simp only [List.nil_append, List.length_nil, List.cons_append, List.set_cons_zero, Nat.zero_add]
    rw [Nat.add_comm 1, List.set_cons_succ]
    congr 1
    rw [List.set_append_right _ _ (Nat.le_refl _), Nat.sub_self, List.set_cons_zero]
  | cons z P ih =>
    simp only [List.cons_append, List.length_cons, List.set_cons_succ]
    have e : P.length + 1 + 1 + Q.length = P.length + 1 + Q.length + 1 := by omega
    rw [e, List.set_cons_succ]
    congr 1
theorem grown_four {w0 w : World} {g : Nat} (h : w0.grownBy w (some g)) (k l : Nat) (v1 v2 v3 v4 : Value) :
    w0.grownBy ((((w.setCell ⟨g, k * 2, none⟩ v1).setCell ⟨g, k * 2 + 1, none⟩ v2).setCell ⟨g, l * 2, none⟩ v3).setCell ⟨g, l * 2 + 1, none⟩ v4) (some g) :=
  grownBy_setE (grownBy_setE (grownBy_setE (grownBy_setE h _ _) _ _) _ _) _ _
theorem grown_same (w : World) (g : Nat) : w.grownBy w (some g) := ⟨rfl, rfl, rfl, Nat.le_refl _, fun _ _ _ => rfl⟩
theorem grown_trans {w0 w1 w2 : World} {g : Nat} (h : w0.grownBy w1 (some g)) (h2 : w1.grownBy w2 (some g)) : w0.grownBy w2 (some g) :=
  ⟨h2.os.trans h.os, h2.tape.trans h.tape, h2.output.trans h.output, Nat.le_trans h.size h2.size, fun i hi hne => (h2.block i (Nat.lt_of_lt_of_le hi h.size) hne).trans (h.block i hi hne)⟩
theorem grown_drew {w w' : World} {g : Nat} (h : w.grownBy w' (some g)) : w.grownBy w'.drew (some g) := grown_below' h (Below.refl _ _).drew
end Go.Proofs.YtmnadieblhdcpaaDoor
/- slices.symMergeCmpFunc at entries, where one of the two runs has a single one. -/
namespace Go.Proofs.YtmnadieblhdcpaaDoor
open Go.RowKit

/-- what a sort of the entries es in block g asks for: their places and the order lie outside of it -/
structure CtxE (w : World) (g bo : Nat) (Ao : Option Addr) (ro co : Nat) (os : List Int) (es : List Ent) : Prop where
  ents : ∀ x ∈ es, IntsOff w g x.A x.n x.cs ∧ (∀ m ∈ os, 0 ≤ m ∧ m < x.n) ∧ -9223372036854775808 ≤ x.v ∧ x.v ≤ 9223372036854775807
  ord : IntsOff w g Ao ro os
  cell : w.cell? ⟨bo, 0, none⟩ = some (.slice Ao ro co)
  off : bo ≠ g
  few : ro ≤ 100000
theorem CtxE.grown {w wr : World} {g bo ro co : Nat} {Ao : Option Addr} {os : List Int} {es es' : List Ent} (h : CtxE w g bo Ao ro co os es) (hg : w.grownBy wr (some g)) (hs : ∀ x ∈ es', x ∈ es) : CtxE wr g bo Ao ro co os es' :=
  ⟨fun x hx => ⟨⟨(h.ents x (hs x hx)).1.grown hg, (h.ents x (hs x hx)).1.2⟩, (h.ents x (hs x hx)).2⟩, ⟨h.ord.grown hg, h.ord.2⟩, hg.cell h.cell (fun e => h.off (by injection e)), h.off, h.few⟩
theorem lt_of_neg {r : Int} (h : r < 0) : decide (r < 0) = true := decide_eq_true h
theorem InOrd.hit {os : List Int} {R : List Ent} (h : InOrd os R) {k : Nat} {z x : Ent} (hz : R[k]? = some z) (hx : ltE os z x = true) : ∀ (q : Nat) (y : Ent), q < k + 1 → R[q]? = some y → ltE os y x = true :=
  fun _ _ hq hy => ltE_le (h.le (by omega) hy hz) hx
theorem InOrd.miss {os : List Int} {R : List Ent} (h : InOrd os R) {k : Nat} {z x : Ent} (hz : R[k]? = some z) (hx : ltE os z x = false) : ∀ (q : Nat) (y : Ent), k ≤ q → R[q]? = some y → ltE os y x = false := fun q y hq hy => by
  cases e : ltE os y x with
  | false => rfl
  | true => have := ltE_le (h.le hq hz hy) e; rw [hx] at this; cases this
theorem InOrd.hit' {os : List Int} {L : List Ent} (h : InOrd os L) {k : Nat} {z x : Ent} (hz : L[k]? = some z) (hx : ltE os x z = true) : ∀ (q : Nat) (y : Ent), k ≤ q → L[q]? = some y → ltE os x y = true := fun q y hq hy => by
  cases e : ltE os x y with
  | true => rfl
  | false =>
    have h1 := ltE_f.1 e
    have h2 := cmpE_trans (ltE_f.1 (h.le hq hz hy)) h1
    have h3 := ltE_t.1 hx
    rw [cmpE_neg] at h3
    omega
theorem InOrd.miss' {os : List Int} {L : List Ent} (h : InOrd os L) {k : Nat} {z x : Ent} (hz : L[k]? = some z) (hx : ltE os x z = false) : ∀ (q : Nat) (y : Ent), q < k + 1 → L[q]? = some y → ltE os x y = false :=
  fun _ _ hq hy => ltE_f.2 (cmpE_trans (ltE_f.1 (h.le (by omega) hy hz)) (ltE_f.1 hx))

end Go.Proofs.YtmnadieblhdcpaaDoor
/- Where two runs in order may be cut. Nothing is claimed of the program here. -/
namespace Go.Proofs.YtmnadieblhdcpaaDoor
open Go.RowKit

theorem mergeE_cut {os : List Int} {L R : List Ent} {u v : Nat} (hL : InOrd os L) (hR : InOrd os R) (hB : u = 0 ∨ v = R.length ∨ ∃ x y, L[u - 1]? = some x ∧ R[v]? = some y ∧ ltE os y x = false) (hA : v = 0 ∨ u = L.length ∨ ∃ x y, L[u]? = some x ∧ R[v - 1]? = some y ∧ ltE os y x = true) :
    mergeE os L R = mergeE os (L.take u) (R.take v) ++ mergeE os (L.drop u) (R.drop v) := by
  conv => lhs; rw [← List.take_append_drop u L, ← List.take_append_drop v R]
  refine mergeE_split os _ _ _ _ (fun y hy x hx => ?_) (fun x hx y hy => ?_)
  · obtain ⟨q, hq⟩ := List.getElem?_of_mem hy
    have hql := (List.getElem?_eq_some_iff.1 hq).1
    rw [List.length_take] at hql
    rw [List.getElem?_take_of_lt (by omega)] at hq
    obtain ⟨s, hs⟩ := List.getElem?_of_mem hx
    rw [List.getElem?_drop] at hs
    have hsl := (List.getElem?_eq_some_iff.1 hs).1
    rcases hA with rfl | rfl | ⟨x0, y0, h1, h2, h3⟩
    · omega
    · omega
    · exact hL.hit' h1 (hR.hit h2 h3 q y (by omega) hq) _ x (by omega) hs
  · obtain ⟨q, hq⟩ := List.getElem?_of_mem hx
    have hql := (List.getElem?_eq_some_iff.1 hq).1
    rw [List.length_take] at hql
    rw [List.getElem?_take_of_lt (by omega)] at hq
    obtain ⟨s, hs⟩ := List.getElem?_of_mem hy
    rw [List.getElem?_drop] at hs
    have hsl := (List.getElem?_eq_some_iff.1 hs).1
    rcases hB with rfl | rfl | ⟨x0, y0, h1, h2, h3⟩
    · omega
    · omega
    · exact hL.miss' h1 (hR.miss h2 h3 _ y (by omega) hs) q x (by omega) hq
end Go.Proofs.YtmnadieblhdcpaaDoor
/- slices.symMergeCmpFunc at entries, where both runs have two or more and the second one begins behind the middle. -/
namespace Go.Proofs.YtmnadieblhdcpaaDoor
open Go.RowKit

end Go.Proofs.YtmnadieblhdcpaaDoor
/- slices.symMergeCmpFunc at entries, where both runs have two or more and the second one begins ahead of, or at the middle. -/
namespace Go.Proofs.YtmnadieblhdcpaaDoor
open Go.RowKit

end Go.Proofs.YtmnadieblhdcpaaDoor
/- slices.symMergeCmpFunc at entries, at any two runs that stand in order. -/
namespace Go.Proofs.YtmnadieblhdcpaaDoor
open Go.RowKit

theorem one_of {α : Type} {L : List α} (h : L.length = 1) : ∃ x, L = [x] := by
  match L, h with
  | [x], _ => exact ⟨x, rfl⟩
end Go.Proofs.YtmnadieblhdcpaaDoor
/- A list that is sorted in parts, and the parts merged. Nothing is claimed of the program here. -/
namespace Go.Proofs.YtmnadieblhdcpaaDoor
open Go.RowKit

/-- each s of a list sorted by themselves -/
def allF (os : List Int) (s : Nat) : Nat → List Ent → List Ent
  | 0, _ => []
  | f + 1, l => sortE os (l.take s) ++ allF os s f (l.drop s)
def allP (os : List Int) (s : Nat) (l : List Ent) : List Ent := allF os s l.length l
def chunkP (os : List Int) (s : Nat) (es : List Ent) : Nat → List Ent
  | 0 => []
  | t + 1 => chunkP os s es t ++ sortE os ((es.drop (t * s)).take s)
theorem sortE_nil (os : List Int) : sortE os [] = [] := rfl
theorem allF_nil (os : List Int) (s f : Nat) : allF os s f [] = [] := by
  induction f with
  | zero => rfl
  | succ f ih => unfold allF; rw [List.take_nil, List.drop_nil, ih]; rfl
theorem allF_more (os : List Int) {s : Nat} (hs : 1 ≤ s) (f f' : Nat) (l : List Ent) (h : l.length ≤ f) (h' : l.length ≤ f') : allF os s f l = allF os s f' l := by
  induction f generalizing f' l with
  | zero =>
    obtain rfl : l = [] := List.eq_nil_of_length_eq_zero (by omega)
    rw [allF_nil, allF_nil]
  | succ f ih =>
    cases f' with
    | zero =>
      obtain rfl : l = [] := List.eq_nil_of_length_eq_zero (by omega)
      rw [allF_nil, allF_nil]
    | succ f' =>
      unfold allF
      by_cases h0 : l.length = 0
      · obtain rfl : l = [] := List.eq_nil_of_length_eq_zero h0
        rw [List.drop_nil, allF_nil, allF_nil]
      · rw [ih f' (l.drop s) (by rw [List.length_drop]; omega) (by rw [List.length_drop]; omega)]
theorem allP_step (os : List Int) {s : Nat} (hs : 1 ≤ s) (l : List Ent) : allP os s l = sortE os (l.take s) ++ allP os s (l.drop s) := by
  unfold allP
  cases h : l.length with
  | zero =>
    obtain rfl : l = [] := List.eq_nil_of_length_eq_zero h
    rw [List.take_nil, List.drop_nil]; rfl
  | succ n =>
    conv => lhs; unfold allF
    rw [allF_more os hs n (l.drop s).length (l.drop s) (by rw [List.length_drop]; omega) (Nat.le_refl _)]
theorem allP_nil (os : List Int) (s : Nat) : allP os s [] = [] := allF_nil os s _
theorem allP_few (os : List Int) {s : Nat} (hs : 1 ≤ s) {l : List Ent} (h : l.length ≤ s) : allP os s l = sortE os l := by
  rw [allP_step os hs, List.take_of_length_le h, List.drop_of_length_le h, allP_nil, List.append_nil]
theorem sortE_len (os : List Int) (l : List Ent) : (sortE os l).length = l.length := (sortE_facts os l).1
theorem allF_len (os : List Int) (s f : Nat) (hs : 1 ≤ s) (l : List Ent) (h : l.length ≤ f) : (allF os s f l).length = l.length := by
  induction f generalizing l with
  | zero =>
    obtain rfl : l = [] := List.eq_nil_of_length_eq_zero (by omega)
    rfl
  | succ f ih =>
    unfold allF
    by_cases h0 : l.length = 0
    · obtain rfl : l = [] := List.eq_nil_of_length_eq_zero h0
      rw [List.drop_nil, allF_nil, List.take_nil]; rfl
    · rw [List.length_append, sortE_len, ih (l.drop s) (by rw [List.length_drop]; omega), List.length_take, List.length_drop]; omega
theorem allP_len (os : List Int) {s : Nat} (hs : 1 ≤ s) (l : List Ent) : (allP os s l).length = l.length := allF_len os s _ hs l (Nat.le_refl _)
theorem chunkP_len (os : List Int) (s : Nat) (es : List Ent) (t : Nat) (h : t * s ≤ es.length) : (chunkP os s es t).length = t * s := by
  induction t with
  | zero => simp [chunkP]
  | succ t ih =>
    have h2 : (t + 1) * s = t * s + s := by rw [Nat.add_mul, Nat.one_mul]
    unfold chunkP
    rw [List.length_append, ih (by omega), sortE_len, List.length_take, List.length_drop]
    omega
theorem chunkP_all (os : List Int) {s : Nat} (hs : 1 ≤ s) (es : List Ent) (t : Nat) : chunkP os s es t ++ allP os s (es.drop (t * s)) = allP os s es := by
  induction t with
  | zero => simp [chunkP]
  | succ t ih =>
    unfold chunkP
    rw [← ih, allP_step os hs (es.drop (t * s)), List.drop_drop, List.append_assoc]
    congr 2
    rw [Nat.add_mul, Nat.one_mul]
theorem allP_two (os : List Int) {s : Nat} (hs : 1 ≤ s) (l : List Ent) : allP os s l = sortE os (l.take s) ++ sortE os ((l.drop s).take s) ++ allP os s (l.drop (2 * s)) := by
  rw [allP_step os hs l, allP_step os hs (l.drop s), List.drop_drop, ← List.append_assoc, show s + s = 2 * s by omega]
theorem merge_two (os : List Int) (s : Nat) (l : List Ent) : mergeE os (sortE os (l.take s)) (sortE os ((l.drop s).take s)) = sortE os (l.take (2 * s)) := by
  rw [← sortE_append]
  congr 1
  rw [show 2 * s = s + s by omega, List.take_add]
theorem merge_rest (os : List Int) (s : Nat) (l : List Ent) : mergeE os (sortE os (l.take s)) (sortE os (l.drop s)) = sortE os l := by
  rw [← sortE_append, List.take_append_drop]
theorem sortE_sub {os : List Int} {l : List Ent} {x : Ent} (h : x ∈ sortE os l) : x ∈ l := (sortE_facts os l).2 x h

end Go.Proofs.YtmnadieblhdcpaaDoor
/- slices.stableCmpFunc and slices.SortStableFunc at entries, at any length: what the insertion sort of all of them makes. -/
namespace Go.Proofs.YtmnadieblhdcpaaDoor
open Go.RowKit

end Go.Proofs.YtmnadieblhdcpaaDoor
/- coo.clone: the list is the same, and shares nothing. -/
namespace Go.Proofs.YtmnadieblhdcpaaDoor

section
open Go.RowKit
theorem cellsE_one (es : List Ent) : ∀ u ∈ cellsE es, u.oneCell' = true := by
  induction es with
  | nil => intro u hu; cases hu
  | cons x es ih =>
    intro u hu
    simp only [cellsE, List.mem_cons] at hu
    rcases hu with rfl | rfl | hu
    · rfl
    · rfl
    · exact ih u hu
theorem Ents.cells {w : World} {B n : Nat} {ad : Addr} {es : List Ent} (h : Ents w B (some ad) n es) : ∀ (j : Nat) (u : Value), (cellsE es)[j]? = some u → w.cell? (ad.add j) = some u := by
  intro j u hu
  have hj := (List.getElem?_eq_some_iff.1 hu).1
  rw [cellsE_length] at hj
  obtain ⟨hl, _, hc⟩ := h
  obtain ⟨b, off, e, _, hx⟩ := hc (by omega)
  injection e with e
  subst e
  have hk : j / 2 < es.length := by omega
  have hx' := hx (j / 2) _ (List.getElem?_eq_getElem hk)
  have hce := cellsE_at (List.getElem?_eq_getElem hk)
  have hadd : (Addr.add ⟨b, off, none⟩ j : Addr) = ⟨b, off + j, none⟩ := by
    by_cases h0 : j = 0
    · subst h0; simp [Addr.add]
    · simp [Addr.add, h0]
  rw [hadd]
  rcases Nat.mod_two_eq_zero_or_one j with hm | hm
  · obtain ⟨k, rfl⟩ : ∃ k, j = 2 * k := ⟨j / 2, by omega⟩
    have e : 2 * k / 2 = k := by omega
    simp only [e] at hx' hce
    rw [hce.1] at hu
    injection hu with hu
    subst hu
    exact hx'.1
  · obtain ⟨k, rfl⟩ : ∃ k, j = 2 * k + 1 := ⟨j / 2, by omega⟩
    have e : (2 * k + 1) / 2 = k := by omega
    simp only [e] at hx' hce
    rw [hce.2] at hu
    injection hu with hu
    subst hu
    rw [← Nat.add_assoc]
    exact hx'.2
theorem emptyRow2 (w : World) (e : TypeId) : (w.alloc (.cells #[] e)).ownsRow w.heap.size e 2 (.slice (some ⟨w.heap.size, 0, none⟩) 0 0) 0 [] :=
  ⟨by simp, .inr ⟨w.heap.size, 0, #[], rfl, Nat.le_refl _, heap_alloc_new w _, Nat.le_refl _, by unfold maxLen; omega, by simp, by simp⟩⟩
theorem rowE_form {w : World} {base n : Nat} {e : TypeId} {v : Value} {ys : List Value} (h : w.ownsRow base e 2 v n ys) : ∃ A c, v = .slice A n c := by
  rcases h.2 with ⟨rfl, rfl⟩ | ⟨g, cap, cur, rfl, _⟩
  · exact ⟨_, _, rfl⟩
  · exact ⟨_, _, rfl⟩
end

section
open Go.RowKit
theorem pair_cells {w : World} {g : Nat} {u v : Value} {t : TypeId} (h : w.heap[g]? = some (.cells #[u, v] t (0, 0))) : w.cell? ⟨g, 0, none⟩ = some u ∧ w.cell? ⟨g, 1, none⟩ = some v ∧ w.frozen? ⟨g, 0, none⟩ = false ∧ w.frozen? ⟨g, 1, none⟩ = false :=
  ⟨(cell_of_row _ _ 0 _ t (0, 0) h).trans (by simp), (cell_of_row _ _ 1 _ t (0, 0) h).trans (by simp), by simp [World.frozen?, h], by simp [World.frozen?, h]⟩
theorem lt_of_heap {w : World} {g : Nat} {o : Obj} (h : w.heap[g]? = some o) : g < w.heap.size := (Array.getElem?_eq_some_iff.1 h).1
theorem rows_ne {w : World} {base g size n : Nat} {e e' : TypeId} {v : Value} {xs : List Value} {cs : Array Value} {fr : Nat × Nat} (h : w.ownsRow base e size v n xs) (hg : w.heap[g]? = some (.cells cs e' fr)) (hne : e ≠ e') : v.ownBlock = none ∨ v.ownBlock ≠ some g := by
  right
  intro hq
  rcases h.2 with ⟨h1, _⟩ | ⟨g', cap, cur, h1, _, hh, _⟩
  · rw [h1] at hq; cases hq
  · rw [h1] at hq
    have : g' = g := by simpa [Value.ownBlock] using hq
    subst this
    rw [hg] at hh
    injection hh with hh
    injection hh with _ hh
    exact hne hh.symm
theorem set_two (w : World) (g : Nat) (u v a b : Value) (t : TypeId) (h : w.heap[g]? = some (.cells #[u, v] t (0, 0))) :
    ((w.setCell ⟨g, 0, none⟩ a).setCell ⟨g, 1, none⟩ b).heap[g]? = some (.cells #[a, b] t (0, 0)) ∧ w.grownBy ((w.setCell ⟨g, 0, none⟩ a).setCell ⟨g, 1, none⟩ b) (some g) := by
  refine ⟨?_, grownBy_setE (grownBy_setE (grown_same w g) _ _) _ _⟩
  have h1 := blkE_set (i := 0) (cs := [u, v]) h a
  have h2 := blkE_set (i := 1) h1 b
  simpa using h2
/-- the entries' places and numbers, but for where the places lie -/
def keyE (x : Ent) : List Int × Int × Nat := (x.cs, x.v, x.n)
/-- an entry whose place is the call's own, outside of block g -/
def NewE (w : World) (base g : Nat) (x : Ent) : Prop := IntsOff w g x.A x.n x.cs ∧ (∀ b off, x.A = some ⟨b, off, none⟩ → base ≤ b ∧ b < w.heap.size ∧ ∃ cs t, w.heap[b]? = some (.cells cs t (0, 0))) ∧ x.n ≤ x.c ∧ -9223372036854775808 ≤ x.v ∧ x.v ≤ 9223372036854775807
theorem NewE.grown {w wr : World} {base g : Nat} {x : Ent} (h : NewE w base g x) (hg : w.grownBy wr (some g)) : NewE wr base g x := ⟨⟨h.1.grown hg, h.1.2⟩, fun b off e => ⟨(h.2.1 b off e).1, Nat.lt_of_lt_of_le (h.2.1 b off e).2.1 hg.size, by obtain ⟨cs, t, hc⟩ := (h.2.1 b off e).2.2; exact ⟨cs, t, (hg.block b (h.2.1 b off e).2.1 (by intro e2; injection e2 with e2; exact h.1.2 b off e e2)).trans hc⟩⟩, h.2.2⟩
theorem Ints.grown_lt {w wr : World} {B g n : Nat} {A : Option Addr} {xs : List Int} (h : Ints w B A n xs) (hg : w.grownBy wr (some g)) (hB : B ≤ g) (hs : B ≤ w.heap.size) : Ints wr B A n xs :=
  h.keep fun p hp => by
    have := hg.block p.block (by omega) (by intro e; injection e with e; omega)
    simp only [World.cell?, this]
theorem OwnI.newE {w : World} {base g c : Nat} {A : Option Addr} {cs : List Int} {v : Int} (h : OwnI w base 3 A c cs) (hg : g < base) (hv : -9223372036854775808 ≤ v ∧ v ≤ 9223372036854775807) : NewE w base g ⟨A, cs.length, c, cs, v⟩ := by
  refine ⟨⟨h.ints, ?_⟩, ?_, ?_, hv⟩
  all_goals
    dsimp only
    rcases h.1.2 with ⟨h1, h2⟩ | ⟨g', cap, cur, h1, h2, hh, h4, _⟩
  · intro b off e; injection h1 with h1; rw [h1] at e; cases e
  · intro b off e; injection h1 with h1; rw [h1] at e; injection e with e; injection e with e; omega
  · intro b off e; injection h1 with h1; rw [h1] at e; cases e
  · intro b off e; injection h1 with h1 h1b; subst h1; injection e with e; injection e with e; subst e; exact ⟨h2, (h.1.lt g' rfl).2, _, _, hh⟩
  · omega
  · injection h1 with _ _ h1; omega
theorem NewE.far {w wr : World} {base g q : Nat} {x : Ent} (h : NewE w base g x) (hg : w.grownBy wr (some q)) (hq : q < base) : NewE wr base g x := by
  refine ⟨⟨⟨h.1.1.1, h.1.1.2.1, fun h0 => ?_⟩, h.1.2⟩, fun b off e => ⟨(h.2.1 b off e).1, Nat.lt_of_lt_of_le (h.2.1 b off e).2.1 hg.size, by obtain ⟨cs, t, hc⟩ := (h.2.1 b off e).2.2; exact ⟨cs, t, (hg.block b (h.2.1 b off e).2.1 (by have := (h.2.1 b off e).1; intro e2; injection e2 with e2; omega)).trans hc⟩⟩, h.2.2⟩
  obtain ⟨b, off, e, hB, hx⟩ := h.1.1.2.2 h0
  have hb := (h.2.1 b off e).1
  exact ⟨b, off, e, Nat.lt_of_lt_of_le hB hg.size, fun k y hy => hg.cell (hx k y hy) (fun e => by injection e with e; dsimp only at e; omega)⟩
theorem NewE.mono {w : World} {base base' g : Nat} {x : Ent} (h : NewE w base g x) (hb : base' ≤ base) : NewE w base' g x := ⟨h.1, fun b off e => ⟨Nat.le_trans hb (h.2.1 b off e).1, (h.2.1 b off e).2⟩, h.2.2⟩
theorem set_head {Ds R : List Ent} {k : Nat} (y x : Ent) (h : Ds.length = k) : (Ds ++ y :: R).set k x = Ds ++ [x] ++ R := by
  subst h
  rw [List.set_append_right _ _ (Nat.le_refl _), Nat.sub_self, List.set_cons_zero]
  simp
end
end Go.Proofs.YtmnadieblhdcpaaDoor
/- Entries of the call's own, whose places are its own. -/
namespace Go.Proofs.YtmnadieblhdcpaaDoor
open Go.RowKit

theorem set_snd (w : World) (g : Nat) (u v b : Value) (t : TypeId) (h : w.heap[g]? = some (.cells #[u, v] t (0, 0))) :
    (w.setCell ⟨g, 1, none⟩ b).heap[g]? = some (.cells #[u, b] t (0, 0)) ∧ w.grownBy (w.setCell ⟨g, 1, none⟩ b) (some g) := by
  refine ⟨?_, grownBy_setE (grown_same w g) _ _⟩
  have h1 := blkE_set (i := 1) (cs := [u, v]) h b
  simpa using h1

theorem keep_b {w w' : World} {k : Nat} {o : Obj} (h : Below w.heap.size w w') (hk : w.heap[k]? = some o) : w'.heap[k]? = some o := (h.block k (lt_of_heap hk)).trans hk
/-- an entry whose place is of the call's own -/
def OwnP (w : World) (base : Nat) (x : Ent) : Prop := OwnI w base 3 x.A x.c x.cs ∧ x.n = x.cs.length ∧ -9223372036854775808 ≤ x.v ∧ x.v ≤ 9223372036854775807
end Go.Proofs.YtmnadieblhdcpaaDoor
/- Plain facts of levels, without the program: when a level may be, how its children are numbered, and at which places they are. Nothing is claimed of the program here. -/
namespace Go.Proofs.YtmnadieblhdcpaaDoor
open Go.RowKit

noncomputable def pB (P : Prop) : Bool := @decide P (Classical.propDecidable P)
theorem pB_t {P : Prop} (h : P) : pB P = true := @decide_eq_true P (Classical.propDecidable P) h
theorem pB_f {P : Prop} (h : ¬ P) : pB P = false := @decide_eq_false P (Classical.propDecidable P) h
theorem pB_iff {P : Prop} : pB P = true ↔ P := @decide_eq_true_iff P (Classical.propDecidable P)
theorem pB_congr {P Q : Prop} (h : P ↔ Q) : pB P = pB Q := by rw [propext h]

def wholeB (K : Int) : Bool := K == 0 || K == 4
def MayP (K S a : Int) : Prop := (0 ≤ K ∧ K ≤ 4) ∧ (K = 4 → 1 ≤ S) ∧ 0 ≤ S ∧ S ≤ 2147483648 ∧ 0 ≤ a ∧ a ≤ 1048576
def SortP (xs : List Int) : Prop := ∀ (k : Nat) (x y : Int), xs[k]? = some x → xs[k + 1]? = some y → x ≤ y
def ToldP (K : Int) (xs ys : List Int) (a : Int) : Prop :=
  ((K = 1 ∨ K = 2) → (xs.length : Int) = a + 1 ∧ xs[0]? = some 0 ∧ xs[a.toNat]? = some (ys.length : Int) ∧ SortP xs) ∧
  (K = 3 → xs.length = 0 ∧ (ys.length : Int) = a) ∧ (K ≠ 1 → K ≠ 2 → K ≠ 3 → xs.length = 0 ∧ ys.length = 0)
def manyF (K S : Int) (ys : List Int) (a : Int) : Int := if wholeB K = true then a * S else ys.length
def InsP (S : Int) (ys : List Int) : Prop := ∀ y ∈ ys, 0 ≤ y ∧ y < S
def byI (K : Int) : Int := if K = 1 then 1 else 0
/-- the places of one that is ahead rise, or stay -/
def RiseAt (K : Int) (xs ys : List Int) (p : Nat) : Prop := ∀ (n : Nat) (x z u v : Int), xs[p]? = some x → xs[p + 1]? = some z → x + 1 ≤ n → (n : Int) < z → ys[n - 1]? = some u → ys[n]? = some v → u + byI K ≤ v
def RiseP (K : Int) (xs ys : List Int) (a : Int) : Prop := (K = 1 ∨ K = 2) → ∀ p : Nat, (p : Int) < a → RiseAt K xs ys p
/-- Check's error -/
noncomputable def lvF (K S : Int) (xs ys : List Int) (a : Int) : Int :=
  if pB (MayP K S a ∧ ToldP K xs ys a) = true then if 65536 < ys.length ∨ 1048576 < manyF K S ys a then 2 else if pB (InsP S ys) = true then if pB (RiseP K xs ys a) = true then 0 else 1 else 3 else 1

/-- from which number on the children of p are numbered -/
def offN (K S : Int) (xs : List Int) (p : Nat) : Nat := if wholeB K = true then p * S.toNat else if K = 3 then p else (xs[p]?.getD 0).toNat
/-- at which place child n is -/
def atN (K S : Int) (ys : List Int) (n : Nat) : Int := if wholeB K = true then (n : Int) % S else ys[n]?.getD 0
/-- how many children there are -/
def totN (K S : Int) (ys : List Int) (a : Nat) : Nat := if wholeB K = true then a * S.toNat else ys.length

theorem wholeB_iff {K : Int} : wholeB K = true ↔ K = 0 ∨ K = 4 := by simp [wholeB]
theorem wholeB_not {K : Int} : wholeB K = false ↔ K ≠ 0 ∧ K ≠ 4 := by simp [wholeB]

/-- what a level that may be is -/
structure Lok (K S : Int) (xs ys : List Int) (a : Nat) : Prop where
  ahead : a ≤ 1048576
  size0 : 0 ≤ S
  size1 : S ≤ 2147483648
  kind : 0 ≤ K ∧ K ≤ 4
  tot : totN K S ys a ≤ 1048576
  crd : ys.length ≤ 65536
  first : offN K S xs 0 = 0
  last : offN K S xs a = totN K S ys a
  step : ∀ p, p < a → offN K S xs p ≤ offN K S xs (p + 1)
  place : ∀ n, n < totN K S ys a → 0 ≤ atN K S ys n ∧ atN K S ys n < S
  rise : ∀ p, p < a → ∀ n, offN K S xs p < n → n < offN K S xs (p + 1) → atN K S ys (n - 1) ≤ atN K S ys n ∧ (K ≠ 2 → atN K S ys (n - 1) < atN K S ys n)
  pos : K = 1 ∨ K = 2 → ∀ p, p ≤ a → xs[p]? = some ((offN K S xs p : Nat) : Int)
  crdAt : wholeB K = false → ∀ n, n < totN K S ys a → ys[n]? = some (atN K S ys n)
  posLen : K = 1 ∨ K = 2 → xs.length = a + 1
  posNil : ¬ (K = 1 ∨ K = 2) → xs.length = 0
  crdLen : wholeB K = false → ys.length = totN K S ys a
  crdNil : wholeB K = true → ys.length = 0

theorem lvF_pos {K S a : Int} {xs ys : List Int} (h : lvF K S xs ys a = 0) : MayP K S a ∧ ToldP K xs ys a ∧ ys.length ≤ 65536 ∧ manyF K S ys a ≤ 1048576 ∧ InsP S ys ∧ RiseP K xs ys a := by
  unfold lvF at h
  split at h
  · rename_i h1
    split at h
    · cases h
    · rename_i h2
      split at h
      · rename_i h3
        split at h
        · rename_i h4
          have h1 := pB_iff.1 h1
          exact ⟨h1.1, h1.2, by omega, by omega, pB_iff.1 h3, pB_iff.1 h4⟩
        · cases h
      · cases h
  · cases h
theorem lvF_zero {K S a : Int} {xs ys : List Int} (h : MayP K S a ∧ ToldP K xs ys a ∧ ys.length ≤ 65536 ∧ manyF K S ys a ≤ 1048576 ∧ InsP S ys ∧ RiseP K xs ys a) : lvF K S xs ys a = 0 := by
  obtain ⟨h1, h2, h3, h4, h5, h6⟩ := h
  unfold lvF
  rw [if_pos (pB_t ⟨h1, h2⟩), if_neg (by omega), if_pos (pB_t h5), if_pos (pB_t h6)]
theorem sortP_le {xs : List Int} (h : SortP xs) {i j : Nat} (hij : i ≤ j) {x y : Int} (hx : xs[i]? = some x) (hy : xs[j]? = some y) : x ≤ y := by
  induction j generalizing y with
  | zero => obtain rfl : i = 0 := by omega
            rw [hx] at hy; injection hy with hy; omega
  | succ j ih =>
    by_cases e : i = j + 1
    · subst e; rw [hx] at hy; injection hy with hy; omega
    · have hj : j < xs.length := by have := (List.getElem?_eq_some_iff.1 hy).1; omega
      have hz := List.getElem?_eq_getElem hj
      have := ih (by omega) hz
      have := h j _ _ hz hy
      omega
theorem emod_next {n : Nat} {S : Int} (hS : 0 < S) {p : Nat} (h1 : p * S.toNat < n) (h2 : n < (p + 1) * S.toNat) : ((n - 1 : Nat) : Int) % S < (n : Int) % S := by
  obtain ⟨s, rfl⟩ : ∃ s : Nat, S = s := ⟨S.toNat, by omega⟩
  rw [Int.toNat_natCast] at h1 h2
  rw [Nat.add_mul, Nat.one_mul] at h2
  obtain ⟨i, rfl⟩ : ∃ i, n = p * s + i := ⟨n - p * s, by omega⟩
  have e1 : (p * s + i) % s = i := by rw [Nat.add_comm, Nat.add_mul_mod_self_right]; exact Nat.mod_eq_of_lt (by omega)
  have e2 : (p * s + i - 1) % s = i - 1 := by
    have : p * s + i - 1 = p * s + (i - 1) := by omega
    rw [this, Nat.add_comm, Nat.add_mul_mod_self_right]; exact Nat.mod_eq_of_lt (by omega)
  rw [← Int.natCast_emod, ← Int.natCast_emod, e1, e2]
  omega
theorem lok_of {K S : Int} {a : Int} {xs ys : List Int} (h : lvF K S xs ys a = 0) : ∃ b : Nat, a = b ∧ Lok K S xs ys b := by
  obtain ⟨⟨hk, hk4, hs0, hs1, ha0, ha1⟩, ⟨ht1, ht3, ht0⟩, hy, hm, hi, hr⟩ := lvF_pos h
  obtain ⟨b, rfl⟩ : ∃ b : Nat, a = b := ⟨a.toNat, by omega⟩
  refine ⟨b, rfl, ?_⟩
  by_cases hw : wholeB K = true
  · have hk' := wholeB_iff.1 hw
    obtain ⟨hx0, hy0⟩ := ht0 (by omega) (by omega) (by omega)
    have hn12 : ¬ (K = 1 ∨ K = 2) := by omega
    have hm2 : manyF K S ys b = b * S := by unfold manyF; rw [if_pos hw]
    have htot : totN K S ys b = b * S.toNat := by unfold totN; rw [if_pos hw]
    have hoff : ∀ p, offN K S xs p = p * S.toNat := fun p => by unfold offN; rw [if_pos hw]
    have hat : ∀ n, atN K S ys n = (n : Int) % S := fun n => by unfold atN; rw [if_pos hw]
    have hbs : ((b * S.toNat : Nat) : Int) = (b : Int) * S := by rw [Int.natCast_mul, Int.toNat_of_nonneg hs0]
    refine ⟨by omega, hs0, hs1, hk, by rw [htot]; omega, hy, by rw [hoff]; omega, by rw [hoff, htot], fun p _ => ?_, fun n hn => ?_, fun p hp n h1 h2 => ?_, fun e => absurd e hn12, (fun e => by rw [hw] at e; cases e), fun e => absurd e hn12, fun _ => hx0, (fun e => by rw [hw] at e; cases e), fun _ => hy0⟩
    · rw [hoff, hoff, Nat.add_mul]; omega
    · rw [htot] at hn
      have : 0 < S := by
        rcases Int.lt_or_le 0 S with h | h
        · exact h
        · have : S.toNat = 0 := by omega
          rw [this] at hn; omega
      rw [hat]
      exact ⟨Int.emod_nonneg _ (by omega), Int.emod_lt_of_pos _ this⟩
    · rw [hoff] at h1 h2
      have : 0 < S := by
        rcases Int.lt_or_le 0 S with h | h
        · exact h
        · have : S.toNat = 0 := by omega
          rw [this] at h2; omega
      have := emod_next this h1 h2
      rw [hat, hat]
      exact ⟨by omega, fun _ => this⟩
  · have hw' : wholeB K = false := by simpa using hw
    have hkn := wholeB_not.1 hw'
    have htot : totN K S ys b = ys.length := by unfold totN; rw [if_neg hw]
    have hat : ∀ n, atN K S ys n = ys[n]?.getD 0 := fun n => by unfold atN; rw [if_neg hw]
    have hyat : ∀ n, n < ys.length → ys[n]? = some (atN K S ys n) := fun n hn => by rw [hat, List.getElem?_eq_getElem hn]; rfl
    by_cases h3 : K = 3
    · obtain ⟨hx0, hyl⟩ := ht3 h3
      have hoff : ∀ p, offN K S xs p = p := fun p => by unfold offN; rw [if_neg hw, if_pos h3]
      refine ⟨by omega, hs0, hs1, hk, by rw [htot]; omega, hy, by rw [hoff], by rw [hoff, htot]; omega, fun p _ => by rw [hoff, hoff]; omega, fun n hn => ?_, fun p hp n h1 h2 => ?_, fun e => absurd e (by omega), fun _ n hn => hyat n (by rw [← htot]; exact hn), fun e => absurd e (by omega), fun _ => hx0, fun _ => htot.symm, fun e => absurd e hw⟩
      · rw [htot] at hn
        exact hi _ (List.mem_of_getElem? (hyat n hn))
      · rw [hoff] at h1 h2; omega
    · have h12 : K = 1 ∨ K = 2 := by omega
      obtain ⟨hxl, hx0, hxa, hso⟩ := ht1 h12
      rw [Int.toNat_natCast] at hxa
      have hxat : ∀ p, p ≤ b → ∃ x, xs[p]? = some x ∧ 0 ≤ x := fun p hp => by
        have hz := List.getElem?_eq_getElem (l := xs) (i := p) (by omega)
        exact ⟨_, hz, sortP_le hso (Nat.zero_le _) hx0 hz⟩
      have hoff : ∀ p, p ≤ b → xs[p]? = some ((offN K S xs p : Nat) : Int) := fun p hp => by
        obtain ⟨x, hx, hx2⟩ := hxat p hp
        unfold offN; rw [if_neg hw, if_neg h3, hx]; simp only [Option.getD_some]; rw [Int.toNat_of_nonneg hx2]
      have hlast : offN K S xs b = ys.length := by have := hoff b (Nat.le_refl _); rw [hxa] at this; injection this with this; omega
      have hle : ∀ p q, p ≤ q → q ≤ b → offN K S xs p ≤ offN K S xs q := fun p q hpq hq => by
        have := sortP_le hso hpq (hoff p (by omega)) (hoff q hq); omega
      refine ⟨by omega, hs0, hs1, hk, by rw [htot]; omega, hy, ?_, by rw [hlast, htot], fun p hp => hle _ _ (by omega) (by omega), fun n hn => ?_, fun p hp n h1 h2 => ?_, fun _ => hoff, fun _ n hn => hyat n (by rw [← htot]; exact hn), fun _ => by omega, fun e => absurd h12 e, fun _ => htot.symm, fun e => absurd e hw⟩
      · have := hoff 0 (by omega); rw [hx0] at this; injection this with this; omega
      · rw [htot] at hn
        exact hi _ (List.mem_of_getElem? (hyat n hn))
      · have hn : n < ys.length := by have := hle (p + 1) b (by omega) (Nat.le_refl _); omega
        have := hr h12 p (by omega) n _ _ _ _ (hoff p (by omega)) (hoff (p + 1) (by omega)) (by omega) (by omega) (hyat (n - 1) (by omega)) (hyat n hn)
        unfold byI at this
        split at this
        · exact ⟨by omega, fun _ => by omega⟩
        · exact ⟨by omega, fun hk2 => absurd h12 (by omega)⟩

section
variable {K S : Int} {xs ys : List Int} {a : Nat}
theorem Lok.mono (h : Lok K S xs ys a) {p q : Nat} (hpq : p ≤ q) (hq : q ≤ a) : offN K S xs p ≤ offN K S xs q := by
  induction q with
  | zero => obtain rfl : p = 0 := by omega
            exact Nat.le_refl _
  | succ q ih =>
    by_cases e : p = q + 1
    · subst e; exact Nat.le_refl _
    · have := ih (by omega) (by omega)
      have := h.step q (by omega)
      omega
theorem Lok.le_tot (h : Lok K S xs ys a) {p : Nat} (hp : p ≤ a) : offN K S xs p ≤ totN K S ys a := by
  rw [← h.last]; exact h.mono hp (Nat.le_refl _)
theorem Lok.wholeNext (_h : Lok K S xs ys a) (hw : wholeB K = true) (p : Nat) : offN K S xs (p + 1) = offN K S xs p + S.toNat := by
  unfold offN; rw [if_pos hw, if_pos hw, Nat.add_mul, Nat.one_mul]
theorem Lok.wholeAt (_h : Lok K S xs ys a) (hw : wholeB K = true) (p : Nat) {i : Nat} (hi : i < S.toNat) : atN K S ys (offN K S xs p + i) = i := by
  unfold offN atN; rw [if_pos hw, if_pos hw]
  obtain ⟨s, rfl⟩ : ∃ s : Nat, S = s := ⟨S.toNat, by omega⟩
  rw [Int.toNat_natCast] at hi ⊢
  rw [← Int.natCast_emod, Nat.add_comm, Nat.add_mul_mod_self_right, Nat.mod_eq_of_lt hi]
/-- whose child n is -/
theorem Lok.owner (h : Lok K S xs ys a) {n : Nat} (hn : n < totN K S ys a) : ∃ p, p < a ∧ offN K S xs p ≤ n ∧ n < offN K S xs (p + 1) := by
  rw [← h.last] at hn
  have key : ∀ q, q ≤ a → n < offN K S xs q → ∃ p, p < q ∧ offN K S xs p ≤ n ∧ n < offN K S xs (p + 1) := by
    intro q
    induction q with
    | zero => intro _ hq; rw [h.first] at hq; omega
    | succ q ih =>
      intro hqa hq
      by_cases e : n < offN K S xs q
      · obtain ⟨p, h1, h2⟩ := ih (by omega) e
        exact ⟨p, by omega, h2⟩
      · exact ⟨q, by omega, by omega, hq⟩
  exact key a (Nat.le_refl _) hn
theorem Lok.owner_one (h : Lok K S xs ys a) {n p q : Nat} (hp : p < a) (hq : q < a) (h1 : offN K S xs p ≤ n) (h2 : n < offN K S xs (p + 1)) (h3 : offN K S xs q ≤ n) (h4 : n < offN K S xs (q + 1)) : p = q := by
  rcases Nat.lt_trichotomy p q with hh | hh | hh
  · have := h.mono (p := p + 1) (q := q) (by omega) (by omega); omega
  · exact hh
  · have := h.mono (p := q + 1) (q := p) (by omega) (by omega); omega
theorem Lok.sorted (h : Lok K S xs ys a) {p i j : Nat} (hp : p < a) (hi : offN K S xs p ≤ i) (hij : i ≤ j) (hj : j < offN K S xs (p + 1)) : atN K S ys i ≤ atN K S ys j := by
  induction j with
  | zero => obtain rfl : i = 0 := by omega
            exact Int.le_refl _
  | succ j ih =>
    by_cases e : i = j + 1
    · subst e; exact Int.le_refl _
    · have := ih (by omega) (by omega)
      have := (h.rise p hp (j + 1) (by omega) hj).1
      rw [Nat.add_sub_cancel] at this
      omega
end
end Go.Proofs.YtmnadieblhdcpaaDoor
