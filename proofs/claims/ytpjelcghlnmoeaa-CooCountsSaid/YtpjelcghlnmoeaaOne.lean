/- purflelaw01.BoxOne returns true at every input, and nothing that lay there has turned: the place of a number has that number; the next number's place is the next one. -/
import Derived.Test.YtpjelcghlnmoeaaPlaces
namespace Go.Proofs.Ytpjelcghlnmoeaa
open Go.RowKit

/-- the next place, the last mode first; whether it went around -/
def inc : List Int → List Int → List Int × Bool
  | s :: l, c :: d => if (inc l d).2 = true then (if c + 1 < s then ((c + 1) :: (inc l d).1, false) else (0 :: (inc l d).1, true)) else (c :: (inc l d).1, false)
  | _, _ => ([], true)
theorem inc_spec {xs cs : List Int} (h : Inn xs cs) : Inn xs (inc xs cs).1 ∧ ((inc xs cs).2 = false → numR xs (inc xs cs).1 = numR xs cs + 1) ∧ ((inc xs cs).2 = true → numR xs (inc xs cs).1 = 0 ∧ numR xs cs = prodI xs - 1) := by
  induction xs generalizing cs with
  | nil => cases cs with
    | nil => simp [inc, Inn, numR, prodI]
    | cons _ _ => exact h.elim
  | cons s l ih => cases cs with
    | nil => exact h.elim
    | cons c d =>
      obtain ⟨i1, i2, i3⟩ := ih h.2.2
      have h0 := h.1
      have h1 := h.2.1
      by_cases hc : (inc l d).2 = true
      · obtain ⟨j1, j2⟩ := i3 hc
        by_cases hs : c + 1 < s
        · simp only [inc, hc, hs, if_true]
          refine ⟨⟨by omega, hs, i1⟩, fun _ => ?_, fun hh => (by cases hh)⟩
          simp only [numR]
          rw [j1, j2, Int.add_mul]
          omega
        · simp only [inc, hc, hs, if_true, if_false]
          refine ⟨⟨by omega, by omega, i1⟩, fun hh => (by cases hh), fun _ => ?_⟩
          simp only [numR, prodI]
          rw [j1, j2]
          obtain rfl : c = s - 1 := by omega
          rw [Int.sub_mul]
          omega
      · simp only [inc, hc, if_false, Bool.false_eq_true]
        refine ⟨⟨h0, h1, i1⟩, fun _ => ?_, fun hh => (by cases hh)⟩
        simp only [numR]
        rw [i2 (by simpa using hc)]
        omega
theorem placeR_numR {xs cs : List Int} (h : Inn xs cs) : placeR xs (numR xs cs) = cs := by
  suffices hh : ∀ q : Int, placeR xs (q * prodI xs + numR xs cs) = cs by simpa using hh 0
  induction xs generalizing cs with
  | nil => cases cs with
    | nil => simp [placeR]
    | cons _ _ => exact h.elim
  | cons s l ih => cases cs with
    | nil => exact h.elim
    | cons c d =>
      intro q
      have hb := h.2.2.bound
      have hp : 1 ≤ prodI l := by omega
      have h0 := h.1
      have h1 := h.2.1
      have e : q * (s * prodI l) + (c * prodI l + numR l d) = (q * s + c) * prodI l + numR l d := by rw [Int.add_mul, Int.mul_assoc]; omega
      simp only [placeR, numR, prodI]
      rw [e, ih h.2.2 (q * s + c)]
      congr 1
      rw [Int.add_comm, Int.add_mul_ediv_right _ _ (by omega), Int.ediv_eq_zero_of_lt hb.1 hb.2, Int.zero_add, Int.add_comm, Int.add_mul_emod_self_right]
      exact Int.emod_eq_of_lt h0 h1
theorem inc_drop {xs cs : List Int} {k : Nat} {x y : Int} (hx : xs[k]? = some x) (hy : cs[k]? = some y) (hc : (inc (xs.drop (k + 1)) (cs.drop (k + 1))).2 = true) :
    inc (xs.drop k) (cs.drop k) = if y + 1 < x then ((y + 1) :: (inc (xs.drop (k + 1)) (cs.drop (k + 1))).1, false) else (0 :: (inc (xs.drop (k + 1)) (cs.drop (k + 1))).1, true) := by
  rw [drop_of hx, drop_of hy, inc, if_pos hc]
theorem inc_out {xs cs e : List Int} (hl : xs.length = cs.length) (k : Nat) (hk : k ≤ xs.length) (h : inc (xs.drop k) (cs.drop k) = (e, false)) : inc xs cs = (cs.take k ++ e, false) := by
  induction k generalizing xs cs with
  | zero => simpa using h
  | succ k ih => cases xs with
    | nil => simp at hk
    | cons s l => cases cs with
      | nil => simp at hl
      | cons c d =>
        have := ih (xs := l) (cs := d) (by simpa using hl) (by simpa using hk) (by simpa using h)
        rw [inc, this]
        simp
/-- the list when the last k places have gone around -/
def gone (cs : List Int) (k : Nat) : List Int := cs.take (cs.length - k) ++ List.replicate k 0
theorem gone_length {cs : List Int} {k : Nat} (hk : k ≤ cs.length) : (gone cs k).length = cs.length := by simp [gone]; omega
theorem gone_at {cs : List Int} {k i : Nat} (hi : i < cs.length - k) : (gone cs k)[i]? = cs[i]? := by
  unfold gone
  rw [List.getElem?_append_left (by rw [List.length_take]; omega), List.getElem?_take, if_pos hi]
theorem gone_set {cs : List Int} {k : Nat} (hk : k < cs.length) (v : Int) : (gone cs k).set (cs.length - 1 - k) v = cs.take (cs.length - 1 - k) ++ v :: List.replicate k 0 := by
  unfold gone
  have e : cs.length - k = cs.length - 1 - k + 1 := by omega
  have hx : cs[cs.length - 1 - k]? = some (cs[cs.length - 1 - k]'(by omega)) := List.getElem?_eq_getElem (by omega)
  rw [e, take_succ_of hx, List.append_assoc, List.set_append_right _ _ (by rw [List.length_take]; omega)]
  congr 1
  rw [List.length_take, Nat.min_eq_left (by omega), Nat.sub_self]
  rfl
theorem gone_succ {cs : List Int} {k : Nat} (hk : k < cs.length) : (gone cs k).set (cs.length - 1 - k) 0 = gone cs (k + 1) := by
  rw [gone_set hk]
  unfold gone
  have e : cs.length - (k + 1) = cs.length - 1 - k := by omega
  rw [e, List.replicate_succ]

theorem insideF_of_inn {xs cs : List Int} (h : Inn xs cs) : insideF xs cs = true := by
  induction xs generalizing cs with
  | nil => cases cs with
    | nil => rfl
    | cons _ _ => exact h.elim
  | cons s l ih => cases cs with
    | nil => exact h.elim
    | cons c d =>
      have := ih h.2.2
      have h0 := h.1
      have h1 := h.2.1
      simp [insideF, badAt] at this ⊢
      exact ⟨this.1, ⟨by omega, by omega⟩, this.2⟩
theorem cellsF_err {xs : List Int} (h : (cellsF xs).2 ≠ 0) : (cellsF xs).1 = 0 := by
  unfold cellsF at h ⊢
  split
  · rfl
  · rename_i h1
    rw [if_neg h1] at h
    split
    · rfl
    · rename_i h2
      rw [if_neg h2] at h
      have key : ∀ (l : List Int) (q : Int), (cellsGo l q).2 ≠ 0 → (cellsGo l q).1 = 0 := by
        intro l
        induction l with
        | nil => intro q hq; simp [cellsGo] at hq
        | cons s l ih =>
          intro q hq
          unfold cellsGo at hq ⊢
          split
          · rfl
          · rename_i hb; rw [if_neg hb] at hq; exact ih _ hq
      exact key _ _ h
theorem lt_of_cell' {w : World} {a : Addr} {v : Value} (h : w.cell? a = some v) : a.block < w.heap.size := by
  rcases Nat.lt_or_ge a.block w.heap.size with hlt | hge
  · exact hlt
  · have : w.heap[a.block]? = none := Array.getElem?_eq_none hge
    simp [World.cell?, this] at h
theorem OwnI.some_ {w : World} {base : Nat} {e : TypeId} {A : Option Addr} {c : Nat} {xs : List Int} (h : OwnI w base e A c xs) (hp : 0 < xs.length) : ∃ g, A = some ⟨g, 0, none⟩ ∧ base ≤ g ∧ g < w.heap.size := by
  rcases h.1.2 with ⟨_, h0⟩ | ⟨g, cap, cur, hv, hb, _⟩
  · omega
  · have hA : A = some ⟨g, 0, none⟩ := by injection hv
    subst hA
    exact ⟨g, rfl, hb, (h.1.lt g rfl).2⟩
theorem OwnI.set_ {w : World} {base g : Nat} {e : TypeId} {c : Nat} {xs : List Int} (h : OwnI w base e (some ⟨g, 0, none⟩) c xs) (j : Nat) (v : Int) (hv : -9223372036854775808 ≤ v ∧ v ≤ 9223372036854775807) :
    OwnI (w.setCell ⟨g, j, none⟩ (.int .i64 v)) base e (some ⟨g, 0, none⟩) c (xs.set j v) := by
  refine ⟨?_, fun x hx => ?_⟩
  · have := (h.1.stored j (.int .i64 v)).1
    rw [← List.map_set] at this
    rw [List.length_set]
    exact this
  · rcases List.mem_or_eq_of_mem_set hx with hx | rfl
    · exact h.2 x hx
    · exact hv
theorem OwnI.far {w : World} {base g : Nat} {e : TypeId} {A : Option Addr} {c : Nat} {xs : List Int} (h : OwnI w base e A c xs) (hg : g < base) (j : Nat) (u : Value) : OwnI (w.setCell ⟨g, j, none⟩ u) base e A c xs :=
  ⟨ownsRow_setCell_below h.1 (a := ⟨g, j, none⟩) hg u, h.2⟩
theorem OwnI.cell_ {w : World} {base g k : Nat} {e : TypeId} {c : Nat} {xs : List Int} {x : Int} (h : OwnI w base e (some ⟨g, 0, none⟩) c xs) (hx : xs[k]? = some x) : w.cell? ⟨g, k, none⟩ = some (.int .i64 x) ∧ w.frozen? ⟨g, k, none⟩ = false := by
  have hk := (List.getElem?_eq_some_iff.1 hx).1
  exact ⟨(h.1.cellAt k (by omega)).trans (by simp [hx]), h.1.frozenAt k⟩

end Go.Proofs.Ytpjelcghlnmoeaa
