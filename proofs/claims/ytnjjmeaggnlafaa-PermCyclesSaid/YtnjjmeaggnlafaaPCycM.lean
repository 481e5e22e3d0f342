/- Plain facts on the cycles of an order. No program. -/
import Derived.Test.YtnjjmeaggnlafaaPMath
namespace Go.Proofs.Ytnjjmeaggnlafaa
open Go.RowKit

/-- the least of some numbers -/
def minL : List Int → Int
  | [] => 0
  | x :: l => l.foldl min x
theorem minL_take {xs : List Int} {k : Nat} {x : Int} (hk : 0 < k) (h : xs[k]? = some x) : minL (xs.take (k + 1)) = min (minL (xs.take k)) x := by
  rw [take_succ_of h]
  cases xs with
  | nil => simp at h
  | cons y l => cases k with
    | zero => omega
    | succ k => simp [minL, List.foldl_append]
/-- from a number on, each the next one's place, till it would be the first again -/
def cycGo (p : List Int) (first : Int) : Nat → Int → List Int
  | 0, _ => []
  | f + 1, n => if n = first then [] else n :: cycGo p first f (pick p n)
def cycL (p : List Int) (first : Int) : List Int := first :: cycGo p first p.length (pick p first)

/-- a way: each number's place's number is the next one -/
def Way (p : List Int) (l : List Int) : Prop := ∀ (i : Nat) (x y : Int), l[i]? = some x → l[i + 1]? = some y → p[x.toNat]? = some y ∧ 0 ≤ x
theorem pick_of {p : List Int} {x y : Int} (h : p[x.toNat]? = some y) : pick p x = y := by unfold pick; rw [List.getD_eq_getElem?_getD, h]; rfl

/-- what the loop knows: the numbers so far, each once, and the next one -/
structure CycTo (p : List Int) (first : Int) (l : List Int) (n : Int) : Prop where
  inn : ∀ x ∈ l, 0 ≤ x ∧ x < p.length
  nodup : l.Nodup
  all : cycL p first = l ++ cycGo p first (p.length + 1 - l.length) n
  next : ∃ z, l[l.length - 1]? = some z ∧ p[z.toNat]? = some n
  head : l[0]? = some first
  way : Way p l

theorem nodup_len {l : List Int} {n : Nat} (h1 : l.Nodup) (h2 : ∀ x ∈ l, 0 ≤ x ∧ x < n) : l.length ≤ n := by
  induction n generalizing l with
  | zero => cases l with | nil => simp | cons x l => have := h2 x (by simp); omega
  | succ n ih =>
    have hn : (l.erase (n : Int)).Nodup := h1.erase _
    have hb : ∀ x ∈ l.erase (n : Int), 0 ≤ x ∧ x < n := by
      intro x hx
      have hx2 := (List.Nodup.mem_erase_iff h1).1 hx
      have := h2 x hx2.2
      have hne := hx2.1
      omega
    have := ih hn hb
    have h3 : l.length ≤ (l.erase (n : Int)).length + 1 := by rw [List.length_erase]; split <;> omega
    omega
theorem nodup_inj {p : List Int} (h : p.Nodup) {i j : Nat} {x : Int} (hi : p[i]? = some x) (hj : p[j]? = some x) : i = j := by
  rw [← nodup_idx h hi, ← nodup_idx h hj]
theorem CycTo.start {p : List Int} {first n : Int} (h0 : 0 ≤ first) (h1 : first < p.length) (hn : p[first.toNat]? = some n) : CycTo p first [first] n := by
  refine ⟨by simp; omega, by simp, ?_, ⟨first, rfl, hn⟩, rfl, ?_⟩
  · unfold cycL; rw [pick_of hn]; rfl
  · intro i x y hx hy; simp at hy
/-- the next one is no other than the first, or it is new -/
theorem CycTo.new {p : List Int} {first n : Int} {l : List Int} (hp : Perm_ p) (h : CycTo p first l n) (hne : n ≠ first) : n ∉ l := by
  intro hm
  obtain ⟨i, hi⟩ := List.getElem?_of_mem hm
  obtain ⟨z, hz, hzn⟩ := h.next
  cases i with
  | zero => rw [h.head] at hi; injection hi with hi; exact hne hi.symm
  | succ i =>
    have hil := (List.getElem?_eq_some_iff.1 hi).1
    obtain ⟨x, hx⟩ : ∃ x, l[i]? = some x := ⟨_, List.getElem?_eq_getElem (by omega)⟩
    obtain ⟨h1, h2⟩ := h.way i x n hx hi
    have e := nodup_inj hp.nodup h1 hzn
    have hz0 := (h.inn z (List.mem_of_getElem? hz)).1
    have exz : x = z := by omega
    subst exz
    have := nodup_inj h.nodup hx hz
    omega
theorem CycTo.step {p : List Int} {first n m : Int} {l : List Int} (hp : Perm_ p) (h : CycTo p first l n) (hne : n ≠ first) (hm : p[n.toNat]? = some m) : CycTo p first (l ++ [n]) m ∧ l.length < p.length := by
  have hnew := h.new hp hne
  obtain ⟨z, hz, hzn⟩ := h.next
  have hb := hp.inn n (List.mem_of_getElem? hzn)
  have hnd := nodup_snoc h.nodup hnew
  have hin : ∀ x ∈ l ++ [n], 0 ≤ x ∧ x < p.length := by
    intro x hx
    rcases List.mem_append.1 hx with hx | hx
    · exact h.inn x hx
    · simp at hx; subst hx; exact hb
  have hlen := nodup_len hnd hin
  rw [List.length_append, List.length_singleton] at hlen
  refine ⟨⟨hin, hnd, ?_, ⟨n, by simp, hm⟩, ?_, ?_⟩, by omega⟩
  · rw [h.all]
    have e : p.length + 1 - l.length = (p.length + 1 - (l ++ [n]).length) + 1 := by rw [List.length_append, List.length_singleton]; omega
    rw [e]
    simp only [cycGo]
    rw [if_neg hne, pick_of hm]; simp
  · rw [List.getElem?_append_left (by have := (List.getElem?_eq_some_iff.1 h.head).1; exact this)]; exact h.head
  · intro i x y hx hy
    have hil := (List.getElem?_eq_some_iff.1 hy).1
    rw [List.length_append, List.length_singleton] at hil
    by_cases hi : i + 1 < l.length
    · rw [List.getElem?_append_left (by omega)] at hx hy
      exact h.way i x y hx hy
    · have e : i + 1 = l.length := by omega
      rw [List.getElem?_append_left (by omega)] at hx
      have e2 : i = l.length - 1 := by omega
      rw [e, List.getElem?_append_right (Nat.le_refl _), Nat.sub_self] at hy
      simp at hy; subst hy
      rw [e2, hz] at hx; injection hx with hx; subst hx
      exact ⟨hzn, (h.inn z (List.mem_of_getElem? hz)).1⟩
theorem CycTo.done {p : List Int} {first : Int} {l : List Int} (h : CycTo p first l first) : cycL p first = l := by
  rw [h.all]
  cases p.length + 1 - l.length with
  | zero => simp [cycGo]
  | succ f => simp [cycGo]
/-- a cycle, whole -/
structure Cyc (p : List Int) (first : Int) (l : List Int) : Prop where
  inn : ∀ x ∈ l, 0 ≤ x ∧ x < p.length
  nodup : l.Nodup
  last : ∃ z, l[l.length - 1]? = some z ∧ p[z.toNat]? = some first
  head : l[0]? = some first
  way : Way p l
theorem CycTo.cyc {p : List Int} {first : Int} {l : List Int} (h : CycTo p first l first) : Cyc p first l := ⟨h.inn, h.nodup, h.next, h.head, h.way⟩
theorem cyc_exists {p : List Int} {first : Int} (hp : Perm_ p) (h0 : 0 ≤ first) (h1 : first < p.length) : Cyc p first (cycL p first) := by
  obtain ⟨n, hn⟩ : ∃ n, p[first.toNat]? = some n := ⟨_, List.getElem?_eq_getElem (by omega)⟩
  have key : ∀ (f : Nat) (l : List Int) (n : Int), CycTo p first l n → p.length + 1 - l.length ≤ f → Cyc p first (cycL p first) := by
    intro f
    induction f with
    | zero => intro l n h hf; have := nodup_len h.nodup h.inn; omega
    | succ f ih =>
      intro l n h hf
      by_cases hne : n = first
      · subst hne; rw [h.done]; exact h.cyc
      · obtain ⟨z, hz, hzn⟩ := h.next
        have hb := hp.inn n (List.mem_of_getElem? hzn)
        obtain ⟨m, hm⟩ : ∃ m, p[n.toNat]? = some m := ⟨_, List.getElem?_eq_getElem (by omega)⟩
        have h2 := h.step hp hne hm
        exact ih _ _ h2.1 (by rw [List.length_append, List.length_singleton]; omega)
  exact key _ _ _ (CycTo.start h0 h1 hn) (Nat.le_refl _)
/-- the cycles of an order -/
def cycsTo (p : List Int) (k : Nat) : List (List Int) := (List.range k).filterMap fun i : Nat => if minL (cycL p (i : Int)) = (i : Int) then some (cycL p (i : Int)) else none
theorem cycsTo_succ (p : List Int) (k : Nat) : cycsTo p (k + 1) = cycsTo p k ++ if minL (cycL p (k : Int)) = (k : Int) then [cycL p (k : Int)] else [] := by
  unfold cycsTo
  rw [List.range_succ, List.filterMap_append]
  congr 1
  by_cases h : minL (cycL p (k : Int)) = (k : Int) <;> simp [h]
def cycsL (p : List Int) : List (List Int) := cycsTo p p.length
end Go.Proofs.Ytnjjmeaggnlafaa
