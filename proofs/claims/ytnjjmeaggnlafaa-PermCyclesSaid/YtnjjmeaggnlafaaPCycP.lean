/- Plain facts on the cycles of an order: each number is in just one; as many even ones as make the order odd. No program. -/
import Derived.Test.YtnjjmeaggnlafaaPCycM
import Derived.Test.YtnjjmeaggnlafaaPRefM
namespace Go.Proofs.Ytnjjmeaggnlafaa
open Go.RowKit

def iter (p : List Int) : Nat → Int → Int
  | 0, x => x
  | k + 1, x => pick p (iter p k x)
theorem iter_add (p : List Int) (a b : Nat) (x : Int) : iter p (a + b) x = iter p b (iter p a x) := by
  induction b with
  | zero => rfl
  | succ b ih => show pick p _ = pick p _; rw [← ih]; rfl
def Reach (p : List Int) (x y : Int) : Prop := ∃ k, iter p k x = y
theorem Reach.trans {p : List Int} {x y z : Int} (h1 : Reach p x y) (h2 : Reach p y z) : Reach p x z := by
  obtain ⟨a, ha⟩ := h1; obtain ⟨b, hb⟩ := h2
  exact ⟨a + b, by rw [iter_add, ha, hb]⟩
theorem Cyc.at_ {p : List Int} {f : Int} {l : List Int} (h : Cyc p f l) : ∀ (i : Nat) (x : Int), l[i]? = some x → x = iter p i f := by
  intro i
  induction i with
  | zero => intro x hx; rw [h.head] at hx; injection hx with hx; exact hx.symm
  | succ i ih =>
    intro x hx
    have hi := (List.getElem?_eq_some_iff.1 hx).1
    obtain ⟨y, hy⟩ : ∃ y, l[i]? = some y := ⟨_, List.getElem?_eq_getElem (by omega)⟩
    have h1 := (h.way i y x hy hx).1
    show x = pick p (iter p i f)
    rw [← ih y hy, pick_of h1]
theorem Cyc.pos {p : List Int} {f : Int} {l : List Int} (h : Cyc p f l) : 0 < l.length := (List.getElem?_eq_some_iff.1 h.head).1
theorem Cyc.round {p : List Int} {f : Int} {l : List Int} (h : Cyc p f l) : iter p l.length f = f := by
  obtain ⟨z, hz, hzf⟩ := h.last
  have := h.at_ _ _ hz
  have hp := h.pos
  have e : l.length = (l.length - 1) + 1 := by omega
  rw [e]
  show pick p _ = f
  rw [← this, pick_of hzf]
theorem Cyc.next_mem {p : List Int} {f : Int} {l : List Int} (h : Cyc p f l) {x : Int} (hx : x ∈ l) : pick p x ∈ l := by
  obtain ⟨i, hi, hil⟩ := mem_get hx
  by_cases hl : i + 1 < l.length
  · obtain ⟨y, hy⟩ : ∃ y, l[i + 1]? = some y := ⟨_, List.getElem?_eq_getElem hl⟩
    rw [pick_of (h.way i x y hi hy).1]; exact List.mem_of_getElem? hy
  · obtain ⟨z, hz, hzf⟩ := h.last
    have e : i = l.length - 1 := by omega
    rw [e, hz] at hi; injection hi with hi; subst hi
    rw [pick_of hzf]; exact List.mem_of_getElem? h.head
theorem Cyc.mem_iff {p : List Int} {f : Int} {l : List Int} (h : Cyc p f l) (y : Int) : y ∈ l ↔ Reach p f y := by
  constructor
  · intro hy
    obtain ⟨i, hi, _⟩ := mem_get hy
    exact ⟨i, (h.at_ i y hi).symm⟩
  · rintro ⟨k, rfl⟩
    induction k with
    | zero => exact List.mem_of_getElem? h.head
    | succ k ih => exact h.next_mem ih
theorem Cyc.symm {p : List Int} {f : Int} {l : List Int} (h : Cyc p f l) {y : Int} (hy : y ∈ l) : Reach p y f := by
  obtain ⟨i, hi, hil⟩ := mem_get hy
  refine ⟨l.length - i, ?_⟩
  rw [h.at_ i y hi, ← iter_add, show i + (l.length - i) = l.length by omega, h.round]

theorem minL_le {l : List Int} {x : Int} (hx : x ∈ l) : minL l ≤ x := by
  have key : ∀ (l : List Int) (a : Int), l.foldl min a ≤ a ∧ ∀ x ∈ l, l.foldl min a ≤ x := by
    intro l
    induction l with
    | nil => intro a; simp
    | cons y l ih =>
      intro a
      have h1 := ih (min a y)
      simp only [List.foldl_cons]
      refine ⟨by omega, fun x hx => ?_⟩
      rcases List.mem_cons.1 hx with rfl | hx
      · omega
      · exact h1.2 x hx
  cases l with
  | nil => simp at hx
  | cons a l =>
    rcases List.mem_cons.1 hx with rfl | hx
    · exact (key l x).1
    · exact (key l a).2 x hx
theorem minL_mem {l : List Int} (h : 0 < l.length) : minL l ∈ l := by
  have key : ∀ (l : List Int) (a : Int), l.foldl min a = a ∨ l.foldl min a ∈ l := by
    intro l
    induction l with
    | nil => intro a; simp
    | cons y l ih =>
      intro a
      simp only [List.foldl_cons]
      rcases ih (min a y) with h1 | h1
      · rw [h1]
        by_cases hay : a ≤ y
        · left; omega
        · right; rw [show min a y = y by omega]; simp
      · right; exact List.mem_cons_of_mem _ h1
  cases l with
  | nil => simp at h
  | cons a l =>
    rcases key l a with h1 | h1
    · show List.foldl min a l ∈ _; rw [h1]; simp
    · exact List.mem_cons_of_mem _ h1

section
variable {p : List Int} (hp : Perm_ p)
include hp
theorem cyc_of {k : Nat} (hk : k < p.length) : Cyc p (k : Int) (cycL p (k : Int)) := cyc_exists hp (by omega) (by omega)
theorem cyc_mem {k : Nat} (hk : k < p.length) {x : Int} (hx : x ∈ cycL p (k : Int)) : ∃ j : Nat, x = (j : Int) ∧ j < p.length ∧ (k : Int) ∈ cycL p (j : Int) := by
  have h := cyc_of hp hk
  have hb := h.inn x hx
  refine ⟨x.toNat, by omega, by omega, ?_⟩
  rw [(cyc_of hp (k := x.toNat) (by omega)).mem_iff, Int.toNat_of_nonneg hb.1]
  exact h.symm hx
theorem cyc_trans {i j : Nat} {x : Int} (hi : i < p.length) (hj : j < p.length) (h1 : (j : Int) ∈ cycL p (i : Int)) (h2 : x ∈ cycL p (j : Int)) : x ∈ cycL p (i : Int) := by
  rw [(cyc_of hp hi).mem_iff] at h1 ⊢
  rw [(cyc_of hp hj).mem_iff] at h2
  exact h1.trans h2
theorem self_mem {k : Nat} (hk : k < p.length) : (k : Int) ∈ cycL p (k : Int) := List.mem_of_getElem? (cyc_of hp hk).head
/-- what was met: all cycles of numbers ahead -/
theorem met_iff : ∀ k, k ≤ p.length → ∀ x : Int, x ∈ (cycsTo p k).flatten ↔ ∃ j : Nat, j < k ∧ x ∈ cycL p (j : Int) := by
  intro k
  induction k with
  | zero => intro _ x; simp [cycsTo]
  | succ k ih =>
    intro hk x
    rw [cycsTo_succ, List.flatten_append, List.mem_append, ih (by omega) x]
    by_cases hm : minL (cycL p (k : Int)) = (k : Int)
    · rw [if_pos hm]
      simp only [List.flatten_cons, List.flatten_nil, List.append_nil]
      constructor
      · rintro (⟨j, hj, hx⟩ | hx)
        · exact ⟨j, by omega, hx⟩
        · exact ⟨k, by omega, hx⟩
      · rintro ⟨j, hj, hx⟩
        by_cases hjk : j = k
        · subst hjk; exact .inr hx
        · exact .inl ⟨j, by omega, hx⟩
    · rw [if_neg hm]
      simp only [List.flatten_nil, List.not_mem_nil, or_false]
      constructor
      · rintro ⟨j, hj, hx⟩; exact ⟨j, by omega, hx⟩
      · rintro ⟨j, hj, hx⟩
        by_cases hjk : j = k
        · subst hjk
          have h1 := minL_mem (cyc_of hp (k := j) (by omega)).pos
          have h2 := minL_le (self_mem hp (k := j) (by omega))
          obtain ⟨i, hi, hil, hji⟩ := cyc_mem hp (k := j) (by omega) h1
          exact ⟨i, by omega, cyc_trans hp hil (by omega) hji hx⟩
        · exact ⟨j, by omega, hx⟩
theorem met_min {k : Nat} (hk : k < p.length) : (k : Int) ∉ (cycsTo p k).flatten ↔ minL (cycL p (k : Int)) = (k : Int) := by
  rw [met_iff hp k (by omega)]
  constructor
  · intro h
    have h1 := minL_mem (cyc_of hp hk).pos
    have h2 := minL_le (self_mem hp hk)
    obtain ⟨i, hi, hil, hji⟩ := cyc_mem hp hk h1
    by_cases hik : i = k
    · omega
    · exact absurd ⟨i, by omega, hji⟩ h
  · rintro h ⟨j, hj, hx⟩
    obtain ⟨i, hi, hil, hji⟩ := cyc_mem hp (k := j) (by omega) hx
    have e : i = k := by omega
    subst e
    have := minL_le hji
    omega
theorem met_apart {k : Nat} (hk : k < p.length) (h : (k : Int) ∉ (cycsTo p k).flatten) : ∀ x ∈ cycL p (k : Int), x ∉ (cycsTo p k).flatten := by
  intro x hx hm
  apply h
  rw [met_iff hp k (by omega)] at hm ⊢
  obtain ⟨j, hj, hxj⟩ := hm
  obtain ⟨i, hi, hil, hki⟩ := cyc_mem hp hk hx
  subst hi
  exact ⟨j, hj, cyc_trans hp (by omega) hil hxj hki⟩
theorem met_nodup : ∀ k, k ≤ p.length → (cycsTo p k).flatten.Nodup := by
  intro k
  induction k with
  | zero => intro _; simp [cycsTo]
  | succ k ih =>
    intro hk
    rw [cycsTo_succ, List.flatten_append]
    by_cases hm : minL (cycL p (k : Int)) = (k : Int)
    · rw [if_pos hm]
      simp only [List.flatten_cons, List.flatten_nil, List.append_nil]
      rw [List.nodup_append]
      refine ⟨ih (by omega), (cyc_of hp (by omega)).nodup, fun a ha b hb e => ?_⟩
      subst e
      exact met_apart hp (by omega) ((met_min hp (by omega)).2 hm) a hb ha
    · rw [if_neg hm]; simpa using ih (by omega)
theorem met_all : (cycsL p).flatten.length = p.length := by
  have h1 := met_nodup hp p.length (Nat.le_refl _)
  have h2 := perm_plain hp.len
  have : (cycsTo p p.length).flatten.Perm (plainL p.length) := by
    rw [List.perm_ext_iff_of_nodup h1 h2.nodup]
    intro x
    rw [met_iff hp _ (Nat.le_refl _)]
    constructor
    · rintro ⟨j, hj, hx⟩
      have hb := (cyc_of hp hj).inn x hx
      have := List.mem_of_getElem? (plainL_at (n := p.length) (k := x.toNat) (by omega))
      rwa [Int.toNat_of_nonneg hb.1] at this
    · intro hx
      obtain ⟨k, hk, hkl⟩ := mem_get hx
      rw [plainL_length] at hkl
      rw [plainL_at hkl] at hk
      injection hk with hk
      subst hk
      exact ⟨k, hkl, self_mem hp hkl⟩
  show (cycsTo p p.length).flatten.length = _
  rw [this.length_eq, plainL_length]
end
end Go.Proofs.Ytnjjmeaggnlafaa
