/- Plain facts: whether orders are odd: of one after another, of an inverse, of one where two numbers change places. No program. -/
import Derived.Test.YtnjjmeaggnlafaaPOneM
namespace Go.Proofs.Ytnjjmeaggnlafaa
open Go.RowKit

/-- how many pairs are so -/
def pairsBy (r : Int → Int → Bool) : List Int → Nat
  | [] => 0
  | x :: l => (l.filter (r x)).length + pairsBy r l
theorem pairsBy_perm {r : Int → Int → Bool} (hr : ∀ x y, r x y = r y x) {l l' : List Int} (h : l.Perm l') : pairsBy r l = pairsBy r l' := by
  induction h with
  | nil => rfl
  | cons x h ih => simp only [pairsBy]; rw [(h.filter _).length_eq, ih]
  | swap x y l =>
    simp only [pairsBy, List.filter_cons]
    rw [hr y x]
    by_cases h : r x y = true
    · simp [h]; omega
    · simp [h]; omega
  | trans _ _ ih1 ih2 => exact ih1.trans ih2
theorem filter_xor (a b : Int → Bool) (l : List Int) : (l.filter fun y => a y != b y).length % 2 = ((l.filter a).length + (l.filter b).length) % 2 := by
  induction l with
  | nil => rfl
  | cons x l ih =>
    simp only [List.filter_cons]
    cases a x <;> cases b x <;> simp <;> omega
theorem pairsBy_xor (a b : Int → Int → Bool) (l : List Int) : pairsBy (fun x y => a x y != b x y) l % 2 = (pairsBy a l + pairsBy b l) % 2 := by
  induction l with
  | nil => rfl
  | cons x l ih =>
    simp only [pairsBy]
    have := filter_xor (a x) (b x) l
    omega
theorem pairsBy_congr {r r' : Int → Int → Bool} {l : List Int} (h : l.Pairwise fun x y => r x y = r' x y) : pairsBy r l = pairsBy r' l := by
  induction l with
  | nil => rfl
  | cons x l ih =>
    rw [List.pairwise_cons] at h
    simp only [pairsBy]
    rw [ih h.2, List.filter_congr h.1]
theorem pairsBy_map (f : Int → Int) (l : List Int) : invsL (l.map f) = pairsBy (fun x y => decide (f y < f x)) l := by
  induction l with
  | nil => rfl
  | cons x l ih =>
    simp only [List.map_cons, invsL, pairsBy, ih, lessC, List.filter_map, List.length_map]
    rfl
theorem invsL_pairs (l : List Int) : invsL l = pairsBy (fun x y => decide (y < x)) l := by
  have := pairsBy_map id l
  simpa using this
/-- does f change which of two is ahead -/
def flips (f : Int → Int) (x y : Int) : Bool := decide (f (max x y) < f (min x y))
theorem flips_symm (f : Int → Int) (x y : Int) : flips f x y = flips f y x := by unfold flips; rw [Int.max_comm, Int.min_comm]
theorem flips_xor {f : Int → Int} {x y : Int} (_hne : x ≠ y) (hf : f x ≠ f y) : decide (f y < f x) = (decide (y < x) != flips f x y) := by
  unfold flips
  by_cases h : y < x
  · rw [Int.max_eq_left (by omega), Int.min_eq_right (by omega)]
    by_cases h2 : f y < f x <;> simp [h, h2] <;> omega
  · rw [Int.max_eq_right (by omega), Int.min_eq_left (by omega)]
    by_cases h2 : f y < f x <;> simp [h, h2]
theorem invs_map {f : Int → Int} {l : List Int} (h1 : l.Nodup) (h2 : (l.map f).Nodup) : invsL (l.map f) % 2 = (invsL l + pairsBy (flips f) l) % 2 := by
  rw [pairsBy_map, invsL_pairs, ← pairsBy_xor]
  congr 1
  refine pairsBy_congr ?_
  rw [List.Nodup, List.pairwise_map] at h2
  rw [List.Nodup] at h1
  rw [List.pairwise_iff_getElem] at h1 h2 ⊢
  exact fun i j hi hj hij => flips_xor (h1 i j hi hj hij) (h2 i j hi hj hij)
theorem perm_perm {p : List Int} (hp : Perm_ p) : p.Perm (plainL p.length) := by
  have h2 := perm_plain hp.len
  rw [List.perm_ext_iff_of_nodup hp.nodup h2.nodup]
  intro x
  constructor
  · intro hx
    have h3 := hp.inn x hx
    have := List.mem_of_getElem? (plainL_at (n := p.length) (k := x.toNat) (by omega))
    rwa [Int.toNat_of_nonneg h3.1] at this
  · intro hx
    obtain ⟨k, hk, hkl⟩ := mem_get hx
    rw [plainL_length] at hkl
    rw [plainL_at hkl] at hk
    injection hk with hk
    rw [← hk]
    exact hp.mem hkl
theorem invs_plain (n : Nat) : invsL (plainL n) = 0 := by
  have key : ∀ l : List Int, l.Pairwise (· < ·) → invsL l = 0 := by
    intro l
    induction l with
    | nil => intro _; rfl
    | cons x l ih =>
      intro h
      rw [List.pairwise_cons] at h
      simp only [invsL]
      rw [ih h.2, lessC_zero (fun y hy => Int.le_of_lt (h.1 y hy))]
  exact key _ (plainL_rises n)
theorem odd_turn {p q : List Int} (hp : Perm_ p) (hq : Perm_ q) (hl : p.length = q.length) : invsL (turnL p q) % 2 = (invsL p + invsL q) % 2 := by
  have hpq := perm_turn hp hq hl
  have h1 := invs_map (f := pick p) hq.nodup hpq.nodup
  have h2 := pairsBy_perm (flips_symm (pick p)) (perm_perm hq)
  have hpl := perm_plain (n := q.length) hq.len
  have e : turnL p (plainL q.length) = p := by rw [← hl]; exact turn_plain
  have h3 := invs_map (f := pick p) hpl.nodup (by have := hp.nodup; rw [← e] at this; exact this)
  have e2 : (plainL q.length).map (pick p) = p := e
  rw [e2, invs_plain, Nat.zero_add] at h3
  have e3 : turnL p q = q.map (pick p) := rfl
  rw [e3, h1, h2]
  omega
theorem oddB_turn {p q : List Int} (hp : Perm_ p) (hq : Perm_ q) (hl : p.length = q.length) : oddB (turnL p q) = (oddB p != oddB q) := by
  have h := odd_turn hp hq hl
  unfold oddB
  rw [Nat.add_mod] at h
  rcases Nat.mod_two_eq_zero_or_one (invsL p) with h1 | h1 <;> rcases Nat.mod_two_eq_zero_or_one (invsL q) with h2 | h2 <;> rw [h1, h2] at h <;> rw [h, h1, h2] <;> rfl
theorem oddB_plain (n : Nat) : oddB (plainL n) = false := by unfold oddB; rw [invs_plain]; rfl
theorem oddB_inv {p : List Int} (hp : Perm_ p) : oddB (invL p) = oddB p := by
  have h := oddB_turn hp (perm_inv hp) (invL_length p).symm
  rw [turn_inv hp, oddB_plain] at h
  revert h
  cases oddB p <;> cases oddB (invL p) <;> intro h <;> first | rfl | exact absurd h (by decide)
theorem oddB_short {p : List Int} (h : p.length < 2) : oddB p = false := by
  match p, h with
  | [], _ => rfl
  | [x], _ => rfl
  | x :: y :: l, h => exfalso; simp at h; omega
/-- the plain order, two numbers of it at one another's place -/
def twoL (n i k : Nat) : List Int := ((plainL n).set i (k : Int)).set k (i : Int)
theorem twoL_odd : ∀ n, n ≤ 12 → ∀ i, i < n → ∀ k, k < n → i ≠ k → oddB (twoL n i k) = true := by decide +kernel
theorem swapL_eq {p : List Int} {i k : Nat} {x y : Int} (hi : p[i]? = some x) (hk : p[k]? = some y) : (p.set i y).set k x = turnL p (twoL p.length i k) := by
  have hil := (List.getElem?_eq_some_iff.1 hi).1
  have hkl := (List.getElem?_eq_some_iff.1 hk).1
  refine same_at (n := p.length) (by simp) (by simp [turnL, twoL, plainL]) fun j hj => ?_
  have hl : (plainL p.length).length = p.length := plainL_length _
  by_cases h1 : k = j
  · subst h1
    rw [List.getElem?_set_self (by simpa using hkl)]
    refine (turn_get (x := i) ?_ hi).symm
    unfold twoL; rw [List.getElem?_set_self (by simp [hl]; exact hkl)]
  · rw [List.getElem?_set_ne h1]
    by_cases h2 : i = j
    · subst h2
      rw [List.getElem?_set_self hil]
      refine (turn_get (x := k) ?_ hk).symm
      unfold twoL; rw [List.getElem?_set_ne h1, List.getElem?_set_self (by rw [hl]; exact hil)]
    · rw [List.getElem?_set_ne h2]
      have hj2 := List.getElem?_eq_getElem hj
      rw [hj2]
      refine (turn_get (x := j) ?_ hj2).symm
      unfold twoL; rw [List.getElem?_set_ne h1, List.getElem?_set_ne h2, plainL_at hj]
theorem perm_two {n i k : Nat} (hn : n ≤ 12) (hi : i < n) (hk : k < n) (hne : i ≠ k) : Perm_ (twoL n i k) := by
  have key : ∀ n, n ≤ 12 → ∀ i, i < n → ∀ k, k < n → i ≠ k → permB (twoL n i k) = true := by decide +kernel
  exact permB_iff.1 (key n hn i hi k hk hne)
theorem odd_swap {p : List Int} (hp : Perm_ p) {i k : Nat} {x y : Int} (hi : p[i]? = some x) (hk : p[k]? = some y) (hne : i ≠ k) : Perm_ ((p.set i y).set k x) ∧ oddB ((p.set i y).set k x) = !oddB p := by
  have hil := (List.getElem?_eq_some_iff.1 hi).1
  have hkl := (List.getElem?_eq_some_iff.1 hk).1
  have h2 := perm_two hp.len hil hkl hne
  have hl : p.length = (twoL p.length i k).length := by simp [twoL, plainL]
  rw [swapL_eq hi hk]
  refine ⟨perm_turn hp h2 hl, ?_⟩
  rw [oddB_turn hp h2 hl, twoL_odd _ hp.len _ hil _ hkl hne]
  cases oddB p <;> rfl
end Go.Proofs.Ytnjjmeaggnlafaa
