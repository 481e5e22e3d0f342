/- Plain facts of levels, without the program: when a level may be, how its children are numbered, and at which places they are. Nothing is claimed of the program here. -/
import Derived.Test.YtanbhpdobpiafaaBase
namespace Go.Proofs.Ytanbhpdobpiafaa
open Go.RowKit

noncomputable def pB (P : Prop) : Bool := @decide P (Classical.propDecidable P)
theorem pB_t {P : Prop} (h : P) : pB P = true := @decide_eq_true P (Classical.propDecidable P) h
theorem pB_f {P : Prop} (h : ¬ P) : pB P = false := @decide_eq_false P (Classical.propDecidable P) h
theorem pB_iff {P : Prop} : pB P = true ↔ P := @decide_eq_true_iff P (Classical.propDecidable P)
theorem pB_congr {P Q : Prop} (h : P ↔ Q) : pB P = pB Q := by rw [propext h]

def wholeB (K : Int) : Bool := K == 0 || K == 4
def MayP (K S a : Int) : Prop := (0 ≤ K ∧ K ≤ 4) ∧ (K = 4 → 1 ≤ S) ∧ 0 ≤ S ∧ S ≤ 2147483648 ∧ 0 ≤ a ∧ a ≤ 1048576
def SortP (xs : List Int) : Prop := ∀ (k : Nat) (x y : Int), xs[k]? = some x → xs[k + 1]? = some y → x ≤ y
def ToldP (K : Int) (xs ys : List Int) (a : Int) : Prop :=
  ((K = 1 ∨ K = 2) → (xs.length : Int) = a + 1 ∧ xs[0]? = some 0 ∧ xs[a.toNat]? = some (ys.length : Int) ∧ SortP xs) ∧
  (K = 3 → xs.length = 0 ∧ (ys.length : Int) = a) ∧ (K ≠ 1 → K ≠ 2 → K ≠ 3 → xs.length = 0 ∧ ys.length = 0)
def manyF (K S : Int) (ys : List Int) (a : Int) : Int := if wholeB K = true then a * S else ys.length
def InsP (S : Int) (ys : List Int) : Prop := ∀ y ∈ ys, 0 ≤ y ∧ y < S
def byI (K : Int) : Int := if K = 1 then 1 else 0
/-- the places of one that is ahead rise, or stay -/
def RiseAt (K : Int) (xs ys : List Int) (p : Nat) : Prop := ∀ (n : Nat) (x z u v : Int), xs[p]? = some x → xs[p + 1]? = some z → x + 1 ≤ n → (n : Int) < z → ys[n - 1]? = some u → ys[n]? = some v → u + byI K ≤ v
def RiseP (K : Int) (xs ys : List Int) (a : Int) : Prop := (K = 1 ∨ K = 2) → ∀ p : Nat, (p : Int) < a → RiseAt K xs ys p
/-- Check's error -/
noncomputable def lvF (K S : Int) (xs ys : List Int) (a : Int) : Int :=
  if pB (MayP K S a ∧ ToldP K xs ys a) = true then if 65536 < ys.length ∨ 1048576 < manyF K S ys a then 2 else if pB (InsP S ys) = true then if pB (RiseP K xs ys a) = true then 0 else 1 else 3 else 1

/-- from which number on the children of p are numbered -/
def offN (K S : Int) (xs : List Int) (p : Nat) : Nat := if wholeB K = true then p * S.toNat else if K = 3 then p else (xs[p]?.getD 0).toNat
/-- at which place child n is -/
def atN (K S : Int) (ys : List Int) (n : Nat) : Int := if wholeB K = true then (n : Int) % S else ys[n]?.getD 0
/-- how many children there are -/
def totN (K S : Int) (ys : List Int) (a : Nat) : Nat := if wholeB K = true then a * S.toNat else ys.length

theorem wholeB_iff {K : Int} : wholeB K = true ↔ K = 0 ∨ K = 4 := by simp [wholeB]
theorem wholeB_not {K : Int} : wholeB K = false ↔ K ≠ 0 ∧ K ≠ 4 := by simp [wholeB]

/-- what a level that may be is -/
structure Lok (K S : Int) (xs ys : List Int) (a : Nat) : Prop where
  ahead : a ≤ 1048576
  size0 : 0 ≤ S
  size1 : S ≤ 2147483648
  kind : 0 ≤ K ∧ K ≤ 4
  tot : totN K S ys a ≤ 1048576
  crd : ys.length ≤ 65536
  first : offN K S xs 0 = 0
  last : offN K S xs a = totN K S ys a
  step : ∀ p, p < a → offN K S xs p ≤ offN K S xs (p + 1)
  place : ∀ n, n < totN K S ys a → 0 ≤ atN K S ys n ∧ atN K S ys n < S
  rise : ∀ p, p < a → ∀ n, offN K S xs p < n → n < offN K S xs (p + 1) → atN K S ys (n - 1) ≤ atN K S ys n ∧ (K ≠ 2 → atN K S ys (n - 1) < atN K S ys n)
  pos : K = 1 ∨ K = 2 → ∀ p, p ≤ a → xs[p]? = some ((offN K S xs p : Nat) : Int)
  crdAt : wholeB K = false → ∀ n, n < totN K S ys a → ys[n]? = some (atN K S ys n)
  posLen : K = 1 ∨ K = 2 → xs.length = a + 1
  posNil : ¬ (K = 1 ∨ K = 2) → xs.length = 0
  crdLen : wholeB K = false → ys.length = totN K S ys a
  crdNil : wholeB K = true → ys.length = 0

theorem lvF_pos {K S a : Int} {xs ys : List Int} (h : lvF K S xs ys a = 0) : MayP K S a ∧ ToldP K xs ys a ∧ ys.length ≤ 65536 ∧ manyF K S ys a ≤ 1048576 ∧ InsP S ys ∧ RiseP K xs ys a := by
  unfold lvF at h
  split at h
  · rename_i h1
    split at h
    · cases h
    · rename_i h2
      split at h
      · rename_i h3
        split at h
        · rename_i h4
          have h1 := pB_iff.1 h1
          exact ⟨h1.1, h1.2, by omega, by omega, pB_iff.1 h3, pB_iff.1 h4⟩
        · cases h
      · cases h
  · cases h
theorem lvF_zero {K S a : Int} {xs ys : List Int} (h : MayP K S a ∧ ToldP K xs ys a ∧ ys.length ≤ 65536 ∧ manyF K S ys a ≤ 1048576 ∧ InsP S ys ∧ RiseP K xs ys a) : lvF K S xs ys a = 0 := by
  obtain ⟨h1, h2, h3, h4, h5, h6⟩ := h
  unfold lvF
  rw [if_pos (pB_t ⟨h1, h2⟩), if_neg (by omega), if_pos (pB_t h5), if_pos (pB_t h6)]
theorem sortP_le {xs : List Int} (h : SortP xs) {i j : Nat} (hij : i ≤ j) {x y : Int} (hx : xs[i]? = some x) (hy : xs[j]? = some y) : x ≤ y := by
  induction j generalizing y with
  | zero => obtain rfl : i = 0 := by omega
            rw [hx] at hy; injection hy with hy; omega
  | succ j ih =>
    by_cases e : i = j + 1
    · subst e; rw [hx] at hy; injection hy with hy; omega
    · have hj : j < xs.length := by have := (List.getElem?_eq_some_iff.1 hy).1; omega
      have hz := List.getElem?_eq_getElem hj
      have := ih (by omega) hz
      have := h j _ _ hz hy
      omega
theorem emod_next {n : Nat} {S : Int} (hS : 0 < S) {p : Nat} (h1 : p * S.toNat < n) (h2 : n < (p + 1) * S.toNat) : ((n - 1 : Nat) : Int) % S < (n : Int) % S := by
  obtain ⟨s, rfl⟩ : ∃ s : Nat, S = s := ⟨S.toNat, by omega⟩
  rw [Int.toNat_natCast] at h1 h2
  rw [Nat.add_mul, Nat.one_mul] at h2
  obtain ⟨i, rfl⟩ : ∃ i, n = p * s + i := ⟨n - p * s, by omega⟩
  have e1 : (p * s + i) % s = i := by rw [Nat.add_comm, Nat.add_mul_mod_self_right]; exact Nat.mod_eq_of_lt (by omega)
  have e2 : (p * s + i - 1) % s = i - 1 := by
    have : p * s + i - 1 = p * s + (i - 1) := by omega
    rw [this, Nat.add_comm, Nat.add_mul_mod_self_right]; exact Nat.mod_eq_of_lt (by omega)
  rw [← Int.natCast_emod, ← Int.natCast_emod, e1, e2]
  omega
theorem lok_of {K S : Int} {a : Int} {xs ys : List Int} (h : lvF K S xs ys a = 0) : ∃ b : Nat, a = b ∧ Lok K S xs ys b := by
  obtain ⟨⟨hk, hk4, hs0, hs1, ha0, ha1⟩, ⟨ht1, ht3, ht0⟩, hy, hm, hi, hr⟩ := lvF_pos h
  obtain ⟨b, rfl⟩ : ∃ b : Nat, a = b := ⟨a.toNat, by omega⟩
  refine ⟨b, rfl, ?_⟩
  by_cases hw : wholeB K = true
  · have hk' := wholeB_iff.1 hw
    obtain ⟨hx0, hy0⟩ := ht0 (by omega) (by omega) (by omega)
    have hn12 : ¬ (K = 1 ∨ K = 2) := by omega
    have hm2 : manyF K S ys b = b * S := by unfold manyF; rw [if_pos hw]
    have htot : totN K S ys b = b * S.toNat := by unfold totN; rw [if_pos hw]
    have hoff : ∀ p, offN K S xs p = p * S.toNat := fun p => by unfold offN; rw [if_pos hw]
    have hat : ∀ n, atN K S ys n = (n : Int) % S := fun n => by unfold atN; rw [if_pos hw]
    have hbs : ((b * S.toNat : Nat) : Int) = (b : Int) * S := by rw [Int.natCast_mul, Int.toNat_of_nonneg hs0]
    refine ⟨by omega, hs0, hs1, hk, by rw [htot]; omega, hy, by rw [hoff]; omega, by rw [hoff, htot], fun p _ => ?_, fun n hn => ?_, fun p hp n h1 h2 => ?_, fun e => absurd e hn12, (fun e => by rw [hw] at e; cases e), fun e => absurd e hn12, fun _ => hx0, (fun e => by rw [hw] at e; cases e), fun _ => hy0⟩
    · rw [hoff, hoff, Nat.add_mul]; omega
    · rw [htot] at hn
      have : 0 < S := by
        rcases Int.lt_or_le 0 S with h | h
        · exact h
        · have : S.toNat = 0 := by omega
          rw [this] at hn; omega
      rw [hat]
      exact ⟨Int.emod_nonneg _ (by omega), Int.emod_lt_of_pos _ this⟩
    · rw [hoff] at h1 h2
      have : 0 < S := by
        rcases Int.lt_or_le 0 S with h | h
        · exact h
        · have : S.toNat = 0 := by omega
          rw [this] at h2; omega
      have := emod_next this h1 h2
      rw [hat, hat]
      exact ⟨by omega, fun _ => this⟩
  · have hw' : wholeB K = false := by simpa using hw
    have hkn := wholeB_not.1 hw'
    have htot : totN K S ys b = ys.length := by unfold totN; rw [if_neg hw]
    have hat : ∀ n, atN K S ys n = ys[n]?.getD 0 := fun n => by unfold atN; rw [if_neg hw]
    have hyat : ∀ n, n < ys.length → ys[n]? = some (atN K S ys n) := fun n hn => by rw [hat, List.getElem?_eq_getElem hn]; rfl
    by_cases h3 : K = 3
    · obtain ⟨hx0, hyl⟩ := ht3 h3
      have hoff : ∀ p, offN K S xs p = p := fun p => by unfold offN; rw [if_neg hw, if_pos h3]
      refine ⟨by omega, hs0, hs1, hk, by rw [htot]; omega, hy, by rw [hoff], by rw [hoff, htot]; omega, fun p _ => by rw [hoff, hoff]; omega, fun n hn => ?_, fun p hp n h1 h2 => ?_, fun e => absurd e (by omega), fun _ n hn => hyat n (by rw [← htot]; exact hn), fun e => absurd e (by omega), fun _ => hx0, fun _ => htot.symm, fun e => absurd e hw⟩
      · rw [htot] at hn
        exact hi _ (List.mem_of_getElem? (hyat n hn))
      · rw [hoff] at h1 h2; omega
    · have h12 : K = 1 ∨ K = 2 := by omega
      obtain ⟨hxl, hx0, hxa, hso⟩ := ht1 h12
      rw [Int.toNat_natCast] at hxa
      have hxat : ∀ p, p ≤ b → ∃ x, xs[p]? = some x ∧ 0 ≤ x := fun p hp => by
        have hz := List.getElem?_eq_getElem (l := xs) (i := p) (by omega)
        exact ⟨_, hz, sortP_le hso (Nat.zero_le _) hx0 hz⟩
      have hoff : ∀ p, p ≤ b → xs[p]? = some ((offN K S xs p : Nat) : Int) := fun p hp => by
        obtain ⟨x, hx, hx2⟩ := hxat p hp
        unfold offN; rw [if_neg hw, if_neg h3, hx]; simp only [Option.getD_some]; rw [Int.toNat_of_nonneg hx2]
      have hlast : offN K S xs b = ys.length := by have := hoff b (Nat.le_refl _); rw [hxa] at this; injection this with this; omega
      have hle : ∀ p q, p ≤ q → q ≤ b → offN K S xs p ≤ offN K S xs q := fun p q hpq hq => by
        have := sortP_le hso hpq (hoff p (by omega)) (hoff q hq); omega
      refine ⟨by omega, hs0, hs1, hk, by rw [htot]; omega, hy, ?_, by rw [hlast, htot], fun p hp => hle _ _ (by omega) (by omega), fun n hn => ?_, fun p hp n h1 h2 => ?_, fun _ => hoff, fun _ n hn => hyat n (by rw [← htot]; exact hn), fun _ => by omega, fun e => absurd h12 e, fun _ => htot.symm, fun e => absurd e hw⟩
      · have := hoff 0 (by omega); rw [hx0] at this; injection this with this; omega
      · rw [htot] at hn
        exact hi _ (List.mem_of_getElem? (hyat n hn))
      · have hn : n < ys.length := by have := hle (p + 1) b (by omega) (Nat.le_refl _); omega
        have := hr h12 p (by omega) n _ _ _ _ (hoff p (by omega)) (hoff (p + 1) (by omega)) (by omega) (by omega) (hyat (n - 1) (by omega)) (hyat n hn)
        unfold byI at this
        split at this
        · exact ⟨by omega, fun _ => by omega⟩
        · exact ⟨by omega, fun hk2 => absurd h12 (by omega)⟩

section
variable {K S : Int} {xs ys : List Int} {a : Nat}
theorem Lok.mono (h : Lok K S xs ys a) {p q : Nat} (hpq : p ≤ q) (hq : q ≤ a) : offN K S xs p ≤ offN K S xs q := by
  induction q with
  | zero => obtain rfl : p = 0 := by omega
            exact Nat.le_refl _
  | succ q ih =>
    by_cases e : p = q + 1
    · subst e; exact Nat.le_refl _
    · have := ih (by omega) (by omega)
      have := h.step q (by omega)
      omega
theorem Lok.le_tot (h : Lok K S xs ys a) {p : Nat} (hp : p ≤ a) : offN K S xs p ≤ totN K S ys a := by
  rw [← h.last]; exact h.mono hp (Nat.le_refl _)
theorem Lok.wholeNext (_h : Lok K S xs ys a) (hw : wholeB K = true) (p : Nat) : offN K S xs (p + 1) = offN K S xs p + S.toNat := by
  unfold offN; rw [if_pos hw, if_pos hw, Nat.add_mul, Nat.one_mul]
theorem Lok.wholeAt (_h : Lok K S xs ys a) (hw : wholeB K = true) (p : Nat) {i : Nat} (hi : i < S.toNat) : atN K S ys (offN K S xs p + i) = i := by
  unfold offN atN; rw [if_pos hw, if_pos hw]
  obtain ⟨s, rfl⟩ : ∃ s : Nat, S = s := ⟨S.toNat, by omega⟩
  rw [Int.toNat_natCast] at hi ⊢
  rw [← Int.natCast_emod, Nat.add_comm, Nat.add_mul_mod_self_right, Nat.mod_eq_of_lt hi]
/-- whose child n is -/
theorem Lok.owner (h : Lok K S xs ys a) {n : Nat} (hn : n < totN K S ys a) : ∃ p, p < a ∧ offN K S xs p ≤ n ∧ n < offN K S xs (p + 1) := by
  rw [← h.last] at hn
  have key : ∀ q, q ≤ a → n < offN K S xs q → ∃ p, p < q ∧ offN K S xs p ≤ n ∧ n < offN K S xs (p + 1) := by
    intro q
    induction q with
    | zero => intro _ hq; rw [h.first] at hq; omega
    | succ q ih =>
      intro hqa hq
      by_cases e : n < offN K S xs q
      · obtain ⟨p, h1, h2⟩ := ih (by omega) e
        exact ⟨p, by omega, h2⟩
      · exact ⟨q, by omega, by omega, hq⟩
  exact key a (Nat.le_refl _) hn
theorem Lok.owner_one (h : Lok K S xs ys a) {n p q : Nat} (hp : p < a) (hq : q < a) (h1 : offN K S xs p ≤ n) (h2 : n < offN K S xs (p + 1)) (h3 : offN K S xs q ≤ n) (h4 : n < offN K S xs (q + 1)) : p = q := by
  rcases Nat.lt_trichotomy p q with hh | hh | hh
  · have := h.mono (p := p + 1) (q := q) (by omega) (by omega); omega
  · exact hh
  · have := h.mono (p := q + 1) (q := p) (by omega) (by omega); omega
theorem Lok.sorted (h : Lok K S xs ys a) {p i j : Nat} (hp : p < a) (hi : offN K S xs p ≤ i) (hij : i ≤ j) (hj : j < offN K S xs (p + 1)) : atN K S ys i ≤ atN K S ys j := by
  induction j with
  | zero => obtain rfl : i = 0 := by omega
            exact Int.le_refl _
  | succ j ih =>
    by_cases e : i = j + 1
    · subst e; exact Int.le_refl _
    · have := ih (by omega) (by omega)
      have := (h.rise p hp (j + 1) (by omega) hj).1
      rw [Nat.add_sub_cancel] at this
      omega
end
end Go.Proofs.Ytanbhpdobpiafaa
