/- Plain facts, without the program: when a slice value of Go reads as a list of 64-bit integers, and what the shape functions of package box compute on lists. Nothing is claimed of the program here. -/
import Derived.WalkKit
import Derived.Lib.Hide
import Derived.Deep.Draws
import Derived.Test.YteepiifhmbcciaaProg
import Derived.BigQuiet
import Derived.Deep.QuietTactic
import Derived.RangeFuncNested
import Derived.RangeFuncBound
import Derived.RangeFuncCalls
import Derived.RangeFuncLeaves
import Derived.Shelf.Abstract
import Derived.Shelf.RegionOpen
import Derived.OwnWalkIn
import Derived.TacticsInMore
import Derived.LoopNIn
import Derived.LoopIn
namespace Go.Proofs.Yteepiifhmbcciaa
open Go.RowKit

/-- the header (A, n) leads to the numbers xs, in blocks below B -/
def Ints (w : World) (B : Nat) (A : Option Addr) (n : Nat) (xs : List Int) : Prop :=
  xs.length = n ∧ (∀ x ∈ xs, -9223372036854775808 ≤ x ∧ x ≤ 9223372036854775807) ∧
  (0 < n → ∃ b off, A = some ⟨b, off, none⟩ ∧ b < B ∧ ∀ (k : Nat) (x : Int), xs[k]? = some x → w.cell? ⟨b, off + k, none⟩ = some (.int .i64 x))

section
variable {w w' : World} {B B' n : Nat} {A : Option Addr} {xs : List Int}
theorem Ints.nil_ : Ints w B A 0 [] := ⟨rfl, by simp, fun h => absurd h (by omega)⟩
theorem Ints.at_ {k : Nat} (h : Ints w B A n xs) (hk : k < n) :
    ∃ b off x, A = some ⟨b, off, none⟩ ∧ b < B ∧ Hid (xs[k]? = some x) ∧ w.cell? ⟨b, off + k, none⟩ = some (.int .i64 x) ∧ -9223372036854775808 ≤ x ∧ x ≤ 9223372036854775807 := by
  obtain ⟨hl, hb, hc⟩ := h
  obtain ⟨b, off, rfl, hB, hx⟩ := hc (by omega)
  have hk' : k < xs.length := by omega
  have hm := hb _ (List.getElem_mem hk')
  exact ⟨b, off, xs[k], rfl, hB, List.getElem?_eq_getElem hk', hx k _ (List.getElem?_eq_getElem hk'), hm.1, hm.2⟩
theorem Ints.len (h : Ints w B A n xs) : xs.length = n := h.1
theorem Ints.keep (h : Ints w B A n xs) (hk : ∀ p : Addr, p.block < B → w'.cell? p = w.cell? p) : Ints w' B A n xs := by
  obtain ⟨hl, hb, hc⟩ := h
  refine ⟨hl, hb, fun hn => ?_⟩
  obtain ⟨b, off, e, hB, hx⟩ := hc hn
  exact ⟨b, off, e, hB, fun k x hx' => (hk _ hB).trans (hx k x hx')⟩
theorem Ints.more (h : Ints w B A n xs) (hB : B ≤ B') : Ints w B' A n xs := by
  obtain ⟨hl, hb, hc⟩ := h
  refine ⟨hl, hb, fun hn => ?_⟩
  obtain ⟨b, off, e, hB', hx⟩ := hc hn
  exact ⟨b, off, e, by omega, hx⟩
theorem Ints.below (h : Ints w B A n xs) (hb : Below B w w') : Ints w' B A n xs := h.keep fun _ hp => hb.cell hp
theorem Ints.drewN (h : Ints w B A n xs) (k : Nat) : Ints (w.drewN k) B A n xs := h
theorem Ints.drew (h : Ints w B A n xs) : Ints w.drew B A n xs := h
theorem Ints.alloc (h : Ints w B A n xs) (hB : B ≤ w.heap.size) (o : Obj) : Ints (w.alloc o) B A n xs :=
  h.keep fun p hp => World.cell?_alloc_lt w o p (by omega)
theorem Ints.alloc' (h : Ints w w.heap.size A n xs) (o : Obj) : Ints (w.alloc o) (w.alloc o).heap.size A n xs :=
  (h.alloc (Nat.le_refl _) o).more (by simp)
theorem Ints.setCell (h : Ints w B A n xs) {p : Addr} (hB : B ≤ p.block) (u : Value) : Ints (w.setCell p u) B A n xs :=
  h.keep fun q hq => World.cell?_setCell_other w p q u (fun e => by subst e; omega)
theorem Ints.of_own {base : Nat} {e : TypeId} {c : Nat} (h : w.ownsRow base e 1 (.slice A n c) n (xs.map (Value.int .i64))) (hb : ∀ x ∈ xs, -9223372036854775808 ≤ x ∧ x ≤ 9223372036854775807) : Ints w w.heap.size A n xs := by
  have hl : xs.length = n := by simpa using h.1
  refine ⟨hl, hb, fun hn => ?_⟩
  rcases h.2 with ⟨_, h0⟩ | ⟨g, cap, cur, hv, _, hh, _⟩
  · omega
  have hA : A = some ⟨g, 0, none⟩ := by injection hv
  subst hA
  have hlt : g < w.heap.size := by
    rcases Nat.lt_or_ge g w.heap.size with hlt | hge
    · exact hlt
    · rw [Array.getElem?_eq_none hge] at hh; cases hh
  refine ⟨g, 0, rfl, hlt, fun k x hx => ?_⟩
  have := h.cells (g := g) rfl k (.int .i64 x) (by simp [hx])
  by_cases hk : k = 0
  · subst hk; simpa [Addr.add] using this
  · simpa [Addr.add, hk] using this
end

/-! ### Lists, taken so far -/
theorem any_hit {α : Type} {p : α → Bool} {xs : List α} {k : Nat} {x : α} (h : xs[k]? = some x) (hp : p x = true) : xs.any p = true := by
  rw [List.any_eq_true]
  obtain ⟨hk, rfl⟩ := List.getElem?_eq_some_iff.1 h
  exact ⟨_, List.getElem_mem hk, hp⟩
theorem take_succ_of {α : Type} {xs : List α} {k : Nat} {x : α} (h : xs[k]? = some x) : xs.take (k + 1) = xs.take k ++ [x] := by
  rw [List.take_add_one, h]; rfl
theorem any_miss {α : Type} {p : α → Bool} {xs : List α} {k : Nat} {x : α} (h0 : (xs.take k).any p = false) (h : xs[k]? = some x) (hp : p x = false) : (xs.take (k + 1)).any p = false := by
  rw [take_succ_of h, List.any_append, h0]; simp [hp]
theorem any_all {α : Type} {p : α → Bool} {xs : List α} {k n : Nat} (h0 : (xs.take k).any p = false) (hl : xs.length = n) (hk : n ≤ k) : xs.any p = false := by
  rw [List.take_of_length_le (by omega)] at h0; exact h0

/-! ### The shape functions on lists -/
def cellsGo : List Int → Int → Int × Int
  | [], n => (n, 0)
  | s :: l, n => if 4611686018427387903 / n < s then (0, 2) else cellsGo l (n * s)
/-- Cells: how many, and the error's number -/
def cellsF (l : List Int) : Int × Int :=
  if 4 < l.length ∨ (l.any fun s => decide (s < 0)) = true then (0, 1) else if (l.any fun s => s == 0) = true then (0, 0) else cellsGo l 1

theorem pos_of_any {xs : List Int} (h1 : (xs.any fun s => decide (s < 0)) = false) (h2 : (xs.any fun s => s == 0) = false) : ∀ x ∈ xs, 1 ≤ x := by
  intro x hx
  rw [List.any_eq_false] at h1 h2
  have a := h1 x hx
  have b := h2 x hx
  simp at a b
  omega
theorem drop_of {α : Type} {xs : List α} {k : Nat} {x : α} (h : xs[k]? = some x) : xs.drop k = x :: xs.drop (k + 1) := by
  obtain ⟨hk, rfl⟩ := List.getElem?_eq_some_iff.1 h
  exact List.drop_eq_getElem_cons hk
theorem mul_bound {q x : Int} (hq : 1 ≤ q) (hx : 1 ≤ x) (h : ¬ 4611686018427387903 / q < x) : 1 ≤ q * x ∧ q * x ≤ 4611686018427387903 := by
  have h1 : x ≤ 4611686018427387903 / q := by omega
  have h2 := (Int.le_ediv_iff_mul_le (by omega : (0 : Int) < q)).1 h1
  refine ⟨?_, by rw [Int.mul_comm]; exact h2⟩
  have := Int.mul_le_mul hq hx (by omega) (by omega)
  simpa using this

end Go.Proofs.Yteepiifhmbcciaa
/- Plain facts of levels, without the program: when a level may be, how its children are numbered, and at which places they are. Nothing is claimed of the program here. -/
namespace Go.Proofs.Yteepiifhmbcciaa
open Go.RowKit

noncomputable def pB (P : Prop) : Bool := @decide P (Classical.propDecidable P)
theorem pB_t {P : Prop} (h : P) : pB P = true := @decide_eq_true P (Classical.propDecidable P) h
theorem pB_f {P : Prop} (h : ¬ P) : pB P = false := @decide_eq_false P (Classical.propDecidable P) h
theorem pB_iff {P : Prop} : pB P = true ↔ P := @decide_eq_true_iff P (Classical.propDecidable P)
theorem pB_congr {P Q : Prop} (h : P ↔ Q) : pB P = pB Q := by rw [propext h]

def wholeB (K : Int) : Bool := K == 0 || K == 4
def MayP (K S a : Int) : Prop := (0 ≤ K ∧ K ≤ 4) ∧ (K = 4 → 1 ≤ S) ∧ 0 ≤ S ∧ S ≤ 2147483648 ∧ 0 ≤ a ∧ a ≤ 1048576
def SortP (xs : List Int) : Prop := ∀ (k : Nat) (x y : Int), xs[k]? = some x → xs[k + 1]? = some y → x ≤ y
def ToldP (K : Int) (xs ys : List Int) (a : Int) : Prop :=
  ((K = 1 ∨ K = 2) → (xs.length : Int) = a + 1 ∧ xs[0]? = some 0 ∧ xs[a.toNat]? = some (ys.length : Int) ∧ SortP xs) ∧
  (K = 3 → xs.length = 0 ∧ (ys.length : Int) = a) ∧ (K ≠ 1 → K ≠ 2 → K ≠ 3 → xs.length = 0 ∧ ys.length = 0)
def manyF (K S : Int) (ys : List Int) (a : Int) : Int := if wholeB K = true then a * S else ys.length
def InsP (S : Int) (ys : List Int) : Prop := ∀ y ∈ ys, 0 ≤ y ∧ y < S
def byI (K : Int) : Int := if K = 1 then 1 else 0
/-- the places of one that is ahead rise, or stay -/
def RiseAt (K : Int) (xs ys : List Int) (p : Nat) : Prop := ∀ (n : Nat) (x z u v : Int), xs[p]? = some x → xs[p + 1]? = some z → x + 1 ≤ n → (n : Int) < z → ys[n - 1]? = some u → ys[n]? = some v → u + byI K ≤ v
def RiseP (K : Int) (xs ys : List Int) (a : Int) : Prop := (K = 1 ∨ K = 2) → ∀ p : Nat, (p : Int) < a → RiseAt K xs ys p
/-- Check's error -/
noncomputable def lvF (K S : Int) (xs ys : List Int) (a : Int) : Int :=
  if pB (MayP K S a ∧ ToldP K xs ys a) = true then if 65536 < ys.length ∨ 1048576 < manyF K S ys a then 2 else if pB (InsP S ys) = true then if pB (RiseP K xs ys a) = true then 0 else 1 else 3 else 1

/-- from which number on the children of p are numbered -/
def offN (K S : Int) (xs : List Int) (p : Nat) : Nat := if wholeB K = true then p * S.toNat else if K = 3 then p else (xs[p]?.getD 0).toNat
/-- at which place child n is -/
def atN (K S : Int) (ys : List Int) (n : Nat) : Int := if wholeB K = true then (n : Int) % S else ys[n]?.getD 0
/-- how many children there are -/
def totN (K S : Int) (ys : List Int) (a : Nat) : Nat := if wholeB K = true then a * S.toNat else ys.length

theorem wholeB_iff {K : Int} : wholeB K = true ↔ K = 0 ∨ K = 4 := by simp [wholeB]
theorem wholeB_not {K : Int} : wholeB K = false ↔ K ≠ 0 ∧ K ≠ 4 := by simp [wholeB]

/-- what a level that may be is -/
structure Lok (K S : Int) (xs ys : List Int) (a : Nat) : Prop where
  ahead : a ≤ 1048576
  size0 : 0 ≤ S
  size1 : S ≤ 2147483648
  kind : 0 ≤ K ∧ K ≤ 4
  tot : totN K S ys a ≤ 1048576
  crd : ys.length ≤ 65536
  first : offN K S xs 0 = 0
  last : offN K S xs a = totN K S ys a
  step : ∀ p, p < a → offN K S xs p ≤ offN K S xs (p + 1)
  place : ∀ n, n < totN K S ys a → 0 ≤ atN K S ys n ∧ atN K S ys n < S
  rise : ∀ p, p < a → ∀ n, offN K S xs p < n → n < offN K S xs (p + 1) → atN K S ys (n - 1) ≤ atN K S ys n ∧ (K ≠ 2 → atN K S ys (n - 1) < atN K S ys n)
  pos : K = 1 ∨ K = 2 → ∀ p, p ≤ a → xs[p]? = some ((offN K S xs p : Nat) : Int)
  crdAt : wholeB K = false → ∀ n, n < totN K S ys a → ys[n]? = some (atN K S ys n)
  posLen : K = 1 ∨ K = 2 → xs.length = a + 1
  posNil : ¬ (K = 1 ∨ K = 2) → xs.length = 0
  crdLen : wholeB K = false → ys.length = totN K S ys a
  crdNil : wholeB K = true → ys.length = 0

theorem lvF_pos {K S a : Int} {xs ys : List Int} (h : lvF K S xs ys a = 0) : MayP K S a ∧ ToldP K xs ys a ∧ ys.length ≤ 65536 ∧ manyF K S ys a ≤ 1048576 ∧ InsP S ys ∧ RiseP K xs ys a := by
  unfold lvF at h
  split at h
  · rename_i h1
    split at h
    · cases h
    · rename_i h2
      split at h
      · rename_i h3
        split at h
        · rename_i h4
          have h1 := pB_iff.1 h1
          exact ⟨h1.1, h1.2, by omega, by omega, pB_iff.1 h3, pB_iff.1 h4⟩
        · cases h
      · cases h
  · cases h
theorem lvF_zero {K S a : Int} {xs ys : List Int} (h : MayP K S a ∧ ToldP K xs ys a ∧ ys.length ≤ 65536 ∧ manyF K S ys a ≤ 1048576 ∧ InsP S ys ∧ RiseP K xs ys a) : lvF K S xs ys a = 0 := by
  obtain ⟨h1, h2, h3, h4, h5, h6⟩ := h
  unfold lvF
  rw [if_pos (pB_t ⟨h1, h2⟩), if_neg (by omega), if_pos (pB_t h5), if_pos (pB_t h6)]
theorem sortP_le {xs : List Int} (h : SortP xs) {i j : Nat} (hij : i ≤ j) {x y : Int} (hx : xs[i]? = some x) (hy : xs[j]? = some y) : x ≤ y := by
  induction j generalizing y with
  | zero => obtain rfl : i = 0 := by omega
            rw [hx] at hy; injection hy with hy; omega
  | succ j ih =>
    by_cases e : i = j + 1
    · subst e; rw [hx] at hy; injection hy with hy; omega
    · have hj : j < xs.length := by have := (List.getElem?_eq_some_iff.1 hy).1; omega
      have hz := List.getElem?_eq_getElem hj
      have := ih (by omega) hz
      have := h j _ _ hz hy
      omega
theorem emod_next {n : Nat} {S : Int} (hS : 0 < S) {p : Nat} (h1 : p * S.toNat < n) (h2 : n < (p + 1) * S.toNat) : ((n - 1 : Nat) : Int) % S < (n : Int) % S := by
  obtain ⟨s, rfl⟩ : ∃ s : Nat, S = s := ⟨S.toNat, by omega⟩
  rw [Int.toNat_natCast] at h1 h2
  rw [Nat.add_mul, Nat.one_mul] at h2
  obtain ⟨i, rfl⟩ : ∃ i, n = p * s + i := ⟨n - p * s, by omega⟩
  have e1 : (p * s + i) % s = i := by rw [Nat.add_comm, Nat.add_mul_mod_self_right]; exact Nat.mod_eq_of_lt (by omega)
  have e2 : (p * s + i - 1) % s = i - 1 := by
    have : p * s + i - 1 = p * s + (i - 1) := by omega
    rw [this, Nat.add_comm, Nat.add_mul_mod_self_right]; exact Nat.mod_eq_of_lt (by omega)
  rw [← Int.natCast_emod, ← Int.natCast_emod, e1, e2]
  omega
theorem lok_of {K S : Int} {a : Int} {xs ys : List Int} (h : lvF K S xs ys a = 0) : ∃ b : Nat, a = b ∧ Lok K S xs ys b := by
  obtain ⟨⟨hk, hk4, hs0, hs1, ha0, ha1⟩, ⟨ht1, ht3, ht0⟩, hy, hm, hi, hr⟩ := lvF_pos h
  obtain ⟨b, rfl⟩ : ∃ b : Nat, a = b := ⟨a.toNat, by omega⟩
  refine ⟨b, rfl, ?_⟩
  by_cases hw : wholeB K = true
  · have hk' := wholeB_iff.1 hw
    obtain ⟨hx0, hy0⟩ := ht0 (by omega) (by omega) (by omega)
    have hn12 : ¬ (K = 1 ∨ K = 2) := by omega
    have hm2 : manyF K S ys b = b * S := by unfold manyF; rw [if_pos hw]
    have htot : totN K S ys b = b * S.toNat := by unfold totN; rw [if_pos hw]
    have hoff : ∀ p, offN K S xs p = p * S.toNat := fun p => by unfold offN; rw [if_pos hw]
    have hat : ∀ n, atN K S ys n = (n : Int) % S := fun n => by unfold atN; rw [if_pos hw]
    have hbs : ((b * S.toNat : Nat) : Int) = (b : Int) * S := by rw [Int.natCast_mul, Int.toNat_of_nonneg hs0]
    refine ⟨by omega, hs0, hs1, hk, by rw [htot]; omega, hy, by rw [hoff]; omega, by rw [hoff, htot], fun p _ => ?_, fun n hn => ?_, fun p hp n h1 h2 => ?_, fun e => absurd e hn12, (fun e => by rw [hw] at e; cases e), fun e => absurd e hn12, fun _ => hx0, (fun e => by rw [hw] at e; cases e), fun _ => hy0⟩
    · rw [hoff, hoff, Nat.add_mul]; omega
    · rw [htot] at hn
      have : 0 < S := by
        rcases Int.lt_or_le 0 S with h | h
        · exact h
        · have : S.toNat = 0 := by omega
          rw [this] at hn; omega
      rw [hat]
      exact ⟨Int.emod_nonneg _ (by omega), Int.emod_lt_of_pos _ this⟩
    · rw [hoff] at h1 h2
      have : 0 < S := by
        rcases Int.lt_or_le 0 S with h | h
        · exact h
        · have : S.toNat = 0 := by omega
          rw [this] at h2; omega
      have := emod_next this h1 h2
      rw [hat, hat]
      exact ⟨by omega, fun _ => this⟩
  · have hw' : wholeB K = false := by simpa using hw
    have hkn := wholeB_not.1 hw'
    have htot : totN K S ys b = ys.length := by unfold totN; rw [if_neg hw]
    have hat : ∀ n, atN K S ys n = ys[n]?.getD 0 := fun n => by unfold atN; rw [if_neg hw]
    have hyat : ∀ n, n < ys.length → ys[n]? = some (atN K S ys n) := fun n hn => by rw [hat, List.getElem?_eq_getElem hn]; rfl
    by_cases h3 : K = 3
    · obtain ⟨hx0, hyl⟩ := ht3 h3
      have hoff : ∀ p, offN K S xs p = p := fun p => by unfold offN; rw [if_neg hw, if_pos h3]
      refine ⟨by omega, hs0, hs1, hk, by rw [htot]; omega, hy, by rw [hoff], by rw [hoff, htot]; omega, fun p _ => by rw [hoff, hoff]; omega, fun n hn => ?_, fun p hp n h1 h2 => ?_, fun e => absurd e (by omega), fun _ n hn => hyat n (by rw [← htot]; exact hn), fun e => absurd e (by omega), fun _ => hx0, fun _ => htot.symm, fun e => absurd e hw⟩
      · rw [htot] at hn
        exact hi _ (List.mem_of_getElem? (hyat n hn))
      · rw [hoff] at h1 h2; omega
    · have h12 : K = 1 ∨ K = 2 := by omega
      obtain ⟨hxl, hx0, hxa, hso⟩ := ht1 h12
      rw [Int.toNat_natCast] at hxa
      have hxat : ∀ p, p ≤ b → ∃ x, xs[p]? = some x ∧ 0 ≤ x := fun p hp => by
        have hz := List.getElem?_eq_getElem (l := xs) (i := p) (by omega)
        exact ⟨_, hz, sortP_le hso (Nat.zero_le _) hx0 hz⟩
      have hoff : ∀ p, p ≤ b → xs[p]? = some ((offN K S xs p : Nat) : Int) := fun p hp => by
        obtain ⟨x, hx, hx2⟩ := hxat p hp
        unfold offN; rw [if_neg hw, if_neg h3, hx]; simp only [Option.getD_some]; rw [Int.toNat_of_nonneg hx2]
      have hlast : offN K S xs b = ys.length := by have := hoff b (Nat.le_refl _); rw [hxa] at this; injection this with this; omega
      have hle : ∀ p q, p ≤ q → q ≤ b → offN K S xs p ≤ offN K S xs q := fun p q hpq hq => by
        have := sortP_le hso hpq (hoff p (by omega)) (hoff q hq); omega
      refine ⟨by omega, hs0, hs1, hk, by rw [htot]; omega, hy, ?_, by rw [hlast, htot], fun p hp => hle _ _ (by omega) (by omega), fun n hn => ?_, fun p hp n h1 h2 => ?_, fun _ => hoff, fun _ n hn => hyat n (by rw [← htot]; exact hn), fun _ => by omega, fun e => absurd h12 e, fun _ => htot.symm, fun e => absurd e hw⟩
      · have := hoff 0 (by omega); rw [hx0] at this; injection this with this; omega
      · rw [htot] at hn
        exact hi _ (List.mem_of_getElem? (hyat n hn))
      · have hn : n < ys.length := by have := hle (p + 1) b (by omega) (Nat.le_refl _); omega
        have := hr h12 p (by omega) n _ _ _ _ (hoff p (by omega)) (hoff (p + 1) (by omega)) (by omega) (by omega) (hyat (n - 1) (by omega)) (hyat n hn)
        unfold byI at this
        split at this
        · exact ⟨by omega, fun _ => by omega⟩
        · exact ⟨by omega, fun hk2 => absurd h12 (by omega)⟩

section
variable {K S : Int} {xs ys : List Int} {a : Nat}
theorem Lok.mono (h : Lok K S xs ys a) {p q : Nat} (hpq : p ≤ q) (hq : q ≤ a) : offN K S xs p ≤ offN K S xs q := by
  induction q with
  | zero => obtain rfl : p = 0 := by omega
            exact Nat.le_refl _
  | succ q ih =>
    by_cases e : p = q + 1
    · subst e; exact Nat.le_refl _
    · have := ih (by omega) (by omega)
      have := h.step q (by omega)
      omega
theorem Lok.le_tot (h : Lok K S xs ys a) {p : Nat} (hp : p ≤ a) : offN K S xs p ≤ totN K S ys a := by
  rw [← h.last]; exact h.mono hp (Nat.le_refl _)
theorem Lok.wholeNext (_h : Lok K S xs ys a) (hw : wholeB K = true) (p : Nat) : offN K S xs (p + 1) = offN K S xs p + S.toNat := by
  unfold offN; rw [if_pos hw, if_pos hw, Nat.add_mul, Nat.one_mul]
theorem Lok.wholeAt (_h : Lok K S xs ys a) (hw : wholeB K = true) (p : Nat) {i : Nat} (hi : i < S.toNat) : atN K S ys (offN K S xs p + i) = i := by
  unfold offN atN; rw [if_pos hw, if_pos hw]
  obtain ⟨s, rfl⟩ : ∃ s : Nat, S = s := ⟨S.toNat, by omega⟩
  rw [Int.toNat_natCast] at hi ⊢
  rw [← Int.natCast_emod, Nat.add_comm, Nat.add_mul_mod_self_right, Nat.mod_eq_of_lt hi]
/-- whose child n is -/
theorem Lok.owner (h : Lok K S xs ys a) {n : Nat} (hn : n < totN K S ys a) : ∃ p, p < a ∧ offN K S xs p ≤ n ∧ n < offN K S xs (p + 1) := by
  rw [← h.last] at hn
  have key : ∀ q, q ≤ a → n < offN K S xs q → ∃ p, p < q ∧ offN K S xs p ≤ n ∧ n < offN K S xs (p + 1) := by
    intro q
    induction q with
    | zero => intro _ hq; rw [h.first] at hq; omega
    | succ q ih =>
      intro hqa hq
      by_cases e : n < offN K S xs q
      · obtain ⟨p, h1, h2⟩ := ih (by omega) e
        exact ⟨p, by omega, h2⟩
      · exact ⟨q, by omega, by omega, hq⟩
  exact key a (Nat.le_refl _) hn
theorem Lok.owner_one (h : Lok K S xs ys a) {n p q : Nat} (hp : p < a) (hq : q < a) (h1 : offN K S xs p ≤ n) (h2 : n < offN K S xs (p + 1)) (h3 : offN K S xs q ≤ n) (h4 : n < offN K S xs (q + 1)) : p = q := by
  rcases Nat.lt_trichotomy p q with hh | hh | hh
  · have := h.mono (p := p + 1) (q := q) (by omega) (by omega); omega
  · exact hh
  · have := h.mono (p := q + 1) (q := p) (by omega) (by omega); omega
theorem Lok.sorted (h : Lok K S xs ys a) {p i j : Nat} (hp : p < a) (hi : offN K S xs p ≤ i) (hij : i ≤ j) (hj : j < offN K S xs (p + 1)) : atN K S ys i ≤ atN K S ys j := by
  induction j with
  | zero => obtain rfl : i = 0 := by omega
            exact Int.le_refl _
  | succ j ih =>
    by_cases e : i = j + 1
    · subst e; exact Int.le_refl _
    · have := ih (by omega) (by omega)
      have := (h.rise p hp (j + 1) (by omega) hj).1
      rw [Nat.add_sub_cancel] at this
      omega
end
end Go.Proofs.Yteepiifhmbcciaa
/- The contracts of box.Cells and of the document's Cells (and of what they call), at every list of numbers: both return what cellsF computes, and leave memory alone. -/
namespace Go.Proofs.Yteepiifhmbcciaa
open Go.RowKit

set_option maxRecDepth 100000 in
theorem negative_any (x : Int) (w : World) : Calls Try.prog 85 #[.int .i64 x] w fun e w' => e = .returned (.bool (decide (x < 0))) ∧ w = w' := by
  go_enter Try.func85, Try.ntmps85
  go_wp2
  go_ret
  exact ⟨rfl, rfl⟩

set_option maxRecDepth 100000 in
/-- slices.IndexFunc(l, negative): the place of the first negative number, or -1; here: whether there is one -/
theorem indexFunc_any (A : Option Addr) (n c : Nat) (xs : List Int) (w : World) (B : Nat) (h : Ints w B A n xs) (hn : n ≤ 100000) :
    Calls Try.prog 97 #[.slice A n c, .func (.func 85) #[] #[]] w fun e w' => ∃ r : Int, e = .returned (.int .i64 r) ∧ decide (0 ≤ r) = (xs.any fun s => decide (s < 0)) ∧ w = w' := by
  have HL : Hid (xs.length = n) := h.1
  go_enter Try.func97, Try.ntmps97
  go_wp2
  go_loop [8] (fun i => ∃ k : Nat, k ≤ n ∧ i = .int .i64 k ∧ Hid ((xs.take k).any (fun s => decide (s < 0)) = false)) (fun i => n - (intOf i).toNat)
  case atStart => exact ⟨0, Nat.zero_le _, rfl, by unfold Hid; simp⟩
  case round =>
    obtain ⟨k, hk, rfl, HK⟩ := hrel
    by_cases hlt : k < n
    · obtain ⟨b, off, x, rfl, _, HX, hc, hx1, hx2⟩ := h.at_ hlt
      by_cases hneg : x < 0
      · go_wp2_with (go_at_call 85; refine (negative_any _ _).mono ?_; rintro e w' ⟨rfl, rfl⟩)
        go_ret
        exact ⟨k, rfl, by rw [any_hit HX.out (by simpa using hneg)]; simp, rfl⟩
      · go_wp2_with (go_at_call 85; refine (negative_any _ _).mono ?_; rintro e w' ⟨rfl, rfl⟩)
        go_round
        case rel => exact ⟨k + 1, by omega, by go_num, any_miss HK.out HX.out (by simpa using hneg)⟩
        case measure => simp [intOf]; omega
    · go_wp2
      go_ret
      exact ⟨-1, rfl, by rw [any_all HK.out HL.out (by omega)]; rfl, rfl⟩

set_option maxRecDepth 100000 in
theorem containsFunc_any (A : Option Addr) (n c : Nat) (xs : List Int) (w : World) (B : Nat) (h : Ints w B A n xs) (hn : n ≤ 100000) :
    Calls Try.prog 84 #[.slice A n c, .func (.func 85) #[] #[]] w fun e w' => e = .returned (.bool (xs.any fun s => decide (s < 0))) ∧ w = w' := by
  go_enter Try.func84, Try.ntmps84
  go_wp2_with (go_at_call 97; refine (indexFunc_any A n c xs _ B h hn).mono ?_; rintro e w' ⟨r, rfl, HR, rfl⟩; have HH := Lib.hid HR; clear HR)
  go_ret
  exact ⟨by rw [HH.out]; rfl, rfl⟩

set_option maxRecDepth 100000 in
theorem index_any (A : Option Addr) (n c : Nat) (xs : List Int) (v : Int) (w : World) (B : Nat) (h : Ints w B A n xs) (hn : n ≤ 100000) :
    Calls Try.prog 98 #[.slice A n c, .int .i64 v] w fun e w' => ∃ r : Int, e = .returned (.int .i64 r) ∧ decide (0 ≤ r) = (xs.any fun s => s == v) ∧ w = w' := by
  have HL : Hid (xs.length = n) := h.1
  go_enter Try.func98, Try.ntmps98
  go_wp2
  go_loop [8] (fun i => ∃ k : Nat, k ≤ n ∧ i = .int .i64 k ∧ Hid ((xs.take k).any (fun s => s == v) = false)) (fun i => n - (intOf i).toNat)
  case atStart => exact ⟨0, Nat.zero_le _, rfl, by unfold Hid; simp⟩
  case round =>
    obtain ⟨k, hk, rfl, HK⟩ := hrel
    by_cases hlt : k < n
    · obtain ⟨b, off, x, rfl, _, HX, hc, hx1, hx2⟩ := h.at_ hlt
      by_cases hv : (v == x) = true
      · go_wp2
        go_ret
        exact ⟨k, rfl, by rw [any_hit HX.out (by simp at hv ⊢; exact hv.symm)]; simp, rfl⟩
      · have hv' : (v == x) = false := by simpa using hv
        clear hv
        go_wp2
        go_round
        case rel => exact ⟨k + 1, by omega, by go_num, any_miss HK.out HX.out (by simp at hv' ⊢; exact fun h => hv' h.symm)⟩
        case measure => simp [intOf]; omega
    · go_wp2
      go_ret
      exact ⟨-1, rfl, by rw [any_all HK.out HL.out (by omega)]; rfl, rfl⟩

set_option maxRecDepth 100000 in
theorem contains_any (A : Option Addr) (n c : Nat) (xs : List Int) (v : Int) (w : World) (B : Nat) (h : Ints w B A n xs) (hn : n ≤ 100000) :
    Calls Try.prog 86 #[.slice A n c, .int .i64 v] w fun e w' => e = .returned (.bool (xs.any fun s => s == v)) ∧ w = w' := by
  go_enter Try.func86, Try.ntmps86
  go_wp2_with (go_at_call 98; refine (index_any A n c xs v _ B h hn).mono ?_; rintro e w' ⟨r, rfl, HR, rfl⟩; have HH := Lib.hid HR; clear HR)
  go_ret
  exact ⟨by rw [HH.out]; rfl, rfl⟩

set_option maxRecDepth 100000 in
theorem cells_any (A : Option Addr) (n c : Nat) (xs : List Int) (w : World) (B : Nat) (h : Ints w B A n xs) (hn : n ≤ 9223372036854775807) :
    Calls Try.prog 67 #[.slice A n c] w fun e w' => e = .returned (.tuple #[.int .i64 (cellsF xs).1, .int .i64 (cellsF xs).2]) ∧ w = w' := by
  have HL : Hid (xs.length = n) := h.1
  by_cases h4 : 4 < n
  · go_enter Try.func67, Try.ntmps67
    go_wp2
    go_ret2
    exact ⟨by rw [cellsF, if_pos (.inl (by rw [HL.out]; omega))]; rfl, rfl⟩
  by_cases hneg : (xs.any fun s => decide (s < 0)) = true
  · have HC : ∀ W, Ints W B A n xs → Calls Try.prog 84 #[.slice A n c, .func (.func 85) #[] #[]] W fun e w' => e = .returned (.bool true) ∧ W = w' := fun W hW => (containsFunc_any A n c xs W B hW (by omega)).mono fun _ _ hh => by rw [hneg] at hh; exact hh
    have HN := Lib.hid hneg
    clear hneg
    go_enter Try.func67, Try.ntmps67
    go_wp2_with (go_at_call 84; refine (HC _ h).mono ?_; rintro e w' ⟨rfl, rfl⟩)
    go_ret2
    exact ⟨by rw [cellsF, if_pos (.inr HN.out)]; rfl, rfl⟩
  have hneg' : (xs.any fun s => decide (s < 0)) = false := by simpa using hneg
  clear hneg
  have HC : ∀ W, Ints W B A n xs → Calls Try.prog 84 #[.slice A n c, .func (.func 85) #[] #[]] W fun e w' => e = .returned (.bool false) ∧ W = w' := fun W hW => (containsFunc_any A n c xs W B hW (by omega)).mono fun _ _ hh => by rw [hneg'] at hh; exact hh
  have HN := Lib.hid hneg'
  clear hneg'
  have hor : ¬ (4 < xs.length ∨ (xs.any fun s => decide (s < 0)) = true) := by rw [HN.out, HL.out]; simp; omega
  by_cases hz : (xs.any fun s => s == 0) = true
  · have HD : ∀ W, Ints W B A n xs → Calls Try.prog 86 #[.slice A n c, .int .i64 0] W fun e w' => e = .returned (.bool true) ∧ W = w' := fun W hW => (contains_any A n c xs 0 W B hW (by omega)).mono fun _ _ hh => by rw [hz] at hh; exact hh
    have HF : Hid (cellsF xs = (0, 0)) := by unfold Hid cellsF; rw [if_neg hor, if_pos hz]
    clear hz hor
    go_enter Try.func67, Try.ntmps67
    go_wp2_with (first | (go_at_call 84; refine (HC _ h).mono ?_; rintro e w' ⟨rfl, rfl⟩) | (go_at_call 86; refine (HD _ h).mono ?_; rintro e w' ⟨rfl, rfl⟩))
    go_ret2
    exact ⟨by rw [HF.out]; rfl, rfl⟩
  have hz' : (xs.any fun s => s == 0) = false := (by cases hb : (xs.any fun s => s == 0) with | false => rfl | true => exact absurd hb hz)
  clear hz
  have HD : ∀ W, Ints W B A n xs → Calls Try.prog 86 #[.slice A n c, .int .i64 0] W fun e w' => e = .returned (.bool false) ∧ W = w' := fun W hW => (contains_any A n c xs 0 W B hW (by omega)).mono fun _ _ hh => by rw [hz'] at hh; exact hh
  have HF : Hid (cellsF xs = cellsGo xs 1) := by unfold Hid cellsF; rw [if_neg hor, if_neg (by rw [hz']; simp)]
  have HP : ∀ x ∈ xs, 1 ≤ x := pos_of_any HN.out hz'
  have HZ := Lib.hid hz'
  clear hz' hor
  go_enter Try.func67, Try.ntmps67
  go_wp2_with (first | (go_at_call 84; refine (HC _ h).mono ?_; rintro e w' ⟨rfl, rfl⟩) | (go_at_call 86; refine (HD _ h).mono ?_; rintro e w' ⟨rfl, rfl⟩))
  go_loop [4, 18] (fun m i => ∃ (k : Nat) (q : Int), k ≤ n ∧ 1 ≤ q ∧ q ≤ 4611686018427387903 ∧ i = .int .i64 k ∧ m = .int .i64 q ∧ Hid (cellsGo xs 1 = cellsGo (xs.drop k) q)) (fun _ i => n - (intOf i).toNat)
  case atStart => exact ⟨0, 1, Nat.zero_le _, by omega, by omega, rfl, rfl, rfl⟩
  case round =>
    obtain ⟨k, q, hk, hq1, hq2, rfl, rfl, HK⟩ := hrel
    by_cases hlt : k < n
    · obtain ⟨b, off, x, rfl, _, HX, hc, hx1, hx2⟩ := h.at_ hlt
      have hxp : 1 ≤ x := HP x (List.mem_of_getElem? HX.out)
      clear HC HD
      by_cases hb : 4611686018427387903 / q < x
      · have HE : Hid (cellsGo xs 1 = (0, 2)) := by unfold Hid; rw [HK.out, drop_of HX.out, cellsGo, if_pos hb]
        clear HK
        go_wp2
        go_ret2
        exact ⟨by rw [HF.out, HE.out]; rfl, rfl⟩
      · have HE : Hid (cellsGo xs 1 = cellsGo (xs.drop (k + 1)) (q * x)) := by unfold Hid; rw [HK.out, drop_of HX.out, cellsGo, if_neg hb]
        have hm := mul_bound hq1 hxp hb
        have hb' : x ≤ 4611686018427387903 / q := by omega
        clear HK hb
        go_wp2
        go_round
        case rel => exact ⟨k + 1, q * x, by omega, hm.1, hm.2, by go_num, rfl, HE⟩
        case measure => simp [intOf]; omega
    · have HE : Hid (cellsGo xs 1 = (q, 0)) := by unfold Hid; rw [HK.out, List.drop_of_length_le (by rw [HL.out]; omega)]; rfl
      go_wp2
      go_ret2
      exact ⟨by rw [HF.out, HE.out]; rfl, rfl⟩

set_option maxRecDepth 100000 in
theorem refCells_any (A : Option Addr) (n c : Nat) (xs : List Int) (w : World) (B : Nat) (h : Ints w B A n xs) (hn : n ≤ 9223372036854775807) :
    Calls Try.prog 64 #[.slice A n c] w fun e w' => e = .returned (.tuple #[.int .i64 (cellsF xs).1, .int .i64 (cellsF xs).2]) ∧ w = w' := by
  have HL : Hid (xs.length = n) := h.1
  by_cases h4 : 4 < n
  · go_enter Try.func64, Try.ntmps64
    go_wp2
    go_ret2
    exact ⟨by rw [cellsF, if_pos (.inl (by rw [HL.out]; omega))]; rfl, rfl⟩
  go_enter Try.func64, Try.ntmps64
  go_wp2
  go_loop [4, 15] (fun z i => ∃ (k : Nat) (bz : Bool), k ≤ n ∧ i = .int .i64 k ∧ z = .bool bz ∧ Hid ((xs.take k).any (fun s => decide (s < 0)) = false) ∧ Hid ((xs.take k).any (fun s => s == 0) = bz)) (fun _ i => n - (intOf i).toNat)
  case atStart => exact ⟨0, false, Nat.zero_le _, rfl, rfl, rfl, rfl⟩
  case round =>
    obtain ⟨k, bz, hk, rfl, rfl, HK, HZ⟩ := hrel
    by_cases hlt : k < n
    · obtain ⟨b, off, x, rfl, _, HX, hc, hx1, hx2⟩ := h.at_ hlt
      by_cases hneg : x < 0
      · go_wp2
        go_ret2
        exact ⟨by rw [cellsF, if_pos (.inr (any_hit HX.out (by simpa using hneg)))]; rfl, rfl⟩
      · have HN' : Hid ((xs.take (k + 1)).any (fun s => decide (s < 0)) = false) := any_miss HK.out HX.out (by simpa using hneg)
        have HZ' : Hid ((xs.take (k + 1)).any (fun s => s == 0) = (bz || (x == 0))) := by unfold Hid; rw [take_succ_of HX.out, List.any_append, HZ.out]; simp
        clear HK HZ
        cases bz
        · by_cases hx0 : x = 0
          · subst hx0
            go_wp2
            go_round
            case rel => exact ⟨k + 1, true, by omega, by go_num, rfl, HN', HZ'⟩
            case measure => simp [intOf]; omega
          · have hx0' : (x == 0) = false := by simpa using hx0
            have HZ2 : Hid ((xs.take (k + 1)).any (fun s => s == 0) = false) := by unfold Hid; rw [HZ'.out, hx0']; rfl
            clear hx0
            go_wp2
            go_round
            case rel => exact ⟨k + 1, false, by omega, by go_num, rfl, HN', HZ2⟩
            case measure => simp [intOf]; omega
        · go_wp2
          go_round
          case rel => exact ⟨k + 1, true, by omega, by go_num, rfl, HN', HZ'⟩
          case measure => simp [intOf]; omega
    · have HN : Hid (xs.any (fun s => decide (s < 0)) = false) := any_all HK.out HL.out (by omega)
      have HZ' : Hid (xs.any (fun s => s == 0) = bz) := by unfold Hid; rw [← HZ.out, List.take_of_length_le (by rw [HL.out]; omega)]
      have HO : Hid (¬ (4 < xs.length ∨ (xs.any fun s => decide (s < 0)) = true)) := by unfold Hid; rw [HN.out, HL.out]; simp; omega
      clear HK HZ
      cases bz
      · have HP : ∀ x ∈ xs, 1 ≤ x := pos_of_any HN.out HZ'.out
        have HF : Hid (cellsF xs = cellsGo xs 1) := by unfold Hid cellsF; rw [if_neg HO.out, if_neg (by rw [HZ'.out]; simp)]
        clear HO HZ' HN
        go_wp2
        clear hlt hk
        go_loop [7, 30] (fun m i => ∃ (k : Nat) (q : Int), k ≤ n ∧ 1 ≤ q ∧ q ≤ 4611686018427387903 ∧ i = .int .i64 k ∧ m = .int .i64 q ∧ Hid (cellsGo xs 1 = cellsGo (xs.drop k) q)) (fun _ i => n - (intOf i).toNat)
        case atStart => exact ⟨0, 1, Nat.zero_le _, by omega, by omega, rfl, rfl, rfl⟩
        case round =>
          obtain ⟨k, q, hk, hq1, hq2, rfl, rfl, HK⟩ := hrel
          by_cases hlt : k < n
          · obtain ⟨b, off, x, rfl, _, HX, hc, hx1, hx2⟩ := h.at_ hlt
            have hxp : 1 ≤ x := HP x (List.mem_of_getElem? HX.out)
            by_cases hb : 4611686018427387903 / q < x
            · have HE : Hid (cellsGo xs 1 = (0, 2)) := by unfold Hid; rw [HK.out, drop_of HX.out, cellsGo, if_pos hb]
              clear HK HP
              go_wp2
              go_ret2
              exact ⟨by rw [HF.out, HE.out]; rfl, rfl⟩
            · have HE : Hid (cellsGo xs 1 = cellsGo (xs.drop (k + 1)) (q * x)) := by unfold Hid; rw [HK.out, drop_of HX.out, cellsGo, if_neg hb]
              have hm := mul_bound hq1 hxp hb
              have hb' : x ≤ 4611686018427387903 / q := by omega
              clear HK hb HP
              go_wp2
              go_round
              case rel => exact ⟨k + 1, q * x, by omega, hm.1, hm.2, by go_num, rfl, HE⟩
              case measure => simp [intOf]; omega
          · have HE : Hid (cellsGo xs 1 = (q, 0)) := by unfold Hid; rw [HK.out, List.drop_of_length_le (by rw [HL.out]; omega)]; rfl
            clear HP
            go_wp2
            go_ret2
            exact ⟨by rw [HF.out, HE.out]; rfl, rfl⟩
      · have HF : Hid (cellsF xs = (0, 0)) := by unfold Hid cellsF; rw [if_neg HO.out, if_pos HZ'.out]
        go_wp2
        go_ret2
        exact ⟨by rw [HF.out]; rfl, rfl⟩
end Go.Proofs.Yteepiifhmbcciaa
/- The contract of box.fromBehind: whoever ranges over it is handed each mode, from the last one on, with the product of the sizes behind it. -/
namespace Go.Proofs.Yteepiifhmbcciaa
open Go.RowKit Go.Shelf
attribute [local go_sem] Oper.semAt_some

/-- the product of the last k sizes, as it goes around -/
def backs (xs : List Int) (k : Nat) : Int := (xs.drop (xs.length - k)).foldr (fun s acc => wrap64 (acc * s)) 1
theorem backs_zero (xs : List Int) : backs xs 0 = 1 := by simp [backs]
theorem backs_succ {xs : List Int} {k : Nat} {x : Int} (hk : k < xs.length) (h : xs[xs.length - 1 - k]? = some x) : backs xs (k + 1) = wrap64 (backs xs k * x) := by
  unfold backs
  have e : xs.length - (k + 1) = xs.length - 1 - k := by omega
  rw [e, drop_of h]
  have e2 : xs.length - 1 - k + 1 = xs.length - k := by omega
  rw [e2]
  rfl
/-- what has come when k rounds are over -/
def comes (xs : List Int) (k : Nat) : List (Int × Int) := (List.range k).map fun (j : Nat) => ((xs.length : Int) - 1 - j, backs xs j)
theorem comes_succ (xs : List Int) (k : Nat) : comes xs (k + 1) = comes xs k ++ [((xs.length : Int) - 1 - k, backs xs k)] := by simp [comes, List.range_succ]
theorem comes_length (xs : List Int) (k : Nat) : (comes xs k).length = k := by simp [comes]

/-- what a round keeps: all below n₀, and the block Bs -/
def KeepBox (Bs n₀ : Nat) (W W' : World) : Prop := Below n₀ W W' ∧ W'.heap[Bs]? = W.heap[Bs]?
theorem KeepBox.refl (Bs n₀ : Nat) (W : World) : KeepBox Bs n₀ W W := ⟨Below.refl _ _, rfl⟩
theorem KeepBox.trans {Bs n₀ : Nat} {A B C : World} (h : KeepBox Bs n₀ A B) (k : KeepBox Bs n₀ B C) : KeepBox Bs n₀ A C := ⟨h.1.trans k.1, k.2.trans h.2⟩
theorem KeepBox.box {Bs n₀ : Nat} {A B : World} (h : KeepBox Bs n₀ A B) : B.cell? ⟨Bs, 0, none⟩ = A.cell? ⟨Bs, 0, none⟩ := World.cell?_of_block (a := ⟨Bs, 0, none⟩) h.2
theorem KeepBox.of_setCell {Bs n₀ : Nat} {W : World} {p : Addr} (h1 : n₀ ≤ p.block) (h2 : Bs ≠ p.block) (u : Value) : KeepBox Bs n₀ W (W.setCell p u) := ⟨(Below.refl _ _).setCell h1 u, Below.heap_setCell W p u Bs h2⟩
theorem KeepBox.drew {Bs n₀ : Nat} {A B : World} (h : KeepBox Bs n₀ A B) : KeepBox Bs n₀ A B.drew := ⟨h.1.drew, h.2⟩

set_option maxRecDepth 100000 in
set_option maxHeartbeats 1000000 in
theorem fromBehind_in (n : Nat) (A : Option Addr) (r c : Nat) (w : World) :
    CallsIn Fence.wide n Try.prog 69 #[.slice A r c] w fun e w' => e = .returned (.func (.func 87) #[] #[.pointer (some ⟨w.heap.size, 0, none⟩)]) ∧ w' = w.alloc (.cells #[.slice A r c] 22) := by
  refine callsIn_of_wp Try.func69 rfl trivial ?_ rfl
  simp only [Try.ntmps69, List.size_toArray, List.length_cons, List.length_nil, Nat.reduceAdd, Nat.reduceSub, Array.replicate_succ, Array.replicate_zero, List.push_toArray, List.append_toArray, List.nil_append, List.cons_append]
  gi_wp2
  go_ret
  exact ⟨rfl, rfl⟩

set_option maxRecDepth 100000 in
set_option maxHeartbeats 2000000 in
theorem fromBehind1_in (n : Nat) (hn : 1 ≤ n) (p : Int × Int → Prop) (l Bs n₀ : Nat) (A : Option Addr) (r c : Nat) (xs : List Int) (hr : r ≤ 100000) (hp : ∀ k, k < r → p ((r : Int) - 1 - k, backs xs k)) (J Jx : List { x : Int × Int // p x } → World → Prop)
    (hY : ∀ pre x W, J pre W → pre.length < r → YieldAt Fence.wide (n - 1) Try.prog l #[.int .i64 x.1.1, .int .i64 x.1.2] W fun e W' =>
      (e = .returned (.bool true) ∧ J (pre ++ [x]) W' ∧ KeepBox Bs n₀ W W') ∨ (e = .returned (.bool false) ∧ Jx (pre ++ [x]) W'))
    (W : World) (hBs : W.cell? ⟨Bs, 0, none⟩ = some (.slice A r c)) (hI : Ints W n₀ A r xs) (h0 : J [] W) :
    CallsIn Fence.wide n Try.prog 87 #[.func (.yield l) #[] #[], .pointer (some ⟨Bs, 0, none⟩)] W fun e W' => (∃ v, e = .returned v) ∧
      ((∃ ys, ys.map (·.1) = comes xs r ∧ J ys W') ∨ (∃ pre, (∃ k, k ≤ r ∧ pre.map (·.1) = comes xs k) ∧ Jx pre W')) := by
  have HL : Hid (xs.length = r) := hI.1
  refine callsIn_of_wp Try.func87 rfl trivial ?_ rfl
  simp only [Try.ntmps87, List.size_toArray, List.length_cons, List.length_nil, Nat.reduceAdd, Nat.reduceSub, Array.replicate_succ, Array.replicate_zero, List.push_toArray, List.append_toArray, List.nil_append, List.cons_append]
  gi_wp2
  gi_loopw [3, 4] (fun s m wr => ∃ (k : Nat) (j q : Int) (ys : List { x : Int × Int // p x }), k ≤ r ∧ j = (r : Int) - 1 - k ∧ m = .int .i64 j ∧ s = .int .i64 q ∧ Hid (q = backs xs k) ∧ Hid (ys.map (·.1) = comes xs k) ∧ J ys wr ∧ KeepBox Bs n₀ W wr)
    (fun _ m _ => (intOf m + 1).toNat)
  case atStart => exact ⟨0, (r : Int) - 1, 1, [], Nat.zero_le _, by omega, rfl, rfl, (backs_zero xs).symm, (by unfold Hid; simp [comes]), h0, KeepBox.refl _ _ _⟩
  case round =>
    obtain ⟨k, j, q, ys, hk, hj, rfl, rfl, HQ, HY, hJs, hnx⟩ := hrel
    by_cases hlt : k < r
    · have hI' := hI.below hnx.1
      have hBs' := hnx.box.trans hBs
      obtain ⟨b, off, x, rfl, hb, HX, hc, hx1, hx2⟩ := hI'.at_ (k := r - 1 - k) (by omega)
      have hj0 : 0 ≤ j := by omega
      have hj1 : j < r := by omega
      have hpx : p (j, q) := by rw [hj, HQ.out]; exact hp k hlt
      obtain ⟨fn, tmps, assign, body, hy, hR⟩ := hY ys ⟨(j, q), hpx⟩ wr hJs (by have := congrArg List.length HY.out; simp [comes_length] at this; omega)
      dsimp only at hy hR
      have HJ := Lib.hid hj
      have HS : Hid ((ys ++ [(⟨(j, q), hpx⟩ : { x : Int × Int // p x })]).map (·.1) = comes xs (k + 1)) := by unfold Hid; rw [List.map_append, HY.out, comes_succ, HL.out, ← hj, ← HQ.out]; rfl
      clear hj
      gi_wp2
      refine hR.mono ?_
      rintro e W3 (⟨rfl, hJ3, hk3⟩ | ⟨rfl, hJx3⟩)
      · have hBs3 := hk3.box.trans hBs'
        have hc3 : W3.cell? ⟨b, off + j.toNat, none⟩ = some (.int .i64 x) := by
          have e : j.toNat = r - 1 - k := by have := HJ.out; omega
          rw [e]; exact (hk3.1.cell (p := ⟨b, off + (r - 1 - k), none⟩) hb).trans hc
        gi_wp2
        go_roundw
        case rel => exact ⟨k + 1, j - 1, wrap64 (q * x), ys ++ [⟨(j, q), hpx⟩], by omega, by have := HJ.out; omega, rfl, rfl, by unfold Hid; rw [HQ.out]; exact (backs_succ (by rw [HL.out]; omega) (by rw [HL.out]; exact HX.out)).symm, HS, hJ3, hnx.trans hk3⟩
        case measure => simp [intOf]; omega
      · gi_wp2
        refine bodyPost_ret (results_none rfl _ _ _) rfl ?_
        exact ⟨⟨_, rfl⟩, .inr ⟨_, ⟨k + 1, by omega, HS.out⟩, hJx3⟩⟩
    · obtain rfl : k = r := by omega
      have hj1 : j < 0 := by omega
      have HJ := Lib.hid hj
      clear hj
      gi_wp2
      go_end0
      exact ⟨⟨_, rfl⟩, .inl ⟨_, HY.out, hJs⟩⟩

theorem fromBehind_stops (n : Nat) (hn : 1 ≤ n) (p : Int × Int → Prop) (Bs n₀ : Nat) (A : Option Addr) (r c : Nat) (xs : List Int) (hr : r ≤ 100000) (hp : ∀ k, k < r → p ((r : Int) - 1 - k, backs xs k)) (w : World) (hBs : Bs < w.heap.size) (hn₀ : n₀ ≤ w.heap.size)
    (hc : w.cell? ⟨Bs, 0, none⟩ = some (.slice A r c)) (hI : Ints w n₀ A r xs) :
    SeqStopsK Fence.wide n Try.prog 87 #[.pointer (some ⟨Bs, 0, none⟩)] (fun x : { x : Int × Int // p x } => #[Value.int .i64 x.1.1, Value.int .i64 x.1.2]) (KeepBox Bs n₀) (fun ys => ys.map (·.1) = comes xs r) (fun pre => ∃ k, k ≤ r ∧ pre.map (·.1) = comes xs k) r w :=
  fun l J Jx W hW _ _ hY h0 => fromBehind1_in n hn p l Bs n₀ A r c xs hr hp J Jx hY W ((hW.cell (p := ⟨Bs, 0, none⟩) hBs).trans hc) (hI.below (hW.mono hn₀)) h0

theorem keepBox_b {Bs n₀ : Nat} {w : World} (h1 : n₀ ≤ w.heap.size) (h2 : Bs < w.heap.size) : ∀ (W : World) (l : Nat) (o o' : Obj), w.heap.size ≤ l → W.heap[l]? = some o → o.isCells = false → o.isWalk = false → KeepBox Bs n₀ W (W.putObj l o') :=
  fun W l o o' hl ho hcs hwk => ⟨belowK_b h1 W l o o' hl ho hcs hwk, (belowK_b (n₀ := Bs + 1) (by omega) W l o o' hl ho hcs hwk).block Bs (by omega)⟩

theorem boxCell {W : World} {B : Nat} {v : Value} {t : TypeId} (h : W.heap[B]? = some (.cells #[v] t (0, 0))) : W.cell? ⟨B, 0, none⟩ = some v ∧ W.frozen? ⟨B, 0, none⟩ = false := by
  constructor <;> simp [World.cell?, World.frozen?, h]
theorem newCell (W : World) (v : Value) (t : TypeId) : (W.alloc (.cells #[v] t)).cell? ⟨W.heap.size, 0, none⟩ = some v ∧ (W.alloc (.cells #[v] t)).frozen? ⟨W.heap.size, 0, none⟩ = false :=
  boxCell (heap_alloc_new W _)
theorem cellPast {W : World} {a : Addr} {v : Value} (o : Obj) (h : W.cell? a = some v) : (W.alloc o).cell? a = some v := cell_kept h (World.grownBy_alloc W o none) (fun r e => by cases e)
theorem frozenPast {W : World} {a : Addr} {v : Value} (o : Obj) (h : W.cell? a = some v) (hf : W.frozen? a = false) : (W.alloc o).frozen? a = false := (frozen_kept h (World.grownBy_alloc W o none) (fun r e => by cases e)).trans hf
end Go.Proofs.Yteepiifhmbcciaa
/- The contracts of box.inside and of the document's in and Equal: whether a list is a place in a shape; whether two lists are one. -/
namespace Go.Proofs.Yteepiifhmbcciaa
open Go.RowKit

def badAt (p : Int × Int) : Bool := decide (p.1 < 0) || decide (p.2 ≤ p.1)
def insideF (xs cs : List Int) : Bool := decide (cs.length = xs.length) && !((cs.zip xs).any badAt)
theorem zip_at {cs xs : List Int} {k : Nat} {c s : Int} (h1 : cs[k]? = some c) (h2 : xs[k]? = some s) : (cs.zip xs)[k]? = some (c, s) := by
  rw [List.getElem?_zip_eq_some]; exact ⟨h1, h2⟩

set_option maxRecDepth 100000 in
theorem inside_any (A A2 : Option Addr) (n n2 c c2 : Nat) (xs cs : List Int) (w : World) (B : Nat) (h : Ints w B A n xs) (h2 : Ints w B A2 n2 cs) (hn : n ≤ 100000) (hn2 : n2 ≤ 9223372036854775807) :
    Calls Try.prog 68 #[.slice A n c, .slice A2 n2 c2] w fun e w' => e = .returned (.bool (insideF xs cs)) ∧ w = w' := by
  have HL : Hid (xs.length = n) := h.1
  have HL2 : Hid (cs.length = n2) := h2.1
  by_cases hne : n2 = n
  · subst hne
    go_enter Try.func68, Try.ntmps68
    go_wp2
    go_loop [14] (fun i => ∃ k : Nat, k ≤ n2 ∧ i = .int .i64 k ∧ Hid (((cs.zip xs).take k).any badAt = false)) (fun i => n2 - (intOf i).toNat)
    case atStart => exact ⟨0, Nat.zero_le _, rfl, by unfold Hid; simp⟩
    case round =>
      obtain ⟨k, hk, rfl, HK⟩ := hrel
      by_cases hlt : k < n2
      · obtain ⟨b, off, x, rfl, _, HX, hc, hx1, hx2⟩ := h.at_ hlt
        obtain ⟨b2, off2, y, rfl, _, HY, hc2, hy1, hy2⟩ := h2.at_ hlt
        by_cases hneg : y < 0
        · have HF : Hid (insideF xs cs = false) := by unfold Hid insideF; rw [any_hit (zip_at HY.out HX.out) (by simp [badAt, hneg])]; simp
          go_wp2
          go_ret
          exact ⟨by rw [HF.out]; rfl, rfl⟩
        · by_cases hge : x ≤ y
          · have HF : Hid (insideF xs cs = false) := by unfold Hid insideF; rw [any_hit (zip_at HY.out HX.out) (by simp [badAt, hge])]; simp
            go_wp2
            go_ret
            exact ⟨by rw [HF.out]; rfl, rfl⟩
          · have HN : Hid (((cs.zip xs).take (k + 1)).any badAt = false) := any_miss HK.out (zip_at HY.out HX.out) (by simp [badAt]; omega)
            go_wp2
            go_round
            case rel => exact ⟨k + 1, by omega, by go_num, HN⟩
            case measure => simp [intOf]; omega
      · have HF : Hid (insideF xs cs = true) := by
          unfold Hid insideF; rw [any_all HK.out (n := n2) (by rw [List.length_zip, HL.out, HL2.out]; simp) (by omega), HL.out, HL2.out]; simp
        go_wp2
        go_ret
        exact ⟨by rw [HF.out]; rfl, rfl⟩
  · have HF : Hid (insideF xs cs = false) := by unfold Hid insideF; rw [HL.out, HL2.out]; simp [hne]
    have hne1 : ((n2 : Int) == (n : Int)) = false := by simp; omega
    have hne2 : ((n2 : Int) != (n : Int)) = true := by simp; omega
    go_enter Try.func68, Try.ntmps68
    go_wp2
    go_ret
    exact ⟨by rw [HF.out]; rfl, rfl⟩

set_option maxRecDepth 100000 in
theorem refIn_any (A A2 : Option Addr) (n n2 c c2 : Nat) (xs cs : List Int) (w : World) (B : Nat) (h : Ints w B A n xs) (h2 : Ints w B A2 n2 cs) (hn : n ≤ 100000) (hn2 : n2 ≤ 9223372036854775807) :
    Calls Try.prog 65 #[.slice A n c, .slice A2 n2 c2] w fun e w' => e = .returned (.bool (insideF xs cs)) ∧ ∃ m, w' = w.drewN m := by
  have HL : Hid (xs.length = n) := h.1
  have HL2 : Hid (cs.length = n2) := h2.1
  by_cases hne : n2 = n
  · subst hne
    go_enter Try.func65, Try.ntmps65
    go_wp2
    go_loopw [13] (fun i wr => ∃ (k m : Nat), k ≤ n2 ∧ i = .int .i64 k ∧ wr = w.drewN m ∧ Hid (((cs.zip xs).take k).any badAt = false)) (fun i _ => n2 - (intOf i).toNat)
    case atStart => exact ⟨0, 0, Nat.zero_le _, rfl, rfl, by unfold Hid; simp⟩
    case round =>
      obtain ⟨k, m, hk, rfl, rfl, HK⟩ := hrel
      by_cases hlt : k < n2
      · obtain ⟨b, off, x, rfl, _, HX, hc, hx1, hx2⟩ := h.at_ hlt
        obtain ⟨b2, off2, y, rfl, _, HY, hc2, hy1, hy2⟩ := h2.at_ hlt
        have hk0 : (0 : Int) ≤ k := by omega
        have hk1 : (k : Int) < n2 := by omega
        by_cases hneg : y < 0
        · have HF : Hid (insideF xs cs = false) := by unfold Hid insideF; rw [any_hit (zip_at HY.out HX.out) (by simp [badAt, hneg])]; simp
          have hd : decide (y < 0) = true := by simpa using hneg
          go_wp2
          go_quiet (fail)
          go_wp2
          go_ret
          exact ⟨by rw [HF.out]; rfl, _, World.drewN_drewN _ _ _⟩
        · have hd : decide (y < 0) = false := by simpa using hneg
          by_cases hge : x ≤ y
          · have HF : Hid (insideF xs cs = false) := by unfold Hid insideF; rw [any_hit (zip_at HY.out HX.out) (by simp [badAt, hge])]; simp
            go_wp2
            go_quiet (fail)
            go_wp2
            go_ret
            exact ⟨by rw [HF.out]; rfl, _, World.drewN_drewN _ _ _⟩
          · have HN : Hid (((cs.zip xs).take (k + 1)).any badAt = false) := any_miss HK.out (zip_at HY.out HX.out) (by simp [badAt]; omega)
            go_wp2
            go_quiet (fail)
            go_wp2
            go_roundw
            case rel => exact ⟨k + 1, _, by omega, by go_num, rfl, HN⟩
            case measure => simp [intOf]; omega
      · have HF : Hid (insideF xs cs = true) := by
          unfold Hid insideF; rw [any_all HK.out (n := n2) (by rw [List.length_zip, HL.out, HL2.out]; simp) (by omega), HL.out, HL2.out]; simp
        go_wp2
        go_ret
        exact ⟨by rw [HF.out]; rfl, _, rfl⟩
  · have HF : Hid (insideF xs cs = false) := by unfold Hid insideF; rw [HL.out, HL2.out]; simp [hne]
    have hne1 : ((n2 : Int) == (n : Int)) = false := by simp; omega
    have hne2 : ((n2 : Int) != (n : Int)) = true := by simp; omega
    go_enter Try.func65, Try.ntmps65
    go_wp2
    go_ret
    exact ⟨by rw [HF.out]; rfl, 0, rfl⟩

set_option maxRecDepth 100000 in
/-- the document's Equal -/
theorem refEqual_any (A A2 : Option Addr) (n n2 c c2 : Nat) (xs ys : List Int) (w : World) (B : Nat) (h : Ints w B A n xs) (h2 : Ints w B A2 n2 ys) (hn : n ≤ 100000) (hn2 : n2 ≤ 9223372036854775807) :
    Calls Try.prog 23 #[.slice A n c, .slice A2 n2 c2] w fun e w' => e = .returned (.bool (decide (xs = ys))) ∧ ∃ m, w' = w.drewN m := by
  have HL : Hid (xs.length = n) := h.1
  have HL2 : Hid (ys.length = n2) := h2.1
  by_cases hne : n = n2
  · subst hne
    go_enter Try.func23, Try.ntmps23
    go_wp2
    go_loopw [13] (fun i wr => ∃ (k m : Nat), k ≤ n ∧ i = .int .i64 k ∧ wr = w.drewN m ∧ Hid (xs.take k = ys.take k)) (fun i _ => n - (intOf i).toNat)
    case atStart => exact ⟨0, 0, Nat.zero_le _, rfl, rfl, by unfold Hid; simp⟩
    case round =>
      obtain ⟨k, m, hk, rfl, rfl, HK⟩ := hrel
      by_cases hlt : k < n
      · obtain ⟨b, off, x, rfl, _, HX, hc, hx1, hx2⟩ := h.at_ hlt
        obtain ⟨b2, off2, y, rfl, _, HY, hc2, hy1, hy2⟩ := h2.at_ hlt
        have hk0 : (0 : Int) ≤ k := by omega
        have hk1 : (k : Int) < n := by omega
        by_cases hxy : x = y
        · have HN : Hid (xs.take (k + 1) = ys.take (k + 1)) := by unfold Hid; rw [take_succ_of HX.out, take_succ_of HY.out, HK.out, hxy]
          have e1 : (x == y) = true := by simpa using hxy
          have e2 : (x != y) = false := by simpa using hxy
          clear hxy
          go_wp2
          go_quiet (fail)
          go_wp2
          go_roundw
          case rel => exact ⟨k + 1, _, by omega, by go_num, rfl, HN⟩
          case measure => simp [intOf]; omega
        · have HF : Hid (decide (xs = ys) = false) := by
            unfold Hid; rw [decide_eq_false]; intro e; subst e
            have := HX.out; rw [HY.out] at this; exact hxy (by injection this with this; exact this.symm)
          have e1 : (x == y) = false := by simpa using hxy
          have e2 : (x != y) = true := by simpa using hxy
          go_wp2
          go_quiet (fail)
          go_wp2
          go_ret
          exact ⟨by rw [HF.out]; rfl, _, World.drewN_drewN _ _ _⟩
      · have HF : Hid (decide (xs = ys) = true) := by
          unfold Hid; rw [decide_eq_true]; have := HK.out
          rwa [List.take_of_length_le (by rw [HL.out]; omega), List.take_of_length_le (by rw [HL2.out]; omega)] at this
        go_wp2
        go_ret
        exact ⟨by rw [HF.out]; rfl, _, rfl⟩
  · have HF : Hid (decide (xs = ys) = false) := by unfold Hid; rw [decide_eq_false]; intro e; subst e; exact hne (by rw [← HL.out, ← HL2.out])
    have hne1 : ((n : Int) == (n2 : Int)) = false := by simp; omega
    have hne2 : ((n : Int) != (n2 : Int)) = true := by simp; omega
    go_enter Try.func23, Try.ntmps23
    go_wp2
    go_ret
    exact ⟨by rw [HF.out]; rfl, 0, rfl⟩
end Go.Proofs.Yteepiifhmbcciaa
