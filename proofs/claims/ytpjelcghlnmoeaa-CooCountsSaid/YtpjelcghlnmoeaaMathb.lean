/- More plain arithmetic: the place of a number; slices of a call's own. -/
import Derived.Test.YtpjelcghlnmoeaaMath
namespace Go.Proofs.Ytpjelcghlnmoeaa
open Go.RowKit

theorem placeR_length (xs : List Int) (n : Int) : (placeR xs n).length = xs.length := by
  induction xs with
  | nil => rfl
  | cons s l ih => simp [placeR, ih]
theorem placeR_at {xs : List Int} {n : Int} {k : Nat} {x : Int} (hx : xs[k]? = some x) : (placeR xs n)[k]? = some (n / prodI (xs.drop (k + 1)) % x) := by
  induction xs generalizing k with
  | nil => simp at hx
  | cons s l ih => cases k with
    | zero => simp at hx; subst hx; simp [placeR]
    | succ k => simpa [placeR] using ih (by simpa using hx)
theorem placeR_fits {xs : List Int} (hp : ∀ x ∈ xs, 1 ≤ x) (hM : ∀ x ∈ xs, x ≤ 9223372036854775807) (v : Int) : ∀ x ∈ placeR xs v, -9223372036854775808 ≤ x ∧ x ≤ 9223372036854775807 := by
  induction xs with
  | nil => simp [placeR]
  | cons s l ih =>
    have hs := hp s (by simp)
    have hs2 := hM s (by simp)
    have h1 := Int.emod_nonneg (v / prodI l) (b := s) (by omega)
    have h2 := Int.emod_lt_of_pos (v / prodI l) (b := s) (by omega)
    intro x hx
    simp only [placeR, List.mem_cons] at hx
    rcases hx with rfl | hx
    · omega
    · exact ih (fun x hx => hp x (by simp [hx])) (fun x hx => hM x (by simp [hx])) x hx
theorem cellsF_nz {xs : List Int} (h : (cellsF xs).2 = 0) (hn : (cellsF xs).1 ≠ 0) : ∀ x ∈ xs, 1 ≤ x := by
  have h0 := (cellsF_ok h).2
  intro x hx
  have := h0 x hx
  by_cases hz : x = 0
  · exfalso
    subst hz
    have hz : (xs.any fun s => s == 0) = true := by rw [List.any_eq_true]; exact ⟨0, hx, rfl⟩
    apply hn
    unfold cellsF at h ⊢
    split at h
    · simp at h
    · rename_i hh; rw [if_neg hh, if_pos hz]
  · omega
theorem back_set {p : List Int} {r k : Nat} {v : Int} (hk : k < r) (hv : p[r - 1 - k]? = some v) :
    (List.replicate (r - k) 0 ++ p.drop (r - k)).set (r - 1 - k) v = List.replicate (r - (k + 1)) 0 ++ p.drop (r - (k + 1)) := by
  have e : r - (k + 1) = r - 1 - k := by omega
  rw [e, drop_of hv]
  have e2 : r - 1 - k + 1 = r - k := by omega
  rw [e2]
  have e3 : List.replicate (r - k) (0 : Int) = List.replicate (r - 1 - k) 0 ++ [0] := by rw [← e2, List.replicate_succ']
  rw [e3, List.append_assoc, List.set_append_right _ _ (by simp)]
  simp
/-- the place is a place, and its number is n -/
theorem placeR_inn {xs : List Int} (hp : ∀ x ∈ xs, 1 ≤ x) (n : Int) : Inn xs (placeR xs n) := by
  induction xs with
  | nil => trivial
  | cons s l ih =>
    have hs := hp s (by simp)
    exact ⟨Int.emod_nonneg _ (by omega), Int.emod_lt_of_pos _ (by omega), ih (fun x hx => hp x (by simp [hx]))⟩
theorem numR_placeR {xs : List Int} (hp : ∀ x ∈ xs, 1 ≤ x) (n : Int) : numR xs (placeR xs n) = n % prodI xs := by
  induction xs with
  | nil => simp [numR, prodI, Int.emod_one]
  | cons s l ih =>
    have hl : ∀ x ∈ l, 1 ≤ x := fun x hx => hp x (by simp [hx])
    have h1 := prodI_pos hl
    simp only [placeR, numR, prodI]
    rw [ih hl]
    have e : n / prodI l % s * prodI l = prodI l * (n / prodI l % s) := Int.mul_comm _ _
    have h2 := Int.emod_add_mul_ediv n (prodI l)
    have h3 := Int.emod_add_mul_ediv (n / prodI l) s
    have h4 := Int.emod_add_mul_ediv n (s * prodI l)
    have h5 : n / (s * prodI l) = n / prodI l / s := by rw [Int.mul_comm, Int.ediv_ediv_of_nonneg (by omega)]
    rw [h5] at h4
    have h6 : prodI l * (n / prodI l) = prodI l * (n / prodI l % s) + prodI l * (s * (n / prodI l / s)) := by rw [← Int.mul_add, h3]
    have h7 : prodI l * (s * (n / prodI l / s)) = s * prodI l * (n / prodI l / s) := by rw [← Int.mul_assoc, Int.mul_comm (prodI l) s]
    omega

/-- a slice of the call's own, of 64-bit integers of type e -/
def OwnI (w : World) (base : Nat) (e : TypeId) (A : Option Addr) (c : Nat) (xs : List Int) : Prop :=
  w.ownsRow base e 1 (.slice A xs.length c) xs.length (xs.map (Value.int .i64)) ∧ ∀ x ∈ xs, -9223372036854775808 ≤ x ∧ x ≤ 9223372036854775807
theorem OwnI.ints {w : World} {base : Nat} {e : TypeId} {A : Option Addr} {c : Nat} {xs : List Int} (h : OwnI w base e A c xs) : Ints w w.heap.size A xs.length xs := Ints.of_own h.1 h.2
theorem OwnI.nil_ (w : World) (base : Nat) (e : TypeId) : OwnI w base e none 0 [] := ⟨w.ownsRow_nil base e 1, by simp⟩
theorem OwnI.below {w w' : World} {base B : Nat} {e : TypeId} {A : Option Addr} {c : Nat} {xs : List Int} (h : OwnI w base e A c xs) (hb : Below B w w') (hB : w.heap.size ≤ B) : OwnI w' base e A c xs :=
  ⟨h.1.kept ⟨hb.os, hb.tape, hb.output, hb.size, fun i hi _ => hb.block i (by omega)⟩ (row := none) (by cases hh : (Value.slice A xs.length c).ownBlock with | none => exact .inl rfl | some k => exact .inr (by simp)), h.2⟩
theorem OwnI.mono {w : World} {base base' : Nat} {e : TypeId} {A : Option Addr} {c : Nat} {xs : List Int} (h : OwnI w base e A c xs) (hb : base' ≤ base) : OwnI w base' e A c xs := by
  refine ⟨⟨h.1.1, ?_⟩, h.2⟩
  rcases h.1.2 with hh | ⟨g, cap, cur, h1, h2, h3⟩
  · exact .inl hh
  · exact .inr ⟨g, cap, cur, h1, by omega, h3⟩
/-- the document's Coord, whole -/
def coordF (xs : List Int) (n : Int) : List Int × Int := if (cellsF xs).2 = 0 then if 0 ≤ n ∧ n < (cellsF xs).1 then (placeR xs n, 0) else ([], 3) else ([], (cellsF xs).2)
end Go.Proofs.Ytpjelcghlnmoeaa
