/- Plain arithmetic on lists: products, the number of a place, the place of a number. No program. -/
import Derived.Test.YtgkngimeokhhgaaDoorG1
import Derived.Deep.RegionWith
import Derived.WalkSpells
import Derived.StillTail
import Derived.StillTactics
import Derived.RangeFuncCalls
import Derived.TacticsIn
import Derived.Lib.QuietBelow
import Derived.Laws.AppendOwnNone
import Derived.Deep.RegionLaw
import Derived.Deep.DeepCutAuto
namespace Go.Proofs.YtgkngimeokhhgaaDoor
open Go.RowKit

theorem wrap_eq (n : Int) : IntKind.i64.wrap n = wrap64 n := by unfold wrap64; exact IntKind.wrap_i64 n
def prodI : List Int → Int
  | [] => 1
  | s :: l => s * prodI l
/-- the number of the place cs in the shape xs -/
def numR : List Int → List Int → Int
  | _ :: l, c :: d => c * prodI l + numR l d
  | _, _ => 0
/-- the same, as the document says it, from the first mode on -/
def hor : List Int → List Int → Int → Int
  | s :: l, c :: d, a => hor l d (a * s + c)
  | _, _, a => a
/-- the place of the number n -/
def placeR : List Int → Int → List Int
  | [], _ => []
  | s :: l, n => (n / prodI l % s) :: placeR l n
/-- cs is a place in xs -/
def Inn : List Int → List Int → Prop
  | [], [] => True
  | s :: l, c :: d => 0 ≤ c ∧ c < s ∧ Inn l d
  | _, _ => False

theorem prodI_append (a b : List Int) : prodI (a ++ b) = prodI a * prodI b := by
  induction a with
  | nil => simp [prodI]
  | cons x a ih => simp [prodI, ih, Int.mul_assoc]
theorem prodI_pos {xs : List Int} (h : ∀ x ∈ xs, 1 ≤ x) : 1 ≤ prodI xs := by
  induction xs with
  | nil => simp [prodI]
  | cons x a ih =>
    have h1 := h x (by simp)
    have h2 := ih (fun y hy => h y (by simp [hy]))
    have := Int.mul_le_mul h1 h2 (by omega) (by omega)
    simpa [prodI] using this
theorem hor_eq {xs cs : List Int} (h : xs.length = cs.length) (a : Int) : hor xs cs a = a * prodI xs + numR xs cs := by
  induction xs generalizing cs a with
  | nil => cases cs <;> simp [hor, numR, prodI]
  | cons s l ih =>
    cases cs with
    | nil => simp at h
    | cons c d =>
      simp only [hor, numR, prodI]
      rw [ih (by simpa using h), Int.add_mul]
      rw [Int.mul_assoc]; omega
theorem hor_snoc {l d : List Int} (h : l.length = d.length) (s c a : Int) : hor (l ++ [s]) (d ++ [c]) a = hor l d a * s + c := by
  induction l generalizing d a with
  | nil => cases d with
    | nil => simp [hor]
    | cons _ _ => simp at h
  | cons x l ih => cases d with
    | nil => simp at h
    | cons y d => simp only [List.cons_append, hor]; exact ih (by simpa using h) _
theorem Inn.len {xs cs : List Int} (h : Inn xs cs) : xs.length = cs.length := by
  induction xs generalizing cs with
  | nil => cases cs with
    | nil => rfl
    | cons _ _ => exact h.elim
  | cons s l ih => cases cs with
    | nil => exact h.elim
    | cons c d => simp [ih h.2.2]
theorem Inn.pos {xs cs : List Int} (h : Inn xs cs) : ∀ x ∈ xs, 1 ≤ x := by
  induction xs generalizing cs with
  | nil => simp
  | cons s l ih => cases cs with
    | nil => exact h.elim
    | cons c d =>
      intro x hx
      simp at hx
      rcases hx with rfl | hx
      · have := h.1; have := h.2.1; omega
      · exact ih h.2.2 x hx
theorem step_bound {q P x y : Int} (h1 : 0 ≤ q) (h2 : q < P) (h3 : 0 ≤ y) (h4 : y < x) : 0 ≤ q * x ∧ 0 ≤ q * x + y ∧ q * x + y < P * x := by
  have a : q * x ≤ (P - 1) * x := Int.mul_le_mul_of_nonneg_right (by omega) (by omega)
  rw [Int.sub_mul] at a
  have b : 0 ≤ q * x := Int.mul_nonneg h1 (by omega)
  omega
theorem Inn.bound {xs cs : List Int} (h : Inn xs cs) : 0 ≤ numR xs cs ∧ numR xs cs < prodI xs := by
  induction xs generalizing cs with
  | nil => cases cs with
    | nil => simp [numR, prodI]
    | cons _ _ => exact h.elim
  | cons s l ih => cases cs with
    | nil => exact h.elim
    | cons c d =>
      simp only [numR, prodI]
      have hb := ih h.2.2
      have := step_bound (q := c) (P := s) (x := prodI l) (y := numR l d) h.1 h.2.1 hb.1 hb.2
      omega
theorem Inn.drop_ {xs cs : List Int} (h : Inn xs cs) (k : Nat) : Inn (xs.drop k) (cs.drop k) := by
  induction k generalizing xs cs with
  | zero => simpa using h
  | succ k ih =>
    cases xs with
    | nil => cases cs with
      | nil => simpa using h
      | cons _ _ => exact h.elim
    | cons s l => cases cs with
      | nil => exact h.elim
      | cons c d => simpa using ih h.2.2
theorem Inn.at_ {xs cs : List Int} (h : Inn xs cs) {k : Nat} {x y : Int} (hx : xs[k]? = some x) (hy : cs[k]? = some y) : 0 ≤ y ∧ y < x := by
  induction xs generalizing cs k with
  | nil => simp at hx
  | cons s l ih => cases cs with
    | nil => exact h.elim
    | cons c d =>
      cases k with
      | zero => simp at hx hy; subst hx; subst hy; exact ⟨h.1, h.2.1⟩
      | succ k => exact ih h.2.2 (by simpa using hx) (by simpa using hy)
theorem numR_drop {xs cs : List Int} {k : Nat} {x y : Int} (hx : xs[k]? = some x) (hy : cs[k]? = some y) :
    numR (xs.drop k) (cs.drop k) = y * prodI (xs.drop (k + 1)) + numR (xs.drop (k + 1)) (cs.drop (k + 1)) := by
  rw [drop_of hx, drop_of hy]; rfl
theorem prodI_drop {xs : List Int} {k : Nat} {x : Int} (hx : xs[k]? = some x) : prodI (xs.drop k) = x * prodI (xs.drop (k + 1)) := by
  rw [drop_of hx]; rfl
theorem prodI_split (xs : List Int) (k : Nat) : prodI xs = prodI (xs.take k) * prodI (xs.drop k) := by
  rw [← prodI_append, List.take_append_drop]
theorem prodI_drop_le {xs : List Int} (h : ∀ x ∈ xs, 1 ≤ x) (k : Nat) : prodI (xs.drop k) ≤ prodI xs := by
  rw [prodI_split xs k]
  have h1 := prodI_pos (xs := xs.take k) (fun x hx => h x (List.mem_of_mem_take hx))
  have h2 := prodI_pos (xs := xs.drop k) (fun x hx => h x (List.mem_of_mem_drop hx))
  have := Int.mul_le_mul_of_nonneg_right h1 (by omega : 0 ≤ prodI (xs.drop k))
  omega
theorem prodI_take_le {xs : List Int} (h : ∀ x ∈ xs, 1 ≤ x) (k : Nat) : prodI (xs.take k) ≤ prodI xs := by
  rw [prodI_split xs k]
  have h1 := prodI_pos (xs := xs.take k) (fun x hx => h x (List.mem_of_mem_take hx))
  have h2 := prodI_pos (xs := xs.drop k) (fun x hx => h x (List.mem_of_mem_drop hx))
  have := Int.mul_le_mul_of_nonneg_left h2 (by omega : 0 ≤ prodI (xs.take k))
  omega
theorem cellsGo_prod {xs : List Int} (h : ∀ x ∈ xs, 1 ≤ x) {q : Int} (hq : 1 ≤ q) (hq2 : q ≤ 4611686018427387903) : (prodI xs * q ≤ 4611686018427387903 → cellsGo xs q = (q * prodI xs, 0)) ∧ (4611686018427387903 < prodI xs * q → cellsGo xs q = (0, 2)) := by
  induction xs generalizing q with
  | nil => constructor <;> simp [prodI, cellsGo] <;> omega
  | cons s l ih =>
    have hs := h s (by simp)
    have hl : ∀ x ∈ l, 1 ≤ x := fun x hx => h x (by simp [hx])
    have hp := prodI_pos hl
    have hc : s * prodI l * q = prodI l * (q * s) := by rw [Int.mul_comm s, Int.mul_assoc, Int.mul_comm s q]
    simp only [cellsGo, prodI]
    by_cases hb : 4611686018427387903 / q < s
    · rw [if_pos hb]
      have : 4611686018427387903 < q * s := by
        have := (Int.ediv_lt_iff_lt_mul (by omega : 0 < q)).1 hb; rwa [Int.mul_comm] at this
      have h3 : q * s * 1 ≤ q * s * prodI l := Int.mul_le_mul_of_nonneg_left hp (by omega)
      have h4 : s * prodI l * q = q * s * prodI l := by rw [hc, Int.mul_comm]
      refine ⟨fun hh => ?_, fun _ => rfl⟩
      exfalso; rw [h4] at hh; omega
    · rw [if_neg hb]
      have hm := mul_bound hq hs hb
      have := ih hl hm.1 hm.2
      rw [hc]
      refine ⟨fun hh => ?_, this.2⟩
      rw [this.1 hh, Int.mul_assoc]
theorem cellsF_pos {xs : List Int} (h : ∀ x ∈ xs, 1 ≤ x) (h4 : xs.length ≤ 4) : cellsF xs = if prodI xs ≤ 4611686018427387903 then (prodI xs, 0) else (0, 2) := by
  have h1 : (xs.any fun s => decide (s < 0)) = false := by
    rw [List.any_eq_false]; intro x hx; have := h x hx; simp; omega
  have h2 : (xs.any fun s => s == 0) = false := by
    rw [List.any_eq_false]; intro x hx; have := h x hx; simp; omega
  have := cellsGo_prod h (q := 1) (by omega) (by omega)
  unfold cellsF
  rw [if_neg (by rw [h1]; simp; omega), if_neg (by rw [h2]; simp)]
  rw [Int.mul_one, Int.one_mul] at this
  split
  · exact this.1 (by assumption)
  · exact this.2 (by omega)
/-- no error: at most four modes, none below 0 -/
theorem cellsF_ok {xs : List Int} (h : (cellsF xs).2 = 0) : xs.length ≤ 4 ∧ (∀ x ∈ xs, 0 ≤ x) := by
  unfold cellsF at h
  split at h
  · simp at h
  · rename_i hh
    rw [not_or] at hh
    refine ⟨by omega, fun x hx => ?_⟩
    have := hh.2
    simp at this
    exact this x hx
theorem cellsF_ok_pos {xs : List Int} (h : (cellsF xs).2 = 0) (hp : ∀ x ∈ xs, 1 ≤ x) : (cellsF xs).1 = prodI xs ∧ prodI xs ≤ 4611686018427387903 := by
  have h4 := (cellsF_ok h).1
  rw [cellsF_pos hp h4] at h ⊢
  split at h
  · rename_i hh; rw [if_pos hh]; exact ⟨rfl, hh⟩
  · simp at h

/-- what box.At has summed when the pairs pre have come -/
def atSum (cs : List Int) (pre : List (Int × Int)) : Int := pre.foldl (fun a x => wrap64 (a + wrap64 ((cs[x.1.toNat]?.getD 0) * x.2))) 0
theorem atSum_snoc (cs : List Int) (pre : List (Int × Int)) (x : Int × Int) : atSum cs (pre ++ [x]) = wrap64 (atSum cs pre + wrap64 ((cs[x.1.toNat]?.getD 0) * x.2)) := by simp [atSum]
theorem inn_of_insideF {xs cs : List Int} (h : insideF xs cs = true) : Inn xs cs := by
  induction xs generalizing cs with
  | nil => cases cs with
    | nil => trivial
    | cons _ _ => simp [insideF] at h
  | cons s l ih => cases cs with
    | nil => simp [insideF] at h
    | cons c d =>
      simp [insideF, badAt] at h
      refine ⟨by omega, by omega, ih ?_⟩
      simp [insideF, badAt]
      exact ⟨h.1, h.2.2⟩
theorem backs_eq {xs : List Int} (hp : ∀ x ∈ xs, 1 ≤ x) (hM : prodI xs ≤ 4611686018427387903) (k : Nat) (hk : k ≤ xs.length) : backs xs k = prodI (xs.drop (xs.length - k)) := by
  induction k with
  | zero => rw [backs_zero]; simp [prodI]
  | succ k ih =>
    have hx : xs[xs.length - 1 - k]? = some (xs[xs.length - 1 - k]'(by omega)) := List.getElem?_eq_getElem (by omega)
    rw [backs_succ (by omega) hx, ih (by omega)]
    have e1 : xs.length - (k + 1) = xs.length - 1 - k := by omega
    have e2 : xs.length - 1 - k + 1 = xs.length - k := by omega
    rw [e1, prodI_drop hx, e2, Int.mul_comm]
    have h1 := prodI_drop_le hp (xs.length - 1 - k)
    rw [prodI_drop hx, e2] at h1
    have h2 := prodI_pos (xs := xs.drop (xs.length - 1 - k)) (fun x hx => hp x (List.mem_of_mem_drop hx))
    rw [prodI_drop hx, e2] at h2
    exact IntWalk.wrap64_in _ ⟨by omega, by omega⟩
theorem backs_pos {xs : List Int} (hp : ∀ x ∈ xs, 1 ≤ x) (hM : prodI xs ≤ 4611686018427387903) (k : Nat) (hk : k ≤ xs.length) : 1 ≤ backs xs k ∧ backs xs k ≤ 4611686018427387903 := by
  rw [backs_eq hp hM k hk]
  have h1 := prodI_drop_le hp (xs.length - k)
  have h2 := prodI_pos (xs := xs.drop (xs.length - k)) (fun x hx => hp x (List.mem_of_mem_drop hx))
  omega
theorem atSum_comes {xs cs : List Int} (h : Inn xs cs) (hM : prodI xs ≤ 4611686018427387903) (k : Nat) (hk : k ≤ xs.length) : atSum cs (comes xs k) = numR (xs.drop (xs.length - k)) (cs.drop (xs.length - k)) := by
  induction k with
  | zero =>
    have e : cs.drop (xs.length - 0) = [] := List.drop_of_length_le (by have := h.len; omega)
    have e' : xs.drop (xs.length - 0) = [] := List.drop_of_length_le (by omega)
    rw [e, e']; simp [atSum, comes, numR]
  | succ k ih =>
    have hl := h.len
    have hx : xs[xs.length - 1 - k]? = some (xs[xs.length - 1 - k]'(by omega)) := List.getElem?_eq_getElem (by omega)
    have hy : cs[xs.length - 1 - k]? = some (cs[xs.length - 1 - k]'(by omega)) := List.getElem?_eq_getElem (by omega)
    have hb := (h.drop_ (xs.length - 1 - k)).bound
    have hb2 := (h.drop_ (xs.length - k)).bound
    have hi := h.at_ hx hy
    have h1 := prodI_drop_le h.pos (xs.length - 1 - k)
    have e1 : xs.length - (k + 1) = xs.length - 1 - k := by omega
    have e2 : xs.length - 1 - k + 1 = xs.length - k := by omega
    have e3 : ((xs.length : Int) - 1 - k).toNat = xs.length - 1 - k := by omega
    rw [comes_succ, atSum_snoc, ih (by omega), backs_eq h.pos hM k (by omega)]
    simp only [e3, hy, Option.getD_some]
    rw [e1]
    rw [numR_drop hx hy, e2] at hb ⊢
    have hz : 0 ≤ cs[xs.length - 1 - k]'(by omega) * prodI (xs.drop (xs.length - k)) := Int.mul_nonneg hi.1 (by omega)
    rw [IntWalk.wrap64_in (_ * _) ⟨by omega, by omega⟩, IntWalk.wrap64_in _ ⟨by omega, by omega⟩]
    omega
end Go.Proofs.YtgkngimeokhhgaaDoor
/- The contracts of the document's number, place, At and Coord. -/
namespace Go.Proofs.YtgkngimeokhhgaaDoor
open Go.RowKit

/-- the document's At, whole -/
def atF (xs cs : List Int) : Int × Int := if (cellsF xs).2 = 0 then if insideF xs cs = true then (numR xs cs, 0) else (0, 3) else (0, (cellsF xs).2)

end Go.Proofs.YtgkngimeokhhgaaDoor
/- More plain arithmetic: the place of a number; slices of a call's own. -/
namespace Go.Proofs.YtgkngimeokhhgaaDoor
open Go.RowKit

theorem placeR_length (xs : List Int) (n : Int) : (placeR xs n).length = xs.length := by
  induction xs with
  | nil => rfl
  | cons s l ih => simp [placeR, ih]
theorem placeR_at {xs : List Int} {n : Int} {k : Nat} {x : Int} (hx : xs[k]? = some x) : (placeR xs n)[k]? = some (n / prodI (xs.drop (k + 1)) % x) := by
  induction xs generalizing k with
  | nil => simp at hx
  | cons s l ih => cases k with
    | zero => simp at hx; subst hx; simp [placeR]
    | succ k => simpa [placeR] using ih (by simpa using hx)
theorem placeR_fits {xs : List Int} (hp : ∀ x ∈ xs, 1 ≤ x) (hM : ∀ x ∈ xs, x ≤ 9223372036854775807) (v : Int) : ∀ x ∈ placeR xs v, -9223372036854775808 ≤ x ∧ x ≤ 9223372036854775807 := by
  induction xs with
  | nil => simp [placeR]
  | cons s l ih =>
    have hs := hp s (by simp)
    have hs2 := hM s (by simp)
    have h1 := Int.emod_nonneg (v / prodI l) (b := s) (by omega)
    have h2 := Int.emod_lt_of_pos (v / prodI l) (b := s) (by omega)
    intro x hx
    simp only [placeR, List.mem_cons] at hx
    rcases hx with rfl | hx
    · omega
    · exact ih (fun x hx => hp x (by simp [hx])) (fun x hx => hM x (by simp [hx])) x hx
theorem cellsF_nz {xs : List Int} (h : (cellsF xs).2 = 0) (hn : (cellsF xs).1 ≠ 0) : ∀ x ∈ xs, 1 ≤ x := by
  have h0 := (cellsF_ok h).2
  intro x hx
  have := h0 x hx
  by_cases hz : x = 0
  · exfalso
    subst hz
    have hz : (xs.any fun s => s == 0) = true := by rw [List.any_eq_true]; exact ⟨0, hx, rfl⟩
    apply hn
    unfold cellsF at h ⊢
    split at h
    · simp at h
    · rename_i hh; rw [if_neg hh, if_pos hz]
  · omega
theorem back_set {p : List Int} {r k : Nat} {v : Int} (hk : k < r) (hv : p[r - 1 - k]? = some v) :
    (List.replicate (r - k) 0 ++ p.drop (r - k)).set (r - 1 - k) v = List.replicate (r - (k + 1)) 0 ++ p.drop (r - (k + 1)) := by
  have e : r - (k + 1) = r - 1 - k := by omega
  rw [e, drop_of hv]
  have e2 : r - 1 - k + 1 = r - k := by omega
  rw [e2]
  have e3 : List.replicate (r - k) (0 : Int) = List.replicate (r - 1 - k) 0 ++ [0] := by rw [← e2, List.replicate_succ']
  rw [e3, List.append_assoc, List.set_append_right _ _ (by simp)]
  simp
/-- the place is a place, and its number is n -/
theorem placeR_inn {xs : List Int} (hp : ∀ x ∈ xs, 1 ≤ x) (n : Int) : Inn xs (placeR xs n) := by
  induction xs with
  | nil => trivial
  | cons s l ih =>
    have hs := hp s (by simp)
    exact ⟨Int.emod_nonneg _ (by omega), Int.emod_lt_of_pos _ (by omega), ih (fun x hx => hp x (by simp [hx]))⟩
theorem numR_placeR {xs : List Int} (hp : ∀ x ∈ xs, 1 ≤ x) (n : Int) : numR xs (placeR xs n) = n % prodI xs := by
  induction xs with
  | nil => simp [numR, prodI, Int.emod_one]
  | cons s l ih =>
    have hl : ∀ x ∈ l, 1 ≤ x := fun x hx => hp x (by simp [hx])
    have h1 := prodI_pos hl
    simp only [placeR, numR, prodI]
    rw [ih hl]
    have e : n / prodI l % s * prodI l = prodI l * (n / prodI l % s) := Int.mul_comm _ _
    have h2 := Int.emod_add_mul_ediv n (prodI l)
    have h3 := Int.emod_add_mul_ediv (n / prodI l) s
    have h4 := Int.emod_add_mul_ediv n (s * prodI l)
    have h5 : n / (s * prodI l) = n / prodI l / s := by rw [Int.mul_comm, Int.ediv_ediv_of_nonneg (by omega)]
    rw [h5] at h4
    have h6 : prodI l * (n / prodI l) = prodI l * (n / prodI l % s) + prodI l * (s * (n / prodI l / s)) := by rw [← Int.mul_add, h3]
    have h7 : prodI l * (s * (n / prodI l / s)) = s * prodI l * (n / prodI l / s) := by rw [← Int.mul_assoc, Int.mul_comm (prodI l) s]
    omega

/-- a slice of the call's own, of 64-bit integers of type e -/
def OwnI (w : World) (base : Nat) (e : TypeId) (A : Option Addr) (c : Nat) (xs : List Int) : Prop :=
  w.ownsRow base e 1 (.slice A xs.length c) xs.length (xs.map (Value.int .i64)) ∧ ∀ x ∈ xs, -9223372036854775808 ≤ x ∧ x ≤ 9223372036854775807
theorem OwnI.ints {w : World} {base : Nat} {e : TypeId} {A : Option Addr} {c : Nat} {xs : List Int} (h : OwnI w base e A c xs) : Ints w w.heap.size A xs.length xs := Ints.of_own h.1 h.2
theorem OwnI.nil_ (w : World) (base : Nat) (e : TypeId) : OwnI w base e none 0 [] := ⟨w.ownsRow_nil base e 1, by simp⟩
theorem OwnI.below {w w' : World} {base B : Nat} {e : TypeId} {A : Option Addr} {c : Nat} {xs : List Int} (h : OwnI w base e A c xs) (hb : Below B w w') (hB : w.heap.size ≤ B) : OwnI w' base e A c xs :=
  ⟨h.1.kept ⟨hb.os, hb.tape, hb.output, hb.size, fun i hi _ => hb.block i (by omega)⟩ (row := none) (by cases hh : (Value.slice A xs.length c).ownBlock with | none => exact .inl rfl | some k => exact .inr (by simp)), h.2⟩
theorem OwnI.mono {w : World} {base base' : Nat} {e : TypeId} {A : Option Addr} {c : Nat} {xs : List Int} (h : OwnI w base e A c xs) (hb : base' ≤ base) : OwnI w base' e A c xs := by
  refine ⟨⟨h.1.1, ?_⟩, h.2⟩
  rcases h.1.2 with hh | ⟨g, cap, cur, h1, h2, h3⟩
  · exact .inl hh
  · exact .inr ⟨g, cap, cur, h1, by omega, h3⟩
/-- the document's Coord, whole -/
def coordF (xs : List Int) (n : Int) : List Int × Int := if (cellsF xs).2 = 0 then if 0 ≤ n ∧ n < (cellsF xs).1 then (placeR xs n, 0) else ([], 3) else ([], (cellsF xs).2)
end Go.Proofs.YtgkngimeokhhgaaDoor
/- The contracts of the document's place and Coord. -/
namespace Go.Proofs.YtgkngimeokhhgaaDoor
open Go.RowKit

set_option maxRecDepth 100000 in
theorem infoInt : (Tryd.prog.info? 3).map (fun i => (i.zero, i.size, i.bytes)) = some (some (.int .i64 0), 1, 8) := by kernel_rfl
set_option maxRecDepth 100000 in
theorem infoInt64 : (Tryd.prog.info? 2).map (fun i => (i.zero, i.size, i.bytes)) = some (some (.int .i64 0), 1, 8) := by kernel_rfl

end Go.Proofs.YtgkngimeokhhgaaDoor
/- The contracts of slices.Clone at []int and slices.Equal at []int and []int64, of box.laid and the document's Check's length part, of box.Zero. -/
namespace Go.Proofs.YtgkngimeokhhgaaDoor
open Go.RowKit

set_option maxRecDepth 100000 in
theorem equalInt64_any (A A2 : Option Addr) (n n2 c c2 : Nat) (xs ys : List Int) (w : World) (B : Nat) (h : Ints w B A n xs) (h2 : Ints w B A2 n2 ys) (hn : n ≤ 100000) (hn2 : n2 ≤ 9223372036854775807) :
    Calls Tryd.prog 32 #[.slice A n c, .slice A2 n2 c2] w fun e w' => e = .returned (.bool (decide (xs = ys))) ∧ ∃ m, w' = w.drewN m := by
  have HL : Hid (xs.length = n) := h.1
  have HL2 : Hid (ys.length = n2) := h2.1
  by_cases hne : n = n2
  · subst hne
    go_enter Tryd.func32, Tryd.ntmps32
    go_wp2
    go_loopw [13] (fun i wr => ∃ (k m : Nat), k ≤ n ∧ i = .int .i64 k ∧ wr = w.drewN m ∧ Hid (xs.take k = ys.take k)) (fun i _ => n - (intOf i).toNat)
    case atStart => exact ⟨0, 0, Nat.zero_le _, rfl, rfl, by unfold Hid; simp⟩
    case round =>
      obtain ⟨k, m, hk, rfl, rfl, HK⟩ := hrel
      by_cases hlt : k < n
      · obtain ⟨b, off, x, rfl, _, HX, hc, hx1, hx2⟩ := h.at_ hlt
        obtain ⟨b2, off2, y, rfl, _, HY, hc2, hy1, hy2⟩ := h2.at_ hlt
        have hk0 : (0 : Int) ≤ k := by omega
        have hk1 : (k : Int) < n := by omega
        by_cases hxy : x = y
        · have HN : Hid (xs.take (k + 1) = ys.take (k + 1)) := by unfold Hid; rw [take_succ_of HX.out, take_succ_of HY.out, HK.out, hxy]
          have e1 : (x == y) = true := by simpa using hxy
          have e2 : (x != y) = false := by simpa using hxy
          clear hxy
          go_wp2
          go_quiet (fail)
          go_wp2
          go_roundw
          case rel => exact ⟨k + 1, _, by omega, by go_num, rfl, HN⟩
          case measure => simp [intOf]; omega
        · have HF : Hid (decide (xs = ys) = false) := by
            unfold Hid; rw [decide_eq_false]; intro e; subst e
            have := HX.out; rw [HY.out] at this; exact hxy (by injection this with this; exact this.symm)
          have e1 : (x == y) = false := by simpa using hxy
          have e2 : (x != y) = true := by simpa using hxy
          go_wp2
          go_quiet (fail)
          go_wp2
          go_ret
          exact ⟨by rw [HF.out]; rfl, _, World.drewN_drewN _ _ _⟩
      · have HF : Hid (decide (xs = ys) = true) := by
          unfold Hid; rw [decide_eq_true]; have := HK.out
          rwa [List.take_of_length_le (by rw [HL.out]; omega), List.take_of_length_le (by rw [HL2.out]; omega)] at this
        go_wp2
        go_ret
        exact ⟨by rw [HF.out]; rfl, _, rfl⟩
  · have HF : Hid (decide (xs = ys) = false) := by unfold Hid; rw [decide_eq_false]; intro e; subst e; exact hne (by rw [← HL.out, ← HL2.out])
    have hne1 : ((n : Int) == (n2 : Int)) = false := by simp; omega
    have hne2 : ((n : Int) != (n2 : Int)) = true := by simp; omega
    go_enter Tryd.func32, Tryd.ntmps32
    go_wp2
    go_ret
    exact ⟨by rw [HF.out]; rfl, 0, rfl⟩

/-- how many cells, of what can be laid out -/
def laidF (xs : List Int) : Int × Int := if (cellsF xs).2 = 0 then if 65536 < (cellsF xs).1 then (0, 2) else ((cellsF xs).1, 0) else (0, (cellsF xs).2)
theorem laidF_nonneg {xs : List Int} : 0 ≤ (laidF xs).1 ∧ (laidF xs).1 ≤ 65536 := by
  unfold laidF
  split
  · rename_i h
    split
    · simp
    · have h0 := (cellsF_ok h).2
      by_cases hz : (cellsF xs).1 = 0
      · simp [hz]
      · have := cellsF_nz h hz
        have := (cellsF_ok_pos h this).1
        have := prodI_pos (cellsF_nz h hz)
        dsimp only; omega
  · simp
theorem laidF_ok {xs : List Int} (h : (laidF xs).2 = 0) : (cellsF xs).2 = 0 ∧ (laidF xs).1 = (cellsF xs).1 := by
  unfold laidF at h ⊢
  split at h
  · rename_i hc
    split at h
    · simp at h
    · rename_i hb; rw [if_pos hc, if_neg hb]; exact ⟨hc, rfl⟩
  · rename_i hc; exact absurd h hc

theorem emptyRow (w : World) (e : TypeId) : (w.alloc (.cells #[] e)).ownsRow w.heap.size e 1 (.slice (some ⟨w.heap.size, 0, none⟩) 0 0) 0 [] :=
  ⟨by simp, .inr ⟨w.heap.size, 0, #[], rfl, Nat.le_refl _, heap_alloc_new w _, Nat.le_refl _, by unfold maxLen; omega, by simp, by simp⟩⟩
theorem ints_one (xs : List Int) : ∀ u ∈ xs.map (Value.int .i64), u.oneCell' = true := by
  intro u hu
  rw [List.mem_map] at hu
  obtain ⟨x, _, rfl⟩ := hu
  rfl
theorem Ints.cells_ {w : World} {B n : Nat} {ad : Addr} {xs : List Int} (h : Ints w B (some ad) n xs) : ∀ j u, (xs.map (Value.int .i64))[j]? = some u → w.cell? (ad.add j) = some u := by
  intro j u hu
  rw [List.getElem?_map, Option.map_eq_some_iff] at hu
  obtain ⟨x, hx, rfl⟩ := hu
  have hj : j < n := by have := (List.getElem?_eq_some_iff.1 hx).1; have := h.1; omega
  obtain ⟨b, off, e, hb, hc⟩ := h.2.2 (by omega)
  injection e with e
  subst e
  have := hc j x hx
  by_cases h0 : j = 0
  · subst h0; simpa [Addr.add] using this
  · simpa [Addr.add, h0] using this
theorem Ints.cells_alloc {w : World} {B n : Nat} {ad : Addr} {xs : List Int} (h : Ints w B (some ad) n xs) (hB : B ≤ w.heap.size) (o : Obj) : ∀ j u, (xs.map (Value.int .i64))[j]? = some u → (w.alloc o).cell? (ad.add j) = some u := (h.alloc hB o).cells_
theorem row_form {w : World} {base n : Nat} {e : TypeId} {v : Value} {ys : List Value} (h : w.ownsRow base e 1 v n ys) : ∃ A c, v = .slice A n c := by
  rcases h.2 with ⟨rfl, rfl⟩ | ⟨g, cap, cur, rfl, _⟩
  · exact ⟨_, _, rfl⟩
  · exact ⟨_, _, rfl⟩

/-- box.Zero -/
def zeroF (xs : List Int) : (List Int × List Int) × Int := if (laidF xs).2 = 0 then ((xs, List.replicate (laidF xs).1.toNat 0), 0) else (([], []), (laidF xs).2)

theorem run_makeAll {P : Program} (t e : TypeId) (i : TypeInfo) (ht : P.underlying t = some (.slice e)) (hi : P.info? e = some i) (hz : i.zero = some (.int .i64 0)) (h1 : i.size = 1) (h2 : i.bytes = 8) (n : Nat) (hn : n ≤ 100000) (w : World) :
    (Instr.makeSlice t (.int .i64 (n : Int)) (.int .i64 (n : Int))).run P w = .ok (.slice (some ⟨w.heap.size, 0, none⟩) n n) (w.alloc (.cells (madeCells #[.int .i64 0] n) e)) := by
  have hr := run_make (P := P) w t e i (.int .i64 0) ht hi hz .i64 .i64 n n (by omega) (by omega) (by rw [h2]; omega) (by omega)
  simp only [Int.toNat_natCast, h1, Nat.mul_one] at hr
  exact hr
theorem own_made (w : World) (e : TypeId) (n base : Nat) (hb : base ≤ w.heap.size) (hn : n ≤ 100000) : OwnI (w.alloc (.cells (madeCells #[.int .i64 0] n) e)) base e (some ⟨w.heap.size, 0, none⟩) n (List.replicate n 0) := by
  refine ⟨⟨by simp, .inr ⟨w.heap.size, n, madeCells #[.int .i64 0] n, by simp, hb, heap_alloc_new w _, by simp, by unfold maxLen; omega, ?_, ?_⟩⟩, by simp⟩
  · have := congrArg List.length (toList_madeCells_one (.int .i64 0) n); simpa using this
  · rw [toList_madeCells_one]; simp

theorem zfacts {w W w1 : World} {u v : Value} {t : TypeId} (hb : Below W.heap.size W w1) (hW : Below (w.heap.size + 1) (w.alloc (.cells #[u, v] t)) W := by first | exact Below.refl _ _ | exact (Below.refl _ _).drew | exact ((Below.refl _ _).alloc (by simp) _).drew) :
    w.heap.size < w1.heap.size ∧ w1.cell? ⟨w.heap.size, 0, none⟩ = some u ∧ w1.cell? ⟨w.heap.size, 1, none⟩ = some v ∧ w1.frozen? ⟨w.heap.size, 0, none⟩ = false ∧ w1.frozen? ⟨w.heap.size, 1, none⟩ = false := by
  have h2 := hW.trans (hb.mono (by have := hW.size; simpa using this))
  have hh : (w.alloc (.cells #[u, v] t)).heap[w.heap.size]? = some (.cells #[u, v] t (0, 0)) := heap_alloc_new w _
  have h1 : w1.heap[w.heap.size]? = some (.cells #[u, v] t (0, 0)) := (h2.block w.heap.size (by omega)).trans hh
  refine ⟨by have := h2.size; simp at this; omega, ?_, ?_, ?_, ?_⟩
  · simpa using cell_of_row _ _ 0 _ t (0, 0) h1
  · simpa using cell_of_row _ _ 1 _ t (0, 0) h1
  · simp [World.frozen?, h1]
  · simp [World.frozen?, h1]

theorem zcells {w1 : World} {g : Nat} {u v a b : Value} (k0 : w1.cell? ⟨g, 0, none⟩ = some u) (k1 : w1.cell? ⟨g, 1, none⟩ = some v) :
    ((w1.setCell ⟨g, 0, none⟩ a).setCell ⟨g, 1, none⟩ b).cell? ⟨g, 0, none⟩ = some a ∧ ((w1.setCell ⟨g, 0, none⟩ a).setCell ⟨g, 1, none⟩ b).cell? ⟨g, 1, none⟩ = some b := by
  have h0 : (w1.setCell ⟨g, 0, none⟩ a).cell? ⟨g, 0, none⟩ = some a := World.cell?_setCell_same' _ _ _ (by rw [k0]; rfl)
  have h1 : (w1.setCell ⟨g, 0, none⟩ a).cell? ⟨g, 1, none⟩ = some v := (World.cell?_setCell_other w1 _ ⟨g, 1, none⟩ _ (by simp)).trans k1
  exact ⟨(World.cell?_setCell_other _ _ ⟨g, 0, none⟩ _ (by simp)).trans h0, World.cell?_setCell_same' _ _ _ (by rw [h1]; rfl)⟩
theorem OwnI.setBelow {w : World} {base : Nat} {e : TypeId} {A : Option Addr} {c : Nat} {xs : List Int} (h : OwnI w base e A c xs) {a : Addr} (ha : a.block < base) (u : Value) : OwnI (w.setCell a u) base e A c xs := ⟨ownsRow_setCell_below h.1 ha u, h.2⟩
theorem OwnI.drew {w : World} {base : Nat} {e : TypeId} {A : Option Addr} {c : Nat} {xs : List Int} (h : OwnI w base e A c xs) : OwnI w.drew base e A c xs := h
theorem OwnI.alloc {w : World} {base : Nat} {e : TypeId} {A : Option Addr} {c : Nat} {xs : List Int} (h : OwnI w base e A c xs) (o : Obj) : OwnI (w.alloc o) base e A c xs := ⟨h.1.alloc o, h.2⟩

end Go.Proofs.YtgkngimeokhhgaaDoor
/- The contract of the statements' live: the chapter's examples hold, and nothing that lay there has turned. -/
namespace Go.Proofs.YtgkngimeokhhgaaDoor
open Go.RowKit

theorem Ints.of_new (W : World) (e : TypeId) (xs : List Int) (hb : ∀ x ∈ xs, -9223372036854775808 ≤ x ∧ x ≤ 9223372036854775807) :
    Ints (W.alloc (.cells (xs.map (Value.int .i64)).toArray e)) (W.heap.size + 1) (some ⟨W.heap.size, 0, none⟩) xs.length xs := by
  refine ⟨rfl, hb, fun _ => ⟨W.heap.size, 0, rfl, by omega, fun k x hx => ?_⟩⟩
  have h : (W.alloc (.cells (xs.map (Value.int .i64)).toArray e)).heap[W.heap.size]? = some (.cells (xs.map (Value.int .i64)).toArray e (0, 0)) := heap_alloc_new W _
  have := cell_of_row _ _ k _ e (0, 0) h
  rw [Nat.zero_add, this]
  simp [hx]

end Go.Proofs.YtgkngimeokhhgaaDoor
/- The contracts of box.Check and the document's Check, of few, of box.Same, the document's Equals and Same, of box.Get and the document's Get. -/
namespace Go.Proofs.YtgkngimeokhhgaaDoor
open Go.RowKit

/-- Check, of a shape and how many numbers there are -/
def checkF (xs : List Int) (m : Nat) : Int := if (laidF xs).2 = 0 then if (m : Int) = (laidF xs).1 then 0 else 1 else (laidF xs).2

theorem checkF_err {xs : List Int} {m : Nat} (h : (cellsF xs).2 ≠ 0) : checkF xs m = (cellsF xs).2 := by
  unfold checkF laidF; rw [if_neg h]; exact if_neg h
theorem checkF_large {xs : List Int} {m : Nat} (h : (cellsF xs).2 = 0) (h2 : 65536 < (cellsF xs).1) : checkF xs m = 2 := by
  unfold checkF laidF; rw [if_pos h, if_pos h2]; rfl
theorem checkF_fit {xs : List Int} {m : Nat} (h : (cellsF xs).2 = 0) (h2 : ¬ 65536 < (cellsF xs).1) : checkF xs m = if (m : Int) = (cellsF xs).1 then 0 else 1 := by
  unfold checkF laidF; rw [if_pos h, if_neg h2]; rfl

/-- a dense tensor's header, and what it holds -/
structure Hdr where
  A : Option Addr
  n : Nat
  c : Nat
  B : Option Addr
  m : Nat
  e : Nat
def Hdr.val (d : Hdr) : Value := .agg #[.slice d.A d.n d.c, .slice d.B d.m d.e]
def fewF (l : List Hdr) : Bool := l.all fun d => decide (d.n ≤ 20) && decide (d.m ≤ 70000)
/-- a block that holds tensors' headers one behind the other -/
def Hdrs (w : World) (g : Nat) (l : List Hdr) : Prop := ∀ (k : Nat) (d : Hdr), l[k]? = some d → w.cell? ⟨g, k * 2, none⟩ = some (.slice d.A d.n d.c) ∧ w.cell? ⟨g, k * 2 + 1, none⟩ = some (.slice d.B d.m d.e)

theorem two_boxes {w w1 : World} {a b c d : Value} {t : TypeId} (hb : Below ((w.alloc (.cells #[a, b] t)).alloc (.cells #[c, d] t)).heap.size ((w.alloc (.cells #[a, b] t)).alloc (.cells #[c, d] t)) w1) :
    w1.cell? ⟨w.heap.size, 0, none⟩ = some a ∧ w1.cell? ⟨w.heap.size, 1, none⟩ = some b ∧ w1.cell? ⟨w.heap.size + 1, 0, none⟩ = some c ∧ w1.cell? ⟨w.heap.size + 1, 1, none⟩ = some d := by
  have h0 : (w.alloc (.cells #[a, b] t)).heap[w.heap.size]? = some (.cells #[a, b] t (0, 0)) := heap_alloc_new w _
  have h1 : ((w.alloc (.cells #[a, b] t)).alloc (.cells #[c, d] t)).heap[w.heap.size]? = some (.cells #[a, b] t (0, 0)) := (Below.heap_alloc _ _ _ (by simp)).trans h0
  have h2 : ((w.alloc (.cells #[a, b] t)).alloc (.cells #[c, d] t)).heap[w.heap.size + 1]? = some (.cells #[c, d] t (0, 0)) := by
    have := heap_alloc_new (w.alloc (.cells #[a, b] t)) (.cells #[c, d] t); rwa [World.size_alloc] at this
  have k1 := (hb.block w.heap.size (by simp; omega)).trans h1
  have k2 := (hb.block (w.heap.size + 1) (by simp)).trans h2
  refine ⟨?_, ?_, ?_, ?_⟩
  · simpa using cell_of_row _ _ 0 _ t (0, 0) k1
  · simpa using cell_of_row _ _ 1 _ t (0, 0) k1
  · simpa using cell_of_row _ _ 0 _ t (0, 0) k2
  · simpa using cell_of_row _ _ 1 _ t (0, 0) k2

/-- box.Same -/
def sameF (xs : List Int) (m : Nat) (xs2 ys ys2 : List Int) : Bool := decide (checkF xs m = 0) && decide (xs = xs2) && decide (ys = ys2)

end Go.Proofs.YtgkngimeokhhgaaDoor
/- The contract of the document's Zero. -/
namespace Go.Proofs.YtgkngimeokhhgaaDoor
open Go.RowKit

theorem run_appendNil {P : Program} (w : World) (base : Nat) (t ty e : TypeId) (i : TypeInfo) (ht : P.underlying t = some (.slice e)) (hi : P.info? e = some i) (v : Value) (n : Nat) (xs : List Value) (hown : w.ownsRow base e 1 v n xs) (c : Nat) :
    (Builtin.append_ #[t, t] ty #[v, .slice none 0 c]).run P w = .ok v w := by
  rcases hown.2 with ⟨rfl, rfl⟩ | ⟨g, cap, cur, rfl, _, _, hnc, _⟩ <;> simp [Builtin.append_, run_underlying ht, sizeOf, typeInfo, Builtin.lenOf, Builtin.firstCells, *, storeCells]

/-- append onto a slice of the call's own, from whatever slice of integers -/
theorem run_appendInts {P : Program} (w : World) (base : Nat) (t ty e : TypeId) (i : TypeInfo) (ht : P.underlying t = some (.slice e)) (hi : P.info? e = some i) (hz : i.zero = some (.int .i64 0)) (h1 : i.size = 1) (h2 : i.bytes = 8)
    (A A2 : Option Addr) (c m c2 B : Nat) (xs ys : List Int) (ho : OwnI w base e A c xs) (hs : Ints w B A2 m ys) (hl : xs.length + m ≤ 1000000) (hb : base ≤ w.heap.size) :
    ∃ A' c' w', (Builtin.append_ #[t, t] ty #[.slice A xs.length c, .slice A2 m c2]).run P w = .ok (.slice A' (xs.length + m) c') w' ∧ OwnI w' base e A' c' (xs ++ ys) ∧ w.grownBy w' (Value.slice A xs.length c).ownBlock := by
  have hlen := hs.1
  have hfit : ∀ x ∈ xs ++ ys, -9223372036854775808 ≤ x ∧ x ≤ 9223372036854775807 := by
    intro x hx
    rcases List.mem_append.1 hx with hx | hx
    · exact ho.2 x hx
    · exact hs.2.1 x hx
  rcases Option.eq_none_or_eq_some A2 with rfl | ⟨ad, rfl⟩
  · obtain rfl : m = 0 := by
      rcases Nat.eq_zero_or_pos m with h0 | h0
      · exact h0
      · obtain ⟨b, off, e', _⟩ := hs.2.2 h0; cases e'
    obtain rfl : ys = [] := List.eq_nil_of_length_eq_zero hlen
    have hrun := run_appendNil (P := P) w base t ty e i ht hi (.slice A xs.length c) xs.length (xs.map (Value.int .i64)) ho.1 c2
    exact ⟨A, c, w, by simpa using hrun, by simpa using ho, World.grownBy.refl w _⟩
  · obtain ⟨v', w', hr, h3, h4, _⟩ := run_append_own (P := P) w base t ty e i (.int .i64 0) 1 8 ht hi hz h1 h2 rfl (by decide) (.slice A xs.length c) xs.length (xs.map (Value.int .i64)) ho.1 ad m c2 (ys.map (Value.int .i64)) (by rw [List.length_map, hlen, Nat.mul_one]) hs.cells_ (ints_one ys) (by unfold maxLen; omega) (by omega) hb
    obtain ⟨A', c', rfl⟩ := row_form h3
    refine ⟨A', c', w', hr, ⟨?_, hfit⟩, h4⟩
    rw [List.length_append, hlen, List.map_append]
    exact h3

theorem step_appendInts {P : Program} {ops : Array Oper} {o : Oper} {a : Act} {w : World} {K : Act → World → Prop} {Q : Exit → Act → World → Prop} {E : Prop}
    (hg : o.guard = none) (s x : Operand) (t : TypeId) (hop : o.op = Op.call { callee := Callee.builtin Builtin.append, args := #[s, x], argTypes := #[t, t] })
    (base : Nat) (e : TypeId) (i : TypeInfo) (ht : P.underlying t = some (.slice e)) (hi : P.info? e = some i) (hz : i.zero = some (.int .i64 0)) (h1 : i.size = 1) (h2 : i.bytes = 8)
    (A A2 : Option Addr) (c m c2 B p r : Nat) (xs ys : List Int) (hs : a.eval s = .slice A p c) (hx : a.eval x = .slice A2 m c2) (ho : OwnI w base e A c xs) (hp : xs.length = p) (hr : p + m = r) (hi2 : Ints w B A2 m ys) (hl : r ≤ 1000000) (hb : base ≤ w.heap.size)
    (hK : ∀ A' c' w', OwnI w' base e A' c' (xs ++ ys) → w.grownBy w' (Value.slice A p c).ownBlock → K (a.put o.dst (.slice A' r c')) w') :
    if Region.wanted o (yielded ops a.tmps) = true then Oper.wp P o a w K Q else E := by
  have hw : Region.wanted o (yielded ops a.tmps) = true := by simp [Region.wanted, hg]
  rw [if_pos hw]
  subst hp
  subst hr
  obtain ⟨A', c', w', hrun, ho', hb'⟩ := run_appendInts (P := P) w base t o.type e i ht hi hz h1 h2 A A2 c m c2 B xs ys ho hi2 hl hb
  unfold Oper.wp
  simp [execOp, hop, resolve, invoke, builtin, hs, hx, hrun, Result.andThen]
  exact hK _ _ _ ho' hb'

theorem below_of_none {W w1 : World} (hg : W.grownBy w1 none) : Below W.heap.size W w1 := (Below.refl _ _).grown hg (Nat.le_refl _) (fun k e => by cases e)

end Go.Proofs.YtgkngimeokhhgaaDoor
/- purflelaw01.BoxOne returns true at every input, and nothing that lay there has turned: the place of a number has that number; the next number's place is the next one. -/
namespace Go.Proofs.YtgkngimeokhhgaaDoor
open Go.RowKit

/-- the next place, the last mode first; whether it went around -/
def inc : List Int → List Int → List Int × Bool
  | s :: l, c :: d => if (inc l d).2 = true then (if c + 1 < s then ((c + 1) :: (inc l d).1, false) else (0 :: (inc l d).1, true)) else (c :: (inc l d).1, false)
  | _, _ => ([], true)
theorem inc_spec {xs cs : List Int} (h : Inn xs cs) : Inn xs (inc xs cs).1 ∧ ((inc xs cs).2 = false → numR xs (inc xs cs).1 = numR xs cs + 1) ∧ ((inc xs cs).2 = true → numR xs (inc xs cs).1 = 0 ∧ numR xs cs = prodI xs - 1) := by
  induction xs generalizing cs with
  | nil => cases cs with
    | nil => simp [inc, Inn, numR, prodI]
    | cons _ _ => exact h.elim
  | cons s l ih => cases cs with
    | nil => exact h.elim
    | cons c d =>
      obtain ⟨i1, i2, i3⟩ := ih h.2.2
      have h0 := h.1
      have h1 := h.2.1
      by_cases hc : (inc l d).2 = true
      · obtain ⟨j1, j2⟩ := i3 hc
        by_cases hs : c + 1 < s
        · simp only [inc, hc, hs, if_true]
          refine ⟨⟨by omega, hs, i1⟩, fun _ => ?_, fun hh => (by cases hh)⟩
          simp only [numR]
          rw [j1, j2, Int.add_mul]
          omega
        · simp only [inc, hc, hs, if_true, if_false]
          refine ⟨⟨by omega, by omega, i1⟩, fun hh => (by cases hh), fun _ => ?_⟩
          simp only [numR, prodI]
          rw [j1, j2]
          obtain rfl : c = s - 1 := by omega
          rw [Int.sub_mul]
          omega
      · simp only [inc, hc, if_false, Bool.false_eq_true]
        refine ⟨⟨h0, h1, i1⟩, fun _ => ?_, fun hh => (by cases hh)⟩
        simp only [numR]
        rw [i2 (by simpa using hc)]
        omega
theorem placeR_numR {xs cs : List Int} (h : Inn xs cs) : placeR xs (numR xs cs) = cs := by
  suffices hh : ∀ q : Int, placeR xs (q * prodI xs + numR xs cs) = cs by simpa using hh 0
  induction xs generalizing cs with
  | nil => cases cs with
    | nil => simp [placeR]
    | cons _ _ => exact h.elim
  | cons s l ih => cases cs with
    | nil => exact h.elim
    | cons c d =>
      intro q
      have hb := h.2.2.bound
      have hp : 1 ≤ prodI l := by omega
      have h0 := h.1
      have h1 := h.2.1
      have e : q * (s * prodI l) + (c * prodI l + numR l d) = (q * s + c) * prodI l + numR l d := by rw [Int.add_mul, Int.mul_assoc]; omega
      simp only [placeR, numR, prodI]
      rw [e, ih h.2.2 (q * s + c)]
      congr 1
      rw [Int.add_comm, Int.add_mul_ediv_right _ _ (by omega), Int.ediv_eq_zero_of_lt hb.1 hb.2, Int.zero_add, Int.add_comm, Int.add_mul_emod_self_right]
      exact Int.emod_eq_of_lt h0 h1
theorem inc_drop {xs cs : List Int} {k : Nat} {x y : Int} (hx : xs[k]? = some x) (hy : cs[k]? = some y) (hc : (inc (xs.drop (k + 1)) (cs.drop (k + 1))).2 = true) :
    inc (xs.drop k) (cs.drop k) = if y + 1 < x then ((y + 1) :: (inc (xs.drop (k + 1)) (cs.drop (k + 1))).1, false) else (0 :: (inc (xs.drop (k + 1)) (cs.drop (k + 1))).1, true) := by
  rw [drop_of hx, drop_of hy, inc, if_pos hc]
theorem inc_out {xs cs e : List Int} (hl : xs.length = cs.length) (k : Nat) (hk : k ≤ xs.length) (h : inc (xs.drop k) (cs.drop k) = (e, false)) : inc xs cs = (cs.take k ++ e, false) := by
  induction k generalizing xs cs with
  | zero => simpa using h
  | succ k ih => cases xs with
    | nil => simp at hk
    | cons s l => cases cs with
      | nil => simp at hl
      | cons c d =>
        have := ih (xs := l) (cs := d) (by simpa using hl) (by simpa using hk) (by simpa using h)
        rw [inc, this]
        simp
/-- the list when the last k places have gone around -/
def gone (cs : List Int) (k : Nat) : List Int := cs.take (cs.length - k) ++ List.replicate k 0
theorem gone_length {cs : List Int} {k : Nat} (hk : k ≤ cs.length) : (gone cs k).length = cs.length := by simp [gone]; omega
theorem gone_at {cs : List Int} {k i : Nat} (hi : i < cs.length - k) : (gone cs k)[i]? = cs[i]? := by
  unfold gone
  rw [List.getElem?_append_left (by rw [List.length_take]; omega), List.getElem?_take, if_pos hi]
theorem gone_set {cs : List Int} {k : Nat} (hk : k < cs.length) (v : Int) : (gone cs k).set (cs.length - 1 - k) v = cs.take (cs.length - 1 - k) ++ v :: List.replicate k 0 := by
  unfold gone
  have e : cs.length - k = cs.length - 1 - k + 1 := by omega
  have hx : cs[cs.length - 1 - k]? = some (cs[cs.length - 1 - k]'(by omega)) := List.getElem?_eq_getElem (by omega)
  rw [e, take_succ_of hx, List.append_assoc, List.set_append_right _ _ (by rw [List.length_take]; omega)]
  congr 1
  rw [List.length_take, Nat.min_eq_left (by omega), Nat.sub_self]
  rfl
theorem gone_succ {cs : List Int} {k : Nat} (hk : k < cs.length) : (gone cs k).set (cs.length - 1 - k) 0 = gone cs (k + 1) := by
  rw [gone_set hk]
  unfold gone
  have e : cs.length - (k + 1) = cs.length - 1 - k := by omega
  rw [e, List.replicate_succ]

theorem insideF_of_inn {xs cs : List Int} (h : Inn xs cs) : insideF xs cs = true := by
  induction xs generalizing cs with
  | nil => cases cs with
    | nil => rfl
    | cons _ _ => exact h.elim
  | cons s l ih => cases cs with
    | nil => exact h.elim
    | cons c d =>
      have := ih h.2.2
      have h0 := h.1
      have h1 := h.2.1
      simp [insideF, badAt] at this ⊢
      exact ⟨this.1, ⟨by omega, by omega⟩, this.2⟩
theorem cellsF_err {xs : List Int} (h : (cellsF xs).2 ≠ 0) : (cellsF xs).1 = 0 := by
  unfold cellsF at h ⊢
  split
  · rfl
  · rename_i h1
    rw [if_neg h1] at h
    split
    · rfl
    · rename_i h2
      rw [if_neg h2] at h
      have key : ∀ (l : List Int) (q : Int), (cellsGo l q).2 ≠ 0 → (cellsGo l q).1 = 0 := by
        intro l
        induction l with
        | nil => intro q hq; simp [cellsGo] at hq
        | cons s l ih =>
          intro q hq
          unfold cellsGo at hq ⊢
          split
          · rfl
          · rename_i hb; rw [if_neg hb] at hq; exact ih _ hq
      exact key _ _ h
theorem lt_of_cell' {w : World} {a : Addr} {v : Value} (h : w.cell? a = some v) : a.block < w.heap.size := by
  rcases Nat.lt_or_ge a.block w.heap.size with hlt | hge
  · exact hlt
  · have : w.heap[a.block]? = none := Array.getElem?_eq_none hge
    simp [World.cell?, this] at h
theorem OwnI.some_ {w : World} {base : Nat} {e : TypeId} {A : Option Addr} {c : Nat} {xs : List Int} (h : OwnI w base e A c xs) (hp : 0 < xs.length) : ∃ g, A = some ⟨g, 0, none⟩ ∧ base ≤ g ∧ g < w.heap.size := by
  rcases h.1.2 with ⟨_, h0⟩ | ⟨g, cap, cur, hv, hb, _⟩
  · omega
  · have hA : A = some ⟨g, 0, none⟩ := by injection hv
    subst hA
    exact ⟨g, rfl, hb, (h.1.lt g rfl).2⟩
theorem OwnI.set_ {w : World} {base g : Nat} {e : TypeId} {c : Nat} {xs : List Int} (h : OwnI w base e (some ⟨g, 0, none⟩) c xs) (j : Nat) (v : Int) (hv : -9223372036854775808 ≤ v ∧ v ≤ 9223372036854775807) :
    OwnI (w.setCell ⟨g, j, none⟩ (.int .i64 v)) base e (some ⟨g, 0, none⟩) c (xs.set j v) := by
  refine ⟨?_, fun x hx => ?_⟩
  · have := (h.1.stored j (.int .i64 v)).1
    rw [← List.map_set] at this
    rw [List.length_set]
    exact this
  · rcases List.mem_or_eq_of_mem_set hx with hx | rfl
    · exact h.2 x hx
    · exact hv
theorem OwnI.far {w : World} {base g : Nat} {e : TypeId} {A : Option Addr} {c : Nat} {xs : List Int} (h : OwnI w base e A c xs) (hg : g < base) (j : Nat) (u : Value) : OwnI (w.setCell ⟨g, j, none⟩ u) base e A c xs :=
  ⟨ownsRow_setCell_below h.1 (a := ⟨g, j, none⟩) hg u, h.2⟩
theorem OwnI.cell_ {w : World} {base g k : Nat} {e : TypeId} {c : Nat} {xs : List Int} {x : Int} (h : OwnI w base e (some ⟨g, 0, none⟩) c xs) (hx : xs[k]? = some x) : w.cell? ⟨g, k, none⟩ = some (.int .i64 x) ∧ w.frozen? ⟨g, k, none⟩ = false := by
  have hk := (List.getElem?_eq_some_iff.1 hx).1
  exact ⟨(h.1.cellAt k (by omega)).trans (by simp [hx]), h.1.frozenAt k⟩

end Go.Proofs.YtgkngimeokhhgaaDoor
/- purflelaw01.BoxOnes returns true at every input where each slice's capacity is no less than its length, and nothing that lay there has turned. -/
namespace Go.Proofs.YtgkngimeokhhgaaDoor
open Go.RowKit

/-- v laid into l ahead of place k -/
def ins (l : List Int) (k : Nat) (v : Int) : List Int := l.take k ++ v :: l.drop k
theorem ins_zero (l : List Int) (v : Int) : ins l 0 v = v :: l := by simp [ins]
theorem ins_succ (x : Int) (l : List Int) (k : Nat) (v : Int) : ins (x :: l) (k + 1) v = x :: ins l k v := by simp [ins]
theorem ins_prod (l : List Int) (k : Nat) : prodI (ins l k 1) = prodI l := by
  unfold ins; rw [prodI_append, prodI_split l k]; simp [prodI]
theorem ins_any (l : List Int) (k : Nat) (v : Int) (p : Int → Bool) (hv : p v = false) : (ins l k v).any p = l.any p := by
  unfold ins
  rw [List.any_append, List.any_cons, hv, Bool.false_or, ← List.any_append, List.take_append_drop]
theorem ins_length {l : List Int} {k : Nat} (hk : k ≤ l.length) (v : Int) : (ins l k v).length = l.length + 1 := by simp [ins]; omega
theorem ins_num {xs cs : List Int} (h : xs.length = cs.length) (k : Nat) (hk : k ≤ xs.length) : numR (ins xs k 1) (ins cs k 0) = numR xs cs := by
  induction k generalizing xs cs with
  | zero => rw [ins_zero, ins_zero]; simp [numR]
  | succ k ih => cases xs with
    | nil => simp at hk
    | cons s l => cases cs with
      | nil => simp at h
      | cons c d =>
        rw [ins_succ, ins_succ]
        simp only [numR]
        rw [ins_prod, ih (by simpa using h) (by simpa using hk)]
theorem ins_zip {xs cs : List Int} (h : xs.length = cs.length) (k : Nat) (hk : k ≤ xs.length) : ((ins cs k 0).zip (ins xs k 1)).any badAt = (cs.zip xs).any badAt := by
  induction k generalizing xs cs with
  | zero => rw [ins_zero, ins_zero]; simp [badAt]
  | succ k ih => cases xs with
    | nil => simp at hk
    | cons s l => cases cs with
      | nil => simp at h
      | cons c d =>
        rw [ins_succ, ins_succ, List.zip_cons_cons, List.any_cons, ih (by simpa using h) (by simpa using hk), List.zip_cons_cons, List.any_cons]
theorem ins_inside {xs cs : List Int} (h : xs.length = cs.length) (k : Nat) (hk : k ≤ xs.length) : insideF (ins xs k 1) (ins cs k 0) = insideF xs cs := by
  unfold insideF
  rw [ins_zip h k hk, ins_length hk, ins_length (by omega)]
  simp
/-- Cells hangs on little -/
theorem cellsF_same {xs ys : List Int} (h1 : xs.length ≤ 4) (h2 : ys.length ≤ 4) (hn : (xs.any fun s => decide (s < 0)) = (ys.any fun s => decide (s < 0))) (hz : (xs.any fun s => s == 0) = (ys.any fun s => s == 0)) (hp : prodI xs = prodI ys) : cellsF xs = cellsF ys := by
  by_cases ha : (xs.any fun s => decide (s < 0)) = true
  · have hb := ha; rw [hn] at hb
    unfold cellsF; rw [if_pos (.inr ha), if_pos (.inr hb)]
  · have ha' : (xs.any fun s => decide (s < 0)) = false := by cases hh : (xs.any fun s => decide (s < 0)) with | false => rfl | true => exact absurd hh ha
    have hb' := ha'; rw [hn] at hb'
    by_cases hc : (xs.any fun s => s == 0) = true
    · have hd := hc; rw [hz] at hd
      have e1 : cellsF xs = (0, 0) := by unfold cellsF; rw [if_neg (by rw [ha']; simp; omega), if_pos hc]
      have e2 : cellsF ys = (0, 0) := by unfold cellsF; rw [if_neg (by rw [hb']; simp; omega), if_pos hd]
      rw [e1, e2]
    · have hc' : (xs.any fun s => s == 0) = false := by cases hh : (xs.any fun s => s == 0) with | false => rfl | true => exact absurd hh hc
      have hd' := hc'; rw [hz] at hd'
      rw [cellsF_pos (pos_of_any ha' hc') h1, cellsF_pos (pos_of_any hb' hd') h2, hp]
theorem ins_cells {xs : List Int} (h : xs.length ≤ 3) (k : Nat) (hk : k ≤ xs.length) : cellsF (ins xs k 1) = cellsF xs :=
  cellsF_same (by rw [ins_length hk]; omega) (by omega) (ins_any _ _ _ _ (by simp)) (ins_any _ _ _ _ (by simp)) (ins_prod xs k)
theorem prodI_reverse (xs : List Int) : prodI xs.reverse = prodI xs := by
  induction xs with
  | nil => rfl
  | cons s l ih => rw [List.reverse_cons, prodI_append, ih]; simp [prodI, Int.mul_comm]
theorem rev_cells {xs : List Int} (h : xs.length ≤ 3) : cellsF xs.reverse = cellsF xs :=
  cellsF_same (by simp; omega) (by omega) List.any_reverse List.any_reverse (prodI_reverse xs)
theorem ins_at {xs cs : List Int} (h : xs.length = cs.length) (h3 : xs.length ≤ 3) (k : Nat) (hk : k ≤ xs.length) : atF (ins xs k 1) (ins cs k 0) = atF xs cs := by
  unfold atF
  rw [ins_cells h3 k hk, ins_inside h k hk, ins_num h k hk]

theorem Ints.take_ {w : World} {B n k : Nat} {A : Option Addr} {xs : List Int} (h : Ints w B A n xs) (hk : k ≤ n) : Ints w B A k (xs.take k) := by
  obtain ⟨hl, hb, hc⟩ := h
  refine ⟨by rw [List.length_take]; omega, fun x hx => hb x (List.mem_of_mem_take hx), fun h0 => ?_⟩
  obtain ⟨b, off, e, hB, hx⟩ := hc (by omega)
  refine ⟨b, off, e, hB, fun j x hj => hx j x ?_⟩
  rw [List.getElem?_take] at hj
  split at hj
  · exact hj
  · cases hj
theorem Ints.drop_ {w : World} {B n k c : Nat} {A : Option Addr} {xs : List Int} (h : Ints w B A n xs) (hk : k ≤ n) (hc : n ≤ c) : Ints w B (if c = k then A else A.map (·.add (k * 1))) (n - k) (xs.drop k) := by
  obtain ⟨hl, hb, hcc⟩ := h
  refine ⟨by rw [List.length_drop]; omega, fun x hx => hb x (List.mem_of_mem_drop hx), fun h0 => ?_⟩
  obtain ⟨b, off, rfl, hB, hx⟩ := hcc (by omega)
  rw [if_neg (by omega)]
  refine ⟨b, off + k, ?_, hB, fun j x hj => ?_⟩
  · by_cases hk0 : k = 0
    · subst hk0; simp [Addr.add]
    · simp [Addr.add, hk0]
  · rw [List.getElem?_drop] at hj
    have := hx (k + j) x hj
    rwa [Nat.add_assoc]
set_option maxRecDepth 100000 in
theorem run_take {w : World} (A : Option Addr) (n c k : Nat) (hk : k ≤ n) (hc : n ≤ c) : (Instr.slice 39 (.slice A n c) none (some (.int .i64 (k : Int))) none).run Tryd.prog w = .ok (.slice A k c) w := by
  obtain ⟨i0, hi0, hz0, hz1, hz2⟩ := info_parts infoInt
  rw [run_slice_h w 39 A n c (by kernel_rfl) .i64 (k : Int) (by omega) (by omega)]
  have hs : (sizeOf (Tryd.prog.elem 39)).run Tryd.prog w = .ok 1 w := by
    have he : Tryd.prog.elem 39 = 3 := by kernel_rfl
    rw [he]; simp [sizeOf, typeInfo, hi0, hz1]
  rw [hs]
  simp only [Result.andThen, sliced, Int.toNat_natCast, Nat.zero_mul, Nat.sub_zero]
  have : (if c = 0 then A else A.map (·.add 0)) = A := by
    split
    · rfl
    · cases A <;> simp [Addr.add]
  rw [this]
set_option maxRecDepth 100000 in
theorem run_drop {w : World} (A : Option Addr) (n c k : Nat) (hk : k ≤ n) : (Instr.slice 39 (.slice A n c) (some (.int .i64 (k : Int))) none none).run Tryd.prog w = .ok (.slice (if c = k then A else A.map (·.add (k * 1))) (n - k) (c - k)) w := by
  obtain ⟨i0, hi0, hz0, hz1, hz2⟩ := info_parts infoInt
  rw [run_slice_l w 39 A n c (by kernel_rfl) .i64 (k : Int) (by omega) (by omega)]
  have hs : (sizeOf (Tryd.prog.elem 39)).run Tryd.prog w = .ok 1 w := by
    have he : Tryd.prog.elem 39 = 3 := by kernel_rfl
    rw [he]; simp [sizeOf, typeInfo, hi0, hz1]
  rw [hs]
  simp only [Result.andThen, sliced, Int.toNat_natCast]

/-- the list when q places have been turned round -/
def turned (xs : List Int) (q : Nat) : List Int := xs.reverse.take q ++ xs.drop q
theorem turned_length {xs : List Int} {q : Nat} (hq : q ≤ xs.length) : (turned xs q).length = xs.length := by simp [turned]; omega
theorem turned_set {xs : List Int} {q : Nat} {x : Int} (hq : q < xs.length) (hx : xs[xs.length - 1 - q]? = some x) : (turned xs q).set q x = turned xs (q + 1) := by
  unfold turned
  have hr : xs.reverse[q]? = some x := by rw [List.getElem?_reverse hq]; exact hx
  have hd : xs[q]? = some (xs[q]'hq) := List.getElem?_eq_getElem hq
  rw [take_succ_of hr, drop_of hd, List.set_append_right _ _ (by rw [List.length_take, List.length_reverse]; omega), List.length_take, List.length_reverse, Nat.min_eq_left (by omega), Nat.sub_self, List.set_cons_zero, List.append_assoc]
  rfl
theorem wpList_appendInts {P : Program} (w : World) {ops : Array Oper} {rest : List Oper} {o : Oper} {a : Act} {Q : Exit → Act → World → Prop}
    (hg : o.guard = none) (s x : Operand) (t : TypeId) (hop : o.op = Op.call { callee := Callee.builtin Builtin.append, args := #[s, x], argTypes := #[t, t] })
    (base : Nat) (e : TypeId) (i : TypeInfo) (ht : P.underlying t = some (.slice e)) (hi : P.info? e = some i) (hz : i.zero = some (.int .i64 0)) (h1 : i.size = 1) (h2 : i.bytes = 8)
    (A A2 : Option Addr) (c m c2 B p r : Nat) (xs ys : List Int) (hs : a.eval s = .slice A p c) (hx : a.eval x = .slice A2 m c2) (ho : OwnI w base e A c xs) (hp : xs.length = p) (hr : p + m = r) (hi2 : Ints w B A2 m ys) (hl : r ≤ 1000000) (hb : base ≤ w.heap.size)
    (hK : ∀ A' c' w', OwnI w' base e A' c' (xs ++ ys) → w.grownBy w' (Value.slice A p c).ownBlock → wpList P ops Q rest (a.put o.dst (.slice A' r c')) w') : wpList P ops Q (o :: rest) a w := by
  refine wpList_plain hg fun K hK' => ?_
  subst hp
  subst hr
  obtain ⟨A', c', w', hrun, ho', hb'⟩ := run_appendInts (P := P) w base t o.type e i ht hi hz h1 h2 A A2 c m c2 B xs ys ho hi2 hl hb
  unfold Oper.wp
  simp [execOp, hop, resolve, invoke, builtin, hs, hx, hrun, Result.andThen]
  exact hK' _ _ (hK _ _ _ ho' hb')
theorem src_new {v : Int} {t : TypeId} (w : World) (hv : -9223372036854775808 ≤ v ∧ v ≤ 9223372036854775807) : Ints (w.alloc (.cells #[.int .i64 v] t)) (w.heap.size + 1) (some ⟨w.heap.size, 0, none⟩) 1 [v] := Ints.of_new w t [v] (by simpa using hv)
theorem src_one {v : Int} {t : TypeId} {w w2 : World} (hb : Below (w.alloc (.cells #[.int .i64 v] t)).drew.heap.size (w.alloc (.cells #[.int .i64 v] t)).drew w2) (hv : -9223372036854775808 ≤ v ∧ v ≤ 9223372036854775807) : Ints w2 w2.heap.size (some ⟨w.heap.size, 0, none⟩) 1 [v] := by
  have h1 : Ints (w.alloc (.cells #[.int .i64 v] t)).drew (w.heap.size + 1) (some ⟨w.heap.size, 0, none⟩) 1 [v] := src_new w hv
  have hs : w.heap.size + 1 ≤ (w.alloc (.cells #[.int .i64 v] t)).drew.heap.size := by
    have : (w.alloc (.cells #[.int .i64 v] t)).heap.size = w.heap.size + 1 := World.size_alloc _ _
    exact Nat.le_of_eq this.symm
  exact (h1.below (hb.mono hs)).more (Nat.le_trans hs hb.size)
theorem below_app {w1 W w3 : World} {base p c : Nat} {e : TypeId} {A : Option Addr} {xs : List Int} (hb : Below base w1 W) (hg : W.grownBy w3 (Value.slice A p c).ownBlock) (ho : OwnI W base e A c xs) (hp : xs.length = p) (hs : base ≤ W.heap.size) : Below base w1 w3 := by
  subst hp
  exact hb.grown hg hs (fun k hk => (ho.1.lt k hk).1)
theorem len_take {w : World} {B n k : Nat} {A : Option Addr} {xs : List Int} (h : Ints w B A n xs) (hk : k ≤ n) : ([] ++ xs.take k : List Int).length = k := by
  have := h.1; simp; omega
theorem len_take1 {w : World} {B n k : Nat} {A : Option Addr} {xs : List Int} {v : Int} (h : Ints w B A n xs) (hk : k ≤ n) : ([] ++ xs.take k ++ [v] : List Int).length = k + 1 := by
  have := h.1; simp; omega

end Go.Proofs.YtgkngimeokhhgaaDoor
/- Slices of entries: when one reads as a list of places and numbers. -/
namespace Go.Proofs.YtgkngimeokhhgaaDoor
open Go.RowKit

/-- an entry: its place's header, the place, the number -/
structure Ent where
  A : Option Addr
  n : Nat
  c : Nat
  cs : List Int
  v : Int
/-- the header (A, n) leads to the entries es, in blocks below B -/
def Ents (w : World) (B : Nat) (A : Option Addr) (n : Nat) (es : List Ent) : Prop :=
  es.length = n ∧ (∀ x ∈ es, Ints w B x.A x.n x.cs ∧ x.n ≤ 9223372036854775807 ∧ x.n ≤ x.c ∧ -9223372036854775808 ≤ x.v ∧ x.v ≤ 9223372036854775807) ∧
  (0 < n → ∃ b off, A = some ⟨b, off, none⟩ ∧ b < B ∧ ∀ (k : Nat) (x : Ent), es[k]? = some x → w.cell? ⟨b, off + 2 * k, none⟩ = some (.slice x.A x.n x.c) ∧ w.cell? ⟨b, off + 2 * k + 1, none⟩ = some (.int .i64 x.v))
section
variable {w w' : World} {B B' n : Nat} {A : Option Addr} {es : List Ent}
theorem Ents.nil_ : Ents w B A 0 [] := ⟨rfl, by simp, fun h => absurd h (by omega)⟩
theorem Ents.len (h : Ents w B A n es) : es.length = n := h.1
theorem Ents.keep (h : Ents w B A n es) (hk : ∀ p : Addr, p.block < B → w'.cell? p = w.cell? p) : Ents w' B A n es := by
  obtain ⟨hl, hb, hc⟩ := h
  refine ⟨hl, fun x hx => ⟨(hb x hx).1.keep hk, (hb x hx).2⟩, fun hn => ?_⟩
  obtain ⟨b, off, e, hB, hx⟩ := hc hn
  exact ⟨b, off, e, hB, fun k x hx' => ⟨(hk _ hB).trans (hx k x hx').1, (hk _ hB).trans (hx k x hx').2⟩⟩
theorem Ents.more (h : Ents w B A n es) (hB : B ≤ B') : Ents w B' A n es := by
  obtain ⟨hl, hb, hc⟩ := h
  refine ⟨hl, fun x hx => ⟨(hb x hx).1.more hB, (hb x hx).2⟩, fun hn => ?_⟩
  obtain ⟨b, off, e, hB', hx⟩ := hc hn
  exact ⟨b, off, e, by omega, hx⟩
theorem Ents.below (h : Ents w B A n es) (hb : Below B w w') : Ents w' B A n es := h.keep fun _ hp => hb.cell hp
theorem Ents.at_ {k : Nat} (h : Ents w B A n es) (hk : k < n) :
    ∃ b off x, A = some ⟨b, off, none⟩ ∧ b < B ∧ Hid (es[k]? = some x) ∧ w.cell? ⟨b, off + 2 * k, none⟩ = some (.slice x.A x.n x.c) ∧ w.cell? ⟨b, off + 2 * k + 1, none⟩ = some (.int .i64 x.v) ∧ Ints w B x.A x.n x.cs ∧ x.n ≤ 9223372036854775807 ∧ x.n ≤ x.c ∧ -9223372036854775808 ≤ x.v ∧ x.v ≤ 9223372036854775807 := by
  obtain ⟨hl, hb, hc⟩ := h
  obtain ⟨b, off, rfl, hB, hx⟩ := hc (by omega)
  have hk' : k < es.length := by omega
  have hm := hb _ (List.getElem_mem hk')
  have hx' := hx k _ (List.getElem?_eq_getElem hk')
  exact ⟨b, off, es[k], rfl, hB, List.getElem?_eq_getElem hk', hx'.1, hx'.2, hm.1, hm.2.1, hm.2.2.1, hm.2.2.2.1, hm.2.2.2.2⟩
theorem Ents.take_ {k : Nat} (h : Ents w B A n es) (hk : k ≤ n) : Ents w B A k (es.take k) := by
  obtain ⟨hl, hb, hc⟩ := h
  refine ⟨by rw [List.length_take]; omega, fun x hx => hb x (List.mem_of_mem_take hx), fun h0 => ?_⟩
  obtain ⟨b, off, e, hB, hx⟩ := hc (by omega)
  refine ⟨b, off, e, hB, fun j x hj => hx j x ?_⟩
  rw [List.getElem?_take] at hj
  split at hj
  · exact hj
  · cases hj
theorem Ents.drop_ {k c : Nat} (h : Ents w B A n es) (hk : k ≤ n) (hc : n ≤ c) : Ents w B (if c = k then A else A.map (·.add (k * 2))) (n - k) (es.drop k) := by
  obtain ⟨hl, hb, hcc⟩ := h
  refine ⟨by rw [List.length_drop]; omega, fun x hx => hb x (List.mem_of_mem_drop hx), fun h0 => ?_⟩
  obtain ⟨b, off, rfl, hB, hx⟩ := hcc (by omega)
  rw [if_neg (by omega)]
  refine ⟨b, off + 2 * k, ?_, hB, fun j x hj => ?_⟩
  · by_cases hk0 : k = 0
    · subst hk0; simp [Addr.add]
    · have h2 : ¬ k * 2 = 0 := by omega
      simp [Addr.add, h2, Nat.mul_comm]
  · rw [List.getElem?_drop] at hj
    have := hx (k + j) x hj
    rw [show off + 2 * k + 2 * j = off + 2 * (k + j) by omega]
    exact this
end
end Go.Proofs.YtgkngimeokhhgaaDoor
