/- Plain arithmetic on lists: products, the number of a place, the place of a number. No program. -/
import Derived.Test.YteepiifhmbcciaaG1
import Derived.Deep.RegionWith
import Derived.WalkSpells
namespace Go.Proofs.Yteepiifhmbcciaa
open Go.RowKit

theorem wrap_eq (n : Int) : IntKind.i64.wrap n = wrap64 n := by unfold wrap64; exact IntKind.wrap_i64 n
def prodI : List Int → Int
  | [] => 1
  | s :: l => s * prodI l
/-- the number of the place cs in the shape xs -/
def numR : List Int → List Int → Int
  | _ :: l, c :: d => c * prodI l + numR l d
  | _, _ => 0
/-- the same, as the document says it, from the first mode on -/
def hor : List Int → List Int → Int → Int
  | s :: l, c :: d, a => hor l d (a * s + c)
  | _, _, a => a
/-- the place of the number n -/
def placeR : List Int → Int → List Int
  | [], _ => []
  | s :: l, n => (n / prodI l % s) :: placeR l n
/-- cs is a place in xs -/
def Inn : List Int → List Int → Prop
  | [], [] => True
  | s :: l, c :: d => 0 ≤ c ∧ c < s ∧ Inn l d
  | _, _ => False

theorem prodI_append (a b : List Int) : prodI (a ++ b) = prodI a * prodI b := by
  induction a with
  | nil => simp [prodI]
  | cons x a ih => simp [prodI, ih, Int.mul_assoc]
theorem prodI_pos {xs : List Int} (h : ∀ x ∈ xs, 1 ≤ x) : 1 ≤ prodI xs := by
  induction xs with
  | nil => simp [prodI]
  | cons x a ih =>
    have h1 := h x (by simp)
    have h2 := ih (fun y hy => h y (by simp [hy]))
    have := Int.mul_le_mul h1 h2 (by omega) (by omega)
    simpa [prodI] using this
theorem hor_eq {xs cs : List Int} (h : xs.length = cs.length) (a : Int) : hor xs cs a = a * prodI xs + numR xs cs := by
  induction xs generalizing cs a with
  | nil => cases cs <;> simp [hor, numR, prodI]
  | cons s l ih =>
    cases cs with
    | nil => simp at h
    | cons c d =>
      simp only [hor, numR, prodI]
      rw [ih (by simpa using h), Int.add_mul]
      rw [Int.mul_assoc]; omega
theorem hor_snoc {l d : List Int} (h : l.length = d.length) (s c a : Int) : hor (l ++ [s]) (d ++ [c]) a = hor l d a * s + c := by
  induction l generalizing d a with
  | nil => cases d with
    | nil => simp [hor]
    | cons _ _ => simp at h
  | cons x l ih => cases d with
    | nil => simp at h
    | cons y d => simp only [List.cons_append, hor]; exact ih (by simpa using h) _
theorem Inn.len {xs cs : List Int} (h : Inn xs cs) : xs.length = cs.length := by
  induction xs generalizing cs with
  | nil => cases cs with
    | nil => rfl
    | cons _ _ => exact h.elim
  | cons s l ih => cases cs with
    | nil => exact h.elim
    | cons c d => simp [ih h.2.2]
theorem Inn.pos {xs cs : List Int} (h : Inn xs cs) : ∀ x ∈ xs, 1 ≤ x := by
  induction xs generalizing cs with
  | nil => simp
  | cons s l ih => cases cs with
    | nil => exact h.elim
    | cons c d =>
      intro x hx
      simp at hx
      rcases hx with rfl | hx
      · have := h.1; have := h.2.1; omega
      · exact ih h.2.2 x hx
theorem step_bound {q P x y : Int} (h1 : 0 ≤ q) (h2 : q < P) (h3 : 0 ≤ y) (h4 : y < x) : 0 ≤ q * x ∧ 0 ≤ q * x + y ∧ q * x + y < P * x := by
  have a : q * x ≤ (P - 1) * x := Int.mul_le_mul_of_nonneg_right (by omega) (by omega)
  rw [Int.sub_mul] at a
  have b : 0 ≤ q * x := Int.mul_nonneg h1 (by omega)
  omega
theorem Inn.bound {xs cs : List Int} (h : Inn xs cs) : 0 ≤ numR xs cs ∧ numR xs cs < prodI xs := by
  induction xs generalizing cs with
  | nil => cases cs with
    | nil => simp [numR, prodI]
    | cons _ _ => exact h.elim
  | cons s l ih => cases cs with
    | nil => exact h.elim
    | cons c d =>
      simp only [numR, prodI]
      have hb := ih h.2.2
      have := step_bound (q := c) (P := s) (x := prodI l) (y := numR l d) h.1 h.2.1 hb.1 hb.2
      omega
theorem Inn.drop_ {xs cs : List Int} (h : Inn xs cs) (k : Nat) : Inn (xs.drop k) (cs.drop k) := by
  induction k generalizing xs cs with
  | zero => simpa using h
  | succ k ih =>
    cases xs with
    | nil => cases cs with
      | nil => simpa using h
      | cons _ _ => exact h.elim
    | cons s l => cases cs with
      | nil => exact h.elim
      | cons c d => simpa using ih h.2.2
theorem Inn.at_ {xs cs : List Int} (h : Inn xs cs) {k : Nat} {x y : Int} (hx : xs[k]? = some x) (hy : cs[k]? = some y) : 0 ≤ y ∧ y < x := by
  induction xs generalizing cs k with
  | nil => simp at hx
  | cons s l ih => cases cs with
    | nil => exact h.elim
    | cons c d =>
      cases k with
      | zero => simp at hx hy; subst hx; subst hy; exact ⟨h.1, h.2.1⟩
      | succ k => exact ih h.2.2 (by simpa using hx) (by simpa using hy)
theorem numR_drop {xs cs : List Int} {k : Nat} {x y : Int} (hx : xs[k]? = some x) (hy : cs[k]? = some y) :
    numR (xs.drop k) (cs.drop k) = y * prodI (xs.drop (k + 1)) + numR (xs.drop (k + 1)) (cs.drop (k + 1)) := by
  rw [drop_of hx, drop_of hy]; rfl
theorem prodI_drop {xs : List Int} {k : Nat} {x : Int} (hx : xs[k]? = some x) : prodI (xs.drop k) = x * prodI (xs.drop (k + 1)) := by
  rw [drop_of hx]; rfl
theorem prodI_split (xs : List Int) (k : Nat) : prodI xs = prodI (xs.take k) * prodI (xs.drop k) := by
  rw [← prodI_append, List.take_append_drop]
theorem prodI_drop_le {xs : List Int} (h : ∀ x ∈ xs, 1 ≤ x) (k : Nat) : prodI (xs.drop k) ≤ prodI xs := by
  rw [prodI_split xs k]
  have h1 := prodI_pos (xs := xs.take k) (fun x hx => h x (List.mem_of_mem_take hx))
  have h2 := prodI_pos (xs := xs.drop k) (fun x hx => h x (List.mem_of_mem_drop hx))
  have := Int.mul_le_mul_of_nonneg_right h1 (by omega : 0 ≤ prodI (xs.drop k))
  omega
theorem prodI_take_le {xs : List Int} (h : ∀ x ∈ xs, 1 ≤ x) (k : Nat) : prodI (xs.take k) ≤ prodI xs := by
  rw [prodI_split xs k]
  have h1 := prodI_pos (xs := xs.take k) (fun x hx => h x (List.mem_of_mem_take hx))
  have h2 := prodI_pos (xs := xs.drop k) (fun x hx => h x (List.mem_of_mem_drop hx))
  have := Int.mul_le_mul_of_nonneg_left h2 (by omega : 0 ≤ prodI (xs.take k))
  omega
theorem cellsGo_prod {xs : List Int} (h : ∀ x ∈ xs, 1 ≤ x) {q : Int} (hq : 1 ≤ q) (hq2 : q ≤ 4611686018427387903) : (prodI xs * q ≤ 4611686018427387903 → cellsGo xs q = (q * prodI xs, 0)) ∧ (4611686018427387903 < prodI xs * q → cellsGo xs q = (0, 2)) := by
  induction xs generalizing q with
  | nil => constructor <;> simp [prodI, cellsGo] <;> omega
  | cons s l ih =>
    have hs := h s (by simp)
    have hl : ∀ x ∈ l, 1 ≤ x := fun x hx => h x (by simp [hx])
    have hp := prodI_pos hl
    have hc : s * prodI l * q = prodI l * (q * s) := by rw [Int.mul_comm s, Int.mul_assoc, Int.mul_comm s q]
    simp only [cellsGo, prodI]
    by_cases hb : 4611686018427387903 / q < s
    · rw [if_pos hb]
      have : 4611686018427387903 < q * s := by
        have := (Int.ediv_lt_iff_lt_mul (by omega : 0 < q)).1 hb; rwa [Int.mul_comm] at this
      have h3 : q * s * 1 ≤ q * s * prodI l := Int.mul_le_mul_of_nonneg_left hp (by omega)
      have h4 : s * prodI l * q = q * s * prodI l := by rw [hc, Int.mul_comm]
      refine ⟨fun hh => ?_, fun _ => rfl⟩
      exfalso; rw [h4] at hh; omega
    · rw [if_neg hb]
      have hm := mul_bound hq hs hb
      have := ih hl hm.1 hm.2
      rw [hc]
      refine ⟨fun hh => ?_, this.2⟩
      rw [this.1 hh, Int.mul_assoc]
theorem cellsF_pos {xs : List Int} (h : ∀ x ∈ xs, 1 ≤ x) (h4 : xs.length ≤ 4) : cellsF xs = if prodI xs ≤ 4611686018427387903 then (prodI xs, 0) else (0, 2) := by
  have h1 : (xs.any fun s => decide (s < 0)) = false := by
    rw [List.any_eq_false]; intro x hx; have := h x hx; simp; omega
  have h2 : (xs.any fun s => s == 0) = false := by
    rw [List.any_eq_false]; intro x hx; have := h x hx; simp; omega
  have := cellsGo_prod h (q := 1) (by omega) (by omega)
  unfold cellsF
  rw [if_neg (by rw [h1]; simp; omega), if_neg (by rw [h2]; simp)]
  rw [Int.mul_one, Int.one_mul] at this
  split
  · exact this.1 (by assumption)
  · exact this.2 (by omega)
/-- no error: at most four modes, none below 0 -/
theorem cellsF_ok {xs : List Int} (h : (cellsF xs).2 = 0) : xs.length ≤ 4 ∧ (∀ x ∈ xs, 0 ≤ x) := by
  unfold cellsF at h
  split at h
  · simp at h
  · rename_i hh
    rw [not_or] at hh
    refine ⟨by omega, fun x hx => ?_⟩
    have := hh.2
    simp at this
    exact this x hx
theorem cellsF_ok_pos {xs : List Int} (h : (cellsF xs).2 = 0) (hp : ∀ x ∈ xs, 1 ≤ x) : (cellsF xs).1 = prodI xs ∧ prodI xs ≤ 4611686018427387903 := by
  have h4 := (cellsF_ok h).1
  rw [cellsF_pos hp h4] at h ⊢
  split at h
  · rename_i hh; rw [if_pos hh]; exact ⟨rfl, hh⟩
  · simp at h

/-- what box.At has summed when the pairs pre have come -/
def atSum (cs : List Int) (pre : List (Int × Int)) : Int := pre.foldl (fun a x => wrap64 (a + wrap64 ((cs[x.1.toNat]?.getD 0) * x.2))) 0
theorem atSum_snoc (cs : List Int) (pre : List (Int × Int)) (x : Int × Int) : atSum cs (pre ++ [x]) = wrap64 (atSum cs pre + wrap64 ((cs[x.1.toNat]?.getD 0) * x.2)) := by simp [atSum]
theorem inn_of_insideF {xs cs : List Int} (h : insideF xs cs = true) : Inn xs cs := by
  induction xs generalizing cs with
  | nil => cases cs with
    | nil => trivial
    | cons _ _ => simp [insideF] at h
  | cons s l ih => cases cs with
    | nil => simp [insideF] at h
    | cons c d =>
      simp [insideF, badAt] at h
      refine ⟨by omega, by omega, ih ?_⟩
      simp [insideF, badAt]
      exact ⟨h.1, h.2.2⟩
theorem backs_eq {xs : List Int} (hp : ∀ x ∈ xs, 1 ≤ x) (hM : prodI xs ≤ 4611686018427387903) (k : Nat) (hk : k ≤ xs.length) : backs xs k = prodI (xs.drop (xs.length - k)) := by
  induction k with
  | zero => rw [backs_zero]; simp [prodI]
  | succ k ih =>
    have hx : xs[xs.length - 1 - k]? = some (xs[xs.length - 1 - k]'(by omega)) := List.getElem?_eq_getElem (by omega)
    rw [backs_succ (by omega) hx, ih (by omega)]
    have e1 : xs.length - (k + 1) = xs.length - 1 - k := by omega
    have e2 : xs.length - 1 - k + 1 = xs.length - k := by omega
    rw [e1, prodI_drop hx, e2, Int.mul_comm]
    have h1 := prodI_drop_le hp (xs.length - 1 - k)
    rw [prodI_drop hx, e2] at h1
    have h2 := prodI_pos (xs := xs.drop (xs.length - 1 - k)) (fun x hx => hp x (List.mem_of_mem_drop hx))
    rw [prodI_drop hx, e2] at h2
    exact IntWalk.wrap64_in _ ⟨by omega, by omega⟩
theorem backs_pos {xs : List Int} (hp : ∀ x ∈ xs, 1 ≤ x) (hM : prodI xs ≤ 4611686018427387903) (k : Nat) (hk : k ≤ xs.length) : 1 ≤ backs xs k ∧ backs xs k ≤ 4611686018427387903 := by
  rw [backs_eq hp hM k hk]
  have h1 := prodI_drop_le hp (xs.length - k)
  have h2 := prodI_pos (xs := xs.drop (xs.length - k)) (fun x hx => hp x (List.mem_of_mem_drop hx))
  omega
theorem atSum_comes {xs cs : List Int} (h : Inn xs cs) (hM : prodI xs ≤ 4611686018427387903) (k : Nat) (hk : k ≤ xs.length) : atSum cs (comes xs k) = numR (xs.drop (xs.length - k)) (cs.drop (xs.length - k)) := by
  induction k with
  | zero =>
    have e : cs.drop (xs.length - 0) = [] := List.drop_of_length_le (by have := h.len; omega)
    have e' : xs.drop (xs.length - 0) = [] := List.drop_of_length_le (by omega)
    rw [e, e']; simp [atSum, comes, numR]
  | succ k ih =>
    have hl := h.len
    have hx : xs[xs.length - 1 - k]? = some (xs[xs.length - 1 - k]'(by omega)) := List.getElem?_eq_getElem (by omega)
    have hy : cs[xs.length - 1 - k]? = some (cs[xs.length - 1 - k]'(by omega)) := List.getElem?_eq_getElem (by omega)
    have hb := (h.drop_ (xs.length - 1 - k)).bound
    have hb2 := (h.drop_ (xs.length - k)).bound
    have hi := h.at_ hx hy
    have h1 := prodI_drop_le h.pos (xs.length - 1 - k)
    have e1 : xs.length - (k + 1) = xs.length - 1 - k := by omega
    have e2 : xs.length - 1 - k + 1 = xs.length - k := by omega
    have e3 : ((xs.length : Int) - 1 - k).toNat = xs.length - 1 - k := by omega
    rw [comes_succ, atSum_snoc, ih (by omega), backs_eq h.pos hM k (by omega)]
    simp only [e3, hy, Option.getD_some]
    rw [e1]
    rw [numR_drop hx hy, e2] at hb ⊢
    have hz : 0 ≤ cs[xs.length - 1 - k]'(by omega) * prodI (xs.drop (xs.length - k)) := Int.mul_nonneg hi.1 (by omega)
    rw [IntWalk.wrap64_in (_ * _) ⟨by omega, by omega⟩, IntWalk.wrap64_in _ ⟨by omega, by omega⟩]
    omega
end Go.Proofs.Yteepiifhmbcciaa
/- More plain arithmetic: the place of a number; slices of a call's own. -/
namespace Go.Proofs.Yteepiifhmbcciaa
open Go.RowKit

theorem placeR_length (xs : List Int) (n : Int) : (placeR xs n).length = xs.length := by
  induction xs with
  | nil => rfl
  | cons s l ih => simp [placeR, ih]
theorem placeR_at {xs : List Int} {n : Int} {k : Nat} {x : Int} (hx : xs[k]? = some x) : (placeR xs n)[k]? = some (n / prodI (xs.drop (k + 1)) % x) := by
  induction xs generalizing k with
  | nil => simp at hx
  | cons s l ih => cases k with
    | zero => simp at hx; subst hx; simp [placeR]
    | succ k => simpa [placeR] using ih (by simpa using hx)
theorem placeR_fits {xs : List Int} (hp : ∀ x ∈ xs, 1 ≤ x) (hM : ∀ x ∈ xs, x ≤ 9223372036854775807) (v : Int) : ∀ x ∈ placeR xs v, -9223372036854775808 ≤ x ∧ x ≤ 9223372036854775807 := by
  induction xs with
  | nil => simp [placeR]
  | cons s l ih =>
    have hs := hp s (by simp)
    have hs2 := hM s (by simp)
    have h1 := Int.emod_nonneg (v / prodI l) (b := s) (by omega)
    have h2 := Int.emod_lt_of_pos (v / prodI l) (b := s) (by omega)
    intro x hx
    simp only [placeR, List.mem_cons] at hx
    rcases hx with rfl | hx
    · omega
    · exact ih (fun x hx => hp x (by simp [hx])) (fun x hx => hM x (by simp [hx])) x hx
theorem cellsF_nz {xs : List Int} (h : (cellsF xs).2 = 0) (hn : (cellsF xs).1 ≠ 0) : ∀ x ∈ xs, 1 ≤ x := by
  have h0 := (cellsF_ok h).2
  intro x hx
  have := h0 x hx
  by_cases hz : x = 0
  · exfalso
    subst hz
    have hz : (xs.any fun s => s == 0) = true := by rw [List.any_eq_true]; exact ⟨0, hx, rfl⟩
    apply hn
    unfold cellsF at h ⊢
    split at h
    · simp at h
    · rename_i hh; rw [if_neg hh, if_pos hz]
  · omega
theorem back_set {p : List Int} {r k : Nat} {v : Int} (hk : k < r) (hv : p[r - 1 - k]? = some v) :
    (List.replicate (r - k) 0 ++ p.drop (r - k)).set (r - 1 - k) v = List.replicate (r - (k + 1)) 0 ++ p.drop (r - (k + 1)) := by
  have e : r - (k + 1) = r - 1 - k := by omega
  rw [e, drop_of hv]
  have e2 : r - 1 - k + 1 = r - k := by omega
  rw [e2]
  have e3 : List.replicate (r - k) (0 : Int) = List.replicate (r - 1 - k) 0 ++ [0] := by rw [← e2, List.replicate_succ']
  rw [e3, List.append_assoc, List.set_append_right _ _ (by simp)]
  simp
/-- the place is a place, and its number is n -/
theorem placeR_inn {xs : List Int} (hp : ∀ x ∈ xs, 1 ≤ x) (n : Int) : Inn xs (placeR xs n) := by
  induction xs with
  | nil => trivial
  | cons s l ih =>
    have hs := hp s (by simp)
    exact ⟨Int.emod_nonneg _ (by omega), Int.emod_lt_of_pos _ (by omega), ih (fun x hx => hp x (by simp [hx]))⟩
theorem numR_placeR {xs : List Int} (hp : ∀ x ∈ xs, 1 ≤ x) (n : Int) : numR xs (placeR xs n) = n % prodI xs := by
  induction xs with
  | nil => simp [numR, prodI, Int.emod_one]
  | cons s l ih =>
    have hl : ∀ x ∈ l, 1 ≤ x := fun x hx => hp x (by simp [hx])
    have h1 := prodI_pos hl
    simp only [placeR, numR, prodI]
    rw [ih hl]
    have e : n / prodI l % s * prodI l = prodI l * (n / prodI l % s) := Int.mul_comm _ _
    have h2 := Int.emod_add_mul_ediv n (prodI l)
    have h3 := Int.emod_add_mul_ediv (n / prodI l) s
    have h4 := Int.emod_add_mul_ediv n (s * prodI l)
    have h5 : n / (s * prodI l) = n / prodI l / s := by rw [Int.mul_comm, Int.ediv_ediv_of_nonneg (by omega)]
    rw [h5] at h4
    have h6 : prodI l * (n / prodI l) = prodI l * (n / prodI l % s) + prodI l * (s * (n / prodI l / s)) := by rw [← Int.mul_add, h3]
    have h7 : prodI l * (s * (n / prodI l / s)) = s * prodI l * (n / prodI l / s) := by rw [← Int.mul_assoc, Int.mul_comm (prodI l) s]
    omega

/-- a slice of the call's own, of 64-bit integers of type e -/
def OwnI (w : World) (base : Nat) (e : TypeId) (A : Option Addr) (c : Nat) (xs : List Int) : Prop :=
  w.ownsRow base e 1 (.slice A xs.length c) xs.length (xs.map (Value.int .i64)) ∧ ∀ x ∈ xs, -9223372036854775808 ≤ x ∧ x ≤ 9223372036854775807
theorem OwnI.ints {w : World} {base : Nat} {e : TypeId} {A : Option Addr} {c : Nat} {xs : List Int} (h : OwnI w base e A c xs) : Ints w w.heap.size A xs.length xs := Ints.of_own h.1 h.2
theorem OwnI.nil_ (w : World) (base : Nat) (e : TypeId) : OwnI w base e none 0 [] := ⟨w.ownsRow_nil base e 1, by simp⟩
theorem OwnI.below {w w' : World} {base B : Nat} {e : TypeId} {A : Option Addr} {c : Nat} {xs : List Int} (h : OwnI w base e A c xs) (hb : Below B w w') (hB : w.heap.size ≤ B) : OwnI w' base e A c xs :=
  ⟨h.1.kept ⟨hb.os, hb.tape, hb.output, hb.size, fun i hi _ => hb.block i (by omega)⟩ (row := none) (by cases hh : (Value.slice A xs.length c).ownBlock with | none => exact .inl rfl | some k => exact .inr (by simp)), h.2⟩
theorem OwnI.mono {w : World} {base base' : Nat} {e : TypeId} {A : Option Addr} {c : Nat} {xs : List Int} (h : OwnI w base e A c xs) (hb : base' ≤ base) : OwnI w base' e A c xs := by
  refine ⟨⟨h.1.1, ?_⟩, h.2⟩
  rcases h.1.2 with hh | ⟨g, cap, cur, h1, h2, h3⟩
  · exact .inl hh
  · exact .inr ⟨g, cap, cur, h1, by omega, h3⟩
/-- the document's Coord, whole -/
def coordF (xs : List Int) (n : Int) : List Int × Int := if (cellsF xs).2 = 0 then if 0 ≤ n ∧ n < (cellsF xs).1 then (placeR xs n, 0) else ([], 3) else ([], (cellsF xs).2)
end Go.Proofs.Yteepiifhmbcciaa
/- Plain facts on orders of a few numbers: lists of integers that have each number once; inverses, turns, ranks, cycles. No program. -/
namespace Go.Proofs.Yteepiifhmbcciaa
open Go.RowKit

/-- is a list an order of at most twelve numbers -/
def permB (p : List Int) : Bool := decide (p.length ≤ 12) && (p.all fun x => decide (0 ≤ x ∧ x < p.length)) && decide p.Nodup
def ordF (p : List Int) : Int := if permB p = true then 0 else 1
def pick (l : List Int) (x : Int) : Int := l.getD x.toNat 0
def turnL (l p : List Int) : List Int := p.map (pick l)
def plainL (n : Nat) : List Int := (List.range n).map Int.ofNat
def invL (p : List Int) : List Int := (List.range p.length).map fun k : Nat => ((p.idxOf (k : Int) : Nat) : Int)
/-- how many of the numbers behind are less than the first -/
def lessC (x : Int) (l : List Int) : Nat := (l.filter fun y => decide (y < x)).length
def lessL : List Int → List Int
  | [] => []
  | x :: l => (lessC x l : Int) :: lessL l
def fact : Nat → Nat
  | 0 => 1
  | n + 1 => (n + 1) * fact n
def rankL : List Int → Nat
  | [] => 0
  | x :: l => lessC x l * fact l.length + rankL l
def invsL : List Int → Nat
  | [] => 0
  | x :: l => lessC x l + invsL l
def nthL : Nat → List Int → Nat → List Int
  | 0, _, _ => []
  | m + 1, l, k => l.getD (k / fact m) 0 :: nthL m (l.eraseIdx (k / fact m)) (k % fact m)

structure Perm_ (p : List Int) : Prop where
  len : p.length ≤ 12
  inn : ∀ x ∈ p, 0 ≤ x ∧ x < p.length
  nodup : p.Nodup
theorem permB_iff {p : List Int} : permB p = true ↔ Perm_ p := by
  unfold permB
  simp only [Bool.and_eq_true, decide_eq_true_eq, List.all_eq_true]
  exact ⟨fun ⟨⟨a, b⟩, c⟩ => ⟨a, b, c⟩, fun h => ⟨⟨h.len, h.inn⟩, h.nodup⟩⟩
theorem ordF_ok {p : List Int} : ordF p = 0 ↔ Perm_ p := by
  rw [← permB_iff]; unfold ordF; split <;> simp_all
theorem ordF_no {p : List Int} (h : ¬ Perm_ p) : ordF p = 1 := by
  unfold ordF; rw [if_neg]; rw [permB_iff]; exact h
theorem ordF_yes {p : List Int} (h : Perm_ p) : ordF p = 0 := ordF_ok.2 h

/-- the marks of what was seen -/
def seenC (l : List Int) : List Value := (List.range 12).map fun i : Nat => Value.bool (l.contains (i : Int))
theorem seenC_nil : seenC [] = List.replicate 12 (Value.bool false) := by rfl
theorem seenC_at {l : List Int} {i : Nat} (h : i < 12) : (seenC l)[i]? = some (.bool (l.contains (i : Int))) := by
  unfold seenC; simp [h]
theorem seenC_set (l : List Int) {i : Nat} (h : i < 12) : (seenC l).set i (.bool true) = seenC (l ++ [(i : Int)]) := by
  apply List.ext_getElem?
  intro j
  rw [List.getElem?_set]
  unfold seenC
  by_cases hj : j < 12
  · by_cases hij : i = j
    · subst hij; simp [hj]
    · simp [hj, hij]; omega
  · simp [hj]; omega
theorem nodup_snoc {l : List Int} {x : Int} (h : l.Nodup) (hx : x ∉ l) : (l ++ [x]).Nodup := by
  rw [List.nodup_append]; refine ⟨h, by simp, ?_⟩; intro a ha b hb; simp at hb; subst hb; exact fun e => hx (e ▸ ha)

/-! ### Lists that are filled from the front -/
theorem fill_len {R : List Int} {n k : Nat} (hR : R.length = n) (hk : k ≤ n) : (R.take k ++ List.replicate (n - k) 0).length = n := by simp; omega
theorem fill_setP {R : List Int} {n k : Nat} {x : Int} (hx : R[k]? = some x) (hR : R.length = n) : (R.take k ++ List.replicate (n - k) 0).set k x = R.take (k + 1) ++ List.replicate (n - (k + 1)) 0 := by
  have hk := (List.getElem?_eq_some_iff.1 hx).1
  have e : n - k = n - (k + 1) + 1 := by omega
  have e1 : (R.take k).length = k := by simp; omega
  rw [e, List.replicate_succ, List.set_append_right _ _ (by omega), e1, Nat.sub_self, List.set_cons_zero, take_succ_of hx, List.append_assoc]
  rfl
theorem fill_at {R : List Int} {n k : Nat} (hR : R.length = n) (hk : k < n) : (R.take k ++ List.replicate (n - k) 0)[k]? = some 0 := by
  rw [List.getElem?_append_right (by rw [List.length_take]; omega), List.getElem?_replicate, if_pos (by rw [List.length_take]; omega)]
theorem fill_done {R : List Int} {n : Nat} (hR : R.length = n) : R.take n ++ List.replicate (n - n) 0 = R := by
  rw [List.take_of_length_le (by omega)]; simp

/-! ### Places -/
theorem idxOf_of {p : List Int} {k : Nat} {x : Int} (hx : p[k]? = some x) (hn : x ∉ p.take k) : p.idxOf x = k := by
  have e : p = p.take k ++ x :: p.drop (k + 1) := by rw [← drop_of hx, List.take_append_drop]
  have hk := (List.getElem?_eq_some_iff.1 hx).1
  rw [e, List.idxOf_append, if_neg hn]
  simp; omega
theorem idxOf_at {p : List Int} {x : Int} (h : x ∈ p) : p[p.idxOf x]? = some x := by
  have hlt := List.idxOf_lt_length_iff.2 h
  rw [List.getElem?_eq_getElem hlt, List.getElem_idxOf]
theorem nodup_idx {p : List Int} (h : p.Nodup) {k : Nat} {x : Int} (hx : p[k]? = some x) : p.idxOf x = k := by
  refine idxOf_of hx fun hm => ?_
  have h3 : (p.take (k + 1)).Nodup := h.sublist (List.take_sublist _ _)
  rw [take_succ_of hx, List.nodup_append] at h3
  exact h3.2.2 x hm x (by simp) rfl

theorem plainL_length (n : Nat) : (plainL n).length = n := by simp [plainL]
theorem plainL_at {n k : Nat} (h : k < n) : (plainL n)[k]? = some (k : Int) := by simp [plainL, h]
theorem turnL_length (l p : List Int) : (turnL l p).length = p.length := by simp [turnL]
theorem invL_length (p : List Int) : (invL p).length = p.length := by simp [invL]
theorem invL_at {p : List Int} {k : Nat} (h : k < p.length) : (invL p)[k]? = some ((p.idxOf (k : Int) : Nat) : Int) := by simp [invL, h]
theorem lessL_length (p : List Int) : (lessL p).length = p.length := by induction p with | nil => rfl | cons x l ih => simp [lessL, ih]
theorem lessL_at {p : List Int} {k : Nat} {x : Int} (h : p[k]? = some x) : (lessL p)[k]? = some (lessC x (p.drop (k + 1)) : Int) := by
  induction p generalizing k with
  | nil => simp at h
  | cons y l ih => cases k with
    | zero => simp at h; subst h; simp [lessL]
    | succ k => simpa [lessL] using ih (by simpa using h)
theorem lessC_le (x : Int) (l : List Int) : lessC x l ≤ l.length := List.length_filter_le _ _
theorem lessC_snoc (x y : Int) (l : List Int) : lessC x (l ++ [y]) = lessC x l + if y < x then 1 else 0 := by
  unfold lessC; rw [List.filter_append, List.length_append]
  by_cases h : y < x <;> simp [h]
theorem fact_pos (n : Nat) : 0 < fact n := by induction n with | zero => decide | succ n ih => exact Nat.mul_pos (by omega) ih
theorem fact_mono {n m : Nat} (h : n ≤ m) : fact n ≤ fact m := by
  induction h with
  | refl => exact Nat.le_refl _
  | step h ih => rename_i m; refine Nat.le_trans ih ?_; show fact m ≤ (m + 1) * fact m; exact Nat.le_mul_of_pos_left _ (by omega)
theorem fact_12 : fact 12 = 479001600 := by decide
theorem fact_le {n : Nat} (h : n ≤ 12) : fact n ≤ 479001600 := by rw [← fact_12]; exact fact_mono h
/-- an order has each number once -/
theorem Perm_.mem {p : List Int} (h : Perm_ p) {k : Nat} (hk : k < p.length) : (k : Int) ∈ p := by
  -- as many different numbers below the length as there are
  have key : ∀ (n : Nat) (l : List Int), l.Nodup → (∀ x ∈ l, 0 ≤ x ∧ x < n) → l.length ≤ n ∧ (l.length = n → ∀ k : Nat, k < n → (k : Int) ∈ l) := by
    intro n
    induction n with
    | zero => intro l _ h2; cases l with | nil => simp | cons x l => have := h2 x (by simp); omega
    | succ n ih =>
      intro l h1 h2
      have hn : (l.erase (n : Int)).Nodup := h1.erase _
      have hb : ∀ x ∈ l.erase (n : Int), 0 ≤ x ∧ x < n := by
        intro x hx
        have hx2 := (List.Nodup.mem_erase_iff h1).1 hx
        have := h2 x hx2.2
        have hne := hx2.1
        omega
      obtain ⟨i1, i2⟩ := ih _ hn hb
      by_cases hm : (n : Int) ∈ l
      · rw [List.length_erase_of_mem hm] at i1 i2
        have hpos : 0 < l.length := List.length_pos_of_mem hm
        refine ⟨by omega, fun e k hk => ?_⟩
        by_cases hkn : k = n
        · subst hkn; exact hm
        · exact List.mem_of_mem_erase (i2 (by omega) k (by omega))
      · rw [List.erase_of_not_mem hm] at i1 i2
        exact ⟨by omega, fun e => by omega⟩
  exact (key p.length p h.nodup h.inn).2 rfl k hk
theorem turnL_at {l p : List Int} {k : Nat} {x y : Int} (h : p[k]? = some x) (hy : l[x.toNat]? = some y) : (turnL l p)[k]? = some y := by
  simp [turnL, pick, h, hy]

theorem rankL_lt (p : List Int) : rankL p < fact p.length := by
  induction p with
  | nil => decide
  | cons x l ih =>
    simp only [rankL, List.length_cons, fact]
    have h1 := lessC_le x l
    have h2 : lessC x l * fact l.length ≤ l.length * fact l.length := Nat.mul_le_mul_right _ h1
    rw [Nat.add_mul, Nat.one_mul]
    omega
theorem rankL_drop {p : List Int} {k : Nat} {x : Int} (h : p[k]? = some x) : rankL (p.drop k) = lessC x (p.drop (k + 1)) * fact (p.length - (k + 1)) + rankL (p.drop (k + 1)) := by
  rw [drop_of h]; simp [rankL]
theorem invsL_drop {p : List Int} {k : Nat} {x : Int} (h : p[k]? = some x) : invsL (p.drop k) = lessC x (p.drop (k + 1)) + invsL (p.drop (k + 1)) := by
  rw [drop_of h]; simp [invsL]
theorem invsL_le (p : List Int) : invsL p ≤ p.length * p.length := by
  induction p with
  | nil => decide
  | cons x l ih =>
    simp only [invsL, List.length_cons]
    have h1 := lessC_le x l
    rw [Nat.add_mul, Nat.mul_add]
    omega
def rankF (p : List Int) : Int × Int := if ordF p = 0 then (rankL p, 0) else (0, 1)
def oddB (p : List Int) : Bool := invsL p % 2 == 1
def oddF (p : List Int) : Bool × Int := if ordF p = 0 then (oddB p, 0) else (false, 1)
end Go.Proofs.Yteepiifhmbcciaa
/- The contracts of the document's number, place, At and Coord. -/
namespace Go.Proofs.Yteepiifhmbcciaa
open Go.RowKit

set_option maxRecDepth 100000 in
theorem number_any (A A2 : Option Addr) (n n2 c c2 : Nat) (xs cs : List Int) (w : World) (B : Nat) (h : Ints w B A n xs) (h2 : Ints w B A2 n2 cs) (hn : n ≤ 100000) (hi : Inn xs cs) (hM : prodI xs ≤ 4611686018427387903) :
    Calls Try.prog 66 #[.slice A n c, .slice A2 n2 c2] w fun e w' => e = .returned (.int .i64 (numR xs cs)) ∧ ∃ m, w' = w.drewN m := by
  have HL : Hid (xs.length = n) := h.1
  have HL2 : Hid (cs.length = n2) := h2.1
  obtain rfl : n2 = n := by have := hi.len; rw [HL.out, HL2.out] at this; exact this.symm
  go_enter Try.func66, Try.ntmps66
  go_wp2
  go_loopw [5, 9] (fun v i wr => ∃ (k m : Nat) (q P : Int), k ≤ n2 ∧ i = .int .i64 k ∧ v = .int .i64 q ∧ wr = w.drewN m ∧ 0 ≤ q ∧ q < P ∧ Hid (P = prodI (xs.take k)) ∧ Hid (q = hor (xs.take k) (cs.take k) 0)) (fun _ i _ => n2 - (intOf i).toNat)
  case atStart => exact ⟨0, 0, 0, 1, Nat.zero_le _, rfl, rfl, rfl, by omega, by omega, rfl, by unfold Hid; simp [hor]⟩
  case round =>
    obtain ⟨k, m, q, P, hk, rfl, rfl, rfl, hq0, hqP, HP, HQ⟩ := hrel
    by_cases hlt : k < n2
    · obtain ⟨b, off, x, rfl, _, HX, hc, hx1, hx2⟩ := h.at_ hlt
      obtain ⟨b2, off2, y, rfl, _, HY, hc2, hy1, hy2⟩ := h2.at_ hlt
      have hxy := hi.at_ HX.out HY.out
      have hk0 : (0 : Int) ≤ k := by omega
      have hk1 : (k : Int) < n2 := by omega
      have hPx : P * x ≤ 4611686018427387903 := by
        have := prodI_take_le hi.pos (k + 1)
        rw [take_succ_of HX.out, prodI_append, ← HP.out] at this
        simp [prodI] at this; omega
      have hb := step_bound hq0 hqP hxy.1 hxy.2
      have HP' : Hid (P * x = prodI (xs.take (k + 1))) := by unfold Hid; rw [take_succ_of HX.out, prodI_append, ← HP.out]; simp [prodI]
      have HQ' : Hid (q * x + y = hor (xs.take (k + 1)) (cs.take (k + 1)) 0) := by
        unfold Hid; rw [take_succ_of HX.out, take_succ_of HY.out, hor_snoc (by have := HL.out; have := HL2.out; simp; omega), ← HQ.out]
      obtain ⟨hb1, hb2, hb3⟩ := hb
      obtain ⟨p, hp⟩ : ∃ p, q * x = p := ⟨_, rfl⟩
      have hwp : IntKind.i64.wrap (q * x) = p := by rw [wrap_eq, hp]; exact IntWalk.wrap64_in _ ⟨by omega, by omega⟩
      have hws : IntKind.i64.wrap (p + y) = p + y := by rw [wrap_eq]; exact IntWalk.wrap64_in _ ⟨by omega, by omega⟩
      have HH := Lib.hid (And.intro hb2 hb3)
      rw [hp] at HH HQ'
      clear hb1 hb2 hb3 hp hPx hxy
      go_wp2
      go_quiet (fail)
      go_wp2
      go_roundw
      case rel => exact ⟨k + 1, _, p + y, P * x, by omega, by go_num, rfl, rfl, HH.out.1, HH.out.2, HP', HQ'⟩
      case measure => simp [intOf]; omega
    · have HF : Hid (q = numR xs cs) := by
        unfold Hid; rw [HQ.out, List.take_of_length_le (by rw [HL.out]; omega), List.take_of_length_le (by rw [HL2.out]; omega), hor_eq hi.len]; simp
      go_wp2
      go_ret
      exact ⟨by rw [← HF.out]; rfl, _, rfl⟩

/-- the document's At, whole -/
def atF (xs cs : List Int) : Int × Int := if (cellsF xs).2 = 0 then if insideF xs cs = true then (numR xs cs, 0) else (0, 3) else (0, (cellsF xs).2)

set_option maxRecDepth 100000 in
theorem refAt_any (A A2 : Option Addr) (n n2 c c2 : Nat) (xs cs : List Int) (w : World) (B : Nat) (h : Ints w B A n xs) (h2 : Ints w B A2 n2 cs) (hn : n ≤ 9223372036854775807) (hn2 : n2 ≤ 9223372036854775807) :
    Calls Try.prog 42 #[.slice A n c, .slice A2 n2 c2] w fun e w' => e = .returned (.tuple #[.int .i64 (atF xs cs).1, .int .i64 (atF xs cs).2]) ∧ ∃ m, w' = w.drewN m := by
  have HC := fun W (hW : Ints W B A n xs) => refCells_any A n c xs W B hW hn
  by_cases hcf : (cellsF xs).2 = 0
  · have h5 : n ≤ 100000 := by have := (cellsF_ok hcf).1; have := h.1; omega
    have HI := fun W (hW : Ints W B A n xs) (hW2 : Ints W B A2 n2 cs) => refIn_any A A2 n n2 c c2 xs cs W B hW hW2 h5 hn2
    obtain ⟨N, hN⟩ : ∃ N, (cellsF xs).1 = N := ⟨_, rfl⟩
    rw [hcf, hN] at HC
    by_cases hin : insideF xs cs = true
    · have hI := inn_of_insideF hin
      have HN := fun W (hW : Ints W B A n xs) (hW2 : Ints W B A2 n2 cs) => number_any A A2 n n2 c c2 xs cs W B hW hW2 h5 hI (cellsF_ok_pos hcf hI.pos).2
      have HF : Hid (atF xs cs = (numR xs cs, 0)) := by unfold Hid atF; rw [if_pos hcf, if_pos hin]
      rw [hin] at HI
      clear hcf hN hin hI
      go_enter Try.func42, Try.ntmps42
      go_wp2_with (first | (go_at_call 64; refine (HC _ h).mono ?_; rintro e w' ⟨rfl, rfl⟩) | (go_at_call 65; refine (HI _ h h2).mono ?_; rintro e w' ⟨rfl, m, rfl⟩) | (go_at_call 66; refine (HN _ (h.drewN _) (h2.drewN _)).mono ?_; rintro e w' ⟨rfl, m2, rfl⟩))
      go_ret2
      exact ⟨by rw [HF.out]; rfl, _, rfl⟩
    · have hin' : insideF xs cs = false := by simpa using hin
      have HF : Hid (atF xs cs = (0, 3)) := by unfold Hid atF; rw [if_pos hcf, if_neg hin]
      rw [hin'] at HI
      clear hcf hN hin hin'
      go_enter Try.func42, Try.ntmps42
      go_wp2_with (first | (go_at_call 64; refine (HC _ h).mono ?_; rintro e w' ⟨rfl, rfl⟩) | (go_at_call 65; refine (HI _ h h2).mono ?_; rintro e w' ⟨rfl, m, rfl⟩))
      go_ret2
      exact ⟨by rw [HF.out]; rfl, _, rfl⟩
  · have HF : Hid (atF xs cs = (0, (cellsF xs).2)) := by unfold Hid atF; rw [if_neg hcf]
    obtain ⟨N, hN⟩ : ∃ N, (cellsF xs).1 = N := ⟨_, rfl⟩
    obtain ⟨E, hE⟩ : ∃ E, (cellsF xs).2 = E := ⟨_, rfl⟩
    rw [hN, hE] at HC
    rw [hE] at hcf HF
    have he1 : (E == 0) = false := by simpa using hcf
    have he2 : (E != 0) = true := by simpa using hcf
    clear hN hE hcf
    go_enter Try.func42, Try.ntmps42
    go_wp2_with (go_at_call 64; refine (HC _ h).mono ?_; rintro e w' ⟨rfl, rfl⟩)
    go_ret2
    exact ⟨by rw [HF.out]; rfl, 0, rfl⟩
end Go.Proofs.Yteepiifhmbcciaa
/- The contracts of the document's place and Coord. -/
namespace Go.Proofs.Yteepiifhmbcciaa
open Go.RowKit

set_option maxRecDepth 100000 in
theorem infoInt : (Try.prog.info? 3).map (fun i => (i.zero, i.size, i.bytes)) = some (some (.int .i64 0), 1, 8) := by kernel_rfl
set_option maxRecDepth 100000 in
theorem infoInt64 : (Try.prog.info? 2).map (fun i => (i.zero, i.size, i.bytes)) = some (some (.int .i64 0), 1, 8) := by kernel_rfl

end Go.Proofs.Yteepiifhmbcciaa
/- The contracts of slices.Clone at []int and slices.Equal at []int and []int64, of box.laid and the document's Check's length part, of box.Zero. -/
namespace Go.Proofs.Yteepiifhmbcciaa
open Go.RowKit

set_option maxRecDepth 100000 in
theorem equalInt_any (A A2 : Option Addr) (n n2 c c2 : Nat) (xs ys : List Int) (w : World) (B : Nat) (h : Ints w B A n xs) (h2 : Ints w B A2 n2 ys) (hn : n ≤ 100000) (hn2 : n2 ≤ 9223372036854775807) :
    Calls Try.prog 29 #[.slice A n c, .slice A2 n2 c2] w fun e w' => e = .returned (.bool (decide (xs = ys))) ∧ ∃ m, w' = w.drewN m := by
  have HL : Hid (xs.length = n) := h.1
  have HL2 : Hid (ys.length = n2) := h2.1
  by_cases hne : n = n2
  · subst hne
    go_enter Try.func29, Try.ntmps29
    go_wp2
    go_loopw [13] (fun i wr => ∃ (k m : Nat), k ≤ n ∧ i = .int .i64 k ∧ wr = w.drewN m ∧ Hid (xs.take k = ys.take k)) (fun i _ => n - (intOf i).toNat)
    case atStart => exact ⟨0, 0, Nat.zero_le _, rfl, rfl, by unfold Hid; simp⟩
    case round =>
      obtain ⟨k, m, hk, rfl, rfl, HK⟩ := hrel
      by_cases hlt : k < n
      · obtain ⟨b, off, x, rfl, _, HX, hc, hx1, hx2⟩ := h.at_ hlt
        obtain ⟨b2, off2, y, rfl, _, HY, hc2, hy1, hy2⟩ := h2.at_ hlt
        have hk0 : (0 : Int) ≤ k := by omega
        have hk1 : (k : Int) < n := by omega
        by_cases hxy : x = y
        · have HN : Hid (xs.take (k + 1) = ys.take (k + 1)) := by unfold Hid; rw [take_succ_of HX.out, take_succ_of HY.out, HK.out, hxy]
          have e1 : (x == y) = true := by simpa using hxy
          have e2 : (x != y) = false := by simpa using hxy
          clear hxy
          go_wp2
          go_quiet (fail)
          go_wp2
          go_roundw
          case rel => exact ⟨k + 1, _, by omega, by go_num, rfl, HN⟩
          case measure => simp [intOf]; omega
        · have HF : Hid (decide (xs = ys) = false) := by
            unfold Hid; rw [decide_eq_false]; intro e; subst e
            have := HX.out; rw [HY.out] at this; exact hxy (by injection this with this; exact this.symm)
          have e1 : (x == y) = false := by simpa using hxy
          have e2 : (x != y) = true := by simpa using hxy
          go_wp2
          go_quiet (fail)
          go_wp2
          go_ret
          exact ⟨by rw [HF.out]; rfl, _, World.drewN_drewN _ _ _⟩
      · have HF : Hid (decide (xs = ys) = true) := by
          unfold Hid; rw [decide_eq_true]; have := HK.out
          rwa [List.take_of_length_le (by rw [HL.out]; omega), List.take_of_length_le (by rw [HL2.out]; omega)] at this
        go_wp2
        go_ret
        exact ⟨by rw [HF.out]; rfl, _, rfl⟩
  · have HF : Hid (decide (xs = ys) = false) := by unfold Hid; rw [decide_eq_false]; intro e; subst e; exact hne (by rw [← HL.out, ← HL2.out])
    have hne1 : ((n : Int) == (n2 : Int)) = false := by simp; omega
    have hne2 : ((n : Int) != (n2 : Int)) = true := by simp; omega
    go_enter Try.func29, Try.ntmps29
    go_wp2
    go_ret
    exact ⟨by rw [HF.out]; rfl, 0, rfl⟩

set_option maxRecDepth 100000 in
theorem equalInt64_any (A A2 : Option Addr) (n n2 c c2 : Nat) (xs ys : List Int) (w : World) (B : Nat) (h : Ints w B A n xs) (h2 : Ints w B A2 n2 ys) (hn : n ≤ 100000) (hn2 : n2 ≤ 9223372036854775807) :
    Calls Try.prog 33 #[.slice A n c, .slice A2 n2 c2] w fun e w' => e = .returned (.bool (decide (xs = ys))) ∧ ∃ m, w' = w.drewN m := by
  have HL : Hid (xs.length = n) := h.1
  have HL2 : Hid (ys.length = n2) := h2.1
  by_cases hne : n = n2
  · subst hne
    go_enter Try.func33, Try.ntmps33
    go_wp2
    go_loopw [13] (fun i wr => ∃ (k m : Nat), k ≤ n ∧ i = .int .i64 k ∧ wr = w.drewN m ∧ Hid (xs.take k = ys.take k)) (fun i _ => n - (intOf i).toNat)
    case atStart => exact ⟨0, 0, Nat.zero_le _, rfl, rfl, by unfold Hid; simp⟩
    case round =>
      obtain ⟨k, m, hk, rfl, rfl, HK⟩ := hrel
      by_cases hlt : k < n
      · obtain ⟨b, off, x, rfl, _, HX, hc, hx1, hx2⟩ := h.at_ hlt
        obtain ⟨b2, off2, y, rfl, _, HY, hc2, hy1, hy2⟩ := h2.at_ hlt
        have hk0 : (0 : Int) ≤ k := by omega
        have hk1 : (k : Int) < n := by omega
        by_cases hxy : x = y
        · have HN : Hid (xs.take (k + 1) = ys.take (k + 1)) := by unfold Hid; rw [take_succ_of HX.out, take_succ_of HY.out, HK.out, hxy]
          have e1 : (x == y) = true := by simpa using hxy
          have e2 : (x != y) = false := by simpa using hxy
          clear hxy
          go_wp2
          go_quiet (fail)
          go_wp2
          go_roundw
          case rel => exact ⟨k + 1, _, by omega, by go_num, rfl, HN⟩
          case measure => simp [intOf]; omega
        · have HF : Hid (decide (xs = ys) = false) := by
            unfold Hid; rw [decide_eq_false]; intro e; subst e
            have := HX.out; rw [HY.out] at this; exact hxy (by injection this with this; exact this.symm)
          have e1 : (x == y) = false := by simpa using hxy
          have e2 : (x != y) = true := by simpa using hxy
          go_wp2
          go_quiet (fail)
          go_wp2
          go_ret
          exact ⟨by rw [HF.out]; rfl, _, World.drewN_drewN _ _ _⟩
      · have HF : Hid (decide (xs = ys) = true) := by
          unfold Hid; rw [decide_eq_true]; have := HK.out
          rwa [List.take_of_length_le (by rw [HL.out]; omega), List.take_of_length_le (by rw [HL2.out]; omega)] at this
        go_wp2
        go_ret
        exact ⟨by rw [HF.out]; rfl, _, rfl⟩
  · have HF : Hid (decide (xs = ys) = false) := by unfold Hid; rw [decide_eq_false]; intro e; subst e; exact hne (by rw [← HL.out, ← HL2.out])
    have hne1 : ((n : Int) == (n2 : Int)) = false := by simp; omega
    have hne2 : ((n : Int) != (n2 : Int)) = true := by simp; omega
    go_enter Try.func33, Try.ntmps33
    go_wp2
    go_ret
    exact ⟨by rw [HF.out]; rfl, 0, rfl⟩

/-- how many cells, of what can be laid out -/
def laidF (xs : List Int) : Int × Int := if (cellsF xs).2 = 0 then if 65536 < (cellsF xs).1 then (0, 2) else ((cellsF xs).1, 0) else (0, (cellsF xs).2)
set_option maxRecDepth 100000 in
theorem laid_any (A : Option Addr) (n c : Nat) (xs : List Int) (w : World) (B : Nat) (h : Ints w B A n xs) (hn : n ≤ 9223372036854775807) :
    Calls Try.prog 83 #[.slice A n c] w fun e w' => e = .returned (.tuple #[.int .i64 (laidF xs).1, .int .i64 (laidF xs).2]) ∧ w = w' := by
  have HC := cells_any A n c xs w B h hn
  obtain ⟨N, hN⟩ : ∃ N, (cellsF xs).1 = N := ⟨_, rfl⟩
  by_cases hcf : (cellsF xs).2 = 0
  · by_cases hb : 65536 < N
    · have HF : Hid (laidF xs = (0, 2)) := by unfold Hid laidF; rw [if_pos hcf, hN, if_pos hb]
      rw [hcf, hN] at HC
      clear hcf hN
      go_enter Try.func83, Try.ntmps83
      go_wp2_with (go_at_call 67; refine HC.mono ?_; rintro e w' ⟨rfl, rfl⟩)
      go_ret2
      exact ⟨by rw [HF.out]; rfl, rfl⟩
    · have HF : Hid (laidF xs = (N, 0)) := by unfold Hid laidF; rw [if_pos hcf, hN, if_neg hb]
      rw [hcf, hN] at HC
      clear hcf hN
      go_enter Try.func83, Try.ntmps83
      go_wp2_with (go_at_call 67; refine HC.mono ?_; rintro e w' ⟨rfl, rfl⟩)
      go_ret2
      exact ⟨by rw [HF.out]; rfl, rfl⟩
  · have HF : Hid (laidF xs = (0, (cellsF xs).2)) := by unfold Hid laidF; rw [if_neg hcf]
    obtain ⟨E, hE⟩ : ∃ E, (cellsF xs).2 = E := ⟨_, rfl⟩
    rw [hN, hE] at HC
    rw [hE] at hcf HF
    have he1 : (E == 0) = false := by simpa using hcf
    have he2 : (E != 0) = true := by simpa using hcf
    clear hN hE hcf
    go_enter Try.func83, Try.ntmps83
    go_wp2_with (go_at_call 67; refine HC.mono ?_; rintro e w' ⟨rfl, rfl⟩)
    go_ret2
    exact ⟨by rw [HF.out]; rfl, rfl⟩

theorem laidF_nonneg {xs : List Int} : 0 ≤ (laidF xs).1 ∧ (laidF xs).1 ≤ 65536 := by
  unfold laidF
  split
  · rename_i h
    split
    · simp
    · have h0 := (cellsF_ok h).2
      by_cases hz : (cellsF xs).1 = 0
      · simp [hz]
      · have := cellsF_nz h hz
        have := (cellsF_ok_pos h this).1
        have := prodI_pos (cellsF_nz h hz)
        dsimp only; omega
  · simp
theorem laidF_ok {xs : List Int} (h : (laidF xs).2 = 0) : (cellsF xs).2 = 0 ∧ (laidF xs).1 = (cellsF xs).1 := by
  unfold laidF at h ⊢
  split at h
  · rename_i hc
    split at h
    · simp at h
    · rename_i hb; rw [if_pos hc, if_neg hb]; exact ⟨hc, rfl⟩
  · rename_i hc; exact absurd h hc

theorem emptyRow (w : World) (e : TypeId) : (w.alloc (.cells #[] e)).ownsRow w.heap.size e 1 (.slice (some ⟨w.heap.size, 0, none⟩) 0 0) 0 [] :=
  ⟨by simp, .inr ⟨w.heap.size, 0, #[], rfl, Nat.le_refl _, heap_alloc_new w _, Nat.le_refl _, by unfold maxLen; omega, by simp, by simp⟩⟩
theorem ints_one (xs : List Int) : ∀ u ∈ xs.map (Value.int .i64), u.oneCell' = true := by
  intro u hu
  rw [List.mem_map] at hu
  obtain ⟨x, _, rfl⟩ := hu
  rfl
theorem Ints.cells_ {w : World} {B n : Nat} {ad : Addr} {xs : List Int} (h : Ints w B (some ad) n xs) : ∀ j u, (xs.map (Value.int .i64))[j]? = some u → w.cell? (ad.add j) = some u := by
  intro j u hu
  rw [List.getElem?_map, Option.map_eq_some_iff] at hu
  obtain ⟨x, hx, rfl⟩ := hu
  have hj : j < n := by have := (List.getElem?_eq_some_iff.1 hx).1; have := h.1; omega
  obtain ⟨b, off, e, hb, hc⟩ := h.2.2 (by omega)
  injection e with e
  subst e
  have := hc j x hx
  by_cases h0 : j = 0
  · subst h0; simpa [Addr.add] using this
  · simpa [Addr.add, h0] using this
theorem Ints.cells_alloc {w : World} {B n : Nat} {ad : Addr} {xs : List Int} (h : Ints w B (some ad) n xs) (hB : B ≤ w.heap.size) (o : Obj) : ∀ j u, (xs.map (Value.int .i64))[j]? = some u → (w.alloc o).cell? (ad.add j) = some u := (h.alloc hB o).cells_
theorem row_form {w : World} {base n : Nat} {e : TypeId} {v : Value} {ys : List Value} (h : w.ownsRow base e 1 v n ys) : ∃ A c, v = .slice A n c := by
  rcases h.2 with ⟨rfl, rfl⟩ | ⟨g, cap, cur, rfl, _⟩
  · exact ⟨_, _, rfl⟩
  · exact ⟨_, _, rfl⟩

set_option maxRecDepth 100000 in
/-- slices.Clone -/
theorem clone_any (A : Option Addr) (n c : Nat) (xs : List Int) (w : World) (B : Nat) (h : Ints w B A n xs) (hB : B ≤ w.heap.size) (hn : n ≤ 100000) :
    Calls Try.prog 34 #[.slice A n c] w fun e w' => ∃ A' c', e = .returned (.slice A' n c') ∧ OwnI w' w.heap.size 3 A' c' xs ∧ Below w.heap.size w w' := by
  have HL : Hid (xs.length = n) := h.1
  obtain ⟨i0, hi0, hz0, hz1, hz2⟩ := info_parts infoInt
  rcases Option.eq_none_or_eq_some A with rfl | ⟨ad, rfl⟩
  · obtain rfl : n = 0 := by
      rcases Nat.eq_zero_or_pos n with h0 | h0
      · exact h0
      · obtain ⟨b, off, e, _⟩ := h.2.2 h0; cases e
    obtain rfl : xs = [] := List.eq_nil_of_length_eq_zero h.1
    have hq := Lib.run_eql_slice_nil (P := Try.prog) (w := w)
    go_enter Try.func34, Try.ntmps34
    go_wp2
    go_ret
    exact ⟨none, 0, rfl, OwnI.nil_ _ _ _, Below.refl _ _⟩
  · have hq := Lib.run_eql_slice_nil (P := Try.prog) (w := w)
    go_enter Try.func34, Try.ntmps34
    go_wp2_with (at_builtin; refine wpList_append_own _ rfl (.tmp 5) (.tmp 6) 22 rfl w.heap.size 3 i0 (.int .i64 0) 1 8 Try.underlying22 hi0 hz0 hz1 hz2 rfl (by decide) _ 0 [] rfl (emptyRow w 3) ad n c (xs.map (Value.int .i64)) rfl (by rw [List.length_map, HL.out, Nat.mul_one]) (h.cells_alloc hB _) (ints_one xs) (by unfold maxLen; omega) (by omega) (by simp) ?_; intro v' w1 hown hg _; obtain ⟨A', c', rfl⟩ := row_form hown)
    go_ret
    refine ⟨A', c', rfl, ⟨?_, h.2.1⟩, ((Below.refl _ w).alloc (Nat.le_refl _) _).grown hg (by simp) (fun k e => Nat.le_of_eq (Option.some.inj e))⟩
    rw [HL.out]; simpa using hown

/-- box.Zero -/
def zeroF (xs : List Int) : (List Int × List Int) × Int := if (laidF xs).2 = 0 then ((xs, List.replicate (laidF xs).1.toNat 0), 0) else (([], []), (laidF xs).2)

set_option maxRecDepth 100000 in
theorem zero_err (A : Option Addr) (n c : Nat) (xs : List Int) (w : World) (h : Ints w w.heap.size A n xs) (hn : n ≤ 9223372036854775807) (he : (laidF xs).2 ≠ 0) :
    Calls Try.prog 63 #[.slice A n c] w fun e w' => e = .returned (.tuple #[.agg #[.slice none 0 0, .slice none 0 0], .int .i64 (laidF xs).2]) ∧ Below w.heap.size w w' := by
  have HC := fun W (hW : Ints W w.heap.size A n xs) => laid_any A n c xs W w.heap.size hW hn
  obtain ⟨N, hN⟩ : ∃ N, (laidF xs).1 = N := ⟨_, rfl⟩
  obtain ⟨E, hE⟩ : ∃ E, (laidF xs).2 = E := ⟨_, rfl⟩
  rw [hN, hE] at HC
  rw [hE] at he ⊢
  have he1 : (E == 0) = false := by simpa using he
  have he2 : (E != 0) = true := by simpa using he
  clear hN hE he
  go_enter Try.func63, Try.ntmps63
  go_wp2_with (go_at_call 83; refine (HC _ (h.alloc (Nat.le_refl _) _)).mono ?_; rintro e w' ⟨rfl, rfl⟩)
  exact bodyPost_ret (v := .tuple #[.agg #[.slice none 0 0, .slice none 0 0], .int .i64 E]) (by simp [results, Try.results63, go_sem]) rfl ⟨rfl, (Below.refl _ _).alloc (Nat.le_refl _) _⟩

theorem run_makeAll {P : Program} (t e : TypeId) (i : TypeInfo) (ht : P.underlying t = some (.slice e)) (hi : P.info? e = some i) (hz : i.zero = some (.int .i64 0)) (h1 : i.size = 1) (h2 : i.bytes = 8) (n : Nat) (hn : n ≤ 100000) (w : World) :
    (Instr.makeSlice t (.int .i64 (n : Int)) (.int .i64 (n : Int))).run P w = .ok (.slice (some ⟨w.heap.size, 0, none⟩) n n) (w.alloc (.cells (madeCells #[.int .i64 0] n) e)) := by
  have hr := run_make (P := P) w t e i (.int .i64 0) ht hi hz .i64 .i64 n n (by omega) (by omega) (by rw [h2]; omega) (by omega)
  simp only [Int.toNat_natCast, h1, Nat.mul_one] at hr
  exact hr
theorem own_made (w : World) (e : TypeId) (n base : Nat) (hb : base ≤ w.heap.size) (hn : n ≤ 100000) : OwnI (w.alloc (.cells (madeCells #[.int .i64 0] n) e)) base e (some ⟨w.heap.size, 0, none⟩) n (List.replicate n 0) := by
  refine ⟨⟨by simp, .inr ⟨w.heap.size, n, madeCells #[.int .i64 0] n, by simp, hb, heap_alloc_new w _, by simp, by unfold maxLen; omega, ?_, ?_⟩⟩, by simp⟩
  · have := congrArg List.length (toList_madeCells_one (.int .i64 0) n); simpa using this
  · rw [toList_madeCells_one]; simp

theorem zfacts {w W w1 : World} {u v : Value} {t : TypeId} (hb : Below W.heap.size W w1) (hW : Below (w.heap.size + 1) (w.alloc (.cells #[u, v] t)) W := by first | exact Below.refl _ _ | exact (Below.refl _ _).drew | exact ((Below.refl _ _).alloc (by simp) _).drew) :
    w.heap.size < w1.heap.size ∧ w1.cell? ⟨w.heap.size, 0, none⟩ = some u ∧ w1.cell? ⟨w.heap.size, 1, none⟩ = some v ∧ w1.frozen? ⟨w.heap.size, 0, none⟩ = false ∧ w1.frozen? ⟨w.heap.size, 1, none⟩ = false := by
  have h2 := hW.trans (hb.mono (by have := hW.size; simpa using this))
  have hh : (w.alloc (.cells #[u, v] t)).heap[w.heap.size]? = some (.cells #[u, v] t (0, 0)) := heap_alloc_new w _
  have h1 : w1.heap[w.heap.size]? = some (.cells #[u, v] t (0, 0)) := (h2.block w.heap.size (by omega)).trans hh
  refine ⟨by have := h2.size; simp at this; omega, ?_, ?_, ?_, ?_⟩
  · simpa using cell_of_row _ _ 0 _ t (0, 0) h1
  · simpa using cell_of_row _ _ 1 _ t (0, 0) h1
  · simp [World.frozen?, h1]
  · simp [World.frozen?, h1]

theorem zcells {w1 : World} {g : Nat} {u v a b : Value} (k0 : w1.cell? ⟨g, 0, none⟩ = some u) (k1 : w1.cell? ⟨g, 1, none⟩ = some v) :
    ((w1.setCell ⟨g, 0, none⟩ a).setCell ⟨g, 1, none⟩ b).cell? ⟨g, 0, none⟩ = some a ∧ ((w1.setCell ⟨g, 0, none⟩ a).setCell ⟨g, 1, none⟩ b).cell? ⟨g, 1, none⟩ = some b := by
  have h0 : (w1.setCell ⟨g, 0, none⟩ a).cell? ⟨g, 0, none⟩ = some a := World.cell?_setCell_same' _ _ _ (by rw [k0]; rfl)
  have h1 : (w1.setCell ⟨g, 0, none⟩ a).cell? ⟨g, 1, none⟩ = some v := (World.cell?_setCell_other w1 _ ⟨g, 1, none⟩ _ (by simp)).trans k1
  exact ⟨(World.cell?_setCell_other _ _ ⟨g, 0, none⟩ _ (by simp)).trans h0, World.cell?_setCell_same' _ _ _ (by rw [h1]; rfl)⟩
theorem OwnI.setBelow {w : World} {base : Nat} {e : TypeId} {A : Option Addr} {c : Nat} {xs : List Int} (h : OwnI w base e A c xs) {a : Addr} (ha : a.block < base) (u : Value) : OwnI (w.setCell a u) base e A c xs := ⟨ownsRow_setCell_below h.1 ha u, h.2⟩
theorem OwnI.drew {w : World} {base : Nat} {e : TypeId} {A : Option Addr} {c : Nat} {xs : List Int} (h : OwnI w base e A c xs) : OwnI w.drew base e A c xs := h
theorem OwnI.alloc {w : World} {base : Nat} {e : TypeId} {A : Option Addr} {c : Nat} {xs : List Int} (h : OwnI w base e A c xs) (o : Obj) : OwnI (w.alloc o) base e A c xs := ⟨h.1.alloc o, h.2⟩

set_option maxRecDepth 100000 in
theorem zero_ok (A : Option Addr) (n c : Nat) (xs : List Int) (N : Nat) (w : World) (h : Ints w w.heap.size A n xs) (hn : n ≤ 100000) (he : (laidF xs).2 = 0) (hN : (laidF xs).1 = N) (hN2 : N ≤ 65536) :
    Calls Try.prog 63 #[.slice A n c] w fun e w' => ∃ A1 c1 A2 c2, e = .returned (.tuple #[.agg #[.slice A1 n c1, .slice A2 N c2], .int .i64 0]) ∧ OwnI w' w.heap.size 3 A1 c1 xs ∧ OwnI w' w.heap.size 2 A2 c2 (List.replicate N 0) ∧ Below w.heap.size w w' := by
  have HC := fun W (hW : Ints W w.heap.size A n xs) => laid_any A n c xs W w.heap.size hW (by omega)
  rw [hN, he] at HC
  have HK := fun W (hW : Ints W w.heap.size A n xs) (hs : w.heap.size ≤ W.heap.size) => clone_any A n c xs W w.heap.size hW hs hn
  obtain ⟨i0, hi0, hz0, hz1, hz2⟩ := info_parts infoInt64
  have hmk := fun W => run_makeAll (P := Try.prog) 25 2 i0 Try.underlying25 hi0 hz0 hz1 hz2 N (by omega) W
  clear hN he
  go_enter Try.func63, Try.ntmps63
  go_wp2_with (go_at_call 83; refine (HC _ (h.alloc (Nat.le_refl _) _)).mono ?_; rintro e w' ⟨rfl, rfl⟩)
  go_region_with (go_at_call 34; refine (HK _ (by first | exact h.alloc (Nat.le_refl _) _ | exact (h.alloc (Nat.le_refl _) _).alloc (by simp) _) (by simp; try omega)).mono ?_; rintro e w1 ⟨A1, c1, rfl, HO, HB⟩; obtain ⟨hs1, k0, k1, f0, f1⟩ := zfacts HB)
  all_goals go_wp2
  · obtain ⟨e0, e1⟩ := zcells (a := .slice A1 n c1) (b := .slice (some ⟨w1.heap.size, 0, none⟩) N N) k0 k1
    have e2 := fun o => cellPast o e0
    have e3 := fun o => cellPast o e1
    refine bodyPost_ret (v := .tuple #[.agg #[.slice A1 n c1, .slice (some ⟨w1.heap.size, 0, none⟩) N N], .int .i64 0]) (by simp [results, Try.results63, go_sem, e2, e3]) rfl ⟨A1, c1, _, _, rfl, ?_, ?_, ?_⟩
    · exact (((HO.setBelow (a := ⟨w.heap.size, 0, none⟩) (by simp) _).setBelow (a := ⟨w.heap.size, 1, none⟩) (by simp) _).alloc _).mono (by simp)
    · have := own_made ((w1.setCell ⟨w.heap.size, 0, none⟩ (.slice A1 n c1)).setCell ⟨w.heap.size, 1, none⟩ (.slice (some ⟨w1.heap.size, 0, none⟩) N N)) 2 N w.heap.size (by simp; omega) (by omega)
      simpa using this
    · exact ((((((Below.refl _ w).alloc (Nat.le_refl _) _).drew).trans (HB.mono (by simp))).setCell (p := ⟨w.heap.size, 0, none⟩) (Nat.le_refl _) _).setCell (p := ⟨w.heap.size, 1, none⟩) (Nat.le_refl _) _).alloc (by simp; omega) _
  · obtain ⟨e0, e1⟩ := zcells (a := .slice A1 n c1) (b := .slice (some ⟨w.heap.size + 1, 0, none⟩) N N) k0 k1
    refine bodyPost_ret (v := .tuple #[.agg #[.slice A1 n c1, .slice (some ⟨w.heap.size + 1, 0, none⟩) N N], .int .i64 0]) (by simp [results, Try.results63, go_sem, e0, e1]) rfl ⟨A1, c1, _, _, rfl, ?_, ?_, ?_⟩
    · exact ((HO.setBelow (a := ⟨w.heap.size, 0, none⟩) (by simp; omega) _).setBelow (a := ⟨w.heap.size, 1, none⟩) (by simp; omega) _).mono (by simp; omega)
    · have := own_made (w.alloc (.cells #[.slice none 0 0, .slice none 0 0] 40)) 2 N (w.heap.size + 1) (by simp) (by omega)
      rw [World.size_alloc] at this
      exact (((this.drew.below HB (Nat.le_refl _)).setBelow (a := ⟨w.heap.size, 0, none⟩) (by simp) _).setBelow (a := ⟨w.heap.size, 1, none⟩) (by simp) _).mono (by omega)
    · exact ((((((Below.refl _ w).alloc (Nat.le_refl _) _).alloc (by simp) _).drew).trans (HB.mono (by simp; omega))).setCell (p := ⟨w.heap.size, 0, none⟩) (Nat.le_refl _) _).setCell (p := ⟨w.heap.size, 1, none⟩) (Nat.le_refl _) _
end Go.Proofs.Yteepiifhmbcciaa
