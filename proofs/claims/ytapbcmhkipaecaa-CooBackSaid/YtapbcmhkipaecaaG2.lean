/- The contracts of box.inside and of the document's in and Equal: whether a list is a place in a shape; whether two lists are one. -/
import Derived.Test.YtapbcmhkipaecaaG1
namespace Go.Proofs.Ytapbcmhkipaecaa
open Go.RowKit

def badAt (p : Int × Int) : Bool := decide (p.1 < 0) || decide (p.2 ≤ p.1)
def insideF (xs cs : List Int) : Bool := decide (cs.length = xs.length) && !((cs.zip xs).any badAt)
theorem zip_at {cs xs : List Int} {k : Nat} {c s : Int} (h1 : cs[k]? = some c) (h2 : xs[k]? = some s) : (cs.zip xs)[k]? = some (c, s) := by
  rw [List.getElem?_zip_eq_some]; exact ⟨h1, h2⟩

set_option maxRecDepth 100000 in
theorem inside_any (A A2 : Option Addr) (n n2 c c2 : Nat) (xs cs : List Int) (w : World) (B : Nat) (h : Ints w B A n xs) (h2 : Ints w B A2 n2 cs) (hn : n ≤ 100000) (hn2 : n2 ≤ 9223372036854775807) :
    Calls Try.prog 78 #[.slice A n c, .slice A2 n2 c2] w fun e w' => e = .returned (.bool (insideF xs cs)) ∧ w = w' := by
  have HL : Hid (xs.length = n) := h.1
  have HL2 : Hid (cs.length = n2) := h2.1
  by_cases hne : n2 = n
  · subst hne
    go_enter Try.func78, Try.ntmps78
    go_wp2
    go_loop [14] (fun i => ∃ k : Nat, k ≤ n2 ∧ i = .int .i64 k ∧ Hid (((cs.zip xs).take k).any badAt = false)) (fun i => n2 - (intOf i).toNat)
    case atStart => exact ⟨0, Nat.zero_le _, rfl, by unfold Hid; simp⟩
    case round =>
      obtain ⟨k, hk, rfl, HK⟩ := hrel
      by_cases hlt : k < n2
      · obtain ⟨b, off, x, rfl, _, HX, hc, hx1, hx2⟩ := h.at_ hlt
        obtain ⟨b2, off2, y, rfl, _, HY, hc2, hy1, hy2⟩ := h2.at_ hlt
        by_cases hneg : y < 0
        · have HF : Hid (insideF xs cs = false) := by unfold Hid insideF; rw [any_hit (zip_at HY.out HX.out) (by simp [badAt, hneg])]; simp
          go_wp2
          go_ret
          exact ⟨by rw [HF.out]; rfl, rfl⟩
        · by_cases hge : x ≤ y
          · have HF : Hid (insideF xs cs = false) := by unfold Hid insideF; rw [any_hit (zip_at HY.out HX.out) (by simp [badAt, hge])]; simp
            go_wp2
            go_ret
            exact ⟨by rw [HF.out]; rfl, rfl⟩
          · have HN : Hid (((cs.zip xs).take (k + 1)).any badAt = false) := any_miss HK.out (zip_at HY.out HX.out) (by simp [badAt]; omega)
            go_wp2
            go_round
            case rel => exact ⟨k + 1, by omega, by go_num, HN⟩
            case measure => simp [intOf]; omega
      · have HF : Hid (insideF xs cs = true) := by
          unfold Hid insideF; rw [any_all HK.out (n := n2) (by rw [List.length_zip, HL.out, HL2.out]; simp) (by omega), HL.out, HL2.out]; simp
        go_wp2
        go_ret
        exact ⟨by rw [HF.out]; rfl, rfl⟩
  · have HF : Hid (insideF xs cs = false) := by unfold Hid insideF; rw [HL.out, HL2.out]; simp [hne]
    have hne1 : ((n2 : Int) == (n : Int)) = false := by simp; omega
    have hne2 : ((n2 : Int) != (n : Int)) = true := by simp; omega
    go_enter Try.func78, Try.ntmps78
    go_wp2
    go_ret
    exact ⟨by rw [HF.out]; rfl, rfl⟩

set_option maxRecDepth 100000 in
theorem refIn_any (A A2 : Option Addr) (n n2 c c2 : Nat) (xs cs : List Int) (w : World) (B : Nat) (h : Ints w B A n xs) (h2 : Ints w B A2 n2 cs) (hn : n ≤ 100000) (hn2 : n2 ≤ 9223372036854775807) :
    Calls Try.prog 80 #[.slice A n c, .slice A2 n2 c2] w fun e w' => e = .returned (.bool (insideF xs cs)) ∧ ∃ m, w' = w.drewN m := by
  have HL : Hid (xs.length = n) := h.1
  have HL2 : Hid (cs.length = n2) := h2.1
  by_cases hne : n2 = n
  · subst hne
    go_enter Try.func80, Try.ntmps80
    go_wp2
    go_loopw [13] (fun i wr => ∃ (k m : Nat), k ≤ n2 ∧ i = .int .i64 k ∧ wr = w.drewN m ∧ Hid (((cs.zip xs).take k).any badAt = false)) (fun i _ => n2 - (intOf i).toNat)
    case atStart => exact ⟨0, 0, Nat.zero_le _, rfl, rfl, by unfold Hid; simp⟩
    case round =>
      obtain ⟨k, m, hk, rfl, rfl, HK⟩ := hrel
      by_cases hlt : k < n2
      · obtain ⟨b, off, x, rfl, _, HX, hc, hx1, hx2⟩ := h.at_ hlt
        obtain ⟨b2, off2, y, rfl, _, HY, hc2, hy1, hy2⟩ := h2.at_ hlt
        have hk0 : (0 : Int) ≤ k := by omega
        have hk1 : (k : Int) < n2 := by omega
        by_cases hneg : y < 0
        · have HF : Hid (insideF xs cs = false) := by unfold Hid insideF; rw [any_hit (zip_at HY.out HX.out) (by simp [badAt, hneg])]; simp
          have hd : decide (y < 0) = true := by simpa using hneg
          go_wp2
          go_quiet (fail)
          go_wp2
          go_ret
          exact ⟨by rw [HF.out]; rfl, _, World.drewN_drewN _ _ _⟩
        · have hd : decide (y < 0) = false := by simpa using hneg
          by_cases hge : x ≤ y
          · have HF : Hid (insideF xs cs = false) := by unfold Hid insideF; rw [any_hit (zip_at HY.out HX.out) (by simp [badAt, hge])]; simp
            go_wp2
            go_quiet (fail)
            go_wp2
            go_ret
            exact ⟨by rw [HF.out]; rfl, _, World.drewN_drewN _ _ _⟩
          · have HN : Hid (((cs.zip xs).take (k + 1)).any badAt = false) := any_miss HK.out (zip_at HY.out HX.out) (by simp [badAt]; omega)
            go_wp2
            go_quiet (fail)
            go_wp2
            go_roundw
            case rel => exact ⟨k + 1, _, by omega, by go_num, rfl, HN⟩
            case measure => simp [intOf]; omega
      · have HF : Hid (insideF xs cs = true) := by
          unfold Hid insideF; rw [any_all HK.out (n := n2) (by rw [List.length_zip, HL.out, HL2.out]; simp) (by omega), HL.out, HL2.out]; simp
        go_wp2
        go_ret
        exact ⟨by rw [HF.out]; rfl, _, rfl⟩
  · have HF : Hid (insideF xs cs = false) := by unfold Hid insideF; rw [HL.out, HL2.out]; simp [hne]
    have hne1 : ((n2 : Int) == (n : Int)) = false := by simp; omega
    have hne2 : ((n2 : Int) != (n : Int)) = true := by simp; omega
    go_enter Try.func80, Try.ntmps80
    go_wp2
    go_ret
    exact ⟨by rw [HF.out]; rfl, 0, rfl⟩

set_option maxRecDepth 100000 in
/-- the document's Equal -/
theorem refEqual_any (A A2 : Option Addr) (n n2 c c2 : Nat) (xs ys : List Int) (w : World) (B : Nat) (h : Ints w B A n xs) (h2 : Ints w B A2 n2 ys) (hn : n ≤ 100000) (hn2 : n2 ≤ 9223372036854775807) :
    Calls Try.prog 36 #[.slice A n c, .slice A2 n2 c2] w fun e w' => e = .returned (.bool (decide (xs = ys))) ∧ ∃ m, w' = w.drewN m := by
  have HL : Hid (xs.length = n) := h.1
  have HL2 : Hid (ys.length = n2) := h2.1
  by_cases hne : n = n2
  · subst hne
    go_enter Try.func36, Try.ntmps36
    go_wp2
    go_loopw [13] (fun i wr => ∃ (k m : Nat), k ≤ n ∧ i = .int .i64 k ∧ wr = w.drewN m ∧ Hid (xs.take k = ys.take k)) (fun i _ => n - (intOf i).toNat)
    case atStart => exact ⟨0, 0, Nat.zero_le _, rfl, rfl, by unfold Hid; simp⟩
    case round =>
      obtain ⟨k, m, hk, rfl, rfl, HK⟩ := hrel
      by_cases hlt : k < n
      · obtain ⟨b, off, x, rfl, _, HX, hc, hx1, hx2⟩ := h.at_ hlt
        obtain ⟨b2, off2, y, rfl, _, HY, hc2, hy1, hy2⟩ := h2.at_ hlt
        have hk0 : (0 : Int) ≤ k := by omega
        have hk1 : (k : Int) < n := by omega
        by_cases hxy : x = y
        · have HN : Hid (xs.take (k + 1) = ys.take (k + 1)) := by unfold Hid; rw [take_succ_of HX.out, take_succ_of HY.out, HK.out, hxy]
          have e1 : (x == y) = true := by simpa using hxy
          have e2 : (x != y) = false := by simpa using hxy
          clear hxy
          go_wp2
          go_quiet (fail)
          go_wp2
          go_roundw
          case rel => exact ⟨k + 1, _, by omega, by go_num, rfl, HN⟩
          case measure => simp [intOf]; omega
        · have HF : Hid (decide (xs = ys) = false) := by
            unfold Hid; rw [decide_eq_false]; intro e; subst e
            have := HX.out; rw [HY.out] at this; exact hxy (by injection this with this; exact this.symm)
          have e1 : (x == y) = false := by simpa using hxy
          have e2 : (x != y) = true := by simpa using hxy
          go_wp2
          go_quiet (fail)
          go_wp2
          go_ret
          exact ⟨by rw [HF.out]; rfl, _, World.drewN_drewN _ _ _⟩
      · have HF : Hid (decide (xs = ys) = true) := by
          unfold Hid; rw [decide_eq_true]; have := HK.out
          rwa [List.take_of_length_le (by rw [HL.out]; omega), List.take_of_length_le (by rw [HL2.out]; omega)] at this
        go_wp2
        go_ret
        exact ⟨by rw [HF.out]; rfl, _, rfl⟩
  · have HF : Hid (decide (xs = ys) = false) := by unfold Hid; rw [decide_eq_false]; intro e; subst e; exact hne (by rw [← HL.out, ← HL2.out])
    have hne1 : ((n : Int) == (n2 : Int)) = false := by simp; omega
    have hne2 : ((n : Int) != (n2 : Int)) = true := by simp; omega
    go_enter Try.func36, Try.ntmps36
    go_wp2
    go_ret
    exact ⟨by rw [HF.out]; rfl, 0, rfl⟩
end Go.Proofs.Ytapbcmhkipaecaa
/- Plain arithmetic on lists: products, the number of a place, the place of a number. No program. -/
namespace Go.Proofs.Ytapbcmhkipaecaa
open Go.RowKit

theorem wrap_eq (n : Int) : IntKind.i64.wrap n = wrap64 n := by unfold wrap64; exact IntKind.wrap_i64 n
def prodI : List Int → Int
  | [] => 1
  | s :: l => s * prodI l
/-- the number of the place cs in the shape xs -/
def numR : List Int → List Int → Int
  | _ :: l, c :: d => c * prodI l + numR l d
  | _, _ => 0
/-- the same, as the document says it, from the first mode on -/
def hor : List Int → List Int → Int → Int
  | s :: l, c :: d, a => hor l d (a * s + c)
  | _, _, a => a
/-- the place of the number n -/
def placeR : List Int → Int → List Int
  | [], _ => []
  | s :: l, n => (n / prodI l % s) :: placeR l n
/-- cs is a place in xs -/
def Inn : List Int → List Int → Prop
  | [], [] => True
  | s :: l, c :: d => 0 ≤ c ∧ c < s ∧ Inn l d
  | _, _ => False

theorem prodI_append (a b : List Int) : prodI (a ++ b) = prodI a * prodI b := by
  induction a with
  | nil => simp [prodI]
  | cons x a ih => simp [prodI, ih, Int.mul_assoc]
theorem prodI_pos {xs : List Int} (h : ∀ x ∈ xs, 1 ≤ x) : 1 ≤ prodI xs := by
  induction xs with
  | nil => simp [prodI]
  | cons x a ih =>
    have h1 := h x (by simp)
    have h2 := ih (fun y hy => h y (by simp [hy]))
    have := Int.mul_le_mul h1 h2 (by omega) (by omega)
    simpa [prodI] using this
theorem hor_eq {xs cs : List Int} (h : xs.length = cs.length) (a : Int) : hor xs cs a = a * prodI xs + numR xs cs := by
  induction xs generalizing cs a with
  | nil => cases cs <;> simp [hor, numR, prodI]
  | cons s l ih =>
    cases cs with
    | nil => simp at h
    | cons c d =>
      simp only [hor, numR, prodI]
      rw [ih (by simpa using h), Int.add_mul]
      rw [Int.mul_assoc]; omega
theorem hor_snoc {l d : List Int} (h : l.length = d.length) (s c a : Int) : hor (l ++ [s]) (d ++ [c]) a = hor l d a * s + c := by
  induction l generalizing d a with
  | nil => cases d with
    | nil => simp [hor]
    | cons _ _ => simp at h
  | cons x l ih => cases d with
    | nil => simp at h
    | cons y d => simp only [List.cons_append, hor]; exact ih (by simpa using h) _
theorem Inn.len {xs cs : List Int} (h : Inn xs cs) : xs.length = cs.length := by
  induction xs generalizing cs with
  | nil => cases cs with
    | nil => rfl
    | cons _ _ => exact h.elim
  | cons s l ih => cases cs with
    | nil => exact h.elim
    | cons c d => simp [ih h.2.2]
theorem Inn.pos {xs cs : List Int} (h : Inn xs cs) : ∀ x ∈ xs, 1 ≤ x := by
  induction xs generalizing cs with
  | nil => simp
  | cons s l ih => cases cs with
    | nil => exact h.elim
    | cons c d =>
      intro x hx
      simp at hx
      rcases hx with rfl | hx
      · have := h.1; have := h.2.1; omega
      · exact ih h.2.2 x hx
theorem step_bound {q P x y : Int} (h1 : 0 ≤ q) (h2 : q < P) (h3 : 0 ≤ y) (h4 : y < x) : 0 ≤ q * x ∧ 0 ≤ q * x + y ∧ q * x + y < P * x := by
  have a : q * x ≤ (P - 1) * x := Int.mul_le_mul_of_nonneg_right (by omega) (by omega)
  rw [Int.sub_mul] at a
  have b : 0 ≤ q * x := Int.mul_nonneg h1 (by omega)
  omega
theorem Inn.bound {xs cs : List Int} (h : Inn xs cs) : 0 ≤ numR xs cs ∧ numR xs cs < prodI xs := by
  induction xs generalizing cs with
  | nil => cases cs with
    | nil => simp [numR, prodI]
    | cons _ _ => exact h.elim
  | cons s l ih => cases cs with
    | nil => exact h.elim
    | cons c d =>
      simp only [numR, prodI]
      have hb := ih h.2.2
      have := step_bound (q := c) (P := s) (x := prodI l) (y := numR l d) h.1 h.2.1 hb.1 hb.2
      omega
theorem Inn.drop_ {xs cs : List Int} (h : Inn xs cs) (k : Nat) : Inn (xs.drop k) (cs.drop k) := by
  induction k generalizing xs cs with
  | zero => simpa using h
  | succ k ih =>
    cases xs with
    | nil => cases cs with
      | nil => simpa using h
      | cons _ _ => exact h.elim
    | cons s l => cases cs with
      | nil => exact h.elim
      | cons c d => simpa using ih h.2.2
theorem Inn.at_ {xs cs : List Int} (h : Inn xs cs) {k : Nat} {x y : Int} (hx : xs[k]? = some x) (hy : cs[k]? = some y) : 0 ≤ y ∧ y < x := by
  induction xs generalizing cs k with
  | nil => simp at hx
  | cons s l ih => cases cs with
    | nil => exact h.elim
    | cons c d =>
      cases k with
      | zero => simp at hx hy; subst hx; subst hy; exact ⟨h.1, h.2.1⟩
      | succ k => exact ih h.2.2 (by simpa using hx) (by simpa using hy)
theorem numR_drop {xs cs : List Int} {k : Nat} {x y : Int} (hx : xs[k]? = some x) (hy : cs[k]? = some y) :
    numR (xs.drop k) (cs.drop k) = y * prodI (xs.drop (k + 1)) + numR (xs.drop (k + 1)) (cs.drop (k + 1)) := by
  rw [drop_of hx, drop_of hy]; rfl
theorem prodI_drop {xs : List Int} {k : Nat} {x : Int} (hx : xs[k]? = some x) : prodI (xs.drop k) = x * prodI (xs.drop (k + 1)) := by
  rw [drop_of hx]; rfl
theorem prodI_split (xs : List Int) (k : Nat) : prodI xs = prodI (xs.take k) * prodI (xs.drop k) := by
  rw [← prodI_append, List.take_append_drop]
theorem prodI_drop_le {xs : List Int} (h : ∀ x ∈ xs, 1 ≤ x) (k : Nat) : prodI (xs.drop k) ≤ prodI xs := by
  rw [prodI_split xs k]
  have h1 := prodI_pos (xs := xs.take k) (fun x hx => h x (List.mem_of_mem_take hx))
  have h2 := prodI_pos (xs := xs.drop k) (fun x hx => h x (List.mem_of_mem_drop hx))
  have := Int.mul_le_mul_of_nonneg_right h1 (by omega : 0 ≤ prodI (xs.drop k))
  omega
theorem prodI_take_le {xs : List Int} (h : ∀ x ∈ xs, 1 ≤ x) (k : Nat) : prodI (xs.take k) ≤ prodI xs := by
  rw [prodI_split xs k]
  have h1 := prodI_pos (xs := xs.take k) (fun x hx => h x (List.mem_of_mem_take hx))
  have h2 := prodI_pos (xs := xs.drop k) (fun x hx => h x (List.mem_of_mem_drop hx))
  have := Int.mul_le_mul_of_nonneg_left h2 (by omega : 0 ≤ prodI (xs.take k))
  omega
theorem cellsGo_prod {xs : List Int} (h : ∀ x ∈ xs, 1 ≤ x) {q : Int} (hq : 1 ≤ q) (hq2 : q ≤ 4611686018427387903) : (prodI xs * q ≤ 4611686018427387903 → cellsGo xs q = (q * prodI xs, 0)) ∧ (4611686018427387903 < prodI xs * q → cellsGo xs q = (0, 2)) := by
  induction xs generalizing q with
  | nil => constructor <;> simp [prodI, cellsGo] <;> omega
  | cons s l ih =>
    have hs := h s (by simp)
    have hl : ∀ x ∈ l, 1 ≤ x := fun x hx => h x (by simp [hx])
    have hp := prodI_pos hl
    have hc : s * prodI l * q = prodI l * (q * s) := by rw [Int.mul_comm s, Int.mul_assoc, Int.mul_comm s q]
    simp only [cellsGo, prodI]
    by_cases hb : 4611686018427387903 / q < s
    · rw [if_pos hb]
      have : 4611686018427387903 < q * s := by
        have := (Int.ediv_lt_iff_lt_mul (by omega : 0 < q)).1 hb; rwa [Int.mul_comm] at this
      have h3 : q * s * 1 ≤ q * s * prodI l := Int.mul_le_mul_of_nonneg_left hp (by omega)
      have h4 : s * prodI l * q = q * s * prodI l := by rw [hc, Int.mul_comm]
      refine ⟨fun hh => ?_, fun _ => rfl⟩
      exfalso; rw [h4] at hh; omega
    · rw [if_neg hb]
      have hm := mul_bound hq hs hb
      have := ih hl hm.1 hm.2
      rw [hc]
      refine ⟨fun hh => ?_, this.2⟩
      rw [this.1 hh, Int.mul_assoc]
theorem cellsF_pos {xs : List Int} (h : ∀ x ∈ xs, 1 ≤ x) (h4 : xs.length ≤ 4) : cellsF xs = if prodI xs ≤ 4611686018427387903 then (prodI xs, 0) else (0, 2) := by
  have h1 : (xs.any fun s => decide (s < 0)) = false := by
    rw [List.any_eq_false]; intro x hx; have := h x hx; simp; omega
  have h2 : (xs.any fun s => s == 0) = false := by
    rw [List.any_eq_false]; intro x hx; have := h x hx; simp; omega
  have := cellsGo_prod h (q := 1) (by omega) (by omega)
  unfold cellsF
  rw [if_neg (by rw [h1]; simp; omega), if_neg (by rw [h2]; simp)]
  rw [Int.mul_one, Int.one_mul] at this
  split
  · exact this.1 (by assumption)
  · exact this.2 (by omega)
/-- no error: at most four modes, none below 0 -/
theorem cellsF_ok {xs : List Int} (h : (cellsF xs).2 = 0) : xs.length ≤ 4 ∧ (∀ x ∈ xs, 0 ≤ x) := by
  unfold cellsF at h
  split at h
  · simp at h
  · rename_i hh
    rw [not_or] at hh
    refine ⟨by omega, fun x hx => ?_⟩
    have := hh.2
    simp at this
    exact this x hx
theorem cellsF_ok_pos {xs : List Int} (h : (cellsF xs).2 = 0) (hp : ∀ x ∈ xs, 1 ≤ x) : (cellsF xs).1 = prodI xs ∧ prodI xs ≤ 4611686018427387903 := by
  have h4 := (cellsF_ok h).1
  rw [cellsF_pos hp h4] at h ⊢
  split at h
  · rename_i hh; rw [if_pos hh]; exact ⟨rfl, hh⟩
  · simp at h

/-- what box.At has summed when the pairs pre have come -/
def atSum (cs : List Int) (pre : List (Int × Int)) : Int := pre.foldl (fun a x => wrap64 (a + wrap64 ((cs[x.1.toNat]?.getD 0) * x.2))) 0
theorem atSum_snoc (cs : List Int) (pre : List (Int × Int)) (x : Int × Int) : atSum cs (pre ++ [x]) = wrap64 (atSum cs pre + wrap64 ((cs[x.1.toNat]?.getD 0) * x.2)) := by simp [atSum]
theorem inn_of_insideF {xs cs : List Int} (h : insideF xs cs = true) : Inn xs cs := by
  induction xs generalizing cs with
  | nil => cases cs with
    | nil => trivial
    | cons _ _ => simp [insideF] at h
  | cons s l ih => cases cs with
    | nil => simp [insideF] at h
    | cons c d =>
      simp [insideF, badAt] at h
      refine ⟨by omega, by omega, ih ?_⟩
      simp [insideF, badAt]
      exact ⟨h.1, h.2.2⟩
theorem backs_eq {xs : List Int} (hp : ∀ x ∈ xs, 1 ≤ x) (hM : prodI xs ≤ 4611686018427387903) (k : Nat) (hk : k ≤ xs.length) : backs xs k = prodI (xs.drop (xs.length - k)) := by
  induction k with
  | zero => rw [backs_zero]; simp [prodI]
  | succ k ih =>
    have hx : xs[xs.length - 1 - k]? = some (xs[xs.length - 1 - k]'(by omega)) := List.getElem?_eq_getElem (by omega)
    rw [backs_succ (by omega) hx, ih (by omega)]
    have e1 : xs.length - (k + 1) = xs.length - 1 - k := by omega
    have e2 : xs.length - 1 - k + 1 = xs.length - k := by omega
    rw [e1, prodI_drop hx, e2, Int.mul_comm]
    have h1 := prodI_drop_le hp (xs.length - 1 - k)
    rw [prodI_drop hx, e2] at h1
    have h2 := prodI_pos (xs := xs.drop (xs.length - 1 - k)) (fun x hx => hp x (List.mem_of_mem_drop hx))
    rw [prodI_drop hx, e2] at h2
    exact IntWalk.wrap64_in _ ⟨by omega, by omega⟩
theorem backs_pos {xs : List Int} (hp : ∀ x ∈ xs, 1 ≤ x) (hM : prodI xs ≤ 4611686018427387903) (k : Nat) (hk : k ≤ xs.length) : 1 ≤ backs xs k ∧ backs xs k ≤ 4611686018427387903 := by
  rw [backs_eq hp hM k hk]
  have h1 := prodI_drop_le hp (xs.length - k)
  have h2 := prodI_pos (xs := xs.drop (xs.length - k)) (fun x hx => hp x (List.mem_of_mem_drop hx))
  omega
theorem atSum_comes {xs cs : List Int} (h : Inn xs cs) (hM : prodI xs ≤ 4611686018427387903) (k : Nat) (hk : k ≤ xs.length) : atSum cs (comes xs k) = numR (xs.drop (xs.length - k)) (cs.drop (xs.length - k)) := by
  induction k with
  | zero =>
    have e : cs.drop (xs.length - 0) = [] := List.drop_of_length_le (by have := h.len; omega)
    have e' : xs.drop (xs.length - 0) = [] := List.drop_of_length_le (by omega)
    rw [e, e']; simp [atSum, comes, numR]
  | succ k ih =>
    have hl := h.len
    have hx : xs[xs.length - 1 - k]? = some (xs[xs.length - 1 - k]'(by omega)) := List.getElem?_eq_getElem (by omega)
    have hy : cs[xs.length - 1 - k]? = some (cs[xs.length - 1 - k]'(by omega)) := List.getElem?_eq_getElem (by omega)
    have hb := (h.drop_ (xs.length - 1 - k)).bound
    have hb2 := (h.drop_ (xs.length - k)).bound
    have hi := h.at_ hx hy
    have h1 := prodI_drop_le h.pos (xs.length - 1 - k)
    have e1 : xs.length - (k + 1) = xs.length - 1 - k := by omega
    have e2 : xs.length - 1 - k + 1 = xs.length - k := by omega
    have e3 : ((xs.length : Int) - 1 - k).toNat = xs.length - 1 - k := by omega
    rw [comes_succ, atSum_snoc, ih (by omega), backs_eq h.pos hM k (by omega)]
    simp only [e3, hy, Option.getD_some]
    rw [e1]
    rw [numR_drop hx hy, e2] at hb ⊢
    have hz : 0 ≤ cs[xs.length - 1 - k]'(by omega) * prodI (xs.drop (xs.length - k)) := Int.mul_nonneg hi.1 (by omega)
    rw [IntWalk.wrap64_in (_ * _) ⟨by omega, by omega⟩, IntWalk.wrap64_in _ ⟨by omega, by omega⟩]
    omega
end Go.Proofs.Ytapbcmhkipaecaa
/- The contracts of the document's number, place, At and Coord. -/
namespace Go.Proofs.Ytapbcmhkipaecaa
open Go.RowKit

set_option maxRecDepth 100000 in
theorem number_any (A A2 : Option Addr) (n n2 c c2 : Nat) (xs cs : List Int) (w : World) (B : Nat) (h : Ints w B A n xs) (h2 : Ints w B A2 n2 cs) (hn : n ≤ 100000) (hi : Inn xs cs) (hM : prodI xs ≤ 4611686018427387903) :
    Calls Try.prog 81 #[.slice A n c, .slice A2 n2 c2] w fun e w' => e = .returned (.int .i64 (numR xs cs)) ∧ ∃ m, w' = w.drewN m := by
  have HL : Hid (xs.length = n) := h.1
  have HL2 : Hid (cs.length = n2) := h2.1
  obtain rfl : n2 = n := by have := hi.len; rw [HL.out, HL2.out] at this; exact this.symm
  go_enter Try.func81, Try.ntmps81
  go_wp2
  go_loopw [5, 9] (fun v i wr => ∃ (k m : Nat) (q P : Int), k ≤ n2 ∧ i = .int .i64 k ∧ v = .int .i64 q ∧ wr = w.drewN m ∧ 0 ≤ q ∧ q < P ∧ Hid (P = prodI (xs.take k)) ∧ Hid (q = hor (xs.take k) (cs.take k) 0)) (fun _ i _ => n2 - (intOf i).toNat)
  case atStart => exact ⟨0, 0, 0, 1, Nat.zero_le _, rfl, rfl, rfl, by omega, by omega, rfl, by unfold Hid; simp [hor]⟩
  case round =>
    obtain ⟨k, m, q, P, hk, rfl, rfl, rfl, hq0, hqP, HP, HQ⟩ := hrel
    by_cases hlt : k < n2
    · obtain ⟨b, off, x, rfl, _, HX, hc, hx1, hx2⟩ := h.at_ hlt
      obtain ⟨b2, off2, y, rfl, _, HY, hc2, hy1, hy2⟩ := h2.at_ hlt
      have hxy := hi.at_ HX.out HY.out
      have hk0 : (0 : Int) ≤ k := by omega
      have hk1 : (k : Int) < n2 := by omega
      have hPx : P * x ≤ 4611686018427387903 := by
        have := prodI_take_le hi.pos (k + 1)
        rw [take_succ_of HX.out, prodI_append, ← HP.out] at this
        simp [prodI] at this; omega
      have hb := step_bound hq0 hqP hxy.1 hxy.2
      have HP' : Hid (P * x = prodI (xs.take (k + 1))) := by unfold Hid; rw [take_succ_of HX.out, prodI_append, ← HP.out]; simp [prodI]
      have HQ' : Hid (q * x + y = hor (xs.take (k + 1)) (cs.take (k + 1)) 0) := by
        unfold Hid; rw [take_succ_of HX.out, take_succ_of HY.out, hor_snoc (by have := HL.out; have := HL2.out; simp; omega), ← HQ.out]
      obtain ⟨hb1, hb2, hb3⟩ := hb
      obtain ⟨p, hp⟩ : ∃ p, q * x = p := ⟨_, rfl⟩
      have hwp : IntKind.i64.wrap (q * x) = p := by rw [wrap_eq, hp]; exact IntWalk.wrap64_in _ ⟨by omega, by omega⟩
      have hws : IntKind.i64.wrap (p + y) = p + y := by rw [wrap_eq]; exact IntWalk.wrap64_in _ ⟨by omega, by omega⟩
      have HH := Lib.hid (And.intro hb2 hb3)
      rw [hp] at HH HQ'
      clear hb1 hb2 hb3 hp hPx hxy
      go_wp2
      go_quiet (fail)
      go_wp2
      go_roundw
      case rel => exact ⟨k + 1, _, p + y, P * x, by omega, by go_num, rfl, rfl, HH.out.1, HH.out.2, HP', HQ'⟩
      case measure => simp [intOf]; omega
    · have HF : Hid (q = numR xs cs) := by
        unfold Hid; rw [HQ.out, List.take_of_length_le (by rw [HL.out]; omega), List.take_of_length_le (by rw [HL2.out]; omega), hor_eq hi.len]; simp
      go_wp2
      go_ret
      exact ⟨by rw [← HF.out]; rfl, _, rfl⟩

/-- the document's At, whole -/
def atF (xs cs : List Int) : Int × Int := if (cellsF xs).2 = 0 then if insideF xs cs = true then (numR xs cs, 0) else (0, 3) else (0, (cellsF xs).2)

set_option maxRecDepth 100000 in
theorem refAt_any (A A2 : Option Addr) (n n2 c c2 : Nat) (xs cs : List Int) (w : World) (B : Nat) (h : Ints w B A n xs) (h2 : Ints w B A2 n2 cs) (hn : n ≤ 9223372036854775807) (hn2 : n2 ≤ 9223372036854775807) :
    Calls Try.prog 54 #[.slice A n c, .slice A2 n2 c2] w fun e w' => e = .returned (.tuple #[.int .i64 (atF xs cs).1, .int .i64 (atF xs cs).2]) ∧ ∃ m, w' = w.drewN m := by
  have HC := fun W (hW : Ints W B A n xs) => refCells_any A n c xs W B hW hn
  by_cases hcf : (cellsF xs).2 = 0
  · have h5 : n ≤ 100000 := by have := (cellsF_ok hcf).1; have := h.1; omega
    have HI := fun W (hW : Ints W B A n xs) (hW2 : Ints W B A2 n2 cs) => refIn_any A A2 n n2 c c2 xs cs W B hW hW2 h5 hn2
    obtain ⟨N, hN⟩ : ∃ N, (cellsF xs).1 = N := ⟨_, rfl⟩
    rw [hcf, hN] at HC
    by_cases hin : insideF xs cs = true
    · have hI := inn_of_insideF hin
      have HN := fun W (hW : Ints W B A n xs) (hW2 : Ints W B A2 n2 cs) => number_any A A2 n n2 c c2 xs cs W B hW hW2 h5 hI (cellsF_ok_pos hcf hI.pos).2
      have HF : Hid (atF xs cs = (numR xs cs, 0)) := by unfold Hid atF; rw [if_pos hcf, if_pos hin]
      rw [hin] at HI
      clear hcf hN hin hI
      go_enter Try.func54, Try.ntmps54
      go_wp2_with (first | (go_at_call 53; refine (HC _ h).mono ?_; rintro e w' ⟨rfl, rfl⟩) | (go_at_call 80; refine (HI _ h h2).mono ?_; rintro e w' ⟨rfl, m, rfl⟩) | (go_at_call 81; refine (HN _ (h.drewN _) (h2.drewN _)).mono ?_; rintro e w' ⟨rfl, m2, rfl⟩))
      go_ret2
      exact ⟨by rw [HF.out]; rfl, _, rfl⟩
    · have hin' : insideF xs cs = false := by simpa using hin
      have HF : Hid (atF xs cs = (0, 3)) := by unfold Hid atF; rw [if_pos hcf, if_neg hin]
      rw [hin'] at HI
      clear hcf hN hin hin'
      go_enter Try.func54, Try.ntmps54
      go_wp2_with (first | (go_at_call 53; refine (HC _ h).mono ?_; rintro e w' ⟨rfl, rfl⟩) | (go_at_call 80; refine (HI _ h h2).mono ?_; rintro e w' ⟨rfl, m, rfl⟩))
      go_ret2
      exact ⟨by rw [HF.out]; rfl, _, rfl⟩
  · have HF : Hid (atF xs cs = (0, (cellsF xs).2)) := by unfold Hid atF; rw [if_neg hcf]
    obtain ⟨N, hN⟩ : ∃ N, (cellsF xs).1 = N := ⟨_, rfl⟩
    obtain ⟨E, hE⟩ : ∃ E, (cellsF xs).2 = E := ⟨_, rfl⟩
    rw [hN, hE] at HC
    rw [hE] at hcf HF
    have he1 : (E == 0) = false := by simpa using hcf
    have he2 : (E != 0) = true := by simpa using hcf
    clear hN hE hcf
    go_enter Try.func54, Try.ntmps54
    go_wp2_with (go_at_call 53; refine (HC _ h).mono ?_; rintro e w' ⟨rfl, rfl⟩)
    go_ret2
    exact ⟨by rw [HF.out]; rfl, 0, rfl⟩
end Go.Proofs.Ytapbcmhkipaecaa
/- More plain arithmetic: the place of a number; slices of a call's own. -/
namespace Go.Proofs.Ytapbcmhkipaecaa
open Go.RowKit

theorem placeR_length (xs : List Int) (n : Int) : (placeR xs n).length = xs.length := by
  induction xs with
  | nil => rfl
  | cons s l ih => simp [placeR, ih]
theorem placeR_at {xs : List Int} {n : Int} {k : Nat} {x : Int} (hx : xs[k]? = some x) : (placeR xs n)[k]? = some (n / prodI (xs.drop (k + 1)) % x) := by
  induction xs generalizing k with
  | nil => simp at hx
  | cons s l ih => cases k with
    | zero => simp at hx; subst hx; simp [placeR]
    | succ k => simpa [placeR] using ih (by simpa using hx)
theorem placeR_fits {xs : List Int} (hp : ∀ x ∈ xs, 1 ≤ x) (hM : ∀ x ∈ xs, x ≤ 9223372036854775807) (v : Int) : ∀ x ∈ placeR xs v, -9223372036854775808 ≤ x ∧ x ≤ 9223372036854775807 := by
  induction xs with
  | nil => simp [placeR]
  | cons s l ih =>
    have hs := hp s (by simp)
    have hs2 := hM s (by simp)
    have h1 := Int.emod_nonneg (v / prodI l) (b := s) (by omega)
    have h2 := Int.emod_lt_of_pos (v / prodI l) (b := s) (by omega)
    intro x hx
    simp only [placeR, List.mem_cons] at hx
    rcases hx with rfl | hx
    · omega
    · exact ih (fun x hx => hp x (by simp [hx])) (fun x hx => hM x (by simp [hx])) x hx
theorem cellsF_nz {xs : List Int} (h : (cellsF xs).2 = 0) (hn : (cellsF xs).1 ≠ 0) : ∀ x ∈ xs, 1 ≤ x := by
  have h0 := (cellsF_ok h).2
  intro x hx
  have := h0 x hx
  by_cases hz : x = 0
  · exfalso
    subst hz
    have hz : (xs.any fun s => s == 0) = true := by rw [List.any_eq_true]; exact ⟨0, hx, rfl⟩
    apply hn
    unfold cellsF at h ⊢
    split at h
    · simp at h
    · rename_i hh; rw [if_neg hh, if_pos hz]
  · omega
theorem back_set {p : List Int} {r k : Nat} {v : Int} (hk : k < r) (hv : p[r - 1 - k]? = some v) :
    (List.replicate (r - k) 0 ++ p.drop (r - k)).set (r - 1 - k) v = List.replicate (r - (k + 1)) 0 ++ p.drop (r - (k + 1)) := by
  have e : r - (k + 1) = r - 1 - k := by omega
  rw [e, drop_of hv]
  have e2 : r - 1 - k + 1 = r - k := by omega
  rw [e2]
  have e3 : List.replicate (r - k) (0 : Int) = List.replicate (r - 1 - k) 0 ++ [0] := by rw [← e2, List.replicate_succ']
  rw [e3, List.append_assoc, List.set_append_right _ _ (by simp)]
  simp
/-- the place is a place, and its number is n -/
theorem placeR_inn {xs : List Int} (hp : ∀ x ∈ xs, 1 ≤ x) (n : Int) : Inn xs (placeR xs n) := by
  induction xs with
  | nil => trivial
  | cons s l ih =>
    have hs := hp s (by simp)
    exact ⟨Int.emod_nonneg _ (by omega), Int.emod_lt_of_pos _ (by omega), ih (fun x hx => hp x (by simp [hx]))⟩
theorem numR_placeR {xs : List Int} (hp : ∀ x ∈ xs, 1 ≤ x) (n : Int) : numR xs (placeR xs n) = n % prodI xs := by
  induction xs with
  | nil => simp [numR, prodI, Int.emod_one]
  | cons s l ih =>
    have hl : ∀ x ∈ l, 1 ≤ x := fun x hx => hp x (by simp [hx])
    have h1 := prodI_pos hl
    simp only [placeR, numR, prodI]
    rw [ih hl]
    have e : n / prodI l % s * prodI l = prodI l * (n / prodI l % s) := Int.mul_comm _ _
    have h2 := Int.emod_add_mul_ediv n (prodI l)
    have h3 := Int.emod_add_mul_ediv (n / prodI l) s
    have h4 := Int.emod_add_mul_ediv n (s * prodI l)
    have h5 : n / (s * prodI l) = n / prodI l / s := by rw [Int.mul_comm, Int.ediv_ediv_of_nonneg (by omega)]
    rw [h5] at h4
    have h6 : prodI l * (n / prodI l) = prodI l * (n / prodI l % s) + prodI l * (s * (n / prodI l / s)) := by rw [← Int.mul_add, h3]
    have h7 : prodI l * (s * (n / prodI l / s)) = s * prodI l * (n / prodI l / s) := by rw [← Int.mul_assoc, Int.mul_comm (prodI l) s]
    omega

/-- a slice of the call's own, of 64-bit integers of type e -/
def OwnI (w : World) (base : Nat) (e : TypeId) (A : Option Addr) (c : Nat) (xs : List Int) : Prop :=
  w.ownsRow base e 1 (.slice A xs.length c) xs.length (xs.map (Value.int .i64)) ∧ ∀ x ∈ xs, -9223372036854775808 ≤ x ∧ x ≤ 9223372036854775807
theorem OwnI.ints {w : World} {base : Nat} {e : TypeId} {A : Option Addr} {c : Nat} {xs : List Int} (h : OwnI w base e A c xs) : Ints w w.heap.size A xs.length xs := Ints.of_own h.1 h.2
theorem OwnI.nil_ (w : World) (base : Nat) (e : TypeId) : OwnI w base e none 0 [] := ⟨w.ownsRow_nil base e 1, by simp⟩
theorem OwnI.below {w w' : World} {base B : Nat} {e : TypeId} {A : Option Addr} {c : Nat} {xs : List Int} (h : OwnI w base e A c xs) (hb : Below B w w') (hB : w.heap.size ≤ B) : OwnI w' base e A c xs :=
  ⟨h.1.kept ⟨hb.os, hb.tape, hb.output, hb.size, fun i hi _ => hb.block i (by omega)⟩ (row := none) (by cases hh : (Value.slice A xs.length c).ownBlock with | none => exact .inl rfl | some k => exact .inr (by simp)), h.2⟩
theorem OwnI.mono {w : World} {base base' : Nat} {e : TypeId} {A : Option Addr} {c : Nat} {xs : List Int} (h : OwnI w base e A c xs) (hb : base' ≤ base) : OwnI w base' e A c xs := by
  refine ⟨⟨h.1.1, ?_⟩, h.2⟩
  rcases h.1.2 with hh | ⟨g, cap, cur, h1, h2, h3⟩
  · exact .inl hh
  · exact .inr ⟨g, cap, cur, h1, by omega, h3⟩
/-- the document's Coord, whole -/
def coordF (xs : List Int) (n : Int) : List Int × Int := if (cellsF xs).2 = 0 then if 0 ≤ n ∧ n < (cellsF xs).1 then (placeR xs n, 0) else ([], 3) else ([], (cellsF xs).2)
end Go.Proofs.Ytapbcmhkipaecaa
/- The contracts of the document's place and Coord. -/
namespace Go.Proofs.Ytapbcmhkipaecaa
open Go.RowKit

set_option maxRecDepth 100000 in
theorem infoInt : (Try.prog.info? 3).map (fun i => (i.zero, i.size, i.bytes)) = some (some (.int .i64 0), 1, 8) := by kernel_rfl
set_option maxRecDepth 100000 in
theorem infoInt64 : (Try.prog.info? 2).map (fun i => (i.zero, i.size, i.bytes)) = some (some (.int .i64 0), 1, 8) := by kernel_rfl

set_option maxRecDepth 100000 in
theorem place_any (A : Option Addr) (n c : Nat) (xs : List Int) (v : Int) (w : World) (h : Ints w w.heap.size A n xs) (hn : n ≤ 100000) (hp : ∀ x ∈ xs, 1 ≤ x) (hv : 0 ≤ v) (hv2 : v ≤ 9223372036854775807) :
    Calls Try.prog 83 #[.slice A n c, .int .i64 v] w fun e w' => ∃ A' c', e = .returned (.slice A' n c') ∧ OwnI w' w.heap.size 3 A' c' (placeR xs v) ∧ Below w.heap.size w w' := by
  have HL : Hid (xs.length = n) := h.1
  have hpb : ∀ x ∈ placeR xs v, -9223372036854775808 ≤ x ∧ x ≤ 9223372036854775807 := by
    intro x hx
    obtain ⟨k, hk, rfl⟩ := List.getElem_of_mem hx
    have hk' : k < xs.length := by rw [← placeR_length xs v]; exact hk
    have h1 := placeR_at (n := v) (List.getElem?_eq_getElem hk')
    rw [List.getElem?_eq_getElem hk] at h1
    injection h1 with h1
    rw [h1]
    have h2 := hp _ (List.getElem_mem hk')
    have h3 := h.2.1 _ (List.getElem_mem hk')
    have h4 := Int.emod_nonneg (v / prodI (xs.drop (k + 1))) (b := xs[k]) (by omega)
    have h5 := Int.emod_lt_of_pos (v / prodI (xs.drop (k + 1))) (b := xs[k]) (by omega)
    omega
  obtain ⟨i0, hi0, hz0, hz1, hz2⟩ := info_parts infoInt
  go_enter Try.func83, Try.ntmps83
  go_wp2_with (at_make; refine wpList_make_full _ rfl (.tmp 8) (.tmp 8) 22 rfl w.heap.size 3 i0 _ 1 Try.underlying22 hi0 hz0 hz1 _ _ _ _ n rfl rfl rfl rfl (by rw [hz2]; omega) (by unfold maxLen; omega) (Nat.le_refl _) ?_; intro w1 hown hg)
  have hB : Below w.heap.size w w1 := (Below.refl _ _).grown hg (Nat.le_refl _) (fun k e => by cases e)
  have HO : Hid (w1.ownsRow w.heap.size 3 1 (.slice (some ⟨w.heap.size, 0, none⟩) n n) n ((List.replicate (n - 0) 0 ++ (placeR xs v).drop (n - 0)).map (Value.int .i64))) := by
    unfold Hid
    rw [List.drop_of_length_le (by rw [placeR_length, HL.out]; omega), List.append_nil, List.map_replicate, Nat.sub_zero]
    simpa [Value.cells, toList_madeCells_one] using hown
  clear hown hg
  go_loopw [1, 6] (fun m i wr => ∃ (k : Nat) (j q : Int), k ≤ n ∧ j = (n : Int) - 1 - k ∧ i = .int .i64 j ∧ m = .int .i64 q ∧ 0 ≤ q ∧ q ≤ 9223372036854775807 ∧ Hid (q = v / prodI (xs.drop (n - k))) ∧
      Hid (wr.ownsRow w.heap.size 3 1 (.slice (some ⟨w.heap.size, 0, none⟩) n n) n ((List.replicate (n - k) 0 ++ (placeR xs v).drop (n - k)).map (Value.int .i64))) ∧ Below w.heap.size w wr)
    (fun _ i _ => (intOf i + 1).toNat)
  case atStart => exact ⟨0, (n : Int) - 1, v, Nat.zero_le _, by omega, rfl, rfl, hv, hv2, by unfold Hid; rw [List.drop_of_length_le (by rw [HL.out]; omega)]; simp [prodI], HO, hB⟩
  case round =>
    obtain ⟨k, j, q, hk, hj, rfl, rfl, hq0, hq1, HQ, HO, hB⟩ := hrel
    by_cases hlt : k < n
    · have h' := h.below hB
      obtain ⟨b, off, x, rfl, hbb, HX, hc, hx1, hx2⟩ := h'.at_ (k := n - 1 - k) (by omega)
      have hx0 : 1 ≤ x := hp x (List.mem_of_getElem? HX.out)
      have hj0 : 0 ≤ j := by omega
      have hj1 : j < n := by omega
      have HE : Hid (j.toNat = n - 1 - k) := by unfold Hid; omega
      have hcj : wr.cell? ⟨b, off + j.toNat, none⟩ = some (.int .i64 x) := by rw [HE.out]; exact hc
      have hlen : j.toNat < n := by omega
      obtain ⟨u, hu⟩ : ∃ u, ((List.replicate (n - k) 0 ++ (placeR xs v).drop (n - k)).map (Value.int .i64))[j.toNat]? = some u := by
        refine ⟨_, List.getElem?_eq_getElem ?_⟩
        have := HO.out.1; omega
      have hcell : wr.cell? ⟨w.heap.size, j.toNat, none⟩ = some u := (HO.out.cellAt j.toNat (by omega)).trans hu
      have hfr := HO.out.frozenAt j.toNat
      have hother : (wr.setCell ⟨w.heap.size, j.toNat, none⟩ (.int .i64 (q % x))).cell? ⟨b, off + j.toNat, none⟩ = some (.int .i64 x) :=
        (World.cell?_setCell_other wr _ ⟨b, off + j.toNat, none⟩ _ (fun e => by injection e with e _; omega)).trans hcj
      have hst := (HO.out.stored j.toNat (.int .i64 (q % x))).1
      have e1 : n - 1 - k + 1 = n - k := by omega
      have HS : Hid ((wr.setCell ⟨w.heap.size, j.toNat, none⟩ (.int .i64 (q % x))).ownsRow w.heap.size 3 1 (.slice (some ⟨w.heap.size, 0, none⟩) n n) n ((List.replicate (n - (k + 1)) 0 ++ (placeR xs v).drop (n - (k + 1))).map (Value.int .i64))) := by
        unfold Hid
        rw [← back_set (v := q % x) hlt (by rw [placeR_at HX.out, e1, HQ.out]), List.map_set, ← HE.out]
        exact hst
      have HQ' : Hid (q / x = v / prodI (xs.drop (n - (k + 1)))) := by
        unfold Hid
        have e : n - (k + 1) = n - 1 - k := by omega
        rw [e, prodI_drop HX.out, e1, HQ.out, Int.ediv_ediv_of_nonneg (by have := prodI_pos (xs := xs.drop (n - k)) (fun y hy => hp y (List.mem_of_mem_drop hy)); omega), Int.mul_comm]
      have hq2 : 0 ≤ q / x := Int.ediv_nonneg hq0 (by omega)
      have hq3 : q / x ≤ q := Int.ediv_le_self _ hq0
      have hB' := hB.setCell (p := ⟨w.heap.size, j.toNat, none⟩) (Nat.le_refl _) (.int .i64 (q % x))
      have HJ := Lib.hid hj
      clear hst hu e1 hj HO hc h h' HQ
      go_wp2
      go_roundw
      case rel => exact ⟨k + 1, j - 1, q / x, by omega, by have := HJ.out; omega, rfl, rfl, hq2, by omega, HQ', HS, hB'⟩
      case measure => simp [intOf]; omega
    · have hk' : k = n := by omega
      have hj1 : j < 0 := by omega
      have HF : Hid (OwnI wr w.heap.size 3 (some ⟨w.heap.size, 0, none⟩) n (placeR xs v)) := by
        have := HO.out
        rw [hk', Nat.sub_self, List.drop_zero] at this
        exact ⟨by rw [placeR_length, HL.out]; simpa using this, hpb⟩
      clear hk' HO hj
      go_wp2
      go_ret
      exact ⟨_, _, rfl, HF.out, hB⟩

set_option maxRecDepth 100000 in
theorem refCoord_any (A : Option Addr) (n c : Nat) (xs : List Int) (v : Int) (w : World) (h : Ints w w.heap.size A n xs) (hn : n ≤ 9223372036854775807) (hv1 : -9223372036854775808 ≤ v) (hv2 : v ≤ 9223372036854775807) :
    Calls Try.prog 64 #[.slice A n c, .int .i64 v] w fun e w' => ∃ A' c', e = .returned (.tuple #[.slice A' (coordF xs v).1.length c', .int .i64 (coordF xs v).2]) ∧ OwnI w' w.heap.size 3 A' c' (coordF xs v).1 ∧ Below w.heap.size w w' := by
  have HC := refCells_any A n c xs w w.heap.size h hn
  by_cases hcf : (cellsF xs).2 = 0
  · have h5 : n ≤ 100000 := by have := (cellsF_ok hcf).1; have := h.1; omega
    obtain ⟨N, hN⟩ : ∃ N, (cellsF xs).1 = N := ⟨_, rfl⟩
    by_cases hv : 0 ≤ v ∧ v < N
    · have HP := place_any A n c xs v w h h5 (cellsF_nz hcf (by rw [hN]; omega)) hv.1 hv2
      have HF : Hid (coordF xs v = (placeR xs v, 0)) := by unfold Hid coordF; rw [if_pos hcf, hN, if_pos hv]
      have HL : Hid ((placeR xs v).length = n) := by unfold Hid; rw [placeR_length]; exact h.1
      rw [hcf, hN] at HC
      have hv3 := hv.1
      have hv4 := hv.2
      clear hcf hN hv
      go_enter Try.func64, Try.ntmps64
      go_wp2_with (first | (go_at_call 53; refine HC.mono ?_; rintro e w' ⟨rfl, rfl⟩) | (go_at_call 83; refine HP.mono ?_; rintro e w' ⟨A', c', rfl, ho, hb⟩; have HO := Lib.hid ho; clear ho))
      go_ret2
      exact ⟨A', c', by rw [HF.out]; dsimp only; rw [HL.out]; rfl, by rw [HF.out]; exact HO.out, hb⟩
    · have HF : Hid (coordF xs v = ([], 3)) := by unfold Hid coordF; rw [if_pos hcf, hN, if_neg hv]
      rw [hcf, hN] at HC
      clear hcf hN
      by_cases hv0 : v < 0
      · clear hv
        go_enter Try.func64, Try.ntmps64
        go_wp2_with (go_at_call 53; refine HC.mono ?_; rintro e w' ⟨rfl, rfl⟩)
        go_ret2
        exact ⟨none, 0, by rw [HF.out]; rfl, by rw [HF.out]; exact OwnI.nil_ _ _ _, Below.refl _ _⟩
      · have hv3 : N ≤ v := by omega
        clear hv
        go_enter Try.func64, Try.ntmps64
        go_wp2_with (go_at_call 53; refine HC.mono ?_; rintro e w' ⟨rfl, rfl⟩)
        go_ret2
        exact ⟨none, 0, by rw [HF.out]; rfl, by rw [HF.out]; exact OwnI.nil_ _ _ _, Below.refl _ _⟩
  · have HF : Hid (coordF xs v = ([], (cellsF xs).2)) := by unfold Hid coordF; rw [if_neg hcf]
    obtain ⟨N, hN⟩ : ∃ N, (cellsF xs).1 = N := ⟨_, rfl⟩
    obtain ⟨E, hE⟩ : ∃ E, (cellsF xs).2 = E := ⟨_, rfl⟩
    rw [hN, hE] at HC
    rw [hE] at hcf HF
    have he1 : (E == 0) = false := by simpa using hcf
    have he2 : (E != 0) = true := by simpa using hcf
    clear hN hE hcf
    go_enter Try.func64, Try.ntmps64
    go_wp2_with (go_at_call 53; refine HC.mono ?_; rintro e w' ⟨rfl, rfl⟩)
    go_ret2
    exact ⟨none, 0, by rw [HF.out]; rfl, by rw [HF.out]; exact OwnI.nil_ _ _ _, Below.refl _ _⟩
end Go.Proofs.Ytapbcmhkipaecaa
