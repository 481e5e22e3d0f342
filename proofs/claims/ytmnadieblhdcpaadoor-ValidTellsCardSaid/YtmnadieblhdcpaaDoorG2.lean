/- The contracts of box.inside and of the document's in and Equal: whether a list is a place in a shape; whether two lists are one. -/
import Derived.Test.YtmnadieblhdcpaaDoorG1
import Derived.RangeFuncNested
import Derived.RangeFuncBound
import Derived.RangeFuncCalls
import Derived.RangeFuncLeaves
import Derived.Shelf.Abstract
import Derived.Shelf.RegionOpen
import Derived.WalkKit
import Derived.OwnWalkIn
import Derived.TacticsInMore
import Derived.LoopNIn
import Derived.LoopIn
import Derived.Deep.RegionWith
import Derived.WalkSpells
import Derived.StillTail
import Derived.StillTactics
import Derived.TacticsIn
import Derived.Lib.QuietBelow
namespace Go.Proofs.YtmnadieblhdcpaaDoor
open Go.RowKit

def badAt (p : Int × Int) : Bool := decide (p.1 < 0) || decide (p.2 ≤ p.1)
def insideF (xs cs : List Int) : Bool := decide (cs.length = xs.length) && !((cs.zip xs).any badAt)
theorem zip_at {cs xs : List Int} {k : Nat} {c s : Int} (h1 : cs[k]? = some c) (h2 : xs[k]? = some s) : (cs.zip xs)[k]? = some (c, s) := by
  rw [List.getElem?_zip_eq_some]; exact ⟨h1, h2⟩

set_option maxRecDepth 100000 in
/-- the document's Equal -/
theorem refEqual_any (A A2 : Option Addr) (n n2 c c2 : Nat) (xs ys : List Int) (w : World) (B : Nat) (h : Ints w B A n xs) (h2 : Ints w B A2 n2 ys) (hn : n ≤ 100000) (hn2 : n2 ≤ 9223372036854775807) :
    Calls Tryd.prog 22 #[.slice A n c, .slice A2 n2 c2] w fun e w' => e = .returned (.bool (decide (xs = ys))) ∧ ∃ m, w' = w.drewN m := by
  have HL : Hid (xs.length = n) := h.1
  have HL2 : Hid (ys.length = n2) := h2.1
  by_cases hne : n = n2
  · subst hne
    go_enter Tryd.func22, Tryd.ntmps22
    go_wp2
    go_loopw [13] (fun i wr => ∃ (k m : Nat), k ≤ n ∧ i = .int .i64 k ∧ wr = w.drewN m ∧ Hid (xs.take k = ys.take k)) (fun i _ => n - (intOf i).toNat)
    case atStart => exact ⟨0, 0, Nat.zero_le _, rfl, rfl, by unfold Hid; simp⟩
    case round =>
      obtain ⟨k, m, hk, rfl, rfl, HK⟩ := hrel
      by_cases hlt : k < n
      · obtain ⟨b, off, x, rfl, _, HX, hc, hx1, hx2⟩ := h.at_ hlt
        obtain ⟨b2, off2, y, rfl, _, HY, hc2, hy1, hy2⟩ := h2.at_ hlt
        have hk0 : (0 : Int) ≤ k := by omega
        have hk1 : (k : Int) < n := by omega
        by_cases hxy : x = y
        · have HN : Hid (xs.take (k + 1) = ys.take (k + 1)) := by unfold Hid; rw [take_succ_of HX.out, take_succ_of HY.out, HK.out, hxy]
          have e1 : (x == y) = true := by simpa using hxy
          have e2 : (x != y) = false := by simpa using hxy
          clear hxy
          go_wp2
          go_quiet (fail)
          go_wp2
          go_roundw
          case rel => exact ⟨k + 1, _, by omega, by go_num, rfl, HN⟩
          case measure => simp [intOf]; omega
        · have HF : Hid (decide (xs = ys) = false) := by
            unfold Hid; rw [decide_eq_false]; intro e; subst e
            have := HX.out; rw [HY.out] at this; exact hxy (by injection this with this; exact this.symm)
          have e1 : (x == y) = false := by simpa using hxy
          have e2 : (x != y) = true := by simpa using hxy
          go_wp2
          go_quiet (fail)
          go_wp2
          go_ret
          exact ⟨by rw [HF.out]; rfl, _, World.drewN_drewN _ _ _⟩
      · have HF : Hid (decide (xs = ys) = true) := by
          unfold Hid; rw [decide_eq_true]; have := HK.out
          rwa [List.take_of_length_le (by rw [HL.out]; omega), List.take_of_length_le (by rw [HL2.out]; omega)] at this
        go_wp2
        go_ret
        exact ⟨by rw [HF.out]; rfl, _, rfl⟩
  · have HF : Hid (decide (xs = ys) = false) := by unfold Hid; rw [decide_eq_false]; intro e; subst e; exact hne (by rw [← HL.out, ← HL2.out])
    have hne1 : ((n : Int) == (n2 : Int)) = false := by simp; omega
    have hne2 : ((n : Int) != (n2 : Int)) = true := by simp; omega
    go_enter Tryd.func22, Tryd.ntmps22
    go_wp2
    go_ret
    exact ⟨by rw [HF.out]; rfl, 0, rfl⟩
end Go.Proofs.YtmnadieblhdcpaaDoor
/- The contract of box.fromBehind: whoever ranges over it is handed each mode, from the last one on, with the product of the sizes behind it. -/
namespace Go.Proofs.YtmnadieblhdcpaaDoor
open Go.RowKit Go.Shelf
attribute [local go_sem] Oper.semAt_some

/-- the product of the last k sizes, as it goes around -/
def backs (xs : List Int) (k : Nat) : Int := (xs.drop (xs.length - k)).foldr (fun s acc => wrap64 (acc * s)) 1
theorem backs_zero (xs : List Int) : backs xs 0 = 1 := by simp [backs]
theorem backs_succ {xs : List Int} {k : Nat} {x : Int} (hk : k < xs.length) (h : xs[xs.length - 1 - k]? = some x) : backs xs (k + 1) = wrap64 (backs xs k * x) := by
  unfold backs
  have e : xs.length - (k + 1) = xs.length - 1 - k := by omega
  rw [e, drop_of h]
  have e2 : xs.length - 1 - k + 1 = xs.length - k := by omega
  rw [e2]
  rfl
/-- what has come when k rounds are over -/
def comes (xs : List Int) (k : Nat) : List (Int × Int) := (List.range k).map fun (j : Nat) => ((xs.length : Int) - 1 - j, backs xs j)
theorem comes_succ (xs : List Int) (k : Nat) : comes xs (k + 1) = comes xs k ++ [((xs.length : Int) - 1 - k, backs xs k)] := by simp [comes, List.range_succ]
theorem comes_length (xs : List Int) (k : Nat) : (comes xs k).length = k := by simp [comes]

/-- what a round keeps: all below n₀, and the block Bs -/
def KeepBox (Bs n₀ : Nat) (W W' : World) : Prop := Below n₀ W W' ∧ W'.heap[Bs]? = W.heap[Bs]?
theorem KeepBox.refl (Bs n₀ : Nat) (W : World) : KeepBox Bs n₀ W W := ⟨Below.refl _ _, rfl⟩
theorem KeepBox.trans {Bs n₀ : Nat} {A B C : World} (h : KeepBox Bs n₀ A B) (k : KeepBox Bs n₀ B C) : KeepBox Bs n₀ A C := ⟨h.1.trans k.1, k.2.trans h.2⟩
theorem KeepBox.box {Bs n₀ : Nat} {A B : World} (h : KeepBox Bs n₀ A B) : B.cell? ⟨Bs, 0, none⟩ = A.cell? ⟨Bs, 0, none⟩ := World.cell?_of_block (a := ⟨Bs, 0, none⟩) h.2
theorem KeepBox.of_setCell {Bs n₀ : Nat} {W : World} {p : Addr} (h1 : n₀ ≤ p.block) (h2 : Bs ≠ p.block) (u : Value) : KeepBox Bs n₀ W (W.setCell p u) := ⟨(Below.refl _ _).setCell h1 u, Below.heap_setCell W p u Bs h2⟩
theorem KeepBox.drew {Bs n₀ : Nat} {A B : World} (h : KeepBox Bs n₀ A B) : KeepBox Bs n₀ A B.drew := ⟨h.1.drew, h.2⟩

theorem keepBox_b {Bs n₀ : Nat} {w : World} (h1 : n₀ ≤ w.heap.size) (h2 : Bs < w.heap.size) : ∀ (W : World) (l : Nat) (o o' : Obj), w.heap.size ≤ l → W.heap[l]? = some o → o.isCells = false → o.isWalk = false → KeepBox Bs n₀ W (W.putObj l o') :=
  fun W l o o' hl ho hcs hwk => ⟨belowK_b h1 W l o o' hl ho hcs hwk, (belowK_b (n₀ := Bs + 1) (by omega) W l o o' hl ho hcs hwk).block Bs (by omega)⟩

theorem boxCell {W : World} {B : Nat} {v : Value} {t : TypeId} (h : W.heap[B]? = some (.cells #[v] t (0, 0))) : W.cell? ⟨B, 0, none⟩ = some v ∧ W.frozen? ⟨B, 0, none⟩ = false := by
  constructor <;> simp [World.cell?, World.frozen?, h]
theorem newCell (W : World) (v : Value) (t : TypeId) : (W.alloc (.cells #[v] t)).cell? ⟨W.heap.size, 0, none⟩ = some v ∧ (W.alloc (.cells #[v] t)).frozen? ⟨W.heap.size, 0, none⟩ = false :=
  boxCell (heap_alloc_new W _)
theorem cellPast {W : World} {a : Addr} {v : Value} (o : Obj) (h : W.cell? a = some v) : (W.alloc o).cell? a = some v := cell_kept h (World.grownBy_alloc W o none) (fun r e => by cases e)
theorem frozenPast {W : World} {a : Addr} {v : Value} (o : Obj) (h : W.cell? a = some v) (hf : W.frozen? a = false) : (W.alloc o).frozen? a = false := (frozen_kept h (World.grownBy_alloc W o none) (fun r e => by cases e)).trans hf
end Go.Proofs.YtmnadieblhdcpaaDoor
/- Plain arithmetic on lists: products, the number of a place, the place of a number. No program. -/
namespace Go.Proofs.YtmnadieblhdcpaaDoor
open Go.RowKit

theorem wrap_eq (n : Int) : IntKind.i64.wrap n = wrap64 n := by unfold wrap64; exact IntKind.wrap_i64 n
def prodI : List Int → Int
  | [] => 1
  | s :: l => s * prodI l
/-- the number of the place cs in the shape xs -/
def numR : List Int → List Int → Int
  | _ :: l, c :: d => c * prodI l + numR l d
  | _, _ => 0
/-- the same, as the document says it, from the first mode on -/
def hor : List Int → List Int → Int → Int
  | s :: l, c :: d, a => hor l d (a * s + c)
  | _, _, a => a
/-- the place of the number n -/
def placeR : List Int → Int → List Int
  | [], _ => []
  | s :: l, n => (n / prodI l % s) :: placeR l n
/-- cs is a place in xs -/
def Inn : List Int → List Int → Prop
  | [], [] => True
  | s :: l, c :: d => 0 ≤ c ∧ c < s ∧ Inn l d
  | _, _ => False

theorem prodI_append (a b : List Int) : prodI (a ++ b) = prodI a * prodI b := by
  induction a with
  | nil => simp [prodI]
  | cons x a ih => simp [prodI, ih, Int.mul_assoc]
theorem prodI_pos {xs : List Int} (h : ∀ x ∈ xs, 1 ≤ x) : 1 ≤ prodI xs := by
  induction xs with
  | nil => simp [prodI]
  | cons x a ih =>
    have h1 := h x (by simp)
    have h2 := ih (fun y hy => h y (by simp [hy]))
    have := Int.mul_le_mul h1 h2 (by omega) (by omega)
    simpa [prodI] using this
theorem hor_eq {xs cs : List Int} (h : xs.length = cs.length) (a : Int) : hor xs cs a = a * prodI xs + numR xs cs := by
  induction xs generalizing cs a with
  | nil => cases cs <;> simp [hor, numR, prodI]
  | cons s l ih =>
    cases cs with
    | nil => simp at h
    | cons c d =>
      simp only [hor, numR, prodI]
      rw [ih (by simpa using h), Int.add_mul]
      rw [Int.mul_assoc]; omega
theorem hor_snoc {l d : List Int} (h : l.length = d.length) (s c a : Int) : hor (l ++ [s]) (d ++ [c]) a = hor l d a * s + c := by
  induction l generalizing d a with
  | nil => cases d with
    | nil => simp [hor]
    | cons _ _ => simp at h
  | cons x l ih => cases d with
    | nil => simp at h
    | cons y d => simp only [List.cons_append, hor]; exact ih (by simpa using h) _
theorem Inn.len {xs cs : List Int} (h : Inn xs cs) : xs.length = cs.length := by
  induction xs generalizing cs with
  | nil => cases cs with
    | nil => rfl
    | cons _ _ => exact h.elim
  | cons s l ih => cases cs with
    | nil => exact h.elim
    | cons c d => simp [ih h.2.2]
theorem Inn.pos {xs cs : List Int} (h : Inn xs cs) : ∀ x ∈ xs, 1 ≤ x := by
  induction xs generalizing cs with
  | nil => simp
  | cons s l ih => cases cs with
    | nil => exact h.elim
    | cons c d =>
      intro x hx
      simp at hx
      rcases hx with rfl | hx
      · have := h.1; have := h.2.1; omega
      · exact ih h.2.2 x hx
theorem step_bound {q P x y : Int} (h1 : 0 ≤ q) (h2 : q < P) (h3 : 0 ≤ y) (h4 : y < x) : 0 ≤ q * x ∧ 0 ≤ q * x + y ∧ q * x + y < P * x := by
  have a : q * x ≤ (P - 1) * x := Int.mul_le_mul_of_nonneg_right (by omega) (by omega)
  rw [Int.sub_mul] at a
  have b : 0 ≤ q * x := Int.mul_nonneg h1 (by omega)
  omega
theorem Inn.bound {xs cs : List Int} (h : Inn xs cs) : 0 ≤ numR xs cs ∧ numR xs cs < prodI xs := by
  induction xs generalizing cs with
  | nil => cases cs with
    | nil => simp [numR, prodI]
    | cons _ _ => exact h.elim
  | cons s l ih => cases cs with
    | nil => exact h.elim
    | cons c d =>
      simp only [numR, prodI]
      have hb := ih h.2.2
      have := step_bound (q := c) (P := s) (x := prodI l) (y := numR l d) h.1 h.2.1 hb.1 hb.2
      omega
theorem Inn.drop_ {xs cs : List Int} (h : Inn xs cs) (k : Nat) : Inn (xs.drop k) (cs.drop k) := by
  induction k generalizing xs cs with
  | zero => simpa using h
  | succ k ih =>
    cases xs with
    | nil => cases cs with
      | nil => simpa using h
      | cons _ _ => exact h.elim
    | cons s l => cases cs with
      | nil => exact h.elim
      | cons c d => simpa using ih h.2.2
theorem Inn.at_ {xs cs : List Int} (h : Inn xs cs) {k : Nat} {x y : Int} (hx : xs[k]? = some x) (hy : cs[k]? = some y) : 0 ≤ y ∧ y < x := by
  induction xs generalizing cs k with
  | nil => simp at hx
  | cons s l ih => cases cs with
    | nil => exact h.elim
    | cons c d =>
      cases k with
      | zero => simp at hx hy; subst hx; subst hy; exact ⟨h.1, h.2.1⟩
      | succ k => exact ih h.2.2 (by simpa using hx) (by simpa using hy)
theorem numR_drop {xs cs : List Int} {k : Nat} {x y : Int} (hx : xs[k]? = some x) (hy : cs[k]? = some y) :
    numR (xs.drop k) (cs.drop k) = y * prodI (xs.drop (k + 1)) + numR (xs.drop (k + 1)) (cs.drop (k + 1)) := by
  rw [drop_of hx, drop_of hy]; rfl
theorem prodI_drop {xs : List Int} {k : Nat} {x : Int} (hx : xs[k]? = some x) : prodI (xs.drop k) = x * prodI (xs.drop (k + 1)) := by
  rw [drop_of hx]; rfl
theorem prodI_split (xs : List Int) (k : Nat) : prodI xs = prodI (xs.take k) * prodI (xs.drop k) := by
  rw [← prodI_append, List.take_append_drop]
theorem prodI_drop_le {xs : List Int} (h : ∀ x ∈ xs, 1 ≤ x) (k : Nat) : prodI (xs.drop k) ≤ prodI xs := by
  rw [prodI_split xs k]
  have h1 := prodI_pos (xs := xs.take k) (fun x hx => h x (List.mem_of_mem_take hx))
  have h2 := prodI_pos (xs := xs.drop k) (fun x hx => h x (List.mem_of_mem_drop hx))
  have := Int.mul_le_mul_of_nonneg_right h1 (by omega : 0 ≤ prodI (xs.drop k))
  omega
theorem prodI_take_le {xs : List Int} (h : ∀ x ∈ xs, 1 ≤ x) (k : Nat) : prodI (xs.take k) ≤ prodI xs := by
  rw [prodI_split xs k]
  have h1 := prodI_pos (xs := xs.take k) (fun x hx => h x (List.mem_of_mem_take hx))
  have h2 := prodI_pos (xs := xs.drop k) (fun x hx => h x (List.mem_of_mem_drop hx))
  have := Int.mul_le_mul_of_nonneg_left h2 (by omega : 0 ≤ prodI (xs.take k))
  omega
theorem cellsGo_prod {xs : List Int} (h : ∀ x ∈ xs, 1 ≤ x) {q : Int} (hq : 1 ≤ q) (hq2 : q ≤ 4611686018427387903) : (prodI xs * q ≤ 4611686018427387903 → cellsGo xs q = (q * prodI xs, 0)) ∧ (4611686018427387903 < prodI xs * q → cellsGo xs q = (0, 2)) := by
  induction xs generalizing q with
  | nil => constructor <;> simp [prodI, cellsGo] <;> omega
  | cons s l ih =>
    have hs := h s (by simp)
    have hl : ∀ x ∈ l, 1 ≤ x := fun x hx => h x (by simp [hx])
    have hp := prodI_pos hl
    have hc : s * prodI l * q = prodI l * (q * s) := by rw [Int.mul_comm s, Int.mul_assoc, Int.mul_comm s q]
    simp only [cellsGo, prodI]
    by_cases hb : 4611686018427387903 / q < s
    · rw [if_pos hb]
      have : 4611686018427387903 < q * s := by
        have := (Int.ediv_lt_iff_lt_mul (by omega : 0 < q)).1 hb; rwa [Int.mul_comm] at this
      have h3 : q * s * 1 ≤ q * s * prodI l := Int.mul_le_mul_of_nonneg_left hp (by omega)
      have h4 : s * prodI l * q = q * s * prodI l := by rw [hc, Int.mul_comm]
      refine ⟨fun hh => ?_, fun _ => rfl⟩
      exfalso; rw [h4] at hh; omega
    · rw [if_neg hb]
      have hm := mul_bound hq hs hb
      have := ih hl hm.1 hm.2
      rw [hc]
      refine ⟨fun hh => ?_, this.2⟩
      rw [this.1 hh, Int.mul_assoc]
theorem cellsF_pos {xs : List Int} (h : ∀ x ∈ xs, 1 ≤ x) (h4 : xs.length ≤ 4) : cellsF xs = if prodI xs ≤ 4611686018427387903 then (prodI xs, 0) else (0, 2) := by
  have h1 : (xs.any fun s => decide (s < 0)) = false := by
    rw [List.any_eq_false]; intro x hx; have := h x hx; simp; omega
  have h2 : (xs.any fun s => s == 0) = false := by
    rw [List.any_eq_false]; intro x hx; have := h x hx; simp; omega
  have := cellsGo_prod h (q := 1) (by omega) (by omega)
  unfold cellsF
  rw [if_neg (by rw [h1]; simp; omega), if_neg (by rw [h2]; simp)]
  rw [Int.mul_one, Int.one_mul] at this
  split
  · exact this.1 (by assumption)
  · exact this.2 (by omega)
/-- no error: at most four modes, none below 0 -/
theorem cellsF_ok {xs : List Int} (h : (cellsF xs).2 = 0) : xs.length ≤ 4 ∧ (∀ x ∈ xs, 0 ≤ x) := by
  unfold cellsF at h
  split at h
  · simp at h
  · rename_i hh
    rw [not_or] at hh
    refine ⟨by omega, fun x hx => ?_⟩
    have := hh.2
    simp at this
    exact this x hx
theorem cellsF_ok_pos {xs : List Int} (h : (cellsF xs).2 = 0) (hp : ∀ x ∈ xs, 1 ≤ x) : (cellsF xs).1 = prodI xs ∧ prodI xs ≤ 4611686018427387903 := by
  have h4 := (cellsF_ok h).1
  rw [cellsF_pos hp h4] at h ⊢
  split at h
  · rename_i hh; rw [if_pos hh]; exact ⟨rfl, hh⟩
  · simp at h

/-- what box.At has summed when the pairs pre have come -/
def atSum (cs : List Int) (pre : List (Int × Int)) : Int := pre.foldl (fun a x => wrap64 (a + wrap64 ((cs[x.1.toNat]?.getD 0) * x.2))) 0
theorem atSum_snoc (cs : List Int) (pre : List (Int × Int)) (x : Int × Int) : atSum cs (pre ++ [x]) = wrap64 (atSum cs pre + wrap64 ((cs[x.1.toNat]?.getD 0) * x.2)) := by simp [atSum]
theorem inn_of_insideF {xs cs : List Int} (h : insideF xs cs = true) : Inn xs cs := by
  induction xs generalizing cs with
  | nil => cases cs with
    | nil => trivial
    | cons _ _ => simp [insideF] at h
  | cons s l ih => cases cs with
    | nil => simp [insideF] at h
    | cons c d =>
      simp [insideF, badAt] at h
      refine ⟨by omega, by omega, ih ?_⟩
      simp [insideF, badAt]
      exact ⟨h.1, h.2.2⟩
theorem backs_eq {xs : List Int} (hp : ∀ x ∈ xs, 1 ≤ x) (hM : prodI xs ≤ 4611686018427387903) (k : Nat) (hk : k ≤ xs.length) : backs xs k = prodI (xs.drop (xs.length - k)) := by
  induction k with
  | zero => rw [backs_zero]; simp [prodI]
  | succ k ih =>
    have hx : xs[xs.length - 1 - k]? = some (xs[xs.length - 1 - k]'(by omega)) := List.getElem?_eq_getElem (by omega)
    rw [backs_succ (by omega) hx, ih (by omega)]
    have e1 : xs.length - (k + 1) = xs.length - 1 - k := by omega
    have e2 : xs.length - 1 - k + 1 = xs.length - k := by omega
    rw [e1, prodI_drop hx, e2, Int.mul_comm]
    have h1 := prodI_drop_le hp (xs.length - 1 - k)
    rw [prodI_drop hx, e2] at h1
    have h2 := prodI_pos (xs := xs.drop (xs.length - 1 - k)) (fun x hx => hp x (List.mem_of_mem_drop hx))
    rw [prodI_drop hx, e2] at h2
    exact IntWalk.wrap64_in _ ⟨by omega, by omega⟩
theorem backs_pos {xs : List Int} (hp : ∀ x ∈ xs, 1 ≤ x) (hM : prodI xs ≤ 4611686018427387903) (k : Nat) (hk : k ≤ xs.length) : 1 ≤ backs xs k ∧ backs xs k ≤ 4611686018427387903 := by
  rw [backs_eq hp hM k hk]
  have h1 := prodI_drop_le hp (xs.length - k)
  have h2 := prodI_pos (xs := xs.drop (xs.length - k)) (fun x hx => hp x (List.mem_of_mem_drop hx))
  omega
theorem atSum_comes {xs cs : List Int} (h : Inn xs cs) (hM : prodI xs ≤ 4611686018427387903) (k : Nat) (hk : k ≤ xs.length) : atSum cs (comes xs k) = numR (xs.drop (xs.length - k)) (cs.drop (xs.length - k)) := by
  induction k with
  | zero =>
    have e : cs.drop (xs.length - 0) = [] := List.drop_of_length_le (by have := h.len; omega)
    have e' : xs.drop (xs.length - 0) = [] := List.drop_of_length_le (by omega)
    rw [e, e']; simp [atSum, comes, numR]
  | succ k ih =>
    have hl := h.len
    have hx : xs[xs.length - 1 - k]? = some (xs[xs.length - 1 - k]'(by omega)) := List.getElem?_eq_getElem (by omega)
    have hy : cs[xs.length - 1 - k]? = some (cs[xs.length - 1 - k]'(by omega)) := List.getElem?_eq_getElem (by omega)
    have hb := (h.drop_ (xs.length - 1 - k)).bound
    have hb2 := (h.drop_ (xs.length - k)).bound
    have hi := h.at_ hx hy
    have h1 := prodI_drop_le h.pos (xs.length - 1 - k)
    have e1 : xs.length - (k + 1) = xs.length - 1 - k := by omega
    have e2 : xs.length - 1 - k + 1 = xs.length - k := by omega
    have e3 : ((xs.length : Int) - 1 - k).toNat = xs.length - 1 - k := by omega
    rw [comes_succ, atSum_snoc, ih (by omega), backs_eq h.pos hM k (by omega)]
    simp only [e3, hy, Option.getD_some]
    rw [e1]
    rw [numR_drop hx hy, e2] at hb ⊢
    have hz : 0 ≤ cs[xs.length - 1 - k]'(by omega) * prodI (xs.drop (xs.length - k)) := Int.mul_nonneg hi.1 (by omega)
    rw [IntWalk.wrap64_in (_ * _) ⟨by omega, by omega⟩, IntWalk.wrap64_in _ ⟨by omega, by omega⟩]
    omega
end Go.Proofs.YtmnadieblhdcpaaDoor
/- The contracts of the document's number, place, At and Coord. -/
namespace Go.Proofs.YtmnadieblhdcpaaDoor
open Go.RowKit

/-- the document's At, whole -/
def atF (xs cs : List Int) : Int × Int := if (cellsF xs).2 = 0 then if insideF xs cs = true then (numR xs cs, 0) else (0, 3) else (0, (cellsF xs).2)

end Go.Proofs.YtmnadieblhdcpaaDoor
/- More plain arithmetic: the place of a number; slices of a call's own. -/
namespace Go.Proofs.YtmnadieblhdcpaaDoor
open Go.RowKit

theorem placeR_length (xs : List Int) (n : Int) : (placeR xs n).length = xs.length := by
  induction xs with
  | nil => rfl
  | cons s l ih => simp [placeR, ih]
theorem placeR_at {xs : List Int} {n : Int} {k : Nat} {x : Int} (hx : xs[k]? = some x) : (placeR xs n)[k]? = some (n / prodI (xs.drop (k + 1)) % x) := by
  induction xs generalizing k with
  | nil => simp at hx
  | cons s l ih => cases k with
    | zero => simp at hx; subst hx; simp [placeR]
    | succ k => simpa [placeR] using ih (by simpa using hx)
theorem placeR_fits {xs : List Int} (hp : ∀ x ∈ xs, 1 ≤ x) (hM : ∀ x ∈ xs, x ≤ 9223372036854775807) (v : Int) : ∀ x ∈ placeR xs v, -9223372036854775808 ≤ x ∧ x ≤ 9223372036854775807 := by
  induction xs with
  | nil => simp [placeR]
  | cons s l ih =>
    have hs := hp s (by simp)
    have hs2 := hM s (by simp)
    have h1 := Int.emod_nonneg (v / prodI l) (b := s) (by omega)
    have h2 := Int.emod_lt_of_pos (v / prodI l) (b := s) (by omega)
    intro x hx
    simp only [placeR, List.mem_cons] at hx
    rcases hx with rfl | hx
    · omega
    · exact ih (fun x hx => hp x (by simp [hx])) (fun x hx => hM x (by simp [hx])) x hx
theorem cellsF_nz {xs : List Int} (h : (cellsF xs).2 = 0) (hn : (cellsF xs).1 ≠ 0) : ∀ x ∈ xs, 1 ≤ x := by
  have h0 := (cellsF_ok h).2
  intro x hx
  have := h0 x hx
  by_cases hz : x = 0
  · exfalso
    subst hz
    have hz : (xs.any fun s => s == 0) = true := by rw [List.any_eq_true]; exact ⟨0, hx, rfl⟩
    apply hn
    unfold cellsF at h ⊢
    split at h
    · simp at h
    · rename_i hh; rw [if_neg hh, if_pos hz]
  · omega
theorem back_set {p : List Int} {r k : Nat} {v : Int} (hk : k < r) (hv : p[r - 1 - k]? = some v) :
    (List.replicate (r - k) 0 ++ p.drop (r - k)).set (r - 1 - k) v = List.replicate (r - (k + 1)) 0 ++ p.drop (r - (k + 1)) := by
  have e : r - (k + 1) = r - 1 - k := by omega
  rw [e, drop_of hv]
  have e2 : r - 1 - k + 1 = r - k := by omega
  rw [e2]
  have e3 : List.replicate (r - k) (0 : Int) = List.replicate (r - 1 - k) 0 ++ [0] := by rw [← e2, List.replicate_succ']
  rw [e3, List.append_assoc, List.set_append_right _ _ (by simp)]
  simp
/-- the place is a place, and its number is n -/
theorem placeR_inn {xs : List Int} (hp : ∀ x ∈ xs, 1 ≤ x) (n : Int) : Inn xs (placeR xs n) := by
  induction xs with
  | nil => trivial
  | cons s l ih =>
    have hs := hp s (by simp)
    exact ⟨Int.emod_nonneg _ (by omega), Int.emod_lt_of_pos _ (by omega), ih (fun x hx => hp x (by simp [hx]))⟩
theorem numR_placeR {xs : List Int} (hp : ∀ x ∈ xs, 1 ≤ x) (n : Int) : numR xs (placeR xs n) = n % prodI xs := by
  induction xs with
  | nil => simp [numR, prodI, Int.emod_one]
  | cons s l ih =>
    have hl : ∀ x ∈ l, 1 ≤ x := fun x hx => hp x (by simp [hx])
    have h1 := prodI_pos hl
    simp only [placeR, numR, prodI]
    rw [ih hl]
    have e : n / prodI l % s * prodI l = prodI l * (n / prodI l % s) := Int.mul_comm _ _
    have h2 := Int.emod_add_mul_ediv n (prodI l)
    have h3 := Int.emod_add_mul_ediv (n / prodI l) s
    have h4 := Int.emod_add_mul_ediv n (s * prodI l)
    have h5 : n / (s * prodI l) = n / prodI l / s := by rw [Int.mul_comm, Int.ediv_ediv_of_nonneg (by omega)]
    rw [h5] at h4
    have h6 : prodI l * (n / prodI l) = prodI l * (n / prodI l % s) + prodI l * (s * (n / prodI l / s)) := by rw [← Int.mul_add, h3]
    have h7 : prodI l * (s * (n / prodI l / s)) = s * prodI l * (n / prodI l / s) := by rw [← Int.mul_assoc, Int.mul_comm (prodI l) s]
    omega

/-- a slice of the call's own, of 64-bit integers of type e -/
def OwnI (w : World) (base : Nat) (e : TypeId) (A : Option Addr) (c : Nat) (xs : List Int) : Prop :=
  w.ownsRow base e 1 (.slice A xs.length c) xs.length (xs.map (Value.int .i64)) ∧ ∀ x ∈ xs, -9223372036854775808 ≤ x ∧ x ≤ 9223372036854775807
theorem OwnI.ints {w : World} {base : Nat} {e : TypeId} {A : Option Addr} {c : Nat} {xs : List Int} (h : OwnI w base e A c xs) : Ints w w.heap.size A xs.length xs := Ints.of_own h.1 h.2
theorem OwnI.nil_ (w : World) (base : Nat) (e : TypeId) : OwnI w base e none 0 [] := ⟨w.ownsRow_nil base e 1, by simp⟩
theorem OwnI.below {w w' : World} {base B : Nat} {e : TypeId} {A : Option Addr} {c : Nat} {xs : List Int} (h : OwnI w base e A c xs) (hb : Below B w w') (hB : w.heap.size ≤ B) : OwnI w' base e A c xs :=
  ⟨h.1.kept ⟨hb.os, hb.tape, hb.output, hb.size, fun i hi _ => hb.block i (by omega)⟩ (row := none) (by cases hh : (Value.slice A xs.length c).ownBlock with | none => exact .inl rfl | some k => exact .inr (by simp)), h.2⟩
theorem OwnI.mono {w : World} {base base' : Nat} {e : TypeId} {A : Option Addr} {c : Nat} {xs : List Int} (h : OwnI w base e A c xs) (hb : base' ≤ base) : OwnI w base' e A c xs := by
  refine ⟨⟨h.1.1, ?_⟩, h.2⟩
  rcases h.1.2 with hh | ⟨g, cap, cur, h1, h2, h3⟩
  · exact .inl hh
  · exact .inr ⟨g, cap, cur, h1, by omega, h3⟩
/-- the document's Coord, whole -/
def coordF (xs : List Int) (n : Int) : List Int × Int := if (cellsF xs).2 = 0 then if 0 ≤ n ∧ n < (cellsF xs).1 then (placeR xs n, 0) else ([], 3) else ([], (cellsF xs).2)
end Go.Proofs.YtmnadieblhdcpaaDoor
/- The contracts of the document's place and Coord. -/
namespace Go.Proofs.YtmnadieblhdcpaaDoor
open Go.RowKit

set_option maxRecDepth 100000 in
theorem infoInt : (Tryd.prog.info? 3).map (fun i => (i.zero, i.size, i.bytes)) = some (some (.int .i64 0), 1, 8) := by kernel_rfl
set_option maxRecDepth 100000 in
theorem infoInt64 : (Tryd.prog.info? 2).map (fun i => (i.zero, i.size, i.bytes)) = some (some (.int .i64 0), 1, 8) := by kernel_rfl

end Go.Proofs.YtmnadieblhdcpaaDoor
/- The contracts of slices.Clone at []int and slices.Equal at []int and []int64, of box.laid and the document's Check's length part, of box.Zero. -/
namespace Go.Proofs.YtmnadieblhdcpaaDoor
open Go.RowKit

/-- how many cells, of what can be laid out -/
def laidF (xs : List Int) : Int × Int := if (cellsF xs).2 = 0 then if 65536 < (cellsF xs).1 then (0, 2) else ((cellsF xs).1, 0) else (0, (cellsF xs).2)
theorem laidF_nonneg {xs : List Int} : 0 ≤ (laidF xs).1 ∧ (laidF xs).1 ≤ 65536 := by
  unfold laidF
  split
  · rename_i h
    split
    · simp
    · have h0 := (cellsF_ok h).2
      by_cases hz : (cellsF xs).1 = 0
      · simp [hz]
      · have := cellsF_nz h hz
        have := (cellsF_ok_pos h this).1
        have := prodI_pos (cellsF_nz h hz)
        dsimp only; omega
  · simp
theorem laidF_ok {xs : List Int} (h : (laidF xs).2 = 0) : (cellsF xs).2 = 0 ∧ (laidF xs).1 = (cellsF xs).1 := by
  unfold laidF at h ⊢
  split at h
  · rename_i hc
    split at h
    · simp at h
    · rename_i hb; rw [if_pos hc, if_neg hb]; exact ⟨hc, rfl⟩
  · rename_i hc; exact absurd h hc

theorem emptyRow (w : World) (e : TypeId) : (w.alloc (.cells #[] e)).ownsRow w.heap.size e 1 (.slice (some ⟨w.heap.size, 0, none⟩) 0 0) 0 [] :=
  ⟨by simp, .inr ⟨w.heap.size, 0, #[], rfl, Nat.le_refl _, heap_alloc_new w _, Nat.le_refl _, by unfold maxLen; omega, by simp, by simp⟩⟩
theorem ints_one (xs : List Int) : ∀ u ∈ xs.map (Value.int .i64), u.oneCell' = true := by
  intro u hu
  rw [List.mem_map] at hu
  obtain ⟨x, _, rfl⟩ := hu
  rfl
theorem Ints.cells_ {w : World} {B n : Nat} {ad : Addr} {xs : List Int} (h : Ints w B (some ad) n xs) : ∀ j u, (xs.map (Value.int .i64))[j]? = some u → w.cell? (ad.add j) = some u := by
  intro j u hu
  rw [List.getElem?_map, Option.map_eq_some_iff] at hu
  obtain ⟨x, hx, rfl⟩ := hu
  have hj : j < n := by have := (List.getElem?_eq_some_iff.1 hx).1; have := h.1; omega
  obtain ⟨b, off, e, hb, hc⟩ := h.2.2 (by omega)
  injection e with e
  subst e
  have := hc j x hx
  by_cases h0 : j = 0
  · subst h0; simpa [Addr.add] using this
  · simpa [Addr.add, h0] using this
theorem Ints.cells_alloc {w : World} {B n : Nat} {ad : Addr} {xs : List Int} (h : Ints w B (some ad) n xs) (hB : B ≤ w.heap.size) (o : Obj) : ∀ j u, (xs.map (Value.int .i64))[j]? = some u → (w.alloc o).cell? (ad.add j) = some u := (h.alloc hB o).cells_
theorem row_form {w : World} {base n : Nat} {e : TypeId} {v : Value} {ys : List Value} (h : w.ownsRow base e 1 v n ys) : ∃ A c, v = .slice A n c := by
  rcases h.2 with ⟨rfl, rfl⟩ | ⟨g, cap, cur, rfl, _⟩
  · exact ⟨_, _, rfl⟩
  · exact ⟨_, _, rfl⟩

/-- box.Zero -/
def zeroF (xs : List Int) : (List Int × List Int) × Int := if (laidF xs).2 = 0 then ((xs, List.replicate (laidF xs).1.toNat 0), 0) else (([], []), (laidF xs).2)

theorem run_makeAll {P : Program} (t e : TypeId) (i : TypeInfo) (ht : P.underlying t = some (.slice e)) (hi : P.info? e = some i) (hz : i.zero = some (.int .i64 0)) (h1 : i.size = 1) (h2 : i.bytes = 8) (n : Nat) (hn : n ≤ 100000) (w : World) :
    (Instr.makeSlice t (.int .i64 (n : Int)) (.int .i64 (n : Int))).run P w = .ok (.slice (some ⟨w.heap.size, 0, none⟩) n n) (w.alloc (.cells (madeCells #[.int .i64 0] n) e)) := by
  have hr := run_make (P := P) w t e i (.int .i64 0) ht hi hz .i64 .i64 n n (by omega) (by omega) (by rw [h2]; omega) (by omega)
  simp only [Int.toNat_natCast, h1, Nat.mul_one] at hr
  exact hr
theorem own_made (w : World) (e : TypeId) (n base : Nat) (hb : base ≤ w.heap.size) (hn : n ≤ 100000) : OwnI (w.alloc (.cells (madeCells #[.int .i64 0] n) e)) base e (some ⟨w.heap.size, 0, none⟩) n (List.replicate n 0) := by
  refine ⟨⟨by simp, .inr ⟨w.heap.size, n, madeCells #[.int .i64 0] n, by simp, hb, heap_alloc_new w _, by simp, by unfold maxLen; omega, ?_, ?_⟩⟩, by simp⟩
  · have := congrArg List.length (toList_madeCells_one (.int .i64 0) n); simpa using this
  · rw [toList_madeCells_one]; simp

theorem zfacts {w W w1 : World} {u v : Value} {t : TypeId} (hb : Below W.heap.size W w1) (hW : Below (w.heap.size + 1) (w.alloc (.cells #[u, v] t)) W := by first | exact Below.refl _ _ | exact (Below.refl _ _).drew | exact ((Below.refl _ _).alloc (by simp) _).drew) :
    w.heap.size < w1.heap.size ∧ w1.cell? ⟨w.heap.size, 0, none⟩ = some u ∧ w1.cell? ⟨w.heap.size, 1, none⟩ = some v ∧ w1.frozen? ⟨w.heap.size, 0, none⟩ = false ∧ w1.frozen? ⟨w.heap.size, 1, none⟩ = false := by
  have h2 := hW.trans (hb.mono (by have := hW.size; simpa using this))
  have hh : (w.alloc (.cells #[u, v] t)).heap[w.heap.size]? = some (.cells #[u, v] t (0, 0)) := heap_alloc_new w _
  have h1 : w1.heap[w.heap.size]? = some (.cells #[u, v] t (0, 0)) := (h2.block w.heap.size (by omega)).trans hh
  refine ⟨by have := h2.size; simp at this; omega, ?_, ?_, ?_, ?_⟩
  · simpa using cell_of_row _ _ 0 _ t (0, 0) h1
  · simpa using cell_of_row _ _ 1 _ t (0, 0) h1
  · simp [World.frozen?, h1]
  · simp [World.frozen?, h1]

theorem zcells {w1 : World} {g : Nat} {u v a b : Value} (k0 : w1.cell? ⟨g, 0, none⟩ = some u) (k1 : w1.cell? ⟨g, 1, none⟩ = some v) :
    ((w1.setCell ⟨g, 0, none⟩ a).setCell ⟨g, 1, none⟩ b).cell? ⟨g, 0, none⟩ = some a ∧ ((w1.setCell ⟨g, 0, none⟩ a).setCell ⟨g, 1, none⟩ b).cell? ⟨g, 1, none⟩ = some b := by
  have h0 : (w1.setCell ⟨g, 0, none⟩ a).cell? ⟨g, 0, none⟩ = some a := World.cell?_setCell_same' _ _ _ (by rw [k0]; rfl)
  have h1 : (w1.setCell ⟨g, 0, none⟩ a).cell? ⟨g, 1, none⟩ = some v := (World.cell?_setCell_other w1 _ ⟨g, 1, none⟩ _ (by simp)).trans k1
  exact ⟨(World.cell?_setCell_other _ _ ⟨g, 0, none⟩ _ (by simp)).trans h0, World.cell?_setCell_same' _ _ _ (by rw [h1]; rfl)⟩
theorem OwnI.setBelow {w : World} {base : Nat} {e : TypeId} {A : Option Addr} {c : Nat} {xs : List Int} (h : OwnI w base e A c xs) {a : Addr} (ha : a.block < base) (u : Value) : OwnI (w.setCell a u) base e A c xs := ⟨ownsRow_setCell_below h.1 ha u, h.2⟩
theorem OwnI.drew {w : World} {base : Nat} {e : TypeId} {A : Option Addr} {c : Nat} {xs : List Int} (h : OwnI w base e A c xs) : OwnI w.drew base e A c xs := h
theorem OwnI.alloc {w : World} {base : Nat} {e : TypeId} {A : Option Addr} {c : Nat} {xs : List Int} (h : OwnI w base e A c xs) (o : Obj) : OwnI (w.alloc o) base e A c xs := ⟨h.1.alloc o, h.2⟩

end Go.Proofs.YtmnadieblhdcpaaDoor
/- A region of code that draws its order of evaluation, whose operations up to the last ones only read, inside a round of a range over a function: one walk in the text's order serves every order. Nothing is claimed of the program here. -/
namespace Go.Proofs.YtmnadieblhdcpaaDoor

theorem rowsIn_of_rows {n : Nat} {P : Program} {row : String} {args : Array Value} {w : World} {R : Value → World → Prop} (h : Rows P row args w R) : RowsIn Fence.wide n P row args w R :=
  fun c cs _ => let ⟨v, w', r, s⟩ := h c cs; ⟨v, w', r, stepsIn_wide.2 s⟩

set_option maxRecDepth 100000 in
theorem Oper.wpIn_of_wp_round {l n : Nat} {P : Program} {o : Oper} {a : Act} {w : World} {K K' : Act → World → Prop} {Q : Exit → Act → World → Prop} (hd : ∀ c, o.op ≠ .defer c) (hK : ∀ a w, K a w → K' a w) (h : o.wp P a w K Q) :
    o.wpIn (Fence.wide.inRound l) n P a w K' Q := by
  unfold Oper.wp at h
  unfold Oper.wpIn
  refine ⟨fun _ _ => trivial, ?_⟩
  rw [show (Fence.wide.inRound l).round = some l from rfl, Oper.semAt_some l _ o hd]
  generalize (execOp a.eval o).run P w = r at *
  cases r with
  | ok x w' =>
    cases x <;> first
      | exact hK _ _ h
      | exact h.elim
      | exact And.intro (fun hh => (by cases hh)) (CallsIn.inRound l (callsIn_wide.2 (Calls.mono h (fun e w'' he => (by cases e <;> first | exact hK _ _ he | exact he)))))
      | exact And.intro (fun hh => (by cases hh)) ((rowsIn_of_rows h).mono (fun _ _ he => hK _ _ he))
  | halt x w' => cases x <;> exact h

theorem wpOpsIn_of_wpOps {l n : Nat} {P : Program} {ops : Array Oper} {Q : Exit → Act → World → Prop} (hd : ∀ (i : Nat) (o : Oper), ops[i]? = some o → ∀ c, o.op ≠ .defer c) (hQ : ¬ LetsOut Q) : ∀ (is : List Nat) (a : Act) (w : World),
    wpOps P ops Q is a w → wpOpsIn (Fence.wide.inRound l) n P ops Q is a w
  | [], _, _, h => h
  | i :: rest, a, w, h => by
    unfold wpOps at h
    unfold wpOpsIn
    cases ho : ops[i]? with
    | none => simp only [ho] at h; exact wpOpsIn_of_wpOps hd hQ rest a w h
    | some o =>
      simp only [ho] at h ⊢
      split
      · rename_i hw
        rw [if_pos hw] at h
        rcases h with h | ⟨_, h⟩
        · exact Oper.wpIn_of_wp_round (hd i o ho) (fun a w => wpOpsIn_of_wpOps hd hQ rest a w) h
        · exact absurd h hQ
      · rename_i hw
        rw [if_neg hw] at h
        exact ⟨fun _ _ => trivial, wpOpsIn_of_wpOps hd hQ rest _ w h⟩

theorem wpIn_region_still_tail_round {lo m id : Nat} {P : Program} {Q : Exit → Act → World → Prop} {a : Act} {w : World} {l : List Oper} (n : Nat) (hm : P.follows .mixedOrders = true) (hB : Region.lexTailB .any l.toArray n = true)
    (hd : l.all (fun o => match o.op with | .defer _ => false | _ => true) = true) (hQ : ¬ LetsOut Q)
    (h : wpStill P l.toArray { w with drawn := w.drawn + 1 } (fun a' => wpList P l.toArray Q (l.drop n) a' { w with drawn := w.drawn + 1 }) (l.take n) a) : (Code.region id l.toArray true).wpIn (Fence.wide.inRound lo) m P Q a w := by
  simp only [Region.lexTailB, Bool.and_eq_true, decide_eq_true_eq] at hB
  obtain ⟨⟨⟨⟨hsel, hn⟩, hs⟩, hc⟩, hlex⟩ := hB
  have hn' : n < l.length := by simpa using hn
  have htl : (l.take n).length = n := by simp; omega
  have hdl : (l.drop n).length = l.toArray.size - n := by simp
  have inv0 : HeadInv .any l.toArray n (Array.replicate l.toArray.size false) :=
    ⟨by simp, fun j oj _ hl => (by rw [getD_replicate_false] at hl; cases hl), fun t _ ht => getD_in (by simpa using ht) (getD_replicate_false _ _)⟩
  have H := wpAnyL_lex (md := .any) (g := l.toArray.size - n) hsel hs hc hn (l.take n) 0 _ a (fun j hj => by
    have hj' : j < n := by rw [htl] at hj; exact hj
    simp [hj']) (by simpa using htl) inv0 (by rw [htl]; exact hlex) h
  have hany : wpAny P .any l.toArray Q l.toArray.size (Array.replicate l.toArray.size false) a { w with drawn := w.drawn + 1 } := by
    have := wpAny_of_head (Q' := Q) (g := l.toArray.size - n) (fun listed a' hL => by
      have := wpAny_of_seq (md := .any) (Q' := Q) (l.drop n) n listed a' { w with drawn := w.drawn + 1 } (fun j => by simp [List.getElem?_drop]) (by rw [hdl]; exact hL.1) hL.2
      rwa [hdl] at this) _ _ _ H
    rw [htl, show n + (l.toArray.size - n) = l.toArray.size by omega] at this
    exact this
  refine wpIn_region_draw fun t => ?_
  simp only [Region.schedule, hm, Bool.true_or, if_true]
  refine wpOpsIn_of_wpOps (fun i o ho c hc => ?_) hQ _ a _ (wpAny_sound _ t _ a _ hany)
  have hmem : o ∈ l := by
    have : l[i]? = some o := by simpa using ho
    exact List.mem_of_getElem? this
  have := List.all_eq_true.1 hd o hmem
  rw [hc] at this
  cases this
end Go.Proofs.YtmnadieblhdcpaaDoor
/- The contract of box.At. -/
namespace Go.Proofs.YtmnadieblhdcpaaDoor
open Go.RowKit Go.Shelf
attribute [local go_sem] Oper.semAt_some

theorem at_round {W w : World} {v : Value} {a a' : Int} {z : Int} (hc : W.cell? ⟨w.heap.size + 1, 0, none⟩ = some (.int .i64 a)) (hf : W.frozen? ⟨w.heap.size + 1, 0, none⟩ = false) (hcb : W.cell? ⟨w.heap.size, 0, none⟩ = some v) (hB : Below w.heap.size w W) (ha : a' = z) :
    KeepsOthers W (W.setCell ⟨w.heap.size + 1, 0, none⟩ (.int .i64 a')).drew ∧ KeepBox (w.heap.size + 1 + 1) w.heap.size W (W.setCell ⟨w.heap.size + 1, 0, none⟩ (.int .i64 a')).drew ∧
      ((W.setCell ⟨w.heap.size + 1, 0, none⟩ (.int .i64 a')).drew.cell? ⟨w.heap.size + 1, 0, none⟩ = some (.int .i64 z) ∧ (W.setCell ⟨w.heap.size + 1, 0, none⟩ (.int .i64 a')).drew.frozen? ⟨w.heap.size + 1, 0, none⟩ = false ∧
        (W.setCell ⟨w.heap.size + 1, 0, none⟩ (.int .i64 a')).drew.cell? ⟨w.heap.size, 0, none⟩ = some v) ∧ Below w.heap.size w (W.setCell ⟨w.heap.size + 1, 0, none⟩ (.int .i64 a')).drew := by
  subst ha
  refine ⟨(KeepsOthers.setCell _ _ _).trans (KeepsOthers.drew _), (KeepBox.of_setCell (p := ⟨w.heap.size + 1, 0, none⟩) (by simp) (by simp) _).drew, ⟨?_, ?_, ?_⟩, (hB.setCell (p := ⟨w.heap.size + 1, 0, none⟩) (by simp) _).drew⟩
  · exact World.cell?_setCell_same' _ _ _ (by rw [hc]; rfl)
  · rw [frozen_drew_own, World.frozen?_setCell]; exact hf
  · exact (World.cell?_setCell_other W _ ⟨w.heap.size, 0, none⟩ _ (by simp)).trans hcb

end Go.Proofs.YtmnadieblhdcpaaDoor
/- The contract of box.Coord. -/
namespace Go.Proofs.YtmnadieblhdcpaaDoor
open Go.RowKit Go.Shelf
attribute [local go_sem] Oper.semAt_some

/-- what box.Coord has written when the pairs pre have come -/
def coSet (xs : List Int) (v : Int) (pre : List (Int × Int)) : List Int := pre.foldl (fun l x => l.set x.1.toNat (v / x.2 % (xs[x.1.toNat]?.getD 0))) (List.replicate xs.length 0)
theorem coSet_snoc (xs : List Int) (v : Int) (pre : List (Int × Int)) (x : Int × Int) : coSet xs v (pre ++ [x]) = (coSet xs v pre).set x.1.toNat (v / x.2 % (xs[x.1.toNat]?.getD 0)) := by simp [coSet]
theorem coSet_length (xs : List Int) (v : Int) (pre : List (Int × Int)) : (coSet xs v pre).length = xs.length := by
  unfold coSet
  suffices h : ∀ l : List Int, (pre.foldl (fun l x => l.set x.1.toNat (v / x.2 % (xs[x.1.toNat]?.getD 0))) l).length = l.length by rw [h]; simp
  induction pre with
  | nil => simp
  | cons x pre ih => intro l; rw [List.foldl_cons, ih]; simp
theorem coSet_comes {xs : List Int} (v : Int) (hp : ∀ x ∈ xs, 1 ≤ x) (hM : prodI xs ≤ 4611686018427387903) (k : Nat) (hk : k ≤ xs.length) : coSet xs v (comes xs k) = List.replicate (xs.length - k) 0 ++ (placeR xs v).drop (xs.length - k) := by
  induction k with
  | zero => rw [List.drop_of_length_le (by rw [placeR_length]; omega)]; simp [coSet, comes]
  | succ k ih =>
    have hx : xs[xs.length - 1 - k]? = some (xs[xs.length - 1 - k]'(by omega)) := List.getElem?_eq_getElem (by omega)
    have e3 : ((xs.length : Int) - 1 - k).toNat = xs.length - 1 - k := by omega
    have e2 : xs.length - 1 - k + 1 = xs.length - k := by omega
    rw [comes_succ, coSet_snoc, ih (by omega)]
    simp only [e3]
    rw [back_set (by omega)]
    rw [placeR_at hx, e2, backs_eq hp hM k (by omega), hx]; rfl
theorem own_row {A B : World} {row : Option Nat} {base n c g : Nat} {e : TypeId} {ys : List Value} (hs : A.ownsRow base e 1 (.slice (some ⟨g, 0, none⟩) n c) n ys) (hg : A.grownBy B row) (hr : ∀ r, row = some r → ∃ o : Obj, A.heap[r]? = some o ∧ o.isCells = false) :
    B.ownsRow base e 1 (.slice (some ⟨g, 0, none⟩) n c) n ys := by
  refine hs.kept hg (.inr fun e => ?_)
  obtain ⟨o, ho, hc⟩ := hr g e.symm
  rcases hs.2 with ⟨h', _⟩ | ⟨g', cap, cur, h', _, hh, _⟩
  · simp at h'
  · simp only [Value.slice.injEq, Option.some.injEq, Addr.mk.injEq, and_true, true_and] at h'
    obtain ⟨rfl, _⟩ := h'
    rw [hh] at ho
    injection ho with ho
    subst ho
    cases hc

theorem wpIn_makeFull {F : Fence} {m : Nat} {P : Program} (w : World) {ops : Array Oper} {rest : List Oper} {o : Oper} {a : Act} {Q : Exit → Act → World → Prop}
    (hg : o.guard = none) (l c : Operand) (t : TypeId) (hop : o.op = Op.makeSlice t l c)
    (base : Nat) (e : TypeId) (i : TypeInfo) (z : Value) (size : Nat) (h1 : P.underlying t = some (.slice e)) (h2 : P.info? e = some i) (h3 : i.zero = some z) (h4 : i.size = size)
    (kl kc : IntKind) (L C : Int) (n : Nat) (hl : a.eval l = .int kl L) (hc : a.eval c = .int kc C) (hL : L = (n : Int)) (hC : C = (n : Int)) (b2 : i.bytes * n ≤ 281474976710656) (b3 : n ≤ maxLen) (b4 : base ≤ w.heap.size)
    (hK : ∀ w', w'.ownsRow base e size (.slice (some ⟨w.heap.size, 0, none⟩) n n) n (madeCells z.cells (n * size)).toList → w.grownBy w' none → wpListIn F m P ops Q rest (a.put o.dst (.slice (some ⟨w.heap.size, 0, none⟩) n n)) w') :
    wpListIn F m P ops Q (o :: rest) a w := by
  refine wpListIn_plain hg fun K hK' => ?_
  obtain ⟨w', hrun, r1, r2⟩ := run_make_full (P := P) w base t e i z size h1 h2 h3 h4 kl kc n b2 b3 b4
  subst hL
  subst hC
  unfold Oper.wpIn
  refine ⟨?_, ?_⟩
  · simp [Oper.about, hop]
  · rw [Oper.semAt_plain F _ _ (by rw [hop]; intro c hc'; cases hc')]
    simp [execOp, hop, hl, hc, hrun, Result.andThen]
    exact hK' _ _ (hK w' r1 r2)

theorem mk_facts {w w1 : World} {u v : Value} {t t' : TypeId} (hg : ((w.alloc (.cells #[u] t)).alloc (.cells #[v] t')).grownBy w1 none) :
    Below (w.heap.size + 1 + 1) ((w.alloc (.cells #[u] t)).alloc (.cells #[v] t')) w1 ∧ w.heap.size + 1 + 1 ≤ w1.heap.size ∧ w1.cell? ⟨w.heap.size, 0, none⟩ = some u ∧ w1.cell? ⟨w.heap.size + 1, 0, none⟩ = some v := by
  have hb : Below (w.heap.size + 1 + 1) ((w.alloc (.cells #[u] t)).alloc (.cells #[v] t')) w1 := (Below.refl _ _).grown hg (by simp) (fun k e => by cases e)
  have c := newCell (w.alloc (.cells #[u] t)) v t'
  rw [World.size_alloc] at c
  refine ⟨hb, by simpa using hb.size, ?_, ?_⟩
  · exact (hb.cell (p := ⟨w.heap.size, 0, none⟩) (by simp; omega)).trans (cellPast _ (newCell w u t).1)
  · exact (hb.cell (p := ⟨w.heap.size + 1, 0, none⟩) (by simp)).trans c.1

theorem co_round {W w : World} {z : Value} {v1 v2 v3 : Value} {k g base e size n : Nat} {v : Value} {ys : List Value} (h1 : W.cell? ⟨g, 0, none⟩ = some v1) (h2 : W.cell? ⟨w.heap.size, 0, none⟩ = some v2) (h3 : W.cell? ⟨w.heap.size + 1, 0, none⟩ = some v3) (hB : Below w.heap.size w W)
    (hg : w.heap.size + 1 + 1 < g) (hr : (W.setCell ⟨w.heap.size + 1 + 1, k, none⟩ z).ownsRow base e size v n ys) :
    KeepsOthers W (W.setCell ⟨w.heap.size + 1 + 1, k, none⟩ z).drew ∧ KeepBox (g + 1) w.heap.size W (W.setCell ⟨w.heap.size + 1 + 1, k, none⟩ z).drew ∧
      ((W.setCell ⟨w.heap.size + 1 + 1, k, none⟩ z).drew.cell? ⟨g, 0, none⟩ = some v1 ∧ (W.setCell ⟨w.heap.size + 1 + 1, k, none⟩ z).drew.cell? ⟨w.heap.size, 0, none⟩ = some v2 ∧ (W.setCell ⟨w.heap.size + 1 + 1, k, none⟩ z).drew.cell? ⟨w.heap.size + 1, 0, none⟩ = some v3 ∧
        (W.setCell ⟨w.heap.size + 1 + 1, k, none⟩ z).drew.ownsRow base e size v n ys) ∧ Below w.heap.size w (W.setCell ⟨w.heap.size + 1 + 1, k, none⟩ z).drew := by
  refine ⟨(KeepsOthers.setCell _ _ _).trans (KeepsOthers.drew _), (KeepBox.of_setCell (p := ⟨w.heap.size + 1 + 1, k, none⟩) (by simp; omega) (by simp; omega) _).drew, ⟨?_, ?_, ?_, hr⟩, (hB.setCell (p := ⟨w.heap.size + 1 + 1, k, none⟩) (by simp; omega) _).drew⟩
  · exact (World.cell?_setCell_other W _ ⟨g, 0, none⟩ _ (by simp)).trans h1
  · exact (World.cell?_setCell_other W _ ⟨w.heap.size, 0, none⟩ _ (by simp)).trans h2
  · exact (World.cell?_setCell_other W _ ⟨w.heap.size + 1, 0, none⟩ _ (by simp)).trans h3

end Go.Proofs.YtmnadieblhdcpaaDoor
/- The contract of the statements' live: the chapter's examples hold, and nothing that lay there has turned. -/
namespace Go.Proofs.YtmnadieblhdcpaaDoor
open Go.RowKit

theorem Ints.of_new (W : World) (e : TypeId) (xs : List Int) (hb : ∀ x ∈ xs, -9223372036854775808 ≤ x ∧ x ≤ 9223372036854775807) :
    Ints (W.alloc (.cells (xs.map (Value.int .i64)).toArray e)) (W.heap.size + 1) (some ⟨W.heap.size, 0, none⟩) xs.length xs := by
  refine ⟨rfl, hb, fun _ => ⟨W.heap.size, 0, rfl, by omega, fun k x hx => ?_⟩⟩
  have h : (W.alloc (.cells (xs.map (Value.int .i64)).toArray e)).heap[W.heap.size]? = some (.cells (xs.map (Value.int .i64)).toArray e (0, 0)) := heap_alloc_new W _
  have := cell_of_row _ _ k _ e (0, 0) h
  rw [Nat.zero_add, this]
  simp [hx]

end Go.Proofs.YtmnadieblhdcpaaDoor
/- purflelaw01.BoxPlaces returns true at every input, and nothing that lay there has turned. -/
namespace Go.Proofs.YtmnadieblhdcpaaDoor
open Go.RowKit

theorem below_drewN {B : Nat} {w W : World} (h : Below B w W) (m : Nat) : Below B w (W.drewN m) := ⟨h.os, h.tape, h.output, h.size, h.block⟩
theorem coordF_len {xs : List Int} {v : Int} : (coordF xs v).1.length ≤ 4 := by
  unfold coordF
  split
  · rename_i h
    split
    · rw [placeR_length]; exact (cellsF_ok h).1
    · simp
  · simp

end Go.Proofs.YtmnadieblhdcpaaDoor
/- The contracts of box.Check and the document's Check, of few, of box.Same, the document's Equals and Same, of box.Get and the document's Get. -/
namespace Go.Proofs.YtmnadieblhdcpaaDoor
open Go.RowKit

/-- Check, of a shape and how many numbers there are -/
def checkF (xs : List Int) (m : Nat) : Int := if (laidF xs).2 = 0 then if (m : Int) = (laidF xs).1 then 0 else 1 else (laidF xs).2

theorem checkF_err {xs : List Int} {m : Nat} (h : (cellsF xs).2 ≠ 0) : checkF xs m = (cellsF xs).2 := by
  unfold checkF laidF; rw [if_neg h]; exact if_neg h
theorem checkF_large {xs : List Int} {m : Nat} (h : (cellsF xs).2 = 0) (h2 : 65536 < (cellsF xs).1) : checkF xs m = 2 := by
  unfold checkF laidF; rw [if_pos h, if_pos h2]; rfl
theorem checkF_fit {xs : List Int} {m : Nat} (h : (cellsF xs).2 = 0) (h2 : ¬ 65536 < (cellsF xs).1) : checkF xs m = if (m : Int) = (cellsF xs).1 then 0 else 1 := by
  unfold checkF laidF; rw [if_pos h, if_neg h2]; rfl

/-- a dense tensor's header, and what it holds -/
structure Hdr where
  A : Option Addr
  n : Nat
  c : Nat
  B : Option Addr
  m : Nat
  e : Nat
def Hdr.val (d : Hdr) : Value := .agg #[.slice d.A d.n d.c, .slice d.B d.m d.e]
def fewF (l : List Hdr) : Bool := l.all fun d => decide (d.n ≤ 20) && decide (d.m ≤ 70000)
/-- a block that holds tensors' headers one behind the other -/
def Hdrs (w : World) (g : Nat) (l : List Hdr) : Prop := ∀ (k : Nat) (d : Hdr), l[k]? = some d → w.cell? ⟨g, k * 2, none⟩ = some (.slice d.A d.n d.c) ∧ w.cell? ⟨g, k * 2 + 1, none⟩ = some (.slice d.B d.m d.e)

theorem two_boxes {w w1 : World} {a b c d : Value} {t : TypeId} (hb : Below ((w.alloc (.cells #[a, b] t)).alloc (.cells #[c, d] t)).heap.size ((w.alloc (.cells #[a, b] t)).alloc (.cells #[c, d] t)) w1) :
    w1.cell? ⟨w.heap.size, 0, none⟩ = some a ∧ w1.cell? ⟨w.heap.size, 1, none⟩ = some b ∧ w1.cell? ⟨w.heap.size + 1, 0, none⟩ = some c ∧ w1.cell? ⟨w.heap.size + 1, 1, none⟩ = some d := by
  have h0 : (w.alloc (.cells #[a, b] t)).heap[w.heap.size]? = some (.cells #[a, b] t (0, 0)) := heap_alloc_new w _
  have h1 : ((w.alloc (.cells #[a, b] t)).alloc (.cells #[c, d] t)).heap[w.heap.size]? = some (.cells #[a, b] t (0, 0)) := (Below.heap_alloc _ _ _ (by simp)).trans h0
  have h2 : ((w.alloc (.cells #[a, b] t)).alloc (.cells #[c, d] t)).heap[w.heap.size + 1]? = some (.cells #[c, d] t (0, 0)) := by
    have := heap_alloc_new (w.alloc (.cells #[a, b] t)) (.cells #[c, d] t); rwa [World.size_alloc] at this
  have k1 := (hb.block w.heap.size (by simp; omega)).trans h1
  have k2 := (hb.block (w.heap.size + 1) (by simp)).trans h2
  refine ⟨?_, ?_, ?_, ?_⟩
  · simpa using cell_of_row _ _ 0 _ t (0, 0) k1
  · simpa using cell_of_row _ _ 1 _ t (0, 0) k1
  · simpa using cell_of_row _ _ 0 _ t (0, 0) k2
  · simpa using cell_of_row _ _ 1 _ t (0, 0) k2

/-- box.Same -/
def sameF (xs : List Int) (m : Nat) (xs2 ys ys2 : List Int) : Bool := decide (checkF xs m = 0) && decide (xs = xs2) && decide (ys = ys2)

end Go.Proofs.YtmnadieblhdcpaaDoor
/- The contracts of the document's Same, of box.Get and the document's Get. -/
namespace Go.Proofs.YtmnadieblhdcpaaDoor
open Go.RowKit

/-- Get -/
def getF (xs : List Int) (m : Nat) (ys cs : List Int) : Int × Int := if checkF xs m = 0 then if (atF xs cs).2 = 0 then (ys.getD (atF xs cs).1.toNat 0, 0) else (0, (atF xs cs).2) else (0, checkF xs m)
theorem checkF_ok {xs : List Int} {m : Nat} (h : checkF xs m = 0) : (cellsF xs).2 = 0 ∧ (m : Int) = (cellsF xs).1 ∧ m ≤ 65536 := by
  unfold checkF at h
  split at h
  · rename_i h1
    split at h
    · rename_i h2
      have ha := laidF_ok h1
      have hb := laidF_nonneg (xs := xs)
      exact ⟨ha.1, by omega, by omega⟩
    · simp at h
  · rename_i h1; exact absurd h h1
theorem atF_ok {xs cs : List Int} (h : (atF xs cs).2 = 0) : (cellsF xs).2 = 0 ∧ Inn xs cs ∧ (atF xs cs).1 = numR xs cs ∧ prodI xs = (cellsF xs).1 := by
  unfold atF at h ⊢
  split at h
  · rename_i h1
    split at h
    · rename_i h2
      have hI := inn_of_insideF h2
      rw [if_pos h1, if_pos h2]
      exact ⟨h1, hI, rfl, (cellsF_ok_pos h1 hI.pos).1.symm⟩
    · simp at h
  · rename_i h1; exact absurd h h1
theorem one_box {w w1 : World} {a b : Value} {t : TypeId} (hb : Below (w.alloc (.cells #[a, b] t)).heap.size (w.alloc (.cells #[a, b] t)) w1) :
    w1.cell? ⟨w.heap.size, 0, none⟩ = some a ∧ w1.cell? ⟨w.heap.size, 1, none⟩ = some b := by
  have h0 : (w.alloc (.cells #[a, b] t)).heap[w.heap.size]? = some (.cells #[a, b] t (0, 0)) := heap_alloc_new w _
  have k1 := (hb.block w.heap.size (by simp)).trans h0
  exact ⟨by simpa using cell_of_row _ _ 0 _ t (0, 0) k1, by simpa using cell_of_row _ _ 1 _ t (0, 0) k1⟩

end Go.Proofs.YtmnadieblhdcpaaDoor
