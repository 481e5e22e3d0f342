/- The contracts of box.inside and of the document's in and Equal: whether a list is a place in a shape; whether two lists are one. -/
import Derived.Test.YtpjelcghlnmoeaaCells
namespace Go.Proofs.Ytpjelcghlnmoeaa
open Go.RowKit

def badAt (p : Int × Int) : Bool := decide (p.1 < 0) || decide (p.2 ≤ p.1)
def insideF (xs cs : List Int) : Bool := decide (cs.length = xs.length) && !((cs.zip xs).any badAt)
theorem zip_at {cs xs : List Int} {k : Nat} {c s : Int} (h1 : cs[k]? = some c) (h2 : xs[k]? = some s) : (cs.zip xs)[k]? = some (c, s) := by
  rw [List.getElem?_zip_eq_some]; exact ⟨h1, h2⟩

set_option maxRecDepth 100000 in
theorem inside_any (A A2 : Option Addr) (n n2 c c2 : Nat) (xs cs : List Int) (w : World) (B : Nat) (h : Ints w B A n xs) (h2 : Ints w B A2 n2 cs) (hn : n ≤ 100000) (hn2 : n2 ≤ 9223372036854775807) :
    Calls Try.prog 78 #[.slice A n c, .slice A2 n2 c2] w fun e w' => e = .returned (.bool (insideF xs cs)) ∧ w = w' := by
  have HL : Hid (xs.length = n) := h.1
  have HL2 : Hid (cs.length = n2) := h2.1
  by_cases hne : n2 = n
  · subst hne
    go_enter Try.func78, Try.ntmps78
    go_wp2
    go_loop [14] (fun i => ∃ k : Nat, k ≤ n2 ∧ i = .int .i64 k ∧ Hid (((cs.zip xs).take k).any badAt = false)) (fun i => n2 - (intOf i).toNat)
    case atStart => exact ⟨0, Nat.zero_le _, rfl, by unfold Hid; simp⟩
    case round =>
      obtain ⟨k, hk, rfl, HK⟩ := hrel
      by_cases hlt : k < n2
      · obtain ⟨b, off, x, rfl, _, HX, hc, hx1, hx2⟩ := h.at_ hlt
        obtain ⟨b2, off2, y, rfl, _, HY, hc2, hy1, hy2⟩ := h2.at_ hlt
        by_cases hneg : y < 0
        · have HF : Hid (insideF xs cs = false) := by unfold Hid insideF; rw [any_hit (zip_at HY.out HX.out) (by simp [badAt, hneg])]; simp
          go_wp2
          go_ret
          exact ⟨by rw [HF.out]; rfl, rfl⟩
        · by_cases hge : x ≤ y
          · have HF : Hid (insideF xs cs = false) := by unfold Hid insideF; rw [any_hit (zip_at HY.out HX.out) (by simp [badAt, hge])]; simp
            go_wp2
            go_ret
            exact ⟨by rw [HF.out]; rfl, rfl⟩
          · have HN : Hid (((cs.zip xs).take (k + 1)).any badAt = false) := any_miss HK.out (zip_at HY.out HX.out) (by simp [badAt]; omega)
            go_wp2
            go_round
            case rel => exact ⟨k + 1, by omega, by go_num, HN⟩
            case measure => simp [intOf]; omega
      · have HF : Hid (insideF xs cs = true) := by
          unfold Hid insideF; rw [any_all HK.out (n := n2) (by rw [List.length_zip, HL.out, HL2.out]; simp) (by omega), HL.out, HL2.out]; simp
        go_wp2
        go_ret
        exact ⟨by rw [HF.out]; rfl, rfl⟩
  · have HF : Hid (insideF xs cs = false) := by unfold Hid insideF; rw [HL.out, HL2.out]; simp [hne]
    have hne1 : ((n2 : Int) == (n : Int)) = false := by simp; omega
    have hne2 : ((n2 : Int) != (n : Int)) = true := by simp; omega
    go_enter Try.func78, Try.ntmps78
    go_wp2
    go_ret
    exact ⟨by rw [HF.out]; rfl, rfl⟩

set_option maxRecDepth 100000 in
theorem refIn_any (A A2 : Option Addr) (n n2 c c2 : Nat) (xs cs : List Int) (w : World) (B : Nat) (h : Ints w B A n xs) (h2 : Ints w B A2 n2 cs) (hn : n ≤ 100000) (hn2 : n2 ≤ 9223372036854775807) :
    Calls Try.prog 80 #[.slice A n c, .slice A2 n2 c2] w fun e w' => e = .returned (.bool (insideF xs cs)) ∧ ∃ m, w' = w.drewN m := by
  have HL : Hid (xs.length = n) := h.1
  have HL2 : Hid (cs.length = n2) := h2.1
  by_cases hne : n2 = n
  · subst hne
    go_enter Try.func80, Try.ntmps80
    go_wp2
    go_loopw [13] (fun i wr => ∃ (k m : Nat), k ≤ n2 ∧ i = .int .i64 k ∧ wr = w.drewN m ∧ Hid (((cs.zip xs).take k).any badAt = false)) (fun i _ => n2 - (intOf i).toNat)
    case atStart => exact ⟨0, 0, Nat.zero_le _, rfl, rfl, by unfold Hid; simp⟩
    case round =>
      obtain ⟨k, m, hk, rfl, rfl, HK⟩ := hrel
      by_cases hlt : k < n2
      · obtain ⟨b, off, x, rfl, _, HX, hc, hx1, hx2⟩ := h.at_ hlt
        obtain ⟨b2, off2, y, rfl, _, HY, hc2, hy1, hy2⟩ := h2.at_ hlt
        have hk0 : (0 : Int) ≤ k := by omega
        have hk1 : (k : Int) < n2 := by omega
        by_cases hneg : y < 0
        · have HF : Hid (insideF xs cs = false) := by unfold Hid insideF; rw [any_hit (zip_at HY.out HX.out) (by simp [badAt, hneg])]; simp
          have hd : decide (y < 0) = true := by simpa using hneg
          go_wp2
          go_quiet (fail)
          go_wp2
          go_ret
          exact ⟨by rw [HF.out]; rfl, _, World.drewN_drewN _ _ _⟩
        · have hd : decide (y < 0) = false := by simpa using hneg
          by_cases hge : x ≤ y
          · have HF : Hid (insideF xs cs = false) := by unfold Hid insideF; rw [any_hit (zip_at HY.out HX.out) (by simp [badAt, hge])]; simp
            go_wp2
            go_quiet (fail)
            go_wp2
            go_ret
            exact ⟨by rw [HF.out]; rfl, _, World.drewN_drewN _ _ _⟩
          · have HN : Hid (((cs.zip xs).take (k + 1)).any badAt = false) := any_miss HK.out (zip_at HY.out HX.out) (by simp [badAt]; omega)
            go_wp2
            go_quiet (fail)
            go_wp2
            go_roundw
            case rel => exact ⟨k + 1, _, by omega, by go_num, rfl, HN⟩
            case measure => simp [intOf]; omega
      · have HF : Hid (insideF xs cs = true) := by
          unfold Hid insideF; rw [any_all HK.out (n := n2) (by rw [List.length_zip, HL.out, HL2.out]; simp) (by omega), HL.out, HL2.out]; simp
        go_wp2
        go_ret
        exact ⟨by rw [HF.out]; rfl, _, rfl⟩
  · have HF : Hid (insideF xs cs = false) := by unfold Hid insideF; rw [HL.out, HL2.out]; simp [hne]
    have hne1 : ((n2 : Int) == (n : Int)) = false := by simp; omega
    have hne2 : ((n2 : Int) != (n : Int)) = true := by simp; omega
    go_enter Try.func80, Try.ntmps80
    go_wp2
    go_ret
    exact ⟨by rw [HF.out]; rfl, 0, rfl⟩

set_option maxRecDepth 100000 in
/-- the document's Equal -/
theorem refEqual_any (A A2 : Option Addr) (n n2 c c2 : Nat) (xs ys : List Int) (w : World) (B : Nat) (h : Ints w B A n xs) (h2 : Ints w B A2 n2 ys) (hn : n ≤ 100000) (hn2 : n2 ≤ 9223372036854775807) :
    Calls Try.prog 36 #[.slice A n c, .slice A2 n2 c2] w fun e w' => e = .returned (.bool (decide (xs = ys))) ∧ ∃ m, w' = w.drewN m := by
  have HL : Hid (xs.length = n) := h.1
  have HL2 : Hid (ys.length = n2) := h2.1
  by_cases hne : n = n2
  · subst hne
    go_enter Try.func36, Try.ntmps36
    go_wp2
    go_loopw [13] (fun i wr => ∃ (k m : Nat), k ≤ n ∧ i = .int .i64 k ∧ wr = w.drewN m ∧ Hid (xs.take k = ys.take k)) (fun i _ => n - (intOf i).toNat)
    case atStart => exact ⟨0, 0, Nat.zero_le _, rfl, rfl, by unfold Hid; simp⟩
    case round =>
      obtain ⟨k, m, hk, rfl, rfl, HK⟩ := hrel
      by_cases hlt : k < n
      · obtain ⟨b, off, x, rfl, _, HX, hc, hx1, hx2⟩ := h.at_ hlt
        obtain ⟨b2, off2, y, rfl, _, HY, hc2, hy1, hy2⟩ := h2.at_ hlt
        have hk0 : (0 : Int) ≤ k := by omega
        have hk1 : (k : Int) < n := by omega
        by_cases hxy : x = y
        · have HN : Hid (xs.take (k + 1) = ys.take (k + 1)) := by unfold Hid; rw [take_succ_of HX.out, take_succ_of HY.out, HK.out, hxy]
          have e1 : (x == y) = true := by simpa using hxy
          have e2 : (x != y) = false := by simpa using hxy
          clear hxy
          go_wp2
          go_quiet (fail)
          go_wp2
          go_roundw
          case rel => exact ⟨k + 1, _, by omega, by go_num, rfl, HN⟩
          case measure => simp [intOf]; omega
        · have HF : Hid (decide (xs = ys) = false) := by
            unfold Hid; rw [decide_eq_false]; intro e; subst e
            have := HX.out; rw [HY.out] at this; exact hxy (by injection this with this; exact this.symm)
          have e1 : (x == y) = false := by simpa using hxy
          have e2 : (x != y) = true := by simpa using hxy
          go_wp2
          go_quiet (fail)
          go_wp2
          go_ret
          exact ⟨by rw [HF.out]; rfl, _, World.drewN_drewN _ _ _⟩
      · have HF : Hid (decide (xs = ys) = true) := by
          unfold Hid; rw [decide_eq_true]; have := HK.out
          rwa [List.take_of_length_le (by rw [HL.out]; omega), List.take_of_length_le (by rw [HL2.out]; omega)] at this
        go_wp2
        go_ret
        exact ⟨by rw [HF.out]; rfl, _, rfl⟩
  · have HF : Hid (decide (xs = ys) = false) := by unfold Hid; rw [decide_eq_false]; intro e; subst e; exact hne (by rw [← HL.out, ← HL2.out])
    have hne1 : ((n : Int) == (n2 : Int)) = false := by simp; omega
    have hne2 : ((n : Int) != (n2 : Int)) = true := by simp; omega
    go_enter Try.func36, Try.ntmps36
    go_wp2
    go_ret
    exact ⟨by rw [HF.out]; rfl, 0, rfl⟩
end Go.Proofs.Ytpjelcghlnmoeaa
