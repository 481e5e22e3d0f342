/- The contracts of level's many, span and place, and of slices.IsSorted at []int. -/
import Derived.Test.YtanbhpdobpiafaaLLeaf
import Derived.Test.YtanbhpdobpiafaaFrom
import Derived.IntWalk
namespace Go.Proofs.Ytanbhpdobpiafaa
open Go.RowKit

theorem mul_small {a S : Int} (h1 : 0 ≤ a) (h2 : a ≤ 1048576) (h3 : 0 ≤ S) (h4 : S ≤ 2147483648) : 0 ≤ a * S ∧ a * S ≤ 2251799813685248 := by
  have := Int.mul_le_mul h2 h4 h3 (by omega)
  have := Int.mul_nonneg h1 h3
  omega

set_option maxRecDepth 100000 in
theorem many_any (K S a : Int) (A B : Option Addr) (n c m e : Nat) (ys : List Int) (w : World) (hl : ys.length = m) (_hm : m ≤ 9223372036854775807) (h1 : 0 ≤ a) (h2 : a ≤ 1048576) (h3 : 0 ≤ S) (h4 : S ≤ 2147483648) :
    Calls Try.prog 29 #[lvV K S A n c B m e, .int .i64 a] w fun x w' => x = .returned (.int .i64 (manyF K S ys a)) ∧ Below w.heap.size w w' := by
  have HC := fun W => whole_any K S A B n c m e W
  obtain ⟨q1, q2⟩ := mul_small h1 h2 h3 h4
  obtain ⟨wb, hwb⟩ : ∃ wb, wholeB K = wb := ⟨_, rfl⟩
  rw [hwb] at HC
  have HF : Hid (manyF K S ys a = if wb = true then a * S else m) := by unfold Hid manyF; rw [hwb, hl]
  have z0 := lvBelow w (lvO K S A n c B m e)
  clear hwb hl
  cases wb
  all_goals
    go_enter Try.func29, Try.ntmps29
    go_wp2_with (go_at_call 22; refine (HC _).mono ?_; rintro x w1 ⟨rfl, hb1⟩; have hb2 := z0.trans (hb1.mono z0.size); obtain ⟨k0, k1, k2, k3, _⟩ := lvCells (oNew hb1))
    go_ret
    exact ⟨ret_of (by rw [HF.out]; rfl), hb2⟩

set_option maxRecDepth 100000 in
theorem refMany_any (K S a : Int) (A B : Option Addr) (n c m e : Nat) (ys : List Int) (w : World) (hl : ys.length = m) (_hm : m ≤ 9223372036854775807) (h1 : 0 ≤ a) (h2 : a ≤ 1048576) (h3 : 0 ≤ S) (h4 : S ≤ 2147483648) :
    Calls Try.prog 30 #[lvV K S A n c B m e, .int .i64 a] w fun x w' => x = .returned (.int .i64 (manyF K S ys a)) ∧ Below w.heap.size w w' := by
  have HC := fun W => refWhole_any K S A B n c m e W
  obtain ⟨q1, q2⟩ := mul_small h1 h2 h3 h4
  obtain ⟨wb, hwb⟩ : ∃ wb, wholeB K = wb := ⟨_, rfl⟩
  rw [hwb] at HC
  have HF : Hid (manyF K S ys a = if wb = true then a * S else m) := by unfold Hid manyF; rw [hwb, hl]
  have z0 := lvBelow w (lvO K S A n c B m e)
  clear hwb hl
  cases wb
  all_goals
    go_enter Try.func30, Try.ntmps30
    go_wp2_with (go_at_call 23; refine (HC _).mono ?_; rintro x w1 ⟨rfl, hb1⟩; have hb2 := z0.trans (hb1.mono z0.size); obtain ⟨k0, k1, k2, k3, _⟩ := lvCells (oNew hb1))
    go_ret
    exact ⟨ret_of (by rw [HF.out]; rfl), hb2⟩

theorem below_drewN2 {B : Nat} {w W : World} (h : Below B w W) (m : Nat) : Below B w (W.drewN m) := ⟨h.os, h.tape, h.output, h.size, h.block⟩
set_option maxRecDepth 100000 in
/-- span, of a packed or a loose level -/
theorem span_pos (K S : Int) (hK : K = 1 ∨ K = 2) (A B : Option Addr) (n c m e p : Nat) (xs : List Int) (x z : Int) (w : World) (h : Ints w w.heap.size A n xs) (hn : n ≤ 1048577) (hx : xs[p]? = some x) (hz : xs[p + 1]? = some z) :
    Calls Try.prog 38 #[lvV K S A n c B m e, .int .i64 p] w fun e w' => e = .returned (.tuple #[.int .i64 x, .int .i64 z]) ∧ Below w.heap.size w w' := by
  have hl := h.1
  have hp1 : p + 1 < n := by rw [← hl]; exact (List.getElem?_eq_some_iff.1 hz).1
  obtain ⟨b, off, x', rfl, hbb, HX, hc, hx1, hx2⟩ := h.at_ (k := p) (by omega)
  obtain ⟨b2, off2, z', e2, hbb2, HZ, hc2, hz1, hz2⟩ := h.at_ (k := p + 1) (by omega)
  injection e2 with e2; injection e2 with e2 e3; subst e2; subst e3
  obtain rfl : x' = x := by have := HX.out; rw [hx] at this; injection this with this; exact this.symm
  obtain rfl : z' = z := by have := HZ.out; rw [hz] at this; injection this with this; exact this.symm
  have z0 := lvBelow w (lvO K S (some ⟨b, off, none⟩) n c B m e)
  have j1 := cellPast (lvO K S (some ⟨b, off, none⟩) n c B m e) hc
  have j2 := cellPast (lvO K S (some ⟨b, off, none⟩) n c B m e) hc2
  have e1 : IntKind.i64.wrap ((p : Int) + 1) = (p : Int) + 1 := by rw [IntWalk.i64_in _ (by omega)]
  have g0 : (0 : Int) ≤ p := by omega
  have g1 : (p : Int) < n := by omega
  have g2 : (p : Int) + 1 < n := by omega
  have g3 : (0 : Int) ≤ (p : Int) + 1 := by omega
  have g4 : ((p : Int) + 1).toNat = p + 1 := by omega
  clear hx hz hl HX HZ h hc hc2 hbb2
  rcases hK with rfl | rfl
  all_goals
    go_enter Try.func38, Try.ntmps38
    go_wp2
    go_quiet (fail)
    go_wp2
    go_ret2
    exact ⟨rfl, below_drewN2 z0 _⟩

set_option maxRecDepth 100000 in
theorem span_ok (K S : Int) (A B : Option Addr) (n c m e p a : Nat) (xs ys : List Int) (w : World) (h : Ints w w.heap.size A n xs) (HL : Lok K S xs ys a) (hp : p < a) :
    Calls Try.prog 38 #[lvV K S A n c B m e, .int .i64 p] w fun e w' => e = .returned (.tuple #[.int .i64 (offN K S xs p : Nat), .int .i64 (offN K S xs (p + 1) : Nat)]) ∧ Below w.heap.size w w' := by
  have ha := HL.ahead
  by_cases hK : K = 1 ∨ K = 2
  · have hl := HL.posLen hK
    exact span_pos K S hK A B n c m e p xs _ _ w h (by rw [← h.1]; omega) (HL.pos hK p (by omega)) (HL.pos hK (p + 1) (by omega))
  · have hs0 := HL.size0
    have hs1 := HL.size1
    have hk := HL.kind
    have z0 := lvBelow w (lvO K S A n c B m e)
    obtain ⟨q1, q2⟩ := mul_small (a := (p : Int)) (S := S) (by omega) (by omega) hs0 hs1
    obtain ⟨q3, q4⟩ := mul_small (a := (p : Int) + 1) (S := S) (by omega) (by omega) hs0 hs1
    have e1 : IntKind.i64.wrap ((p : Int) + 1) = (p : Int) + 1 := by rw [IntWalk.i64_in _ (by omega)]
    have e2 : IntKind.i64.wrap ((p : Int) * S) = (p : Int) * S := by rw [IntWalk.i64_in _ (by omega)]
    have e3 : IntKind.i64.wrap (((p : Int) + 1) * S) = ((p : Int) + 1) * S := by rw [IntWalk.i64_in _ (by omega)]
    have g0 : (p : Int) ≤ 1048576 := by omega
    have hk3 : K = 0 ∨ K = 3 ∨ K = 4 := by omega
    have HO : Hid (wholeB K = true → ((offN K S xs p : Nat) : Int) = (p : Int) * S ∧ ((offN K S xs (p + 1) : Nat) : Int) = ((p : Int) + 1) * S) := by
      intro hw
      unfold offN
      rw [if_pos hw, if_pos hw, Int.natCast_mul, Int.natCast_mul, Int.toNat_of_nonneg hs0]
      exact ⟨rfl, rfl⟩
    clear HL hk hK
    rcases hk3 with rfl | rfl | rfl
    · go_enter Try.func38, Try.ntmps38
      go_wp2
      go_quiet (fail)
      go_wp2
      go_ret2
      exact ⟨ret_of (by rw [(HO.out rfl).1, (HO.out rfl).2]; rfl), below_drewN2 z0 _⟩
    · go_enter Try.func38, Try.ntmps38
      go_wp2
      go_ret2
      exact ⟨ret_of (by rfl), z0⟩
    · go_enter Try.func38, Try.ntmps38
      go_wp2
      go_quiet (fail)
      go_wp2
      go_ret2
      exact ⟨ret_of (by rw [(HO.out rfl).1, (HO.out rfl).2]; rfl), below_drewN2 z0 _⟩

set_option maxRecDepth 100000 in
theorem place_ok (K S : Int) (A B : Option Addr) (n c m e k a : Nat) (xs ys : List Int) (w : World) (h : Ints w w.heap.size B m ys) (HL : Lok K S xs ys a) (hk : k < totN K S ys a) :
    Calls Try.prog 32 #[lvV K S A n c B m e, .int .i64 k] w fun e w' => e = .returned (.int .i64 (atN K S ys k)) ∧ Below w.heap.size w w' := by
  have HC := fun W => whole_any K S A B n c m e W
  have ht := HL.tot
  have hs1 := HL.size1
  have hpl := HL.place k hk
  have z0 := lvBelow w (lvO K S A n c B m e)
  by_cases hw : wholeB K = true
  · have HF : Hid (atN K S ys k = (k : Int) % S) := by unfold Hid atN; rw [if_pos hw]
    rw [hw] at HC
    have hS : 0 < S := by omega
    have hS0 : ¬ S = 0 := by omega
    have hk0 : (0 : Int) ≤ k := by omega
    have hk1 : (k : Int) ≤ 1048576 := by omega
    clear HL hpl hw hk ht
    go_enter Try.func32, Try.ntmps32
    go_wp2_with (go_at_call 22; refine (HC _).mono ?_; rintro x w1 ⟨rfl, hb1⟩; have hb2 := z0.trans (hb1.mono z0.size); obtain ⟨k0, k1, k2, k3, _⟩ := lvCells (oNew hb1))
    go_ret
    exact ⟨ret_of (by rw [HF.out]; rfl), hb2⟩
  · have hw' : wholeB K = false := by simpa using hw
    have hy := HL.crdAt hw' k hk
    have hkm : k < m := by rw [← h.1]; exact (List.getElem?_eq_some_iff.1 hy).1
    have hm := HL.crd
    rw [h.1] at hm
    rw [hw'] at HC
    obtain ⟨v, hv⟩ : ∃ v, atN K S ys k = v := ⟨_, rfl⟩
    rw [hv] at hy hpl ⊢
    obtain ⟨b, off, x', rfl, hbb, HX, hc, hx1, hx2⟩ := h.at_ hkm
    obtain rfl : x' = v := by have := HX.out; rw [hy] at this; injection this with this; exact this.symm
    clear HL hpl hw hw' hk ht hy HX h hv
    go_enter Try.func32, Try.ntmps32
    go_wp2_with (go_at_call 22; refine (HC _).mono ?_; rintro x w1 ⟨rfl, hb1⟩; have hb2 := z0.trans (hb1.mono z0.size); obtain ⟨k0, k1, k2, k3, _⟩ := lvCells (oNew hb1); have hc2 := (hb2.cell (p := ⟨b, off + k, none⟩) hbb).trans hc)
    go_ret
    exact ⟨rfl, hb2⟩

set_option maxRecDepth 100000 in
theorem less_any (x y : Int) (w : World) : Calls Try.prog 49 #[.int .i64 x, .int .i64 y] w fun e w' => e = .returned (.bool (decide (x < y))) ∧ w = w' := by
  have hn : ∀ (x : Int) (W : World), Calls Try.prog 53 #[.int .i64 x] W fun e w' => e = .returned (.bool false) ∧ W = w' := by
    intro x W
    have e1 : (x != x) = false := by simp
    go_enter Try.func53, Try.ntmps53
    go_wp2
    go_ret
    exact ⟨rfl, rfl⟩
  go_enter Try.func49, Try.ntmps49
  go_wp2_with (go_at_call 53; refine (hn _ _).mono ?_; rintro e w' ⟨rfl, rfl⟩)
  go_ret
  exact ⟨rfl, rfl⟩
end Go.Proofs.Ytanbhpdobpiafaa
