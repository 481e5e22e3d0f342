/- The contracts of level's many, span and place, and of slices.IsSorted at []int. -/
import Derived.Test.YteepiifhmbcciaaG3
import Derived.Test.YteepiifhmbcciaaG1
import Derived.IntWalk
import Derived.Test.YteepiifhmbcciaaG2
namespace Go.Proofs.Yteepiifhmbcciaa
open Go.RowKit

theorem mul_small {a S : Int} (h1 : 0 ≤ a) (h2 : a ≤ 1048576) (h3 : 0 ≤ S) (h4 : S ≤ 2147483648) : 0 ≤ a * S ∧ a * S ≤ 2251799813685248 := by
  have := Int.mul_le_mul h2 h4 h3 (by omega)
  have := Int.mul_nonneg h1 h3
  omega

set_option maxRecDepth 100000 in
theorem many_any (K S a : Int) (A B : Option Addr) (n c m e : Nat) (ys : List Int) (w : World) (hl : ys.length = m) (_hm : m ≤ 9223372036854775807) (h1 : 0 ≤ a) (h2 : a ≤ 1048576) (h3 : 0 ≤ S) (h4 : S ≤ 2147483648) :
    Calls Try.prog 73 #[lvV K S A n c B m e, .int .i64 a] w fun x w' => x = .returned (.int .i64 (manyF K S ys a)) ∧ Below w.heap.size w w' := by
  have HC := fun W => whole_any K S A B n c m e W
  obtain ⟨q1, q2⟩ := mul_small h1 h2 h3 h4
  obtain ⟨wb, hwb⟩ : ∃ wb, wholeB K = wb := ⟨_, rfl⟩
  rw [hwb] at HC
  have HF : Hid (manyF K S ys a = if wb = true then a * S else m) := by unfold Hid manyF; rw [hwb, hl]
  have z0 := lvBelow w (lvO K S A n c B m e)
  clear hwb hl
  cases wb
  all_goals
    go_enter Try.func73, Try.ntmps73
    go_wp2_with (go_at_call 60; refine (HC _).mono ?_; rintro x w1 ⟨rfl, hb1⟩; have hb2 := z0.trans (hb1.mono z0.size); obtain ⟨k0, k1, k2, k3, _⟩ := lvCells (oNew hb1))
    go_ret
    exact ⟨ret_of (by rw [HF.out]; rfl), hb2⟩

set_option maxRecDepth 100000 in
theorem refMany_any (K S a : Int) (A B : Option Addr) (n c m e : Nat) (ys : List Int) (w : World) (hl : ys.length = m) (_hm : m ≤ 9223372036854775807) (h1 : 0 ≤ a) (h2 : a ≤ 1048576) (h3 : 0 ≤ S) (h4 : S ≤ 2147483648) :
    Calls Try.prog 81 #[lvV K S A n c B m e, .int .i64 a] w fun x w' => x = .returned (.int .i64 (manyF K S ys a)) ∧ Below w.heap.size w w' := by
  have HC := fun W => refWhole_any K S A B n c m e W
  obtain ⟨q1, q2⟩ := mul_small h1 h2 h3 h4
  obtain ⟨wb, hwb⟩ : ∃ wb, wholeB K = wb := ⟨_, rfl⟩
  rw [hwb] at HC
  have HF : Hid (manyF K S ys a = if wb = true then a * S else m) := by unfold Hid manyF; rw [hwb, hl]
  have z0 := lvBelow w (lvO K S A n c B m e)
  clear hwb hl
  cases wb
  all_goals
    go_enter Try.func81, Try.ntmps81
    go_wp2_with (go_at_call 82; refine (HC _).mono ?_; rintro x w1 ⟨rfl, hb1⟩; have hb2 := z0.trans (hb1.mono z0.size); obtain ⟨k0, k1, k2, k3, _⟩ := lvCells (oNew hb1))
    go_ret
    exact ⟨ret_of (by rw [HF.out]; rfl), hb2⟩

theorem below_drewN2 {B : Nat} {w W : World} (h : Below B w W) (m : Nat) : Below B w (W.drewN m) := ⟨h.os, h.tape, h.output, h.size, h.block⟩
set_option maxRecDepth 100000 in
/-- span, of a packed or a loose level -/
theorem span_pos (K S : Int) (hK : K = 1 ∨ K = 2) (A B : Option Addr) (n c m e p : Nat) (xs : List Int) (x z : Int) (w : World) (h : Ints w w.heap.size A n xs) (hn : n ≤ 1048577) (hx : xs[p]? = some x) (hz : xs[p + 1]? = some z) :
    Calls Try.prog 101 #[lvV K S A n c B m e, .int .i64 p] w fun e w' => e = .returned (.tuple #[.int .i64 x, .int .i64 z]) ∧ Below w.heap.size w w' := by
  have hl := h.1
  have hp1 : p + 1 < n := by rw [← hl]; exact (List.getElem?_eq_some_iff.1 hz).1
  obtain ⟨b, off, x', rfl, hbb, HX, hc, hx1, hx2⟩ := h.at_ (k := p) (by omega)
  obtain ⟨b2, off2, z', e2, hbb2, HZ, hc2, hz1, hz2⟩ := h.at_ (k := p + 1) (by omega)
  injection e2 with e2; injection e2 with e2 e3; subst e2; subst e3
  obtain rfl : x' = x := by have := HX.out; rw [hx] at this; injection this with this; exact this.symm
  obtain rfl : z' = z := by have := HZ.out; rw [hz] at this; injection this with this; exact this.symm
  have z0 := lvBelow w (lvO K S (some ⟨b, off, none⟩) n c B m e)
  have j1 := cellPast (lvO K S (some ⟨b, off, none⟩) n c B m e) hc
  have j2 := cellPast (lvO K S (some ⟨b, off, none⟩) n c B m e) hc2
  have e1 : IntKind.i64.wrap ((p : Int) + 1) = (p : Int) + 1 := by rw [IntWalk.i64_in _ (by omega)]
  have g0 : (0 : Int) ≤ p := by omega
  have g1 : (p : Int) < n := by omega
  have g2 : (p : Int) + 1 < n := by omega
  have g3 : (0 : Int) ≤ (p : Int) + 1 := by omega
  have g4 : ((p : Int) + 1).toNat = p + 1 := by omega
  clear hx hz hl HX HZ h hc hc2 hbb2
  rcases hK with rfl | rfl
  all_goals
    go_enter Try.func101, Try.ntmps101
    go_wp2
    go_quiet (fail)
    go_wp2
    go_ret2
    exact ⟨rfl, below_drewN2 z0 _⟩

set_option maxRecDepth 100000 in
theorem span_ok (K S : Int) (A B : Option Addr) (n c m e p a : Nat) (xs ys : List Int) (w : World) (h : Ints w w.heap.size A n xs) (HL : Lok K S xs ys a) (hp : p < a) :
    Calls Try.prog 101 #[lvV K S A n c B m e, .int .i64 p] w fun e w' => e = .returned (.tuple #[.int .i64 (offN K S xs p : Nat), .int .i64 (offN K S xs (p + 1) : Nat)]) ∧ Below w.heap.size w w' := by
  have ha := HL.ahead
  by_cases hK : K = 1 ∨ K = 2
  · have hl := HL.posLen hK
    exact span_pos K S hK A B n c m e p xs _ _ w h (by rw [← h.1]; omega) (HL.pos hK p (by omega)) (HL.pos hK (p + 1) (by omega))
  · have hs0 := HL.size0
    have hs1 := HL.size1
    have hk := HL.kind
    have z0 := lvBelow w (lvO K S A n c B m e)
    obtain ⟨q1, q2⟩ := mul_small (a := (p : Int)) (S := S) (by omega) (by omega) hs0 hs1
    obtain ⟨q3, q4⟩ := mul_small (a := (p : Int) + 1) (S := S) (by omega) (by omega) hs0 hs1
    have e1 : IntKind.i64.wrap ((p : Int) + 1) = (p : Int) + 1 := by rw [IntWalk.i64_in _ (by omega)]
    have e2 : IntKind.i64.wrap ((p : Int) * S) = (p : Int) * S := by rw [IntWalk.i64_in _ (by omega)]
    have e3 : IntKind.i64.wrap (((p : Int) + 1) * S) = ((p : Int) + 1) * S := by rw [IntWalk.i64_in _ (by omega)]
    have g0 : (p : Int) ≤ 1048576 := by omega
    have hk3 : K = 0 ∨ K = 3 ∨ K = 4 := by omega
    have HO : Hid (wholeB K = true → ((offN K S xs p : Nat) : Int) = (p : Int) * S ∧ ((offN K S xs (p + 1) : Nat) : Int) = ((p : Int) + 1) * S) := by
      intro hw
      unfold offN
      rw [if_pos hw, if_pos hw, Int.natCast_mul, Int.natCast_mul, Int.toNat_of_nonneg hs0]
      exact ⟨rfl, rfl⟩
    clear HL hk hK
    rcases hk3 with rfl | rfl | rfl
    · go_enter Try.func101, Try.ntmps101
      go_wp2
      go_quiet (fail)
      go_wp2
      go_ret2
      exact ⟨ret_of (by rw [(HO.out rfl).1, (HO.out rfl).2]; rfl), below_drewN2 z0 _⟩
    · go_enter Try.func101, Try.ntmps101
      go_wp2
      go_ret2
      exact ⟨ret_of (by rfl), z0⟩
    · go_enter Try.func101, Try.ntmps101
      go_wp2
      go_quiet (fail)
      go_wp2
      go_ret2
      exact ⟨ret_of (by rw [(HO.out rfl).1, (HO.out rfl).2]; rfl), below_drewN2 z0 _⟩

set_option maxRecDepth 100000 in
theorem less_any (x y : Int) (w : World) : Calls Try.prog 88 #[.int .i64 x, .int .i64 y] w fun e w' => e = .returned (.bool (decide (x < y))) ∧ w = w' := by
  have hn : ∀ (x : Int) (W : World), Calls Try.prog 99 #[.int .i64 x] W fun e w' => e = .returned (.bool false) ∧ W = w' := by
    intro x W
    have e1 : (x != x) = false := by simp
    go_enter Try.func99, Try.ntmps99
    go_wp2
    go_ret
    exact ⟨rfl, rfl⟩
  go_enter Try.func88, Try.ntmps88
  go_wp2_with (go_at_call 99; refine (hn _ _).mono ?_; rintro e w' ⟨rfl, rfl⟩)
  go_ret
  exact ⟨rfl, rfl⟩
end Go.Proofs.Yteepiifhmbcciaa
/- The contracts of slices.IsSorted and slices.ContainsFunc at []int (asked by level.Check's function), of level's told. -/
namespace Go.Proofs.Yteepiifhmbcciaa
open Go.RowKit

theorem quiet2 {P : Program} {f : FuncId} {args : Array Value} {w : World} {m n : Nat} {v : Value}
    (h : Calls P f args (w.drewN (m + n)) fun e w' => e = .returned v ∧ w' = w.drewN (m + n)) : Calls P f args (w.drewN (m + n)) fun e w'' => e = .returned v ∧ ∃ q, w'' = w.drewN (m + q) :=
  h.mono fun _ _ ⟨he, hm⟩ => ⟨he, n, hm⟩
def SortFrom (xs : List Int) (k : Nat) : Prop := ∀ (j : Nat) (x y : Int), k ≤ j → xs[j]? = some x → xs[j + 1]? = some y → x ≤ y
theorem sortFrom_last {xs : List Int} {k : Nat} (h : xs.length ≤ k + 1) : SortFrom xs k := by
  intro j x y hj _ hy
  have := (List.getElem?_eq_some_iff.1 hy).1
  omega
theorem sortFrom_pred {xs : List Int} {k : Nat} (h : SortFrom xs k) (hk : 0 < k) {x y : Int} (hx : xs[k - 1]? = some x) (hy : xs[k]? = some y) (hxy : x ≤ y) : SortFrom xs (k - 1) := by
  intro j u v hj hu hv
  by_cases e : j = k - 1
  · subst e
    rw [hx] at hu
    rw [show k - 1 + 1 = k by omega, hy] at hv
    injection hu with hu; injection hv with hv; omega
  · exact h j u v (by omega) hu hv

set_option maxRecDepth 100000 in
set_option maxHeartbeats 1000000 in
theorem isSorted_any (A : Option Addr) (n c : Nat) (xs : List Int) (w : World) (B : Nat) (h : Ints w B A n xs) (hn : n ≤ 1048577) :
    Calls Try.prog 100 #[.slice A n c] w fun e w' => e = .returned (.bool (pB (SortP xs))) ∧ ∃ m, w' = w.drewN m := by
  have HL : Hid (xs.length = n) := h.1
  have hL := fun x y W => (less_any x y W).mono (fun (e : Ending) W' hh => (⟨hh.1, hh.2.symm⟩ : e = .returned (.bool (decide (x < y))) ∧ W' = W))
  rcases Nat.eq_zero_or_pos n with rfl | hpos
  · have HF : Hid (pB (SortP xs) = true) := pB_t (fun k x y hx _ => by have := (List.getElem?_eq_some_iff.1 hx).1; have := HL.out; omega)
    go_enter Try.func100, Try.ntmps100
    go_wp2
    go_loopw [3] (fun i wr => i = .int .i64 (-1) ∧ wr = w) (fun _ _ => 0)
    case atStart => exact ⟨rfl, rfl⟩
    case round =>
      obtain ⟨rfl, rfl⟩ := hrel
      go_wp2
      go_ret
      exact ⟨ret_of (by rw [HF.out]; rfl), 0, rfl⟩
  · go_enter Try.func100, Try.ntmps100
    go_wp2
    go_loopw [3] (fun i wr => ∃ k m : Nat, k < n ∧ i = .int .i64 k ∧ wr = w.drewN m ∧ Hid (SortFrom xs k)) (fun i _ => (intOf i).toNat)
    case atStart => exact ⟨n - 1, 0, by omega, by go_num, rfl, sortFrom_last (by rw [HL.out]; omega)⟩
    case round =>
      obtain ⟨k, m, hk, rfl, rfl, HS⟩ := hrel
      by_cases hk0 : 0 < k
      · obtain ⟨b, off, y, rfl, _, HY, hc, hy1, hy2⟩ := h.at_ hk
        obtain ⟨b2, off2, x, e2, _, HX, hc2, hx1, hx2⟩ := h.at_ (k := k - 1) (by omega)
        injection e2 with e2; injection e2 with e2 e3; subst e2; subst e3
        have e1 : IntKind.i64.wrap ((k : Int) - 1) = (k : Int) - 1 := by rw [IntWalk.i64_in _ (by omega)]
        have g0 : (0 : Int) ≤ k := by omega
        have g1 : (k : Int) < n := by omega
        have g2 : (k : Int) - 1 < n := by omega
        have g3 : (0 : Int) ≤ (k : Int) - 1 := by omega
        have g4 : ((k : Int) - 1).toNat = k - 1 := by omega
        have g5 : (1 : Int) ≤ k := by omega
        have g6 : (k : Int) - 1 < n := by omega
        have g7 : (k : Int) < n + 1 := by omega
        have g8 : 1 ≤ k := by omega
        by_cases hxy : y < x
        · have d1 : decide (y < x) = true := by simpa using hxy
          have HF : Hid (pB (SortP xs) = false) := pB_f (fun hs => by have := hs (k - 1) x y HX.out (by rw [show k - 1 + 1 = k by omega]; exact HY.out); omega)
          clear hxy
          have hL2 := hL y x
          rw [d1] at hL2
          clear hL
          go_wp2
          go_quiet ((go_at_call 88; exact quiet2 (hL2 _)))
          go_wp2
          go_ret
          exact ⟨ret_of (by rw [HF.out]; rfl), _, World.drewN_drewN _ _ _⟩
        · have d1 : decide (y < x) = false := by simpa using hxy
          have HN : Hid (SortFrom xs (k - 1)) := sortFrom_pred HS.out hk0 HX.out HY.out (by omega)
          clear hxy
          have hL2 := hL y x
          rw [d1] at hL2
          clear hL
          go_wp2
          go_quiet ((go_at_call 88; exact quiet2 (hL2 _)))
          go_wp2
          go_roundw
          case rel => exact ⟨k - 1, _, by omega, by go_num, rfl, HN⟩
          case measure => simp [intOf]; omega
      · obtain rfl : k = 0 := by omega
        have HF : Hid (pB (SortP xs) = true) := pB_t (fun j x y hx hy => HS.out j x y (Nat.zero_le _) hx hy)
        go_wp2
        go_ret
        exact ⟨ret_of (by rw [HF.out]; rfl), _, rfl⟩
end Go.Proofs.Yteepiifhmbcciaa
/- The contract of level's told. -/
namespace Go.Proofs.Yteepiifhmbcciaa
open Go.RowKit

theorem told_pos {K : Int} (hK : K = 1 ∨ K = 2) (xs ys : List Int) (a : Nat) : ToldP K xs ys a ↔ xs.length = a + 1 ∧ xs[0]? = some 0 ∧ xs[a]? = some (ys.length : Int) ∧ SortP xs := by
  unfold ToldP
  rw [Int.toNat_natCast]
  constructor
  · rintro ⟨h, _, _⟩
    obtain ⟨h1, h2⟩ := h hK
    exact ⟨by omega, h2⟩
  · rintro ⟨h1, h2⟩
    exact ⟨fun _ => ⟨by omega, h2⟩, fun e => by omega, fun e1 e2 => by omega⟩

set_option maxRecDepth 100000 in
set_option maxHeartbeats 2000000 in
theorem told_pk (K : Int) (hK : K = 1 ∨ K = 2) (S : Int) (A B : Option Addr) (n c m e a : Nat) (xs ys : List Int) (w : World) (h : Ints w w.heap.size A n xs) (_hn : n ≤ 9223372036854775807) (_hm : m ≤ 9223372036854775807) (hl : ys.length = m) (ha : a ≤ 1048576) :
    Calls Try.prog 92 #[lvV K S A n c B m e, .int .i64 a] w fun x w' => x = .returned (.bool (pB (ToldP K xs ys a))) ∧ Below w.heap.size w w' := by
  have hln := h.1
  have z0 := lvBelow w (lvO K S A n c B m e)
  have e1 : IntKind.i64.wrap ((a : Int) + 1) = (a : Int) + 1 := by rw [IntWalk.i64_in _ (by omega)]
  have hT := told_pos hK xs ys a
  rw [hl, hln] at hT
  by_cases h1 : n = a + 1
  · obtain ⟨b, off, x0, rfl, hbb, HX0, hc0, hx01, hx02⟩ := h.at_ (k := 0) (by omega)
    obtain ⟨b2, off2, xa, e2, _, HXA, hca, hxa1, hxa2⟩ := h.at_ (k := a) (by omega)
    injection e2 with e2; injection e2 with e2 e3; subst e2; subst e3
    have d1 : ((n : Int) == (a : Int) + 1) = true := by simp; omega
    have d1' : ((n : Int) != (a : Int) + 1) = false := by simp; omega
    have j0 := cellPast (lvO K S (some ⟨b, off, none⟩) n c B m e) hc0
    have ja := cellPast (lvO K S (some ⟨b, off, none⟩) n c B m e) hca
    have g0 : (0 : Int) < n := by omega
    have g1 : (a : Int) < n := by omega
    have g2 : (0 : Int) ≤ a := by omega
    have g3 : 0 < n := by omega
    rw [Nat.add_zero] at j0
    by_cases hx0 : x0 = 0
    · subst hx0
      by_cases hxa : xa = m
      · subst hxa
        have d2 : ((m : Int) == (m : Int)) = true := by simp
        have HS : Hid (pB (ToldP K xs ys a) = pB (SortP xs)) := pB_congr ⟨fun q => (hT.1 q).2.2.2, fun q => hT.2 ⟨h1, HX0.out, HXA.out, q⟩⟩
        rw [HS.out]
        have hI := fun W (hb : Below w.heap.size w W) => isSorted_any (some ⟨b, off, none⟩) n c xs W w.heap.size (h.below hb) (by omega)
        clear hT h1 HX0 HXA hc0 hca HS
        rcases hK with rfl | rfl
        all_goals
          go_enter Try.func92, Try.ntmps92
          go_wp2
          go_quiet ((go_at_call 100; exact Calls.quiet_of (hI _ (below_drewN2 z0 _))))
          go_wp2
          go_ret
          exact ⟨rfl, below_drewN2 z0 _⟩
      · have d2 : (xa == (m : Int)) = false := by simpa using hxa
        have HF : Hid (pB (ToldP K xs ys a) = false) := pB_f (fun q => by have := (hT.1 q).2.2.1; rw [HXA.out] at this; injection this with this; exact hxa this)
        clear hT h1 HX0 HXA hc0 hca hxa h
        rcases hK with rfl | rfl
        all_goals
          go_enter Try.func92, Try.ntmps92
          go_wp2
          go_quiet (fail)
          go_wp2
          go_ret
          exact ⟨ret_of (by rw [HF.out]; rfl), below_drewN2 z0 _⟩
    · have d2 : (x0 == 0) = false := by simpa using hx0
      have HF : Hid (pB (ToldP K xs ys a) = false) := pB_f (fun q => by have := (hT.1 q).2.1; rw [HX0.out] at this; injection this with this; exact hx0 this)
      clear hT h1 HX0 HXA hc0 hca hx0 h
      rcases hK with rfl | rfl
      all_goals
        go_enter Try.func92, Try.ntmps92
        go_wp2
        go_quiet (fail)
        go_wp2
        go_ret
        exact ⟨ret_of (by rw [HF.out]; rfl), below_drewN2 z0 _⟩
  · have d1 : ((n : Int) == (a : Int) + 1) = false := by simp; omega
    have HF : Hid (pB (ToldP K xs ys a) = false) := pB_f (fun q => h1 (hT.1 q).1)
    clear hT h1 h hln
    rcases hK with rfl | rfl
    all_goals
      go_enter Try.func92, Try.ntmps92
      go_wp2
      go_quiet (fail)
      go_wp2
      go_ret
      exact ⟨ret_of (by rw [HF.out]; rfl), below_drewN2 z0 _⟩

set_option maxRecDepth 100000 in
set_option maxHeartbeats 2000000 in
theorem told_any (K S : Int) (A B : Option Addr) (n c m e a : Nat) (xs ys : List Int) (w : World) (h : Ints w w.heap.size A n xs) (hn : n ≤ 9223372036854775807) (hm : m ≤ 9223372036854775807) (hl : ys.length = m) (ha : a ≤ 1048576) :
    Calls Try.prog 92 #[lvV K S A n c B m e, .int .i64 a] w fun x w' => x = .returned (.bool (pB (ToldP K xs ys a))) ∧ Below w.heap.size w w' := by
  by_cases hK : K = 1 ∨ K = 2
  · exact told_pk K hK S A B n c m e a xs ys w h hn hm hl ha
  have hln := h.1
  have z0 := lvBelow w (lvO K S A n c B m e)
  by_cases h3 : K = 3
  · subst h3
    have hT : ToldP 3 xs ys a ↔ n = 0 ∧ m = a := by
      unfold ToldP; rw [← hln, ← hl]
      exact ⟨fun q => ⟨(q.2.1 rfl).1, by have := (q.2.1 rfl).2; omega⟩, fun q => ⟨fun e => by omega, fun _ => ⟨q.1, by omega⟩, fun _ _ e => absurd rfl e⟩⟩
    have HF : Hid (pB (ToldP 3 xs ys a) = (decide (n = 0) && decide (m = a))) := by
      unfold Hid; rw [pB_congr hT]
      by_cases q : n = 0 ∧ m = a
      · rw [pB_t q]; simp [q.1, q.2]
      · rw [pB_f q]
        by_cases q1 : n = 0
        · have q2 : ¬ m = a := fun q2 => q ⟨q1, q2⟩
          simp [q2]
        · simp [q1]
    rw [HF.out]
    by_cases q1 : n = 0
    · have d0 : decide (n = 0) = true := by simpa using q1
      rw [d0, Bool.true_and]
      have d1 : ((n : Int) == 0) = true := by simp; omega
      have d2 : ((m : Int) == (a : Int)) = decide (m = a) := by
        by_cases q2 : m = a
        · simp [q2]
        · simp [q2]; omega
      clear hT h hln HF d0 hK q1
      go_enter Try.func92, Try.ntmps92
      go_wp2
      go_ret
      exact ⟨ret_of (by first | rfl | (rw [← d2]; rfl)), z0⟩
    · have d0 : decide (n = 0) = false := by simpa using q1
      rw [d0, Bool.false_and]
      have d1 : ((n : Int) == 0) = false := by simp; omega
      clear hT h hln HF d0 hK q1
      go_enter Try.func92, Try.ntmps92
      go_wp2
      go_ret
      exact ⟨rfl, z0⟩
  · have hT : ToldP K xs ys a ↔ n = 0 ∧ m = 0 := by
      unfold ToldP; rw [← hln, ← hl]
      exact ⟨fun q => q.2.2 (by omega) (by omega) h3, fun q => ⟨fun e => absurd e hK, fun e => absurd e h3, fun _ _ _ => q⟩⟩
    have k1 : (K == 1) = false := by simp; omega
    have k2 : (K == 2) = false := by simp; omega
    have k3 : (K == 3) = false := by simp; omega
    by_cases q1 : n = 0
    · by_cases q2 : m = 0
      · have HF : Hid (pB (ToldP K xs ys a) = true) := pB_t (hT.2 ⟨q1, q2⟩)
        have d1 : ((n : Int) == 0) = true := by simp; omega
        have d2 : ((m : Int) == 0) = true := by simp; omega
        clear hT h hln hK q1 q2 h3
        go_enter Try.func92, Try.ntmps92
        go_wp2
        go_ret
        exact ⟨ret_of (by rw [HF.out]; rfl), z0⟩
      · have HF : Hid (pB (ToldP K xs ys a) = false) := pB_f (fun q => q2 (hT.1 q).2)
        have d1 : ((n : Int) == 0) = true := by simp; omega
        have d2 : ((m : Int) == 0) = false := by simp; omega
        clear hT h hln hK q1 q2 h3
        go_enter Try.func92, Try.ntmps92
        go_wp2
        go_ret
        exact ⟨ret_of (by rw [HF.out]; rfl), z0⟩
    · have HF : Hid (pB (ToldP K xs ys a) = false) := pB_f (fun q => q1 (hT.1 q).1)
      have d1 : ((n : Int) == 0) = false := by simp; omega
      clear hT h hln hK q1 h3
      go_enter Try.func92, Try.ntmps92
      go_wp2
      go_ret
      exact ⟨ret_of (by rw [HF.out]; rfl), z0⟩
end Go.Proofs.Yteepiifhmbcciaa
/- The contracts of level.Check's function, of slices.IndexFunc and ContainsFunc asked by it, and of level's rises. -/
namespace Go.Proofs.Yteepiifhmbcciaa
open Go.RowKit

def outB (S y : Int) : Bool := !(decide (0 ≤ y) && decide (y < S))
set_option maxRecDepth 100000 in
theorem check1_any (K S : Int) (A B : Option Addr) (n c m e g : Nat) (y : Int) (w : World) (hg : w.heap[g]? = some (lvO K S A n c B m e)) :
    Calls Try.prog 93 #[.int .i64 y, .pointer (some ⟨g, 0, none⟩)] w fun x w' => x = .returned (.bool (outB S y)) ∧ Below w.heap.size w w' := by
  have HC := fun W => lvInside_any K S A B n c m e y W
  obtain ⟨k0, k1, k2, k3, _⟩ := lvCells hg
  unfold outB
  obtain ⟨b, hb⟩ : ∃ b, (decide (0 ≤ y) && decide (y < S)) = b := ⟨_, rfl⟩
  rw [hb] at HC ⊢
  clear hb hg
  go_enter Try.func93, Try.ntmps93
  go_wp2_with (go_at_call 94; refine (HC _).mono ?_; rintro x w1 ⟨rfl, hb1⟩)
  go_ret
  exact ⟨rfl, hb1⟩

set_option maxRecDepth 100000 in
theorem indexOut_any (K S : Int) (A B : Option Addr) (n c m e g : Nat) (A2 : Option Addr) (n2 c2 : Nat) (zs : List Int) (w : World) (hg : w.heap[g]? = some (lvO K S A n c B m e)) (h : Ints w w.heap.size A2 n2 zs) (hn : n2 ≤ 100000) :
    Calls Try.prog 97 #[.slice A2 n2 c2, .func (.func 93) #[] #[.pointer (some ⟨g, 0, none⟩)]] w fun x w' => ∃ r : Int, x = .returned (.int .i64 r) ∧ decide (0 ≤ r) = zs.any (outB S) ∧ Below w.heap.size w w' := by
  have HL : Hid (zs.length = n2) := h.1
  go_enter Try.func97, Try.ntmps97
  go_wp2
  go_loopw [8] (fun i wr => ∃ k : Nat, k ≤ n2 ∧ i = .int .i64 k ∧ Hid ((zs.take k).any (outB S) = false) ∧ Below w.heap.size w wr) (fun i _ => n2 - (intOf i).toNat)
  case atStart => exact ⟨0, Nat.zero_le _, rfl, by unfold Hid; simp, Below.refl _ _⟩
  case round =>
    obtain ⟨k, hk, rfl, HK, hb⟩ := hrel
    by_cases hlt : k < n2
    · obtain ⟨b, off, y, rfl, _, HX, hc, hx1, hx2⟩ := (h.below hb).at_ hlt
      have HC := check1_any K S A B n c m e g y wr (oKeep hb hg)
      by_cases ho : outB S y = true
      · rw [ho] at HC
        have HF : Hid (zs.any (outB S) = true) := any_hit HX.out ho
        clear ho
        go_wp2_with (go_at_call 93; refine HC.mono ?_; rintro x w1 ⟨rfl, hb1⟩; have hb2 := hb.trans (hb1.mono hb.size))
        go_ret
        exact ⟨k, rfl, by rw [HF.out]; simp, hb2⟩
      · have ho' : outB S y = false := by simpa using ho
        rw [ho'] at HC
        have HN : Hid ((zs.take (k + 1)).any (outB S) = false) := any_miss HK.out HX.out ho'
        clear ho ho'
        go_wp2_with (go_at_call 93; refine HC.mono ?_; rintro x w1 ⟨rfl, hb1⟩; have hb2 := hb.trans (hb1.mono hb.size))
        go_roundw
        case rel => exact ⟨k + 1, by omega, by go_num, HN, hb2⟩
        case measure => simp [intOf]; omega
    · have HF : Hid (zs.any (outB S) = false) := any_all HK.out HL.out (by omega)
      go_wp2
      go_ret
      exact ⟨-1, rfl, by rw [HF.out]; rfl, hb⟩

set_option maxRecDepth 100000 in
theorem containsOut_any (K S : Int) (A B : Option Addr) (n c m e g : Nat) (A2 : Option Addr) (n2 c2 : Nat) (zs : List Int) (w : World) (hg : w.heap[g]? = some (lvO K S A n c B m e)) (h : Ints w w.heap.size A2 n2 zs) (hn : n2 ≤ 100000) :
    Calls Try.prog 84 #[.slice A2 n2 c2, .func (.func 93) #[] #[.pointer (some ⟨g, 0, none⟩)]] w fun x w' => x = .returned (.bool (!(pB (InsP S zs)))) ∧ Below w.heap.size w w' := by
  have HC := indexOut_any K S A B n c m e g A2 n2 c2 zs w hg h hn
  have HQ : Hid (zs.any (outB S) = !(pB (InsP S zs))) := by
    unfold Hid
    cases hh : zs.any (outB S) with
    | true =>
      obtain ⟨y, hy, ho⟩ := List.any_eq_true.1 hh
      rw [pB_f (fun hi : InsP S zs => by have := hi y hy; unfold outB at ho; simp at ho; omega)]; rfl
    | false =>
      rw [List.any_eq_false] at hh
      rw [pB_t (P := InsP S zs) (fun y hy => by have := hh y hy; unfold outB at this; simp at this; omega)]; rfl
  go_enter Try.func84, Try.ntmps84
  go_wp2_with (go_at_call 97; refine HC.mono ?_; rintro x w1 ⟨r, rfl, hr, hb1⟩; have HR := Lib.hid hr; clear hr)
  go_ret
  exact ⟨ret_of (by rw [← HQ.out, ← HR.out]; rfl), hb1⟩

set_option maxRecDepth 100000 in
set_option maxHeartbeats 4000000 in
theorem rises_1 (S : Int) (A B : Option Addr) (n c m e a : Nat) (xs ys : List Int) (w : World) (h : Ints w w.heap.size A n xs) (hv : Ints w w.heap.size B m ys) (hm : m ≤ 65536) (ha : a ≤ 1048576) (hT : ToldP 1 xs ys a) (hI : InsP S ys) (hS : S ≤ 2147483648) :
    Calls Try.prog 95 #[lvV 1 S A n c B m e, .int .i64 a] w fun x w' => x = .returned (.bool (pB (RiseP 1 xs ys a))) ∧ Below w.heap.size w w' := by
  have hK : (1 : Int) = 1 ∨ (1 : Int) = 2 := by omega
  obtain ⟨hx1, hx2, hx3, hx4⟩ := (told_pos hK xs ys a).1 hT
  have HLm : Hid (ys.length = m) := hv.1
  have HLn : Hid (xs.length = n) := h.1
  have hn : n ≤ 1048577 := by rw [← h.1, hx1]; omega
  have HX : Hid (∀ p, p < a → ∃ x z : Nat, xs[p]? = some (x : Int) ∧ xs[p + 1]? = some (z : Int) ∧ x ≤ m ∧ z ≤ m) := by
    intro p hp
    have u1 := List.getElem?_eq_getElem (l := xs) (i := p) (by omega)
    have u2 := List.getElem?_eq_getElem (l := xs) (i := p + 1) (by omega)
    have l1 := sortP_le hx4 (Nat.zero_le _) hx2 u1
    have l2 := sortP_le hx4 (Nat.zero_le _) hx2 u2
    have r1 := sortP_le hx4 (by omega) u1 hx3
    have r2 := sortP_le hx4 (by omega) u2 hx3
    rw [hv.1] at r1 r2
    refine ⟨(xs[p]'(by omega)).toNat, (xs[p + 1]'(by omega)).toNat, ?_, ?_, by omega, by omega⟩
    · rw [u1]; congr 1; omega
    · rw [u2]; congr 1; omega
  have HY : Hid (∀ y ∈ ys, 0 ≤ y ∧ y < 2147483648) := fun y hy => by have := hI y hy; omega
  have HSP := fun (p : Nat) (x z : Int) W (hb : Below w.heap.size w W) (q1 : xs[p]? = some x) (q2 : xs[p + 1]? = some z) => span_pos 1 S hK A B n c m e p xs x z W ((h.below hb).more hb.size) hn q1 q2
  have z0 := lvBelow w (lvO 1 S A n c B m e)
  have zz := heap_alloc_new w (lvO 1 S A n c B m e)
  clear hT hI hx1 hx2 hx3 hx4 hK
  go_enter Try.func95, Try.ntmps95
  go_wp2
  go_loopw [17] (fun i wr => ∃ p : Nat, p ≤ a ∧ i = .int .i64 p ∧ Hid (∀ q, q < p → RiseAt 1 xs ys q) ∧ wr.heap[w.heap.size]? = some (lvO 1 S A n c B m e) ∧ Below w.heap.size w wr) (fun i _ => a - (intOf i).toNat)
  case atStart => exact ⟨0, Nat.zero_le _, rfl, by unfold Hid; intro q hq; omega, zz, z0⟩
  case round =>
    clear zz z0
    obtain ⟨p, hp, rfl, HR, hblk, hb⟩ := hrel
    by_cases hlt : p < a
    · obtain ⟨x, z, hxx, hzz, hxm, hzm⟩ := HX.out p hlt
      have HC := HSP p x z wr hb hxx hzz
      have HXX := Lib.hid hxx
      have HZZ := Lib.hid hzz
      clear hxx hzz HSP
      obtain ⟨k0, k1, k2, k3, _⟩ := lvCells hblk
      go_wp2_with (go_at_call 101; refine HC.mono ?_; rintro x w1 ⟨rfl, hb1⟩; replace hblk := oKeep hb1 hblk; replace hb := hb.trans (hb1.mono hb.size))
      clear hb1 HC k0 k1 k2 k3
      obtain ⟨wo, rfl⟩ : ∃ wo : World, wo = w1 := ⟨_, rfl⟩
      go_loopw [9] (fun i wr => ∃ k q : Nat, x + 1 ≤ k ∧ (k ≤ x + 1 ∨ k ≤ z) ∧ i = .int .i64 k ∧ wr = wo.drewN q ∧ Hid (∀ (j : Nat) (u v : Int), x + 1 ≤ j → j < k → ys[j - 1]? = some u → ys[j]? = some v → u + 1 ≤ v)) (fun i _ => z - (intOf i).toNat)
      case atStart => exact ⟨x + 1, 0, Nat.le_refl _, .inl (Nat.le_refl _), by go_num, rfl, by unfold Hid; intro j u v h1 h2; omega⟩
      case round =>
        obtain ⟨k, q, hk1, hk2, rfl, rfl, HJ⟩ := hrel
        obtain ⟨k0, k1, k2, k3, _⟩ := lvCells hblk
        by_cases hlt2 : k < z
        · obtain ⟨b, off, v, rfl, _, HV, hc, hv1, hv2⟩ := (hv.below hb).at_ (k := k) (by omega)
          obtain ⟨b2, off2, u, e2, _, HU, hc2, hu1, hu2⟩ := (hv.below hb).at_ (k := k - 1) (by omega)
          injection e2 with e2; injection e2 with e2 e3; subst e2; subst e3
          have hu := HY.out u (List.mem_of_getElem? HU.out)
          have e1 : IntKind.i64.wrap ((k : Int) - 1) = (k : Int) - 1 := by rw [IntWalk.i64_in _ (by omega)]
          have e2 : IntKind.i64.wrap (u + 1) = u + 1 := by rw [IntWalk.i64_in _ (by omega)]
          have g0 : (0 : Int) ≤ k := by omega
          have g1 : (k : Int) < m := by omega
          have g3 : (0 : Int) ≤ (k : Int) - 1 := by omega
          have g4 : ((k : Int) - 1).toNat = k - 1 := by omega
          have g5 : (1 : Int) ≤ k := by omega
          have g6 : (k : Int) - 1 < m := by omega
          have g7 : (k : Int) < m + 1 := by omega
          have g8 : 1 ≤ k := by omega
          have g9 : u + 1 ≤ 4294967296 := by omega
          by_cases huv : v < u + 1
          · have HF : Hid (pB (RiseP 1 xs ys a) = false) := pB_f (fun hr => by
              have := hr (by omega) p (by omega) k x z u v HXX.out HZZ.out (by omega) (by omega) HU.out HV.out
              unfold byI at this; simp at this; omega)
            have d1 : decide (v < u + 1) = true := by simpa using huv
            have d2 : decide (v ≤ u) = true := by simp; omega
            clear huv hu
            go_wp2
            go_quiet (fail)
            go_wp2
            go_ret
            exact ⟨ret_of (by rw [HF.out]; rfl), below_drewN2 (below_drewN2 hb _) _⟩
          · have HN : Hid (∀ (j : Nat) (u v : Int), x + 1 ≤ j → j < k + 1 → ys[j - 1]? = some u → ys[j]? = some v → u + 1 ≤ v) := by
              intro j u' v' h1 h2 h3 h4
              by_cases ej : j = k
              · subst ej
                rw [HU.out] at h3; rw [HV.out] at h4
                injection h3 with h3; injection h4 with h4; omega
              · exact HJ.out j u' v' h1 (by omega) h3 h4
            have d1 : decide (v < u + 1) = false := by simpa using huv
            have d2 : decide (v ≤ u) = false := by simp; omega
            clear huv hu
            go_wp2
            go_quiet (fail)
            go_wp2
            go_roundw
            case rel => exact ⟨k + 1, _, by omega, by omega, by go_num, rfl, HN⟩
            case measure => simp [intOf]; omega
        · have HN : Hid (∀ q, q < p + 1 → RiseAt 1 xs ys q) := by
            intro q' hq
            by_cases e' : q' = p
            · subst e'
              intro j x' z' u v h1 h2 h3 h4 h5 h6
              rw [HXX.out] at h1; rw [HZZ.out] at h2
              injection h1 with h1; injection h2 with h2
              have := HJ.out j u v (by omega) (by omega) h5 h6
              unfold byI; simp; omega
            · exact HR.out q' (by omega)
          go_wp2
          go_roundw
          case rel => exact ⟨p + 1, by omega, by go_num, HN, hblk, below_drewN2 hb _⟩
          case measure => simp [intOf]; omega
    · have HF : Hid (pB (RiseP 1 xs ys a) = true) := pB_t (fun _ p' hp' => HR.out p' (by omega))
      go_wp2
      go_ret
      exact ⟨ret_of (by rw [HF.out]; rfl), hb⟩

set_option maxRecDepth 100000 in
set_option maxHeartbeats 4000000 in
theorem rises_2 (S : Int) (A B : Option Addr) (n c m e a : Nat) (xs ys : List Int) (w : World) (h : Ints w w.heap.size A n xs) (hv : Ints w w.heap.size B m ys) (hm : m ≤ 65536) (ha : a ≤ 1048576) (hT : ToldP 2 xs ys a) (hI : InsP S ys) (hS : S ≤ 2147483648) :
    Calls Try.prog 95 #[lvV 2 S A n c B m e, .int .i64 a] w fun x w' => x = .returned (.bool (pB (RiseP 2 xs ys a))) ∧ Below w.heap.size w w' := by
  have hK : (2 : Int) = 1 ∨ (2 : Int) = 2 := by omega
  obtain ⟨hx1, hx2, hx3, hx4⟩ := (told_pos hK xs ys a).1 hT
  have HLm : Hid (ys.length = m) := hv.1
  have HLn : Hid (xs.length = n) := h.1
  have hn : n ≤ 1048577 := by rw [← h.1, hx1]; omega
  have HX : Hid (∀ p, p < a → ∃ x z : Nat, xs[p]? = some (x : Int) ∧ xs[p + 1]? = some (z : Int) ∧ x ≤ m ∧ z ≤ m) := by
    intro p hp
    have u1 := List.getElem?_eq_getElem (l := xs) (i := p) (by omega)
    have u2 := List.getElem?_eq_getElem (l := xs) (i := p + 1) (by omega)
    have l1 := sortP_le hx4 (Nat.zero_le _) hx2 u1
    have l2 := sortP_le hx4 (Nat.zero_le _) hx2 u2
    have r1 := sortP_le hx4 (by omega) u1 hx3
    have r2 := sortP_le hx4 (by omega) u2 hx3
    rw [hv.1] at r1 r2
    refine ⟨(xs[p]'(by omega)).toNat, (xs[p + 1]'(by omega)).toNat, ?_, ?_, by omega, by omega⟩
    · rw [u1]; congr 1; omega
    · rw [u2]; congr 1; omega
  have HY : Hid (∀ y ∈ ys, 0 ≤ y ∧ y < 2147483648) := fun y hy => by have := hI y hy; omega
  have HSP := fun (p : Nat) (x z : Int) W (hb : Below w.heap.size w W) (q1 : xs[p]? = some x) (q2 : xs[p + 1]? = some z) => span_pos 2 S hK A B n c m e p xs x z W ((h.below hb).more hb.size) hn q1 q2
  have z0 := lvBelow w (lvO 2 S A n c B m e)
  have zz := heap_alloc_new w (lvO 2 S A n c B m e)
  clear hT hI hx1 hx2 hx3 hx4 hK
  go_enter Try.func95, Try.ntmps95
  go_wp2
  go_loopw [17] (fun i wr => ∃ p : Nat, p ≤ a ∧ i = .int .i64 p ∧ Hid (∀ q, q < p → RiseAt 2 xs ys q) ∧ wr.heap[w.heap.size]? = some (lvO 2 S A n c B m e) ∧ Below w.heap.size w wr) (fun i _ => a - (intOf i).toNat)
  case atStart => exact ⟨0, Nat.zero_le _, rfl, by unfold Hid; intro q hq; omega, zz, z0⟩
  case round =>
    clear zz z0
    obtain ⟨p, hp, rfl, HR, hblk, hb⟩ := hrel
    by_cases hlt : p < a
    · obtain ⟨x, z, hxx, hzz, hxm, hzm⟩ := HX.out p hlt
      have HC := HSP p x z wr hb hxx hzz
      have HXX := Lib.hid hxx
      have HZZ := Lib.hid hzz
      clear hxx hzz HSP
      obtain ⟨k0, k1, k2, k3, _⟩ := lvCells hblk
      go_wp2_with (go_at_call 101; refine HC.mono ?_; rintro x w1 ⟨rfl, hb1⟩; replace hblk := oKeep hb1 hblk; replace hb := hb.trans (hb1.mono hb.size))
      clear hb1 HC k0 k1 k2 k3
      obtain ⟨wo, rfl⟩ : ∃ wo : World, wo = w1 := ⟨_, rfl⟩
      go_loopw [9] (fun i wr => ∃ k q : Nat, x + 1 ≤ k ∧ (k ≤ x + 1 ∨ k ≤ z) ∧ i = .int .i64 k ∧ wr = wo.drewN q ∧ Hid (∀ (j : Nat) (u v : Int), x + 1 ≤ j → j < k → ys[j - 1]? = some u → ys[j]? = some v → u + 0 ≤ v)) (fun i _ => z - (intOf i).toNat)
      case atStart => exact ⟨x + 1, 0, Nat.le_refl _, .inl (Nat.le_refl _), by go_num, rfl, by unfold Hid; intro j u v h1 h2; omega⟩
      case round =>
        obtain ⟨k, q, hk1, hk2, rfl, rfl, HJ⟩ := hrel
        obtain ⟨k0, k1, k2, k3, _⟩ := lvCells hblk
        by_cases hlt2 : k < z
        · obtain ⟨b, off, v, rfl, _, HV, hc, hv1, hv2⟩ := (hv.below hb).at_ (k := k) (by omega)
          obtain ⟨b2, off2, u, e2, _, HU, hc2, hu1, hu2⟩ := (hv.below hb).at_ (k := k - 1) (by omega)
          injection e2 with e2; injection e2 with e2 e3; subst e2; subst e3
          have hu := HY.out u (List.mem_of_getElem? HU.out)
          have e1 : IntKind.i64.wrap ((k : Int) - 1) = (k : Int) - 1 := by rw [IntWalk.i64_in _ (by omega)]
          have e2 : IntKind.i64.wrap (u + 0) = u + 0 := by rw [IntWalk.i64_in _ (by omega)]
          have g0 : (0 : Int) ≤ k := by omega
          have g1 : (k : Int) < m := by omega
          have g3 : (0 : Int) ≤ (k : Int) - 1 := by omega
          have g4 : ((k : Int) - 1).toNat = k - 1 := by omega
          have g5 : (1 : Int) ≤ k := by omega
          have g6 : (k : Int) - 1 < m := by omega
          have g7 : (k : Int) < m + 1 := by omega
          have g8 : 1 ≤ k := by omega
          have e4 : IntKind.i64.wrap u = u := by rw [IntWalk.i64_in _ (by omega)]
          by_cases huv : v < u + 0
          · have HF : Hid (pB (RiseP 2 xs ys a) = false) := pB_f (fun hr => by
              have := hr (by omega) p (by omega) k x z u v HXX.out HZZ.out (by omega) (by omega) HU.out HV.out
              unfold byI at this; simp at this; omega)
            have d1 : decide (v < u + 0) = true := by simpa using huv
            have d2 : decide (v < u) = true := by simp; omega
            clear huv hu
            go_wp2
            go_quiet (fail)
            go_wp2
            go_ret
            exact ⟨ret_of (by rw [HF.out]; rfl), below_drewN2 (below_drewN2 hb _) _⟩
          · have HN : Hid (∀ (j : Nat) (u v : Int), x + 1 ≤ j → j < k + 1 → ys[j - 1]? = some u → ys[j]? = some v → u + 0 ≤ v) := by
              intro j u' v' h1 h2 h3 h4
              by_cases ej : j = k
              · subst ej
                rw [HU.out] at h3; rw [HV.out] at h4
                injection h3 with h3; injection h4 with h4; omega
              · exact HJ.out j u' v' h1 (by omega) h3 h4
            have d1 : decide (v < u + 0) = false := by simpa using huv
            have d2 : decide (v < u) = false := by simp; omega
            clear huv hu
            go_wp2
            go_quiet (fail)
            go_wp2
            go_roundw
            case rel => exact ⟨k + 1, _, by omega, by omega, by go_num, rfl, HN⟩
            case measure => simp [intOf]; omega
        · have HN : Hid (∀ q, q < p + 1 → RiseAt 2 xs ys q) := by
            intro q' hq
            by_cases e' : q' = p
            · subst e'
              intro j x' z' u v h1 h2 h3 h4 h5 h6
              rw [HXX.out] at h1; rw [HZZ.out] at h2
              injection h1 with h1; injection h2 with h2
              have := HJ.out j u v (by omega) (by omega) h5 h6
              unfold byI; simp; omega
            · exact HR.out q' (by omega)
          go_wp2
          go_roundw
          case rel => exact ⟨p + 1, by omega, by go_num, HN, hblk, below_drewN2 hb _⟩
          case measure => simp [intOf]; omega
    · have HF : Hid (pB (RiseP 2 xs ys a) = true) := pB_t (fun _ p' hp' => HR.out p' (by omega))
      go_wp2
      go_ret
      exact ⟨ret_of (by rw [HF.out]; rfl), hb⟩


set_option maxRecDepth 100000 in
theorem rises_any (K S : Int) (A B : Option Addr) (n c m e a : Nat) (xs ys : List Int) (w : World) (h : Ints w w.heap.size A n xs) (hv : Ints w w.heap.size B m ys) (hm : m ≤ 65536) (ha : a ≤ 1048576) (hT : ToldP K xs ys a) (hI : InsP S ys) (hS : S ≤ 2147483648) :
    Calls Try.prog 95 #[lvV K S A n c B m e, .int .i64 a] w fun x w' => x = .returned (.bool (pB (RiseP K xs ys a))) ∧ Below w.heap.size w w' := by
  by_cases h1 : K = 1
  · subst h1; exact rises_1 S A B n c m e a xs ys w h hv hm ha hT hI hS
  by_cases h2 : K = 2
  · subst h2; exact rises_2 S A B n c m e a xs ys w h hv hm ha hT hI hS
  have HF : Hid (pB (RiseP K xs ys a) = true) := pB_t (fun e => by omega)
  have k1 : (K == 1) = false := by simp; omega
  have k2 : (K == 2) = false := by simp; omega
  have z0 := lvBelow w (lvO K S A n c B m e)
  clear h1 h2 hT hI
  go_enter Try.func95, Try.ntmps95
  go_wp2
  go_ret
  exact ⟨ret_of (by rw [HF.out]; rfl), z0⟩
end Go.Proofs.Yteepiifhmbcciaa
/- The contract of level.Check: its error is lvF. -/
namespace Go.Proofs.Yteepiifhmbcciaa
open Go.RowKit

set_option maxRecDepth 100000 in
set_option maxHeartbeats 4000000 in
theorem lvCheck_any (K S a : Int) (A B : Option Addr) (n c m e : Nat) (xs ys : List Int) (w : World) (h : Ints w w.heap.size A n xs) (hn : n ≤ 9223372036854775807) (hv : Ints w w.heap.size B m ys) (hm : m ≤ 9223372036854775807) :
    Calls Try.prog 72 #[lvV K S A n c B m e, .int .i64 a] w fun x w' => x = .returned (.int .i64 (lvF K S xs ys a)) ∧ Below w.heap.size w w' := by
  have HM := fun W => may_any K S a W
  have z0 := lvBelow w (lvO K S A n c B m e)
  have zz := heap_alloc_new w (lvO K S A n c B m e)
  have HLm : Hid (ys.length = m) := hv.1
  by_cases hmay : MayP K S a
  · rw [pB_t hmay] at HM
    obtain ⟨_, _, hs0, hs1, ha0, ha1⟩ := id hmay
    obtain ⟨b, rfl⟩ : ∃ b : Nat, a = b := ⟨a.toNat, by omega⟩
    have HT := fun W (hb : Below w.heap.size w W) => told_any K S A B n c m e b xs ys W ((h.below hb).more hb.size) hn hm hv.1 (by omega)
    by_cases htold : ToldP K xs ys b
    · rw [pB_t htold] at HT
      have HY := fun W => many_any K S b A B n c m e ys W hv.1 hm ha0 ha1 hs0 hs1
      obtain ⟨M, hM⟩ : ∃ M, manyF K S ys b = M := ⟨_, rfl⟩
      rw [hM] at HY
      by_cases hlarge : 65536 < m ∨ 1048576 < M
      · have HF : Hid (lvF K S xs ys b = 2) := by
          unfold Hid lvF; rw [if_pos (pB_t ⟨hmay, htold⟩), if_pos (by rw [hM, hv.1]; exact hlarge)]
        clear hmay htold
        by_cases hm1 : 65536 < m
        · have d1 : decide (65536 < (m : Int)) = true := by simp; omega
          clear hlarge hm1 hM
          go_enter Try.func72, Try.ntmps72
          go_wp2_with (first | (go_at_call 91; refine (HM _).mono ?_; rintro x w1 ⟨rfl, rfl⟩) | (go_at_call 92; refine (HT _ z0).mono ?_; rintro x w1 ⟨rfl, hb1⟩; have hb2 := z0.trans (hb1.mono z0.size); have hk2 := oKeep hb1 zz; obtain ⟨k0, k1, k2, k3, _⟩ := lvCells hk2))
          go_ret
          exact ⟨ret_of (by rw [HF.out]; rfl), hb2⟩
        · have d1 : decide (65536 < (m : Int)) = false := by simp; omega
          have d2 : decide (1048576 < M) = true := by simp; omega
          clear hlarge hm1 hM
          go_enter Try.func72, Try.ntmps72
          go_wp2_with (first | (go_at_call 91; refine (HM _).mono ?_; rintro x w1 ⟨rfl, rfl⟩) | (go_at_call 92; refine (HT _ z0).mono ?_; rintro x w1 ⟨rfl, hb1⟩; have hb2 := z0.trans (hb1.mono z0.size); have hk2 := oKeep hb1 zz; obtain ⟨k0, k1, k2, k3, _⟩ := lvCells hk2) | (go_at_call 73; refine (HY _).mono ?_; rintro x w3 ⟨rfl, hb3⟩; have hb4 := hb2.trans (hb3.mono hb2.size); have hk4 := oKeep hb3 hk2))
          go_ret
          exact ⟨ret_of (by rw [HF.out]; rfl), hb4⟩
      · have d1 : decide (65536 < (m : Int)) = false := by simp; omega
        have d2 : decide (1048576 < M) = false := by simp; omega
        have hm1 : m ≤ 65536 := by omega
        have HI := fun W (hb : Below w.heap.size w W) (hg : W.heap[w.heap.size]? = some (lvO K S A n c B m e)) => containsOut_any K S A B n c m e w.heap.size B m e ys W hg ((hv.below hb).more hb.size) (by omega)
        by_cases hins : InsP S ys
        · rw [pB_t hins] at HI
          have HR := fun W (hb : Below w.heap.size w W) => rises_any K S A B n c m e b xs ys W ((h.below hb).more hb.size) ((hv.below hb).more hb.size) hm1 (by omega) htold hins hs1
          have HF : Hid (lvF K S xs ys b = if pB (RiseP K xs ys b) = true then 0 else 1) := by
            unfold Hid lvF; rw [if_pos (pB_t ⟨hmay, htold⟩), if_neg (by rw [hM, hv.1]; exact hlarge), if_pos (pB_t hins)]
          obtain ⟨r, hr⟩ : ∃ r, pB (RiseP K xs ys b) = r := ⟨_, rfl⟩
          rw [hr] at HF HR
          clear hmay htold hlarge hM hins hr
          cases r
          all_goals
            go_enter Try.func72, Try.ntmps72
            go_wp2_with (first | (go_at_call 91; refine (HM _).mono ?_; rintro x w1 ⟨rfl, rfl⟩) | (go_at_call 92; refine (HT _ z0).mono ?_; rintro x w1 ⟨rfl, hb1⟩; have hb2 := z0.trans (hb1.mono z0.size); have hk2 := oKeep hb1 zz; obtain ⟨k0, k1, k2, k3, _⟩ := lvCells hk2) | (go_at_call 73; refine (HY _).mono ?_; rintro x w3 ⟨rfl, hb3⟩; have hb4 := hb2.trans (hb3.mono hb2.size); have hk4 := oKeep hb3 hk2; obtain ⟨l0, l1, l2, l3, _⟩ := lvCells hk4) | (go_at_call 84; refine (HI _ hb4 hk4).mono ?_; rintro x w5 ⟨rfl, hb5⟩; have hb6 := hb4.trans (hb5.mono hb4.size); have hk6 := oKeep hb5 hk4; obtain ⟨p0, p1, p2, p3, _⟩ := lvCells hk6) | (go_at_call 95; refine (HR _ hb6).mono ?_; rintro x w7 ⟨rfl, hb7⟩; have hb8 := hb6.trans (hb7.mono hb6.size)))
            go_ret
            exact ⟨ret_of (by rw [HF.out]; rfl), hb8⟩
        · rw [pB_f hins] at HI
          have HF : Hid (lvF K S xs ys b = 3) := by
            unfold Hid lvF; rw [if_pos (pB_t ⟨hmay, htold⟩), if_neg (by rw [hM, hv.1]; exact hlarge), if_neg (by rw [pB_f hins]; decide)]
          clear hmay htold hlarge hM hins
          go_enter Try.func72, Try.ntmps72
          go_wp2_with (first | (go_at_call 91; refine (HM _).mono ?_; rintro x w1 ⟨rfl, rfl⟩) | (go_at_call 92; refine (HT _ z0).mono ?_; rintro x w1 ⟨rfl, hb1⟩; have hb2 := z0.trans (hb1.mono z0.size); have hk2 := oKeep hb1 zz; obtain ⟨k0, k1, k2, k3, _⟩ := lvCells hk2) | (go_at_call 73; refine (HY _).mono ?_; rintro x w3 ⟨rfl, hb3⟩; have hb4 := hb2.trans (hb3.mono hb2.size); have hk4 := oKeep hb3 hk2; obtain ⟨l0, l1, l2, l3, _⟩ := lvCells hk4) | (go_at_call 84; refine (HI _ hb4 hk4).mono ?_; rintro x w5 ⟨rfl, hb5⟩; have hb6 := hb4.trans (hb5.mono hb4.size)))
          go_ret
          exact ⟨ret_of (by rw [HF.out]; rfl), hb6⟩
    · rw [pB_f htold] at HT
      have HF : Hid (lvF K S xs ys b = 1) := by
        unfold Hid lvF; rw [if_neg (by rw [pB_f (fun q => htold q.2)]; decide)]
      clear hmay htold
      go_enter Try.func72, Try.ntmps72
      go_wp2_with (first | (go_at_call 91; refine (HM _).mono ?_; rintro x w1 ⟨rfl, rfl⟩) | (go_at_call 92; refine (HT _ z0).mono ?_; rintro x w1 ⟨rfl, hb1⟩; have hb2 := z0.trans (hb1.mono z0.size)))
      go_ret
      exact ⟨ret_of (by rw [HF.out]; rfl), hb2⟩
  · rw [pB_f hmay] at HM
    have HF : Hid (lvF K S xs ys a = 1) := by
      unfold Hid lvF; rw [if_neg (by rw [pB_f (fun q => hmay q.1)]; decide)]
    clear hmay
    go_enter Try.func72, Try.ntmps72
    go_wp2_with (go_at_call 91; refine (HM _).mono ?_; rintro x w1 ⟨rfl, rfl⟩)
    go_ret
    exact ⟨ret_of (by rw [HF.out]; rfl), z0⟩
end Go.Proofs.Yteepiifhmbcciaa
/- Slices of slices of integers: how they read, those of the call's own, and one more behind them. -/
namespace Go.Proofs.Yteepiifhmbcciaa
open Go.RowKit

set_option maxRecDepth 100000 in
theorem infoRow : (Try.prog.info? 22).map (fun i => (i.zero, i.size, i.bytes)) = some (some (.slice none 0 0), 1, 24) := by kernel_rfl

/-- the header (A, n) leads to slices that read as the lists LL -/
def IntsLL (w : World) (B : Nat) (A : Option Addr) (n : Nat) (LL : List (List Int)) : Prop :=
  LL.length = n ∧ (0 < n → ∃ b off, A = some ⟨b, off, none⟩ ∧ b < B ∧ ∀ (k : Nat) (L : List Int), LL[k]? = some L → ∃ a c, w.cell? ⟨b, off + k, none⟩ = some (.slice a L.length c) ∧ L.length ≤ c ∧ Ints w B a L.length L)
theorem IntsLL.at_ {w : World} {B n k : Nat} {A : Option Addr} {LL : List (List Int)} (h : IntsLL w B A n LL) (hk : k < n) :
    ∃ b off L a c, A = some ⟨b, off, none⟩ ∧ b < B ∧ Hid (LL[k]? = some L) ∧ w.cell? ⟨b, off + k, none⟩ = some (.slice a L.length c) ∧ L.length ≤ c ∧ Ints w B a L.length L := by
  obtain ⟨hl, hc⟩ := h
  obtain ⟨b, off, rfl, hB, hx⟩ := hc (by omega)
  have hk' : k < LL.length := by omega
  obtain ⟨a, c, h1, h2, h3⟩ := hx k _ (List.getElem?_eq_getElem hk')
  exact ⟨b, off, LL[k], a, c, rfl, hB, List.getElem?_eq_getElem hk', h1, h2, h3⟩
theorem IntsLL.below {w w' : World} {B n : Nat} {A : Option Addr} {LL : List (List Int)} (h : IntsLL w B A n LL) (hb : Below B w w') : IntsLL w' B A n LL := by
  refine ⟨h.1, fun h0 => ?_⟩
  obtain ⟨b, off, rfl, hB, hx⟩ := h.2 h0
  refine ⟨b, off, rfl, hB, fun k L hL => ?_⟩
  obtain ⟨a, c, h1, h2, h3⟩ := hx k L hL
  exact ⟨a, c, (hb.cell (p := ⟨b, off + k, none⟩) hB).trans h1, h2, h3.below hb⟩
theorem IntsLL.more {w : World} {B B' n : Nat} {A : Option Addr} {LL : List (List Int)} (h : IntsLL w B A n LL) (hb : B ≤ B') : IntsLL w B' A n LL := by
  refine ⟨h.1, fun h0 => ?_⟩
  obtain ⟨b, off, rfl, hB, hx⟩ := h.2 h0
  refine ⟨b, off, rfl, by omega, fun k L hL => ?_⟩
  obtain ⟨a, c, h1, h2, h3⟩ := hx k L hL
  exact ⟨a, c, h1, h2, h3.more hb⟩
theorem IntsLL.nil_ (w : World) (B : Nat) (A : Option Addr) : IntsLL w B A 0 [] := ⟨rfl, fun h => absurd h (by omega)⟩

/-- the heads of slices of the call's own -/
def HeadsOK (w : World) (base : Nat) : List Value → List (List Int) → Prop
  | [], [] => True
  | v :: vs, L :: LL => (∃ a c, v = .slice a L.length c ∧ OwnI w base 3 a c L) ∧ HeadsOK w base vs LL
  | _, _ => False
theorem HeadsOK.len {w : World} {base : Nat} {vs : List Value} {LL : List (List Int)} (h : HeadsOK w base vs LL) : vs.length = LL.length := by
  induction vs generalizing LL with
  | nil => cases LL with | nil => rfl | cons L LL => exact h.elim
  | cons v vs ih => cases LL with | nil => exact h.elim | cons L LL => simp [ih h.2]
theorem HeadsOK.at_ {w : World} {base k : Nat} {vs : List Value} {LL : List (List Int)} {L : List Int} (h : HeadsOK w base vs LL) (hk : LL[k]? = some L) : ∃ a c, vs[k]? = some (.slice a L.length c) ∧ OwnI w base 3 a c L := by
  induction vs generalizing LL k with
  | nil => cases LL with | nil => simp at hk | cons L LL => exact h.elim
  | cons v vs ih => cases LL with
    | nil => exact h.elim
    | cons L' LL => cases k with
      | zero => simp at hk; subst hk; obtain ⟨a, c, rfl, ho⟩ := h.1; exact ⟨a, c, rfl, ho⟩
      | succ k => exact ih h.2 (by simpa using hk)
theorem HeadsOK.map {w w' : World} {base base' : Nat} {vs : List Value} {LL : List (List Int)} (h : HeadsOK w base vs LL) (hm : ∀ a c L, OwnI w base 3 a c L → OwnI w' base' 3 a c L) : HeadsOK w' base' vs LL := by
  induction vs generalizing LL with
  | nil => cases LL with | nil => trivial | cons L LL => exact h.elim
  | cons v vs ih => cases LL with
    | nil => exact h.elim
    | cons L LL => obtain ⟨⟨a, c, e, ho⟩, h2⟩ := h; exact ⟨⟨a, c, e, hm _ _ _ ho⟩, ih h2⟩
theorem HeadsOK.snoc {w : World} {base c : Nat} {a : Option Addr} {vs : List Value} {LL : List (List Int)} {L : List Int} (h : HeadsOK w base vs LL) (ho : OwnI w base 3 a c L) : HeadsOK w base (vs ++ [.slice a L.length c]) (LL ++ [L]) := by
  induction vs generalizing LL with
  | nil => cases LL with | nil => exact ⟨⟨a, c, rfl, ho⟩, trivial⟩ | cons L LL => exact h.elim
  | cons v vs ih => cases LL with
    | nil => exact h.elim
    | cons L LL => exact ⟨h.1, ih h.2⟩

/-- a slice of the call's own, of slices of the call's own -/
def OwnLL (w : World) (base : Nat) (A : Option Addr) (c : Nat) (LL : List (List Int)) : Prop :=
  ∃ vs, w.ownsRow base 22 1 (.slice A LL.length c) LL.length vs ∧ HeadsOK w base vs LL
theorem OwnLL.nil_ (w : World) (base : Nat) : OwnLL w base none 0 [] := ⟨[], w.ownsRow_nil base _ 1, trivial⟩
theorem OwnI.len_cap {w : World} {base : Nat} {e : TypeId} {A : Option Addr} {c : Nat} {xs : List Int} (h : OwnI w base e A c xs) : xs.length ≤ c := by
  rcases h.1.2 with ⟨hv, h0⟩ | ⟨g', cap, cur, hv, hb, hh, hc, _⟩
  · omega
  · injection hv with h1 h2 h3; omega
theorem OwnLL.ints {w : World} {base : Nat} {A : Option Addr} {c : Nat} {LL : List (List Int)} (h : OwnLL w base A c LL) : IntsLL w w.heap.size A LL.length LL := by
  obtain ⟨vs, hr, hh⟩ := h
  refine ⟨rfl, fun h0 => ?_⟩
  rcases hr.2 with ⟨_, h1⟩ | ⟨g, cap, cur, hv, _, hg, _⟩
  · omega
  have hA : A = some ⟨g, 0, none⟩ := by injection hv
  subst hA
  have hlt : g < w.heap.size := (hr.lt g rfl).2
  refine ⟨g, 0, rfl, hlt, fun k L hL => ?_⟩
  obtain ⟨a, c2, h1, h2⟩ := hh.at_ hL
  have hk := (List.getElem?_eq_some_iff.1 h1).1
  refine ⟨a, c2, ?_, h2.len_cap, h2.ints⟩
  rw [Nat.zero_add]
  exact (hr.cellAt k (by rw [← hh.len]; omega)).trans h1
theorem OwnLL.below {w w' : World} {base B : Nat} {A : Option Addr} {c : Nat} {LL : List (List Int)} (h : OwnLL w base A c LL) (hb : Below B w w') (hB : w.heap.size ≤ B) : OwnLL w' base A c LL := by
  obtain ⟨vs, hr, hh⟩ := h
  refine ⟨vs, ?_, hh.map fun a c L ho => ho.below hb hB⟩
  exact hr.kept ⟨hb.os, hb.tape, hb.output, hb.size, fun i hi _ => hb.block i (by omega)⟩ (row := none) (by cases hh : (Value.slice A LL.length c).ownBlock with | none => exact .inl rfl | some k => exact .inr (by simp))
theorem OwnLL.mono {w : World} {base base' : Nat} {A : Option Addr} {c : Nat} {LL : List (List Int)} (h : OwnLL w base A c LL) (hb : base' ≤ base) : OwnLL w base' A c LL := by
  obtain ⟨vs, hr, hh⟩ := h
  refine ⟨vs, ⟨hr.1, ?_⟩, hh.map fun a c L ho => ho.mono hb⟩
  rcases hr.2 with hh | ⟨g, cap, cur, h1, h2, h3⟩
  · exact .inl hh
  · exact .inr ⟨g, cap, cur, h1, by omega, h3⟩
theorem OwnLL.alloc {w : World} {base : Nat} {A : Option Addr} {c : Nat} {LL : List (List Int)} (h : OwnLL w base A c LL) (o : Obj) : OwnLL (w.alloc o) base A c LL := by
  obtain ⟨vs, hr, hh⟩ := h
  exact ⟨vs, hr.alloc o, hh.map fun a c L ho => ho.alloc o⟩

end Go.Proofs.Yteepiifhmbcciaa
