/- The contracts of slices.IsSorted and slices.ContainsFunc at []int (asked by level.Check's function), of level's told. -/
import Derived.Test.YtanbhpdobpiafaaLSpan
namespace Go.Proofs.Ytanbhpdobpiafaa
open Go.RowKit

theorem quiet2 {P : Program} {f : FuncId} {args : Array Value} {w : World} {m n : Nat} {v : Value}
    (h : Calls P f args (w.drewN (m + n)) fun e w' => e = .returned v ∧ w' = w.drewN (m + n)) : Calls P f args (w.drewN (m + n)) fun e w'' => e = .returned v ∧ ∃ q, w'' = w.drewN (m + q) :=
  h.mono fun _ _ ⟨he, hm⟩ => ⟨he, n, hm⟩
def SortFrom (xs : List Int) (k : Nat) : Prop := ∀ (j : Nat) (x y : Int), k ≤ j → xs[j]? = some x → xs[j + 1]? = some y → x ≤ y
theorem sortFrom_last {xs : List Int} {k : Nat} (h : xs.length ≤ k + 1) : SortFrom xs k := by
  intro j x y hj _ hy
  have := (List.getElem?_eq_some_iff.1 hy).1
  omega
theorem sortFrom_pred {xs : List Int} {k : Nat} (h : SortFrom xs k) (hk : 0 < k) {x y : Int} (hx : xs[k - 1]? = some x) (hy : xs[k]? = some y) (hxy : x ≤ y) : SortFrom xs (k - 1) := by
  intro j u v hj hu hv
  by_cases e : j = k - 1
  · subst e
    rw [hx] at hu
    rw [show k - 1 + 1 = k by omega, hy] at hv
    injection hu with hu; injection hv with hv; omega
  · exact h j u v (by omega) hu hv

set_option maxRecDepth 100000 in
set_option maxHeartbeats 1000000 in
theorem isSorted_any (A : Option Addr) (n c : Nat) (xs : List Int) (w : World) (B : Nat) (h : Ints w B A n xs) (hn : n ≤ 1048577) :
    Calls Try.prog 51 #[.slice A n c] w fun e w' => e = .returned (.bool (pB (SortP xs))) ∧ ∃ m, w' = w.drewN m := by
  have HL : Hid (xs.length = n) := h.1
  have hL := fun x y W => (less_any x y W).mono (fun (e : Ending) W' hh => (⟨hh.1, hh.2.symm⟩ : e = .returned (.bool (decide (x < y))) ∧ W' = W))
  rcases Nat.eq_zero_or_pos n with rfl | hpos
  · have HF : Hid (pB (SortP xs) = true) := pB_t (fun k x y hx _ => by have := (List.getElem?_eq_some_iff.1 hx).1; have := HL.out; omega)
    go_enter Try.func51, Try.ntmps51
    go_wp2
    go_loopw [3] (fun i wr => i = .int .i64 (-1) ∧ wr = w) (fun _ _ => 0)
    case atStart => exact ⟨rfl, rfl⟩
    case round =>
      obtain ⟨rfl, rfl⟩ := hrel
      go_wp2
      go_ret
      exact ⟨ret_of (by rw [HF.out]; rfl), 0, rfl⟩
  · go_enter Try.func51, Try.ntmps51
    go_wp2
    go_loopw [3] (fun i wr => ∃ k m : Nat, k < n ∧ i = .int .i64 k ∧ wr = w.drewN m ∧ Hid (SortFrom xs k)) (fun i _ => (intOf i).toNat)
    case atStart => exact ⟨n - 1, 0, by omega, by go_num, rfl, sortFrom_last (by rw [HL.out]; omega)⟩
    case round =>
      obtain ⟨k, m, hk, rfl, rfl, HS⟩ := hrel
      by_cases hk0 : 0 < k
      · obtain ⟨b, off, y, rfl, _, HY, hc, hy1, hy2⟩ := h.at_ hk
        obtain ⟨b2, off2, x, e2, _, HX, hc2, hx1, hx2⟩ := h.at_ (k := k - 1) (by omega)
        injection e2 with e2; injection e2 with e2 e3; subst e2; subst e3
        have e1 : IntKind.i64.wrap ((k : Int) - 1) = (k : Int) - 1 := by rw [IntWalk.i64_in _ (by omega)]
        have g0 : (0 : Int) ≤ k := by omega
        have g1 : (k : Int) < n := by omega
        have g2 : (k : Int) - 1 < n := by omega
        have g3 : (0 : Int) ≤ (k : Int) - 1 := by omega
        have g4 : ((k : Int) - 1).toNat = k - 1 := by omega
        have g5 : (1 : Int) ≤ k := by omega
        have g6 : (k : Int) - 1 < n := by omega
        have g7 : (k : Int) < n + 1 := by omega
        have g8 : 1 ≤ k := by omega
        by_cases hxy : y < x
        · have d1 : decide (y < x) = true := by simpa using hxy
          have HF : Hid (pB (SortP xs) = false) := pB_f (fun hs => by have := hs (k - 1) x y HX.out (by rw [show k - 1 + 1 = k by omega]; exact HY.out); omega)
          clear hxy
          have hL2 := hL y x
          rw [d1] at hL2
          clear hL
          go_wp2
          go_quiet ((go_at_call 49; exact quiet2 (hL2 _)))
          go_wp2
          go_ret
          exact ⟨ret_of (by rw [HF.out]; rfl), _, World.drewN_drewN _ _ _⟩
        · have d1 : decide (y < x) = false := by simpa using hxy
          have HN : Hid (SortFrom xs (k - 1)) := sortFrom_pred HS.out hk0 HX.out HY.out (by omega)
          clear hxy
          have hL2 := hL y x
          rw [d1] at hL2
          clear hL
          go_wp2
          go_quiet ((go_at_call 49; exact quiet2 (hL2 _)))
          go_wp2
          go_roundw
          case rel => exact ⟨k - 1, _, by omega, by go_num, rfl, HN⟩
          case measure => simp [intOf]; omega
      · obtain rfl : k = 0 := by omega
        have HF : Hid (pB (SortP xs) = true) := pB_t (fun j x y hx hy => HS.out j x y (Nat.zero_le _) hx hy)
        go_wp2
        go_ret
        exact ⟨ret_of (by rw [HF.out]; rfl), _, rfl⟩
end Go.Proofs.Ytanbhpdobpiafaa
