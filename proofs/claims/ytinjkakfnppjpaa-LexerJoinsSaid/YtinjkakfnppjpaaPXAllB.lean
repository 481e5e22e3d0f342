/- slices.ContainsFunc, as lexer.Join asks it: whether some token may not be. -/
import Derived.Test.YtinjkakfnppjpaaPXChk
namespace Go.Proofs.Ytinjkakfnppjpaa
open Go.RowKit

set_option maxRecDepth 100000 in
set_option maxHeartbeats 4000000 in
theorem bad_any (t : Tk) (w : World) (ht : t.s.size ≤ maxLen) (b : Bool) (hb : Hid (mayB t = b)) : Calls Try.prog 27 #[.agg #[.int .i64 t.k, .string t.s, .int .i64 t.n]] w fun e w' => e = .returned (.bool !b) ∧ Below w.heap.size w w' := by
  have cC := fun w => check_any t w ht
  rw [hb.out] at cC
  have HB0 : Hid (Below w.heap.size w (w.alloc (.cells #[.int .i64 t.k, .string t.s, .int .i64 t.n] 35))) := (Below.refl _ _).alloc (Nat.le_refl _) _
  have hs0 : w.heap.size ≤ (w.alloc (.cells #[.int .i64 t.k, .string t.s, .int .i64 t.n] 35)).heap.size := size_allocT _ _
  clear hb
  cases b
  · have cC1 : ∀ w, Calls Try.prog 18 #[.agg #[.int .i64 t.k, .string t.s, .int .i64 t.n]] w fun e w' => e = .returned (.int .i64 1) ∧ Below w.heap.size w w' := cC
    clear cC
    go_enter Try.func27, Try.ntmps27
    go_wp2_with (go_at_call 18; (with_reducible refine (cC1 _).mono ?_); rintro e w2 ⟨rfl, hb2⟩)
    go_ret
    exact ⟨rfl, HB0.out.trans (hb2.mono hs0)⟩
  · have cC1 : ∀ w, Calls Try.prog 18 #[.agg #[.int .i64 t.k, .string t.s, .int .i64 t.n]] w fun e w' => e = .returned (.int .i64 0) ∧ Below w.heap.size w w' := cC
    clear cC
    go_enter Try.func27, Try.ntmps27
    go_wp2_with (go_at_call 18; (with_reducible refine (cC1 _).mono ?_); rintro e w2 ⟨rfl, hb2⟩)
    go_ret
    exact ⟨rfl, HB0.out.trans (hb2.mono hs0)⟩
def IdxP (w : World) (L : List Tk) (e : Ending) (w' : World) : Prop := ∃ v : Int, e = .returned (.int .i64 v) ∧ decide (0 ≤ v) = !(L.all mayB) ∧ Below w.heap.size w w'
set_option maxRecDepth 100000 in
set_option maxHeartbeats 4000000 in
theorem indexBad_any (A : Option Addr) (n c : Nat) (L : List Tk) (w : World) (h : Toks w w.heap.size A n L) (hn : n ≤ 4398046511104) : Calls Try.prog 37 #[.slice A n c, .func (.func 27) #[] #[]] w (IdxP w L) := by
  have HN := Lib.hid h.1
  go_enter Try.func37, Try.ntmps37
  go_wp2
  go_loopw [8] (fun i wr => ∃ k : Nat, k ≤ n ∧ i = .int .i64 k ∧ Hid (∀ j x, j < k → L[j]? = some x → mayB x = true) ∧ Hid (Below w.heap.size w wr)) (fun i _ => n - (intOf i).toNat)
  case atStart => exact ⟨0, Nat.zero_le _, rfl, fun j x hj => absurd hj (by omega), Below.refl _ _⟩
  case round =>
    obtain ⟨k, hk, rfl, HA, HB⟩ := hrel
    by_cases hlt : k < n
    · obtain ⟨b, off, x, rfl, hbl, HX, hc0, hc1, hc2, hxo⟩ := (h.on HB.out (Nat.le_refl _)).at_ hlt
      have hbw : w.heap.size ≤ wr.heap.size := HB.out.size
      have hk0 : (0 : Int) ≤ k := by omega
      have hk1 : (k : Int) < n := by omega
      have hxs := hxo.2.2.2.2
      obtain ⟨m, hm⟩ : ∃ m, Hid (mayB x = m) := ⟨_, Lib.hid rfl⟩
      have cB := fun w => bad_any x w hxs m hm
      clear hxo hxs
      cases m
      · have HF : Hid (decide ((0 : Int) ≤ (k : Int)) = !(L.all mayB)) := by
          have : L.all mayB = false := by
            rw [List.all_eq_false]
            exact ⟨x, List.mem_of_getElem? HX.out, by rw [hm.out]; decide⟩
          unfold Hid
          rw [this]
          simp
        clear hm HA
        go_wp2_with (go_at_call 27; (with_reducible refine (cB _).mono ?_); rintro e w2 ⟨rfl, hb2⟩)
        go_ret
        exact ⟨k, rfl, HF.out, HB.out.trans (hb2.mono hbw)⟩
      · have HA2 : Hid (∀ j y, j < k + 1 → L[j]? = some y → mayB y = true) := fun j y hj hy => by
          by_cases e : j = k
          · subst e
            rw [HX.out] at hy
            injection hy with hy
            subst hy
            exact hm.out
          · exact HA.out j y (by omega) hy
        clear hm HA
        go_wp2_with (go_at_call 27; (with_reducible refine (cB _).mono ?_); rintro e w2 ⟨rfl, hb2⟩)
        go_roundw
        case rel => exact ⟨k + 1, by omega, by go_num, HA2, HB.out.trans (hb2.mono hbw)⟩
        case measure => simp [intOf]; omega
    · obtain rfl : n = k := by omega
      have HF : Hid (decide ((0 : Int) ≤ -1) = !(L.all mayB)) := by
        have : L.all mayB = true := by
          rw [List.all_eq_true]
          intro t ht
          obtain ⟨j, hj, e⟩ := List.getElem_of_mem ht
          exact HA.out j t (by rw [← HN.out]; exact hj) (by rw [List.getElem?_eq_getElem hj, e])
        unfold Hid
        rw [this]
        decide
      clear HA hlt
      go_wp2
      go_ret
      exact ⟨-1, rfl, HF.out, HB.out⟩
set_option maxRecDepth 100000 in
set_option maxHeartbeats 4000000 in
theorem someBad_any (A : Option Addr) (n c : Nat) (L : List Tk) (w : World) (h : Toks w w.heap.size A n L) (hn : n ≤ 4398046511104) : Calls Try.prog 26 #[.slice A n c, .func (.func 27) #[] #[]] w fun e w' => e = .returned (.bool !(L.all mayB)) ∧ Below w.heap.size w w' := by
  have cI := indexBad_any A n c L w h hn
  go_enter Try.func26, Try.ntmps26
  go_wp2_with (go_at_call 37; (with_reducible refine cI.mono ?_); rintro e w2 ⟨v, rfl, hv, hb2⟩; have HV := Lib.hid hv; clear hv)
  go_ret
  exact ⟨by rw [← HV.out]; rfl, hb2⟩
end Go.Proofs.Ytinjkakfnppjpaa
