/- lexer.Check; whether each token of a list may be. -/
import Derived.Test.YtinjkakfnppjpaaG2
import Derived.Test.YtinjkakfnppjpaaG3
import Derived.Deep.QuietTactic
import Derived.BigQuiet
namespace Go.Proofs.Ytinjkakfnppjpaa
open Go.RowKit

/-- a token may be: it is the one whose text it has -/
def mayB (t : Tk) : Bool := match tokF t.s with | some u => eqTk t u | none => false
theorem mayB_iff (t : Tk) : mayB t = true ↔ mayT t := by
  unfold mayB mayT
  cases tokF t.s with
  | none => simp
  | some u =>
    simp only [eqTk_iff, Option.some.injEq]
    exact ⟨fun h => h.symm, fun h => h.symm⟩
/-- what Check gives -/
def chkE (b : Bool) : Int := if b then 0 else 1
set_option maxRecDepth 100000 in
set_option maxHeartbeats 4000000 in
theorem check_any (t : Tk) (w : World) (ht : t.s.size ≤ maxLen) : Calls Try.prog 18 #[.agg #[.int .i64 t.k, .string t.s, .int .i64 t.n]] w fun e w' => e = .returned (.int .i64 (chkE (mayB t))) ∧ Below w.heap.size w w' := by
  have cT := fun w => token_any t.s w ht
  obtain ⟨o, ho⟩ : ∃ o, Hid (tokF t.s = o) := ⟨_, Lib.hid rfl⟩
  have HB0 : Hid (Below w.heap.size w (w.alloc (.cells #[.int .i64 t.k, .string t.s, .int .i64 t.n] 35))) := (Below.refl _ _).alloc (Nat.le_refl _) _
  have hs0 : w.heap.size ≤ (w.alloc (.cells #[.int .i64 t.k, .string t.s, .int .i64 t.n] 35)).heap.size := size_allocT _ _
  have hlt0 : w.heap.size < (w.alloc (.cells #[.int .i64 t.k, .string t.s, .int .i64 t.n] 35)).heap.size := by
    show _ < (w.heap.push _).size
    rw [Array.size_push]
    omega
  have HX := Lib.hid (box_new w t)
  cases o with
  | none =>
    rw [ho.out] at cT
    change ∀ W, Calls Try.prog 21 #[.string t.s] W fun e w' => e = .returned (.tuple #[.agg #[.int .i64 0, .string ⟨#[]⟩, .int .i64 0], .bool false]) ∧ Below W.heap.size W w' at cT
    have HM : Hid (mayB t = false) := by unfold Hid mayB; rw [ho.out]
    rw [HM.out]
    clear ho
    go_enter Try.func18, Try.ntmps18
    go_wp2_with (go_at_call 21; (with_reducible refine (cT _).mono ?_); rintro e w2 ⟨rfl, hb2⟩)
    go_ret
    exact ⟨rfl, (HB0.out.trans (hb2.mono hs0)).alloc (Nat.le_trans hs0 hb2.size) _⟩
  | some u =>
    rw [ho.out] at cT
    change ∀ W, Calls Try.prog 21 #[.string t.s] W fun e w' => e = .returned (.tuple #[.agg #[.int .i64 u.k, .string u.s, .int .i64 u.n], .bool true]) ∧ Below W.heap.size W w' at cT
    obtain ⟨b, hb⟩ : ∃ b, eqTk t u = b := ⟨_, rfl⟩
    have HM : Hid (mayB t = b) := by unfold Hid mayB; rw [ho.out]; exact hb
    have hcn := fun W => tk_neq t u W
    rw [hb] at hcn
    have hgd := fun (o1 o2 : Operand) (W : World) => run_eqGuard_agg (P := Try.prog) W .neq 35 o1 o2 #[.int .i64 t.k, .string t.s, .int .i64 t.n] #[.int .i64 u.k, .string u.s, .int .i64 u.n] (by kernel_rfl)
    rw [HM.out]
    clear ho hb HM
    cases b
    all_goals
      go_enter Try.func18, Try.ntmps18
      go_wp2_with (go_at_call 21; (with_reducible refine (cT _).mono ?_); rintro e w2 ⟨rfl, hb2⟩; have HX2 := (hb2.block w.heap.size hlt0).trans HX.out; have HX3 := Lib.hid (box_new w2 u); obtain ⟨x0, x1, x2⟩ := boxCells (t := t) (w := w2.alloc (.cells #[.int .i64 u.k, .string u.s, .int .i64 u.n] 35)) (((Below.refl w2.heap.size w2).alloc (Nat.le_refl _) _).block w.heap.size (Nat.lt_of_lt_of_le hlt0 hb2.size) |>.trans HX2); obtain ⟨y0, y1, y2⟩ := boxCells HX3.out; clear HX2)
      go_ret
      exact ⟨rfl, (HB0.out.trans (hb2.mono hs0)).alloc (Nat.le_trans hs0 hb2.size) _⟩
end Go.Proofs.Ytinjkakfnppjpaa
