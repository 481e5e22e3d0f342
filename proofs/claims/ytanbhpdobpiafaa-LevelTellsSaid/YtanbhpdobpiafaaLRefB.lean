/- The contracts of the document's Below and Children of no child. -/
import Derived.Test.YtanbhpdobpiafaaLRefC
import Derived.Test.YtanbhpdobpiafaaLSpan
namespace Go.Proofs.Ytanbhpdobpiafaa
open Go.RowKit

set_option maxRecDepth 100000 in
theorem refBelow_err (K S a E : Int) (A B : Option Addr) (n c m e : Nat) (xs ys : List Int) (w : World) (h : LvI w A n B m xs ys) (hn : n ≤ 100000) (hm : m ≤ 100000) (hE : lvF K S xs ys a = E) (h0 : E ≠ 0) :
    Calls Try.prog 12 #[lvV K S A n c B m e, .int .i64 a] w fun x w' => x = .returned (.tuple #[.int .i64 0, .int .i64 E]) ∧ Below w.heap.size w w' := by
  have HC := fun W (hb : Below w.heap.size w W) => lvRefCheck_any K S a A B n c m e xs ys W (h.below hb) hn hm
  rw [hE] at HC
  have z0 := lvBelow w (lvO K S A n c B m e)
  have e1 : (E == 0) = false := by simpa using h0
  have e2 : (E != 0) = true := by simpa using h0
  clear hE h0
  go_enter Try.func12, Try.ntmps12
  go_wp2_with (go_at_call 21; refine (HC _ z0).mono ?_; rintro x w1 ⟨rfl, hb1⟩; have hb2 := z0.trans (hb1.mono z0.size))
  go_ret2
  exact ⟨rfl, hb2⟩
set_option maxRecDepth 100000 in
theorem refBelow_ok (K S : Int) (a : Nat) (A B : Option Addr) (n c m e : Nat) (xs ys : List Int) (w : World) (h : LvI w A n B m xs ys) (hn : n ≤ 100000) (hm : m ≤ 100000) (hE : lvF K S xs ys a = 0) :
    Calls Try.prog 12 #[lvV K S A n c B m e, .int .i64 a] w fun x w' => x = .returned (.tuple #[.int .i64 (totN K S ys a : Nat), .int .i64 0]) ∧ Below w.heap.size w w' := by
  have HC := fun W (hb : Below w.heap.size w W) => lvRefCheck_any K S a A B n c m e xs ys W (h.below hb) hn hm
  rw [hE] at HC
  obtain ⟨b, hab, HL⟩ := lok_of hE
  obtain rfl : b = a := by omega
  have HM := fun W => refMany_any K S (b : Int) A B n c m e ys W h.crd.1 h.m1 (by omega) (by have := HL.ahead; omega) HL.size0 HL.size1
  rw [totN_eq HL.size0] at HM
  have z0 := lvBelow w (lvO K S A n c B m e)
  have zz := heap_alloc_new w (lvO K S A n c B m e)
  clear hE HL hab
  go_enter Try.func12, Try.ntmps12
  go_wp2_with (first | (go_at_call 21; refine (HC _ z0).mono ?_; rintro x w1 ⟨rfl, hb1⟩; have hb2 := z0.trans (hb1.mono z0.size); obtain ⟨k0, k1, k2, k3, _⟩ := lvCells (oKeep hb1 zz)) | (go_at_call 30; refine (HM _).mono ?_; rintro x w3 ⟨rfl, hb3⟩; have hb4 := hb2.trans (hb3.mono hb2.size)))
  go_ret2
  exact ⟨rfl, hb4⟩
set_option maxRecDepth 100000 in
theorem refChildren_none (K S a p : Int) (A B : Option Addr) (n c m e : Nat) (xs ys : List Int) (w : World) (h : LvI w A n B m xs ys) (hn : n ≤ 100000) (hm : m ≤ 100000) (hE : lvF K S xs ys a = 0) (hp : p < 0 ∨ a ≤ p) :
    Calls Try.prog 14 #[lvV K S A n c B m e, .int .i64 a, .int .i64 p] w fun x w' => x = .returned (.tuple #[.slice none 0 0, .int .i64 5]) ∧ Below w.heap.size w w' := by
  have HC := fun W (hb : Below w.heap.size w W) => lvRefCheck_any K S a A B n c m e xs ys W (h.below hb) hn hm
  rw [hE] at HC
  have z0 := lvBelow w (lvO K S A n c B m e)
  clear hE
  by_cases hp0 : p < 0
  · have d1 : decide (p < 0) = true := decide_eq_true hp0
    go_enter Try.func14, Try.ntmps14
    go_wp2_with (go_at_call 21; refine (HC _ z0).mono ?_; rintro x w1 ⟨rfl, hb1⟩; have hb2 := z0.trans (hb1.mono z0.size))
    go_ret2
    exact ⟨rfl, hb2⟩
  · have d1 : decide (p < 0) = false := decide_eq_false hp0
    have d2 : a ≤ p := by omega
    have d3 : decide (a ≤ p) = true := decide_eq_true d2
    clear hp
    go_enter Try.func14, Try.ntmps14
    go_wp2_with (go_at_call 21; refine (HC _ z0).mono ?_; rintro x w1 ⟨rfl, hb1⟩; have hb2 := z0.trans (hb1.mono z0.size))
    go_ret2
    exact ⟨rfl, hb2⟩
set_option maxRecDepth 100000 in
theorem refChildren_err (K S a p E : Int) (A B : Option Addr) (n c m e : Nat) (xs ys : List Int) (w : World) (h : LvI w A n B m xs ys) (hn : n ≤ 100000) (hm : m ≤ 100000) (hE : lvF K S xs ys a = E) (h0 : E ≠ 0) :
    Calls Try.prog 14 #[lvV K S A n c B m e, .int .i64 a, .int .i64 p] w fun x w' => x = .returned (.tuple #[.slice none 0 0, .int .i64 E]) ∧ Below w.heap.size w w' := by
  have HC := fun W (hb : Below w.heap.size w W) => lvRefCheck_any K S a A B n c m e xs ys W (h.below hb) hn hm
  rw [hE] at HC
  have z0 := lvBelow w (lvO K S A n c B m e)
  have e1 : (E == 0) = false := by simpa using h0
  have e2 : (E != 0) = true := by simpa using h0
  clear hE h0
  go_enter Try.func14, Try.ntmps14
  go_wp2_with (go_at_call 21; refine (HC _ z0).mono ?_; rintro x w1 ⟨rfl, hb1⟩; have hb2 := z0.trans (hb1.mono z0.size))
  go_ret2
  exact ⟨rfl, hb2⟩
end Go.Proofs.Ytanbhpdobpiafaa
