/- purflelaw04.LevelAll returns true where its guard leaves it at once. -/
import Derived.Test.YtanbhpdobpiafaaLFew
namespace Go.Proofs.Ytanbhpdobpiafaa
open Go.RowKit

def AllP (K S a : Int) (xs ys : List Int) (n m : Nat) : Prop := FewP K S a n m ∧ m ≤ 300 ∧ a ≤ 100 ∧ (wholeB K = true → S ≤ 100) ∧ lvF K S xs ys a = 0
set_option maxRecDepth 100000 in
set_option maxHeartbeats 4000000 in
theorem levelAll_exit (K S a : Int) (A B : Option Addr) (n c m e : Nat) (xs ys : List Int) (w : World) (h : LvI w A n B m xs ys) (_hme : m ≤ e) (_ha1 : -9223372036854775808 ≤ a) (_ha2 : a ≤ 9223372036854775807) (hx : ¬ AllP K S a xs ys n m) :
    Calls Try.prog 5 #[lvV K S A n c B m e, .int .i64 a] w fun x w' => x = .returned (.bool true) ∧ Below w.heap.size w w' := by
  have HFW := fun W => fewL_any K S a A B n c m e W h.n1 h.m1
  have HW := fun W => refWhole_any K S A B n c m e W
  have HC := fun W (hb : Below w.heap.size w W) => lvCheck_any K S a A B n c m e xs ys W (h.below hb).pos h.n1 (h.below hb).crd h.m1
  have z0 := lvBelow w (lvO K S A n c B m e)
  have zz := heap_alloc_new w (lvO K S A n c B m e)
  by_cases h1 : FewP K S a n m
  · rw [pB_t h1] at HFW
    by_cases h2 : m ≤ 300
    · have d2 : decide (300 < (m : Int)) = false := decide_eq_false (by omega)
      by_cases h3 : a ≤ 100
      · have d3 : decide (100 < a) = false := decide_eq_false (by omega)
        obtain ⟨wb, hwb⟩ : ∃ wb, wholeB K = wb := ⟨_, rfl⟩
        rw [hwb] at HW
        by_cases h4 : wholeB K = true → S ≤ 100
        · have h5 : lvF K S xs ys a ≠ 0 := fun q => hx ⟨h1, h2, h3, h4, q⟩
          obtain ⟨E, hE⟩ : ∃ E, lvF K S xs ys a = E := ⟨_, rfl⟩
          rw [hE] at h5 HC
          have e1 : (E == 0) = false := by simpa using h5
          have e2 : (E != 0) = true := by simpa using h5
          cases wb
          · clear hx h1 h2 h3 h4 h5 hE hwb
            go_enter Try.func5, Try.ntmps5
            go_wp2_with (first | (go_at_call 9; refine (lvLive_any _).mono ?_; rintro x w1 ⟨rfl, hb1⟩; have hb2 := z0.trans (hb1.mono z0.size); have hk2 := oKeep hb1 zz; obtain ⟨k0, k1, k2, k3, _⟩ := lvCells hk2) | (go_at_call 10; refine (HFW _).mono ?_; rintro x w3 ⟨rfl, hb3⟩; have hb4 := hb2.trans (hb3.mono hb2.size); have hk4 := oKeep hb3 hk2; obtain ⟨l0, l1, l2, l3, _⟩ := lvCells hk4) | (go_at_call 23; refine (HW _).mono ?_; rintro x w5 ⟨rfl, hb5⟩; have hb6 := hb4.trans (hb5.mono hb4.size); have hk6 := oKeep hb5 hk4; obtain ⟨p0, p1, p2, p3, _⟩ := lvCells hk6) | (go_at_call 20; refine (HC _ hb6).mono ?_; rintro x w7 ⟨rfl, hb7⟩; have hb8 := hb6.trans (hb7.mono hb6.size); have hk8 := oKeep hb7 hk6))
            go_ret
            exact ⟨rfl, hb8⟩
          · have d4 : decide (100 < S) = false := decide_eq_false (by have := h4 hwb; omega)
            clear hx h1 h2 h3 h4 h5 hE hwb
            go_enter Try.func5, Try.ntmps5
            go_wp2_with (first | (go_at_call 9; refine (lvLive_any _).mono ?_; rintro x w1 ⟨rfl, hb1⟩; have hb2 := z0.trans (hb1.mono z0.size); have hk2 := oKeep hb1 zz; obtain ⟨k0, k1, k2, k3, _⟩ := lvCells hk2) | (go_at_call 10; refine (HFW _).mono ?_; rintro x w3 ⟨rfl, hb3⟩; have hb4 := hb2.trans (hb3.mono hb2.size); have hk4 := oKeep hb3 hk2; obtain ⟨l0, l1, l2, l3, _⟩ := lvCells hk4) | (go_at_call 23; refine (HW _).mono ?_; rintro x w5 ⟨rfl, hb5⟩; have hb6 := hb4.trans (hb5.mono hb4.size); have hk6 := oKeep hb5 hk4; obtain ⟨p0, p1, p2, p3, _⟩ := lvCells hk6) | (go_at_call 20; refine (HC _ hb6).mono ?_; rintro x w7 ⟨rfl, hb7⟩; have hb8 := hb6.trans (hb7.mono hb6.size); have hk8 := oKeep hb7 hk6))
            go_ret
            exact ⟨rfl, hb8⟩
        · have h5 : wholeB K = true ∧ 100 < S := by
            by_cases q : wholeB K = true
            · refine ⟨q, ?_⟩
              by_cases q2 : S ≤ 100
              · exact absurd (fun _ => q2) h4
              · omega
            · exact absurd (fun hh => absurd hh q) h4
          rw [h5.1] at hwb
          subst hwb
          have d4 : decide (100 < S) = true := decide_eq_true h5.2
          clear hx h1 h2 h3 h4 h5
          go_enter Try.func5, Try.ntmps5
          go_wp2_with (first | (go_at_call 9; refine (lvLive_any _).mono ?_; rintro x w1 ⟨rfl, hb1⟩; have hb2 := z0.trans (hb1.mono z0.size); have hk2 := oKeep hb1 zz; obtain ⟨k0, k1, k2, k3, _⟩ := lvCells hk2) | (go_at_call 10; refine (HFW _).mono ?_; rintro x w3 ⟨rfl, hb3⟩; have hb4 := hb2.trans (hb3.mono hb2.size); have hk4 := oKeep hb3 hk2; obtain ⟨l0, l1, l2, l3, _⟩ := lvCells hk4) | (go_at_call 23; refine (HW _).mono ?_; rintro x w5 ⟨rfl, hb5⟩; have hb6 := hb4.trans (hb5.mono hb4.size); have hk6 := oKeep hb5 hk4; obtain ⟨p0, p1, p2, p3, _⟩ := lvCells hk6))
          go_ret
          exact ⟨rfl, hb6⟩
      · have d3 : decide (100 < a) = true := decide_eq_true (by omega)
        clear hx h1 h2 h3
        go_enter Try.func5, Try.ntmps5
        go_wp2_with (first | (go_at_call 9; refine (lvLive_any _).mono ?_; rintro x w1 ⟨rfl, hb1⟩; have hb2 := z0.trans (hb1.mono z0.size); have hk2 := oKeep hb1 zz; obtain ⟨k0, k1, k2, k3, _⟩ := lvCells hk2) | (go_at_call 10; refine (HFW _).mono ?_; rintro x w3 ⟨rfl, hb3⟩; have hb4 := hb2.trans (hb3.mono hb2.size); have hk4 := oKeep hb3 hk2; obtain ⟨l0, l1, l2, l3, _⟩ := lvCells hk4))
        go_ret
        exact ⟨rfl, hb4⟩
    · have d2 : decide (300 < (m : Int)) = true := decide_eq_true (by omega)
      clear hx h1 h2
      go_enter Try.func5, Try.ntmps5
      go_wp2_with (first | (go_at_call 9; refine (lvLive_any _).mono ?_; rintro x w1 ⟨rfl, hb1⟩; have hb2 := z0.trans (hb1.mono z0.size); have hk2 := oKeep hb1 zz; obtain ⟨k0, k1, k2, k3, _⟩ := lvCells hk2) | (go_at_call 10; refine (HFW _).mono ?_; rintro x w3 ⟨rfl, hb3⟩; have hb4 := hb2.trans (hb3.mono hb2.size); have hk4 := oKeep hb3 hk2; obtain ⟨l0, l1, l2, l3, _⟩ := lvCells hk4))
      go_ret
      exact ⟨rfl, hb4⟩
  · rw [pB_f h1] at HFW
    clear hx h1
    go_enter Try.func5, Try.ntmps5
    go_wp2_with (first | (go_at_call 9; refine (lvLive_any _).mono ?_; rintro x w1 ⟨rfl, hb1⟩; have hb2 := z0.trans (hb1.mono z0.size); have hk2 := oKeep hb1 zz; obtain ⟨k0, k1, k2, k3, _⟩ := lvCells hk2) | (go_at_call 10; refine (HFW _).mono ?_; rintro x w3 ⟨rfl, hb3⟩; have hb4 := hb2.trans (hb3.mono hb2.size); have hk4 := oKeep hb3 hk2; obtain ⟨l0, l1, l2, l3, _⟩ := lvCells hk4))
    go_ret
    exact ⟨rfl, hb4⟩
end Go.Proofs.Ytanbhpdobpiafaa
