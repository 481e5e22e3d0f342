/- The contract of purflelaw04.few. -/
import Derived.Test.YtanbhpdobpiafaaLLive
namespace Go.Proofs.Ytanbhpdobpiafaa
open Go.RowKit

def FewP (K S a : Int) (n m : Nat) : Prop := n ≤ 70000 ∧ m ≤ 70000 ∧ (wholeB K = true → S ≤ 5000) ∧ a ≤ 70000
set_option maxRecDepth 100000 in
theorem fewL_any (K S a : Int) (A B : Option Addr) (n c m e : Nat) (w : World) (hn : n ≤ 9223372036854775807) (hm : m ≤ 9223372036854775807) :
    Calls Try.prog 10 #[lvV K S A n c B m e, .int .i64 a] w fun x w' => x = .returned (.bool (pB (FewP K S a n m))) ∧ Below w.heap.size w w' := by
  have HC := fun W => refWhole_any K S A B n c m e W
  have z0 := lvBelow w (lvO K S A n c B m e)
  have zz := heap_alloc_new w (lvO K S A n c B m e)
  by_cases h1 : n ≤ 70000
  · have d1 : decide ((n : Int) ≤ 70000) = true := decide_eq_true (by omega)
    by_cases h2 : m ≤ 70000
    · have d2 : decide ((m : Int) ≤ 70000) = true := decide_eq_true (by omega)
      obtain ⟨wb, hwb⟩ : ∃ wb, wholeB K = wb := ⟨_, rfl⟩
      rw [hwb] at HC
      by_cases h3 : wholeB K = true → S ≤ 5000
      · by_cases h4 : a ≤ 70000
        · have d4 : decide (a ≤ 70000) = true := decide_eq_true h4
          have HF : Hid (pB (FewP K S a n m) = true) := pB_t ⟨h1, h2, h3, h4⟩
          cases wb
          · clear h3 hwb h1 h2 h4
            go_enter Try.func10, Try.ntmps10
            go_wp2_with (go_at_call 23; refine (HC _).mono ?_; rintro x w1 ⟨rfl, hb1⟩; have hb2 := z0.trans (hb1.mono z0.size); obtain ⟨k0, k1, k2, k3, _⟩ := lvCells (oKeep hb1 zz))
            go_ret
            exact ⟨ret_of (by rw [HF.out]; rfl), hb2⟩
          · have d3 : decide (S ≤ 5000) = true := decide_eq_true (h3 hwb)
            clear h3 hwb h1 h2 h4
            go_enter Try.func10, Try.ntmps10
            go_wp2_with (go_at_call 23; refine (HC _).mono ?_; rintro x w1 ⟨rfl, hb1⟩; have hb2 := z0.trans (hb1.mono z0.size); obtain ⟨k0, k1, k2, k3, _⟩ := lvCells (oKeep hb1 zz))
            go_ret
            exact ⟨ret_of (by rw [HF.out]; rfl), hb2⟩
        · have d4 : decide (a ≤ 70000) = false := decide_eq_false h4
          have HF : Hid (pB (FewP K S a n m) = false) := pB_f (fun q => h4 q.2.2.2)
          cases wb
          · clear h3 hwb h1 h2 h4
            go_enter Try.func10, Try.ntmps10
            go_wp2_with (go_at_call 23; refine (HC _).mono ?_; rintro x w1 ⟨rfl, hb1⟩; have hb2 := z0.trans (hb1.mono z0.size); obtain ⟨k0, k1, k2, k3, _⟩ := lvCells (oKeep hb1 zz))
            go_ret
            exact ⟨ret_of (by rw [HF.out]; rfl), hb2⟩
          · have d3 : decide (S ≤ 5000) = true := decide_eq_true (h3 hwb)
            clear h3 hwb h1 h2 h4
            go_enter Try.func10, Try.ntmps10
            go_wp2_with (go_at_call 23; refine (HC _).mono ?_; rintro x w1 ⟨rfl, hb1⟩; have hb2 := z0.trans (hb1.mono z0.size); obtain ⟨k0, k1, k2, k3, _⟩ := lvCells (oKeep hb1 zz))
            go_ret
            exact ⟨ret_of (by rw [HF.out]; rfl), hb2⟩
      · have HF : Hid (pB (FewP K S a n m) = false) := pB_f (fun q => h3 q.2.2.1)
        rw [hwb] at h3
        have h5 : wb = true ∧ ¬ S ≤ 5000 := by
          by_cases q : wb = true
          · exact ⟨q, fun q2 => h3 (fun _ => q2)⟩
          · exact absurd (fun hh => absurd hh q) h3
        obtain ⟨rfl, h5⟩ := h5
        have d3 : decide (S ≤ 5000) = false := decide_eq_false h5
        clear h3 hwb h1 h2 h5
        go_enter Try.func10, Try.ntmps10
        go_wp2_with (go_at_call 23; refine (HC _).mono ?_; rintro x w1 ⟨rfl, hb1⟩; have hb2 := z0.trans (hb1.mono z0.size); obtain ⟨k0, k1, k2, k3, _⟩ := lvCells (oKeep hb1 zz))
        go_ret
        exact ⟨ret_of (by rw [HF.out]; rfl), hb2⟩
    · have d2 : decide ((m : Int) ≤ 70000) = false := decide_eq_false (by omega)
      have HF : Hid (pB (FewP K S a n m) = false) := pB_f (fun q => h2 q.2.1)
      clear h1 h2
      go_enter Try.func10, Try.ntmps10
      go_wp2
      go_ret
      exact ⟨ret_of (by rw [HF.out]; rfl), z0⟩
  · have d1 : decide ((n : Int) ≤ 70000) = false := decide_eq_false (by omega)
    have HF : Hid (pB (FewP K S a n m) = false) := pB_f (fun q => h1 q.1)
    clear h1
    go_enter Try.func10, Try.ntmps10
    go_wp2
    go_ret
    exact ⟨ret_of (by rw [HF.out]; rfl), z0⟩

/-- where Find finds child k of p -/
theorem find_kid {K S : Int} {xs ys : List Int} {a p k : Nat} (HL : Lok K S xs ys a) (hp : p < a) (h1 : offN K S xs p ≤ k) (h2 : k < offN K S xs (p + 1)) :
    ∃ k0 : Nat, findF K S xs ys p (atN K S ys k) = ((k0 : Int), true) ∧ offN K S xs p ≤ k0 ∧ k0 ≤ k ∧ ((k = offN K S xs p ∨ atN K S ys (k - 1) ≠ atN K S ys k) → k0 = k) ∧ (offN K S xs p < k → atN K S ys (k - 1) = atN K S ys k → k0 < k ∧ K = 2) := by
  have key : ∀ q, q ≤ k - offN K S xs p → (∃ i, i ≤ q ∧ atN K S ys (offN K S xs p + i) = atN K S ys k) → ∃ i, i ≤ q ∧ atN K S ys (offN K S xs p + i) = atN K S ys k ∧ ∀ j, j < i → atN K S ys (offN K S xs p + j) ≠ atN K S ys k := by
    intro q
    induction q with
    | zero => rintro _ ⟨i, hi, e⟩; exact ⟨0, Nat.le_refl _, by rw [show i = 0 by omega] at e; exact e, fun j hj => by omega⟩
    | succ q ih =>
      intro hq ⟨i, hi, e⟩
      by_cases hex : ∃ i, i ≤ q ∧ atN K S ys (offN K S xs p + i) = atN K S ys k
      · obtain ⟨i', h3, h4⟩ := ih (by omega) hex
        exact ⟨i', by omega, h4⟩
      · have hiq : i = q + 1 := by
          rcases Nat.lt_or_ge q i with hh | hh
          · omega
          · exact absurd ⟨i, hh, e⟩ hex
        subst hiq
        exact ⟨q + 1, Nat.le_refl _, e, fun j hj hj2 => hex ⟨j, by omega, hj2⟩⟩
  obtain ⟨i, hi, he, hf⟩ := key (k - offN K S xs p) (Nat.le_refl _) ⟨k - offN K S xs p, Nat.le_refl _, by rw [show offN K S xs p + (k - offN K S xs p) = k by omega]⟩
  refine ⟨offN K S xs p + i, findF_hit (by omega) he hf, by omega, by omega, fun hh => ?_, fun hlt hee => ?_⟩
  · rcases hh with hh | hh
    · omega
    · rcases Nat.lt_or_ge (offN K S xs p + i) k with hlt | hge
      · have s1 := HL.sorted hp (i := offN K S xs p + i) (j := k - 1) (by omega) (by omega) (by omega)
        have s2 := HL.sorted hp (i := k - 1) (j := k) (by omega) (by omega) h2
        exact absurd (by omega) hh
      · omega
  · refine ⟨?_, ?_⟩
    · rcases Nat.lt_or_ge (offN K S xs p + i) k with hh | hh
      · exact hh
      · exfalso
        have := hf (i - 1) (by omega)
        rw [show offN K S xs p + (i - 1) = k - 1 by omega] at this
        exact this hee
    · rcases Classical.em (K = 2) with hh | hh
      · exact hh
      · have := (HL.rise p hp k hlt h2).2 hh; omega
end Go.Proofs.Ytanbhpdobpiafaa
