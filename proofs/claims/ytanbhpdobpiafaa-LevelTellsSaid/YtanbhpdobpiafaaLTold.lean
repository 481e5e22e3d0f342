/- The contract of level's told. -/
import Derived.Test.YtanbhpdobpiafaaLChk
namespace Go.Proofs.Ytanbhpdobpiafaa
open Go.RowKit

theorem told_pos {K : Int} (hK : K = 1 ∨ K = 2) (xs ys : List Int) (a : Nat) : ToldP K xs ys a ↔ xs.length = a + 1 ∧ xs[0]? = some 0 ∧ xs[a]? = some (ys.length : Int) ∧ SortP xs := by
  unfold ToldP
  rw [Int.toNat_natCast]
  constructor
  · rintro ⟨h, _, _⟩
    obtain ⟨h1, h2⟩ := h hK
    exact ⟨by omega, h2⟩
  · rintro ⟨h1, h2⟩
    exact ⟨fun _ => ⟨by omega, h2⟩, fun e => by omega, fun e1 e2 => by omega⟩

set_option maxRecDepth 100000 in
set_option maxHeartbeats 2000000 in
theorem told_pk (K : Int) (hK : K = 1 ∨ K = 2) (S : Int) (A B : Option Addr) (n c m e a : Nat) (xs ys : List Int) (w : World) (h : Ints w w.heap.size A n xs) (_hn : n ≤ 9223372036854775807) (_hm : m ≤ 9223372036854775807) (hl : ys.length = m) (ha : a ≤ 1048576) :
    Calls Try.prog 40 #[lvV K S A n c B m e, .int .i64 a] w fun x w' => x = .returned (.bool (pB (ToldP K xs ys a))) ∧ Below w.heap.size w w' := by
  have hln := h.1
  have z0 := lvBelow w (lvO K S A n c B m e)
  have e1 : IntKind.i64.wrap ((a : Int) + 1) = (a : Int) + 1 := by rw [IntWalk.i64_in _ (by omega)]
  have hT := told_pos hK xs ys a
  rw [hl, hln] at hT
  by_cases h1 : n = a + 1
  · obtain ⟨b, off, x0, rfl, hbb, HX0, hc0, hx01, hx02⟩ := h.at_ (k := 0) (by omega)
    obtain ⟨b2, off2, xa, e2, _, HXA, hca, hxa1, hxa2⟩ := h.at_ (k := a) (by omega)
    injection e2 with e2; injection e2 with e2 e3; subst e2; subst e3
    have d1 : ((n : Int) == (a : Int) + 1) = true := by simp; omega
    have d1' : ((n : Int) != (a : Int) + 1) = false := by simp; omega
    have j0 := cellPast (lvO K S (some ⟨b, off, none⟩) n c B m e) hc0
    have ja := cellPast (lvO K S (some ⟨b, off, none⟩) n c B m e) hca
    have g0 : (0 : Int) < n := by omega
    have g1 : (a : Int) < n := by omega
    have g2 : (0 : Int) ≤ a := by omega
    have g3 : 0 < n := by omega
    rw [Nat.add_zero] at j0
    by_cases hx0 : x0 = 0
    · subst hx0
      by_cases hxa : xa = m
      · subst hxa
        have d2 : ((m : Int) == (m : Int)) = true := by simp
        have HS : Hid (pB (ToldP K xs ys a) = pB (SortP xs)) := pB_congr ⟨fun q => (hT.1 q).2.2.2, fun q => hT.2 ⟨h1, HX0.out, HXA.out, q⟩⟩
        rw [HS.out]
        have hI := fun W (hb : Below w.heap.size w W) => isSorted_any (some ⟨b, off, none⟩) n c xs W w.heap.size (h.below hb) (by omega)
        clear hT h1 HX0 HXA hc0 hca HS
        rcases hK with rfl | rfl
        all_goals
          go_enter Try.func40, Try.ntmps40
          go_wp2
          go_quiet ((go_at_call 51; exact Calls.quiet_of (hI _ (below_drewN2 z0 _))))
          go_wp2
          go_ret
          exact ⟨rfl, below_drewN2 z0 _⟩
      · have d2 : (xa == (m : Int)) = false := by simpa using hxa
        have HF : Hid (pB (ToldP K xs ys a) = false) := pB_f (fun q => by have := (hT.1 q).2.2.1; rw [HXA.out] at this; injection this with this; exact hxa this)
        clear hT h1 HX0 HXA hc0 hca hxa h
        rcases hK with rfl | rfl
        all_goals
          go_enter Try.func40, Try.ntmps40
          go_wp2
          go_quiet (fail)
          go_wp2
          go_ret
          exact ⟨ret_of (by rw [HF.out]; rfl), below_drewN2 z0 _⟩
    · have d2 : (x0 == 0) = false := by simpa using hx0
      have HF : Hid (pB (ToldP K xs ys a) = false) := pB_f (fun q => by have := (hT.1 q).2.1; rw [HX0.out] at this; injection this with this; exact hx0 this)
      clear hT h1 HX0 HXA hc0 hca hx0 h
      rcases hK with rfl | rfl
      all_goals
        go_enter Try.func40, Try.ntmps40
        go_wp2
        go_quiet (fail)
        go_wp2
        go_ret
        exact ⟨ret_of (by rw [HF.out]; rfl), below_drewN2 z0 _⟩
  · have d1 : ((n : Int) == (a : Int) + 1) = false := by simp; omega
    have HF : Hid (pB (ToldP K xs ys a) = false) := pB_f (fun q => h1 (hT.1 q).1)
    clear hT h1 h hln
    rcases hK with rfl | rfl
    all_goals
      go_enter Try.func40, Try.ntmps40
      go_wp2
      go_quiet (fail)
      go_wp2
      go_ret
      exact ⟨ret_of (by rw [HF.out]; rfl), below_drewN2 z0 _⟩

set_option maxRecDepth 100000 in
set_option maxHeartbeats 2000000 in
theorem told_any (K S : Int) (A B : Option Addr) (n c m e a : Nat) (xs ys : List Int) (w : World) (h : Ints w w.heap.size A n xs) (hn : n ≤ 9223372036854775807) (hm : m ≤ 9223372036854775807) (hl : ys.length = m) (ha : a ≤ 1048576) :
    Calls Try.prog 40 #[lvV K S A n c B m e, .int .i64 a] w fun x w' => x = .returned (.bool (pB (ToldP K xs ys a))) ∧ Below w.heap.size w w' := by
  by_cases hK : K = 1 ∨ K = 2
  · exact told_pk K hK S A B n c m e a xs ys w h hn hm hl ha
  have hln := h.1
  have z0 := lvBelow w (lvO K S A n c B m e)
  by_cases h3 : K = 3
  · subst h3
    have hT : ToldP 3 xs ys a ↔ n = 0 ∧ m = a := by
      unfold ToldP; rw [← hln, ← hl]
      exact ⟨fun q => ⟨(q.2.1 rfl).1, by have := (q.2.1 rfl).2; omega⟩, fun q => ⟨fun e => by omega, fun _ => ⟨q.1, by omega⟩, fun _ _ e => absurd rfl e⟩⟩
    have HF : Hid (pB (ToldP 3 xs ys a) = (decide (n = 0) && decide (m = a))) := by
      unfold Hid; rw [pB_congr hT]
      by_cases q : n = 0 ∧ m = a
      · rw [pB_t q]; simp [q.1, q.2]
      · rw [pB_f q]
        by_cases q1 : n = 0
        · have q2 : ¬ m = a := fun q2 => q ⟨q1, q2⟩
          simp [q2]
        · simp [q1]
    rw [HF.out]
    by_cases q1 : n = 0
    · have d0 : decide (n = 0) = true := by simpa using q1
      rw [d0, Bool.true_and]
      have d1 : ((n : Int) == 0) = true := by simp; omega
      have d2 : ((m : Int) == (a : Int)) = decide (m = a) := by
        by_cases q2 : m = a
        · simp [q2]
        · simp [q2]; omega
      clear hT h hln HF d0 hK q1
      go_enter Try.func40, Try.ntmps40
      go_wp2
      go_ret
      exact ⟨ret_of (by first | rfl | (rw [← d2]; rfl)), z0⟩
    · have d0 : decide (n = 0) = false := by simpa using q1
      rw [d0, Bool.false_and]
      have d1 : ((n : Int) == 0) = false := by simp; omega
      clear hT h hln HF d0 hK q1
      go_enter Try.func40, Try.ntmps40
      go_wp2
      go_ret
      exact ⟨rfl, z0⟩
  · have hT : ToldP K xs ys a ↔ n = 0 ∧ m = 0 := by
      unfold ToldP; rw [← hln, ← hl]
      exact ⟨fun q => q.2.2 (by omega) (by omega) h3, fun q => ⟨fun e => absurd e hK, fun e => absurd e h3, fun _ _ _ => q⟩⟩
    have k1 : (K == 1) = false := by simp; omega
    have k2 : (K == 2) = false := by simp; omega
    have k3 : (K == 3) = false := by simp; omega
    by_cases q1 : n = 0
    · by_cases q2 : m = 0
      · have HF : Hid (pB (ToldP K xs ys a) = true) := pB_t (hT.2 ⟨q1, q2⟩)
        have d1 : ((n : Int) == 0) = true := by simp; omega
        have d2 : ((m : Int) == 0) = true := by simp; omega
        clear hT h hln hK q1 q2 h3
        go_enter Try.func40, Try.ntmps40
        go_wp2
        go_ret
        exact ⟨ret_of (by rw [HF.out]; rfl), z0⟩
      · have HF : Hid (pB (ToldP K xs ys a) = false) := pB_f (fun q => q2 (hT.1 q).2)
        have d1 : ((n : Int) == 0) = true := by simp; omega
        have d2 : ((m : Int) == 0) = false := by simp; omega
        clear hT h hln hK q1 q2 h3
        go_enter Try.func40, Try.ntmps40
        go_wp2
        go_ret
        exact ⟨ret_of (by rw [HF.out]; rfl), z0⟩
    · have HF : Hid (pB (ToldP K xs ys a) = false) := pB_f (fun q => q1 (hT.1 q).1)
      have d1 : ((n : Int) == 0) = false := by simp; omega
      clear hT h hln hK q1 h3
      go_enter Try.func40, Try.ntmps40
      go_wp2
      go_ret
      exact ⟨ret_of (by rw [HF.out]; rfl), z0⟩
end Go.Proofs.Ytanbhpdobpiafaa
