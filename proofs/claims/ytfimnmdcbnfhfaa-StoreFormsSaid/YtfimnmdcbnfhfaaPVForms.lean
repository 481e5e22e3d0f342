/- purflelaw05.StoreForms returns true. -/
import Derived.Test.YtfimnmdcbnfhfaaPVRefF
import Derived.Test.YtfimnmdcbnfhfaaG16
namespace Go.Proofs.Ytfimnmdcbnfhfaa
open Go.RowKit

theorem eqB5 (A A2 : Option Addr) (n n2 c c2 : Nat) (xs : List Int) (w : World) (h : Ints w w.heap.size A n xs) (h2 : Ints w w.heap.size A2 n2 xs) (hn : n ≤ 100000) (hn2 : n2 ≤ 9223372036854775807) :
    Calls Try.prog 12 #[.slice A n c, .slice A2 n2 c2] w fun e w' => e = .returned (.bool true) ∧ Below w.heap.size w w' :=
  (refEqual_any A A2 n n2 c c2 xs xs w w.heap.size h h2 hn hn2).mono fun e w' ⟨he, m, hm⟩ => ⟨by rw [he]; simp, by subst hm; exact below_drewN (Below.refl _ _) m⟩
set_option maxRecDepth 100000 in
set_option maxHeartbeats 8000000 in
theorem storeForms_any (w : World) (A : Option Addr) (n c : Nat) (xs : List Int) (h : Ints w w.heap.size A n xs) (hn : n ≤ 9223372036854775807) (Bf : Option Addr) (m e : Nat) (fs : List Sp) (hf : Specs w w.heap.size Bf m fs) (hm : m ≤ 9223372036854775807) (he : m ≤ e) :
    Calls Try.prog 3 #[.slice A n c, .slice Bf m e] w fun r w' => r = .returned (.bool true) ∧ Below w.heap.size w w' := by
  by_cases hb1 : 20 < n
  · have d1 : decide (20 < (n : Int)) = true := by simp; omega
    have d2 : decide (20 < n) = true := by simpa using hb1
    clear h hf hb1
    go_enter Try.func3, Try.ntmps3
    go_wp2_with fail
    refine (stLive_any _).mono ?_
    rintro x w1 ⟨rfl, hb⟩
    go_wp2_with fail
    go_ret
    exact ⟨rfl, hb⟩
  by_cases hb2 : 40 < m
  · have d1 : decide (20 < (n : Int)) = false := by simp; omega
    have d1' : decide (20 < n) = false := by simpa using hb1
    have d2 : decide (40 < (m : Int)) = true := by simp; omega
    have d2' : decide (40 < m) = true := by simpa using hb2
    clear h hf hb1 hb2
    go_enter Try.func3, Try.ntmps3
    go_wp2_with fail
    refine (stLive_any _).mono ?_
    rintro x w1 ⟨rfl, hb⟩
    go_wp2_with fail
    go_ret
    exact ⟨rfl, hb⟩
  have d1 : decide (20 < (n : Int)) = false := by simp; omega
  have d1' : decide (20 < n) = false := by simpa using hb1
  have d2 : decide (40 < (m : Int)) = false := by simp; omega
  have d2' : decide (40 < m) = false := by simpa using hb2
  have HI : Hid (∀ W, Below w.heap.size w W → Ints W W.heap.size A n xs ∧ Specs W W.heap.size Bf m fs) := fun W hW => ⟨(h.below hW).more hW.size, (hf.on hW (Nat.le_refl _)).more hW.size⟩
  have hn1 : n ≤ 100000 := by omega
  have hm1 : m ≤ 100000 := by omega
  have HM := Lib.hid hf.1
  have HSL : Hid ((sizesL xs fs).length = m) := (sizesL_length xs fs).trans hf.1
  have HRG : Hid (sizesE xs fs = 0 → ∀ z ∈ sizesL xs fs, -9223372036854775808 ≤ z ∧ z ≤ 9223372036854775807) := by
    intro k0 z hz
    obtain ⟨k, hk, rfl⟩ := List.mem_map.1 hz
    have := szAt_range k0 (List.mem_range.1 hk)
    omega
  clear h hf hb1 hb2
  go_enter Try.func3, Try.ntmps3
  go_wp2_with fail
  refine (stLive_any _).mono ?_
  rintro x w1 ⟨rfl, hb⟩
  have HB1 := Lib.hid hb
  clear hb
  go_wp2_with fail
  refine (sizes_any A n c xs Bf m e fs w1 (HI.out _ HB1.out).1 hn1 (HI.out _ HB1.out).2 hm1 he).mono ?_
  rintro x w2 ⟨hb2, hh2⟩
  have HB2 := Lib.hid (HB1.out.trans (hb2.mono HB1.out.size))
  rcases hh2 with ⟨hE, rfl⟩ | ⟨hE, g, _, rfl, hg⟩
  · obtain ⟨E, hEE⟩ : ∃ E, sizesE xs fs = E := ⟨_, rfl⟩
    have HEE := Lib.hid hEE
    rw [hEE] at hE ⊢
    have HNE := Lib.hid hE
    clear hE hEE hb2
    go_wp2_with fail
    refine (refSizes5_any A n c xs Bf m e fs w2 (HI.out _ HB2.out).1 hn1 (HI.out _ HB2.out).2 hm1).mono ?_
    rintro x w3 ⟨hb3, hh3⟩
    have HB3 := Lib.hid (HB2.out.trans (hb3.mono HB2.out.size))
    rcases hh3 with ⟨_, rfl⟩ | ⟨hz, _⟩
    · rw [HEE.out]
      clear hb3
      go_wp2_with fail
      refine (eqB5 none none 0 0 0 0 [] w3 Ints.nil_ Ints.nil_ (by omega) (by omega)).mono ?_
      rintro x w4 ⟨rfl, hb4⟩
      have HB4 := Lib.hid (HB3.out.trans (hb4.mono HB3.out.size))
      clear hb4
      go_wp2_with fail
      refine (stForm_any A n c xs Bf m e fs w4 (HI.out _ HB4.out).1 hn1 (HI.out _ HB4.out).2 hm1 he).mono ?_
      rintro x w5 ⟨rfl, hb5⟩
      have HB5 := Lib.hid (HB4.out.trans (hb5.mono HB4.out.size))
      rw [HEE.out]
      clear hb5
      go_wp2_with fail
      refine (refForm5_any A n c xs Bf m e fs w5 (HI.out _ HB5.out).1 hn1 (HI.out _ HB5.out).2 hm1).mono ?_
      rintro x w6 ⟨rfl, hb6⟩
      have HB6 := Lib.hid (HB5.out.trans (hb6.mono HB5.out.size))
      rw [HEE.out]
      clear hb6
      go_wp2_with fail
      go_ret
      exact ⟨by simp, HB6.out⟩
    · exact absurd (HEE.out.symm.trans hz) HNE.out
  · have HEE := Lib.hid hE
    have HG := Lib.hid hg
    have HBb := Lib.hid hb2
    clear hE hb2 hg
    go_wp2_with fail
    refine (refSizes5_any A n c xs Bf m e fs w2 (HI.out _ HB2.out).1 hn1 (HI.out _ HB2.out).2 hm1).mono ?_
    rintro x w3 ⟨hb3, hh3⟩
    have HB3 := Lib.hid (HB2.out.trans (hb3.mono HB2.out.size))
    rcases hh3 with ⟨hz, _⟩ | ⟨_, A', c', rfl, hO⟩
    · exact absurd HEE.out hz
    · have hg3 := keep_b hb3 HG.out
      have h1 := ints_stC hg3 HSL.out (HRG.out HEE.out) (lt_of_heap hg3)
      have h2 := hO.ints
      rw [HSL.out] at h2
      have HQ := Lib.hid (eqB5 (some ⟨g, 0, none⟩) A' m m m c' _ w3 h1 h2 hm1 (by omega))
      clear hb3 hg3 h1 h2 hO
      go_wp2_with fail
      refine HQ.out.mono ?_
      rintro x w4 ⟨rfl, hb4⟩
      have HB4 := Lib.hid (HB3.out.trans (hb4.mono HB3.out.size))
      clear hb4
      go_wp2_with fail
      refine (stForm_any A n c xs Bf m e fs w4 (HI.out _ HB4.out).1 hn1 (HI.out _ HB4.out).2 hm1 he).mono ?_
      rintro x w5 ⟨rfl, hb5⟩
      have HB5 := Lib.hid (HB4.out.trans (hb5.mono HB4.out.size))
      rw [HEE.out]
      clear hb5
      go_wp2_with fail
      refine (refForm5_any A n c xs Bf m e fs w5 (HI.out _ HB5.out).1 hn1 (HI.out _ HB5.out).2 hm1).mono ?_
      rintro x w6 ⟨rfl, hb6⟩
      have HB6 := Lib.hid (HB5.out.trans (hb6.mono HB5.out.size))
      rw [HEE.out]
      clear hb6
      go_wp2_with fail
      go_ret
      exact ⟨by simp, HB6.out⟩
end Go.Proofs.Ytfimnmdcbnfhfaa
