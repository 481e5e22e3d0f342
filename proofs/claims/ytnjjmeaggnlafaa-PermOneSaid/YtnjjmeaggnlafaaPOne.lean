/- purflelaw03.PermOne returns true at every input, and nothing that lay there has turned. -/
import Derived.Test.YtnjjmeaggnlafaaPLawsB
import Derived.Test.YtnjjmeaggnlafaaPOneM
namespace Go.Proofs.Ytnjjmeaggnlafaa
open Go.RowKit

set_option maxRecDepth 100000 in
set_option maxHeartbeats 4000000 in
theorem permOne_any (w : World) (a : Int) (_ha1 : -9223372036854775808 ≤ a) (_ha2 : a ≤ 9223372036854775807) (b : Int) (hb1 : -9223372036854775808 ≤ b) (hb2 : b ≤ 9223372036854775807) :
    Calls Try.prog 6 #[.int .i64 a, .int .i64 b] w fun e w' => e = .returned (.bool true) ∧ Below w.heap.size w w' := by
  have HB : Below w.heap.size w w := Below.refl _ _
  obtain ⟨t, n, ht, ht1, ht2, hv, h12⟩ := small13 a
  by_cases h : b < 0 ∨ (fact n : Int) ≤ b
  · have HK := Lib.hid h
    clear h
    go_enter Try.func6, Try.ntmps6
    go_wp2_with fail
    refine (lawLive_any _).mono ?_
    rintro e w1 ⟨rfl, hb⟩
    replace HB := HB.trans (hb.mono HB.size)
    clear hb
    go_wp2_with fail
    refine (nth_n n _ b h12 HK.out).mono ?_
    rintro e w2 ⟨rfl, hb⟩
    replace HB := HB.trans (hb.mono HB.size)
    clear hb
    go_wp2_with fail
    go_ret
    exact ⟨rfl, HB⟩
  · obtain ⟨k, rfl⟩ : ∃ k : Nat, b = k := ⟨b.toNat, by omega⟩
    have hk : k < fact n := by omega
    have hkb : k < 479001600 := by have := fact_le h12; omega
    have HP := Lib.hid (perm_nth h12 hk)
    have HRK : Hid (rankL (nthL n (plainL n) k) = k) := rank_nth_plain hk
    have HK := Lib.hid hk
    have g1 : ((k : Int) == (k : Int)) = true := by simp
    have g2 : ((k : Int) != (k : Int)) = false := by simp
    have g3 : ((n : Int) == (n : Int)) = true := by simp
    have g4 : ((n : Int) != (n : Int)) = false := by simp
    clear h hk hb1 hb2
    obtain ⟨P, hPP⟩ : ∃ P, nthL n (plainL n) k = P := ⟨_, rfl⟩
    have HPP := Lib.hid hPP
    rw [hPP] at HP HRK
    have HN := fun W => nth_s n W k h12 HK.out
    rw [hPP] at HN
    clear hPP
    by_cases hm : k + 1 < fact n
    · have HM : Hid (rankL P + 1 < fact n) := by unfold Hid; rw [HRK.out]; exact hm
      have HP2 : Hid (Perm_ (nthL n (plainL n) (rankL P + 1))) := perm_nth h12 HM.out
      have HR2 : Hid ((rankL (nthL n (plainL n) (rankL P + 1)) : Int) = (k : Int) + 1) := by unfold Hid; rw [rank_nth_plain HM.out, HRK.out]; omega
      have g5 : ((k : Int) + 1 == (k : Int) + 1) = true := by simp
      have g6 : ((k : Int) + 1 != (k : Int) + 1) = false := by simp
      have HRs := fun W A c (h : Ints W W.heap.size A n P) (hc : n ≤ c) => rank_s A n c P W h HP.out hc
      rw [HRK.out] at HRs
      obtain ⟨Q, hQ⟩ : ∃ Q, nthL n (plainL n) (rankL P + 1) = Q := ⟨_, rfl⟩
      have HNx := fun W A c (h : Ints W W.heap.size A n P) (hc : n ≤ c) => next_s A n c P W h HP.out hc HM.out
      rw [hQ] at HNx HP2 HR2
      have HRq := fun W A c (h : Ints W W.heap.size A n Q) (hc : n ≤ c) => rank_s A n c Q W h HP2.out hc
      rw [HR2.out] at HRq
      clear hm hQ
      go_enter Try.func6, Try.ntmps6
      go_wp2_with fail
      refine (lawLive_any _).mono ?_
      rintro e w1 ⟨rfl, hb⟩
      replace HB := HB.trans (hb.mono HB.size)
      clear hb
      go_wp2_with fail
      refine (HN _).mono ?_
      rintro e w2 ⟨A2, c2, rfl, I2, k2, hb⟩
      replace HB := HB.trans (hb.mono HB.size)
      clear hb
      go_wp2_with fail
      refine (HRs _ A2 c2 I2 k2).mono ?_
      rintro e w3 ⟨rfl, hb⟩
      replace I2 := (I2.below hb).more hb.size
      replace HB := HB.trans (hb.mono HB.size)
      clear hb
      go_wp2_with fail
      refine (HNx _ A2 c2 I2 k2).mono ?_
      rintro e w4 ⟨A3, c3, rfl, I3, k3, hb⟩
      replace I2 := (I2.below hb).more hb.size
      replace HB := HB.trans (hb.mono HB.size)
      clear hb
      go_wp2_with fail
      refine (check_s A2 n c2 P _ I2 (by omega) HP.out).mono ?_
      rintro e w5 ⟨rfl, hb⟩
      replace I2 := (I2.below hb).more hb.size
      replace I3 := (I3.below hb).more hb.size
      replace HB := HB.trans (hb.mono HB.size)
      clear hb
      go_wp2_with fail
      refine (HRq _ A3 c3 I3 k3).mono ?_
      rintro e w6 ⟨rfl, hb⟩
      replace I2 := (I2.below hb).more hb.size
      replace I3 := (I3.below hb).more hb.size
      replace HB := HB.trans (hb.mono HB.size)
      clear hb
      go_wp2_with fail
      go_ret
      exact ⟨rfl, HB⟩
    · have HM : Hid (¬ rankL P + 1 < fact n) := by unfold Hid; rw [HRK.out]; exact hm
      have HM2 : Hid ((k : Int) + 1 < 0 ∨ (fact n : Int) ≤ (k : Int) + 1) := by unfold Hid; omega
      have HRs := fun W A c (h : Ints W W.heap.size A n P) (hc : n ≤ c) => rank_s A n c P W h HP.out hc
      rw [HRK.out] at HRs
      clear hm
      go_enter Try.func6, Try.ntmps6
      go_wp2_with fail
      refine (lawLive_any _).mono ?_
      rintro e w1 ⟨rfl, hb⟩
      replace HB := HB.trans (hb.mono HB.size)
      clear hb
      go_wp2_with fail
      refine (HN _).mono ?_
      rintro e w2 ⟨A2, c2, rfl, I2, k2, hb⟩
      replace HB := HB.trans (hb.mono HB.size)
      clear hb
      go_wp2_with fail
      refine (HRs _ A2 c2 I2 k2).mono ?_
      rintro e w3 ⟨rfl, hb⟩
      replace I2 := (I2.below hb).more hb.size
      replace HB := HB.trans (hb.mono HB.size)
      clear hb
      go_wp2_with fail
      refine (next_n A2 n c2 P _ I2 HP.out k2 HM.out).mono ?_
      rintro e w4 ⟨A3, c3, rfl, I3, k3, hb⟩
      replace I2 := (I2.below hb).more hb.size
      replace HB := HB.trans (hb.mono HB.size)
      clear hb
      go_wp2_with fail
      refine (check_s A2 n c2 P _ I2 (by omega) HP.out).mono ?_
      rintro e w5 ⟨rfl, hb⟩
      replace I2 := (I2.below hb).more hb.size
      replace I3 := (I3.below hb).more hb.size
      replace HB := HB.trans (hb.mono HB.size)
      clear hb
      go_wp2_with fail
      refine (nth_n n _ ((k : Int) + 1) h12 HM2.out).mono ?_
      rintro e w6 ⟨rfl, hb⟩
      replace I2 := (I2.below hb).more hb.size
      replace I3 := (I3.below hb).more hb.size
      replace HB := HB.trans (hb.mono HB.size)
      clear hb
      go_wp2_with fail
      refine (equal_s A2 A3 n c2 c3 _ _ _ true I2 I3 (by omega) (by omega) (by simp)).mono ?_
      rintro e w7 ⟨rfl, hb⟩
      replace I2 := (I2.below hb).more hb.size
      replace I3 := (I3.below hb).more hb.size
      replace HB := HB.trans (hb.mono HB.size)
      clear hb
      go_wp2_with fail
      go_ret
      exact ⟨rfl, HB⟩
end Go.Proofs.Ytnjjmeaggnlafaa
