/- purflelaw03.PermEnds returns true at every input, and nothing that lay there has turned. -/
import Derived.Test.YtnjjmeaggnlafaaPLawsB
import Derived.Test.YtnjjmeaggnlafaaPEndsM
namespace Go.Proofs.Ytnjjmeaggnlafaa
open Go.RowKit

set_option maxRecDepth 100000 in
set_option maxHeartbeats 8000000 in
theorem permEnds_any (w : World) (a : Int) (_ha1 : -9223372036854775808 ≤ a) (_ha2 : a ≤ 9223372036854775807) :
    Calls Try.prog 10 #[.int .i64 a] w fun e w' => e = .returned (.bool true) ∧ Below w.heap.size w w' := by
  have HB : Below w.heap.size w w := Below.refl _ _
  obtain ⟨t, n, ht, ht1, ht2, hv, h12⟩ := small13 a
  have g1 : ((n : Int) == (n : Int)) = true := by simp
  have g2 : ((n : Int) != (n : Int)) = false := by simp
  have HP := Lib.hid (perm_plain h12)
  have HR := fun W A c (h : Ints W W.heap.size A n (plainL n)) (hc : n ≤ c) => rank_s A n c (plainL n) W h HP.out hc
  rw [ends_rank n h12] at HR
  have HN := fun W => nth_s n W 0 h12 (fact_pos n)
  rw [ends_nth n h12] at HN
  simp only [Int.cast_ofNat_Int] at HN HR
  have HC := fun W A c (h : Ints W W.heap.size A n (plainL n)) => cycles_s A n c (plainL n) W h HP.out n (by rw [ends_cycs n h12]; simp)
  rw [ends_cycs n h12] at HC
  have HPL : Hid (Perm_ (lastL n)) := permB_iff.1 (ends_last n h12)
  have HLR : Hid (rankL (lastL n) + 1 = fact n) := ends_last_rank n h12
  have HRL := fun W A c (h : Ints W W.heap.size A n (lastL n)) (hc : n ≤ c) => rank_s A n c (lastL n) W h HPL.out hc
  obtain ⟨r, hr⟩ : ∃ r, rankL (lastL n) = r := ⟨_, rfl⟩
  have HNX := fun W A c (h : Ints W W.heap.size A n (lastL n)) (hc : n ≤ c) => next_n A n c (lastL n) W h HPL.out hc (by rw [HLR.out]; omega)
  rw [hr] at HRL HLR
  have hrb : r < 479001600 := by have := fact_le h12; have := HLR.out; omega
  have HN2 := fun W => nth_n n W ((r : Int) + 1) h12 (.inr (by have := HLR.out; omega))
  clear hr
  obtain ⟨i0, hi0, hz0, hz1, hz2⟩ := info_parts infoInt
  have hmk := fun W => run_makeAll (P := Try.prog) 22 3 i0 Try.underlying22 hi0 hz0 hz1 hz2 n (by omega) W
  have hRL : Hid ((lastL n).length = n) := lastL_length n
  go_enter Try.func10, Try.ntmps10
  go_wp2_with fail
  refine (lawLive_any _).mono ?_
  rintro e w1 ⟨rfl, hb⟩
  replace HB := HB.trans (hb.mono HB.size)
  clear hb
  go_wp2_with fail
  refine (plain_s n _ h12).mono ?_
  rintro e w2 ⟨A2, c2, rfl, I2, k2, hb⟩
  replace HB := HB.trans (hb.mono HB.size)
  clear hb
  go_wp2_with fail
  refine (HR _ A2 c2 I2 k2).mono ?_
  rintro e w3 ⟨rfl, hb⟩
  replace I2 := (I2.below hb).more hb.size
  replace HB := HB.trans (hb.mono HB.size)
  clear hb
  go_wp2_with fail
  refine (odd_s A2 n c2 (plainL n) _ false I2 HP.out k2 (oddB_plain n)).mono ?_
  rintro e w4 ⟨rfl, hb⟩
  replace I2 := (I2.below hb).more hb.size
  replace HB := HB.trans (hb.mono HB.size)
  clear hb
  go_wp2_with fail
  refine (HC _ A2 c2 I2).mono ?_
  rintro e w5 ⟨A3, c3, rfl, I3, hb⟩
  replace I2 := (I2.below hb).more hb.size
  replace HB := HB.trans (hb.mono HB.size)
  clear hb
  go_wp2_with fail
  refine (HN _).mono ?_
  rintro e w6 ⟨A4, c4, rfl, I4, k4, hb⟩
  replace I2 := (I2.below hb).more hb.size
  replace I3 := (I3.below hb).more hb.size
  replace HB := HB.trans (hb.mono HB.size)
  clear hb
  go_wp2_with fail
  refine (equal_s A4 A2 n c4 c2 _ _ _ true I4 I2 (by omega) (by omega) (by simp)).mono ?_
  rintro e w7 ⟨rfl, hb⟩
  replace I2 := (I2.below hb).more hb.size
  replace I3 := (I3.below hb).more hb.size
  replace I4 := (I4.below hb).more hb.size
  replace HB := HB.trans (hb.mono HB.size)
  clear hb
  have I5 := Lib.hid I3
  clear I2 I3 I4 HR HN HC
  obtain ⟨W0, hW0⟩ : ∃ W0, W0 = w7 := ⟨_, rfl⟩
  have HBH := Lib.hid HB
  rw [← hW0] at I5 HBH
  have HW := Lib.hid hW0
  clear hW0 HB
  go_wp2
  go_loopw [94] (fun i wr => ∃ k : Nat, k ≤ n ∧ i = .int .i64 k ∧ Below W0.heap.size W0 wr) (fun i _ => n - (intOf i).toNat)
  case atStart => exact ⟨0, Nat.zero_le _, rfl, by rw [HW.out]; exact Below.refl _ _⟩
  case round =>
    obtain ⟨k, hk, rfl, hb⟩ := hrel
    by_cases hlt : k < n
    · obtain ⟨b, off, L, a3, cL, rfl, _, HX, hc, _, hI⟩ := (I5.out.below hb).at_ hlt
      obtain rfl : L = [(k : Int)] := by have := HX.out; simp [hlt] at this; exact this.symm
      have hI2 := (hI.more hb.size).alloc' (.cells #[.int .i64 (k : Int)] 3)
      have hI3 : Ints (wr.alloc (.cells #[.int .i64 (k : Int)] 3)) (wr.alloc (.cells #[.int .i64 (k : Int)] 3)).heap.size (some ⟨wr.heap.size, 0, none⟩) 1 [(k : Int)] := by have := Ints.of_new wr 3 [(k : Int)] (by simp; omega); simpa using this
      have HE := equal_s a3 (some ⟨wr.heap.size, 0, none⟩) 1 cL 1 (wr.alloc (.cells #[.int .i64 (k : Int)] 3)) [(k : Int)] [(k : Int)] true hI2 hI3 (by omega) (by omega) (by simp)
      have hb2 := hb.alloc hb.size (.cells #[.int .i64 (k : Int)] 3)
      clear hI hI2 hI3 HX I5 HRL HNX HN2 hmk
      go_wp2_with (go_at_call 21; refine HE.mono ?_; rintro e w9 ⟨rfl, hb3⟩; have hb4 := hb2.trans (hb3.mono hb2.size))
      go_roundw
      case rel => exact ⟨k + 1, by omega, by go_num, hb4⟩
      case measure => simp [intOf]; omega
    · have hbb := HBH.out.trans (hb.mono HBH.out.size)
      clear hb I5 HBH HW
      obtain ⟨wo, rfl⟩ : ∃ wo : World, wo = wr := ⟨_, rfl⟩
      go_wp2
      go_loopw [109] (fun i wr => ∃ k : Nat, k ≤ n ∧ i = .int .i64 k ∧ Hid (OwnI wr wo.heap.size 3 (some ⟨wo.heap.size, 0, none⟩) n ((lastL n).take k ++ List.replicate (n - k) 0)) ∧ Below wo.heap.size wo wr) (fun i _ => n - (intOf i).toNat)
      case atStart => exact ⟨0, Nat.zero_le _, rfl, own_made wo 3 n wo.heap.size (Nat.le_refl _) (by omega), (Below.refl _ wo).alloc (Nat.le_refl _) _⟩
      case round =>
        obtain ⟨k, hk, rfl, HO, hb⟩ := hrel
        by_cases hlt : k < n
        · obtain ⟨hc, hf⟩ := HO.out.cell_ (fill_at hRL.out hlt)
          obtain ⟨v, hvv⟩ : ∃ v : Int, (n : Int) - 1 - (k : Int) = v := ⟨_, rfl⟩
          have HO' : Hid (OwnI (wr.setCell ⟨wo.heap.size, k, none⟩ (.int .i64 v)) wo.heap.size 3 (some ⟨wo.heap.size, 0, none⟩) n ((lastL n).take (k + 1) ++ List.replicate (n - (k + 1)) 0)) := by
            unfold Hid; have := HO.out.set_ k v (by omega); rwa [fill_set (by rw [← hvv]; exact lastL_at hlt) hRL.out] at this
          have hb' := hb.setCell (p := ⟨wo.heap.size, k, none⟩) (Nat.le_refl _) (.int .i64 v)
          clear HO HRL HNX HN2 hmk
          go_wp2
          go_roundw
          case rel => exact ⟨k + 1, by omega, by go_num, HO', hb'⟩
          case measure => simp [intOf]; omega
        · obtain rfl : k = n := by omega
          have HO2 : OwnI wr wo.heap.size 3 (some ⟨wo.heap.size, 0, none⟩) k (lastL k) := by have := HO.out; rwa [fill_done hRL.out] at this
          have I6 := HO2.ints
          have k6 := HO2.len_cap
          rw [hRL.out] at I6 k6
          have HB := hbb.trans (hb.mono hbb.size)
          clear hb HO HO2 hbb hmk
          go_wp2_with fail
          refine (HNX _ _ _ I6 k6).mono ?_
          rintro e w21 ⟨A7, c7, rfl, I7, k7, hb⟩
          replace I6 := (I6.below hb).more hb.size
          replace HB := HB.trans (hb.mono HB.size)
          clear hb
          go_wp2_with fail
          refine (HRL _ _ _ I6 k6).mono ?_
          rintro e w22 ⟨rfl, hb⟩
          replace I6 := (I6.below hb).more hb.size
          replace I7 := (I7.below hb).more hb.size
          replace HB := HB.trans (hb.mono HB.size)
          clear hb
          go_wp2_with fail
          refine (HN2 _).mono ?_
          rintro e w23 ⟨rfl, hb⟩
          replace I6 := (I6.below hb).more hb.size
          replace I7 := (I7.below hb).more hb.size
          replace HB := HB.trans (hb.mono HB.size)
          clear hb
          go_wp2_with fail
          refine (equal_s A7 _ k c7 k _ _ _ true I7 I6 (by omega) (by omega) (by simp)).mono ?_
          rintro e w24 ⟨rfl, hb⟩
          replace I6 := (I6.below hb).more hb.size
          replace I7 := (I7.below hb).more hb.size
          replace HB := HB.trans (hb.mono HB.size)
          clear hb
          go_wp2_with fail
          go_ret
          exact ⟨rfl, HB⟩
end Go.Proofs.Ytnjjmeaggnlafaa
