/- slices.symMergeCmpFunc at entries, where both runs have two or more and the second one begins ahead of, or at the middle. -/
import Derived.Test.YtpfabbapfmfmmaaG8
namespace Go.Proofs.Ytpfabbapfmfmmaa
open Go.RowKit

set_option maxRecDepth 100000 in
set_option maxHeartbeats 16000000 in
theorem symRest2_ok (g n c a m b mid bo : Nat) (P L R S : List Ent) (post : List Value) (Ao : Option Addr) (ro co : Nat) (os : List Int) (w : World)
    (hblk : RowE w g (P ++ L ++ R ++ S) post) (hP : P.length = a) (hm : a + L.length = m) (hb : m + R.length = b) (hL2 : 2 ≤ L.length) (hR2 : 2 ≤ R.length) (hn : b + S.length = n) (hnb : n ≤ 4000000000000000000) (hOL : InOrd os L) (hOR : InOrd os R) (hC : CtxE w g bo Ao ro co os (L ++ R)) (hmid : (a + b) / 2 = mid) (hside : m ≤ mid)
    (IH : ∀ (a2 m2 b2 : Nat) (P2 L2 R2 S2 : List Ent) (w2 : World), b2 - a2 < b - a → RowE w2 g (P2 ++ L2 ++ R2 ++ S2) post → P2.length = a2 → a2 + L2.length = m2 → m2 + R2.length = b2 → b2 + S2.length = n → a2 < m2 → m2 < b2 → InOrd os L2 → InOrd os R2 → CtxE w2 g bo Ao ro co os (L2 ++ R2) →
      Calls Try.prog 88 #[.slice (some ⟨g, 0, none⟩) n c, .int .i64 (a2 : Int), .int .i64 (m2 : Int), .int .i64 (b2 : Int), .func (.func 72) #[] #[.pointer (some ⟨bo, 0, none⟩)]] w2 fun e w' => e = .returned (.tuple #[]) ∧ RowE w' g (P2 ++ mergeE os L2 R2 ++ S2) post ∧ w2.grownBy w' (some g)) :
    Calls Try.prog 88 #[.slice (some ⟨g, 0, none⟩) n c, .int .i64 (a : Int), .int .i64 (m : Int), .int .i64 (b : Int), .func (.func 72) #[] #[.pointer (some ⟨bo, 0, none⟩)]] w
      fun e w' => e = .returned (.tuple #[]) ∧ RowE w' g (P ++ mergeE os L R ++ S) post ∧ w.grownBy w' (some g) := by
  have HB := Lib.hid hblk
  have HP := Lib.hid hP
  have HOL := Lib.hid hOL
  have HOR := Lib.hid hOR
  have HC := Lib.hid hC
  have HM := Lib.hid hm
  have HR := Lib.hid hb
  have HN := Lib.hid hn
  have hbn : b ≤ n := by omega
  have ham : a + 2 ≤ m := by omega
  have hmb : m + 2 ≤ b := by omega
  have hmid1 : a + 2 ≤ mid := by omega
  have hmid2 : mid + 2 ≤ b := by omega
  obtain ⟨ml, hml⟩ : ∃ ml : Nat, m - a = ml := ⟨_, rfl⟩
  have e0 : (m : Int) - (a : Int) = (ml : Int) := by omega
  have e0b : ((ml : Int) == 1) = false := by simp; omega
  obtain ⟨bl, hbl⟩ : ∃ bl : Nat, b - m = bl := ⟨_, rfl⟩
  have e1 : (b : Int) - (m : Int) = (bl : Int) := by omega
  have e1b : ((bl : Int) == 1) = false := by simp; omega
  have eM : ((a : Int) + (b : Int)) / 2 = (mid : Int) := by omega
  obtain ⟨nn, hnn⟩ : ∃ nn : Nat, mid + m = nn := ⟨_, rfl⟩
  have eN : (mid : Int) + (m : Int) = (nn : Int) := by omega
  obtain ⟨pp, hpp⟩ : ∃ pp : Nat, nn - 1 = pp := ⟨_, rfl⟩
  have eP : (nn : Int) - 1 = (pp : Int) := by omega
  have hmln : ml ≤ n := by omega
  have hbln : bl ≤ n := by omega
  have hnn2 : nn ≤ 2 * n := by omega
  have hpp2 : pp + 1 = nn := by omega
  have dS : decide ((mid : Int) < (m : Int)) = false := decide_eq_false (by omega)
  have dS2 : decide (mid < m) = false := decide_eq_false (by omega)
  have HNN : Hid (mid + m = nn) := hnn
  clear hblk hP hOL hOR hC hn hm hb hml hbl hpp hmid hnn
  go_enter Try.func88, Try.ntmps88
  go_wp2
  go_loopw [20, 21] (fun v u wr => ∃ (i j : Nat), v = .int .i64 (i : Int) ∧ u = .int .i64 (j : Int) ∧ a ≤ i ∧ i ≤ j ∧ j ≤ m ∧ Hid (i = a ∨ ∃ x y, L[i - 1 - a]? = some x ∧ R[nn - i - m]? = some y ∧ ltE os y x = false) ∧ Hid (j = m ∨ ∃ x y, L[j - a]? = some x ∧ R[nn - 1 - j - m]? = some y ∧ ltE os y x = true) ∧ Hid (RowE wr g (P ++ L ++ R ++ S) post) ∧ Hid (w.grownBy wr (some g))) (fun v u _ => (intOf u).toNat - (intOf v).toNat)
  case atStart => exact ⟨a, m, rfl, rfl, Nat.le_refl _, (by omega), Nat.le_refl _, .inl rfl, .inl rfl, HB, Lib.hid (grown_same w g)⟩
  case round =>
    obtain ⟨i, j, rfl, rfl, hai, hij, hjm, HI, HJ, HW, HG⟩ := hrel
    have hloa : a ≤ a := Nat.le_refl _
    by_cases hlt : i < j
    · obtain ⟨k, hk⟩ : ∃ k : Nat, (i + j) / 2 = k := ⟨_, rfl⟩
      have eH : ((i : Int) + (j : Int)) / 2 = (k : Int) := by omega
      have hik : i ≤ k := by omega
      have hkj : k < j := by omega
      obtain ⟨kk, hkk⟩ : ∃ kk : Nat, pp - k = kk := ⟨_, rfl⟩
      have eK : (pp : Int) - (k : Int) = (kk : Int) := by omega
      have HKK : Hid (kk = nn - 1 - k) := by unfold Hid; omega
      have hrange : a ≤ k ∧ k < m ∧ m ≤ kk ∧ kk < b := by have := HNN.out; omega
      obtain ⟨r1, r2, r3, r4⟩ := hrange
      obtain ⟨z, hz⟩ : ∃ z, L[k - a]? = some z := ⟨_, List.getElem?_eq_getElem (by have := HM.out; omega)⟩
      obtain ⟨y, hy⟩ : ∃ y, R[kk - m]? = some y := ⟨_, List.getElem?_eq_getElem (by have := HR.out; omega)⟩
      have hMk : (P ++ L ++ R ++ S)[k]? = some z := by
        rw [List.append_assoc (P ++ L), at_mid (P := P) (L := L) (S := R ++ S) (a := a) HP.out (by omega) (by have := HM.out; omega)]; exact hz
      have hMm : (P ++ L ++ R ++ S)[kk]? = some y := by
        rw [at_mid (P := P ++ L) (L := R) (S := S) (a := m) (by rw [List.length_append, HP.out]; exact HM.out) (by omega) (by have := HR.out; omega)]; exact hy
      obtain ⟨⟨a1, a2⟩, a3, a4⟩ := blk_ent HW.out hMk
      obtain ⟨⟨b1, b2⟩, b3, b4⟩ := blk_ent HW.out hMm
      have hcmp := HC.out.cmp (x := y) (y := z) (List.mem_append_right _ (List.mem_of_getElem? hy)) (List.mem_append_left _ (List.mem_of_getElem? hz)) (grown_drew HG.out)
      obtain ⟨r, hr⟩ : ∃ r, cmpE os y.cs z.cs = r := ⟨_, rfl⟩
      rw [hr] at hcmp
      have HRR := Lib.hid hr
      have HZ := Lib.hid hz
      have HY := Lib.hid hy
      have hkn : (k : Int) < (n : Int) := by omega
      have hkkn : (kk : Int) < (n : Int) := by omega
      have hk0 : (0 : Int) ≤ (k : Int) := by omega
      have hkk0 : (0 : Int) ≤ (kk : Int) := by omega
      have hkw : IntKind.i64.wrap (kk : Int) = (kk : Int) := by
        have h := IntWalk.wrap64_in (kk : Int) ⟨by omega, by omega⟩
        first | exact h | (rw [wrap_eq]; exact h)
      clear hr hz hy hMk hMm hk hkk
      go_wp2
      go_still_tail 11, (by kernel_rfl)
      change wpList _ _ _ _ _ wr.drew
      by_cases hrn : r < 0
      · have hdr : decide (r < 0) = true := decide_eq_true hrn
        have HJ2 : Hid (k = m ∨ ∃ x y, L[k - a]? = some x ∧ R[nn - 1 - k - m]? = some y ∧ ltE os y x = true) := .inr ⟨z, y, HZ.out, by rw [← HKK.out]; exact HY.out, ltE_t.2 (by rw [HRR.out]; exact hrn)⟩
        clear hrn
        go_wp2_with (fail)
        refine hcmp.mono ?_
        rintro _ wq ⟨rfl, hbq⟩
        have HWQ := Lib.hid (HW.out.drew.below hbq)
        have HGQ := Lib.hid (grown_below' (grown_drew HG.out) hbq)
        clear hcmp hbq a1 a2 a3 a4 b1 b2 b3 b4
        go_wp2
        go_roundw
        case rel => exact ⟨i, k, rfl, rfl, hai, hik, by omega, HI, HJ2, HWQ, HGQ⟩
        case measure => simp [intOf]; omega
      · have hdr : decide (r < 0) = false := decide_eq_false hrn
        have HI2 : Hid (k + 1 = a ∨ ∃ x y, L[k + 1 - 1 - a]? = some x ∧ R[nn - (k + 1) - m]? = some y ∧ ltE os y x = false) := .inr ⟨z, y, HZ.out, by have := HKK.out; rw [show nn - (k + 1) = kk by omega]; exact HY.out, by unfold ltE; rw [HRR.out]; exact hdr⟩
        clear hrn
        go_wp2_with (fail)
        refine hcmp.mono ?_
        rintro _ wq ⟨rfl, hbq⟩
        have HWQ := Lib.hid (HW.out.drew.below hbq)
        have HGQ := Lib.hid (grown_below' (grown_drew HG.out) hbq)
        clear hcmp hbq a1 a2 a3 a4 b1 b2 b3 b4
        go_wp2
        go_roundw
        case rel => exact ⟨k + 1, j, by go_num, rfl, by omega, by omega, hjm, HI2, HJ, HWQ, HGQ⟩
        case measure => simp [intOf]; omega
    · obtain rfl : i = j := by omega
      obtain ⟨e, he⟩ : ∃ e : Nat, nn - i = e := ⟨_, rfl⟩
      have eE : (nn : Int) - (i : Int) = (e : Int) := by omega
      have hie : i + e = nn := by omega
      have hrange : a ≤ i ∧ i ≤ m ∧ m ≤ e ∧ e ≤ b ∧ i ≤ mid := by have := HNN.out; omega
      obtain ⟨r1, r2, r3, r4, r5⟩ := hrange
      have HMG : Hid (mergeE os L R = mergeE os (L.take (i - a)) (R.take (e - m)) ++ mergeE os (L.drop (i - a)) (R.drop (e - m))) := by
        unfold Hid
        refine mergeE_cut HOL.out HOR.out ?_ ?_
        · rcases HI.out with q | ⟨x, y, q1, q2, q3⟩
          · exact .inl (by omega)
          · by_cases h0 : i - a = 0
            · exact .inl h0
            · exact .inr (.inr ⟨x, y, by rw [show i - a - 1 = i - 1 - a by omega]; exact q1, by rw [show e - m = nn - i - m by omega]; exact q2, q3⟩)
        · rcases HJ.out with q | ⟨x, y, q1, q2, q3⟩
          · exact .inr (.inl (by have := HM.out; omega))
          · by_cases h0 : e - m = 0
            · exact .inl h0
            · exact .inr (.inr ⟨x, y, q1, by rw [show e - m - 1 = nn - 1 - i - m by omega]; exact q2, q3⟩)
      have hWL := (List.take_append_drop (i - a) L).symm
      have hWR := (List.take_append_drop (e - m) R).symm
      have hl1 : (L.take (i - a)).length = i - a := by rw [List.length_take]; have := HM.out; omega
      have hl2 : (L.drop (i - a)).length = m - i := by rw [List.length_drop]; have := HM.out; omega
      have hl3 : (R.take (e - m)).length = e - m := by rw [List.length_take]; have := HR.out; omega
      have hl4 : (R.drop (e - m)).length = b - e := by rw [List.length_drop]; have := HR.out; omega
      have hO1 : InOrd os (L.take (i - a)) := List.Pairwise.sublist (List.take_sublist _ _) HOL.out
      have hO3 : InOrd os (L.drop (i - a)) := List.Pairwise.sublist (List.drop_sublist _ _) HOL.out
      have hO2 : InOrd os (R.take (e - m)) := List.Pairwise.sublist (List.take_sublist _ _) HOR.out
      have hO4 : InOrd os (R.drop (e - m)) := List.Pairwise.sublist (List.drop_sublist _ _) HOR.out
      obtain ⟨L1, hL1⟩ : ∃ X, L.take (i - a) = X := ⟨_, rfl⟩
      obtain ⟨L2, hL2'⟩ : ∃ X, L.drop (i - a) = X := ⟨_, rfl⟩
      obtain ⟨R1, hR1'⟩ : ∃ X, R.take (e - m) = X := ⟨_, rfl⟩
      obtain ⟨R2, hR2'⟩ : ∃ X, R.drop (e - m) = X := ⟨_, rfl⟩
      rw [hL1] at hWL hl1 hO1 HMG
      rw [hL2'] at hWL hl2 hO3 HMG
      rw [hR1'] at hWR hl3 hO2 HMG
      rw [hR2'] at hWR hl4 hO4 HMG
      have HO1 := Lib.hid hO1
      have HO2 := Lib.hid hO2
      have HO3 := Lib.hid hO3
      have HO4 := Lib.hid hO4
      have HW0 : Hid (RowE wr g (P ++ L1 ++ L2 ++ R1 ++ R2 ++ S) post) := by unfold Hid; have := HW.out; rw [hWL, hWR] at this; simpa using this
      have HS1 : Hid (∀ x ∈ L1 ++ R1, x ∈ L ++ R) := by unfold Hid; intro x hx; rw [hWL, hWR]; rcases List.mem_append.1 hx with h | h <;> simp [h]
      have HS2 : Hid (∀ x ∈ L2 ++ R2, x ∈ L ++ R) := by unfold Hid; intro x hx; rw [hWL, hWR]; rcases List.mem_append.1 hx with h | h <;> simp [h]
      have HL : Hid (L1.length = i - a ∧ L2.length = m - i ∧ R1.length = e - m ∧ R2.length = b - e ∧ P.length = a ∧ b + S.length = n ∧ i + e = mid + m) := ⟨hl1, hl2, hl3, hl4, HP.out, HN.out, by have := HNN.out; omega⟩
      have hnn3 : mid + m = nn := HNN.out
      clear hWL hWR hl1 hl2 hl3 hl4 hO1 hO2 hO3 hO4 hL1 hL2' hR1' hR2' HI HJ HW HB HOL HOR hL2 hR2 he
      by_cases hA1 : i < m
      · have dA1 : decide (i < m) = true := decide_eq_true (by omega)
        have dC1 : decide (mid < e) = true := decide_eq_true (by omega)
        have hi1 : i < m := hA1
        have hc1 : mid < e := by omega
        by_cases hA2 : m < e
        · have dA2 : decide (m < e) = true := decide_eq_true (by omega)
          have dB2 : decide (i < mid) = true := decide_eq_true (by omega)
          have hi2 : m < e := hA2
          have hb2 : i < mid := by omega
          by_cases hB1 : a < i
          · have dB1 : decide (a < i) = true := decide_eq_true (by omega)
            have hb1 : a < i := hB1
            by_cases hC2 : e < b
            · have dC2 : decide (e < b) = true := decide_eq_true (by omega)
              have hc2 : e < b := hC2
              clear hA1 hA2 hB1 hC2
              have hC1 := rotate_ok g n c i m e (P ++ L1) L2 R1 (R2 ++ S) post (.func (.func 72) #[] #[.pointer (some ⟨bo, 0, none⟩)]) wr (by have := HW0.out; simpa using this) (by rw [List.length_append]; have := HL.out; omega) (by have := HL.out; omega) (by have := HL.out; omega) (by rw [List.length_append]; have := HL.out; omega) hi1 hi2 hnb
              go_wp2_with (fail)
              refine hC1.mono ?_
              rintro _ wa ⟨rfl, hra, hga⟩
              have HWA : Hid (RowE wa g (P ++ L1 ++ R1 ++ (L2 ++ R2 ++ S)) post) := by unfold Hid; simpa using hra
              have HGA := Lib.hid (grown_trans HG.out hga)
              clear hC1 hra hga
              have hC2 := IH a i mid P L1 R1 (L2 ++ R2 ++ S) wa (by omega) HWA.out HP.out (by have := HL.out; omega) (by have := HL.out; omega) (by rw [List.length_append, List.length_append]; have := HL.out; omega) hb1 hb2 HO1.out HO2.out (HC.out.grown HGA.out HS1.out)
              go_wp2_with (fail)
              refine hC2.mono ?_
              rintro _ wb ⟨rfl, hrb, hgb⟩
              have HWB : Hid (RowE wb g ((P ++ mergeE os L1 R1) ++ L2 ++ R2 ++ S) post) := by unfold Hid; simpa using hrb
              have HGB := Lib.hid (grown_trans HGA.out hgb)
              clear hC2 hrb hgb
              have hC3 := IH mid e b (P ++ mergeE os L1 R1) L2 R2 S wb (by omega) HWB.out (by rw [List.length_append, mergeE_length]; have := HL.out; omega) (by have := HL.out; omega) (by have := HL.out; omega) (by have := HL.out; omega) hc1 hc2 HO3.out HO4.out (HC.out.grown HGB.out HS2.out)
              go_wp2_with (fail)
              refine hC3.mono ?_
              rintro _ wc ⟨rfl, hrc, hgc⟩
              have HWC : Hid (RowE wc g (P ++ mergeE os L R ++ S) post) := by unfold Hid; rw [HMG.out]; simpa using hrc
              have HGC := Lib.hid (grown_trans HGB.out hgc)
              clear hC3 hrc hgc
              go_wp2_with (fail)
              go_end0
              exact ⟨rfl, HWC.out, HGC.out⟩
            · have dC2 : decide (e < b) = false := decide_eq_false (by omega)
              have hR2e : R2 = [] := List.eq_nil_of_length_eq_zero (by have := HL.out; omega)
              clear hA1 hA2 hB1 hC2
              have hC1 := rotate_ok g n c i m e (P ++ L1) L2 R1 (R2 ++ S) post (.func (.func 72) #[] #[.pointer (some ⟨bo, 0, none⟩)]) wr (by have := HW0.out; simpa using this) (by rw [List.length_append]; have := HL.out; omega) (by have := HL.out; omega) (by have := HL.out; omega) (by rw [List.length_append]; have := HL.out; omega) hi1 hi2 hnb
              go_wp2_with (fail)
              refine hC1.mono ?_
              rintro _ wa ⟨rfl, hra, hga⟩
              have HWA : Hid (RowE wa g (P ++ L1 ++ R1 ++ (L2 ++ R2 ++ S)) post) := by unfold Hid; simpa using hra
              have HGA := Lib.hid (grown_trans HG.out hga)
              clear hC1 hra hga
              have hC2 := IH a i mid P L1 R1 (L2 ++ R2 ++ S) wa (by omega) HWA.out HP.out (by have := HL.out; omega) (by have := HL.out; omega) (by rw [List.length_append, List.length_append]; have := HL.out; omega) hb1 hb2 HO1.out HO2.out (HC.out.grown HGA.out HS1.out)
              go_wp2_with (fail)
              refine hC2.mono ?_
              rintro _ wb ⟨rfl, hrb, hgb⟩
              have HWB : Hid (RowE wb g ((P ++ mergeE os L1 R1) ++ L2 ++ R2 ++ S) post) := by unfold Hid; simpa using hrb
              have HGB := Lib.hid (grown_trans HGA.out hgb)
              clear hC2 hrb hgb
              have hme : mergeE os L2 R2 = L2 ++ R2 := by rw [hR2e, mergeE_nil_right, List.append_nil]
              have HWC : Hid (RowE wb g (P ++ mergeE os L R ++ S) post) := by unfold Hid; rw [HMG.out, hme]; have := HWB.out; simpa using this
              have HGC := HGB
              clear hme
              go_wp2_with (fail)
              go_end0
              exact ⟨rfl, HWC.out, HGC.out⟩
          · have dB1 : decide (a < i) = false := decide_eq_false (by omega)
            have hL1e : L1 = [] := List.eq_nil_of_length_eq_zero (by have := HL.out; omega)
            by_cases hC2 : e < b
            · have dC2 : decide (e < b) = true := decide_eq_true (by omega)
              have hc2 : e < b := hC2
              clear hA1 hA2 hB1 hC2
              have hC1 := rotate_ok g n c i m e (P ++ L1) L2 R1 (R2 ++ S) post (.func (.func 72) #[] #[.pointer (some ⟨bo, 0, none⟩)]) wr (by have := HW0.out; simpa using this) (by rw [List.length_append]; have := HL.out; omega) (by have := HL.out; omega) (by have := HL.out; omega) (by rw [List.length_append]; have := HL.out; omega) hi1 hi2 hnb
              go_wp2_with (fail)
              refine hC1.mono ?_
              rintro _ wa ⟨rfl, hra, hga⟩
              have HWA : Hid (RowE wa g (P ++ L1 ++ R1 ++ (L2 ++ R2 ++ S)) post) := by unfold Hid; simpa using hra
              have HGA := Lib.hid (grown_trans HG.out hga)
              clear hC1 hra hga
              obtain ⟨wb, hwb⟩ : ∃ wb : World, wb = wa := ⟨_, rfl⟩
              have hme : mergeE os L1 R1 = L1 ++ R1 := by rw [hL1e, mergeE_nil_left, List.nil_append]
              have HWB : Hid (RowE wb g ((P ++ mergeE os L1 R1) ++ L2 ++ R2 ++ S) post) := by unfold Hid; rw [hwb, hme]; have := HWA.out; simpa using this
              have HGB : Hid (w.grownBy wb (some g)) := by unfold Hid; rw [hwb]; exact HGA.out
              clear hme
              subst hwb
              have hC3 := IH mid e b (P ++ mergeE os L1 R1) L2 R2 S wb (by omega) HWB.out (by rw [List.length_append, mergeE_length]; have := HL.out; omega) (by have := HL.out; omega) (by have := HL.out; omega) (by have := HL.out; omega) hc1 hc2 HO3.out HO4.out (HC.out.grown HGB.out HS2.out)
              go_wp2_with (fail)
              refine hC3.mono ?_
              rintro _ wc ⟨rfl, hrc, hgc⟩
              have HWC : Hid (RowE wc g (P ++ mergeE os L R ++ S) post) := by unfold Hid; rw [HMG.out]; simpa using hrc
              have HGC := Lib.hid (grown_trans HGB.out hgc)
              clear hC3 hrc hgc
              go_wp2_with (fail)
              go_end0
              exact ⟨rfl, HWC.out, HGC.out⟩
            · have dC2 : decide (e < b) = false := decide_eq_false (by omega)
              have hR2e : R2 = [] := List.eq_nil_of_length_eq_zero (by have := HL.out; omega)
              clear hA1 hA2 hB1 hC2
              have hC1 := rotate_ok g n c i m e (P ++ L1) L2 R1 (R2 ++ S) post (.func (.func 72) #[] #[.pointer (some ⟨bo, 0, none⟩)]) wr (by have := HW0.out; simpa using this) (by rw [List.length_append]; have := HL.out; omega) (by have := HL.out; omega) (by have := HL.out; omega) (by rw [List.length_append]; have := HL.out; omega) hi1 hi2 hnb
              go_wp2_with (fail)
              refine hC1.mono ?_
              rintro _ wa ⟨rfl, hra, hga⟩
              have HWA : Hid (RowE wa g (P ++ L1 ++ R1 ++ (L2 ++ R2 ++ S)) post) := by unfold Hid; simpa using hra
              have HGA := Lib.hid (grown_trans HG.out hga)
              clear hC1 hra hga
              obtain ⟨wb, hwb⟩ : ∃ wb : World, wb = wa := ⟨_, rfl⟩
              have hme : mergeE os L1 R1 = L1 ++ R1 := by rw [hL1e, mergeE_nil_left, List.nil_append]
              have HWB : Hid (RowE wb g ((P ++ mergeE os L1 R1) ++ L2 ++ R2 ++ S) post) := by unfold Hid; rw [hwb, hme]; have := HWA.out; simpa using this
              have HGB : Hid (w.grownBy wb (some g)) := by unfold Hid; rw [hwb]; exact HGA.out
              clear hme
              subst hwb
              have hme : mergeE os L2 R2 = L2 ++ R2 := by rw [hR2e, mergeE_nil_right, List.append_nil]
              have HWC : Hid (RowE wb g (P ++ mergeE os L R ++ S) post) := by unfold Hid; rw [HMG.out, hme]; have := HWB.out; simpa using this
              have HGC := HGB
              clear hme
              go_wp2_with (fail)
              go_end0
              exact ⟨rfl, HWC.out, HGC.out⟩
        · have dA2 : decide (m < e) = false := decide_eq_false (by omega)
          have dB2 : decide (i < mid) = false := decide_eq_false (by omega)
          have hR1 : R1 = [] := List.eq_nil_of_length_eq_zero (by have := HL.out; omega)
          by_cases hB1 : a < i
          · have dB1 : decide (a < i) = true := decide_eq_true (by omega)
            have hb1 : a < i := hB1
            by_cases hC2 : e < b
            · have dC2 : decide (e < b) = true := decide_eq_true (by omega)
              have hc2 : e < b := hC2
              clear hA1 hA2 hB1 hC2
              obtain ⟨wa, hwa⟩ : ∃ wa : World, wa = wr := ⟨_, rfl⟩
              have HWA : Hid (RowE wa g (P ++ L1 ++ R1 ++ (L2 ++ R2 ++ S)) post) := by unfold Hid; rw [hwa]; have := HW0.out; obtain rfl := hR1; simpa using this
              have HGA : Hid (w.grownBy wa (some g)) := by unfold Hid; rw [hwa]; exact HG.out
              subst hwa
              obtain ⟨wb, hwb⟩ : ∃ wb : World, wb = wa := ⟨_, rfl⟩
              have hme : mergeE os L1 R1 = L1 ++ R1 := by rw [hR1, mergeE_nil_right, List.append_nil]
              have HWB : Hid (RowE wb g ((P ++ mergeE os L1 R1) ++ L2 ++ R2 ++ S) post) := by unfold Hid; rw [hwb, hme]; have := HWA.out; simpa using this
              have HGB : Hid (w.grownBy wb (some g)) := by unfold Hid; rw [hwb]; exact HGA.out
              clear hme
              subst hwb
              have hC3 := IH mid e b (P ++ mergeE os L1 R1) L2 R2 S wb (by omega) HWB.out (by rw [List.length_append, mergeE_length]; have := HL.out; omega) (by have := HL.out; omega) (by have := HL.out; omega) (by have := HL.out; omega) hc1 hc2 HO3.out HO4.out (HC.out.grown HGB.out HS2.out)
              go_wp2_with (fail)
              refine hC3.mono ?_
              rintro _ wc ⟨rfl, hrc, hgc⟩
              have HWC : Hid (RowE wc g (P ++ mergeE os L R ++ S) post) := by unfold Hid; rw [HMG.out]; simpa using hrc
              have HGC := Lib.hid (grown_trans HGB.out hgc)
              clear hC3 hrc hgc
              go_wp2_with (fail)
              go_end0
              exact ⟨rfl, HWC.out, HGC.out⟩
            · have dC2 : decide (e < b) = false := decide_eq_false (by omega)
              have hR2e : R2 = [] := List.eq_nil_of_length_eq_zero (by have := HL.out; omega)
              clear hA1 hA2 hB1 hC2
              obtain ⟨wa, hwa⟩ : ∃ wa : World, wa = wr := ⟨_, rfl⟩
              have HWA : Hid (RowE wa g (P ++ L1 ++ R1 ++ (L2 ++ R2 ++ S)) post) := by unfold Hid; rw [hwa]; have := HW0.out; obtain rfl := hR1; simpa using this
              have HGA : Hid (w.grownBy wa (some g)) := by unfold Hid; rw [hwa]; exact HG.out
              subst hwa
              obtain ⟨wb, hwb⟩ : ∃ wb : World, wb = wa := ⟨_, rfl⟩
              have hme : mergeE os L1 R1 = L1 ++ R1 := by rw [hR1, mergeE_nil_right, List.append_nil]
              have HWB : Hid (RowE wb g ((P ++ mergeE os L1 R1) ++ L2 ++ R2 ++ S) post) := by unfold Hid; rw [hwb, hme]; have := HWA.out; simpa using this
              have HGB : Hid (w.grownBy wb (some g)) := by unfold Hid; rw [hwb]; exact HGA.out
              clear hme
              subst hwb
              have hme : mergeE os L2 R2 = L2 ++ R2 := by rw [hR2e, mergeE_nil_right, List.append_nil]
              have HWC : Hid (RowE wb g (P ++ mergeE os L R ++ S) post) := by unfold Hid; rw [HMG.out, hme]; have := HWB.out; simpa using this
              have HGC := HGB
              clear hme
              go_wp2_with (fail)
              go_end0
              exact ⟨rfl, HWC.out, HGC.out⟩
          · exfalso; omega
      · have dA1 : decide (i < m) = false := decide_eq_false (by omega)
        have dC1 : decide (mid < e) = false := decide_eq_false (by omega)
        have hL2 : L2 = [] := List.eq_nil_of_length_eq_zero (by have := HL.out; omega)
        by_cases hA2 : m < e
        · have dA2 : decide (m < e) = true := decide_eq_true (by omega)
          have dB2 : decide (i < mid) = true := decide_eq_true (by omega)
          have hi2 : m < e := hA2
          have hb2 : i < mid := by omega
          by_cases hB1 : a < i
          · have dB1 : decide (a < i) = true := decide_eq_true (by omega)
            have hb1 : a < i := hB1
            by_cases hC2 : e < b
            · have dC2 : decide (e < b) = true := decide_eq_true (by omega)
              have hc2 : e < b := hC2
              clear hA1 hA2 hB1 hC2
              obtain ⟨wa, hwa⟩ : ∃ wa : World, wa = wr := ⟨_, rfl⟩
              have HWA : Hid (RowE wa g (P ++ L1 ++ R1 ++ (L2 ++ R2 ++ S)) post) := by unfold Hid; rw [hwa]; have := HW0.out; obtain rfl := hL2; simpa using this
              have HGA : Hid (w.grownBy wa (some g)) := by unfold Hid; rw [hwa]; exact HG.out
              subst hwa
              have hC2 := IH a i mid P L1 R1 (L2 ++ R2 ++ S) wa (by omega) HWA.out HP.out (by have := HL.out; omega) (by have := HL.out; omega) (by rw [List.length_append, List.length_append]; have := HL.out; omega) hb1 hb2 HO1.out HO2.out (HC.out.grown HGA.out HS1.out)
              go_wp2_with (fail)
              refine hC2.mono ?_
              rintro _ wb ⟨rfl, hrb, hgb⟩
              have HWB : Hid (RowE wb g ((P ++ mergeE os L1 R1) ++ L2 ++ R2 ++ S) post) := by unfold Hid; simpa using hrb
              have HGB := Lib.hid (grown_trans HGA.out hgb)
              clear hC2 hrb hgb
              have hme : mergeE os L2 R2 = L2 ++ R2 := by rw [hL2, mergeE_nil_left, List.nil_append]
              have HWC : Hid (RowE wb g (P ++ mergeE os L R ++ S) post) := by unfold Hid; rw [HMG.out, hme]; have := HWB.out; simpa using this
              have HGC := HGB
              clear hme
              go_wp2_with (fail)
              go_end0
              exact ⟨rfl, HWC.out, HGC.out⟩
            · exfalso; omega
          · have dB1 : decide (a < i) = false := decide_eq_false (by omega)
            have hL1e : L1 = [] := List.eq_nil_of_length_eq_zero (by have := HL.out; omega)
            by_cases hC2 : e < b
            · have dC2 : decide (e < b) = true := decide_eq_true (by omega)
              have hc2 : e < b := hC2
              clear hA1 hA2 hB1 hC2
              obtain ⟨wa, hwa⟩ : ∃ wa : World, wa = wr := ⟨_, rfl⟩
              have HWA : Hid (RowE wa g (P ++ L1 ++ R1 ++ (L2 ++ R2 ++ S)) post) := by unfold Hid; rw [hwa]; have := HW0.out; obtain rfl := hL2; simpa using this
              have HGA : Hid (w.grownBy wa (some g)) := by unfold Hid; rw [hwa]; exact HG.out
              subst hwa
              obtain ⟨wb, hwb⟩ : ∃ wb : World, wb = wa := ⟨_, rfl⟩
              have hme : mergeE os L1 R1 = L1 ++ R1 := by rw [hL1e, mergeE_nil_left, List.nil_append]
              have HWB : Hid (RowE wb g ((P ++ mergeE os L1 R1) ++ L2 ++ R2 ++ S) post) := by unfold Hid; rw [hwb, hme]; have := HWA.out; simpa using this
              have HGB : Hid (w.grownBy wb (some g)) := by unfold Hid; rw [hwb]; exact HGA.out
              clear hme
              subst hwb
              have hme : mergeE os L2 R2 = L2 ++ R2 := by rw [hL2, mergeE_nil_left, List.nil_append]
              have HWC : Hid (RowE wb g (P ++ mergeE os L R ++ S) post) := by unfold Hid; rw [HMG.out, hme]; have := HWB.out; simpa using this
              have HGC := HGB
              clear hme
              go_wp2_with (fail)
              go_end0
              exact ⟨rfl, HWC.out, HGC.out⟩
            · exfalso; omega
        · have dA2 : decide (m < e) = false := decide_eq_false (by omega)
          have dB2 : decide (i < mid) = false := decide_eq_false (by omega)
          have hR1 : R1 = [] := List.eq_nil_of_length_eq_zero (by have := HL.out; omega)
          by_cases hB1 : a < i
          · have dB1 : decide (a < i) = true := decide_eq_true (by omega)
            have hb1 : a < i := hB1
            by_cases hC2 : e < b
            · have dC2 : decide (e < b) = true := decide_eq_true (by omega)
              have hc2 : e < b := hC2
              clear hA1 hA2 hB1 hC2
              obtain ⟨wa, hwa⟩ : ∃ wa : World, wa = wr := ⟨_, rfl⟩
              have HWA : Hid (RowE wa g (P ++ L1 ++ R1 ++ (L2 ++ R2 ++ S)) post) := by unfold Hid; rw [hwa]; have := HW0.out; obtain rfl := hL2; simpa using this
              have HGA : Hid (w.grownBy wa (some g)) := by unfold Hid; rw [hwa]; exact HG.out
              subst hwa
              obtain ⟨wb, hwb⟩ : ∃ wb : World, wb = wa := ⟨_, rfl⟩
              have hme : mergeE os L1 R1 = L1 ++ R1 := by rw [hR1, mergeE_nil_right, List.append_nil]
              have HWB : Hid (RowE wb g ((P ++ mergeE os L1 R1) ++ L2 ++ R2 ++ S) post) := by unfold Hid; rw [hwb, hme]; have := HWA.out; simpa using this
              have HGB : Hid (w.grownBy wb (some g)) := by unfold Hid; rw [hwb]; exact HGA.out
              clear hme
              subst hwb
              have hme : mergeE os L2 R2 = L2 ++ R2 := by rw [hL2, mergeE_nil_left, List.nil_append]
              have HWC : Hid (RowE wb g (P ++ mergeE os L R ++ S) post) := by unfold Hid; rw [HMG.out, hme]; have := HWB.out; simpa using this
              have HGC := HGB
              clear hme
              go_wp2_with (fail)
              go_end0
              exact ⟨rfl, HWC.out, HGC.out⟩
            · exfalso; omega
          · exfalso; omega
end Go.Proofs.Ytpfabbapfmfmmaa
/- slices.symMergeCmpFunc at entries, at any two runs that stand in order. -/
namespace Go.Proofs.Ytpfabbapfmfmmaa
open Go.RowKit

theorem one_of {α : Type} {L : List α} (h : L.length = 1) : ∃ x, L = [x] := by
  match L, h with
  | [x], _ => exact ⟨x, rfl⟩
theorem symMerge_ok (g n c bo : Nat) (post : List Value) (Ao : Option Addr) (ro co : Nat) (os : List Int) (hnb : n ≤ 4000000000000000000) (K : Nat) : ∀ (a m b : Nat) (P L R S : List Ent) (w : World), b - a ≤ K → RowE w g (P ++ L ++ R ++ S) post → P.length = a → a + L.length = m → m + R.length = b → b + S.length = n → a < m → m < b → InOrd os L → InOrd os R → CtxE w g bo Ao ro co os (L ++ R) →
    Calls Try.prog 88 #[.slice (some ⟨g, 0, none⟩) n c, .int .i64 (a : Int), .int .i64 (m : Int), .int .i64 (b : Int), .func (.func 72) #[] #[.pointer (some ⟨bo, 0, none⟩)]] w
      fun e w' => e = .returned (.tuple #[]) ∧ RowE w' g (P ++ mergeE os L R ++ S) post ∧ w.grownBy w' (some g) := by
  induction K with
  | zero => intro a m b P L R S w h0 _ _ _ _ _ h1 h2; omega
  | succ K ih =>
    intro a m b P L R S w h0 hr hP hL hR hn h1 h2 hOL hOR hC
    by_cases hl : L.length = 1
    · obtain ⟨x, rfl⟩ := one_of hl
      exact symOneL_ok g n c a m b bo P R S x post Ao ro co os w hr hP (by simpa using hL) hR hn hnb hOR hC
    · by_cases hr1 : R.length = 1
      · obtain ⟨x, rfl⟩ := one_of hr1
        exact symOneR_ok g n c a m b bo P L S x post Ao ro co os w hr hP hL (by simpa using hR) (by omega) hn hnb hOL hC
      · by_cases hs : (a + b) / 2 < m
        · exact symRest1_ok g n c a m b ((a + b) / 2) bo P L R S post Ao ro co os w hr hP hL hR (by omega) (by omega) hn hnb hOL hOR hC rfl hs (fun a2 m2 b2 P2 L2 R2 S2 w2 hlt => ih a2 m2 b2 P2 L2 R2 S2 w2 (by omega))
        · exact symRest2_ok g n c a m b ((a + b) / 2) bo P L R S post Ao ro co os w hr hP hL hR (by omega) (by omega) hn hnb hOL hOR hC rfl (by omega) (fun a2 m2 b2 P2 L2 R2 S2 w2 hlt => ih a2 m2 b2 P2 L2 R2 S2 w2 (by omega))
theorem merge_any (g n c a m b bo : Nat) (P L R S : List Ent) (post : List Value) (Ao : Option Addr) (ro co : Nat) (os : List Int) (w : World)
    (hblk : RowE w g (P ++ L ++ R ++ S) post) (hP : P.length = a) (hm : a + L.length = m) (hb : m + R.length = b) (hn : b + S.length = n) (hnb : n ≤ 4000000000000000000) (h1 : a < m) (h2 : m < b) (hOL : InOrd os L) (hOR : InOrd os R) (hC : CtxE w g bo Ao ro co os (L ++ R)) :
    Calls Try.prog 88 #[.slice (some ⟨g, 0, none⟩) n c, .int .i64 (a : Int), .int .i64 (m : Int), .int .i64 (b : Int), .func (.func 72) #[] #[.pointer (some ⟨bo, 0, none⟩)]] w
      fun e w' => e = .returned (.tuple #[]) ∧ RowE w' g (P ++ mergeE os L R ++ S) post ∧ w.grownBy w' (some g) :=
  symMerge_ok g n c bo post Ao ro co os hnb (b - a) a m b P L R S w (Nat.le_refl _) hblk hP hm hb hn h1 h2 hOL hOR hC
end Go.Proofs.Ytpfabbapfmfmmaa
/- A list that is sorted in parts, and the parts merged. Nothing is claimed of the program here. -/
namespace Go.Proofs.Ytpfabbapfmfmmaa
open Go.RowKit

/-- each s of a list sorted by themselves -/
def allF (os : List Int) (s : Nat) : Nat → List Ent → List Ent
  | 0, _ => []
  | f + 1, l => sortE os (l.take s) ++ allF os s f (l.drop s)
def allP (os : List Int) (s : Nat) (l : List Ent) : List Ent := allF os s l.length l
def chunkP (os : List Int) (s : Nat) (es : List Ent) : Nat → List Ent
  | 0 => []
  | t + 1 => chunkP os s es t ++ sortE os ((es.drop (t * s)).take s)
theorem sortE_nil (os : List Int) : sortE os [] = [] := rfl
theorem allF_nil (os : List Int) (s f : Nat) : allF os s f [] = [] := by
  induction f with
  | zero => rfl
  | succ f ih => unfold allF; rw [List.take_nil, List.drop_nil, ih]; rfl
theorem allF_more (os : List Int) {s : Nat} (hs : 1 ≤ s) (f f' : Nat) (l : List Ent) (h : l.length ≤ f) (h' : l.length ≤ f') : allF os s f l = allF os s f' l := by
  induction f generalizing f' l with
  | zero =>
    obtain rfl : l = [] := List.eq_nil_of_length_eq_zero (by omega)
    rw [allF_nil, allF_nil]
  | succ f ih =>
    cases f' with
    | zero =>
      obtain rfl : l = [] := List.eq_nil_of_length_eq_zero (by omega)
      rw [allF_nil, allF_nil]
    | succ f' =>
      unfold allF
      by_cases h0 : l.length = 0
      · obtain rfl : l = [] := List.eq_nil_of_length_eq_zero h0
        rw [List.drop_nil, allF_nil, allF_nil]
      · rw [ih f' (l.drop s) (by rw [List.length_drop]; omega) (by rw [List.length_drop]; omega)]
theorem allP_step (os : List Int) {s : Nat} (hs : 1 ≤ s) (l : List Ent) : allP os s l = sortE os (l.take s) ++ allP os s (l.drop s) := by
  unfold allP
  cases h : l.length with
  | zero =>
    obtain rfl : l = [] := List.eq_nil_of_length_eq_zero h
    rw [List.take_nil, List.drop_nil]; rfl
  | succ n =>
    conv => lhs; unfold allF
    rw [allF_more os hs n (l.drop s).length (l.drop s) (by rw [List.length_drop]; omega) (Nat.le_refl _)]
theorem allP_nil (os : List Int) (s : Nat) : allP os s [] = [] := allF_nil os s _
theorem allP_few (os : List Int) {s : Nat} (hs : 1 ≤ s) {l : List Ent} (h : l.length ≤ s) : allP os s l = sortE os l := by
  rw [allP_step os hs, List.take_of_length_le h, List.drop_of_length_le h, allP_nil, List.append_nil]
theorem sortE_len (os : List Int) (l : List Ent) : (sortE os l).length = l.length := (sortE_facts os l).1
theorem allF_len (os : List Int) (s f : Nat) (hs : 1 ≤ s) (l : List Ent) (h : l.length ≤ f) : (allF os s f l).length = l.length := by
  induction f generalizing l with
  | zero =>
    obtain rfl : l = [] := List.eq_nil_of_length_eq_zero (by omega)
    rfl
  | succ f ih =>
    unfold allF
    by_cases h0 : l.length = 0
    · obtain rfl : l = [] := List.eq_nil_of_length_eq_zero h0
      rw [List.drop_nil, allF_nil, List.take_nil]; rfl
    · rw [List.length_append, sortE_len, ih (l.drop s) (by rw [List.length_drop]; omega), List.length_take, List.length_drop]; omega
theorem allP_len (os : List Int) {s : Nat} (hs : 1 ≤ s) (l : List Ent) : (allP os s l).length = l.length := allF_len os s _ hs l (Nat.le_refl _)
theorem chunkP_len (os : List Int) (s : Nat) (es : List Ent) (t : Nat) (h : t * s ≤ es.length) : (chunkP os s es t).length = t * s := by
  induction t with
  | zero => simp [chunkP]
  | succ t ih =>
    have h2 : (t + 1) * s = t * s + s := by rw [Nat.add_mul, Nat.one_mul]
    unfold chunkP
    rw [List.length_append, ih (by omega), sortE_len, List.length_take, List.length_drop]
    omega
theorem chunkP_all (os : List Int) {s : Nat} (hs : 1 ≤ s) (es : List Ent) (t : Nat) : chunkP os s es t ++ allP os s (es.drop (t * s)) = allP os s es := by
  induction t with
  | zero => simp [chunkP]
  | succ t ih =>
    unfold chunkP
    rw [← ih, allP_step os hs (es.drop (t * s)), List.drop_drop, List.append_assoc]
    congr 2
    rw [Nat.add_mul, Nat.one_mul]
theorem allP_two (os : List Int) {s : Nat} (hs : 1 ≤ s) (l : List Ent) : allP os s l = sortE os (l.take s) ++ sortE os ((l.drop s).take s) ++ allP os s (l.drop (2 * s)) := by
  rw [allP_step os hs l, allP_step os hs (l.drop s), List.drop_drop, ← List.append_assoc, show s + s = 2 * s by omega]
theorem merge_two (os : List Int) (s : Nat) (l : List Ent) : mergeE os (sortE os (l.take s)) (sortE os ((l.drop s).take s)) = sortE os (l.take (2 * s)) := by
  rw [← sortE_append]
  congr 1
  rw [show 2 * s = s + s by omega, List.take_add]
theorem merge_rest (os : List Int) (s : Nat) (l : List Ent) : mergeE os (sortE os (l.take s)) (sortE os (l.drop s)) = sortE os l := by
  rw [← sortE_append, List.take_append_drop]
theorem sortE_sub {os : List Int} {l : List Ent} {x : Ent} (h : x ∈ sortE os l) : x ∈ l := (sortE_facts os l).2 x h

end Go.Proofs.Ytpfabbapfmfmmaa
/- slices.stableCmpFunc and slices.SortStableFunc at entries, at any length: what the insertion sort of all of them makes. -/
namespace Go.Proofs.Ytpfabbapfmfmmaa
open Go.RowKit

set_option maxRecDepth 100000 in
set_option maxHeartbeats 8000000 in
theorem stable_any (g n c bo : Nat) (es : List Ent) (post : List Value) (Ao : Option Addr) (ro co : Nat) (os : List Int) (w : World)
    (hblk : RowE w g es post) (hl : es.length = n) (hnb : n ≤ 1000000000) (hC : CtxE w g bo Ao ro co os es) :
    Calls Try.prog 71 #[.slice (some ⟨g, 0, none⟩) n c, .int .i64 (n : Int), .func (.func 72) #[] #[.pointer (some ⟨bo, 0, none⟩)]] w
      fun e w' => e = .returned (.tuple #[]) ∧ RowE w' g (sortE os es) post ∧ w.grownBy w' (some g) := by
  have HB := Lib.hid hblk
  have HL := Lib.hid hl
  have HC := Lib.hid hC
  clear hblk hl hC
  go_enter Try.func71, Try.ntmps71
  go_wp2
  go_loopw [7, 8] (fun v u wr => ∃ (t a b : Nat), v = .int .i64 (a : Int) ∧ u = .int .i64 (b : Int) ∧ Hid (a = t * 20) ∧ Hid (b = a + 20) ∧ a ≤ n ∧ Hid (RowE wr g (chunkP os 20 es t ++ es.drop a) post) ∧ Hid (w.grownBy wr (some g))) (fun v _ _ => n + 20 - (intOf v).toNat)
  case atStart => exact ⟨0, 0, 20, rfl, rfl, rfl, rfl, Nat.zero_le _, by unfold Hid; simpa [chunkP] using HB.out, Lib.hid (grown_same w g)⟩
  case round =>
    obtain ⟨t, a, b, rfl, rfl, HA, HAB, han, HW, HG⟩ := hrel
    have hab1 : b ≤ n + 20 := by have := HAB.out; omega
    have hab2 : a < b := by have := HAB.out; omega
    by_cases hlt : b ≤ n
    · have hlc : (chunkP os 20 es t).length = a := by rw [chunkP_len os 20 es t (by rw [HL.out, ← HA.out]; exact han)]; exact HA.out.symm
      have hI := insertion_ok g n c a b bo (chunkP os 20 es t) (es.drop a) post Ao ro co os wr HW.out hlc (by rw [List.length_drop, HL.out]; omega) (by omega) (by have := HAB.out; omega) hlt
        (fun x hx => (HC.out.grown HG.out (fun y hy => hy)).ents x (List.mem_of_mem_drop hx)) (HC.out.grown HG.out (fun y hy => hy)).ord (HC.out.grown HG.out (fun y hy => hy)).cell HC.out.off HC.out.few
      have HN : Hid (chunkP os 20 es (t + 1) ++ es.drop (a + 20) = chunkP os 20 es t ++ (sortE os ((es.drop a).take (b - a)) ++ (es.drop a).drop (b - a))) := by
        unfold Hid
        rw [show b - a = 20 by have := HAB.out; omega, List.drop_drop]
        conv => lhs; unfold chunkP
        rw [← HA.out, List.append_assoc]
      clear hlc
      go_wp2_with (fail)
      refine hI.mono ?_
      rintro _ w2 ⟨rfl, hr2, hg2⟩
      have HR2 : Hid (RowE w2 g (chunkP os 20 es (t + 1) ++ es.drop b) post) := by unfold Hid; rw [HAB.out, HN.out]; exact hr2
      have HG2 := Lib.hid (grown_trans HG.out hg2)
      clear hI hr2 hg2
      go_wp2
      go_roundw
      case rel => exact ⟨t + 1, b, b + 20, rfl, by go_num, by unfold Hid; have := HA.out; have := HAB.out; omega, rfl, hlt, HR2, HG2⟩
      case measure => simp [intOf]; omega
    · have hlc : (chunkP os 20 es t).length = a := by rw [chunkP_len os 20 es t (by rw [HL.out, ← HA.out]; exact han)]; exact HA.out.symm
      have hI := insertion_ok g n c a n bo (chunkP os 20 es t) (es.drop a) post Ao ro co os wr HW.out hlc (by rw [List.length_drop, HL.out]; omega) (by omega) han (Nat.le_refl _)
        (fun x hx => (HC.out.grown HG.out (fun y hy => hy)).ents x (List.mem_of_mem_drop hx)) (HC.out.grown HG.out (fun y hy => hy)).ord (HC.out.grown HG.out (fun y hy => hy)).cell HC.out.off HC.out.few
      have HN : Hid (chunkP os 20 es t ++ (sortE os ((es.drop a).take (n - a)) ++ (es.drop a).drop (n - a)) = allP os 20 es) := by
        unfold Hid
        have hdl : (es.drop a).length = n - a := by rw [List.length_drop, HL.out]
        have q1 : (es.drop a).take (n - a) = es.drop a := List.take_of_length_le (by omega)
        have q2 : (es.drop a).drop (n - a) = [] := List.drop_of_length_le (by omega)
        rw [q1, q2, List.append_nil, ← allP_few os (s := 20) (l := es.drop a) (by omega) (by have := HAB.out; omega), HA.out]
        exact chunkP_all os (by omega) es t
      clear hlc
      go_wp2_with (fail)
      refine hI.mono ?_
      rintro _ w2 ⟨rfl, hr2, hg2⟩
      have HR2 : Hid (RowE w2 g (allP os 20 es) post) := by unfold Hid; rw [← HN.out]; exact hr2
      have HG2 := Lib.hid (grown_trans HG.out hg2)
      clear hI hr2 hg2 HW HG HN HA HAB hab1 hab2 han
      go_wp2
      go_loopw [6] (fun v wx => ∃ s : Nat, v = .int .i64 (s : Int) ∧ 1 ≤ s ∧ s ≤ 2 * n + 20 ∧ Hid (RowE wx g (allP os s es) post) ∧ Hid (w.grownBy wx (some g))) (fun v _ => 2 * n + 20 - (intOf v).toNat)
      case atStart => exact ⟨20, rfl, by omega, by omega, HR2, HG2⟩
      case round =>
        clear HR2 HG2
        obtain ⟨s, rfl, hs1, hsn, HW, HG⟩ := hrel
        by_cases hsl : s < n
        · obtain ⟨s2, hs2⟩ : ∃ s2 : Nat, 2 * s = s2 := ⟨_, rfl⟩
          have e1 : (2 : Int) * (s : Int) = (s2 : Int) := by omega
          have e2 : (s : Int) * 2 = (s2 : Int) := by omega
          have HS2 := Lib.hid hs2
          have hs2n : s2 ≤ 2 * n := by omega
          have hs21 : s < s2 := by omega
          have hs22 : 1 ≤ s2 := by omega
          have HWZ : Hid (RowE wr g (chunkP os s2 es 0 ++ allP os s (es.drop 0)) post) := by unfold Hid; simpa [chunkP] using HW.out
          clear hs2 HW
          go_wp2
          obtain ⟨wo, rfl⟩ : ∃ wo : World, wo = wr := ⟨_, rfl⟩
          go_loopw [7, 8] (fun v u wx => ∃ (t a b : Nat), v = .int .i64 (a : Int) ∧ u = .int .i64 (b : Int) ∧ Hid (a = t * s2) ∧ Hid (b = a + s2) ∧ a ≤ n ∧ Hid (RowE wx g (chunkP os s2 es t ++ allP os s (es.drop a)) post) ∧ Hid (w.grownBy wx (some g))) (fun v _ _ => n + s2 - (intOf v).toNat)
          case atStart => exact ⟨0, 0, s2, rfl, rfl, by unfold Hid; omega, by unfold Hid; omega, Nat.zero_le _, HWZ, HG⟩
          case round =>
            clear HWZ HG
            obtain ⟨t, a, b, rfl, rfl, HA, HAB, han, HW, HG⟩ := hrel
            have hab1 : b ≤ n + s2 := by have := HAB.out; omega
            have hab2 : a < b := by have := HAB.out; omega
            have hlc : (chunkP os s2 es t).length = a := by rw [chunkP_len os s2 es t (by rw [HL.out, ← HA.out]; exact han)]; exact HA.out.symm
            have hdl : (es.drop a).length = n - a := by rw [List.length_drop, HL.out]
            obtain ⟨m, hm⟩ : ∃ m : Nat, a + s = m := ⟨_, rfl⟩
            have eA : (a : Int) + (s : Int) = (m : Int) := by omega
            by_cases hlt : b ≤ n
            · have hx := allP_two os hs1 (es.drop a)
              have hR := HW.out
              rw [hx] at hR
              have hI := merge_any g n c a m b bo (chunkP os s2 es t) (sortE os ((es.drop a).take s)) (sortE os (((es.drop a).drop s).take s)) (allP os s ((es.drop a).drop (2 * s))) post Ao ro co os wr
                (by rw [List.append_assoc, List.append_assoc, ← List.append_assoc (sortE os ((es.drop a).take s))]; exact hR) hlc (by rw [sortE_len, List.length_take]; have := HS2.out; have := HAB.out; omega) (by rw [sortE_len, List.length_take, List.length_drop]; have := HS2.out; have := HAB.out; omega)
                (by rw [allP_len os hs1, List.length_drop, List.length_drop, HL.out]; have := HS2.out; have := HAB.out; omega) (by omega) (by omega) (by have := HS2.out; have := HAB.out; omega) (sortE_ord _ _) (sortE_ord _ _)
                (HC.out.grown HG.out (fun x hx => by
                  rcases List.mem_append.1 hx with h | h
                  · exact List.mem_of_mem_drop (List.mem_of_mem_take (sortE_sub h))
                  · exact List.mem_of_mem_drop (List.mem_of_mem_drop (List.mem_of_mem_take (sortE_sub h)))))
              rw [merge_two] at hI
              have HN : Hid (chunkP os s2 es (t + 1) ++ allP os s (es.drop (a + s2)) = chunkP os s2 es t ++ sortE os ((es.drop a).take (2 * s)) ++ allP os s ((es.drop a).drop (2 * s))) := by
                unfold Hid
                rw [List.drop_drop, HS2.out]
                conv => lhs; unfold chunkP
                rw [← HA.out]
              clear hlc hdl hx hR hm
              go_wp2_with (fail)
              refine hI.mono ?_
              rintro _ w3 ⟨rfl, hr3, hg3⟩
              have HR3 : Hid (RowE w3 g (chunkP os s2 es (t + 1) ++ allP os s (es.drop b)) post) := by unfold Hid; rw [HAB.out, HN.out]; exact hr3
              have HG3 := Lib.hid (grown_trans HG.out hg3)
              obtain ⟨b2, hb2⟩ : ∃ b2 : Nat, b + s2 = b2 := ⟨_, rfl⟩
              have eB : (b : Int) + (s2 : Int) = (b2 : Int) := by omega
              have hbn2 : b2 ≤ 5 * n := by omega
              have HB2 : Hid (b2 = b + s2) := hb2.symm
              clear hI hr3 hg3 hb2
              go_wp2
              go_roundw
              case rel => exact ⟨t + 1, b, b2, rfl, rfl, by unfold Hid; have := HA.out; rw [HAB.out, Nat.add_mul, Nat.one_mul, ← this], HB2, hlt, HR3, HG3⟩
              case measure => simp [intOf]; omega
            · by_cases hmn : m < n
              · have hx := allP_step os hs1 (es.drop a)
                rw [allP_few os hs1 (l := (es.drop a).drop s) (by rw [List.length_drop]; have := HS2.out; have := HAB.out; omega)] at hx
                have hR := HW.out
                rw [hx] at hR
                have hI := merge_any g n c a m n bo (chunkP os s2 es t) (sortE os ((es.drop a).take s)) (sortE os ((es.drop a).drop s)) [] post Ao ro co os wr
                  (by rw [List.append_nil, List.append_assoc]; exact hR) hlc (by rw [sortE_len, List.length_take]; omega) (by rw [sortE_len, List.length_drop]; omega) (by simp) (by omega) (by omega) hmn (sortE_ord _ _) (sortE_ord _ _)
                  (HC.out.grown HG.out (fun x hx => by
                    rcases List.mem_append.1 hx with h | h
                    · exact List.mem_of_mem_drop (List.mem_of_mem_take (sortE_sub h))
                    · exact List.mem_of_mem_drop (List.mem_of_mem_drop (sortE_sub h))))
                rw [merge_rest] at hI
                have HN : Hid (chunkP os s2 es t ++ sortE os (es.drop a) ++ [] = allP os s2 es) := by
                  unfold Hid
                  rw [List.append_nil, ← allP_few os hs22 (l := es.drop a) (by have := HAB.out; omega), HA.out]
                  exact chunkP_all os hs22 es t
                clear hlc hdl hx hR hm
                go_wp2_with (fail)
                refine hI.mono ?_
                rintro _ w3 ⟨rfl, hr3, hg3⟩
                have HR3 : Hid (RowE w3 g (allP os s2 es) post) := by unfold Hid; rw [← HN.out]; exact hr3
                have HG3 := Lib.hid (grown_trans HG.out hg3)
                clear hI hr3 hg3
                go_wp2
                go_roundw
                case rel => exact ⟨s2, rfl, hs22, by omega, HR3, HG3⟩
                case measure => simp [intOf]; omega
              · have HR3 : Hid (RowE wr g (allP os s2 es) post) := by
                  unfold Hid
                  have hR := HW.out
                  rw [allP_few os hs1 (l := es.drop a) (by omega), ← allP_few os hs22 (l := es.drop a) (by have := HAB.out; omega), HA.out, chunkP_all os hs22 es t] at hR
                  exact hR
                clear hlc hdl hm HW
                go_wp2
                go_roundw
                case rel => exact ⟨s2, rfl, hs22, by omega, HR3, HG⟩
                case measure => simp [intOf]; omega
        · have HF : Hid (allP os s es = sortE os es) := by unfold Hid; exact allP_few os hs1 (by rw [HL.out]; omega)
          go_wp2
          go_end0
          exact ⟨rfl, by rw [← HF.out]; exact HW.out, HG.out⟩

set_option maxRecDepth 100000 in
theorem sort_any (g n c bo : Nat) (es : List Ent) (post : List Value) (Ao : Option Addr) (ro co : Nat) (os : List Int) (w : World)
    (hblk : RowE w g es post) (hl : es.length = n) (hnb : n ≤ 1000000000) (hC : CtxE w g bo Ao ro co os es) :
    Calls Try.prog 45 #[.slice (some ⟨g, 0, none⟩) n c, .func (.func 72) #[] #[.pointer (some ⟨bo, 0, none⟩)]] w
      fun e w' => e = .returned (.tuple #[]) ∧ RowE w' g (sortE os es) post ∧ w.grownBy w' (some g) := by
  have hI := stable_any g n c bo es post Ao ro co os w hblk hl hnb hC
  clear hblk hC hl
  go_enter Try.func45, Try.ntmps45
  go_wp2_with (fail)
  refine hI.mono ?_
  rintro e w2 ⟨rfl, hb2, hg2⟩
  go_wp2
  go_end0
  exact ⟨rfl, hb2, hg2⟩
end Go.Proofs.Ytpfabbapfmfmmaa
