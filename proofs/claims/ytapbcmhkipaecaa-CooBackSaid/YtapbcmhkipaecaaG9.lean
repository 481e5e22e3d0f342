/- slices.symMergeCmpFunc at entries, where both runs have two or more and the second one begins behind the middle. -/
import Derived.Test.YtapbcmhkipaecaaG8
namespace Go.Proofs.Ytapbcmhkipaecaa
open Go.RowKit

set_option maxRecDepth 100000 in
set_option maxHeartbeats 16000000 in
theorem symRest1_ok (g n c a m b mid bo : Nat) (P L R S : List Ent) (post : List Value) (Ao : Option Addr) (ro co : Nat) (os : List Int) (w : World)
    (hblk : RowE w g (P ++ L ++ R ++ S) post) (hP : P.length = a) (hm : a + L.length = m) (hb : m + R.length = b) (hL2 : 2 ≤ L.length) (hR2 : 2 ≤ R.length) (hn : b + S.length = n) (hnb : n ≤ 4000000000000000000) (hOL : InOrd os L) (hOR : InOrd os R) (hC : CtxE w g bo Ao ro co os (L ++ R)) (hmid : (a + b) / 2 = mid) (hside : mid < m)
    (IH : ∀ (a2 m2 b2 : Nat) (P2 L2 R2 S2 : List Ent) (w2 : World), b2 - a2 < b - a → RowE w2 g (P2 ++ L2 ++ R2 ++ S2) post → P2.length = a2 → a2 + L2.length = m2 → m2 + R2.length = b2 → b2 + S2.length = n → a2 < m2 → m2 < b2 → InOrd os L2 → InOrd os R2 → CtxE w2 g bo Ao ro co os (L2 ++ R2) →
      Calls Try.prog 88 #[.slice (some ⟨g, 0, none⟩) n c, .int .i64 (a2 : Int), .int .i64 (m2 : Int), .int .i64 (b2 : Int), .func (.func 72) #[] #[.pointer (some ⟨bo, 0, none⟩)]] w2 fun e w' => e = .returned (.tuple #[]) ∧ RowE w' g (P2 ++ mergeE os L2 R2 ++ S2) post ∧ w2.grownBy w' (some g)) :
    Calls Try.prog 88 #[.slice (some ⟨g, 0, none⟩) n c, .int .i64 (a : Int), .int .i64 (m : Int), .int .i64 (b : Int), .func (.func 72) #[] #[.pointer (some ⟨bo, 0, none⟩)]] w
      fun e w' => e = .returned (.tuple #[]) ∧ RowE w' g (P ++ mergeE os L R ++ S) post ∧ w.grownBy w' (some g) := by
  have HB := Lib.hid hblk
  have HP := Lib.hid hP
  have HOL := Lib.hid hOL
  have HOR := Lib.hid hOR
  have HC := Lib.hid hC
  have HM := Lib.hid hm
  have HR := Lib.hid hb
  have HN := Lib.hid hn
  have hbn : b ≤ n := by omega
  have ham : a + 2 ≤ m := by omega
  have hmb : m + 2 ≤ b := by omega
  have hmid1 : a + 2 ≤ mid := by omega
  have hmid2 : mid + 2 ≤ b := by omega
  obtain ⟨ml, hml⟩ : ∃ ml : Nat, m - a = ml := ⟨_, rfl⟩
  have e0 : (m : Int) - (a : Int) = (ml : Int) := by omega
  have e0b : ((ml : Int) == 1) = false := by simp; omega
  obtain ⟨bl, hbl⟩ : ∃ bl : Nat, b - m = bl := ⟨_, rfl⟩
  have e1 : (b : Int) - (m : Int) = (bl : Int) := by omega
  have e1b : ((bl : Int) == 1) = false := by simp; omega
  have eM : ((a : Int) + (b : Int)) / 2 = (mid : Int) := by omega
  obtain ⟨nn, hnn⟩ : ∃ nn : Nat, mid + m = nn := ⟨_, rfl⟩
  have eN : (mid : Int) + (m : Int) = (nn : Int) := by omega
  obtain ⟨pp, hpp⟩ : ∃ pp : Nat, nn - 1 = pp := ⟨_, rfl⟩
  have eP : (nn : Int) - 1 = (pp : Int) := by omega
  have hmln : ml ≤ n := by omega
  have hbln : bl ≤ n := by omega
  have hnn2 : nn ≤ 2 * n := by omega
  have hpp2 : pp + 1 = nn := by omega
  obtain ⟨lo, hlo⟩ : ∃ lo : Nat, nn - b = lo := ⟨_, rfl⟩
  have eL : (nn : Int) - (b : Int) = (lo : Int) := by omega
  have dS : decide ((mid : Int) < (m : Int)) = true := decide_eq_true (by omega)
  have dS2 : decide (mid < m) = true := decide_eq_true (by omega)
  have HLO : Hid (a ≤ lo ∧ lo ≤ mid ∧ lo + b = nn) := by unfold Hid; omega
  have hlon : lo ≤ n := by omega
  have HNN : Hid (mid + m = nn) := hnn
  clear hblk hP hOL hOR hC hn hm hb hml hbl hpp hlo hmid hnn
  go_enter Try.func88, Try.ntmps88
  go_wp2
  go_loopw [20, 21] (fun v u wr => ∃ (i j : Nat), v = .int .i64 (i : Int) ∧ u = .int .i64 (j : Int) ∧ lo ≤ i ∧ i ≤ j ∧ j ≤ mid ∧ Hid (i = lo ∨ ∃ x y, L[i - 1 - a]? = some x ∧ R[nn - i - m]? = some y ∧ ltE os y x = false) ∧ Hid (j = mid ∨ ∃ x y, L[j - a]? = some x ∧ R[nn - 1 - j - m]? = some y ∧ ltE os y x = true) ∧ Hid (RowE wr g (P ++ L ++ R ++ S) post) ∧ Hid (w.grownBy wr (some g))) (fun v u _ => (intOf u).toNat - (intOf v).toNat)
  case atStart => exact ⟨lo, mid, rfl, rfl, Nat.le_refl _, (by have := HLO.out; omega), Nat.le_refl _, .inl rfl, .inl rfl, HB, Lib.hid (grown_same w g)⟩
  case round =>
    obtain ⟨i, j, rfl, rfl, hai, hij, hjm, HI, HJ, HW, HG⟩ := hrel
    have hloa : a ≤ lo := by have := HLO.out; omega
    by_cases hlt : i < j
    · obtain ⟨k, hk⟩ : ∃ k : Nat, (i + j) / 2 = k := ⟨_, rfl⟩
      have eH : ((i : Int) + (j : Int)) / 2 = (k : Int) := by omega
      have hik : i ≤ k := by omega
      have hkj : k < j := by omega
      obtain ⟨kk, hkk⟩ : ∃ kk : Nat, pp - k = kk := ⟨_, rfl⟩
      have eK : (pp : Int) - (k : Int) = (kk : Int) := by omega
      have HKK : Hid (kk = nn - 1 - k) := by unfold Hid; omega
      have hrange : a ≤ k ∧ k < m ∧ m ≤ kk ∧ kk < b := by have := HNN.out; have := HLO.out; omega
      obtain ⟨r1, r2, r3, r4⟩ := hrange
      obtain ⟨z, hz⟩ : ∃ z, L[k - a]? = some z := ⟨_, List.getElem?_eq_getElem (by have := HM.out; omega)⟩
      obtain ⟨y, hy⟩ : ∃ y, R[kk - m]? = some y := ⟨_, List.getElem?_eq_getElem (by have := HR.out; omega)⟩
      have hMk : (P ++ L ++ R ++ S)[k]? = some z := by
        rw [List.append_assoc (P ++ L), at_mid (P := P) (L := L) (S := R ++ S) (a := a) HP.out (by omega) (by have := HM.out; omega)]; exact hz
      have hMm : (P ++ L ++ R ++ S)[kk]? = some y := by
        rw [at_mid (P := P ++ L) (L := R) (S := S) (a := m) (by rw [List.length_append, HP.out]; exact HM.out) (by omega) (by have := HR.out; omega)]; exact hy
      obtain ⟨⟨a1, a2⟩, a3, a4⟩ := blk_ent HW.out hMk
      obtain ⟨⟨b1, b2⟩, b3, b4⟩ := blk_ent HW.out hMm
      have hcmp := HC.out.cmp (x := y) (y := z) (List.mem_append_right _ (List.mem_of_getElem? hy)) (List.mem_append_left _ (List.mem_of_getElem? hz)) (grown_drew HG.out)
      obtain ⟨r, hr⟩ : ∃ r, cmpE os y.cs z.cs = r := ⟨_, rfl⟩
      rw [hr] at hcmp
      have HRR := Lib.hid hr
      have HZ := Lib.hid hz
      have HY := Lib.hid hy
      have hkn : (k : Int) < (n : Int) := by omega
      have hkkn : (kk : Int) < (n : Int) := by omega
      have hk0 : (0 : Int) ≤ (k : Int) := by omega
      have hkk0 : (0 : Int) ≤ (kk : Int) := by omega
      have hkw : IntKind.i64.wrap (kk : Int) = (kk : Int) := by
        have h := IntWalk.wrap64_in (kk : Int) ⟨by omega, by omega⟩
        first | exact h | (rw [wrap_eq]; exact h)
      clear hr hz hy hMk hMm hk hkk
      go_wp2
      go_still_tail 11, (by kernel_rfl)
      change wpList _ _ _ _ _ wr.drew
      by_cases hrn : r < 0
      · have hdr : decide (r < 0) = true := decide_eq_true hrn
        have HJ2 : Hid (k = mid ∨ ∃ x y, L[k - a]? = some x ∧ R[nn - 1 - k - m]? = some y ∧ ltE os y x = true) := .inr ⟨z, y, HZ.out, by rw [← HKK.out]; exact HY.out, ltE_t.2 (by rw [HRR.out]; exact hrn)⟩
        clear hrn
        go_wp2_with (fail)
        refine hcmp.mono ?_
        rintro _ wq ⟨rfl, hbq⟩
        have HWQ := Lib.hid (HW.out.drew.below hbq)
        have HGQ := Lib.hid (grown_below' (grown_drew HG.out) hbq)
        clear hcmp hbq a1 a2 a3 a4 b1 b2 b3 b4
        go_wp2
        go_roundw
        case rel => exact ⟨i, k, rfl, rfl, hai, hik, by omega, HI, HJ2, HWQ, HGQ⟩
        case measure => simp [intOf]; omega
      · have hdr : decide (r < 0) = false := decide_eq_false hrn
        have HI2 : Hid (k + 1 = lo ∨ ∃ x y, L[k + 1 - 1 - a]? = some x ∧ R[nn - (k + 1) - m]? = some y ∧ ltE os y x = false) := .inr ⟨z, y, HZ.out, by have := HKK.out; rw [show nn - (k + 1) = kk by omega]; exact HY.out, by unfold ltE; rw [HRR.out]; exact hdr⟩
        clear hrn
        go_wp2_with (fail)
        refine hcmp.mono ?_
        rintro _ wq ⟨rfl, hbq⟩
        have HWQ := Lib.hid (HW.out.drew.below hbq)
        have HGQ := Lib.hid (grown_below' (grown_drew HG.out) hbq)
        clear hcmp hbq a1 a2 a3 a4 b1 b2 b3 b4
        go_wp2
        go_roundw
        case rel => exact ⟨k + 1, j, by go_num, rfl, by omega, by omega, hjm, HI2, HJ, HWQ, HGQ⟩
        case measure => simp [intOf]; omega
    · obtain rfl : i = j := by omega
      obtain ⟨e, he⟩ : ∃ e : Nat, nn - i = e := ⟨_, rfl⟩
      have eE : (nn : Int) - (i : Int) = (e : Int) := by omega
      have hie : i + e = nn := by omega
      have hrange : a ≤ i ∧ i ≤ m ∧ m ≤ e ∧ e ≤ b ∧ i ≤ mid := by have := HNN.out; have := HLO.out; omega
      obtain ⟨r1, r2, r3, r4, r5⟩ := hrange
      have HMG : Hid (mergeE os L R = mergeE os (L.take (i - a)) (R.take (e - m)) ++ mergeE os (L.drop (i - a)) (R.drop (e - m))) := by
        unfold Hid
        refine mergeE_cut HOL.out HOR.out ?_ ?_
        · rcases HI.out with q | ⟨x, y, q1, q2, q3⟩
          · exact .inr (.inl (by have := HLO.out; have := HR.out; omega))
          · by_cases h0 : i - a = 0
            · exact .inl h0
            · exact .inr (.inr ⟨x, y, by rw [show i - a - 1 = i - 1 - a by omega]; exact q1, by rw [show e - m = nn - i - m by omega]; exact q2, q3⟩)
        · rcases HJ.out with q | ⟨x, y, q1, q2, q3⟩
          · exact .inl (by have := HNN.out; omega)
          · by_cases h0 : e - m = 0
            · exact .inl h0
            · exact .inr (.inr ⟨x, y, q1, by rw [show e - m - 1 = nn - 1 - i - m by omega]; exact q2, q3⟩)
      have hWL := (List.take_append_drop (i - a) L).symm
      have hWR := (List.take_append_drop (e - m) R).symm
      have hl1 : (L.take (i - a)).length = i - a := by rw [List.length_take]; have := HM.out; omega
      have hl2 : (L.drop (i - a)).length = m - i := by rw [List.length_drop]; have := HM.out; omega
      have hl3 : (R.take (e - m)).length = e - m := by rw [List.length_take]; have := HR.out; omega
      have hl4 : (R.drop (e - m)).length = b - e := by rw [List.length_drop]; have := HR.out; omega
      have hO1 : InOrd os (L.take (i - a)) := List.Pairwise.sublist (List.take_sublist _ _) HOL.out
      have hO3 : InOrd os (L.drop (i - a)) := List.Pairwise.sublist (List.drop_sublist _ _) HOL.out
      have hO2 : InOrd os (R.take (e - m)) := List.Pairwise.sublist (List.take_sublist _ _) HOR.out
      have hO4 : InOrd os (R.drop (e - m)) := List.Pairwise.sublist (List.drop_sublist _ _) HOR.out
      obtain ⟨L1, hL1⟩ : ∃ X, L.take (i - a) = X := ⟨_, rfl⟩
      obtain ⟨L2, hL2'⟩ : ∃ X, L.drop (i - a) = X := ⟨_, rfl⟩
      obtain ⟨R1, hR1'⟩ : ∃ X, R.take (e - m) = X := ⟨_, rfl⟩
      obtain ⟨R2, hR2'⟩ : ∃ X, R.drop (e - m) = X := ⟨_, rfl⟩
      rw [hL1] at hWL hl1 hO1 HMG
      rw [hL2'] at hWL hl2 hO3 HMG
      rw [hR1'] at hWR hl3 hO2 HMG
      rw [hR2'] at hWR hl4 hO4 HMG
      have HO1 := Lib.hid hO1
      have HO2 := Lib.hid hO2
      have HO3 := Lib.hid hO3
      have HO4 := Lib.hid hO4
      have HW0 : Hid (RowE wr g (P ++ L1 ++ L2 ++ R1 ++ R2 ++ S) post) := by unfold Hid; have := HW.out; rw [hWL, hWR] at this; simpa using this
      have HS1 : Hid (∀ x ∈ L1 ++ R1, x ∈ L ++ R) := by unfold Hid; intro x hx; rw [hWL, hWR]; rcases List.mem_append.1 hx with h | h <;> simp [h]
      have HS2 : Hid (∀ x ∈ L2 ++ R2, x ∈ L ++ R) := by unfold Hid; intro x hx; rw [hWL, hWR]; rcases List.mem_append.1 hx with h | h <;> simp [h]
      have HL : Hid (L1.length = i - a ∧ L2.length = m - i ∧ R1.length = e - m ∧ R2.length = b - e ∧ P.length = a ∧ b + S.length = n ∧ i + e = mid + m) := ⟨hl1, hl2, hl3, hl4, HP.out, HN.out, by have := HNN.out; omega⟩
      have hnn3 : mid + m = nn := HNN.out
      clear hWL hWR hl1 hl2 hl3 hl4 hO1 hO2 hO3 hO4 hL1 hL2' hR1' hR2' HI HJ HW HB HOL HOR hL2 hR2 he
      by_cases hA1 : i < m
      · have dA1 : decide (i < m) = true := decide_eq_true (by omega)
        have dC1 : decide (mid < e) = true := decide_eq_true (by omega)
        have hi1 : i < m := hA1
        have hc1 : mid < e := by omega
        by_cases hA2 : m < e
        · have dA2 : decide (m < e) = true := decide_eq_true (by omega)
          have dB2 : decide (i < mid) = true := decide_eq_true (by omega)
          have hi2 : m < e := hA2
          have hb2 : i < mid := by omega
          by_cases hB1 : a < i
          · have dB1 : decide (a < i) = true := decide_eq_true (by omega)
            have hb1 : a < i := hB1
            by_cases hC2 : e < b
            · have dC2 : decide (e < b) = true := decide_eq_true (by omega)
              have hc2 : e < b := hC2
              clear hA1 hA2 hB1 hC2
              have hC1 := rotate_ok g n c i m e (P ++ L1) L2 R1 (R2 ++ S) post (.func (.func 72) #[] #[.pointer (some ⟨bo, 0, none⟩)]) wr (by have := HW0.out; simpa using this) (by rw [List.length_append]; have := HL.out; omega) (by have := HL.out; omega) (by have := HL.out; omega) (by rw [List.length_append]; have := HL.out; omega) hi1 hi2 hnb
              go_wp2_with (fail)
              refine hC1.mono ?_
              rintro _ wa ⟨rfl, hra, hga⟩
              have HWA : Hid (RowE wa g (P ++ L1 ++ R1 ++ (L2 ++ R2 ++ S)) post) := by unfold Hid; simpa using hra
              have HGA := Lib.hid (grown_trans HG.out hga)
              clear hC1 hra hga
              have hC2 := IH a i mid P L1 R1 (L2 ++ R2 ++ S) wa (by omega) HWA.out HP.out (by have := HL.out; omega) (by have := HL.out; omega) (by rw [List.length_append, List.length_append]; have := HL.out; omega) hb1 hb2 HO1.out HO2.out (HC.out.grown HGA.out HS1.out)
              go_wp2_with (fail)
              refine hC2.mono ?_
              rintro _ wb ⟨rfl, hrb, hgb⟩
              have HWB : Hid (RowE wb g ((P ++ mergeE os L1 R1) ++ L2 ++ R2 ++ S) post) := by unfold Hid; simpa using hrb
              have HGB := Lib.hid (grown_trans HGA.out hgb)
              clear hC2 hrb hgb
              have hC3 := IH mid e b (P ++ mergeE os L1 R1) L2 R2 S wb (by omega) HWB.out (by rw [List.length_append, mergeE_length]; have := HL.out; omega) (by have := HL.out; omega) (by have := HL.out; omega) (by have := HL.out; omega) hc1 hc2 HO3.out HO4.out (HC.out.grown HGB.out HS2.out)
              go_wp2_with (fail)
              refine hC3.mono ?_
              rintro _ wc ⟨rfl, hrc, hgc⟩
              have HWC : Hid (RowE wc g (P ++ mergeE os L R ++ S) post) := by unfold Hid; rw [HMG.out]; simpa using hrc
              have HGC := Lib.hid (grown_trans HGB.out hgc)
              clear hC3 hrc hgc
              go_wp2_with (fail)
              go_end0
              exact ⟨rfl, HWC.out, HGC.out⟩
            · have dC2 : decide (e < b) = false := decide_eq_false (by omega)
              have hR2e : R2 = [] := List.eq_nil_of_length_eq_zero (by have := HL.out; omega)
              clear hA1 hA2 hB1 hC2
              have hC1 := rotate_ok g n c i m e (P ++ L1) L2 R1 (R2 ++ S) post (.func (.func 72) #[] #[.pointer (some ⟨bo, 0, none⟩)]) wr (by have := HW0.out; simpa using this) (by rw [List.length_append]; have := HL.out; omega) (by have := HL.out; omega) (by have := HL.out; omega) (by rw [List.length_append]; have := HL.out; omega) hi1 hi2 hnb
              go_wp2_with (fail)
              refine hC1.mono ?_
              rintro _ wa ⟨rfl, hra, hga⟩
              have HWA : Hid (RowE wa g (P ++ L1 ++ R1 ++ (L2 ++ R2 ++ S)) post) := by unfold Hid; simpa using hra
              have HGA := Lib.hid (grown_trans HG.out hga)
              clear hC1 hra hga
              have hC2 := IH a i mid P L1 R1 (L2 ++ R2 ++ S) wa (by omega) HWA.out HP.out (by have := HL.out; omega) (by have := HL.out; omega) (by rw [List.length_append, List.length_append]; have := HL.out; omega) hb1 hb2 HO1.out HO2.out (HC.out.grown HGA.out HS1.out)
              go_wp2_with (fail)
              refine hC2.mono ?_
              rintro _ wb ⟨rfl, hrb, hgb⟩
              have HWB : Hid (RowE wb g ((P ++ mergeE os L1 R1) ++ L2 ++ R2 ++ S) post) := by unfold Hid; simpa using hrb
              have HGB := Lib.hid (grown_trans HGA.out hgb)
              clear hC2 hrb hgb
              have hme : mergeE os L2 R2 = L2 ++ R2 := by rw [hR2e, mergeE_nil_right, List.append_nil]
              have HWC : Hid (RowE wb g (P ++ mergeE os L R ++ S) post) := by unfold Hid; rw [HMG.out, hme]; have := HWB.out; simpa using this
              have HGC := HGB
              clear hme
              go_wp2_with (fail)
              go_end0
              exact ⟨rfl, HWC.out, HGC.out⟩
          · have dB1 : decide (a < i) = false := decide_eq_false (by omega)
            have hL1e : L1 = [] := List.eq_nil_of_length_eq_zero (by have := HL.out; omega)
            by_cases hC2 : e < b
            · have dC2 : decide (e < b) = true := decide_eq_true (by omega)
              have hc2 : e < b := hC2
              clear hA1 hA2 hB1 hC2
              have hC1 := rotate_ok g n c i m e (P ++ L1) L2 R1 (R2 ++ S) post (.func (.func 72) #[] #[.pointer (some ⟨bo, 0, none⟩)]) wr (by have := HW0.out; simpa using this) (by rw [List.length_append]; have := HL.out; omega) (by have := HL.out; omega) (by have := HL.out; omega) (by rw [List.length_append]; have := HL.out; omega) hi1 hi2 hnb
              go_wp2_with (fail)
              refine hC1.mono ?_
              rintro _ wa ⟨rfl, hra, hga⟩
              have HWA : Hid (RowE wa g (P ++ L1 ++ R1 ++ (L2 ++ R2 ++ S)) post) := by unfold Hid; simpa using hra
              have HGA := Lib.hid (grown_trans HG.out hga)
              clear hC1 hra hga
              obtain ⟨wb, hwb⟩ : ∃ wb : World, wb = wa := ⟨_, rfl⟩
              have hme : mergeE os L1 R1 = L1 ++ R1 := by rw [hL1e, mergeE_nil_left, List.nil_append]
              have HWB : Hid (RowE wb g ((P ++ mergeE os L1 R1) ++ L2 ++ R2 ++ S) post) := by unfold Hid; rw [hwb, hme]; have := HWA.out; simpa using this
              have HGB : Hid (w.grownBy wb (some g)) := by unfold Hid; rw [hwb]; exact HGA.out
              clear hme
              subst hwb
              have hC3 := IH mid e b (P ++ mergeE os L1 R1) L2 R2 S wb (by omega) HWB.out (by rw [List.length_append, mergeE_length]; have := HL.out; omega) (by have := HL.out; omega) (by have := HL.out; omega) (by have := HL.out; omega) hc1 hc2 HO3.out HO4.out (HC.out.grown HGB.out HS2.out)
              go_wp2_with (fail)
              refine hC3.mono ?_
              rintro _ wc ⟨rfl, hrc, hgc⟩
              have HWC : Hid (RowE wc g (P ++ mergeE os L R ++ S) post) := by unfold Hid; rw [HMG.out]; simpa using hrc
              have HGC := Lib.hid (grown_trans HGB.out hgc)
              clear hC3 hrc hgc
              go_wp2_with (fail)
              go_end0
              exact ⟨rfl, HWC.out, HGC.out⟩
            · have dC2 : decide (e < b) = false := decide_eq_false (by omega)
              have hR2e : R2 = [] := List.eq_nil_of_length_eq_zero (by have := HL.out; omega)
              clear hA1 hA2 hB1 hC2
              have hC1 := rotate_ok g n c i m e (P ++ L1) L2 R1 (R2 ++ S) post (.func (.func 72) #[] #[.pointer (some ⟨bo, 0, none⟩)]) wr (by have := HW0.out; simpa using this) (by rw [List.length_append]; have := HL.out; omega) (by have := HL.out; omega) (by have := HL.out; omega) (by rw [List.length_append]; have := HL.out; omega) hi1 hi2 hnb
              go_wp2_with (fail)
              refine hC1.mono ?_
              rintro _ wa ⟨rfl, hra, hga⟩
              have HWA : Hid (RowE wa g (P ++ L1 ++ R1 ++ (L2 ++ R2 ++ S)) post) := by unfold Hid; simpa using hra
              have HGA := Lib.hid (grown_trans HG.out hga)
              clear hC1 hra hga
              obtain ⟨wb, hwb⟩ : ∃ wb : World, wb = wa := ⟨_, rfl⟩
              have hme : mergeE os L1 R1 = L1 ++ R1 := by rw [hL1e, mergeE_nil_left, List.nil_append]
              have HWB : Hid (RowE wb g ((P ++ mergeE os L1 R1) ++ L2 ++ R2 ++ S) post) := by unfold Hid; rw [hwb, hme]; have := HWA.out; simpa using this
              have HGB : Hid (w.grownBy wb (some g)) := by unfold Hid; rw [hwb]; exact HGA.out
              clear hme
              subst hwb
              have hme : mergeE os L2 R2 = L2 ++ R2 := by rw [hR2e, mergeE_nil_right, List.append_nil]
              have HWC : Hid (RowE wb g (P ++ mergeE os L R ++ S) post) := by unfold Hid; rw [HMG.out, hme]; have := HWB.out; simpa using this
              have HGC := HGB
              clear hme
              go_wp2_with (fail)
              go_end0
              exact ⟨rfl, HWC.out, HGC.out⟩
        · have dA2 : decide (m < e) = false := decide_eq_false (by omega)
          have dB2 : decide (i < mid) = false := decide_eq_false (by omega)
          have hR1 : R1 = [] := List.eq_nil_of_length_eq_zero (by have := HL.out; omega)
          by_cases hB1 : a < i
          · have dB1 : decide (a < i) = true := decide_eq_true (by omega)
            have hb1 : a < i := hB1
            by_cases hC2 : e < b
            · have dC2 : decide (e < b) = true := decide_eq_true (by omega)
              have hc2 : e < b := hC2
              clear hA1 hA2 hB1 hC2
              obtain ⟨wa, hwa⟩ : ∃ wa : World, wa = wr := ⟨_, rfl⟩
              have HWA : Hid (RowE wa g (P ++ L1 ++ R1 ++ (L2 ++ R2 ++ S)) post) := by unfold Hid; rw [hwa]; have := HW0.out; obtain rfl := hR1; simpa using this
              have HGA : Hid (w.grownBy wa (some g)) := by unfold Hid; rw [hwa]; exact HG.out
              subst hwa
              obtain ⟨wb, hwb⟩ : ∃ wb : World, wb = wa := ⟨_, rfl⟩
              have hme : mergeE os L1 R1 = L1 ++ R1 := by rw [hR1, mergeE_nil_right, List.append_nil]
              have HWB : Hid (RowE wb g ((P ++ mergeE os L1 R1) ++ L2 ++ R2 ++ S) post) := by unfold Hid; rw [hwb, hme]; have := HWA.out; simpa using this
              have HGB : Hid (w.grownBy wb (some g)) := by unfold Hid; rw [hwb]; exact HGA.out
              clear hme
              subst hwb
              have hC3 := IH mid e b (P ++ mergeE os L1 R1) L2 R2 S wb (by omega) HWB.out (by rw [List.length_append, mergeE_length]; have := HL.out; omega) (by have := HL.out; omega) (by have := HL.out; omega) (by have := HL.out; omega) hc1 hc2 HO3.out HO4.out (HC.out.grown HGB.out HS2.out)
              go_wp2_with (fail)
              refine hC3.mono ?_
              rintro _ wc ⟨rfl, hrc, hgc⟩
              have HWC : Hid (RowE wc g (P ++ mergeE os L R ++ S) post) := by unfold Hid; rw [HMG.out]; simpa using hrc
              have HGC := Lib.hid (grown_trans HGB.out hgc)
              clear hC3 hrc hgc
              go_wp2_with (fail)
              go_end0
              exact ⟨rfl, HWC.out, HGC.out⟩
            · have dC2 : decide (e < b) = false := decide_eq_false (by omega)
              have hR2e : R2 = [] := List.eq_nil_of_length_eq_zero (by have := HL.out; omega)
              clear hA1 hA2 hB1 hC2
              obtain ⟨wa, hwa⟩ : ∃ wa : World, wa = wr := ⟨_, rfl⟩
              have HWA : Hid (RowE wa g (P ++ L1 ++ R1 ++ (L2 ++ R2 ++ S)) post) := by unfold Hid; rw [hwa]; have := HW0.out; obtain rfl := hR1; simpa using this
              have HGA : Hid (w.grownBy wa (some g)) := by unfold Hid; rw [hwa]; exact HG.out
              subst hwa
              obtain ⟨wb, hwb⟩ : ∃ wb : World, wb = wa := ⟨_, rfl⟩
              have hme : mergeE os L1 R1 = L1 ++ R1 := by rw [hR1, mergeE_nil_right, List.append_nil]
              have HWB : Hid (RowE wb g ((P ++ mergeE os L1 R1) ++ L2 ++ R2 ++ S) post) := by unfold Hid; rw [hwb, hme]; have := HWA.out; simpa using this
              have HGB : Hid (w.grownBy wb (some g)) := by unfold Hid; rw [hwb]; exact HGA.out
              clear hme
              subst hwb
              have hme : mergeE os L2 R2 = L2 ++ R2 := by rw [hR2e, mergeE_nil_right, List.append_nil]
              have HWC : Hid (RowE wb g (P ++ mergeE os L R ++ S) post) := by unfold Hid; rw [HMG.out, hme]; have := HWB.out; simpa using this
              have HGC := HGB
              clear hme
              go_wp2_with (fail)
              go_end0
              exact ⟨rfl, HWC.out, HGC.out⟩
          · exfalso; omega
      · have dA1 : decide (i < m) = false := decide_eq_false (by omega)
        have dC1 : decide (mid < e) = false := decide_eq_false (by omega)
        have hL2 : L2 = [] := List.eq_nil_of_length_eq_zero (by have := HL.out; omega)
        by_cases hA2 : m < e
        · have dA2 : decide (m < e) = true := decide_eq_true (by omega)
          have dB2 : decide (i < mid) = true := decide_eq_true (by omega)
          have hi2 : m < e := hA2
          have hb2 : i < mid := by omega
          by_cases hB1 : a < i
          · have dB1 : decide (a < i) = true := decide_eq_true (by omega)
            have hb1 : a < i := hB1
            by_cases hC2 : e < b
            · have dC2 : decide (e < b) = true := decide_eq_true (by omega)
              have hc2 : e < b := hC2
              clear hA1 hA2 hB1 hC2
              obtain ⟨wa, hwa⟩ : ∃ wa : World, wa = wr := ⟨_, rfl⟩
              have HWA : Hid (RowE wa g (P ++ L1 ++ R1 ++ (L2 ++ R2 ++ S)) post) := by unfold Hid; rw [hwa]; have := HW0.out; obtain rfl := hL2; simpa using this
              have HGA : Hid (w.grownBy wa (some g)) := by unfold Hid; rw [hwa]; exact HG.out
              subst hwa
              have hC2 := IH a i mid P L1 R1 (L2 ++ R2 ++ S) wa (by omega) HWA.out HP.out (by have := HL.out; omega) (by have := HL.out; omega) (by rw [List.length_append, List.length_append]; have := HL.out; omega) hb1 hb2 HO1.out HO2.out (HC.out.grown HGA.out HS1.out)
              go_wp2_with (fail)
              refine hC2.mono ?_
              rintro _ wb ⟨rfl, hrb, hgb⟩
              have HWB : Hid (RowE wb g ((P ++ mergeE os L1 R1) ++ L2 ++ R2 ++ S) post) := by unfold Hid; simpa using hrb
              have HGB := Lib.hid (grown_trans HGA.out hgb)
              clear hC2 hrb hgb
              have hme : mergeE os L2 R2 = L2 ++ R2 := by rw [hL2, mergeE_nil_left, List.nil_append]
              have HWC : Hid (RowE wb g (P ++ mergeE os L R ++ S) post) := by unfold Hid; rw [HMG.out, hme]; have := HWB.out; simpa using this
              have HGC := HGB
              clear hme
              go_wp2_with (fail)
              go_end0
              exact ⟨rfl, HWC.out, HGC.out⟩
            · exfalso; omega
          · have dB1 : decide (a < i) = false := decide_eq_false (by omega)
            have hL1e : L1 = [] := List.eq_nil_of_length_eq_zero (by have := HL.out; omega)
            by_cases hC2 : e < b
            · have dC2 : decide (e < b) = true := decide_eq_true (by omega)
              have hc2 : e < b := hC2
              clear hA1 hA2 hB1 hC2
              obtain ⟨wa, hwa⟩ : ∃ wa : World, wa = wr := ⟨_, rfl⟩
              have HWA : Hid (RowE wa g (P ++ L1 ++ R1 ++ (L2 ++ R2 ++ S)) post) := by unfold Hid; rw [hwa]; have := HW0.out; obtain rfl := hL2; simpa using this
              have HGA : Hid (w.grownBy wa (some g)) := by unfold Hid; rw [hwa]; exact HG.out
              subst hwa
              obtain ⟨wb, hwb⟩ : ∃ wb : World, wb = wa := ⟨_, rfl⟩
              have hme : mergeE os L1 R1 = L1 ++ R1 := by rw [hL1e, mergeE_nil_left, List.nil_append]
              have HWB : Hid (RowE wb g ((P ++ mergeE os L1 R1) ++ L2 ++ R2 ++ S) post) := by unfold Hid; rw [hwb, hme]; have := HWA.out; simpa using this
              have HGB : Hid (w.grownBy wb (some g)) := by unfold Hid; rw [hwb]; exact HGA.out
              clear hme
              subst hwb
              have hme : mergeE os L2 R2 = L2 ++ R2 := by rw [hL2, mergeE_nil_left, List.nil_append]
              have HWC : Hid (RowE wb g (P ++ mergeE os L R ++ S) post) := by unfold Hid; rw [HMG.out, hme]; have := HWB.out; simpa using this
              have HGC := HGB
              clear hme
              go_wp2_with (fail)
              go_end0
              exact ⟨rfl, HWC.out, HGC.out⟩
            · exfalso; omega
        · have dA2 : decide (m < e) = false := decide_eq_false (by omega)
          have dB2 : decide (i < mid) = false := decide_eq_false (by omega)
          have hR1 : R1 = [] := List.eq_nil_of_length_eq_zero (by have := HL.out; omega)
          by_cases hB1 : a < i
          · have dB1 : decide (a < i) = true := decide_eq_true (by omega)
            have hb1 : a < i := hB1
            by_cases hC2 : e < b
            · have dC2 : decide (e < b) = true := decide_eq_true (by omega)
              have hc2 : e < b := hC2
              clear hA1 hA2 hB1 hC2
              obtain ⟨wa, hwa⟩ : ∃ wa : World, wa = wr := ⟨_, rfl⟩
              have HWA : Hid (RowE wa g (P ++ L1 ++ R1 ++ (L2 ++ R2 ++ S)) post) := by unfold Hid; rw [hwa]; have := HW0.out; obtain rfl := hL2; simpa using this
              have HGA : Hid (w.grownBy wa (some g)) := by unfold Hid; rw [hwa]; exact HG.out
              subst hwa
              obtain ⟨wb, hwb⟩ : ∃ wb : World, wb = wa := ⟨_, rfl⟩
              have hme : mergeE os L1 R1 = L1 ++ R1 := by rw [hR1, mergeE_nil_right, List.append_nil]
              have HWB : Hid (RowE wb g ((P ++ mergeE os L1 R1) ++ L2 ++ R2 ++ S) post) := by unfold Hid; rw [hwb, hme]; have := HWA.out; simpa using this
              have HGB : Hid (w.grownBy wb (some g)) := by unfold Hid; rw [hwb]; exact HGA.out
              clear hme
              subst hwb
              have hme : mergeE os L2 R2 = L2 ++ R2 := by rw [hL2, mergeE_nil_left, List.nil_append]
              have HWC : Hid (RowE wb g (P ++ mergeE os L R ++ S) post) := by unfold Hid; rw [HMG.out, hme]; have := HWB.out; simpa using this
              have HGC := HGB
              clear hme
              go_wp2_with (fail)
              go_end0
              exact ⟨rfl, HWC.out, HGC.out⟩
            · exfalso; omega
          · exfalso; omega
end Go.Proofs.Ytapbcmhkipaecaa
