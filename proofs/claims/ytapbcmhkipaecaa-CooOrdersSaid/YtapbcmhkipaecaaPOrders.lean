/- purflelaw02.CooOrders returns true at every list and orders. -/
import Derived.Test.YtapbcmhkipaecaaG14
namespace Go.Proofs.Ytapbcmhkipaecaa
open Go.RowKit


theorem orders_of {xs oa ob : List Int} {n : Nat} {es : List Ent} (ha : sortE' xs oa n es = 0) (hb : sortE' xs ob n es = 0) : cooF xs es = 0 ∧ OrdOk n oa ∧ OrdOk n ob := by
  unfold sortE' at ha hb
  by_cases h0 : cooF xs es = 0
  · rw [if_pos h0] at ha hb
    refine ⟨h0, ?_, ?_⟩
    · by_cases h : OrdOk n oa
      · exact h
      · rw [if_neg h] at ha; cases ha
    · by_cases h : OrdOk n ob
      · exact h
      · rw [if_neg h] at hb; cases hb
  · rw [if_neg h0] at ha; exact absurd ha h0


set_option maxRecDepth 100000 in
set_option maxHeartbeats 4000000 in
theorem orders_exit1 (A B Aa Ab : Option Addr) (n c m e na ca nb cb : Nat) (xs oa ob : List Int) (es : List Ent) (w : World) (h : Ints w w.heap.size A n xs) (_hn : n ≤ 9223372036854775807) (hv : Ents w w.heap.size B m es) (_hm : m ≤ 9223372036854775807) (ha : Ints w w.heap.size Aa na oa) (hna : na ≤ 9223372036854775807) (hb : Ints w w.heap.size Ab nb ob) (hnb : nb ≤ 9223372036854775807) (hx : ¬ (fewC [((⟨A, n, c, B, m, e⟩ : Hdr), es)] = true ∧ na ≤ 20 ∧ nb ≤ 20)) :
    Calls Try.prog 10 #[.agg #[.slice A n c, .slice B m e], .slice Aa na ca, .slice Ab nb cb] w fun x w' => x = .returned (.bool true) ∧ Below w.heap.size w w' := by
  have VX : CooV w A n B m xs es := ⟨h, hv⟩
  have IA := ha
  have IB := hb
  clear h hv ha hb
  obtain ⟨R, hR⟩ : ∃ R, fewC [((⟨A, n, c, B, m, e⟩ : Hdr), es)] = R := ⟨_, rfl⟩
  rw [hR] at hx
  have HFW := Lib.hid hR
  clear hR
  by_cases h1 : R = true
  · subst h1
    by_cases h2 : na ≤ 20
    · have d1 : decide (20 < (na : Int)) = false := by simp; omega
      have d2 : decide (20 < (nb : Int)) = true := by have q : 20 < nb := Nat.lt_of_not_le fun h3 => hx ⟨rfl, h2, h3⟩; simp; omega
      clear hx h2
      go_enter Try.func10, Try.ntmps10
      have hal := (Below.refl w.heap.size w).alloc (Nat.le_refl _) (.cells #[.slice A n c, .slice B m e] 25)
      have QX := heap_alloc_new w (.cells #[.slice A n c, .slice B m e] 25)
      obtain ⟨w1, hw⟩ : ∃ W, w.alloc (.cells #[.slice A n c, .slice B m e] 25) = W := ⟨_, rfl⟩
      rw [hw] at hal QX
      have hT := hal
      replace VX := VX.below hal
      replace IA := (IA.below hal).more hal.size
      replace IB := (IB.below hal).more hal.size
      have HW := Lib.hid hw
      clear hal hw
      go_upto_region 1 with fail
      rw [HW.out]
      clear HW
      go_wp2_with fail
      refine (cooLive_any _).mono ?_
      rintro x w2 ⟨rfl, hbk⟩
      replace hT := hT.trans (hbk.mono hT.size)
      replace QX := heapAt hbk QX
      replace VX := VX.below hbk
      replace IA := (IA.below hbk).more hbk.size
      replace IB := (IB.below hbk).more hbk.size
      clear hbk
      obtain ⟨QX0, QX1, _, _⟩ := pair_cells QX
      go_wp2_with fail
      refine (few_coo A B n c m e xs es _ VX true HFW).mono ?_
      rintro x w3 ⟨rfl, hbk⟩
      clear QX0 QX1
      replace hT := hT.trans (hbk.mono hT.size)
      replace QX := heapAt hbk QX
      replace VX := VX.below hbk
      replace IA := (IA.below hbk).more hbk.size
      replace IB := (IB.below hbk).more hbk.size
      clear hbk
      go_wp2_with fail
      go_ret
      exact ⟨rfl, hT⟩
    · have d1 : decide (20 < (na : Int)) = true := by simp; omega
      clear hx h2
      go_enter Try.func10, Try.ntmps10
      have hal := (Below.refl w.heap.size w).alloc (Nat.le_refl _) (.cells #[.slice A n c, .slice B m e] 25)
      have QX := heap_alloc_new w (.cells #[.slice A n c, .slice B m e] 25)
      obtain ⟨w1, hw⟩ : ∃ W, w.alloc (.cells #[.slice A n c, .slice B m e] 25) = W := ⟨_, rfl⟩
      rw [hw] at hal QX
      have hT := hal
      replace VX := VX.below hal
      replace IA := (IA.below hal).more hal.size
      replace IB := (IB.below hal).more hal.size
      have HW := Lib.hid hw
      clear hal hw
      go_upto_region 1 with fail
      rw [HW.out]
      clear HW
      go_wp2_with fail
      refine (cooLive_any _).mono ?_
      rintro x w2 ⟨rfl, hbk⟩
      replace hT := hT.trans (hbk.mono hT.size)
      replace QX := heapAt hbk QX
      replace VX := VX.below hbk
      replace IA := (IA.below hbk).more hbk.size
      replace IB := (IB.below hbk).more hbk.size
      clear hbk
      obtain ⟨QX0, QX1, _, _⟩ := pair_cells QX
      go_wp2_with fail
      refine (few_coo A B n c m e xs es _ VX true HFW).mono ?_
      rintro x w3 ⟨rfl, hbk⟩
      clear QX0 QX1
      replace hT := hT.trans (hbk.mono hT.size)
      replace QX := heapAt hbk QX
      replace VX := VX.below hbk
      replace IA := (IA.below hbk).more hbk.size
      replace IB := (IB.below hbk).more hbk.size
      clear hbk
      go_wp2_with fail
      go_ret
      exact ⟨rfl, hT⟩
  · obtain rfl : R = false := by simpa using h1
    clear hx h1
    go_enter Try.func10, Try.ntmps10
    have hal := (Below.refl w.heap.size w).alloc (Nat.le_refl _) (.cells #[.slice A n c, .slice B m e] 25)
    have QX := heap_alloc_new w (.cells #[.slice A n c, .slice B m e] 25)
    obtain ⟨w1, hw⟩ : ∃ W, w.alloc (.cells #[.slice A n c, .slice B m e] 25) = W := ⟨_, rfl⟩
    rw [hw] at hal QX
    have hT := hal
    replace VX := VX.below hal
    replace IA := (IA.below hal).more hal.size
    replace IB := (IB.below hal).more hal.size
    have HW := Lib.hid hw
    clear hal hw
    go_upto_region 1 with fail
    rw [HW.out]
    clear HW
    go_wp2_with fail
    refine (cooLive_any _).mono ?_
    rintro x w2 ⟨rfl, hbk⟩
    replace hT := hT.trans (hbk.mono hT.size)
    replace QX := heapAt hbk QX
    replace VX := VX.below hbk
    replace IA := (IA.below hbk).more hbk.size
    replace IB := (IB.below hbk).more hbk.size
    clear hbk
    obtain ⟨QX0, QX1, _, _⟩ := pair_cells QX
    go_wp2_with fail
    refine (few_coo A B n c m e xs es _ VX false HFW).mono ?_
    rintro x w3 ⟨rfl, hbk⟩
    clear QX0 QX1
    replace hT := hT.trans (hbk.mono hT.size)
    replace QX := heapAt hbk QX
    replace VX := VX.below hbk
    replace IA := (IA.below hbk).more hbk.size
    replace IB := (IB.below hbk).more hbk.size
    clear hbk
    go_wp2_with fail
    go_ret
    exact ⟨rfl, hT⟩

set_option maxRecDepth 100000 in
set_option maxHeartbeats 4000000 in
theorem orders_exit2 (A B Aa Ab : Option Addr) (n c m e na ca nb cb : Nat) (xs oa ob : List Int) (es : List Ent) (w : World) (h : Ints w w.heap.size A n xs) (hn : n ≤ 9223372036854775807) (hv : Ents w w.heap.size B m es) (hm : m ≤ 9223372036854775807) (ha : Ints w w.heap.size Aa na oa) (hna : na ≤ 9223372036854775807) (hb : Ints w w.heap.size Ab nb ob) (hnb : nb ≤ 9223372036854775807) (hf : fewC [((⟨A, n, c, B, m, e⟩ : Hdr), es)] = true) (h2 : na ≤ 20) (h3 : nb ≤ 20) (hx : ¬ (sortE' xs oa n es = 0 ∧ sortE' xs ob n es = 0)) :
    Calls Try.prog 10 #[.agg #[.slice A n c, .slice B m e], .slice Aa na ca, .slice Ab nb cb] w fun x w' => x = .returned (.bool true) ∧ Below w.heap.size w w' := by
  have VX : CooV w A n B m xs es := ⟨h, hv⟩
  have IA := ha
  have IB := hb
  clear h hv ha hb
  have hnm := fewC_one hf
  have hn1 := hnm.1
  have hm1 := hnm.2
  have HFW := Lib.hid hf
  have d1 : decide (20 < (na : Int)) = false := by simp; omega
  have d2 : decide (20 < (nb : Int)) = false := by simp; omega
  obtain ⟨Ea, hEa⟩ : ∃ E, sortE' xs oa n es = E := ⟨_, rfl⟩
  obtain ⟨Eb, hEb⟩ : ∃ E, sortE' xs ob n es = E := ⟨_, rfl⟩
  rw [hEa, hEb] at hx
  have HEA := Lib.hid hEa
  have HEB := Lib.hid hEb
  have d0 : (Ea != 0) = true ∨ (Ea != 0) = false ∧ (Eb != 0) = true := by
    by_cases q : Ea = 0
    · exact .inr ⟨by simpa using q, by simp; exact fun q2 => hx ⟨q, q2⟩⟩
    · exact .inl (by simpa using q)
  clear hf hnm hEa hEb hx
  rcases d0 with d3 | ⟨d3, d4⟩
  · go_enter Try.func10, Try.ntmps10
    have hal := (Below.refl w.heap.size w).alloc (Nat.le_refl _) (.cells #[.slice A n c, .slice B m e] 25)
    have QX := heap_alloc_new w (.cells #[.slice A n c, .slice B m e] 25)
    obtain ⟨w1, hw⟩ : ∃ W, w.alloc (.cells #[.slice A n c, .slice B m e] 25) = W := ⟨_, rfl⟩
    rw [hw] at hal QX
    have hT := hal
    replace VX := VX.below hal
    replace IA := (IA.below hal).more hal.size
    replace IB := (IB.below hal).more hal.size
    have HW := Lib.hid hw
    clear hal hw
    go_upto_region 1 with fail
    rw [HW.out]
    clear HW
    go_wp2_with fail
    refine (cooLive_any _).mono ?_
    rintro x w2 ⟨rfl, hbk⟩
    replace hT := hT.trans (hbk.mono hT.size)
    replace QX := heapAt hbk QX
    replace VX := VX.below hbk
    replace IA := (IA.below hbk).more hbk.size
    replace IB := (IB.below hbk).more hbk.size
    clear hbk
    obtain ⟨QX0, QX1, _, _⟩ := pair_cells QX
    go_wp2_with fail
    refine (few_coo A B n c m e xs es _ VX true HFW).mono ?_
    rintro x w3 ⟨rfl, hbk⟩
    clear QX0 QX1
    replace hT := hT.trans (hbk.mono hT.size)
    replace QX := heapAt hbk QX
    replace VX := VX.below hbk
    replace IA := (IA.below hbk).more hbk.size
    replace IB := (IB.below hbk).more hbk.size
    clear hbk
    obtain ⟨QX0, QX1, _, _⟩ := pair_cells QX
    go_wp2_with fail
    refine (joinV_any A B Aa n c m e na ca xs oa es _ VX (by omega) (by omega) Ea HEA IA (by omega)).mono ?_
    rintro x w4 ⟨A1, n1, c1, A2, m2, c2, rfl, hbk⟩
    clear QX0 QX1
    replace hT := hT.trans (hbk.mono hT.size)
    replace QX := heapAt hbk QX
    replace VX := VX.below hbk
    replace IA := (IA.below hbk).more hbk.size
    replace IB := (IB.below hbk).more hbk.size
    clear hbk
    have hal := (Below.refl w4.heap.size w4).alloc (Nat.le_refl _) (.cells #[.slice A1 n1 c1, .slice A2 m2 c2] 25)
    have QJ := heap_alloc_new w4 (.cells #[.slice A1 n1 c1, .slice A2 m2 c2] 25)
    obtain ⟨w5, hw⟩ : ∃ W, w4.alloc (.cells #[.slice A1 n1 c1, .slice A2 m2 c2] 25) = W := ⟨_, rfl⟩
    rw [hw] at hal QJ
    replace hT := hT.trans (hal.mono hT.size)
    replace QX := heapAt hal QX
    replace VX := VX.below hal
    replace IA := (IA.below hal).more hal.size
    replace IB := (IB.below hal).more hal.size
    have HW := Lib.hid hw
    clear hal hw
    go_upto_region 5 with fail
    rw [HW.out]
    clear HW
    obtain ⟨QX0, QX1, _, _⟩ := pair_cells QX
    go_wp2_with fail
    refine (joinV_any A B Ab n c m e nb cb xs ob es _ VX (by omega) (by omega) Eb HEB IB (by omega)).mono ?_
    rintro x w6 ⟨A3, n3, c3, A4, m4, c4, rfl, hbk⟩
    clear QX0 QX1
    replace hT := hT.trans (hbk.mono hT.size)
    replace QX := heapAt hbk QX
    replace QJ := heapAt hbk QJ
    replace VX := VX.below hbk
    replace IA := (IA.below hbk).more hbk.size
    replace IB := (IB.below hbk).more hbk.size
    clear hbk
    have hal := (Below.refl w6.heap.size w6).alloc (Nat.le_refl _) (.cells #[.slice A3 n3 c3, .slice A4 m4 c4] 25)
    have QK := heap_alloc_new w6 (.cells #[.slice A3 n3 c3, .slice A4 m4 c4] 25)
    obtain ⟨w7, hw⟩ : ∃ W, w6.alloc (.cells #[.slice A3 n3 c3, .slice A4 m4 c4] 25) = W := ⟨_, rfl⟩
    rw [hw] at hal QK
    replace hT := hT.trans (hal.mono hT.size)
    replace QX := heapAt hal QX
    replace QJ := heapAt hal QJ
    replace VX := VX.below hal
    replace IA := (IA.below hal).more hal.size
    replace IB := (IB.below hal).more hal.size
    have HW := Lib.hid hw
    clear hal hw
    go_upto_region 6 with fail
    rw [HW.out]
    clear HW
    go_wp2_with fail
    go_ret
    exact ⟨rfl, hT⟩
  · go_enter Try.func10, Try.ntmps10
    have hal := (Below.refl w.heap.size w).alloc (Nat.le_refl _) (.cells #[.slice A n c, .slice B m e] 25)
    have QX := heap_alloc_new w (.cells #[.slice A n c, .slice B m e] 25)
    obtain ⟨w1, hw⟩ : ∃ W, w.alloc (.cells #[.slice A n c, .slice B m e] 25) = W := ⟨_, rfl⟩
    rw [hw] at hal QX
    have hT := hal
    replace VX := VX.below hal
    replace IA := (IA.below hal).more hal.size
    replace IB := (IB.below hal).more hal.size
    have HW := Lib.hid hw
    clear hal hw
    go_upto_region 1 with fail
    rw [HW.out]
    clear HW
    go_wp2_with fail
    refine (cooLive_any _).mono ?_
    rintro x w2 ⟨rfl, hbk⟩
    replace hT := hT.trans (hbk.mono hT.size)
    replace QX := heapAt hbk QX
    replace VX := VX.below hbk
    replace IA := (IA.below hbk).more hbk.size
    replace IB := (IB.below hbk).more hbk.size
    clear hbk
    obtain ⟨QX0, QX1, _, _⟩ := pair_cells QX
    go_wp2_with fail
    refine (few_coo A B n c m e xs es _ VX true HFW).mono ?_
    rintro x w3 ⟨rfl, hbk⟩
    clear QX0 QX1
    replace hT := hT.trans (hbk.mono hT.size)
    replace QX := heapAt hbk QX
    replace VX := VX.below hbk
    replace IA := (IA.below hbk).more hbk.size
    replace IB := (IB.below hbk).more hbk.size
    clear hbk
    obtain ⟨QX0, QX1, _, _⟩ := pair_cells QX
    go_wp2_with fail
    refine (joinV_any A B Aa n c m e na ca xs oa es _ VX (by omega) (by omega) Ea HEA IA (by omega)).mono ?_
    rintro x w4 ⟨A1, n1, c1, A2, m2, c2, rfl, hbk⟩
    clear QX0 QX1
    replace hT := hT.trans (hbk.mono hT.size)
    replace QX := heapAt hbk QX
    replace VX := VX.below hbk
    replace IA := (IA.below hbk).more hbk.size
    replace IB := (IB.below hbk).more hbk.size
    clear hbk
    have hal := (Below.refl w4.heap.size w4).alloc (Nat.le_refl _) (.cells #[.slice A1 n1 c1, .slice A2 m2 c2] 25)
    have QJ := heap_alloc_new w4 (.cells #[.slice A1 n1 c1, .slice A2 m2 c2] 25)
    obtain ⟨w5, hw⟩ : ∃ W, w4.alloc (.cells #[.slice A1 n1 c1, .slice A2 m2 c2] 25) = W := ⟨_, rfl⟩
    rw [hw] at hal QJ
    replace hT := hT.trans (hal.mono hT.size)
    replace QX := heapAt hal QX
    replace VX := VX.below hal
    replace IA := (IA.below hal).more hal.size
    replace IB := (IB.below hal).more hal.size
    have HW := Lib.hid hw
    clear hal hw
    go_upto_region 5 with fail
    rw [HW.out]
    clear HW
    obtain ⟨QX0, QX1, _, _⟩ := pair_cells QX
    go_wp2_with fail
    refine (joinV_any A B Ab n c m e nb cb xs ob es _ VX (by omega) (by omega) Eb HEB IB (by omega)).mono ?_
    rintro x w6 ⟨A3, n3, c3, A4, m4, c4, rfl, hbk⟩
    clear QX0 QX1
    replace hT := hT.trans (hbk.mono hT.size)
    replace QX := heapAt hbk QX
    replace QJ := heapAt hbk QJ
    replace VX := VX.below hbk
    replace IA := (IA.below hbk).more hbk.size
    replace IB := (IB.below hbk).more hbk.size
    clear hbk
    have hal := (Below.refl w6.heap.size w6).alloc (Nat.le_refl _) (.cells #[.slice A3 n3 c3, .slice A4 m4 c4] 25)
    have QK := heap_alloc_new w6 (.cells #[.slice A3 n3 c3, .slice A4 m4 c4] 25)
    obtain ⟨w7, hw⟩ : ∃ W, w6.alloc (.cells #[.slice A3 n3 c3, .slice A4 m4 c4] 25) = W := ⟨_, rfl⟩
    rw [hw] at hal QK
    replace hT := hT.trans (hal.mono hT.size)
    replace QX := heapAt hal QX
    replace QJ := heapAt hal QJ
    replace VX := VX.below hal
    replace IA := (IA.below hal).more hal.size
    replace IB := (IB.below hal).more hal.size
    have HW := Lib.hid hw
    clear hal hw
    go_upto_region 6 with fail
    rw [HW.out]
    clear HW
    go_wp2_with fail
    go_ret
    exact ⟨rfl, hT⟩

set_option maxRecDepth 100000 in
set_option maxHeartbeats 8000000 in
theorem cooOrders_w (A B Aa Ab : Option Addr) (n c m e na ca nb cb : Nat) (xs oa ob : List Int) (es : List Ent) (w : World) (h : Ints w w.heap.size A n xs) (hn : n ≤ 9223372036854775807) (hv : Ents w w.heap.size B m es) (hm : m ≤ 9223372036854775807) (ha : Ints w w.heap.size Aa na oa) (hna : na ≤ 9223372036854775807) (hb : Ints w w.heap.size Ab nb ob) (hnb : nb ≤ 9223372036854775807) :
    Calls Try.prog 10 #[.agg #[.slice A n c, .slice B m e], .slice Aa na ca, .slice Ab nb cb] w fun x w' => x = .returned (.bool true) ∧ Below w.heap.size w w' := by
  by_cases hq1 : fewC [((⟨A, n, c, B, m, e⟩ : Hdr), es)] = true ∧ na ≤ 20 ∧ nb ≤ 20
  case neg => exact orders_exit1 A B Aa Ab n c m e na ca nb cb xs oa ob es w h hn hv hm ha hna hb hnb hq1
  obtain ⟨hf, h2, h3⟩ := hq1
  by_cases hq2 : sortE' xs oa n es = 0 ∧ sortE' xs ob n es = 0
  case neg => exact orders_exit2 A B Aa Ab n c m e na ca nb cb xs oa ob es w h hn hv hm ha hna hb hnb hf h2 h3 hq2
  obtain ⟨hEa, hEb⟩ := hq2
  have VX : CooV w A n B m xs es := ⟨h, hv⟩
  have IA := ha
  have IB := hb
  clear h hv ha hb
  have hnm := fewC_one hf
  have hn1 := hnm.1
  have hm1 := hnm.2
  have HFW := Lib.hid hf
  have d1 : decide (20 < (na : Int)) = false := by simp; omega
  have d2 : decide (20 < (nb : Int)) = false := by simp; omega
  have HEA := Lib.hid hEa
  have HEB := Lib.hid hEb
  obtain ⟨hC0, hka, hkb⟩ := orders_of hEa hEb
  have HC0 := Lib.hid hC0
  have HKA := Lib.hid hka
  have HKB := Lib.hid hkb
  have HKO := Lib.hid (keyOk_of VX hC0)
  clear hf hnm hEa hEb hC0 hka hkb
  go_enter Try.func10, Try.ntmps10
  have hal := (Below.refl w.heap.size w).alloc (Nat.le_refl _) (.cells #[.slice A n c, .slice B m e] 25)
  have QX := heap_alloc_new w (.cells #[.slice A n c, .slice B m e] 25)
  obtain ⟨w1, hw⟩ : ∃ W, w.alloc (.cells #[.slice A n c, .slice B m e] 25) = W := ⟨_, rfl⟩
  rw [hw] at hal QX
  have hT := hal
  replace VX := VX.below hal
  replace IA := (IA.below hal).more hal.size
  replace IB := (IB.below hal).more hal.size
  have HW := Lib.hid hw
  clear hal hw
  go_upto_region 1 with fail
  rw [HW.out]
  clear HW
  go_wp2_with fail
  refine (cooLive_any _).mono ?_
  rintro x w2 ⟨rfl, hbk⟩
  replace hT := hT.trans (hbk.mono hT.size)
  replace QX := heapAt hbk QX
  replace VX := VX.below hbk
  replace IA := (IA.below hbk).more hbk.size
  replace IB := (IB.below hbk).more hbk.size
  clear hbk
  obtain ⟨QX0, QX1, _, _⟩ := pair_cells QX
  go_wp2_with fail
  refine (few_coo A B n c m e xs es _ VX true HFW).mono ?_
  rintro x w3 ⟨rfl, hbk⟩
  clear QX0 QX1
  replace hT := hT.trans (hbk.mono hT.size)
  replace QX := heapAt hbk QX
  replace VX := VX.below hbk
  replace IA := (IA.below hbk).more hbk.size
  replace IB := (IB.below hbk).more hbk.size
  clear hbk
  obtain ⟨QX0, QX1, _, _⟩ := pair_cells QX
  go_wp2_with fail
  refine (joinV_ok A B Aa n c m e na ca xs oa es _ VX HEA.out IA (by omega)).mono ?_
  rintro x w4 ⟨A1, c1, A2, m2, c2, Js, rfl, VJ, HJ, HJC, hm2, hbk⟩
  clear QX0 QX1
  replace hT := hT.trans (hbk.mono hT.size)
  replace QX := heapAt hbk QX
  replace VX := VX.below hbk
  replace IA := (IA.below hbk).more hbk.size
  replace IB := (IB.below hbk).more hbk.size
  clear hbk
  have hal := (Below.refl w4.heap.size w4).alloc (Nat.le_refl _) (.cells #[.slice A1 n c1, .slice A2 m2 c2] 25)
  have QJ := heap_alloc_new w4 (.cells #[.slice A1 n c1, .slice A2 m2 c2] 25)
  obtain ⟨w5, hw⟩ : ∃ W, w4.alloc (.cells #[.slice A1 n c1, .slice A2 m2 c2] 25) = W := ⟨_, rfl⟩
  rw [hw] at hal QJ
  replace hT := hT.trans (hal.mono hT.size)
  replace QX := heapAt hal QX
  replace VX := VX.below hal
  replace VJ := VJ.below hal
  replace IA := (IA.below hal).more hal.size
  replace IB := (IB.below hal).more hal.size
  have HW := Lib.hid hw
  clear hal hw
  go_upto_region 5 with fail
  rw [HW.out]
  clear HW
  obtain ⟨QX0, QX1, _, _⟩ := pair_cells QX
  go_wp2_with fail
  refine (joinV_ok A B Ab n c m e nb cb xs ob es _ VX HEB.out IB (by omega)).mono ?_
  rintro x w6 ⟨A3, c3, A4, m4, c4, Ks, rfl, VK, HK, HKC, hm4, hbk⟩
  clear QX0 QX1
  replace hT := hT.trans (hbk.mono hT.size)
  replace QX := heapAt hbk QX
  replace QJ := heapAt hbk QJ
  replace VX := VX.below hbk
  replace VJ := VJ.below hbk
  replace IA := (IA.below hbk).more hbk.size
  replace IB := (IB.below hbk).more hbk.size
  clear hbk
  have hal := (Below.refl w6.heap.size w6).alloc (Nat.le_refl _) (.cells #[.slice A3 n c3, .slice A4 m4 c4] 25)
  have QK := heap_alloc_new w6 (.cells #[.slice A3 n c3, .slice A4 m4 c4] 25)
  obtain ⟨w7, hw⟩ : ∃ W, w6.alloc (.cells #[.slice A3 n c3, .slice A4 m4 c4] 25) = W := ⟨_, rfl⟩
  rw [hw] at hal QK
  replace hT := hT.trans (hal.mono hT.size)
  replace QX := heapAt hal QX
  replace QJ := heapAt hal QJ
  replace VX := VX.below hal
  replace VJ := VJ.below hal
  replace VK := VK.below hal
  replace IA := (IA.below hal).more hal.size
  replace IB := (IB.below hal).more hal.size
  have HW := Lib.hid hw
  clear hal hw
  go_upto_region 6 with fail
  rw [HW.out]
  clear HW
  obtain ⟨QJ0, QJ1, _, _⟩ := pair_cells QJ
  go_wp2_with fail
  refine (sortV_ok A1 A2 Ab n c1 m2 c2 nb cb xs ob Js _ VJ (by unfold sortE'; rw [if_pos HJC.out, if_pos HKB.out]) IB (by omega)).mono ?_
  rintro x w8 ⟨A5, c5, A6, c6, Ss, rfl, VS, HS, HSC, _, hbk⟩
  clear QJ0 QJ1
  replace hT := hT.trans (hbk.mono hT.size)
  replace QX := heapAt hbk QX
  replace QJ := heapAt hbk QJ
  replace QK := heapAt hbk QK
  replace VX := VX.below hbk
  replace VJ := VJ.below hbk
  replace VK := VK.below hbk
  replace IA := (IA.below hbk).more hbk.size
  replace IB := (IB.below hbk).more hbk.size
  clear hbk
  have hal := (Below.refl w8.heap.size w8).alloc (Nat.le_refl _) (.cells #[.slice A5 n c5, .slice A6 m2 c6] 25)
  have QS := heap_alloc_new w8 (.cells #[.slice A5 n c5, .slice A6 m2 c6] 25)
  obtain ⟨w9, hw⟩ : ∃ W, w8.alloc (.cells #[.slice A5 n c5, .slice A6 m2 c6] 25) = W := ⟨_, rfl⟩
  rw [hw] at hal QS
  replace hT := hT.trans (hal.mono hT.size)
  replace QX := heapAt hal QX
  replace QJ := heapAt hal QJ
  replace QK := heapAt hal QK
  replace VX := VX.below hal
  replace VJ := VJ.below hal
  replace VK := VK.below hal
  replace VS := VS.below hal
  replace IA := (IA.below hal).more hal.size
  replace IB := (IB.below hal).more hal.size
  have HW := Lib.hid hw
  clear hal hw
  go_upto_region 9 with fail
  rw [HW.out]
  clear HW
  obtain ⟨QK0, QK1, _, _⟩ := pair_cells QK
  go_wp2_with fail
  refine (sortV_ok A3 A4 Aa n c3 m4 c4 na ca xs oa Ks _ VK (by unfold sortE'; rw [if_pos HKC.out, if_pos HKA.out]) IA (by omega)).mono ?_
  rintro x w10 ⟨A7, c7, A8, c8, Ts, rfl, VT, HT2, HTC, _, hbk⟩
  clear QK0 QK1
  replace hT := hT.trans (hbk.mono hT.size)
  replace QX := heapAt hbk QX
  replace QJ := heapAt hbk QJ
  replace QK := heapAt hbk QK
  replace QS := heapAt hbk QS
  replace VX := VX.below hbk
  replace VJ := VJ.below hbk
  replace VK := VK.below hbk
  replace VS := VS.below hbk
  replace IA := (IA.below hbk).more hbk.size
  replace IB := (IB.below hbk).more hbk.size
  clear hbk
  have hal := (Below.refl w10.heap.size w10).alloc (Nat.le_refl _) (.cells #[.slice A7 n c7, .slice A8 m4 c8] 25)
  have QT := heap_alloc_new w10 (.cells #[.slice A7 n c7, .slice A8 m4 c8] 25)
  obtain ⟨w11, hw⟩ : ∃ W, w10.alloc (.cells #[.slice A7 n c7, .slice A8 m4 c8] 25) = W := ⟨_, rfl⟩
  rw [hw] at hal QT
  replace hT := hT.trans (hal.mono hT.size)
  replace QX := heapAt hal QX
  replace QJ := heapAt hal QJ
  replace QK := heapAt hal QK
  replace QS := heapAt hal QS
  replace VX := VX.below hal
  replace VJ := VJ.below hal
  replace VK := VK.below hal
  replace VS := VS.below hal
  replace VT := VT.below hal
  replace IA := (IA.below hal).more hal.size
  replace IB := (IB.below hal).more hal.size
  have HW := Lib.hid hw
  clear hal hw
  go_upto_region 10 with fail
  rw [HW.out]
  clear HW
  obtain ⟨QS0, QS1, _, _⟩ := pair_cells QS
  obtain ⟨QK0, QK1, _, _⟩ := pair_cells QK
  go_wp2_with fail
  refine (sameV A5 A6 A3 A4 n c5 m2 c6 n c3 m4 c4 xs xs Ss Ks _ VS (by omega) (by omega) VK (by omega) (by omega) true (sameC_t HSC.out (by rw [HS.out, HJ.out, HK.out]; exact join_sort (ordL_perm HKA.out) (ordL_perm HKB.out) HKO.out))).mono ?_
  rintro x w12 ⟨rfl, hbk⟩
  clear QS0 QS1 QK0 QK1
  replace hT := hT.trans (hbk.mono hT.size)
  replace QX := heapAt hbk QX
  replace QJ := heapAt hbk QJ
  replace QK := heapAt hbk QK
  replace QS := heapAt hbk QS
  replace QT := heapAt hbk QT
  replace VX := VX.below hbk
  replace VJ := VJ.below hbk
  replace VK := VK.below hbk
  replace VS := VS.below hbk
  replace VT := VT.below hbk
  replace IA := (IA.below hbk).more hbk.size
  replace IB := (IB.below hbk).more hbk.size
  clear hbk
  obtain ⟨QT0, QT1, _, _⟩ := pair_cells QT
  obtain ⟨QJ0, QJ1, _, _⟩ := pair_cells QJ
  go_wp2_with fail
  refine (sameV A7 A8 A1 A2 n c7 m4 c8 n c1 m2 c2 xs xs Ts Js _ VT (by omega) (by omega) VJ (by omega) (by omega) true (sameC_t HTC.out (by rw [HT2.out, HK.out, HJ.out]; exact join_sort (ordL_perm HKB.out) (ordL_perm HKA.out) HKO.out))).mono ?_
  rintro x w13 ⟨rfl, hbk⟩
  clear QT0 QT1 QJ0 QJ1
  replace hT := hT.trans (hbk.mono hT.size)
  replace QX := heapAt hbk QX
  replace QJ := heapAt hbk QJ
  replace QK := heapAt hbk QK
  replace QS := heapAt hbk QS
  replace QT := heapAt hbk QT
  replace VX := VX.below hbk
  replace VJ := VJ.below hbk
  replace VK := VK.below hbk
  replace VS := VS.below hbk
  replace VT := VT.below hbk
  replace IA := (IA.below hbk).more hbk.size
  replace IB := (IB.below hbk).more hbk.size
  clear hbk
  go_wp2_with fail
  go_ret
  exact ⟨rfl, hT⟩
theorem cooOrders_any (w : World) (A : Option Addr) (n c : Nat) (B : Option Addr) (m e : Nat) (xs : List Int) (es : List Ent) (h : Ints w w.heap.size A n xs) (hn : n ≤ 9223372036854775807) (hv : Ents w w.heap.size B m es) (hm : m ≤ 9223372036854775807) (_ : n ≤ c) (_ : m ≤ e)
  (Aa : Option Addr) (na ca : Nat) (oa : List Int) (ha : Ints w w.heap.size Aa na oa) (hna : na ≤ 9223372036854775807) (Ab : Option Addr) (nb cb : Nat) (ob : List Int) (hb : Ints w w.heap.size Ab nb ob) (hnb : nb ≤ 9223372036854775807) :
    Calls Try.prog 10 #[.agg #[.slice A n c, .slice B m e], .slice Aa na ca, .slice Ab nb cb] w fun x w' => x = .returned (.bool true) ∧ Below w.heap.size w w' :=
  cooOrders_w A B Aa Ab n c m e na ca nb cb xs oa ob es w h hn hv hm ha hna hb hnb
end Go.Proofs.Ytapbcmhkipaecaa
