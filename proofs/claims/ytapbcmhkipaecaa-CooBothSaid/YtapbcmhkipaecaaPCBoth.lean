/- purflelaw02.CooBoth returns true at every two lists. -/
import Derived.Test.YtapbcmhkipaecaaPECooB
import Derived.Test.YtapbcmhkipaecaaPKeeps
namespace Go.Proofs.Ytapbcmhkipaecaa
open Go.RowKit


set_option maxRecDepth 100000 in
set_option maxHeartbeats 8000000 in
theorem both_exit1 (A B A2 B2 : Option Addr) (n c m e n2 c2 m2 e2 : Nat) (xs xs2 : List Int) (es fs : List Ent) (w : World) (hX : CooV w A n B m xs es) (_hn : n ≤ 9223372036854775807) (_hm : m ≤ 9223372036854775807) (hY : CooV w A2 n2 B2 m2 xs2 fs) (_hn2 : n2 ≤ 9223372036854775807) (_hm2 : m2 ≤ 9223372036854775807) (hx : ¬ (fewC [((⟨A, n, c, B, m, e⟩ : Hdr), es), (⟨A2, n2, c2, B2, m2, e2⟩, fs)] = true ∧ cooF xs es = 0 ∧ m + m2 ≤ 3000)) :
    Calls Try.prog 9 #[.agg #[.slice A n c, .slice B m e], .agg #[.slice A2 n2 c2, .slice B2 m2 e2]] w fun x w' => x = .returned (.bool true) ∧ Below w.heap.size w w' := by
  have VX := hX
  have VY := hY
  have HX0 := Lib.hid hX
  have HY0 := Lib.hid hY
  clear hX hY
  obtain ⟨R, hR⟩ : ∃ R, fewC [((⟨A, n, c, B, m, e⟩ : Hdr), es), (⟨A2, n2, c2, B2, m2, e2⟩, fs)] = R := ⟨_, rfl⟩
  rw [hR] at hx
  have HFW := Lib.hid hR
  by_cases h1 : R = true
  · subst h1
    have hnm := fewC_two hR
    have hn1 := hnm.1
    have hm1 := hnm.2.1
    have hm3 := hnm.2.2.2
    clear hnm hR
    obtain ⟨E, hE⟩ : ∃ E, cooF xs es = E := ⟨_, rfl⟩
    rw [hE] at hx
    have HE := Lib.hid hE
    clear hE
    by_cases h2 : E = 0
    · subst h2
      have d3 : decide (3000 < (m : Int) + (m2 : Int)) = true := by have q : ¬ m + m2 ≤ 3000 := fun q => hx ⟨rfl, rfl, q⟩; simp; omega
      clear hx
      go_enter Try.func9, Try.ntmps9
      have z0 := (Below.refl w.heap.size w).alloc (Nat.le_refl _) (.cells #[.slice A n c, .slice B m e] 25)
      have hal := z0.alloc z0.size (.cells #[.slice A2 n2 c2, .slice B2 m2 e2] 25)
      have QX := zf_two w (.cells #[.slice A n c, .slice B m e] 25) (.cells #[.slice A2 n2 c2, .slice B2 m2 e2] 25)
      have QY := zf_snd w (.cells #[.slice A2 n2 c2, .slice B2 m2 e2] 25) (.cells #[.slice A n c, .slice B m e] 25)
      obtain ⟨w1, hw⟩ : ∃ W, (w.alloc (.cells #[.slice A n c, .slice B m e] 25)).alloc (.cells #[.slice A2 n2 c2, .slice B2 m2 e2] 25) = W := ⟨_, rfl⟩
      rw [hw] at hal QX QY
      have HW := Lib.hid hw
      clear hw z0
      have hT := hal
      replace VX := VX.below hal
      replace VY := VY.below hal
      go_upto_region 1 with fail
      rw [HW.out]
      clear HW hal
      go_wp2_with fail
      refine (cooLive_any _).mono ?_
      rintro x w2 ⟨rfl, hbk⟩
      replace hT := hT.trans (hbk.mono hT.size)
      replace QX := heapAt hbk QX
      replace QY := heapAt hbk QY
      replace VX := VX.below hbk
      replace VY := VY.below hbk
      clear hbk
      obtain ⟨QX0, QX1, _, _⟩ := pair_cells QX
      obtain ⟨QY0, QY1, _, _⟩ := pair_cells QY
      go_wp2_with fail
      refine (few_coo2 A B A2 B2 n c m e n2 c2 m2 e2 xs xs2 es fs _ VX VY true HFW).mono ?_
      rintro x w3 ⟨rfl, hbk⟩
      clear QX0 QX1 QY0 QY1
      replace hT := hT.trans (hbk.mono hT.size)
      replace QX := heapAt hbk QX
      replace QY := heapAt hbk QY
      replace VX := VX.below hbk
      replace VY := VY.below hbk
      clear hbk
      obtain ⟨QX0, QX1, _, _⟩ := pair_cells QX
      go_wp2_with fail
      refine (cooCheck_any A B n c m e xs es _ VX.1 (by omega) VX.2 (by omega)).mono ?_
      rintro x w4 ⟨hxq, hbk⟩
      clear QX0 QX1
      replace hT := hT.trans (hbk.mono hT.size)
      replace QX := heapAt hbk QX
      replace QY := heapAt hbk QY
      replace VX := VX.below hbk
      replace VY := VY.below hbk
      clear hbk
      rw [HE.out] at hxq
      subst hxq
      obtain ⟨QX0, QX1, _, _⟩ := pair_cells QX
      obtain ⟨QY0, QY1, _, _⟩ := pair_cells QY
      go_wp2_with fail
      go_ret
      exact ⟨rfl, hT⟩
    · have d3 : (E != 0) = true := by simpa using h2
      have d4 : (E == 0) = false := by simpa using h2
      clear hx
      go_enter Try.func9, Try.ntmps9
      have z0 := (Below.refl w.heap.size w).alloc (Nat.le_refl _) (.cells #[.slice A n c, .slice B m e] 25)
      have hal := z0.alloc z0.size (.cells #[.slice A2 n2 c2, .slice B2 m2 e2] 25)
      have QX := zf_two w (.cells #[.slice A n c, .slice B m e] 25) (.cells #[.slice A2 n2 c2, .slice B2 m2 e2] 25)
      have QY := zf_snd w (.cells #[.slice A2 n2 c2, .slice B2 m2 e2] 25) (.cells #[.slice A n c, .slice B m e] 25)
      obtain ⟨w1, hw⟩ : ∃ W, (w.alloc (.cells #[.slice A n c, .slice B m e] 25)).alloc (.cells #[.slice A2 n2 c2, .slice B2 m2 e2] 25) = W := ⟨_, rfl⟩
      rw [hw] at hal QX QY
      have HW := Lib.hid hw
      clear hw z0
      have hT := hal
      replace VX := VX.below hal
      replace VY := VY.below hal
      go_upto_region 1 with fail
      rw [HW.out]
      clear HW hal
      go_wp2_with fail
      refine (cooLive_any _).mono ?_
      rintro x w2 ⟨rfl, hbk⟩
      replace hT := hT.trans (hbk.mono hT.size)
      replace QX := heapAt hbk QX
      replace QY := heapAt hbk QY
      replace VX := VX.below hbk
      replace VY := VY.below hbk
      clear hbk
      obtain ⟨QX0, QX1, _, _⟩ := pair_cells QX
      obtain ⟨QY0, QY1, _, _⟩ := pair_cells QY
      go_wp2_with fail
      refine (few_coo2 A B A2 B2 n c m e n2 c2 m2 e2 xs xs2 es fs _ VX VY true HFW).mono ?_
      rintro x w3 ⟨rfl, hbk⟩
      clear QX0 QX1 QY0 QY1
      replace hT := hT.trans (hbk.mono hT.size)
      replace QX := heapAt hbk QX
      replace QY := heapAt hbk QY
      replace VX := VX.below hbk
      replace VY := VY.below hbk
      clear hbk
      obtain ⟨QX0, QX1, _, _⟩ := pair_cells QX
      go_wp2_with fail
      refine (cooCheck_any A B n c m e xs es _ VX.1 (by omega) VX.2 (by omega)).mono ?_
      rintro x w4 ⟨hxq, hbk⟩
      clear QX0 QX1
      replace hT := hT.trans (hbk.mono hT.size)
      replace QX := heapAt hbk QX
      replace QY := heapAt hbk QY
      replace VX := VX.below hbk
      replace VY := VY.below hbk
      clear hbk
      rw [HE.out] at hxq
      subst hxq
      go_wp2_with fail
      go_ret
      exact ⟨rfl, hT⟩
  · obtain rfl : R = false := by simpa using h1
    clear hx h1 hR
    go_enter Try.func9, Try.ntmps9
    have z0 := (Below.refl w.heap.size w).alloc (Nat.le_refl _) (.cells #[.slice A n c, .slice B m e] 25)
    have hal := z0.alloc z0.size (.cells #[.slice A2 n2 c2, .slice B2 m2 e2] 25)
    have QX := zf_two w (.cells #[.slice A n c, .slice B m e] 25) (.cells #[.slice A2 n2 c2, .slice B2 m2 e2] 25)
    have QY := zf_snd w (.cells #[.slice A2 n2 c2, .slice B2 m2 e2] 25) (.cells #[.slice A n c, .slice B m e] 25)
    obtain ⟨w1, hw⟩ : ∃ W, (w.alloc (.cells #[.slice A n c, .slice B m e] 25)).alloc (.cells #[.slice A2 n2 c2, .slice B2 m2 e2] 25) = W := ⟨_, rfl⟩
    rw [hw] at hal QX QY
    have HW := Lib.hid hw
    clear hw z0
    have hT := hal
    replace VX := VX.below hal
    replace VY := VY.below hal
    go_upto_region 1 with fail
    rw [HW.out]
    clear HW hal
    go_wp2_with fail
    refine (cooLive_any _).mono ?_
    rintro x w2 ⟨rfl, hbk⟩
    replace hT := hT.trans (hbk.mono hT.size)
    replace QX := heapAt hbk QX
    replace QY := heapAt hbk QY
    replace VX := VX.below hbk
    replace VY := VY.below hbk
    clear hbk
    obtain ⟨QX0, QX1, _, _⟩ := pair_cells QX
    obtain ⟨QY0, QY1, _, _⟩ := pair_cells QY
    go_wp2_with fail
    refine (few_coo2 A B A2 B2 n c m e n2 c2 m2 e2 xs xs2 es fs _ VX VY false HFW).mono ?_
    rintro x w3 ⟨rfl, hbk⟩
    clear QX0 QX1 QY0 QY1
    replace hT := hT.trans (hbk.mono hT.size)
    replace QX := heapAt hbk QX
    replace QY := heapAt hbk QY
    replace VX := VX.below hbk
    replace VY := VY.below hbk
    clear hbk
    go_wp2_with fail
    go_ret
    exact ⟨rfl, hT⟩

set_option maxRecDepth 100000 in
set_option maxHeartbeats 8000000 in
theorem cooBoth_w (A B A2 B2 : Option Addr) (n c m e n2 c2 m2 e2 : Nat) (xs xs2 : List Int) (es fs : List Ent) (w : World) (hX : CooV w A n B m xs es) (hn : n ≤ 9223372036854775807) (hm : m ≤ 9223372036854775807) (hY : CooV w A2 n2 B2 m2 xs2 fs) (hn2 : n2 ≤ 9223372036854775807) (hm2 : m2 ≤ 9223372036854775807) :
    Calls Try.prog 9 #[.agg #[.slice A n c, .slice B m e], .agg #[.slice A2 n2 c2, .slice B2 m2 e2]] w fun x w' => x = .returned (.bool true) ∧ Below w.heap.size w w' := by
  by_cases hq1 : fewC [((⟨A, n, c, B, m, e⟩ : Hdr), es), (⟨A2, n2, c2, B2, m2, e2⟩, fs)] = true ∧ cooF xs es = 0 ∧ m + m2 ≤ 3000
  case neg => exact both_exit1 A B A2 B2 n c m e n2 c2 m2 e2 xs xs2 es fs w hX hn hm hY hn2 hm2 hq1
  obtain ⟨hf, hE, hs⟩ := hq1
  have VX := hX
  have VY := hY
  have HX0 := Lib.hid hX
  have HY0 := Lib.hid hY
  clear hX hY
  have hnm := fewC_two hf
  have hn1 := hnm.1
  have hm1 := hnm.2.1
  have hm3 := hnm.2.2.2
  have HFW := Lib.hid hf
  have HE := Lib.hid hE
  have d3 : decide (3000 < (m : Int) + (m2 : Int)) = false := by simp; omega
  clear hf hnm hE
  obtain ⟨Ea, hEa⟩ : ∃ E, denE xs es = E := ⟨_, rfl⟩
  obtain ⟨Eb, hEb⟩ : ∃ E, denE xs fs = E := ⟨_, rfl⟩
  have HEA := Lib.hid hEa
  have HEB := Lib.hid hEb
  have HLL : Hid ((es ++ fs).length = m + m2) := by unfold Hid; rw [List.length_append, VX.2.1, VY.2.1]
  have HKO := Lib.hid (keyOk_of VX HE.out)
  have HLE : Hid (es.length = m) := VX.2.1
  clear hEa hEb
  go_enter Try.func9, Try.ntmps9
  have z0 := (Below.refl w.heap.size w).alloc (Nat.le_refl _) (.cells #[.slice A n c, .slice B m e] 25)
  have hal := z0.alloc z0.size (.cells #[.slice A2 n2 c2, .slice B2 m2 e2] 25)
  have QX := zf_two w (.cells #[.slice A n c, .slice B m e] 25) (.cells #[.slice A2 n2 c2, .slice B2 m2 e2] 25)
  have QY := zf_snd w (.cells #[.slice A2 n2 c2, .slice B2 m2 e2] 25) (.cells #[.slice A n c, .slice B m e] 25)
  obtain ⟨w1, hw⟩ : ∃ W, (w.alloc (.cells #[.slice A n c, .slice B m e] 25)).alloc (.cells #[.slice A2 n2 c2, .slice B2 m2 e2] 25) = W := ⟨_, rfl⟩
  rw [hw] at hal QX QY
  have HW := Lib.hid hw
  clear hw z0
  have hT := hal
  replace VX := VX.below hal
  replace VY := VY.below hal
  go_upto_region 1 with fail
  rw [HW.out]
  clear HW hal
  go_wp2_with fail
  refine (cooLive_any _).mono ?_
  rintro x w2 ⟨rfl, hbk⟩
  replace hT := hT.trans (hbk.mono hT.size)
  replace QX := heapAt hbk QX
  replace QY := heapAt hbk QY
  replace VX := VX.below hbk
  replace VY := VY.below hbk
  clear hbk
  obtain ⟨QX0, QX1, _, _⟩ := pair_cells QX
  obtain ⟨QY0, QY1, _, _⟩ := pair_cells QY
  go_wp2_with fail
  refine (few_coo2 A B A2 B2 n c m e n2 c2 m2 e2 xs xs2 es fs _ VX VY true HFW).mono ?_
  rintro x w3 ⟨rfl, hbk⟩
  clear QX0 QX1 QY0 QY1
  replace hT := hT.trans (hbk.mono hT.size)
  replace QX := heapAt hbk QX
  replace QY := heapAt hbk QY
  replace VX := VX.below hbk
  replace VY := VY.below hbk
  clear hbk
  obtain ⟨QX0, QX1, _, _⟩ := pair_cells QX
  go_wp2_with fail
  refine (cooCheck_any A B n c m e xs es _ VX.1 (by omega) VX.2 (by omega)).mono ?_
  rintro x w4 ⟨hxq, hbk⟩
  clear QX0 QX1
  replace hT := hT.trans (hbk.mono hT.size)
  replace QX := heapAt hbk QX
  replace QY := heapAt hbk QY
  replace VX := VX.below hbk
  replace VY := VY.below hbk
  clear hbk
  rw [HE.out] at hxq
  subst hxq
  obtain ⟨QX0, QX1, _, _⟩ := pair_cells QX
  obtain ⟨QY0, QY1, _, _⟩ := pair_cells QY
  obtain ⟨_, _, yf0, yf1⟩ := pair_cells QY
  go_upto_region 5 with fail
  clear QX0 QX1 QY0 QY1
  have hT2 := hT.setCell (p := ⟨w.heap.size + 1, 0, none⟩) (Nat.le_succ _) (.slice A n c)
  have QY2 := set_fst w4 (w.heap.size + 1) _ _ (.slice A n c) _ QY
  have QX2 := (Below.heap_setCell w4 ⟨w.heap.size + 1, 0, none⟩ (.slice A n c) w.heap.size (by simp)).trans QX
  obtain ⟨w5, hw⟩ : ∃ W, w4.setCell ⟨w.heap.size + 1, 0, none⟩ (.slice A n c) = W := ⟨_, rfl⟩
  rw [hw] at hT2 QY2 QX2 ⊢
  clear hw hT QX QY VX VY yf0 yf1
  have hT := hT2
  have QX := QX2
  have QY := QY2
  clear hT2 QX2 QY2
  have VX := HX0.out.below hT
  have VY : CooV w5 A n B2 m2 xs fs := ⟨VX.1, (HY0.out.below hT).2⟩
  obtain ⟨QX0, QX1, _, _⟩ := pair_cells QX
  go_wp2_with fail
  refine (denV_f A B n c m e xs es _ VX (by omega) (by omega) Ea HEA).mono ?_
  rintro x w6 ⟨A3, n3, c3, A4, m4, c4, rfl, DF1, hbk⟩
  clear QX0 QX1
  replace hT := hT.trans (hbk.mono hT.size)
  replace QX := heapAt hbk QX
  replace QY := heapAt hbk QY
  replace VX := VX.below hbk
  replace VY := VY.below hbk
  clear hbk
  have hal := (Below.refl w6.heap.size w6).alloc (Nat.le_refl _) (.cells #[.slice A3 n3 c3, .slice A4 m4 c4] 41)
  have QD := heap_alloc_new w6 (.cells #[.slice A3 n3 c3, .slice A4 m4 c4] 41)
  obtain ⟨w7, hw⟩ : ∃ W, w6.alloc (.cells #[.slice A3 n3 c3, .slice A4 m4 c4] 41) = W := ⟨_, rfl⟩
  rw [hw] at hal QD
  replace hT := hT.trans (hal.mono hT.size)
  replace QX := heapAt hal QX
  replace QY := heapAt hal QY
  replace VX := VX.below hal
  replace VY := VY.below hal
  replace DF1 := DF1.below hal
  have HW := Lib.hid hw
  clear hal hw
  go_upto_region 6 with fail
  rw [HW.out]
  clear HW
  obtain ⟨QY0, QY1, _, _⟩ := pair_cells QY
  go_wp2_with fail
  refine (denV_f A B2 n c m2 e2 xs fs _ VY (by omega) (by omega) Eb HEB).mono ?_
  rintro x w8 ⟨A5, n5, c5, A6, m6, c6, rfl, DF2, hbk⟩
  clear QY0 QY1
  replace hT := hT.trans (hbk.mono hT.size)
  replace QX := heapAt hbk QX
  replace QY := heapAt hbk QY
  replace QD := heapAt hbk QD
  replace VX := VX.below hbk
  replace VY := VY.below hbk
  replace DF1 := DF1.below hbk
  clear hbk
  have hal := (Below.refl w8.heap.size w8).alloc (Nat.le_refl _) (.cells #[.slice A5 n5 c5, .slice A6 m6 c6] 41)
  have QE := heap_alloc_new w8 (.cells #[.slice A5 n5 c5, .slice A6 m6 c6] 41)
  obtain ⟨w9, hw⟩ : ∃ W, w8.alloc (.cells #[.slice A5 n5 c5, .slice A6 m6 c6] 41) = W := ⟨_, rfl⟩
  rw [hw] at hal QE
  replace hT := hT.trans (hal.mono hT.size)
  replace QX := heapAt hal QX
  replace QY := heapAt hal QY
  replace QD := heapAt hal QD
  replace VX := VX.below hal
  replace VY := VY.below hal
  replace DF1 := DF1.below hal
  replace DF2 := DF2.below hal
  have HW := Lib.hid hw
  clear hal hw
  go_upto_region 7 with fail
  rw [HW.out]
  clear HW
  go_cut [10] (fun s wx => ∃ gb A7 c7, s = .pointer (some ⟨gb, 0, none⟩) ∧ AllCut w9 wx gb (.slice A n c) A7 c7 (es ++ fs))
  case first =>
    as_aux_lemma =>
      obtain ⟨QX0, QX1, _, _⟩ := pair_cells QX
      obtain ⟨QY0, QY1, _, _⟩ := pair_cells QY
      have gx := lt_of_heap QX
      have gy := lt_of_heap QY
      have hz1 := (Below.refl w9.heap.size w9)
      have AP1 := fun W (hb : Below w9.heap.size w9 W) => (VX.below hb).2
      have HEL : Hid (es.length = m) := VX.2.1
      have P0 := fun o => cellPast o QX0
      have P1 := fun o => cellPast o QX1
      have P2 := fun o => cellPast o QY1
      have AP2 := fun W (hb : Below w9.heap.size w9 W) => (VY.below hb).2
      go_region_law (first | (refine step_appendEnts rfl (.const (.slice none 0 0)) (.tmp 58) rfl w9.heap.size none B 0 m e _ 0 m [] es rfl rfl (OwnE.nil_ _ _) rfl (Nat.zero_add _) (AP1 _ (by first | exact hz1 | exact hz1.drew | exact hz1.alloc (Nat.le_refl _) _ | exact (hz1.alloc (Nat.le_refl _) _).drew)) (by omega) (by first | exact Nat.le_refl _ | (simp)) ?_; intro B7 c7 wp HO1 HG1; have HB1 := below_of_none HG1; have HC1 : Below w9.heap.size w9 wp := (by first | exact hz1.trans HB1 | exact hz1.drew.trans HB1 | exact (hz1.alloc (Nat.le_refl _) _).trans (HB1.mono (by simp)) | exact (hz1.alloc (Nat.le_refl _) _).drew.trans (HB1.mono (by simp))); have R0 := (HC1.cell (p := ⟨w.heap.size, 0, none⟩) gx).trans QX0; have R1 := (HC1.cell (p := ⟨w.heap.size, 1, none⟩) gx).trans QX1; have U0 := fun o => cellPast o R0; have U1 := fun o => cellPast o R1; have R2 := (HC1.cell (p := ⟨w.heap.size + 1, 1, none⟩) gy).trans QY1; have U2 := fun o => cellPast o R2; first | (have zp := (HB1.block w9.heap.size (by simp)).trans (heap_alloc_new w9 (.cells #[.slice none 0 0, .slice none 0 0] 25)); obtain ⟨l0, l1, l2, l3⟩ := pair_cells zp) | skip) | (refine step_appendEnts rfl (.tmp 59) (.tmp 61) rfl w9.heap.size B7 B2 c7 m2 e2 _ m (m + m2) ([] ++ es) fs rfl rfl (by first | exact HO1 | exact World.ownsRow.alloc HO1 _) HEL.out rfl (AP2 _ (by first | exact HC1 | exact HC1.drew | exact HC1.alloc HC1.size _ | exact (HC1.alloc HC1.size _).drew)) (by omega) (by first | exact HC1.size | (have := HC1.size; simp; omega)) ?_; intro B8 c8 wq HO2 HG2; have HC2 : Below w9.heap.size w9 wq := (by first | exact below_appE HC1 HG2 HO1 HEL.out HC1.size | exact below_appE (HC1.alloc HC1.size _) HG2 (World.ownsRow.alloc HO1 _) HEL.out (by have := HC1.size; simp; omega)); have S0 := (HC2.cell (p := ⟨w.heap.size, 0, none⟩) gx).trans QX0; have S1 := (HC2.cell (p := ⟨w.heap.size, 1, none⟩) gx).trans QX1; have V0 := fun o => cellPast o S0; have V1 := fun o => cellPast o S1; first | (have zq := box_kept2 zp HO1 HEL.out HG2; obtain ⟨t0, t1, t2, t3⟩ := pair_cells zq) | (have zq := box_kept2 (heap_alloc_new wp (.cells #[.slice none 0 0, .slice none 0 0] 25)) (World.ownsRow.alloc HO1 _) HEL.out HG2; obtain ⟨t0, t1, t2, t3⟩ := pair_cells zq) | skip))
      all_goals go_wp2_with fail
      all_goals go_meet
      all_goals first | exact ⟨_, _, _, rfl, all_new HO2 HLL.out HC2⟩ | exact ⟨_, _, _, rfl, all_set zq (Nat.le_refl _) HO2 HLL.out HC2⟩ | exact ⟨_, _, _, rfl, all_set zq HC1.size HO2 HLL.out HC2⟩
  case rest =>
    obtain ⟨gbA7, A7, c7, rfl, hcut⟩ := hcut
    have hbk := hcut.bel
    have QGA7 := hcut.box
    have HOA7 := Lib.hid hcut.own
    have gnA7 := hcut.new
    clear hcut
    obtain ⟨wg, rfl⟩ : ∃ W : World, W = wc := ⟨_, rfl⟩
    replace hT := hT.trans (hbk.mono hT.size)
    replace QX := heapAt hbk QX
    replace QY := heapAt hbk QY
    replace QD := heapAt hbk QD
    replace QE := heapAt hbk QE
    replace VX := VX.below hbk
    replace VY := VY.below hbk
    replace DF1 := DF1.below hbk
    replace DF2 := DF2.below hbk
    clear hbk
    have VG : CooV wg A n A7 (m + m2) xs (es ++ fs) := ⟨VX.1, ownE_ents2 HOA7.out HLL.out fun x hx => by
      rcases List.mem_append.1 hx with h | h
      · exact VX.2.2.1 x h
      · exact VY.2.2.1 x h⟩
    rw [HLL.out] at QGA7
    clear HOA7 gnA7
    by_cases hab : Ea = 0 ∧ Eb = 0
    · obtain ⟨rfl, rfl⟩ := hab
      obtain ⟨e1, VD1, hM1, hck1⟩ := DF1 rfl
      obtain ⟨e2, VD2, hM2, hck2⟩ := DF2 rfl
      have e1' := e1.symm
      have e2' := e2.symm
      subst e1'
      subst e2'
      have e3 : m4 = m6 := by have h1 := (check_parts hck1).2.2; have h2 := (check_parts hck2).2.2; omega
      subst e3
      have HCK1 := Lib.hid hck1
      have HCA : Hid (cooF xs (es ++ fs) = 0 ∧ (laidF xs).2 = 0) := by
        obtain ⟨h1, h2⟩ := denE_zero HEA.out
        obtain ⟨h3, _⟩ := denE_zero HEB.out
        obtain ⟨p1, p2, p3⟩ := cooF_parts h1
        obtain ⟨_, _, p4⟩ := cooF_parts h3
        exact ⟨cooF_mk p1 (by rw [HLL.out]; omega) (fun x hx => by rcases List.mem_append.1 hx with h | h; exact p3 x h; exact p4 x h), h2⟩
      have HDA : Hid (denseK xs ((es ++ fs).map keyE) = addL (denseK xs (es.map keyE)) (denseK xs (fs.map keyE))) := by unfold Hid; rw [List.map_append, denseK_append]
      clear e1 e2 hck1 hck2 DF1 DF2
      obtain ⟨QGA70, QGA71, _, _⟩ := pair_cells QGA7
      go_wp2_with fail
      refine (denV_ok A A7 n c (m + m2) c7 xs (es ++ fs) _ VG (by omega) (denE_of HCA.out.1 HCA.out.2)).mono ?_
      rintro x w21 ⟨A9, c9, A10, M3, c10, rfl, VD3, hM3, hck3, hbk⟩
      clear QGA70 QGA71
      replace hT := hT.trans (hbk.mono hT.size)
      replace QX := heapAt hbk QX
      replace QY := heapAt hbk QY
      replace QD := heapAt hbk QD
      replace QE := heapAt hbk QE
      replace QGA7 := heapAt hbk QGA7
      replace VX := VX.below hbk
      replace VY := VY.below hbk
      replace VG := VG.below hbk
      replace VD1 := VD1.below hbk
      replace VD2 := VD2.below hbk
      clear hbk
      have HCK3 := Lib.hid hck3
      clear hck3
      have hal := (Below.refl w21.heap.size w21).alloc (Nat.le_refl _) (.cells #[.slice A9 n c9, .slice A10 M3 c10] 41)
      have QF := heap_alloc_new w21 (.cells #[.slice A9 n c9, .slice A10 M3 c10] 41)
      obtain ⟨w22, hw⟩ : ∃ W, w21.alloc (.cells #[.slice A9 n c9, .slice A10 M3 c10] 41) = W := ⟨_, rfl⟩
      rw [hw] at hal QF
      replace hT := hT.trans (hal.mono hT.size)
      replace QX := heapAt hal QX
      replace QY := heapAt hal QY
      replace QD := heapAt hal QD
      replace QE := heapAt hal QE
      replace QGA7 := heapAt hal QGA7
      replace VX := VX.below hal
      replace VY := VY.below hal
      replace VG := VG.below hal
      replace VD1 := VD1.below hal
      replace VD2 := VD2.below hal
      replace VD3 := VD3.below hal
      have HW := Lib.hid hw
      clear hal hw
      go_upto_region 10 with fail
      rw [HW.out]
      clear HW
      have HADD := add_ok A3 A4 A5 A6 n c3 m4 c4 n c5 c6 xs (denseK xs (es.map keyE)) (denseK xs (fs.map keyE)) _ VD1.1 VD1.2 VD2.1 VD2.2 (by omega) (by omega) HCK1.out
      obtain ⟨QD0, QD1, _, _⟩ := pair_cells QD
      obtain ⟨QE0, QE1, _, _⟩ := pair_cells QE
      go_wp2_with fail
      refine HADD.mono ?_
      rintro x w23 ⟨A11, c11, A12, c12, rfl, hs1, hs2, hbk⟩
      clear QD0 QD1 QE0 QE1
      have hl1 := VD1.1.1
      have hl2 := VD1.2.1
      have hl3 := VD2.2.1
      replace hT := hT.trans (hbk.mono hT.size)
      replace QX := heapAt hbk QX
      replace QY := heapAt hbk QY
      replace QD := heapAt hbk QD
      replace QE := heapAt hbk QE
      replace QGA7 := heapAt hbk QGA7
      replace QF := heapAt hbk QF
      replace VX := VX.below hbk
      replace VY := VY.below hbk
      replace VG := VG.below hbk
      replace VD1 := VD1.below hbk
      replace VD2 := VD2.below hbk
      replace VD3 := VD3.below hbk
      clear hbk HADD
      have VD4 : DenV w23 A11 n A12 m4 xs (addL (denseK xs (es.map keyE)) (denseK xs (fs.map keyE))) := by
        refine ⟨by have := hs1.ints; rwa [hl1] at this, ?_⟩
        have h2 := hs2.ints
        have h3 : (List.zipWith (fun x y => wrap64 (x + y)) (denseK xs (es.map keyE)) (denseK xs (fs.map keyE))).length = m4 := addL_length hl2 hl3
        rw [h3] at h2
        exact h2
      clear hs1 hs2 hl1 hl2 hl3
      have hal := (Below.refl w23.heap.size w23).alloc (Nat.le_refl _) (.cells #[.slice A11 n c11, .slice A12 m4 c12] 41)
      have QH := heap_alloc_new w23 (.cells #[.slice A11 n c11, .slice A12 m4 c12] 41)
      obtain ⟨w24, hw⟩ : ∃ W, w23.alloc (.cells #[.slice A11 n c11, .slice A12 m4 c12] 41) = W := ⟨_, rfl⟩
      rw [hw] at hal QH
      replace hT := hT.trans (hal.mono hT.size)
      replace QX := heapAt hal QX
      replace QY := heapAt hal QY
      replace QD := heapAt hal QD
      replace QE := heapAt hal QE
      replace QGA7 := heapAt hal QGA7
      replace QF := heapAt hal QF
      replace VX := VX.below hal
      replace VY := VY.below hal
      replace VG := VG.below hal
      replace VD1 := VD1.below hal
      replace VD2 := VD2.below hal
      replace VD3 := VD3.below hal
      replace VD4 := VD4.below hal
      have HW := Lib.hid hw
      clear hal hw
      go_upto_region 11 with fail
      rw [HW.out]
      clear HW
      have HSM := same_any A9 A10 A11 A12 n c9 M3 c10 n c11 m4 c12 xs (denseK xs ((es ++ fs).map keyE)) xs (addL (denseK xs (es.map keyE)) (denseK xs (fs.map keyE))) _ VD3.1 VD3.2 VD4.1 VD4.2 (by omega) (by omega) (by omega) (by omega) (by omega)
      rw [HDA.out, sameF_t HCK3.out] at HSM
      obtain ⟨QF0, QF1, _, _⟩ := pair_cells QF
      obtain ⟨QH0, QH1, _, _⟩ := pair_cells QH
      go_wp2_with fail
      refine HSM.mono ?_
      rintro x w25 ⟨rfl, hbk⟩
      clear QF0 QF1 QH0 QH1
      replace hT := hT.trans (hbk.mono hT.size)
      replace QX := heapAt hbk QX
      replace QY := heapAt hbk QY
      replace QD := heapAt hbk QD
      replace QE := heapAt hbk QE
      replace QGA7 := heapAt hbk QGA7
      replace QF := heapAt hbk QF
      replace QH := heapAt hbk QH
      replace VX := VX.below hbk
      replace VY := VY.below hbk
      replace VG := VG.below hbk
      replace VD1 := VD1.below hbk
      replace VD2 := VD2.below hbk
      replace VD3 := VD3.below hbk
      replace VD4 := VD4.below hbk
      clear hbk HSM VD1 VD2 VD3 VD4
      go_upto_region 13 with fail
      have hwx : w.heap.size < w25.heap.size := lt_of_heap QX
      go_cut [15] (fun s wx => ∃ gb A7 c7, s = .pointer (some ⟨gb, 0, none⟩) ∧ AllCut w25 wx gb (.slice A n c) A7 c7 es)
      case first =>
        as_aux_lemma =>
          obtain ⟨QX0, QX1, _, _⟩ := pair_cells QX
          obtain ⟨QY0, QY1, _, _⟩ := pair_cells QY
          have gx := lt_of_heap QX
          have gy := lt_of_heap QY
          have hz1 := (Below.refl w25.heap.size w25)
          have AP1 := fun W (hb : Below w25.heap.size w25 W) => (VX.below hb).2
          have HEL : Hid (es.length = m) := VX.2.1
          have P0 := fun o => cellPast o QX0
          have P1 := fun o => cellPast o QX1
          have P2 := fun o => cellPast o QY1
          go_region_law (first | (refine step_appendEnts rfl (.const (.slice none 0 0)) (.tmp 96) rfl w25.heap.size none B 0 m e _ 0 m [] es rfl rfl (OwnE.nil_ _ _) rfl (Nat.zero_add _) (AP1 _ (by first | exact hz1 | exact hz1.drew | exact hz1.alloc (Nat.le_refl _) _ | exact (hz1.alloc (Nat.le_refl _) _).drew)) (by omega) (by first | exact Nat.le_refl _ | (simp)) ?_; intro B7 c7 wp HO1 HG1; have HB1 := below_of_none HG1; have HC1 : Below w25.heap.size w25 wp := (by first | exact hz1.trans HB1 | exact hz1.drew.trans HB1 | exact (hz1.alloc (Nat.le_refl _) _).trans (HB1.mono (by simp)) | exact (hz1.alloc (Nat.le_refl _) _).drew.trans (HB1.mono (by simp))); have R0 := (HC1.cell (p := ⟨w.heap.size, 0, none⟩) gx).trans QX0; have R1 := (HC1.cell (p := ⟨w.heap.size, 1, none⟩) gx).trans QX1; have U0 := fun o => cellPast o R0; have U1 := fun o => cellPast o R1; first | (have zp := (HB1.block w25.heap.size (by simp)).trans (heap_alloc_new w25 (.cells #[.slice none 0 0, .slice none 0 0] 25)); obtain ⟨l0, l1, l2, l3⟩ := pair_cells zp) | skip))
          all_goals go_wp2_with fail
          all_goals go_meet
          all_goals first | exact ⟨_, _, _, rfl, all_new HO1 HEL.out HC1⟩ | exact ⟨_, _, _, rfl, all_set zp (Nat.le_refl _) HO1 HEL.out HC1⟩ | exact ⟨_, _, _, rfl, all_set zp HC1.size HO1 HEL.out HC1⟩
      case rest =>
        obtain ⟨gbA13, A13, c13, rfl, hcut⟩ := hcut
        have hbk := hcut.bel
        have QGA13 := hcut.box
        have HOA13 := Lib.hid hcut.own
        have gnA13 := hcut.new
        clear hcut
        obtain ⟨wh, rfl⟩ : ∃ W : World, W = wc := ⟨_, rfl⟩
        replace hT := hT.trans (hbk.mono hT.size)
        replace QX := heapAt hbk QX
        replace QY := heapAt hbk QY
        replace QD := heapAt hbk QD
        replace QE := heapAt hbk QE
        replace QGA7 := heapAt hbk QGA7
        replace QF := heapAt hbk QF
        replace QH := heapAt hbk QH
        replace VX := VX.below hbk
        replace VY := VY.below hbk
        replace VG := VG.below hbk
        clear hbk
        have hszh : w25.heap.size ≤ wh.heap.size := by have := lt_of_heap QGA13; have := gnA13; omega
        rw [HLE.out] at QGA13
        have HQN := Lib.hid QGA13
        have HQX := Lib.hid QX
        have HTT := Lib.hid hT
        obtain ⟨QX0, QX1, _, _⟩ := pair_cells QX
        go_wp2_with fail
        clear QX0 QX1
        go_loopw [102] (fun i wr => ∃ (k : Nat) (A15 : Option Addr) (c15 : Nat), k ≤ m ∧ i = .int .i64 k ∧ Hid (wr.heap[gbA13]? = some (.cells #[.slice A n c, .slice A15 (m + k) c15] 25 (0, 0))) ∧ Hid (OwnE wr w25.heap.size A15 c15 (es ++ (es.take k).map negE)) ∧ Hid (Below w25.heap.size wh wr)) (fun i _ => m - (intOf i).toNat)
        case atStart => exact ⟨0, A13, c13, Nat.zero_le _, rfl, by unfold Hid; rw [Nat.add_zero]; exact HQN.out, by unfold Hid; simpa using HOA13.out, Lib.hid (Below.refl _ _)⟩
        case round =>
          clear HQN HOA13 QGA13
          obtain ⟨k, A15, c15, hk, rfl, HBX, HOE, HB⟩ := hrel
          have hszr := HB.out.size
          have hbw : Below w.heap.size w wr := HTT.out.trans (HB.out.mono (Nat.le_of_lt hwx))
          have qx := (HB.out.block w.heap.size hwx).trans HQX.out
          by_cases hlt : k < m
          · obtain ⟨b, off, y, hyA, hbb, HY, hc0, hc1, iy, hy1, hy2, hy3, hy4⟩ := (HX0.out.below hbw).2.at_ hlt
            have HTK : Hid (es ++ (es.take (k + 1)).map negE = es ++ (es.take k).map negE ++ [negE y]) := by unfold Hid; rw [take_succ_of HY.out, List.map_append, List.append_assoc]; rfl
            obtain rfl := hyA
            have hc2 : wr.cell? ⟨b, off + k * 2, none⟩ = some (.slice y.A y.n y.c) := by rw [Nat.mul_comm k 2]; exact hc0
            have hc3 : wr.cell? ⟨b, off + k * 2 + 1, none⟩ = some (.int .i64 y.v) := by rw [Nat.mul_comm k 2]; exact hc1
            have hkm : (k : Int) < (m : Int) := by omega
            have hk0 : (0 : Int) ≤ (k : Int) := by omega
            have hal := (Below.refl wr.heap.size wr).alloc (Nat.le_refl _) (.cells #[.slice y.A y.n y.c, .int .i64 y.v] 37)
            have hbx := heap_alloc_new wr (.cells #[.slice y.A y.n y.c, .int .i64 y.v] 37)
            have HOT : Hid (OwnE (wr.alloc (.cells #[.slice y.A y.n y.c, .int .i64 y.v] 37)) w25.heap.size A15 c15 (es ++ (es.take k).map negE)) := World.ownsRow.alloc HOE.out _
            have HBT : Hid ((wr.alloc (.cells #[.slice y.A y.n y.c, .int .i64 y.v] 37)).heap[gbA13]? = some (.cells #[.slice A n c, .slice A15 (m + k) c15] 25 (0, 0))) := heapPast _ HBX.out
            have HBL : Hid (Below w25.heap.size wh (wr.alloc (.cells #[.slice y.A y.n y.c, .int .i64 y.v] 37))) := HB.out.trans (hal.mono (by omega))
            have hlk : (es ++ (es.take k).map negE).length = m + k := by rw [List.length_append, List.length_map, List.length_take, HLE.out]; omega
            have HLK := Lib.hid hlk
            obtain ⟨wt, hwt⟩ : ∃ W, wr.alloc (.cells #[.slice y.A y.n y.c, .int .i64 y.v] 37) = W := ⟨_, rfl⟩
            rw [hwt] at hbx HOT HBT HBL hal
            have HWT := Lib.hid hwt
            have hszt : wr.heap.size ≤ wt.heap.size := hal.size
            obtain ⟨x0, x1, _, _⟩ := pair_cells qx
            clear hwt hlk hal hc0 hc1 iy hbw
            go_upto_region 17 with fail
            rw [HWT.out]
            clear x0 x1 hc2 hc3 qx HWT
            obtain ⟨t0, t1, _, _⟩ := pair_cells hbx
            obtain ⟨u0, u1, uf0, uf1⟩ := pair_cells HBT.out
            go_wp2_with (at_builtin; refine wpList_appendEntG rfl (.tmp 107) (.tmp 114) rfl w25.heap.size A15 c15 (m + k) (m + k + 1) (negE y) (es ++ (es.take k).map negE) rfl rfl HOT.out HLK.out rfl (by omega) (by omega) ?_; intro A16 c16 w5 HO5 hg5; have HO5' := Lib.hid HO5; clear HO5; have HG5 : Hid (wt.grownBy w5 (Value.slice A15 (es ++ (es.take k).map negE).length c15).ownBlock) := (by unfold Hid; rw [HLK.out]; exact hg5); clear hg5; have rbx := box_keptE HBT.out (by decide) HOT.out HG5.out; obtain ⟨s0, s1, sf0, sf1⟩ := pair_cells rbx; have HRB := Lib.hid rbx; clear rbx)
            have hsn := set_snd w5 gbA13 _ _ (.slice A16 (m + k + 1 : Nat) c16) _ HRB.out
            have HOWN6 : Hid (OwnE (w5.setCell ⟨gbA13, 1, none⟩ (.slice A16 (m + k + 1 : Nat) c16)) w25.heap.size A16 c16 (es ++ (es.take (k + 1)).map negE)) := by
              unfold Hid
              rw [HTK.out]
              exact World.ownsRow.kept HO5'.out hsn.2 (rows_ne HO5'.out HRB.out (by decide))
            have HBF6 : Hid (Below w25.heap.size wh (w5.setCell ⟨gbA13, 1, none⟩ (.slice A16 (m + k + 1 : Nat) c16))) := by
              have q5 : Below w25.heap.size wh w5 := HBL.out.grown HG5.out (by omega) (fun k hk => (World.ownsRow.lt HOT.out k hk).1)
              exact q5.setCell (p := ⟨gbA13, 1, none⟩) gnA13 _
            have HHP6 := Lib.hid hsn.1
            clear hsn
            go_roundw
            case rel => exact ⟨k + 1, A16, c16, by omega, by go_num, HHP6, HOWN6, HBF6⟩
            case measure => simp [intOf]; omega
          · have hkm : k = m := by omega
            have HTF : Hid (es ++ (es.take k).map negE = es ++ es.map negE) := by unfold Hid; rw [List.take_of_length_le (by rw [HLE.out]; omega)]
            have dz : decide ((k : Int) < (m : Int)) = false := by simp; omega
            have dz2 : decide (k < m) = false := by simp; omega
            have VXR := HX0.out.below hbw
            have VN : CooV wr A n A15 (m + k) xs (es ++ es.map negE) := ⟨VXR.1, by
              have q := HOE.out
              rw [HTF.out] at q
              refine ownE_ents2 q (by rw [List.length_append, List.length_map, HLE.out, hkm]) fun x hx => ?_
              rcases List.mem_append.1 hx with h | h
              · exact VXR.2.2.1 x h
              · obtain ⟨y, hy, rfl⟩ := List.mem_map.1 h
                have q2 := VXR.2.2.1 y hy
                exact ⟨q2.1, q2.2.1, q2.2.2.1, wrap64_bounds _⟩⟩
            have HNC : Hid (cooF xs (es ++ es.map negE) = 0) := by
              obtain ⟨p1, p2, p3⟩ := cooF_parts HE.out
              refine cooF_mk p1 (by rw [List.length_append, List.length_map, HLE.out]; omega) fun x hx => ?_
              rcases List.mem_append.1 hx with h | h
              · exact p3 x h
              · obtain ⟨y, hy, rfl⟩ := List.mem_map.1 h
                exact p3 y hy
            have HPL := plainV_ok A A15 n c (m + k) c15 xs (es ++ es.map negE) wr VN HNC.out
            rw [List.map_append, negE_key, none_left HKO.out] at HPL
            have hT2 := hbw
            obtain ⟨n0, n1, _, _⟩ := pair_cells HBX.out
            clear hkm hlt VXR VN qx
            go_wp2_with fail
            refine HPL.mono ?_
            rintro x w8 ⟨A17, c17, A18, m18, c18, Ps, rfl, VP, HPK, _, _, hbk⟩
            clear n0 n1
            have hm18 : m18 = 0 := by
              have h1 := congrArg List.length HPK.out
              rw [List.length_map, VP.2.1] at h1
              exact h1
            subst hm18
            have hT3 := hT2.trans (hbk.mono hT2.size)
            have hal := (Below.refl w8.heap.size w8).alloc (Nat.le_refl _) (.cells #[.slice A17 n c17, .slice A18 0 c18] 25)
            have QP := heap_alloc_new w8 (.cells #[.slice A17 n c17, .slice A18 0 c18] 25)
            have hT4 := hT3.trans (hal.mono hT3.size)
            obtain ⟨w9, hw⟩ : ∃ W, w8.alloc (.cells #[.slice A17 n c17, .slice A18 0 c18] 25) = W := ⟨_, rfl⟩
            rw [hw] at QP hT4
            have HW := Lib.hid hw
            clear hw hal hbk hT2 hT3 HPL
            go_upto_region 20 with fail
            rw [HW.out]
            obtain ⟨p0, p1, _, _⟩ := pair_cells QP
            clear HW QP
            go_wp2_with fail
            go_ret
            exact ⟨rfl, hT4⟩
    · have d0 : (Ea == 0) = false ∨ (Ea == 0) = true ∧ (Eb == 0) = false := by
        by_cases q : Ea = 0
        · exact .inr ⟨by simpa using q, by simp; exact fun q2 => hab ⟨q, q2⟩⟩
        · exact .inl (by simpa using q)
      clear hab DF1 DF2
      rcases d0 with d5 | ⟨d5, d6⟩
      all_goals
        go_upto_region 13 with fail
        have hwx : w.heap.size < wg.heap.size := lt_of_heap QX
        go_cut [15] (fun s wx => ∃ gb A7 c7, s = .pointer (some ⟨gb, 0, none⟩) ∧ AllCut wg wx gb (.slice A n c) A7 c7 es)
        case first =>
          as_aux_lemma =>
            obtain ⟨QX0, QX1, _, _⟩ := pair_cells QX
            obtain ⟨QY0, QY1, _, _⟩ := pair_cells QY
            have gx := lt_of_heap QX
            have gy := lt_of_heap QY
            have hz1 := (Below.refl wg.heap.size wg)
            have AP1 := fun W (hb : Below wg.heap.size wg W) => (VX.below hb).2
            have HEL : Hid (es.length = m) := VX.2.1
            have P0 := fun o => cellPast o QX0
            have P1 := fun o => cellPast o QX1
            have P2 := fun o => cellPast o QY1
            go_region_law (first | (refine step_appendEnts rfl (.const (.slice none 0 0)) (.tmp 96) rfl wg.heap.size none B 0 m e _ 0 m [] es rfl rfl (OwnE.nil_ _ _) rfl (Nat.zero_add _) (AP1 _ (by first | exact hz1 | exact hz1.drew | exact hz1.alloc (Nat.le_refl _) _ | exact (hz1.alloc (Nat.le_refl _) _).drew)) (by omega) (by first | exact Nat.le_refl _ | (simp)) ?_; intro B7 c7 wp HO1 HG1; have HB1 := below_of_none HG1; have HC1 : Below wg.heap.size wg wp := (by first | exact hz1.trans HB1 | exact hz1.drew.trans HB1 | exact (hz1.alloc (Nat.le_refl _) _).trans (HB1.mono (by simp)) | exact (hz1.alloc (Nat.le_refl _) _).drew.trans (HB1.mono (by simp))); have R0 := (HC1.cell (p := ⟨w.heap.size, 0, none⟩) gx).trans QX0; have R1 := (HC1.cell (p := ⟨w.heap.size, 1, none⟩) gx).trans QX1; have U0 := fun o => cellPast o R0; have U1 := fun o => cellPast o R1; first | (have zp := (HB1.block wg.heap.size (by simp)).trans (heap_alloc_new wg (.cells #[.slice none 0 0, .slice none 0 0] 25)); obtain ⟨l0, l1, l2, l3⟩ := pair_cells zp) | skip))
            all_goals go_wp2_with fail
            all_goals go_meet
            all_goals first | exact ⟨_, _, _, rfl, all_new HO1 HEL.out HC1⟩ | exact ⟨_, _, _, rfl, all_set zp (Nat.le_refl _) HO1 HEL.out HC1⟩ | exact ⟨_, _, _, rfl, all_set zp HC1.size HO1 HEL.out HC1⟩
        case rest =>
          obtain ⟨gbA13, A13, c13, rfl, hcut⟩ := hcut
          have hbk := hcut.bel
          have QGA13 := hcut.box
          have HOA13 := Lib.hid hcut.own
          have gnA13 := hcut.new
          clear hcut
          obtain ⟨wh, rfl⟩ : ∃ W : World, W = wc := ⟨_, rfl⟩
          replace hT := hT.trans (hbk.mono hT.size)
          replace QX := heapAt hbk QX
          replace QY := heapAt hbk QY
          replace QD := heapAt hbk QD
          replace QE := heapAt hbk QE
          replace QGA7 := heapAt hbk QGA7
          replace VX := VX.below hbk
          replace VY := VY.below hbk
          replace VG := VG.below hbk
          clear hbk
          have hszh : wg.heap.size ≤ wh.heap.size := by have := lt_of_heap QGA13; have := gnA13; omega
          rw [HLE.out] at QGA13
          have HQN := Lib.hid QGA13
          have HQX := Lib.hid QX
          have HTT := Lib.hid hT
          obtain ⟨QX0, QX1, _, _⟩ := pair_cells QX
          go_wp2_with fail
          clear QX0 QX1
          go_loopw [102] (fun i wr => ∃ (k : Nat) (A15 : Option Addr) (c15 : Nat), k ≤ m ∧ i = .int .i64 k ∧ Hid (wr.heap[gbA13]? = some (.cells #[.slice A n c, .slice A15 (m + k) c15] 25 (0, 0))) ∧ Hid (OwnE wr wg.heap.size A15 c15 (es ++ (es.take k).map negE)) ∧ Hid (Below wg.heap.size wh wr)) (fun i _ => m - (intOf i).toNat)
          case atStart => exact ⟨0, A13, c13, Nat.zero_le _, rfl, by unfold Hid; rw [Nat.add_zero]; exact HQN.out, by unfold Hid; simpa using HOA13.out, Lib.hid (Below.refl _ _)⟩
          case round =>
            clear HQN HOA13 QGA13
            obtain ⟨k, A15, c15, hk, rfl, HBX, HOE, HB⟩ := hrel
            have hszr := HB.out.size
            have hbw : Below w.heap.size w wr := HTT.out.trans (HB.out.mono (Nat.le_of_lt hwx))
            have qx := (HB.out.block w.heap.size hwx).trans HQX.out
            by_cases hlt : k < m
            · obtain ⟨b, off, y, hyA, hbb, HY, hc0, hc1, iy, hy1, hy2, hy3, hy4⟩ := (HX0.out.below hbw).2.at_ hlt
              have HTK : Hid (es ++ (es.take (k + 1)).map negE = es ++ (es.take k).map negE ++ [negE y]) := by unfold Hid; rw [take_succ_of HY.out, List.map_append, List.append_assoc]; rfl
              obtain rfl := hyA
              have hc2 : wr.cell? ⟨b, off + k * 2, none⟩ = some (.slice y.A y.n y.c) := by rw [Nat.mul_comm k 2]; exact hc0
              have hc3 : wr.cell? ⟨b, off + k * 2 + 1, none⟩ = some (.int .i64 y.v) := by rw [Nat.mul_comm k 2]; exact hc1
              have hkm : (k : Int) < (m : Int) := by omega
              have hk0 : (0 : Int) ≤ (k : Int) := by omega
              have hal := (Below.refl wr.heap.size wr).alloc (Nat.le_refl _) (.cells #[.slice y.A y.n y.c, .int .i64 y.v] 37)
              have hbx := heap_alloc_new wr (.cells #[.slice y.A y.n y.c, .int .i64 y.v] 37)
              have HOT : Hid (OwnE (wr.alloc (.cells #[.slice y.A y.n y.c, .int .i64 y.v] 37)) wg.heap.size A15 c15 (es ++ (es.take k).map negE)) := World.ownsRow.alloc HOE.out _
              have HBT : Hid ((wr.alloc (.cells #[.slice y.A y.n y.c, .int .i64 y.v] 37)).heap[gbA13]? = some (.cells #[.slice A n c, .slice A15 (m + k) c15] 25 (0, 0))) := heapPast _ HBX.out
              have HBL : Hid (Below wg.heap.size wh (wr.alloc (.cells #[.slice y.A y.n y.c, .int .i64 y.v] 37))) := HB.out.trans (hal.mono (by omega))
              have hlk : (es ++ (es.take k).map negE).length = m + k := by rw [List.length_append, List.length_map, List.length_take, HLE.out]; omega
              have HLK := Lib.hid hlk
              obtain ⟨wt, hwt⟩ : ∃ W, wr.alloc (.cells #[.slice y.A y.n y.c, .int .i64 y.v] 37) = W := ⟨_, rfl⟩
              rw [hwt] at hbx HOT HBT HBL hal
              have HWT := Lib.hid hwt
              have hszt : wr.heap.size ≤ wt.heap.size := hal.size
              obtain ⟨x0, x1, _, _⟩ := pair_cells qx
              clear hwt hlk hal hc0 hc1 iy hbw
              go_upto_region 17 with fail
              rw [HWT.out]
              clear x0 x1 hc2 hc3 qx HWT
              obtain ⟨t0, t1, _, _⟩ := pair_cells hbx
              obtain ⟨u0, u1, uf0, uf1⟩ := pair_cells HBT.out
              go_wp2_with (at_builtin; refine wpList_appendEntG rfl (.tmp 107) (.tmp 114) rfl wg.heap.size A15 c15 (m + k) (m + k + 1) (negE y) (es ++ (es.take k).map negE) rfl rfl HOT.out HLK.out rfl (by omega) (by omega) ?_; intro A16 c16 w5 HO5 hg5; have HO5' := Lib.hid HO5; clear HO5; have HG5 : Hid (wt.grownBy w5 (Value.slice A15 (es ++ (es.take k).map negE).length c15).ownBlock) := (by unfold Hid; rw [HLK.out]; exact hg5); clear hg5; have rbx := box_keptE HBT.out (by decide) HOT.out HG5.out; obtain ⟨s0, s1, sf0, sf1⟩ := pair_cells rbx; have HRB := Lib.hid rbx; clear rbx)
              have hsn := set_snd w5 gbA13 _ _ (.slice A16 (m + k + 1 : Nat) c16) _ HRB.out
              have HOWN6 : Hid (OwnE (w5.setCell ⟨gbA13, 1, none⟩ (.slice A16 (m + k + 1 : Nat) c16)) wg.heap.size A16 c16 (es ++ (es.take (k + 1)).map negE)) := by
                unfold Hid
                rw [HTK.out]
                exact World.ownsRow.kept HO5'.out hsn.2 (rows_ne HO5'.out HRB.out (by decide))
              have HBF6 : Hid (Below wg.heap.size wh (w5.setCell ⟨gbA13, 1, none⟩ (.slice A16 (m + k + 1 : Nat) c16))) := by
                have q5 : Below wg.heap.size wh w5 := HBL.out.grown HG5.out (by omega) (fun k hk => (World.ownsRow.lt HOT.out k hk).1)
                exact q5.setCell (p := ⟨gbA13, 1, none⟩) gnA13 _
              have HHP6 := Lib.hid hsn.1
              clear hsn
              go_roundw
              case rel => exact ⟨k + 1, A16, c16, by omega, by go_num, HHP6, HOWN6, HBF6⟩
              case measure => simp [intOf]; omega
            · have hkm : k = m := by omega
              have HTF : Hid (es ++ (es.take k).map negE = es ++ es.map negE) := by unfold Hid; rw [List.take_of_length_le (by rw [HLE.out]; omega)]
              have dz : decide ((k : Int) < (m : Int)) = false := by simp; omega
              have dz2 : decide (k < m) = false := by simp; omega
              have VXR := HX0.out.below hbw
              have VN : CooV wr A n A15 (m + k) xs (es ++ es.map negE) := ⟨VXR.1, by
                have q := HOE.out
                rw [HTF.out] at q
                refine ownE_ents2 q (by rw [List.length_append, List.length_map, HLE.out, hkm]) fun x hx => ?_
                rcases List.mem_append.1 hx with h | h
                · exact VXR.2.2.1 x h
                · obtain ⟨y, hy, rfl⟩ := List.mem_map.1 h
                  have q2 := VXR.2.2.1 y hy
                  exact ⟨q2.1, q2.2.1, q2.2.2.1, wrap64_bounds _⟩⟩
              have HNC : Hid (cooF xs (es ++ es.map negE) = 0) := by
                obtain ⟨p1, p2, p3⟩ := cooF_parts HE.out
                refine cooF_mk p1 (by rw [List.length_append, List.length_map, HLE.out]; omega) fun x hx => ?_
                rcases List.mem_append.1 hx with h | h
                · exact p3 x h
                · obtain ⟨y, hy, rfl⟩ := List.mem_map.1 h
                  exact p3 y hy
              have HPL := plainV_ok A A15 n c (m + k) c15 xs (es ++ es.map negE) wr VN HNC.out
              rw [List.map_append, negE_key, none_left HKO.out] at HPL
              have hT2 := hbw
              obtain ⟨n0, n1, _, _⟩ := pair_cells HBX.out
              clear hkm hlt VXR VN qx
              go_wp2_with fail
              refine HPL.mono ?_
              rintro x w8 ⟨A17, c17, A18, m18, c18, Ps, rfl, VP, HPK, _, _, hbk⟩
              clear n0 n1
              have hm18 : m18 = 0 := by
                have h1 := congrArg List.length HPK.out
                rw [List.length_map, VP.2.1] at h1
                exact h1
              subst hm18
              have hT3 := hT2.trans (hbk.mono hT2.size)
              have hal := (Below.refl w8.heap.size w8).alloc (Nat.le_refl _) (.cells #[.slice A17 n c17, .slice A18 0 c18] 25)
              have QP := heap_alloc_new w8 (.cells #[.slice A17 n c17, .slice A18 0 c18] 25)
              have hT4 := hT3.trans (hal.mono hT3.size)
              obtain ⟨w9, hw⟩ : ∃ W, w8.alloc (.cells #[.slice A17 n c17, .slice A18 0 c18] 25) = W := ⟨_, rfl⟩
              rw [hw] at QP hT4
              have HW := Lib.hid hw
              clear hw hal hbk hT2 hT3 HPL
              go_upto_region 20 with fail
              rw [HW.out]
              obtain ⟨p0, p1, _, _⟩ := pair_cells QP
              clear HW QP
              go_wp2_with fail
              go_ret
              exact ⟨rfl, hT4⟩

theorem cooBoth_any (w : World) (A : Option Addr) (n c : Nat) (B : Option Addr) (m e : Nat) (xs : List Int) (es : List Ent) (h : Ints w w.heap.size A n xs) (hn : n ≤ 9223372036854775807) (hv : Ents w w.heap.size B m es) (hm : m ≤ 9223372036854775807) (_ : n ≤ c) (_ : m ≤ e)
  (A2 : Option Addr) (n2 c2 : Nat) (B2 : Option Addr) (m2 e2 : Nat) (xs2 : List Int) (fs : List Ent) (h2 : Ints w w.heap.size A2 n2 xs2) (hn2 : n2 ≤ 9223372036854775807) (hv2 : Ents w w.heap.size B2 m2 fs) (hm2 : m2 ≤ 9223372036854775807) (_ : n2 ≤ c2) (_ : m2 ≤ e2) :
    Calls Try.prog 9 #[.agg #[.slice A n c, .slice B m e], .agg #[.slice A2 n2 c2, .slice B2 m2 e2]] w fun x w' => x = .returned (.bool true) ∧ Below w.heap.size w w' :=
  cooBoth_w A B A2 B2 n c m e n2 c2 m2 e2 xs xs2 es fs w ⟨h, hv⟩ hn hm ⟨h2, hv2⟩ hn2 hm2
end Go.Proofs.Ytapbcmhkipaecaa
