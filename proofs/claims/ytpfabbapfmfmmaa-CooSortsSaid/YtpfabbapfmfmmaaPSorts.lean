/- purflelaw02.CooSorts returns true at all lists and orders. -/
import Derived.Test.YtpfabbapfmfmmaaPSBoth
import Derived.Test.YtpfabbapfmfmmaaPSNum
import Derived.Test.YtpfabbapfmfmmaaPECooB
import Derived.Test.YtpfabbapfmfmmaaG16
namespace Go.Proofs.Ytpfabbapfmfmmaa
open Go.RowKit Go.Sort

theorem fewC_ent {A B A2 B2 : Option Addr} {n c m e n2 c2 m2 e2 : Nat} {es fs : List Ent} (h : fewC [((⟨A, n, c, B, m, e⟩ : Hdr), es), (⟨A2, n2, c2, B2, m2, e2⟩, fs)] = true) : ∀ y ∈ es, y.n ≤ 20 := fun y hy => by
  unfold fewC at h
  simp only [List.all_cons, Bool.and_eq_true, decide_eq_true_eq] at h
  exact of_decide_eq_true (List.all_eq_true.1 h.1.2 y hy)
theorem eqK {S : List Int} {K : List KeyT} {es fs : List Ent} (h : Hid (es.map keyE = K)) (h2 : Hid (fs.map keyE = K)) : Hid ((decide (S = S) && decide (es.map keyV = fs.map keyV)) = true) := by
  unfold Hid
  rw [decide_eq_true rfl, decide_eq_true (keyV_of (h.out.trans h2.out.symm))]
  rfl
theorem cooF_keyV {xs : List Int} {es fs : List Ent} (h : es.map keyV = fs.map keyV) : cooF xs es = cooF xs fs := by
  have hl : es.length = fs.length := by have := congrArg List.length h; rwa [List.length_map, List.length_map] at this
  have key : ∀ l : List Ent, (l.all fun x => insideF xs x.cs) = (l.map keyV).all fun q => insideF xs q.1 := fun l => by rw [List.all_map]; rfl
  unfold cooF
  rw [key, key, h, hl]
theorem sameC_eq (xs ys : List Int) (es fs : List Ent) : (decide (cooF xs es = 0) && decide (cooF ys fs = 0) && (decide (xs = ys) && decide (es.map keyV = fs.map keyV))) = sameC xs ys es fs := by
  unfold sameC
  by_cases h1 : xs = ys
  · subst h1
    by_cases h2 : es.map keyV = fs.map keyV
    · rw [← cooF_keyV h2]
      simp [h2]
    · simp [h2]
  · simp [h1]

set_option maxRecDepth 100000 in
set_option maxHeartbeats 16000000 in
theorem sorts_exit_few (A B A2 B2 Ao : Option Addr) (n c m e n2 c2 m2 e2 ro co : Nat) (xs xs2 os : List Int) (es fs : List Ent) (w : World) (h : Ints w w.heap.size A n xs) (_hn : n ≤ 9223372036854775807) (hv : Ents w w.heap.size B m es) (_hm : m ≤ 9223372036854775807) (h2 : Ints w w.heap.size A2 n2 xs2) (_hn2 : n2 ≤ 9223372036854775807) (hv2 : Ents w w.heap.size B2 m2 fs) (_hm2 : m2 ≤ 9223372036854775807) (ha : Ints w w.heap.size Ao ro os) (_hro : ro ≤ 9223372036854775807) (hx : fewC [((⟨A, n, c, B, m, e⟩ : Hdr), es), (⟨A2, n2, c2, B2, m2, e2⟩, fs)] = false) :
    Calls Try.prog 3 #[.agg #[.slice A n c, .slice B m e], .agg #[.slice A2 n2 c2, .slice B2 m2 e2], .slice Ao ro co] w fun x w' => x = .returned (.bool true) ∧ Below w.heap.size w w' := by
  have VX : CooV w A n B m xs es := ⟨h, hv⟩
  have VY : CooV w A2 n2 B2 m2 xs2 fs := ⟨h2, hv2⟩
  have IA := ha
  clear h hv h2 hv2 ha
  have HFW := Lib.hid hx
  clear hx
  go_enter Try.func3, Try.ntmps3
  have z0 := (Below.refl w.heap.size w).alloc (Nat.le_refl _) (.cells #[.slice A n c, .slice B m e] 25)
  have hal := z0.alloc z0.size (.cells #[.slice A2 n2 c2, .slice B2 m2 e2] 25)
  have QX := zf_two w (.cells #[.slice A n c, .slice B m e] 25) (.cells #[.slice A2 n2 c2, .slice B2 m2 e2] 25)
  have QY := zf_snd w (.cells #[.slice A2 n2 c2, .slice B2 m2 e2] 25) (.cells #[.slice A n c, .slice B m e] 25)
  obtain ⟨w1, hw⟩ : ∃ W, (w.alloc (.cells #[.slice A n c, .slice B m e] 25)).alloc (.cells #[.slice A2 n2 c2, .slice B2 m2 e2] 25) = W := ⟨_, rfl⟩
  rw [hw] at hal QX QY
  have HW := Lib.hid hw
  clear hw z0
  have hT := hal
  replace VX := VX.below hal
  replace VY := VY.below hal
  replace IA := (IA.below hal).more hal.size
  go_upto_region 1 with fail
  rw [HW.out]
  clear HW hal
  go_wp2_with fail
  refine (cooLive_any _).mono ?_
  rintro x w2 ⟨rfl, hbk⟩
  replace hT := hT.trans (hbk.mono hT.size)
  replace QX := heapAt hbk QX
  replace QY := heapAt hbk QY
  replace VX := VX.below hbk
  replace VY := VY.below hbk
  replace IA := (IA.below hbk).more hbk.size
  clear hbk
  obtain ⟨QX0, QX1, _, _⟩ := pair_cells QX
  obtain ⟨QY0, QY1, _, _⟩ := pair_cells QY
  go_wp2_with fail
  refine (few_coo2 A B A2 B2 n c m e n2 c2 m2 e2 xs xs2 es fs _ VX VY false HFW).mono ?_
  rintro x w3 ⟨rfl, hbk⟩
  clear QX0 QX1 QY0 QY1
  replace hT := hT.trans (hbk.mono hT.size)
  replace QX := heapAt hbk QX
  replace QY := heapAt hbk QY
  replace VX := VX.below hbk
  replace VY := VY.below hbk
  replace IA := (IA.below hbk).more hbk.size
  clear hbk
  go_wp2_with fail
  go_ret
  exact ⟨rfl, hT⟩

set_option maxRecDepth 100000 in
set_option maxHeartbeats 16000000 in
theorem sorts_exit_ro (A B A2 B2 Ao : Option Addr) (n c m e n2 c2 m2 e2 ro co : Nat) (xs xs2 os : List Int) (es fs : List Ent) (w : World) (h : Ints w w.heap.size A n xs) (_hn : n ≤ 9223372036854775807) (hv : Ents w w.heap.size B m es) (_hm : m ≤ 9223372036854775807) (h2 : Ints w w.heap.size A2 n2 xs2) (_hn2 : n2 ≤ 9223372036854775807) (hv2 : Ents w w.heap.size B2 m2 fs) (_hm2 : m2 ≤ 9223372036854775807) (ha : Ints w w.heap.size Ao ro os) (_hro : ro ≤ 9223372036854775807) (hf : fewC [((⟨A, n, c, B, m, e⟩ : Hdr), es), (⟨A2, n2, c2, B2, m2, e2⟩, fs)] = true) (hx : 20 < ro) :
    Calls Try.prog 3 #[.agg #[.slice A n c, .slice B m e], .agg #[.slice A2 n2 c2, .slice B2 m2 e2], .slice Ao ro co] w fun x w' => x = .returned (.bool true) ∧ Below w.heap.size w w' := by
  have VX : CooV w A n B m xs es := ⟨h, hv⟩
  have VY : CooV w A2 n2 B2 m2 xs2 fs := ⟨h2, hv2⟩
  have IA := ha
  clear h hv h2 hv2 ha
  have HFW := Lib.hid hf
  have d1 : decide (20 < (ro : Int)) = true := by simp; omega
  clear hf
  go_enter Try.func3, Try.ntmps3
  have z0 := (Below.refl w.heap.size w).alloc (Nat.le_refl _) (.cells #[.slice A n c, .slice B m e] 25)
  have hal := z0.alloc z0.size (.cells #[.slice A2 n2 c2, .slice B2 m2 e2] 25)
  have QX := zf_two w (.cells #[.slice A n c, .slice B m e] 25) (.cells #[.slice A2 n2 c2, .slice B2 m2 e2] 25)
  have QY := zf_snd w (.cells #[.slice A2 n2 c2, .slice B2 m2 e2] 25) (.cells #[.slice A n c, .slice B m e] 25)
  obtain ⟨w1, hw⟩ : ∃ W, (w.alloc (.cells #[.slice A n c, .slice B m e] 25)).alloc (.cells #[.slice A2 n2 c2, .slice B2 m2 e2] 25) = W := ⟨_, rfl⟩
  rw [hw] at hal QX QY
  have HW := Lib.hid hw
  clear hw z0
  have hT := hal
  replace VX := VX.below hal
  replace VY := VY.below hal
  replace IA := (IA.below hal).more hal.size
  go_upto_region 1 with fail
  rw [HW.out]
  clear HW hal
  go_wp2_with fail
  refine (cooLive_any _).mono ?_
  rintro x w2 ⟨rfl, hbk⟩
  replace hT := hT.trans (hbk.mono hT.size)
  replace QX := heapAt hbk QX
  replace QY := heapAt hbk QY
  replace VX := VX.below hbk
  replace VY := VY.below hbk
  replace IA := (IA.below hbk).more hbk.size
  clear hbk
  obtain ⟨QX0, QX1, _, _⟩ := pair_cells QX
  obtain ⟨QY0, QY1, _, _⟩ := pair_cells QY
  go_wp2_with fail
  refine (few_coo2 A B A2 B2 n c m e n2 c2 m2 e2 xs xs2 es fs _ VX VY true HFW).mono ?_
  rintro x w3 ⟨rfl, hbk⟩
  clear QX0 QX1 QY0 QY1
  replace hT := hT.trans (hbk.mono hT.size)
  replace QX := heapAt hbk QX
  replace QY := heapAt hbk QY
  replace VX := VX.below hbk
  replace VY := VY.below hbk
  replace IA := (IA.below hbk).more hbk.size
  clear hbk
  go_wp2_with fail
  go_ret
  exact ⟨rfl, hT⟩

set_option maxRecDepth 100000 in
set_option maxHeartbeats 16000000 in
theorem cooSorts_w (A B A2 B2 Ao : Option Addr) (n c m e n2 c2 m2 e2 ro co : Nat) (xs xs2 os : List Int) (es fs : List Ent) (w : World) (h : Ints w w.heap.size A n xs) (hn : n ≤ 9223372036854775807) (hv : Ents w w.heap.size B m es) (hm : m ≤ 9223372036854775807) (h2 : Ints w w.heap.size A2 n2 xs2) (hn2 : n2 ≤ 9223372036854775807) (hv2 : Ents w w.heap.size B2 m2 fs) (hm2 : m2 ≤ 9223372036854775807) (ha : Ints w w.heap.size Ao ro os) (hro : ro ≤ 9223372036854775807) :
    Calls Try.prog 3 #[.agg #[.slice A n c, .slice B m e], .agg #[.slice A2 n2 c2, .slice B2 m2 e2], .slice Ao ro co] w fun x w' => x = .returned (.bool true) ∧ Below w.heap.size w w' := by
  by_cases hf : fewC [((⟨A, n, c, B, m, e⟩ : Hdr), es), (⟨A2, n2, c2, B2, m2, e2⟩, fs)] = true
  case neg => exact sorts_exit_few A B A2 B2 Ao n c m e n2 c2 m2 e2 ro co xs xs2 os es fs w h hn hv hm h2 hn2 hv2 hm2 ha hro (by simpa using hf)
  by_cases h1 : 20 < ro
  case pos => exact sorts_exit_ro A B A2 B2 Ao n c m e n2 c2 m2 e2 ro co xs xs2 os es fs w h hn hv hm h2 hn2 hv2 hm2 ha hro hf h1
  have VX : CooV w A n B m xs es := ⟨h, hv⟩
  have VY : CooV w A2 n2 B2 m2 xs2 fs := ⟨h2, hv2⟩
  have IA := ha
  clear h hv h2 hv2 ha
  have hnm := fewC_two hf
  have hn1 := hnm.1
  have hm1 := hnm.2.1
  have hn3 := hnm.2.2.1
  have hm3 := hnm.2.2.2
  have hye := fewC_ent hf
  have HFW := Lib.hid hf
  have HYE : Hid (∀ y ∈ es, y.n ≤ 100000) := fun y hy => by have := hye y hy; omega
  have d1 : decide (20 < (ro : Int)) = false := by simp; omega
  obtain ⟨S1, K1, E1, HA1, HA2⟩ := sort_both A B Ao n c m e ro co xs os es w VX (by omega) hm IA (by omega)
  obtain ⟨S2, K2, E2, HB1, HB2⟩ := join_both A B Ao n c m e ro co xs os es w VX (by omega) hm IA (by omega)
  obtain ⟨S3, K3, E3, HC1, HC2⟩ := trim_both A B n c m e xs es w VX (by omega) hm
  obtain ⟨S4, K4, E4, HD1, HD2⟩ := plain_both A B n c m e xs es w VX (by omega) hm
  clear hf hnm h1 hye
  go_enter Try.func3, Try.ntmps3
  have z0 := (Below.refl w.heap.size w).alloc (Nat.le_refl _) (.cells #[.slice A n c, .slice B m e] 25)
  have hal := z0.alloc z0.size (.cells #[.slice A2 n2 c2, .slice B2 m2 e2] 25)
  have QX := zf_two w (.cells #[.slice A n c, .slice B m e] 25) (.cells #[.slice A2 n2 c2, .slice B2 m2 e2] 25)
  have QY := zf_snd w (.cells #[.slice A2 n2 c2, .slice B2 m2 e2] 25) (.cells #[.slice A n c, .slice B m e] 25)
  obtain ⟨w1, hw⟩ : ∃ W, (w.alloc (.cells #[.slice A n c, .slice B m e] 25)).alloc (.cells #[.slice A2 n2 c2, .slice B2 m2 e2] 25) = W := ⟨_, rfl⟩
  rw [hw] at hal QX QY
  have HW := Lib.hid hw
  clear hw z0
  have hT := hal
  replace VX := VX.below hal
  replace VY := VY.below hal
  replace IA := (IA.below hal).more hal.size
  go_upto_region 1 with fail
  rw [HW.out]
  clear HW hal
  go_wp2_with fail
  refine (cooLive_any _).mono ?_
  rintro x w2 ⟨rfl, hbk⟩
  replace hT := hT.trans (hbk.mono hT.size)
  replace QX := heapAt hbk QX
  replace QY := heapAt hbk QY
  replace VX := VX.below hbk
  replace VY := VY.below hbk
  replace IA := (IA.below hbk).more hbk.size
  clear hbk
  obtain ⟨QX0, QX1, _, _⟩ := pair_cells QX
  obtain ⟨QY0, QY1, _, _⟩ := pair_cells QY
  go_wp2_with fail
  refine (few_coo2 A B A2 B2 n c m e n2 c2 m2 e2 xs xs2 es fs _ VX VY true HFW).mono ?_
  rintro x w3 ⟨rfl, hbk⟩
  clear QX0 QX1 QY0 QY1
  replace hT := hT.trans (hbk.mono hT.size)
  replace QX := heapAt hbk QX
  replace QY := heapAt hbk QY
  replace VX := VX.below hbk
  replace VY := VY.below hbk
  replace IA := (IA.below hbk).more hbk.size
  clear hbk
  obtain ⟨QX0, QX1, _, _⟩ := pair_cells QX
  go_wp2_with fail
  refine (refCopyV A B n c m e xs es _ VX (by omega) (by omega) HYE.out).mono ?_
  rintro x w4 ⟨AW, cW, BW, eW, Ws, rfl, VW, HKW, _, hbk⟩
  clear QX0 QX1
  replace hT := hT.trans (hbk.mono hT.size)
  replace QX := heapAt hbk QX
  replace QY := heapAt hbk QY
  replace VX := VX.below hbk
  replace VY := VY.below hbk
  replace IA := (IA.below hbk).more hbk.size
  clear hbk
  have hal := (Below.refl w4.heap.size w4).alloc (Nat.le_refl _) (.cells #[.slice AW n cW, .slice BW m eW] 25)
  have QW := heap_alloc_new w4 (.cells #[.slice AW n cW, .slice BW m eW] 25)
  obtain ⟨w5, hw⟩ : ∃ W, w4.alloc (.cells #[.slice AW n cW, .slice BW m eW] 25) = W := ⟨_, rfl⟩
  rw [hw] at hal QW
  replace hT := hT.trans (hal.mono hT.size)
  replace QX := heapAt hal QX
  replace QY := heapAt hal QY
  replace VX := VX.below hal
  replace VY := VY.below hal
  replace VW := VW.below hal
  replace IA := (IA.below hal).more hal.size
  have HW := Lib.hid hw
  clear hal hw
  go_upto_region 5 with fail
  rw [HW.out]
  clear HW
  have hMw' := hT.size
  have B0 := Below.refl w5.heap.size w5
  have V0X := Lib.hid VX
  have V0W := Lib.hid VW
  have Q0X := Lib.hid QX
  have Q0W := Lib.hid QW
  have hz11 := B0.size
  obtain ⟨QX0, QX1, _, _⟩ := pair_cells QX
  go_wp2_with fail
  refine (HA1 _ hT).mono ?_
  rintro x w6 ⟨A11, n11, c11, B11, m11, e11, T11, rfl, W11, HK11, hn11, hm11, hx11, hF11, hbk⟩
  clear QX0 QX1
  replace B0 := B0.trans (hbk.mono B0.size)
  replace hT := hT.trans (hbk.mono hT.size)
  replace QX := heapAt hbk QX
  replace QY := heapAt hbk QY
  replace QW := heapAt hbk QW
  replace VX := VX.below hbk
  replace VY := VY.below hbk
  replace VW := VW.below hbk
  replace IA := (IA.below hbk).more hbk.size
  clear hbk
  have F11 := hF11.mono hz11
  clear hF11
  clear hz11
  replace hx11 := Lib.hid hx11
  have hal := (Below.refl w6.heap.size w6).alloc (Nat.le_refl _) (.cells #[.slice A11 n11 c11, .slice B11 m11 e11] 25)
  have Q11 := heap_alloc_new w6 (.cells #[.slice A11 n11 c11, .slice B11 m11 e11] 25)
  obtain ⟨w7, hw⟩ : ∃ W, w6.alloc (.cells #[.slice A11 n11 c11, .slice B11 m11 e11] 25) = W := ⟨_, rfl⟩
  rw [hw] at hal Q11
  replace F11 := F11.below hal
  replace B0 := B0.trans (hal.mono B0.size)
  replace hT := hT.trans (hal.mono hT.size)
  replace QX := heapAt hal QX
  replace QY := heapAt hal QY
  replace QW := heapAt hal QW
  replace VX := VX.below hal
  replace VY := VY.below hal
  replace VW := VW.below hal
  replace W11 := W11.below hal
  replace IA := (IA.below hal).more hal.size
  have HW := Lib.hid hw
  clear hal hw
  go_upto_region 6 with fail
  rw [HW.out]
  clear HW
  have hz12 := B0.size
  obtain ⟨QX0, QX1, _, _⟩ := pair_cells QX
  go_wp2_with fail
  refine (HA2 _ hT).mono ?_
  rintro x w8 ⟨A12, n12, c12, B12, m12, e12, T12, rfl, W12, HK12, hn12, hm12, hx12, hbk⟩
  clear QX0 QX1
  replace F11 := F11.below hbk
  replace B0 := B0.trans (hbk.mono B0.size)
  replace hT := hT.trans (hbk.mono hT.size)
  replace QX := heapAt hbk QX
  replace QY := heapAt hbk QY
  replace QW := heapAt hbk QW
  replace Q11 := heapAt hbk Q11
  replace VX := VX.below hbk
  replace VY := VY.below hbk
  replace VW := VW.below hbk
  replace W11 := W11.below hbk
  replace IA := (IA.below hbk).more hbk.size
  clear hbk
  clear hz12
  replace hx12 := Lib.hid hx12
  have hal := (Below.refl w8.heap.size w8).alloc (Nat.le_refl _) (.cells #[.slice A12 n12 c12, .slice B12 m12 e12] 25)
  have Q12 := heap_alloc_new w8 (.cells #[.slice A12 n12 c12, .slice B12 m12 e12] 25)
  obtain ⟨w9, hw⟩ : ∃ W, w8.alloc (.cells #[.slice A12 n12 c12, .slice B12 m12 e12] 25) = W := ⟨_, rfl⟩
  rw [hw] at hal Q12
  replace F11 := F11.below hal
  replace B0 := B0.trans (hal.mono B0.size)
  replace hT := hT.trans (hal.mono hT.size)
  replace QX := heapAt hal QX
  replace QY := heapAt hal QY
  replace QW := heapAt hal QW
  replace Q11 := heapAt hal Q11
  replace VX := VX.below hal
  replace VY := VY.below hal
  replace VW := VW.below hal
  replace W11 := W11.below hal
  replace W12 := W12.below hal
  replace IA := (IA.below hal).more hal.size
  have HW := Lib.hid hw
  clear hal hw
  go_upto_region 7 with fail
  rw [HW.out]
  clear HW
  have hz13 := B0.size
  obtain ⟨QX0, QX1, _, _⟩ := pair_cells QX
  go_wp2_with fail
  refine (HB1 _ hT).mono ?_
  rintro x w10 ⟨A13, n13, c13, B13, m13, e13, T13, rfl, W13, HK13, hn13, hm13, hx13, hF13, hbk⟩
  clear QX0 QX1
  replace F11 := F11.below hbk
  replace B0 := B0.trans (hbk.mono B0.size)
  replace hT := hT.trans (hbk.mono hT.size)
  replace QX := heapAt hbk QX
  replace QY := heapAt hbk QY
  replace QW := heapAt hbk QW
  replace Q11 := heapAt hbk Q11
  replace Q12 := heapAt hbk Q12
  replace VX := VX.below hbk
  replace VY := VY.below hbk
  replace VW := VW.below hbk
  replace W11 := W11.below hbk
  replace W12 := W12.below hbk
  replace IA := (IA.below hbk).more hbk.size
  clear hbk
  have F13 := hF13.mono hz13
  clear hF13
  clear hz13
  replace hx13 := Lib.hid hx13
  have hal := (Below.refl w10.heap.size w10).alloc (Nat.le_refl _) (.cells #[.slice A13 n13 c13, .slice B13 m13 e13] 25)
  have Q13 := heap_alloc_new w10 (.cells #[.slice A13 n13 c13, .slice B13 m13 e13] 25)
  obtain ⟨w11, hw⟩ : ∃ W, w10.alloc (.cells #[.slice A13 n13 c13, .slice B13 m13 e13] 25) = W := ⟨_, rfl⟩
  rw [hw] at hal Q13
  replace F11 := F11.below hal
  replace F13 := F13.below hal
  replace B0 := B0.trans (hal.mono B0.size)
  replace hT := hT.trans (hal.mono hT.size)
  replace QX := heapAt hal QX
  replace QY := heapAt hal QY
  replace QW := heapAt hal QW
  replace Q11 := heapAt hal Q11
  replace Q12 := heapAt hal Q12
  replace VX := VX.below hal
  replace VY := VY.below hal
  replace VW := VW.below hal
  replace W11 := W11.below hal
  replace W12 := W12.below hal
  replace W13 := W13.below hal
  replace IA := (IA.below hal).more hal.size
  have HW := Lib.hid hw
  clear hal hw
  go_upto_region 8 with fail
  rw [HW.out]
  clear HW
  have hz14 := B0.size
  obtain ⟨QX0, QX1, _, _⟩ := pair_cells QX
  go_wp2_with fail
  refine (HB2 _ hT).mono ?_
  rintro x w12 ⟨A14, n14, c14, B14, m14, e14, T14, rfl, W14, HK14, hn14, hm14, hx14, hbk⟩
  clear QX0 QX1
  replace F11 := F11.below hbk
  replace F13 := F13.below hbk
  replace B0 := B0.trans (hbk.mono B0.size)
  replace hT := hT.trans (hbk.mono hT.size)
  replace QX := heapAt hbk QX
  replace QY := heapAt hbk QY
  replace QW := heapAt hbk QW
  replace Q11 := heapAt hbk Q11
  replace Q12 := heapAt hbk Q12
  replace Q13 := heapAt hbk Q13
  replace VX := VX.below hbk
  replace VY := VY.below hbk
  replace VW := VW.below hbk
  replace W11 := W11.below hbk
  replace W12 := W12.below hbk
  replace W13 := W13.below hbk
  replace IA := (IA.below hbk).more hbk.size
  clear hbk
  clear hz14
  replace hx14 := Lib.hid hx14
  have hal := (Below.refl w12.heap.size w12).alloc (Nat.le_refl _) (.cells #[.slice A14 n14 c14, .slice B14 m14 e14] 25)
  have Q14 := heap_alloc_new w12 (.cells #[.slice A14 n14 c14, .slice B14 m14 e14] 25)
  obtain ⟨w13, hw⟩ : ∃ W, w12.alloc (.cells #[.slice A14 n14 c14, .slice B14 m14 e14] 25) = W := ⟨_, rfl⟩
  rw [hw] at hal Q14
  replace F11 := F11.below hal
  replace F13 := F13.below hal
  replace B0 := B0.trans (hal.mono B0.size)
  replace hT := hT.trans (hal.mono hT.size)
  replace QX := heapAt hal QX
  replace QY := heapAt hal QY
  replace QW := heapAt hal QW
  replace Q11 := heapAt hal Q11
  replace Q12 := heapAt hal Q12
  replace Q13 := heapAt hal Q13
  replace VX := VX.below hal
  replace VY := VY.below hal
  replace VW := VW.below hal
  replace W11 := W11.below hal
  replace W12 := W12.below hal
  replace W13 := W13.below hal
  replace W14 := W14.below hal
  replace IA := (IA.below hal).more hal.size
  have HW := Lib.hid hw
  clear hal hw
  go_upto_region 9 with fail
  rw [HW.out]
  clear HW
  have hz15 := B0.size
  obtain ⟨QX0, QX1, _, _⟩ := pair_cells QX
  go_wp2_with fail
  refine (HC1 _ hT).mono ?_
  rintro x w14 ⟨A15, n15, c15, B15, m15, e15, T15, rfl, W15, HK15, hn15, hm15, hx15, hF15, hbk⟩
  clear QX0 QX1
  replace F11 := F11.below hbk
  replace F13 := F13.below hbk
  replace B0 := B0.trans (hbk.mono B0.size)
  replace hT := hT.trans (hbk.mono hT.size)
  replace QX := heapAt hbk QX
  replace QY := heapAt hbk QY
  replace QW := heapAt hbk QW
  replace Q11 := heapAt hbk Q11
  replace Q12 := heapAt hbk Q12
  replace Q13 := heapAt hbk Q13
  replace Q14 := heapAt hbk Q14
  replace VX := VX.below hbk
  replace VY := VY.below hbk
  replace VW := VW.below hbk
  replace W11 := W11.below hbk
  replace W12 := W12.below hbk
  replace W13 := W13.below hbk
  replace W14 := W14.below hbk
  replace IA := (IA.below hbk).more hbk.size
  clear hbk
  have F15 := hF15.mono hz15
  clear hF15
  clear hz15
  replace hx15 := Lib.hid hx15
  have hal := (Below.refl w14.heap.size w14).alloc (Nat.le_refl _) (.cells #[.slice A15 n15 c15, .slice B15 m15 e15] 25)
  have Q15 := heap_alloc_new w14 (.cells #[.slice A15 n15 c15, .slice B15 m15 e15] 25)
  obtain ⟨w15, hw⟩ : ∃ W, w14.alloc (.cells #[.slice A15 n15 c15, .slice B15 m15 e15] 25) = W := ⟨_, rfl⟩
  rw [hw] at hal Q15
  replace F11 := F11.below hal
  replace F13 := F13.below hal
  replace F15 := F15.below hal
  replace B0 := B0.trans (hal.mono B0.size)
  replace hT := hT.trans (hal.mono hT.size)
  replace QX := heapAt hal QX
  replace QY := heapAt hal QY
  replace QW := heapAt hal QW
  replace Q11 := heapAt hal Q11
  replace Q12 := heapAt hal Q12
  replace Q13 := heapAt hal Q13
  replace Q14 := heapAt hal Q14
  replace VX := VX.below hal
  replace VY := VY.below hal
  replace VW := VW.below hal
  replace W11 := W11.below hal
  replace W12 := W12.below hal
  replace W13 := W13.below hal
  replace W14 := W14.below hal
  replace W15 := W15.below hal
  replace IA := (IA.below hal).more hal.size
  have HW := Lib.hid hw
  clear hal hw
  go_upto_region 10 with fail
  rw [HW.out]
  clear HW
  have hz16 := B0.size
  obtain ⟨QX0, QX1, _, _⟩ := pair_cells QX
  go_wp2_with fail
  refine (HC2 _ hT).mono ?_
  rintro x w16 ⟨A16, n16, c16, B16, m16, e16, T16, rfl, W16, HK16, hn16, hm16, hx16, hbk⟩
  clear QX0 QX1
  replace F11 := F11.below hbk
  replace F13 := F13.below hbk
  replace F15 := F15.below hbk
  replace B0 := B0.trans (hbk.mono B0.size)
  replace hT := hT.trans (hbk.mono hT.size)
  replace QX := heapAt hbk QX
  replace QY := heapAt hbk QY
  replace QW := heapAt hbk QW
  replace Q11 := heapAt hbk Q11
  replace Q12 := heapAt hbk Q12
  replace Q13 := heapAt hbk Q13
  replace Q14 := heapAt hbk Q14
  replace Q15 := heapAt hbk Q15
  replace VX := VX.below hbk
  replace VY := VY.below hbk
  replace VW := VW.below hbk
  replace W11 := W11.below hbk
  replace W12 := W12.below hbk
  replace W13 := W13.below hbk
  replace W14 := W14.below hbk
  replace W15 := W15.below hbk
  replace IA := (IA.below hbk).more hbk.size
  clear hbk
  clear hz16
  replace hx16 := Lib.hid hx16
  have hal := (Below.refl w16.heap.size w16).alloc (Nat.le_refl _) (.cells #[.slice A16 n16 c16, .slice B16 m16 e16] 25)
  have Q16 := heap_alloc_new w16 (.cells #[.slice A16 n16 c16, .slice B16 m16 e16] 25)
  obtain ⟨w17, hw⟩ : ∃ W, w16.alloc (.cells #[.slice A16 n16 c16, .slice B16 m16 e16] 25) = W := ⟨_, rfl⟩
  rw [hw] at hal Q16
  replace F11 := F11.below hal
  replace F13 := F13.below hal
  replace F15 := F15.below hal
  replace B0 := B0.trans (hal.mono B0.size)
  replace hT := hT.trans (hal.mono hT.size)
  replace QX := heapAt hal QX
  replace QY := heapAt hal QY
  replace QW := heapAt hal QW
  replace Q11 := heapAt hal Q11
  replace Q12 := heapAt hal Q12
  replace Q13 := heapAt hal Q13
  replace Q14 := heapAt hal Q14
  replace Q15 := heapAt hal Q15
  replace VX := VX.below hal
  replace VY := VY.below hal
  replace VW := VW.below hal
  replace W11 := W11.below hal
  replace W12 := W12.below hal
  replace W13 := W13.below hal
  replace W14 := W14.below hal
  replace W15 := W15.below hal
  replace W16 := W16.below hal
  replace IA := (IA.below hal).more hal.size
  have HW := Lib.hid hw
  clear hal hw
  go_upto_region 11 with fail
  rw [HW.out]
  clear HW
  have hz17 := B0.size
  obtain ⟨QX0, QX1, _, _⟩ := pair_cells QX
  go_wp2_with fail
  refine (HD1 _ hT).mono ?_
  rintro x w18 ⟨A17, n17, c17, B17, m17, e17, T17, rfl, W17, HK17, hn17, hm17, hx17, hF17, hbk⟩
  clear QX0 QX1
  replace F11 := F11.below hbk
  replace F13 := F13.below hbk
  replace F15 := F15.below hbk
  replace B0 := B0.trans (hbk.mono B0.size)
  replace hT := hT.trans (hbk.mono hT.size)
  replace QX := heapAt hbk QX
  replace QY := heapAt hbk QY
  replace QW := heapAt hbk QW
  replace Q11 := heapAt hbk Q11
  replace Q12 := heapAt hbk Q12
  replace Q13 := heapAt hbk Q13
  replace Q14 := heapAt hbk Q14
  replace Q15 := heapAt hbk Q15
  replace Q16 := heapAt hbk Q16
  replace VX := VX.below hbk
  replace VY := VY.below hbk
  replace VW := VW.below hbk
  replace W11 := W11.below hbk
  replace W12 := W12.below hbk
  replace W13 := W13.below hbk
  replace W14 := W14.below hbk
  replace W15 := W15.below hbk
  replace W16 := W16.below hbk
  replace IA := (IA.below hbk).more hbk.size
  clear hbk
  have F17 := hF17.mono hz17
  clear hF17
  clear hz17
  replace hx17 := Lib.hid hx17
  have hal := (Below.refl w18.heap.size w18).alloc (Nat.le_refl _) (.cells #[.slice A17 n17 c17, .slice B17 m17 e17] 25)
  have Q17 := heap_alloc_new w18 (.cells #[.slice A17 n17 c17, .slice B17 m17 e17] 25)
  obtain ⟨w19, hw⟩ : ∃ W, w18.alloc (.cells #[.slice A17 n17 c17, .slice B17 m17 e17] 25) = W := ⟨_, rfl⟩
  rw [hw] at hal Q17
  replace F11 := F11.below hal
  replace F13 := F13.below hal
  replace F15 := F15.below hal
  replace F17 := F17.below hal
  replace B0 := B0.trans (hal.mono B0.size)
  replace hT := hT.trans (hal.mono hT.size)
  replace QX := heapAt hal QX
  replace QY := heapAt hal QY
  replace QW := heapAt hal QW
  replace Q11 := heapAt hal Q11
  replace Q12 := heapAt hal Q12
  replace Q13 := heapAt hal Q13
  replace Q14 := heapAt hal Q14
  replace Q15 := heapAt hal Q15
  replace Q16 := heapAt hal Q16
  replace VX := VX.below hal
  replace VY := VY.below hal
  replace VW := VW.below hal
  replace W11 := W11.below hal
  replace W12 := W12.below hal
  replace W13 := W13.below hal
  replace W14 := W14.below hal
  replace W15 := W15.below hal
  replace W16 := W16.below hal
  replace W17 := W17.below hal
  replace IA := (IA.below hal).more hal.size
  have HW := Lib.hid hw
  clear hal hw
  go_upto_region 12 with fail
  rw [HW.out]
  clear HW
  have hz18 := B0.size
  obtain ⟨QX0, QX1, _, _⟩ := pair_cells QX
  go_wp2_with fail
  refine (HD2 _ hT).mono ?_
  rintro x w20 ⟨A18, n18, c18, B18, m18, e18, T18, rfl, W18, HK18, hn18, hm18, hx18, hbk⟩
  clear QX0 QX1
  replace F11 := F11.below hbk
  replace F13 := F13.below hbk
  replace F15 := F15.below hbk
  replace F17 := F17.below hbk
  replace B0 := B0.trans (hbk.mono B0.size)
  replace hT := hT.trans (hbk.mono hT.size)
  replace QX := heapAt hbk QX
  replace QY := heapAt hbk QY
  replace QW := heapAt hbk QW
  replace Q11 := heapAt hbk Q11
  replace Q12 := heapAt hbk Q12
  replace Q13 := heapAt hbk Q13
  replace Q14 := heapAt hbk Q14
  replace Q15 := heapAt hbk Q15
  replace Q16 := heapAt hbk Q16
  replace Q17 := heapAt hbk Q17
  replace VX := VX.below hbk
  replace VY := VY.below hbk
  replace VW := VW.below hbk
  replace W11 := W11.below hbk
  replace W12 := W12.below hbk
  replace W13 := W13.below hbk
  replace W14 := W14.below hbk
  replace W15 := W15.below hbk
  replace W16 := W16.below hbk
  replace W17 := W17.below hbk
  replace IA := (IA.below hbk).more hbk.size
  clear hbk
  clear hz18
  replace hx18 := Lib.hid hx18
  have hal := (Below.refl w20.heap.size w20).alloc (Nat.le_refl _) (.cells #[.slice A18 n18 c18, .slice B18 m18 e18] 25)
  have Q18 := heap_alloc_new w20 (.cells #[.slice A18 n18 c18, .slice B18 m18 e18] 25)
  obtain ⟨w21, hw⟩ : ∃ W, w20.alloc (.cells #[.slice A18 n18 c18, .slice B18 m18 e18] 25) = W := ⟨_, rfl⟩
  rw [hw] at hal Q18
  replace F11 := F11.below hal
  replace F13 := F13.below hal
  replace F15 := F15.below hal
  replace F17 := F17.below hal
  replace B0 := B0.trans (hal.mono B0.size)
  replace hT := hT.trans (hal.mono hT.size)
  replace QX := heapAt hal QX
  replace QY := heapAt hal QY
  replace QW := heapAt hal QW
  replace Q11 := heapAt hal Q11
  replace Q12 := heapAt hal Q12
  replace Q13 := heapAt hal Q13
  replace Q14 := heapAt hal Q14
  replace Q15 := heapAt hal Q15
  replace Q16 := heapAt hal Q16
  replace Q17 := heapAt hal Q17
  replace VX := VX.below hal
  replace VY := VY.below hal
  replace VW := VW.below hal
  replace W11 := W11.below hal
  replace W12 := W12.below hal
  replace W13 := W13.below hal
  replace W14 := W14.below hal
  replace W15 := W15.below hal
  replace W16 := W16.below hal
  replace W17 := W17.below hal
  replace W18 := W18.below hal
  replace IA := (IA.below hal).more hal.size
  have HW := Lib.hid hw
  clear hal hw
  go_upto_region 13 with fail
  rw [HW.out]
  clear HW
  have up := fun (d : Nat) (ob : Array Obj) => below_regrown w21 d ob
  have cE1 := fun d ob => Calls.regrown_of (refEqualsE A11 B11 A12 B12 n11 c11 m11 e11 n12 c12 m12 e12 _ _ T11 T12 (grow (redrawn w21 d) ob) (W11.below (up d ob)) (W12.below (up d ob)) hn11 hm11 (by omega) (by omega) hx11.out true (eqK HK11 HK12))
  have cE2 := fun d ob => Calls.regrown_of (refEqualsE A13 B13 A14 B14 n13 c13 m13 e13 n14 c14 m14 e14 _ _ T13 T14 (grow (redrawn w21 d) ob) (W13.below (up d ob)) (W14.below (up d ob)) hn13 hm13 (by omega) (by omega) hx13.out true (eqK HK13 HK14))
  have cE3 := fun d ob => Calls.regrown_of (refEqualsE A15 B15 A16 B16 n15 c15 m15 e15 n16 c16 m16 e16 _ _ T15 T16 (grow (redrawn w21 d) ob) (W15.below (up d ob)) (W16.below (up d ob)) hn15 hm15 (by omega) (by omega) hx15.out true (eqK HK15 HK16))
  have cE4 := fun d ob => Calls.regrown_of (refEqualsE A17 B17 A18 B18 n17 c17 m17 e17 n18 c18 m18 e18 _ _ T17 T18 (grow (redrawn w21 d) ob) (W17.below (up d ob)) (W18.below (up d ob)) hn17 hm17 (by omega) (by omega) hx17.out true (eqK HK17 HK18))
  obtain ⟨K, hK⟩ : ∃ K, cooF xs es = K := ⟨_, rfl⟩
  obtain ⟨R, hR⟩ : ∃ R, sameC xs xs2 es fs = R := ⟨_, rfl⟩
  have cC1 := fun d ob => Calls.regrown_of (cooCheck_any A B n c m e xs es (grow (redrawn w21 d) ob) (VX.below (up d ob)).1 (by omega) (VX.below (up d ob)).2 (by omega))
  have cC2 := fun d ob => Calls.regrown_of (refCooCheck_any A B n c m e xs es (grow (redrawn w21 d) ob) (VX.below (up d ob)).1 (by omega) (VX.below (up d ob)).2 (by omega))
  rw [hK] at cC1 cC2
  have cS1 := fun d ob => Calls.regrown_of (sameV A B A2 B2 n c m e n2 c2 m2 e2 xs xs2 es fs (grow (redrawn w21 d) ob) (VX.below (up d ob)) (by omega) (by omega) (VY.below (up d ob)) (by omega) (by omega) R hR)
  have cS2 := fun d ob => Calls.regrown_of (refSameV A B A2 B2 n c m e n2 c2 m2 e2 xs xs2 es fs (grow (redrawn w21 d) ob) (VX.below (up d ob)) (by omega) (by omega) HYE.out (VY.below (up d ob)) (by omega) (by omega) R ((sameC_eq xs xs2 es fs).trans hR))
  clear hK hR
  obtain ⟨QX0, QX1, _, _⟩ := pair_cells QX
  obtain ⟨QY0, QY1, _, _⟩ := pair_cells QY
  obtain ⟨Q110, Q111, _, _⟩ := pair_cells Q11
  obtain ⟨Q120, Q121, _, _⟩ := pair_cells Q12
  obtain ⟨Q130, Q131, _, _⟩ := pair_cells Q13
  obtain ⟨Q140, Q141, _, _⟩ := pair_cells Q14
  obtain ⟨Q150, Q151, _, _⟩ := pair_cells Q15
  obtain ⟨Q160, Q161, _, _⟩ := pair_cells Q16
  obtain ⟨Q170, Q171, _, _⟩ := pair_cells Q17
  obtain ⟨Q180, Q181, _, _⟩ := pair_cells Q18
  have yQX0 := cell_regrown QX0
  have yQX1 := cell_regrown QX1
  have yQY0 := cell_regrown QY0
  have yQY1 := cell_regrown QY1
  have yQ110 := cell_regrown Q110
  have yQ111 := cell_regrown Q111
  have yQ120 := cell_regrown Q120
  have yQ121 := cell_regrown Q121
  have yQ130 := cell_regrown Q130
  have yQ131 := cell_regrown Q131
  have yQ140 := cell_regrown Q140
  have yQ141 := cell_regrown Q141
  have yQ150 := cell_regrown Q150
  have yQ151 := cell_regrown Q151
  have yQ160 := cell_regrown Q160
  have yQ161 := cell_regrown Q161
  have yQ170 := cell_regrown Q170
  have yQ171 := cell_regrown Q171
  have yQ180 := cell_regrown Q180
  have yQ181 := cell_regrown Q181
  have hmx : Try.prog.follows .mixedOrders = true := by kernel_rfl
  refine wp_region_quiet_below hmx (by kernel_rfl) ?_
  repeat (quiet_step (first | (go_at_call 22; with_reducible exact cE1 _ _) | (go_at_call 22; with_reducible exact cE2 _ _) | (go_at_call 22; with_reducible exact cE3 _ _) | (go_at_call 22; with_reducible exact cE4 _ _) | (go_at_call 23; with_reducible exact cC1 _ _) | (go_at_call 24; with_reducible exact cC2 _ _) | (go_at_call 25; with_reducible exact cS1 _ _) | (go_at_call 26; with_reducible exact cS2 _ _)))
  refine wpQuiet_nil ?_
  intro _ hw'
  obtain ⟨⟨dq, osq⟩, hw''⟩ := hw'
  subst hw''
  have hbk := below_regrown w21 dq osq
  clear yQX0 yQX1 yQY0 yQY1 yQ110 yQ111 yQ120 yQ121 yQ130 yQ131 yQ140 yQ141 yQ150 yQ151 yQ160 yQ161 yQ170 yQ171 yQ180 yQ181 cE1 cE2 cE3 cE4 cC1 cC2 cS1 cS2 up hmx
  clear QX0 QX1 QY0 QY1 Q110 Q111 Q120 Q121 Q130 Q131 Q140 Q141 Q150 Q151 Q160 Q161 Q170 Q171 Q180 Q181
  obtain ⟨w22, hwg⟩ : ∃ W, grow (redrawn w21 dq) osq = W := ⟨_, rfl⟩
  rw [hwg] at hbk ⊢
  clear hwg
  replace F11 := F11.below hbk
  replace F13 := F13.below hbk
  replace F15 := F15.below hbk
  replace F17 := F17.below hbk
  replace B0 := B0.trans (hbk.mono B0.size)
  replace hT := hT.trans (hbk.mono hT.size)
  replace QX := heapAt hbk QX
  replace QY := heapAt hbk QY
  replace QW := heapAt hbk QW
  replace Q11 := heapAt hbk Q11
  replace Q12 := heapAt hbk Q12
  replace Q13 := heapAt hbk Q13
  replace Q14 := heapAt hbk Q14
  replace Q15 := heapAt hbk Q15
  replace Q16 := heapAt hbk Q16
  replace Q17 := heapAt hbk Q17
  replace Q18 := heapAt hbk Q18
  replace VX := VX.below hbk
  replace VY := VY.below hbk
  replace VW := VW.below hbk
  replace W11 := W11.below hbk
  replace W12 := W12.below hbk
  replace W13 := W13.below hbk
  replace W14 := W14.below hbk
  replace W15 := W15.below hbk
  replace W16 := W16.below hbk
  replace W17 := W17.below hbk
  replace W18 := W18.below hbk
  replace IA := (IA.below hbk).more hbk.size
  clear hbk
  go_upto_region 15 with fail
  obtain ⟨Q110, Q111, _, _⟩ := pair_cells Q11
  obtain ⟨Q130, Q131, _, _⟩ := pair_cells Q13
  obtain ⟨Q150, Q151, _, _⟩ := pair_cells Q15
  obtain ⟨Q170, Q171, _, _⟩ := pair_cells Q17
  have hal := (Below.refl w22.heap.size w22).alloc (Nat.le_refl _) (.cells #[.slice A11 n11 c11, .slice B11 m11 e11, .slice A13 n13 c13, .slice B13 m13 e13, .slice A15 n15 c15, .slice B15 m15 e15, .slice A17 n17 c17, .slice B17 m17 e17] 25)
  have QL := heap_alloc_new w22 (.cells #[.slice A11 n11 c11, .slice B11 m11 e11, .slice A13 n13 c13, .slice B13 m13 e13, .slice A15 n15 c15, .slice B15 m15 e15, .slice A17 n17 c17, .slice B17 m17 e17] 25)
  obtain ⟨w23, hw⟩ : ∃ W, w22.alloc (.cells #[.slice A11 n11 c11, .slice B11 m11 e11, .slice A13 n13 c13, .slice B13 m13 e13, .slice A15 n15 c15, .slice B15 m15 e15, .slice A17 n17 c17, .slice B17 m17 e17] 25) = W := ⟨_, rfl⟩
  rw [hw] at hal QL
  have HW := Lib.hid hw
  clear hw
  go_upto_region 16 with fail
  try rw [HW.out]
  clear Q110 Q111 Q130 Q131 Q150 Q151 Q170 Q171
  replace F11 := F11.below hal
  replace F13 := F13.below hal
  replace F15 := F15.below hal
  replace F17 := F17.below hal
  replace B0 := B0.trans (hal.mono B0.size)
  replace hT := hT.trans (hal.mono hT.size)
  replace QX := heapAt hal QX
  replace QY := heapAt hal QY
  replace QW := heapAt hal QW
  replace Q11 := heapAt hal Q11
  replace Q12 := heapAt hal Q12
  replace Q13 := heapAt hal Q13
  replace Q14 := heapAt hal Q14
  replace Q15 := heapAt hal Q15
  replace Q16 := heapAt hal Q16
  replace Q17 := heapAt hal Q17
  replace Q18 := heapAt hal Q18
  replace VX := VX.below hal
  replace VY := VY.below hal
  replace VW := VW.below hal
  replace W11 := W11.below hal
  replace W12 := W12.below hal
  replace W13 := W13.below hal
  replace W14 := W14.below hal
  replace W15 := W15.below hal
  replace W16 := W16.below hal
  replace W17 := W17.below hal
  replace W18 := W18.below hal
  replace IA := (IA.below hal).more hal.size
  clear hal HW
  have HL4 : Hid (∀ k, k < 4 → OneW w23 w5.heap.size w22.heap.size k) := fun k hk => by
    match k, hk with
    | 0, _ => exact ⟨A11, n11, c11, B11, m11, e11, T11, (cell_of_row _ _ 0 _ _ (0, 0) QL).trans (by simp), (cell_of_row _ _ 1 _ _ (0, 0) QL).trans (by simp), W11.wr F11 hx11.out, hm11⟩
    | 1, _ => exact ⟨A13, n13, c13, B13, m13, e13, T13, (cell_of_row _ _ 2 _ _ (0, 0) QL).trans (by simp), (cell_of_row _ _ 3 _ _ (0, 0) QL).trans (by simp), W13.wr F13 hx13.out, hm13⟩
    | 2, _ => exact ⟨A15, n15, c15, B15, m15, e15, T15, (cell_of_row _ _ 4 _ _ (0, 0) QL).trans (by simp), (cell_of_row _ _ 5 _ _ (0, 0) QL).trans (by simp), W15.wr F15 hx15.out, hm15⟩
    | 3, _ => exact ⟨A17, n17, c17, B17, m17, e17, T17, (cell_of_row _ _ 6 _ _ (0, 0) QL).trans (by simp), (cell_of_row _ _ 7 _ _ (0, 0) QL).trans (by simp), W17.wr F17 hx17.out, hm17⟩
    | k + 4, hk => exact absurd hk (by omega)
  have HB0 := Lib.hid B0
  have HT := Lib.hid hT
  have hML := B0.size
  clear QX QY QW Q11 Q12 Q13 Q14 Q15 Q16 Q17 Q18 QL W11 W12 W13 W14 W15 W16 W17 W18 F11 F13 F15 F17 VX VY VW IA B0 hT
  go_loopw [151] (fun i wr => ∃ k : Nat, k ≤ 4 ∧ i = .int .i64 k ∧ Hid (Num w23 wr) ∧ Hid (Below w5.heap.size w23 wr)) (fun i _ => 4 - (intOf i).toNat)
  case atStart => exact ⟨0, Nat.zero_le _, rfl, Lib.hid (Num.refl _), Lib.hid (Below.refl _ _)⟩
  case round =>
    obtain ⟨wo, rfl⟩ : ∃ wo : World, wo = wr := ⟨_, rfl⟩
    obtain ⟨k, hk, rfl, HN, HB⟩ := hrel
    have hsz1 := HB.out.size
    by_cases hlt : k < 4
    · obtain ⟨Az, nz, cz, Bz, mz, ez, zs, g0, g1, hW, hmz⟩ := HL4.out k hlt
      have HZW := Lib.hid hW
      have hk4 : (k : Int) < 4 := by omega
      have hk0 : (0 : Int) ≤ (k : Int) := by omega
      replace g0 := HN.out.other _ _ g0 slice_ne
      replace g1 := HN.out.other _ _ g1 slice_ne
      have hal := (Below.refl wo.heap.size wo).alloc (Nat.le_refl _) (.cells #[.slice Az nz cz, .slice Bz mz ez] 25)
      have qz := heap_alloc_new wo (.cells #[.slice Az nz cz, .slice Bz mz ez] 25)
      have hNt := HN.out.below hal (fun b hb => Nat.lt_of_lt_of_le hb hsz1)
      have hBt := HB.out.trans (hal.mono (by omega))
      obtain ⟨wt, hwt⟩ : ∃ W, wo.alloc (.cells #[.slice Az nz cz, .slice Bz mz ez] 25) = W := ⟨_, rfl⟩
      rw [hwt] at hal qz hNt hBt
      have HWT := Lib.hid hwt
      have HNt := Lib.hid hNt
      have HBt := Lib.hid hBt
      obtain ⟨y0, y1, _, _⟩ := pair_cells qz
      have HY1 := Lib.hid y1
      clear hW hwt hal qz hNt hBt
      go_upto_region 18 with fail
      rw [HWT.out]
      clear g0 g1 HWT
      go_wp2_with fail
      clear y0 y1
      go_loopw [158] (fun i wr => ∃ j : Nat, j ≤ mz ∧ i = .int .i64 j ∧ Hid (Num w23 wr) ∧ Hid (Num wt wr) ∧ Hid (Below w5.heap.size w23 wr)) (fun i _ => mz - (intOf i).toNat)
      case atStart => exact ⟨0, Nat.zero_le _, rfl, HNt, Lib.hid (Num.refl _), HBt⟩
      case round =>
        obtain ⟨ws, rfl⟩ : ∃ ws : World, ws = wr := ⟨_, rfl⟩
        obtain ⟨j, hj, rfl, HN2, HN3, HB2⟩ := hrel
        have y1 := HN3.out.other _ _ HY1.out slice_ne
        by_cases hjm : j < mz
        · obtain ⟨x, hx⟩ : ∃ x, zs[j]? = some x := ⟨_, List.getElem?_eq_getElem (by rw [HZW.out.1]; exact hjm)⟩
          obtain ⟨b, off, hBz, hc0, hI⟩ := HZW.out.2.2 j x hx
          have hxm := HZW.out.2.1 x (List.mem_of_getElem? hx)
          have HXM := Lib.hid hxm
          have hxn := hxm.1
          obtain ⟨hb0, ⟨v, hv⟩, hfz⟩ := hI.num HN2.out
          have HC0 := Lib.hid hc0
          obtain ⟨u, hu⟩ : ∃ u, IntKind.i64.wrap (v + 1) = u := ⟨_, rfl⟩
          have hv2 : ws.cell? ⟨b, off + j * 2 + 1, none⟩ = some (.int .i64 v) := by rw [Nat.mul_comm j 2]; exact hv
          have hf2 : ws.frozen? ⟨b, off + j * 2 + 1, none⟩ = false := by rw [Nat.mul_comm j 2]; exact hfz
          have hjm1 : (j : Int) < (mz : Int) := by omega
          have hj0 : (0 : Int) ≤ (j : Int) := by omega
          have n1 := Lib.hid (HN2.out.set hv2 u)
          have n2 := Lib.hid (HN3.out.set hv2 u)
          have n3 := Lib.hid (HB2.out.setCell (p := ⟨b, off + j * 2 + 1, none⟩) hb0 (.int .i64 u))
          obtain ⟨w6, hw6⟩ : ∃ W, ws.setCell ⟨b, off + j * 2 + 1, none⟩ (.int .i64 u) = W := ⟨_, rfl⟩
          rw [hw6] at n1 n2 n3
          have HW6 := Lib.hid hw6
          have HBZ := Lib.hid hBz
          rw [hBz] at y1
          clear hw6 hv hfz hI hc0 hxm hx hBz
          go_upto_region 22 with fail
          rw [HW6.out]
          clear hv2 hf2 hu y1 HW6
          have y1 := n2.out.other _ _ HY1.out slice_ne
          rw [HBZ.out] at y1
          have x0 : w6.cell? ⟨b, off + j * 2, none⟩ = some (.slice x.A x.n x.c) := by rw [Nat.mul_comm j 2]; exact n1.out.other _ _ HC0.out slice_ne
          go_wp2_with fail
          clear y1 x0
          go_loopw [177] (fun i wr => ∃ q : Nat, q ≤ x.n ∧ i = .int .i64 q ∧ Hid (Num w23 wr) ∧ Hid (Num wt wr) ∧ Hid (Below w5.heap.size w23 wr)) (fun i _ => x.n - (intOf i).toNat)
          case atStart => exact ⟨0, Nat.zero_le _, rfl, n1, n2, n3⟩
          case round =>
            obtain ⟨wv, rfl⟩ : ∃ wv : World, wv = wr := ⟨_, rfl⟩
            obtain ⟨q, hq, rfl, HN4, HN5, HB4⟩ := hrel
            by_cases hqn : q < x.n
            · obtain ⟨bq, oq, hxA, hIq⟩ := HXM.out.2 q hqn
              obtain ⟨hbq, ⟨t, ht⟩, hft⟩ := hIq.num HN4.out
              have y1 := HN5.out.other _ _ HY1.out slice_ne
              rw [HBZ.out] at y1
              have x0 : wv.cell? ⟨b, off + j * 2, none⟩ = some (.slice x.A x.n x.c) := by rw [Nat.mul_comm j 2]; exact HN4.out.other _ _ HC0.out slice_ne
              rw [hxA] at x0
              obtain ⟨u2, hu2⟩ : ∃ u, IntKind.i64.wrap (t + 1) = u := ⟨_, rfl⟩
              have hq1 : (q : Int) < (x.n : Int) := by omega
              have hq0 : (0 : Int) ≤ (q : Int) := by omega
              have o1 := Lib.hid (HN4.out.set ht u2)
              have o2 := Lib.hid (HN5.out.set ht u2)
              have o3 := Lib.hid (HB4.out.setCell (p := ⟨bq, oq + q, none⟩) hbq (.int .i64 u2))
              clear hxA hIq
              go_wp2_with fail
              go_roundw
              case rel => exact ⟨q + 1, by omega, by go_num, o1, o2, o3⟩
              case measure => simp [intOf]; omega
            · have dq : decide ((q : Int) < (x.n : Int)) = false := by simp; omega
              have dq2 : decide (q < x.n) = false := by simp; omega
              go_wp2_with fail
              go_roundw
              case rel => exact ⟨j + 1, by omega, by go_num, HN4, HN5, HB4⟩
              case measure => simp [intOf]; omega
        · have dj : decide ((j : Int) < (mz : Int)) = false := by simp; omega
          have dj2 : decide (j < mz) = false := by simp; omega
          go_wp2_with fail
          go_roundw
          case rel => exact ⟨k + 1, by omega, by go_num, HN2, HB2⟩
          case measure => simp [intOf]; omega
    · have dk : decide ((k : Int) < 4) = false := by simp; omega
      have dk2 : decide (k < 4) = false := by simp; omega
      have hbf := HB0.out.trans HB.out
      have vx := V0X.out.below hbf
      have vw := V0W.out.below hbf
      have qx := (hbf.block _ (lt_of_heap Q0X.out)).trans Q0X.out
      have qw := (hbf.block _ (lt_of_heap Q0W.out)).trans Q0W.out
      obtain ⟨x0, x1, _, _⟩ := pair_cells qx
      obtain ⟨w0, w1', _, _⟩ := pair_cells qw
      have hfin := HT.out.trans (HB.out.mono hMw')
      have HQ := refEqualsE A B AW BW n c m e n cW m eW xs xs es Ws wo vx vw (by omega) (by omega) (by omega) (by omega) HYE.out true (by unfold Hid; rw [decide_eq_true rfl, decide_eq_true (keyV_of HKW.out.symm)]; rfl)
      clear qx qw HL4
      go_wp2_with fail
      refine HQ.mono ?_
      rintro x w9 ⟨rfl, hb9⟩
      go_wp2_with fail
      go_ret
      exact ⟨rfl, hfin.trans (hb9.mono hfin.size)⟩

theorem cooSorts_any (w : World) (A : Option Addr) (n c : Nat) (B : Option Addr) (m e : Nat) (xs : List Int) (es : List Ent) (h : Ints w w.heap.size A n xs) (hn : n ≤ 9223372036854775807) (hv : Ents w w.heap.size B m es) (hm : m ≤ 9223372036854775807) (_ : n ≤ c) (_ : m ≤ e)
  (A2 : Option Addr) (n2 c2 : Nat) (B2 : Option Addr) (m2 e2 : Nat) (xs2 : List Int) (fs : List Ent) (h2 : Ints w w.heap.size A2 n2 xs2) (hn2 : n2 ≤ 9223372036854775807) (hv2 : Ents w w.heap.size B2 m2 fs) (hm2 : m2 ≤ 9223372036854775807) (_ : n2 ≤ c2) (_ : m2 ≤ e2)
  (Ao : Option Addr) (ro co : Nat) (os : List Int) (ha : Ints w w.heap.size Ao ro os) (hro : ro ≤ 9223372036854775807) :
    Calls Try.prog 3 #[.agg #[.slice A n c, .slice B m e], .agg #[.slice A2 n2 c2, .slice B2 m2 e2], .slice Ao ro co] w fun x w' => x = .returned (.bool true) ∧ Below w.heap.size w w' :=
  cooSorts_w A B A2 B2 Ao n c m e n2 c2 m2 e2 ro co xs xs2 os es fs w h hn hv hm h2 hn2 hv2 hm2 ha hro
end Go.Proofs.Ytpfabbapfmfmmaa
