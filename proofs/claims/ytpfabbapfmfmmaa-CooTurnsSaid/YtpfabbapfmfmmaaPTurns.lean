/- purflelaw02.CooTurns returns true at every list, tensor, order and mode. -/
import Derived.Test.YtpfabbapfmfmmaaPRBoth
import Derived.Test.YtpfabbapfmfmmaaG16
namespace Go.Proofs.Ytpfabbapfmfmmaa
open Go.RowKit


theorem eqE {S : List Int} {K : List KeyT} {es fs : List Ent} (h : Hid (es.map keyE = K)) (h2 : Hid (fs.map keyE = K)) : Hid ((decide (S = S) && decide (es.map keyV = fs.map keyV)) = true) := by
  unfold Hid
  rw [decide_eq_true rfl, decide_eq_true (keyV_of (h.out.trans h2.out.symm))]
  rfl

set_option maxRecDepth 100000 in
set_option maxHeartbeats 8000000 in
theorem turns_exit_few (A B DA DB Ao : Option Addr) (n c m e dn dc dm de ro co : Nat) (md : Int) (xs ds dv os : List Int) (es : List Ent) (w : World) (h : Ints w w.heap.size A n xs) (_hn : n ≤ 9223372036854775807) (hv : Ents w w.heap.size B m es) (_hm : m ≤ 9223372036854775807) (hd : DenV w DA dn DB dm ds dv) (_hdn : dn ≤ 9223372036854775807) (_hdm : dm ≤ 9223372036854775807) (ha : Ints w w.heap.size Ao ro os) (_hro : ro ≤ 9223372036854775807) (hx : fewC [((⟨A, n, c, B, m, e⟩ : Hdr), es)] = false) :
    Calls Try.prog 4 #[.agg #[.slice A n c, .slice B m e], .agg #[.slice DA dn dc, .slice DB dm de], .slice Ao ro co, .int .i64 md] w fun x w' => x = .returned (.bool true) ∧ Below w.heap.size w w' := by
  have VX : CooV w A n B m xs es := ⟨h, hv⟩
  have VD := hd
  have IA := ha
  clear h hv hd ha
  have HFW := Lib.hid hx
  clear hx
  go_enter Try.func4, Try.ntmps4
  have z0 := (Below.refl w.heap.size w).alloc (Nat.le_refl _) (.cells #[.slice A n c, .slice B m e] 25)
  have hal := z0.alloc z0.size (.cells #[.slice DA dn dc, .slice DB dm de] 41)
  have QX := zf_two w (.cells #[.slice A n c, .slice B m e] 25) (.cells #[.slice DA dn dc, .slice DB dm de] 41)
  have QD := zf_snd w (.cells #[.slice DA dn dc, .slice DB dm de] 41) (.cells #[.slice A n c, .slice B m e] 25)
  obtain ⟨w1, hw⟩ : ∃ W, (w.alloc (.cells #[.slice A n c, .slice B m e] 25)).alloc (.cells #[.slice DA dn dc, .slice DB dm de] 41) = W := ⟨_, rfl⟩
  rw [hw] at hal QX QD
  have HW := Lib.hid hw
  clear hw z0
  have hT := hal
  replace VX := VX.below hal
  replace VD := VD.below hal
  replace IA := (IA.below hal).more hal.size
  go_upto_region 1 with fail
  rw [HW.out]
  clear HW hal
  go_wp2_with fail
  refine (cooLive_any _).mono ?_
  rintro x w2 ⟨rfl, hbk⟩
  replace hT := hT.trans (hbk.mono hT.size)
  replace QX := heapAt hbk QX
  replace QD := heapAt hbk QD
  replace VX := VX.below hbk
  replace VD := VD.below hbk
  replace IA := (IA.below hbk).more hbk.size
  clear hbk
  obtain ⟨QX0, QX1, _, _⟩ := pair_cells QX
  go_wp2_with fail
  refine (few_coo A B n c m e xs es _ VX false HFW).mono ?_
  rintro x w3 ⟨rfl, hbk⟩
  clear QX0 QX1
  replace hT := hT.trans (hbk.mono hT.size)
  replace QX := heapAt hbk QX
  replace QD := heapAt hbk QD
  replace VX := VX.below hbk
  replace VD := VD.below hbk
  replace IA := (IA.below hbk).more hbk.size
  clear hbk
  obtain ⟨QD0, QD1, _, _⟩ := pair_cells QD
  go_wp2_with fail
  go_ret
  exact ⟨rfl, hT⟩

set_option maxRecDepth 100000 in
set_option maxHeartbeats 8000000 in
theorem turns_exit_ro (A B DA DB Ao : Option Addr) (n c m e dn dc dm de ro co : Nat) (md : Int) (xs ds dv os : List Int) (es : List Ent) (w : World) (h : Ints w w.heap.size A n xs) (_hn : n ≤ 9223372036854775807) (hv : Ents w w.heap.size B m es) (_hm : m ≤ 9223372036854775807) (hd : DenV w DA dn DB dm ds dv) (_hdn : dn ≤ 9223372036854775807) (_hdm : dm ≤ 9223372036854775807) (ha : Ints w w.heap.size Ao ro os) (_hro : ro ≤ 9223372036854775807) (hf : fewC [((⟨A, n, c, B, m, e⟩ : Hdr), es)] = true) (hx : 20 < ro) :
    Calls Try.prog 4 #[.agg #[.slice A n c, .slice B m e], .agg #[.slice DA dn dc, .slice DB dm de], .slice Ao ro co, .int .i64 md] w fun x w' => x = .returned (.bool true) ∧ Below w.heap.size w w' := by
  have VX : CooV w A n B m xs es := ⟨h, hv⟩
  have VD := hd
  have IA := ha
  clear h hv hd ha
  have HFW := Lib.hid hf
  have d1 : decide (20 < (ro : Int)) = true := by simp; omega
  clear hf
  go_enter Try.func4, Try.ntmps4
  have z0 := (Below.refl w.heap.size w).alloc (Nat.le_refl _) (.cells #[.slice A n c, .slice B m e] 25)
  have hal := z0.alloc z0.size (.cells #[.slice DA dn dc, .slice DB dm de] 41)
  have QX := zf_two w (.cells #[.slice A n c, .slice B m e] 25) (.cells #[.slice DA dn dc, .slice DB dm de] 41)
  have QD := zf_snd w (.cells #[.slice DA dn dc, .slice DB dm de] 41) (.cells #[.slice A n c, .slice B m e] 25)
  obtain ⟨w1, hw⟩ : ∃ W, (w.alloc (.cells #[.slice A n c, .slice B m e] 25)).alloc (.cells #[.slice DA dn dc, .slice DB dm de] 41) = W := ⟨_, rfl⟩
  rw [hw] at hal QX QD
  have HW := Lib.hid hw
  clear hw z0
  have hT := hal
  replace VX := VX.below hal
  replace VD := VD.below hal
  replace IA := (IA.below hal).more hal.size
  go_upto_region 1 with fail
  rw [HW.out]
  clear HW hal
  go_wp2_with fail
  refine (cooLive_any _).mono ?_
  rintro x w2 ⟨rfl, hbk⟩
  replace hT := hT.trans (hbk.mono hT.size)
  replace QX := heapAt hbk QX
  replace QD := heapAt hbk QD
  replace VX := VX.below hbk
  replace VD := VD.below hbk
  replace IA := (IA.below hbk).more hbk.size
  clear hbk
  obtain ⟨QX0, QX1, _, _⟩ := pair_cells QX
  go_wp2_with fail
  refine (few_coo A B n c m e xs es _ VX true HFW).mono ?_
  rintro x w3 ⟨rfl, hbk⟩
  clear QX0 QX1
  replace hT := hT.trans (hbk.mono hT.size)
  replace QX := heapAt hbk QX
  replace QD := heapAt hbk QD
  replace VX := VX.below hbk
  replace VD := VD.below hbk
  replace IA := (IA.below hbk).more hbk.size
  clear hbk
  obtain ⟨QD0, QD1, _, _⟩ := pair_cells QD
  go_wp2_with fail
  go_ret
  exact ⟨rfl, hT⟩

set_option maxRecDepth 100000 in
set_option maxHeartbeats 8000000 in
theorem turns_exit_dn (A B DA DB Ao : Option Addr) (n c m e dn dc dm de ro co : Nat) (md : Int) (xs ds dv os : List Int) (es : List Ent) (w : World) (h : Ints w w.heap.size A n xs) (_hn : n ≤ 9223372036854775807) (hv : Ents w w.heap.size B m es) (_hm : m ≤ 9223372036854775807) (hd : DenV w DA dn DB dm ds dv) (_hdn : dn ≤ 9223372036854775807) (_hdm : dm ≤ 9223372036854775807) (ha : Ints w w.heap.size Ao ro os) (_hro : ro ≤ 9223372036854775807) (hf : fewC [((⟨A, n, c, B, m, e⟩ : Hdr), es)] = true) (h1 : ro ≤ 20) (hx : 20 < dn) :
    Calls Try.prog 4 #[.agg #[.slice A n c, .slice B m e], .agg #[.slice DA dn dc, .slice DB dm de], .slice Ao ro co, .int .i64 md] w fun x w' => x = .returned (.bool true) ∧ Below w.heap.size w w' := by
  have VX : CooV w A n B m xs es := ⟨h, hv⟩
  have VD := hd
  have IA := ha
  clear h hv hd ha
  have HFW := Lib.hid hf
  have d1 : decide (20 < (ro : Int)) = false := by simp; omega
  have d2 : decide (20 < (dn : Int)) = true := by simp; omega
  clear hf
  go_enter Try.func4, Try.ntmps4
  have z0 := (Below.refl w.heap.size w).alloc (Nat.le_refl _) (.cells #[.slice A n c, .slice B m e] 25)
  have hal := z0.alloc z0.size (.cells #[.slice DA dn dc, .slice DB dm de] 41)
  have QX := zf_two w (.cells #[.slice A n c, .slice B m e] 25) (.cells #[.slice DA dn dc, .slice DB dm de] 41)
  have QD := zf_snd w (.cells #[.slice DA dn dc, .slice DB dm de] 41) (.cells #[.slice A n c, .slice B m e] 25)
  obtain ⟨w1, hw⟩ : ∃ W, (w.alloc (.cells #[.slice A n c, .slice B m e] 25)).alloc (.cells #[.slice DA dn dc, .slice DB dm de] 41) = W := ⟨_, rfl⟩
  rw [hw] at hal QX QD
  have HW := Lib.hid hw
  clear hw z0
  have hT := hal
  replace VX := VX.below hal
  replace VD := VD.below hal
  replace IA := (IA.below hal).more hal.size
  go_upto_region 1 with fail
  rw [HW.out]
  clear HW hal
  go_wp2_with fail
  refine (cooLive_any _).mono ?_
  rintro x w2 ⟨rfl, hbk⟩
  replace hT := hT.trans (hbk.mono hT.size)
  replace QX := heapAt hbk QX
  replace QD := heapAt hbk QD
  replace VX := VX.below hbk
  replace VD := VD.below hbk
  replace IA := (IA.below hbk).more hbk.size
  clear hbk
  obtain ⟨QX0, QX1, _, _⟩ := pair_cells QX
  go_wp2_with fail
  refine (few_coo A B n c m e xs es _ VX true HFW).mono ?_
  rintro x w3 ⟨rfl, hbk⟩
  clear QX0 QX1
  replace hT := hT.trans (hbk.mono hT.size)
  replace QX := heapAt hbk QX
  replace QD := heapAt hbk QD
  replace VX := VX.below hbk
  replace VD := VD.below hbk
  replace IA := (IA.below hbk).more hbk.size
  clear hbk
  obtain ⟨QD0, QD1, _, _⟩ := pair_cells QD
  go_wp2_with fail
  go_ret
  exact ⟨rfl, hT⟩

set_option maxRecDepth 100000 in
set_option maxHeartbeats 8000000 in
theorem turns_exit_dm (A B DA DB Ao : Option Addr) (n c m e dn dc dm de ro co : Nat) (md : Int) (xs ds dv os : List Int) (es : List Ent) (w : World) (h : Ints w w.heap.size A n xs) (_hn : n ≤ 9223372036854775807) (hv : Ents w w.heap.size B m es) (_hm : m ≤ 9223372036854775807) (hd : DenV w DA dn DB dm ds dv) (_hdn : dn ≤ 9223372036854775807) (_hdm : dm ≤ 9223372036854775807) (ha : Ints w w.heap.size Ao ro os) (_hro : ro ≤ 9223372036854775807) (hf : fewC [((⟨A, n, c, B, m, e⟩ : Hdr), es)] = true) (h1 : ro ≤ 20) (h2 : dn ≤ 20) (hx : 70000 < dm) :
    Calls Try.prog 4 #[.agg #[.slice A n c, .slice B m e], .agg #[.slice DA dn dc, .slice DB dm de], .slice Ao ro co, .int .i64 md] w fun x w' => x = .returned (.bool true) ∧ Below w.heap.size w w' := by
  have VX : CooV w A n B m xs es := ⟨h, hv⟩
  have VD := hd
  have IA := ha
  clear h hv hd ha
  have HFW := Lib.hid hf
  have d1 : decide (20 < (ro : Int)) = false := by simp; omega
  have d2 : decide (20 < (dn : Int)) = false := by simp; omega
  have d3 : decide (70000 < (dm : Int)) = true := by simp; omega
  clear hf
  go_enter Try.func4, Try.ntmps4
  have z0 := (Below.refl w.heap.size w).alloc (Nat.le_refl _) (.cells #[.slice A n c, .slice B m e] 25)
  have hal := z0.alloc z0.size (.cells #[.slice DA dn dc, .slice DB dm de] 41)
  have QX := zf_two w (.cells #[.slice A n c, .slice B m e] 25) (.cells #[.slice DA dn dc, .slice DB dm de] 41)
  have QD := zf_snd w (.cells #[.slice DA dn dc, .slice DB dm de] 41) (.cells #[.slice A n c, .slice B m e] 25)
  obtain ⟨w1, hw⟩ : ∃ W, (w.alloc (.cells #[.slice A n c, .slice B m e] 25)).alloc (.cells #[.slice DA dn dc, .slice DB dm de] 41) = W := ⟨_, rfl⟩
  rw [hw] at hal QX QD
  have HW := Lib.hid hw
  clear hw z0
  have hT := hal
  replace VX := VX.below hal
  replace VD := VD.below hal
  replace IA := (IA.below hal).more hal.size
  go_upto_region 1 with fail
  rw [HW.out]
  clear HW hal
  go_wp2_with fail
  refine (cooLive_any _).mono ?_
  rintro x w2 ⟨rfl, hbk⟩
  replace hT := hT.trans (hbk.mono hT.size)
  replace QX := heapAt hbk QX
  replace QD := heapAt hbk QD
  replace VX := VX.below hbk
  replace VD := VD.below hbk
  replace IA := (IA.below hbk).more hbk.size
  clear hbk
  obtain ⟨QX0, QX1, _, _⟩ := pair_cells QX
  go_wp2_with fail
  refine (few_coo A B n c m e xs es _ VX true HFW).mono ?_
  rintro x w3 ⟨rfl, hbk⟩
  clear QX0 QX1
  replace hT := hT.trans (hbk.mono hT.size)
  replace QX := heapAt hbk QX
  replace QD := heapAt hbk QD
  replace VX := VX.below hbk
  replace VD := VD.below hbk
  replace IA := (IA.below hbk).more hbk.size
  clear hbk
  obtain ⟨QD0, QD1, _, _⟩ := pair_cells QD
  go_wp2_with fail
  go_ret
  exact ⟨rfl, hT⟩

set_option maxRecDepth 100000 in
set_option maxHeartbeats 8000000 in
theorem cooTurns_w (A B DA DB Ao : Option Addr) (n c m e dn dc dm de ro co : Nat) (md : Int) (xs ds dv os : List Int) (es : List Ent) (w : World) (h : Ints w w.heap.size A n xs) (hn : n ≤ 9223372036854775807) (hv : Ents w w.heap.size B m es) (hm : m ≤ 9223372036854775807) (hd : DenV w DA dn DB dm ds dv) (hdn : dn ≤ 9223372036854775807) (hdm : dm ≤ 9223372036854775807) (ha : Ints w w.heap.size Ao ro os) (hro : ro ≤ 9223372036854775807) :
    Calls Try.prog 4 #[.agg #[.slice A n c, .slice B m e], .agg #[.slice DA dn dc, .slice DB dm de], .slice Ao ro co, .int .i64 md] w fun x w' => x = .returned (.bool true) ∧ Below w.heap.size w w' := by
  by_cases hf : fewC [((⟨A, n, c, B, m, e⟩ : Hdr), es)] = true
  case neg => exact turns_exit_few A B DA DB Ao n c m e dn dc dm de ro co md xs ds dv os es w h hn hv hm hd hdn hdm ha hro (by simpa using hf)
  by_cases h1 : 20 < ro
  case pos => exact turns_exit_ro A B DA DB Ao n c m e dn dc dm de ro co md xs ds dv os es w h hn hv hm hd hdn hdm ha hro hf h1
  by_cases h2 : 20 < dn
  case pos => exact turns_exit_dn A B DA DB Ao n c m e dn dc dm de ro co md xs ds dv os es w h hn hv hm hd hdn hdm ha hro hf (by omega) h2
  by_cases h3 : 70000 < dm
  case pos => exact turns_exit_dm A B DA DB Ao n c m e dn dc dm de ro co md xs ds dv os es w h hn hv hm hd hdn hdm ha hro hf (by omega) (by omega) h3
  have VX : CooV w A n B m xs es := ⟨h, hv⟩
  have VD := hd
  have IA := ha
  clear h hv hd ha
  have hnm := fewC_one hf
  have hn1 := hnm.1
  have hm1 := hnm.2
  have HFW := Lib.hid hf
  have d1 : decide (20 < (ro : Int)) = false := by simp; omega
  have d2 : decide (20 < (dn : Int)) = false := by simp; omega
  have d3 : decide (70000 < (dm : Int)) = false := by simp; omega
  obtain ⟨S1, K1, E1, HA1, HA2⟩ := turn_both A B Ao n c m e ro co xs os es w VX (by omega) hm IA (by omega)
  obtain ⟨S2, V2, E2, HB1, HB2⟩ := dense_both A B n c m e xs es w VX (by omega) hm
  obtain ⟨S3, K3, E3, HC1, HC2⟩ := of_both DA DB dn dc dm de ds dv w VD (by omega)
  obtain ⟨L4, E4, HD1, HD2⟩ := count_both A B n c m e md xs es w VX (by omega) hm
  clear hf hnm h1 h2 h3
  go_enter Try.func4, Try.ntmps4
  have z0 := (Below.refl w.heap.size w).alloc (Nat.le_refl _) (.cells #[.slice A n c, .slice B m e] 25)
  have hal := z0.alloc z0.size (.cells #[.slice DA dn dc, .slice DB dm de] 41)
  have QX := zf_two w (.cells #[.slice A n c, .slice B m e] 25) (.cells #[.slice DA dn dc, .slice DB dm de] 41)
  have QD := zf_snd w (.cells #[.slice DA dn dc, .slice DB dm de] 41) (.cells #[.slice A n c, .slice B m e] 25)
  obtain ⟨w1, hw⟩ : ∃ W, (w.alloc (.cells #[.slice A n c, .slice B m e] 25)).alloc (.cells #[.slice DA dn dc, .slice DB dm de] 41) = W := ⟨_, rfl⟩
  rw [hw] at hal QX QD
  have HW := Lib.hid hw
  clear hw z0
  have hT := hal
  replace VX := VX.below hal
  replace VD := VD.below hal
  replace IA := (IA.below hal).more hal.size
  go_upto_region 1 with fail
  rw [HW.out]
  clear HW hal
  go_wp2_with fail
  refine (cooLive_any _).mono ?_
  rintro x w2 ⟨rfl, hbk⟩
  replace hT := hT.trans (hbk.mono hT.size)
  replace QX := heapAt hbk QX
  replace QD := heapAt hbk QD
  replace VX := VX.below hbk
  replace VD := VD.below hbk
  replace IA := (IA.below hbk).more hbk.size
  clear hbk
  obtain ⟨QX0, QX1, _, _⟩ := pair_cells QX
  go_wp2_with fail
  refine (few_coo A B n c m e xs es _ VX true HFW).mono ?_
  rintro x w3 ⟨rfl, hbk⟩
  clear QX0 QX1
  replace hT := hT.trans (hbk.mono hT.size)
  replace QX := heapAt hbk QX
  replace QD := heapAt hbk QD
  replace VX := VX.below hbk
  replace VD := VD.below hbk
  replace IA := (IA.below hbk).more hbk.size
  clear hbk
  obtain ⟨QD0, QD1, _, _⟩ := pair_cells QD
  clear QD0 QD1
  obtain ⟨QX0, QX1, _, _⟩ := pair_cells QX
  obtain ⟨QD0, QD1, _, _⟩ := pair_cells QD
  go_wp2_with fail
  refine (HA1 _ hT).mono ?_
  rintro x w4 ⟨A11, n11, c11, B11, m11, e11, T11, rfl, W11, HK11, hn11, hm11, hx11, hbk⟩
  clear QX0 QX1 QD0 QD1
  replace hT := hT.trans (hbk.mono hT.size)
  replace QX := heapAt hbk QX
  replace QD := heapAt hbk QD
  replace VX := VX.below hbk
  replace VD := VD.below hbk
  replace IA := (IA.below hbk).more hbk.size
  clear hbk
  have hal := (Below.refl w4.heap.size w4).alloc (Nat.le_refl _) (.cells #[.slice A11 n11 c11, .slice B11 m11 e11] 25)
  have Q11 := heap_alloc_new w4 (.cells #[.slice A11 n11 c11, .slice B11 m11 e11] 25)
  obtain ⟨w5, hw⟩ : ∃ W, w4.alloc (.cells #[.slice A11 n11 c11, .slice B11 m11 e11] 25) = W := ⟨_, rfl⟩
  rw [hw] at hal Q11
  replace hT := hT.trans (hal.mono hT.size)
  replace QX := heapAt hal QX
  replace QD := heapAt hal QD
  replace VX := VX.below hal
  replace VD := VD.below hal
  replace W11 := W11.below hal
  replace IA := (IA.below hal).more hal.size
  have HW := Lib.hid hw
  clear hal hw
  go_upto_region 5 with fail
  rw [HW.out]
  clear HW
  obtain ⟨QX0, QX1, _, _⟩ := pair_cells QX
  go_wp2_with fail
  refine (HA2 _ hT).mono ?_
  rintro x w6 ⟨A12, n12, c12, B12, m12, e12, T12, rfl, W12, HK12, hn12, hm12, hx12, hbk⟩
  clear QX0 QX1
  replace hT := hT.trans (hbk.mono hT.size)
  replace QX := heapAt hbk QX
  replace QD := heapAt hbk QD
  replace Q11 := heapAt hbk Q11
  replace VX := VX.below hbk
  replace VD := VD.below hbk
  replace W11 := W11.below hbk
  replace IA := (IA.below hbk).more hbk.size
  clear hbk
  have hal := (Below.refl w6.heap.size w6).alloc (Nat.le_refl _) (.cells #[.slice A12 n12 c12, .slice B12 m12 e12] 25)
  have Q12 := heap_alloc_new w6 (.cells #[.slice A12 n12 c12, .slice B12 m12 e12] 25)
  obtain ⟨w7, hw⟩ : ∃ W, w6.alloc (.cells #[.slice A12 n12 c12, .slice B12 m12 e12] 25) = W := ⟨_, rfl⟩
  rw [hw] at hal Q12
  replace hT := hT.trans (hal.mono hT.size)
  replace QX := heapAt hal QX
  replace QD := heapAt hal QD
  replace Q11 := heapAt hal Q11
  replace VX := VX.below hal
  replace VD := VD.below hal
  replace W11 := W11.below hal
  replace W12 := W12.below hal
  replace IA := (IA.below hal).more hal.size
  have HW := Lib.hid hw
  clear hal hw
  go_upto_region 6 with fail
  rw [HW.out]
  clear HW
  obtain ⟨QX0, QX1, _, _⟩ := pair_cells QX
  go_wp2_with fail
  refine (HB1 _ hT).mono ?_
  rintro x w8 ⟨A13, n13, c13, B13, m13, e13, rfl, W13, hn13, hm13, hbk⟩
  clear QX0 QX1
  replace hT := hT.trans (hbk.mono hT.size)
  replace QX := heapAt hbk QX
  replace QD := heapAt hbk QD
  replace Q11 := heapAt hbk Q11
  replace Q12 := heapAt hbk Q12
  replace VX := VX.below hbk
  replace VD := VD.below hbk
  replace W11 := W11.below hbk
  replace W12 := W12.below hbk
  replace IA := (IA.below hbk).more hbk.size
  clear hbk
  have hal := (Below.refl w8.heap.size w8).alloc (Nat.le_refl _) (.cells #[.slice A13 n13 c13, .slice B13 m13 e13] 41)
  have Q13 := heap_alloc_new w8 (.cells #[.slice A13 n13 c13, .slice B13 m13 e13] 41)
  obtain ⟨w9, hw⟩ : ∃ W, w8.alloc (.cells #[.slice A13 n13 c13, .slice B13 m13 e13] 41) = W := ⟨_, rfl⟩
  rw [hw] at hal Q13
  replace hT := hT.trans (hal.mono hT.size)
  replace QX := heapAt hal QX
  replace QD := heapAt hal QD
  replace Q11 := heapAt hal Q11
  replace Q12 := heapAt hal Q12
  replace VX := VX.below hal
  replace VD := VD.below hal
  replace W11 := W11.below hal
  replace W12 := W12.below hal
  replace W13 := W13.below hal
  replace IA := (IA.below hal).more hal.size
  have HW := Lib.hid hw
  clear hal hw
  go_upto_region 7 with fail
  rw [HW.out]
  clear HW
  obtain ⟨QX0, QX1, _, _⟩ := pair_cells QX
  go_wp2_with fail
  refine (HB2 _ hT).mono ?_
  rintro x w10 ⟨A14, n14, c14, B14, m14, e14, rfl, W14, hn14, hm14, hbk⟩
  clear QX0 QX1
  replace hT := hT.trans (hbk.mono hT.size)
  replace QX := heapAt hbk QX
  replace QD := heapAt hbk QD
  replace Q11 := heapAt hbk Q11
  replace Q12 := heapAt hbk Q12
  replace Q13 := heapAt hbk Q13
  replace VX := VX.below hbk
  replace VD := VD.below hbk
  replace W11 := W11.below hbk
  replace W12 := W12.below hbk
  replace W13 := W13.below hbk
  replace IA := (IA.below hbk).more hbk.size
  clear hbk
  have hal := (Below.refl w10.heap.size w10).alloc (Nat.le_refl _) (.cells #[.slice A14 n14 c14, .slice B14 m14 e14] 41)
  have Q14 := heap_alloc_new w10 (.cells #[.slice A14 n14 c14, .slice B14 m14 e14] 41)
  obtain ⟨w11, hw⟩ : ∃ W, w10.alloc (.cells #[.slice A14 n14 c14, .slice B14 m14 e14] 41) = W := ⟨_, rfl⟩
  rw [hw] at hal Q14
  replace hT := hT.trans (hal.mono hT.size)
  replace QX := heapAt hal QX
  replace QD := heapAt hal QD
  replace Q11 := heapAt hal Q11
  replace Q12 := heapAt hal Q12
  replace Q13 := heapAt hal Q13
  replace VX := VX.below hal
  replace VD := VD.below hal
  replace W11 := W11.below hal
  replace W12 := W12.below hal
  replace W13 := W13.below hal
  replace W14 := W14.below hal
  replace IA := (IA.below hal).more hal.size
  have HW := Lib.hid hw
  clear hal hw
  go_upto_region 8 with fail
  rw [HW.out]
  clear HW
  obtain ⟨QD0, QD1, _, _⟩ := pair_cells QD
  go_wp2_with fail
  refine (HC1 _ hT).mono ?_
  rintro x w12 ⟨A15, n15, c15, B15, m15, e15, T15, rfl, W15, HK15, hn15, hm15, hx15, hbk⟩
  clear QD0 QD1
  replace hT := hT.trans (hbk.mono hT.size)
  replace QX := heapAt hbk QX
  replace QD := heapAt hbk QD
  replace Q11 := heapAt hbk Q11
  replace Q12 := heapAt hbk Q12
  replace Q13 := heapAt hbk Q13
  replace Q14 := heapAt hbk Q14
  replace VX := VX.below hbk
  replace VD := VD.below hbk
  replace W11 := W11.below hbk
  replace W12 := W12.below hbk
  replace W13 := W13.below hbk
  replace W14 := W14.below hbk
  replace IA := (IA.below hbk).more hbk.size
  clear hbk
  have hal := (Below.refl w12.heap.size w12).alloc (Nat.le_refl _) (.cells #[.slice A15 n15 c15, .slice B15 m15 e15] 25)
  have Q15 := heap_alloc_new w12 (.cells #[.slice A15 n15 c15, .slice B15 m15 e15] 25)
  obtain ⟨w13, hw⟩ : ∃ W, w12.alloc (.cells #[.slice A15 n15 c15, .slice B15 m15 e15] 25) = W := ⟨_, rfl⟩
  rw [hw] at hal Q15
  replace hT := hT.trans (hal.mono hT.size)
  replace QX := heapAt hal QX
  replace QD := heapAt hal QD
  replace Q11 := heapAt hal Q11
  replace Q12 := heapAt hal Q12
  replace Q13 := heapAt hal Q13
  replace Q14 := heapAt hal Q14
  replace VX := VX.below hal
  replace VD := VD.below hal
  replace W11 := W11.below hal
  replace W12 := W12.below hal
  replace W13 := W13.below hal
  replace W14 := W14.below hal
  replace W15 := W15.below hal
  replace IA := (IA.below hal).more hal.size
  have HW := Lib.hid hw
  clear hal hw
  go_upto_region 9 with fail
  rw [HW.out]
  clear HW
  obtain ⟨QD0, QD1, _, _⟩ := pair_cells QD
  go_wp2_with fail
  refine (HC2 _ hT).mono ?_
  rintro x w14 ⟨A16, n16, c16, B16, m16, e16, T16, rfl, W16, HK16, hn16, hm16, hx16, hbk⟩
  clear QD0 QD1
  replace hT := hT.trans (hbk.mono hT.size)
  replace QX := heapAt hbk QX
  replace QD := heapAt hbk QD
  replace Q11 := heapAt hbk Q11
  replace Q12 := heapAt hbk Q12
  replace Q13 := heapAt hbk Q13
  replace Q14 := heapAt hbk Q14
  replace Q15 := heapAt hbk Q15
  replace VX := VX.below hbk
  replace VD := VD.below hbk
  replace W11 := W11.below hbk
  replace W12 := W12.below hbk
  replace W13 := W13.below hbk
  replace W14 := W14.below hbk
  replace W15 := W15.below hbk
  replace IA := (IA.below hbk).more hbk.size
  clear hbk
  have hal := (Below.refl w14.heap.size w14).alloc (Nat.le_refl _) (.cells #[.slice A16 n16 c16, .slice B16 m16 e16] 25)
  have Q16 := heap_alloc_new w14 (.cells #[.slice A16 n16 c16, .slice B16 m16 e16] 25)
  obtain ⟨w15, hw⟩ : ∃ W, w14.alloc (.cells #[.slice A16 n16 c16, .slice B16 m16 e16] 25) = W := ⟨_, rfl⟩
  rw [hw] at hal Q16
  replace hT := hT.trans (hal.mono hT.size)
  replace QX := heapAt hal QX
  replace QD := heapAt hal QD
  replace Q11 := heapAt hal Q11
  replace Q12 := heapAt hal Q12
  replace Q13 := heapAt hal Q13
  replace Q14 := heapAt hal Q14
  replace Q15 := heapAt hal Q15
  replace VX := VX.below hal
  replace VD := VD.below hal
  replace W11 := W11.below hal
  replace W12 := W12.below hal
  replace W13 := W13.below hal
  replace W14 := W14.below hal
  replace W15 := W15.below hal
  replace W16 := W16.below hal
  replace IA := (IA.below hal).more hal.size
  have HW := Lib.hid hw
  clear hal hw
  go_upto_region 10 with fail
  rw [HW.out]
  clear HW
  obtain ⟨QX0, QX1, _, _⟩ := pair_cells QX
  go_wp2_with fail
  refine (HD1 _ hT).mono ?_
  rintro x w16 ⟨A17, n17, c17, rfl, W17, hn17, hbk⟩
  clear QX0 QX1
  replace hT := hT.trans (hbk.mono hT.size)
  replace QX := heapAt hbk QX
  replace QD := heapAt hbk QD
  replace Q11 := heapAt hbk Q11
  replace Q12 := heapAt hbk Q12
  replace Q13 := heapAt hbk Q13
  replace Q14 := heapAt hbk Q14
  replace Q15 := heapAt hbk Q15
  replace Q16 := heapAt hbk Q16
  replace VX := VX.below hbk
  replace VD := VD.below hbk
  replace W11 := W11.below hbk
  replace W12 := W12.below hbk
  replace W13 := W13.below hbk
  replace W14 := W14.below hbk
  replace W15 := W15.below hbk
  replace W16 := W16.below hbk
  replace IA := (IA.below hbk).more hbk.size
  clear hbk
  obtain ⟨QX0, QX1, _, _⟩ := pair_cells QX
  go_wp2_with fail
  refine (HD2 _ hT).mono ?_
  rintro x w17 ⟨A18, n18, c18, rfl, W18, hn18, hbk⟩
  clear QX0 QX1
  replace hT := hT.trans (hbk.mono hT.size)
  replace QX := heapAt hbk QX
  replace QD := heapAt hbk QD
  replace Q11 := heapAt hbk Q11
  replace Q12 := heapAt hbk Q12
  replace Q13 := heapAt hbk Q13
  replace Q14 := heapAt hbk Q14
  replace Q15 := heapAt hbk Q15
  replace Q16 := heapAt hbk Q16
  replace VX := VX.below hbk
  replace VD := VD.below hbk
  replace W11 := W11.below hbk
  replace W12 := W12.below hbk
  replace W13 := W13.below hbk
  replace W14 := W14.below hbk
  replace W15 := W15.below hbk
  replace W16 := W16.below hbk
  replace IA := (IA.below hbk).more hbk.size
  replace W17 := (W17.below hbk).more hbk.size
  clear hbk
  obtain ⟨Q110, Q111, _, _⟩ := pair_cells Q11
  obtain ⟨Q120, Q121, _, _⟩ := pair_cells Q12
  go_wp2_with fail
  refine (refEqualsE A11 B11 A12 B12 n11 c11 m11 e11 n12 c12 m12 e12 _ _ T11 T12 _ W11 W12 hn11 hm11 (by omega) (by omega) hx11 true (eqE HK11 HK12)).mono ?_
  rintro x w18 ⟨rfl, hbk⟩
  clear Q110 Q111 Q120 Q121
  replace hT := hT.trans (hbk.mono hT.size)
  replace QX := heapAt hbk QX
  replace QD := heapAt hbk QD
  replace Q11 := heapAt hbk Q11
  replace Q12 := heapAt hbk Q12
  replace Q13 := heapAt hbk Q13
  replace Q14 := heapAt hbk Q14
  replace Q15 := heapAt hbk Q15
  replace Q16 := heapAt hbk Q16
  replace VX := VX.below hbk
  replace VD := VD.below hbk
  replace W11 := W11.below hbk
  replace W12 := W12.below hbk
  replace W13 := W13.below hbk
  replace W14 := W14.below hbk
  replace W15 := W15.below hbk
  replace W16 := W16.below hbk
  replace IA := (IA.below hbk).more hbk.size
  replace W17 := (W17.below hbk).more hbk.size
  replace W18 := (W18.below hbk).more hbk.size
  clear hbk
  have HQ := equals_any A13 B13 A14 B14 n13 c13 m13 e13 n14 c14 m14 e14 S2 V2 S2 V2 _ W13.1 W13.2 W14.1 W14.2 hn13 hm13 (by omega) (by omega)
  simp only [decide_true, Bool.and_true] at HQ
  obtain ⟨Q130, Q131, _, _⟩ := pair_cells Q13
  obtain ⟨Q140, Q141, _, _⟩ := pair_cells Q14
  go_wp2_with fail
  refine (HQ).mono ?_
  rintro x w19 ⟨rfl, hbk⟩
  clear Q130 Q131 Q140 Q141
  replace hT := hT.trans (hbk.mono hT.size)
  replace QX := heapAt hbk QX
  replace QD := heapAt hbk QD
  replace Q11 := heapAt hbk Q11
  replace Q12 := heapAt hbk Q12
  replace Q13 := heapAt hbk Q13
  replace Q14 := heapAt hbk Q14
  replace Q15 := heapAt hbk Q15
  replace Q16 := heapAt hbk Q16
  replace VX := VX.below hbk
  replace VD := VD.below hbk
  replace W11 := W11.below hbk
  replace W12 := W12.below hbk
  replace W13 := W13.below hbk
  replace W14 := W14.below hbk
  replace W15 := W15.below hbk
  replace W16 := W16.below hbk
  replace IA := (IA.below hbk).more hbk.size
  replace W17 := (W17.below hbk).more hbk.size
  replace W18 := (W18.below hbk).more hbk.size
  clear hbk
  obtain ⟨Q150, Q151, _, _⟩ := pair_cells Q15
  obtain ⟨Q160, Q161, _, _⟩ := pair_cells Q16
  go_wp2_with fail
  refine (refEqualsE A15 B15 A16 B16 n15 c15 m15 e15 n16 c16 m16 e16 _ _ T15 T16 _ W15 W16 hn15 hm15 (by omega) (by omega) hx15 true (eqE HK15 HK16)).mono ?_
  rintro x w20 ⟨rfl, hbk⟩
  clear Q150 Q151 Q160 Q161
  replace hT := hT.trans (hbk.mono hT.size)
  replace QX := heapAt hbk QX
  replace QD := heapAt hbk QD
  replace Q11 := heapAt hbk Q11
  replace Q12 := heapAt hbk Q12
  replace Q13 := heapAt hbk Q13
  replace Q14 := heapAt hbk Q14
  replace Q15 := heapAt hbk Q15
  replace Q16 := heapAt hbk Q16
  replace VX := VX.below hbk
  replace VD := VD.below hbk
  replace W11 := W11.below hbk
  replace W12 := W12.below hbk
  replace W13 := W13.below hbk
  replace W14 := W14.below hbk
  replace W15 := W15.below hbk
  replace W16 := W16.below hbk
  replace IA := (IA.below hbk).more hbk.size
  replace W17 := (W17.below hbk).more hbk.size
  replace W18 := (W18.below hbk).more hbk.size
  clear hbk
  have HQ2 := refEqual_any A17 A18 n17 n18 c17 c18 L4 L4 w20 w20.heap.size W17 W18 hn17 (by omega)
  simp only [decide_true] at HQ2
  go_wp2_with fail
  refine HQ2.mono ?_
  rintro x wf ⟨rfl, mf, rfl⟩
  go_wp2_with fail
  go_ret
  exact ⟨rfl, below_drewN hT _⟩

theorem cooTurns_any (w : World) (A : Option Addr) (n c : Nat) (B : Option Addr) (m e : Nat) (xs : List Int) (es : List Ent) (h : Ints w w.heap.size A n xs) (hn : n ≤ 9223372036854775807) (hv : Ents w w.heap.size B m es) (hm : m ≤ 9223372036854775807) (_ : n ≤ c) (_ : m ≤ e)
  (DA : Option Addr) (dn dc : Nat) (DB : Option Addr) (dm de : Nat) (ds dv : List Int) (hd : Ints w w.heap.size DA dn ds) (hdn : dn ≤ 9223372036854775807) (hd2 : Ints w w.heap.size DB dm dv) (hdm : dm ≤ 9223372036854775807)
  (Ao : Option Addr) (ro co : Nat) (os : List Int) (ha : Ints w w.heap.size Ao ro os) (hro : ro ≤ 9223372036854775807) (md : Int) (_ : -9223372036854775808 ≤ md) (_ : md ≤ 9223372036854775807) :
    Calls Try.prog 4 #[.agg #[.slice A n c, .slice B m e], .agg #[.slice DA dn dc, .slice DB dm de], .slice Ao ro co, .int .i64 md] w fun x w' => x = .returned (.bool true) ∧ Below w.heap.size w w' :=
  cooTurns_w A B DA DB Ao n c m e dn dc dm de ro co md xs ds dv os es w h hn hv hm ⟨hd, hd2⟩ hdn hdm ha hro
end Go.Proofs.Ytpfabbapfmfmmaa
