/- purflelaw02.CooKeeps returns true at every list and order. -/
import Derived.Test.YtapbcmhkipaecaaPEOf
import Derived.Test.YtapbcmhkipaecaaG14
namespace Go.Proofs.Ytapbcmhkipaecaa
open Go.RowKit

theorem cooF_keys {xs : List Int} {es fs : List Ent} (h : es.map keyE = fs.map keyE) (hE : cooF xs es = 0) : cooF xs fs = 0 := by
  refine cooF_of hE ?_ fun x hx => ?_
  · have := congrArg List.length h
    rw [List.length_map, List.length_map] at this
    omega
  · have : keyE x ∈ es.map keyE := by rw [h]; exact List.mem_map_of_mem hx
    exact map_cs ⟨keyE x, this, rfl⟩
theorem denE_zero {xs : List Int} {es : List Ent} (h : denE xs es = 0) : cooF xs es = 0 ∧ (laidF xs).2 = 0 := by
  unfold denE at h
  by_cases h0 : cooF xs es = 0
  · rw [if_pos h0] at h; exact ⟨h0, h⟩
  · rw [if_neg h0] at h; exact absurd h h0
theorem denE_of {xs : List Int} {es : List Ent} (h : cooF xs es = 0) (h2 : (laidF xs).2 = 0) : denE xs es = 0 := by unfold denE; rw [if_pos h, h2]
theorem sameF_t {xs ys : List Int} {m : Nat} (h : checkF xs m = 0) : sameF xs m xs ys ys = true := by unfold sameF; rw [h]; simp
theorem sortE'_one {xs os : List Int} {n : Nat} {es : List Ent} (h0 : cooF xs es = 0) : sortE' xs os n es = 0 ∨ sortE' xs os n es = 1 := by
  unfold sortE'
  rw [if_pos h0]
  by_cases h : OrdOk n os
  · rw [if_pos h]; exact .inl rfl
  · rw [if_neg h]; exact .inr rfl
theorem ordOk_of {xs os : List Int} {n : Nat} {es : List Ent} (ha : sortE' xs os n es = 0) : cooF xs es = 0 ∧ OrdOk n os := by
  unfold sortE' at ha
  by_cases h0 : cooF xs es = 0
  · rw [if_pos h0] at ha
    refine ⟨h0, ?_⟩
    by_cases h : OrdOk n os
    · exact h
    · rw [if_neg h] at ha; cases ha
  · rw [if_neg h0] at ha; exact absurd ha h0
/-- one of the lists that are laid out -/
def OneL (w : World) (g k n : Nat) (xs : List Int) (K : List KeyT) : Prop := ∃ A c B m e zs, w.cell? ⟨g, k * 2, none⟩ = some (.slice A n c) ∧ w.cell? ⟨g, k * 2 + 1, none⟩ = some (.slice B m e) ∧ CooV w A n B m xs zs ∧ m ≤ 65536 ∧ cooF xs zs = 0 ∧ denseK xs (zs.map keyE) = denseK xs K

set_option maxRecDepth 100000 in
set_option maxHeartbeats 8000000 in
theorem keeps_exit1 (A B Ao : Option Addr) (n c m e ro co : Nat) (xs os : List Int) (es : List Ent) (w : World) (h : Ints w w.heap.size A n xs) (_hn : n ≤ 9223372036854775807) (hv : Ents w w.heap.size B m es) (_hm : m ≤ 9223372036854775807) (ha : Ints w w.heap.size Ao ro os) (hro : ro ≤ 9223372036854775807) (hx : ¬ (fewC [((⟨A, n, c, B, m, e⟩ : Hdr), es)] = true ∧ ro ≤ 20)) :
    Calls Try.prog 5 #[.agg #[.slice A n c, .slice B m e], .slice Ao ro co] w fun x w' => x = .returned (.bool true) ∧ Below w.heap.size w w' := by
  have VX : CooV w A n B m xs es := ⟨h, hv⟩
  have IA := ha
  clear h hv ha
  obtain ⟨R, hR⟩ : ∃ R, fewC [((⟨A, n, c, B, m, e⟩ : Hdr), es)] = R := ⟨_, rfl⟩
  rw [hR] at hx
  have HFW := Lib.hid hR
  clear hR
  by_cases h1 : R = true
  · subst h1
    have d1 : decide (20 < (ro : Int)) = true := by have q : 20 < ro := Nat.lt_of_not_le fun h3 => hx ⟨rfl, h3⟩; simp; omega
    clear hx
    go_enter Try.func5, Try.ntmps5
    have hal := (Below.refl w.heap.size w).alloc (Nat.le_refl _) (.cells #[.slice A n c, .slice B m e] 25)
    have QX := heap_alloc_new w (.cells #[.slice A n c, .slice B m e] 25)
    obtain ⟨w1, hw⟩ : ∃ W, w.alloc (.cells #[.slice A n c, .slice B m e] 25) = W := ⟨_, rfl⟩
    rw [hw] at hal QX
    have hT := hal
    replace VX := VX.below hal
    replace IA := (IA.below hal).more hal.size
    have HW := Lib.hid hw
    clear hal hw
    go_upto_region 1 with fail
    rw [HW.out]
    clear HW
    go_wp2_with fail
    refine (cooLive_any _).mono ?_
    rintro x w2 ⟨rfl, hbk⟩
    replace hT := hT.trans (hbk.mono hT.size)
    replace QX := heapAt hbk QX
    replace VX := VX.below hbk
    replace IA := (IA.below hbk).more hbk.size
    clear hbk
    obtain ⟨QX0, QX1, _, _⟩ := pair_cells QX
    go_wp2_with fail
    refine (few_coo A B n c m e xs es _ VX true HFW).mono ?_
    rintro x w3 ⟨rfl, hbk⟩
    clear QX0 QX1
    replace hT := hT.trans (hbk.mono hT.size)
    replace QX := heapAt hbk QX
    replace VX := VX.below hbk
    replace IA := (IA.below hbk).more hbk.size
    clear hbk
    go_wp2_with fail
    go_ret
    exact ⟨rfl, hT⟩
  · obtain rfl : R = false := by simpa using h1
    clear hx h1
    go_enter Try.func5, Try.ntmps5
    have hal := (Below.refl w.heap.size w).alloc (Nat.le_refl _) (.cells #[.slice A n c, .slice B m e] 25)
    have QX := heap_alloc_new w (.cells #[.slice A n c, .slice B m e] 25)
    obtain ⟨w1, hw⟩ : ∃ W, w.alloc (.cells #[.slice A n c, .slice B m e] 25) = W := ⟨_, rfl⟩
    rw [hw] at hal QX
    have hT := hal
    replace VX := VX.below hal
    replace IA := (IA.below hal).more hal.size
    have HW := Lib.hid hw
    clear hal hw
    go_upto_region 1 with fail
    rw [HW.out]
    clear HW
    go_wp2_with fail
    refine (cooLive_any _).mono ?_
    rintro x w2 ⟨rfl, hbk⟩
    replace hT := hT.trans (hbk.mono hT.size)
    replace QX := heapAt hbk QX
    replace VX := VX.below hbk
    replace IA := (IA.below hbk).more hbk.size
    clear hbk
    obtain ⟨QX0, QX1, _, _⟩ := pair_cells QX
    go_wp2_with fail
    refine (few_coo A B n c m e xs es _ VX false HFW).mono ?_
    rintro x w3 ⟨rfl, hbk⟩
    clear QX0 QX1
    replace hT := hT.trans (hbk.mono hT.size)
    replace QX := heapAt hbk QX
    replace VX := VX.below hbk
    replace IA := (IA.below hbk).more hbk.size
    clear hbk
    go_wp2_with fail
    go_ret
    exact ⟨rfl, hT⟩

set_option maxRecDepth 100000 in
set_option maxHeartbeats 8000000 in
theorem keeps_exit2 (A B Ao : Option Addr) (n c m e ro co : Nat) (xs os : List Int) (es : List Ent) (w : World) (h : Ints w w.heap.size A n xs) (hn : n ≤ 9223372036854775807) (hv : Ents w w.heap.size B m es) (hm : m ≤ 9223372036854775807) (ha : Ints w w.heap.size Ao ro os) (hro : ro ≤ 9223372036854775807) (hf : fewC [((⟨A, n, c, B, m, e⟩ : Hdr), es)] = true) (h2 : ro ≤ 20) (hx : denE xs es ≠ 0) :
    Calls Try.prog 5 #[.agg #[.slice A n c, .slice B m e], .slice Ao ro co] w fun x w' => x = .returned (.bool true) ∧ Below w.heap.size w w' := by
  have VX : CooV w A n B m xs es := ⟨h, hv⟩
  have IA := ha
  clear h hv ha
  have hnm := fewC_one hf
  have hn1 := hnm.1
  have hm1 := hnm.2
  have HFW := Lib.hid hf
  have d1 : decide (20 < (ro : Int)) = false := by simp; omega
  obtain ⟨E, hE⟩ : ∃ E, denE xs es = E := ⟨_, rfl⟩
  rw [hE] at hx
  have HE := Lib.hid hE
  have HX := Lib.hid hx
  have d3 : (E != 0) = true := by simpa using hx
  have d3' : (E == 0) = false := by simpa using hx
  clear hf hnm hE hx
  go_enter Try.func5, Try.ntmps5
  have hal := (Below.refl w.heap.size w).alloc (Nat.le_refl _) (.cells #[.slice A n c, .slice B m e] 25)
  have QX := heap_alloc_new w (.cells #[.slice A n c, .slice B m e] 25)
  obtain ⟨w1, hw⟩ : ∃ W, w.alloc (.cells #[.slice A n c, .slice B m e] 25) = W := ⟨_, rfl⟩
  rw [hw] at hal QX
  have hT := hal
  replace VX := VX.below hal
  replace IA := (IA.below hal).more hal.size
  have HW := Lib.hid hw
  clear hal hw
  go_upto_region 1 with fail
  rw [HW.out]
  clear HW
  go_wp2_with fail
  refine (cooLive_any _).mono ?_
  rintro x w2 ⟨rfl, hbk⟩
  replace hT := hT.trans (hbk.mono hT.size)
  replace QX := heapAt hbk QX
  replace VX := VX.below hbk
  replace IA := (IA.below hbk).more hbk.size
  clear hbk
  obtain ⟨QX0, QX1, _, _⟩ := pair_cells QX
  go_wp2_with fail
  refine (few_coo A B n c m e xs es _ VX true HFW).mono ?_
  rintro x w3 ⟨rfl, hbk⟩
  clear QX0 QX1
  replace hT := hT.trans (hbk.mono hT.size)
  replace QX := heapAt hbk QX
  replace VX := VX.below hbk
  replace IA := (IA.below hbk).more hbk.size
  clear hbk
  obtain ⟨QX0, QX1, _, _⟩ := pair_cells QX
  go_wp2_with fail
  refine (denV_bad A B n c m e xs es _ VX (by omega) (by omega) E HE HX.out).mono ?_
  rintro x w4 ⟨rfl, hbk⟩
  clear QX0 QX1
  replace hT := hT.trans (hbk.mono hT.size)
  replace QX := heapAt hbk QX
  replace VX := VX.below hbk
  replace IA := (IA.below hbk).more hbk.size
  clear hbk
  have hal := (Below.refl w4.heap.size w4).alloc (Nat.le_refl _) (.cells #[.slice none 0 0, .slice none 0 0] 41)
  have QD := heap_alloc_new w4 (.cells #[.slice none 0 0, .slice none 0 0] 41)
  obtain ⟨w5, hw⟩ : ∃ W, w4.alloc (.cells #[.slice none 0 0, .slice none 0 0] 41) = W := ⟨_, rfl⟩
  rw [hw] at hal QD
  replace hT := hT.trans (hal.mono hT.size)
  replace QX := heapAt hal QX
  replace VX := VX.below hal
  replace IA := (IA.below hal).more hal.size
  have HW := Lib.hid hw
  clear hal hw
  go_upto_region 5 with fail
  rw [HW.out]
  clear HW
  go_wp2_with fail
  go_ret
  exact ⟨rfl, hT⟩

set_option maxRecDepth 100000 in
set_option maxHeartbeats 8000000 in
theorem keeps_exit3 (A B Ao : Option Addr) (n c m e ro co : Nat) (xs os : List Int) (es : List Ent) (w : World) (h : Ints w w.heap.size A n xs) (hn : n ≤ 9223372036854775807) (hv : Ents w w.heap.size B m es) (hm : m ≤ 9223372036854775807) (ha : Ints w w.heap.size Ao ro os) (hro : ro ≤ 9223372036854775807) (hf : fewC [((⟨A, n, c, B, m, e⟩ : Hdr), es)] = true) (h2 : ro ≤ 20) (hd : denE xs es = 0) (hx : sortE' xs os n es = 1) :
    Calls Try.prog 5 #[.agg #[.slice A n c, .slice B m e], .slice Ao ro co] w fun x w' => x = .returned (.bool true) ∧ Below w.heap.size w w' := by
  have VX : CooV w A n B m xs es := ⟨h, hv⟩
  have IA := ha
  clear h hv ha
  have hnm := fewC_one hf
  have hn1 := hnm.1
  have hm1 := hnm.2
  have HFW := Lib.hid hf
  have d1 : decide (20 < (ro : Int)) = false := by simp; omega
  have HD := Lib.hid hd
  have HE := Lib.hid hx
  clear hf hnm hd hx
  go_enter Try.func5, Try.ntmps5
  have hal := (Below.refl w.heap.size w).alloc (Nat.le_refl _) (.cells #[.slice A n c, .slice B m e] 25)
  have QX := heap_alloc_new w (.cells #[.slice A n c, .slice B m e] 25)
  obtain ⟨w1, hw⟩ : ∃ W, w.alloc (.cells #[.slice A n c, .slice B m e] 25) = W := ⟨_, rfl⟩
  rw [hw] at hal QX
  have hT := hal
  replace VX := VX.below hal
  replace IA := (IA.below hal).more hal.size
  have HW := Lib.hid hw
  clear hal hw
  go_upto_region 1 with fail
  rw [HW.out]
  clear HW
  go_wp2_with fail
  refine (cooLive_any _).mono ?_
  rintro x w2 ⟨rfl, hbk⟩
  replace hT := hT.trans (hbk.mono hT.size)
  replace QX := heapAt hbk QX
  replace VX := VX.below hbk
  replace IA := (IA.below hbk).more hbk.size
  clear hbk
  obtain ⟨QX0, QX1, _, _⟩ := pair_cells QX
  go_wp2_with fail
  refine (few_coo A B n c m e xs es _ VX true HFW).mono ?_
  rintro x w3 ⟨rfl, hbk⟩
  clear QX0 QX1
  replace hT := hT.trans (hbk.mono hT.size)
  replace QX := heapAt hbk QX
  replace VX := VX.below hbk
  replace IA := (IA.below hbk).more hbk.size
  clear hbk
  obtain ⟨QX0, QX1, _, _⟩ := pair_cells QX
  go_wp2_with fail
  refine (denV_ok A B n c m e xs es _ VX (by omega) HD.out).mono ?_
  rintro x w4 ⟨A1, c1, A2, M, c2, rfl, VD, hM, HCK, hbk⟩
  clear QX0 QX1
  replace hT := hT.trans (hbk.mono hT.size)
  replace QX := heapAt hbk QX
  replace VX := VX.below hbk
  replace IA := (IA.below hbk).more hbk.size
  clear hbk
  have hal := (Below.refl w4.heap.size w4).alloc (Nat.le_refl _) (.cells #[.slice A1 n c1, .slice A2 M c2] 41)
  have QD := heap_alloc_new w4 (.cells #[.slice A1 n c1, .slice A2 M c2] 41)
  obtain ⟨w5, hw⟩ : ∃ W, w4.alloc (.cells #[.slice A1 n c1, .slice A2 M c2] 41) = W := ⟨_, rfl⟩
  rw [hw] at hal QD
  replace hT := hT.trans (hal.mono hT.size)
  replace QX := heapAt hal QX
  replace VX := VX.below hal
  replace VD := VD.below hal
  replace IA := (IA.below hal).more hal.size
  have HW := Lib.hid hw
  clear hal hw
  go_upto_region 5 with fail
  rw [HW.out]
  clear HW
  obtain ⟨QX0, QX1, _, _⟩ := pair_cells QX
  go_wp2_with fail
  refine (sortV_bad A B Ao n c m e ro co xs os es _ VX (by omega) (by omega) 1 HE (by decide) IA (by omega)).mono ?_
  rintro x w6 ⟨rfl, hbk⟩
  clear QX0 QX1
  replace hT := hT.trans (hbk.mono hT.size)
  replace QX := heapAt hbk QX
  replace QD := heapAt hbk QD
  replace VX := VX.below hbk
  replace VD := VD.below hbk
  replace IA := (IA.below hbk).more hbk.size
  clear hbk
  have hal := (Below.refl w6.heap.size w6).alloc (Nat.le_refl _) (.cells #[.slice none 0 0, .slice none 0 0] 25)
  have QS := heap_alloc_new w6 (.cells #[.slice none 0 0, .slice none 0 0] 25)
  obtain ⟨w7, hw⟩ : ∃ W, w6.alloc (.cells #[.slice none 0 0, .slice none 0 0] 25) = W := ⟨_, rfl⟩
  rw [hw] at hal QS
  replace hT := hT.trans (hal.mono hT.size)
  replace QX := heapAt hal QX
  replace QD := heapAt hal QD
  replace VX := VX.below hal
  replace VD := VD.below hal
  replace IA := (IA.below hal).more hal.size
  have HW := Lib.hid hw
  clear hal hw
  go_upto_region 8 with fail
  rw [HW.out]
  clear HW
  go_wp2_with fail
  go_ret
  exact ⟨rfl, hT⟩

set_option maxRecDepth 100000 in
set_option maxHeartbeats 8000000 in
theorem cooKeeps_w (A B Ao : Option Addr) (n c m e ro co : Nat) (xs os : List Int) (es : List Ent) (w : World) (h : Ints w w.heap.size A n xs) (hn : n ≤ 9223372036854775807) (hv : Ents w w.heap.size B m es) (hm : m ≤ 9223372036854775807) (ha : Ints w w.heap.size Ao ro os) (hro : ro ≤ 9223372036854775807) :
    Calls Try.prog 5 #[.agg #[.slice A n c, .slice B m e], .slice Ao ro co] w fun x w' => x = .returned (.bool true) ∧ Below w.heap.size w w' := by
  by_cases hq1 : fewC [((⟨A, n, c, B, m, e⟩ : Hdr), es)] = true ∧ ro ≤ 20
  case neg => exact keeps_exit1 A B Ao n c m e ro co xs os es w h hn hv hm ha hro hq1
  obtain ⟨hf, h2⟩ := hq1
  by_cases hd : denE xs es = 0
  case neg => exact keeps_exit2 A B Ao n c m e ro co xs os es w h hn hv hm ha hro hf h2 hd
  obtain ⟨hC0, hla⟩ := denE_zero hd
  rcases sortE'_one (os := os) (n := n) hC0 with hE | hE
  case inr => exact keeps_exit3 A B Ao n c m e ro co xs os es w h hn hv hm ha hro hf h2 hd hE
  have VX : CooV w A n B m xs es := ⟨h, hv⟩
  have IA := ha
  clear h hv ha
  have hnm := fewC_one hf
  have hn1 := hnm.1
  have hm1 := hnm.2
  have HFW := Lib.hid hf
  have d1 : decide (20 < (ro : Int)) = false := by simp; omega
  have HD := Lib.hid hd
  have HLA := Lib.hid hla
  have HE := Lib.hid hE
  have HC0 := Lib.hid hC0
  have HKA := Lib.hid (ordOk_of hE).2
  have HKO := Lib.hid (keyOk_of VX hC0)
  have HXL : Hid (xs.length = n) := VX.1.1
  have HEL : Hid (es.length = m) := VX.2.1
  have em : ((m : Int) == (m : Int)) = true := by simp
  have em' : ((m : Int) != (m : Int)) = false := by simp
  clear hf hnm hE hd hC0 hla
  go_enter Try.func5, Try.ntmps5
  have hal := (Below.refl w.heap.size w).alloc (Nat.le_refl _) (.cells #[.slice A n c, .slice B m e] 25)
  have QX := heap_alloc_new w (.cells #[.slice A n c, .slice B m e] 25)
  obtain ⟨w1, hw⟩ : ∃ W, w.alloc (.cells #[.slice A n c, .slice B m e] 25) = W := ⟨_, rfl⟩
  rw [hw] at hal QX
  have hT := hal
  replace VX := VX.below hal
  replace IA := (IA.below hal).more hal.size
  have HW := Lib.hid hw
  clear hal hw
  go_upto_region 1 with fail
  rw [HW.out]
  clear HW
  go_wp2_with fail
  refine (cooLive_any _).mono ?_
  rintro x w2 ⟨rfl, hbk⟩
  replace hT := hT.trans (hbk.mono hT.size)
  replace QX := heapAt hbk QX
  replace VX := VX.below hbk
  replace IA := (IA.below hbk).more hbk.size
  clear hbk
  obtain ⟨QX0, QX1, _, _⟩ := pair_cells QX
  go_wp2_with fail
  refine (few_coo A B n c m e xs es _ VX true HFW).mono ?_
  rintro x w3 ⟨rfl, hbk⟩
  clear QX0 QX1
  replace hT := hT.trans (hbk.mono hT.size)
  replace QX := heapAt hbk QX
  replace VX := VX.below hbk
  replace IA := (IA.below hbk).more hbk.size
  clear hbk
  obtain ⟨QX0, QX1, _, _⟩ := pair_cells QX
  go_wp2_with fail
  refine (denV_ok A B n c m e xs es _ VX (by omega) HD.out).mono ?_
  rintro x w4 ⟨A1, c1, A2, M, c2, rfl, VD, hM, hck, hbk⟩
  clear QX0 QX1
  replace hT := hT.trans (hbk.mono hT.size)
  replace QX := heapAt hbk QX
  replace VX := VX.below hbk
  replace IA := (IA.below hbk).more hbk.size
  clear hbk
  have HCK := Lib.hid hck
  clear hck
  have hal := (Below.refl w4.heap.size w4).alloc (Nat.le_refl _) (.cells #[.slice A1 n c1, .slice A2 M c2] 41)
  have QD := heap_alloc_new w4 (.cells #[.slice A1 n c1, .slice A2 M c2] 41)
  obtain ⟨w5, hw⟩ : ∃ W, w4.alloc (.cells #[.slice A1 n c1, .slice A2 M c2] 41) = W := ⟨_, rfl⟩
  rw [hw] at hal QD
  replace hT := hT.trans (hal.mono hT.size)
  replace QX := heapAt hal QX
  replace VX := VX.below hal
  replace VD := VD.below hal
  replace IA := (IA.below hal).more hal.size
  have HW := Lib.hid hw
  clear hal hw
  go_upto_region 5 with fail
  rw [HW.out]
  clear HW
  obtain ⟨QX0, QX1, _, _⟩ := pair_cells QX
  go_wp2_with fail
  refine (sortV_ok A B Ao n c m e ro co xs os es _ VX HE.out IA (by omega)).mono ?_
  rintro x w6 ⟨A5, c5, A6, c6, Ss, rfl, VS, HS, HSC, _, hbk⟩
  clear QX0 QX1
  replace hT := hT.trans (hbk.mono hT.size)
  replace QX := heapAt hbk QX
  replace QD := heapAt hbk QD
  replace VX := VX.below hbk
  replace VD := VD.below hbk
  replace IA := (IA.below hbk).more hbk.size
  clear hbk
  have hal := (Below.refl w6.heap.size w6).alloc (Nat.le_refl _) (.cells #[.slice A5 n c5, .slice A6 m c6] 25)
  have QS := heap_alloc_new w6 (.cells #[.slice A5 n c5, .slice A6 m c6] 25)
  obtain ⟨w7, hw⟩ : ∃ W, w6.alloc (.cells #[.slice A5 n c5, .slice A6 m c6] 25) = W := ⟨_, rfl⟩
  rw [hw] at hal QS
  replace hT := hT.trans (hal.mono hT.size)
  replace QX := heapAt hal QX
  replace QD := heapAt hal QD
  replace VX := VX.below hal
  replace VD := VD.below hal
  replace VS := VS.below hal
  replace IA := (IA.below hal).more hal.size
  have HW := Lib.hid hw
  clear hal hw
  go_upto_region 8 with fail
  rw [HW.out]
  clear HW
  obtain ⟨QX0, QX1, _, _⟩ := pair_cells QX
  go_wp2_with fail
  refine (joinV_ok A B Ao n c m e ro co xs os es _ VX HE.out IA (by omega)).mono ?_
  rintro x w8 ⟨A7, c7, A8, m8, c8, Js, rfl, VJ, HJ, HJC, hm8, hbk⟩
  clear QX0 QX1
  replace hT := hT.trans (hbk.mono hT.size)
  replace QX := heapAt hbk QX
  replace QD := heapAt hbk QD
  replace QS := heapAt hbk QS
  replace VX := VX.below hbk
  replace VD := VD.below hbk
  replace VS := VS.below hbk
  replace IA := (IA.below hbk).more hbk.size
  clear hbk
  have hal := (Below.refl w8.heap.size w8).alloc (Nat.le_refl _) (.cells #[.slice A7 n c7, .slice A8 m8 c8] 25)
  have QJ := heap_alloc_new w8 (.cells #[.slice A7 n c7, .slice A8 m8 c8] 25)
  obtain ⟨w9, hw⟩ : ∃ W, w8.alloc (.cells #[.slice A7 n c7, .slice A8 m8 c8] 25) = W := ⟨_, rfl⟩
  rw [hw] at hal QJ
  replace hT := hT.trans (hal.mono hT.size)
  replace QX := heapAt hal QX
  replace QD := heapAt hal QD
  replace QS := heapAt hal QS
  replace VX := VX.below hal
  replace VD := VD.below hal
  replace VS := VS.below hal
  replace VJ := VJ.below hal
  replace IA := (IA.below hal).more hal.size
  have HW := Lib.hid hw
  clear hal hw
  go_upto_region 11 with fail
  rw [HW.out]
  clear HW
  obtain ⟨QX0, QX1, _, _⟩ := pair_cells QX
  go_wp2_with fail
  refine (trimV_ok A B n c m e xs es _ VX HC0.out).mono ?_
  rintro x w10 ⟨A9, c9, A10, m10, c10, Ts, rfl, VT, HTK, HTC, hm10, _, hbk⟩
  clear QX0 QX1
  replace hT := hT.trans (hbk.mono hT.size)
  replace QX := heapAt hbk QX
  replace QD := heapAt hbk QD
  replace QS := heapAt hbk QS
  replace QJ := heapAt hbk QJ
  replace VX := VX.below hbk
  replace VD := VD.below hbk
  replace VS := VS.below hbk
  replace VJ := VJ.below hbk
  replace IA := (IA.below hbk).more hbk.size
  clear hbk
  have hal := (Below.refl w10.heap.size w10).alloc (Nat.le_refl _) (.cells #[.slice A9 n c9, .slice A10 m10 c10] 25)
  have QT := heap_alloc_new w10 (.cells #[.slice A9 n c9, .slice A10 m10 c10] 25)
  obtain ⟨w11, hw⟩ : ∃ W, w10.alloc (.cells #[.slice A9 n c9, .slice A10 m10 c10] 25) = W := ⟨_, rfl⟩
  rw [hw] at hal QT
  replace hT := hT.trans (hal.mono hT.size)
  replace QX := heapAt hal QX
  replace QD := heapAt hal QD
  replace QS := heapAt hal QS
  replace QJ := heapAt hal QJ
  replace VX := VX.below hal
  replace VD := VD.below hal
  replace VS := VS.below hal
  replace VJ := VJ.below hal
  replace VT := VT.below hal
  replace IA := (IA.below hal).more hal.size
  have HW := Lib.hid hw
  clear hal hw
  go_upto_region 12 with fail
  rw [HW.out]
  clear HW
  obtain ⟨QX0, QX1, _, _⟩ := pair_cells QX
  go_wp2_with fail
  refine (plainV_ok A B n c m e xs es _ VX HC0.out).mono ?_
  rintro x w12 ⟨A11, c11, A12, m12, c12, Ps, rfl, VP, HPK, HPC, hm12, hbk⟩
  clear QX0 QX1
  replace hT := hT.trans (hbk.mono hT.size)
  replace QX := heapAt hbk QX
  replace QD := heapAt hbk QD
  replace QS := heapAt hbk QS
  replace QJ := heapAt hbk QJ
  replace QT := heapAt hbk QT
  replace VX := VX.below hbk
  replace VD := VD.below hbk
  replace VS := VS.below hbk
  replace VJ := VJ.below hbk
  replace VT := VT.below hbk
  replace IA := (IA.below hbk).more hbk.size
  clear hbk
  have hal := (Below.refl w12.heap.size w12).alloc (Nat.le_refl _) (.cells #[.slice A11 n c11, .slice A12 m12 c12] 25)
  have QP := heap_alloc_new w12 (.cells #[.slice A11 n c11, .slice A12 m12 c12] 25)
  obtain ⟨w13, hw⟩ : ∃ W, w12.alloc (.cells #[.slice A11 n c11, .slice A12 m12 c12] 25) = W := ⟨_, rfl⟩
  rw [hw] at hal QP
  replace hT := hT.trans (hal.mono hT.size)
  replace QX := heapAt hal QX
  replace QD := heapAt hal QD
  replace QS := heapAt hal QS
  replace QJ := heapAt hal QJ
  replace QT := heapAt hal QT
  replace VX := VX.below hal
  replace VD := VD.below hal
  replace VS := VS.below hal
  replace VJ := VJ.below hal
  replace VT := VT.below hal
  replace VP := VP.below hal
  replace IA := (IA.below hal).more hal.size
  have HW := Lib.hid hw
  clear hal hw
  go_upto_region 13 with fail
  rw [HW.out]
  clear HW
  have hjl : m8 ≤ m := by
    have h1 := joinK_len (sortK (ordL n os) (es.map keyE))
    rw [(sortK_perm _ _).length_eq, List.length_map, HEL.out, ← HJ.out, List.length_map, VJ.2.1] at h1
    exact h1
  have dj : decide ((m : Int) < (m8 : Int)) = false := by simp; omega
  have dj2 : decide (m < m8) = false := by simp; omega
  obtain ⟨QX0, QX1, _, _⟩ := pair_cells QX
  obtain ⟨QS0, QS1, _, _⟩ := pair_cells QS
  obtain ⟨QJ0, QJ1, _, _⟩ := pair_cells QJ
  go_upto_region 15 with fail
  clear QX0 QX1 QS0 QS1 QJ0 QJ1
  obtain ⟨QS0, QS1, _, _⟩ := pair_cells QS
  obtain ⟨QJ0, QJ1, _, _⟩ := pair_cells QJ
  obtain ⟨QT0, QT1, _, _⟩ := pair_cells QT
  obtain ⟨QP0, QP1, _, _⟩ := pair_cells QP
  have hal := (Below.refl w13.heap.size w13).alloc (Nat.le_refl _) (.cells #[.slice A5 n c5, .slice A6 m c6, .slice A7 n c7, .slice A8 m8 c8, .slice A9 n c9, .slice A10 m10 c10, .slice A11 n c11, .slice A12 m12 c12] 25)
  have QL := heap_alloc_new w13 (.cells #[.slice A5 n c5, .slice A6 m c6, .slice A7 n c7, .slice A8 m8 c8, .slice A9 n c9, .slice A10 m10 c10, .slice A11 n c11, .slice A12 m12 c12] 25)
  obtain ⟨w14, hw⟩ : ∃ W, w13.alloc (.cells #[.slice A5 n c5, .slice A6 m c6, .slice A7 n c7, .slice A8 m8 c8, .slice A9 n c9, .slice A10 m10 c10, .slice A11 n c11, .slice A12 m12 c12] 25) = W := ⟨_, rfl⟩
  rw [hw] at hal QL
  have HW := Lib.hid hw
  clear hw
  go_upto_region 16 with fail
  try rw [HW.out]
  clear QS0 QS1 QJ0 QJ1 QT0 QT1 QP0 QP1
  replace hT := hT.trans (hal.mono hT.size)
  replace QX := heapAt hal QX
  replace QD := heapAt hal QD
  replace QS := heapAt hal QS
  replace QJ := heapAt hal QJ
  replace QT := heapAt hal QT
  replace QP := heapAt hal QP
  replace VX := VX.below hal
  replace VD := VD.below hal
  replace VS := VS.below hal
  replace VJ := VJ.below hal
  replace VT := VT.below hal
  replace VP := VP.below hal
  replace IA := (IA.below hal).more hal.size
  clear hal HW
  have HL4 : Hid (∀ k, k < 4 → OneL w14 w13.heap.size k n xs (es.map keyE)) := fun k hk => by
    match k, hk with
    | 0, _ => exact ⟨A5, c5, A6, m, c6, Ss, (cell_of_row _ _ 0 _ _ (0, 0) QL).trans (by simp), (cell_of_row _ _ 1 _ _ (0, 0) QL).trans (by simp), VS, by omega, HSC.out, by rw [HS.out]; exact denseK_perm (sortK_perm _ _)⟩
    | 1, _ => exact ⟨A7, c7, A8, m8, c8, Js, (cell_of_row _ _ 2 _ _ (0, 0) QL).trans (by simp), (cell_of_row _ _ 3 _ _ (0, 0) QL).trans (by simp), VJ, by omega, HJC.out, by rw [HJ.out, denseK_join]; exact denseK_perm (sortK_perm _ _)⟩
    | 2, _ => exact ⟨A9, c9, A10, m10, c10, Ts, (cell_of_row _ _ 4 _ _ (0, 0) QL).trans (by simp), (cell_of_row _ _ 5 _ _ (0, 0) QL).trans (by simp), VT, by omega, HTC.out, by rw [HTK.out, denseK_nz]⟩
    | 3, _ => exact ⟨A11, c11, A12, m12, c12, Ps, (cell_of_row _ _ 6 _ _ (0, 0) QL).trans (by simp), (cell_of_row _ _ 7 _ _ (0, 0) QL).trans (by simp), VP, by omega, HPC.out, by rw [HPK.out, denseK_nz, denseK_join]; exact denseK_perm (sortK_perm _ _)⟩
    | k + 4, hk => exact absurd hk (by omega)
  go_loopw [104] (fun i wr => ∃ k : Nat, k ≤ 4 ∧ i = .int .i64 k ∧ Below w14.heap.size w14 wr) (fun i _ => 4 - (intOf i).toNat)
  case atStart => exact ⟨0, Nat.zero_le _, rfl, Below.refl _ _⟩
  case round =>
    obtain ⟨k, hk, rfl, hbr⟩ := hrel
    by_cases hlt : k < 4
    · obtain ⟨Az, cz, Bz, mz, ez, zs, g0, g1, VZ, hmz, hz1, hz2⟩ := HL4.out k hlt
      have HZ1 := Lib.hid hz1
      have HZ2 := Lib.hid hz2
      replace g0 := (hbr.cell (p := ⟨w13.heap.size, k * 2, none⟩) (lt_of_heap QL)).trans g0
      replace g1 := (hbr.cell (p := ⟨w13.heap.size, k * 2 + 1, none⟩) (lt_of_heap QL)).trans g1
      have hk4 : (k : Int) < 4 := by omega
      have hk0 : (0 : Int) ≤ (k : Int) := by omega
      have HBR := Lib.hid hbr
      clear hz1 hz2
      replace hT := hT.trans (hbr.mono hT.size)
      replace QX := heapAt hbr QX
      replace QD := heapAt hbr QD
      replace QS := heapAt hbr QS
      replace QJ := heapAt hbr QJ
      replace QT := heapAt hbr QT
      replace QP := heapAt hbr QP
      replace QL := heapAt hbr QL
      replace VX := VX.below hbr
      replace VD := VD.below hbr
      replace VS := VS.below hbr
      replace VJ := VJ.below hbr
      replace VT := VT.below hbr
      replace VP := VP.below hbr
      replace VZ := VZ.below hbr
      replace IA := (IA.below hbr).more hbr.size
      clear hbr
      have HG := Lib.hid (And.intro g0 g1)
      have hal := (Below.refl wr.heap.size wr).alloc (Nat.le_refl _) (.cells #[.slice Az n cz, .slice Bz mz ez] 25)
      have QZ := heap_alloc_new wr (.cells #[.slice Az n cz, .slice Bz mz ez] 25)
      obtain ⟨wz1, hw⟩ : ∃ W, wr.alloc (.cells #[.slice Az n cz, .slice Bz mz ez] 25) = W := ⟨_, rfl⟩
      rw [hw] at hal QZ
      have HW := Lib.hid hw
      clear hw
      go_upto_region 18 with fail
      rw [HW.out]
      clear g0 g1 HG HW
      replace hT := hT.trans (hal.mono hT.size)
      replace QX := heapAt hal QX
      replace QD := heapAt hal QD
      replace QS := heapAt hal QS
      replace QJ := heapAt hal QJ
      replace QT := heapAt hal QT
      replace QP := heapAt hal QP
      replace QL := heapAt hal QL
      replace VX := VX.below hal
      replace VD := VD.below hal
      replace VS := VS.below hal
      replace VJ := VJ.below hal
      replace VT := VT.below hal
      replace VP := VP.below hal
      replace VZ := VZ.below hal
      replace IA := (IA.below hal).more hal.size
      replace HBR := Lib.hid (HBR.out.trans (hal.mono HBR.out.size))
      clear hal
      obtain ⟨QZ0, QZ1, _, _⟩ := pair_cells QZ
      go_wp2_with fail
      refine (denV_ok Az Bz n cz mz ez xs zs _ VZ (by omega) (denE_of HZ1.out HLA.out)).mono ?_
      rintro x w41 ⟨A21, c21, A22, M2, c22, rfl, VE, hM2, hck2, hbk⟩
      clear QZ0 QZ1
      replace HBR := Lib.hid (HBR.out.trans (hbk.mono HBR.out.size))
      replace hT := hT.trans (hbk.mono hT.size)
      replace QX := heapAt hbk QX
      replace QD := heapAt hbk QD
      replace QS := heapAt hbk QS
      replace QJ := heapAt hbk QJ
      replace QT := heapAt hbk QT
      replace QP := heapAt hbk QP
      replace QL := heapAt hbk QL
      replace QZ := heapAt hbk QZ
      replace VX := VX.below hbk
      replace VD := VD.below hbk
      replace VS := VS.below hbk
      replace VJ := VJ.below hbk
      replace VT := VT.below hbk
      replace VP := VP.below hbk
      replace VZ := VZ.below hbk
      replace IA := (IA.below hbk).more hbk.size
      clear hbk
      have HCK2 := Lib.hid hck2
      clear hck2
      have hal := (Below.refl w41.heap.size w41).alloc (Nat.le_refl _) (.cells #[.slice A21 n c21, .slice A22 M2 c22] 41)
      have QE := heap_alloc_new w41 (.cells #[.slice A21 n c21, .slice A22 M2 c22] 41)
      obtain ⟨w42, hw⟩ : ∃ W, w41.alloc (.cells #[.slice A21 n c21, .slice A22 M2 c22] 41) = W := ⟨_, rfl⟩
      rw [hw] at hal QE
      have HW := Lib.hid hw
      clear hw
      go_upto_region 19 with fail
      rw [HW.out]
      replace HBR := Lib.hid (HBR.out.trans (hal.mono HBR.out.size))
      replace hT := hT.trans (hal.mono hT.size)
      replace QX := heapAt hal QX
      replace QD := heapAt hal QD
      replace QS := heapAt hal QS
      replace QJ := heapAt hal QJ
      replace QT := heapAt hal QT
      replace QP := heapAt hal QP
      replace QL := heapAt hal QL
      replace QZ := heapAt hal QZ
      replace VX := VX.below hal
      replace VD := VD.below hal
      replace VS := VS.below hal
      replace VJ := VJ.below hal
      replace VT := VT.below hal
      replace VP := VP.below hal
      replace VZ := VZ.below hal
      replace VE := VE.below hal
      replace IA := (IA.below hal).more hal.size
      clear hal HW
      have HSM := same_any A21 A22 A1 A2 n c21 M2 c22 n c1 M c2 xs (denseK xs (zs.map keyE)) xs (denseK xs (es.map keyE)) _ VE.1 VE.2 VD.1 VD.2 (by omega) (by omega) (by omega) (by omega) (by omega)
      rw [HZ2.out, sameF_t HCK2.out] at HSM
      obtain ⟨QE0, QE1, _, _⟩ := pair_cells QE
      obtain ⟨QD0, QD1, _, _⟩ := pair_cells QD
      go_wp2_with fail
      refine HSM.mono ?_
      rintro x w43 ⟨rfl, hbk⟩
      clear QE0 QE1 QD0 QD1
      replace HBR := Lib.hid (HBR.out.trans (hbk.mono HBR.out.size))
      clear hbk HSM
      go_wp2_with fail
      go_roundw
      case rel => exact ⟨k + 1, by omega, by go_num, HBR.out⟩
      case measure => simp [intOf]; omega
    · have dz : decide ((k : Int) < 4) = false := by simp; omega
      have dz2 : decide (k < 4) = false := by simp; omega
      clear hlt HL4
      replace hT := hT.trans (hbr.mono hT.size)
      replace QX := heapAt hbr QX
      replace QD := heapAt hbr QD
      replace QS := heapAt hbr QS
      replace QJ := heapAt hbr QJ
      replace QT := heapAt hbr QT
      replace QP := heapAt hbr QP
      replace QL := heapAt hbr QL
      replace VX := VX.below hbr
      replace VD := VD.below hbr
      replace VS := VS.below hbr
      replace VJ := VJ.below hbr
      replace VT := VT.below hbr
      replace VP := VP.below hbr
      replace IA := (IA.below hbr).more hbr.size
      clear hbr
      obtain ⟨QD0, QD1, _, _⟩ := pair_cells QD
      go_wp2_with fail
      refine (ofV_ok A1 A2 n c1 M c2 xs (denseK xs (es.map keyE)) _ VD HCK.out).mono ?_
      rintro x w61 ⟨A31, c31, A32, m32, c32, Os, rfl, VO, HOK, hm32, hbk⟩
      clear QD0 QD1
      replace hT := hT.trans (hbk.mono hT.size)
      replace QX := heapAt hbk QX
      replace QD := heapAt hbk QD
      replace QS := heapAt hbk QS
      replace QJ := heapAt hbk QJ
      replace QT := heapAt hbk QT
      replace QP := heapAt hbk QP
      replace QL := heapAt hbk QL
      replace VX := VX.below hbk
      replace VD := VD.below hbk
      replace VS := VS.below hbk
      replace VJ := VJ.below hbk
      replace VT := VT.below hbk
      replace VP := VP.below hbk
      replace IA := (IA.below hbk).more hbk.size
      clear hbk
      have hal := (Below.refl w61.heap.size w61).alloc (Nat.le_refl _) (.cells #[.slice A31 n c31, .slice A32 m32 c32] 25)
      have QO := heap_alloc_new w61 (.cells #[.slice A31 n c31, .slice A32 m32 c32] 25)
      obtain ⟨w62, hw⟩ : ∃ W, w61.alloc (.cells #[.slice A31 n c31, .slice A32 m32 c32] 25) = W := ⟨_, rfl⟩
      rw [hw] at hal QO
      replace hT := hT.trans (hal.mono hT.size)
      replace QX := heapAt hal QX
      replace QD := heapAt hal QD
      replace QS := heapAt hal QS
      replace QJ := heapAt hal QJ
      replace QT := heapAt hal QT
      replace QP := heapAt hal QP
      replace QL := heapAt hal QL
      replace VX := VX.below hal
      replace VD := VD.below hal
      replace VS := VS.below hal
      replace VJ := VJ.below hal
      replace VT := VT.below hal
      replace VP := VP.below hal
      replace VO := VO.below hal
      replace IA := (IA.below hal).more hal.size
      have HW := Lib.hid hw
      clear hal hw
      go_upto_region 23 with fail
      rw [HW.out]
      clear HW
      have HKEQ : Hid (Os.map keyE = Ps.map keyE) := by unfold Hid; rw [HOK.out, HPK.out]; exact of_dense HXL.out HD.out HKO.out
      obtain ⟨QO0, QO1, _, _⟩ := pair_cells QO
      obtain ⟨QP0, QP1, _, _⟩ := pair_cells QP
      go_wp2_with fail
      refine (sameV A31 A32 A11 A12 n c31 m32 c32 n c11 m12 c12 xs xs Os Ps _ VO (by omega) (by omega) VP (by omega) (by omega) true (sameC_t (cooF_keys HKEQ.out.symm HPC.out) HKEQ.out)).mono ?_
      rintro x w63 ⟨rfl, hbk⟩
      clear QO0 QO1 QP0 QP1
      replace hT := hT.trans (hbk.mono hT.size)
      replace QX := heapAt hbk QX
      replace QD := heapAt hbk QD
      replace QS := heapAt hbk QS
      replace QJ := heapAt hbk QJ
      replace QT := heapAt hbk QT
      replace QP := heapAt hbk QP
      replace QL := heapAt hbk QL
      replace QO := heapAt hbk QO
      replace VX := VX.below hbk
      replace VD := VD.below hbk
      replace VS := VS.below hbk
      replace VJ := VJ.below hbk
      replace VT := VT.below hbk
      replace VP := VP.below hbk
      replace VO := VO.below hbk
      replace IA := (IA.below hbk).more hbk.size
      clear hbk
      go_wp2_with fail
      go_ret
      exact ⟨rfl, hT⟩

theorem cooKeeps_any (w : World) (A : Option Addr) (n c : Nat) (B : Option Addr) (m e : Nat) (xs : List Int) (es : List Ent) (h : Ints w w.heap.size A n xs) (hn : n ≤ 9223372036854775807) (hv : Ents w w.heap.size B m es) (hm : m ≤ 9223372036854775807) (_ : n ≤ c) (_ : m ≤ e)
  (Ao : Option Addr) (ro co : Nat) (os : List Int) (ha : Ints w w.heap.size Ao ro os) (hro : ro ≤ 9223372036854775807) :
    Calls Try.prog 5 #[.agg #[.slice A n c, .slice B m e], .slice Ao ro co] w fun x w' => x = .returned (.bool true) ∧ Below w.heap.size w w' :=
  cooKeeps_w A B Ao n c m e ro co xs os es w h hn hv hm ha hro
end Go.Proofs.Ytapbcmhkipaecaa
