/- purflelaw02.CooBack: where it ends at once. -/
import Derived.Test.YtapbcmhkipaecaaPETurnE
import Derived.Test.YtapbcmhkipaecaaPEBackM
import Derived.Test.YtapbcmhkipaecaaG14
namespace Go.Proofs.Ytapbcmhkipaecaa
open Go.RowKit

set_option maxRecDepth 100000 in
set_option maxHeartbeats 8000000 in
theorem back_exit1 (A B Ao : Option Addr) (n c m e ro co : Nat) (xs os : List Int) (es : List Ent) (w : World) (h : Ints w w.heap.size A n xs) (_hn : n ≤ 9223372036854775807) (hv : Ents w w.heap.size B m es) (_hm : m ≤ 9223372036854775807) (ha : Ints w w.heap.size Ao ro os) (hro : ro ≤ 9223372036854775807) (hx : ¬ (fewC [((⟨A, n, c, B, m, e⟩ : Hdr), es)] = true ∧ ro ≤ 20 ∧ ro ≠ 0)) :
    Calls Try.prog 7 #[.agg #[.slice A n c, .slice B m e], .slice Ao ro co] w fun x w' => x = .returned (.bool true) ∧ Below w.heap.size w w' := by
  have VX : CooV w A n B m xs es := ⟨h, hv⟩
  have IA := ha
  clear h hv ha
  obtain ⟨R, hR⟩ : ∃ R, fewC [((⟨A, n, c, B, m, e⟩ : Hdr), es)] = R := ⟨_, rfl⟩
  rw [hR] at hx
  have HFW := Lib.hid hR
  clear hR
  by_cases h1 : R = true
  · subst h1
    by_cases h20 : ro ≤ 20
    · obtain rfl : ro = 0 := by by_cases q : ro = 0; exact q; exact absurd ⟨rfl, h20, q⟩ hx
      clear hx h20
      go_enter Try.func7, Try.ntmps7
      have hal := (Below.refl w.heap.size w).alloc (Nat.le_refl _) (.cells #[.slice A n c, .slice B m e] 25)
      have QX := heap_alloc_new w (.cells #[.slice A n c, .slice B m e] 25)
      obtain ⟨w1, hw⟩ : ∃ W, w.alloc (.cells #[.slice A n c, .slice B m e] 25) = W := ⟨_, rfl⟩
      rw [hw] at hal QX
      have hT := hal
      replace VX := VX.below hal
      replace IA := (IA.below hal).more hal.size
      have HW := Lib.hid hw
      clear hal hw
      go_upto_region 1 with fail
      rw [HW.out]
      clear HW
      go_wp2_with fail
      refine (cooLive_any _).mono ?_
      rintro x w2 ⟨rfl, hbk⟩
      replace hT := hT.trans (hbk.mono hT.size)
      replace QX := heapAt hbk QX
      replace VX := VX.below hbk
      replace IA := (IA.below hbk).more hbk.size
      clear hbk
      obtain ⟨QX0, QX1, _, _⟩ := pair_cells QX
      go_wp2_with fail
      refine (few_coo A B n c m e xs es _ VX true HFW).mono ?_
      rintro x w3 ⟨rfl, hbk⟩
      clear QX0 QX1
      replace hT := hT.trans (hbk.mono hT.size)
      replace QX := heapAt hbk QX
      replace VX := VX.below hbk
      replace IA := (IA.below hbk).more hbk.size
      clear hbk
      go_wp2_with fail
      go_ret
      exact ⟨rfl, hT⟩
    · have d1 : decide (20 < (ro : Int)) = true := by simp; omega
      clear hx h20
      go_enter Try.func7, Try.ntmps7
      have hal := (Below.refl w.heap.size w).alloc (Nat.le_refl _) (.cells #[.slice A n c, .slice B m e] 25)
      have QX := heap_alloc_new w (.cells #[.slice A n c, .slice B m e] 25)
      obtain ⟨w1, hw⟩ : ∃ W, w.alloc (.cells #[.slice A n c, .slice B m e] 25) = W := ⟨_, rfl⟩
      rw [hw] at hal QX
      have hT := hal
      replace VX := VX.below hal
      replace IA := (IA.below hal).more hal.size
      have HW := Lib.hid hw
      clear hal hw
      go_upto_region 1 with fail
      rw [HW.out]
      clear HW
      go_wp2_with fail
      refine (cooLive_any _).mono ?_
      rintro x w2 ⟨rfl, hbk⟩
      replace hT := hT.trans (hbk.mono hT.size)
      replace QX := heapAt hbk QX
      replace VX := VX.below hbk
      replace IA := (IA.below hbk).more hbk.size
      clear hbk
      obtain ⟨QX0, QX1, _, _⟩ := pair_cells QX
      go_wp2_with fail
      refine (few_coo A B n c m e xs es _ VX true HFW).mono ?_
      rintro x w3 ⟨rfl, hbk⟩
      clear QX0 QX1
      replace hT := hT.trans (hbk.mono hT.size)
      replace QX := heapAt hbk QX
      replace VX := VX.below hbk
      replace IA := (IA.below hbk).more hbk.size
      clear hbk
      go_wp2_with fail
      go_ret
      exact ⟨rfl, hT⟩
  · obtain rfl : R = false := by simpa using h1
    clear hx h1
    go_enter Try.func7, Try.ntmps7
    have hal := (Below.refl w.heap.size w).alloc (Nat.le_refl _) (.cells #[.slice A n c, .slice B m e] 25)
    have QX := heap_alloc_new w (.cells #[.slice A n c, .slice B m e] 25)
    obtain ⟨w1, hw⟩ : ∃ W, w.alloc (.cells #[.slice A n c, .slice B m e] 25) = W := ⟨_, rfl⟩
    rw [hw] at hal QX
    have hT := hal
    replace VX := VX.below hal
    replace IA := (IA.below hal).more hal.size
    have HW := Lib.hid hw
    clear hal hw
    go_upto_region 1 with fail
    rw [HW.out]
    clear HW
    go_wp2_with fail
    refine (cooLive_any _).mono ?_
    rintro x w2 ⟨rfl, hbk⟩
    replace hT := hT.trans (hbk.mono hT.size)
    replace QX := heapAt hbk QX
    replace VX := VX.below hbk
    replace IA := (IA.below hbk).more hbk.size
    clear hbk
    obtain ⟨QX0, QX1, _, _⟩ := pair_cells QX
    go_wp2_with fail
    refine (few_coo A B n c m e xs es _ VX false HFW).mono ?_
    rintro x w3 ⟨rfl, hbk⟩
    clear QX0 QX1
    replace hT := hT.trans (hbk.mono hT.size)
    replace QX := heapAt hbk QX
    replace VX := VX.below hbk
    replace IA := (IA.below hbk).more hbk.size
    clear hbk
    go_wp2_with fail
    go_ret
    exact ⟨rfl, hT⟩

set_option maxRecDepth 100000 in
set_option maxHeartbeats 8000000 in
theorem back_exit2 (A B Ao : Option Addr) (n c m e ro co : Nat) (xs os : List Int) (es : List Ent) (w : World) (h : Ints w w.heap.size A n xs) (hn : n ≤ 9223372036854775807) (hv : Ents w w.heap.size B m es) (hm : m ≤ 9223372036854775807) (ha : Ints w w.heap.size Ao ro os) (hro : ro ≤ 9223372036854775807) (hf : fewC [((⟨A, n, c, B, m, e⟩ : Hdr), es)] = true) (h2 : ro ≤ 20) (h3 : ro ≠ 0) (hx : sortE' xs os n es ≠ 0) :
    Calls Try.prog 7 #[.agg #[.slice A n c, .slice B m e], .slice Ao ro co] w fun x w' => x = .returned (.bool true) ∧ Below w.heap.size w w' := by
  have VX : CooV w A n B m xs es := ⟨h, hv⟩
  have IA := ha
  clear h hv ha
  have hnm := fewC_one hf
  have hn1 := hnm.1
  have hm1 := hnm.2
  have HFW := Lib.hid hf
  have d1 : decide (20 < (ro : Int)) = false := by simp; omega
  have d2 : ((ro : Int) == 0) = false := by simp; omega
  obtain ⟨E, hE⟩ : ∃ E, sortE' xs os n es = E := ⟨_, rfl⟩
  rw [hE] at hx
  have HE := Lib.hid hE
  have HX := Lib.hid hx
  have d3 : (E != 0) = true := by simpa using hx
  have d3' : (E == 0) = false := by simpa using hx
  clear hf hnm hE hx
  go_enter Try.func7, Try.ntmps7
  have hal := (Below.refl w.heap.size w).alloc (Nat.le_refl _) (.cells #[.slice A n c, .slice B m e] 25)
  have QX := heap_alloc_new w (.cells #[.slice A n c, .slice B m e] 25)
  obtain ⟨w1, hw⟩ : ∃ W, w.alloc (.cells #[.slice A n c, .slice B m e] 25) = W := ⟨_, rfl⟩
  rw [hw] at hal QX
  have hT := hal
  replace VX := VX.below hal
  replace IA := (IA.below hal).more hal.size
  have HW := Lib.hid hw
  clear hal hw
  go_upto_region 1 with fail
  rw [HW.out]
  clear HW
  go_wp2_with fail
  refine (cooLive_any _).mono ?_
  rintro x w2 ⟨rfl, hbk⟩
  replace hT := hT.trans (hbk.mono hT.size)
  replace QX := heapAt hbk QX
  replace VX := VX.below hbk
  replace IA := (IA.below hbk).more hbk.size
  clear hbk
  obtain ⟨QX0, QX1, _, _⟩ := pair_cells QX
  go_wp2_with fail
  refine (few_coo A B n c m e xs es _ VX true HFW).mono ?_
  rintro x w3 ⟨rfl, hbk⟩
  clear QX0 QX1
  replace hT := hT.trans (hbk.mono hT.size)
  replace QX := heapAt hbk QX
  replace VX := VX.below hbk
  replace IA := (IA.below hbk).more hbk.size
  clear hbk
  obtain ⟨QX0, QX1, _, _⟩ := pair_cells QX
  go_wp2_with fail
  refine (turnV_bad A B Ao n c m e ro co xs os es _ VX (by omega) (by omega) E HE HX.out IA (by omega)).mono ?_
  rintro x w4 ⟨rfl, hbk⟩
  clear QX0 QX1
  replace hT := hT.trans (hbk.mono hT.size)
  replace QX := heapAt hbk QX
  replace VX := VX.below hbk
  replace IA := (IA.below hbk).more hbk.size
  clear hbk
  have hal := (Below.refl w4.heap.size w4).alloc (Nat.le_refl _) (.cells #[.slice none 0 0, .slice none 0 0] 25)
  have QY := heap_alloc_new w4 (.cells #[.slice none 0 0, .slice none 0 0] 25)
  obtain ⟨w5, hw⟩ : ∃ W, w4.alloc (.cells #[.slice none 0 0, .slice none 0 0] 25) = W := ⟨_, rfl⟩
  rw [hw] at hal QY
  replace hT := hT.trans (hal.mono hT.size)
  replace QX := heapAt hal QX
  replace VX := VX.below hal
  replace IA := (IA.below hal).more hal.size
  have HW := Lib.hid hw
  clear hal hw
  go_upto_region 5 with fail
  rw [HW.out]
  clear HW
  go_wp2_with fail
  go_ret
  exact ⟨rfl, hT⟩

end Go.Proofs.Ytapbcmhkipaecaa
