/- purflelaw02.CooRises returns true at every list and order. -/
import Derived.Test.YtapbcmhkipaecaaG14
import Derived.Test.YtapbcmhkipaecaaPERefO
import Derived.BigQuiet
namespace Go.Proofs.Ytapbcmhkipaecaa
open Go.RowKit

theorem sortK_snoc (os : List Int) (l : List KeyT) (x : KeyT) : sortK os (l ++ [x]) = insK os (sortK os l) x := by unfold sortK; rw [List.foldl_append]; rfl
theorem sortK_id {os : List Int} {l : List KeyT} (h : KOrd os l) : sortK os l = l := by
  induction l using list_snoc_ind with
  | h0 => rfl
  | hs l x ih =>
    have ha := List.pairwise_append.1 h
    rw [sortK_snoc, ih ha.1]
    unfold insK
    have e : l.reverse.takeWhile (ltK os x) = [] ∧ l.reverse.dropWhile (ltK os x) = l.reverse := by
      cases hr : l.reverse with
      | nil => exact ⟨rfl, rfl⟩
      | cons z t =>
        have hz : z ∈ l := by rw [← List.mem_reverse, hr]; simp
        have h1 := ha.2.2 z hz x (by simp)
        have h2 : ltK os x z = false := by unfold ltK; rw [decide_eq_false]; have := cmpE_neg os z.1 x.1; omega
        exact ⟨by rw [List.takeWhile_cons, h2]; simp, by rw [List.dropWhile_cons, h2]; simp⟩
    rw [e.1, e.2, List.reverse_reverse]
    rfl
theorem KRise.ord {os : List Int} {l : List KeyT} (h : KRise os l) : KOrd os l := h.imp fun hab => Int.le_of_lt hab
theorem joinK_id {os : List Int} {l : List KeyT} (h : KRise os l) : joinK l = l := by
  induction l using list_snoc_ind with
  | h0 => rfl
  | hs l x ih =>
    have ha := List.pairwise_append.1 h
    rw [joinK_snoc, ih ha.1]
    rcases List.eq_nil_or_concat l with rfl | ⟨L0, z, rfl⟩
    · rfl
    · rw [List.concat_eq_append] at ha ⊢
      refine joinStep_other fun e => ?_
      have := ha.2.2 z (by simp) x (by simp)
      rw [e, cmpE_self] at this
      omega
theorem pair_at {R : KeyT → KeyT → Prop} {l : List KeyT} (h : l.Pairwise R) {q k : Nat} {a b : KeyT} (hq : q < k) (ha : l[q]? = some a) (hb : l[k]? = some b) : R a b := by
  obtain ⟨h1, rfl⟩ := List.getElem?_eq_some_iff.1 ha
  obtain ⟨h2, rfl⟩ := List.getElem?_eq_some_iff.1 hb
  exact List.pairwise_iff_getElem.1 h q k h1 h2 hq
theorem ord_back {os : List Int} {Ss : List Ent} (h : KOrd os (Ss.map keyE)) {q k : Nat} {a b : Ent} (hq : q < k) (ha : Ss[q]? = some a) (hb : Ss[k]? = some b) : decide (cmpE os b.cs a.cs < 0) = false := by
  have := pair_at h hq (a := keyE a) (b := keyE b) (by rw [List.getElem?_map, ha]; rfl) (by rw [List.getElem?_map, hb]; rfl)
  have h1 : cmpE os a.cs b.cs ≤ 0 := this
  rw [decide_eq_false]
  have := cmpE_neg os a.cs b.cs
  omega
theorem rise_on {os : List Int} {Ss : List Ent} (h : KRise os (Ss.map keyE)) {q k : Nat} {a b : Ent} (hq : q < k) (ha : Ss[q]? = some a) (hb : Ss[k]? = some b) : decide (cmpE os a.cs b.cs < 0) = true := by
  have := pair_at h hq (a := keyE a) (b := keyE b) (by rw [List.getElem?_map, ha]; rfl) (by rw [List.getElem?_map, hb]; rfl)
  exact decide_eq_true this
theorem rises_of {xs os : List Int} {n : Nat} {es : List Ent} (ha : sortE' xs os n es = 0) : cooF xs es = 0 ∧ OrdOk n os := by
  unfold sortE' at ha
  by_cases h0 : cooF xs es = 0
  · rw [if_pos h0] at ha
    refine ⟨h0, ?_⟩
    by_cases h : OrdOk n os
    · exact h
    · rw [if_neg h] at ha; cases ha
  · rw [if_neg h0] at ha; exact absurd ha h0
theorem ent_n {w : World} {A B : Option Addr} {n m : Nat} {xs : List Int} {es : List Ent} (h : CooV w A n B m xs es) (hE : cooF xs es = 0) {y : Ent} (hy : y ∈ es) : y.n = n := (keyOk_of h hE (keyE y) (List.mem_map_of_mem hy)).2.1
theorem refAheadV (y z : Ent) (Ao : Option Addr) (r co : Nat) (os : List Int) (w : World) (h1 : Ints w w.heap.size y.A y.n y.cs) (h2 : Ints w w.heap.size z.A z.n z.cs) (ho : Ints w w.heap.size Ao r os) (hr : r ≤ 100000) (hin : ∀ m ∈ os, 0 ≤ m ∧ m < y.n ∧ m < z.n) (R : Bool) (HR : Hid (decide (cmpE os y.cs z.cs < 0) = R)) (q : Nat) :
    Calls Try.prog 39 #[.slice y.A y.n y.c, .slice z.A z.n z.c, .slice Ao r co] (w.drewN q) fun e w' => e = .returned (.bool R) ∧ ∃ m, w' = (w.drewN q).drewN m :=
  refAhead_any y.A z.A Ao y.n z.n r y.c z.c co y.cs z.cs os (w.drewN q) (h1.drewN q) (h2.drewN q) (ho.drewN q) hr hin R HR

set_option maxRecDepth 100000 in
set_option maxHeartbeats 8000000 in
theorem rises_exit1 (A B Ao : Option Addr) (n c m e ro co : Nat) (xs os : List Int) (es : List Ent) (w : World) (h : Ints w w.heap.size A n xs) (_hn : n ≤ 9223372036854775807) (hv : Ents w w.heap.size B m es) (_hm : m ≤ 9223372036854775807) (ha : Ints w w.heap.size Ao ro os) (hro : ro ≤ 9223372036854775807) (hx : ¬ (fewC [((⟨A, n, c, B, m, e⟩ : Hdr), es)] = true ∧ ro ≤ 20)) :
    Calls Try.prog 6 #[.agg #[.slice A n c, .slice B m e], .slice Ao ro co] w fun x w' => x = .returned (.bool true) ∧ Below w.heap.size w w' := by
  have VX : CooV w A n B m xs es := ⟨h, hv⟩
  have IA := ha
  clear h hv ha
  obtain ⟨R, hR⟩ : ∃ R, fewC [((⟨A, n, c, B, m, e⟩ : Hdr), es)] = R := ⟨_, rfl⟩
  rw [hR] at hx
  have HFW := Lib.hid hR
  clear hR
  by_cases h1 : R = true
  · subst h1
    have d1 : decide (20 < (ro : Int)) = true := by have q : 20 < ro := Nat.lt_of_not_le fun h3 => hx ⟨rfl, h3⟩; simp; omega
    clear hx
    go_enter Try.func6, Try.ntmps6
    have hal := (Below.refl w.heap.size w).alloc (Nat.le_refl _) (.cells #[.slice A n c, .slice B m e] 25)
    have QX := heap_alloc_new w (.cells #[.slice A n c, .slice B m e] 25)
    obtain ⟨w1, hw⟩ : ∃ W, w.alloc (.cells #[.slice A n c, .slice B m e] 25) = W := ⟨_, rfl⟩
    rw [hw] at hal QX
    have hT := hal
    replace VX := VX.below hal
    replace IA := (IA.below hal).more hal.size
    have HW := Lib.hid hw
    clear hal hw
    go_upto_region 1 with fail
    rw [HW.out]
    clear HW
    go_wp2_with fail
    refine (cooLive_any _).mono ?_
    rintro x w2 ⟨rfl, hbk⟩
    replace hT := hT.trans (hbk.mono hT.size)
    replace QX := heapAt hbk QX
    replace VX := VX.below hbk
    replace IA := (IA.below hbk).more hbk.size
    clear hbk
    obtain ⟨QX0, QX1, _, _⟩ := pair_cells QX
    go_wp2_with fail
    refine (few_coo A B n c m e xs es _ VX true HFW).mono ?_
    rintro x w3 ⟨rfl, hbk⟩
    clear QX0 QX1
    replace hT := hT.trans (hbk.mono hT.size)
    replace QX := heapAt hbk QX
    replace VX := VX.below hbk
    replace IA := (IA.below hbk).more hbk.size
    clear hbk
    go_wp2_with fail
    go_ret
    exact ⟨rfl, hT⟩
  · obtain rfl : R = false := by simpa using h1
    clear hx h1
    go_enter Try.func6, Try.ntmps6
    have hal := (Below.refl w.heap.size w).alloc (Nat.le_refl _) (.cells #[.slice A n c, .slice B m e] 25)
    have QX := heap_alloc_new w (.cells #[.slice A n c, .slice B m e] 25)
    obtain ⟨w1, hw⟩ : ∃ W, w.alloc (.cells #[.slice A n c, .slice B m e] 25) = W := ⟨_, rfl⟩
    rw [hw] at hal QX
    have hT := hal
    replace VX := VX.below hal
    replace IA := (IA.below hal).more hal.size
    have HW := Lib.hid hw
    clear hal hw
    go_upto_region 1 with fail
    rw [HW.out]
    clear HW
    go_wp2_with fail
    refine (cooLive_any _).mono ?_
    rintro x w2 ⟨rfl, hbk⟩
    replace hT := hT.trans (hbk.mono hT.size)
    replace QX := heapAt hbk QX
    replace VX := VX.below hbk
    replace IA := (IA.below hbk).more hbk.size
    clear hbk
    obtain ⟨QX0, QX1, _, _⟩ := pair_cells QX
    go_wp2_with fail
    refine (few_coo A B n c m e xs es _ VX false HFW).mono ?_
    rintro x w3 ⟨rfl, hbk⟩
    clear QX0 QX1
    replace hT := hT.trans (hbk.mono hT.size)
    replace QX := heapAt hbk QX
    replace VX := VX.below hbk
    replace IA := (IA.below hbk).more hbk.size
    clear hbk
    go_wp2_with fail
    go_ret
    exact ⟨rfl, hT⟩

set_option maxRecDepth 100000 in
set_option maxHeartbeats 8000000 in
theorem rises_exit2 (A B Ao : Option Addr) (n c m e ro co : Nat) (xs os : List Int) (es : List Ent) (w : World) (h : Ints w w.heap.size A n xs) (hn : n ≤ 9223372036854775807) (hv : Ents w w.heap.size B m es) (hm : m ≤ 9223372036854775807) (ha : Ints w w.heap.size Ao ro os) (hro : ro ≤ 9223372036854775807) (hf : fewC [((⟨A, n, c, B, m, e⟩ : Hdr), es)] = true) (h2 : ro ≤ 20) (hx : sortE' xs os n es ≠ 0) :
    Calls Try.prog 6 #[.agg #[.slice A n c, .slice B m e], .slice Ao ro co] w fun x w' => x = .returned (.bool true) ∧ Below w.heap.size w w' := by
  have VX : CooV w A n B m xs es := ⟨h, hv⟩
  have IA := ha
  clear h hv ha
  have hnm := fewC_one hf
  have hn1 := hnm.1
  have hm1 := hnm.2
  have HFW := Lib.hid hf
  have d1 : decide (20 < (ro : Int)) = false := by simp; omega
  obtain ⟨E, hE⟩ : ∃ E, sortE' xs os n es = E := ⟨_, rfl⟩
  rw [hE] at hx
  have HE := Lib.hid hE
  have HX := Lib.hid hx
  have d2 : (E != E) = false := by simp
  have d2' : (E == E) = true := by simp
  have d3 : (E != 0) = true := by simpa using hx
  have d3' : (E == 0) = false := by simpa using hx
  clear hf hnm hE hx
  go_enter Try.func6, Try.ntmps6
  have hal := (Below.refl w.heap.size w).alloc (Nat.le_refl _) (.cells #[.slice A n c, .slice B m e] 25)
  have QX := heap_alloc_new w (.cells #[.slice A n c, .slice B m e] 25)
  obtain ⟨w1, hw⟩ : ∃ W, w.alloc (.cells #[.slice A n c, .slice B m e] 25) = W := ⟨_, rfl⟩
  rw [hw] at hal QX
  have hT := hal
  replace VX := VX.below hal
  replace IA := (IA.below hal).more hal.size
  have HW := Lib.hid hw
  clear hal hw
  go_upto_region 1 with fail
  rw [HW.out]
  clear HW
  go_wp2_with fail
  refine (cooLive_any _).mono ?_
  rintro x w2 ⟨rfl, hbk⟩
  replace hT := hT.trans (hbk.mono hT.size)
  replace QX := heapAt hbk QX
  replace VX := VX.below hbk
  replace IA := (IA.below hbk).more hbk.size
  clear hbk
  obtain ⟨QX0, QX1, _, _⟩ := pair_cells QX
  go_wp2_with fail
  refine (few_coo A B n c m e xs es _ VX true HFW).mono ?_
  rintro x w3 ⟨rfl, hbk⟩
  clear QX0 QX1
  replace hT := hT.trans (hbk.mono hT.size)
  replace QX := heapAt hbk QX
  replace VX := VX.below hbk
  replace IA := (IA.below hbk).more hbk.size
  clear hbk
  obtain ⟨QX0, QX1, _, _⟩ := pair_cells QX
  go_wp2_with fail
  refine (sortV_bad A B Ao n c m e ro co xs os es _ VX (by omega) (by omega) E HE HX.out IA (by omega)).mono ?_
  rintro x w4 ⟨rfl, hbk⟩
  clear QX0 QX1
  replace hT := hT.trans (hbk.mono hT.size)
  replace QX := heapAt hbk QX
  replace VX := VX.below hbk
  replace IA := (IA.below hbk).more hbk.size
  clear hbk
  have hal := (Below.refl w4.heap.size w4).alloc (Nat.le_refl _) (.cells #[.slice none 0 0, .slice none 0 0] 25)
  have QS := heap_alloc_new w4 (.cells #[.slice none 0 0, .slice none 0 0] 25)
  obtain ⟨w5, hw⟩ : ∃ W, w4.alloc (.cells #[.slice none 0 0, .slice none 0 0] 25) = W := ⟨_, rfl⟩
  rw [hw] at hal QS
  replace hT := hT.trans (hal.mono hT.size)
  replace QX := heapAt hal QX
  replace VX := VX.below hal
  replace IA := (IA.below hal).more hal.size
  have HW := Lib.hid hw
  clear hal hw
  go_upto_region 5 with fail
  rw [HW.out]
  clear HW
  obtain ⟨QX0, QX1, _, _⟩ := pair_cells QX
  go_wp2_with fail
  refine (joinV_bad A B Ao n c m e ro co xs os es _ VX (by omega) (by omega) E HE HX.out IA (by omega)).mono ?_
  rintro x w6 ⟨rfl, hbk⟩
  clear QX0 QX1
  replace hT := hT.trans (hbk.mono hT.size)
  replace QX := heapAt hbk QX
  replace QS := heapAt hbk QS
  replace VX := VX.below hbk
  replace IA := (IA.below hbk).more hbk.size
  clear hbk
  have hal := (Below.refl w6.heap.size w6).alloc (Nat.le_refl _) (.cells #[.slice none 0 0, .slice none 0 0] 25)
  have QJ := heap_alloc_new w6 (.cells #[.slice none 0 0, .slice none 0 0] 25)
  obtain ⟨w7, hw⟩ : ∃ W, w6.alloc (.cells #[.slice none 0 0, .slice none 0 0] 25) = W := ⟨_, rfl⟩
  rw [hw] at hal QJ
  replace hT := hT.trans (hal.mono hT.size)
  replace QX := heapAt hal QX
  replace QS := heapAt hal QS
  replace VX := VX.below hal
  replace IA := (IA.below hal).more hal.size
  have HW := Lib.hid hw
  clear hal hw
  go_upto_region 6 with fail
  rw [HW.out]
  clear HW
  obtain ⟨QS0, QS1, _, _⟩ := pair_cells QS
  obtain ⟨QJ0, QJ1, _, _⟩ := pair_cells QJ
  go_wp2_with fail
  go_ret
  exact ⟨rfl, hT⟩

set_option maxRecDepth 100000 in
set_option maxHeartbeats 8000000 in
theorem cooRises_w (A B Ao : Option Addr) (n c m e ro co : Nat) (xs os : List Int) (es : List Ent) (w : World) (h : Ints w w.heap.size A n xs) (hn : n ≤ 9223372036854775807) (hv : Ents w w.heap.size B m es) (hm : m ≤ 9223372036854775807) (ha : Ints w w.heap.size Ao ro os) (hro : ro ≤ 9223372036854775807) :
    Calls Try.prog 6 #[.agg #[.slice A n c, .slice B m e], .slice Ao ro co] w fun x w' => x = .returned (.bool true) ∧ Below w.heap.size w w' := by
  by_cases hq1 : fewC [((⟨A, n, c, B, m, e⟩ : Hdr), es)] = true ∧ ro ≤ 20
  case neg => exact rises_exit1 A B Ao n c m e ro co xs os es w h hn hv hm ha hro hq1
  obtain ⟨hf, h2⟩ := hq1
  by_cases hE : sortE' xs os n es = 0
  case neg => exact rises_exit2 A B Ao n c m e ro co xs os es w h hn hv hm ha hro hf h2 hE
  have VX : CooV w A n B m xs es := ⟨h, hv⟩
  have IA := ha
  clear h hv ha
  have hnm := fewC_one hf
  have hn1 := hnm.1
  have hm1 := hnm.2
  have HFW := Lib.hid hf
  have d1 : decide (20 < (ro : Int)) = false := by simp; omega
  have HE := Lib.hid hE
  obtain ⟨hC0, hka⟩ := rises_of hE
  have HC0 := Lib.hid hC0
  have HKA := Lib.hid hka
  have HKO := Lib.hid (keyOk_of VX hC0)
  have en : ((n : Int) == (n : Int)) = true := by simp
  have en' : ((n : Int) != (n : Int)) = false := by simp
  clear hf hnm hE hC0 hka
  go_enter Try.func6, Try.ntmps6
  have hal := (Below.refl w.heap.size w).alloc (Nat.le_refl _) (.cells #[.slice A n c, .slice B m e] 25)
  have QX := heap_alloc_new w (.cells #[.slice A n c, .slice B m e] 25)
  obtain ⟨w1, hw⟩ : ∃ W, w.alloc (.cells #[.slice A n c, .slice B m e] 25) = W := ⟨_, rfl⟩
  rw [hw] at hal QX
  have hT := hal
  replace VX := VX.below hal
  replace IA := (IA.below hal).more hal.size
  have HW := Lib.hid hw
  clear hal hw
  go_upto_region 1 with fail
  rw [HW.out]
  clear HW
  go_wp2_with fail
  refine (cooLive_any _).mono ?_
  rintro x w2 ⟨rfl, hbk⟩
  replace hT := hT.trans (hbk.mono hT.size)
  replace QX := heapAt hbk QX
  replace VX := VX.below hbk
  replace IA := (IA.below hbk).more hbk.size
  clear hbk
  obtain ⟨QX0, QX1, _, _⟩ := pair_cells QX
  go_wp2_with fail
  refine (few_coo A B n c m e xs es _ VX true HFW).mono ?_
  rintro x w3 ⟨rfl, hbk⟩
  clear QX0 QX1
  replace hT := hT.trans (hbk.mono hT.size)
  replace QX := heapAt hbk QX
  replace VX := VX.below hbk
  replace IA := (IA.below hbk).more hbk.size
  clear hbk
  obtain ⟨QX0, QX1, _, _⟩ := pair_cells QX
  go_wp2_with fail
  refine (sortV_ok A B Ao n c m e ro co xs os es _ VX HE.out IA (by omega)).mono ?_
  rintro x w4 ⟨A5, c5, A6, c6, Ss, rfl, VS, HS, HSC, _, hbk⟩
  clear QX0 QX1
  replace hT := hT.trans (hbk.mono hT.size)
  replace QX := heapAt hbk QX
  replace VX := VX.below hbk
  replace IA := (IA.below hbk).more hbk.size
  clear hbk
  have hal := (Below.refl w4.heap.size w4).alloc (Nat.le_refl _) (.cells #[.slice A5 n c5, .slice A6 m c6] 25)
  have QS := heap_alloc_new w4 (.cells #[.slice A5 n c5, .slice A6 m c6] 25)
  obtain ⟨w5, hw⟩ : ∃ W, w4.alloc (.cells #[.slice A5 n c5, .slice A6 m c6] 25) = W := ⟨_, rfl⟩
  rw [hw] at hal QS
  replace hT := hT.trans (hal.mono hT.size)
  replace QX := heapAt hal QX
  replace VX := VX.below hal
  replace VS := VS.below hal
  replace IA := (IA.below hal).more hal.size
  have HW := Lib.hid hw
  clear hal hw
  go_upto_region 5 with fail
  rw [HW.out]
  clear HW
  obtain ⟨QX0, QX1, _, _⟩ := pair_cells QX
  go_wp2_with fail
  refine (joinV_ok A B Ao n c m e ro co xs os es _ VX HE.out IA (by omega)).mono ?_
  rintro x w6 ⟨A1, c1, A2, m2, c2, Js, rfl, VJ, HJ, HJC, hm2, hbk⟩
  clear QX0 QX1
  replace hT := hT.trans (hbk.mono hT.size)
  replace QX := heapAt hbk QX
  replace QS := heapAt hbk QS
  replace VX := VX.below hbk
  replace VS := VS.below hbk
  replace IA := (IA.below hbk).more hbk.size
  clear hbk
  have hal := (Below.refl w6.heap.size w6).alloc (Nat.le_refl _) (.cells #[.slice A1 n c1, .slice A2 m2 c2] 25)
  have QJ := heap_alloc_new w6 (.cells #[.slice A1 n c1, .slice A2 m2 c2] 25)
  obtain ⟨w7, hw⟩ : ∃ W, w6.alloc (.cells #[.slice A1 n c1, .slice A2 m2 c2] 25) = W := ⟨_, rfl⟩
  rw [hw] at hal QJ
  replace hT := hT.trans (hal.mono hT.size)
  replace QX := heapAt hal QX
  replace QS := heapAt hal QS
  replace VX := VX.below hal
  replace VS := VS.below hal
  replace VJ := VJ.below hal
  replace IA := (IA.below hal).more hal.size
  have HW := Lib.hid hw
  clear hal hw
  go_upto_region 6 with fail
  rw [HW.out]
  clear HW
  obtain ⟨QX0, QX1, _, _⟩ := pair_cells QX
  go_wp2_with fail
  refine (refOrder_ok Ao n ro co os _ IA (by omega) HKA.out).mono ?_
  rintro x w8 ⟨Am, cm, rfl, IO, hbk⟩
  clear QX0 QX1
  replace hT := hT.trans (hbk.mono hT.size)
  replace QX := heapAt hbk QX
  replace QS := heapAt hbk QS
  replace QJ := heapAt hbk QJ
  replace VX := VX.below hbk
  replace VS := VS.below hbk
  replace VJ := VJ.below hbk
  replace IA := (IA.below hbk).more hbk.size
  clear hbk
  have HOS : Hid (KOrd (ordL n os) (Ss.map keyE)) := by unfold Hid; rw [HS.out]; exact sortK_ord _ _
  have HRJ : Hid (KRise (ordL n os) (Js.map keyE)) := by unfold Hid; rw [HJ.out]; exact joinK_rise (ordL_perm HKA.out) (HKO.out.perm (sortK_perm _ _)) (sortK_ord _ _)
  obtain ⟨QS0, QS1, _, _⟩ := pair_cells QS
  go_wp2_with fail
  clear QS0 QS1
  go_loopw [72] (fun i wr => ∃ k : Nat, k ≤ m ∧ i = .int .i64 k ∧ Below w8.heap.size w8 wr) (fun i _ => m - (intOf i).toNat)
  case atStart => exact ⟨0, Nat.zero_le _, rfl, Below.refl _ _⟩
  case round =>
    obtain ⟨k, hk, rfl, hbr⟩ := hrel
    by_cases hlt : k < m
    · replace hT := hT.trans (hbr.mono hT.size)
      replace QX := heapAt hbr QX
      replace QS := heapAt hbr QS
      replace QJ := heapAt hbr QJ
      replace VX := VX.below hbr
      replace VS := VS.below hbr
      replace VJ := VJ.below hbr
      replace IA := (IA.below hbr).more hbr.size
      replace IO := (IO.below hbr).more hbr.size
      obtain ⟨b, off, y, hyA, hbb, HY, hc0, hc1, iy, hy1, hy2, hy3, hy4⟩ := VS.2.at_ hlt
      have hyn := ent_n VS HSC.out (List.mem_of_getElem? HY.out)
      obtain rfl := hyA
      have hc2 : wr.cell? ⟨b, off + k * 2, none⟩ = some (.slice y.A y.n y.c) := by rw [Nat.mul_comm k 2]; exact hc0
      have hc3 : wr.cell? ⟨b, off + k * 2 + 1, none⟩ = some (.int .i64 y.v) := by rw [Nat.mul_comm k 2]; exact hc1
      have hkm : (k : Int) < (m : Int) := by omega
      have hk0 : (0 : Int) ≤ (k : Int) := by omega
      have hal := (Below.refl wr.heap.size wr).alloc (Nat.le_refl _) (.cells #[.slice y.A y.n y.c, .int .i64 y.v] 37)
      have hbx := heap_alloc_new wr (.cells #[.slice y.A y.n y.c, .int .i64 y.v] 37)
      obtain ⟨wt, hwt⟩ : ∃ W, wr.alloc (.cells #[.slice y.A y.n y.c, .int .i64 y.v] 37) = W := ⟨_, rfl⟩
      rw [hwt] at hal hbx
      have HWT := Lib.hid hwt
      have HYN := Lib.hid hyn
      have HBR := Lib.hid (hbr.trans (hal.mono hbr.size))
      clear hwt hyn hbr
      obtain ⟨QS0, QS1, _, _⟩ := pair_cells QS
      go_upto_region 16 with fail
      rw [HWT.out]
      clear hc2 hc3
      clear QS0 QS1
      replace hT := hT.trans (hal.mono hT.size)
      replace QX := heapAt hal QX
      replace QS := heapAt hal QS
      replace QJ := heapAt hal QJ
      replace VX := VX.below hal
      replace VS := VS.below hal
      replace VJ := VJ.below hal
      replace IA := (IA.below hal).more hal.size
      replace IO := (IO.below hal).more hal.size
      replace iy := (iy.below (hal.mono (Nat.le_refl _))).more hal.size
      clear hal hc0 hc1
      obtain ⟨QX0, QX1, _, _⟩ := pair_cells QX
      obtain ⟨QS0, QS1, _, _⟩ := pair_cells QS
      obtain ⟨t0, t1, _, _⟩ := pair_cells hbx
      have dn : ((y.n : Int) == (n : Int)) = true := by rw [HYN.out]; simp
      have dn' : ((y.n : Int) != (n : Int)) = false := by rw [HYN.out]; simp
      rcases Nat.eq_zero_or_pos k with hkz | hkz
      · subst hkz
        have dk : decide ((0 : Int) < ((0 : Nat) : Int)) = false := by decide
        go_wp2_with fail
        go_quiet (fail)
        go_wp2_with fail
        go_roundw
        case rel => exact ⟨0 + 1, by omega, by go_num, below_dN HBR.out _⟩
        case measure => simp [intOf]; omega
      · obtain ⟨q, hq⟩ : ∃ q, k = q + 1 := ⟨k - 1, by omega⟩
        obtain ⟨b', off', z, hzA, hbz, HZ, hz0, hz1, iz, hz2, hz3, hz4, hz5⟩ := VS.2.at_ (k := q) (by omega)
        have hzn := ent_n VS HSC.out (List.mem_of_getElem? HZ.out)
        injection hzA with hzA
        injection hzA with hzb hzo
        subst hzb
        subst hzo
        have g2 : wt.cell? ⟨b, off + q * 2, none⟩ = some (.slice z.A z.n z.c) := by rw [Nat.mul_comm q 2]; exact hz0
        have eq1 : (k : Int) - 1 = (q : Int) := by omega
        have hqm : (q : Int) < (m : Int) := by omega
        have hq0 : (0 : Int) ≤ (q : Int) := by omega
        have hdq : decide ((0 : Int) ≤ (q : Int)) = true := decide_eq_true hq0
        have dk : decide ((0 : Int) < (k : Int)) = true := by simp; omega
        have HA := fun p => refAheadV y z Am n cm (ordL n os) wt iy iz IO (by omega) (fun x hx => by have := ordL_mem HKA.out hx; have := HYN.out; omega) false (ord_back HOS.out (by omega) HZ.out HY.out) p
        have HQ := Lib.hid hq
        clear hq hzn hz0 hz1 iz hz2 hz3 hz4 hz5
        go_wp2_with fail
        go_quiet ((go_at_call 39; exact Calls.quiet_of (HA _)))
        go_wp2_with fail
        go_roundw
        case rel => exact ⟨k + 1, by omega, by go_num, below_dN HBR.out _⟩
        case measure => simp [intOf]; omega
    · have dz : decide ((k : Int) < (m : Int)) = false := by simp; omega
      have dz2 : decide (k < m) = false := by simp; omega
      clear hlt
      replace hT := hT.trans (hbr.mono hT.size)
      replace QX := heapAt hbr QX
      replace QS := heapAt hbr QS
      replace QJ := heapAt hbr QJ
      replace VX := VX.below hbr
      replace VS := VS.below hbr
      replace VJ := VJ.below hbr
      replace IA := (IA.below hbr).more hbr.size
      replace IO := (IO.below hbr).more hbr.size
      obtain ⟨wa, hw⟩ : ∃ W, wr = W := ⟨_, rfl⟩
      subst hw
      clear hbr
      obtain ⟨QJ0, QJ1, _, _⟩ := pair_cells QJ
      go_wp2_with fail
      clear QJ0 QJ1
      obtain ⟨wo, rfl⟩ : ∃ wo : World, wo = wr := ⟨_, rfl⟩
      go_loopw [105] (fun i wr => ∃ k : Nat, k ≤ m2 ∧ i = .int .i64 k ∧ Below wo.heap.size wo wr) (fun i _ => m2 - (intOf i).toNat)
      case atStart => exact ⟨0, Nat.zero_le _, rfl, Below.refl _ _⟩
      case round =>
        obtain ⟨k, hk, rfl, hbr⟩ := hrel
        by_cases hlt : k < m2
        · replace hT := hT.trans (hbr.mono hT.size)
          replace QX := heapAt hbr QX
          replace QS := heapAt hbr QS
          replace QJ := heapAt hbr QJ
          replace VX := VX.below hbr
          replace VS := VS.below hbr
          replace VJ := VJ.below hbr
          replace IA := (IA.below hbr).more hbr.size
          replace IO := (IO.below hbr).more hbr.size
          obtain ⟨b, off, y, hyA, hbb, HY, hc0, hc1, iy, hy1, hy2, hy3, hy4⟩ := VJ.2.at_ hlt
          have hyn := ent_n VJ HJC.out (List.mem_of_getElem? HY.out)
          obtain rfl := hyA
          have hc2 : wr.cell? ⟨b, off + k * 2, none⟩ = some (.slice y.A y.n y.c) := by rw [Nat.mul_comm k 2]; exact hc0
          have hc3 : wr.cell? ⟨b, off + k * 2 + 1, none⟩ = some (.int .i64 y.v) := by rw [Nat.mul_comm k 2]; exact hc1
          have hkm : (k : Int) < (m2 : Int) := by omega
          have hk0 : (0 : Int) ≤ (k : Int) := by omega
          have hal := (Below.refl wr.heap.size wr).alloc (Nat.le_refl _) (.cells #[.slice y.A y.n y.c, .int .i64 y.v] 37)
          have hbx := heap_alloc_new wr (.cells #[.slice y.A y.n y.c, .int .i64 y.v] 37)
          obtain ⟨wt, hwt⟩ : ∃ W, wr.alloc (.cells #[.slice y.A y.n y.c, .int .i64 y.v] 37) = W := ⟨_, rfl⟩
          rw [hwt] at hal hbx
          have HWT := Lib.hid hwt
          have HYN := Lib.hid hyn
          have HBR := Lib.hid (hbr.trans (hal.mono hbr.size))
          clear hwt hyn hbr
          obtain ⟨QJ0, QJ1, _, _⟩ := pair_cells QJ
          go_upto_region 22 with fail
          rw [HWT.out]
          clear hc2 hc3
          clear QJ0 QJ1
          replace hT := hT.trans (hal.mono hT.size)
          replace QX := heapAt hal QX
          replace QS := heapAt hal QS
          replace QJ := heapAt hal QJ
          replace VX := VX.below hal
          replace VS := VS.below hal
          replace VJ := VJ.below hal
          replace IA := (IA.below hal).more hal.size
          replace IO := (IO.below hal).more hal.size
          replace iy := (iy.below (hal.mono (Nat.le_refl _))).more hal.size
          clear hal hc0 hc1
          obtain ⟨QX0, QX1, _, _⟩ := pair_cells QX
          obtain ⟨QJ0, QJ1, _, _⟩ := pair_cells QJ
          obtain ⟨t0, t1, _, _⟩ := pair_cells hbx
          have dn : ((y.n : Int) == (n : Int)) = true := by rw [HYN.out]; simp
          have dn' : ((y.n : Int) != (n : Int)) = false := by rw [HYN.out]; simp
          rcases Nat.eq_zero_or_pos k with hkz | hkz
          · subst hkz
            have dk : decide ((0 : Int) < ((0 : Nat) : Int)) = false := by decide
            go_wp2_with fail
            go_quiet (fail)
            go_wp2_with fail
            go_roundw
            case rel => exact ⟨0 + 1, by omega, by go_num, below_dN HBR.out _⟩
            case measure => simp [intOf]; omega
          · obtain ⟨q, hq⟩ : ∃ q, k = q + 1 := ⟨k - 1, by omega⟩
            obtain ⟨b', off', z, hzA, hbz, HZ, hz0, hz1, iz, hz2, hz3, hz4, hz5⟩ := VJ.2.at_ (k := q) (by omega)
            have hzn := ent_n VJ HJC.out (List.mem_of_getElem? HZ.out)
            injection hzA with hzA
            injection hzA with hzb hzo
            subst hzb
            subst hzo
            have g2 : wt.cell? ⟨b, off + q * 2, none⟩ = some (.slice z.A z.n z.c) := by rw [Nat.mul_comm q 2]; exact hz0
            have eq1 : (k : Int) - 1 = (q : Int) := by omega
            have hqm : (q : Int) < (m2 : Int) := by omega
            have hq0 : (0 : Int) ≤ (q : Int) := by omega
            have hdq : decide ((0 : Int) ≤ (q : Int)) = true := decide_eq_true hq0
            have dk : decide ((0 : Int) < (k : Int)) = true := by simp; omega
            have HA := fun p => refAheadV z y Am n cm (ordL n os) wt iz iy IO (by omega) (fun x hx => by have := ordL_mem HKA.out hx; have := HYN.out; omega) true (rise_on HRJ.out (by omega) HZ.out HY.out) p
            have HQ := Lib.hid hq
            clear hq hzn hz0 hz1 iz hz2 hz3 hz4 hz5
            go_wp2_with fail
            go_quiet ((go_at_call 39; exact Calls.quiet_of (HA _)))
            go_wp2_with fail
            go_roundw
            case rel => exact ⟨k + 1, by omega, by go_num, below_dN HBR.out _⟩
            case measure => simp [intOf]; omega
        · have dz : decide ((k : Int) < (m2 : Int)) = false := by simp; omega
          have dz2 : decide (k < m2) = false := by simp; omega
          clear hlt
          replace hT := hT.trans (hbr.mono hT.size)
          replace QX := heapAt hbr QX
          replace QS := heapAt hbr QS
          replace QJ := heapAt hbr QJ
          replace VX := VX.below hbr
          replace VS := VS.below hbr
          replace VJ := VJ.below hbr
          replace IA := (IA.below hbr).more hbr.size
          replace IO := (IO.below hbr).more hbr.size
          obtain ⟨wb, hw⟩ : ∃ W, wr = W := ⟨_, rfl⟩
          subst hw
          clear hbr
          obtain ⟨QS0, QS1, _, _⟩ := pair_cells QS
          go_wp2_with fail
          refine (sortV_ok A5 A6 Ao n c5 m c6 ro co xs os Ss _ VS (by unfold sortE'; rw [if_pos HSC.out, if_pos HKA.out]) IA (by omega)).mono ?_
          rintro x w9 ⟨A7, c7, A8, c8, Us, rfl, VU, HU, HUC, _, hbk⟩
          clear QS0 QS1
          replace hT := hT.trans (hbk.mono hT.size)
          replace QX := heapAt hbk QX
          replace QS := heapAt hbk QS
          replace QJ := heapAt hbk QJ
          replace VX := VX.below hbk
          replace VS := VS.below hbk
          replace VJ := VJ.below hbk
          replace IA := (IA.below hbk).more hbk.size
          replace IO := (IO.below hbk).more hbk.size
          clear hbk
          have hal := (Below.refl w9.heap.size w9).alloc (Nat.le_refl _) (.cells #[.slice A7 n c7, .slice A8 m c8] 25)
          have QU := heap_alloc_new w9 (.cells #[.slice A7 n c7, .slice A8 m c8] 25)
          obtain ⟨w10, hw⟩ : ∃ W, w9.alloc (.cells #[.slice A7 n c7, .slice A8 m c8] 25) = W := ⟨_, rfl⟩
          rw [hw] at hal QU
          replace hT := hT.trans (hal.mono hT.size)
          replace QX := heapAt hal QX
          replace QS := heapAt hal QS
          replace QJ := heapAt hal QJ
          replace VX := VX.below hal
          replace VS := VS.below hal
          replace VJ := VJ.below hal
          replace VU := VU.below hal
          replace IA := (IA.below hal).more hal.size
          replace IO := (IO.below hal).more hal.size
          have HW := Lib.hid hw
          clear hal hw
          go_upto_region 26 with fail
          rw [HW.out]
          clear HW
          obtain ⟨QJ0, QJ1, _, _⟩ := pair_cells QJ
          go_wp2_with fail
          refine (joinV_ok A1 A2 Ao n c1 m2 c2 ro co xs os Js _ VJ (by unfold sortE'; rw [if_pos HJC.out, if_pos HKA.out]) IA (by omega)).mono ?_
          rintro x w11 ⟨A9, c9, A10, m10, c10, Ts, rfl, VT, HT2, HTC, hm10, hbk⟩
          clear QJ0 QJ1
          replace hT := hT.trans (hbk.mono hT.size)
          replace QX := heapAt hbk QX
          replace QS := heapAt hbk QS
          replace QJ := heapAt hbk QJ
          replace QU := heapAt hbk QU
          replace VX := VX.below hbk
          replace VS := VS.below hbk
          replace VJ := VJ.below hbk
          replace VU := VU.below hbk
          replace IA := (IA.below hbk).more hbk.size
          replace IO := (IO.below hbk).more hbk.size
          clear hbk
          have hal := (Below.refl w11.heap.size w11).alloc (Nat.le_refl _) (.cells #[.slice A9 n c9, .slice A10 m10 c10] 25)
          have QT := heap_alloc_new w11 (.cells #[.slice A9 n c9, .slice A10 m10 c10] 25)
          obtain ⟨w12, hw⟩ : ∃ W, w11.alloc (.cells #[.slice A9 n c9, .slice A10 m10 c10] 25) = W := ⟨_, rfl⟩
          rw [hw] at hal QT
          replace hT := hT.trans (hal.mono hT.size)
          replace QX := heapAt hal QX
          replace QS := heapAt hal QS
          replace QJ := heapAt hal QJ
          replace QU := heapAt hal QU
          replace VX := VX.below hal
          replace VS := VS.below hal
          replace VJ := VJ.below hal
          replace VU := VU.below hal
          replace VT := VT.below hal
          replace IA := (IA.below hal).more hal.size
          replace IO := (IO.below hal).more hal.size
          have HW := Lib.hid hw
          clear hal hw
          go_upto_region 27 with fail
          rw [HW.out]
          clear HW
          obtain ⟨QU0, QU1, _, _⟩ := pair_cells QU
          obtain ⟨QS0, QS1, _, _⟩ := pair_cells QS
          go_wp2_with fail
          refine (sameV A7 A8 A5 A6 n c7 m c8 n c5 m c6 xs xs Us Ss _ VU (by omega) (by omega) VS (by omega) (by omega) true (sameC_t HUC.out (by rw [HU.out]; exact sortK_id HOS.out))).mono ?_
          rintro x w13 ⟨rfl, hbk⟩
          clear QU0 QU1 QS0 QS1
          replace hT := hT.trans (hbk.mono hT.size)
          replace QX := heapAt hbk QX
          replace QS := heapAt hbk QS
          replace QJ := heapAt hbk QJ
          replace QU := heapAt hbk QU
          replace QT := heapAt hbk QT
          replace VX := VX.below hbk
          replace VS := VS.below hbk
          replace VJ := VJ.below hbk
          replace VU := VU.below hbk
          replace VT := VT.below hbk
          replace IA := (IA.below hbk).more hbk.size
          replace IO := (IO.below hbk).more hbk.size
          clear hbk
          obtain ⟨QT0, QT1, _, _⟩ := pair_cells QT
          obtain ⟨QJ0, QJ1, _, _⟩ := pair_cells QJ
          go_wp2_with fail
          refine (sameV A9 A10 A1 A2 n c9 m10 c10 n c1 m2 c2 xs xs Ts Js _ VT (by omega) (by omega) VJ (by omega) (by omega) true (sameC_t HTC.out (by rw [HT2.out, sortK_id HRJ.out.ord]; exact joinK_id HRJ.out))).mono ?_
          rintro x w14 ⟨rfl, hbk⟩
          clear QT0 QT1 QJ0 QJ1
          replace hT := hT.trans (hbk.mono hT.size)
          replace QX := heapAt hbk QX
          replace QS := heapAt hbk QS
          replace QJ := heapAt hbk QJ
          replace QU := heapAt hbk QU
          replace QT := heapAt hbk QT
          replace VX := VX.below hbk
          replace VS := VS.below hbk
          replace VJ := VJ.below hbk
          replace VU := VU.below hbk
          replace VT := VT.below hbk
          replace IA := (IA.below hbk).more hbk.size
          replace IO := (IO.below hbk).more hbk.size
          clear hbk
          go_wp2_with fail
          go_ret
          exact ⟨rfl, hT⟩

theorem cooRises_any (w : World) (A : Option Addr) (n c : Nat) (B : Option Addr) (m e : Nat) (xs : List Int) (es : List Ent) (h : Ints w w.heap.size A n xs) (hn : n ≤ 9223372036854775807) (hv : Ents w w.heap.size B m es) (hm : m ≤ 9223372036854775807) (_ : n ≤ c) (_ : m ≤ e)
  (Ao : Option Addr) (ro co : Nat) (os : List Int) (ha : Ints w w.heap.size Ao ro os) (hro : ro ≤ 9223372036854775807) :
    Calls Try.prog 6 #[.agg #[.slice A n c, .slice B m e], .slice Ao ro co] w fun x w' => x = .returned (.bool true) ∧ Below w.heap.size w w' :=
  cooRises_w A B Ao n c m e ro co xs os es w h hn hv hm ha hro
end Go.Proofs.Ytapbcmhkipaecaa
