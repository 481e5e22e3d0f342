/- The contract of the document's form of a level. -/
import Derived.Test.YtanbhpdobpiafaaLCheck
namespace Go.Proofs.Ytanbhpdobpiafaa
open Go.RowKit

noncomputable def formF (K S : Int) (xs ys : List Int) (a : Int) : Int := if pB (MayP K S a ∧ ToldP K xs ys a) = true then 0 else 1
theorem formF_0 {K S a : Int} {xs ys : List Int} (h : MayP K S a ∧ ToldP K xs ys a) : formF K S xs ys a = 0 := by unfold formF; rw [if_pos (pB_t h)]
theorem formF_1 {K S a : Int} {xs ys : List Int} (h : ¬ (MayP K S a ∧ ToldP K xs ys a)) : formF K S xs ys a = 1 := by unfold formF; rw [if_neg (by rw [pB_f h]; decide)]
theorem sort_take {xs : List Int} {p : Nat} (h : ∀ (j : Nat) (x y : Int), j < p → xs[j]? = some x → xs[j + 1]? = some y → x ≤ y) (hp : xs.length ≤ p + 1) : SortP xs := by
  intro j x y hx hy
  have := (List.getElem?_eq_some_iff.1 hy).1
  exact h j x y (by omega) hx hy

set_option maxRecDepth 100000 in
set_option maxHeartbeats 1000000 in
theorem refForm_1 (S : Int) (A B : Option Addr) (n c m e a : Nat) (xs ys : List Int) (w : World) (h : Ints w w.heap.size A n xs) (hn : n ≤ 100000) (_hm : m ≤ 100000) (hl : ys.length = m) (ha : a ≤ 1048576) (hS0 : 0 ≤ S) (hS1 : S ≤ 2147483648) :
    Calls Try.prog 44 #[lvV 1 S A n c B m e, .int .i64 a] w fun x w' => x = .returned (.int .i64 (formF 1 S xs ys a)) ∧ Below w.heap.size w w' := by
  have hK : (1 : Int) = 1 ∨ (1 : Int) = 2 := by omega
  have hln := h.1
  have HLn : Hid (xs.length = n) := h.1
  have HC := fun W => refWhole_any 1 S A B n c m e W
  have hwb : wholeB 1 = false := rfl
  rw [hwb] at HC
  have z0 := lvBelow w (lvO 1 S A n c B m e)
  have zz := heap_alloc_new w (lvO 1 S A n c B m e)
  have e1 : IntKind.i64.wrap ((a : Int) + 1) = (a : Int) + 1 := by rw [IntWalk.i64_in _ (by omega)]
  have hMay : Hid (MayP 1 S a) := by unfold Hid MayP; omega
  have hT := told_pos hK xs ys a
  rw [hl, hln] at hT
  clear hwb hK
  by_cases h1 : n = a + 1
  · obtain ⟨b, off, x0, rfl, hbb, HX0, hc0, hx01, hx02⟩ := h.at_ (k := 0) (by omega)
    obtain ⟨b2, off2, xa, e2, _, HXA, hca, hxa1, hxa2⟩ := h.at_ (k := a) (by omega)
    injection e2 with e2; injection e2 with e2 e3; subst e2; subst e3
    have d1 : ((n : Int) == (a : Int) + 1) = true := by simp; omega
    have d1' : ((n : Int) != (a : Int) + 1) = false := by simp; omega
    rw [Nat.add_zero] at hc0
    have g0 : (0 : Int) < n := by omega
    have g1 : (a : Int) < n := by omega
    have g2 : (0 : Int) ≤ a := by omega
    have g3 : 0 < n := by omega
    by_cases hx0 : x0 = 0
    · subst hx0
      by_cases hxa : xa = m
      · subst hxa
        have d2 : ((m : Int) == (m : Int)) = true := by simp
        have d3 : ((m : Int) != (m : Int)) = false := by simp
        have d4 : ((0 : Int) != 0) = false := by simp
        have d5 : ((0 : Int) == 0) = true := by simp
        have HS : Hid (ToldP 1 xs ys a ↔ SortP xs) := ⟨fun q => (hT.1 q).2.2.2, fun q => hT.2 ⟨h1, HX0.out, HXA.out, q⟩⟩
        have i1 : n ≤ a + 1 := by omega
        have i2 : a + 1 ≤ n := by omega
        clear hT HX0 HXA h1 hln hl
        go_enter Try.func44, Try.ntmps44
        go_wp2_with (go_at_call 23; refine (HC _).mono ?_; rintro x w1 ⟨rfl, hb1⟩; have hb2 := z0.trans (hb1.mono z0.size); have hk2 := oKeep hb1 zz; obtain ⟨k0, k1, k2, k3, _⟩ := lvCells hk2; have j0 := (hb2.cell (p := ⟨b, off, none⟩) hbb).trans hc0; have ja := (hb2.cell (p := ⟨b, off + a, none⟩) hbb).trans hca)
        go_quiet (fail)
        go_wp2
        have hk3 := hk2
        have hb3 := below_drewN2 hb2 nq
        clear k0 k1 k2 k3 j0 ja hb1 hk2 hb2 zz z0 hc0 hca
        obtain ⟨wo, hwo⟩ : ∃ wo : World, wo = w1.drewN nq := ⟨_, rfl⟩
        have hk4 : wo.heap[w.heap.size]? = some (lvO 1 S (some ⟨b, off, none⟩) n c B m e) := by rw [hwo]; exact hk3
        rw [← hwo] at hb3 ⊢
        clear hwo hk3
        go_loopw [76] (fun i wr => ∃ p q : Nat, p ≤ a ∧ i = .int .i64 p ∧ wr = wo.drewN q ∧ Hid (∀ (j : Nat) (x y : Int), j < p → xs[j]? = some x → xs[j + 1]? = some y → x ≤ y)) (fun i _ => a - (intOf i).toNat)
        case atStart => exact ⟨0, 0, Nat.zero_le _, rfl, rfl, by unfold Hid; intro j x y hj; omega⟩
        case round =>
          obtain ⟨p, q, hp, rfl, rfl, HJ⟩ := hrel
          by_cases hlt : p < a
          · obtain ⟨k0, k1, k2, k3, _⟩ := lvCells hk4
            obtain ⟨b5, off5, u, e5, _, HU, hc5, hu1, hu2⟩ := (h.below hb3).at_ (k := p) (by omega)
            obtain ⟨b6, off6, v, e6, _, HV, hc6, hv1, hv2⟩ := (h.below hb3).at_ (k := p + 1) (by omega)
            injection e5 with e5; injection e5 with e5 e5'; subst e5; subst e5'
            injection e6 with e6; injection e6 with e6 e6'; subst e6; subst e6'
            have e8 : IntKind.i64.wrap ((p : Int) + 1) = (p : Int) + 1 := by rw [IntWalk.i64_in _ (by omega)]
            have t0 : (0 : Int) ≤ p := by omega
            have t1 : (p : Int) < n := by omega
            have t2 : (p : Int) + 1 < n := by omega
            have t3 : (0 : Int) ≤ (p : Int) + 1 := by omega
            have t4 : ((p : Int) + 1).toNat = p + 1 := by omega
            by_cases huv : v < u
            · have HF : Hid (formF 1 S xs ys a = 1) := formF_1 (fun hh => by have := HS.out.1 hh.2 p u v HU.out HV.out; omega)
              have d6 : decide (v < u) = true := by simpa using huv
              clear huv
              go_wp2
              go_quiet (fail)
              go_wp2
              go_ret
              exact ⟨ret_of (by rw [HF.out]; rfl), below_drewN2 (below_drewN2 hb3 _) _⟩
            · have HN : Hid (∀ (j : Nat) (x y : Int), j < p + 1 → xs[j]? = some x → xs[j + 1]? = some y → x ≤ y) := by
                intro j x y hj hx hy
                by_cases ej : j = p
                · subst ej
                  rw [HU.out] at hx; rw [HV.out] at hy
                  injection hx with hx; injection hy with hy; omega
                · exact HJ.out j x y (by omega) hx hy
              have d6 : decide (v < u) = false := by simpa using huv
              clear huv
              go_wp2
              go_quiet (fail)
              go_wp2
              go_roundw
              case rel => exact ⟨p + 1, _, by omega, by go_num, rfl, HN⟩
              case measure => simp [intOf]; omega
          · have HF : Hid (formF 1 S xs ys a = 0) := formF_0 ⟨hMay.out, HS.out.2 (sort_take HJ.out (by rw [HLn.out]; omega))⟩
            go_wp2
            go_ret
            exact ⟨ret_of (by rw [HF.out]; rfl), below_drewN2 hb3 _⟩
      · have d2 : (xa == (m : Int)) = false := by simpa using hxa
        have d3 : (xa != (m : Int)) = true := by simpa using hxa
        have d4 : ((0 : Int) != 0) = false := by simp
        have HF : Hid (formF 1 S xs ys a = 1) := formF_1 (fun q => by have := (hT.1 q.2).2.2.1; rw [HXA.out] at this; injection this with this; exact hxa this)
        clear hT h1 HX0 HXA hxa h hln hl
        go_enter Try.func44, Try.ntmps44
        go_wp2_with (go_at_call 23; refine (HC _).mono ?_; rintro x w1 ⟨rfl, hb1⟩; have hb2 := z0.trans (hb1.mono z0.size); have hk2 := oKeep hb1 zz; obtain ⟨k0, k1, k2, k3, _⟩ := lvCells hk2; have j0 := (hb2.cell (p := ⟨b, off, none⟩) hbb).trans hc0; have ja := (hb2.cell (p := ⟨b, off + a, none⟩) hbb).trans hca)
        go_quiet (fail)
        go_wp2
        go_ret
        exact ⟨ret_of (by rw [HF.out]; rfl), below_drewN2 hb2 _⟩
    · have d2 : (x0 == 0) = false := by simpa using hx0
      have d3 : (x0 != 0) = true := by simpa using hx0
      have HF : Hid (formF 1 S xs ys a = 1) := formF_1 (fun q => by have := (hT.1 q.2).2.1; rw [HX0.out] at this; injection this with this; exact hx0 this)
      clear hT h1 HX0 HXA hca hx0 h hln hl
      go_enter Try.func44, Try.ntmps44
      go_wp2_with (go_at_call 23; refine (HC _).mono ?_; rintro x w1 ⟨rfl, hb1⟩; have hb2 := z0.trans (hb1.mono z0.size); have hk2 := oKeep hb1 zz; obtain ⟨k0, k1, k2, k3, _⟩ := lvCells hk2; have j0 := (hb2.cell (p := ⟨b, off, none⟩) hbb).trans hc0)
      go_quiet (fail)
      go_wp2
      go_ret
      exact ⟨ret_of (by rw [HF.out]; rfl), below_drewN2 hb2 _⟩
  · have d1 : ((n : Int) == (a : Int) + 1) = false := by simp; omega
    have d1' : ((n : Int) != (a : Int) + 1) = true := by simp; omega
    have HF : Hid (formF 1 S xs ys a = 1) := formF_1 (fun q => h1 (hT.1 q.2).1)
    clear hT h1 h hln hl
    go_enter Try.func44, Try.ntmps44
    go_wp2_with (go_at_call 23; refine (HC _).mono ?_; rintro x w1 ⟨rfl, hb1⟩; have hb2 := z0.trans (hb1.mono z0.size); have hk2 := oKeep hb1 zz; obtain ⟨k0, k1, k2, k3, _⟩ := lvCells hk2)
    go_quiet (fail)
    go_wp2
    go_ret
    exact ⟨ret_of (by rw [HF.out]; rfl), below_drewN2 hb2 _⟩

set_option maxRecDepth 100000 in
set_option maxHeartbeats 1000000 in
theorem refForm_2 (S : Int) (A B : Option Addr) (n c m e a : Nat) (xs ys : List Int) (w : World) (h : Ints w w.heap.size A n xs) (hn : n ≤ 100000) (_hm : m ≤ 100000) (hl : ys.length = m) (ha : a ≤ 1048576) (hS0 : 0 ≤ S) (hS1 : S ≤ 2147483648) :
    Calls Try.prog 44 #[lvV 2 S A n c B m e, .int .i64 a] w fun x w' => x = .returned (.int .i64 (formF 2 S xs ys a)) ∧ Below w.heap.size w w' := by
  have hK : (2 : Int) = 1 ∨ (2 : Int) = 2 := by omega
  have hln := h.1
  have HLn : Hid (xs.length = n) := h.1
  have HC := fun W => refWhole_any 2 S A B n c m e W
  have hwb : wholeB 2 = false := rfl
  rw [hwb] at HC
  have z0 := lvBelow w (lvO 2 S A n c B m e)
  have zz := heap_alloc_new w (lvO 2 S A n c B m e)
  have e1 : IntKind.i64.wrap ((a : Int) + 1) = (a : Int) + 1 := by rw [IntWalk.i64_in _ (by omega)]
  have hMay : Hid (MayP 2 S a) := by unfold Hid MayP; omega
  have hT := told_pos hK xs ys a
  rw [hl, hln] at hT
  clear hwb hK
  by_cases h1 : n = a + 1
  · obtain ⟨b, off, x0, rfl, hbb, HX0, hc0, hx01, hx02⟩ := h.at_ (k := 0) (by omega)
    obtain ⟨b2, off2, xa, e2, _, HXA, hca, hxa1, hxa2⟩ := h.at_ (k := a) (by omega)
    injection e2 with e2; injection e2 with e2 e3; subst e2; subst e3
    have d1 : ((n : Int) == (a : Int) + 1) = true := by simp; omega
    have d1' : ((n : Int) != (a : Int) + 1) = false := by simp; omega
    rw [Nat.add_zero] at hc0
    have g0 : (0 : Int) < n := by omega
    have g1 : (a : Int) < n := by omega
    have g2 : (0 : Int) ≤ a := by omega
    have g3 : 0 < n := by omega
    by_cases hx0 : x0 = 0
    · subst hx0
      by_cases hxa : xa = m
      · subst hxa
        have d2 : ((m : Int) == (m : Int)) = true := by simp
        have d3 : ((m : Int) != (m : Int)) = false := by simp
        have d4 : ((0 : Int) != 0) = false := by simp
        have d5 : ((0 : Int) == 0) = true := by simp
        have HS : Hid (ToldP 2 xs ys a ↔ SortP xs) := ⟨fun q => (hT.1 q).2.2.2, fun q => hT.2 ⟨h1, HX0.out, HXA.out, q⟩⟩
        have i1 : n ≤ a + 1 := by omega
        have i2 : a + 1 ≤ n := by omega
        clear hT HX0 HXA h1 hln hl
        go_enter Try.func44, Try.ntmps44
        go_wp2_with (go_at_call 23; refine (HC _).mono ?_; rintro x w1 ⟨rfl, hb1⟩; have hb2 := z0.trans (hb1.mono z0.size); have hk2 := oKeep hb1 zz; obtain ⟨k0, k1, k2, k3, _⟩ := lvCells hk2; have j0 := (hb2.cell (p := ⟨b, off, none⟩) hbb).trans hc0; have ja := (hb2.cell (p := ⟨b, off + a, none⟩) hbb).trans hca)
        go_quiet (fail)
        go_wp2
        have hk3 := hk2
        have hb3 := below_drewN2 hb2 nq
        clear k0 k1 k2 k3 j0 ja hb1 hk2 hb2 zz z0 hc0 hca
        obtain ⟨wo, hwo⟩ : ∃ wo : World, wo = w1.drewN nq := ⟨_, rfl⟩
        have hk4 : wo.heap[w.heap.size]? = some (lvO 2 S (some ⟨b, off, none⟩) n c B m e) := by rw [hwo]; exact hk3
        rw [← hwo] at hb3 ⊢
        clear hwo hk3
        go_loopw [76] (fun i wr => ∃ p q : Nat, p ≤ a ∧ i = .int .i64 p ∧ wr = wo.drewN q ∧ Hid (∀ (j : Nat) (x y : Int), j < p → xs[j]? = some x → xs[j + 1]? = some y → x ≤ y)) (fun i _ => a - (intOf i).toNat)
        case atStart => exact ⟨0, 0, Nat.zero_le _, rfl, rfl, by unfold Hid; intro j x y hj; omega⟩
        case round =>
          obtain ⟨p, q, hp, rfl, rfl, HJ⟩ := hrel
          by_cases hlt : p < a
          · obtain ⟨k0, k1, k2, k3, _⟩ := lvCells hk4
            obtain ⟨b5, off5, u, e5, _, HU, hc5, hu1, hu2⟩ := (h.below hb3).at_ (k := p) (by omega)
            obtain ⟨b6, off6, v, e6, _, HV, hc6, hv1, hv2⟩ := (h.below hb3).at_ (k := p + 1) (by omega)
            injection e5 with e5; injection e5 with e5 e5'; subst e5; subst e5'
            injection e6 with e6; injection e6 with e6 e6'; subst e6; subst e6'
            have e8 : IntKind.i64.wrap ((p : Int) + 1) = (p : Int) + 1 := by rw [IntWalk.i64_in _ (by omega)]
            have t0 : (0 : Int) ≤ p := by omega
            have t1 : (p : Int) < n := by omega
            have t2 : (p : Int) + 1 < n := by omega
            have t3 : (0 : Int) ≤ (p : Int) + 1 := by omega
            have t4 : ((p : Int) + 1).toNat = p + 1 := by omega
            by_cases huv : v < u
            · have HF : Hid (formF 2 S xs ys a = 1) := formF_1 (fun hh => by have := HS.out.1 hh.2 p u v HU.out HV.out; omega)
              have d6 : decide (v < u) = true := by simpa using huv
              clear huv
              go_wp2
              go_quiet (fail)
              go_wp2
              go_ret
              exact ⟨ret_of (by rw [HF.out]; rfl), below_drewN2 (below_drewN2 hb3 _) _⟩
            · have HN : Hid (∀ (j : Nat) (x y : Int), j < p + 1 → xs[j]? = some x → xs[j + 1]? = some y → x ≤ y) := by
                intro j x y hj hx hy
                by_cases ej : j = p
                · subst ej
                  rw [HU.out] at hx; rw [HV.out] at hy
                  injection hx with hx; injection hy with hy; omega
                · exact HJ.out j x y (by omega) hx hy
              have d6 : decide (v < u) = false := by simpa using huv
              clear huv
              go_wp2
              go_quiet (fail)
              go_wp2
              go_roundw
              case rel => exact ⟨p + 1, _, by omega, by go_num, rfl, HN⟩
              case measure => simp [intOf]; omega
          · have HF : Hid (formF 2 S xs ys a = 0) := formF_0 ⟨hMay.out, HS.out.2 (sort_take HJ.out (by rw [HLn.out]; omega))⟩
            go_wp2
            go_ret
            exact ⟨ret_of (by rw [HF.out]; rfl), below_drewN2 hb3 _⟩
      · have d2 : (xa == (m : Int)) = false := by simpa using hxa
        have d3 : (xa != (m : Int)) = true := by simpa using hxa
        have d4 : ((0 : Int) != 0) = false := by simp
        have HF : Hid (formF 2 S xs ys a = 1) := formF_1 (fun q => by have := (hT.1 q.2).2.2.1; rw [HXA.out] at this; injection this with this; exact hxa this)
        clear hT h1 HX0 HXA hxa h hln hl
        go_enter Try.func44, Try.ntmps44
        go_wp2_with (go_at_call 23; refine (HC _).mono ?_; rintro x w1 ⟨rfl, hb1⟩; have hb2 := z0.trans (hb1.mono z0.size); have hk2 := oKeep hb1 zz; obtain ⟨k0, k1, k2, k3, _⟩ := lvCells hk2; have j0 := (hb2.cell (p := ⟨b, off, none⟩) hbb).trans hc0; have ja := (hb2.cell (p := ⟨b, off + a, none⟩) hbb).trans hca)
        go_quiet (fail)
        go_wp2
        go_ret
        exact ⟨ret_of (by rw [HF.out]; rfl), below_drewN2 hb2 _⟩
    · have d2 : (x0 == 0) = false := by simpa using hx0
      have d3 : (x0 != 0) = true := by simpa using hx0
      have HF : Hid (formF 2 S xs ys a = 1) := formF_1 (fun q => by have := (hT.1 q.2).2.1; rw [HX0.out] at this; injection this with this; exact hx0 this)
      clear hT h1 HX0 HXA hca hx0 h hln hl
      go_enter Try.func44, Try.ntmps44
      go_wp2_with (go_at_call 23; refine (HC _).mono ?_; rintro x w1 ⟨rfl, hb1⟩; have hb2 := z0.trans (hb1.mono z0.size); have hk2 := oKeep hb1 zz; obtain ⟨k0, k1, k2, k3, _⟩ := lvCells hk2; have j0 := (hb2.cell (p := ⟨b, off, none⟩) hbb).trans hc0)
      go_quiet (fail)
      go_wp2
      go_ret
      exact ⟨ret_of (by rw [HF.out]; rfl), below_drewN2 hb2 _⟩
  · have d1 : ((n : Int) == (a : Int) + 1) = false := by simp; omega
    have d1' : ((n : Int) != (a : Int) + 1) = true := by simp; omega
    have HF : Hid (formF 2 S xs ys a = 1) := formF_1 (fun q => h1 (hT.1 q.2).1)
    clear hT h1 h hln hl
    go_enter Try.func44, Try.ntmps44
    go_wp2_with (go_at_call 23; refine (HC _).mono ?_; rintro x w1 ⟨rfl, hb1⟩; have hb2 := z0.trans (hb1.mono z0.size); have hk2 := oKeep hb1 zz; obtain ⟨k0, k1, k2, k3, _⟩ := lvCells hk2)
    go_quiet (fail)
    go_wp2
    go_ret
    exact ⟨ret_of (by rw [HF.out]; rfl), below_drewN2 hb2 _⟩

set_option maxRecDepth 100000 in
set_option maxHeartbeats 1000000 in
theorem refForm_any (K S : Int) (A B : Option Addr) (n c m e a : Nat) (xs ys : List Int) (w : World) (h : Ints w w.heap.size A n xs) (hn : n ≤ 100000) (hm : m ≤ 100000) (hl : ys.length = m) (ha : a ≤ 1048576) (hS0 : 0 ≤ S) (hS1 : S ≤ 2147483648) :
    Calls Try.prog 44 #[lvV K S A n c B m e, .int .i64 a] w fun x w' => x = .returned (.int .i64 (formF K S xs ys a)) ∧ Below w.heap.size w w' := by
  by_cases h1 : K = 1
  · subst h1; exact refForm_1 S A B n c m e a xs ys w h hn hm hl ha hS0 hS1
  by_cases h2 : K = 2
  · subst h2; exact refForm_2 S A B n c m e a xs ys w h hn hm hl ha hS0 hS1
  have hln := h.1
  have HC := fun W => refWhole_any K S A B n c m e W
  have z0 := lvBelow w (lvO K S A n c B m e)
  have zz := heap_alloc_new w (lvO K S A n c B m e)
  have k1 : (K == 1) = false := by simp; omega
  have k2 : (K == 2) = false := by simp; omega
  have k1' : (K != 1) = true := by simp; omega
  have k2' : (K != 2) = true := by simp; omega
  by_cases h3 : K = 3
  · have hT : ToldP K xs ys a ↔ n = 0 ∧ m = a := by
      subst h3
      unfold ToldP; rw [← hln, ← hl]
      exact ⟨fun q => ⟨(q.2.1 rfl).1, by have := (q.2.1 rfl).2; omega⟩, fun q => ⟨fun e => by omega, fun _ => ⟨q.1, by omega⟩, fun _ _ e => absurd rfl e⟩⟩
    subst h3
    have hwb : wholeB 3 = false := rfl
    rw [hwb] at HC
    clear hwb k1 k2 k1' k2' h1 h2
    by_cases q1 : n = 0
    · have d1 : decide ((0 : Int) < (n : Int)) = false := by simp; omega
      by_cases q2 : m = a
      · have HF : Hid (formF 3 S xs ys a = 0) := formF_0 ⟨by unfold MayP; omega, hT.2 ⟨q1, q2⟩⟩
        have d2 : ((m : Int) == (a : Int)) = true := by simp; omega
        have d3 : ((m : Int) != (a : Int)) = false := by simp; omega
        clear hT q2 h hl hln
        subst q1
        go_enter Try.func44, Try.ntmps44
        go_wp2_with (go_at_call 23; refine (HC _).mono ?_; rintro x w1 ⟨rfl, hb1⟩; have hb2 := z0.trans (hb1.mono z0.size); have hk2 := oKeep hb1 zz; obtain ⟨k0, k1, k2, k3, _⟩ := lvCells hk2)
        go_ret
        exact ⟨ret_of (by rw [HF.out]; rfl), hb2⟩
      · have HF : Hid (formF 3 S xs ys a = 1) := formF_1 (fun q => q2 (hT.1 q.2).2)
        have d2 : ((m : Int) == (a : Int)) = false := by simp; omega
        have d3 : ((m : Int) != (a : Int)) = true := by simp; omega
        clear hT q2 h hl hln
        subst q1
        go_enter Try.func44, Try.ntmps44
        go_wp2_with (go_at_call 23; refine (HC _).mono ?_; rintro x w1 ⟨rfl, hb1⟩; have hb2 := z0.trans (hb1.mono z0.size); have hk2 := oKeep hb1 zz; obtain ⟨k0, k1, k2, k3, _⟩ := lvCells hk2)
        go_ret
        exact ⟨ret_of (by rw [HF.out]; rfl), hb2⟩
    · have HF : Hid (formF 3 S xs ys a = 1) := formF_1 (fun q => q1 (hT.1 q.2).1)
      have d1 : decide ((0 : Int) < (n : Int)) = true := by simp; omega
      clear hT hln h hl
      go_enter Try.func44, Try.ntmps44
      go_wp2_with (go_at_call 23; refine (HC _).mono ?_; rintro x w1 ⟨rfl, hb1⟩; have hb2 := z0.trans (hb1.mono z0.size); have hk2 := oKeep hb1 zz; obtain ⟨k0, k1, k2, k3, _⟩ := lvCells hk2)
      go_ret
      exact ⟨ret_of (by rw [HF.out]; rfl), hb2⟩
  · have k3 : (K == 3) = false := by simp; omega
    have k3' : (K != 3) = true := by simp; omega
    by_cases hw : wholeB K = true
    · have hk' := wholeB_iff.1 hw
      have hT : MayP K S a ∧ ToldP K xs ys a ↔ (n = 0 ∧ m = 0) ∧ ¬ (K = 4 ∧ S = 0) := by
        unfold ToldP MayP; rw [← hln, ← hl]
        exact ⟨fun q => ⟨q.2.2.2 h1 h2 h3, by have := q.1; omega⟩, fun q => ⟨by have := q.2; omega, fun e => by omega, fun e => absurd e h3, fun _ _ _ => q.1⟩⟩
      rw [hw] at HC
      by_cases q1 : n = 0 ∧ m = 0
      · have d1 : decide ((0 : Int) < (n : Int) + (m : Int)) = false := by simp; omega
        have d1b : ¬ (0 : Int) < (n : Int) + (m : Int) := by omega
        have e1 : IntKind.i64.wrap ((n : Int) + (m : Int)) = (n : Int) + (m : Int) := by rw [IntWalk.i64_in _ (by omega)]
        by_cases q2 : K = 4
        · subst q2
          by_cases q3 : S = 0
          · have HF : Hid (formF 4 S xs ys a = 1) := formF_1 (fun q => (hT.1 q).2 ⟨rfl, q3⟩)
            have d2 : (S == 0) = true := by simpa using q3
            clear hT q1 q3 hln h hl hk' hw
            go_enter Try.func44, Try.ntmps44
            go_wp2_with (go_at_call 23; refine (HC _).mono ?_; rintro x w1 ⟨rfl, hb1⟩; have hb2 := z0.trans (hb1.mono z0.size); have hk2 := oKeep hb1 zz; obtain ⟨k0, k1, k2, k3, _⟩ := lvCells hk2)
            go_ret
            exact ⟨ret_of (by rw [HF.out]; rfl), hb2⟩
          · have HF : Hid (formF 4 S xs ys a = 0) := formF_0 (hT.2 ⟨q1, fun q => q3 q.2⟩)
            have d2 : (S == 0) = false := by simpa using q3
            clear hT q1 q3 hln h hl hk' hw
            go_enter Try.func44, Try.ntmps44
            go_wp2_with (go_at_call 23; refine (HC _).mono ?_; rintro x w1 ⟨rfl, hb1⟩; have hb2 := z0.trans (hb1.mono z0.size); have hk2 := oKeep hb1 zz; obtain ⟨k0, k1, k2, k3, _⟩ := lvCells hk2)
            go_ret
            exact ⟨ret_of (by rw [HF.out]; rfl), hb2⟩
        · have k4 : (K == 4) = false := by simp; omega
          have HF : Hid (formF K S xs ys a = 0) := formF_0 (hT.2 ⟨q1, fun q => q2 q.1⟩)
          clear hT q1 q2 hln h hl hk' hw h1 h2 h3
          go_enter Try.func44, Try.ntmps44
          go_wp2_with (go_at_call 23; refine (HC _).mono ?_; rintro x w1 ⟨rfl, hb1⟩; have hb2 := z0.trans (hb1.mono z0.size); have hk2 := oKeep hb1 zz; obtain ⟨k0, k1, k2, k3, _⟩ := lvCells hk2)
          go_ret
          exact ⟨ret_of (by rw [HF.out]; rfl), hb2⟩
      · have HF : Hid (formF K S xs ys a = 1) := formF_1 (fun q => q1 (hT.1 q).1)
        have d1 : decide ((0 : Int) < (n : Int) + (m : Int)) = true := by simp; omega
        have d1b : (0 : Int) < (n : Int) + (m : Int) := by omega
        have e1 : IntKind.i64.wrap ((n : Int) + (m : Int)) = (n : Int) + (m : Int) := by rw [IntWalk.i64_in _ (by omega)]
        clear hT q1 hln h hl hk' hw h1 h2 h3
        go_enter Try.func44, Try.ntmps44
        go_wp2_with (go_at_call 23; refine (HC _).mono ?_; rintro x w1 ⟨rfl, hb1⟩; have hb2 := z0.trans (hb1.mono z0.size); have hk2 := oKeep hb1 zz; obtain ⟨k0, k1, k2, k3, _⟩ := lvCells hk2)
        go_ret
        exact ⟨ret_of (by rw [HF.out]; rfl), hb2⟩
    · have hw' : wholeB K = false := by simpa using hw
      have hk' := wholeB_not.1 hw'
      have HF : Hid (formF K S xs ys a = 1) := formF_1 (fun q => by have := q.1.1; omega)
      rw [hw'] at HC
      clear hw hw' hk' h1 h2 h3 hln h hl
      go_enter Try.func44, Try.ntmps44
      go_wp2_with (go_at_call 23; refine (HC _).mono ?_; rintro x w1 ⟨rfl, hb1⟩; have hb2 := z0.trans (hb1.mono z0.size); have hk2 := oKeep hb1 zz; obtain ⟨k0, k1, k2, k3, _⟩ := lvCells hk2)
      go_ret
      exact ⟨ret_of (by rw [HF.out]; rfl), hb2⟩
end Go.Proofs.Ytanbhpdobpiafaa
