/- purflelaw05.StoreDense returns true. -/
import Derived.Test.YtfimnmdcbnfhfaaPVGet
import Derived.Test.YtfimnmdcbnfhfaaG18
import Derived.Test.YtfimnmdcbnfhfaaG16
import Derived.Test.YtfimnmdcbnfhfaaPVDenM
import Derived.Test.YtfimnmdcbnfhfaaG3
import Derived.Test.YtfimnmdcbnfhfaaG9
namespace Go.Proofs.Ytfimnmdcbnfhfaa
open Go.RowKit Go.Sort

theorem atF_inn {xs cs : List Int} (h0 : (cellsF xs).2 = 0) (h : Inn xs cs) : (atF xs cs).2 = 0 := by unfold atF; rw [if_pos h0, if_pos (insideF_of_inn h)]
theorem stDenE_small {t : Ten} (h : stDenE t = 0) : tenE t = 0 ∧ (laidF t.xs).2 = 0 := by
  unfold stDenE at h
  split at h
  · next hh => exact absurd h hh
  · next hh => exact ⟨Classical.not_not.1 hh, h⟩
theorem denOK_of {t : Ten} {w : World} (ht : t.In w w.heap.size) (h : stDenE t = 0) : DenOK t := by
  obtain ⟨h1, h2⟩ := stDenE_small h
  obtain ⟨q1, q2, _⟩ := Ten.tok ht h1
  exact ⟨q1, ht.shape.1, ht.lvs.1, q2, h2, ht.vals.1, ht.vals.2.1⟩
theorem rem_in (a : Int) {N : Nat} (hN : 0 < N) (_hN2 : N ≤ 65536) : ∃ R : Nat, R < N ∧ (a.tmod N + N).tmod N = (R : Int) ∧ -65536 ≤ a.tmod N ∧ a.tmod N ≤ 65536 := by
  have h1 := Int.tmod_lt_of_pos a (show (0 : Int) < N by omega)
  have h2 : -(N : Int) < a.tmod N := by
    rcases Int.le_total 0 a with hh | hh
    · have := Int.tmod_nonneg (N : Int) hh; omega
    · have h3 := Int.tmod_nonneg (N : Int) (show 0 ≤ -a by omega)
      have h4 := Int.tmod_lt_of_pos (-a) (show (0 : Int) < N by omega)
      rw [Int.neg_tmod] at h3 h4
      omega
  have h3 := Int.tmod_nonneg (N : Int) (show 0 ≤ a.tmod N + N by omega)
  have h4 := Int.tmod_lt_of_pos (a.tmod N + N) (show (0 : Int) < N by omega)
  exact ⟨((a.tmod N + N).tmod N).toNat, by omega, by omega, by omega, by omega⟩

set_option maxRecDepth 100000 in
set_option maxHeartbeats 8000000 in
theorem storeDense_any (w : World) (T : Ten) (ht : TenR.In w w.heap.size T) (a : Int) (_ha1 : -9223372036854775808 ≤ a) (_ha2 : a ≤ 9223372036854775807) :
    Calls Try.prog 6 #[T.val, .int .i64 a] w fun r w' => r = .returned (.bool true) ∧ Below w.heap.size w w' := by
  obtain ⟨A, n, c, xs, F, fn, fc, fs, L, ln, lc, ls, V, vn, vc, vs⟩ := T
  have HB0 := Lib.hid (lvBelow w (.cells #[.slice A n c, .slice F fn fc, .slice L ln lc, .slice V vn vc] 34))
  have HX0 := Lib.hid (heap_alloc_new w (.cells #[.slice A n c, .slice F fn fc, .slice L ln lc, .slice V vn vc] 34))
  have HI : Hid (∀ W, Below w.heap.size w W → TenR.In W W.heap.size ⟨A, n, c, xs, F, fn, fc, fs, L, ln, lc, ls, V, vn, vc, vs⟩) := fun W hW => ht.on hW
  have HXK : Hid (∀ W W', Below w.heap.size w W → W.heap[w.heap.size]? = some (.cells #[.slice A n c, .slice F fn fc, .slice L ln lc, .slice V vn vc] 34 (0, 0)) → Below W.heap.size W W' → Below w.heap.size w W' ∧ W'.heap[w.heap.size]? = some (.cells #[.slice A n c, .slice F fn fc, .slice L ln lc, .slice V vn vc] 34 (0, 0))) := fun W W' h1 h2 h3 => ⟨h1.trans (h3.mono h1.size), keep_b h3 h2⟩

  by_cases hf : fewT ⟨A, n, c, xs, F, fn, fc, fs, L, ln, lc, ls, V, vn, vc, vs⟩
  case neg =>
    have HF : Hid (pB (fewT ⟨A, n, c, xs, F, fn, fc, fs, L, ln, lc, ls, V, vn, vc, vs⟩) = false) := pB_f hf
    clear hf ht
    go_enter Try.func6, Try.ntmps6
    go_wp2_with fail
    refine (stLive_any _).mono ?_
    rintro x w1 ⟨rfl, hb⟩
    obtain ⟨hB1, hX1⟩ := HXK.out _ _ HB0.out HX0.out hb
    clear hb HB0 HX0
    obtain ⟨k0, k1, k2, k3, _⟩ := lvCells hX1
    have HB1 := Lib.hid hB1
    have HX1 := Lib.hid hX1
    clear hB1 hX1
    go_wp2_with fail
    refine (refFew5_any ⟨A, n, c, xs, F, fn, fc, fs, L, ln, lc, ls, V, vn, vc, vs⟩ w1 (HI.out _ HB1.out)).mono ?_
    rintro x w2 ⟨rfl, hb⟩
    rw [HF.out]
    obtain ⟨hB2, hX2⟩ := HXK.out _ _ HB1.out HX1.out hb
    clear hb HB1 HX1 k0 k1 k2 k3
    obtain ⟨k0, k1, k2, k3, _⟩ := lvCells hX2
    have HB2 := Lib.hid hB2
    have HX2 := Lib.hid hX2
    clear hB2 hX2
    go_wp2_with fail
    go_ret
    exact ⟨rfl, HB2.out⟩
  have HF : Hid (pB (fewT ⟨A, n, c, xs, F, fn, fc, fs, L, ln, lc, ls, V, vn, vc, vs⟩) = true) := pB_t hf
  have HT : Hid (∀ W, Below w.heap.size w W → Ten.In W W.heap.size ⟨A, n, c, xs, F, fn, fc, fs, L, ln, lc, ls, V, vn, vc, vs⟩) := fun W hW => (ht.on hW).ten hf
  have ht0 := ht.ten hf
  have hv : vn ≤ 65536 := by have := hf.2.2.2.1; dsimp only at this; omega
  by_cases hE : stDenE ⟨A, n, c, xs, F, fn, fc, fs, L, ln, lc, ls, V, vn, vc, vs⟩ = 0
  case neg =>
    obtain ⟨E, hEE⟩ : ∃ E, stDenE ⟨A, n, c, xs, F, fn, fc, fs, L, ln, lc, ls, V, vn, vc, vs⟩ = E := ⟨_, rfl⟩
    rw [hEE] at hE
    have e1 : (E != 0) = true := by simpa using hE
    have HEE := Lib.hid (And.intro hEE hE)
    clear hf ht ht0 hE hEE
    go_enter Try.func6, Try.ntmps6
    go_wp2_with fail
    refine (stLive_any _).mono ?_
    rintro x w1 ⟨rfl, hb⟩
    obtain ⟨hB1, hX1⟩ := HXK.out _ _ HB0.out HX0.out hb
    clear hb HB0 HX0
    obtain ⟨k0, k1, k2, k3, _⟩ := lvCells hX1
    have HB1 := Lib.hid hB1
    have HX1 := Lib.hid hX1
    clear hB1 hX1
    go_wp2_with fail
    refine (refFew5_any ⟨A, n, c, xs, F, fn, fc, fs, L, ln, lc, ls, V, vn, vc, vs⟩ w1 (HI.out _ HB1.out)).mono ?_
    rintro x w2 ⟨rfl, hb⟩
    rw [HF.out]
    obtain ⟨hB2, hX2⟩ := HXK.out _ _ HB1.out HX1.out hb
    clear hb HB1 HX1 k0 k1 k2 k3
    obtain ⟨k0, k1, k2, k3, _⟩ := lvCells hX2
    have HB2 := Lib.hid hB2
    have HX2 := Lib.hid hX2
    clear hB2 hX2
    go_wp2_with fail
    refine (stDense_any ⟨A, n, c, xs, F, fn, fc, fs, L, ln, lc, ls, V, vn, vc, vs⟩ w2 (HT.out _ HB2.out) hv).mono ?_
    rintro x w3 ⟨hb, hh⟩
    obtain ⟨hB3, _⟩ := HXK.out _ _ HB2.out HX2.out hb
    have HB3 := Lib.hid hB3
    rcases hh with ⟨_, rfl⟩ | ⟨hh, _⟩
    case inr => rw [HEE.out.1] at hh; exact absurd hh HEE.out.2
    rw [HEE.out.1]
    clear hb HB2 HX2 k0 k1 k2 k3 hB3
    go_wp2_with fail
    go_ret
    exact ⟨rfl, HB3.out.alloc HB3.out.size _⟩
  have hD := denOK_of ht0 hE
  have HD := Lib.hid hD
  have HE := Lib.hid hE
  have HTE := Lib.hid (stDenE_small hE).1
  have b1 := ht0.n1
  dsimp only at b1
  have hxl : xs.length = n := ht0.shape.1
  have HXL := Lib.hid hxl
  obtain ⟨dv, hdv⟩ : ∃ dv, stDenV ⟨A, n, c, xs, F, fn, fc, fs, L, ln, lc, ls, V, vn, vc, vs⟩ = dv := ⟨_, rfl⟩
  have hdl : (dv.length : Int) = prodI xs := by rw [← hdv]; exact hD.length
  have hNZ : dv.any nzB = vs.any nzB := by rw [← hdv]; exact hD.nz
  have hN5 : dv.length ≤ 65536 := by
    have h0 := hD.laid
    have h1 := hD.lead
    dsimp only at h0 h1
    have h2 : (laidF xs).1 ≤ 65536 := by
      have h3 := h0
      unfold laidF at h3 ⊢
      split at h3
      · split at h3
        · cases h3
        · next h4 h5 => rw [if_pos h4, if_neg h5]; show (cellsF xs).1 ≤ 65536; omega
      · next h4 => exact absurd h3 h4
    omega
  obtain ⟨N, hN⟩ : ∃ N, dv.length = N := ⟨_, rfl⟩
  obtain ⟨nb, hnb⟩ : ∃ nb, vs.any nzB = nb := ⟨_, rfl⟩
  rw [hN] at hdl hN5
  rw [hnb] at hNZ
  have HDV := Lib.hid hdv
  have HDL := Lib.hid hdl
  have HN := Lib.hid hN
  have HNB := Lib.hid (And.intro hNZ hnb)
  clear hf ht ht0 hE hD hxl hdv hdl hNZ hN hnb
  go_enter Try.func6, Try.ntmps6
  go_wp2_with fail
  refine (stLive_any _).mono ?_
  rintro x w1 ⟨rfl, hb⟩
  obtain ⟨hB1, hX1⟩ := HXK.out _ _ HB0.out HX0.out hb
  clear hb HB0 HX0
  obtain ⟨k0, k1, k2, k3, _⟩ := lvCells hX1
  have HB1 := Lib.hid hB1
  have HX1 := Lib.hid hX1
  clear hB1 hX1
  go_wp2_with fail
  refine (refFew5_any ⟨A, n, c, xs, F, fn, fc, fs, L, ln, lc, ls, V, vn, vc, vs⟩ w1 (HI.out _ HB1.out)).mono ?_
  rintro x w2 ⟨rfl, hb⟩
  rw [HF.out]
  obtain ⟨hB2, hX2⟩ := HXK.out _ _ HB1.out HX1.out hb
  clear hb HB1 HX1 k0 k1 k2 k3
  obtain ⟨k0, k1, k2, k3, _⟩ := lvCells hX2
  have HB2 := Lib.hid hB2
  have HX2 := Lib.hid hX2
  clear hB2 hX2
  go_wp2_with fail
  refine (stDense_any ⟨A, n, c, xs, F, fn, fc, fs, L, ln, lc, ls, V, vn, vc, vs⟩ w2 (HT.out _ HB2.out) hv).mono ?_
  rintro x w3 ⟨hb, hh⟩
  rcases hh with ⟨hh, _⟩ | ⟨_, A1, r1, A2, r2, rfl, hO1, hO2⟩
  case inl => exact absurd HE.out hh
  rw [HDV.out] at hO2
  have hI2 := hO2.ints
  rw [HDV.out, HN.out]
  rw [HN.out] at hI2
  obtain ⟨hB3, hX3⟩ := HXK.out _ _ HB2.out HX2.out hb
  clear HB2 HX2 k0 k1 k2 k3 hO1 hO2
  dsimp only
  obtain ⟨W3, hW3⟩ : ∃ W, w3.alloc (.cells #[.slice A1 n r1, .slice A2 N r2] 45) = W := ⟨_, rfl⟩
  have hb3 : Below w3.heap.size w3 W3 := by rw [← hW3]; exact (Below.refl _ _).alloc (Nat.le_refl _) _
  have HKP : Hid (∀ W, Below W3.heap.size W3 W → Below w.heap.size w W ∧ W.heap[w.heap.size]? = some (.cells #[.slice A n c, .slice F fn fc, .slice L ln lc, .slice V vn vc] 34 (0, 0)) ∧ W.heap[w3.heap.size]? = some (.cells #[.slice A1 n r1, .slice A2 N r2] 45 (0, 0)) ∧ Ints W W.heap.size A2 N dv ∧ Ten.In W W.heap.size ⟨A, n, c, xs, F, fn, fc, fs, L, ln, lc, ls, V, vn, vc, vs⟩) := by
    intro W hW
    have h1 := hb3.trans (hW.mono hb3.size)
    have h2 := hB3.trans (h1.mono hB3.size)
    refine ⟨h2, keep_b h1 hX3, keep_b hW ?_, (hI2.below h1).more h1.size, HT.out _ h2⟩
    rw [← hW3]; exact heap_alloc_new _ _
  clear hb hB3 hX3 hI2
  obtain ⟨_, hX, hC, _, hT3⟩ := HKP.out W3 (Below.refl _ _)
  obtain ⟨k0, k1, k2, k3, _⟩ := lvCells hX
  have hEM := stEmpty_any ⟨A, n, c, xs, F, fn, fc, fs, L, ln, lc, ls, V, vn, vc, vs⟩ W3 hT3
  clear hX hC hT3
  go_upto_region 7 with fail
  try rw [hW3]
  clear hW3 hb3
  go_wp2_with fail
  refine hEM.mono ?_
  rintro x w4 ⟨hb4, hh⟩
  rcases hh with ⟨hh, _⟩ | ⟨_, rfl⟩
  case inl => exact absurd HTE.out hh
  rw [HNB.out.2]
  have HB4 := Lib.hid hb4
  clear hb4 k0 k1 k2 k3 hEM
  obtain ⟨_, hX, hC, hI, _⟩ := HKP.out w4 HB4.out
  obtain ⟨x0, x1, _, _⟩ := pair_cells hC
  go_wp2_with fail
  clear x0 x1 hX hC hI
  go_loopw [39, 10] (fun i z wr => ∃ k : Nat, k ≤ N ∧ i = .int .i64 k ∧ z = .bool (!((dv.take k).any nzB)) ∧ Hid (Below W3.heap.size W3 wr)) (fun i _ _ => N - (intOf i).toNat)
  case atStart => exact ⟨0, Nat.zero_le _, rfl, rfl, HB4.out⟩
  case round =>
    obtain ⟨k, hk, rfl, rfl, HB⟩ := hrel
    obtain ⟨_, hXr, hCr, hIr, hTr⟩ := HKP.out wr HB.out
    by_cases hlt : k < N
    · obtain ⟨b, off, y, hA2, _, HY, cy, _, _⟩ := hIr.at_ hlt
      subst hA2
      obtain ⟨zb, hzb⟩ : ∃ zb, (dv.take k).any nzB = zb := ⟨_, rfl⟩
      have hs : (dv.take (k + 1)).any nzB = (zb || nzB y) := by rw [take_succ_of HY.out, List.any_append, hzb]; simp
      rw [hzb]
      have hkI : (k : Int) < (N : Int) := by omega
      have hk0 : (0 : Int) ≤ (k : Int) := by omega
      have HLT : Hid (k + 1 ≤ N) := hlt
      clear hXr hCr hIr hTr hzb hlt HY
      cases zb
      · obtain ⟨yb, hyb⟩ : ∃ yb, (y == 0) = yb := ⟨_, rfl⟩
        have hyn : nzB y = !yb := by rw [← hyb]; unfold nzB; rfl
        rw [hyn] at hs
        have HS := Lib.hid hs
        clear hyn hs
        cases yb
        all_goals
          go_wp2_with fail
          go_roundw
          case rel => exact ⟨k + 1, HLT.out, by go_num, by rw [HS.out]; rfl, HB⟩
          case measure => have := HLT.out; simp [intOf]; omega
      · have HS := Lib.hid hs
        clear hs
        go_wp2_with fail
        go_roundw
        case rel => exact ⟨k + 1, HLT.out, by go_num, by rw [HS.out]; rfl, HB⟩
        case measure => have := HLT.out; simp [intOf]; omega
    · obtain rfl : k = N := by omega
      rw [List.take_of_length_le (Nat.le_of_eq HN.out), HNB.out.1]
      obtain ⟨x0, x1, _, _⟩ := pair_cells hCr
      have HBw : Hid (Below w.heap.size w wr) := (HKP.out wr HB.out).1
      clear hXr hCr hIr hTr hlt
      by_cases h0 : k = 0
      · subst h0
        cases nb
        all_goals
          go_wp2_with fail
          go_ret
          exact ⟨rfl, HBw.out⟩
      · have e0 : (k == 0) = false := by simpa using h0
        have e0' : ((k : Int) == 0) = false := by simp; omega
        obtain ⟨R, hR, hRe, hR1, hR2⟩ := rem_in a (N := k) (by omega) hN5
        have e1 : ¬ (k : Int) = 0 := by omega
        obtain ⟨M1, hM1⟩ : ∃ M1, a.tmod (k : Int) = M1 := ⟨_, rfl⟩
        rw [hM1] at hRe hR1 hR2
        have q1 : IntKind.i64.wrap M1 = M1 := IntWalk.i64_in _ (by omega)
        have q2 : IntKind.i64.wrap (M1 + (k : Int)) = M1 + (k : Int) := IntWalk.i64_in _ (by omega)
        have q3 : IntKind.i64.wrap (R : Int) = (R : Int) := IntWalk.i64_in _ (by omega)
        have HR := Lib.hid hR
        have HGT : Hid ((∃ q, q < vn ∧ cN n fs ls ln q = placeR xs R ∧ dv.getD R 0 = vs.getD q 0) ∨ ((∀ q, q < vn → cN n fs ls ln q ≠ placeR xs R) ∧ dv.getD R 0 = 0)) := by
          have := HD.out.get (a := R) (by show (R : Int) < prodI xs; rw [← HDL.out]; omega)
          rw [HDV.out] at this
          exact this
        have HCF : Hid (coordF xs (R : Int) = (placeR xs R, 0)) := by
          have h0 := laidF_ok HD.out.laid
          have h1 := HD.out.lead
          dsimp only at h0 h1
          unfold Hid coordF
          rw [if_pos h0.1, if_pos ⟨by omega, by rw [← h0.2, h1, ← HDL.out]; omega⟩]
        have HAF : Hid ((atF xs (placeR xs R)).2 = 0) := atF_inn (laidF_ok HD.out.laid).1 (placeR_inn (HD.out.pos (a := R) (by show (R : Int) < prodI xs; rw [← HDL.out]; omega)) R)
        have z1 := cell_regrown x1
        have hmx : Try.prog.follows .mixedOrders = true := by kernel_rfl
        clear hR hR1 hR2
        cases nb
        all_goals
          go_upto_region 18 with fail
          refine wp_region_quiet_below hmx (by kernel_rfl) ?_
          repeat (quiet_step (fail))
          refine wpQuiet_nil ?_
          intro _ hw'
          obtain ⟨⟨dq, osq⟩, hw''⟩ := hw'
          subst hw''
          obtain ⟨W5, hW5⟩ : ∃ W, grow (redrawn wr dq) osq = W := ⟨_, rfl⟩
          have hb5 := below_regrown wr dq osq
          rw [hW5] at hb5 ⊢
          have HB5 := Lib.hid (HB.out.trans (hb5.mono HB.out.size))
          clear z1 x0 x1 hb5 hW5 q1 q2 q3 e1 h0 e0 e0' hM1 hRe
          obtain ⟨_, hX5, _, _, hT5⟩ := HKP.out W5 HB5.out
          obtain ⟨k0, k1, k2, k3, _⟩ := lvCells hX5
          have hCO := coord_any A n c xs (R : Int) W5 hT5.shape (by omega)
          rw [HCF.out] at hCO
          dsimp only at hCO
          rw [placeR_length, HXL.out] at hCO
          clear hX5 hT5
          go_wp2_with fail
          refine hCO.mono ?_
          rintro e w6 ⟨A6, r6, rfl, hO6, hb6⟩
          have hI6 := hO6.ints
          rw [placeR_length, HXL.out] at hI6
          have HB6 := Lib.hid (HB5.out.trans (hb6.mono HB5.out.size))
          clear hO6 hb6 hCO k0 k1 k2 k3
          obtain ⟨_, hX6, _, _, hT6⟩ := HKP.out w6 HB6.out
          obtain ⟨k0, k1, k2, k3, _⟩ := lvCells hX6
          have hG := stGet_any ⟨A, n, c, xs, F, fn, fc, fs, L, ln, lc, ls, V, vn, vc, vs⟩ A6 n r6 (placeR xs R) w6 hT6 hI6 (by omega)
          clear hX6 hT6 hI6
          go_wp2_with fail
          refine hG.mono ?_
          rintro e w7 ⟨hb7, hh⟩
          have HB7 := Lib.hid (HB6.out.trans (hb7.mono HB6.out.size))
          obtain ⟨hBw, _, hC7, hI7, _⟩ := HKP.out w7 HB7.out
          have HBW := Lib.hid hBw
          obtain ⟨x0, x1, _, _⟩ := pair_cells hC7
          obtain ⟨b, off, y, hA2, _, HY, cy, _, _⟩ := hI7.at_ (k := R) (by have := HR.out; omega)
          have hy : dv.getD R 0 = y := by rw [List.getD_eq_getElem?_getD, HY.out]; rfl
          have hg := HGT.out
          rw [hy] at hg
          subst hA2
          have hRI : (R : Int) < (k : Int) := by have := HR.out; omega
          have hR0 : (0 : Int) ≤ (R : Int) := by omega
          rcases hh with ⟨hh, _⟩ | ⟨_, hh, _⟩ | ⟨_, _, hh⟩
          · exact absurd HTE.out hh
          · exact absurd HAF.out hh
          rcases hh with ⟨q, hq, hqc, rfl⟩ | ⟨hno, rfl⟩
          · have hv : (Ten.mk A n c xs F fn fc fs L ln lc ls V vn vc vs).vs.getD q 0 = y := by
              rcases hg with ⟨q', hq', h1, h2⟩ | ⟨h1, _⟩
              · obtain rfl : q' = q := HD.out.one hq' hq (h1.trans hqc.symm)
                exact h2.symm
              · exact absurd hqc (h1 q hq)
            rw [hv]
            clear hv hg hq hqc hb7 hBw hC7 hI7 hy HY k0 k1 k2 k3 hG
            go_wp2_with fail
            go_ret
            exact ⟨rfl, HBW.out⟩
          · have hv : y = 0 := by
              rcases hg with ⟨q', hq', h1, _⟩ | ⟨_, h1⟩
              · exact absurd h1 (hno q' hq')
              · exact h1
            subst hv
            clear hg hno hb7 hBw hC7 hI7 hy HY k0 k1 k2 k3 hG
            go_wp2_with fail
            go_ret
            exact ⟨rfl, HBW.out⟩

end Go.Proofs.Ytfimnmdcbnfhfaa
