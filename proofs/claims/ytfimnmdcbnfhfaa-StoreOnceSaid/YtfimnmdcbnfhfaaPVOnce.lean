/- purflelaw05.StoreOnce returns true. -/
import Derived.Test.YtfimnmdcbnfhfaaPVGet
import Derived.Test.YtfimnmdcbnfhfaaG18
import Derived.Test.YtfimnmdcbnfhfaaG16
import Derived.Test.YtfimnmdcbnfhfaaPVRefF
namespace Go.Proofs.Ytfimnmdcbnfhfaa
open Go.RowKit Go.Sort

theorem eqF5 (A A2 : Option Addr) (n n2 c c2 : Nat) (xs ys : List Int) (w : World) (h : Ints w w.heap.size A n xs) (h2 : Ints w w.heap.size A2 n2 ys) (hn : n ≤ 100000) (hn2 : n2 ≤ 9223372036854775807) (hne : xs ≠ ys) :
    Calls Try.prog 12 #[.slice A n c, .slice A2 n2 c2] w fun e w' => e = .returned (.bool false) ∧ Below w.heap.size w w' :=
  (refEqual_any A A2 n n2 c c2 xs ys w w.heap.size h h2 hn hn2).mono fun e w' ⟨he, m, hm⟩ => ⟨by rw [he, decide_eq_false hne], by subst hm; exact below_drewN (Below.refl _ _) m⟩
theorem ownE_cap5 {w : World} {base c : Nat} {A : Option Addr} {L : List Ent} (h : OwnE w base A c L) : L.length ≤ c := by
  rcases h.2 with ⟨h1, h2⟩ | ⟨g, cap, cur, h1, _, _, h4, _⟩
  · have : L.length = 0 := by
      cases L with
      | nil => rfl
      | cons x r => simp at h2
    omega
  · injection h1 with _ _ h3; omega
set_option maxRecDepth 100000 in
theorem run_take5 {w : World} (A : Option Addr) (n c k : Nat) (hk : k ≤ n) (hc : n ≤ c) : (Instr.slice 39 (.slice A n c) none (some (.int .i64 (k : Int))) none).run Try.prog w = .ok (.slice A k c) w := by
  obtain ⟨i0, hi0, hz0, hz1, hz2⟩ := info_parts infoEnt
  rw [run_slice_h w 39 A n c (by kernel_rfl) .i64 (k : Int) (by omega) (by omega)]
  have hs : (sizeOf (Try.prog.elem 39)).run Try.prog w = .ok 2 w := by
    have he : Try.prog.elem 39 = 56 := by kernel_rfl
    rw [he]; simp [sizeOf, typeInfo, hi0, hz1]
  rw [hs]
  simp only [Result.andThen, sliced, Int.toNat_natCast, Nat.zero_mul, Nat.sub_zero]
  have : (if c = 0 then A else A.map (·.add 0)) = A := by
    split
    · rfl
    · cases A <;> simp [Addr.add]
  rw [this]
theorem ent_key {Ts : List Ent} {t : Ten} (h : Ts.map keyE = entK t t.vn) {i : Nat} {y : Ent} (hy : Ts[i]? = some y) : i < t.vn ∧ y.cs = cN t.n t.fs t.ls t.ln i ∧ y.v = t.vs.getD i 0 ∧ y.n = t.n := by
  have hl : Ts.length = t.vn := by have := congrArg List.length h; rw [List.length_map, entK_length] at this; exact this
  have hi : i < t.vn := by have := (List.getElem?_eq_some_iff.1 hy).1; omega
  have h1 : (Ts.map keyE)[i]? = some (keyE y) := by rw [List.getElem?_map, hy]; rfl
  rw [h] at h1
  unfold entK at h1
  rw [List.getElem?_map, List.getElem?_range hi] at h1
  injection h1 with h1
  have e1 := congrArg (fun q => q.1) h1
  have e2 := congrArg (fun q => q.2.1) h1
  have e3 := congrArg (fun q => q.2.2) h1
  exact ⟨hi, e1.symm, e2.symm, e3.symm⟩
theorem atF_in {xs cs : List Int} (h : (cellsF xs).2 = 0) (hi : insideF xs cs = true) : (atF xs cs).2 = 0 := by unfold atF; rw [if_pos h, if_pos hi]

set_option maxRecDepth 100000 in
set_option maxHeartbeats 8000000 in
theorem storeOnce_any (w : World) (T : Ten) (ht : TenR.In w w.heap.size T) :
    Calls Try.prog 5 #[T.val] w fun r w' => r = .returned (.bool true) ∧ Below w.heap.size w w' := by
  obtain ⟨A, n, c, xs, F, fn, fc, fs, L, ln, lc, ls, V, vn, vc, vs⟩ := T
  have HB0 := Lib.hid (lvBelow w (.cells #[.slice A n c, .slice F fn fc, .slice L ln lc, .slice V vn vc] 34))
  have HX0 := Lib.hid (heap_alloc_new w (.cells #[.slice A n c, .slice F fn fc, .slice L ln lc, .slice V vn vc] 34))
  have HI : Hid (∀ W, Below w.heap.size w W → TenR.In W W.heap.size ⟨A, n, c, xs, F, fn, fc, fs, L, ln, lc, ls, V, vn, vc, vs⟩) := fun W hW => ht.on hW
  have HXK : Hid (∀ W W', Below w.heap.size w W → W.heap[w.heap.size]? = some (.cells #[.slice A n c, .slice F fn fc, .slice L ln lc, .slice V vn vc] 34 (0, 0)) → Below W.heap.size W W' → Below w.heap.size w W' ∧ W'.heap[w.heap.size]? = some (.cells #[.slice A n c, .slice F fn fc, .slice L ln lc, .slice V vn vc] 34 (0, 0))) := fun W W' h1 h2 h3 => ⟨h1.trans (h3.mono h1.size), keep_b h3 h2⟩

  by_cases hf : fewT ⟨A, n, c, xs, F, fn, fc, fs, L, ln, lc, ls, V, vn, vc, vs⟩
  case neg =>
    have HF : Hid (pB (fewT ⟨A, n, c, xs, F, fn, fc, fs, L, ln, lc, ls, V, vn, vc, vs⟩) = false) := pB_f hf
    clear hf ht
    go_enter Try.func5, Try.ntmps5
    go_wp2_with fail
    refine (stLive_any _).mono ?_
    rintro x w1 ⟨rfl, hb⟩
    obtain ⟨hB1, hX1⟩ := HXK.out _ _ HB0.out HX0.out hb
    clear hb HB0 HX0
    obtain ⟨k0, k1, k2, k3, _⟩ := lvCells hX1
    have HB1 := Lib.hid hB1
    have HX1 := Lib.hid hX1
    clear hB1 hX1
    go_wp2_with fail
    refine (refFew5_any ⟨A, n, c, xs, F, fn, fc, fs, L, ln, lc, ls, V, vn, vc, vs⟩ w1 (HI.out _ HB1.out)).mono ?_
    rintro x w2 ⟨rfl, hb⟩
    rw [HF.out]
    obtain ⟨hB2, hX2⟩ := HXK.out _ _ HB1.out HX1.out hb
    clear hb HB1 HX1 k0 k1 k2 k3
    obtain ⟨k0, k1, k2, k3, _⟩ := lvCells hX2
    have HB2 := Lib.hid hB2
    have HX2 := Lib.hid hX2
    clear hB2 hX2
    go_wp2_with fail
    go_ret
    exact ⟨rfl, HB2.out⟩
  have HF : Hid (pB (fewT ⟨A, n, c, xs, F, fn, fc, fs, L, ln, lc, ls, V, vn, vc, vs⟩) = true) := pB_t hf
  have HT : Hid (∀ W, Below w.heap.size w W → Ten.In W W.heap.size ⟨A, n, c, xs, F, fn, fc, fs, L, ln, lc, ls, V, vn, vc, vs⟩) := fun W hW => (ht.on hW).ten hf
  have ht0 := ht.ten hf
  by_cases hv : 300 < vn
  case pos =>
    have c1 : decide (300 < vn) = true := decide_eq_true hv
    have c2 : decide (300 < (vn : Int)) = true := decide_eq_true (by omega)
    clear hf ht ht0 hv
    go_enter Try.func5, Try.ntmps5
    go_wp2_with fail
    refine (stLive_any _).mono ?_
    rintro x w1 ⟨rfl, hb⟩
    obtain ⟨hB1, hX1⟩ := HXK.out _ _ HB0.out HX0.out hb
    clear hb HB0 HX0
    obtain ⟨k0, k1, k2, k3, _⟩ := lvCells hX1
    have HB1 := Lib.hid hB1
    have HX1 := Lib.hid hX1
    clear hB1 hX1
    go_wp2_with fail
    refine (refFew5_any ⟨A, n, c, xs, F, fn, fc, fs, L, ln, lc, ls, V, vn, vc, vs⟩ w1 (HI.out _ HB1.out)).mono ?_
    rintro x w2 ⟨rfl, hb⟩
    rw [HF.out]
    obtain ⟨hB2, hX2⟩ := HXK.out _ _ HB1.out HX1.out hb
    clear hb HB1 HX1 k0 k1 k2 k3
    obtain ⟨k0, k1, k2, k3, _⟩ := lvCells hX2
    have HB2 := Lib.hid hB2
    have HX2 := Lib.hid hX2
    clear hB2 hX2
    go_wp2_with fail
    go_ret
    exact ⟨rfl, HB2.out⟩
  have c1 : decide (300 < vn) = false := decide_eq_false hv
  have c2 : decide (300 < (vn : Int)) = false := decide_eq_false (by omega)
  by_cases hE : tenE ⟨A, n, c, xs, F, fn, fc, fs, L, ln, lc, ls, V, vn, vc, vs⟩ = 0
  case neg =>
    obtain ⟨E, hEE⟩ : ∃ E, tenE ⟨A, n, c, xs, F, fn, fc, fs, L, ln, lc, ls, V, vn, vc, vs⟩ = E := ⟨_, rfl⟩
    rw [hEE] at hE
    have e1 : (E != 0) = true := by simpa using hE
    have HEE := Lib.hid hEE
    clear hf ht ht0 hE hEE hv
    go_enter Try.func5, Try.ntmps5
    go_wp2_with fail
    refine (stLive_any _).mono ?_
    rintro x w1 ⟨rfl, hb⟩
    obtain ⟨hB1, hX1⟩ := HXK.out _ _ HB0.out HX0.out hb
    clear hb HB0 HX0
    obtain ⟨k0, k1, k2, k3, _⟩ := lvCells hX1
    have HB1 := Lib.hid hB1
    have HX1 := Lib.hid hX1
    clear hB1 hX1
    go_wp2_with fail
    refine (refFew5_any ⟨A, n, c, xs, F, fn, fc, fs, L, ln, lc, ls, V, vn, vc, vs⟩ w1 (HI.out _ HB1.out)).mono ?_
    rintro x w2 ⟨rfl, hb⟩
    rw [HF.out]
    obtain ⟨hB2, hX2⟩ := HXK.out _ _ HB1.out HX1.out hb
    clear hb HB1 HX1 k0 k1 k2 k3
    obtain ⟨k0, k1, k2, k3, _⟩ := lvCells hX2
    have HB2 := Lib.hid hB2
    have HX2 := Lib.hid hX2
    clear hB2 hX2
    go_wp2_with fail
    refine (stCheck_any ⟨A, n, c, xs, F, fn, fc, fs, L, ln, lc, ls, V, vn, vc, vs⟩ w2 (HT.out _ HB2.out)).mono ?_
    rintro x w3 ⟨rfl, hb⟩
    rw [HEE.out]
    obtain ⟨hB3, hX3⟩ := HXK.out _ _ HB2.out HX2.out hb
    clear hb HB2 HX2 k0 k1 k2 k3
    obtain ⟨k0, k1, k2, k3, _⟩ := lvCells hX3
    have HB3 := Lib.hid hB3
    have HX3 := Lib.hid hX3
    clear hB3 hX3
    go_wp2_with fail
    go_ret
    exact ⟨rfl, HB3.out⟩
  obtain ⟨hTok, hvn, hfn⟩ := Ten.tok ht0 hE
  dsimp only at hTok hvn hfn
  have hll : ls.length = ln := ht0.lvs.1
  have hxl : xs.length = n := ht0.shape.1
  have HE := Lib.hid hE
  have HTok := Lib.hid hTok
  have HLL := Lib.hid hll
  have HXL := Lib.hid hxl
  have HVN := Lib.hid hvn
  have b1 := ht0.n1
  have b2 := ht0.l1
  have b3 : vn ≤ 300 := by omega
  dsimp only at b1 b2
  -- each entry
  have HOne : Hid (∀ i j, i < vn → j < vn → cN n fs ls ln i = cN n fs ls ln j → i = j) := by
    intro i j hi hj he
    rw [← hll, ← hxl] at he
    exact hTok.one (by rw [hll]; omega) (by rw [hll]; omega) he
  have HIns : Hid (∀ i, i < vn → (atF xs (cN n fs ls ln i)).2 = 0) := by
    intro i hi
    have := tok_inside hTok (n := i) (by rw [hll]; omega)
    rw [hll, hxl] at this
    exact atF_in hTok.cells this
  clear hf ht ht0 hE hTok hvn hfn hll hxl hv
  go_enter Try.func5, Try.ntmps5
  go_wp2_with fail
  refine (stLive_any _).mono ?_
  rintro x w1 ⟨rfl, hb⟩
  obtain ⟨hB1, hX1⟩ := HXK.out _ _ HB0.out HX0.out hb
  clear hb HB0 HX0
  obtain ⟨k0, k1, k2, k3, _⟩ := lvCells hX1
  have HB1 := Lib.hid hB1
  have HX1 := Lib.hid hX1
  clear hB1 hX1
  go_wp2_with fail
  refine (refFew5_any ⟨A, n, c, xs, F, fn, fc, fs, L, ln, lc, ls, V, vn, vc, vs⟩ w1 (HI.out _ HB1.out)).mono ?_
  rintro x w2 ⟨rfl, hb⟩
  rw [HF.out]
  obtain ⟨hB2, hX2⟩ := HXK.out _ _ HB1.out HX1.out hb
  clear hb HB1 HX1 k0 k1 k2 k3
  obtain ⟨k0, k1, k2, k3, _⟩ := lvCells hX2
  have HB2 := Lib.hid hB2
  have HX2 := Lib.hid hX2
  clear hB2 hX2
  go_wp2_with fail
  refine (stCheck_any ⟨A, n, c, xs, F, fn, fc, fs, L, ln, lc, ls, V, vn, vc, vs⟩ w2 (HT.out _ HB2.out)).mono ?_
  rintro x w3 ⟨rfl, hb⟩
  rw [HE.out]
  obtain ⟨hB3, hX3⟩ := HXK.out _ _ HB2.out HX2.out hb
  clear hb HB2 HX2 k0 k1 k2 k3
  obtain ⟨k0, k1, k2, k3, _⟩ := lvCells hX3
  have HB3 := Lib.hid hB3
  have HX3 := Lib.hid hX3
  clear hB3 hX3
  go_wp2_with fail
  refine (stRead_any ⟨A, n, c, xs, F, fn, fc, fs, L, ln, lc, ls, V, vn, vc, vs⟩ w3 (HT.out _ HB3.out)).mono ?_
  rintro x w4 ⟨hb, hh⟩
  rcases hh with ⟨hh, _⟩ | ⟨_, A1, r1, A3, r3, Ts, rfl, hA1, hA3, hP, hK⟩
  · exact absurd HE.out hh
  obtain ⟨hB4, hX4⟩ := HXK.out _ _ HB3.out HX3.out hb
  clear HB3 HX3 k0 k1 k2 k3
  have hTl : Ts.length = vn := by have := congrArg List.length hK; rw [List.length_map, entK_length] at this; exact this
  have hEn : Ents w4 w4.heap.size A3 vn Ts := by
    have := ownE_ents hA3 hP
    rw [hTl] at this
    exact this
  have hr3 : vn ≤ r3 := by have := ownE_cap5 hA3; omega
  have HKY : Hid (∀ i y, Ts[i]? = some y → i < vn ∧ y.cs = cN n fs ls ln i ∧ y.v = vs.getD i 0 ∧ y.n = n) := fun i y hy => ent_key hK hy
  dsimp only
  obtain ⟨W5, hW5⟩ : ∃ W, w4.alloc (.cells #[.slice A1 n r1, .slice A3 vn r3] 41) = W := ⟨_, rfl⟩
  have hb5 : Below w4.heap.size w4 W5 := by rw [← hW5]; exact (Below.refl _ _).alloc (Nat.le_refl _) _
  have HKP : Hid (∀ W, Below W5.heap.size W5 W → Below w.heap.size w W ∧ W.heap[w.heap.size]? = some (.cells #[.slice A n c, .slice F fn fc, .slice L ln lc, .slice V vn vc] 34 (0, 0)) ∧ W.heap[w4.heap.size]? = some (.cells #[.slice A1 n r1, .slice A3 vn r3] 41 (0, 0)) ∧ Ents W W.heap.size A3 vn Ts ∧ Ten.In W W.heap.size ⟨A, n, c, xs, F, fn, fc, fs, L, ln, lc, ls, V, vn, vc, vs⟩) := by
    intro W hW
    have h1 := hb5.trans (hW.mono hb5.size)
    have h2 := hB4.trans (h1.mono hB4.size)
    refine ⟨h2, keep_b h1 hX4, keep_b hW ?_, (hEn.below h1).more h1.size, HT.out _ h2⟩
    rw [← hW5]; exact heap_alloc_new _ _
  have htk := fun W k hk => run_take5 (w := W) A3 vn r3 k hk hr3
  obtain ⟨_, hX5, hC5, _, _⟩ := HKP.out W5 (Below.refl _ _)
  obtain ⟨k0, k1, k2, k3, _⟩ := lvCells hX5
  obtain ⟨x0, x1, _, _⟩ := pair_cells hC5
  clear hb hA1 hA3 hP hK hTl hEn hX5 hC5 hB4 hX4 hb5
  go_upto_region 5 with fail
  try rw [hW5]
  clear hW5
  go_wp2_with fail
  clear k0 k1 k2 k3 x0 x1
  obtain ⟨wb, rfl⟩ : ∃ wb : World, wb = W5 := ⟨_, rfl⟩
  go_loopw [50] (fun i wr => ∃ k : Nat, k ≤ vn ∧ i = .int .i64 k ∧ Hid (Below wb.heap.size wb wr)) (fun i _ => vn - (intOf i).toNat)
  case atStart => exact ⟨0, Nat.zero_le _, rfl, Below.refl _ _⟩
  case round =>
    obtain ⟨k, hk, rfl, HB⟩ := hrel
    obtain ⟨hBw, hXr, hCr, hEr, hTr⟩ := HKP.out wr HB.out
    by_cases hlt : k < vn
    · obtain ⟨wo, rfl⟩ : ∃ wo : World, wo = wr := ⟨_, rfl⟩
      obtain ⟨b, off, y, hA3, hbb, HY, d0, d1, iy, yn1, ync, yv1, yv2⟩ := hEr.at_ hlt
      obtain ⟨_, hy1, hy2, hy3⟩ := HKY.out k y HY.out
      subst hA3
      have d0' : wo.cell? ⟨b, off + k * 2, none⟩ = some (.slice y.A y.n y.c) := by rw [Nat.mul_comm k 2]; exact d0
      have d1' : wo.cell? ⟨b, off + k * 2 + 1, none⟩ = some (.int .i64 y.v) := by rw [Nat.mul_comm k 2]; exact d1
      have hkI : (k : Int) < (vn : Int) := by omega
      have hk0 : (0 : Int) ≤ (k : Int) := by omega
      obtain ⟨W1, hW1⟩ : ∃ W, wo.alloc (.cells #[.slice y.A y.n y.c, .int .i64 y.v] 56) = W := ⟨_, rfl⟩
      have hb1 : Below wo.heap.size wo W1 := by rw [← hW1]; exact (Below.refl _ _).alloc (Nat.le_refl _) _
      have hn1 : W1.heap[wo.heap.size]? = some (.cells #[.slice y.A y.n y.c, .int .i64 y.v] 56 (0, 0)) := by rw [← hW1]; exact heap_alloc_new _ _
      have HK1 : Hid (∀ W, Below W1.heap.size W1 W → Below wb.heap.size wb W ∧ W.heap[wo.heap.size]? = some (.cells #[.slice y.A y.n y.c, .int .i64 y.v] 56 (0, 0)) ∧ Ints W W.heap.size y.A y.n y.cs) := by
        intro W hW
        have h1 := hb1.trans (hW.mono hb1.size)
        exact ⟨HB.out.trans (h1.mono HB.out.size), keep_b hW hn1, (iy.below h1).more h1.size⟩
      obtain ⟨hBB1, hYB1, hI1⟩ := HK1.out W1 (Below.refl _ _)
      obtain ⟨_, hX1, hC1, hE1, hT1⟩ := HKP.out W1 hBB1
      obtain ⟨v, hv⟩ : ∃ z, (atF xs y.cs).1 = z := ⟨_, rfl⟩
      have hAT := at_any A y.A n y.n c y.c xs y.cs W1 hT1.shape hI1 (by omega) yn1
      rw [hv, show (atF xs y.cs).2 = 0 by rw [hy1]; exact HIns.out k hlt] at hAT
      obtain ⟨bv, ov, u, hVA, hbv, HU, cu, _, _⟩ := hTr.vals.at_ hlt
      dsimp only at HU hVA
      have hyu : y.v = u := by rw [hy2, List.getD_eq_getElem?_getD, HU.out]; rfl
      rw [← hyu] at cu
      subst hVA
      have HCU : Hid (∀ W, Below wo.heap.size wo W → W.cell? ⟨bv, ov + k, none⟩ = some (.int .i64 y.v)) := fun W hW => (hW.cell (p := ⟨bv, ov + k, none⟩) hbv).trans cu
      have HY2 := Lib.hid (And.intro hy1 (And.intro hy2 hy3))
      obtain ⟨k0, k1, k2, k3, _⟩ := lvCells hX1
      obtain ⟨p0, p1, _, _⟩ := pair_cells hYB1
      have HB1 := Lib.hid hb1
      clear hBw hXr hCr hEr hTr hyu cu hbv hy1 hy2 hy3 hv hX1 hC1 hE1 hT1 hYB1 hI1 hBB1 hn1 hb1 iy HU d0 d1 hbb
      go_upto_region 10 with fail
      try rw [hW1]
      clear d0' d1' hW1
      go_wp2_with fail
      refine hAT.mono ?_
      rintro e w6 ⟨rfl, hb6⟩
      have HB6 := Lib.hid hb6
      clear hb6 k0 k1 k2 k3 p0 p1 hAT
      obtain ⟨hBB6, hYB6, _⟩ := HK1.out w6 HB6.out
      obtain ⟨_, hX6, _, _, _⟩ := HKP.out w6 hBB6
      obtain ⟨k0, k1, k2, k3, _⟩ := lvCells hX6
      obtain ⟨p0, p1, _, _⟩ := pair_cells hYB6
      have x0 := cell_regrown p1
      have x1 := cell_regrown k3
      have x2 := cell_regrown (HCU.out w6 (HB1.out.trans (HB6.out.mono HB1.out.size)))
      have hmx : Try.prog.follows .mixedOrders = true := by kernel_rfl
      go_wp2_with fail
      refine wp_region_quiet_below hmx (by kernel_rfl) ?_
      repeat (quiet_step (fail))
      refine wpQuiet_nil ?_
      intro _ hw'
      obtain ⟨⟨dq, osq⟩, hw''⟩ := hw'
      subst hw''
      obtain ⟨W7, hW7⟩ : ∃ W, grow (redrawn w6 dq) osq = W := ⟨_, rfl⟩
      have hb7 := below_regrown w6 dq osq
      rw [hW7] at hb7 ⊢
      have HB7 := Lib.hid (HB6.out.trans (hb7.mono HB6.out.size))
      clear x0 x1 x2 k0 k1 k2 k3 p0 p1 hX6 hBB6 hYB6 hW7 hb7
      obtain ⟨hBB7, hYB7, _⟩ := HK1.out W7 HB7.out
      obtain ⟨_, hX7, hC7, _, _⟩ := HKP.out W7 hBB7
      obtain ⟨x0, x1, _, _⟩ := pair_cells hC7
      have hsl := fun W => htk W k hk
      go_wp2_with fail
      clear x0 x1 hX7 hC7 hBB7 hYB7 hsl
      go_loopw [80] (fun i wr => ∃ j : Nat, j ≤ k ∧ i = .int .i64 j ∧ Hid (Below W7.heap.size W7 wr)) (fun i _ => k - (intOf i).toNat)
      case atStart => exact ⟨0, Nat.zero_le _, rfl, Below.refl _ _⟩
      case round =>
        obtain ⟨j, hj, rfl, HBj⟩ := hrel
        have HB8 := Lib.hid (HB7.out.trans (HBj.out.mono HB7.out.size))
        obtain ⟨hBB, hYB, hIB⟩ := HK1.out wr HB8.out
        obtain ⟨_, hXr, hCr, hEr, hTr⟩ := HKP.out wr hBB
        obtain ⟨p0, p1, _, _⟩ := pair_cells hYB
        by_cases hjk : j < k
        · obtain ⟨b2, off2, z, hA3, hbb2, HZ, d0, d1, iz, zn1, znc, zv1, zv2⟩ := hEr.at_ (k := j) (by omega)
          obtain ⟨rfl, rfl⟩ : b2 = b ∧ off2 = off := by injection hA3 with hA3; injection hA3 with h1 h2; exact ⟨h1.symm, h2.symm⟩
          obtain ⟨_, hz1, hz2, hz3⟩ := HKY.out j z HZ.out
          have hne : y.cs ≠ z.cs := by
            intro he
            rw [HY2.out.1, hz1] at he
            have := HOne.out k j hlt (by omega) he
            omega
          have d0' : wr.cell? ⟨b2, off2 + j * 2, none⟩ = some (.slice z.A z.n z.c) := by rw [Nat.mul_comm j 2]; exact d0
          have d1' : wr.cell? ⟨b2, off2 + j * 2 + 1, none⟩ = some (.int .i64 z.v) := by rw [Nat.mul_comm j 2]; exact d1
          have hjI : (j : Int) < (k : Int) := by omega
          have hj0 : (0 : Int) ≤ (j : Int) := by omega
          obtain ⟨W2, hW2⟩ : ∃ W, wr.alloc (.cells #[.slice z.A z.n z.c, .int .i64 z.v] 56) = W := ⟨_, rfl⟩
          have hb2 : Below wr.heap.size wr W2 := by rw [← hW2]; exact (Below.refl _ _).alloc (Nat.le_refl _) _
          have hn2 : W2.heap[wr.heap.size]? = some (.cells #[.slice z.A z.n z.c, .int .i64 z.v] 56 (0, 0)) := by rw [← hW2]; exact heap_alloc_new _ _
          obtain ⟨q0, q1, _, _⟩ := pair_cells hn2
          have p0' := (hb2.cell (p := ⟨wo.heap.size, 0, none⟩) (lt_of_heap hYB)).trans p0
          have hEQ := eqF5 y.A z.A y.n z.n y.c z.c y.cs z.cs W2 ((hIB.below hb2).more hb2.size) ((iz.below hb2).more hb2.size) (by have := HY2.out.2.2; omega) zn1 hne
          have HB2 := Lib.hid (HBj.out.trans (hb2.mono HBj.out.size))
          have HLT : Hid (j + 1 ≤ k) := hjk
          clear hne hz1 hz2 hz3 iz hIB hBB hXr hCr hEr hTr hYB hA3 d0 d1 hjk hb2 hn2 p1 hbb2
          go_upto_region 16 with fail
          try rw [hW2]
          clear hW2 d0' d1' p0
          go_wp2_with fail
          refine hEQ.mono ?_
          rintro e w8 ⟨rfl, hb8⟩
          have HB9 := Lib.hid (HB2.out.trans (hb8.mono HB2.out.size))
          clear hb8 p0' q0 q1
          go_wp2_with fail
          go_roundw
          case rel => exact ⟨j + 1, HLT.out, by go_num, HB9⟩
          case measure => have := HLT.out; simp [intOf]; omega
        · obtain rfl : j = k := by omega
          obtain ⟨k0, k1, k2, k3, _⟩ := lvCells hXr
          have hG := stGet_any ⟨A, n, c, xs, F, fn, fc, fs, L, ln, lc, ls, some ⟨bv, ov, none⟩, vn, vc, vs⟩ y.A y.n y.c y.cs wr hTr hIB yn1
          have HYR := Lib.hid hYB
          clear hIB hBB hXr hCr hEr hTr hYB hjk
          go_wp2_with fail
          refine hG.mono ?_
          rintro e w9 ⟨hb9, hh⟩
          rcases hh with ⟨hh, _⟩ | ⟨_, hh, _⟩ | ⟨_, _, hh⟩
          · exact absurd HE.out hh
          · exact absurd (by rw [HY2.out.1]; exact HIns.out j hlt) hh
          rcases hh with ⟨q, hq, hqc, rfl⟩ | ⟨hno, _⟩
          · obtain rfl : q = j := HOne.out q j hq hlt (by rw [← HY2.out.1]; exact hqc)
            rw [show (Ten.mk A n c xs F fn fc fs L ln lc ls (some ⟨bv, ov, none⟩) vn vc vs).vs.getD q 0 = y.v from HY2.out.2.1.symm]
            have p1' := (hb9.cell (p := ⟨wo.heap.size, 1, none⟩) (lt_of_heap HYR.out)).trans p1
            have HBE := Lib.hid (HBj.out.trans (hb9.mono HBj.out.size))
            have HB7b : Hid (Below wb.heap.size wb W7) := (HK1.out W7 HB7.out).1
            have HLT : Hid (q + 1 ≤ vn) := hlt
            clear hq hqc hb9 k0 k1 k2 k3 p0 p1 hG
            go_wp2_with fail
            go_roundw
            case rel => exact ⟨q + 1, HLT.out, by go_num, HB7b.out.trans (HBE.out.mono HB7b.out.size)⟩
            case measure => have := HLT.out; simp [intOf]; omega
          · exact absurd HY2.out.1.symm (hno j hlt)
    · obtain rfl : k = vn := by omega
      have HBw := Lib.hid hBw
      clear hBw hXr hCr hEr hTr
      go_wp2_with fail
      go_ret
      exact ⟨rfl, HBw.out⟩

end Go.Proofs.Ytfimnmdcbnfhfaa
