/- purflelaw05.StoreCounts returns true. -/
import Derived.Test.YtfimnmdcbnfhfaaG18
import Derived.Test.YtfimnmdcbnfhfaaG16
import Derived.Test.YtfimnmdcbnfhfaaPVRefF
namespace Go.Proofs.Ytfimnmdcbnfhfaa
open Go.RowKit

theorem eqS5 (A A2 : Option Addr) (n n2 c c2 : Nat) (xs : List Int) (w : World) (h : Ints w w.heap.size A n xs) (h2 : Ints w w.heap.size A2 n2 xs) (hn : n ≤ 100000) (hn2 : n2 ≤ 9223372036854775807) :
    Calls Try.prog 12 #[.slice A n c, .slice A2 n2 c2] w fun e w' => e = .returned (.bool true) ∧ Below w.heap.size w w' :=
  (refEqual_any A A2 n n2 c c2 xs xs w w.heap.size h h2 hn hn2).mono fun e w' ⟨he, m, hm⟩ => ⟨by rw [he]; simp, by subst hm; exact below_drewN (Below.refl _ _) m⟩
def wholeK (fs : List Sp) (k : Nat) : Bool := (fs.take k).all fun s => s.k == 0 || s.k == 4
theorem wholeK_succ {fs : List Sp} {k : Nat} {f : Sp} (hf : fs[k]? = some f) : wholeK fs (k + 1) = (wholeK fs k && (f.k == 0 || f.k == 4)) := by
  unfold wholeK
  rw [take_succ_of hf, List.all_append]
  simp
theorem prod_range {xs : List Int} {fs : List Sp} {ls : List Lv} (h : Tok xs fs ls) (hx : ∀ z ∈ xs, -9223372036854775808 ≤ z ∧ z ≤ 9223372036854775807) (k : Nat) (hk : k ≤ fs.length) : ∀ z ∈ prodK xs fs k, -9223372036854775808 ≤ z ∧ z ≤ 9223372036854775807 := by
  induction k with
  | zero => intro z hz; rw [prodK] at hz; rw [(List.mem_replicate.1 hz).2]; omega
  | succ k ih =>
    intro z hz
    obtain ⟨f, hf⟩ : ∃ f, fs[k]? = some f := ⟨_, List.getElem?_eq_getElem (by omega)⟩
    obtain ⟨m, hm, hm2⟩ := h.mode hf
    rw [prodK_succ hf] at hz
    rcases List.mem_or_eq_of_mem_set hz with h1 | h1
    · exact ih (by omega) z h1
    · rw [h1]
      split
      · next h4 =>
        rw [h.prod_block hf h4, hm, Int.toNat_natCast, List.getD_eq_getElem?_getD, List.getElem?_eq_getElem hm2]
        exact hx _ (List.getElem_mem hm2)
      · have := szAt_range h.size (k := k) (by omega)
        omega

set_option maxRecDepth 100000 in
set_option maxHeartbeats 8000000 in
theorem storeCounts_any (w : World) (T : Ten) (ht : TenR.In w w.heap.size T) :
    Calls Try.prog 8 #[T.val] w fun r w' => r = .returned (.bool true) ∧ Below w.heap.size w w' := by
  obtain ⟨A, n, c, xs, F, fn, fc, fs, L, ln, lc, ls, V, vn, vc, vs⟩ := T
  have HB0 := Lib.hid (lvBelow w (.cells #[.slice A n c, .slice F fn fc, .slice L ln lc, .slice V vn vc] 34))
  have HX0 := Lib.hid (heap_alloc_new w (.cells #[.slice A n c, .slice F fn fc, .slice L ln lc, .slice V vn vc] 34))
  have HI : Hid (∀ W, Below w.heap.size w W → TenR.In W W.heap.size ⟨A, n, c, xs, F, fn, fc, fs, L, ln, lc, ls, V, vn, vc, vs⟩) := fun W hW => ht.on hW
  have HXK : Hid (∀ W W', Below w.heap.size w W → W.heap[w.heap.size]? = some (.cells #[.slice A n c, .slice F fn fc, .slice L ln lc, .slice V vn vc] 34 (0, 0)) → Below W.heap.size W W' → Below w.heap.size w W' ∧ W'.heap[w.heap.size]? = some (.cells #[.slice A n c, .slice F fn fc, .slice L ln lc, .slice V vn vc] 34 (0, 0))) := fun W W' h1 h2 h3 => ⟨h1.trans (h3.mono h1.size), keep_b h3 h2⟩

  by_cases hf : fewT ⟨A, n, c, xs, F, fn, fc, fs, L, ln, lc, ls, V, vn, vc, vs⟩
  case neg =>
    have HF : Hid (pB (fewT ⟨A, n, c, xs, F, fn, fc, fs, L, ln, lc, ls, V, vn, vc, vs⟩) = false) := pB_f hf
    clear hf ht
    go_enter Try.func8, Try.ntmps8
    go_wp2_with fail
    refine (stLive_any _).mono ?_
    rintro x w1 ⟨rfl, hb⟩
    obtain ⟨hB1, hX1⟩ := HXK.out _ _ HB0.out HX0.out hb
    clear hb HB0 HX0
    obtain ⟨k0, k1, k2, k3, _⟩ := lvCells hX1
    have HB1 := Lib.hid hB1
    have HX1 := Lib.hid hX1
    clear hB1 hX1
    go_wp2_with fail
    refine (refFew5_any ⟨A, n, c, xs, F, fn, fc, fs, L, ln, lc, ls, V, vn, vc, vs⟩ w1 (HI.out _ HB1.out)).mono ?_
    rintro x w2 ⟨rfl, hb⟩
    rw [HF.out]
    obtain ⟨hB2, hX2⟩ := HXK.out _ _ HB1.out HX1.out hb
    clear hb HB1 HX1 k0 k1 k2 k3
    go_wp2_with fail
    go_ret
    exact ⟨rfl, hB2⟩
  have HF : Hid (pB (fewT ⟨A, n, c, xs, F, fn, fc, fs, L, ln, lc, ls, V, vn, vc, vs⟩) = true) := pB_t hf
  have HT : Hid (∀ W, Below w.heap.size w W → Ten.In W W.heap.size ⟨A, n, c, xs, F, fn, fc, fs, L, ln, lc, ls, V, vn, vc, vs⟩) := fun W hW => (ht.on hW).ten hf
  have ht0 := ht.ten hf
  by_cases hE : tenE ⟨A, n, c, xs, F, fn, fc, fs, L, ln, lc, ls, V, vn, vc, vs⟩ = 0
  case neg =>
    obtain ⟨E, hEE⟩ : ∃ E, tenE ⟨A, n, c, xs, F, fn, fc, fs, L, ln, lc, ls, V, vn, vc, vs⟩ = E := ⟨_, rfl⟩
    rw [hEE] at hE
    have e1 : (E != 0) = true := by simpa using hE
    have HEE := Lib.hid hEE
    clear hf ht ht0 hE hEE
    go_enter Try.func8, Try.ntmps8
    go_wp2_with fail
    refine (stLive_any _).mono ?_
    rintro x w1 ⟨rfl, hb⟩
    obtain ⟨hB1, hX1⟩ := HXK.out _ _ HB0.out HX0.out hb
    clear hb HB0 HX0
    obtain ⟨k0, k1, k2, k3, _⟩ := lvCells hX1
    have HB1 := Lib.hid hB1
    have HX1 := Lib.hid hX1
    clear hB1 hX1
    go_wp2_with fail
    refine (refFew5_any ⟨A, n, c, xs, F, fn, fc, fs, L, ln, lc, ls, V, vn, vc, vs⟩ w1 (HI.out _ HB1.out)).mono ?_
    rintro x w2 ⟨rfl, hb⟩
    rw [HF.out]
    obtain ⟨hB2, hX2⟩ := HXK.out _ _ HB1.out HX1.out hb
    clear hb HB1 HX1 k0 k1 k2 k3
    obtain ⟨k0, k1, k2, k3, _⟩ := lvCells hX2
    have HB2 := Lib.hid hB2
    have HX2 := Lib.hid hX2
    clear hB2 hX2
    go_wp2_with fail
    refine (stCheck_any ⟨A, n, c, xs, F, fn, fc, fs, L, ln, lc, ls, V, vn, vc, vs⟩ w2 (HT.out _ HB2.out)).mono ?_
    rintro x w3 ⟨rfl, hb⟩
    rw [HEE.out]
    obtain ⟨hB3, _⟩ := HXK.out _ _ HB2.out HX2.out hb
    clear hb HB2 HX2 k0 k1 k2 k3
    go_wp2_with fail
    go_ret
    exact ⟨rfl, hB3⟩
  obtain ⟨q1, q2, q3, q4, q5⟩ := tenE_small hE
  dsimp only at q1 q2 q3 q4 q5
  have hfl : fs.length = fn := ht0.form.1
  have hll : ls.length = ln := ht0.lvs.1
  have hxl : xs.length = n := ht0.shape.1
  have hTok : Tok xs fs ls := ⟨q1, q2, by rw [hll]; exact q3, q5⟩
  obtain rfl : fn = ln := by have := q2.1; omega
  have HE := Lib.hid hE
  have HTok := Lib.hid hTok
  have HFL := Lib.hid hfl
  have HLL := Lib.hid hll
  have HXL := Lib.hid hxl
  have HXR : Hid (∀ z ∈ xs, -9223372036854775808 ≤ z ∧ z ≤ 9223372036854775807) := ht0.shape.2.1
  have b1 := ht0.n1
  have b2 := ht0.l1
  have b3 := ht0.v1
  dsimp only at b1 b2 b3
  obtain ⟨N, hN⟩ : ∃ N, ahN ls fn = N := ⟨_, rfl⟩
  have e4 : ((vn : Int) == (N : Int)) = true := by rw [beq_iff_eq]; omega
  have e4' : (vn == N) = true := by rw [beq_iff_eq]; omega
  have HN := Lib.hid hN
  have HZ : Hid (∀ z ∈ cntL ls, -9223372036854775808 ≤ z ∧ z ≤ 9223372036854775807) := by
    intro z hz
    obtain ⟨k, hk, rfl⟩ := List.mem_map.1 hz
    have := ahN_le (k := k + 1) (by rw [hll]; exact q3) (by have := List.mem_range.1 hk; omega) (Nat.le_refl _)
    omega
  have hmk := fun W => vrun_make n (by omega) W
  have hz0 : (List.replicate n (.int .i64 0) : List Value) = stC (prodK xs fs 0) := by
    unfold stC prodK
    rw [List.map_replicate, hxl]
  rw [hz0] at hmk
  clear hf ht ht0 hE q1 q2 q3 q4 q5 hTok hN hz0 hfl hll hxl
  by_cases h0 : fn = 0

  · have H0 := Lib.hid h0
    clear h0
    go_enter Try.func8, Try.ntmps8
    go_wp2_with fail
    refine (stLive_any _).mono ?_
    rintro x w1 ⟨rfl, hb⟩
    obtain ⟨hB1, hX1⟩ := HXK.out _ _ HB0.out HX0.out hb
    clear hb HB0 HX0
    obtain ⟨k0, k1, k2, k3, _⟩ := lvCells hX1
    have HB1 := Lib.hid hB1
    have HX1 := Lib.hid hX1
    clear hB1 hX1
    go_wp2_with fail
    refine (refFew5_any ⟨A, n, c, xs, F, fn, fc, fs, L, fn, lc, ls, V, vn, vc, vs⟩ w1 (HI.out _ HB1.out)).mono ?_
    rintro x w2 ⟨rfl, hb⟩
    rw [HF.out]
    obtain ⟨hB2, hX2⟩ := HXK.out _ _ HB1.out HX1.out hb
    clear hb HB1 HX1 k0 k1 k2 k3
    obtain ⟨k0, k1, k2, k3, _⟩ := lvCells hX2
    have HB2 := Lib.hid hB2
    have HX2 := Lib.hid hX2
    clear hB2 hX2
    go_wp2_with fail
    refine (stCheck_any ⟨A, n, c, xs, F, fn, fc, fs, L, fn, lc, ls, V, vn, vc, vs⟩ w2 (HT.out _ HB2.out)).mono ?_
    rintro x w3 ⟨rfl, hb⟩
    rw [HE.out]
    obtain ⟨hB3, hX3⟩ := HXK.out _ _ HB2.out HX2.out hb
    clear hb HB2 HX2 k0 k1 k2 k3
    obtain ⟨k0, k1, k2, k3, _⟩ := lvCells hX3
    have HB3 := Lib.hid hB3
    have HX3 := Lib.hid hX3
    clear hB3 hX3
    go_wp2_with fail
    refine (counts_any ⟨A, n, c, xs, F, fn, fc, fs, L, fn, lc, ls, V, vn, vc, vs⟩ w3 (HT.out _ HB3.out)).mono ?_
    rintro x w4 ⟨hb, hh⟩
    rcases hh with ⟨hh, _⟩ | ⟨_, g, hg, rfl, hblk⟩
    · exact absurd HE.out hh
    dsimp only at hblk
    obtain ⟨hB4, hX4⟩ := HXK.out _ _ HB3.out HX3.out hb
    clear hb HB3 HX3 k0 k1 k2 k3
    obtain ⟨k0, k1, k2, k3, _⟩ := lvCells hX4
    have HB4 := Lib.hid hB4
    have HX4 := Lib.hid hX4
    have HG4 := Lib.hid hblk
    clear hB4 hX4 hblk hg
    go_wp2_with fail
    refine (sizes_any A n c xs F fn fc fs w4 (HT.out _ HB4.out).shape (by omega) (HT.out _ HB4.out).form (by omega) (HT.out _ HB4.out).fc).mono ?_
    rintro x w5 ⟨hb, hh⟩
    rcases hh with ⟨hh, _⟩ | ⟨_, g2, hg2, rfl, hblk⟩
    · exact absurd HTok.out.size hh
    obtain ⟨hB5, hX5⟩ := HXK.out _ _ HB4.out HX4.out hb
    have HG5 := Lib.hid (keep_b hb HG4.out)
    clear hb HB4 HX4 k0 k1 k2 k3 HG4
    obtain ⟨k0, k1, k2, k3, _⟩ := lvCells hX5
    have HB5 := Lib.hid hB5
    have HX5 := Lib.hid hX5
    have HS5 := Lib.hid hblk
    have hgl : g < w5.heap.size := lt_of_heap HG5.out
    have hgl2 : g2 < w5.heap.size := lt_of_heap hblk
    have hwl : w.heap.size < w5.heap.size := lt_of_heap HX5.out
    clear hB5 hX5 hblk hg2
    have c1 : decide (0 < fn) = false := by rw [H0.out]; rfl
    have c2 : decide (0 < (fn : Int)) = false := by rw [H0.out]; rfl
    have hN1 : N = 1 := by rw [← HN.out, H0.out]; rfl
    have e5 : ((vn : Int) == 1) = true := by rw [beq_iff_eq]; rw [beq_iff_eq] at e4; omega
    go_wp2_with fail
    clear k0 k1 k2 k3 hmk
    go_loopw [76, 9] (fun i b wr => ∃ k : Nat, k ≤ fn ∧ i = .int .i64 k ∧ b = .bool (wholeK fs k) ∧ Hid (wr.heap[w5.heap.size]? = some (.cells (stC (prodK xs fs k)).toArray 3 (0, 0))) ∧ Hid (wr.heap[g2]? = some (.cells (stC (sizesL xs fs)).toArray 3 (0, 0))) ∧ Hid (Below w.heap.size w wr) ∧ Hid (wr.heap[w.heap.size]? = some (.cells #[.slice A n c, .slice F fn fc, .slice L fn lc, .slice V vn vc] 34 (0, 0)))) (fun i _ _ => fn - (intOf i).toNat)
    case atStart => exact ⟨0, Nat.zero_le _, rfl, rfl, heap_alloc_new _ _, heapPast_ _ HS5.out, HB5.out.alloc HB5.out.size _, heapPast_ _ HX5.out⟩
    case round =>
      obtain ⟨k, hk, rfl, rfl, HP, HS, HB, HX⟩ := hrel
      have hw5 : w5.heap.size < wr.heap.size := lt_of_heap HP.out
      by_cases hlt : k < fn
      · obtain ⟨bl, ol, s, rfl, hbb, HFk, f0, f1, f2, sok⟩ := (HT.out _ HB.out).form.at_ hlt
        dsimp only at HFk
        obtain ⟨m, hm, hm2⟩ := HTok.out.mode HFk.out
        have hsz := szAt_range HTok.out.size (k := k) (by rw [HFL.out]; exact hlt)
        obtain ⟨PV, hPV⟩ : ∃ z, (prodK xs fs k).getD m 0 = z := ⟨_, rfl⟩
        obtain ⟨SV, hSV⟩ : ∃ z, szAt xs fs k = z := ⟨_, rfl⟩
        have hnb := heap_alloc_new wr (.cells #[.int .i64 s.k, .int .i64 (m : Int), .int .i64 s.s] 66)
        have t0 := cell_of_row _ _ 0 _ _ _ hnb
        have t1 := cell_of_row _ _ 1 _ _ _ hnb
        have t2 := cell_of_row _ _ 2 _ _ _ hnb
        rw [hm] at f1
        have hmn : m < n := by rw [← HXL.out]; exact hm2
        obtain ⟨p0, p1⟩ := vblk_cell (i := m) (v := .int .i64 PV) (heapPast_ (.cells #[.int .i64 s.k, .int .i64 (m : Int), .int .i64 s.s] 66) HP.out) (by
          unfold stC
          rw [List.getElem?_map, List.getElem?_eq_getElem (by rw [prodK_length]; exact hm2), ← hPV, List.getD_eq_getElem?_getD, List.getElem?_eq_getElem (by rw [prodK_length]; exact hm2)]
          rfl)
        obtain ⟨s0, s1⟩ := vblk_cell (i := k) (v := .int .i64 SV) (heapPast_ (.cells #[.int .i64 s.k, .int .i64 (m : Int), .int .i64 s.s] 66) HS.out) (by
          unfold stC sizesL
          rw [List.getElem?_map, List.getElem?_map, List.getElem?_range (by rw [HFL.out]; exact hlt), ← hSV]
          rfl)
        have hsk : (prodK xs fs (k + 1)) = (prodK xs fs k).set m (if s.k = 4 then PV * SV else SV) := by rw [prodK_succ HFk.out, hm, Int.toNat_natCast, hPV, hSV]
        have hwk := wholeK_succ HFk.out
        have hm0 : (0 : Int) ≤ (m : Int) := by omega
        have hmI : (m : Int) < (n : Int) := by omega
        have hkI : (k : Int) < (fn : Int) := by omega
        have hk0 : (0 : Int) ≤ (k : Int) := by omega
        have hne2 : g2 ≠ w5.heap.size := by omega
        have hne0 : w.heap.size ≠ w5.heap.size := by omega
        obtain ⟨wb, hwb⟩ : ∃ wb, wholeK fs k = wb := ⟨_, rfl⟩
        rw [hwb] at hwk ⊢
        by_cases h4 : s.k = 4
        · have hpv : PV * SV = xs.getD m 0 := by have := HTok.out.prod_block HFk.out h4; rw [hm, Int.toNat_natCast, hPV, hSV] at this; exact this
          have hpr : -9223372036854775808 ≤ PV * SV ∧ PV * SV ≤ 9223372036854775807 := by
            rw [hpv, List.getD_eq_getElem?_getD, List.getElem?_eq_getElem hm2]
            exact HXR.out _ (List.getElem_mem hm2)
          have hwr : IntKind.i64.wrap (PV * SV) = PV * SV := by
            exact IntWalk.i64_in _ (by omega)
          have HST : Hid ((stC (prodK xs fs k)).set m (.int .i64 (PV * SV)) = stC (prodK xs fs (k + 1))) := by unfold Hid; rw [stC_set, hsk, if_pos h4]
          have g1 : (s.k == 4) = true := by simpa using h4
          have g0 : (s.k == 0) = false := by rw [h4]; rfl
          rw [g1, Bool.or_true] at hwk
          have HWK := Lib.hid hwk
          clear hwb hnb hPV hSV hsk hwk hpv hpr h4 hm hm2
          cases wb
          all_goals
            go_wp2_with fail
            go_region
            all_goals
              obtain ⟨w7, hw7⟩ : ∃ w7, (wr.setCell ⟨w5.heap.size, m, none⟩ (.int .i64 (PV * SV))).alloc (.cells #[.int .i64 s.k, .int .i64 (m : Int), .int .i64 s.s] 66) = w7 := ⟨_, rfl⟩
              have H1 : Hid (w7.heap[w5.heap.size]? = some (.cells (stC (prodK xs fs (k + 1))).toArray 3 (0, 0))) := by unfold Hid; rw [← hw7]; refine heapPast_ _ ?_; rw [vblk_set HP.out, HST.out]
              have H2 : Hid (w7.heap[g2]? = some (.cells (stC (sizesL xs fs)).toArray 3 (0, 0))) := by unfold Hid; rw [← hw7]; exact heapPast_ _ ((Below.heap_setCell _ _ _ _ hne2).trans HS.out)
              have H3 : Hid (Below w.heap.size w w7) := by unfold Hid; rw [← hw7]; have hb := HB.out.setCell (p := ⟨w5.heap.size, m, none⟩) (by show w.heap.size ≤ w5.heap.size; omega); exact (hb _).alloc (hb _).size _
              have H4 : Hid (w7.heap[w.heap.size]? = some (.cells #[.slice A n c, .slice (some ⟨bl, ol, none⟩) fn fc, .slice L fn lc, .slice V vn vc] 34 (0, 0))) := by unfold Hid; rw [← hw7]; exact heapPast_ _ ((Below.heap_setCell _ _ _ _ hne0).trans HX.out)
              rw [hw7]
              clear hw7 p0 p1 s0 s1 t0 t1 t2 f0 f1 f2
              go_wp2_with fail
              go_roundw
              case rel => exact ⟨k + 1, by omega, by go_num, by rw [HWK.out]; rfl, H1, H2, Lib.hid (by first | exact H3.out | exact H3.out.drew), H4⟩
              case measure => simp [intOf]; omega
        · have HST : Hid ((stC (prodK xs fs k)).set m (.int .i64 SV) = stC (prodK xs fs (k + 1))) := by unfold Hid; rw [stC_set, hsk, if_neg h4]
          have g1 : (s.k == 4) = false := by simpa using h4
          obtain ⟨zb, g0⟩ : ∃ zb, (s.k == 0) = zb := ⟨_, rfl⟩
          rw [g1, g0, Bool.or_false] at hwk
          have HWK := Lib.hid hwk
          clear hwb hnb hPV hSV hsk hwk h4 hm hm2
          cases wb <;> cases zb
          all_goals
            go_wp2_with fail
            go_region
            all_goals
              obtain ⟨w7, hw7⟩ : ∃ w7, (wr.setCell ⟨w5.heap.size, m, none⟩ (.int .i64 SV)).alloc (.cells #[.int .i64 s.k, .int .i64 (m : Int), .int .i64 s.s] 66) = w7 := ⟨_, rfl⟩
              have H1 : Hid (w7.heap[w5.heap.size]? = some (.cells (stC (prodK xs fs (k + 1))).toArray 3 (0, 0))) := by unfold Hid; rw [← hw7]; refine heapPast_ _ ?_; rw [vblk_set HP.out, HST.out]
              have H2 : Hid (w7.heap[g2]? = some (.cells (stC (sizesL xs fs)).toArray 3 (0, 0))) := by unfold Hid; rw [← hw7]; exact heapPast_ _ ((Below.heap_setCell _ _ _ _ hne2).trans HS.out)
              have H3 : Hid (Below w.heap.size w w7) := by unfold Hid; rw [← hw7]; have hb := HB.out.setCell (p := ⟨w5.heap.size, m, none⟩) (by show w.heap.size ≤ w5.heap.size; omega); exact (hb _).alloc (hb _).size _
              have H4 : Hid (w7.heap[w.heap.size]? = some (.cells #[.slice A n c, .slice (some ⟨bl, ol, none⟩) fn fc, .slice L fn lc, .slice V vn vc] 34 (0, 0))) := by unfold Hid; rw [← hw7]; exact heapPast_ _ ((Below.heap_setCell _ _ _ _ hne0).trans HX.out)
              rw [hw7]
              clear hw7 p0 p1 s0 s1 t0 t1 t2 f0 f1 f2
              go_wp2_with fail
              go_roundw
              case rel => exact ⟨k + 1, by omega, by go_num, by rw [HWK.out]; rfl, H1, H2, Lib.hid (by first | exact H3.out | exact H3.out.drew), H4⟩
              case measure => simp [intOf]; omega
      · obtain rfl : k = fn := by omega
        obtain ⟨k0, k1, k2, k3, _⟩ := lvCells HX.out
        have hsh := (HT.out _ HB.out).shape
        have hCL := cells_any A n c xs wr wr.heap.size hsh (by omega)
        have hpx : prodK xs fs k = xs := by rw [← HFL.out]; exact HTok.out.prod_all
        have hPI : Ints wr wr.heap.size (some ⟨w5.heap.size, 0, none⟩) n xs := by
          have h := HP.out
          rw [hpx] at h
          exact ints_stC h HXL.out HXR.out (lt_of_heap h)
        have hEQ := eqS5 (some ⟨w5.heap.size, 0, none⟩) A n n n c xs wr hPI hsh (by omega) (by omega)
        obtain ⟨CV, hCV⟩ : ∃ z, (cellsF xs).1 = z := ⟨_, rfl⟩
        rw [hCV, HTok.out.cells] at hCL
        obtain ⟨wb, hwb⟩ : ∃ wb, wholeK fs k = wb := ⟨_, rfl⟩
        have HW : Hid (wb = true → (N : Int) = CV) := by
          intro h
          have hall : ∀ (j : Nat) (f : Sp), fs[j]? = some f → f.k = 0 ∨ f.k = 4 := by
            intro j f hj
            rw [h] at hwb
            unfold wholeK at hwb
            rw [List.take_of_length_le (Nat.le_of_eq HFL.out), List.all_eq_true] at hwb
            have := hwb f (List.mem_of_getElem? hj)
            simpa using this
          have h3 := HTok.out.whole_tot hall
          rw [HLL.out, HN.out, hCV] at h3
          exact h3
        rw [hwb]
        clear hwb hpx hPI hsh hCV
        cases wb
        · go_wp2_with fail
          refine hCL.mono ?_
          rintro e w6 ⟨rfl, rfl⟩
          go_wp2_with fail
          refine hEQ.mono ?_
          rintro e w7 ⟨rfl, hb7⟩
          have HB7 := Lib.hid (HB.out.trans (hb7.mono HB.out.size))
          clear hb7
          go_wp2_with fail
          go_ret
          exact ⟨rfl, HB7.out⟩
        · have e6 : ((1 : Int) == CV) = true := by rw [beq_iff_eq, ← HW.out rfl]; rw [hN1]; rfl
          go_wp2_with fail
          refine hCL.mono ?_
          rintro e w6 ⟨rfl, rfl⟩
          go_wp2_with fail
          refine hEQ.mono ?_
          rintro e w7 ⟨rfl, hb7⟩
          have HB7 := Lib.hid (HB.out.trans (hb7.mono HB.out.size))
          clear hb7
          go_wp2_with fail
          go_ret
          exact ⟨rfl, HB7.out⟩

  · have H0 : Hid (0 < fn) := by unfold Hid; omega
    clear h0
    go_enter Try.func8, Try.ntmps8
    go_wp2_with fail
    refine (stLive_any _).mono ?_
    rintro x w1 ⟨rfl, hb⟩
    obtain ⟨hB1, hX1⟩ := HXK.out _ _ HB0.out HX0.out hb
    clear hb HB0 HX0
    obtain ⟨k0, k1, k2, k3, _⟩ := lvCells hX1
    have HB1 := Lib.hid hB1
    have HX1 := Lib.hid hX1
    clear hB1 hX1
    go_wp2_with fail
    refine (refFew5_any ⟨A, n, c, xs, F, fn, fc, fs, L, fn, lc, ls, V, vn, vc, vs⟩ w1 (HI.out _ HB1.out)).mono ?_
    rintro x w2 ⟨rfl, hb⟩
    rw [HF.out]
    obtain ⟨hB2, hX2⟩ := HXK.out _ _ HB1.out HX1.out hb
    clear hb HB1 HX1 k0 k1 k2 k3
    obtain ⟨k0, k1, k2, k3, _⟩ := lvCells hX2
    have HB2 := Lib.hid hB2
    have HX2 := Lib.hid hX2
    clear hB2 hX2
    go_wp2_with fail
    refine (stCheck_any ⟨A, n, c, xs, F, fn, fc, fs, L, fn, lc, ls, V, vn, vc, vs⟩ w2 (HT.out _ HB2.out)).mono ?_
    rintro x w3 ⟨rfl, hb⟩
    rw [HE.out]
    obtain ⟨hB3, hX3⟩ := HXK.out _ _ HB2.out HX2.out hb
    clear hb HB2 HX2 k0 k1 k2 k3
    obtain ⟨k0, k1, k2, k3, _⟩ := lvCells hX3
    have HB3 := Lib.hid hB3
    have HX3 := Lib.hid hX3
    clear hB3 hX3
    go_wp2_with fail
    refine (counts_any ⟨A, n, c, xs, F, fn, fc, fs, L, fn, lc, ls, V, vn, vc, vs⟩ w3 (HT.out _ HB3.out)).mono ?_
    rintro x w4 ⟨hb, hh⟩
    rcases hh with ⟨hh, _⟩ | ⟨_, g, hg, rfl, hblk⟩
    · exact absurd HE.out hh
    dsimp only at hblk
    obtain ⟨hB4, hX4⟩ := HXK.out _ _ HB3.out HX3.out hb
    clear hb HB3 HX3 k0 k1 k2 k3
    obtain ⟨k0, k1, k2, k3, _⟩ := lvCells hX4
    have HB4 := Lib.hid hB4
    have HX4 := Lib.hid hX4
    have HG4 := Lib.hid hblk
    clear hB4 hX4 hblk hg
    go_wp2_with fail
    refine (sizes_any A n c xs F fn fc fs w4 (HT.out _ HB4.out).shape (by omega) (HT.out _ HB4.out).form (by omega) (HT.out _ HB4.out).fc).mono ?_
    rintro x w5 ⟨hb, hh⟩
    rcases hh with ⟨hh, _⟩ | ⟨_, g2, hg2, rfl, hblk⟩
    · exact absurd HTok.out.size hh
    obtain ⟨hB5, hX5⟩ := HXK.out _ _ HB4.out HX4.out hb
    have HG5 := Lib.hid (keep_b hb HG4.out)
    clear hb HB4 HX4 k0 k1 k2 k3 HG4
    obtain ⟨k0, k1, k2, k3, _⟩ := lvCells hX5
    have HB5 := Lib.hid hB5
    have HX5 := Lib.hid hX5
    have HS5 := Lib.hid hblk
    have hgl : g < w5.heap.size := lt_of_heap HG5.out
    have hgl2 : g2 < w5.heap.size := lt_of_heap hblk
    have hwl : w.heap.size < w5.heap.size := lt_of_heap HX5.out
    clear hB5 hX5 hblk hg2
    have c1 : decide (0 < fn) = true := by have := H0.out; simp; omega
    have c2 : decide (0 < (fn : Int)) = true := by have := H0.out; simp; omega
    obtain ⟨f1, hf1⟩ : ∃ f1 : Nat, Hid (f1 + 1 = fn) := ⟨fn - 1, by have := H0.out; unfold Hid; omega⟩
    have c3 : IntKind.i64.wrap ((fn : Int) - 1) = (f1 : Int) := by
      have := hf1.out
      rw [show (fn : Int) - 1 = (f1 : Int) by omega]
      exact IntWalk.i64_in _ (by omega)
    have c4 : (f1 : Int) < (fn : Int) := by have := hf1.out; omega
    have c5 : (0 : Int) ≤ (f1 : Int) := by omega
    obtain ⟨d1, d1f⟩ := vblk_cell (i := f1) (v := .int .i64 (N : Int)) HG5.out (by
      unfold stC cntL
      have := hf1.out
      rw [List.getElem?_map, List.getElem?_map, List.getElem?_range (by rw [HLL.out]; omega)]
      show some (Value.int .i64 ((ahN ls (f1 + 1) : Nat) : Int)) = _
      rw [this, HN.out])
    go_wp2_with fail
    clear k0 k1 k2 k3 hmk
    go_loopw [76, 9] (fun i b wr => ∃ k : Nat, k ≤ fn ∧ i = .int .i64 k ∧ b = .bool (wholeK fs k) ∧ Hid (wr.heap[w5.heap.size]? = some (.cells (stC (prodK xs fs k)).toArray 3 (0, 0))) ∧ Hid (wr.heap[g2]? = some (.cells (stC (sizesL xs fs)).toArray 3 (0, 0))) ∧ Hid (Below w.heap.size w wr) ∧ Hid (wr.heap[w.heap.size]? = some (.cells #[.slice A n c, .slice F fn fc, .slice L fn lc, .slice V vn vc] 34 (0, 0)))) (fun i _ _ => fn - (intOf i).toNat)
    case atStart => exact ⟨0, Nat.zero_le _, rfl, rfl, heap_alloc_new _ _, heapPast_ _ HS5.out, HB5.out.alloc HB5.out.size _, heapPast_ _ HX5.out⟩
    case round =>
      obtain ⟨k, hk, rfl, rfl, HP, HS, HB, HX⟩ := hrel
      have hw5 : w5.heap.size < wr.heap.size := lt_of_heap HP.out
      by_cases hlt : k < fn
      · obtain ⟨bl, ol, s, rfl, hbb, HFk, f0, f1, f2, sok⟩ := (HT.out _ HB.out).form.at_ hlt
        dsimp only at HFk
        obtain ⟨m, hm, hm2⟩ := HTok.out.mode HFk.out
        have hsz := szAt_range HTok.out.size (k := k) (by rw [HFL.out]; exact hlt)
        obtain ⟨PV, hPV⟩ : ∃ z, (prodK xs fs k).getD m 0 = z := ⟨_, rfl⟩
        obtain ⟨SV, hSV⟩ : ∃ z, szAt xs fs k = z := ⟨_, rfl⟩
        have hnb := heap_alloc_new wr (.cells #[.int .i64 s.k, .int .i64 (m : Int), .int .i64 s.s] 66)
        have t0 := cell_of_row _ _ 0 _ _ _ hnb
        have t1 := cell_of_row _ _ 1 _ _ _ hnb
        have t2 := cell_of_row _ _ 2 _ _ _ hnb
        rw [hm] at f1
        have hmn : m < n := by rw [← HXL.out]; exact hm2
        obtain ⟨p0, p1⟩ := vblk_cell (i := m) (v := .int .i64 PV) (heapPast_ (.cells #[.int .i64 s.k, .int .i64 (m : Int), .int .i64 s.s] 66) HP.out) (by
          unfold stC
          rw [List.getElem?_map, List.getElem?_eq_getElem (by rw [prodK_length]; exact hm2), ← hPV, List.getD_eq_getElem?_getD, List.getElem?_eq_getElem (by rw [prodK_length]; exact hm2)]
          rfl)
        obtain ⟨s0, s1⟩ := vblk_cell (i := k) (v := .int .i64 SV) (heapPast_ (.cells #[.int .i64 s.k, .int .i64 (m : Int), .int .i64 s.s] 66) HS.out) (by
          unfold stC sizesL
          rw [List.getElem?_map, List.getElem?_map, List.getElem?_range (by rw [HFL.out]; exact hlt), ← hSV]
          rfl)
        have hsk : (prodK xs fs (k + 1)) = (prodK xs fs k).set m (if s.k = 4 then PV * SV else SV) := by rw [prodK_succ HFk.out, hm, Int.toNat_natCast, hPV, hSV]
        have hwk := wholeK_succ HFk.out
        have hm0 : (0 : Int) ≤ (m : Int) := by omega
        have hmI : (m : Int) < (n : Int) := by omega
        have hkI : (k : Int) < (fn : Int) := by omega
        have hk0 : (0 : Int) ≤ (k : Int) := by omega
        have hne2 : g2 ≠ w5.heap.size := by omega
        have hne0 : w.heap.size ≠ w5.heap.size := by omega
        obtain ⟨wb, hwb⟩ : ∃ wb, wholeK fs k = wb := ⟨_, rfl⟩
        rw [hwb] at hwk ⊢
        by_cases h4 : s.k = 4
        · have hpv : PV * SV = xs.getD m 0 := by have := HTok.out.prod_block HFk.out h4; rw [hm, Int.toNat_natCast, hPV, hSV] at this; exact this
          have hpr : -9223372036854775808 ≤ PV * SV ∧ PV * SV ≤ 9223372036854775807 := by
            rw [hpv, List.getD_eq_getElem?_getD, List.getElem?_eq_getElem hm2]
            exact HXR.out _ (List.getElem_mem hm2)
          have hwr : IntKind.i64.wrap (PV * SV) = PV * SV := by
            exact IntWalk.i64_in _ (by omega)
          have HST : Hid ((stC (prodK xs fs k)).set m (.int .i64 (PV * SV)) = stC (prodK xs fs (k + 1))) := by unfold Hid; rw [stC_set, hsk, if_pos h4]
          have g1 : (s.k == 4) = true := by simpa using h4
          have g0 : (s.k == 0) = false := by rw [h4]; rfl
          rw [g1, Bool.or_true] at hwk
          have HWK := Lib.hid hwk
          clear hwb hnb hPV hSV hsk hwk hpv hpr h4 hm hm2
          cases wb
          all_goals
            go_wp2_with fail
            go_region
            all_goals
              obtain ⟨w7, hw7⟩ : ∃ w7, (wr.setCell ⟨w5.heap.size, m, none⟩ (.int .i64 (PV * SV))).alloc (.cells #[.int .i64 s.k, .int .i64 (m : Int), .int .i64 s.s] 66) = w7 := ⟨_, rfl⟩
              have H1 : Hid (w7.heap[w5.heap.size]? = some (.cells (stC (prodK xs fs (k + 1))).toArray 3 (0, 0))) := by unfold Hid; rw [← hw7]; refine heapPast_ _ ?_; rw [vblk_set HP.out, HST.out]
              have H2 : Hid (w7.heap[g2]? = some (.cells (stC (sizesL xs fs)).toArray 3 (0, 0))) := by unfold Hid; rw [← hw7]; exact heapPast_ _ ((Below.heap_setCell _ _ _ _ hne2).trans HS.out)
              have H3 : Hid (Below w.heap.size w w7) := by unfold Hid; rw [← hw7]; have hb := HB.out.setCell (p := ⟨w5.heap.size, m, none⟩) (by show w.heap.size ≤ w5.heap.size; omega); exact (hb _).alloc (hb _).size _
              have H4 : Hid (w7.heap[w.heap.size]? = some (.cells #[.slice A n c, .slice (some ⟨bl, ol, none⟩) fn fc, .slice L fn lc, .slice V vn vc] 34 (0, 0))) := by unfold Hid; rw [← hw7]; exact heapPast_ _ ((Below.heap_setCell _ _ _ _ hne0).trans HX.out)
              rw [hw7]
              clear hw7 p0 p1 s0 s1 t0 t1 t2 f0 f1 f2
              go_wp2_with fail
              go_roundw
              case rel => exact ⟨k + 1, by omega, by go_num, by rw [HWK.out]; rfl, H1, H2, Lib.hid (by first | exact H3.out | exact H3.out.drew), H4⟩
              case measure => simp [intOf]; omega
        · have HST : Hid ((stC (prodK xs fs k)).set m (.int .i64 SV) = stC (prodK xs fs (k + 1))) := by unfold Hid; rw [stC_set, hsk, if_neg h4]
          have g1 : (s.k == 4) = false := by simpa using h4
          obtain ⟨zb, g0⟩ : ∃ zb, (s.k == 0) = zb := ⟨_, rfl⟩
          rw [g1, g0, Bool.or_false] at hwk
          have HWK := Lib.hid hwk
          clear hwb hnb hPV hSV hsk hwk h4 hm hm2
          cases wb <;> cases zb
          all_goals
            go_wp2_with fail
            go_region
            all_goals
              obtain ⟨w7, hw7⟩ : ∃ w7, (wr.setCell ⟨w5.heap.size, m, none⟩ (.int .i64 SV)).alloc (.cells #[.int .i64 s.k, .int .i64 (m : Int), .int .i64 s.s] 66) = w7 := ⟨_, rfl⟩
              have H1 : Hid (w7.heap[w5.heap.size]? = some (.cells (stC (prodK xs fs (k + 1))).toArray 3 (0, 0))) := by unfold Hid; rw [← hw7]; refine heapPast_ _ ?_; rw [vblk_set HP.out, HST.out]
              have H2 : Hid (w7.heap[g2]? = some (.cells (stC (sizesL xs fs)).toArray 3 (0, 0))) := by unfold Hid; rw [← hw7]; exact heapPast_ _ ((Below.heap_setCell _ _ _ _ hne2).trans HS.out)
              have H3 : Hid (Below w.heap.size w w7) := by unfold Hid; rw [← hw7]; have hb := HB.out.setCell (p := ⟨w5.heap.size, m, none⟩) (by show w.heap.size ≤ w5.heap.size; omega); exact (hb _).alloc (hb _).size _
              have H4 : Hid (w7.heap[w.heap.size]? = some (.cells #[.slice A n c, .slice (some ⟨bl, ol, none⟩) fn fc, .slice L fn lc, .slice V vn vc] 34 (0, 0))) := by unfold Hid; rw [← hw7]; exact heapPast_ _ ((Below.heap_setCell _ _ _ _ hne0).trans HX.out)
              rw [hw7]
              clear hw7 p0 p1 s0 s1 t0 t1 t2 f0 f1 f2
              go_wp2_with fail
              go_roundw
              case rel => exact ⟨k + 1, by omega, by go_num, by rw [HWK.out]; rfl, H1, H2, Lib.hid (by first | exact H3.out | exact H3.out.drew), H4⟩
              case measure => simp [intOf]; omega
      · obtain rfl : k = fn := by omega
        obtain ⟨k0, k1, k2, k3, _⟩ := lvCells HX.out
        have hsh := (HT.out _ HB.out).shape
        have hCL := cells_any A n c xs wr wr.heap.size hsh (by omega)
        have hpx : prodK xs fs k = xs := by rw [← HFL.out]; exact HTok.out.prod_all
        have hPI : Ints wr wr.heap.size (some ⟨w5.heap.size, 0, none⟩) n xs := by
          have h := HP.out
          rw [hpx] at h
          exact ints_stC h HXL.out HXR.out (lt_of_heap h)
        have hEQ := eqS5 (some ⟨w5.heap.size, 0, none⟩) A n n n c xs wr hPI hsh (by omega) (by omega)
        obtain ⟨CV, hCV⟩ : ∃ z, (cellsF xs).1 = z := ⟨_, rfl⟩
        rw [hCV, HTok.out.cells] at hCL
        obtain ⟨wb, hwb⟩ : ∃ wb, wholeK fs k = wb := ⟨_, rfl⟩
        have HW : Hid (wb = true → (N : Int) = CV) := by
          intro h
          have hall : ∀ (j : Nat) (f : Sp), fs[j]? = some f → f.k = 0 ∨ f.k = 4 := by
            intro j f hj
            rw [h] at hwb
            unfold wholeK at hwb
            rw [List.take_of_length_le (Nat.le_of_eq HFL.out), List.all_eq_true] at hwb
            have := hwb f (List.mem_of_getElem? hj)
            simpa using this
          have h3 := HTok.out.whole_tot hall
          rw [HLL.out, HN.out, hCV] at h3
          exact h3
        rw [hwb]
        clear hwb hpx hPI hsh hCV
        cases wb
        · go_wp2_with fail
          refine hCL.mono ?_
          rintro e w6 ⟨rfl, rfl⟩
          go_wp2_with fail
          refine hEQ.mono ?_
          rintro e w7 ⟨rfl, hb7⟩
          have HB7 := Lib.hid (HB.out.trans (hb7.mono HB.out.size))
          clear hb7
          go_wp2_with fail
          go_ret
          exact ⟨rfl, HB7.out⟩
        · have e6 : ((N : Int) == CV) = true := by rw [beq_iff_eq, ← HW.out rfl]
          go_wp2_with fail
          refine hCL.mono ?_
          rintro e w6 ⟨rfl, rfl⟩
          go_wp2_with fail
          refine hEQ.mono ?_
          rintro e w7 ⟨rfl, hb7⟩
          have HB7 := Lib.hid (HB.out.trans (hb7.mono HB.out.size))
          clear hb7
          go_wp2_with fail
          go_ret
          exact ⟨rfl, HB7.out⟩

end Go.Proofs.Ytfimnmdcbnfhfaa
