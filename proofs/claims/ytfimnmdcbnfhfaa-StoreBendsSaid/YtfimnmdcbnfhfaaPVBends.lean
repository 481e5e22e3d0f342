/- purflelaw05.StoreBends returns true. -/
import Derived.Test.YtfimnmdcbnfhfaaPVBendT
import Derived.Test.YtfimnmdcbnfhfaaG16
import Derived.Test.YtfimnmdcbnfhfaaPVDenseL
namespace Go.Proofs.Ytfimnmdcbnfhfaa
open Go.RowKit Go.Sort


set_option maxRecDepth 100000 in
set_option maxHeartbeats 8000000 in
theorem storeBends_any (w : World) (T : Ten) (ht : TenR.In w w.heap.size T) (a : Int) (_ha1 : -9223372036854775808 ≤ a) (_ha2 : a ≤ 9223372036854775807) (d : Int) (_hd1 : -9223372036854775808 ≤ d) (_hd2 : d ≤ 9223372036854775807) :
    Calls Try.prog 7 #[T.val, .int .i64 a, .int .i64 d] w fun r w' => r = .returned (.bool true) ∧ Below w.heap.size w w' := by
  obtain ⟨A, n, c, xs, F, fn, fc, fs, L, ln, lc, ls, V, vn, vc, vs⟩ := T
  have HB0 := Lib.hid (lvBelow w (.cells #[.slice A n c, .slice F fn fc, .slice L ln lc, .slice V vn vc] 34))
  have HX0 := Lib.hid (heap_alloc_new w (.cells #[.slice A n c, .slice F fn fc, .slice L ln lc, .slice V vn vc] 34))
  have HI : Hid (∀ W, Below w.heap.size w W → TenR.In W W.heap.size ⟨A, n, c, xs, F, fn, fc, fs, L, ln, lc, ls, V, vn, vc, vs⟩) := fun W hW => ht.on hW
  have HXK : Hid (∀ W W', Below w.heap.size w W → W.heap[w.heap.size]? = some (.cells #[.slice A n c, .slice F fn fc, .slice L ln lc, .slice V vn vc] 34 (0, 0)) → Below W.heap.size W W' → Below w.heap.size w W' ∧ W'.heap[w.heap.size]? = some (.cells #[.slice A n c, .slice F fn fc, .slice L ln lc, .slice V vn vc] 34 (0, 0))) := fun W W' h1 h2 h3 => ⟨h1.trans (h3.mono h1.size), keep_b h3 h2⟩

  by_cases hf : fewT ⟨A, n, c, xs, F, fn, fc, fs, L, ln, lc, ls, V, vn, vc, vs⟩
  case neg =>
    have HF : Hid (pB (fewT ⟨A, n, c, xs, F, fn, fc, fs, L, ln, lc, ls, V, vn, vc, vs⟩) = false) := pB_f hf
    clear hf ht
    go_enter Try.func7, Try.ntmps7
    go_wp2_with fail
    refine (stLive_any _).mono ?_
    rintro x w1 ⟨rfl, hb⟩
    obtain ⟨hB1, hX1⟩ := HXK.out _ _ HB0.out HX0.out hb
    clear hb HB0 HX0
    obtain ⟨k0, k1, k2, k3, _⟩ := lvCells hX1
    have HB1 := Lib.hid hB1
    have HX1 := Lib.hid hX1
    clear hB1 hX1
    go_wp2_with fail
    refine (refFew5_any ⟨A, n, c, xs, F, fn, fc, fs, L, ln, lc, ls, V, vn, vc, vs⟩ w1 (HI.out _ HB1.out)).mono ?_
    rintro x w2 ⟨rfl, hb⟩
    rw [HF.out]
    obtain ⟨hB2, hX2⟩ := HXK.out _ _ HB1.out HX1.out hb
    clear hb HB1 HX1 k0 k1 k2 k3
    obtain ⟨k0, k1, k2, k3, _⟩ := lvCells hX2
    have HB2 := Lib.hid hB2
    have HX2 := Lib.hid hX2
    clear hB2 hX2
    go_wp2_with fail
    go_ret
    exact ⟨rfl, HB2.out⟩
  have HF : Hid (pB (fewT ⟨A, n, c, xs, F, fn, fc, fs, L, ln, lc, ls, V, vn, vc, vs⟩) = true) := pB_t hf
  have HT : Hid (∀ W, Below w.heap.size w W → Ten.In W W.heap.size ⟨A, n, c, xs, F, fn, fc, fs, L, ln, lc, ls, V, vn, vc, vs⟩) := fun W hW => (ht.on hW).ten hf
  have ht0 := ht.ten hf
  have HFW := Lib.hid hf
  by_cases hE : tenE ⟨A, n, c, xs, F, fn, fc, fs, L, ln, lc, ls, V, vn, vc, vs⟩ = 0
  case neg =>
    obtain ⟨E, hEE⟩ : ∃ E, tenE ⟨A, n, c, xs, F, fn, fc, fs, L, ln, lc, ls, V, vn, vc, vs⟩ = E := ⟨_, rfl⟩
    rw [hEE] at hE
    have e1 : (E != 0) = true := by simpa using hE
    have HEE := Lib.hid hEE
    clear hf ht ht0 hE hEE
    go_enter Try.func7, Try.ntmps7
    go_wp2_with fail
    refine (stLive_any _).mono ?_
    rintro x w1 ⟨rfl, hb⟩
    obtain ⟨hB1, hX1⟩ := HXK.out _ _ HB0.out HX0.out hb
    clear hb HB0 HX0
    obtain ⟨k0, k1, k2, k3, _⟩ := lvCells hX1
    have HB1 := Lib.hid hB1
    have HX1 := Lib.hid hX1
    clear hB1 hX1
    go_wp2_with fail
    refine (refFew5_any ⟨A, n, c, xs, F, fn, fc, fs, L, ln, lc, ls, V, vn, vc, vs⟩ w1 (HI.out _ HB1.out)).mono ?_
    rintro x w2 ⟨rfl, hb⟩
    rw [HF.out]
    obtain ⟨hB2, hX2⟩ := HXK.out _ _ HB1.out HX1.out hb
    clear hb HB1 HX1 k0 k1 k2 k3
    obtain ⟨k0, k1, k2, k3, _⟩ := lvCells hX2
    have HB2 := Lib.hid hB2
    have HX2 := Lib.hid hX2
    clear hB2 hX2
    go_wp2_with fail
    refine (stCheck_any ⟨A, n, c, xs, F, fn, fc, fs, L, ln, lc, ls, V, vn, vc, vs⟩ w2 (HT.out _ HB2.out)).mono ?_
    rintro x w3 ⟨rfl, hb⟩
    rw [HEE.out]
    obtain ⟨hB3, hX3⟩ := HXK.out _ _ HB2.out HX2.out hb
    clear hb HB2 HX2 k0 k1 k2 k3
    obtain ⟨k0, k1, k2, k3, _⟩ := lvCells hX3
    have HB3 := Lib.hid hB3
    have HX3 := Lib.hid hX3
    clear hB3 hX3
    go_wp2_with fail
    go_ret
    exact ⟨rfl, HB3.out⟩
  have HE := Lib.hid hE
  have hll : ls.length = ln := ht0.lvs.1
  have hvl : vs.length = vn := ht0.vals.1
  have HLL := Lib.hid hll
  have HVL := Lib.hid hvl
  have b1 : ln ≤ 40 := hf.2.2.1
  have b2 : vn ≤ 3000 := hf.2.2.2.1
  have HFL : Hid (∀ l ∈ ls, l.n ≤ 3000 ∧ l.m ≤ 3000) := hf.2.2.2.2
  have HT0 := Lib.hid ht0
  have HTOK := Lib.hid (Ten.tok ht0 hE).1
  obtain ⟨j0, hj0, hy0, hy1, hy2⟩ := info_parts infoInt64
  clear hf ht ht0 hE hll hvl
  go_enter Try.func7, Try.ntmps7
  go_wp2_with fail
  refine (stLive_any _).mono ?_
  rintro x w1 ⟨rfl, hb⟩
  obtain ⟨hB1, hX1⟩ := HXK.out _ _ HB0.out HX0.out hb
  clear hb HB0 HX0
  obtain ⟨k0, k1, k2, k3, _⟩ := lvCells hX1
  have HB1 := Lib.hid hB1
  have HX1 := Lib.hid hX1
  clear hB1 hX1
  go_wp2_with fail
  refine (refFew5_any ⟨A, n, c, xs, F, fn, fc, fs, L, ln, lc, ls, V, vn, vc, vs⟩ w1 (HI.out _ HB1.out)).mono ?_
  rintro x w2 ⟨rfl, hb⟩
  rw [HF.out]
  obtain ⟨hB2, hX2⟩ := HXK.out _ _ HB1.out HX1.out hb
  clear hb HB1 HX1 k0 k1 k2 k3
  obtain ⟨k0, k1, k2, k3, _⟩ := lvCells hX2
  have HB2 := Lib.hid hB2
  have HX2 := Lib.hid hX2
  clear hB2 hX2
  go_wp2_with fail
  refine (stCheck_any ⟨A, n, c, xs, F, fn, fc, fs, L, ln, lc, ls, V, vn, vc, vs⟩ w2 (HT.out _ HB2.out)).mono ?_
  rintro x w3 ⟨rfl, hb⟩
  rw [HE.out]
  obtain ⟨hB3, hX3⟩ := HXK.out _ _ HB2.out HX2.out hb
  clear hb HB2 HX2 k0 k1 k2 k3
  obtain ⟨k0, k1, k2, k3, _⟩ := lvCells hX3
  have HB3 := Lib.hid hB3
  have HX3 := Lib.hid hX3
  clear hB3 hX3
  go_wp2_with fail
  refine (refCopy5_any ⟨A, n, c, xs, F, fn, fc, fs, L, ln, lc, ls, V, vn, vc, vs⟩ w3 (HT.out _ HB3.out) HFW.out).mono ?_
  rintro x w4 ⟨g, A1, r1, A2, r2, A3, r3, A4, r4, ls', f, rfl, hC⟩
  have hb := hC.bel
  have HB3h := HB3
  have HX3h := HX3
  obtain ⟨hB4, hX4⟩ := HXK.out _ _ HB3.out HX3.out hb
  clear hb HB3 HX3 k0 k1 k2 k3
  dsimp only
  obtain ⟨W5, hW5⟩ : ∃ W, w4.alloc (.cells #[.slice A1 n r1, .slice A2 fn r2, .slice A4 ln r4, .slice A3 vn r3] 34) = W := ⟨_, rfl⟩
  have hb5 : Below w4.heap.size w4 W5 := by rw [← hW5]; exact lvBelow w4 _
  have hn5 : W5.heap[w4.heap.size]? = some (.cells #[.slice A1 n r1, .slice A2 fn r2, .slice A4 ln r4, .slice A3 vn r3] 34 (0, 0)) := by rw [← hW5]; exact heap_alloc_new _ _
  have hC5 := hC.below hb5
  have HB5 := Lib.hid (hB4.trans (hb5.mono hB4.size))
  have HX5 := Lib.hid (keep_b hb5 hX4)
  -- a number more
  have hb6 : Below W5.heap.size W5 (W5.alloc (.cells #[.int .i64 0] 2)) := lvBelow W5 _
  have HC6 := Lib.hid (hC5.below hb6)
  have HN6 := Lib.hid (keep_b hb6 hn5)
  have hO3 := hC5.i3
  have hs5 := hC5.bel.size
  have hsrc := src_new (v := 0) (t := 2) W5 (by omega)
  have h3b : w.heap.size < w4.heap.size := lt_of_heap hX4
  have hg3 : w3.heap.size ≤ w4.heap.size := hC.bel.size
  obtain ⟨k0, k1, k2, k3, _⟩ := lvCells hn5
  have HW5S : Hid (w4.heap.size < W5.heap.size) := lt_of_heap hn5
  have HGX : Hid (g < w4.heap.size) := lt_of_heap hC.box
  clear hC hB4 hX4 hb5 hn5 hC5 hb6
  have hvn1 : vn + 1 ≤ 1000000 := by omega
  have hv3 := HVL.out
  go_upto_region 5 with fail
  try rw [hW5]
  clear hW5
  go_upto_region 6 with (at_builtin; refine wpList_appendInts _ rfl (.tmp 22) (.tmp 23) 32 rfl w3.heap.size 2 j0 Try.underlying32 hj0 hy0 hy1 hy2 A3 (some ⟨W5.heap.size, 0, none⟩) r3 1 1 (W5.heap.size + 1) vn (vn + 1) vs [0] rfl rfl (hO3.alloc _) hv3 rfl hsrc hvn1 (by simp; omega) ?_; intro A7 r7 w6 HO7 HG7; have HG7' : (W5.alloc (.cells #[.int .i64 0] 2)).grownBy w6 (Value.slice A3 vn r3).ownBlock := HG7; have hk6 := KeepT.of_app (p := vn) HC6.out.i3 HG7'; have hx6 := (hk6 _ _ _ (by decide) HN6.out).trans HN6.out; obtain ⟨p0, p1, p2, p3, pf0, pf1, pf2, pf3⟩ := lvCells hx6)
  have hr6 : Below w3.heap.size w3 w6 := HC6.out.bel.grown HG7 HC6.out.bel.size (fun q hq => (World.ownsRow.lt HC6.out.i3.1 q (by rw [hv3]; exact hq)).1)
  have hset := lv_set3 (z := .slice A7 (vn + 1) r7) hx6
  have hk7 : KeepT 34 w6 (w6.setCell ⟨w4.heap.size, 3, none⟩ (.slice A7 (vn + 1) r7)) := KeepT.of_set hx6 rfl _
  have hO7 := HO7.keepT (by decide) hk7
  have hI7 := hO7.ints
  have hc7 := hO7.cap
  have hl7 : (vs ++ [0]).length = vn + 1 := by rw [List.length_append, hv3]; rfl
  rw [hl7] at hI7 hc7
  have hX7 := (HC6.out.ownX.keepT (by decide) (by decide) (by decide) hk6).keepT (by decide) (by decide) (by decide) hk7
  have hT7 := hX7.in_ HT0.out hI7 hc7 (by omega)
  obtain ⟨W7, hW7⟩ : ∃ W, w6.setCell ⟨w4.heap.size, 3, none⟩ (.slice A7 (vn + 1) r7) = W := ⟨_, rfl⟩
  have hb7 : Below w3.heap.size w3 W7 := by rw [← hW7]; exact hr6.setCell (p := ⟨w4.heap.size, 3, none⟩) hg3 _
  rw [hW7] at hset hk7 hO7 hI7 hT7 hX7
  have HX7 := Lib.hid hX7
  have HB35 : Hid (∀ W, Below w3.heap.size w3 W → Below w.heap.size w W ∧ W.heap[w.heap.size]? = some (.cells #[.slice A n c, .slice F fn fc, .slice L ln lc, .slice V vn vc] 34 (0, 0))) := by
    have h1 : Hid (w3.heap[w.heap.size]? = some (.cells #[.slice A n c, .slice F fn fc, .slice L ln lc, .slice V vn vc] 34 (0, 0))) := HX3h
    have h2 : Hid (Below w.heap.size w w3) := HB3h
    exact fun W hW => ⟨h2.out.trans (hW.mono h2.out.size), keep_b hW h1.out⟩
  have hE7 : tenE ⟨A1, n, r1, xs, A2, fn, r2, fs, A4, ln, r4, ls', A7, vn + 1, r7, vs ++ [0]⟩ = 1 := bend_vn HE.out rfl rfl rfl (HC6.out.same rfl HLL.out) HLL.out (by show vn + 1 ≠ vn; omega)
  have hCK := stCheck_any _ W7 hT7
  rw [hE7] at hCK
  have HB7 := Lib.hid hb7
  have HXB7 := Lib.hid hset
  have HO7x := Lib.hid hO7
  have HKK : Hid (KeepT 2 (W5.alloc (.cells #[.int .i64 0] 2)) w6 ∧ KeepT 34 w6 W7) := ⟨hk6, hk7⟩
  clear p0 p1 p2 p3 pf0 pf1 pf2 pf3 hx6 hk6 hk7 HO7 HG7 HG7' hr6 hset hI7 hT7 hE7 hb7 hO7 hX7 k0 k1 k2 k3 hO3 hsrc hs5
  obtain ⟨q0, q1, q2, q3, _⟩ := lvCells HXB7.out
  have HEQ := Lib.hid hW7
  clear hW7
  go_upto_region 6 with fail
  try rw [HEQ.out]
  go_wp2_with fail
  refine hCK.mono ?_
  rintro x w8 ⟨rfl, hb8⟩
  have HB8 := Lib.hid (HB7.out.trans (hb8.mono HB7.out.size))
  have HXB8 := Lib.hid (keep_b hb8 HXB7.out)
  have HI8 : Hid (∀ W, Below w8.heap.size w8 W → Ints W W.heap.size A7 (vn + 1) (vs ++ [0])) := by
    intro W hW
    have h1 := hb8.trans (hW.mono hb8.size)
    have := HO7x.out.ints
    rw [hl7] at this
    exact (this.below h1).more h1.size
  have hc7 := HO7x.out.cap
  rw [hl7] at hc7
  have HXV := (HB35.out _ HB8.out).2
  clear q0 q1 q2 q3 hCK
  obtain ⟨k0, k1, k2, k3, _⟩ := lvCells HXV
  obtain ⟨q0, q1, q2, q3, qf0, qf1, qf2, qf3⟩ := lvCells HXB8.out
  have htk := fun W k hk => run_take64 (w := W) A7 (vn + 1) r7 k hk hc7
  go_upto_if 32 with fail
  go_cut [8] (fun s wx => s = .pointer (some ⟨w4.heap.size, 0, none⟩) ∧ (∃ y0 y1 y2 y3, wx.heap[w4.heap.size]? = some (.cells #[y0, y1, y2, y3] 34 (0, 0))) ∧ Below w3.heap.size w3 wx)
  case first =>
    by_cases h0 : vn = 0
    · subst h0
      go_wp2_with fail
      go_meet
      exact ⟨rfl, ⟨_, _, _, _, HXB8.out⟩, HB8.out⟩
    · have c1 : decide (0 < vn) = true := decide_eq_true (by omega)
      have c2 : decide (0 < (vn : Int)) = true := decide_eq_true (by omega)
      first | rw [c1] | rw [c2]
      obtain ⟨v1, hv1⟩ : ∃ v1 : Nat, Hid (v1 + 1 = vn) := ⟨vn - 1, by unfold Hid; omega⟩
      have c3 : IntKind.i64.wrap ((vn : Int) - 1) = (v1 : Int) := by
        have := hv1.out
        rw [show (vn : Int) - 1 = (v1 : Int) by omega]
        exact IntWalk.i64_in _ (by omega)
      have htk1 := fun W => htk W v1 (by have := hv1.out; omega)
      have hset := lv_set3 (z := .slice A7 v1 r7) HXB8.out
      have hk9 : KeepT 34 w8 (w8.setCell ⟨w4.heap.size, 3, none⟩ (.slice A7 v1 r7)) := KeepT.of_set HXB8.out rfl _
      have hb9 := HB8.out.setCell (p := ⟨w4.heap.size, 3, none⟩) hg3 (.slice A7 v1 r7)
      have hO9 := ((HO7x.out.below hb8 (Nat.le_refl _)).keepT (by decide) hk9).ints
      rw [hl7] at hO9
      have hi9 := hO9.take_ (k := v1) (by have := hv1.out; omega)
      have hT9 := ((HX7.out.below hb8).keepT (by decide) (by decide) (by decide) hk9).in_ HT0.out hi9 (c7 := r7) (by have := hv1.out; omega) (by have := hv1.out; omega)
      obtain ⟨W9, hW9⟩ : ∃ W, w8.setCell ⟨w4.heap.size, 3, none⟩ (.slice A7 v1 r7) = W := ⟨_, rfl⟩
      rw [hW9] at hset hb9 hT9
      have hE9 : tenE ⟨A1, n, r1, xs, A2, fn, r2, fs, A4, ln, r4, ls', A7, v1, r7, (vs ++ [0]).take v1⟩ = 1 := bend_vn HE.out rfl rfl rfl (HC6.out.same rfl HLL.out) HLL.out (by have := hv1.out; show v1 ≠ vn; omega)
      have hCK := stCheck_any _ W9 hT9
      rw [hE9] at hCK
      have HB9 := Lib.hid hb9
      have HXB9 := Lib.hid hset
      have HW9 := Lib.hid hW9
      clear hk9 hi9 hO9 hT9 hE9 hb9 hset hW9 h0
      obtain ⟨s0, s1, s2, s3, _⟩ := lvCells HXB9.out
      go_upto_region 10 with fail
      try rw [HW9.out]
      clear k0 k1 k2 k3 q0 q1 q2 q3 qf0 qf1 qf2 qf3
      go_wp2_with fail
      refine hCK.mono ?_
      rintro x w10 ⟨rfl, hb10⟩
      have HB10 := Lib.hid (HB9.out.trans (hb10.mono HB9.out.size))
      have HXB10 := Lib.hid (keep_b hb10 HXB9.out)
      clear hb10 s0 s1 s2 s3 hCK
      go_wp2_with fail
      go_meet
      exact ⟨rfl, ⟨_, _, _, _, HXB10.out⟩, HB10.out⟩
  case rest =>
    obtain ⟨rfl, ⟨y0, y1, y2, y3, hxb⟩, hbc⟩ := hcut
    have HBC := Lib.hid hbc
    have HXC := Lib.hid hxb
    clear hbc hxb k0 k1 k2 k3 q0 q1 q2 q3 qf0 qf1 qf2 qf3 htk hb8
    obtain ⟨wo, rfl⟩ : ∃ wo : World, wo = wc := ⟨_, rfl⟩
    obtain ⟨k0, k1, k2, k3, _⟩ := lvCells (HB35.out _ HBC.out).2
    by_cases h0 : ln = 0
    · have e0 : (ln == 0) = true := by simpa using h0
      have e0' : ((ln : Int) == 0) = true := by simp; omega
      have HBw := Lib.hid (HB35.out _ HBC.out).1
      clear h0
      go_wp2_with fail
      go_ret
      exact ⟨rfl, HBw.out⟩
    have e0 : (ln == 0) = false := by simpa using h0
    have e0' : ((ln : Int) == 0) = false := by simp; omega
    obtain ⟨R, hR, hRe, hR1, hR2⟩ := rem_in a (N := ln) (by omega) (by omega)
    have e1 : ¬ (ln : Int) = 0 := by omega
    obtain ⟨M1, hM1⟩ : ∃ M1, a.tmod (ln : Int) = M1 := ⟨_, rfl⟩
    rw [hM1] at hRe hR1 hR2
    have u1 : IntKind.i64.wrap M1 = M1 := IntWalk.i64_in _ (by omega)
    have u2 : IntKind.i64.wrap (M1 + (ln : Int)) = M1 + (ln : Int) := IntWalk.i64_in _ (by omega)
    have u3 : IntKind.i64.wrap (R : Int) = (R : Int) := IntWalk.i64_in _ (by omega)
    have HR := Lib.hid hR
    have z1 := cell_regrown k2
    have hmix : Try.prog.follows .mixedOrders = true := by kernel_rfl
    clear hR hR1 hR2
    go_upto_region 14 with fail
    refine wp_region_quiet_below hmix (by kernel_rfl) ?_
    repeat (quiet_step (fail))
    refine wpQuiet_nil ?_
    intro _ hw'
    obtain ⟨⟨dq, osq⟩, hw''⟩ := hw'
    subst hw''
    obtain ⟨W10, hW10⟩ : ∃ W, grow (redrawn wo dq) osq = W := ⟨_, rfl⟩
    have hb10 := below_regrown wo dq osq
    rw [hW10] at hb10 ⊢
    have HB10 := Lib.hid (HBC.out.trans (hb10.mono HBC.out.size))
    have HXB10 := Lib.hid (keep_b hb10 HXC.out)
    clear z1 k0 k1 k2 k3 hb10 hW10 u1 u2 u3 e1 h0 e0 e0' hM1 hRe
    obtain ⟨k0, k1, k2, k3, _⟩ := lvCells (HB35.out _ HB10.out).2
    go_wp2_with fail
    refine (refCopy5_any ⟨A, n, c, xs, F, fn, fc, fs, L, ln, lc, ls, V, vn, vc, vs⟩ W10 (HT.out _ (HB35.out _ HB10.out).1) HFW.out).mono ?_
    rintro x w11 ⟨g2, B1x, s1x, B2x, s2x, B3x, s3x, B4x, s4x, ls2, f2, rfl, hCx⟩
    have hxb := keep_b hCx.bel HXB10.out
    have hgx : g2 ≠ w4.heap.size := by have h1 := hCx.gg; have h2 := lt_of_heap HXB10.out; omega
    have h3s : w3.heap.size ≤ W10.heap.size := HB10.out.size
    have hBx := HB10.out.trans (hCx.bel.mono HB10.out.size)
    have hCr := hCx.rebase hBx h3s
    have HXBx := Lib.hid hxb
    clear hxb k0 k1 k2 k3
    dsimp only
    obtain ⟨q0, q1, q2, q3, qf0, qf1, qf2, qf3⟩ := lvCells HXBx.out
    have hset := set_four w11 w4.heap.size _ _ _ _ (.slice B1x n s1x) (.slice B2x fn s2x) (.slice B4x ln s4x) (.slice B3x vn s3x) _ HXBx.out
    obtain ⟨W12, hWx⟩ : ∃ W, ((((w11.setCell ⟨w4.heap.size, 0, none⟩ (.slice B1x n s1x)).setCell ⟨w4.heap.size, 1, none⟩ (.slice B2x fn s2x)).setCell ⟨w4.heap.size, 2, none⟩ (.slice B4x ln s4x)).setCell ⟨w4.heap.size, 3, none⟩ (.slice B3x vn s3x)) = W := ⟨_, rfl⟩
    have hsz : w11.heap.size ≤ W12.heap.size := by rw [← hWx]; simp
    rw [hWx] at hset
    have hBn := hBx.trans (hset.2.2 _ hg3)
    have hCn := hCr.tset HXBx.out hgx hBn hsz hset.2.1
    have HBnx := Lib.hid hBn
    have HXnx := Lib.hid hset.1
    have HWnx := Lib.hid hWx
    clear hCx hCr hBx hset hBn hsz hWx h3s
    obtain ⟨lx, hlx⟩ : ∃ l, ls2[R]? = some l := ⟨_, List.getElem?_eq_getElem (by have h1 := hCn.len; dsimp only at h1; have := HR.out; omega)⟩
    obtain ⟨mx, hmx, e1, e2, e3, e4, e5, e6⟩ := hCn.rel R lx hlx
    dsimp only at hmx
    obtain ⟨blkx, hB4, _, _, c0, c1, c2, c3⟩ := hCn.i4.rows R lx hlx
    subst hB4
    have hfr := fun i => World.ownsRow.frozenAt hCn.i4 i
    have hLk := HTOK.out.lok hmx
    have hz0 : 0 ≤ lx.s ∧ lx.s ≤ 2147483648 := by rw [e2]; exact ⟨hLk.size0, hLk.size1⟩
    have hwr : IntKind.i64.wrap (lx.s + 1) = lx.s + 1 := IntWalk.i64_in _ (by omega)
    have hT13 := hCn.size_ HT0.out hlx (z := lx.s + 1) (by omega)
    have hE13 : tenE ⟨B1x, n, s1x, xs, B2x, fn, s2x, fs, some ⟨blkx, 0, none⟩, ln, s4x, ls2.set R { lx with s := lx.s + 1 }, B3x, vn, s3x, vs⟩ = 1 := bend_size HE.out rfl rfl (List.getElem?_set_self (by have := (List.getElem?_eq_some_iff.1 hlx).1; exact this)) hmx (by show lx.s + 1 ≠ mx.s; omega)
    have hf1 := hfr (4 * R + 1)
    rw [Nat.mul_comm 4 R] at hT13 c1 hf1
    have hxb12 := HXnx.out
    have hne : w4.heap.size ≠ blkx := fun e => ownV_off hCn.i4 hxb12 (by decide) blkx rfl e.symm
    have hx13 := (Below.heap_setCell W12 ⟨blkx, R * 4 + 1, none⟩ (.int .i64 (lx.s + 1)) w4.heap.size hne).trans hxb12
    have hbx : w3.heap.size ≤ blkx := (ownV_lt hCn.i4 rfl).1
    have hb13 := HBnx.out.setCell (p := ⟨blkx, R * 4 + 1, none⟩) hbx (.int .i64 (lx.s + 1))
    obtain ⟨r0, r1, r2, r3, _⟩ := lvCells hxb12
    obtain ⟨W13, hW13⟩ : ∃ W, W12.setCell ⟨blkx, R * 4 + 1, none⟩ (.int .i64 (lx.s + 1)) = W := ⟨_, rfl⟩
    rw [hW13] at hT13 hx13 hb13
    have hCK := stCheck_any _ W13 hT13
    rw [hE13] at hCK
    have HX13 := Lib.hid hx13
    have HB13 := Lib.hid hb13
    have HW13 := Lib.hid hW13
    have hRI : (R : Int) < (ln : Int) := by have := HR.out; omega
    have hR0 : (0 : Int) ≤ (R : Int) := by omega
    clear hCn hLk hz0 hT13 hE13 hxb12 hx13 hb13 hW13 hfr c0 c2 c3 e1 e2 e3 e4 e5 e6 hlx hmx hgx
    go_upto_region 16 with fail
    try rw [HWnx.out]
    clear q0 q1 q2 q3 qf0 qf1 qf2 qf3
    go_upto_region 17 with fail
    try rw [HW13.out]
    clear r0 r1 r2 r3 c1 hf1
    obtain ⟨r0, r1, r2, r3, _⟩ := lvCells HX13.out
    go_wp2_with fail
    refine hCK.mono ?_
    rintro x w14 ⟨rfl, hb14⟩
    have HB14 := Lib.hid (HB13.out.trans (hb14.mono HB13.out.size))
    have HXB14 := Lib.hid (keep_b hb14 HX13.out)
    clear r0 r1 r2 r3 hb14 hCK
    obtain ⟨k0, k1, k2, k3, _⟩ := lvCells (HB35.out _ HB14.out).2
    go_wp2_with fail
    refine (refCopy5_any ⟨A, n, c, xs, F, fn, fc, fs, L, ln, lc, ls, V, vn, vc, vs⟩ w14 (HT.out _ (HB35.out _ HB14.out).1) HFW.out).mono ?_
    rintro x w15 ⟨g3, B1y, s1y, B2y, s2y, B3y, s3y, B4y, s4y, ls3, f3, rfl, hCy⟩
    have hxb := keep_b hCy.bel HXB14.out
    have hgy : g3 ≠ w4.heap.size := by have h1 := hCy.gg; have h2 := lt_of_heap HXB14.out; omega
    have h3s : w3.heap.size ≤ w14.heap.size := HB14.out.size
    have hBy := HB14.out.trans (hCy.bel.mono HB14.out.size)
    have hCr := hCy.rebase hBy h3s
    have HXBy := Lib.hid hxb
    clear hxb k0 k1 k2 k3
    dsimp only
    obtain ⟨q0, q1, q2, q3, qf0, qf1, qf2, qf3⟩ := lvCells HXBy.out
    have hset := set_four w15 w4.heap.size _ _ _ _ (.slice B1y n s1y) (.slice B2y fn s2y) (.slice B4y ln s4y) (.slice B3y vn s3y) _ HXBy.out
    obtain ⟨W16, hWy⟩ : ∃ W, ((((w15.setCell ⟨w4.heap.size, 0, none⟩ (.slice B1y n s1y)).setCell ⟨w4.heap.size, 1, none⟩ (.slice B2y fn s2y)).setCell ⟨w4.heap.size, 2, none⟩ (.slice B4y ln s4y)).setCell ⟨w4.heap.size, 3, none⟩ (.slice B3y vn s3y)) = W := ⟨_, rfl⟩
    have hsz : w15.heap.size ≤ W16.heap.size := by rw [← hWy]; simp
    rw [hWy] at hset
    have hBn := hBy.trans (hset.2.2 _ hg3)
    have hCn := hCr.tset HXBy.out hgy hBn hsz hset.2.1
    have HBny := Lib.hid hBn
    have HXny := Lib.hid hset.1
    have HWny := Lib.hid hWy
    clear hCy hCr hBy hset hBn hsz hWy h3s
    obtain ⟨ly, hly⟩ : ∃ l, ls3[R]? = some l := ⟨_, List.getElem?_eq_getElem (by have h1 := hCn.len; dsimp only at h1; have := HR.out; omega)⟩
    obtain ⟨my, hmy, e1, e2, e3, e4, e5, e6⟩ := hCn.rel R ly hly
    dsimp only at hmy
    obtain ⟨blky, hB4, _, _, c0, c1, c2, c3⟩ := hCn.i4.rows R ly hly
    subst hB4
    have hfr := fun i => World.ownsRow.frozenAt hCn.i4 i
    have hf3 := hfr (4 * R + 3)
    rw [Nat.mul_comm 4 R] at c1 c3 hf3
    obtain ⟨r0, r1, r2, r3, _⟩ := lvCells HXny.out
    have HC16 := Lib.hid hCn
    have HFY := Lib.hid hCn.fb
    go_upto_region 20 with fail
    try rw [HWny.out]
    clear q0 q1 q2 q3 qf0 qf1 qf2 qf3
    have hfew := HFL.out my (List.mem_of_getElem? hmy)
    by_cases hm0 : ly.m = 0
    · have e7 : (ly.m == 0) = true := by simpa using hm0
      have e7' : ((ly.m : Int) == 0) = true := by simp; omega
      have HBw := Lib.hid (HB35.out _ HBny.out).1
      clear hm0 hCn e4
      go_wp2_with fail
      go_ret
      exact ⟨rfl, HBw.out⟩
    have e7 : (ly.m == 0) = false := by simpa using hm0
    have e7' : ((ly.m : Int) == 0) = false := by simp; omega
    have hLO := hCn.rows R ly hly
    obtain ⟨q, hq⟩ : ∃ q, ly.B = some ⟨q, 0, none⟩ := by
      rcases hLO.crd.1.2 with ⟨h1, h2⟩ | ⟨q, _, _, h1, _⟩
      · have h3 : ly.ys.length = 0 := h2
        have := hLO.m0
        omega
      · injection h1 with h1
        exact ⟨q, h1⟩
    obtain ⟨K, hK, hKe, hK1, hK2⟩ := rem_in d (N := ly.m) (by omega) (by omega)
    have e8 : ¬ (ly.m : Int) = 0 := by omega
    obtain ⟨M2, hM2⟩ : ∃ M2, d.tmod (ly.m : Int) = M2 := ⟨_, rfl⟩
    rw [hM2] at hKe hK1 hK2
    have u1 : IntKind.i64.wrap M2 = M2 := IntWalk.i64_in _ (by omega)
    have u2 : IntKind.i64.wrap (M2 + (ly.m : Int)) = M2 + (ly.m : Int) := IntWalk.i64_in _ (by omega)
    have u3 : IntKind.i64.wrap (K : Int) = (K : Int) := IntWalk.i64_in _ (by omega)
    have HK := Lib.hid hK
    have HQ := Lib.hid hq
    have HREL := Lib.hid (And.intro e1 (And.intro e2 (And.intro e5 e6)))
    have HLY := Lib.hid hly
    have HMY := Lib.hid hmy
    rw [hq] at c3
    have z1 := cell_regrown r2
    have z3 := cell_regrown c3
    clear hK hK1 hK2 hLO hq e1 e2 e3 e4 e5 e6 hly hmy hCn hfr hf3 c0 c2
    go_wp2_with fail
    refine wp_region_quiet_below hmix (by kernel_rfl) ?_
    repeat (quiet_step (fail))
    refine wpQuiet_nil ?_
    intro _ hw'
    obtain ⟨⟨dq2, osq2⟩, hw''⟩ := hw'
    subst hw''
    obtain ⟨W17, hW17⟩ : ∃ W, grow (redrawn W16 dq2) osq2 = W := ⟨_, rfl⟩
    have hb17 := below_regrown W16 dq2 osq2
    rw [hW17] at hb17 ⊢
    have hc1 := (hb17.cell (p := ⟨blky, R * 4 + 1, none⟩) (ownV_lt HC16.out.i4 rfl).2).trans c1
    have hc3 := (hb17.cell (p := ⟨blky, R * 4 + 3, none⟩) (ownV_lt HC16.out.i4 rfl).2).trans c3
    have hr2 := (hb17.cell (p := ⟨w4.heap.size, 2, none⟩) (lt_of_heap HXny.out)).trans r2
    have HB17 := Lib.hid hb17
    have HC1 := Lib.hid hc1
    have HC3 := Lib.hid hc3
    have HR2 := Lib.hid hr2
    clear z1 z3 r0 r1 r2 r3 c1 c3 hb17 hW17 u1 u2 u3 e7 e7' e8 hm0 hM2 hKe
    have x1 := cell_regrown HC1.out
    have x3 := cell_regrown HC3.out
    have x2 := cell_regrown HR2.out
    have hKI : (K : Int) < (ly.m : Int) := by have := HK.out; omega
    have hK0 : (0 : Int) ≤ (K : Int) := by omega
    clear hc1 hc3 hr2
    go_upto_region 23 with fail
    refine wp_region_below_tail 14 hmix (by kernel_rfl) ?_
    simp only [List.take_succ_cons, List.take_zero, List.drop_succ_cons, List.drop_zero]
    repeat (quiet_step (fail))
    refine wpQuiet_nil ?_
    intro _ hw'
    obtain ⟨⟨dq3, osq3⟩, hw''⟩ := hw'
    subst hw''
    obtain ⟨W18, hW18⟩ : ∃ W, grow (redrawn W17 dq3) osq3 = W := ⟨_, rfl⟩
    have hb18 := below_regrown W17 dq3 osq3
    rw [hW18] at hb18 ⊢
    have hbb := HB17.out.trans (hb18.mono HB17.out.size)
    have hC18 := HC16.out.below hbb
    have hX18 := keep_b hbb HXny.out
    have hLO := hC18.rows R ly HLY.out
    have hcr := hLO.crd
    rw [HQ.out] at hcr
    obtain ⟨yv, hyv⟩ : ∃ yv, ly.ys[K]? = some yv := ⟨_, List.getElem?_eq_getElem (by have h1 := hLO.m0; have h2 := HK.out; omega)⟩
    obtain ⟨g1, g2f⟩ := hcr.cell_ hyv
    have hLk := HTOK.out.lok HMY.out
    obtain ⟨r1', r2', r5', r6'⟩ := HREL.out
    have hz0 : 0 ≤ ly.s ∧ ly.s ≤ 2147483648 := by rw [r2']; exact ⟨hLk.size0, hLk.size1⟩
    have hT19 := hC18.crd_ HT0.out HLY.out HQ.out (i := K) (z := ly.s) (by omega)
    have hne : w4.heap.size ≠ q := fun e => ownI_off hcr hX18 (by decide) q rfl e.symm
    have hx19 := (Below.heap_setCell W18 ⟨q, K, none⟩ (.int .i64 ly.s) w4.heap.size hne).trans hX18
    have hql : w3.heap.size ≤ q := by
      have h1 := (ownI_blk hcr rfl).choose_spec.2
      have h2 := hC18.mono_f (Nat.zero_le R)
      have h3 := HFY.out
      omega
    have hb19 := (HBny.out.trans (hbb.mono HBny.out.size)).setCell (p := ⟨q, K, none⟩) hql (.int .i64 ly.s)
    obtain ⟨W19, hW19⟩ : ∃ W, W18.setCell ⟨q, K, none⟩ (.int .i64 ly.s) = W := ⟨_, rfl⟩
    rw [hW19] at hT19 hx19 hb19
    have hE19 : tenE ⟨B1y, n, s1y, xs, B2y, fn, s2y, fs, some ⟨blky, 0, none⟩, ln, s4y, ls3.set R { ly with ys := ly.ys.set K ly.s }, B3y, vn, s3y, vs⟩ = 3 := by
      have hsm := hC18.same rfl HLL.out
      refine bend_crd (R := R) (i := K) HE.out rfl rfl rfl HLL.out (by rw [List.length_set]; exact hsm.1) HMY.out (by rw [← r6']; exact (List.getElem?_eq_some_iff.1 hyv).1) (fun j l l' hj h1 h2 => ?_) (List.getElem?_set_self (by have := (List.getElem?_eq_some_iff.1 HLY.out).1; exact this)) r1' r2' r5' (by rw [← r6', ← r2'])
      dsimp only at h1
      rw [List.getElem?_set_ne (by omega)] at h1
      exact hsm.2 j l' l h1 h2
    have hCK := stCheck_any _ W19 hT19
    rw [hE19] at hCK
    have HX19 := Lib.hid hx19
    have HB19 := Lib.hid hb19
    have HW19 := Lib.hid hW19
    clear x1 x2 x3 hbb hC18 hX18 hLO hcr hyv hLk r1' r2' r5' r6' hz0 hT19 hx19 hb19 hW19 hE19 hW18 hb18
    go_upto_region 24 with fail
    try rw [HW19.out]
    clear g1 g2f
    obtain ⟨r0, r1, r2, r3, _⟩ := lvCells HX19.out
    go_wp2_with fail
    refine hCK.mono ?_
    rintro x w20 ⟨rfl, hb20⟩
    have HBE := Lib.hid (HB35.out _ (HB19.out.trans (hb20.mono HB19.out.size))).1
    clear hb20 r0 r1 r2 r3 hCK
    go_wp2_with fail
    go_ret
    exact ⟨rfl, HBE.out⟩

end Go.Proofs.Ytfimnmdcbnfhfaa
