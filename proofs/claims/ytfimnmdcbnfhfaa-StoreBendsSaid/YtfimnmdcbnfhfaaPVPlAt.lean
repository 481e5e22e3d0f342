/- store.placesAt: the places that the levels have at a place of the shape. -/
import Derived.Test.YtfimnmdcbnfhfaaG18
import Derived.Test.YtfimnmdcbnfhfaaG14
import Derived.Test.YtfimnmdcbnfhfaaG12
namespace Go.Proofs.Ytfimnmdcbnfhfaa
open Go.RowKit Go.Sort

noncomputable def atR (fs : List Sp) (ls : List Lv) (c : List Int) (n k : Nat) : List Int := (List.range k).map (atK fs ls c) ++ List.replicate (n - k) 0
theorem atR_length (fs : List Sp) (ls : List Lv) (c : List Int) {n k : Nat} (h : k ≤ n) : (atR fs ls c n k).length = n := by unfold atR; simp; omega
theorem atR_set (fs : List Sp) (ls : List Lv) (c : List Int) {n k : Nat} (h : k < n) : (atR fs ls c n k).set k (atK fs ls c k) = atR fs ls c n (k + 1) := by
  unfold atR
  rw [List.set_append_right _ _ (by simp), List.length_map, List.length_range, Nat.sub_self, List.range_succ, List.map_append, List.append_assoc]
  congr 1
  obtain ⟨d, hd⟩ : ∃ d, n - k = d + 1 := ⟨n - k - 1, by omega⟩
  rw [hd, List.replicate_succ, List.set_cons_zero, show n - (k + 1) = d by omega]
  rfl
theorem atR_zero (fs : List Sp) (ls : List Lv) (c : List Int) (n : Nat) : stC (atR fs ls c n 0) = List.replicate n (.int .i64 0) := by unfold atR stC; simp
theorem atR_at (fs : List Sp) (ls : List Lv) (c : List Int) {n j : Nat} (h : j < n) : (atR fs ls c n n)[j]? = some (atK fs ls c j) := by
  unfold atR
  rw [List.getElem?_append_left (by simpa using h), List.getElem?_map, List.getElem?_range h]
  rfl
/-- a place of the shape -/
def InC (xs c : List Int) : Prop := c.length = xs.length ∧ ∀ m : Nat, m < xs.length → 0 ≤ c.getD m 0 ∧ c.getD m 0 < xs.getD m 0
section
variable {xs : List Int} {fs : List Sp} {ls : List Lv}
theorem Tok.step_pos (h : Tok xs fs ls) {k : Nat} {f : Sp} (hf : fs[k]? = some f) : 1 ≤ stAt fs k := by
  rw [stAt_eq h.form hf]
  have := bsz_pos h.form f.m
  split <;> omega
theorem Tok.size_pos (h : Tok xs fs ls) {k : Nat} {l : Lv} {f : Sp} (hl : ls[k]? = some l) (hf : fs[k]? = some f) {c : List Int} (hc : InC xs c) : 1 ≤ l.s := by
  have h1 := h.szStep hl hf
  have h2 := h.step_pos hf
  have h3 := bsz_pos h.form f.m
  have h0 := (h.lok hl).size0
  obtain ⟨m, hm, hm2⟩ := h.mode hf
  have h4 := hc.2 m hm2
  rcases Int.lt_or_le l.s 1 with hh | hh
  · have : l.s = 0 := by omega
    rw [this, Int.zero_mul, hm, Int.toNat_natCast] at h1
    split at h1
    · rw [hm] at h3; omega
    · omega
  · exact hh
theorem Tok.atK_range (h : Tok xs fs ls) {k : Nat} {l : Lv} {f : Sp} (hl : ls[k]? = some l) (hf : fs[k]? = some f) {c : List Int} (hc : InC xs c) : 0 ≤ atK fs ls c k ∧ atK fs ls c k < l.s := by
  have h1 := h.size_pos hl hf hc
  rw [atK_eq hf hl]
  exact ⟨Int.emod_nonneg _ (by omega), Int.emod_lt_of_pos _ (by omega)⟩
theorem Tok.atK_eq2 (h : Tok xs fs ls) {k : Nat} {l : Lv} {f : Sp} (hl : ls[k]? = some l) (hf : fs[k]? = some f) {c : List Int} (hc : InC xs c) : ((c.getD f.m.toNat 0).tdiv (stAt fs k)).tmod l.s = atK fs ls c k := by
  obtain ⟨m, hm, hm2⟩ := h.mode hf
  have h4 := hc.2 m hm2
  rw [atK_eq hf hl, hm, Int.toNat_natCast, Int.tdiv_eq_ediv_of_nonneg h4.1, Int.tmod_eq_emod_of_nonneg (Int.ediv_nonneg h4.1 (by have := h.step_pos hf; omega))]
end
def AtCut (fs : List Sp) (fn : Nat) (W0 : World) (gs gt : Nat) (wx : World) : Prop :=
  W0.heap.size ≤ gs ∧ W0.heap.size ≤ gt ∧ gs ≠ gt ∧ wx.heap[gs]? = some (.cells (stC (stepK fs fn)).toArray 3 (0, 0)) ∧ wx.heap[gt]? = some (.cells (Array.replicate fn (Value.int .i64 0)) 3 (0, 0)) ∧ Below W0.heap.size W0 wx
theorem atCut_a {fs : List Sp} {fn : Nat} {W0 w3 : World} (hst : w3.heap[W0.heap.size]? = some (.cells (stC (stepK fs fn)).toArray 3 (0, 0))) (hb : Below W0.heap.size W0 w3) : AtCut fs fn W0 W0.heap.size w3.heap.size (w3.alloc (.cells (Array.replicate fn (Value.int .i64 0)) 3)) :=
  ⟨Nat.le_refl _, hb.size, Nat.ne_of_lt (lt_of_heap hst), heapPast_ _ hst, heap_alloc_new _ _, hb.alloc hb.size _⟩
theorem atCut_b {fs : List Sp} {fn : Nat} {W0 w3 : World} (hst : w3.heap[W0.heap.size + 1]? = some (.cells (stC (stepK fs fn)).toArray 3 (0, 0))) (hb : Below (W0.alloc (.cells (Array.replicate fn (Value.int .i64 0)) 3)).heap.size (W0.alloc (.cells (Array.replicate fn (Value.int .i64 0)) 3)) w3) : AtCut fs fn W0 (W0.heap.size + 1) W0.heap.size w3 :=
  ⟨by omega, Nat.le_refl _, by omega, hst, keep_b hb (heap_alloc_new _ _), ((Below.refl _ _).alloc (Nat.le_refl _) _).trans (hb.mono (by simp))⟩
def AtPost (w : World) (T : Ten) (cs : List Int) (e : Ending) (w' : World) : Prop :=
  Below w.heap.size w w' ∧ ∃ g, w.heap.size ≤ g ∧ e = .returned (.slice (some ⟨g, 0, none⟩) T.fn T.fn) ∧ w'.heap[g]? = some (.cells (stC (atR T.fs T.ls cs T.fn T.fn)).toArray 3 (0, 0))
set_option maxRecDepth 100000 in
set_option maxHeartbeats 8000000 in
theorem placesAt_aux (T : Ten) (A : Option Addr) (n c : Nat) (xs : List Int) (F : Option Addr) (fn fc : Nat) (fs : List Sp) (L : Option Addr) (lc : Nat) (ls : List Lv) (V : Option Addr) (vn vc : Nat) (vs : List Int) (w : World) (hT : T = ⟨A, n, c, xs, F, fn, fc, fs, L, fn, lc, ls, V, vn, vc, vs⟩) (ht : Ten.In w w.heap.size ⟨A, n, c, xs, F, fn, fc, fs, L, fn, lc, ls, V, vn, vc, vs⟩)
    (hTok : Tok xs fs ls) (Cc : Option Addr) (cc : Nat) (cs : List Int) (hc : Ints w w.heap.size Cc n cs) (hi : InC xs cs) :
    Calls Try.prog 58 #[.agg #[.slice A n c, .slice F fn fc, .slice L fn lc, .slice V vn vc], .slice Cc n cc] w (AtPost w T cs) := by
  have HT := Lib.hid hT
  have HI := Lib.hid ht
  have HC := Lib.hid hc
  have HIN := Lib.hid hi
  have HTok := Lib.hid hTok
  have HFL : Hid (fs.length = fn) := ht.form.1
  have HLL : Hid (ls.length = fn) := ht.lvs.1
  have HXL : Hid (xs.length = n) := ht.shape.1
  have HXR : Hid (∀ z ∈ xs, -9223372036854775808 ≤ z ∧ z ≤ 9223372036854775807) := ht.shape.2.1
  have b1 := ht.f1
  have b2 := ht.n1
  dsimp only at b1 b2
  obtain ⟨W0, hW0⟩ : ∃ W, w.alloc (.cells #[.slice A n c, .slice F fn fc, .slice L fn lc, .slice V vn vc] 34) = W := ⟨_, rfl⟩
  have HB0 : Hid (Below w.heap.size w W0) := by rw [← hW0]; exact lvBelow w _
  have HX0 : Hid (W0.heap[w.heap.size]? = some (.cells #[.slice A n c, .slice F fn fc, .slice L fn lc, .slice V vn vc] 34 (0, 0))) := by rw [← hW0]; exact heap_alloc_new w _
  obtain ⟨k0, k1, k2, k3, _⟩ := lvCells HX0.out
  have HS : Hid (∀ W, Below W0.heap.size W0 W → Calls Try.prog 39 #[.slice F fn fc] W fun r w' => r = .returned (.slice (some ⟨W.heap.size, 0, none⟩) fn fn) ∧ w'.heap[W.heap.size]? = some (.cells (stC (stepK fs fn)).toArray 3 (0, 0)) ∧ Below W.heap.size W w') := by
    intro W hW
    exact steps_any F fn fc fs W ((HI.out.on (HB0.out.trans (hW.mono HB0.out.size))).form) b1
  have hmk := fun W => vrun_make fn b1 W
  have HW0 := Lib.hid hW0
  clear hT ht hc hi hTok hW0
  go_enter Try.func58, Try.ntmps58
  go_upto_region 1 with fail
  rw [HW0.out]
  have k1a := fun o => cellPast o k1
  go_cut [5, 6] (fun a b wx => ∃ gs gt, a = .slice (some ⟨gs, 0, none⟩) fn fn ∧ b = .slice (some ⟨gt, 0, none⟩) fn fn ∧ AtCut fs fn W0 gs gt wx)
  case first =>
    go_region_law (go_simp; go_at_call 39; refine (HS.out _ ?b0).mono ?_; (case b0 => first | exact Below.refl _ _ | exact (Below.refl _ _).drew | exact (Below.refl _ _).alloc (Nat.le_refl _) _ | exact ((Below.refl _ _).alloc (Nat.le_refl _) _).drew); rintro e w3 ⟨rfl, hst, hb3⟩; have hx3 : w3.heap[w.heap.size]? = some (.cells #[.slice A n c, .slice F fn fc, .slice L fn lc, .slice V vn vc] 34 (0, 0)) := (by first | exact keep_b hb3 HX0.out | exact keep_b hb3 (heapPast_ _ HX0.out)); obtain ⟨j0, j1, _, _, _⟩ := lvCells hx3)
    all_goals go_wp2_with fail
    all_goals go_meet
    all_goals first
      | exact ⟨_, _, rfl, rfl, atCut_a hst hb3⟩
      | exact ⟨_, _, rfl, rfl, atCut_a hst ((Below.refl W0.heap.size W0).drew.trans hb3)⟩
      | exact ⟨_, _, rfl, rfl, atCut_b hst hb3⟩
      | exact ⟨_, _, rfl, rfl, atCut_b (by simpa using hst) ((Below.refl _ (W0.alloc (.cells (Array.replicate fn (Value.int .i64 0)) 3))).drew.trans hb3)⟩
  case rest =>
    obtain ⟨gs, gt, rfl, rfl, o1, o2, o3, hgs, hgt, hbc⟩ := hcut
    have HBC := Lib.hid (HB0.out.trans (hbc.mono HB0.out.size))
    have HXC := Lib.hid (keep_b hbc HX0.out)
    have hgt0 : wc.heap[gt]? = some (.cells (stC (atR fs ls cs fn 0)).toArray 3 (0, 0)) := by rw [hgt, atR_zero]; simp
    have HGT := Lib.hid hgt0
    have HGS := Lib.hid hgs
    have hw0 : w.heap.size < W0.heap.size := lt_of_heap HX0.out
    clear k0 k1 k2 k3 k1a HS hmk hgs hgt hgt0 hbc
    obtain ⟨k0, k1, k2, k3, _⟩ := lvCells HXC.out
    obtain ⟨wo, rfl⟩ : ∃ wo : World, wo = wc := ⟨_, rfl⟩
    go_wp2_with fail
    clear k0 k1 k2 k3
    go_loopw [19] (fun i wr => ∃ k : Nat, k ≤ fn ∧ i = .int .i64 k ∧ Hid (wr.heap[gt]? = some (.cells (stC (atR fs ls cs fn k)).toArray 3 (0, 0))) ∧ Hid (wr.heap[gs]? = some (.cells (stC (stepK fs fn)).toArray 3 (0, 0))) ∧ Hid (Below w.heap.size w wr) ∧ Hid (wr.heap[w.heap.size]? = some (.cells #[.slice A n c, .slice F fn fc, .slice L fn lc, .slice V vn vc] 34 (0, 0)))) (fun i _ => fn - (intOf i).toNat)
    case atStart => exact ⟨0, Nat.zero_le _, rfl, HGT, HGS, HBC, HXC⟩
    case round =>
      obtain ⟨k, hk, rfl, HG, HS, HB, HX⟩ := hrel
      by_cases hlt : k < fn
      · obtain ⟨bl, ol, s, hFA, hbb, HFk, f0, f1, f2, sok⟩ := (HI.out.on HB.out).form.at_ hlt
        obtain ⟨bl2, ol2, l, hLA, hbb2, HLk, l0, l1, l2, l3, li⟩ := (HI.out.on HB.out).lvs.at_ hlt
        dsimp only at HFk HLk hFA hLA
        obtain ⟨m, hm, hm2⟩ := HTok.out.mode HFk.out
        have hrg := HTok.out.atK_range HLk.out HFk.out HIN.out
        have heq := HTok.out.atK_eq2 HLk.out HFk.out HIN.out
        have hsp := HTok.out.size_pos HLk.out HFk.out HIN.out
        have hst := HTok.out.step_pos HFk.out
        have hls := ((HTok.out.lok HLk.out).size1)
        have hin := HIN.out.2 m hm2
        rw [hm, Int.toNat_natCast] at heq
        obtain ⟨S, hS⟩ : ∃ S, stAt fs k = S := ⟨_, rfl⟩
        obtain ⟨Z, hZ⟩ : ∃ Z, l.s = Z := ⟨_, rfl⟩
        obtain ⟨CV, hCV⟩ : ∃ z, cs.getD m 0 = z := ⟨_, rfl⟩
        obtain ⟨R, hR⟩ : ∃ z, atK fs ls cs k = z := ⟨_, rfl⟩
        have hmn : m < n := by rw [← HXL.out]; exact hm2
        have hxm : xs.getD m 0 ≤ 9223372036854775807 := by rw [List.getD_eq_getElem?_getD, List.getElem?_eq_getElem hm2]; exact (HXR.out _ (List.getElem_mem hm2)).2
        rw [hS] at hst heq
        rw [hZ] at hsp hls heq hrg l1
        rw [hCV] at heq hin
        rw [hR] at heq hrg
        rw [hm] at f1
        obtain ⟨bc, oc, z, rfl, hbc, HCk, c0, c1, c2⟩ := (HC.out.below HB.out).at_ hmn
        have hz : CV = z := by rw [← hCV, List.getD_eq_getElem?_getD, HCk.out]; rfl
        subst hz
        have hnb := heap_alloc_new wr (.cells #[.int .i64 s.k, .int .i64 (m : Int), .int .i64 s.s] 66)
        have t0 := cell_of_row _ _ 0 _ _ _ hnb
        have t1 := cell_of_row _ _ 1 _ _ _ hnb
        have t2 := cell_of_row _ _ 2 _ _ _ hnb
        have g0 : (0 : Int) ≤ (k : Int) := by omega
        have g1 : (k : Int) < (fn : Int) := by omega
        have g2 : (0 : Int) ≤ (m : Int) := by omega
        have g3 : (m : Int) < (n : Int) := by omega
        have e1 : ¬ S = 0 := by omega
        have e2 : ¬ Z = 0 := by omega
        have q0 := Int.tdiv_nonneg (a := CV) (b := S) hin.1 (by omega)
        have q1 := Int.tdiv_le_self (a := CV) S hin.1
        have w1 : IntKind.i64.wrap (CV.tdiv S) = CV.tdiv S := IntWalk.i64_in _ (by omega)
        have w2 : IntKind.i64.wrap ((CV.tdiv S).tmod Z) = R := by rw [heq]; exact IntWalk.i64_in _ (by omega)
        have hlc : fn ≤ lc := HI.out.lc
        obtain ⟨j0, j1, j2, j3, _⟩ := lvCells HX.out
        obtain ⟨s0, s1⟩ := vblk_cell (i := k) (v := .int .i64 S) HS.out (by
          have hl := stepK_length fs fn
          have hf2 := HFL.out
          unfold stC
          rw [List.getElem?_map, List.getElem?_eq_getElem (by omega), ← hS]
          unfold stAt
          rw [HFL.out, List.getD_eq_getElem?_getD, List.getElem?_eq_getElem (by omega)]
          rfl)
        obtain ⟨v0, hv0⟩ : ∃ v, (stC (atR fs ls cs fn k))[k]? = some v := ⟨_, List.getElem?_eq_getElem (by unfold stC; rw [List.length_map, atR_length _ _ _ hk]; exact hlt)⟩
        obtain ⟨y0, y1⟩ := vblk_cell HG.out hv0
        have hset : Hid ((stC (atR fs ls cs fn k)).set k (.int .i64 R) = stC (atR fs ls cs fn (k + 1))) := by unfold Hid; rw [stC_set, ← hR, atR_set _ _ _ hlt]
        subst hFA
        subst hLA
        obtain ⟨W6, hW6⟩ : ∃ W, wr.alloc (.cells #[.int .i64 s.k, .int .i64 (m : Int), .int .i64 s.s] 66) = W := ⟨_, rfl⟩
        have hb6 : Below wr.heap.size wr W6 := by rw [← hW6]; exact (Below.refl _ _).alloc (Nat.le_refl _) _
        rw [hW6] at t0 t1 t2
        clear hnb
        go_upto_region 5 with fail
        try rw [hW6]
        have x1 := cell_regrown t1
        have x2 := cell_regrown ((hb6.cell (p := ⟨w.heap.size, 2, none⟩) (lt_of_heap HX.out)).trans j2)
        have x3 := cell_regrown ((hb6.cell (p := ⟨bc, oc + m, none⟩) (Nat.lt_of_lt_of_le hbc HB.out.size)).trans c0)
        have x4 := cell_regrown ((hb6.cell (p := ⟨gs, k, none⟩) (lt_of_heap HS.out)).trans s0)
        have x5 := cell_regrown ((hb6.cell (p := ⟨bl2, ol2 + k * 4 + 1, none⟩) hbb2).trans l1)
        have hmx : Try.prog.follows .mixedOrders = true := by kernel_rfl
        refine wp_region_below_tail 20 hmx (by kernel_rfl) ?_
        simp only [List.take_succ_cons, List.take_zero, List.drop_succ_cons, List.drop_zero]
        repeat (quiet_step (fail))
        refine wpQuiet_nil ?_
        intro _ hw'
        obtain ⟨⟨dq, osq⟩, hw''⟩ := hw'
        subst hw''
        obtain ⟨W7, hW7⟩ : ∃ W, grow (redrawn W6 dq) osq = W := ⟨_, rfl⟩
        have hb7 := below_regrown W6 dq osq
        rw [hW7] at hb7 ⊢
        have hbr := hb6.trans (hb7.mono hb6.size)
        have HG7 := Lib.hid (keep_b hbr HG.out)
        have HS7 := Lib.hid (keep_b hbr HS.out)
        have HX7 := Lib.hid (keep_b hbr HX.out)
        have HB7 := Lib.hid (HB.out.trans (hbr.mono HB.out.size))
        obtain ⟨y0, y1⟩ := vblk_cell HG7.out hv0
        have hngt : w.heap.size ≤ gt := by have := HB0.out.size; omega
        have hnx : w.heap.size ≠ gt := by omega
        clear x1 x2 x3 x4 x5 s0 s1 t0 t1 t2 j0 j1 j2 j3 c0 f0 f1 f2 l0 l1 l2 l3 hW7 hb7 hbr hW6 hb6
        go_wp2_with fail
        go_roundw
        case rel => exact ⟨k + 1, by omega, by go_num, by unfold Hid; rw [vblk_set HG7.out, hset.out], (Below.heap_setCell _ _ _ _ o3).trans HS7.out, HB7.out.setCell (p := ⟨gt, k, none⟩) hngt _, (Below.heap_setCell _ _ _ _ hnx).trans HX7.out⟩
        case measure => simp [intOf]; omega
      · obtain rfl : k = fn := by omega
        go_wp2_with fail
        go_ret
        refine ⟨HB.out, gt, by have := HB0.out.size; omega, ?_, ?_⟩
        · rw [HT.out]; rfl
        · rw [HT.out]; exact HG.out
theorem placesAt_any (T : Ten) (w : World) (ht : T.In w w.heap.size) (hTok : Tok T.xs T.fs T.ls) (Cc : Option Addr) (cc : Nat) (cs : List Int) (hc : Ints w w.heap.size Cc T.n cs) (hi : InC T.xs cs) :
    Calls Try.prog 58 #[T.val, .slice Cc T.n cc] w (AtPost w T cs) := by
  obtain ⟨A, n, c, xs, F, fn, fc, fs, L, ln, lc, ls, V, vn, vc, vs⟩ := T
  have h1 : fs.length = fn := ht.form.1
  have h2 : ls.length = ln := ht.lvs.1
  have h3 := hTok.of.1
  dsimp only at h3
  obtain rfl : fn = ln := by omega
  exact placesAt_aux _ A n c xs F fn fc fs L lc ls V vn vc vs w rfl ht hTok Cc cc cs hc hi
end Go.Proofs.Ytfimnmdcbnfhfaa
