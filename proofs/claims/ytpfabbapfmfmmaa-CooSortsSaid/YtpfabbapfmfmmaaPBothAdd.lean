/- box.both at the closure of box.Add: two tensors of one shape. -/
import Derived.Test.YtpfabbapfmfmmaaG5
namespace Go.Proofs.Ytpfabbapfmfmmaa
open Go.RowKit

set_option maxRecDepth 100000 in
set_option maxHeartbeats 2000000 in
theorem both_ok_add (A B A2 B2 : Option Addr) (n c m e n2 c2 e2 : Nat) (xs ys ys2 : List Int) (w : World) (h : Ints w w.heap.size A n xs) (hv : Ints w w.heap.size B m ys) (h2 : Ints w w.heap.size A2 n2 xs) (hv2 : Ints w w.heap.size B2 m ys2)
    (hn : n ≤ 9223372036854775807) (hn2 : n2 ≤ 9223372036854775807) (hck : checkF xs m = 0) :
    Calls Try.prog 66 #[.agg #[.slice A n c, .slice B m e], .agg #[.slice A2 n2 c2, .slice B2 m e2], .func (.func 67) #[] #[]] w fun x w' => ∃ A1 c1 A3 c3, x = .returned (.tuple #[.agg #[.slice A1 n c1, .slice A3 m c3], .int .i64 0]) ∧
      OwnI w' w.heap.size 3 A1 c1 xs ∧ OwnI w' w.heap.size 2 A3 c3 (List.zipWith (fun x y => wrap64 (x + y)) ys ys2) ∧ Below w.heap.size w w' := by
  have hok := checkF_ok hck
  have hn4 : n ≤ 4 := by have := (cellsF_ok hok.1).1; rw [h.1] at this; exact this
  have hn24 : n2 ≤ 4 := by have := (cellsF_ok hok.1).1; rw [h2.1] at this; exact this
  have hm6 := hok.2.2
  have hm7 : m ≤ 100000 := by omega
  have HC := fun W (hb : Below w.heap.size w W) => check_any A B n c m e xs W ((h.below hb).more hb.size) hn
  have HC2 := fun W (hb : Below w.heap.size w W) => check_any A2 B2 n2 c2 m e2 xs W ((h2.below hb).more hb.size) hn2
  rw [hck] at HC HC2
  have HE := fun W (hb : Below w.heap.size w W) => equalInt_any A A2 n n2 c c2 xs xs W w.heap.size (h.below hb) (h2.below hb) (by omega) hn2
  simp only [decide_true] at HE
  clear hok hck
  have hB0 : Below w.heap.size w (((w.alloc (.cells #[.slice A n c, .slice B m e] 41)).alloc (.cells #[.slice A2 n2 c2, .slice B2 m e2] 41)).alloc (.cells #[.slice none 0 0, .slice none 0 0] 41)) := (((Below.refl _ w).alloc (Nat.le_refl _) _).alloc (by simp) _).alloc (by simp; omega) _
  have hmx : Try.prog.follows .mixedOrders = true := by kernel_rfl
  go_enter Try.func66, Try.ntmps66
  go_wp2_with fail
  refine (HC _ hB0).mono ?_
  rintro x w1 ⟨rfl, hb1⟩
  have hd1 := hb1.mono (B' := w.heap.size + 1 + 1 + 1) (by simp)
  have hb2 := hB0.trans (hb1.mono hB0.size)
  obtain ⟨⟨k0, k1, k2, k3⟩, k4, k5, f4, f5⟩ := three_boxes hd1
  go_wp2_with fail
  refine (HC2 _ hb2).mono ?_
  rintro x w3 ⟨rfl, hb3⟩
  have hd3 := hd1.trans (hb3.mono (by have := hd1.size; simpa using this))
  have hb4 := hb2.trans (hb3.mono hb2.size)
  clear k0 k1 k2 k3 k4 k5 f4 f5
  obtain ⟨⟨k0, k1, k2, k3⟩, k4, k5, f4, f5⟩ := three_boxes hd3
  go_wp2_with fail
  refine (HE _ hb4).mono ?_
  rintro x w5 ⟨rfl, q, rfl⟩
  have hb5 := below_drewN hb4 q
  have hd5 := below_drewN hd3 q
  clear HC HC2 HE hb1 hb2 hb3 hb4 hd1 hd3 hB0 k0 k1 k2 k3 k4 k5 f4 f5
  generalize w3.drewN q = W5 at *
  obtain ⟨⟨k0, k1, k2, k3⟩, k4, k5, f4, f5⟩ := three_boxes hd5
  obtain ⟨i0, hi0, hz0, hz1, hz2⟩ := info_parts infoInt64
  have hmk := fun W => run_makeAll (P := Try.prog) 39 2 i0 Try.underlying39 hi0 hz0 hz1 hz2 m (by omega) W
  go_upto_region 9 with fail
  go_cut [10] (fun s wx => ∃ bt gv A1 c1, s = .pointer (some ⟨bt, 0, none⟩) ∧ BothCut W5 wx bt gv A1 c1 xs n m)
  case first =>
    have HK := fun W (hb : Below W5.heap.size W5 W) => (clone_any A n c xs W w.heap.size ((h.below hb5).below (hb.mono hb5.size)) (Nat.le_trans hb5.size hb.size) (by omega)).mono (R' := fun e w' => ∃ A' c', e = .returned (.slice A' n c') ∧ OwnI w' W.heap.size 3 A' c' xs ∧ Below W.heap.size W w' ∧ Below W5.heap.size W5 w') fun e w' ⟨A', c', h1, h2, h3⟩ => ⟨A', c', h1, h2, h3, hb.trans (h3.mono hb.size)⟩
    have hs5 := hd5.size
    simp only [World.size_alloc] at hs5
    have q0 := fun (W : World) (o : Obj) => (newPair W (.slice none 0 0) (.slice none 0 0) 41 o).1
    have q1 := fun (W : World) (o : Obj) => (newPair W (.slice none 0 0) (.slice none 0 0) 41 o).2.1
    have q2 := fun (W : World) (o : Obj) => (newPair W (.slice none 0 0) (.slice none 0 0) 41 o).2.2.1
    have q3 := fun (W : World) (o : Obj) => (newPair W (.slice none 0 0) (.slice none 0 0) 41 o).2.2.2
    go_region_held3 (fun w' => w'.cell? ⟨w.heap.size, 0, none⟩ = some (.slice A n c) ∧ w'.cell? ⟨w.heap.size, 1, none⟩ = some (.slice B m e)) (first | go_keep | (with_reducible exact ⟨y0, y1⟩) | (with_reducible exact ⟨v0 _, v1 _⟩) | exact far_two (by omega) y0 y1 | exact far_two_past (by omega) y0 y1 _ | exact far_two (by omega) (v0 _) (v1 _) | exact far_two (by omega) k0 k1 | exact far_two (by omega) (cellPast _ k0) (cellPast _ k1))
      ((go_at_call 61; refine (HK _ (by first | exact Below.refl _ _ | exact (Below.refl _ _).drew | exact ((Below.refl _ _).alloc (Nat.le_refl _) _).drew | exact (((Below.refl _ _).alloc (Nat.le_refl _) _).alloc (by simp) _).drew | exact (Below.refl _ _).alloc (Nat.le_refl _) _)).mono ?_; rintro x w6 ⟨A1, c1, rfl, HO, HB, HB5⟩; obtain ⟨⟨y0, y1, y2, y3⟩, y4, y5, g4, g5⟩ := three_boxes (hd5.trans (HB5.mono hs5)); have v0 := fun o => cellPast o y0; have v1 := fun o => cellPast o y1; first | (have T := zf_pair (g := W5.heap.size) (u := .slice none 0 0) (v := .slice none 0 0) (t := 41) HB (heap_alloc_new W5 _); obtain ⟨t0, t1, u0, u1, ts⟩ := T; have a0 := fun o => cellPast o t0; have a1 := fun o => cellPast o t1; have b0 := fun o => frozenPast o t0 u0; have b1 := fun o => frozenPast o t1 u1) | (have T := zf_pair (g := W5.heap.size) (u := .slice none 0 0) (v := .slice none 0 0) (t := 41) HB (zf_two W5 _ _); obtain ⟨t0, t1, u0, u1, ts⟩ := T) | (have T := zf_pair (g := W5.heap.size + 1) (u := .slice none 0 0) (v := .slice none 0 0) (t := 41) HB (zf_snd W5 _ _); obtain ⟨t0, t1, u0, u1, ts⟩ := T) | skip))
    all_goals go_wp2_with fail
    all_goals go_meet
    all_goals first | (exact ⟨_, _, _, _, rfl, cut_one hm7 HO HB5⟩) | (exact ⟨_, _, _, _, rfl, cut_two hm7 HO HB5⟩) | (exact ⟨_, _, _, _, rfl, cut_three hm7 HO HB HB5⟩) | (exact ⟨_, _, _, _, rfl, cut_four hm7 HO HB HB5⟩) | (exact ⟨_, _, _, _, rfl, cut_five hm7 HO HB HB5⟩) | (exact ⟨_, _, _, _, rfl, cut_six hm7 HO HB HB5⟩)
  case rest =>
    obtain ⟨bt, gv, A1, c1, rfl, hcut⟩ := hcut
    obtain ⟨hne, hbt, hgv, p0, p1, HO, HV, HBc⟩ := hcut
    have hs5 := hd5.size
    simp only [World.size_alloc] at hs5
    obtain ⟨Z, hZ⟩ : ∃ Z, List.zipWith (fun x y => wrap64 (x + y)) ys ys2 = Z := ⟨_, rfl⟩
    have hZl : Z.length = m := by rw [← hZ, List.length_zipWith, hv.len, hv2.len, Nat.min_self]
    have HV0 : OwnI wc W5.heap.size 2 (some ⟨gv, 0, none⟩) m (Z.take 0 ++ List.replicate (m - 0) 0) := by simpa using HV
    have HZ := Lib.hid hZ
    have HZl := Lib.hid hZl
    clear k0 k1 k2 k3 k4 k5 f4 f5 HV hZ hZl hmk i0 hi0 hz0 hz1 hz2
    obtain ⟨⟨k0, k1, k2, k3⟩, k4, k5, f4, f5⟩ := three_boxes (hd5.trans (HBc.mono hs5))
    go_wp2_with fail
    go_loopw [43] (fun i wr => ∃ q : Nat, q ≤ m ∧ i = .int .i64 q ∧ OwnI wr W5.heap.size 2 (some ⟨gv, 0, none⟩) m (Z.take q ++ List.replicate (m - q) 0) ∧ OwnI wr W5.heap.size 3 A1 c1 xs ∧ wr.cell? ⟨bt, 0, none⟩ = some (.slice A1 n c1) ∧ wr.cell? ⟨bt, 1, none⟩ = some (.slice (some ⟨gv, 0, none⟩) m m) ∧ Below W5.heap.size W5 wr) (fun i _ => m - (intOf i).toNat)
    case atStart => exact ⟨0, Nat.zero_le _, rfl, HV0, HO, p0, p1, HBc⟩
    case round =>
      obtain ⟨q, hq, rfl, HR, HO, p0, p1, hB⟩ := hrel
      clear k0 k1 k2 k3 k4 k5 f4 f5
      obtain ⟨⟨k0, k1, k2, k3⟩, k4, k5, f4, f5⟩ := three_boxes (hd5.trans (hB.mono hs5))
      by_cases hlt : q < m
      · obtain ⟨b, off, x, rfl, hbb, HX, hcx, hx1, hx2⟩ := (hv.below (hb5.trans (hB.mono hb5.size))).at_ hlt
        obtain ⟨b2, off2, y, rfl, hbb2, HY, hcy, hy1, hy2⟩ := (hv2.below (hb5.trans (hB.mono hb5.size))).at_ hlt
        have hz0 : (Z.take q ++ List.replicate (m - q) 0)[q]? = some (0 : Int) := by
          rw [List.getElem?_append_right (by rw [List.length_take, HZl.out]; omega), List.length_take, HZl.out, Nat.min_eq_left (by omega), Nat.sub_self, List.getElem?_replicate_of_lt (by omega)]
        obtain ⟨hcz, hfz⟩ := HR.cell_ hz0
        have hZq : Z[q]? = some (wrap64 (x + y)) := by rw [← HZ.out, List.getElem?_zipWith, HX.out, HY.out]
        have hset := HR.set_ q (wrap64 (x + y)) (wrap64_range _)
        rw [fill_set HZl.out hZq] at hset
        have hB2 := hB.setCell (p := ⟨gv, q, none⟩) hgv (.int .i64 (wrap64 (x + y)))
        have p0' : (wr.setCell ⟨gv, q, none⟩ (.int .i64 (wrap64 (x + y)))).cell? ⟨bt, 0, none⟩ = some (.slice A1 n c1) := (World.cell?_setCell_far _ _ ⟨bt, 0, none⟩ _ (by simp; omega)).trans p0
        have p1' : (wr.setCell ⟨gv, q, none⟩ (.int .i64 (wrap64 (x + y)))).cell? ⟨bt, 1, none⟩ = some (.slice (some ⟨gv, 0, none⟩) m m) := (World.cell?_setCell_far _ _ ⟨bt, 1, none⟩ _ (by simp; omega)).trans p1
        have HO2 := HO.other_ HR (by decide) q (.int .i64 (wrap64 (x + y)))
        clear hz0 hZq
        go_wp2_with fail
        refine wp_region_still_tail 12 hmx (by kernel_rfl) ?_
        simp only [List.take_succ_cons, List.take_zero, List.drop_succ_cons, List.drop_zero]
        repeat still_step
        still_call (add1_any _ _ _)
        repeat still_step
        refine wpStill_nil ?_
        change wpList _ _ _ _ _ wr.drew
        go_wp2_with fail
        go_roundw
        case rel => exact ⟨q + 1, by omega, by go_num, hset, HO2, p0', p1', hB2.drew⟩
        case measure => simp [intOf]; omega
      · obtain rfl : q = m := by omega
        go_wp2_with fail
        obtain ⟨e0, e1⟩ := zcells (a := .slice A1 n c1) (b := .slice (some ⟨gv, 0, none⟩) q q) k4 k5
        have hfull : Z.take q ++ List.replicate (q - q) 0 = Z := by rw [Nat.sub_self, List.replicate_zero, List.append_nil, List.take_of_length_le (by rw [HZl.out]; omega)]
        rw [hfull, ← HZ.out] at HR
        refine bodyPost_ret (v := .tuple #[.agg #[.slice A1 n c1, .slice (some ⟨gv, 0, none⟩) q q], .int .i64 0]) (by simp [results, Try.results66, go_sem, e0, e1]) rfl ⟨A1, c1, _, _, rfl, ?_, ?_, ?_⟩
        · exact ((HO.far (by omega) _ _).far (by omega) _ _).mono (by omega)
        · exact ((HR.far (by omega) _ _).far (by omega) _ _).mono (by omega)
        · exact ((hb5.trans (hB.mono hb5.size)).setCell (p := ⟨w.heap.size + 1 + 1, 0, none⟩) (by show _ ≤ w.heap.size + 1 + 1; omega) _).setCell (p := ⟨w.heap.size + 1 + 1, 1, none⟩) (by show _ ≤ w.heap.size + 1 + 1; omega) _
end Go.Proofs.Ytpfabbapfmfmmaa
