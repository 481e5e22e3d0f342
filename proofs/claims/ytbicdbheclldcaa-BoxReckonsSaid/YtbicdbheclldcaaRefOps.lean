/- The document's Add, Mul and Scale at any tensors. -/
import Derived.Test.YtbicdbheclldcaaBoxAny
namespace Go.Proofs.Ytbicdbheclldcaa
open Go.RowKit

theorem refZero_z {A : Option Addr} {n c m : Nat} {xs : List Int} (w : World) (h : Ints w w.heap.size A n xs) (hck : checkF xs m = 0) :
    Calls Try.prog 64 #[.slice A n c] w fun e w' => ∃ A1 c1 A2 c2, e = .returned (.tuple #[.agg #[.slice A1 n c1, .slice A2 m c2], .int .i64 0]) ∧ OwnI w' w.heap.size 3 A1 c1 xs ∧ OwnI w' w.heap.size 2 A2 c2 (List.replicate m 0) ∧ Below w.heap.size w w' := by
  have hp := check_parts hck
  have hb := laidF_nonneg (xs := xs)
  have := laidF_erase hck
  exact refZero_ok A n c xs m w h (by have := h.1; omega) hp.2.1 hp.2.2.symm (by omega)
theorem heap_first {W : World} {g : Nat} {u v a : Value} {t : TypeId} (h : W.heap[g]? = some (.cells #[u, v] t (0, 0))) : (W.setCell ⟨g, 0, none⟩ a).heap[g]? = some (.cells #[a, v] t (0, 0)) := by
  simp only [World.setCell, Array.getElem?_modify, if_true, h]
  rfl
set_option maxRecDepth 100000 in
set_option maxHeartbeats 4000000 in
theorem refAdd_any (A B A2 B2 : Option Addr) (n c m e n2 c2 m2 e2 : Nat) (xs xs2 ys ys2 : List Int) (w : World) (h : Ints w w.heap.size A n xs) (hv : Ints w w.heap.size B m ys) (h2 : Ints w w.heap.size A2 n2 xs2) (hv2 : Ints w w.heap.size B2 m2 ys2) (hn : n ≤ 9223372036854775807) (hn2 : n2 ≤ 9223372036854775807) :
    Calls Try.prog 18 #[.agg #[.slice A n c, .slice B m e], .agg #[.slice A2 n2 c2, .slice B2 m2 e2]] w (SumPost w (if twoF xs m xs2 m2 = 0 then xs else []) (if twoF xs m xs2 m2 = 0 then addL ys ys2 else []) (twoF xs m xs2 m2)) := by
  have HT := fun W (hb : Below w.heap.size w W) => refTwo_any A B A2 B2 n c m e n2 c2 m2 e2 xs xs2 W ((h.below hb).more hb.size) ((h2.below hb).more hb.size) hn hn2
  have hB0 : Below w.heap.size w (((w.alloc (.cells #[.slice A n c, .slice B m e] 25)).alloc (.cells #[.slice A2 n2 c2, .slice B2 m2 e2] 25)).alloc (.cells #[.slice none 0 0, .slice none 0 0] 25)) := (below_two w _ _).alloc (by simp; omega) _
  have z0 := uPast' (.cells #[.slice none 0 0, .slice none 0 0] 25) (zf_two w (.cells #[.slice A n c, .slice B m e] 25) (.cells #[.slice A2 n2 c2, .slice B2 m2 e2] 25))
  have z1 := uPast' (.cells #[.slice none 0 0, .slice none 0 0] 25) (zf_snd w (.cells #[.slice A2 n2 c2, .slice B2 m2 e2] 25) (.cells #[.slice A n c, .slice B m e] 25))
  have z2 := heap_alloc_new ((w.alloc (.cells #[.slice A n c, .slice B m e] 25)).alloc (.cells #[.slice A2 n2 c2, .slice B2 m2 e2] 25)) (.cells #[.slice none 0 0, .slice none 0 0] 25)
  simp only [World.size_alloc] at z2
  obtain ⟨Z, hZ⟩ : ∃ Z, addL ys ys2 = Z := ⟨_, rfl⟩
  have HZ0 := Lib.hid hZ
  rw [hZ]
  clear hZ
  by_cases h0 : twoF xs m xs2 m2 = 0
  · rw [if_pos h0, if_pos h0]
    obtain ⟨c1, c2', rfl⟩ := twoF_zero h0
    have em : m = m2 := by have := (check_parts c1).2.2; have := (check_parts c2').2.2; omega
    subst em
    clear c2'
    have hb := laidF_nonneg (xs := xs)
    have hm65 : m ≤ 65536 := by have := (check_parts c1).2.2; omega
    have HZL : Hid (Z.length = m) := by unfold Hid; rw [← HZ0.out]; exact addL_length hv.1 hv2.1
    have HL := Lib.hid h.1
    have HZR := fun (W : World) (i : Ints W W.heap.size A n xs) => refZero_z (c := c) W i c1
    rw [h0] at HT ⊢
    have hmx : Try.prog.follows .mixedOrders = true := by kernel_rfl
    clear h0 c1 hb
    go_enter Try.func18, Try.ntmps18
    have hT := hB0
    obtain ⟨k0, k1, _, _⟩ := dCells z0
    obtain ⟨k2, k3, _, _⟩ := dCells z1
    go_wp2_with fail
    refine (HT _ hT).mono ?_
    rintro x w1 ⟨rfl, hb1⟩
    replace z0 := dKeep hb1 z0
    replace z1 := dKeep hb1 z1
    clear k2 k3
    replace z2 := dKeep hb1 z2
    replace hT := hT.trans (hb1.mono hT.size)
    clear k0 k1 hb1
    obtain ⟨k0, k1, _, _⟩ := dCells z0
    go_wp2_with fail
    refine (HZR _ ((h.below hT).more hT.size)).mono ?_
    rintro x w3 ⟨A3, c3, B3, e3, rfl, HS, HV, hb3⟩
    have hsz : w.heap.size ≤ w1.heap.size := hT.size
    replace HS := HS.mono hsz
    replace HV := HV.mono hsz
    replace z0 := dKeep hb3 z0
    replace z1 := dKeep hb3 z1
    replace z2 := dKeep hb3 z2
    replace hT := hT.trans (hb3.mono hT.size)
    clear k0 k1 hb3
    go_wp2_with fail
    have z3 := heap_alloc_new w3 (.cells #[.slice A3 n c3, .slice B3 m e3] 25)
    replace z0 := uPast' (.cells #[.slice A3 n c3, .slice B3 m e3] 25) z0
    replace z1 := uPast' (.cells #[.slice A3 n c3, .slice B3 m e3] 25) z1
    replace z2 := uPast' (.cells #[.slice A3 n c3, .slice B3 m e3] 25) z2
    replace hT := hT.alloc hT.size (.cells #[.slice A3 n c3, .slice B3 m e3] 25)
    have HV0 : OwnI (w3.alloc (.cells #[.slice A3 n c3, .slice B3 m e3] 25)) w.heap.size 2 B3 e3 (Z.take 0 ++ List.replicate (m - 0) 0) := by simpa using HV.alloc _
    have HS0 := HS.alloc (.cells #[.slice A3 n c3, .slice B3 m e3] 25)
    obtain ⟨g, hg⟩ : ∃ g, w3.heap.size = g := ⟨_, rfl⟩
    rw [hg] at z3 ⊢
    clear HS HV hg hB0 HT HZR
    go_loopw [26] (fun i wr => ∃ q : Nat, q ≤ m ∧ i = .int .i64 q ∧ OwnI wr w.heap.size 2 B3 e3 (Z.take q ++ List.replicate (m - q) 0) ∧ OwnI wr w.heap.size 3 A3 c3 xs ∧ wr.heap[w.heap.size]? = some (.cells #[.slice A n c, .slice B m e] 25 (0, 0)) ∧
      wr.heap[w.heap.size + 1]? = some (.cells #[.slice A2 n2 c2, .slice B2 m e2] 25 (0, 0)) ∧
      wr.heap[w.heap.size + 1 + 1]? = some (.cells #[.slice none 0 0, .slice none 0 0] 25 (0, 0)) ∧ wr.heap[g]? = some (.cells #[.slice A3 n c3, .slice B3 m e3] 25 (0, 0)) ∧ Below w.heap.size w wr) (fun i _ => m - (intOf i).toNat)
    case atStart => exact ⟨0, Nat.zero_le _, rfl, HV0, HS0, z0, z1, z2, z3, hT⟩
    case round =>
      clear z0 z1 z2 z3 hT HV0 HS0
      obtain ⟨q, hq, rfl, HV, HS, z0, z1, z2, z3, hT⟩ := hrel
      obtain ⟨k0, k1, _, _⟩ := dCells z0
      obtain ⟨k2, k3, _, _⟩ := dCells z1
      obtain ⟨k4, k5, f4, f5⟩ := dCells z2
      obtain ⟨k6, k7, _, _⟩ := dCells z3
      by_cases hlt : q < m
      · obtain ⟨b, off, x, rfl, hbb, HX, hcx, hx1, hx2⟩ := (hv.below hT).at_ hlt
        obtain ⟨b2, off2, y, rfl, hbb2, HY, hcy, hy1, hy2⟩ := (hv2.below hT).at_ hlt
        have hz0 : (Z.take q ++ List.replicate (m - q) 0)[q]? = some (0 : Int) := by
          rw [List.getElem?_append_right (by rw [List.length_take, HZL.out]; omega), List.length_take, HZL.out, Nat.min_eq_left (by omega), Nat.sub_self, List.getElem?_replicate_of_lt (by omega)]
        obtain ⟨gv, rfl, hgv, _⟩ := HV.some_ (by rw [List.length_append, List.length_take, HZL.out, List.length_replicate]; omega)
        have n0 := HV.ne z0 (by decide)
        have n1 := HV.ne z1 (by decide)
        have n2 := HV.ne z2 (by decide)
        have n3 := HV.ne z3 (by decide)
        obtain ⟨hcz, hfz⟩ := HV.cell_ hz0
        have hZq : Z[q]? = some (wrap64 (x + y)) := by rw [← HZ0.out]; unfold addL; rw [List.getElem?_zipWith, HX.out, HY.out]
        obtain ⟨v, hvv⟩ : ∃ v, wrap64 (x + y) = v := ⟨_, rfl⟩
        have hv1 : IntKind.i64.wrap (x + y) = v := by rw [wrap_eq, hvv]
        have hv2' : wrap64 (x + y) = v := hvv
        have hrange := wrap64_range (x + y)
        rw [hvv] at hrange hZq
        have hset := HV.set_ q v hrange
        rw [fill_set HZL.out hZq] at hset
        have hB2 := hT.setCell (p := ⟨gv, q, none⟩) hgv (.int .i64 v)
        have HS2 := HS.other_ HV (by decide) q (.int .i64 v)
        have y0 := (Below.heap_setCell wr ⟨gv, q, none⟩ (.int .i64 v) _ (fun e => n0 (by rw [e]))).trans z0
        have y1 := (Below.heap_setCell wr ⟨gv, q, none⟩ (.int .i64 v) _ (fun e => n1 (by rw [e]))).trans z1
        have y2 := (Below.heap_setCell wr ⟨gv, q, none⟩ (.int .i64 v) _ (fun e => n2 (by rw [e]))).trans z2
        have y3 := (Below.heap_setCell wr ⟨gv, q, none⟩ (.int .i64 v) _ (fun e => n3 (by rw [e]))).trans z3
        have hq1 : (0 : Int) ≤ q := by omega
        have hq2 : (q : Int) < m := by omega
        clear hz0 hZq HV HS z0 z1 z2 z3 n0 n1 n2 n3 hvv hrange
        go_wp2_with fail
        refine wp_region_still_tail 15 hmx (by kernel_rfl) ?_
        simp only [List.take_succ_cons, List.take_zero, List.drop_succ_cons, List.drop_zero]
        repeat still_step
        refine wpStill_nil ?_
        change wpList _ _ _ _ _ wr.drew
        go_wp2_with fail
        go_roundw
        case rel => exact ⟨q + 1, by omega, by go_num, hset, HS2, y0, y1, y2, y3, hB2.drew⟩
        case measure => simp [intOf]; omega
      · obtain rfl : q = m := by omega
        go_wp2_with fail
        obtain ⟨e0, e1⟩ := zcells (a := .slice A3 n c3) (b := .slice B3 q e3) k4 k5
        have hfull : Z.take q ++ List.replicate (q - q) 0 = Z := by rw [Nat.sub_self, List.replicate_zero, List.append_nil, List.take_of_length_le (by rw [HZL.out]; omega)]
        rw [hfull] at HV
        have l1 := HL.out
        have l2 := HZL.out
        refine bodyPost_ret (v := .tuple #[.agg #[.slice A3 n c3, .slice B3 q e3], .int .i64 0]) (by simp [results, Try.results18, go_sem, e0, e1]) rfl ⟨A3, c3, B3, e3, by rw [l1, l2], ?_, ?_, ?_⟩
        · exact (HS.other z2 (by decide) _ _).other (by rw [heap_first z2]) (by decide) _ _
        · exact (HV.other z2 (by decide) _ _).other (by rw [heap_first z2]) (by decide) _ _
        · exact (hT.setCell (p := ⟨w.heap.size + 1 + 1, 0, none⟩) (by show _ ≤ w.heap.size + 1 + 1; omega) _).setCell (p := ⟨w.heap.size + 1 + 1, 1, none⟩) (by show _ ≤ w.heap.size + 1 + 1; omega) _
  · rw [if_neg h0, if_neg h0]
    obtain ⟨E, hE⟩ : ∃ E, twoF xs m xs2 m2 = E := ⟨_, rfl⟩
    rw [hE] at HT h0 ⊢
    have he1 : (E == 0) = false := by simpa using h0
    have he2 : (E != 0) = true := by simpa using h0
    clear h0 hE
    go_enter Try.func18, Try.ntmps18
    have hT := hB0
    obtain ⟨k0, k1, _, _⟩ := dCells z0
    obtain ⟨k2, k3, _, _⟩ := dCells z1
    go_wp2_with fail
    refine (HT _ hT).mono ?_
    rintro x w1 ⟨rfl, hb1⟩
    obtain ⟨k4, k5, f4, f5⟩ := dCells (dKeep hb1 z2)
    go_wp2_with fail
    obtain ⟨e0, e1⟩ := zcells (a := .slice none 0 0) (b := .slice none 0 0) k4 k5
    exact bodyPost_ret (v := .tuple #[.agg #[.slice none 0 0, .slice none 0 0], .int .i64 E]) (by simp [results, Try.results18, go_sem, e0, e1]) rfl ⟨none, 0, none, 0, rfl, OwnI.nil_ _ _ _, OwnI.nil_ _ _ _, ((hT.trans (hb1.mono hT.size)).setCell (p := ⟨w.heap.size + 1 + 1, 0, none⟩) (by show _ ≤ w.heap.size + 1 + 1; omega) _).setCell (p := ⟨w.heap.size + 1 + 1, 1, none⟩) (by show _ ≤ w.heap.size + 1 + 1; omega) _⟩
set_option maxRecDepth 100000 in
set_option maxHeartbeats 4000000 in
theorem refMul_any (A B A2 B2 : Option Addr) (n c m e n2 c2 m2 e2 : Nat) (xs xs2 ys ys2 : List Int) (w : World) (h : Ints w w.heap.size A n xs) (hv : Ints w w.heap.size B m ys) (h2 : Ints w w.heap.size A2 n2 xs2) (hv2 : Ints w w.heap.size B2 m2 ys2) (hn : n ≤ 9223372036854775807) (hn2 : n2 ≤ 9223372036854775807) :
    Calls Try.prog 21 #[.agg #[.slice A n c, .slice B m e], .agg #[.slice A2 n2 c2, .slice B2 m2 e2]] w (SumPost w (if twoF xs m xs2 m2 = 0 then xs else []) (if twoF xs m xs2 m2 = 0 then mulL ys ys2 else []) (twoF xs m xs2 m2)) := by
  have HT := fun W (hb : Below w.heap.size w W) => refTwo_any A B A2 B2 n c m e n2 c2 m2 e2 xs xs2 W ((h.below hb).more hb.size) ((h2.below hb).more hb.size) hn hn2
  have hB0 : Below w.heap.size w (((w.alloc (.cells #[.slice A n c, .slice B m e] 25)).alloc (.cells #[.slice A2 n2 c2, .slice B2 m2 e2] 25)).alloc (.cells #[.slice none 0 0, .slice none 0 0] 25)) := (below_two w _ _).alloc (by simp; omega) _
  have z0 := uPast' (.cells #[.slice none 0 0, .slice none 0 0] 25) (zf_two w (.cells #[.slice A n c, .slice B m e] 25) (.cells #[.slice A2 n2 c2, .slice B2 m2 e2] 25))
  have z1 := uPast' (.cells #[.slice none 0 0, .slice none 0 0] 25) (zf_snd w (.cells #[.slice A2 n2 c2, .slice B2 m2 e2] 25) (.cells #[.slice A n c, .slice B m e] 25))
  have z2 := heap_alloc_new ((w.alloc (.cells #[.slice A n c, .slice B m e] 25)).alloc (.cells #[.slice A2 n2 c2, .slice B2 m2 e2] 25)) (.cells #[.slice none 0 0, .slice none 0 0] 25)
  simp only [World.size_alloc] at z2
  obtain ⟨Z, hZ⟩ : ∃ Z, mulL ys ys2 = Z := ⟨_, rfl⟩
  have HZ0 := Lib.hid hZ
  rw [hZ]
  clear hZ
  by_cases h0 : twoF xs m xs2 m2 = 0
  · rw [if_pos h0, if_pos h0]
    obtain ⟨c1, c2', rfl⟩ := twoF_zero h0
    have em : m = m2 := by have := (check_parts c1).2.2; have := (check_parts c2').2.2; omega
    subst em
    clear c2'
    have hb := laidF_nonneg (xs := xs)
    have hm65 : m ≤ 65536 := by have := (check_parts c1).2.2; omega
    have HZL : Hid (Z.length = m) := by unfold Hid; rw [← HZ0.out]; exact mulL_length hv.1 hv2.1
    have HL := Lib.hid h.1
    have HZR := fun (W : World) (i : Ints W W.heap.size A n xs) => refZero_z (c := c) W i c1
    rw [h0] at HT ⊢
    have hmx : Try.prog.follows .mixedOrders = true := by kernel_rfl
    clear h0 c1 hb
    go_enter Try.func21, Try.ntmps21
    have hT := hB0
    obtain ⟨k0, k1, _, _⟩ := dCells z0
    obtain ⟨k2, k3, _, _⟩ := dCells z1
    go_wp2_with fail
    refine (HT _ hT).mono ?_
    rintro x w1 ⟨rfl, hb1⟩
    replace z0 := dKeep hb1 z0
    replace z1 := dKeep hb1 z1
    clear k2 k3
    replace z2 := dKeep hb1 z2
    replace hT := hT.trans (hb1.mono hT.size)
    clear k0 k1 hb1
    obtain ⟨k0, k1, _, _⟩ := dCells z0
    go_wp2_with fail
    refine (HZR _ ((h.below hT).more hT.size)).mono ?_
    rintro x w3 ⟨A3, c3, B3, e3, rfl, HS, HV, hb3⟩
    have hsz : w.heap.size ≤ w1.heap.size := hT.size
    replace HS := HS.mono hsz
    replace HV := HV.mono hsz
    replace z0 := dKeep hb3 z0
    replace z1 := dKeep hb3 z1
    replace z2 := dKeep hb3 z2
    replace hT := hT.trans (hb3.mono hT.size)
    clear k0 k1 hb3
    go_wp2_with fail
    have z3 := heap_alloc_new w3 (.cells #[.slice A3 n c3, .slice B3 m e3] 25)
    replace z0 := uPast' (.cells #[.slice A3 n c3, .slice B3 m e3] 25) z0
    replace z1 := uPast' (.cells #[.slice A3 n c3, .slice B3 m e3] 25) z1
    replace z2 := uPast' (.cells #[.slice A3 n c3, .slice B3 m e3] 25) z2
    replace hT := hT.alloc hT.size (.cells #[.slice A3 n c3, .slice B3 m e3] 25)
    have HV0 : OwnI (w3.alloc (.cells #[.slice A3 n c3, .slice B3 m e3] 25)) w.heap.size 2 B3 e3 (Z.take 0 ++ List.replicate (m - 0) 0) := by simpa using HV.alloc _
    have HS0 := HS.alloc (.cells #[.slice A3 n c3, .slice B3 m e3] 25)
    obtain ⟨g, hg⟩ : ∃ g, w3.heap.size = g := ⟨_, rfl⟩
    rw [hg] at z3 ⊢
    clear HS HV hg hB0 HT HZR
    go_loopw [26] (fun i wr => ∃ q : Nat, q ≤ m ∧ i = .int .i64 q ∧ OwnI wr w.heap.size 2 B3 e3 (Z.take q ++ List.replicate (m - q) 0) ∧ OwnI wr w.heap.size 3 A3 c3 xs ∧ wr.heap[w.heap.size]? = some (.cells #[.slice A n c, .slice B m e] 25 (0, 0)) ∧
      wr.heap[w.heap.size + 1]? = some (.cells #[.slice A2 n2 c2, .slice B2 m e2] 25 (0, 0)) ∧
      wr.heap[w.heap.size + 1 + 1]? = some (.cells #[.slice none 0 0, .slice none 0 0] 25 (0, 0)) ∧ wr.heap[g]? = some (.cells #[.slice A3 n c3, .slice B3 m e3] 25 (0, 0)) ∧ Below w.heap.size w wr) (fun i _ => m - (intOf i).toNat)
    case atStart => exact ⟨0, Nat.zero_le _, rfl, HV0, HS0, z0, z1, z2, z3, hT⟩
    case round =>
      clear z0 z1 z2 z3 hT HV0 HS0
      obtain ⟨q, hq, rfl, HV, HS, z0, z1, z2, z3, hT⟩ := hrel
      obtain ⟨k0, k1, _, _⟩ := dCells z0
      obtain ⟨k2, k3, _, _⟩ := dCells z1
      obtain ⟨k4, k5, f4, f5⟩ := dCells z2
      obtain ⟨k6, k7, _, _⟩ := dCells z3
      by_cases hlt : q < m
      · obtain ⟨b, off, x, rfl, hbb, HX, hcx, hx1, hx2⟩ := (hv.below hT).at_ hlt
        obtain ⟨b2, off2, y, rfl, hbb2, HY, hcy, hy1, hy2⟩ := (hv2.below hT).at_ hlt
        have hz0 : (Z.take q ++ List.replicate (m - q) 0)[q]? = some (0 : Int) := by
          rw [List.getElem?_append_right (by rw [List.length_take, HZL.out]; omega), List.length_take, HZL.out, Nat.min_eq_left (by omega), Nat.sub_self, List.getElem?_replicate_of_lt (by omega)]
        obtain ⟨gv, rfl, hgv, _⟩ := HV.some_ (by rw [List.length_append, List.length_take, HZL.out, List.length_replicate]; omega)
        have n0 := HV.ne z0 (by decide)
        have n1 := HV.ne z1 (by decide)
        have n2 := HV.ne z2 (by decide)
        have n3 := HV.ne z3 (by decide)
        obtain ⟨hcz, hfz⟩ := HV.cell_ hz0
        have hZq : Z[q]? = some (wrap64 (x * y)) := by rw [← HZ0.out]; unfold mulL; rw [List.getElem?_zipWith, HX.out, HY.out]
        obtain ⟨v, hvv⟩ : ∃ v, wrap64 (x * y) = v := ⟨_, rfl⟩
        have hv1 : IntKind.i64.wrap (x * y) = v := by rw [wrap_eq, hvv]
        have hv2' : wrap64 (x * y) = v := hvv
        have hrange := wrap64_range (x * y)
        rw [hvv] at hrange hZq
        have hset := HV.set_ q v hrange
        rw [fill_set HZL.out hZq] at hset
        have hB2 := hT.setCell (p := ⟨gv, q, none⟩) hgv (.int .i64 v)
        have HS2 := HS.other_ HV (by decide) q (.int .i64 v)
        have y0 := (Below.heap_setCell wr ⟨gv, q, none⟩ (.int .i64 v) _ (fun e => n0 (by rw [e]))).trans z0
        have y1 := (Below.heap_setCell wr ⟨gv, q, none⟩ (.int .i64 v) _ (fun e => n1 (by rw [e]))).trans z1
        have y2 := (Below.heap_setCell wr ⟨gv, q, none⟩ (.int .i64 v) _ (fun e => n2 (by rw [e]))).trans z2
        have y3 := (Below.heap_setCell wr ⟨gv, q, none⟩ (.int .i64 v) _ (fun e => n3 (by rw [e]))).trans z3
        have hq1 : (0 : Int) ≤ q := by omega
        have hq2 : (q : Int) < m := by omega
        clear hz0 hZq HV HS z0 z1 z2 z3 n0 n1 n2 n3 hvv hrange
        go_wp2_with fail
        refine wp_region_still_tail 15 hmx (by kernel_rfl) ?_
        simp only [List.take_succ_cons, List.take_zero, List.drop_succ_cons, List.drop_zero]
        repeat still_step
        refine wpStill_nil ?_
        change wpList _ _ _ _ _ wr.drew
        go_wp2_with fail
        go_roundw
        case rel => exact ⟨q + 1, by omega, by go_num, hset, HS2, y0, y1, y2, y3, hB2.drew⟩
        case measure => simp [intOf]; omega
      · obtain rfl : q = m := by omega
        go_wp2_with fail
        obtain ⟨e0, e1⟩ := zcells (a := .slice A3 n c3) (b := .slice B3 q e3) k4 k5
        have hfull : Z.take q ++ List.replicate (q - q) 0 = Z := by rw [Nat.sub_self, List.replicate_zero, List.append_nil, List.take_of_length_le (by rw [HZL.out]; omega)]
        rw [hfull] at HV
        have l1 := HL.out
        have l2 := HZL.out
        refine bodyPost_ret (v := .tuple #[.agg #[.slice A3 n c3, .slice B3 q e3], .int .i64 0]) (by simp [results, Try.results21, go_sem, e0, e1]) rfl ⟨A3, c3, B3, e3, by rw [l1, l2], ?_, ?_, ?_⟩
        · exact (HS.other z2 (by decide) _ _).other (by rw [heap_first z2]) (by decide) _ _
        · exact (HV.other z2 (by decide) _ _).other (by rw [heap_first z2]) (by decide) _ _
        · exact (hT.setCell (p := ⟨w.heap.size + 1 + 1, 0, none⟩) (by show _ ≤ w.heap.size + 1 + 1; omega) _).setCell (p := ⟨w.heap.size + 1 + 1, 1, none⟩) (by show _ ≤ w.heap.size + 1 + 1; omega) _
  · rw [if_neg h0, if_neg h0]
    obtain ⟨E, hE⟩ : ∃ E, twoF xs m xs2 m2 = E := ⟨_, rfl⟩
    rw [hE] at HT h0 ⊢
    have he1 : (E == 0) = false := by simpa using h0
    have he2 : (E != 0) = true := by simpa using h0
    clear h0 hE
    go_enter Try.func21, Try.ntmps21
    have hT := hB0
    obtain ⟨k0, k1, _, _⟩ := dCells z0
    obtain ⟨k2, k3, _, _⟩ := dCells z1
    go_wp2_with fail
    refine (HT _ hT).mono ?_
    rintro x w1 ⟨rfl, hb1⟩
    obtain ⟨k4, k5, f4, f5⟩ := dCells (dKeep hb1 z2)
    go_wp2_with fail
    obtain ⟨e0, e1⟩ := zcells (a := .slice none 0 0) (b := .slice none 0 0) k4 k5
    exact bodyPost_ret (v := .tuple #[.agg #[.slice none 0 0, .slice none 0 0], .int .i64 E]) (by simp [results, Try.results21, go_sem, e0, e1]) rfl ⟨none, 0, none, 0, rfl, OwnI.nil_ _ _ _, OwnI.nil_ _ _ _, ((hT.trans (hb1.mono hT.size)).setCell (p := ⟨w.heap.size + 1 + 1, 0, none⟩) (by show _ ≤ w.heap.size + 1 + 1; omega) _).setCell (p := ⟨w.heap.size + 1 + 1, 1, none⟩) (by show _ ≤ w.heap.size + 1 + 1; omega) _⟩
set_option maxRecDepth 100000 in
set_option maxHeartbeats 4000000 in
theorem refScale_any (A B : Option Addr) (n c m e : Nat) (z : Int) (xs ys : List Int) (w : World) (h : Ints w w.heap.size A n xs) (hv : Ints w w.heap.size B m ys) (hn : n ≤ 9223372036854775807) :
    Calls Try.prog 23 #[.agg #[.slice A n c, .slice B m e], .int .i64 z] w (SumPost w (if checkF xs m = 0 then xs else []) (if checkF xs m = 0 then byL z ys else []) (checkF xs m)) := by
  have HT := fun W (hb : Below w.heap.size w W) => refCheck_any A B n c m e xs W ((h.below hb).more hb.size) hn
  have hB0 : Below w.heap.size w ((w.alloc (.cells #[.slice A n c, .slice B m e] 25)).alloc (.cells #[.slice none 0 0, .slice none 0 0] 25)) := below_two w _ _
  have z0 := zf_two w (.cells #[.slice A n c, .slice B m e] 25) (.cells #[.slice none 0 0, .slice none 0 0] 25)
  have z2 := zf_snd w (.cells #[.slice none 0 0, .slice none 0 0] 25) (.cells #[.slice A n c, .slice B m e] 25)
  obtain ⟨Z, hZ⟩ : ∃ Z, byL z ys = Z := ⟨_, rfl⟩
  have HZ0 := Lib.hid hZ
  rw [hZ]
  clear hZ
  by_cases h0 : checkF xs m = 0
  · rw [if_pos h0, if_pos h0]
    have c1 := h0
    have hb := laidF_nonneg (xs := xs)
    have hm65 : m ≤ 65536 := by have := (check_parts c1).2.2; omega
    have HZL : Hid (Z.length = m) := by unfold Hid; rw [← HZ0.out]; exact (by rw [byL_length]; exact hv.1)
    have HL := Lib.hid h.1
    have HZR := fun (W : World) (i : Ints W W.heap.size A n xs) => refZero_z (c := c) W i c1
    rw [h0] at HT ⊢
    have hmx : Try.prog.follows .mixedOrders = true := by kernel_rfl
    clear h0 c1 hb
    go_enter Try.func23, Try.ntmps23
    have hT := hB0
    obtain ⟨k0, k1, _, _⟩ := dCells z0
    go_wp2_with fail
    refine (HT _ hT).mono ?_
    rintro x w1 ⟨rfl, hb1⟩
    replace z0 := dKeep hb1 z0
    replace z2 := dKeep hb1 z2
    replace hT := hT.trans (hb1.mono hT.size)
    clear k0 k1 hb1
    obtain ⟨k0, k1, _, _⟩ := dCells z0
    go_wp2_with fail
    refine (HZR _ ((h.below hT).more hT.size)).mono ?_
    rintro x w3 ⟨A3, c3, B3, e3, rfl, HS, HV, hb3⟩
    have hsz : w.heap.size ≤ w1.heap.size := hT.size
    replace HS := HS.mono hsz
    replace HV := HV.mono hsz
    replace z0 := dKeep hb3 z0
    replace z2 := dKeep hb3 z2
    replace hT := hT.trans (hb3.mono hT.size)
    clear k0 k1 hb3
    go_wp2_with fail
    have z3 := heap_alloc_new w3 (.cells #[.slice A3 n c3, .slice B3 m e3] 25)
    replace z0 := uPast' (.cells #[.slice A3 n c3, .slice B3 m e3] 25) z0
    replace z2 := uPast' (.cells #[.slice A3 n c3, .slice B3 m e3] 25) z2
    replace hT := hT.alloc hT.size (.cells #[.slice A3 n c3, .slice B3 m e3] 25)
    have HV0 : OwnI (w3.alloc (.cells #[.slice A3 n c3, .slice B3 m e3] 25)) w.heap.size 2 B3 e3 (Z.take 0 ++ List.replicate (m - 0) 0) := by simpa using HV.alloc _
    have HS0 := HS.alloc (.cells #[.slice A3 n c3, .slice B3 m e3] 25)
    obtain ⟨g, hg⟩ : ∃ g, w3.heap.size = g := ⟨_, rfl⟩
    rw [hg] at z3 ⊢
    clear HS HV hg hB0 HT HZR
    go_loopw [25] (fun i wr => ∃ q : Nat, q ≤ m ∧ i = .int .i64 q ∧ OwnI wr w.heap.size 2 B3 e3 (Z.take q ++ List.replicate (m - q) 0) ∧ OwnI wr w.heap.size 3 A3 c3 xs ∧ wr.heap[w.heap.size]? = some (.cells #[.slice A n c, .slice B m e] 25 (0, 0)) ∧
      wr.heap[w.heap.size + 1]? = some (.cells #[.slice none 0 0, .slice none 0 0] 25 (0, 0)) ∧ wr.heap[g]? = some (.cells #[.slice A3 n c3, .slice B3 m e3] 25 (0, 0)) ∧ Below w.heap.size w wr) (fun i _ => m - (intOf i).toNat)
    case atStart => exact ⟨0, Nat.zero_le _, rfl, HV0, HS0, z0, z2, z3, hT⟩
    case round =>
      clear z0 z2 z3 hT HV0 HS0
      obtain ⟨q, hq, rfl, HV, HS, z0, z2, z3, hT⟩ := hrel
      obtain ⟨k0, k1, _, _⟩ := dCells z0
      obtain ⟨k4, k5, f4, f5⟩ := dCells z2
      obtain ⟨k6, k7, _, _⟩ := dCells z3
      by_cases hlt : q < m
      · obtain ⟨b, off, x, rfl, hbb, HX, hcx, hx1, hx2⟩ := (hv.below hT).at_ hlt
        have hz0 : (Z.take q ++ List.replicate (m - q) 0)[q]? = some (0 : Int) := by
          rw [List.getElem?_append_right (by rw [List.length_take, HZL.out]; omega), List.length_take, HZL.out, Nat.min_eq_left (by omega), Nat.sub_self, List.getElem?_replicate_of_lt (by omega)]
        obtain ⟨gv, rfl, hgv, _⟩ := HV.some_ (by rw [List.length_append, List.length_take, HZL.out, List.length_replicate]; omega)
        have n0 := HV.ne z0 (by decide)
        have n2 := HV.ne z2 (by decide)
        have n3 := HV.ne z3 (by decide)
        obtain ⟨hcz, hfz⟩ := HV.cell_ hz0
        have hZq : Z[q]? = some (wrap64 (x * z)) := by rw [← HZ0.out, byL_map, List.getElem?_map, HX.out]; rfl
        obtain ⟨v, hvv⟩ : ∃ v, wrap64 (x * z) = v := ⟨_, rfl⟩
        have hv1 : IntKind.i64.wrap (x * z) = v := by rw [wrap_eq, hvv]
        have hv2' : wrap64 (x * z) = v := hvv
        have hrange := wrap64_range (x * z)
        rw [hvv] at hrange hZq
        have hset := HV.set_ q v hrange
        rw [fill_set HZL.out hZq] at hset
        have hB2 := hT.setCell (p := ⟨gv, q, none⟩) hgv (.int .i64 v)
        have HS2 := HS.other_ HV (by decide) q (.int .i64 v)
        have y0 := (Below.heap_setCell wr ⟨gv, q, none⟩ (.int .i64 v) _ (fun e => n0 (by rw [e]))).trans z0
        have y2 := (Below.heap_setCell wr ⟨gv, q, none⟩ (.int .i64 v) _ (fun e => n2 (by rw [e]))).trans z2
        have y3 := (Below.heap_setCell wr ⟨gv, q, none⟩ (.int .i64 v) _ (fun e => n3 (by rw [e]))).trans z3
        have hq1 : (0 : Int) ≤ q := by omega
        have hq2 : (q : Int) < m := by omega
        clear hz0 hZq HV HS z0 z2 z3 n0 n2 n3 hvv hrange
        go_wp2_with fail
        refine wp_region_still_tail 11 hmx (by kernel_rfl) ?_
        simp only [List.take_succ_cons, List.take_zero, List.drop_succ_cons, List.drop_zero]
        repeat still_step
        refine wpStill_nil ?_
        change wpList _ _ _ _ _ wr.drew
        go_wp2_with fail
        go_roundw
        case rel => exact ⟨q + 1, by omega, by go_num, hset, HS2, y0, y2, y3, hB2.drew⟩
        case measure => simp [intOf]; omega
      · obtain rfl : q = m := by omega
        go_wp2_with fail
        obtain ⟨e0, e1⟩ := zcells (a := .slice A3 n c3) (b := .slice B3 q e3) k4 k5
        have hfull : Z.take q ++ List.replicate (q - q) 0 = Z := by rw [Nat.sub_self, List.replicate_zero, List.append_nil, List.take_of_length_le (by rw [HZL.out]; omega)]
        rw [hfull] at HV
        have l1 := HL.out
        have l2 := HZL.out
        refine bodyPost_ret (v := .tuple #[.agg #[.slice A3 n c3, .slice B3 q e3], .int .i64 0]) (by simp [results, Try.results23, go_sem, e0, e1]) rfl ⟨A3, c3, B3, e3, by rw [l1, l2], ?_, ?_, ?_⟩
        · exact (HS.other z2 (by decide) _ _).other (by rw [heap_first z2]) (by decide) _ _
        · exact (HV.other z2 (by decide) _ _).other (by rw [heap_first z2]) (by decide) _ _
        · exact (hT.setCell (p := ⟨w.heap.size + 1, 0, none⟩) (by show _ ≤ w.heap.size + 1; omega) _).setCell (p := ⟨w.heap.size + 1, 1, none⟩) (by show _ ≤ w.heap.size + 1; omega) _
  · rw [if_neg h0, if_neg h0]
    obtain ⟨E, hE⟩ : ∃ E, checkF xs m = E := ⟨_, rfl⟩
    rw [hE] at HT h0 ⊢
    have he1 : (E == 0) = false := by simpa using h0
    have he2 : (E != 0) = true := by simpa using h0
    clear h0 hE
    go_enter Try.func23, Try.ntmps23
    have hT := hB0
    obtain ⟨k0, k1, _, _⟩ := dCells z0
    go_wp2_with fail
    refine (HT _ hT).mono ?_
    rintro x w1 ⟨rfl, hb1⟩
    obtain ⟨k4, k5, f4, f5⟩ := dCells (dKeep hb1 z2)
    go_wp2_with fail
    obtain ⟨e0, e1⟩ := zcells (a := .slice none 0 0) (b := .slice none 0 0) k4 k5
    exact bodyPost_ret (v := .tuple #[.agg #[.slice none 0 0, .slice none 0 0], .int .i64 E]) (by simp [results, Try.results23, go_sem, e0, e1]) rfl ⟨none, 0, none, 0, rfl, OwnI.nil_ _ _ _, OwnI.nil_ _ _ _, ((hT.trans (hb1.mono hT.size)).setCell (p := ⟨w.heap.size + 1, 0, none⟩) (by show _ ≤ w.heap.size + 1; omega) _).setCell (p := ⟨w.heap.size + 1, 1, none⟩) (by show _ ≤ w.heap.size + 1; omega) _⟩
end Go.Proofs.Ytbicdbheclldcaa
