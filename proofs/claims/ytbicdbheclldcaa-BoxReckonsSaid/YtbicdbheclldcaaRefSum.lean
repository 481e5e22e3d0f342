/- The document's Sum. -/
import Derived.Test.YtbicdbheclldcaaSumErr
import Derived.Deep.RegionLaw
namespace Go.Proofs.Ytbicdbheclldcaa
open Go.RowKit

theorem Inn.erase {xs cs : List Int} (h : Inn xs cs) (k : Nat) : Inn (xs.eraseIdx k) (cs.eraseIdx k) := by
  induction xs generalizing cs k with
  | nil => cases cs with
    | nil => trivial
    | cons _ _ => exact h.elim
  | cons s l ih => cases cs with
    | nil => exact h.elim
    | cons c d => cases k with
      | zero => exact h.2.2
      | succ k => exact ⟨h.1, h.2.1, ih h.2.2 k⟩
theorem numB (A A2 : Option Addr) (n n2 c c2 : Nat) (xs cs : List Int) (w : World) (h : Ints w w.heap.size A n xs) (h2 : Ints w w.heap.size A2 n2 cs) (hn : n ≤ 100000) (hi : Inn xs cs) (hM : prodI xs ≤ 4611686018427387903) :
    Calls Try.prog 71 #[.slice A n c, .slice A2 n2 c2] w fun e w' => e = .returned (.int .i64 (numR xs cs)) ∧ Below w.heap.size w w' :=
  (number_any A A2 n n2 c c2 xs cs w w.heap.size h h2 hn hi hM).mono fun e w' ⟨he, m, hm⟩ => ⟨he, by subst hm; exact below_drewN (Below.refl _ _) m⟩

set_option maxRecDepth 100000 in
set_option maxHeartbeats 4000000 in
theorem refSum_ok (A B : Option Addr) (n c m e k : Nat) (xs ys : List Int) (w : World) (h : Ints w w.heap.size A n xs) (hv : Ints w w.heap.size B m ys) (hn : n ≤ 9223372036854775807) (_ : n ≤ c) (hm : m ≤ 9223372036854775807) (hck : checkF xs m = 0) (hk : k < n) :
    Calls Try.prog 25 #[.agg #[.slice A n c, .slice B m e], .int .i64 (k : Int)] w (SumPost w (if (laidF (xs.eraseIdx k)).2 = 0 then xs.eraseIdx k else []) (if (laidF (xs.eraseIdx k)).2 = 0 then sumV xs k ys else []) (laidF (xs.eraseIdx k)).2) := by
  have HC := fun W (hb : Below w.heap.size w W) => refCheck_any A B n c m e xs W ((h.below hb).more hb.size) hn
  rw [hck] at HC
  have HCK := Lib.hid hck
  have hn4 : n ≤ 4 := by have := laidF_erase hck; have := h.1; omega
  have HL := Lib.hid h.1
  have HL2 := Lib.hid hv.1
  have hB0 : Below w.heap.size w ((w.alloc (.cells #[.slice A n c, .slice B m e] 25)).alloc (.cells #[.slice none 0 0, .slice none 0 0] 25)) := below_two w _ _
  have z0 := zf_two w (.cells #[.slice A n c, .slice B m e] 25) (.cells #[.slice none 0 0, .slice none 0 0] 25)
  have z2 := zf_snd w (.cells #[.slice none 0 0, .slice none 0 0] 25) (.cells #[.slice A n c, .slice B m e] 25)
  have hmx : Try.prog.follows .mixedOrders = true := by kernel_rfl
  have HW := fun W (hb : Below w.heap.size w W) => without_any A n c k xs W ((h.below hb).more hb.size) (by omega) (by omega)
  have hd1 : decide ((k : Int) < 0) = false := by simp
  have hd2 : decide (n ≤ k) = false := by simp; omega
  obtain ⟨L, hL⟩ : ∃ L, xs.eraseIdx k = L := ⟨_, rfl⟩
  have HLL := Lib.hid hL
  obtain ⟨n', hn'⟩ : ∃ k, L.length = k := ⟨_, rfl⟩
  have hn5 : n' ≤ 4 := by have := List.length_eraseIdx_le xs k; rw [hL, hn', HL.out] at this; omega
  have HN' := Lib.hid hn'
  obtain ⟨V, hV⟩ : ∃ V, sumV xs k ys = V := ⟨_, rfl⟩
  have HV1 := Lib.hid hV
  rw [hL, hn'] at HW
  rw [hL, hV]
  have HZ := fun (W : World) (A' : Option Addr) (c' : Nat) (hI : Ints W W.heap.size A' n' L) => refZero_any A' n' c' L W hI (by omega)
  obtain ⟨E, hE⟩ : ∃ E, (laidF L).2 = E := ⟨_, rfl⟩
  have HE := Lib.hid hE
  rw [hE] at HZ
  obtain ⟨S0, hS0⟩ : ∃ S, (if E = 0 then L else []) = S := ⟨_, rfl⟩
  obtain ⟨V0, hV0⟩ : ∃ S, (if E = 0 then V else []) = S := ⟨_, rfl⟩
  rw [hE, hS0, hV0]
  have HS0 := Lib.hid hS0
  have HV0 := Lib.hid hV0
  have hzs : Hid (zS L = if E = 0 then L else []) := by unfold Hid zS; rw [hE]
  have hzv : Hid (zV L = if E = 0 then List.replicate (laidF L).1.toNat 0 else []) := by unfold Hid zV; rw [hE]
  obtain ⟨ZS, hZS⟩ : ∃ S, zS L = S := ⟨_, rfl⟩
  obtain ⟨ZV, hZV⟩ : ∃ S, zV L = S := ⟨_, rfl⟩
  rw [hZS] at hzs HZ
  rw [hZV] at hzv HZ
  clear hL hn' hV hE hS0 hV0 hck hZS hZV
  go_enter Try.func25, Try.ntmps25
  have hT := hB0
  go_wp2_with (first | (go_at_call 67; refine (HC _ hT).mono ?_; rintro x w1 ⟨rfl, hb1⟩; replace z0 := dKeep hb1 z0; replace z2 := dKeep hb1 z2; replace hT := hT.trans (hb1.mono hT.size); obtain ⟨k0, k1, _, _⟩ := dCells z0) | (go_at_call 70; refine (HW _ hT).mono ?_; rintro x w2 ⟨A4, c4, rfl, HO4, hb2⟩; replace z0 := dKeep hb2 z0; replace z2 := dKeep hb2 z2; replace hT := hT.trans (hb2.mono hT.size); have I4 := HO4.ints; rw [HN'.out] at I4))
  refine (HZ _ _ _ I4).mono ?_
  rintro x w3 ⟨A5, c5, B5, e5, rfl, HS, HVz, hb3⟩
  have hsz : w.heap.size ≤ w2.heap.size := hT.size
  replace HS := HS.mono hsz
  replace HVz := HVz.mono hsz
  replace z0 := dKeep hb3 z0
  replace z2 := dKeep hb3 z2
  replace hT := hT.trans (hb3.mono hT.size)
  clear k0 k1 hb1 hb2 hb3 HO4 I4 hB0 HC HW HZ
  by_cases hE0 : E = 0
  · subst hE0
    rw [if_pos rfl] at hzs hzv
    have e1 := hzs.out.symm
    have e2 := hzv.out.symm
    subst e1
    subst e2
    have e3 := HS0.out
    rw [if_pos rfl] at e3
    subst e3
    have e4 := HV0.out
    rw [if_pos rfl] at e4
    subst e4
    obtain ⟨M, hM⟩ : ∃ M, (laidF L).1.toNat = M := ⟨_, rfl⟩
    rw [hM] at HVz ⊢
    rw [List.length_replicate, HN'.out]
    have HM := Lib.hid hM
    clear hM hzs hzv HS0 HV0
    have hV3 : V = scat (idx (behind xs k) (sizeAt xs k)) M ys := by rw [← HV1.out, ← HM.out, ← HLL.out]; rfl
    have HV3 := Lib.hid hV3
    have hV4 : V.length = M := by rw [hV3]; exact scat_length _ _ _
    have HV4 := Lib.hid hV4
    clear hV3 hV4
    have m1 := fun o => cellPast o (dCells z0).2.1
    go_wp2_with fail
    clear m1
    have z3 := heap_alloc_new w3 (.cells #[.slice A5 n' c5, .slice B5 M e5] 25)
    replace z0 := uPast' (.cells #[.slice A5 n' c5, .slice B5 M e5] 25) z0
    replace z2 := uPast' (.cells #[.slice A5 n' c5, .slice B5 M e5] 25) z2
    replace hT := hT.alloc hT.size (.cells #[.slice A5 n' c5, .slice B5 M e5] 25)
    have HV0 : OwnI (w3.alloc (.cells #[.slice A5 n' c5, .slice B5 M e5] 25)) w.heap.size 2 B5 e5 (scat (idx (behind xs k) (sizeAt xs k)) M (ys.take 0)) := by rw [List.take_zero, scat_nil]; exact HVz.alloc _
    have HS5 := HS.alloc (.cells #[.slice A5 n' c5, .slice B5 M e5] 25)
    obtain ⟨g, hg⟩ : ∃ g, w3.heap.size = g := ⟨_, rfl⟩
    rw [hg] at z3 ⊢
    clear HS HVz hg
    go_loopw [42] (fun i wr => ∃ q : Nat, q ≤ m ∧ i = .int .i64 q ∧ OwnI wr w.heap.size 2 B5 e5 (scat (idx (behind xs k) (sizeAt xs k)) M (ys.take q)) ∧ OwnI wr w.heap.size 3 A5 c5 L ∧ wr.heap[w.heap.size]? = some (.cells #[.slice A n c, .slice B m e] 25 (0, 0)) ∧
      wr.heap[w.heap.size + 1]? = some (.cells #[.slice none 0 0, .slice none 0 0] 25 (0, 0)) ∧ wr.heap[g]? = some (.cells #[.slice A5 n' c5, .slice B5 M e5] 25 (0, 0)) ∧ Below w.heap.size w wr) (fun i _ => m - (intOf i).toNat)
    case atStart => exact ⟨0, Nat.zero_le _, rfl, HV0, HS5, z0, z2, z3, hT⟩
    case round =>
      clear z0 z2 z3 hT HV0 HS5
      obtain ⟨q, hq0, rfl, HV, HS, z0, z2, z3, hT⟩ := hrel
      obtain ⟨k0, k1, _, _⟩ := dCells z0
      obtain ⟨k4, k5, f4, f5⟩ := dCells z2
      obtain ⟨k6, k7, _, _⟩ := dCells z3
      by_cases hlt : q < m
      · obtain ⟨b2, off2, v, rfl, hbv, HY, hcv, hv1, hv2⟩ := (hv.below hT).at_ hlt
        obtain ⟨hp1, hM1, hprod, hm65⟩ := sum_pos HCK.out (by omega) HL.out hk
        have hs1 := sizeAt_eq hp1 (k := k) (by rw [HL.out]; exact hk)
        have hP1 := behind_eq hp1 k
        have hidx := num_erase_idx hp1 (n := q) hs1 hP1 (by omega)
        have hj := idx_fits hp1 (k := k) (n := q) (by rw [HL.out]; exact hk) (by omega)
        have hMM : M = (prodI (xs.eraseIdx k)).toNat := by rw [← HM.out, ← HLL.out]; exact hM1
        have hInn := (placeR_inn hp1 (q : Int)).erase k
        rw [HLL.out] at hidx hj hInn hMM
        have hpL : ∀ x ∈ L, 1 ≤ x := fun x hx => hp1 x (List.mem_of_mem_eraseIdx (by rw [HLL.out]; exact hx))
        have hpp := prodI_pos hpL
        have hM65 : M ≤ 65536 := by rw [← HM.out]; exact laidF_le _
        have hpL2 : prodI L ≤ 4611686018427387903 := by omega
        rw [← hMM] at hj
        obtain ⟨j, hjj⟩ : ∃ j, idx (behind xs k) (sizeAt xs k) q = j := ⟨_, rfl⟩
        obtain ⟨x0, hx0⟩ : ∃ x0, (scat (idx (behind xs k) (sizeAt xs k)) M (ys.take q))[idx (behind xs k) (sizeAt xs k) q]? = some x0 := ⟨_, scat_at _ hj⟩
        have hstep := scat_step HY.out hx0
        obtain ⟨gv, rfl, hgv, _⟩ := HV.some_ (by rw [scat_length]; omega)
        have n0 := HV.ne z0 (by decide)
        have n2 := HV.ne z2 (by decide)
        have n3 := HV.ne z3 (by decide)
        rw [hjj] at hidx hj hx0 hstep
        have HNL : ∀ x ∈ xs, x ≤ 9223372036854775807 := fun x hx => (h.2.1 x hx).2
        have RP := fun (W : World) (hb : Below wr.heap.size wr W) => (place_any A n c xs (q : Int) W ((h.below (hT.trans (hb.mono hT.size))).more (Nat.le_trans hT.size hb.size)) (by omega) hp1 (by omega) (by omega)).mono (R' := fun e W' => ∃ A' c', e = .returned (.slice A' n c') ∧ Ints W' W'.heap.size A' n (placeR xs q) ∧ Below wr.heap.size wr W') fun e W' ⟨A', c', h1, h2, h3⟩ => ⟨A', c', h1, by have := h2.ints; rwa [placeR_length, HL.out] at this, hb.trans (h3.mono hb.size)⟩
        have RW := fun (W : World) (A' : Option Addr) (c' : Nat) (hb : Below wr.heap.size wr W) (i : Ints W W.heap.size A' n (placeR xs q)) => (without_any A' n c' k (placeR xs q) W i (by omega) (by omega)).mono (R' := fun e W' => ∃ A' c', e = .returned (.slice A' n' c') ∧ Ints W' W'.heap.size A' n' ((placeR xs q).eraseIdx k) ∧ Below wr.heap.size wr W') fun e W' ⟨A', c', h1, h2, h3⟩ => ⟨A', c', by rw [h1, hInn.len.symm, HN'.out], by have := h2.ints; rwa [hInn.len.symm, HN'.out] at this, hb.trans (h3.mono hb.size)⟩
        have IS : Ints wr wr.heap.size A5 n' L := by have := HS.ints; rwa [HN'.out] at this
        have RN := fun (W : World) (A' : Option Addr) (c' : Nat) (hb : Below wr.heap.size wr W) (i : Ints W W.heap.size A' n' ((placeR xs q).eraseIdx k)) => (numB A5 A' n' n' c5 c' L ((placeR xs q).eraseIdx k) W ((IS.below hb).more hb.size) i (by omega) hInn hpL2).mono (R' := fun e W' => e = .returned (.int .i64 (j : Int)) ∧ Below wr.heap.size wr W') fun e W' ⟨h1, h2⟩ => ⟨by rw [h1, hidx], hb.trans (h2.mono hb.size)⟩
        obtain ⟨hcz, hfz⟩ := HV.cell_ hx0
        have hx0b := HV.2 x0 (List.mem_of_getElem? hx0)
        obtain ⟨y, hyy⟩ : ∃ y, wrap64 (x0 + v) = y := ⟨_, rfl⟩
        have he5 : IntKind.i64.wrap (x0 + v) = y := by rw [wrap_eq, hyy]
        have hyb := wrap64_range (x0 + v)
        rw [hyy] at hstep hyb
        have hj0 : (0 : Int) ≤ (j : Int) := by omega
        have hjM : (j : Int) < (M : Int) := by omega
        have hq1 : (0 : Int) ≤ q := by omega
        have hq2 : (q : Int) < m := by omega
        have HST := Lib.hid hstep
        have HX0 := Lib.hid hx0
        have hgw : gv < wr.heap.size := by
          rcases Nat.lt_or_ge gv wr.heap.size with hh | hh
          · exact hh
          · have := World.cell?_of_block (w := wr) (w' := wr) (a := ⟨gv, j, none⟩) rfl
            have h0 : wr.heap[gv]? = none := Array.getElem?_eq_none hh
            simp [World.cell?, h0] at hcz
        have g0 := (Array.getElem?_eq_some_iff.1 z0).1
        have g3 := (Array.getElem?_eq_some_iff.1 z3).1
        have NX := fun (W : World) (hb : Below wr.heap.size wr W) => (show OwnI (W.setCell ⟨gv, j, none⟩ (.int .i64 y)) w.heap.size 2 (some ⟨gv, 0, none⟩) e5 (scat (idx (behind xs k) (sizeAt xs k)) M (ys.take (q + 1))) ∧ OwnI (W.setCell ⟨gv, j, none⟩ (.int .i64 y)) w.heap.size 3 A5 c5 L ∧ (W.setCell ⟨gv, j, none⟩ (.int .i64 y)).heap[w.heap.size]? = some (.cells #[.slice A n c, .slice (some ⟨b2, off2, none⟩) m e] 25 (0, 0)) ∧
            (W.setCell ⟨gv, j, none⟩ (.int .i64 y)).heap[w.heap.size + 1]? = some (.cells #[.slice none 0 0, .slice none 0 0] 25 (0, 0)) ∧ (W.setCell ⟨gv, j, none⟩ (.int .i64 y)).heap[g]? = some (.cells #[.slice A5 n' c5, .slice (some ⟨gv, 0, none⟩) M e5] 25 (0, 0)) ∧ Below w.heap.size w (W.setCell ⟨gv, j, none⟩ (.int .i64 y)) from
          ⟨by have := (HV.below hb (Nat.le_refl _)).set_ j y hyb; rwa [← HST.out] at this, (HS.below hb (Nat.le_refl _)).other_ (HV.below hb (Nat.le_refl _)) (by decide) j _, (Below.heap_setCell W ⟨gv, j, none⟩ _ _ (fun e => n0 (by rw [e]))).trans (dKeep hb z0), (Below.heap_setCell W ⟨gv, j, none⟩ _ _ (fun e => n2 (by rw [e]))).trans (dKeep hb z2), (Below.heap_setCell W ⟨gv, j, none⟩ _ _ (fun e => n3 (by rw [e]))).trans (dKeep hb z3), (hT.trans (hb.mono hT.size)).setCell (p := ⟨gv, j, none⟩) hgv _⟩)
        clear hidx hInn hpL hpp hM65 hpL2 hx0 hstep hp1 hM1 hprod hs1 hP1 hMM hyy IS hjj HNL
        go_wp2_with fail
        go_region_law (first | (go_simp; go_at_call 72; refine (RP _ ?a0).mono ?_; (case a0 => first | exact (Below.refl _ _).drew | exact Below.refl _ _); rintro x w5 ⟨A6, c6, rfl, i6, hb6⟩; have v0 := (hb6.cell (p := ⟨w.heap.size, 0, none⟩) g0).trans k0; have v1 := (hb6.cell (p := ⟨g, 0, none⟩) g3).trans k6; have v2 := (hb6.cell (p := ⟨g, 1, none⟩) g3).trans k7) | (go_simp; go_at_call 70; refine (RW _ _ _ hb6 i6).mono ?_; rintro x w7 ⟨A8, c8, rfl, i8, hb8⟩; have v0 := (hb8.cell (p := ⟨w.heap.size, 0, none⟩) g0).trans k0; have v1 := (hb8.cell (p := ⟨g, 0, none⟩) g3).trans k6; have v2 := (hb8.cell (p := ⟨g, 1, none⟩) g3).trans k7) | (go_simp; go_at_call 71; refine (RN _ _ _ hb8 i8).mono ?_; rintro x w9 ⟨rfl, hb9⟩; have v0 := (hb9.cell (p := ⟨w.heap.size, 0, none⟩) g0).trans k0; have v1 := (hb9.cell (p := ⟨g, 0, none⟩) g3).trans k6; have v2 := (hb9.cell (p := ⟨g, 1, none⟩) g3).trans k7; have v3 := (hb9.cell (p := ⟨gv, j, none⟩) hgw).trans hcz; have v4 := (hb9.frozen (p := ⟨gv, j, none⟩) hgw).trans hfz))
        all_goals
          clear RP RW RN
          obtain ⟨nx0, nx1, nx2, nx3, nx4, nx5⟩ := NX _ hb9
          clear NX
          go_wp2_with fail
          go_roundw
          case rel => exact ⟨q + 1, by omega, by go_num, nx0, nx1, nx2, nx3, nx4, nx5⟩
          case measure => simp [intOf]; omega
      · obtain rfl : q = m := by omega
        go_wp2_with fail
        obtain ⟨e0, e1⟩ := zcells (a := .slice A5 n' c5) (b := .slice B5 M e5) k4 k5
        rw [List.take_of_length_le (by rw [HL2.out]; omega), ← HV3.out] at HV
        have l1 := HN'.out
        have l2 := HV4.out
        refine bodyPost_ret (v := .tuple #[.agg #[.slice A5 n' c5, .slice B5 M e5], .int .i64 0]) (by simp [results, Try.results25, go_sem, e0, e1]) rfl ⟨A5, c5, B5, e5, by rw [l1, l2], ?_, ?_, ?_⟩
        · exact (HS.other z2 (by decide) _ _).other (by rw [heap_first z2]) (by decide) _ _
        · exact (HV.other z2 (by decide) _ _).other (by rw [heap_first z2]) (by decide) _ _
        · exact (hT.setCell (p := ⟨w.heap.size + 1, 0, none⟩) (by show _ ≤ w.heap.size + 1; omega) _).setCell (p := ⟨w.heap.size + 1, 1, none⟩) (by show _ ≤ w.heap.size + 1; omega) _
  · have e3 := HS0.out.symm
    have e4 := HV0.out.symm
    rw [if_neg hE0] at hzs hzv e3 e4
    have e1 := hzs.out
    have e2 := hzv.out
    subst e1
    subst e2
    subst e3
    subst e4
    have he1 : (E == 0) = false := by simpa using hE0
    have he2 : (E != 0) = true := by simpa using hE0
    clear hE0 hzs hzv
    have k2 := fun o => cellPast o (dCells z2).1
    have k3 := fun o => cellPast o (dCells z2).2.1
    have f2 := fun o => frozenPast o (dCells z2).1 (dCells z2).2.2.1
    have f3 := fun o => frozenPast o (dCells z2).2.1 (dCells z2).2.2.2
    go_wp2_with fail
    obtain ⟨e0, e1⟩ := zcells (a := .slice none 0 0) (b := .slice none 0 0) (k2 (.cells #[.slice A5 0 c5, .slice B5 0 e5] 25)) (k3 (.cells #[.slice A5 0 c5, .slice B5 0 e5] 25))
    refine bodyPost_ret (v := .tuple #[.agg #[.slice none 0 0, .slice none 0 0], .int .i64 E]) (by simp [results, Try.results25, go_sem, e0, e1]) rfl ⟨none, 0, none, 0, rfl, OwnI.nil_ _ _ _, OwnI.nil_ _ _ _, ((hT.alloc hT.size _).setCell (p := ⟨w.heap.size + 1, 0, none⟩) (by show _ ≤ w.heap.size + 1; omega) _).setCell (p := ⟨w.heap.size + 1, 1, none⟩) (by show _ ≤ w.heap.size + 1; omega) _⟩
/-- the document's Sum at any tensor and mode -/
theorem refSum_any (A B : Option Addr) (n c m e : Nat) (mode : Int) (xs ys : List Int) (w : World) (h : Ints w w.heap.size A n xs) (hv : Ints w w.heap.size B m ys) (hn : n ≤ 9223372036854775807) (hnc : n ≤ c) (hm : m ≤ 9223372036854775807) :
    Calls Try.prog 25 #[.agg #[.slice A n c, .slice B m e], .int .i64 mode] w (SumPost w (if sumEF xs m mode = 0 then xs.eraseIdx mode.toNat else []) (if sumEF xs m mode = 0 then sumV xs mode.toNat ys else []) (sumEF xs m mode)) := by
  have hl := h.1
  by_cases hok : checkF xs m = 0 ∧ 0 ≤ mode ∧ mode < xs.length
  · obtain ⟨c1, c2, c3⟩ := hok
    obtain ⟨k, rfl⟩ : ∃ k : Nat, mode = (k : Int) := ⟨mode.toNat, by omega⟩
    have hE : sumEF xs m (k : Int) = (laidF (xs.eraseIdx k)).2 := by unfold sumEF; rw [if_pos c1, if_neg (by omega), Int.toNat_natCast]
    rw [hE, Int.toNat_natCast]
    exact refSum_ok A B n c m e k xs ys w h hv hn hnc hm c1 (by omega)
  · have hne : sumEF xs m mode ≠ 0 := by
      unfold sumEF
      split
      · rename_i h1
        rw [if_pos (by rcases Int.lt_or_le mode 0 with h | h
                       · exact .inl h
                       · rcases Int.lt_or_le mode (xs.length : Int) with h2 | h2
                         · exact absurd ⟨h1, h, h2⟩ hok
                         · exact .inr h2)]
        decide
      · rename_i h1; exact h1
    rw [if_neg hne, if_neg hne]
    exact refSum_err A B n c m e mode xs w h hn hok
end Go.Proofs.Ytbicdbheclldcaa
