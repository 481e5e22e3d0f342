/- The document's Walk. -/
import Derived.Test.YtnaehnlpcjaaeaaPMRefU
import Derived.Test.YtnaehnlpcjaaeaaPMPick
import Derived.Deep.RegionLaw
namespace Go.Proofs.Ytnaehnlpcjaaeaa
open Go.RowKit

theorem whereI_place {L : List Int} (hR : L.Pairwise (· < ·)) {n i : Int} (h : WhereI L n i) : i = placeI L n := by
  rcases h with ⟨h1, rfl⟩ | ⟨j, rfl, h1, _⟩
  · exact (placeI_none h1).symm
  · exact (placeI_of hR h1).symm
theorem whereI_bound {L : List Int} {n i : Int} (h : WhereI L n i) (hl : L.length ≤ 10000) : -1 ≤ i ∧ i ≤ 10000 := by
  rcases h with ⟨_, rfl⟩ | ⟨j, rfl, h1, _⟩
  · omega
  · have := (List.getElem?_eq_some_iff.1 h1).1; omega
set_option maxRecDepth 100000 in
set_option maxHeartbeats 8000000 in
theorem refWalk_v (E : Int) (LA : Option Addr) (ln lc : Nat) (LL : List (List Int)) (w : World) (h : IntsLL w w.heap.size LA ln LL) (hln : ln ≤ 1000) (hT : LL.flatten.length ≤ 10000) (hE : ErrU LL E) :
    Calls Try.prog 18 #[.slice LA ln lc] w fun e w' => ∃ ps A r c, e = .returned (.tuple #[.slice A r c, .int .i64 E]) ∧ Stops w' w'.heap.size A r ps ∧ r ≤ 10000 ∧ (∀ s ∈ ps, s.n = ln) ∧ (E = 0 → ∃ u, UnionI LL u ∧ ps.map keyS = u.map fun v => (v, LL.map fun L => placeI L v)) ∧ (E = 1 → ps = []) ∧ Below w.heap.size w w' := by
  have cU := refUnion_v E LA ln lc LL w h hln hT hE
  have hE2 : (E = 0 ∧ AllRise LL) ∨ E = 1 := by rcases hE with ⟨h0, h1⟩ | ⟨_, h1⟩; exact .inl ⟨h1, h0⟩; exact .inr h1
  have HLB : Hid (∀ L ∈ LL, L.length ≤ 10000) := fun L hL => by
    have : L.length ≤ LL.flatten.length := (List.sublist_flatten_of_mem hL).length_le
    omega
  obtain ⟨i0, hi0, hz0, hz1, hz2⟩ := info_parts infoInt
  have HLN : Hid (LL.length = ln) := h.1
  have HH := Lib.hid h
  have HT := Lib.hid hT
  clear h hT hE
  rcases hE2 with ⟨rfl, hR⟩ | rfl
  · have HR := Lib.hid hR
    clear hR
    go_enter Try.func18, Try.ntmps18
    go_wp2_with (go_at_call 14; refine cU.mono ?_; rintro e w1 ⟨u, A, r, c, rfl, hI, hrc, hU, _, hb1⟩; have HI := Lib.hid hI; have HB1 := Lib.hid hb1; clear hI hb1)
    have HU := Lib.hid (hU (by trivial))
    have hul := HU.out.len
    have hru := HI.out.1
    have hr4 : r ≤ 10000 := by have := HT.out; omega
    clear hU hul hru
    go_loopw [22, 6] (fun v s wr => ∃ (k : Nat) (ps : List St) (H : Option Addr) (ch : Nat), v = .int .i64 (k : Int) ∧ s = .slice H k ch ∧ k ≤ r ∧ Hid (ps.length = k) ∧ Hid (ps.map keyS = (u.take k).map fun v => (v, LL.map fun L => placeI L v)) ∧ Hid (PickW wr w1.heap.size ln H ch ps) ∧ Hid (Below w1.heap.size w1 wr)) (fun v _ _ => r - (intOf v).toNat)
    case atStart => exact ⟨0, [], none, 0, rfl, rfl, Nat.zero_le _, rfl, by unfold Hid; simp, ⟨OwnS.nil_ _ _, fun s hs => by cases hs⟩, Below.refl _ _⟩
    case round =>
      obtain ⟨k, ps, H, ch, rfl, rfl, hk, HPL, HPK, HPW, HX⟩ := hrel
      obtain ⟨wo, hwo⟩ : ∃ wo : World, wo = wr := ⟨_, rfl⟩
      rw [← hwo] at HPW HX ⊢
      clear hwo
      by_cases hlt : k < r
      · obtain ⟨b, off, n, rfl, _, HY, hcy, hn1, hn2⟩ := (HI.out.below HX.out).at_ hlt
        have k0 : (0 : Int) ≤ (k : Int) := by omega
        have k1 : (k : Int) < (r : Int) := by omega
        have HN := Lib.hid (And.intro hn1 hn2)
        have HTK := Lib.hid (take_succ_of HY.out)
        have hbx := belowM wo (.cells #[.int .i64 n, .slice none 0 0] 36)
        have HB0 := Lib.hid hbx
        have HX0 : Hid ((wo.alloc (.cells #[.int .i64 n, .slice none 0 0] 36)).heap[wo.heap.size]? = some (.cells #[.int .i64 n, .slice none 0 0] 36 (0, 0))) := heap_alloc_new wo _
        have hz0' : wo.heap.size + 1 ≤ (wo.alloc (.cells #[.int .i64 n, .slice none 0 0] 36)).heap.size := by simp
        clear HY hbx
        go_wp2_with fail
        go_loopw [30] (fun v wx => ∃ (j : Nat) (X : Option Addr) (cx : Nat), v = .int .i64 (j : Int) ∧ j ≤ ln ∧ Hid (wx.heap[wo.heap.size]? = some (.cells #[.int .i64 n, .slice X j cx] 36 (0, 0))) ∧ Hid (OwnI wx (wo.heap.size + 1) 3 X cx ((LL.take j).map fun L => placeI L n)) ∧ Hid (Below wo.heap.size wo wx) ∧ wo.heap.size + 1 ≤ wx.heap.size) (fun v _ => ln - (intOf v).toNat)
        case atStart => exact ⟨0, none, 0, rfl, Nat.zero_le _, HX0, OwnI.nil_ _ _ _, HB0, hz0'⟩
        case round =>
          clear HX0 HB0 hz0' hcy
          obtain ⟨j, X, cx, rfl, hj, HBX, HO, HBW, hzw⟩ := hrel
          have hbw := (HB1.out.trans (HX.out.mono HB1.out.size)).trans (HBW.out.mono (Nat.le_trans HB1.out.size HX.out.size))
          by_cases hjn : j < ln
          · obtain ⟨b3, off3, L, a, lc', rfl, _, HL, hc1, hcap, hIL⟩ := (HH.out.below hbw).at_ hjn
            have hLm := List.mem_of_getElem? HL.out
            have hLb := HLB.out L hLm
            have cW := fun (W : World) (hW : W = wr.drew) => refWhere_any a L.length lc' w.heap.size L n W (by rw [hW]; exact hIL) (by omega)
            have HTJ := Lib.hid (take_succ_of HL.out)
            have HRL := Lib.hid (HR.out L hLm)
            have HLB1 := Lib.hid hLb
            have HML : Hid (((LL.take j).map fun L => placeI L n).length = j) := by unfold Hid; rw [List.length_map, List.length_take, HLN.out]; omega
            obtain ⟨M, hM⟩ : ∃ M, L.length = M := ⟨_, rfl⟩
            rw [hM] at hc1 cW
            have j0 : (0 : Int) ≤ (j : Int) := by omega
            have j1 : (j : Int) < (ln : Int) := by omega
            obtain ⟨p0, p1⟩ := blk_cell (cs := [.int .i64 n, .slice X j cx]) (i := 1) HBX.out rfl
            have hbd : j + 1 ≤ 1000000 := by omega
            have C1 := fun o => cellPast o p0
            clear hLm hLb hM hIL hbw hcap
            go_wp2_with fail
            go_region_law (first | (refine step_appendWhere rfl (.tmp 35) (.tmp 39) 25 rfl (wo.heap.size + 1) 3 i0 Try.underlying25 hi0 hz0 hz1 hz2 X (some ⟨w5.heap.size, 0, none⟩) cx 1 1 (w5.heap.size + 1) j (j + 1) _ [i] rfl rfl (HO5.out.alloc _) HML.out rfl (src_new w5 ⟨by omega, by omega⟩) hbd (by simp; omega) ?_; intro X6 c6 w6 HO6 HG6 HW6; have hb0 : Below (wo.heap.size + 1) w5 (w5.alloc (.cells #[.int .i64 i] 3)) := (belowM w5 _).mono hz5; have hb6 := below_app hb0 HG6 (HO5.out.alloc _) HML.out (by simp; omega); have l6 := (hb6.block wo.heap.size (Nat.lt_succ_self _)).trans HX5.out; obtain ⟨l0, l1⟩ := blk_cell (cs := [.int .i64 n, .slice X j cx]) (i := 1) l6 rfl) | (go_simp; go_at_call 29; refine (cW _ rfl).mono ?_; rintro e w5 ⟨i, rfl, hW, q5, hw5⟩; have hib := whereI_bound hW HLB1.out; have HPI := Lib.hid (whereI_place HRL.out hW); have HO5 : Hid (OwnI w5 (wo.heap.size + 1) 3 X cx ((LL.take j).map fun L => placeI L n)) := (by rw [hw5]; exact HO.out); have HX5 : Hid (w5.heap[wo.heap.size]? = some (.cells #[.int .i64 n, .slice X j cx] 36 (0, 0))) := (by rw [hw5]; exact HBX.out); have HBW5 := Lib.hid (belowQ (w1 := wr.drew) ⟨HBW.out.os, HBW.out.tape, HBW.out.output, HBW.out.size, HBW.out.block⟩ hw5); have hz5 : wo.heap.size + 1 ≤ w5.heap.size := (by rw [hw5]; exact hzw); obtain ⟨m0, m1⟩ := blk_cell (cs := [.int .i64 n, .slice X j cx]) (i := 1) HX5.out rfl; have C5 := fun o => cellPast o m0; clear hW hw5))
            all_goals
              have HB7 : Hid ((w6.setCell ⟨wo.heap.size, 1, none⟩ (.slice X6 (j + 1) c6)).heap[wo.heap.size]? = some (.cells #[.int .i64 n, .slice X6 (j + 1) c6] 36 (0, 0))) := blk_set (cs := [.int .i64 n, .slice X j cx]) (i := 1) l6 (.slice X6 (j + 1) c6)
              have HO7 : Hid (OwnI (w6.setCell ⟨wo.heap.size, 1, none⟩ (.slice X6 (j + 1) c6)) (wo.heap.size + 1) 3 X6 c6 ((LL.take (j + 1)).map fun L => placeI L n)) := by
                unfold Hid
                rw [HTJ.out, List.map_append, List.map_cons, List.map_nil, ← HPI.out]
                exact HO6.setBelow (a := ⟨wo.heap.size, 1, none⟩) (Nat.lt_succ_self _) _
              have HW7 := Lib.hid ((HBW5.out.trans (hb6.mono (Nat.le_succ _))).setCell (p := ⟨wo.heap.size, 1, none⟩) (Nat.le_refl _) (.slice X6 (j + 1) c6))
              have hz7 : wo.heap.size + 1 ≤ (w6.setCell ⟨wo.heap.size, 1, none⟩ (.slice X6 (j + 1) c6)).heap.size := by have := hb6.size; simp; omega
              clear HO6 HG6 HW6 hb0 hb6 l0 l1 l6 m0 m1 C5 cW
              go_wp2_with fail
              go_roundw
              case rel => exact ⟨j + 1, X6, c6, by go_num, by omega, HB7, HO7, HW7, hz7⟩
              case measure => simp [intOf]; omega
          · obtain rfl : j = ln := by omega
            have he : LL.take j = LL := by rw [← HLN.out, List.take_length]
            rw [he] at HO
            have HPr := Lib.hid (HPW.out.below HBW.out (Nat.le_refl _))
            have hz := HX.out.size
            have hzr := HBW.out.size
            have HXr := Lib.hid (HX.out.trans (HBW.out.mono hz))
            obtain ⟨p0, _⟩ := blk_cell (cs := [.int .i64 n, .slice X j cx]) (i := 0) HBX.out rfl
            obtain ⟨p1, _⟩ := blk_cell (cs := [.int .i64 n, .slice X j cx]) (i := 1) HBX.out rfl
            clear hjn he hbw hj
            go_wp2_with (at_builtin; refine wpList_appendStop rfl (.tmp 43) (.tmp 45) rfl w1.heap.size H ch k (k + 1) ⟨n, X, j, cx, LL.map fun L => placeI L n⟩ ps rfl rfl HPr.out.rows HPL.out rfl (by omega) (by omega) ?_; intro H7 c7 w7 HO7 HG7)
            go_roundw
            case rel =>
              have hb7 := below_appS (Below.refl w1.heap.size wr) HG7 HPr.out.rows (by omega)
              refine ⟨k + 1, ps ++ [⟨n, X, j, cx, LL.map fun L => placeI L n⟩], H7, c7, by go_num, rfl, by omega, by unfold Hid; rw [List.length_append, HPL.out]; rfl, ?_, HPr.out.app HO7 HG7 ⟨HO.out.mono (by omega), by rw [List.length_map, HLN.out], rfl, HN.out.1, HN.out.2⟩, HXr.out.trans hb7⟩
              unfold Hid
              rw [HTK.out, List.map_append, List.map_append, HPK.out]
              rfl
            case measure => simp [intOf]; omega
      · obtain rfl : k = r := by omega
        have he : u.take k = u := by rw [← HI.out.1, List.take_length]
        rw [he] at HPK
        have HST := Lib.hid HPW.out.stops
        rw [HPL.out] at HST
        clear hlt he
        go_wp2_with fail
        go_ret2
        exact ⟨ps, H, k, ch, rfl, HST.out, hr4, fun s hs => (HPW.out.ins s hs).2.2.1, fun _ => ⟨u, HU.out, HPK.out⟩, fun h => (by cases h), HB1.out.trans (HX.out.mono HB1.out.size)⟩
  · go_enter Try.func18, Try.ntmps18
    go_wp2_with (go_at_call 14; refine cU.mono ?_; rintro e w1 ⟨u, A, r, c, rfl, _, _, _, _, hb1⟩)
    go_ret2
    exact ⟨[], none, 0, 0, rfl, Stops.nil_, Nat.zero_le _, fun s hs => (by cases hs), fun h => (by cases h), fun _ => rfl, hb1⟩
end Go.Proofs.Ytnaehnlpcjaaeaa
