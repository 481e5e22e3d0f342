/- The walk of MergeOrder, where all that is named is a thing. -/
import Derived.Test.YtnaehnlpcjaaeaaPMOrdL
import Derived.Deep.RegionWith
namespace Go.Proofs.Ytnaehnlpcjaaeaa
open Go.RowKit

/-- what Order ends in, in one form -/
theorem order_v (LA : Option Addr) (ln lc : Nat) (LL : List (List Int)) (w : World) (h : IntsLL w w.heap.size LA ln LL) (hln : ln ≤ 999) (hll : ∀ L ∈ LL, L.length ≤ 100000) (hin : ∀ L ∈ LL, ∀ y ∈ L, 0 ≤ y ∧ y < (ln : Int)) :
    Calls Try.prog 22 #[.slice LA ln lc] w fun e w' => ∃ o O r co E, e = .returned (.tuple #[.slice O r co, .int .i64 E]) ∧ StepsO LL ln o ∧ ((E = 0 ∧ r = ln ∧ o.length = ln ∧ Ints w' w'.heap.size O r o) ∨ (E = 5 ∧ r = 0 ∧ o.length < ln ∧ ∀ j, ¬ MayO LL ln o j)) ∧ Below w.heap.size w w' := by
  refine (order_in LA ln lc LL w h hln hll hin).mono ?_
  rintro e w' ⟨o, hS, hc, hb⟩
  rcases hc with ⟨hl, A, c, rfl, hO⟩ | ⟨hl, hn, rfl⟩
  · have := hO.ints
    rw [hl] at this
    exact ⟨o, A, ln, c, 0, rfl, hS, .inl ⟨rfl, rfl, hl, this⟩, hb⟩
  · exact ⟨o, none, 0, 0, 5, rfl, hS, .inr ⟨rfl, rfl, hl, hn⟩, hb⟩
set_option maxRecDepth 100000 in
set_option maxHeartbeats 8000000 in
theorem mergeOrder_in (w : World) (A : Option Addr) (n c : Nat) (LL : List (List Int)) (h : IntsLL w w.heap.size A n LL) (hL : ∀ L ∈ LL, L.length ≤ 17592186044416) (s1 : n ≤ 50) (s2 : LL.flatten.length ≤ 500) (hin : ∀ L ∈ LL, ∀ y ∈ L, 0 ≤ y ∧ y < (n : Int)) :
    Calls Try.prog 6 #[.slice A n c] w fun e w' => e = .returned (.bool true) ∧ Below w.heap.size w w' := by
  have hb0 := belowM w (.cells #[.slice A n c] 22)
  have hbx := boxM w A n c
  have cL := mLive_any (w.alloc (.cells #[.slice A n c] 22))
  have c1 := fun W (hb : Below w.heap.size w W) => few_small A n c _ LL W (h.below hb) hL s1 true (decide_eq_true s2)
  have hll : ∀ L ∈ LL, L.length ≤ 500 := fun L hm => by
    have : L.length ≤ LL.flatten.length := (List.sublist_flatten_of_mem hm).length_le
    omega
  have c2 := fun W (hb : Below w.heap.size w W) => order_v A n c LL W ((h.below hb).more hb.size) (by omega) (fun L hm => by have := hll L hm; omega) hin
  have HH := Lib.hid h
  have HLL := Lib.hid hll
  have HIN := Lib.hid hin
  obtain ⟨i2, hi2, hx0, hx1, hx2⟩ := info_parts infoBoolM
  have mk := fun W => run_makeZ (P := Try.prog) 39 4 i2 (.bool false) Try.underlying39 hi2 hx0 rfl hx1 (by omega) n (by omega) W
  clear h hL s2 hin hll
  go_enter Try.func6, Try.ntmps6
  go_wp2_with (first | (go_at_call 9; refine cL.mono ?_; rintro e w1 ⟨rfl, hb1⟩; have hb2 := hb0.trans (hb1.mono hb0.size); have hbx2 := box_below hbx hb1 (by simp); obtain ⟨p1, _⟩ := box_cell hbx2; clear hb1) | (go_at_call 10; refine (c1 w1 hb2).mono ?_; rintro e w2 ⟨rfl, q2, hw2⟩; have hb3 := belowQ hb2 hw2; have hbx3 : w2.heap[w.heap.size]? = some (.cells #[.slice A n c] 22 (0, 0)) := (by rw [hw2]; exact hbx2); clear hw2 p1 hb2; obtain ⟨p2, _⟩ := box_cell hbx3) | (go_at_call 22; refine (c2 w2 hb3).mono ?_; rintro e w3 ⟨o, O, r, co, E, rfl, hSO, hcs, hb4⟩; have HSO := Lib.hid hSO; have HCS := Lib.hid hcs; have HB := Lib.hid (hb3.trans (hb4.mono hb3.size)); have hbx4 := box_below hbx3 hb4 ((Array.getElem?_eq_some_iff.1 hbx3).1); clear hb3 hb4 p2 hSO hcs; obtain ⟨p3, _⟩ := box_cell hbx4))
  have HBX := Lib.hid hbx4
  clear hbx hbx2 hbx3 hbx4 cL c1 c2 hb0
  go_loopw [30] (fun v wr => ∃ (k : Nat), v = .int .i64 (k : Int) ∧ k ≤ n ∧ wr = w3) (fun v _ => n - (intOf v).toNat)
  case atStart => exact ⟨0, rfl, Nat.zero_le _, rfl⟩
  case round =>
    obtain ⟨k, rfl, hk, rfl⟩ := hrel
    obtain ⟨wo, hwo⟩ : ∃ wo : World, wo = wr := ⟨_, rfl⟩
    rw [← hwo] at HB HBX HCS p3 ⊢
    clear hwo
    by_cases hlt : k < n
    · obtain ⟨b, off, L, a, lc, rfl, _, HX, hc1, hcap, hI⟩ := (HH.out.below HB.out).at_ hlt
      have hLb := HLL.out L (List.mem_of_getElem? HX.out)
      have HIL := Lib.hid (HIN.out L (List.mem_of_getElem? HX.out))
      obtain ⟨M, hM⟩ : ∃ M, L.length = M := ⟨_, rfl⟩
      rw [hM] at hc1 hcap hI hLb
      have k0 : (0 : Int) ≤ (k : Int) := by omega
      have k1 : (k : Int) < (n : Int) := by omega
      clear hM
      go_wp2_with fail
      go_loopw [36] (fun v wx => ∃ (j : Nat), v = .int .i64 (j : Int) ∧ j ≤ M ∧ wx = wo) (fun v _ => M - (intOf v).toNat)
      case atStart => exact ⟨0, rfl, Nat.zero_le _, rfl⟩
      case round =>
        obtain ⟨j, rfl, hj, rfl⟩ := hrel
        by_cases hjm : j < M
        · obtain ⟨b3, off3, y, rfl, _, HY, hcy, _, _⟩ := hI.at_ hjm
          have j0 : (0 : Int) ≤ (j : Int) := by omega
          have j1 : (j : Int) < (M : Int) := by omega
          have hyr := HIL.out y (List.mem_of_getElem? HY.out)
          have d0 : decide (y < 0) = false := decide_eq_false (by omega)
          have d1 : decide ((n : Int) ≤ y) = false := decide_eq_false (by omega)
          clear hyr
          go_wp2_with fail
          go_roundw
          case rel => exact ⟨j + 1, by go_num, by omega, by first | trivial | rfl⟩
          case measure => simp [intOf]; omega
        · obtain rfl : j = M := by omega
          clear hjm
          go_wp2_with fail
          go_roundw
          case rel => exact ⟨k + 1, by go_num, by omega, by first | trivial | rfl⟩
          case measure => simp [intOf]; omega
    · obtain rfl : k = n := by omega
      have y0 := (Below.refl wo.heap.size wo).alloc (Nat.le_refl _) (.cells (Array.replicate k (Value.bool false)) 4)
      have y1 := y0.alloc y0.size (.cells #[.slice (some ⟨wo.heap.size, 0, none⟩) k k] 39)
      have g0 := (Below.heap_alloc (wo.alloc (.cells (Array.replicate k (Value.bool false)) 4)) (.cells #[.slice (some ⟨wo.heap.size, 0, none⟩) k k] 39) wo.heap.size (by simp)).trans (heap_alloc_new wo _)
      have g1 := heap_alloc_new (wo.alloc (.cells (Array.replicate k (Value.bool false)) 4)) (.cells #[.slice (some ⟨wo.heap.size, 0, none⟩) k k] 39)
      rw [World.size_alloc] at g1
      have hbg := (Array.getElem?_eq_some_iff.1 HBX.out).1
      have HG1 := Lib.hid g1
      have HY1 := Lib.hid y1
      have HLN : Hid (LL.length = k) := HH.out.1
      have HMAY : Hid (∀ (W : World) (cm : List Bool) (i : Nat), Below wo.heap.size wo W → W.heap[wo.heap.size]? = some (.cells (cm.map Value.bool).toArray 4 (0, 0)) → W.heap[wo.heap.size + 1]? = some (.cells #[.slice (some ⟨wo.heap.size, 0, none⟩) k k] 39 (0, 0)) → cm.length = k → i < k → ∀ R, mayC LL cm i = R → Calls Try.prog 23 #[.int .i64 i, .pointer (some ⟨wo.heap.size + 1, 0, none⟩), .pointer (some ⟨w.heap.size, 0, none⟩)] W fun e w' => e = .returned (.bool R) ∧ ∃ q, w' = W.drewN q) := fun W cm i hb hc h1 hcm hi R hR => by
        have hLm : LL.getD i [] ∈ LL := getD_mem (by have := HLN.out; omega)
        exact mayM_any (wo.heap.size + 1) w.heap.size wo.heap.size k c w.heap.size i A LL cm W h1 (box_below HBX.out hb hbg) hc (HH.out.below (HB.out.trans (hb.mono HB.out.size))) hcm hi (by omega) (HIN.out _ hLm) (by have := HLL.out _ hLm; omega) R hR
      clear hlt hk y0 y1 g1
      rcases HCS.out with ⟨hE, hr, hol, hOI⟩ | ⟨hE, hr, hol, hno⟩
      · subst hE
        have hr' := hr.symm
        subst hr'
        have HOI := Lib.hid hOI
        have HOL := Lib.hid hol
        have HC0 : Hid (((wo.alloc (.cells (Array.replicate k (Value.bool false)) 4)).alloc (.cells #[.slice (some ⟨wo.heap.size, 0, none⟩) k k] 39)).heap[wo.heap.size]? = some (.cells ((cmO k (o.take 0)).map Value.bool).toArray 4 (0, 0))) := by
          unfold Hid
          rw [List.take_zero, cmO_nil, List.map_replicate, List.toArray_replicate]
          exact g0
        have e1 : ((k : Int) != (k : Int)) = false := by simp
        clear hr hol hOI g0 HCS
        go_wp2_with fail
        go_loopw [73] (fun v wx => ∃ (j : Nat), v = .int .i64 (j : Int) ∧ j ≤ k ∧ Hid (wx.heap[wo.heap.size]? = some (.cells ((cmO k (o.take j)).map Value.bool).toArray 4 (0, 0))) ∧ Hid (wx.heap[wo.heap.size + 1]? = some (.cells #[.slice (some ⟨wo.heap.size, 0, none⟩) k k] 39 (0, 0))) ∧ Hid (Below wo.heap.size wo wx)) (fun v _ => k - (intOf v).toNat)
        case atStart => exact ⟨0, rfl, Nat.zero_le _, HC0, HG1, HY1⟩
        case round =>
          clear HC0 HG1 HY1
          obtain ⟨j, rfl, hj, HC, HG, HY⟩ := hrel
          obtain ⟨p4, _⟩ := box_cell (box_below HBX.out HY.out hbg)
          obtain ⟨p5, _⟩ := box_cell HG.out
          by_cases hlt : j < k
          · obtain ⟨b3, off3, x, rfl, _, HX, hcx, _, _⟩ := (HOI.out.below HY.out).at_ hlt
            obtain ⟨i, hi, hin⟩ := HSO.out.rng x (List.mem_of_getElem? HX.out)
            rw [hi] at hcx
            have hXi := HX.out
            rw [hi] at hXi
            obtain ⟨hm1, hm2⟩ := HSO.out.step j i hXi
            have cM := HMAY.out wr (cmO k (o.take j)) i HY.out HC.out HG.out (cmO_len _ _) hin true ((mayC_cmO hin HIN.out HLN.out).2 hm1)
            have HM2 := Lib.hid hm2
            have HXI := Lib.hid hXi
            have j0 : (0 : Int) ≤ (j : Int) := by omega
            have j1 : (j : Int) < (k : Int) := by omega
            have d1 : decide ((k : Int) ≤ (i : Int)) = false := decide_eq_false (by omega)
            have d2 : decide (k ≤ i) = false := decide_eq_false (by omega)
            obtain ⟨wb, hwb⟩ : ∃ wb : World, wb = wr := ⟨_, rfl⟩
            rw [← hwb] at HC HG HY p4 p5 hcx cM ⊢
            clear hi hXi hm1 hm2 hwb HX
            go_wp2_with (go_at_call 23; refine cM.mono ?_; rintro e w5 ⟨rfl, q5, rfl⟩)
            clear cM hcx
            go_loopw [92] (fun v wx => ∃ (m q : Nat), v = .int .i64 (m : Int) ∧ m ≤ i ∧ wx = wb.drewN q) (fun v _ => i - (intOf v).toNat)
            case atStart => exact ⟨0, q5, rfl, Nat.zero_le _, rfl⟩
            case round =>
              clear p4 p5
              obtain ⟨m, q, rfl, hm, hwr⟩ := hrel
              have HCr : Hid (wr.heap[wo.heap.size]? = some (.cells ((cmO k (o.take j)).map Value.bool).toArray 4 (0, 0))) := by rw [hwr]; exact HC.out
              have HGr : Hid (wr.heap[wo.heap.size + 1]? = some (.cells #[.slice (some ⟨wo.heap.size, 0, none⟩) k k] 39 (0, 0))) := by rw [hwr]; exact HG.out
              have HYr := Lib.hid (belowQ HY.out hwr)
              have HWR := Lib.hid hwr
              clear hwr
              by_cases hmi : m < i
              · have hf : mayC LL (cmO k (o.take j)) m = false := by
                  cases e : mayC LL (cmO k (o.take j)) m
                  · rfl
                  · have := HM2.out m ((mayC_cmO (by omega) HIN.out HLN.out).1 e); omega
                have cM2 := HMAY.out wr (cmO k (o.take j)) m HYr.out HCr.out HGr.out (cmO_len _ _) (by omega) false hf
                have m1 : (m : Int) < (i : Int) := by omega
                clear hf
                go_wp2_with (go_at_call 23; refine cM2.mono ?_; rintro e w6 ⟨rfl, q6, hw6⟩)
                go_roundw
                case rel => exact ⟨m + 1, _, by go_num, by omega, by rw [HWR.out]; exact World.drewN_drewN _ _ _⟩
                case measure => simp [intOf]; omega
              · obtain rfl : m = i := by omega
                obtain ⟨p6, _⟩ := box_cell HGr.out
                have hca : ((cmO k (o.take j)).map Value.bool)[m]? = some (.bool ((cmO k (o.take j)).getD m false)) := by
                  rw [List.getElem?_map, List.getD_eq_getElem?_getD, List.getElem?_eq_getElem (by rw [cmO_len]; exact hin)]; rfl
                obtain ⟨p7, p8⟩ := blk_cell HCr.out hca
                have hset := blk_set HCr.out (i := m) (.bool true)
                rw [map_set_, ← cmO_snoc, ← take_succ_of HXI.out] at hset
                have HCs := Lib.hid hset
                have HGs : Hid ((wr.setCell ⟨wo.heap.size, m, none⟩ (.bool true)).heap[wo.heap.size + 1]? = some (.cells #[.slice (some ⟨wo.heap.size, 0, none⟩) k k] 39 (0, 0))) := (Below.heap_setCell wr ⟨wo.heap.size, m, none⟩ _ _ (fun e => by simp at e)).trans HGr.out
                have HYs := Lib.hid (HYr.out.setCell (p := ⟨wo.heap.size, m, none⟩) (Nat.le_refl _) (.bool true))
                have m0 : (0 : Int) ≤ (m : Int) := by omega
                have m1 : (m : Int) < (k : Int) := by omega
                clear hmi hca hset d1 d2
                go_wp2_with fail
                go_roundw
                case rel => exact ⟨j + 1, by go_num, by omega, HCs, HGs, HYs⟩
                case measure => simp [intOf]; omega
          · obtain rfl : j = k := by omega
            clear hlt
            go_wp2_with fail
            go_ret
            exact ⟨rfl, HB.out.trans (HY.out.mono HB.out.size)⟩
      · subst hE
        have hr' := hr.symm
        subst hr'
        have HNO := Lib.hid hno
        have HOL := Lib.hid hol
        have HG0 := Lib.hid g0
        have HC0 : Hid (((wo.alloc (.cells (Array.replicate k (Value.bool false)) 4)).alloc (.cells #[.slice (some ⟨wo.heap.size, 0, none⟩) k k] 39)).heap[wo.heap.size]? = some (.cells ((List.replicate k false).map Value.bool).toArray 4 (0, 0))) := by
          unfold Hid
          rw [List.map_replicate, List.toArray_replicate]
          exact g0
        obtain ⟨p4, _⟩ := box_cell (box_below HBX.out HY1.out hbg)
        clear hr hol hno g0 HCS
        go_wp2_with fail
        go_loopw [113] (fun v wx => ∃ (j : Nat) (cm : List Bool), v = .int .i64 (j : Int) ∧ j ≤ k ∧ Hid (SubO k o cm) ∧ Hid (wx.heap[wo.heap.size]? = some (.cells (cm.map Value.bool).toArray 4 (0, 0))) ∧ Hid (wx.heap[wo.heap.size + 1]? = some (.cells #[.slice (some ⟨wo.heap.size, 0, none⟩) k k] 39 (0, 0))) ∧ Hid (Below wo.heap.size wo wx)) (fun v _ => k - (intOf v).toNat)
        case atStart => exact ⟨0, _, rfl, Nat.zero_le _, SubO.start k o, HC0, HG1, HY1⟩
        case round =>
          clear HC0 HG1 HY1 p4
          obtain ⟨j, cm, rfl, hj, HSU, HC, HG, HY⟩ := hrel
          obtain ⟨p4, _⟩ := box_cell (box_below HBX.out HY.out hbg)
          obtain ⟨p5, _⟩ := box_cell HG.out
          obtain ⟨wb, hwb⟩ : ∃ wb : World, wb = wr := ⟨_, rfl⟩
          rw [← hwb] at HC HG HY p4 p5 ⊢
          clear hwb
          by_cases hlt : j < k
          · have j1 : (j : Int) < (k : Int) := by omega
            go_wp2_with fail
            go_loopw [117] (fun v wx => ∃ (i : Nat) (cm : List Bool), v = .int .i64 (i : Int) ∧ i ≤ k ∧ Hid (SubO k o cm) ∧ Hid (wx.heap[wo.heap.size]? = some (.cells (cm.map Value.bool).toArray 4 (0, 0))) ∧ Hid (wx.heap[wo.heap.size + 1]? = some (.cells #[.slice (some ⟨wo.heap.size, 0, none⟩) k k] 39 (0, 0))) ∧ Hid (Below wo.heap.size wo wx)) (fun v _ => k - (intOf v).toNat)
            case atStart => exact ⟨0, cm, rfl, Nat.zero_le _, HSU, HC, HG, HY⟩
            case round =>
              clear HSU HC HG HY p4 p5
              obtain ⟨i, cm, rfl, hi, HSU, HC, HG, HY⟩ := hrel
              by_cases hik : i < k
              · obtain ⟨p6, _⟩ := box_cell HG.out
                have hcl := HSU.out.1
                have hca : (cm.map Value.bool)[i]? = some (.bool (cm.getD i false)) := by
                  rw [List.getElem?_map, List.getD_eq_getElem?_getD, List.getElem?_eq_getElem (by omega)]; rfl
                obtain ⟨p7, p8⟩ := blk_cell HC.out hca
                have hT := HSU.out.turn HIN.out HLN.out HNO.out hik
                obtain ⟨R, hR⟩ : ∃ R, mayC LL cm i = R := ⟨_, rfl⟩
                rw [hR] at hT
                have cM := fun (W : World) (q : Nat) (hq : W = wr.drewN q) => HMAY.out W cm i (belowQ HY.out hq) (by rw [hq]; exact HC.out) (by rw [hq]; exact HG.out) hcl hik R hR
                have i0' : (0 : Int) ≤ (i : Int) := by omega
                have i1 : (i : Int) < (k : Int) := by omega
                obtain ⟨bv, hbv⟩ : ∃ bv, cm.getD i false = bv := ⟨_, rfl⟩
                rw [hbv] at p7 hT
                have hset := blk_set HC.out (i := i) (.bool (bv || R))
                rw [map_set_] at hset
                have HT := Lib.hid hT
                have HCs := Lib.hid hset
                have HGs : Hid ((wr.setCell ⟨wo.heap.size, i, none⟩ (.bool (bv || R))).heap[wo.heap.size + 1]? = some (.cells #[.slice (some ⟨wo.heap.size, 0, none⟩) k k] 39 (0, 0))) := (Below.heap_setCell wr ⟨wo.heap.size, i, none⟩ _ _ (fun e => by simp at e)).trans HG.out
                have HYs := Lib.hid (HY.out.setCell (p := ⟨wo.heap.size, i, none⟩) (Nat.le_refl _) (.bool (bv || R)))
                clear hca hT hR hbv hset
                cases bv with
                | true =>
                  simp only [Bool.true_or] at HT HCs HGs HYs
                  go_wp2_with fail
                  go_region
                  all_goals
                    go_wp2_with fail
                    go_roundw
                    case rel => exact ⟨i + 1, _, by go_num, by omega, HT, HCs, HGs, ⟨HYs.out.os, HYs.out.tape, HYs.out.output, HYs.out.size, HYs.out.block⟩⟩
                    case measure => simp [intOf]; omega
                | false =>
                  simp only [Bool.false_or] at HT HCs HGs HYs
                  go_wp2_with fail
                  go_region_with (go_at_call 23; refine (cM _ 1 rfl).mono ?_; rintro e w5 ⟨rfl, q5, rfl⟩)
                  all_goals
                    go_wp2_with fail
                    go_roundw
                    case rel => exact ⟨i + 1, _, by go_num, by omega, HT, HCs, HGs, ⟨HYs.out.os, HYs.out.tape, HYs.out.output, HYs.out.size, HYs.out.block⟩⟩
                    case measure => simp [intOf]; omega
              · obtain rfl : i = k := by omega
                clear hik
                go_wp2_with fail
                go_roundw
                case rel => exact ⟨j + 1, cm, by go_num, by omega, HSU, HC, HG, HY⟩
                case measure => simp [intOf]; omega
          · obtain rfl : j = k := by omega
            clear hlt
            go_wp2_with fail
            go_loopw [136] (fun v wx => ∃ (i : Nat), v = .int .i64 (i : Int) ∧ i ≤ j ∧ Hid (∀ p, p < i → cm.getD p false = true) ∧ wx = wb) (fun v _ => j - (intOf v).toNat)
            case atStart => exact ⟨0, rfl, Nat.zero_le _, fun p hp => absurd hp (by omega), rfl⟩
            case round =>
              obtain ⟨i, rfl, hi, HA, rfl⟩ := hrel
              by_cases hik : i < j
              · have hca : (cm.map Value.bool)[i]? = some (.bool (cm.getD i false)) := by
                  rw [List.getElem?_map, List.getD_eq_getElem?_getD, List.getElem?_eq_getElem (by rw [HSU.out.1]; exact hik)]; rfl
                obtain ⟨p7, _⟩ := blk_cell HC.out hca
                have i0' : (0 : Int) ≤ (i : Int) := by omega
                have i1 : (i : Int) < (j : Int) := by omega
                by_cases hcv : cm.getD i false = true
                · rw [hcv] at p7
                  have HA2 : Hid (∀ p, p < i + 1 → cm.getD p false = true) := fun p hp => by
                    by_cases e : p = i
                    · rw [e]; exact hcv
                    · exact HA.out p (by omega)
                  clear hcv hca
                  go_wp2_with fail
                  go_roundw
                  case rel => exact ⟨i + 1, by go_num, by omega, HA2, by first | trivial | rfl⟩
                  case measure => simp [intOf]; omega
                · have hcf : cm.getD i false = false := by cases e : cm.getD i false with | false => rfl | true => exact absurd e hcv
                  rw [hcf] at p7
                  clear hcv hca hcf
                  go_wp2_with fail
                  go_ret
                  exact ⟨rfl, HB.out.trans (HY.out.mono HB.out.size)⟩
              · exfalso
                obtain ⟨p, hp, hpf⟩ := HSU.out.left HOL.out
                have := HA.out p (by omega)
                rw [hpf] at this
                cases this
theorem mergeOrder_any (w : World) (A : Option Addr) (n c : Nat) (LL : List (List Int)) (h : IntsLL w w.heap.size A n LL) (hn : n ≤ 5864062014805) (_ : n ≤ c) (hL : ∀ L ∈ LL, L.length ≤ 17592186044416) :
    Calls Try.prog 6 #[.slice A n c] w fun e w' => e = .returned (.bool true) ∧ Below w.heap.size w w' := by
  by_cases hs : n ≤ 50 ∧ LL.flatten.length ≤ 500
  · by_cases hin : ∀ L ∈ LL, ∀ y ∈ L, 0 ≤ y ∧ y < (n : Int)
    · exact mergeOrder_in w A n c LL h hL hs.1 hs.2 hin
    · exact mergeOrder_out w A n c LL h hL hs.1 hs.2 hin
  · exact mergeOrder_many w A n c LL h hn hL hs
end Go.Proofs.Ytnaehnlpcjaaeaa
