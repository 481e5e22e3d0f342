/- The document's Of of layer 2: the list of the cells that are not 0. -/
import Derived.Test.YtpfabbapfmfmmaaG16
import Derived.Test.YtpfabbapfmfmmaaG4
import Derived.Test.YtpfabbapfmfmmaaG2
namespace Go.Proofs.Ytpfabbapfmfmmaa
open Go.RowKit

set_option maxRecDepth 100000 in
set_option maxHeartbeats 8000000 in
theorem refOfV_ok (A B : Option Addr) (n c m e : Nat) (xs ys : List Int) (w : World) (h : DenV w A n B m xs ys) (hck : checkF xs m = 0) :
    Calls Try.prog 32 #[.agg #[.slice A n c, .slice B m e]] w fun x w' => ∃ A1 c1 A2 m2 c2 Ts, x = .returned (.tuple #[.agg #[.slice A1 n c1, .slice A2 m2 c2], .int .i64 0]) ∧ CooV w' A1 n A2 m2 xs Ts ∧ Hid (Ts.map keyE = ofK xs 0 ys) ∧ m2 ≤ m ∧ Below w.heap.size w w' := by
  obtain ⟨c1', c2', c3'⟩ := check_parts hck
  have hn4 : n ≤ 4 := by rw [← h.1.1]; exact (cellsF_ok c1').1
  have hnn := laidF_nonneg (xs := xs)
  have hla := laidF_ok c2'
  have hm5 : m ≤ 65536 := by omega
  have hNm : (cellsF xs).1 = (m : Int) := by rw [← hla.2]; exact c3'.symm
  have z0 := (Below.refl w.heap.size w).alloc (Nat.le_refl _) (.cells #[.slice A n c, .slice B m e] 41)
  have z1 := z0.alloc z0.size (.cells #[.slice none 0 0, .slice none 0 0] 25)
  have b1 := (Below.heap_alloc (w.alloc (.cells #[.slice A n c, .slice B m e] 41)) (.cells #[.slice none 0 0, .slice none 0 0] 25) _ (lt_of_heap (heap_alloc_new w (.cells #[.slice A n c, .slice B m e] 41)))).trans (heap_alloc_new w (.cells #[.slice A n c, .slice B m e] 41))
  have b2 := heap_alloc_new (w.alloc (.cells #[.slice A n c, .slice B m e] 41)) (.cells #[.slice none 0 0, .slice none 0 0] 25)
  rw [World.size_alloc] at b2
  have HCK := fun W (hb : Below w.heap.size w W) => refCheck_any A B n c m e xs W (h.below hb).1 (by omega)
  rw [hck] at HCK
  have HII := fun W (hb : Below w.heap.size w W) => (h.below hb).1
  obtain ⟨i0, hi0, hz0, hz1, hz2⟩ := info_parts infoInt
  have HCO : ∀ (k : Nat), k < m → ∀ W, Below w.heap.size w W → Calls Try.prog 64 #[.slice A n c, .int .i64 (k : Int)] W fun e w' => ∃ A' c', e = .returned (.tuple #[.slice A' n c', .int .i64 0]) ∧ OwnI w' W.heap.size 3 A' c' (placeR xs (k : Int)) ∧ Below W.heap.size W w' := fun k hk W hb => by
    have hq := refCoord_any A n c xs (k : Int) W (h.below hb).1 (by omega) (by omega) (by omega)
    have hF : coordF xs (k : Int) = (placeR xs (k : Int), 0) := by unfold coordF; rw [if_pos c1', hNm, if_pos (by omega)]
    rw [hF] at hq
    have hl : (placeR xs (k : Int)).length = n := by rw [placeR_length]; exact h.1.1
    dsimp only at hq
    rw [hl] at hq
    exact hq
  have HYS := fun W (hb : Below w.heap.size w W) => (h.below hb).2
  have HYL : Hid (ys.length = m) := h.2.1
  have HXL : Hid (xs.length = n) := h.1.1
  clear h hck c1' c2' c3' hla hNm z0
  go_enter Try.func32, Try.ntmps32
  go_wp2_with fail
  refine (HCK _ z1).mono ?_
  rintro x w1 ⟨rfl, hb1⟩
  have hsz0 : w.heap.size + 2 ≤ w1.heap.size := by have := hb1.size; simp at this; omega
  have hb := z1.trans (hb1.mono z1.size)
  have q1 := (hb1.block w.heap.size (by simp; omega)).trans b1
  have q2 := (hb1.block (w.heap.size + 1) (by simp)).trans b2
  obtain ⟨k0, k1, _, _⟩ := pair_cells q1
  clear HCK b1 b2 z1 hb1
  have HI1 := HII w1 hb
  go_upto_region 5 with (at_builtin; refine wpList_appendInts _ rfl (.const (.slice none 0 0)) (.tmp 17) 22 rfl w1.heap.size 3 i0 Try.underlying22 hi0 hz0 hz1 hz2 none A 0 n c w1.heap.size 0 n [] xs rfl rfl (OwnI.nil_ _ _ _) rfl (Nat.zero_add _) HI1 (by omega) (Nat.le_refl _) ?_; intro A1 c1 w2 HA1 HG1; rw [List.nil_append] at HA1; have hb3 := below_of_none HG1)
  have hbb := hb.trans (hb3.mono hb.size)
  have hs2 := hb3.size
  have r1 := (hb3.block w.heap.size (by omega)).trans q1
  have r2 := (hb3.block (w.heap.size + 1) (by omega)).trans q2
  have yb := (Below.refl w2.heap.size w2).alloc (Nat.le_refl _) (.cells #[.slice A1 n c1, .slice none 0 0] 25)
  have y0 := heap_alloc_new w2 (.cells #[.slice A1 n c1, .slice none 0 0] 25)
  have hi1 := HA1.ints
  rw [HXL.out] at hi1
  have HA2 := Lib.hid (hi1.alloc (Nat.le_refl _) (.cells #[.slice A1 n c1, .slice none 0 0] 25))
  have HF1 := Lib.hid HA1.farA
  have hbb3 := hbb.alloc hbb.size (.cells #[.slice A1 n c1, .slice none 0 0] 25)
  replace r1 := (yb.block w.heap.size (by omega)).trans r1
  replace r2 := (yb.block (w.heap.size + 1) (by omega)).trans r2
  have hs3 : (w2.alloc (.cells #[.slice A1 n c1, .slice none 0 0] 25)).heap.size = w2.heap.size + 1 := World.size_alloc _ _
  obtain ⟨wB, hw3⟩ : ∃ w3, w2.alloc (.cells #[.slice A1 n c1, .slice none 0 0] 25) = w3 := ⟨_, rfl⟩
  rw [hw3] at y0 HA2 r1 r2 hbb3 hs3
  have H3 := Lib.hid hw3
  have HY0 := Lib.hid y0
  have HR1 := Lib.hid r1
  have HR2 := Lib.hid r2
  have HBB := Lib.hid hbb3
  have hsB : w2.heap.size + 1 ≤ wB.heap.size := by omega
  obtain ⟨j0, j1, _, _⟩ := pair_cells r1
  clear k0 k1 hb hbb hb3 q1 q2 yb y0 HA1 hi1 hbb3 hs3 hw3 r1 r2 HI1
  rw [H3.out]
  go_wp2_with fail
  go_loopw [23] (fun v wr => ∃ (k : Nat) (Ts : List Ent) (A3 : Option Addr) (c3 : Nat), v = .int .i64 (k : Int) ∧ k ≤ m ∧ Ts.length ≤ k ∧ Hid (wr.heap[w2.heap.size]? = some (.cells #[.slice A1 n c1, .slice A3 Ts.length c3] 25 (0, 0))) ∧ Hid (OwnE wr wB.heap.size A3 c3 Ts) ∧ Hid (∀ x ∈ Ts, OwnP wr wB.heap.size x) ∧ Hid (Ts.map keyE = ofK xs 0 (ys.take k)) ∧ Hid (Below w2.heap.size wB wr)) (fun v _ => m - (intOf v).toNat)
  case atStart => exact ⟨0, [], none, 0, rfl, Nat.zero_le _, Nat.le_refl _, HY0, Lib.hid (OwnE.nil_ _ _), (fun x hx => by cases hx), rfl, Lib.hid (Below.refl _ _)⟩
  case round =>
    clear j0 j1
    obtain ⟨k, Ts, A3, c3, rfl, hk, htk, HBX, HOE, HOP, HKE, HB⟩ := hrel
    have hszr := HB.out.size
    have hr1 := (HB.out.block w.heap.size (by omega)).trans HR1.out
    obtain ⟨j0, j1, _, _⟩ := pair_cells hr1
    have hbw : Below w.heap.size w wr := HBB.out.trans (HB.out.mono (by omega))
    by_cases hlt : k < m
    · obtain ⟨b, off, v, rfl, _, HV, hcv, hv1, hv2⟩ := (HYS wr hbw).at_ hlt
      have HTK := Lib.hid (take_of_lt HV.out xs)
      by_cases hv : v = 0
      · have e1 : (v != 0) = false := by simpa using hv
        have HN : Hid (ofK xs 0 (ys.take (k + 1)) = ofK xs 0 (ys.take k)) := by unfold Hid; rw [HTK.out, if_pos hv, List.append_nil]
        clear hv hr1 hbw
        go_wp2_with fail
        go_roundw
        case rel => exact ⟨k + 1, Ts, A3, c3, by go_num, by omega, by omega, HBX, HOE, HOP, by unfold Hid; rw [HN.out]; exact HKE.out, HB⟩
        case measure => simp [intOf]; omega
      · have e1 : (v != 0) = true := by simpa using hv
        have HN : Hid (ofK xs 0 (ys.take (k + 1)) = ofK xs 0 (ys.take k) ++ [(placeR xs (k : Int), v, xs.length)]) := by unfold Hid; rw [HTK.out, if_neg hv]
        have HC := HCO k hlt wr hbw
        have HR1r := Lib.hid hr1
        clear hv hr1
        go_wp2_with fail
        refine HC.mono ?_
        rintro x w4 ⟨A4, c4, rfl, HA4, hb4⟩
        have hs4 := hb4.size
        have hl4 : (placeR xs (k : Int)).length = n := by rw [placeR_length, HXL.out]
        have HL4 := Lib.hid hl4
        have HBX4 := (hb4.block w2.heap.size (by omega)).trans HBX.out
        have HOE4 : Hid (OwnE w4 wB.heap.size A3 c3 Ts) := HOE.out.below hb4 (Nat.le_refl _)
        have HOP4 : Hid (∀ x ∈ Ts, OwnP w4 wB.heap.size x) := fun x hx => ⟨(HOP.out x hx).1.below hb4 (Nat.le_refl _), (HOP.out x hx).2⟩
        have HA4' : Hid (OwnI w4 wB.heap.size 3 A4 c4 (placeR xs (k : Int))) := HA4.mono (by omega)
        have HB4 : Hid (Below w2.heap.size wB w4) := HB.out.trans (hb4.mono (by omega))
        obtain ⟨N, hN⟩ : ∃ N, Ts.length = N := ⟨_, rfl⟩
        have HLN := Lib.hid hN
        rw [hN] at HBX4 htk
        obtain ⟨t0, t1, tf0, tf1⟩ := pair_cells HBX4
        have HBH := Lib.hid HBX4
        clear HA4 hb4 HC HOE HOP HB HBX hbw j0 j1 hl4 hN HBX4
        go_wp2_with (at_builtin; refine wpList_appendEntG rfl (.tmp 38) (.tmp 42) rfl wB.heap.size A3 c3 N (N + 1) ⟨A4, n, c4, placeR xs (k : Int), v⟩ Ts rfl rfl HOE4.out HLN.out rfl (by omega) (by omega) ?_; intro A5 c5 w5 HO5 hg5; have HO5' := Lib.hid HO5; clear HO5; have HG5 : Hid (w4.grownBy w5 (Value.slice A3 Ts.length c3).ownBlock) := (by unfold Hid; rw [HLN.out]; exact hg5); clear hg5; have rbx := box_keptE HBH.out (by decide) HOE4.out HG5.out; obtain ⟨s0, s1, sf0, sf1⟩ := pair_cells rbx; have HRB := Lib.hid rbx; clear rbx)
        have hsn := set_snd w5 w2.heap.size _ _ (.slice A5 (N + 1 : Nat) c5) _ HRB.out
        have HOWN6 : Hid (OwnE (w5.setCell ⟨w2.heap.size, 1, none⟩ (.slice A5 (N + 1 : Nat) c5)) wB.heap.size A5 c5 (Ts ++ [⟨A4, n, c4, placeR xs (k : Int), v⟩])) := World.ownsRow.kept HO5'.out hsn.2 (rows_ne HO5'.out HRB.out (by decide))
        have HOP6 : Hid (∀ x ∈ Ts ++ [⟨A4, n, c4, placeR xs (k : Int), v⟩], OwnP (w5.setCell ⟨w2.heap.size, 1, none⟩ (.slice A5 (N + 1 : Nat) c5)) wB.heap.size x) := fun x hx => by
          have hq : OwnP w4 wB.heap.size x := by
            rcases List.mem_append.1 hx with hx | hx
            · exact HOP4.out x hx
            · rw [List.mem_singleton.1 hx]; exact ⟨HA4'.out, HL4.out.symm, hv1, hv2⟩
          have q5 := hq.1.keptE HOE4.out HG5.out
          exact ⟨⟨q5.1.kept hsn.2 (rows_ne q5.1 HRB.out (by decide)), q5.2⟩, hq.2⟩
        have HBF6 : Hid (Below w2.heap.size wB (w5.setCell ⟨w2.heap.size, 1, none⟩ (.slice A5 (N + 1 : Nat) c5))) := by
          have q5 : Below w2.heap.size wB w5 := HB4.out.grown HG5.out (by omega) (fun k hk => by have := (World.ownsRow.lt HOE4.out k hk).1; omega)
          exact q5.setCell (p := ⟨w2.heap.size, 1, none⟩) (Nat.le_refl _) _
        have HHP6 : Hid ((w5.setCell ⟨w2.heap.size, 1, none⟩ (.slice A5 (N + 1 : Nat) c5)).heap[w2.heap.size]? = some (.cells #[.slice A1 n c1, .slice A5 (Ts ++ [⟨A4, n, c4, placeR xs (k : Int), v⟩] : List Ent).length c5] 25 (0, 0))) := by unfold Hid; rw [List.length_append, HLN.out]; exact hsn.1
        have HKE6 : Hid ((Ts ++ [⟨A4, n, c4, placeR xs (k : Int), v⟩] : List Ent).map keyE = ofK xs 0 (ys.take (k + 1))) := by unfold Hid; rw [HN.out, List.map_append, HKE.out, HXL.out]; rfl
        have hlen6 : (Ts ++ [⟨A4, n, c4, placeR xs (k : Int), v⟩] : List Ent).length ≤ k + 1 := by rw [List.length_append, HLN.out]; first | (show _ + 1 ≤ _; omega) | (simp <;> omega)
        clear hsn
        go_roundw
        case rel => exact ⟨k + 1, Ts ++ [⟨A4, n, c4, placeR xs (k : Int), v⟩], A5, c5, by go_num, by omega, hlen6, HHP6, HOWN6, HOP6, HKE6, HBF6⟩
        case measure => simp [intOf]; omega
    · have hkm : k = m := by omega
      have HKF : Hid (Ts.map keyE = ofK xs 0 ys) := by unfold Hid; rw [HKE.out, List.take_of_length_le (by rw [HYL.out]; omega)]
      have dk : decide ((k : Int) < (m : Int)) = false := by simp; omega
      have dk2 : decide (k < m) = false := by simp; omega
      have hr2 := (HB.out.block (w.heap.size + 1) (by omega)).trans HR2.out
      obtain ⟨v0, v1, vf0, vf1⟩ := pair_cells hr2
      have HRV := Lib.hid hr2
      obtain ⟨N, hN⟩ : ∃ N, Ts.length = N := ⟨_, rfl⟩
      have hbx := HBX.out
      rw [hN] at hbx htk
      obtain ⟨p0, p1, _, _⟩ := pair_cells hbx
      have HNN := Lib.hid hN
      have HBW := Lib.hid hbw
      clear hr1 hr2 hN hbx hbw hkm hlt
      go_wp2_with fail
      have hres := set_two wr (w.heap.size + 1) _ _ (.slice A1 n c1) (.slice A3 N c3) _ HRV.out
      obtain ⟨s0, s1, _, _⟩ := pair_cells hres.1
      obtain ⟨wz, hwz⟩ : ∃ wz, (wr.setCell ⟨w.heap.size + 1, 0, none⟩ (.slice A1 n c1)).setCell ⟨w.heap.size + 1, 1, none⟩ (.slice A3 N c3) = wz := ⟨_, rfl⟩
      rw [hwz] at hres s0 s1 ⊢
      refine bodyPost_ret (v := .tuple #[.agg #[.slice A1 n c1, .slice A3 N c3], .int .i64 0]) (by simp [results, Try.results32, go_sem, s0, s1]) rfl ⟨A1, c1, A3, N, c3, Ts, rfl, ⟨?_, ?_⟩, HKF, by omega, HBW.out.grown hres.2 HBW.out.size (fun k hk => by injection hk with hk; omega)⟩
      · exact ints_skip ((HA2.out.below HB.out).more (by omega)) hres.2 (fun b off e => by have := HF1.out b off e; omega)
      · have hoe : OwnE wz wB.heap.size A3 c3 Ts := World.ownsRow.kept HOE.out hres.2 (rows_ne HOE.out HRV.out (by decide))
        have := ownE_ents hoe (fun x hx => ⟨⟨(HOP.out x hx).1.1.kept hres.2 (rows_ne (HOP.out x hx).1.1 HRV.out (by decide)), (HOP.out x hx).1.2⟩, (HOP.out x hx).2⟩)
        rw [HNN.out] at this
        exact this
end Go.Proofs.Ytpfabbapfmfmmaa
