/- The document's instruction of tokens. -/
import Derived.Test.YtbmcddolfofmdaaDoorG11
import Derived.Test.YtbmcddolfofmdaaDoorG5
import Derived.Test.YtbmcddolfofmdaaDoorG6
import Derived.Test.YtbmcddolfofmdaaDoorG10
import Derived.Test.YtbmcddolfofmdaaDoorG9
import Derived.IntWalk
namespace Go.Proofs.YtbmcddolfofmdaaDoor
open Go.RowKit

set_option maxRecDepth 100000 in
set_option maxHeartbeats 8000000 in
theorem refIns_any (A : Option Addr) (n c : Nat) (L : List Tk) (w : World) (h : Toks w w.heap.size A n L) (hm : ∀ t ∈ L, mayT t) (hc : n ≤ c) (hn : n ≤ 100000) : Calls Tryd.prog 26 #[.slice A n c] w (InsEnd L w) := by
  obtain ⟨W0, hW0⟩ : ∃ W, w.alloc zeroJ.obj = W := ⟨_, rfl⟩
  have hb0 : Below w.heap.size w W0 := by rw [← hW0]; exact lvBelow _ _
  have HR0 : Hid (W0.heap[w.heap.size]? = some zeroJ.obj) := by rw [← hW0]; exact newJ w zeroJ
  have HB0 := Lib.hid hb0
  have hT0 := h.below hb0
  obtain ⟨⟨r0, r1, r2, r3, r4⟩, rf⟩ := box_cellsJ HR0.out
  have rf0 := rf 0
  have rf1 := rf 1
  have rf2 := rf 2
  have rf3 := rf 3
  have rf4 := rf 4
  clear rf
  have HZ0 : Hid (zeroJ.ok) := by constructor <;> (show -9223372036854775808 ≤ (0 : Int) ∧ (0 : Int) ≤ 9223372036854775807; omega)
  have HBP : Hid (∀ W : World, Below w.heap.size w W → Below w.heap.size w (putJ W w.heap.size zeroJ)) := fun W hb => put_below hb zeroJ
  have HRP : Hid (∀ W : World, W.heap[w.heap.size]? = some zeroJ.obj → CellsJ (putJ W w.heap.size zeroJ) w.heap.size 0 zeroJ) := fun W hW => put_cells hW zeroJ
  by_cases h0 : n = 0
  · subst h0
    obtain rfl : L = [] := List.eq_nil_of_length_eq_zero h.len
    clear h hm hc hn hT0 hb0
    go_enter Tryd.func26, Tryd.ntmps26
    go_wp2_with fail
    try rw [hW0]
    obtain ⟨s0, s1, s2, s3, s4⟩ := HRP.out W0 HR0.out
    have hd := HBP.out W0 HB0.out
    obtain ⟨wz, hwz⟩ : ∃ wz, putJ W0 w.heap.size zeroJ = wz := ⟨_, rfl⟩
    rw [hwz] at hd s0 s1 s2 s3 s4
    unfold putJ at hwz
    rw [hwz]
    exact bodyPost_ret (v := .tuple #[zeroJ.val, .bool false]) (by simp [results, Tryd.results26, go_sem, s0, s1, s2, s3, s4]) rfl ⟨zeroJ, false, rfl, HZ0.out, insR_none rfl, hd⟩
  obtain ⟨b, o, t, R, rfl, rfl, rfl⟩ := h.cut (by omega)
  obtain ⟨t0, t1, t2, hto⟩ := hT0.first
  have hmt := hm t (by simp)
  have hmR : ∀ u ∈ R, mayT u := fun u hu => hm u (by simp [hu])
  have HTR := Lib.hid h.rest
  have HMR := Lib.hid hmR
  have HMT := Lib.hid hmt
  have HT := Lib.hid h
  obtain ⟨m, hmm⟩ : ∃ m, R.length = m := ⟨_, rfl⟩
  rw [hmm] at HTR HT hc hn ⊢
  have HM := Lib.hid hmm
  have n0 : (((m + 1 : Nat) : Int) == 0) = false := by rw [beq_eq_false_iff_ne]; omega
  have n1 : ((m : Int) + 1 == 0) = false := by rw [beq_eq_false_iff_ne]; omega
  have m0 : (0 : Int) < (m : Int) + 1 := by omega
  obtain ⟨tk, ts, tn⟩ := t
  dsimp only at t0 t1 t2
  clear h hm hT0 hb0 h0 hmt hmR hmm hto
  by_cases hk : tk = 1
  case neg =>
    have e0 : (tk != 1) = true := by simpa using hk
    have HBAD : Hid (insR (⟨tk, ts, tn⟩ :: R) zeroJ false) := insR_none (insF_word (fun h => hk h.1))
    clear hk
    go_enter Tryd.func26, Tryd.ntmps26
    go_wp2_with fail
    try rw [hW0]
    obtain ⟨s0, s1, s2, s3, s4⟩ := HRP.out W0 HR0.out
    have hd := HBP.out W0 HB0.out
    obtain ⟨wz, hwz⟩ : ∃ wz, putJ W0 w.heap.size zeroJ = wz := ⟨_, rfl⟩
    rw [hwz] at hd s0 s1 s2 s3 s4
    unfold putJ at hwz
    rw [hwz]
    exact bodyPost_ret (v := .tuple #[zeroJ.val, .bool false]) (by simp [results, Tryd.results26, go_sem, s0, s1, s2, s3, s4]) rfl ⟨zeroJ, false, rfl, HZ0.out, HBAD.out, hd⟩
  subst hk
  by_cases ho : opW (bl ts) < 0
  · have HBAD : Hid (insR (⟨1, ts, tn⟩ :: R) zeroJ false) := insR_none (insF_word (fun h => by have := h.2; dsimp only at this; omega))
    have d0 : decide (opW (bl ts) < 0) = true := decide_eq_true ho
    clear ho
    go_enter Tryd.func26, Tryd.ntmps26
    go_wp2_with fail
    try rw [hW0]
    refine (refOp_any ts W0).mono ?_
    rintro e w1 ⟨rfl, hb⟩
    have HB1 := Lib.hid (HB0.out.trans (hb.mono HB0.out.size))
    have HR1 := Lib.hid (keep_b hb HR0.out)
    clear hb r0 r1 r2 r3 r4 rf0 rf1 rf2 rf3 rf4
    obtain ⟨⟨r0, r1, r2, r3, r4⟩, rf⟩ := box_cellsJ HR1.out
    have rf0 := rf 0
    have rf1 := rf 1
    have rf2 := rf 2
    have rf3 := rf 3
    have rf4 := rf 4
    clear rf
    go_wp2_with fail
    try rw [hW0]
    obtain ⟨s0, s1, s2, s3, s4⟩ := HRP.out w1 HR1.out
    have hd := HBP.out w1 HB1.out
    obtain ⟨wz, hwz⟩ : ∃ wz, putJ w1 w.heap.size zeroJ = wz := ⟨_, rfl⟩
    rw [hwz] at hd s0 s1 s2 s3 s4
    unfold putJ at hwz
    rw [hwz]
    exact bodyPost_ret (v := .tuple #[zeroJ.val, .bool false]) (by simp [results, Tryd.results26, go_sem, s0, s1, s2, s3, s4]) rfl ⟨zeroJ, false, rfl, HZ0.out, HBAD.out, hd⟩
  have d0 : decide (opW (bl ts) < 0) = false := decide_eq_false ho
  have HOP : Hid (0 ≤ opW (bl ts)) := Lib.hid (by omega)
  obtain ⟨op, hop⟩ : ∃ op, opW (bl ts) = op := ⟨_, rfl⟩
  rw [hop] at d0 HOP
  have HOE := Lib.hid hop
  clear hop ho
  go_enter Tryd.func26, Tryd.ntmps26
  go_wp2_with fail
  try rw [hW0]
  refine (refOp_any ts W0).mono ?_
  rintro e w1 ⟨rfl, hb⟩
  rw [HOE.out]
  have HB1 := Lib.hid (HB0.out.trans (hb.mono HB0.out.size))
  have HR1 := Lib.hid (keep_b hb HR0.out)
  have htc := HTR.out.below HB1.out
  have hF1 := (HT.out.below HB1.out).first
  dsimp only at hF1
  obtain ⟨u0, u1, u2, _⟩ := hF1
  clear hb r0 r1 r2 r3 r4 rf0 rf1 rf2 rf3 rf4 t0 t1 t2 htc
  go_wp2_with fail
  refine (refOp_any ts w1).mono ?_
  rintro e w2 ⟨rfl, hb⟩
  rw [HOE.out]
  have HB2 := Lib.hid (HB1.out.trans (hb.mono HB1.out.size))
  have HR2 := Lib.hid (keep_b hb HR1.out)
  obtain ⟨W3, hW3⟩ : ∃ W, w2.alloc (Ji.obj ⟨op, 0, 0, 0, 0⟩) = W := ⟨_, rfl⟩
  obtain ⟨g, hg⟩ : ∃ g, w2.heap.size = g := ⟨_, rfl⟩
  have hb3 : Below w2.heap.size w2 W3 := by rw [← hW3]; exact lvBelow _ _
  have HX3 : Hid (W3.heap[g]? = some (Ji.obj ⟨op, 0, 0, 0, 0⟩)) := by rw [← hW3, ← hg]; exact newJ w2 _
  have HG3 : Hid (w.heap.size < g) := by rw [← hg]; exact lt_of_heap HR2.out
  have HB3 := Lib.hid (HB2.out.trans (hb3.mono HB2.out.size))
  have HR3 := Lib.hid (keep_b hb3 HR2.out)
  have HW3 := Lib.hid hW3
  clear hb hb3 hW3 u0 u1 u2
  go_upto_region 4 with fail
  try rw [HW3.out]
  try rw [hg]
  clear hg
  obtain ⟨kx, kf⟩ := box_cellsJ HX3.out
  obtain ⟨k0, k1, k2, k3, k4⟩ := kx
  obtain ⟨s, hs, hbl, hsz⟩ := strJ_name (kJ op)
  have hsm : s.size ≤ 3 := by have := kJ_len op; omega
  have HS := Lib.hid hs
  have HBL := Lib.hid hbl
  have HSZ := Lib.hid hsz
  clear hs hbl hsz kf
  go_wp2_with fail
  refine (refWord14_any op W3).mono ?_
  rintro e w4 ⟨rfl, hb⟩
  rw [HS.out]
  have HB4 := Lib.hid (HB3.out.trans (hb.mono HB3.out.size))
  have HR4 := Lib.hid (keep_b hb HR3.out)
  have HX4 := Lib.hid (keep_b hb HX3.out)
  clear hb k0 k1 k2 k3 k4
  go_upto_region 5 with fail
  go_cut [0] (fun v wx => ∃ o', v = .slice (some ⟨b, o', none⟩) m (c - 1) ∧ Hid (Toks w w.heap.size (some ⟨b, o', none⟩) m R) ∧ wx = w4)
  case first =>
    by_cases hc1 : c = 1
    · have HT9 : Hid (Toks w w.heap.size (some ⟨b, o, none⟩) m R) := HTR.out.none_ (by omega)
      go_wp2_with fail
      go_meet
      case rel => exact ⟨o, by rw [hc1], HT9, rfl⟩
    · go_wp2_with fail
      go_meet
      case rel => exact ⟨o + 3, rfl, HTR, rfl⟩
  obtain ⟨o', rfl, HTR', rfl⟩ := hcut
  clear HTR
  have fit0 : -9223372036854775808 ≤ (0 : Int) ∧ (0 : Int) ≤ 9223372036854775807 := by omega
  have HOB : Hid (-9223372036854775808 ≤ op ∧ op ≤ 9223372036854775807) := opW_fit HOE.out
  obtain ⟨W5, hW5⟩ : ∃ W, wc.alloc (.cells #[.int .i64 0, .int .i64 0, .int .i64 0] 3) = W := ⟨_, rfl⟩
  obtain ⟨f, hf⟩ : ∃ f, wc.heap.size = f := ⟨_, rfl⟩
  have HI5 : Hid (InsI w g f W5 ⟨op, 0, 0, 0, 0⟩ [0, 0, 0]) := by
    have hb : Below wc.heap.size wc W5 := by rw [← hW5]; exact lvBelow _ _
    exact ⟨HB4.out.trans (hb.mono HB4.out.size), keep_b hb HR4.out, HG3.out, by rw [← hf]; exact lt_of_heap HX4.out, keep_b hb HX4.out, by rw [← hf, ← hW5]; exact heap_alloc_new wc _⟩
  have HW5 := Lib.hid hW5
  clear hW5
  go_upto_region 7 with fail
  try rw [HW5.out]
  try rw [hf]
  clear hf
  go_wp2_with fail
  go_loopw [0, 46] (fun v i wr => ∃ (k m o cc : Nat) (R2 : List Tk) (V F : List Int) (N : Int), k ≤ s.size ∧ i = .int .i64 k ∧ v = .slice (some ⟨b, o, none⟩) m cc ∧ m ≤ cc ∧ Hid (Toks w w.heap.size (some ⟨b, o, none⟩) m R2) ∧ Hid (∀ t ∈ R2, mayT t) ∧ Hid (GoI op R ((kJ op).drop k) R2 F N) ∧ Hid (VOK k V F) ∧ Hid (InsI w g f wr ⟨op, 0, 0, 0, N⟩ V) ∧ Hid (-9223372036854775808 ≤ N ∧ N ≤ 9223372036854775807)) (fun _ i _ => s.size - (intOf i).toNat)
  case atStart => exact ⟨0, m, o', c - 1, R, [0, 0, 0], [], 0, Nat.zero_le _, rfl, rfl, by omega, HTR', HMR, GoI.start op R, VOK.start, HI5, fit0⟩
  case round =>
    obtain ⟨k, m2, o, cc, R2, V, F, N, hk, rfl, rfl, hmc, HT2, HM2, HG2, HV, HI, HFN⟩ := hrel
    by_cases hlt : k < s.size
    · have hg := bl_get s k hlt
      rw [HBL.out] at hg
      have HDR := Lib.hid (dropU hg)
      have hkd := kinds_in hg
      have hk3 : k < 3 := by omega
      clear hg
      by_cases hm0 : m2 = 0
      · subst hm0
        obtain rfl : R2 = [] := List.eq_nil_of_length_eq_zero HT2.out.len
        have HBAD : Hid (insR (⟨1, ts, tn⟩ :: R) ⟨op, 0, 0, 0, N⟩ false) := insR_none (insF_bad (by rw [HOE.out]; exact HG2.out.bad (by rw [HDR.out]; rfl)))
        clear hkd HDR
        obtain ⟨⟨k0, k1, k2, k3, k4⟩, kf⟩ := box_cellsJ HI.out.bx
        obtain ⟨⟨r0, r1, r2, r3, r4⟩, rf⟩ := box_cellsJ HI.out.rv
        have kf1 := kf 1
        have kf2 := kf 2
        have kf3 := kf 3
        have kf4 := kf 4
        have rf0 := rf 0
        have rf1 := rf 1
        have rf2 := rf 2
        have rf3 := rf 3
        have rf4 := rf 4
        clear rf kf
        go_wp2_with fail
        obtain ⟨s0, s1, s2, s3, s4⟩ := put_cells HI.out.rv ⟨op, 0, 0, 0, N⟩
        have hd := put_below HI.out.bel ⟨op, 0, 0, 0, N⟩
        obtain ⟨wz, hwz⟩ : ∃ wz, putJ wr w.heap.size ⟨op, 0, 0, 0, N⟩ = wz := ⟨_, rfl⟩
        rw [hwz] at hd s0 s1 s2 s3 s4
        unfold putJ at hwz
        dsimp only at hwz s0 s1 s2 s3 s4
        try rw [hwz]
        exact bodyPost_ret (v := .tuple #[Ji.val ⟨op, 0, 0, 0, N⟩, .bool false]) (by simp [results, Tryd.results26, go_sem, s0, s1, s2, s3, s4]) rfl ⟨⟨op, 0, 0, 0, N⟩, false, rfl, ⟨HOB.out, fit0, fit0, fit0, HFN.out⟩, HBAD.out, hd⟩
      obtain ⟨_, _, u, R3, -, rfl, hm3⟩ := HT2.out.cut (by omega)
      obtain ⟨m3, rfl⟩ : ∃ m3, m2 = m3 + 1 := ⟨m2 - 1, by omega⟩
      have HM3 : Hid (R3.length = m3) := Lib.hid (by omega)
      have HUM := Lib.hid (HM2.out u (by simp))
      have HU1 : Hid (u.k = 1 → 1 ≤ u.s.size) := fun h => may_w1 HUM.out h
      have HMR3 : Hid (∀ t ∈ R3, mayT t) := fun t ht => HM2.out t (by simp [ht])
      have HTR3 : Hid (Toks w w.heap.size (some ⟨b, if cc = 1 then o else o + 3, none⟩) m3 R3) := HT2.out.restc (by omega)
      have HUO := Lib.hid (HT2.out.okAll u (by simp))
      obtain ⟨u0, u1, u2, _⟩ := (HT2.out.below HI.out.bel).first
      obtain ⟨vk, hvk⟩ : ∃ z, V[k]? = some z := ⟨_, List.getElem?_eq_getElem (by rw [HV.out.len]; exact hk3)⟩
      have HVK : Hid ((V.map (Value.int .i64))[k]? = some (.int .i64 vk)) := by unfold Hid; rw [List.getElem?_map, hvk]; rfl
      have HVS : Hid (∀ v, -9223372036854775808 ≤ v ∧ v ≤ 9223372036854775807 → VOK (k + 1) (V.set k v) (F ++ [v])) := fun v hv => HV.out.step hk3 hv
      have n3 : ((m3 : Int) + 1 == 0) = false := by rw [beq_eq_false_iff_ne]; omega
      have p3 : (0 : Int) < (m3 : Int) + 1 := by omega
      have HTU := HT2
      clear hm0 hm3 hvk
      have hki : (k : Int) < 3 := by omega
      have hk0 : (0 : Int) ≤ (k : Int) := by omega
      rcases hkd with hc9 | hc9 | hc9 | hc9 | hc9
      · have c1 : ((s[k].toNat : Int) == 119) = true := by rw [hc9]; rfl
        rw [hc9] at HDR
        have HGO : Hid (GoI op R (119 :: (kJ op).drop (k + 1)) (u :: R3) F N) := by unfold Hid; rw [← HDR.out]; exact HG2.out
        clear hc9 HDR HG2
        obtain ⟨⟨v, q⟩, hq⟩ : ∃ p, behindF u 114 = p := ⟨_, rfl⟩
        have hB := refBehind_any u 114 wr HUO.out HU1.out
        have hvf : -9223372036854775808 ≤ v ∧ v ≤ 9223372036854775807 := by have := behindF_fit u 114; rw [hq] at this; exact this
        unfold BehindP at hB
        rw [hq] at hB
        have HVF := Lib.hid hvf
        have HQ := Lib.hid hq
        clear hq hvf
        go_wp2_with fail
        (with_reducible refine hB.mono ?_)
        rintro e w2 ⟨rfl, hb⟩
        have HI2 := Lib.hid (HI.out.below hb)
        have HT2 := Lib.hid (HTU.out.below HI2.out.bel)
        have hfk := blk_cell HI2.out.fb (HVK.out)
        obtain ⟨fk, ff⟩ := hfk
        have HI3 := Lib.hid (HI2.out.setV k v)
        obtain ⟨W3, hW3⟩ : ∃ W, w2.setCell ⟨f, k, none⟩ (.int .i64 v) = W := ⟨_, rfl⟩
        rw [hW3] at HI3
        have HW3 := Lib.hid hW3
        clear hb hB hW3
        go_upto_region 27 with fail
        try rw [HW3.out]
        clear fk ff HW3
        cases q with
        | false =>
          have HBAD : Hid (insR (⟨1, ts, tn⟩ :: R) ⟨op, 0, 0, 0, N⟩ false) := insR_none (insF_bad (by rw [HOE.out]; exact HGO.out.bad (insG_r0 (.inl rfl) HQ.out)))
          obtain ⟨⟨k0, k1, k2, k3, k4⟩, kf⟩ := box_cellsJ HI3.out.bx
          obtain ⟨⟨r0, r1, r2, r3, r4⟩, rf⟩ := box_cellsJ HI3.out.rv
          have kf1 := kf 1
          have kf2 := kf 2
          have kf3 := kf 3
          have kf4 := kf 4
          have rf0 := rf 0
          have rf1 := rf 1
          have rf2 := rf 2
          have rf3 := rf 3
          have rf4 := rf 4
          clear rf kf
          go_wp2_with fail
          obtain ⟨s0, s1, s2, s3, s4⟩ := put_cells HI3.out.rv ⟨op, 0, 0, 0, N⟩
          have hd := put_below HI3.out.bel ⟨op, 0, 0, 0, N⟩
          obtain ⟨wz, hwz⟩ : ∃ wz, putJ W3 w.heap.size ⟨op, 0, 0, 0, N⟩ = wz := ⟨_, rfl⟩
          rw [hwz] at hd s0 s1 s2 s3 s4
          unfold putJ at hwz
          dsimp only at hwz s0 s1 s2 s3 s4
          try rw [hwz]
          exact bodyPost_ret (v := .tuple #[Ji.val ⟨op, 0, 0, 0, N⟩, .bool false]) (by simp [results, Tryd.results26, go_sem, s0, s1, s2, s3, s4]) rfl ⟨⟨op, 0, 0, 0, N⟩, false, rfl, ⟨HOB.out, fit0, fit0, fit0, HFN.out⟩, HBAD.out, hd⟩
        | true =>
          have HGO2 := Lib.hid (HGO.out.step (insG_r1 (.inl rfl) HQ.out))
          go_wp2_with fail
          go_roundw
          case rel => exact ⟨k + 1, m3, if cc = 1 then o else o + 3, cc - 1, R3, V.set k v, F ++ [v], N, by omega, by go_num, by rw [cutA], by omega, HTR3, HMR3, HGO2, HVS.out v HVF.out, HI3, HFN⟩
          case measure => simp [intOf]; omega
      · have c1 : ((s[k].toNat : Int) == 119) = false := by rw [hc9]; rfl
        have c2 : ((s[k].toNat : Int) == 114) = true := by rw [hc9]; rfl
        rw [hc9] at HDR
        have HGO : Hid (GoI op R (114 :: (kJ op).drop (k + 1)) (u :: R3) F N) := by unfold Hid; rw [← HDR.out]; exact HG2.out
        clear hc9 HDR HG2
        obtain ⟨⟨v, q⟩, hq⟩ : ∃ p, behindF u 114 = p := ⟨_, rfl⟩
        have hB := refBehind_any u 114 wr HUO.out HU1.out
        have hvf : -9223372036854775808 ≤ v ∧ v ≤ 9223372036854775807 := by have := behindF_fit u 114; rw [hq] at this; exact this
        unfold BehindP at hB
        rw [hq] at hB
        have HVF := Lib.hid hvf
        have HQ := Lib.hid hq
        clear hq hvf
        go_wp2_with fail
        (with_reducible refine hB.mono ?_)
        rintro e w2 ⟨rfl, hb⟩
        have HI2 := Lib.hid (HI.out.below hb)
        have HT2 := Lib.hid (HTU.out.below HI2.out.bel)
        have hfk := blk_cell HI2.out.fb (HVK.out)
        obtain ⟨fk, ff⟩ := hfk
        have HI3 := Lib.hid (HI2.out.setV k v)
        obtain ⟨W3, hW3⟩ : ∃ W, w2.setCell ⟨f, k, none⟩ (.int .i64 v) = W := ⟨_, rfl⟩
        rw [hW3] at HI3
        have HW3 := Lib.hid hW3
        clear hb hB hW3
        go_upto_region 27 with fail
        try rw [HW3.out]
        clear fk ff HW3
        cases q with
        | false =>
          have HBAD : Hid (insR (⟨1, ts, tn⟩ :: R) ⟨op, 0, 0, 0, N⟩ false) := insR_none (insF_bad (by rw [HOE.out]; exact HGO.out.bad (insG_r0 (.inr rfl) HQ.out)))
          obtain ⟨⟨k0, k1, k2, k3, k4⟩, kf⟩ := box_cellsJ HI3.out.bx
          obtain ⟨⟨r0, r1, r2, r3, r4⟩, rf⟩ := box_cellsJ HI3.out.rv
          have kf1 := kf 1
          have kf2 := kf 2
          have kf3 := kf 3
          have kf4 := kf 4
          have rf0 := rf 0
          have rf1 := rf 1
          have rf2 := rf 2
          have rf3 := rf 3
          have rf4 := rf 4
          clear rf kf
          go_wp2_with fail
          obtain ⟨s0, s1, s2, s3, s4⟩ := put_cells HI3.out.rv ⟨op, 0, 0, 0, N⟩
          have hd := put_below HI3.out.bel ⟨op, 0, 0, 0, N⟩
          obtain ⟨wz, hwz⟩ : ∃ wz, putJ W3 w.heap.size ⟨op, 0, 0, 0, N⟩ = wz := ⟨_, rfl⟩
          rw [hwz] at hd s0 s1 s2 s3 s4
          unfold putJ at hwz
          dsimp only at hwz s0 s1 s2 s3 s4
          try rw [hwz]
          exact bodyPost_ret (v := .tuple #[Ji.val ⟨op, 0, 0, 0, N⟩, .bool false]) (by simp [results, Tryd.results26, go_sem, s0, s1, s2, s3, s4]) rfl ⟨⟨op, 0, 0, 0, N⟩, false, rfl, ⟨HOB.out, fit0, fit0, fit0, HFN.out⟩, HBAD.out, hd⟩
        | true =>
          have HGO2 := Lib.hid (HGO.out.step (insG_r1 (.inr rfl) HQ.out))
          go_wp2_with fail
          go_roundw
          case rel => exact ⟨k + 1, m3, if cc = 1 then o else o + 3, cc - 1, R3, V.set k v, F ++ [v], N, by omega, by go_num, by rw [cutA], by omega, HTR3, HMR3, HGO2, HVS.out v HVF.out, HI3, HFN⟩
          case measure => simp [intOf]; omega
      · have c1 : ((s[k].toNat : Int) == 119) = false := by rw [hc9]; rfl
        have c2 : ((s[k].toNat : Int) == 114) = false := by rw [hc9]; rfl
        have c3 : ((s[k].toNat : Int) == 97) = true := by rw [hc9]; rfl
        rw [hc9] at HDR
        have HGO : Hid (GoI op R (97 :: (kJ op).drop (k + 1)) (u :: R3) F N) := by unfold Hid; rw [← HDR.out]; exact HG2.out
        clear hc9 HDR HG2
        obtain ⟨⟨v, q⟩, hq⟩ : ∃ p, behindF u 97 = p := ⟨_, rfl⟩
        have hB := refBehind_any u 97 wr HUO.out HU1.out
        have hvf : -9223372036854775808 ≤ v ∧ v ≤ 9223372036854775807 := by have := behindF_fit u 97; rw [hq] at this; exact this
        unfold BehindP at hB
        rw [hq] at hB
        have HVF := Lib.hid hvf
        have HQ := Lib.hid hq
        clear hq hvf
        go_wp2_with fail
        (with_reducible refine hB.mono ?_)
        rintro e w2 ⟨rfl, hb⟩
        have HI2 := Lib.hid (HI.out.below hb)
        have HT2 := Lib.hid (HTU.out.below HI2.out.bel)
        have hfk := blk_cell HI2.out.fb (HVK.out)
        obtain ⟨fk, ff⟩ := hfk
        have HI3 := Lib.hid (HI2.out.setV k v)
        obtain ⟨W3, hW3⟩ : ∃ W, w2.setCell ⟨f, k, none⟩ (.int .i64 v) = W := ⟨_, rfl⟩
        rw [hW3] at HI3
        have HW3 := Lib.hid hW3
        clear hb hB hW3
        go_upto_region 27 with fail
        try rw [HW3.out]
        clear fk ff HW3
        cases q with
        | false =>
          have HBAD : Hid (insR (⟨1, ts, tn⟩ :: R) ⟨op, 0, 0, 0, N⟩ false) := insR_none (insF_bad (by rw [HOE.out]; exact HGO.out.bad (insG_a0 HQ.out)))
          obtain ⟨⟨k0, k1, k2, k3, k4⟩, kf⟩ := box_cellsJ HI3.out.bx
          obtain ⟨⟨r0, r1, r2, r3, r4⟩, rf⟩ := box_cellsJ HI3.out.rv
          have kf1 := kf 1
          have kf2 := kf 2
          have kf3 := kf 3
          have kf4 := kf 4
          have rf0 := rf 0
          have rf1 := rf 1
          have rf2 := rf 2
          have rf3 := rf 3
          have rf4 := rf 4
          clear rf kf
          go_wp2_with fail
          obtain ⟨s0, s1, s2, s3, s4⟩ := put_cells HI3.out.rv ⟨op, 0, 0, 0, N⟩
          have hd := put_below HI3.out.bel ⟨op, 0, 0, 0, N⟩
          obtain ⟨wz, hwz⟩ : ∃ wz, putJ W3 w.heap.size ⟨op, 0, 0, 0, N⟩ = wz := ⟨_, rfl⟩
          rw [hwz] at hd s0 s1 s2 s3 s4
          unfold putJ at hwz
          dsimp only at hwz s0 s1 s2 s3 s4
          try rw [hwz]
          exact bodyPost_ret (v := .tuple #[Ji.val ⟨op, 0, 0, 0, N⟩, .bool false]) (by simp [results, Tryd.results26, go_sem, s0, s1, s2, s3, s4]) rfl ⟨⟨op, 0, 0, 0, N⟩, false, rfl, ⟨HOB.out, fit0, fit0, fit0, HFN.out⟩, HBAD.out, hd⟩
        | true =>
          have HGO2 := Lib.hid (HGO.out.step (insG_a1 HQ.out))
          go_wp2_with fail
          go_roundw
          case rel => exact ⟨k + 1, m3, if cc = 1 then o else o + 3, cc - 1, R3, V.set k v, F ++ [v], N, by omega, by go_num, by rw [cutA], by omega, HTR3, HMR3, HGO2, HVS.out v HVF.out, HI3, HFN⟩
          case measure => simp [intOf]; omega
      · have c1 : ((s[k].toNat : Int) == 119) = false := by rw [hc9]; rfl
        have c2 : ((s[k].toNat : Int) == 114) = false := by rw [hc9]; rfl
        have c3 : ((s[k].toNat : Int) == 97) = false := by rw [hc9]; rfl
        have c4 : ((s[k].toNat : Int) == 112) = true := by rw [hc9]; rfl
        rw [hc9] at HDR
        have HGO : Hid (GoI op R (112 :: (kJ op).drop (k + 1)) (u :: R3) F N) := by unfold Hid; rw [← HDR.out]; exact HG2.out
        clear hc9 HDR HG2
        have HVF : Hid (-9223372036854775808 ≤ u.n ∧ u.n ≤ 9223372036854775807) := by have := may_n HUM.out; exact Lib.hid (by omega)
        obtain ⟨fk, ff⟩ := blk_cell HI.out.fb (HVK.out)
        have HI3 := Lib.hid (HI.out.setV k u.n)
        obtain ⟨W3, hW3⟩ : ∃ W, wr.setCell ⟨f, k, none⟩ (.int .i64 u.n) = W := ⟨_, rfl⟩
        rw [hW3] at HI3
        have HW3 := Lib.hid hW3
        clear hW3
        by_cases hu : u.k = 2
        · have e2 : (u.k == 2) = true := by simpa using hu
          have HGO2 := Lib.hid (HGO.out.step (insG_p1 hu))
          clear hu
          go_upto_region 27 with fail
          try rw [HW3.out]
          clear fk ff HW3
          go_wp2_with fail
          go_roundw
          case rel => exact ⟨k + 1, m3, if cc = 1 then o else o + 3, cc - 1, R3, V.set k u.n, F ++ [u.n], N, by omega, by go_num, by rw [cutA], by omega, HTR3, HMR3, HGO2, HVS.out u.n HVF.out, HI3, HFN⟩
          case measure => simp [intOf]; omega
        · have e2 : (u.k == 2) = false := by simpa using hu
          have HBAD : Hid (insR (⟨1, ts, tn⟩ :: R) ⟨op, 0, 0, 0, N⟩ false) := insR_none (insF_bad (by rw [HOE.out]; exact HGO.out.bad (insG_p0 hu)))
          clear hu
          go_upto_region 27 with fail
          try rw [HW3.out]
          clear fk ff HW3
          obtain ⟨⟨k0, k1, k2, k3, k4⟩, kf⟩ := box_cellsJ HI3.out.bx
          obtain ⟨⟨r0, r1, r2, r3, r4⟩, rf⟩ := box_cellsJ HI3.out.rv
          have kf1 := kf 1
          have kf2 := kf 2
          have kf3 := kf 3
          have kf4 := kf 4
          have rf0 := rf 0
          have rf1 := rf 1
          have rf2 := rf 2
          have rf3 := rf 3
          have rf4 := rf 4
          clear rf kf
          go_wp2_with fail
          obtain ⟨s0, s1, s2, s3, s4⟩ := put_cells HI3.out.rv ⟨op, 0, 0, 0, N⟩
          have hd := put_below HI3.out.bel ⟨op, 0, 0, 0, N⟩
          obtain ⟨wz, hwz⟩ : ∃ wz, putJ W3 w.heap.size ⟨op, 0, 0, 0, N⟩ = wz := ⟨_, rfl⟩
          rw [hwz] at hd s0 s1 s2 s3 s4
          unfold putJ at hwz
          dsimp only at hwz s0 s1 s2 s3 s4
          try rw [hwz]
          exact bodyPost_ret (v := .tuple #[Ji.val ⟨op, 0, 0, 0, N⟩, .bool false]) (by simp [results, Tryd.results26, go_sem, s0, s1, s2, s3, s4]) rfl ⟨⟨op, 0, 0, 0, N⟩, false, rfl, ⟨HOB.out, fit0, fit0, fit0, HFN.out⟩, HBAD.out, hd⟩
      · have c1 : ((s[k].toNat : Int) == 119) = false := by rw [hc9]; rfl
        have c2 : ((s[k].toNat : Int) == 114) = false := by rw [hc9]; rfl
        have c3 : ((s[k].toNat : Int) == 97) = false := by rw [hc9]; rfl
        have c4 : ((s[k].toNat : Int) == 112) = false := by rw [hc9]; rfl
        have c5 : ((s[k].toNat : Int) == 110) = true := by rw [hc9]; rfl
        rw [hc9] at HDR
        have HGO : Hid (GoI op R (110 :: (kJ op).drop (k + 1)) (u :: R3) F N) := by unfold Hid; rw [← HDR.out]; exact HG2.out
        clear hc9 HDR HG2
        have HVF : Hid (-9223372036854775808 ≤ u.n ∧ u.n ≤ 9223372036854775807) := by have := may_n HUM.out; exact Lib.hid (by omega)
        have HI3 : Hid (InsI w g f (wr.setCell ⟨g, 4, none⟩ (.int .i64 u.n)) ⟨op, 0, 0, 0, u.n⟩ V) := HI.out.setX (i := 4) rfl
        obtain ⟨W3, hW3⟩ : ∃ W, wr.setCell ⟨g, 4, none⟩ (.int .i64 u.n) = W := ⟨_, rfl⟩
        rw [hW3] at HI3
        have HW3 := Lib.hid hW3
        clear hW3
        have hVS := Lib.hid (HV.out.same hk3)
        obtain ⟨⟨k0, k1, k2, k3, k4⟩, kf⟩ := box_cellsJ HI.out.bx
        obtain ⟨⟨r0, r1, r2, r3, r4⟩, rf⟩ := box_cellsJ HI.out.rv
        have kf1 := kf 1
        have kf2 := kf 2
        have kf3 := kf 3
        have kf4 := kf 4
        have rf0 := rf 0
        have rf1 := rf 1
        have rf2 := rf 2
        have rf3 := rf 3
        have rf4 := rf 4
        clear rf kf
        by_cases hu : u.k = 2
        · have e2 : (u.k == 2) = true := by simpa using hu
          have e3 : (u.k == 3) = false := by rw [hu]; rfl
          have HGO2 := Lib.hid (HGO.out.step (insG_n1 (fun h => by rw [hu] at h; exact absurd h.1 (by decide)) hu))
          clear hu
          go_upto_region 23 with fail
          try rw [HW3.out]
          clear HW3 u0 u1 u2
          clear k0 k1 k2 k3 k4 r0 r1 r2 r3 r4 kf1 kf2 kf3 kf4 rf0 rf1 rf2 rf3 rf4
          obtain ⟨u0, u1, u2, _⟩ := (HTU.out.below HI3.out.bel).first
          go_wp2_with fail
          go_roundw
          case rel => exact ⟨k + 1, m3, if cc = 1 then o else o + 3, cc - 1, R3, V, F ++ [0], u.n, by omega, by go_num, by rw [cutA], by omega, HTR3, HMR3, HGO2, hVS, HI3, HVF⟩
          case measure => simp [intOf]; omega
        have e2 : (u.k == 2) = false := by simpa using hu
        by_cases h3 : u.k = 3
        case neg =>
          have e3 : (u.k == 3) = false := by simpa using h3
          have HBAD : Hid (insR (⟨1, ts, tn⟩ :: R) ⟨op, 0, 0, 0, u.n⟩ false) := insR_none (insF_bad (by rw [HOE.out]; exact HGO.out.bad (insG_n0 (fun h => h3 h.1) hu)))
          clear hu h3
          go_upto_region 23 with fail
          try rw [HW3.out]
          clear HW3 u0 u1 u2
          clear k0 k1 k2 k3 k4 r0 r1 r2 r3 r4 kf1 kf2 kf3 kf4 rf0 rf1 rf2 rf3 rf4
          obtain ⟨u0, u1, u2, _⟩ := (HTU.out.below HI3.out.bel).first
          obtain ⟨⟨k0, k1, k2, k3, k4⟩, kf⟩ := box_cellsJ HI3.out.bx
          obtain ⟨⟨r0, r1, r2, r3, r4⟩, rf⟩ := box_cellsJ HI3.out.rv
          have kf1 := kf 1
          have kf2 := kf 2
          have kf3 := kf 3
          have kf4 := kf 4
          have rf0 := rf 0
          have rf1 := rf 1
          have rf2 := rf 2
          have rf3 := rf 3
          have rf4 := rf 4
          clear rf kf
          go_wp2_with fail
          obtain ⟨s0, s1, s2, s3, s4⟩ := put_cells HI3.out.rv ⟨op, 0, 0, 0, u.n⟩
          have hd := put_below HI3.out.bel ⟨op, 0, 0, 0, u.n⟩
          obtain ⟨wz, hwz⟩ : ∃ wz, putJ W3 w.heap.size ⟨op, 0, 0, 0, u.n⟩ = wz := ⟨_, rfl⟩
          rw [hwz] at hd s0 s1 s2 s3 s4
          unfold putJ at hwz
          dsimp only at hwz s0 s1 s2 s3 s4
          try rw [hwz]
          exact bodyPost_ret (v := .tuple #[Ji.val ⟨op, 0, 0, 0, u.n⟩, .bool false]) (by simp [results, Tryd.results26, go_sem, s0, s1, s2, s3, s4]) rfl ⟨⟨op, 0, 0, 0, u.n⟩, false, rfl, ⟨HOB.out, fit0, fit0, fit0, HVF.out⟩, HBAD.out, hd⟩
        have e3 : (u.k == 3) = true := by simpa using h3
        by_cases hs : bl u.s = [45]
        case neg =>
          have e4 : (u.s.toList == [45]) = false := by rw [Lib.toList_data]; simpa [bl] using hs
          have HBAD : Hid (insR (⟨1, ts, tn⟩ :: R) ⟨op, 0, 0, 0, u.n⟩ false) := insR_none (insF_bad (by rw [HOE.out]; exact HGO.out.bad (insG_n0 (fun h => hs h.2.1) hu)))
          clear hu h3 hs
          go_upto_region 23 with fail
          try rw [HW3.out]
          clear HW3 u0 u1 u2
          clear k0 k1 k2 k3 k4 r0 r1 r2 r3 r4 kf1 kf2 kf3 kf4 rf0 rf1 rf2 rf3 rf4
          obtain ⟨u0, u1, u2, _⟩ := (HTU.out.below HI3.out.bel).first
          obtain ⟨⟨k0, k1, k2, k3, k4⟩, kf⟩ := box_cellsJ HI3.out.bx
          obtain ⟨⟨r0, r1, r2, r3, r4⟩, rf⟩ := box_cellsJ HI3.out.rv
          have kf1 := kf 1
          have kf2 := kf 2
          have kf3 := kf 3
          have kf4 := kf 4
          have rf0 := rf 0
          have rf1 := rf 1
          have rf2 := rf 2
          have rf3 := rf 3
          have rf4 := rf 4
          clear rf kf
          go_wp2_with fail
          obtain ⟨s0, s1, s2, s3, s4⟩ := put_cells HI3.out.rv ⟨op, 0, 0, 0, u.n⟩
          have hd := put_below HI3.out.bel ⟨op, 0, 0, 0, u.n⟩
          obtain ⟨wz, hwz⟩ : ∃ wz, putJ W3 w.heap.size ⟨op, 0, 0, 0, u.n⟩ = wz := ⟨_, rfl⟩
          rw [hwz] at hd s0 s1 s2 s3 s4
          unfold putJ at hwz
          dsimp only at hwz s0 s1 s2 s3 s4
          try rw [hwz]
          exact bodyPost_ret (v := .tuple #[Ji.val ⟨op, 0, 0, 0, u.n⟩, .bool false]) (by simp [results, Tryd.results26, go_sem, s0, s1, s2, s3, s4]) rfl ⟨⟨op, 0, 0, 0, u.n⟩, false, rfl, ⟨HOB.out, fit0, fit0, fit0, HVF.out⟩, HBAD.out, hd⟩
        have e4 : (u.s.toList == [45]) = true := by rw [Lib.toList_data]; simpa [bl] using hs
        by_cases hm1 : m3 = 1
        case neg =>
          have e5 : ((m3 : Int) + 1 == 2) = false := by rw [beq_eq_false_iff_ne]; omega
          have HBAD : Hid (insR (⟨1, ts, tn⟩ :: R) ⟨op, 0, 0, 0, u.n⟩ false) := insR_none (insF_bad (by rw [HOE.out]; exact HGO.out.bad (insG_n0 (fun h => hm1 (by rw [← HM3.out]; exact h.2.2)) hu)))
          clear hu h3 hs
          go_upto_region 23 with fail
          try rw [HW3.out]
          clear HW3 u0 u1 u2
          clear k0 k1 k2 k3 k4 r0 r1 r2 r3 r4 kf1 kf2 kf3 kf4 rf0 rf1 rf2 rf3 rf4
          obtain ⟨u0, u1, u2, _⟩ := (HTU.out.below HI3.out.bel).first
          obtain ⟨⟨k0, k1, k2, k3, k4⟩, kf⟩ := box_cellsJ HI3.out.bx
          obtain ⟨⟨r0, r1, r2, r3, r4⟩, rf⟩ := box_cellsJ HI3.out.rv
          have kf1 := kf 1
          have kf2 := kf 2
          have kf3 := kf 3
          have kf4 := kf 4
          have rf0 := rf 0
          have rf1 := rf 1
          have rf2 := rf 2
          have rf3 := rf 3
          have rf4 := rf 4
          clear rf kf
          go_wp2_with fail
          obtain ⟨s0, s1, s2, s3, s4⟩ := put_cells HI3.out.rv ⟨op, 0, 0, 0, u.n⟩
          have hd := put_below HI3.out.bel ⟨op, 0, 0, 0, u.n⟩
          obtain ⟨wz, hwz⟩ : ∃ wz, putJ W3 w.heap.size ⟨op, 0, 0, 0, u.n⟩ = wz := ⟨_, rfl⟩
          rw [hwz] at hd s0 s1 s2 s3 s4
          unfold putJ at hwz
          dsimp only at hwz s0 s1 s2 s3 s4
          try rw [hwz]
          exact bodyPost_ret (v := .tuple #[Ji.val ⟨op, 0, 0, 0, u.n⟩, .bool false]) (by simp [results, Tryd.results26, go_sem, s0, s1, s2, s3, s4]) rfl ⟨⟨op, 0, 0, 0, u.n⟩, false, rfl, ⟨HOB.out, fit0, fit0, fit0, HVF.out⟩, HBAD.out, hd⟩
        subst hm1
        obtain ⟨z, rfl⟩ : ∃ z, R3 = [z] := List.length_eq_one_iff.1 HM3.out
        have hcc : ¬ cc = 1 := by omega
        have HTZ : Hid (Toks w w.heap.size (some ⟨b, o + 3, none⟩) (0 + 1) [z]) := by have := HTR3.out; rw [if_neg hcc] at this; exact this
        have HTE := Lib.hid (HTZ.out.restc (cc := cc - 1) (by omega))
        have hzm := HMR3.out z (by simp)
        have hzn := may_n hzm
        have HZF : Hid (-9223372036854775808 ≤ -z.n ∧ -z.n ≤ 9223372036854775807) := Lib.hid (by omega)
        have hzw : IntKind.i64.wrap (-z.n) = -z.n := IntWalk.i64_in _ (by omega)
        have HI4 : Hid (InsI w g f (W3.setCell ⟨g, 4, none⟩ (.int .i64 (-z.n))) ⟨op, 0, 0, 0, -z.n⟩ V) := HI3.out.setX (i := 4) rfl
        obtain ⟨W4, hW4⟩ : ∃ W, W3.setCell ⟨g, 4, none⟩ (.int .i64 (-z.n)) = W := ⟨_, rfl⟩
        rw [hW4] at HI4
        have HW4 := Lib.hid hW4
        have HTK : Hid (u.k = 3 ∧ bl u.s = [45]) := ⟨h3, hs⟩
        clear hW4 hu h3 hs hzm HTR3
        go_upto_region 23 with fail
        try rw [HW3.out]
        clear HW3 u0 u1 u2
        clear k0 k1 k2 k3 k4 r0 r1 r2 r3 r4 kf1 kf2 kf3 kf4 rf0 rf1 rf2 rf3 rf4
        obtain ⟨u0, u1, u2, _⟩ := (HTU.out.below HI3.out.bel).first
        go_upto_region 25 with fail
        clear u0 u1 u2
        obtain ⟨z0, z1, z2, _⟩ := (HTZ.out.below HI3.out.bel).first
        obtain ⟨⟨k0, k1, k2, k3, k4⟩, kf⟩ := box_cellsJ HI3.out.bx
        obtain ⟨⟨r0, r1, r2, r3, r4⟩, rf⟩ := box_cellsJ HI3.out.rv
        have kf1 := kf 1
        have kf2 := kf 2
        have kf3 := kf 3
        have kf4 := kf 4
        have rf0 := rf 0
        have rf1 := rf 1
        have rf2 := rf 2
        have rf3 := rf 3
        have rf4 := rf 4
        clear rf kf
        go_upto_region 26 with fail
        try rw [HW4.out]
        clear HW4 z0 z1 z2
        clear k0 k1 k2 k3 k4 r0 r1 r2 r3 r4 kf1 kf2 kf3 kf4 rf0 rf1 rf2 rf3 rf4
        obtain ⟨z0, z1, z2, _⟩ := (HTZ.out.below HI4.out.bel).first
        by_cases hz : z.k = 2
        case neg =>
          have e6 : (z.k == 2) = false := by simpa using hz
          have HBAD : Hid (insR (⟨1, ts, tn⟩ :: R) ⟨op, 0, 0, 0, -z.n⟩ false) := insR_none (insF_bad (by rw [HOE.out]; exact HGO.out.bad (insG_m0 HTK.out.1 HTK.out.2 (fun h => hz h.1))))
          clear hz
          obtain ⟨⟨k0, k1, k2, k3, k4⟩, kf⟩ := box_cellsJ HI4.out.bx
          obtain ⟨⟨r0, r1, r2, r3, r4⟩, rf⟩ := box_cellsJ HI4.out.rv
          have kf1 := kf 1
          have kf2 := kf 2
          have kf3 := kf 3
          have kf4 := kf 4
          have rf0 := rf 0
          have rf1 := rf 1
          have rf2 := rf 2
          have rf3 := rf 3
          have rf4 := rf 4
          clear rf kf
          go_wp2_with fail
          obtain ⟨s0, s1, s2, s3, s4⟩ := put_cells HI4.out.rv ⟨op, 0, 0, 0, -z.n⟩
          have hd := put_below HI4.out.bel ⟨op, 0, 0, 0, -z.n⟩
          obtain ⟨wz, hwz⟩ : ∃ wz, putJ W4 w.heap.size ⟨op, 0, 0, 0, -z.n⟩ = wz := ⟨_, rfl⟩
          rw [hwz] at hd s0 s1 s2 s3 s4
          unfold putJ at hwz
          dsimp only at hwz s0 s1 s2 s3 s4
          try rw [hwz]
          exact bodyPost_ret (v := .tuple #[Ji.val ⟨op, 0, 0, 0, -z.n⟩, .bool false]) (by simp [results, Tryd.results26, go_sem, s0, s1, s2, s3, s4]) rfl ⟨⟨op, 0, 0, 0, -z.n⟩, false, rfl, ⟨HOB.out, fit0, fit0, fit0, HZF.out⟩, HBAD.out, hd⟩
        have e6 : (z.k == 2) = true := by simpa using hz
        by_cases hy : z.n = 0
        · have e7 : (z.n != 0) = false := by simpa using hy
          have HBAD : Hid (insR (⟨1, ts, tn⟩ :: R) ⟨op, 0, 0, 0, -z.n⟩ false) := insR_none (insF_bad (by rw [HOE.out]; exact HGO.out.bad (insG_m0 HTK.out.1 HTK.out.2 (fun h => h.2 hy))))
          clear hz hy
          obtain ⟨⟨k0, k1, k2, k3, k4⟩, kf⟩ := box_cellsJ HI4.out.bx
          obtain ⟨⟨r0, r1, r2, r3, r4⟩, rf⟩ := box_cellsJ HI4.out.rv
          have kf1 := kf 1
          have kf2 := kf 2
          have kf3 := kf 3
          have kf4 := kf 4
          have rf0 := rf 0
          have rf1 := rf 1
          have rf2 := rf 2
          have rf3 := rf 3
          have rf4 := rf 4
          clear rf kf
          go_wp2_with fail
          obtain ⟨s0, s1, s2, s3, s4⟩ := put_cells HI4.out.rv ⟨op, 0, 0, 0, -z.n⟩
          have hd := put_below HI4.out.bel ⟨op, 0, 0, 0, -z.n⟩
          obtain ⟨wz, hwz⟩ : ∃ wz, putJ W4 w.heap.size ⟨op, 0, 0, 0, -z.n⟩ = wz := ⟨_, rfl⟩
          rw [hwz] at hd s0 s1 s2 s3 s4
          unfold putJ at hwz
          dsimp only at hwz s0 s1 s2 s3 s4
          try rw [hwz]
          exact bodyPost_ret (v := .tuple #[Ji.val ⟨op, 0, 0, 0, -z.n⟩, .bool false]) (by simp [results, Tryd.results26, go_sem, s0, s1, s2, s3, s4]) rfl ⟨⟨op, 0, 0, 0, -z.n⟩, false, rfl, ⟨HOB.out, fit0, fit0, fit0, HZF.out⟩, HBAD.out, hd⟩
        have e7 : (z.n != 0) = true := by simpa using hy
        have HGO2 := Lib.hid (HGO.out.step (insG_m1 HTK.out.1 HTK.out.2 hz hy))
        have cutE := cutA (cc - 1) b (o + 3)
        clear hz hy
        go_wp2_with fail
        go_roundw
        case rel => exact ⟨k + 1, 0, if cc - 1 = 1 then o + 3 else o + 3 + 3, cc - 1 - 1, [], V, F ++ [0], -z.n, by omega, by go_num, (by rw [← cutE]; exact (Decidable.em (cc = 2)).elim (fun h2 => by rw [if_pos h2, if_pos (by omega)]) (fun h2 => by rw [if_neg h2, if_neg (by omega)])), by omega, HTE, (fun t ht => absurd ht (by simp)), HGO2, hVS, HI4, HZF⟩
        case measure => simp [intOf]; omega
    · obtain rfl : k = s.size := by omega
      have HDN : Hid ((kJ op).drop s.size = []) := by unfold Hid; rw [List.drop_eq_nil_iff, HSZ.out]; exact Nat.le_refl _
      obtain ⟨x, y, z, rfl⟩ : ∃ x y z, V = [x, y, z] := by
        have := HV.out.len
        match V, this with
        | [x, y, z], _ => exact ⟨x, y, z, rfl⟩
      have hin : insR (⟨1, ts, tn⟩ :: R) ⟨op, x, y, z, N⟩ (decide (R2 = [])) := by
        have h2 := HG2.out
        rw [HDN.out] at h2
        have h3 := GoI.end_ (t := ⟨1, ts, tn⟩) (r := R) (R := R2) (a := x) (b := y) (c := z) (N := N) (F := F) (by rw [HOE.out]; exact h2) rfl (by rw [HOE.out]; exact HOP.out) (by rw [HV.out.fl]; exact HV.out.eq)
        rw [HOE.out] at h3
        exact h3
      have HIN := Lib.hid hin
      have hx := HV.out.fit x (by simp)
      have hy := HV.out.fit y (by simp)
      have hz := HV.out.fit z (by simp)
      have HXY : Hid ((-9223372036854775808 ≤ x ∧ x ≤ 9223372036854775807) ∧ (-9223372036854775808 ≤ y ∧ y ≤ 9223372036854775807) ∧ (-9223372036854775808 ≤ z ∧ z ≤ 9223372036854775807)) := ⟨hx, hy, hz⟩
      have HLN : Hid (R2.length = m2) := HT2.out.len
      clear hin hx hy hz hlt HG2
      have f0 := (blk_cell (i := 0) HI.out.fb rfl).1
      obtain ⟨⟨k0, k1, k2, k3, k4⟩, kf⟩ := box_cellsJ HI.out.bx
      obtain ⟨⟨r0, r1, r2, r3, r4⟩, rf⟩ := box_cellsJ HI.out.rv
      have kf1 := kf 1
      have kf2 := kf 2
      have kf3 := kf 3
      have kf4 := kf 4
      have rf0 := rf 0
      have rf1 := rf 1
      have rf2 := rf 2
      have rf3 := rf 3
      have rf4 := rf 4
      clear rf kf
      have HI1 : Hid (InsI w g f (wr.setCell ⟨g, 1, none⟩ (.int .i64 x)) ⟨op, x, 0, 0, N⟩ [x, y, z]) := HI.out.setX (i := 1) rfl
      obtain ⟨W1, hW1⟩ : ∃ W, wr.setCell ⟨g, 1, none⟩ (.int .i64 x) = W := ⟨_, rfl⟩
      rw [hW1] at HI1
      have HW1 := Lib.hid hW1
      clear hW1
      go_upto_region 32 with fail
      try rw [HW1.out]
      clear HW1 f0
      clear k0 k1 k2 k3 k4 r0 r1 r2 r3 r4 kf1 kf2 kf3 kf4 rf0 rf1 rf2 rf3 rf4
      have f1 := (blk_cell (i := 1) HI1.out.fb rfl).1
      obtain ⟨⟨k0, k1, k2, k3, k4⟩, kf⟩ := box_cellsJ HI1.out.bx
      obtain ⟨⟨r0, r1, r2, r3, r4⟩, rf⟩ := box_cellsJ HI1.out.rv
      have kf1 := kf 1
      have kf2 := kf 2
      have kf3 := kf 3
      have kf4 := kf 4
      have rf0 := rf 0
      have rf1 := rf 1
      have rf2 := rf 2
      have rf3 := rf 3
      have rf4 := rf 4
      clear rf kf
      have HI2 : Hid (InsI w g f (W1.setCell ⟨g, 2, none⟩ (.int .i64 y)) ⟨op, x, y, 0, N⟩ [x, y, z]) := HI1.out.setX (i := 2) rfl
      obtain ⟨W2, hW2⟩ : ∃ W, W1.setCell ⟨g, 2, none⟩ (.int .i64 y) = W := ⟨_, rfl⟩
      rw [hW2] at HI2
      have HW2 := Lib.hid hW2
      clear hW2
      go_upto_region 33 with fail
      try rw [HW2.out]
      clear HW2 f1
      clear k0 k1 k2 k3 k4 r0 r1 r2 r3 r4 kf1 kf2 kf3 kf4 rf0 rf1 rf2 rf3 rf4
      have f2 := (blk_cell (i := 2) HI2.out.fb rfl).1
      obtain ⟨⟨k0, k1, k2, k3, k4⟩, kf⟩ := box_cellsJ HI2.out.bx
      obtain ⟨⟨r0, r1, r2, r3, r4⟩, rf⟩ := box_cellsJ HI2.out.rv
      have kf1 := kf 1
      have kf2 := kf 2
      have kf3 := kf 3
      have kf4 := kf 4
      have rf0 := rf 0
      have rf1 := rf 1
      have rf2 := rf 2
      have rf3 := rf 3
      have rf4 := rf 4
      clear rf kf
      have HI3 : Hid (InsI w g f (W2.setCell ⟨g, 3, none⟩ (.int .i64 z)) ⟨op, x, y, z, N⟩ [x, y, z]) := HI2.out.setX (i := 3) rfl
      obtain ⟨W3, hW3⟩ : ∃ W, W2.setCell ⟨g, 3, none⟩ (.int .i64 z) = W := ⟨_, rfl⟩
      rw [hW3] at HI3
      have HW3 := Lib.hid hW3
      clear hW3
      go_upto_region 34 with fail
      try rw [HW3.out]
      clear HW3 f2
      clear k0 k1 k2 k3 k4 r0 r1 r2 r3 r4 kf1 kf2 kf3 kf4 rf0 rf1 rf2 rf3 rf4
      obtain ⟨⟨k0, k1, k2, k3, k4⟩, kf⟩ := box_cellsJ HI3.out.bx
      obtain ⟨⟨r0, r1, r2, r3, r4⟩, rf⟩ := box_cellsJ HI3.out.rv
      have kf1 := kf 1
      have kf2 := kf 2
      have kf3 := kf 3
      have kf4 := kf 4
      have rf0 := rf 0
      have rf1 := rf 1
      have rf2 := rf 2
      have rf3 := rf 3
      have rf4 := rf 4
      clear rf kf
      by_cases hm0 : m2 = 0
      · subst hm0
        have HR0 : Hid (R2 = []) := List.eq_nil_of_length_eq_zero HLN.out
        have HINS : Hid (insR (⟨1, ts, tn⟩ :: R) ⟨op, x, y, z, N⟩ true) := by have := HIN.out; rw [HR0.out] at this; exact this
        go_wp2_with fail
        obtain ⟨s0, s1, s2, s3, s4⟩ := put_cells HI3.out.rv ⟨op, x, y, z, N⟩
        have hd := put_below HI3.out.bel ⟨op, x, y, z, N⟩
        obtain ⟨wz, hwz⟩ : ∃ wz, putJ W3 w.heap.size ⟨op, x, y, z, N⟩ = wz := ⟨_, rfl⟩
        rw [hwz] at hd s0 s1 s2 s3 s4
        unfold putJ at hwz
        dsimp only at hwz s0 s1 s2 s3 s4
        try rw [hwz]
        exact bodyPost_ret (v := .tuple #[Ji.val ⟨op, x, y, z, N⟩, .bool true]) (by simp [results, Tryd.results26, go_sem, s0, s1, s2, s3, s4]) rfl ⟨⟨op, x, y, z, N⟩, true, rfl, ⟨HOB.out, HXY.out.1, HXY.out.2.1, HXY.out.2.2, HFN.out⟩, HINS.out, hd⟩
      · have HR0 : Hid (decide (R2 = []) = false) := decide_eq_false (fun e => hm0 (by rw [← HLN.out, e]; rfl))
        have HINS : Hid (insR (⟨1, ts, tn⟩ :: R) ⟨op, x, y, z, N⟩ false) := by have := HIN.out; rw [HR0.out] at this; exact this
        have e0 : ((m2 : Int) == 0) = false := by rw [beq_eq_false_iff_ne]; omega
        go_wp2_with fail
        obtain ⟨s0, s1, s2, s3, s4⟩ := put_cells HI3.out.rv ⟨op, x, y, z, N⟩
        have hd := put_below HI3.out.bel ⟨op, x, y, z, N⟩
        obtain ⟨wz, hwz⟩ : ∃ wz, putJ W3 w.heap.size ⟨op, x, y, z, N⟩ = wz := ⟨_, rfl⟩
        rw [hwz] at hd s0 s1 s2 s3 s4
        unfold putJ at hwz
        dsimp only at hwz s0 s1 s2 s3 s4
        try rw [hwz]
        exact bodyPost_ret (v := .tuple #[Ji.val ⟨op, x, y, z, N⟩, .bool false]) (by simp [results, Tryd.results26, go_sem, s0, s1, s2, s3, s4]) rfl ⟨⟨op, x, y, z, N⟩, false, rfl, ⟨HOB.out, HXY.out.1, HXY.out.2.1, HXY.out.2.2, HFN.out⟩, HINS.out, hd⟩
end Go.Proofs.YtbmcddolfofmdaaDoor
/- What code's text is read as, as a call's end. -/
namespace Go.Proofs.YtbmcddolfofmdaaDoor
open Go.RowKit

def ParseP (s : ByteArray) (w : World) (e : Ending) (w' : World) : Prop :=
  ∃ A' c', e = .returned (.tuple #[.agg #[.int .i64 (parseF (bl s)).1.R, .int .i64 (parseF (bl s)).1.A, .int .i64 (parseF (bl s)).1.I, .slice A' (parseF (bl s)).1.l.length c'], .int .i64 (parseF (bl s)).2.1, .int .i64 (parseF (bl s)).2.2]) ∧ OwnJ w' w.heap.size A' c' (parseF (bl s)).1.l ∧ Below w.heap.size w w'
/-- what Text tells -/
def textF (c : Cd) : ByteArray × Int := if c.may then joinF (progT c) else (⟨#[]⟩, 1)
def TextP (q : Cq) (w : World) (e : Ending) (w' : World) : Prop := e = .returned (.tuple #[.string (textF q.cd).1, .int .i64 (textF q.cd).2]) ∧ Below w.heap.size w w'
end Go.Proofs.YtbmcddolfofmdaaDoor
/- The document's Join: it gives what lexer.Join does. -/
namespace Go.Proofs.YtbmcddolfofmdaaDoor
open Go.RowKit

/-- no line is empty, one token after the other (e: the line is empty so far) -/
def fB : Bool → List Tk → Bool
  | e, [] => !e
  | e, t :: l => if t.k = 4 then !e && fB true l else fB false l
theorem fB_full : ∀ (l cur : List Tk), fullL cur l ↔ fB (decide (cur = [])) l = true
  | [], cur => by
    unfold fullL fB
    simp [linesK]
  | t :: l, cur => by
    unfold fB
    by_cases h : t.k = 4
    · have ih := fB_full l []
      unfold fullL at ih ⊢
      rw [linesK_line h, linesK_all, if_pos h]
      simp only [List.nil_append, List.singleton_append, List.mem_cons, forall_eq_or_imp, Bool.and_eq_true]
      rw [ih]
      simp
    · have ih := fB_full l (cur ++ [t])
      unfold fullL at ih ⊢
      rw [linesK_on h, if_neg h, ih]
      simp
theorem joinF_fB {L : List Tk} (h0 : L ≠ []) (hm : L.all mayB = true) : joinF L = if fB true L = false then (⟨#[]⟩, 1) else if 4096 < L.length then (⟨#[]⟩, 2) else (ofL (jt false L), 0) := by
  have h1 := fB_full L []
  unfold joinF
  rw [if_neg (by rw [hm]; decide), joinT_jt h0]
  by_cases hf : fB true L = false
  · rw [if_pos hf, if_pos]
    apply Classical.byContradiction
    intro hx
    have : fullL [] L := fun R hR e => hx ⟨R, by unfold linesL; rw [if_neg h0]; exact hR, e⟩
    rw [h1] at this
    simp [hf] at this
  · rw [if_neg hf, if_neg]
    rintro ⟨R, hR, e⟩
    have h2 : fullL [] L := by rw [h1]; simpa using hf
    unfold linesL at hR
    rw [if_neg h0] at hR
    exact h2 R hR e
theorem joinF_bad {L : List Tk} {t : Tk} (ht : t ∈ L) (hm : mayB t = false) : joinF L = (⟨#[]⟩, 1) := by
  unfold joinF
  rw [if_pos]
  rw [List.all_eq_false]
  exact ⟨t, ht, by rw [hm]; decide⟩
theorem fB_line {e : Bool} {t : Tk} {l : List Tk} (h : t.k = 4) : fB e (t :: l) = (!e && fB true l) := by rw [fB, if_pos h]
theorem fB_on {e : Bool} {t : Tk} {l : List Tk} (h : t.k ≠ 4) : fB e (t :: l) = fB false l := by rw [fB, if_neg h]
theorem all_drop {L : List Tk} {k : Nat} {x : Tk} (hx : L[k]? = some x) (h : (L.take k).all mayB = true) (hm : mayB x = true) : (L.take (k + 1)).all mayB = true := by
  rw [List.take_add_one, hx, List.all_append, h]
  simp [hm]
theorem Toks.cell {w : World} {B n b off k : Nat} {L : List Tk} {x : Tk} (h : Toks w B (some ⟨b, off, none⟩) n L) (hx : L[k]? = some x) : w.cell? ⟨b, off + k * 3, none⟩ = some (.int .i64 x.k) := by
  have hk := (List.getElem?_eq_some_iff.1 hx).1
  rw [h.1] at hk
  obtain ⟨b', off', e, _, hc⟩ := h.2.2 (by omega)
  injection e with e; injection e with e1 e2
  subst e1 e2
  exact (hc k x hx).1
theorem totT_le : ∀ (L : List Tk), (∀ t ∈ L, mayT t) → totT L ≤ 18 * L.length
  | [], _ => by simp [totT]
  | t :: l, h => by
    have h1 := totT_le l fun x hx => h x (by simp [hx])
    have h2 := tokF_len (h t (by simp))
    unfold totT at h1 ⊢
    simp only [List.map_cons, List.sum_cons, List.length_cons]
    omega
theorem bl_cat (s t : ByteArray) : bl (s ++ t) = bl s ++ bl t := bl_append s t
theorem jt_line {b : Bool} {t : Tk} {l : List Tk} (h : t.k = 4) : jt b (t :: l) = 10 :: jt false l := by rw [jt, if_pos h]
theorem jt_on {b : Bool} {t : Tk} {l : List Tk} (h : t.k ≠ 4) : jt b (t :: l) = (if b then 32 :: bl t.s else bl t.s) ++ jt true l := by rw [jt, if_neg h]
end Go.Proofs.YtbmcddolfofmdaaDoor
/- The document's Text of code. -/
namespace Go.Proofs.YtbmcddolfofmdaaDoor
open Go.RowKit

theorem argT_ok {c : UInt8} {v N : Int} (h0 : 0 ≤ v) (h1 : v ≤ 9223372036854775807) (hN0 : -9223372036854775807 ≤ N) (hN1 : N ≤ 9223372036854775807) : ∀ t ∈ argT c v N, t.ok := by
  have hreg : ∀ d : UInt8, (regT d v).ok := fun d => by
    rw [reg_text d h0]
    have h2 := itoa_size h0 h1
    refine ⟨by show -9223372036854775808 ≤ (1 : Int); decide, by show (1 : Int) ≤ 9223372036854775807; decide, by show -9223372036854775808 ≤ (0 : Int); decide, by show (0 : Int) ≤ 9223372036854775807; decide, ?_⟩
    show ((⟨#[d]⟩ : ByteArray) ++ ofL (Lib.itoa v)).size ≤ maxLen
    rw [ByteArray.size_append]
    have h3 : (⟨#[d]⟩ : ByteArray).size = 1 := rfl
    unfold maxLen
    omega
  intro t ht
  unfold argT at ht
  split at ht
  · rw [List.mem_singleton.1 ht]; exact hreg _
  · split at ht
    · rw [List.mem_singleton.1 ht]; exact hreg _
    · split at ht
      · exact numT_ok (by omega) h1 t ht
      · split at ht
        · exact numT_ok hN0 hN1 t ht
        · cases ht
theorem argsT_ok {N : Int} (hN0 : -9223372036854775807 ≤ N) (hN1 : N ≤ 9223372036854775807) : ∀ (ks : List UInt8) (vs : List Int), (∀ v ∈ vs, 0 ≤ v ∧ v ≤ 9223372036854775807) → ∀ t ∈ argsT ks vs N, t.ok
  | [], _, _, t, ht => by simp [argsT] at ht
  | _ :: _, [], _, t, ht => by simp [argsT] at ht
  | k :: ks, v :: vs, h, t, ht => by
    unfold argsT at ht
    rcases List.mem_append.1 ht with ht | ht
    · exact argT_ok (h v (by simp)).1 (h v (by simp)).2 hN0 hN1 t ht
    · exact argsT_ok hN0 hN1 ks vs (fun u hu => h u (by simp [hu])) t ht
theorem wJ_five (op : Int) : (wJ op).length ≤ 5 := by
  have hall : ∀ l ∈ wordsJ, l.length ≤ 5 := by decide
  unfold wJ
  split
  · by_cases hl : op.toNat < wordsJ.length
    · rw [List.getD_eq_getElem?_getD, List.getElem?_eq_getElem hl]
      exact hall _ (List.getElem_mem hl)
    · rw [List.getD_eq_getElem?_getD, List.getElem?_eq_none (by omega)]
      exact Nat.zero_le _
  · exact Nat.zero_le _
theorem tokW_ok {l : List UInt8} (h : l.length ≤ 5) : (tokW l).ok := by
  refine ⟨by show -9223372036854775808 ≤ (1 : Int); decide, by show (1 : Int) ≤ 9223372036854775807; decide, by show -9223372036854775808 ≤ (0 : Int); decide, by show (0 : Int) ≤ 9223372036854775807; decide, ?_⟩
  show (ofL l).size ≤ maxLen
  rw [ofL_size]
  unfold maxLen
  omega
theorem may_f0 {R A L : Int} {x : Ji} (h : mayJ R A L x = true) : ∀ (i : Nat) (v : Int), x.f[i]? = some v → 0 ≤ v := by
  intro i v hv
  have hi : i < 3 := (List.getElem?_eq_some_iff.1 hv).1
  have := ((mayJ_parts h).2.1 i hi).1
  rw [List.getD_eq_getElem?_getD, hv] at this
  exact this
theorem may_n0 {R A L : Int} {x : Ji} (h : mayJ R A L x = true) : -9223372036854775807 ≤ x.n ∧ x.n ≤ 9223372036854775807 := by
  obtain ⟨_, _, m3, m4⟩ := mayJ_parts h
  by_cases hk : (110 : UInt8) ∈ kJ x.op
  · have := m3 hk; omega
  · rw [m4 hk]; omega
theorem lineT_ok {R A L : Int} {x : Ji} (h : mayJ R A L x = true) (hx : x.ok) : ∀ t ∈ lineT x, t.ok := by
  intro t ht
  unfold lineT at ht
  rcases List.mem_cons.1 ht with rfl | ht
  · exact tokW_ok (wJ_five _)
  · refine argsT_ok (may_n0 h).1 (may_n0 h).2 _ _ (fun v hv => ?_) t ht
    obtain ⟨i, hi, rfl⟩ := List.mem_iff_getElem.1 hv
    have h1 := List.getElem?_eq_getElem hi
    exact ⟨may_f0 h i _ h1, (Ji.f_fits hx i _ h1).2⟩
theorem lineTk_ok : lineTk.ok := ⟨by decide, by decide, by decide, by decide, by show 0 ≤ maxLen; unfold maxLen; omega⟩
theorem restT_snoc : ∀ (l : List Ji) (x : Ji), restT (l ++ [x]) = restT l ++ (lineTk :: lineT x)
  | [], x => by simp [restT]
  | y :: l, x => by
    rw [List.cons_append]
    unfold restT
    rw [restT_snoc l x]
    simp
theorem prog_step {R A I : Int} {l : List Ji} {k : Nat} {x : Ji} (hx : l[k]? = some x) : progT ⟨R, A, I, l.take (k + 1)⟩ = (progT ⟨R, A, I, l.take k⟩ ++ [lineTk]) ++ lineT x := by
  show headT R A I ++ restT (l.take (k + 1)) = ((headT R A I ++ restT (l.take k)) ++ [lineTk]) ++ lineT x
  rw [List.take_add_one, hx]
  show headT R A I ++ restT (l.take k ++ [x]) = _
  rw [restT_snoc]
  simp
theorem step_appendToks {ops : Array Oper} {o : Oper} {a : Act} {w : World} {K : Act → World → Prop} {Q : Exit → Act → World → Prop} {E : Prop}
    (hg : o.guard = none) (s x : Operand) (hop : o.op = Op.call { callee := Callee.builtin Builtin.append, args := #[s, x], argTypes := #[47, 47] })
    (base : Nat) (A A2 : Option Addr) (c m c2 B p r : Nat) (xs ys : List Tk) (hs : a.eval s = .slice A p c) (hx : a.eval x = .slice A2 m c2) (ho : OwnT w base A c xs) (hp : xs.length = p) (hr : p + m = r) (hi2 : Toks w B A2 m ys) (hl : r ≤ 1000000) (hb : base ≤ w.heap.size)
    (hK : ∀ A' c' w', OwnT w' base A' c' (xs ++ ys) → w.grownBy w' (Value.slice A p c).ownBlock → K (a.put o.dst (.slice A' r c')) w') :
    if Region.wanted o (yielded ops a.tmps) = true then Oper.wp Tryd.prog o a w K Q else E := by
  rw [if_pos (by simp [Region.wanted, hg])]
  exact wp_appendToks s x hop base A A2 c m c2 B p r xs ys hs hx ho hp hr hi2 hl hb hK
def hdJ (R A I : Int) (k : Nat) : List Tk := tokW codeW :: ([R, A, I].take k).flatMap numT
theorem hdJ_step {R A I v : Int} {k : Nat} (hv : [R, A, I][k]? = some v) : hdJ R A I (k + 1) = hdJ R A I k ++ numT v := by
  unfold hdJ
  rw [List.take_add_one, hv, List.flatMap_append]
  simp
theorem hdJ_all (R A I : Int) : hdJ R A I 3 = progT ⟨R, A, I, []⟩ := by
  unfold hdJ progT headT restT
  simp
theorem hdJ_len (R A I : Int) (k : Nat) : (hdJ R A I k).length ≤ 7 := by
  have h1 := numT_two R
  have h2 := numT_two A
  have h3 := numT_two I
  unfold hdJ
  match k with
  | 0 => simp
  | 1 => simp; omega
  | 2 => simp; omega
  | k + 3 => simp; omega
theorem prog_ok {R A I : Int} (hR : 0 ≤ R ∧ R ≤ 128) (hA : 0 ≤ A ∧ A ≤ 128) (hI : 0 ≤ I ∧ I ≤ 128) : ∀ l : List Ji, (∀ x ∈ l, ∀ t ∈ lineT x, t.ok) → ∀ t ∈ progT ⟨R, A, I, l⟩, t.ok := by
  intro l hl t ht
  have hrest : ∀ l : List Ji, (∀ x ∈ l, ∀ t ∈ lineT x, t.ok) → ∀ t ∈ restT l, t.ok := by
    intro l
    induction l with
    | nil => intro _ t ht; simp [restT] at ht
    | cons x l ih =>
      intro h t ht
      unfold restT at ht
      rcases List.mem_cons.1 ht with rfl | ht
      · exact lineTk_ok
      · rcases List.mem_append.1 ht with ht | ht
        · exact h x (by simp) t ht
        · exact ih (fun y hy => h y (by simp [hy])) t ht
  rcases List.mem_append.1 (show t ∈ headT R A I ++ restT l from ht) with ht | ht
  · unfold headT at ht
    simp only [List.mem_append, List.mem_singleton] at ht
    rcases ht with ((rfl | ht) | ht) | ht
    · exact tokW_ok (by decide)
    · exact numT_ok (by omega) (by omega) t ht
    · exact numT_ok (by omega) (by omega) t ht
    · exact numT_ok (by omega) (by omega) t ht
  · exact hrest l hl t ht
end Go.Proofs.YtbmcddolfofmdaaDoor
/- The document's Lines: tokens cut into lines. -/
namespace Go.Proofs.YtbmcddolfofmdaaDoor
open Go.RowKit

set_option maxRecDepth 100000 in
set_option maxHeartbeats 8000000 in
theorem refLines_any (A : Option Addr) (n c : Nat) (L : List Tk) (w : World) (h : Toks w w.heap.size A n L) (hn : n ≤ 100000) : Calls Tryd.prog 25 #[.slice A n c] w (LinesP w (linesL L)) := by
  by_cases h0 : n = 0
  · subst h0
    have hL : Hid (linesL L = []) := by
      unfold Hid linesL
      rw [if_pos (List.eq_nil_of_length_eq_zero h.1)]
    go_enter Tryd.func25, Tryd.ntmps25
    go_wp2
    go_ret
    exact ⟨none, 0, 0, [], rfl, rfl, by rw [hL.out]; rfl, RowsK.nil_ _ _, Below.refl _ _⟩
  · have h1 : ((n : Int) == 0) = false := by rw [beq_eq_false_iff_ne]; omega
    obtain ⟨R, HR⟩ : ∃ R, Hid (linesL L = R) := ⟨_, Lib.hid rfl⟩
    have HI0 : Hid (linesK [] [] (L.drop 0) = R) := by
      unfold Hid
      rw [← HR.out]
      unfold linesL
      rw [if_neg (fun e => h0 (by rw [← h.1, e]; rfl)), List.drop_zero]
    have HN := Lib.hid h.1
    rw [HR.out]
    clear h0 HR
    go_enter Tryd.func25, Tryd.ntmps25
    go_wp2
    go_loopw [3, 12] (fun v i wr => ∃ (k gH ch P : Nat) (rs : List RowK) (r : RowK), k ≤ n ∧ i = .int .i64 k ∧ v = .slice (some ⟨gH, 0, none⟩) (P + 1) ch ∧ Hid (rs.length = P) ∧ P ≤ k ∧ r.L.length ≤ k ∧ Hid (linesK (rs.map (·.L)) r.L (L.drop k) = R) ∧ Hid (RowsK wr w.heap.size (some ⟨gH, 0, none⟩) ch (rs ++ [r])) ∧ Hid (Below w.heap.size w wr)) (fun _ i _ => n - (intOf i).toNat)
    case atStart => exact ⟨0, w.heap.size, 1, 0, [], ⟨none, 0, []⟩, Nat.zero_le _, rfl, rfl, rfl, Nat.le_refl _, Nat.le_refl _, HI0, RowsK.one w _ (Nat.le_refl _), (Below.refl _ _).alloc (Nat.le_refl _) _⟩
    case round =>
      obtain ⟨k, gH, ch, P, rs, ⟨rA, rc, rL⟩, hk, rfl, rfl, HP, hPk, hrk, HC, HRW, HB⟩ := hrel
      dsimp only at hrk HC
      by_cases hlt : k < n
      · obtain ⟨b, off, x, rfl, hbl, HX, hc0, hc1, hc2, _⟩ := (h.on HB.out (Nat.le_refl _)).at_ hlt
        have hbw : w.heap.size ≤ wr.heap.size := HB.out.size
        have hdr := drop_cons HX.out
        obtain ⟨w1, hw1⟩ : ∃ w1, wr.alloc (.cells #[.int .i64 x.k, .string x.s, .int .i64 x.n] 55) = w1 := ⟨_, rfl⟩
        by_cases h4 : x.k = 4
        · have HC2 : Hid (linesK ((rs ++ [(⟨rA, rc, rL⟩ : RowK)]).map (·.L)) [] (L.drop (k + 1)) = R) := by
            unfold Hid
            rw [← HC.out, hdr, linesK_line h4, List.map_append]
            rfl
          have b4 : (x.k == 4) = true := by rw [beq_iff_eq]; exact h4
          have HW1 : Hid (RowsK (wr.alloc (.cells #[.int .i64 x.k, .string x.s, .int .i64 x.n] 55)) w.heap.size (some ⟨gH, 0, none⟩) ch (rs ++ [(⟨rA, rc, rL⟩ : RowK)])) := HRW.out.alloc _
          have HB1 : Hid (Below w.heap.size w (wr.alloc (.cells #[.int .i64 x.k, .string x.s, .int .i64 x.n] 55))) := HB.out.alloc hbw _
          have HP1 : Hid ((rs ++ [(⟨rA, rc, rL⟩ : RowK)]).length = P + 1) := Lib.hid (by rw [List.length_append, HP.out]; rfl)
          clear hw1 hdr h4 HC HI0
          go_wp2_with (at_builtin; refine wpList_appendNew rfl (.tmp 19) (.tmp 20) rfl w.heap.size (some ⟨gH, 0, none⟩) ch (P + 1) (P + 1 + 1) (wr.heap.size + 1) (rs ++ [(⟨rA, rc, rL⟩ : RowK)]) (size_allocE _ _) rfl rfl HW1.out HP1.out rfl (by omega) HB1.out.size ?_; intro g' c' w4 HR4 HB4)
          go_roundw
          case rel => exact ⟨k + 1, g', c', P + 1, rs ++ [(⟨rA, rc, rL⟩ : RowK)], ⟨none, 0, []⟩, by omega, by go_num, rfl, HP1, by omega, Nat.zero_le _, HC2, HR4, HB4 _ _ (Nat.le_refl _) HB1.out⟩
          case measure => simp [intOf]; omega
        · have HC2 : Hid (linesK (rs.map (·.L)) (rL ++ [x]) (L.drop (k + 1)) = R) := by
            unfold Hid
            rw [← HC.out, hdr, linesK_on h4]
          have b4 : (x.k == 4) = false := by rw [beq_eq_false_iff_ne]; exact h4
          obtain ⟨q0, q1, q2⟩ : w1.cell? ⟨wr.heap.size, 0, none⟩ = some (.int .i64 x.k) ∧ w1.cell? ⟨wr.heap.size, 1, none⟩ = some (.string x.s) ∧ w1.cell? ⟨wr.heap.size, 2, none⟩ = some (.int .i64 x.n) := by
            rw [← hw1]
            exact boxCells (box_new wr x)
          obtain ⟨p, hp⟩ : ∃ p, rL.length = p := ⟨_, rfl⟩
          rw [hp] at hrk
          have hbw1 : w.heap.size ≤ w1.heap.size := by rw [← hw1]; exact Nat.le_trans hbw (size_allocT _ _)
          have HR1 : RowsK w1 w.heap.size (some ⟨gH, 0, none⟩) ch (rs ++ [(⟨rA, rc, rL⟩ : RowK)]) := by rw [← hw1]; exact HRW.out.alloc _
          have HB1 : Hid (Below w.heap.size w w1) := by unfold Hid; rw [← hw1]; exact HB.out.alloc hbw _
          obtain ⟨hc, hf⟩ := HR1.hdr_at (k := P) (r := ⟨rA, rc, rL⟩) (by rw [← HP.out]; simp)
          simp only [RowK.hdr, hp] at hc
          have HRA : Hid (RowsK (w1.alloc (.cells #[.int .i64 x.k, .string x.s, .int .i64 x.n] 55)).drew w.heap.size (some ⟨gH, 0, none⟩) ch (rs ++ [(⟨rA, rc, rL⟩ : RowK)])) := (HR1.alloc _).drew
          have HOA : Hid (OwnT (w1.alloc (.cells #[.int .i64 x.k, .string x.s, .int .i64 x.n] 55)).drew w.heap.size rA rc rL) := HRA.out.ins ⟨rA, rc, rL⟩ (by simp)
          have HBX : Hid (∃ fz, (w1.alloc (.cells #[.int .i64 x.k, .string x.s, .int .i64 x.n] 55)).drew.heap[w1.heap.size]? = some (.cells #[.int .i64 x.k, .string x.s, .int .i64 x.n] 55 fz)) := ⟨_, heap_allocT w1 _⟩
          have HSZ : Hid ((w1.alloc (.cells #[.int .i64 x.k, .string x.s, .int .i64 x.n] 55)).drew.heap.size = w1.heap.size + 1) := size_allocE _ _
          have HZA : Hid (w.heap.size ≤ (w1.alloc (.cells #[.int .i64 x.k, .string x.s, .int .i64 x.n] 55)).drew.heap.size) := Nat.le_trans hbw1 (size_allocT _ _)
          have HBA : Hid (Below w.heap.size w (w1.alloc (.cells #[.int .i64 x.k, .string x.s, .int .i64 x.n] 55)).drew) := (HB1.out.alloc hbw1 _).drew
          have hc2 := fun o => cellPastT hc o
          have HpL := Lib.hid hp
          have hl1 : p + 1 ≤ 1000000 := by omega
          have hPw : IntKind.i64.wrap (P : Int) = (P : Int) := IntWalk.i64_in _ (by omega)
          have hPP : (P : Int) < (P : Int) + 1 := by omega
          clear hdr h4 HC HI0 HR1 hp
          go_wp2_with fail
          go_region_law (refine step_appendTokL rfl (.tmp 31) (.tmp 33) rfl w.heap.size rA rc p (p + 1) w1.heap.size (w1.heap.size + 1) x rL rfl rfl HBX.out HOA.out HpL.out rfl hl1 HZA.out HSZ.out ?_; intro g4 c4 w4 HO4 HG4 HL4; have hL5 : (Value.slice rA p rc).ownBlock = some g4 ∨ g4 = (w1.alloc (.cells #[.int .i64 x.k, .string x.s, .int .i64 x.n] 55)).drew.heap.size := (by rw [HSZ.out]; exact HL4); obtain ⟨key1, l4, m4, key2⟩ := RowsK.lastP HRA.out HpL.out HP.out HO4 HG4 hL5; have K1 := Lib.hid key1; have K2 := Lib.hid (key2 _ _ (Nat.le_refl _) HBA.out); clear key1 key2 hL5 HL4 HG4 HO4)
          all_goals (
            go_wp2_with fail
            go_roundw
            case rel => exact ⟨k + 1, gH, ch, P, rs, ⟨some ⟨g4, 0, none⟩, c4, rL ++ [x]⟩, by omega, by go_num, rfl, HP, by omega, by simp only [List.length_append, List.length_singleton]; rw [HpL.out]; omega, HC2, K1, K2⟩
            case measure => simp [intOf]; omega)
      · obtain rfl : n = k := by omega
        have HC2 : Hid ((rs ++ [(⟨rA, rc, rL⟩ : RowK)]).map (·.L) = R) := by
          unfold Hid
          rw [← HC.out, List.drop_of_length_le (by rw [HN.out]; omega), linesK, List.map_append]
          rfl
        clear hlt HC HI0
        go_wp2
        go_ret
        exact ⟨_, P + 1, ch, rs ++ [(⟨rA, rc, rL⟩ : RowK)], rfl, by rw [List.length_append, HP.out]; rfl, HC2.out, HRW.out, HB.out⟩
end Go.Proofs.YtbmcddolfofmdaaDoor
