/- purflelaw14.CodeTells returns true. -/
import Derived.Test.YtbmcddolfofmdaaGreatDoorPJTellM
namespace Go.Proofs.YtbmcddolfofmdaaGreatDoor
open Go.RowKit

set_option maxRecDepth 100000 in
set_option maxHeartbeats 16000000 in
theorem codeTells_any (w : World) (q : Cq) (hq : q.In w) (d : Cq) (hd : d.In w) (x : Ji) (hx : x.ok) (at_ : Int) (ha0 : -9223372036854775808 ≤ at_) (ha1 : at_ ≤ 9223372036854775807) (by_ : Int) (hb0 : -9223372036854775808 ≤ by_) (hb1 : by_ ≤ 9223372036854775807) (hSh : ShT w) (hTb : TabT w) :
    Calls Tryz.prog 3 #[q.val, d.val, x.val, .int .i64 at_, .int .i64 by_] w fun r w' => r = .returned (.bool true) ∧ Below w.heap.size w w' := by
  obtain ⟨R, A, I, P, n, c, l⟩ := q
  obtain ⟨R2, A2, I2, P2, n2, c2, l2⟩ := d
  have HQ := Lib.hid hq
  have HSh := Lib.hid hSh
  have HTb := Lib.hid hTb
  have HD := Lib.hid hd
  have HXO := Lib.hid hx
  have HAT : Hid (-9223372036854775808 ≤ at_ ∧ at_ ≤ 9223372036854775807) := ⟨ha0, ha1⟩
  have HBY : Hid (-9223372036854775808 ≤ by_ ∧ by_ ≤ 9223372036854775807) := ⟨hb0, hb1⟩
  have hn1 : n ≤ 9223372036854775807 := hq.n1
  have hn2 : n2 ≤ 9223372036854775807 := hd.n1
  obtain ⟨W0, hW0⟩ : ∃ W, ((w.alloc (Cq.obj ⟨R, A, I, P, n, c, l⟩)).alloc (Cq.obj ⟨R2, A2, I2, P2, n2, c2, l2⟩)).alloc x.obj = W := ⟨_, rfl⟩
  have HT0 : Hid (TellB w W0 ⟨R, A, I, P, n, c, l⟩ ⟨R2, A2, I2, P2, n2, c2, l2⟩ x) := by rw [← hW0]; exact TellB.new w ⟨R, A, I, P, n, c, l⟩ ⟨R2, A2, I2, P2, n2, c2, l2⟩ x
  clear hq hd hx hSh hTb
  by_cases hf : n ≤ 300
  case neg =>
    have d0 : decide (n ≤ 300) = false := decide_eq_false hf
    go_enter Tryz.func3, Tryz.ntmps3
    go_wp2_with fail
    try rw [hW0]
    refine (live14_any W0 (HSh.out.on HT0.out.bel)).mono ?_
    rintro e w1 ⟨rfl, hb⟩
    have HT1 := Lib.hid (HT0.out.on hb)
    clear hb
    obtain ⟨m0, m1, m2, m3, _⟩ := lvCells HT1.out.bc
    obtain ⟨j0, j1, j2, j3, _⟩ := lvCells HT1.out.bd
    obtain ⟨⟨k0, k1, k2, k3, k4⟩, _⟩ := box_cellsJ HT1.out.bx
    go_wp2_with fail
    refine (refFew14_any ⟨R, A, I, P, n, c, l⟩ w1 (HQ.out.on HT1.out.bel)).mono ?_
    rintro e w2 ⟨rfl, hb⟩
    have HT2 := Lib.hid (HT1.out.on hb)
    clear hb
    clear m0 m1 m2 m3 j0 j1 j2 j3 k0 k1 k2 k3 k4
    dsimp only
    rw [d0]
    go_wp2_with fail
    go_ret
    exact ⟨rfl, HT2.out.bel⟩
  have d0 : decide (n ≤ 300) = true := decide_eq_true hf
  by_cases hg : n2 ≤ 300
  case neg =>
    have f0 : decide (n2 ≤ 300) = false := decide_eq_false hg
    go_enter Tryz.func3, Tryz.ntmps3
    go_wp2_with fail
    try rw [hW0]
    refine (live14_any W0 (HSh.out.on HT0.out.bel)).mono ?_
    rintro e w1 ⟨rfl, hb⟩
    have HT1 := Lib.hid (HT0.out.on hb)
    clear hb
    obtain ⟨m0, m1, m2, m3, _⟩ := lvCells HT1.out.bc
    obtain ⟨j0, j1, j2, j3, _⟩ := lvCells HT1.out.bd
    obtain ⟨⟨k0, k1, k2, k3, k4⟩, _⟩ := box_cellsJ HT1.out.bx
    go_wp2_with fail
    refine (refFew14_any ⟨R, A, I, P, n, c, l⟩ w1 (HQ.out.on HT1.out.bel)).mono ?_
    rintro e w2 ⟨rfl, hb⟩
    have HT2 := Lib.hid (HT1.out.on hb)
    clear hb
    clear m0 m1 m2 m3 j0 j1 j2 j3 k0 k1 k2 k3 k4
    dsimp only
    rw [d0]
    obtain ⟨m0, m1, m2, m3, _⟩ := lvCells HT2.out.bc
    obtain ⟨j0, j1, j2, j3, _⟩ := lvCells HT2.out.bd
    obtain ⟨⟨k0, k1, k2, k3, k4⟩, _⟩ := box_cellsJ HT2.out.bx
    go_wp2_with fail
    refine (refFew14_any ⟨R2, A2, I2, P2, n2, c2, l2⟩ w2 (HD.out.on HT2.out.bel)).mono ?_
    rintro e w3 ⟨rfl, hb⟩
    have HT3 := Lib.hid (HT2.out.on hb)
    clear hb
    clear m0 m1 m2 m3 j0 j1 j2 j3 k0 k1 k2 k3 k4
    dsimp only
    rw [f0]
    go_wp2_with fail
    go_ret
    exact ⟨rfl, HT3.out.bel⟩
  have f0 : decide (n2 ≤ 300) = true := decide_eq_true hg
  by_cases hby : 300 < by_ ∧ by_ ≤ 4096
  · have b0 : decide (300 < by_) = true := decide_eq_true hby.1
    have b1 : decide (by_ ≤ 4096) = true := decide_eq_true hby.2
    go_enter Tryz.func3, Tryz.ntmps3
    go_wp2_with fail
    try rw [hW0]
    refine (live14_any W0 (HSh.out.on HT0.out.bel)).mono ?_
    rintro e w1 ⟨rfl, hb⟩
    have HT1 := Lib.hid (HT0.out.on hb)
    clear hb
    obtain ⟨m0, m1, m2, m3, _⟩ := lvCells HT1.out.bc
    obtain ⟨j0, j1, j2, j3, _⟩ := lvCells HT1.out.bd
    obtain ⟨⟨k0, k1, k2, k3, k4⟩, _⟩ := box_cellsJ HT1.out.bx
    go_wp2_with fail
    refine (refFew14_any ⟨R, A, I, P, n, c, l⟩ w1 (HQ.out.on HT1.out.bel)).mono ?_
    rintro e w2 ⟨rfl, hb⟩
    have HT2 := Lib.hid (HT1.out.on hb)
    clear hb
    clear m0 m1 m2 m3 j0 j1 j2 j3 k0 k1 k2 k3 k4
    dsimp only
    rw [d0]
    obtain ⟨m0, m1, m2, m3, _⟩ := lvCells HT2.out.bc
    obtain ⟨j0, j1, j2, j3, _⟩ := lvCells HT2.out.bd
    obtain ⟨⟨k0, k1, k2, k3, k4⟩, _⟩ := box_cellsJ HT2.out.bx
    go_wp2_with fail
    refine (refFew14_any ⟨R2, A2, I2, P2, n2, c2, l2⟩ w2 (HD.out.on HT2.out.bel)).mono ?_
    rintro e w3 ⟨rfl, hb⟩
    have HT3 := Lib.hid (HT2.out.on hb)
    clear hb
    clear m0 m1 m2 m3 j0 j1 j2 j3 k0 k1 k2 k3 k4
    dsimp only
    rw [f0]
    go_wp2_with fail
    go_ret
    exact ⟨rfl, HT3.out.bel⟩
  have HEX : Hid (decide (300 < by_) = false ∨ decide (300 < by_) = true ∧ decide (by_ ≤ 4096) = false) := by
    unfold Hid
    by_cases h : 300 < by_
    · exact .inr ⟨decide_eq_true h, decide_eq_false (fun h2 => hby ⟨h, h2⟩)⟩
    · exact .inl (decide_eq_false h)
  clear hby ha0 ha1 hb0 hb1
  obtain ⟨⟨T, E⟩, hT⟩ : ∃ r, textF (Cq.cd ⟨R, A, I, P, n, c, l⟩) = r := ⟨_, rfl⟩
  have HT := Lib.hid hT
  clear hT
  go_enter Tryz.func3, Tryz.ntmps3
  go_wp2_with fail
  try rw [hW0]
  refine (live14_any W0 (HSh.out.on HT0.out.bel)).mono ?_
  rintro e w1 ⟨rfl, hb⟩
  have HT1 := Lib.hid (HT0.out.on hb)
  clear hb hW0
  go_upto_region 2 with fail
  go_cut [40] (fun v wx => v = .bool false ∧ TellB w wx ⟨R, A, I, P, n, c, l⟩ ⟨R2, A2, I2, P2, n2, c2, l2⟩ x)
  case first =>
    obtain ⟨m0, m1, m2, m3, _⟩ := lvCells HT1.out.bc
    obtain ⟨j0, j1, j2, j3, _⟩ := lvCells HT1.out.bd
    obtain ⟨⟨k0, k1, k2, k3, k4⟩, _⟩ := box_cellsJ HT1.out.bx
    go_wp2_with fail
    refine (refFew14_any ⟨R, A, I, P, n, c, l⟩ w1 (HQ.out.on HT1.out.bel)).mono ?_
    rintro e w2 ⟨rfl, hb⟩
    have HT2 := Lib.hid (HT1.out.on hb)
    clear hb
    clear m0 m1 m2 m3 j0 j1 j2 j3 k0 k1 k2 k3 k4
    dsimp only
    rw [d0]
    obtain ⟨m0, m1, m2, m3, _⟩ := lvCells HT2.out.bc
    obtain ⟨j0, j1, j2, j3, _⟩ := lvCells HT2.out.bd
    obtain ⟨⟨k0, k1, k2, k3, k4⟩, _⟩ := box_cellsJ HT2.out.bx
    go_wp2_with fail
    refine (refFew14_any ⟨R2, A2, I2, P2, n2, c2, l2⟩ w2 (HD.out.on HT2.out.bel)).mono ?_
    rintro e w3 ⟨rfl, hb⟩
    have HT3 := Lib.hid (HT2.out.on hb)
    clear hb
    clear m0 m1 m2 m3 j0 j1 j2 j3 k0 k1 k2 k3 k4
    dsimp only
    rw [f0]
    rcases HEX.out with b0 | ⟨b0, b1⟩
    · go_wp2_with fail
      go_meet
      case rel => exact ⟨rfl, HT3.out⟩
    · go_wp2_with fail
      go_meet
      case rel => exact ⟨rfl, HT3.out⟩
  obtain ⟨rfl, hT⟩ := hcut
  have HT3 := Lib.hid hT
  clear hT HEX d0 f0
  obtain ⟨w3, rfl⟩ : ∃ w3 : World, w3 = wc := ⟨_, rfl⟩
  obtain ⟨m0, m1, m2, m3, _⟩ := lvCells HT3.out.bc
  obtain ⟨j0, j1, j2, j3, _⟩ := lvCells HT3.out.bd
  obtain ⟨⟨k0, k1, k2, k3, k4⟩, _⟩ := box_cellsJ HT3.out.bx
  have hC := codeText_any ⟨R, A, I, P, n, c, l⟩ w3 (HQ.out.on HT3.out.bel) (HSh.out.on HT3.out.bel) (HTb.out.on HT3.out.bel) (fun _ => by have h3 := progT_len (Cq.cd ⟨R, A, I, P, n, c, l⟩); have h4 : (Cq.cd ⟨R, A, I, P, n, c, l⟩).l.length = n := HQ.out.len; omega)
  unfold TextP at hC
  rw [HT.out] at hC
  go_wp2_with fail
  refine hC.mono ?_
  rintro e w4 ⟨rfl, hb⟩
  have HT4 := Lib.hid (HT3.out.on hb)
  clear hb hC
  clear m0 m1 m2 m3 j0 j1 j2 j3 k0 k1 k2 k3 k4
  obtain ⟨m0, m1, m2, m3, _⟩ := lvCells HT4.out.bc
  obtain ⟨j0, j1, j2, j3, _⟩ := lvCells HT4.out.bd
  obtain ⟨⟨k0, k1, k2, k3, k4⟩, _⟩ := box_cellsJ HT4.out.bx
  have hC := refText14_any ⟨R, A, I, P, n, c, l⟩ w4 (HQ.out.on HT4.out.bel) hf
  unfold TextP at hC
  rw [HT.out] at hC
  go_wp2_with fail
  refine hC.mono ?_
  rintro e w5 ⟨rfl, hb⟩
  have HT5 := Lib.hid (HT4.out.on hb)
  clear hb hC
  clear m0 m1 m2 m3 j0 j1 j2 j3 k0 k1 k2 k3 k4
  obtain ⟨S, hS⟩ : ∃ S, (Cq.cd ⟨R, A, I, P, n, c, l⟩).shiftC by_ = S := ⟨_, rfl⟩
  obtain ⟨G, hG⟩ : ∃ G, (Cq.cd ⟨R, A, I, P, n, c, l⟩).shiftE by_ = G := ⟨_, rfl⟩
  have HS := Lib.hid hS
  have HG := Lib.hid hG
  clear hS hG
  obtain ⟨m0, m1, m2, m3, _⟩ := lvCells HT5.out.bc
  obtain ⟨j0, j1, j2, j3, _⟩ := lvCells HT5.out.bd
  obtain ⟨⟨k0, k1, k2, k3, k4⟩, _⟩ := box_cellsJ HT5.out.bx
  have hC := codeShift_any ⟨R, A, I, P, n, c, l⟩ by_ w5 (HQ.out.on HT5.out.bel) (HSh.out.on HT5.out.bel)
  unfold ShP at hC
  rw [HS.out, HG.out] at hC
  go_wp2_with fail
  refine hC.mono ?_
  rintro e v6 ⟨A6, c6, rfl, hO, hb⟩
  have hq6 : Cq.In ⟨S.R, S.A, S.I, A6, S.l.length, c6, S.l⟩ v6 := by
    have := shiftC_in (b := by_) (A' := A6) (c' := c6) (W := v6) (base := w5.heap.size) HQ.out (by rw [HS.out]; exact hO)
    rw [HS.out] at this
    exact this
  obtain ⟨w6, hw6⟩ : ∃ W, v6.alloc (Cq.obj ⟨S.R, S.A, S.I, A6, S.l.length, c6, S.l⟩) = W := ⟨_, rfl⟩
  obtain ⟨g6, hg6⟩ : ∃ z, v6.heap.size = z := ⟨_, rfl⟩
  have hb6 : Below v6.heap.size v6 w6 := by rw [← hw6]; exact lvBelow _ _
  have HT6 := Lib.hid ((HT5.out.on hb).on hb6)
  have HQ6 := Lib.hid (hq6.on hb6)
  have HY6 : Hid (w6.heap[g6]? = some (Cq.obj ⟨S.R, S.A, S.I, A6, S.l.length, c6, S.l⟩)) := by rw [← hw6, ← hg6]; exact heap_alloc_new _ _
  have HW6 := Lib.hid hw6
  clear hb hC hO hq6 hb6 hw6
  clear m0 m1 m2 m3 j0 j1 j2 j3 k0 k1 k2 k3 k4
  go_upto_region 7 with fail
  try rw [HW6.out]
  try rw [hg6]
  clear hg6 HW6
  obtain ⟨m0, m1, m2, m3, _⟩ := lvCells HT6.out.bc
  obtain ⟨j0, j1, j2, j3, _⟩ := lvCells HT6.out.bd
  obtain ⟨⟨k0, k1, k2, k3, k4⟩, _⟩ := box_cellsJ HT6.out.bx
  have hC := refShift14_any ⟨R, A, I, P, n, c, l⟩ by_ w6 (HQ.out.on HT6.out.bel)
  unfold ShP at hC
  rw [HS.out, HG.out] at hC
  go_wp2_with fail
  refine hC.mono ?_
  rintro e v7 ⟨A7, c7, rfl, hO, hb⟩
  have hq7 : Cq.In ⟨S.R, S.A, S.I, A7, S.l.length, c7, S.l⟩ v7 := by
    have := shiftC_in (b := by_) (A' := A7) (c' := c7) (W := v7) (base := w6.heap.size) HQ.out (by rw [HS.out]; exact hO)
    rw [HS.out] at this
    exact this
  obtain ⟨w7, hw7⟩ : ∃ W, v7.alloc (Cq.obj ⟨S.R, S.A, S.I, A7, S.l.length, c7, S.l⟩) = W := ⟨_, rfl⟩
  obtain ⟨g7, hg7⟩ : ∃ z, v7.heap.size = z := ⟨_, rfl⟩
  have hb7 : Below v7.heap.size v7 w7 := by rw [← hw7]; exact lvBelow _ _
  have HT7 := Lib.hid ((HT6.out.on hb).on hb7)
  have HQ7 := Lib.hid (hq7.on hb7)
  have HY7 : Hid (w7.heap[g7]? = some (Cq.obj ⟨S.R, S.A, S.I, A7, S.l.length, c7, S.l⟩)) := by rw [← hw7, ← hg7]; exact heap_alloc_new _ _
  have HW7 := Lib.hid hw7
  have HQ6k := Lib.hid ((HQ6.out.on hb).on hb7)
  have HY6k := Lib.hid (keep_b hb7 (keep_b hb HY6.out))
  clear hb hC hO hq7 hb7 hw7
  clear m0 m1 m2 m3 j0 j1 j2 j3 k0 k1 k2 k3 k4
  go_upto_region 8 with fail
  try rw [HW7.out]
  try rw [hg7]
  clear hg7 HW7
  obtain ⟨m0, m1, m2, m3, _⟩ := lvCells HT7.out.bc
  obtain ⟨j0, j1, j2, j3, _⟩ := lvCells HT7.out.bd
  obtain ⟨⟨k0, k1, k2, k3, k4⟩, _⟩ := box_cellsJ HT7.out.bx
  have hC := codeWrites_any x w7 HXO.out (HSh.out.on HT7.out.bel)
  go_wp2_with fail
  refine hC.mono ?_
  rintro e w8 ⟨rfl, hb⟩
  have HT8 := Lib.hid (HT7.out.on hb)
  have HQ6m := Lib.hid (HQ6k.out.on hb)
  have HY6m := Lib.hid (keep_b hb HY6k.out)
  have HQ7m := Lib.hid (HQ7.out.on hb)
  have HY7m := Lib.hid (keep_b hb HY7.out)
  clear hb hC
  clear m0 m1 m2 m3 j0 j1 j2 j3 k0 k1 k2 k3 k4
  obtain ⟨m0, m1, m2, m3, _⟩ := lvCells HT8.out.bc
  obtain ⟨j0, j1, j2, j3, _⟩ := lvCells HT8.out.bd
  obtain ⟨⟨k0, k1, k2, k3, k4⟩, _⟩ := box_cellsJ HT8.out.bx
  have hC := refWrites_any x w8
  go_wp2_with fail
  refine hC.mono ?_
  rintro e w9 ⟨rfl, hb⟩
  have HT9 := Lib.hid (HT8.out.on hb)
  have HQ6z := Lib.hid (HQ6m.out.on hb)
  have HY6z := Lib.hid (keep_b hb HY6m.out)
  have HQ7z := Lib.hid (HQ7m.out.on hb)
  have HY7z := Lib.hid (keep_b hb HY7m.out)
  clear hb hC
  clear m0 m1 m2 m3 j0 j1 j2 j3 k0 k1 k2 k3 k4
  go_upto_region 10 with fail
  obtain ⟨CE, hCE⟩ : ∃ CE, (Cq.cd ⟨R, A, I, P, n, c, l⟩).e = CE := ⟨_, rfl⟩
  obtain ⟨SB, hSB⟩ : ∃ SB, sameB (Cq.cd ⟨R, A, I, P, n, c, l⟩) (Cq.cd ⟨R2, A2, I2, P2, n2, c2, l2⟩) = SB := ⟨_, rfl⟩
  have HFX : Hid (∀ W, Below w9.heap.size w9 W → (W.cell? ⟨w.heap.size, 0, none⟩ = some (.int .i64 R) ∧ W.cell? ⟨w.heap.size, 1, none⟩ = some (.int .i64 A) ∧ W.cell? ⟨w.heap.size, 2, none⟩ = some (.int .i64 I) ∧ W.cell? ⟨w.heap.size, 3, none⟩ = some (.slice P n c)) ∧ (W.cell? ⟨w.heap.size + 1, 0, none⟩ = some (.int .i64 R2) ∧ W.cell? ⟨w.heap.size + 1, 1, none⟩ = some (.int .i64 A2) ∧ W.cell? ⟨w.heap.size + 1, 2, none⟩ = some (.int .i64 I2) ∧ W.cell? ⟨w.heap.size + 1, 3, none⟩ = some (.slice P2 n2 c2)) ∧ CellsJ W (w.heap.size + 2) 0 x ∧ (W.cell? ⟨g6, 0, none⟩ = some (.int .i64 S.R) ∧ W.cell? ⟨g6, 1, none⟩ = some (.int .i64 S.A) ∧ W.cell? ⟨g6, 2, none⟩ = some (.int .i64 S.I) ∧ W.cell? ⟨g6, 3, none⟩ = some (.slice A6 S.l.length c6)) ∧ (W.cell? ⟨g7, 0, none⟩ = some (.int .i64 S.R) ∧ W.cell? ⟨g7, 1, none⟩ = some (.int .i64 S.A) ∧ W.cell? ⟨g7, 2, none⟩ = some (.int .i64 S.I) ∧ W.cell? ⟨g7, 3, none⟩ = some (.slice A7 S.l.length c7))) := by
    intro W hb
    have hT := HT9.out.on hb
    obtain ⟨m0, m1, m2, m3, _⟩ := lvCells hT.bc
    obtain ⟨j0, j1, j2, j3, _⟩ := lvCells hT.bd
    obtain ⟨a0, a1, a2, a3, _⟩ := lvCells (keep_b hb HY6z.out)
    obtain ⟨b0, b1, b2, b3, _⟩ := lvCells (keep_b hb HY7z.out)
    exact ⟨⟨m0, m1, m2, m3⟩, ⟨j0, j1, j2, j3⟩, (box_cellsJ hT.bx).1, ⟨a0, a1, a2, a3⟩, ⟨b0, b1, b2, b3⟩⟩
  have HSM : Hid (∀ W, Below w9.heap.size w9 W → Calls Tryz.prog 12 #[Cq.val ⟨S.R, S.A, S.I, A6, S.l.length, c6, S.l⟩, Cq.val ⟨S.R, S.A, S.I, A7, S.l.length, c7, S.l⟩] W fun e w' => e = .returned (.bool true) ∧ Below W.heap.size W w') := fun W hb => refSame14_eq ⟨S.R, S.A, S.I, A6, S.l.length, c6, S.l⟩ ⟨S.R, S.A, S.I, A7, S.l.length, c7, S.l⟩ W (HQ6z.out.on hb) (HQ7z.out.on hb) rfl
  have HCK : Hid (∀ W, Below w9.heap.size w9 W → Calls Tryz.prog 18 #[Cq.val ⟨R, A, I, P, n, c, l⟩] W fun e w' => e = .returned (.int .i64 CE) ∧ Below W.heap.size W w') := fun W hb => by have h := codeCheck_any ⟨R, A, I, P, n, c, l⟩ W (HQ.out.on (HT9.out.bel.trans (hb.mono HT9.out.bel.size))) (HSh.out.on (HT9.out.bel.trans (hb.mono HT9.out.bel.size))); unfold CkP at h; rw [hCE] at h; exact h
  have HCR : Hid (∀ W, Below w9.heap.size w9 W → Calls Tryz.prog 19 #[Cq.val ⟨R, A, I, P, n, c, l⟩] W fun e w' => e = .returned (.int .i64 CE) ∧ Below W.heap.size W w') := fun W hb => by have h := refCheck14_any ⟨R, A, I, P, n, c, l⟩ W (HQ.out.on (HT9.out.bel.trans (hb.mono HT9.out.bel.size))); unfold CkP at h; rw [hCE] at h; exact h
  have HCS : Hid (∀ W, Below w9.heap.size w9 W → Calls Tryz.prog 20 #[Cq.val ⟨R, A, I, P, n, c, l⟩, Cq.val ⟨R2, A2, I2, P2, n2, c2, l2⟩] W fun e w' => e = .returned (.bool SB) ∧ Below W.heap.size W w') := fun W hb => by have h := codeSame_any ⟨R, A, I, P, n, c, l⟩ ⟨R2, A2, I2, P2, n2, c2, l2⟩ W (HQ.out.on (HT9.out.bel.trans (hb.mono HT9.out.bel.size))) (HD.out.on (HT9.out.bel.trans (hb.mono HT9.out.bel.size))); unfold SameP at h; rw [hSB] at h; exact h
  have HRS : Hid (∀ W, Below w9.heap.size w9 W → Calls Tryz.prog 12 #[Cq.val ⟨R, A, I, P, n, c, l⟩, Cq.val ⟨R2, A2, I2, P2, n2, c2, l2⟩] W fun e w' => e = .returned (.bool SB) ∧ Below W.heap.size W w') := fun W hb => by have h := refSame14_any ⟨R, A, I, P, n, c, l⟩ ⟨R2, A2, I2, P2, n2, c2, l2⟩ W (HQ.out.on (HT9.out.bel.trans (hb.mono HT9.out.bel.size))) (HD.out.on (HT9.out.bel.trans (hb.mono HT9.out.bel.size))); unfold SameP at h; rw [hSB] at h; exact h
  have HLeqreads : Hid ((readsJ x).length ≤ 100000) := Nat.le_trans (readsJ_length x) (by decide)
  have HLeqnext : Hid ((nextJ x at_).length ≤ 100000) := Nat.le_trans (next_two x at_) (by decide)
  have hmx : Tryz.prog.follows .mixedOrders = true := by kernel_rfl
  clear hCE hSB
  refine wp_region_vals (Vk.at [.fix (.bool true), .fix (.bool true), .fix (.string T), .fix (.string T), .fix (.bool true), .fix (.bool true), .fix (.bool true), .fix (.int .i64 E), .fix (.int .i64 E), .fix (.bool true), .fix (.bool true), .fix (.bool true), .fix (Cq.val ⟨S.R, S.A, S.I, A6, S.l.length, c6, S.l⟩), .fix (Cq.val ⟨S.R, S.A, S.I, A7, S.l.length, c7, S.l⟩), .fix (.bool true), .fix (.bool true), .fix (.bool true), .fix (.int .i64 G), .fix (.int .i64 G), .fix (.bool true), .fix (.bool true), .fix (.bool true), .fix (.int .i64 (writesJ x)), .fix (.int .i64 (writesJ x)), .fix (.bool true), .fix (.bool true), .fix (.bool true), .fix (.bool (setsJ x)), .fix (.bool (setsJ x)), .fix (.bool true), .fix (.bool true), .fix (.bool true), .fix (Ji.val x), .ints (readsJ x), .fix (Ji.val x), .ints (readsJ x), .fix (.bool true), .fix (.bool true), .fix (.bool true), .fix (Ji.val x), .fix (.int .i64 at_), .ints (nextJ x at_), .fix (Ji.val x), .fix (.int .i64 at_), .ints (nextJ x at_), .fix (.bool true), .fix (.bool true), .fix (.bool true), .fix (Cq.val ⟨R, A, I, P, n, c, l⟩), .fix (.int .i64 CE), .fix (Cq.val ⟨R, A, I, P, n, c, l⟩), .fix (.int .i64 CE), .fix (.bool true), .fix (.bool true), .fix (.bool true), .fix (Cq.val ⟨R, A, I, P, n, c, l⟩), .fix (Cq.val ⟨R2, A2, I2, P2, n2, c2, l2⟩), .fix (.bool SB), .fix (Cq.val ⟨R, A, I, P, n, c, l⟩), .fix (Cq.val ⟨R2, A2, I2, P2, n2, c2, l2⟩), .fix (.bool SB), .fix (.bool true), .fix (.bool true), .fix (.bool true)]) hmx (by kernel_rfl) (by kernel_rfl) (Vk.at_stay _) ?_ ?_
  · intro i o ho vs w2 hb hd K hK
    have hi : i < 64 := (List.getElem?_eq_some_iff.1 ho).1
    generalize hlit : putV vs 0 _ _ = z at hK ⊢
    simp only [List.map_cons, List.map_nil, putV, Act.put, List.setIfInBounds_toArray, List.set_cons_succ, List.set_cons_zero] at hlit
    subst hlit
    rcases (by omega : i = 0 ∨ i = 1 ∨ i = 2 ∨ i = 3 ∨ i = 4 ∨ i = 5 ∨ i = 6 ∨ i = 7 ∨ i = 8 ∨ i = 9 ∨ i = 10 ∨ i = 11 ∨ i = 12 ∨ i = 13 ∨ i = 14 ∨ i = 15 ∨ i = 16 ∨ i = 17 ∨ i = 18 ∨ i = 19 ∨ i = 20 ∨ i = 21 ∨ i = 22 ∨ i = 23 ∨ i = 24 ∨ i = 25 ∨ i = 26 ∨ i = 27 ∨ i = 28 ∨ i = 29 ∨ i = 30 ∨ i = 31 ∨ i = 32 ∨ i = 33 ∨ i = 34 ∨ i = 35 ∨ i = 36 ∨ i = 37 ∨ i = 38 ∨ i = 39 ∨ i = 40 ∨ i = 41 ∨ i = 42 ∨ i = 43 ∨ i = 44 ∨ i = 45 ∨ i = 46 ∨ i = 47 ∨ i = 48 ∨ i = 49 ∨ i = 50 ∨ i = 51 ∨ i = 52 ∨ i = 53 ∨ i = 54 ∨ i = 55 ∨ i = 56 ∨ i = 57 ∨ i = 58 ∨ i = 59 ∨ i = 60 ∨ i = 61 ∨ i = 62 ∨ i = 63) with rfl | rfl | rfl | rfl | rfl | rfl | rfl | rfl | rfl | rfl | rfl | rfl | rfl | rfl | rfl | rfl | rfl | rfl | rfl | rfl | rfl | rfl | rfl | rfl | rfl | rfl | rfl | rfl | rfl | rfl | rfl | rfl | rfl | rfl | rfl | rfl | rfl | rfl | rfl | rfl | rfl | rfl | rfl | rfl | rfl | rfl | rfl | rfl | rfl | rfl | rfl | rfl | rfl | rfl | rfl | rfl | rfl | rfl | rfl | rfl | rfl | rfl | rfl | rfl
    · -- 0
      obtain rfl := Option.some.inj ho
      clear ho hd hi
      go_simp
      exact hK _ (.bool true) _ (by simp [Act.put]) (Below.refl _ _) rfl
    · -- 1
      obtain rfl := Option.some.inj ho
      have h0 : vs 0 = .bool true := hd 0 (by kernel_rfl)
      clear ho hd hi
      go_simp
      exact hK _ (.bool true) _ (by simp [Act.put, h0]) (Below.refl _ _) rfl
    · -- 2
      obtain rfl := Option.some.inj ho
      have h1 : vs 1 = .bool true := hd 1 (by kernel_rfl)
      clear ho hd hi
      go_simp
      exact hK _ (.string T) _ (by simp [Act.put, h1]) (Below.refl _ _) rfl
    · -- 3
      obtain rfl := Option.some.inj ho
      have h1 : vs 1 = .bool true := hd 1 (by kernel_rfl)
      clear ho hd hi
      go_simp
      exact hK _ (.string T) _ (by simp [Act.put, h1]) (Below.refl _ _) rfl
    · -- 4
      obtain rfl := Option.some.inj ho
      have h1 : vs 1 = .bool true := hd 1 (by kernel_rfl)
      have h2 : vs 2 = .string T := hd 2 (by kernel_rfl)
      have h3 : vs 3 = .string T := hd 3 (by kernel_rfl)
      clear ho hd hi
      go_simp
      exact hK _ (.bool true) _ (by simp [Act.put, h1, h2, h3]) (Below.refl _ _) rfl
    · -- 5
      obtain rfl := Option.some.inj ho
      have h1 : vs 1 = .bool true := hd 1 (by kernel_rfl)
      have h4 : vs 4 = .bool true := hd 4 (by kernel_rfl)
      clear ho hd hi
      go_simp
      exact hK _ (.bool true) _ (by simp [Act.put, h1, h4]) (Below.refl _ _) rfl
    · -- 6
      obtain rfl := Option.some.inj ho
      have h5 : vs 5 = .bool true := hd 5 (by kernel_rfl)
      clear ho hd hi
      go_simp
      exact hK _ (.bool true) _ (by simp [Act.put, h5]) (Below.refl _ _) rfl
    · -- 7
      obtain rfl := Option.some.inj ho
      have h6 : vs 6 = .bool true := hd 6 (by kernel_rfl)
      clear ho hd hi
      go_simp
      exact hK _ (.int .i64 E) _ (by simp [Act.put, h6]) (Below.refl _ _) rfl
    · -- 8
      obtain rfl := Option.some.inj ho
      have h6 : vs 6 = .bool true := hd 6 (by kernel_rfl)
      clear ho hd hi
      go_simp
      exact hK _ (.int .i64 E) _ (by simp [Act.put, h6]) (Below.refl _ _) rfl
    · -- 9
      obtain rfl := Option.some.inj ho
      have h6 : vs 6 = .bool true := hd 6 (by kernel_rfl)
      have h7 : vs 7 = .int .i64 E := hd 7 (by kernel_rfl)
      have h8 : vs 8 = .int .i64 E := hd 8 (by kernel_rfl)
      clear ho hd hi
      go_simp
      exact hK _ (.bool true) _ (by simp [Act.put, h6, h7, h8]) (Below.refl _ _) rfl
    · -- 10
      obtain rfl := Option.some.inj ho
      have h6 : vs 6 = .bool true := hd 6 (by kernel_rfl)
      have h9 : vs 9 = .bool true := hd 9 (by kernel_rfl)
      clear ho hd hi
      go_simp
      exact hK _ (.bool true) _ (by simp [Act.put, h6, h9]) (Below.refl _ _) rfl
    · -- 11
      obtain rfl := Option.some.inj ho
      have h10 : vs 10 = .bool true := hd 10 (by kernel_rfl)
      clear ho hd hi
      go_simp
      exact hK _ (.bool true) _ (by simp [Act.put, h10]) (Below.refl _ _) rfl
    · -- 12
      obtain rfl := Option.some.inj ho
      have h11 : vs 11 = .bool true := hd 11 (by kernel_rfl)
      clear ho hd hi
      obtain ⟨⟨m0, m1, m2, m3⟩, ⟨j0, j1, j2, j3⟩, ⟨k0, k1, k2, k3, k4⟩, ⟨a0, a1, a2, a3⟩, ⟨b0, b1, b2, b3⟩⟩ := HFX.out w2 hb
      go_simp
      exact hK _ (Cq.val ⟨S.R, S.A, S.I, A6, S.l.length, c6, S.l⟩) _ (by simp [Act.put, h11]) (Below.refl _ _) rfl
    · -- 13
      obtain rfl := Option.some.inj ho
      have h11 : vs 11 = .bool true := hd 11 (by kernel_rfl)
      clear ho hd hi
      obtain ⟨⟨m0, m1, m2, m3⟩, ⟨j0, j1, j2, j3⟩, ⟨k0, k1, k2, k3, k4⟩, ⟨a0, a1, a2, a3⟩, ⟨b0, b1, b2, b3⟩⟩ := HFX.out w2 hb
      go_simp
      exact hK _ (Cq.val ⟨S.R, S.A, S.I, A7, S.l.length, c7, S.l⟩) _ (by simp [Act.put, h11]) (Below.refl _ _) rfl
    · -- 14
      obtain rfl := Option.some.inj ho
      have h11 : vs 11 = .bool true := hd 11 (by kernel_rfl)
      have h12 : vs 12 = Cq.val ⟨S.R, S.A, S.I, A6, S.l.length, c6, S.l⟩ := hd 12 (by kernel_rfl)
      have h13 : vs 13 = Cq.val ⟨S.R, S.A, S.I, A7, S.l.length, c7, S.l⟩ := hd 13 (by kernel_rfl)
      clear ho hd hi
      go_simp
      go_at_call 12
      refine (HSM.out w2 hb).mono ?_
      rintro e w3 ⟨rfl, hb3⟩
      exact hK _ (.bool true) _ (by simp [Act.put, h11, h12, h13]) hb3 rfl
    · -- 15
      obtain rfl := Option.some.inj ho
      have h11 : vs 11 = .bool true := hd 11 (by kernel_rfl)
      have h14 : vs 14 = .bool true := hd 14 (by kernel_rfl)
      clear ho hd hi
      go_simp
      exact hK _ (.bool true) _ (by simp [Act.put, h11, h14]) (Below.refl _ _) rfl
    · -- 16
      obtain rfl := Option.some.inj ho
      have h15 : vs 15 = .bool true := hd 15 (by kernel_rfl)
      clear ho hd hi
      go_simp
      exact hK _ (.bool true) _ (by simp [Act.put, h15]) (Below.refl _ _) rfl
    · -- 17
      obtain rfl := Option.some.inj ho
      have h16 : vs 16 = .bool true := hd 16 (by kernel_rfl)
      clear ho hd hi
      go_simp
      exact hK _ (.int .i64 G) _ (by simp [Act.put, h16]) (Below.refl _ _) rfl
    · -- 18
      obtain rfl := Option.some.inj ho
      have h16 : vs 16 = .bool true := hd 16 (by kernel_rfl)
      clear ho hd hi
      go_simp
      exact hK _ (.int .i64 G) _ (by simp [Act.put, h16]) (Below.refl _ _) rfl
    · -- 19
      obtain rfl := Option.some.inj ho
      have h16 : vs 16 = .bool true := hd 16 (by kernel_rfl)
      have h17 : vs 17 = .int .i64 G := hd 17 (by kernel_rfl)
      have h18 : vs 18 = .int .i64 G := hd 18 (by kernel_rfl)
      clear ho hd hi
      go_simp
      exact hK _ (.bool true) _ (by simp [Act.put, h16, h17, h18]) (Below.refl _ _) rfl
    · -- 20
      obtain rfl := Option.some.inj ho
      have h16 : vs 16 = .bool true := hd 16 (by kernel_rfl)
      have h19 : vs 19 = .bool true := hd 19 (by kernel_rfl)
      clear ho hd hi
      go_simp
      exact hK _ (.bool true) _ (by simp [Act.put, h16, h19]) (Below.refl _ _) rfl
    · -- 21
      obtain rfl := Option.some.inj ho
      have h20 : vs 20 = .bool true := hd 20 (by kernel_rfl)
      clear ho hd hi
      go_simp
      exact hK _ (.bool true) _ (by simp [Act.put, h20]) (Below.refl _ _) rfl
    · -- 22
      obtain rfl := Option.some.inj ho
      have h21 : vs 21 = .bool true := hd 21 (by kernel_rfl)
      clear ho hd hi
      go_simp
      exact hK _ (.int .i64 (writesJ x)) _ (by simp [Act.put, h21]) (Below.refl _ _) rfl
    · -- 23
      obtain rfl := Option.some.inj ho
      have h21 : vs 21 = .bool true := hd 21 (by kernel_rfl)
      clear ho hd hi
      go_simp
      exact hK _ (.int .i64 (writesJ x)) _ (by simp [Act.put, h21]) (Below.refl _ _) rfl
    · -- 24
      obtain rfl := Option.some.inj ho
      have h21 : vs 21 = .bool true := hd 21 (by kernel_rfl)
      have h22 : vs 22 = .int .i64 (writesJ x) := hd 22 (by kernel_rfl)
      have h23 : vs 23 = .int .i64 (writesJ x) := hd 23 (by kernel_rfl)
      clear ho hd hi
      go_simp
      exact hK _ (.bool true) _ (by simp [Act.put, h21, h22, h23]) (Below.refl _ _) rfl
    · -- 25
      obtain rfl := Option.some.inj ho
      have h21 : vs 21 = .bool true := hd 21 (by kernel_rfl)
      have h24 : vs 24 = .bool true := hd 24 (by kernel_rfl)
      clear ho hd hi
      go_simp
      exact hK _ (.bool true) _ (by simp [Act.put, h21, h24]) (Below.refl _ _) rfl
    · -- 26
      obtain rfl := Option.some.inj ho
      have h25 : vs 25 = .bool true := hd 25 (by kernel_rfl)
      clear ho hd hi
      go_simp
      exact hK _ (.bool true) _ (by simp [Act.put, h25]) (Below.refl _ _) rfl
    · -- 27
      obtain rfl := Option.some.inj ho
      have h26 : vs 26 = .bool true := hd 26 (by kernel_rfl)
      clear ho hd hi
      go_simp
      exact hK _ (.bool (setsJ x)) _ (by simp [Act.put, h26]) (Below.refl _ _) rfl
    · -- 28
      obtain rfl := Option.some.inj ho
      have h26 : vs 26 = .bool true := hd 26 (by kernel_rfl)
      clear ho hd hi
      go_simp
      exact hK _ (.bool (setsJ x)) _ (by simp [Act.put, h26]) (Below.refl _ _) rfl
    · -- 29
      obtain rfl := Option.some.inj ho
      have h26 : vs 26 = .bool true := hd 26 (by kernel_rfl)
      have h27 : vs 27 = .bool (setsJ x) := hd 27 (by kernel_rfl)
      have h28 : vs 28 = .bool (setsJ x) := hd 28 (by kernel_rfl)
      clear ho hd hi
      go_simp
      exact hK _ (.bool true) _ (by simp [Act.put, h26, h27, h28]) (Below.refl _ _) rfl
    · -- 30
      obtain rfl := Option.some.inj ho
      have h26 : vs 26 = .bool true := hd 26 (by kernel_rfl)
      have h29 : vs 29 = .bool true := hd 29 (by kernel_rfl)
      clear ho hd hi
      go_simp
      exact hK _ (.bool true) _ (by simp [Act.put, h26, h29]) (Below.refl _ _) rfl
    · -- 31
      obtain rfl := Option.some.inj ho
      have h30 : vs 30 = .bool true := hd 30 (by kernel_rfl)
      clear ho hd hi
      go_simp
      exact hK _ (.bool true) _ (by simp [Act.put, h30]) (Below.refl _ _) rfl
    · -- 32
      obtain rfl := Option.some.inj ho
      have h31 : vs 31 = .bool true := hd 31 (by kernel_rfl)
      clear ho hd hi
      obtain ⟨⟨m0, m1, m2, m3⟩, ⟨j0, j1, j2, j3⟩, ⟨k0, k1, k2, k3, k4⟩, ⟨a0, a1, a2, a3⟩, ⟨b0, b1, b2, b3⟩⟩ := HFX.out w2 hb
      go_simp
      exact hK _ (Ji.val x) _ (by simp [Act.put, h31]) (Below.refl _ _) rfl
    · -- 33
      obtain rfl := Option.some.inj ho
      have h31 : vs 31 = .bool true := hd 31 (by kernel_rfl)
      have h32 : vs 32 = Ji.val x := hd 32 (by kernel_rfl)
      clear ho hd hi
      go_simp
      go_at_call 14
      refine (codeReads_any x w2 HXO.out (HSh.out.on (HT9.out.bel.trans (hb.mono HT9.out.bel.size)))).mono ?_
      rintro e w3 ⟨A3, c3, rfl, hO3, hb3⟩
      exact hK _ (.slice A3 (readsJ x).length c3) _ (by simp [Act.put, h31, h32]) hb3 ⟨A3, c3, rfl, hO3.ints⟩
    · -- 34
      obtain rfl := Option.some.inj ho
      have h31 : vs 31 = .bool true := hd 31 (by kernel_rfl)
      clear ho hd hi
      obtain ⟨⟨m0, m1, m2, m3⟩, ⟨j0, j1, j2, j3⟩, ⟨k0, k1, k2, k3, k4⟩, ⟨a0, a1, a2, a3⟩, ⟨b0, b1, b2, b3⟩⟩ := HFX.out w2 hb
      go_simp
      exact hK _ (Ji.val x) _ (by simp [Act.put, h31]) (Below.refl _ _) rfl
    · -- 35
      obtain rfl := Option.some.inj ho
      have h31 : vs 31 = .bool true := hd 31 (by kernel_rfl)
      have h34 : vs 34 = Ji.val x := hd 34 (by kernel_rfl)
      clear ho hd hi
      go_simp
      go_at_call 15
      refine (refReads_any x w2 HXO.out).mono ?_
      rintro e w3 ⟨A3, c3, rfl, hO3, hb3⟩
      exact hK _ (.slice A3 (readsJ x).length c3) _ (by simp [Act.put, h31, h34]) hb3 ⟨A3, c3, rfl, hO3.ints⟩
    · -- 36
      obtain rfl := Option.some.inj ho
      have h31 : vs 31 = .bool true := hd 31 (by kernel_rfl)
      obtain ⟨P33, z33, h33, i33⟩ : ∃ A c, vs 33 = .slice A (readsJ x).length c ∧ Ints w2 w2.heap.size A (readsJ x).length (readsJ x) := hd 33 (by kernel_rfl)
      obtain ⟨P35, z35, h35, i35⟩ : ∃ A c, vs 35 = .slice A (readsJ x).length c ∧ Ints w2 w2.heap.size A (readsJ x).length (readsJ x) := hd 35 (by kernel_rfl)
      clear ho hd hi
      go_simp
      go_at_call 13
      refine (eqR17 P33 P35 _ _ z33 z35 _ _ w2 i33 i35 (HLeqreads.out) (by have := HLeqreads.out; omega) rfl).mono ?_
      rintro e w3 ⟨rfl, hb3⟩
      exact hK _ (.bool true) _ (by simp [Act.put, h31, h33, h35]) hb3 rfl
    · -- 37
      obtain rfl := Option.some.inj ho
      have h31 : vs 31 = .bool true := hd 31 (by kernel_rfl)
      have h36 : vs 36 = .bool true := hd 36 (by kernel_rfl)
      clear ho hd hi
      go_simp
      exact hK _ (.bool true) _ (by simp [Act.put, h31, h36]) (Below.refl _ _) rfl
    · -- 38
      obtain rfl := Option.some.inj ho
      have h37 : vs 37 = .bool true := hd 37 (by kernel_rfl)
      clear ho hd hi
      go_simp
      exact hK _ (.bool true) _ (by simp [Act.put, h37]) (Below.refl _ _) rfl
    · -- 39
      obtain rfl := Option.some.inj ho
      have h38 : vs 38 = .bool true := hd 38 (by kernel_rfl)
      clear ho hd hi
      obtain ⟨⟨m0, m1, m2, m3⟩, ⟨j0, j1, j2, j3⟩, ⟨k0, k1, k2, k3, k4⟩, ⟨a0, a1, a2, a3⟩, ⟨b0, b1, b2, b3⟩⟩ := HFX.out w2 hb
      go_simp
      exact hK _ (Ji.val x) _ (by simp [Act.put, h38]) (Below.refl _ _) rfl
    · -- 40
      obtain rfl := Option.some.inj ho
      have h38 : vs 38 = .bool true := hd 38 (by kernel_rfl)
      clear ho hd hi
      go_simp
      exact hK _ (.int .i64 at_) _ (by simp [Act.put, h38]) (Below.refl _ _) rfl
    · -- 41
      obtain rfl := Option.some.inj ho
      have h38 : vs 38 = .bool true := hd 38 (by kernel_rfl)
      have h39 : vs 39 = Ji.val x := hd 39 (by kernel_rfl)
      have h40 : vs 40 = .int .i64 at_ := hd 40 (by kernel_rfl)
      clear ho hd hi
      go_simp
      go_at_call 16
      refine (codeNext_any x at_ w2 HXO.out HAT.out (HSh.out.on (HT9.out.bel.trans (hb.mono HT9.out.bel.size)))).mono ?_
      rintro e w3 ⟨A3, c3, rfl, hO3, hb3⟩
      exact hK _ (.slice A3 (nextJ x at_).length c3) _ (by simp [Act.put, h38, h39, h40]) hb3 ⟨A3, c3, rfl, hO3.ints⟩
    · -- 42
      obtain rfl := Option.some.inj ho
      have h38 : vs 38 = .bool true := hd 38 (by kernel_rfl)
      clear ho hd hi
      obtain ⟨⟨m0, m1, m2, m3⟩, ⟨j0, j1, j2, j3⟩, ⟨k0, k1, k2, k3, k4⟩, ⟨a0, a1, a2, a3⟩, ⟨b0, b1, b2, b3⟩⟩ := HFX.out w2 hb
      go_simp
      exact hK _ (Ji.val x) _ (by simp [Act.put, h38]) (Below.refl _ _) rfl
    · -- 43
      obtain rfl := Option.some.inj ho
      have h38 : vs 38 = .bool true := hd 38 (by kernel_rfl)
      clear ho hd hi
      go_simp
      exact hK _ (.int .i64 at_) _ (by simp [Act.put, h38]) (Below.refl _ _) rfl
    · -- 44
      obtain rfl := Option.some.inj ho
      have h38 : vs 38 = .bool true := hd 38 (by kernel_rfl)
      have h42 : vs 42 = Ji.val x := hd 42 (by kernel_rfl)
      have h43 : vs 43 = .int .i64 at_ := hd 43 (by kernel_rfl)
      clear ho hd hi
      go_simp
      go_at_call 17
      refine (refNext14_any x at_ w2 HXO.out).mono ?_
      rintro e w3 ⟨A3, c3, rfl, hO3, hb3⟩
      exact hK _ (.slice A3 (nextJ x at_).length c3) _ (by simp [Act.put, h38, h42, h43]) hb3 ⟨A3, c3, rfl, hO3.ints⟩
    · -- 45
      obtain rfl := Option.some.inj ho
      have h38 : vs 38 = .bool true := hd 38 (by kernel_rfl)
      obtain ⟨P41, z41, h41, i41⟩ : ∃ A c, vs 41 = .slice A (nextJ x at_).length c ∧ Ints w2 w2.heap.size A (nextJ x at_).length (nextJ x at_) := hd 41 (by kernel_rfl)
      obtain ⟨P44, z44, h44, i44⟩ : ∃ A c, vs 44 = .slice A (nextJ x at_).length c ∧ Ints w2 w2.heap.size A (nextJ x at_).length (nextJ x at_) := hd 44 (by kernel_rfl)
      clear ho hd hi
      go_simp
      go_at_call 13
      refine (eqR17 P41 P44 _ _ z41 z44 _ _ w2 i41 i44 (HLeqnext.out) (by have := HLeqnext.out; omega) rfl).mono ?_
      rintro e w3 ⟨rfl, hb3⟩
      exact hK _ (.bool true) _ (by simp [Act.put, h38, h41, h44]) hb3 rfl
    · -- 46
      obtain rfl := Option.some.inj ho
      have h38 : vs 38 = .bool true := hd 38 (by kernel_rfl)
      have h45 : vs 45 = .bool true := hd 45 (by kernel_rfl)
      clear ho hd hi
      go_simp
      exact hK _ (.bool true) _ (by simp [Act.put, h38, h45]) (Below.refl _ _) rfl
    · -- 47
      obtain rfl := Option.some.inj ho
      have h46 : vs 46 = .bool true := hd 46 (by kernel_rfl)
      clear ho hd hi
      go_simp
      exact hK _ (.bool true) _ (by simp [Act.put, h46]) (Below.refl _ _) rfl
    · -- 48
      obtain rfl := Option.some.inj ho
      have h47 : vs 47 = .bool true := hd 47 (by kernel_rfl)
      clear ho hd hi
      obtain ⟨⟨m0, m1, m2, m3⟩, ⟨j0, j1, j2, j3⟩, ⟨k0, k1, k2, k3, k4⟩, ⟨a0, a1, a2, a3⟩, ⟨b0, b1, b2, b3⟩⟩ := HFX.out w2 hb
      go_simp
      exact hK _ (Cq.val ⟨R, A, I, P, n, c, l⟩) _ (by simp [Act.put, h47]) (Below.refl _ _) rfl
    · -- 49
      obtain rfl := Option.some.inj ho
      have h47 : vs 47 = .bool true := hd 47 (by kernel_rfl)
      have h48 : vs 48 = Cq.val ⟨R, A, I, P, n, c, l⟩ := hd 48 (by kernel_rfl)
      clear ho hd hi
      go_simp
      go_at_call 18
      refine (HCK.out w2 hb).mono ?_
      rintro e w3 ⟨rfl, hb3⟩
      exact hK _ (.int .i64 CE) _ (by simp [Act.put, h47, h48]) hb3 rfl
    · -- 50
      obtain rfl := Option.some.inj ho
      have h47 : vs 47 = .bool true := hd 47 (by kernel_rfl)
      clear ho hd hi
      obtain ⟨⟨m0, m1, m2, m3⟩, ⟨j0, j1, j2, j3⟩, ⟨k0, k1, k2, k3, k4⟩, ⟨a0, a1, a2, a3⟩, ⟨b0, b1, b2, b3⟩⟩ := HFX.out w2 hb
      go_simp
      exact hK _ (Cq.val ⟨R, A, I, P, n, c, l⟩) _ (by simp [Act.put, h47]) (Below.refl _ _) rfl
    · -- 51
      obtain rfl := Option.some.inj ho
      have h47 : vs 47 = .bool true := hd 47 (by kernel_rfl)
      have h50 : vs 50 = Cq.val ⟨R, A, I, P, n, c, l⟩ := hd 50 (by kernel_rfl)
      clear ho hd hi
      go_simp
      go_at_call 19
      refine (HCR.out w2 hb).mono ?_
      rintro e w3 ⟨rfl, hb3⟩
      exact hK _ (.int .i64 CE) _ (by simp [Act.put, h47, h50]) hb3 rfl
    · -- 52
      obtain rfl := Option.some.inj ho
      have h47 : vs 47 = .bool true := hd 47 (by kernel_rfl)
      have h49 : vs 49 = .int .i64 CE := hd 49 (by kernel_rfl)
      have h51 : vs 51 = .int .i64 CE := hd 51 (by kernel_rfl)
      clear ho hd hi
      go_simp
      exact hK _ (.bool true) _ (by simp [Act.put, h47, h49, h51]) (Below.refl _ _) rfl
    · -- 53
      obtain rfl := Option.some.inj ho
      have h47 : vs 47 = .bool true := hd 47 (by kernel_rfl)
      have h52 : vs 52 = .bool true := hd 52 (by kernel_rfl)
      clear ho hd hi
      go_simp
      exact hK _ (.bool true) _ (by simp [Act.put, h47, h52]) (Below.refl _ _) rfl
    · -- 54
      obtain rfl := Option.some.inj ho
      have h53 : vs 53 = .bool true := hd 53 (by kernel_rfl)
      clear ho hd hi
      go_simp
      exact hK _ (.bool true) _ (by simp [Act.put, h53]) (Below.refl _ _) rfl
    · -- 55
      obtain rfl := Option.some.inj ho
      have h54 : vs 54 = .bool true := hd 54 (by kernel_rfl)
      clear ho hd hi
      obtain ⟨⟨m0, m1, m2, m3⟩, ⟨j0, j1, j2, j3⟩, ⟨k0, k1, k2, k3, k4⟩, ⟨a0, a1, a2, a3⟩, ⟨b0, b1, b2, b3⟩⟩ := HFX.out w2 hb
      go_simp
      exact hK _ (Cq.val ⟨R, A, I, P, n, c, l⟩) _ (by simp [Act.put, h54]) (Below.refl _ _) rfl
    · -- 56
      obtain rfl := Option.some.inj ho
      have h54 : vs 54 = .bool true := hd 54 (by kernel_rfl)
      clear ho hd hi
      obtain ⟨⟨m0, m1, m2, m3⟩, ⟨j0, j1, j2, j3⟩, ⟨k0, k1, k2, k3, k4⟩, ⟨a0, a1, a2, a3⟩, ⟨b0, b1, b2, b3⟩⟩ := HFX.out w2 hb
      go_simp
      exact hK _ (Cq.val ⟨R2, A2, I2, P2, n2, c2, l2⟩) _ (by simp [Act.put, h54]) (Below.refl _ _) rfl
    · -- 57
      obtain rfl := Option.some.inj ho
      have h54 : vs 54 = .bool true := hd 54 (by kernel_rfl)
      have h55 : vs 55 = Cq.val ⟨R, A, I, P, n, c, l⟩ := hd 55 (by kernel_rfl)
      have h56 : vs 56 = Cq.val ⟨R2, A2, I2, P2, n2, c2, l2⟩ := hd 56 (by kernel_rfl)
      clear ho hd hi
      go_simp
      go_at_call 20
      refine (HCS.out w2 hb).mono ?_
      rintro e w3 ⟨rfl, hb3⟩
      exact hK _ (.bool SB) _ (by simp [Act.put, h54, h55, h56]) hb3 rfl
    · -- 58
      obtain rfl := Option.some.inj ho
      have h54 : vs 54 = .bool true := hd 54 (by kernel_rfl)
      clear ho hd hi
      obtain ⟨⟨m0, m1, m2, m3⟩, ⟨j0, j1, j2, j3⟩, ⟨k0, k1, k2, k3, k4⟩, ⟨a0, a1, a2, a3⟩, ⟨b0, b1, b2, b3⟩⟩ := HFX.out w2 hb
      go_simp
      exact hK _ (Cq.val ⟨R, A, I, P, n, c, l⟩) _ (by simp [Act.put, h54]) (Below.refl _ _) rfl
    · -- 59
      obtain rfl := Option.some.inj ho
      have h54 : vs 54 = .bool true := hd 54 (by kernel_rfl)
      clear ho hd hi
      obtain ⟨⟨m0, m1, m2, m3⟩, ⟨j0, j1, j2, j3⟩, ⟨k0, k1, k2, k3, k4⟩, ⟨a0, a1, a2, a3⟩, ⟨b0, b1, b2, b3⟩⟩ := HFX.out w2 hb
      go_simp
      exact hK _ (Cq.val ⟨R2, A2, I2, P2, n2, c2, l2⟩) _ (by simp [Act.put, h54]) (Below.refl _ _) rfl
    · -- 60
      obtain rfl := Option.some.inj ho
      have h54 : vs 54 = .bool true := hd 54 (by kernel_rfl)
      have h58 : vs 58 = Cq.val ⟨R, A, I, P, n, c, l⟩ := hd 58 (by kernel_rfl)
      have h59 : vs 59 = Cq.val ⟨R2, A2, I2, P2, n2, c2, l2⟩ := hd 59 (by kernel_rfl)
      clear ho hd hi
      go_simp
      go_at_call 12
      refine (HRS.out w2 hb).mono ?_
      rintro e w3 ⟨rfl, hb3⟩
      exact hK _ (.bool SB) _ (by simp [Act.put, h54, h58, h59]) hb3 rfl
    · -- 61
      obtain rfl := Option.some.inj ho
      have h54 : vs 54 = .bool true := hd 54 (by kernel_rfl)
      have h57 : vs 57 = .bool SB := hd 57 (by kernel_rfl)
      have h60 : vs 60 = .bool SB := hd 60 (by kernel_rfl)
      clear ho hd hi
      go_simp
      exact hK _ (.bool true) _ (by simp [Act.put, h54, h57, h60]) (Below.refl _ _) rfl
    · -- 62
      obtain rfl := Option.some.inj ho
      have h54 : vs 54 = .bool true := hd 54 (by kernel_rfl)
      have h61 : vs 61 = .bool true := hd 61 (by kernel_rfl)
      clear ho hd hi
      go_simp
      exact hK _ (.bool true) _ (by simp [Act.put, h54, h61]) (Below.refl _ _) rfl
    · -- 63
      obtain rfl := Option.some.inj ho
      have h62 : vs 62 = .bool true := hd 62 (by kernel_rfl)
      clear ho hd hi
      go_simp
      exact hK _ (.bool true) _ (by simp [Act.put, h62]) (Below.refl _ _) rfl
  · intro vs w2 hb hall
    have h63 : vs 63 = .bool true := hall 63 (by decide)
    generalize hlit : putV vs 0 _ _ = z
    simp only [List.map_cons, List.map_nil, putV, Act.put, List.setIfInBounds_toArray, List.set_cons_succ, List.set_cons_zero] at hlit
    subst hlit
    rw [h63]
    have HBE := Lib.hid (HT9.out.bel.trans (hb.mono HT9.out.bel.size))
    clear hall hb
    go_wp2_with fail
    go_ret
    exact ⟨rfl, HBE.out⟩
end Go.Proofs.YtbmcddolfofmdaaGreatDoor
