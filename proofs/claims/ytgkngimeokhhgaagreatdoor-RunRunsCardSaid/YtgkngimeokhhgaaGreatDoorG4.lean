/- The document's Check: whether code may be. -/
import Derived.Test.YtgkngimeokhhgaaGreatDoorG3
import Derived.Test.YtgkngimeokhhgaaGreatDoorG2
namespace Go.Proofs.YtgkngimeokhhgaaGreatDoor
open Go.RowKit

abbrev Cd.okH (c : Cd) : Prop := 0 ≤ c.R ∧ c.R ≤ 128 ∧ 0 ≤ c.A ∧ c.A ≤ 128 ∧ 0 ≤ c.I ∧ c.I ≤ c.A ∧ 1 ≤ c.l.length ∧ c.l.length ≤ 4096
theorem Cd.may_head {c : Cd} (h : ¬ c.okH) : c.e = 1 := by
  have : c.may = false := by unfold Cd.may; rw [decide_eq_false h, Bool.false_and, Bool.false_and]
  unfold Cd.e; rw [this]; rfl
theorem Cd.may_all {c : Cd} (h : c.l.all (mayJ c.R c.A c.l.length) = false) : c.e = 1 := by
  have : c.may = false := by unfold Cd.may; rw [h, Bool.and_false, Bool.false_and]
  unfold Cd.e; rw [this]; rfl
theorem Cd.may_last {c : Cd} {x : Ji} (h : c.okH) (h2 : c.l.all (mayJ c.R c.A c.l.length) = true) (hx : c.l[c.l.length - 1]? = some x) : c.e = if x.op = 0 ∨ x.op = 10 then 0 else 1 := by
  have h3 : c.l.getLast? = some x := by rw [List.getLast?_eq_getElem?]; exact hx
  have : c.may = decide (x.op = 0 ∨ x.op = 10) := by unfold Cd.may; rw [decide_eq_true h, h2, h3]; rfl
  unfold Cd.e; rw [this]
  by_cases h4 : x.op = 0 ∨ x.op = 10
  · rw [if_pos h4]; simp [h4]
  · rw [if_neg h4]; simp [h4]
theorem all_snoc {l : List Ji} {k : Nat} {x : Ji} (f : Ji → Bool) (h : l[k]? = some x) : (l.take (k + 1)).all f = ((l.take k).all f && f x) := by
  rw [List.take_add_one, h, List.all_append]; simp
def CkP (q : Cq) (w : World) (e : Ending) (w' : World) : Prop := e = .returned (.int .i64 q.cd.e) ∧ Below w.heap.size w w'
set_option maxRecDepth 100000 in
set_option maxHeartbeats 8000000 in
theorem refCheck14_any (q : Cq) (w : World) (hq : q.In w) : Calls Tryz.prog 93 #[q.val] w (CkP q w) := by
  obtain ⟨R, A, I, P, n, c, l⟩ := q
  have HQ := Lib.hid hq
  have hn1 : n ≤ 9223372036854775807 := hq.n1
  have HLN : Hid (l.length = n) := hq.len
  have HB0 := Lib.hid ((Below.refl w.heap.size w).alloc (Nat.le_refl _) (Cq.obj ⟨R, A, I, P, n, c, l⟩))
  have HX0 := Lib.hid (heap_alloc_new w (Cq.obj ⟨R, A, I, P, n, c, l⟩))
  obtain ⟨W0, hW0⟩ : ∃ W, w.alloc (Cq.obj ⟨R, A, I, P, n, c, l⟩) = W := ⟨_, rfl⟩
  rw [hW0] at HB0 HX0
  obtain ⟨m0, m1, m2, m3, _⟩ := lvCells HX0.out
  have hm := hq
  clear hq
  by_cases h0 : 0 ≤ R
  case neg =>
    have HE : Hid ((Cq.cd ⟨R, A, I, P, n, c, l⟩).e = 1) := Cd.may_head (fun h => by
      obtain ⟨g0, g1, g2, g3, g4, g5, g6, g7⟩ := h
      rw [show (Cq.cd ⟨R, A, I, P, n, c, l⟩).l.length = n from HLN.out] at g6 g7
      exact h0 g0)
    have d0 : decide (0 ≤ R) = false := decide_eq_false h0
    clear hm
    go_enter Tryz.func93, Tryz.ntmps93
    go_upto_region 2 with fail
    try rw [hW0]
    clear hW0
    go_wp2_with fail
    clear m0 m1 m2 m3
    go_loopw [3, 52] (fun v i wr => ∃ k : Nat, k ≤ n ∧ i = .int .i64 k ∧ v = .bool false ∧ Hid (Below w.heap.size w wr)) (fun _ i _ => n - (intOf i).toNat)
    case atStart => exact ⟨0, Nat.zero_le _, rfl, rfl, HB0⟩
    case round =>
      obtain ⟨k, hk, rfl, rfl, HB⟩ := hrel
      by_cases hlt : k < n
      · obtain ⟨b, off, y, hA, hb, HY, ⟨y0, y1, y2, y3, y4⟩, hyo⟩ := ((HQ.out.on HB.out).ins).at_ hlt
        subst hA
        have HB2 := Lib.hid (HB.out.alloc HB.out.size y.obj)
        clear hb hyo
        go_wp2_with fail
        go_roundw
        case rel => exact ⟨k + 1, by omega, by go_num, rfl, HB2⟩
        case measure => simp [intOf]; omega
      · go_wp2_with fail
        go_ret
        exact ⟨by rw [HE.out]; rfl, HB.out⟩
  have d0 : decide (0 ≤ R) = true := decide_eq_true h0
  by_cases h1 : R ≤ 128
  case neg =>
    have HE : Hid ((Cq.cd ⟨R, A, I, P, n, c, l⟩).e = 1) := Cd.may_head (fun h => by
      obtain ⟨g0, g1, g2, g3, g4, g5, g6, g7⟩ := h
      rw [show (Cq.cd ⟨R, A, I, P, n, c, l⟩).l.length = n from HLN.out] at g6 g7
      exact h1 g1)
    have d1 : decide (R ≤ 128) = false := decide_eq_false h1
    clear hm
    go_enter Tryz.func93, Tryz.ntmps93
    go_upto_region 2 with fail
    try rw [hW0]
    clear hW0
    go_wp2_with fail
    clear m0 m1 m2 m3
    go_loopw [3, 52] (fun v i wr => ∃ k : Nat, k ≤ n ∧ i = .int .i64 k ∧ v = .bool false ∧ Hid (Below w.heap.size w wr)) (fun _ i _ => n - (intOf i).toNat)
    case atStart => exact ⟨0, Nat.zero_le _, rfl, rfl, HB0⟩
    case round =>
      obtain ⟨k, hk, rfl, rfl, HB⟩ := hrel
      by_cases hlt : k < n
      · obtain ⟨b, off, y, hA, hb, HY, ⟨y0, y1, y2, y3, y4⟩, hyo⟩ := ((HQ.out.on HB.out).ins).at_ hlt
        subst hA
        have HB2 := Lib.hid (HB.out.alloc HB.out.size y.obj)
        clear hb hyo
        go_wp2_with fail
        go_roundw
        case rel => exact ⟨k + 1, by omega, by go_num, rfl, HB2⟩
        case measure => simp [intOf]; omega
      · go_wp2_with fail
        go_ret
        exact ⟨by rw [HE.out]; rfl, HB.out⟩
  have d1 : decide (R ≤ 128) = true := decide_eq_true h1
  by_cases h2 : 0 ≤ A
  case neg =>
    have HE : Hid ((Cq.cd ⟨R, A, I, P, n, c, l⟩).e = 1) := Cd.may_head (fun h => by
      obtain ⟨g0, g1, g2, g3, g4, g5, g6, g7⟩ := h
      rw [show (Cq.cd ⟨R, A, I, P, n, c, l⟩).l.length = n from HLN.out] at g6 g7
      exact h2 g2)
    have d2 : decide (0 ≤ A) = false := decide_eq_false h2
    clear hm
    go_enter Tryz.func93, Tryz.ntmps93
    go_upto_region 2 with fail
    try rw [hW0]
    clear hW0
    go_wp2_with fail
    clear m0 m1 m2 m3
    go_loopw [3, 52] (fun v i wr => ∃ k : Nat, k ≤ n ∧ i = .int .i64 k ∧ v = .bool false ∧ Hid (Below w.heap.size w wr)) (fun _ i _ => n - (intOf i).toNat)
    case atStart => exact ⟨0, Nat.zero_le _, rfl, rfl, HB0⟩
    case round =>
      obtain ⟨k, hk, rfl, rfl, HB⟩ := hrel
      by_cases hlt : k < n
      · obtain ⟨b, off, y, hA, hb, HY, ⟨y0, y1, y2, y3, y4⟩, hyo⟩ := ((HQ.out.on HB.out).ins).at_ hlt
        subst hA
        have HB2 := Lib.hid (HB.out.alloc HB.out.size y.obj)
        clear hb hyo
        go_wp2_with fail
        go_roundw
        case rel => exact ⟨k + 1, by omega, by go_num, rfl, HB2⟩
        case measure => simp [intOf]; omega
      · go_wp2_with fail
        go_ret
        exact ⟨by rw [HE.out]; rfl, HB.out⟩
  have d2 : decide (0 ≤ A) = true := decide_eq_true h2
  by_cases h3 : A ≤ 128
  case neg =>
    have HE : Hid ((Cq.cd ⟨R, A, I, P, n, c, l⟩).e = 1) := Cd.may_head (fun h => by
      obtain ⟨g0, g1, g2, g3, g4, g5, g6, g7⟩ := h
      rw [show (Cq.cd ⟨R, A, I, P, n, c, l⟩).l.length = n from HLN.out] at g6 g7
      exact h3 g3)
    have d3 : decide (A ≤ 128) = false := decide_eq_false h3
    clear hm
    go_enter Tryz.func93, Tryz.ntmps93
    go_upto_region 2 with fail
    try rw [hW0]
    clear hW0
    go_wp2_with fail
    clear m0 m1 m2 m3
    go_loopw [3, 52] (fun v i wr => ∃ k : Nat, k ≤ n ∧ i = .int .i64 k ∧ v = .bool false ∧ Hid (Below w.heap.size w wr)) (fun _ i _ => n - (intOf i).toNat)
    case atStart => exact ⟨0, Nat.zero_le _, rfl, rfl, HB0⟩
    case round =>
      obtain ⟨k, hk, rfl, rfl, HB⟩ := hrel
      by_cases hlt : k < n
      · obtain ⟨b, off, y, hA, hb, HY, ⟨y0, y1, y2, y3, y4⟩, hyo⟩ := ((HQ.out.on HB.out).ins).at_ hlt
        subst hA
        have HB2 := Lib.hid (HB.out.alloc HB.out.size y.obj)
        clear hb hyo
        go_wp2_with fail
        go_roundw
        case rel => exact ⟨k + 1, by omega, by go_num, rfl, HB2⟩
        case measure => simp [intOf]; omega
      · go_wp2_with fail
        go_ret
        exact ⟨by rw [HE.out]; rfl, HB.out⟩
  have d3 : decide (A ≤ 128) = true := decide_eq_true h3
  by_cases h4 : 0 ≤ I
  case neg =>
    have HE : Hid ((Cq.cd ⟨R, A, I, P, n, c, l⟩).e = 1) := Cd.may_head (fun h => by
      obtain ⟨g0, g1, g2, g3, g4, g5, g6, g7⟩ := h
      rw [show (Cq.cd ⟨R, A, I, P, n, c, l⟩).l.length = n from HLN.out] at g6 g7
      exact h4 g4)
    have d4 : decide (0 ≤ I) = false := decide_eq_false h4
    clear hm
    go_enter Tryz.func93, Tryz.ntmps93
    go_upto_region 2 with fail
    try rw [hW0]
    clear hW0
    go_wp2_with fail
    clear m0 m1 m2 m3
    go_loopw [3, 52] (fun v i wr => ∃ k : Nat, k ≤ n ∧ i = .int .i64 k ∧ v = .bool false ∧ Hid (Below w.heap.size w wr)) (fun _ i _ => n - (intOf i).toNat)
    case atStart => exact ⟨0, Nat.zero_le _, rfl, rfl, HB0⟩
    case round =>
      obtain ⟨k, hk, rfl, rfl, HB⟩ := hrel
      by_cases hlt : k < n
      · obtain ⟨b, off, y, hA, hb, HY, ⟨y0, y1, y2, y3, y4⟩, hyo⟩ := ((HQ.out.on HB.out).ins).at_ hlt
        subst hA
        have HB2 := Lib.hid (HB.out.alloc HB.out.size y.obj)
        clear hb hyo
        go_wp2_with fail
        go_roundw
        case rel => exact ⟨k + 1, by omega, by go_num, rfl, HB2⟩
        case measure => simp [intOf]; omega
      · go_wp2_with fail
        go_ret
        exact ⟨by rw [HE.out]; rfl, HB.out⟩
  have d4 : decide (0 ≤ I) = true := decide_eq_true h4
  by_cases h5 : I ≤ A
  case neg =>
    have HE : Hid ((Cq.cd ⟨R, A, I, P, n, c, l⟩).e = 1) := Cd.may_head (fun h => by
      obtain ⟨g0, g1, g2, g3, g4, g5, g6, g7⟩ := h
      rw [show (Cq.cd ⟨R, A, I, P, n, c, l⟩).l.length = n from HLN.out] at g6 g7
      exact h5 g5)
    have d5 : decide (I ≤ A) = false := decide_eq_false h5
    clear hm
    go_enter Tryz.func93, Tryz.ntmps93
    go_upto_region 2 with fail
    try rw [hW0]
    clear hW0
    go_wp2_with fail
    clear m0 m1 m2 m3
    go_loopw [3, 52] (fun v i wr => ∃ k : Nat, k ≤ n ∧ i = .int .i64 k ∧ v = .bool false ∧ Hid (Below w.heap.size w wr)) (fun _ i _ => n - (intOf i).toNat)
    case atStart => exact ⟨0, Nat.zero_le _, rfl, rfl, HB0⟩
    case round =>
      obtain ⟨k, hk, rfl, rfl, HB⟩ := hrel
      by_cases hlt : k < n
      · obtain ⟨b, off, y, hA, hb, HY, ⟨y0, y1, y2, y3, y4⟩, hyo⟩ := ((HQ.out.on HB.out).ins).at_ hlt
        subst hA
        have HB2 := Lib.hid (HB.out.alloc HB.out.size y.obj)
        clear hb hyo
        go_wp2_with fail
        go_roundw
        case rel => exact ⟨k + 1, by omega, by go_num, rfl, HB2⟩
        case measure => simp [intOf]; omega
      · go_wp2_with fail
        go_ret
        exact ⟨by rw [HE.out]; rfl, HB.out⟩
  have d5 : decide (I ≤ A) = true := decide_eq_true h5
  by_cases h6 : 1 ≤ n
  case neg =>
    have HE : Hid ((Cq.cd ⟨R, A, I, P, n, c, l⟩).e = 1) := Cd.may_head (fun h => by
      obtain ⟨g0, g1, g2, g3, g4, g5, g6, g7⟩ := h
      rw [show (Cq.cd ⟨R, A, I, P, n, c, l⟩).l.length = n from HLN.out] at g6 g7
      exact h6 g6)
    have d6 : decide (1 ≤ n) = false := decide_eq_false h6
    have z6 : decide ((1 : Int) ≤ (n : Int)) = false := decide_eq_false (by omega)
    clear hm
    go_enter Tryz.func93, Tryz.ntmps93
    go_upto_region 2 with fail
    try rw [hW0]
    clear hW0
    go_wp2_with fail
    clear m0 m1 m2 m3
    go_loopw [3, 52] (fun v i wr => ∃ k : Nat, k ≤ n ∧ i = .int .i64 k ∧ v = .bool false ∧ Hid (Below w.heap.size w wr)) (fun _ i _ => n - (intOf i).toNat)
    case atStart => exact ⟨0, Nat.zero_le _, rfl, rfl, HB0⟩
    case round =>
      obtain ⟨k, hk, rfl, rfl, HB⟩ := hrel
      by_cases hlt : k < n
      · exfalso; omega
      · go_wp2_with fail
        go_ret
        exact ⟨by rw [HE.out]; rfl, HB.out⟩
  have d6 : decide (1 ≤ n) = true := decide_eq_true h6
  have z6 : decide ((1 : Int) ≤ (n : Int)) = true := decide_eq_true (by omega)
  by_cases h7 : n ≤ 4096
  case neg =>
    have HE : Hid ((Cq.cd ⟨R, A, I, P, n, c, l⟩).e = 1) := Cd.may_head (fun h => by
      obtain ⟨g0, g1, g2, g3, g4, g5, g6, g7⟩ := h
      rw [show (Cq.cd ⟨R, A, I, P, n, c, l⟩).l.length = n from HLN.out] at g6 g7
      exact h7 g7)
    have d7 : decide (n ≤ 4096) = false := decide_eq_false h7
    have z7 : decide ((n : Int) ≤ (4096 : Int)) = false := decide_eq_false (by omega)
    clear hm
    go_enter Tryz.func93, Tryz.ntmps93
    go_upto_region 2 with fail
    try rw [hW0]
    clear hW0
    go_wp2_with fail
    clear m0 m1 m2 m3
    go_loopw [3, 52] (fun v i wr => ∃ k : Nat, k ≤ n ∧ i = .int .i64 k ∧ v = .bool false ∧ Hid (Below w.heap.size w wr)) (fun _ i _ => n - (intOf i).toNat)
    case atStart => exact ⟨0, Nat.zero_le _, rfl, rfl, HB0⟩
    case round =>
      obtain ⟨k, hk, rfl, rfl, HB⟩ := hrel
      by_cases hlt : k < n
      · obtain ⟨b, off, y, hA, hb, HY, ⟨y0, y1, y2, y3, y4⟩, hyo⟩ := ((HQ.out.on HB.out).ins).at_ hlt
        subst hA
        have HB2 := Lib.hid (HB.out.alloc HB.out.size y.obj)
        clear hb hyo
        go_wp2_with fail
        go_roundw
        case rel => exact ⟨k + 1, by omega, by go_num, rfl, HB2⟩
        case measure => simp [intOf]; omega
      · go_wp2_with fail
        go_ret
        exact ⟨by rw [HE.out]; rfl, HB.out⟩
  have d7 : decide (n ≤ 4096) = true := decide_eq_true h7
  have z7 : decide ((n : Int) ≤ (4096 : Int)) = true := decide_eq_true (by omega)
  have HH : Hid (Cd.okH (Cq.cd ⟨R, A, I, P, n, c, l⟩)) := ⟨h0, h1, h2, h3, h4, h5, by rw [show (Cq.cd ⟨R, A, I, P, n, c, l⟩).l.length = n from HLN.out]; exact h6, by rw [show (Cq.cd ⟨R, A, I, P, n, c, l⟩).l.length = n from HLN.out]; exact h7⟩
  clear hm
  go_enter Tryz.func93, Tryz.ntmps93
  go_upto_region 2 with fail
  try rw [hW0]
  clear hW0
  go_wp2_with fail
  clear m0 m1 m2 m3 d0 d1 d2 d3 d4 d5 d6 d7 z6 z7
  go_loopw [3, 52] (fun v i wr => ∃ k : Nat, k ≤ n ∧ i = .int .i64 k ∧ v = .bool ((l.take k).all (mayJ R A n)) ∧ Hid (Below w.heap.size w wr) ∧ Hid (wr.heap[w.heap.size]? = some (Cq.obj ⟨R, A, I, P, n, c, l⟩))) (fun _ i _ => n - (intOf i).toNat)
  case atStart => exact ⟨0, Nat.zero_le _, rfl, by rw [List.take_zero]; rfl, HB0, HX0⟩
  case round =>
    obtain ⟨k, hk, rfl, rfl, HB, HX⟩ := hrel
    obtain ⟨bb, hbb⟩ : ∃ b, (l.take k).all (mayJ R A n) = b := ⟨_, rfl⟩
    have HBB := Lib.hid hbb
    rw [hbb]
    clear hbb
    by_cases hlt : k < n
    · obtain ⟨b, off, y, hA, hb, HY, ⟨y0, y1, y2, y3, y4⟩, hyo⟩ := ((HQ.out.on HB.out).ins).at_ hlt
      subst hA
      have HSN := Lib.hid (all_snoc (mayJ R A n) HY.out)
      have HB2 := Lib.hid (HB.out.alloc HB.out.size y.obj)
      obtain ⟨W2, hW2⟩ : ∃ W, wr.alloc y.obj = W := ⟨_, rfl⟩
      rw [hW2] at HB2
      have HX2 : Hid (W2.heap[w.heap.size]? = some (Cq.obj ⟨R, A, I, some ⟨b, off, none⟩, n, c, l⟩)) := by rw [← hW2]; exact pastJ _ HX.out
      have HY2 : Hid (W2.heap[wr.heap.size]? = some y.obj) := by rw [← hW2]; exact newJ wr y
      cases bb with
      | false =>
        clear hb hyo
        go_wp2_with fail
        try rw [hW2]
        go_roundw
        case rel => exact ⟨k + 1, by omega, by go_num, by rw [HSN.out, HBB.out]; rfl, HB2, HX2⟩
        case measure => simp [intOf]; omega
      | true =>
        have hM := refMay_any y ⟨R, A, I, some ⟨b, off, none⟩, n, c, l⟩ W2 hyo (HQ.out.on HB2.out)
        have HW2 := Lib.hid hW2
        obtain ⟨⟨q0, q1, q2, q3, q4⟩, qf⟩ := box_cellsJ HY2.out
        obtain ⟨m0, m1, m2, m3, _⟩ := lvCells HX2.out
        clear hb hyo hW2
        go_upto_region 5 with fail
        try rw [HW2.out]
        go_wp2_with fail
        refine hM.mono ?_
        rintro e w3 ⟨rfl, hb3⟩
        have HB3 := Lib.hid (HB2.out.trans (hb3.mono HB2.out.size))
        have HX3 := Lib.hid (keep_b hb3 HX2.out)
        clear hb3 hM q0 q1 q2 q3 q4 qf m0 m1 m2 m3
        go_wp2_with fail
        go_roundw
        case rel => exact ⟨k + 1, by omega, by go_num, by rw [HSN.out, HBB.out]; rfl, HB3, HX3⟩
        case measure => simp [intOf]; omega
    · obtain rfl : k = n := by omega
      have HALL : Hid (l.all (mayJ R A k) = bb) := by
        unfold Hid
        rw [← HBB.out, List.take_of_length_le (by rw [HLN.out]; exact Nat.le_refl _)]
      cases bb with
      | false =>
        have HE : Hid ((Cq.cd ⟨R, A, I, P, k, c, l⟩).e = 1) := Cd.may_all (by show l.all (mayJ R A (l.length : Nat)) = false; rw [HLN.out]; exact HALL.out)
        go_wp2_with fail
        go_ret
        exact ⟨by rw [HE.out]; rfl, HB.out⟩
      | true =>
        obtain ⟨b, off, y, hA, hb, HY, ⟨y0, y1, y2, y3, y4⟩, hyo⟩ := ((HQ.out.on HB.out).ins).at_ (k := k - 1) (show k - 1 < k by omega)
        subst hA
        have HE : Hid ((Cq.cd ⟨R, A, I, some ⟨b, off, none⟩, k, c, l⟩).e = if y.op = 0 ∨ y.op = 10 then 0 else 1) := Cd.may_last HH.out (by show l.all (mayJ R A (l.length : Nat)) = true; rw [HLN.out]; exact HALL.out) (by show l[l.length - 1]? = some y; rw [HLN.out]; exact HY.out)
        obtain ⟨m0, m1, m2, m3, _⟩ := lvCells HX.out
        have hk1 : 1 ≤ (k : Int) := by omega
        have hkk : 0 ≤ (k : Int) - 1 := by omega
        have hkt : ((k : Int) - 1).toNat = k - 1 := by omega
        have hkl : (k : Int) - 1 < (k : Int) := by omega
        clear hb hyo
        by_cases e0 : y.op = 0
        · have HE0 : Hid ((Cq.cd ⟨R, A, I, some ⟨b, off, none⟩, k, c, l⟩).e = 0) := by unfold Hid; rw [HE.out, if_pos (Or.inl e0)]
          have c0 : (y.op != 0) = false := by simpa using e0
          clear e0
          go_wp2_with fail
          go_ret
          exact ⟨by rw [HE0.out]; rfl, HB.out.alloc HB.out.size _⟩
        · have c0 : (y.op != 0) = true := by simpa using e0
          by_cases e1 : y.op = 10
          · have HE0 : Hid ((Cq.cd ⟨R, A, I, some ⟨b, off, none⟩, k, c, l⟩).e = 0) := by unfold Hid; rw [HE.out, if_pos (Or.inr e1)]
            have c1 : (y.op != 10) = false := by simpa using e1
            clear e0 e1
            go_wp2_with fail
            go_ret
            exact ⟨by rw [HE0.out]; rfl, HB.out.alloc HB.out.size _⟩
          · have HE0 : Hid ((Cq.cd ⟨R, A, I, some ⟨b, off, none⟩, k, c, l⟩).e = 1) := by unfold Hid; rw [HE.out, if_neg (by omega)]
            have c1 : (y.op != 10) = true := by simpa using e1
            clear e0 e1
            go_wp2_with fail
            go_ret
            exact ⟨by rw [HE0.out]; rfl, HB.out.alloc HB.out.size _⟩
end Go.Proofs.YtgkngimeokhhgaaGreatDoor
/- The document's Shift: code put further on. -/
namespace Go.Proofs.YtgkngimeokhhgaaGreatDoor
open Go.RowKit

/-- what Shift tells -/
def Cd.shiftC (c : Cd) (by_ : Int) : Cd := if c.shiftE by_ = 0 then c.shift by_ else ⟨0, 0, 0, []⟩
def ShP (q : Cq) (by_ : Int) (w : World) (e : Ending) (w' : World) : Prop :=
  ∃ A' c', e = .returned (.tuple #[.agg #[.int .i64 (q.cd.shiftC by_).R, .int .i64 (q.cd.shiftC by_).A, .int .i64 (q.cd.shiftC by_).I, .slice A' (q.cd.shiftC by_).l.length c'], .int .i64 (q.cd.shiftE by_)]) ∧ OwnJ w' w.heap.size A' c' (q.cd.shiftC by_).l ∧ Below w.heap.size w w'
theorem set_j {w : World} {g i : Nat} {cs : List Value} {t : TypeId} (h : w.heap[g]? = some (.cells cs.toArray t (0, 0))) (v : Value) : (w.setCell ⟨g, i, none⟩ v).heap[g]? = some (.cells (cs.set i v).toArray t (0, 0)) := blkE_set h v
/-- instructions of the call's own stay over a write into a block of another type -/
theorem OwnJ.set_other {w : World} {base c g : Nat} {A : Option Addr} {l : List Ji} {cs : Array Value} {t : TypeId} (h : OwnJ w base A c l) (hg : w.heap[g]? = some (.cells cs t (0, 0))) (ht : 70 ≠ t) (i : Nat) (v : Value) : OwnJ (w.setCell ⟨g, i, none⟩ v) base A c l :=
  World.ownsRow.kept h (grownBy_setE (grown_same w g) i v) (rows_ne h hg ht)
/-- instructions of the call's own stay over a write into a block that is not theirs -/
theorem OwnJ.set_off {w : World} {base c g : Nat} {A : Option Addr} {l : List Ji} (h : OwnJ w base A c l) (hA : ∀ b, A = some ⟨b, 0, none⟩ → b ≠ g) (i : Nat) (v : Value) : OwnJ (w.setCell ⟨g, i, none⟩ v) base A c l :=
  World.ownsRow.kept h (grownBy_setE (grown_same w g) i v) (by
    rcases h.heap with h1 | ⟨g', cur, h1, _, _⟩
    · rw [h1]; exact .inl rfl
    · rw [h1]; exact .inr (by simpa [Value.ownBlock] using hA g' h1))
/-- where the variables lie in Shift -/
structure ShI (w : World) (q : Cq) (g : Nat) (wr : World) (A' : Option Addr) (c' : Nat) (L : List Ji) : Prop where
  bel : Below w.heap.size w wr
  bx : wr.heap[w.heap.size]? = some q.obj
  rv : wr.heap[w.heap.size + 1]? = some (.cells #[.int .i64 0, .int .i64 0, .int .i64 0, .slice none 0 0] 24 (0, 0))
  gn : w.heap.size + 1 < g
  box : wr.heap[g]? = some (.cells #[.int .i64 q.R, .int .i64 q.A, .int .i64 q.I, .slice A' L.length c'] 24 (0, 0))
  own : OwnJ wr w.heap.size A' c' L
section
variable {w wr w' : World} {q : Cq} {g c' c2 : Nat} {A' A2 : Option Addr} {L : List Ji} {y : Ji}
theorem ShI.below (h : ShI w q g wr A' c' L) (hb : Below wr.heap.size wr w') : ShI w q g w' A' c' L :=
  ⟨h.bel.trans (hb.mono h.bel.size), keep_b hb h.bx, keep_b hb h.rv, h.gn, keep_b hb h.box, h.own.below hb (Nat.le_refl _)⟩
theorem ShI.add (h : ShI w q g wr A' c' L) (hO : OwnJ w' w.heap.size A2 c2 (L ++ [y])) (hG : wr.grownBy w' (Value.slice A' L.length c').ownBlock) : ShI w q g (w'.setCell ⟨g, 3, none⟩ (.slice A2 (L.length + 1) c2)) A2 c2 (L ++ [y]) := by
  have h1 := box_keptJ h.bx (by decide) hG h.own
  have h2 := box_keptJ h.rv (by decide) hG h.own
  have h3 := box_keptJ h.box (by decide) hG h.own
  have hs := set_j (i := 3) (cs := [.int .i64 q.R, .int .i64 q.A, .int .i64 q.I, .slice A' L.length c']) h3 (.slice A2 (L.length + 1) c2)
  have hn := h.gn
  refine ⟨(below_appJ h.bel hG h.own h.bel.size).setCell (p := ⟨g, 3, none⟩) (by show w.heap.size ≤ g; omega) _, (Below.heap_setCell _ ⟨g, 3, none⟩ _ _ (by show w.heap.size ≠ g; omega)).trans h1, (Below.heap_setCell _ ⟨g, 3, none⟩ _ _ (by show w.heap.size + 1 ≠ g; omega)).trans h2, hn, ?_, hO.set_other h3 (by decide) _ _⟩
  rw [List.length_append]
  exact hs
end
/-- what is returned, stored -/
theorem ShI.done (q : Cq) (by_ : Int) {w wr : World} {g c' : Nat} {A' : Option Addr} {L : List Ji} (h : ShI w q g wr A' c' L) (hE : q.cd.shiftE by_ = 0) (hL : (q.cd.shift by_).l = L) (n : Nat) (hn : L.length = n) :
    ShP q by_ w (.returned (.tuple #[.agg #[.int .i64 q.R, .int .i64 q.A, .int .i64 q.I, .slice A' n c'], .int .i64 0])) ((((wr.setCell ⟨w.heap.size + 1, 0, none⟩ (.int .i64 q.R)).setCell ⟨w.heap.size + 1, 1, none⟩ (.int .i64 q.A)).setCell ⟨w.heap.size + 1, 2, none⟩ (.int .i64 q.I)).setCell ⟨w.heap.size + 1, 3, none⟩ (.slice A' n c')) := by
  have hC : q.cd.shiftC by_ = q.cd.shift by_ := by unfold Cd.shiftC; rw [if_pos hE]
  have hg : wr.grownBy ((((wr.setCell ⟨w.heap.size + 1, 0, none⟩ (.int .i64 q.R)).setCell ⟨w.heap.size + 1, 1, none⟩ (.int .i64 q.A)).setCell ⟨w.heap.size + 1, 2, none⟩ (.int .i64 q.I)).setCell ⟨w.heap.size + 1, 3, none⟩ (.slice A' n c')) (some (w.heap.size + 1)) :=
    grownBy_setE (grownBy_setE (grownBy_setE (grownBy_setE (grown_same wr _) _ _) _ _) _ _) _ _
  refine ⟨A', c', ?_, ?_, h.bel.grown hg h.bel.size (fun k hk => by injection hk with hk; omega)⟩
  · rw [hC, hE, hL, hn]; rfl
  · rw [hC, hL]
    exact World.ownsRow.kept h.own hg (rows_ne h.own h.rv (by decide))
theorem four_cells {w : World} {g : Nat} {a b c d : Value} {t : TypeId} (h : w.heap[g]? = some (.cells #[a, b, c, d] t (0, 0))) (x0 x1 x2 x3 : Value) :
    ((((w.setCell ⟨g, 0, none⟩ x0).setCell ⟨g, 1, none⟩ x1).setCell ⟨g, 2, none⟩ x2).setCell ⟨g, 3, none⟩ x3).heap[g]? = some (.cells #[x0, x1, x2, x3] t (0, 0)) := by
  have h1 := set_j (i := 0) (cs := [a, b, c, d]) h x0
  have h2 := set_j (i := 1) (cs := [x0, b, c, d]) h1 x1
  have h3 := set_j (i := 2) (cs := [x0, x1, c, d]) h2 x2
  exact set_j (i := 3) (cs := [x0, x1, x2, d]) h3 x3
end Go.Proofs.YtgkngimeokhhgaaGreatDoor
/- The document's Next: where an instruction goes on. -/
namespace Go.Proofs.YtgkngimeokhhgaaGreatDoor
open Go.RowKit

def NextP (x : Ji) (at_ : Int) (w : World) (e : Ending) (w' : World) : Prop := ∃ A c, e = .returned (.slice A (nextJ x at_).length c) ∧ OwnI w' w.heap.size 3 A c (nextJ x at_) ∧ Below w.heap.size w w'
theorem own_one (W : World) (v : Int) (base : Nat) (hb : base ≤ W.heap.size) (hv : -9223372036854775808 ≤ v ∧ v ≤ 9223372036854775807) : OwnI (W.alloc (.cells #[.int .i64 v] 3)) base 3 (some ⟨W.heap.size, 0, none⟩) 1 [v] :=
  ⟨⟨rfl, .inr ⟨W.heap.size, 1, #[.int .i64 v], rfl, hb, heap_alloc_new W _, Nat.le_refl _, by unfold maxLen; omega, rfl, rfl⟩⟩, by simpa using hv⟩
theorem own_two (W : World) (v u : Int) (base : Nat) (hb : base ≤ W.heap.size) (hv : -9223372036854775808 ≤ v ∧ v ≤ 9223372036854775807) (hu : -9223372036854775808 ≤ u ∧ u ≤ 9223372036854775807) : OwnI (W.alloc (.cells #[.int .i64 v, .int .i64 u] 3)) base 3 (some ⟨W.heap.size, 0, none⟩) 2 [v, u] :=
  ⟨⟨rfl, .inr ⟨W.heap.size, 2, #[.int .i64 v, .int .i64 u], rfl, hb, heap_alloc_new W _, Nat.le_refl _, by unfold maxLen; omega, rfl, rfl⟩⟩, by
    intro z hz
    rcases List.mem_cons.1 hz with rfl | hz
    · exact hv
    · rw [List.mem_singleton.1 hz]; exact hu⟩
set_option maxRecDepth 100000 in
theorem refNext_0 (a b c n at_ : Int) (w : World) (_hx : (⟨0, a, b, c, n⟩ : Ji).ok) : Calls Tryz.prog 102 #[Ji.val ⟨0, a, b, c, n⟩, .int .i64 at_] w (NextP ⟨0, a, b, c, n⟩ at_ w) := by
  have HN : Hid (nextJ ⟨0, a, b, c, n⟩ at_ = []) := rfl
  have HB0 := Lib.hid ((Below.refl w.heap.size w).alloc (Nat.le_refl _) (Ji.obj ⟨0, a, b, c, n⟩))
  have HX0 := Lib.hid (newJ w ⟨0, a, b, c, n⟩)
  obtain ⟨W0, hW0⟩ : ∃ W, w.alloc (Ji.obj ⟨0, a, b, c, n⟩) = W := ⟨_, rfl⟩
  rw [hW0] at HB0 HX0
  obtain ⟨k, kf⟩ := box_cellsJ HX0.out
  obtain ⟨k0, k1, k2, k3, k4⟩ := k
  go_enter Tryz.func102, Tryz.ntmps102
  go_wp2_with fail
  try rw [hW0]
  refine (refWord14_any 0 W0).mono ?_
  rintro e w1 ⟨rfl, hb⟩
  have HB1 := Lib.hid (HB0.out.trans (hb.mono HB0.out.size))
  have HX1 := Lib.hid (keep_b hb HX0.out)
  have hsz : w.heap.size ≤ w1.heap.size := HB1.out.size
  clear hb hW0 k0 k1 k2 k3 k4 kf
  obtain ⟨k, kf⟩ := box_cellsJ HX1.out
  obtain ⟨k0, k1, k2, k3, k4⟩ := k
  rw [show strJ (wJ 0) = (⟨#[104, 97, 108, 116]⟩ : ByteArray) from rfl]
  go_wp2_with fail
  go_ret
  exact ⟨none, 0, by rw [HN.out]; rfl, by rw [HN.out]; exact OwnI.nil_ _ _ _, HB1.out⟩
set_option maxRecDepth 100000 in
theorem refNext_1 (a b c n at_ : Int) (w : World) (_hx : (⟨1, a, b, c, n⟩ : Ji).ok) : Calls Tryz.prog 102 #[Ji.val ⟨1, a, b, c, n⟩, .int .i64 at_] w (NextP ⟨1, a, b, c, n⟩ at_ w) := by
  have HB0 := Lib.hid ((Below.refl w.heap.size w).alloc (Nat.le_refl _) (Ji.obj ⟨1, a, b, c, n⟩))
  have HX0 := Lib.hid (newJ w ⟨1, a, b, c, n⟩)
  obtain ⟨W0, hW0⟩ : ∃ W, w.alloc (Ji.obj ⟨1, a, b, c, n⟩) = W := ⟨_, rfl⟩
  rw [hW0] at HB0 HX0
  obtain ⟨k, kf⟩ := box_cellsJ HX0.out
  obtain ⟨k0, k1, k2, k3, k4⟩ := k
  go_enter Tryz.func102, Tryz.ntmps102
  go_wp2_with fail
  try rw [hW0]
  refine (refWord14_any 1 W0).mono ?_
  rintro e w1 ⟨rfl, hb⟩
  have HB1 := Lib.hid (HB0.out.trans (hb.mono HB0.out.size))
  have HX1 := Lib.hid (keep_b hb HX0.out)
  have hsz : w.heap.size ≤ w1.heap.size := HB1.out.size
  clear hb hW0 k0 k1 k2 k3 k4 kf
  obtain ⟨k, kf⟩ := box_cellsJ HX1.out
  obtain ⟨k0, k1, k2, k3, k4⟩ := k
  rw [show strJ (wJ 1) = (⟨#[115, 101, 116]⟩ : ByteArray) from rfl]
  go_wp2_with fail
  go_ret
  exact ⟨_, _, rfl, own_one w1 _ _ hsz (wrap64_bounds _), HB1.out.alloc hsz _⟩
set_option maxRecDepth 100000 in
theorem refNext_2 (a b c n at_ : Int) (w : World) (_hx : (⟨2, a, b, c, n⟩ : Ji).ok) : Calls Tryz.prog 102 #[Ji.val ⟨2, a, b, c, n⟩, .int .i64 at_] w (NextP ⟨2, a, b, c, n⟩ at_ w) := by
  have HB0 := Lib.hid ((Below.refl w.heap.size w).alloc (Nat.le_refl _) (Ji.obj ⟨2, a, b, c, n⟩))
  have HX0 := Lib.hid (newJ w ⟨2, a, b, c, n⟩)
  obtain ⟨W0, hW0⟩ : ∃ W, w.alloc (Ji.obj ⟨2, a, b, c, n⟩) = W := ⟨_, rfl⟩
  rw [hW0] at HB0 HX0
  obtain ⟨k, kf⟩ := box_cellsJ HX0.out
  obtain ⟨k0, k1, k2, k3, k4⟩ := k
  go_enter Tryz.func102, Tryz.ntmps102
  go_wp2_with fail
  try rw [hW0]
  refine (refWord14_any 2 W0).mono ?_
  rintro e w1 ⟨rfl, hb⟩
  have HB1 := Lib.hid (HB0.out.trans (hb.mono HB0.out.size))
  have HX1 := Lib.hid (keep_b hb HX0.out)
  have hsz : w.heap.size ≤ w1.heap.size := HB1.out.size
  clear hb hW0 k0 k1 k2 k3 k4 kf
  obtain ⟨k, kf⟩ := box_cellsJ HX1.out
  obtain ⟨k0, k1, k2, k3, k4⟩ := k
  rw [show strJ (wJ 2) = (⟨#[109, 111, 118, 101]⟩ : ByteArray) from rfl]
  go_wp2_with fail
  go_ret
  exact ⟨_, _, rfl, own_one w1 _ _ hsz (wrap64_bounds _), HB1.out.alloc hsz _⟩
set_option maxRecDepth 100000 in
theorem refNext_3 (a b c n at_ : Int) (w : World) (_hx : (⟨3, a, b, c, n⟩ : Ji).ok) : Calls Tryz.prog 102 #[Ji.val ⟨3, a, b, c, n⟩, .int .i64 at_] w (NextP ⟨3, a, b, c, n⟩ at_ w) := by
  have HB0 := Lib.hid ((Below.refl w.heap.size w).alloc (Nat.le_refl _) (Ji.obj ⟨3, a, b, c, n⟩))
  have HX0 := Lib.hid (newJ w ⟨3, a, b, c, n⟩)
  obtain ⟨W0, hW0⟩ : ∃ W, w.alloc (Ji.obj ⟨3, a, b, c, n⟩) = W := ⟨_, rfl⟩
  rw [hW0] at HB0 HX0
  obtain ⟨k, kf⟩ := box_cellsJ HX0.out
  obtain ⟨k0, k1, k2, k3, k4⟩ := k
  go_enter Tryz.func102, Tryz.ntmps102
  go_wp2_with fail
  try rw [hW0]
  refine (refWord14_any 3 W0).mono ?_
  rintro e w1 ⟨rfl, hb⟩
  have HB1 := Lib.hid (HB0.out.trans (hb.mono HB0.out.size))
  have HX1 := Lib.hid (keep_b hb HX0.out)
  have hsz : w.heap.size ≤ w1.heap.size := HB1.out.size
  clear hb hW0 k0 k1 k2 k3 k4 kf
  obtain ⟨k, kf⟩ := box_cellsJ HX1.out
  obtain ⟨k0, k1, k2, k3, k4⟩ := k
  rw [show strJ (wJ 3) = (⟨#[97, 100, 100]⟩ : ByteArray) from rfl]
  go_wp2_with fail
  go_ret
  exact ⟨_, _, rfl, own_one w1 _ _ hsz (wrap64_bounds _), HB1.out.alloc hsz _⟩
set_option maxRecDepth 100000 in
theorem refNext_4 (a b c n at_ : Int) (w : World) (_hx : (⟨4, a, b, c, n⟩ : Ji).ok) : Calls Tryz.prog 102 #[Ji.val ⟨4, a, b, c, n⟩, .int .i64 at_] w (NextP ⟨4, a, b, c, n⟩ at_ w) := by
  have HB0 := Lib.hid ((Below.refl w.heap.size w).alloc (Nat.le_refl _) (Ji.obj ⟨4, a, b, c, n⟩))
  have HX0 := Lib.hid (newJ w ⟨4, a, b, c, n⟩)
  obtain ⟨W0, hW0⟩ : ∃ W, w.alloc (Ji.obj ⟨4, a, b, c, n⟩) = W := ⟨_, rfl⟩
  rw [hW0] at HB0 HX0
  obtain ⟨k, kf⟩ := box_cellsJ HX0.out
  obtain ⟨k0, k1, k2, k3, k4⟩ := k
  go_enter Tryz.func102, Tryz.ntmps102
  go_wp2_with fail
  try rw [hW0]
  refine (refWord14_any 4 W0).mono ?_
  rintro e w1 ⟨rfl, hb⟩
  have HB1 := Lib.hid (HB0.out.trans (hb.mono HB0.out.size))
  have HX1 := Lib.hid (keep_b hb HX0.out)
  have hsz : w.heap.size ≤ w1.heap.size := HB1.out.size
  clear hb hW0 k0 k1 k2 k3 k4 kf
  obtain ⟨k, kf⟩ := box_cellsJ HX1.out
  obtain ⟨k0, k1, k2, k3, k4⟩ := k
  rw [show strJ (wJ 4) = (⟨#[115, 117, 98]⟩ : ByteArray) from rfl]
  go_wp2_with fail
  go_ret
  exact ⟨_, _, rfl, own_one w1 _ _ hsz (wrap64_bounds _), HB1.out.alloc hsz _⟩
set_option maxRecDepth 100000 in
theorem refNext_5 (a b c n at_ : Int) (w : World) (_hx : (⟨5, a, b, c, n⟩ : Ji).ok) : Calls Tryz.prog 102 #[Ji.val ⟨5, a, b, c, n⟩, .int .i64 at_] w (NextP ⟨5, a, b, c, n⟩ at_ w) := by
  have HB0 := Lib.hid ((Below.refl w.heap.size w).alloc (Nat.le_refl _) (Ji.obj ⟨5, a, b, c, n⟩))
  have HX0 := Lib.hid (newJ w ⟨5, a, b, c, n⟩)
  obtain ⟨W0, hW0⟩ : ∃ W, w.alloc (Ji.obj ⟨5, a, b, c, n⟩) = W := ⟨_, rfl⟩
  rw [hW0] at HB0 HX0
  obtain ⟨k, kf⟩ := box_cellsJ HX0.out
  obtain ⟨k0, k1, k2, k3, k4⟩ := k
  go_enter Tryz.func102, Tryz.ntmps102
  go_wp2_with fail
  try rw [hW0]
  refine (refWord14_any 5 W0).mono ?_
  rintro e w1 ⟨rfl, hb⟩
  have HB1 := Lib.hid (HB0.out.trans (hb.mono HB0.out.size))
  have HX1 := Lib.hid (keep_b hb HX0.out)
  have hsz : w.heap.size ≤ w1.heap.size := HB1.out.size
  clear hb hW0 k0 k1 k2 k3 k4 kf
  obtain ⟨k, kf⟩ := box_cellsJ HX1.out
  obtain ⟨k0, k1, k2, k3, k4⟩ := k
  rw [show strJ (wJ 5) = (⟨#[109, 117, 108]⟩ : ByteArray) from rfl]
  go_wp2_with fail
  go_ret
  exact ⟨_, _, rfl, own_one w1 _ _ hsz (wrap64_bounds _), HB1.out.alloc hsz _⟩
set_option maxRecDepth 100000 in
theorem refNext_6 (a b c n at_ : Int) (w : World) (_hx : (⟨6, a, b, c, n⟩ : Ji).ok) : Calls Tryz.prog 102 #[Ji.val ⟨6, a, b, c, n⟩, .int .i64 at_] w (NextP ⟨6, a, b, c, n⟩ at_ w) := by
  have HB0 := Lib.hid ((Below.refl w.heap.size w).alloc (Nat.le_refl _) (Ji.obj ⟨6, a, b, c, n⟩))
  have HX0 := Lib.hid (newJ w ⟨6, a, b, c, n⟩)
  obtain ⟨W0, hW0⟩ : ∃ W, w.alloc (Ji.obj ⟨6, a, b, c, n⟩) = W := ⟨_, rfl⟩
  rw [hW0] at HB0 HX0
  obtain ⟨k, kf⟩ := box_cellsJ HX0.out
  obtain ⟨k0, k1, k2, k3, k4⟩ := k
  go_enter Tryz.func102, Tryz.ntmps102
  go_wp2_with fail
  try rw [hW0]
  refine (refWord14_any 6 W0).mono ?_
  rintro e w1 ⟨rfl, hb⟩
  have HB1 := Lib.hid (HB0.out.trans (hb.mono HB0.out.size))
  have HX1 := Lib.hid (keep_b hb HX0.out)
  have hsz : w.heap.size ≤ w1.heap.size := HB1.out.size
  clear hb hW0 k0 k1 k2 k3 k4 kf
  obtain ⟨k, kf⟩ := box_cellsJ HX1.out
  obtain ⟨k0, k1, k2, k3, k4⟩ := k
  rw [show strJ (wJ 6) = (⟨#[108, 111, 97, 100]⟩ : ByteArray) from rfl]
  go_wp2_with fail
  go_ret
  exact ⟨_, _, rfl, own_one w1 _ _ hsz (wrap64_bounds _), HB1.out.alloc hsz _⟩
set_option maxRecDepth 100000 in
theorem refNext_7 (a b c n at_ : Int) (w : World) (_hx : (⟨7, a, b, c, n⟩ : Ji).ok) : Calls Tryz.prog 102 #[Ji.val ⟨7, a, b, c, n⟩, .int .i64 at_] w (NextP ⟨7, a, b, c, n⟩ at_ w) := by
  have HB0 := Lib.hid ((Below.refl w.heap.size w).alloc (Nat.le_refl _) (Ji.obj ⟨7, a, b, c, n⟩))
  have HX0 := Lib.hid (newJ w ⟨7, a, b, c, n⟩)
  obtain ⟨W0, hW0⟩ : ∃ W, w.alloc (Ji.obj ⟨7, a, b, c, n⟩) = W := ⟨_, rfl⟩
  rw [hW0] at HB0 HX0
  obtain ⟨k, kf⟩ := box_cellsJ HX0.out
  obtain ⟨k0, k1, k2, k3, k4⟩ := k
  go_enter Tryz.func102, Tryz.ntmps102
  go_wp2_with fail
  try rw [hW0]
  refine (refWord14_any 7 W0).mono ?_
  rintro e w1 ⟨rfl, hb⟩
  have HB1 := Lib.hid (HB0.out.trans (hb.mono HB0.out.size))
  have HX1 := Lib.hid (keep_b hb HX0.out)
  have hsz : w.heap.size ≤ w1.heap.size := HB1.out.size
  clear hb hW0 k0 k1 k2 k3 k4 kf
  obtain ⟨k, kf⟩ := box_cellsJ HX1.out
  obtain ⟨k0, k1, k2, k3, k4⟩ := k
  rw [show strJ (wJ 7) = (⟨#[115, 116, 111, 114, 101]⟩ : ByteArray) from rfl]
  go_wp2_with fail
  go_ret
  exact ⟨_, _, rfl, own_one w1 _ _ hsz (wrap64_bounds _), HB1.out.alloc hsz _⟩
set_option maxRecDepth 100000 in
theorem refNext_8 (a b c n at_ : Int) (w : World) (_hx : (⟨8, a, b, c, n⟩ : Ji).ok) : Calls Tryz.prog 102 #[Ji.val ⟨8, a, b, c, n⟩, .int .i64 at_] w (NextP ⟨8, a, b, c, n⟩ at_ w) := by
  have HB0 := Lib.hid ((Below.refl w.heap.size w).alloc (Nat.le_refl _) (Ji.obj ⟨8, a, b, c, n⟩))
  have HX0 := Lib.hid (newJ w ⟨8, a, b, c, n⟩)
  obtain ⟨W0, hW0⟩ : ∃ W, w.alloc (Ji.obj ⟨8, a, b, c, n⟩) = W := ⟨_, rfl⟩
  rw [hW0] at HB0 HX0
  obtain ⟨k, kf⟩ := box_cellsJ HX0.out
  obtain ⟨k0, k1, k2, k3, k4⟩ := k
  go_enter Tryz.func102, Tryz.ntmps102
  go_wp2_with fail
  try rw [hW0]
  refine (refWord14_any 8 W0).mono ?_
  rintro e w1 ⟨rfl, hb⟩
  have HB1 := Lib.hid (HB0.out.trans (hb.mono HB0.out.size))
  have HX1 := Lib.hid (keep_b hb HX0.out)
  have hsz : w.heap.size ≤ w1.heap.size := HB1.out.size
  clear hb hW0 k0 k1 k2 k3 k4 kf
  obtain ⟨k, kf⟩ := box_cellsJ HX1.out
  obtain ⟨k0, k1, k2, k3, k4⟩ := k
  rw [show strJ (wJ 8) = (⟨#[108, 101, 110]⟩ : ByteArray) from rfl]
  go_wp2_with fail
  go_ret
  exact ⟨_, _, rfl, own_one w1 _ _ hsz (wrap64_bounds _), HB1.out.alloc hsz _⟩
set_option maxRecDepth 100000 in
theorem refNext_9 (a b c n at_ : Int) (w : World) (_hx : (⟨9, a, b, c, n⟩ : Ji).ok) : Calls Tryz.prog 102 #[Ji.val ⟨9, a, b, c, n⟩, .int .i64 at_] w (NextP ⟨9, a, b, c, n⟩ at_ w) := by
  have HB0 := Lib.hid ((Below.refl w.heap.size w).alloc (Nat.le_refl _) (Ji.obj ⟨9, a, b, c, n⟩))
  have HX0 := Lib.hid (newJ w ⟨9, a, b, c, n⟩)
  obtain ⟨W0, hW0⟩ : ∃ W, w.alloc (Ji.obj ⟨9, a, b, c, n⟩) = W := ⟨_, rfl⟩
  rw [hW0] at HB0 HX0
  obtain ⟨k, kf⟩ := box_cellsJ HX0.out
  obtain ⟨k0, k1, k2, k3, k4⟩ := k
  go_enter Tryz.func102, Tryz.ntmps102
  go_wp2_with fail
  try rw [hW0]
  refine (refWord14_any 9 W0).mono ?_
  rintro e w1 ⟨rfl, hb⟩
  have HB1 := Lib.hid (HB0.out.trans (hb.mono HB0.out.size))
  have HX1 := Lib.hid (keep_b hb HX0.out)
  have hsz : w.heap.size ≤ w1.heap.size := HB1.out.size
  clear hb hW0 k0 k1 k2 k3 k4 kf
  obtain ⟨k, kf⟩ := box_cellsJ HX1.out
  obtain ⟨k0, k1, k2, k3, k4⟩ := k
  rw [show strJ (wJ 9) = (⟨#[112, 117, 115, 104]⟩ : ByteArray) from rfl]
  go_wp2_with fail
  go_ret
  exact ⟨_, _, rfl, own_one w1 _ _ hsz (wrap64_bounds _), HB1.out.alloc hsz _⟩
set_option maxRecDepth 100000 in
theorem refNext_10 (a b c n at_ : Int) (w : World) (hx : (⟨10, a, b, c, n⟩ : Ji).ok) : Calls Tryz.prog 102 #[Ji.val ⟨10, a, b, c, n⟩, .int .i64 at_] w (NextP ⟨10, a, b, c, n⟩ at_ w) := by
  have HB0 := Lib.hid ((Below.refl w.heap.size w).alloc (Nat.le_refl _) (Ji.obj ⟨10, a, b, c, n⟩))
  have HX0 := Lib.hid (newJ w ⟨10, a, b, c, n⟩)
  obtain ⟨W0, hW0⟩ : ∃ W, w.alloc (Ji.obj ⟨10, a, b, c, n⟩) = W := ⟨_, rfl⟩
  rw [hW0] at HB0 HX0
  obtain ⟨k, kf⟩ := box_cellsJ HX0.out
  obtain ⟨k0, k1, k2, k3, k4⟩ := k
  go_enter Tryz.func102, Tryz.ntmps102
  go_wp2_with fail
  try rw [hW0]
  refine (refWord14_any 10 W0).mono ?_
  rintro e w1 ⟨rfl, hb⟩
  have HB1 := Lib.hid (HB0.out.trans (hb.mono HB0.out.size))
  have HX1 := Lib.hid (keep_b hb HX0.out)
  have hsz : w.heap.size ≤ w1.heap.size := HB1.out.size
  clear hb hW0 k0 k1 k2 k3 k4 kf
  obtain ⟨k, kf⟩ := box_cellsJ HX1.out
  obtain ⟨k0, k1, k2, k3, k4⟩ := k
  rw [show strJ (wJ 10) = (⟨#[106, 117, 109, 112]⟩ : ByteArray) from rfl]
  go_wp2_with fail
  go_ret
  exact ⟨_, _, rfl, own_one w1 a _ hsz hx.a, HB1.out.alloc hsz _⟩
set_option maxRecDepth 100000 in
theorem refNext_11 (a b c n at_ : Int) (w : World) (hx : (⟨11, a, b, c, n⟩ : Ji).ok) : Calls Tryz.prog 102 #[Ji.val ⟨11, a, b, c, n⟩, .int .i64 at_] w (NextP ⟨11, a, b, c, n⟩ at_ w) := by
  have HB0 := Lib.hid ((Below.refl w.heap.size w).alloc (Nat.le_refl _) (Ji.obj ⟨11, a, b, c, n⟩))
  have HX0 := Lib.hid (newJ w ⟨11, a, b, c, n⟩)
  obtain ⟨W0, hW0⟩ : ∃ W, w.alloc (Ji.obj ⟨11, a, b, c, n⟩) = W := ⟨_, rfl⟩
  rw [hW0] at HB0 HX0
  obtain ⟨k, kf⟩ := box_cellsJ HX0.out
  obtain ⟨k0, k1, k2, k3, k4⟩ := k
  go_enter Tryz.func102, Tryz.ntmps102
  go_wp2_with fail
  try rw [hW0]
  refine (refWord14_any 11 W0).mono ?_
  rintro e w1 ⟨rfl, hb⟩
  have HB1 := Lib.hid (HB0.out.trans (hb.mono HB0.out.size))
  have HX1 := Lib.hid (keep_b hb HX0.out)
  have hsz : w.heap.size ≤ w1.heap.size := HB1.out.size
  clear hb hW0 k0 k1 k2 k3 k4 kf
  obtain ⟨k, kf⟩ := box_cellsJ HX1.out
  obtain ⟨k0, k1, k2, k3, k4⟩ := k
  rw [show strJ (wJ 11) = (⟨#[108, 101, 115, 115]⟩ : ByteArray) from rfl]
  go_wp2_with fail
  go_ret
  exact ⟨_, _, rfl, own_two w1 _ c _ hsz (wrap64_bounds _) hx.c, HB1.out.alloc hsz _⟩
set_option maxRecDepth 100000 in
theorem refNext_12 (a b c n at_ : Int) (w : World) (hx : (⟨12, a, b, c, n⟩ : Ji).ok) : Calls Tryz.prog 102 #[Ji.val ⟨12, a, b, c, n⟩, .int .i64 at_] w (NextP ⟨12, a, b, c, n⟩ at_ w) := by
  have HB0 := Lib.hid ((Below.refl w.heap.size w).alloc (Nat.le_refl _) (Ji.obj ⟨12, a, b, c, n⟩))
  have HX0 := Lib.hid (newJ w ⟨12, a, b, c, n⟩)
  obtain ⟨W0, hW0⟩ : ∃ W, w.alloc (Ji.obj ⟨12, a, b, c, n⟩) = W := ⟨_, rfl⟩
  rw [hW0] at HB0 HX0
  obtain ⟨k, kf⟩ := box_cellsJ HX0.out
  obtain ⟨k0, k1, k2, k3, k4⟩ := k
  go_enter Tryz.func102, Tryz.ntmps102
  go_wp2_with fail
  try rw [hW0]
  refine (refWord14_any 12 W0).mono ?_
  rintro e w1 ⟨rfl, hb⟩
  have HB1 := Lib.hid (HB0.out.trans (hb.mono HB0.out.size))
  have HX1 := Lib.hid (keep_b hb HX0.out)
  have hsz : w.heap.size ≤ w1.heap.size := HB1.out.size
  clear hb hW0 k0 k1 k2 k3 k4 kf
  obtain ⟨k, kf⟩ := box_cellsJ HX1.out
  obtain ⟨k0, k1, k2, k3, k4⟩ := k
  rw [show strJ (wJ 12) = (⟨#[115, 97, 109, 101]⟩ : ByteArray) from rfl]
  go_wp2_with fail
  go_ret
  exact ⟨_, _, rfl, own_two w1 _ c _ hsz (wrap64_bounds _) hx.c, HB1.out.alloc hsz _⟩
set_option maxRecDepth 100000 in
theorem refNext_out (op a b c n at_ : Int) (w : World) (h : op < 0 ∨ 12 < op) : Calls Tryz.prog 102 #[Ji.val ⟨op, a, b, c, n⟩, .int .i64 at_] w (NextP ⟨op, a, b, c, n⟩ at_ w) := by
  have HN : Hid (nextJ ⟨op, a, b, c, n⟩ at_ = []) := by unfold Hid nextJ; rw [if_pos (by show op ≤ 0 ∨ 12 < op; omega)]
  have HW : Hid (strJ (wJ op) = (⟨#[]⟩ : ByteArray)) := by unfold Hid wJ; rw [if_neg (by omega)]; rfl
  clear h
  have HB0 := Lib.hid ((Below.refl w.heap.size w).alloc (Nat.le_refl _) (Ji.obj ⟨op, a, b, c, n⟩))
  have HX0 := Lib.hid (newJ w ⟨op, a, b, c, n⟩)
  obtain ⟨W0, hW0⟩ : ∃ W, w.alloc (Ji.obj ⟨op, a, b, c, n⟩) = W := ⟨_, rfl⟩
  rw [hW0] at HB0 HX0
  obtain ⟨k, kf⟩ := box_cellsJ HX0.out
  obtain ⟨k0, k1, k2, k3, k4⟩ := k
  go_enter Tryz.func102, Tryz.ntmps102
  go_wp2_with fail
  try rw [hW0]
  refine (refWord14_any op W0).mono ?_
  rintro e w1 ⟨rfl, hb⟩
  have HB1 := Lib.hid (HB0.out.trans (hb.mono HB0.out.size))
  have HX1 := Lib.hid (keep_b hb HX0.out)
  have hsz : w.heap.size ≤ w1.heap.size := HB1.out.size
  clear hb hW0 k0 k1 k2 k3 k4 kf
  obtain ⟨k, kf⟩ := box_cellsJ HX1.out
  obtain ⟨k0, k1, k2, k3, k4⟩ := k
  rw [show strJ (wJ op) = (⟨#[]⟩ : ByteArray) from HW.out]
  go_wp2_with fail
  go_ret
  exact ⟨none, 0, by rw [HN.out]; rfl, by rw [HN.out]; exact OwnI.nil_ _ _ _, HB1.out⟩
theorem refNext14_any (x : Ji) (at_ : Int) (w : World) (hx : x.ok) : Calls Tryz.prog 102 #[x.val, .int .i64 at_] w (NextP x at_ w) := by
  obtain ⟨op, a, b, c, n⟩ := x
  by_cases h : op < 0 ∨ 12 < op
  · exact refNext_out op a b c n at_ w h
  · rcases op_cases (op := op) (by omega) (by omega) with rfl | rfl | rfl | rfl | rfl | rfl | rfl | rfl | rfl | rfl | rfl | rfl | rfl
    · exact refNext_0 a b c n at_ w hx
    · exact refNext_1 a b c n at_ w hx
    · exact refNext_2 a b c n at_ w hx
    · exact refNext_3 a b c n at_ w hx
    · exact refNext_4 a b c n at_ w hx
    · exact refNext_5 a b c n at_ w hx
    · exact refNext_6 a b c n at_ w hx
    · exact refNext_7 a b c n at_ w hx
    · exact refNext_8 a b c n at_ w hx
    · exact refNext_9 a b c n at_ w hx
    · exact refNext_10 a b c n at_ w hx
    · exact refNext_11 a b c n at_ w hx
    · exact refNext_12 a b c n at_ w hx
end Go.Proofs.YtgkngimeokhhgaaGreatDoor
/- Lists of marks: as they read, and in a block of the call's own. -/
namespace Go.Proofs.YtgkngimeokhhgaaGreatDoor
open Go.RowKit

set_option maxRecDepth 100000 in
theorem infoBo : (Tryz.prog.info? 4).map (fun i => (i.zero, i.size, i.bytes)) = some (some (.bool false), 1, 1) := by kernel_rfl
theorem run_makeBo {P : Program} (t e : TypeId) (i : TypeInfo) (ht : P.underlying t = some (.slice e)) (hi : P.info? e = some i) (hz : i.zero = some (.bool false)) (h1 : i.size = 1) (h2 : i.bytes = 1) (n : Nat) (hn : n ≤ 100000) (w : World) :
    (Instr.makeSlice t (.int .i64 (n : Int)) (.int .i64 (n : Int))).run P w = .ok (.slice (some ⟨w.heap.size, 0, none⟩) n n) (w.alloc (.cells (Array.replicate n (Value.bool false)) e)) := by
  have hr := run_make (P := P) w t e i (.bool false) ht hi hz .i64 .i64 n n (by omega) (by omega) (by rw [h2]; omega) (by omega)
  simp only [Int.toNat_natCast, h1, Nat.mul_one] at hr
  have he : (madeCells #[.bool false] n) = Array.replicate n (Value.bool false) := by
    apply Array.ext'
    rw [toList_madeCells_one]
    simp
  have hr2 : (Instr.makeSlice t (.int .i64 (n : Int)) (.int .i64 (n : Int))).run P w = .ok (.slice (some ⟨w.heap.size, 0, none⟩) n n) (w.alloc (.cells (madeCells #[.bool false] n) e)) := hr
  rw [he] at hr2
  exact hr2
/-- a block is a list of marks -/
def BoB (w : World) (g : Nat) (bs : List Bool) : Prop := w.heap[g]? = some (.cells (bs.map Value.bool).toArray 4 (0, 0))
theorem BoB.made (w : World) (n : Nat) : BoB (w.alloc (.cells (Array.replicate n (Value.bool false)) 4)) w.heap.size (List.replicate n false) := by
  unfold BoB
  rw [heap_alloc_new]
  simp
theorem BoB.at_ {w : World} {g i : Nat} {bs : List Bool} {v : Bool} (h : BoB w g bs) (hv : bs[i]? = some v) : w.cell? ⟨g, i, none⟩ = some (.bool v) ∧ w.frozen? ⟨g, i, none⟩ = false :=
  blk_cell h (by rw [List.getElem?_map, hv]; rfl)
theorem BoB.set {w : World} {g : Nat} {bs : List Bool} (h : BoB w g bs) (i : Nat) (v : Bool) : BoB (w.setCell ⟨g, i, none⟩ (.bool v)) g (bs.set i v) := by
  unfold BoB
  rw [List.map_set]
  exact set_j h _
theorem BoB.keep {w w' : World} {g : Nat} {bs : List Bool} (h : BoB w g bs) (hb : Below w.heap.size w w') : BoB w' g bs := keep_b hb h
/-- the header (A, n) leads to marks, in blocks below B -/
def Bools (w : World) (B : Nat) (A : Option Addr) (n : Nat) (bs : List Bool) : Prop :=
  bs.length = n ∧ (0 < n → ∃ b off, A = some ⟨b, off, none⟩ ∧ b < B ∧ ∀ (k : Nat) (v : Bool), bs[k]? = some v → w.cell? ⟨b, off + k, none⟩ = some (.bool v))
section
variable {w w' : World} {B B' n : Nat} {A : Option Addr} {bs : List Bool}
theorem Bools.nil_ : Bools w B A 0 [] := ⟨rfl, fun h => absurd h (by omega)⟩
theorem Bools.keep (h : Bools w B A n bs) (hk : ∀ p : Addr, p.block < B → w'.cell? p = w.cell? p) : Bools w' B A n bs :=
  ⟨h.1, fun h0 => by
    obtain ⟨b, off, e, hb, hc⟩ := h.2 h0
    exact ⟨b, off, e, hb, fun k v hv => (hk _ hb).trans (hc k v hv)⟩⟩
theorem Bools.more (h : Bools w B A n bs) (hB : B ≤ B') : Bools w B' A n bs :=
  ⟨h.1, fun h0 => by
    obtain ⟨b, off, e, hb, hc⟩ := h.2 h0
    exact ⟨b, off, e, by omega, hc⟩⟩
theorem Bools.on (h : Bools w w.heap.size A n bs) (hb : Below w.heap.size w w') : Bools w' w'.heap.size A n bs := (h.keep fun _ hp => hb.cell hp).more hb.size
theorem Bools.at_ (h : Bools w B A n bs) {k : Nat} (hk : k < n) : ∃ b off v, A = some ⟨b, off, none⟩ ∧ b < B ∧ Hid (bs[k]? = some v) ∧ w.cell? ⟨b, off + k, none⟩ = some (.bool v) := by
  obtain ⟨b, off, e, hb, hc⟩ := h.2 (by omega)
  have hv := List.getElem?_eq_getElem (l := bs) (i := k) (by rw [h.1]; exact hk)
  exact ⟨b, off, _, e, hb, hv, hc k _ hv⟩
theorem BoB.bools {g : Nat} (h : BoB w g bs) (hn : bs.length = n) : Bools w w.heap.size (some ⟨g, 0, none⟩) n bs :=
  ⟨hn, fun _ => ⟨g, 0, rfl, lt_of_heap h, fun k v hv => by rw [Nat.zero_add]; exact (h.at_ hv).1⟩⟩
end
/-- a number of a list of the call's own -/
theorem own_at15 {w : World} {base c k : Nat} {A : Option Addr} {xs : List Int} {x : Int} (h : OwnI w base 3 A c xs) (hx : xs[k]? = some x) : ∃ g, A = some ⟨g, 0, none⟩ ∧ w.cell? ⟨g, k, none⟩ = some (.int .i64 x) := by
  have hk := (List.getElem?_eq_some_iff.1 hx).1
  rcases h.1.2 with ⟨_, h0⟩ | ⟨g, cap, cur, h1, _⟩
  · omega
  · have hA : A = some ⟨g, 0, none⟩ := by injection h1
    have h2 := h
    rw [hA] at h2
    exact ⟨g, hA, (h2.cell_ hx).1⟩
end Go.Proofs.YtgkngimeokhhgaaGreatDoor
/- append onto a slice of the call's own: where the result lies (the slice's own block, or a new one), so that two slices may grow side by side. Nothing is claimed of the program here. -/
namespace Go.Proofs.YtgkngimeokhhgaaGreatDoor
open Go.RowKit

theorem OwnI.grownL {w w' : World} {base c : Nat} {e : TypeId} {A : Option Addr} {xs : List Int} {row : Option Nat} (h : OwnI w base e A c xs) (hg : w.grownBy w' row) (hr : ∀ g, A = some ⟨g, 0, none⟩ → some g ≠ row) : OwnI w' base e A c xs := by
  refine ⟨h.1.kept hg ?_, h.2⟩
  rcases h.1.2 with ⟨hv, _⟩ | ⟨g', cap, cur, hv, _⟩
  · rw [hv]; exact .inl rfl
  · right
    have hA : A = some ⟨g', 0, none⟩ := by injection hv
    subst hA
    exact hr g' rfl
theorem OwnI.ltL {w : World} {base c g : Nat} {e : TypeId} {xs : List Int} (h : OwnI w base e (some ⟨g, 0, none⟩) c xs) : base ≤ g ∧ g < w.heap.size := h.1.lt g rfl
theorem append_where {P : Program} (w : World) (base : Nat) (t ty e : TypeId) (i : TypeInfo) (ht : P.underlying t = some (.slice e)) (hi : P.info? e = some i) (hz : i.zero = some (.int .i64 0)) (h1 : i.size = 1) (h2 : i.bytes = 8)
    (A A2 : Option Addr) (c m c2 B : Nat) (xs ys : List Int) (ho : OwnI w base e A c xs) (hs : Ints w B A2 m ys) (hl : xs.length + m ≤ 1000000) {A' : Option Addr} {r c' : Nat} {w' : World}
    (hrun : (Builtin.append_ #[t, t] ty #[.slice A xs.length c, .slice A2 m c2]).run P w = .ok (.slice A' r c') w') : ∀ g, A' = some ⟨g, 0, none⟩ → A = some ⟨g, 0, none⟩ ∨ w.heap.size ≤ g := by
  intro g hg
  have hlen := hs.1
  rcases Option.eq_none_or_eq_some A2 with rfl | ⟨ad, rfl⟩
  · obtain rfl : m = 0 := by
      rcases Nat.eq_zero_or_pos m with h0 | h0
      · exact h0
      · obtain ⟨b, off, e', _⟩ := hs.2.2 h0; cases e'
    have hr := run_appendNil (P := P) w base t ty e i ht hi (.slice A xs.length c) xs.length (xs.map (Value.int .i64)) ho.1 c2
    rw [hr] at hrun
    injection hrun with hrun _
    injection hrun with hrun _ _
    left; rw [hrun]; exact hg
  · have hl2 : (ys.map (Value.int .i64)).length = m * i.size := by rw [List.length_map, hlen, h1, Nat.mul_one]
    have hc := hs.cells_
    rcases ho.1.2 with ⟨hv, hn0⟩ | ⟨g0, cap, cur, hv, hbg, hgg, hnc, hcm, hcs, htk⟩
    · injection hv with hA hn hcc
      subst hA
      subst hcc
      rw [hn] at hrun
      rcases Nat.eq_zero_or_pos m with rfl | hm
      · obtain ⟨v', w2, hr, _, _, hiff⟩ := run_append_own (P := P) w 0 t ty e i (.int .i64 0) 1 8 ht hi hz h1 h2 rfl (by decide) (.slice none 0 0) 0 [] (World.ownsRow_nil w 0 e 1) ad 0 c2 (ys.map (Value.int .i64)) (by rw [hl2, h1]) hc (ints_one ys) (by unfold maxLen; omega) (by omega) (Nat.zero_le _)
        rw [hr] at hrun
        injection hrun with hrun _
        rw [hiff.2 ⟨rfl, rfl⟩] at hrun
        injection hrun with hrun _ _
        rw [← hrun] at hg; cases hg
      · have hr := run_append_nil (P := P) w t ty e i (.int .i64 0) ht hi hz ad m c2 (ys.map (Value.int .i64)) hl2 hc hm (by omega) (by rw [h2]; omega)
        rw [hr] at hrun
        injection hrun with hrun _
        injection hrun with hrun _ _
        right
        rw [← hrun] at hg
        injection hg with hg; injection hg with hg; omega
    · injection hv with hA hn hcc
      subst hA
      subst hcc
      by_cases hroom : xs.length + m ≤ c
      · have hr := run_append_room (P := P) w t ty e i ht hi g0 xs.length c cur hgg ad m c2 (ys.map (Value.int .i64)) hl2 hc (ints_one ys) hroom (by rw [hl2, h1, hcs]; omega)
        rw [hr] at hrun
        injection hrun with hrun _
        injection hrun with hrun _ _
        left; rw [hrun]; exact hg
      · have hr := run_append_grow (P := P) w t ty e i (.int .i64 0) ht hi hz ⟨g0, 0, none⟩ xs.length c (xs.map (Value.int .i64)) (by rw [List.length_map, h1, Nat.mul_one]) (ho.1.cells (g := g0) rfl) ad m c2 (ys.map (Value.int .i64)) hl2 hc (by omega) (by omega) (growslice_fits (by omega) (by rw [h2]; omega))
        rw [hr] at hrun
        injection hrun with hrun _
        injection hrun with hrun _ _
        right
        rw [← hrun] at hg
        injection hg with hg; injection hg with hg; omega

/-- append of integers: the result, its block, what stands -/
theorem wpList_appendWhere {P : Program} (w : World) {ops : Array Oper} {rest : List Oper} {o : Oper} {a : Act} {Q : Exit → Act → World → Prop}
    (hg : o.guard = none) (s x : Operand) (t : TypeId) (hop : o.op = Op.call { callee := Callee.builtin Builtin.append, args := #[s, x], argTypes := #[t, t] })
    (base : Nat) (e : TypeId) (i : TypeInfo) (ht : P.underlying t = some (.slice e)) (hi : P.info? e = some i) (hz : i.zero = some (.int .i64 0)) (h1 : i.size = 1) (h2 : i.bytes = 8)
    (A A2 : Option Addr) (c m c2 B p r : Nat) (xs ys : List Int) (hs : a.eval s = .slice A p c) (hx : a.eval x = .slice A2 m c2) (ho : OwnI w base e A c xs) (hp : xs.length = p) (hr : p + m = r) (hi2 : Ints w B A2 m ys) (hl : r ≤ 1000000) (hb : base ≤ w.heap.size)
    (hK : ∀ A' c' w', OwnI w' base e A' c' (xs ++ ys) → w.grownBy w' (Value.slice A p c).ownBlock → (∀ g, A' = some ⟨g, 0, none⟩ → A = some ⟨g, 0, none⟩ ∨ w.heap.size ≤ g) → wpList P ops Q rest (a.put o.dst (.slice A' r c')) w') : wpList P ops Q (o :: rest) a w := by
  refine wpList_plain hg fun K hK' => ?_
  subst hp
  subst hr
  obtain ⟨A', c', w', hrun, ho', hb'⟩ := run_appendInts (P := P) w base t o.type e i ht hi hz h1 h2 A A2 c m c2 B xs ys ho hi2 hl hb
  have hw := append_where (P := P) w base t o.type e i ht hi hz h1 h2 A A2 c m c2 B xs ys ho hi2 hl hrun
  unfold Oper.wp
  simp [execOp, hop, resolve, invoke, builtin, hs, hx, hrun, Result.andThen]
  exact hK' _ _ (hK _ _ _ ho' hb' hw)
end Go.Proofs.YtgkngimeokhhgaaGreatDoor
