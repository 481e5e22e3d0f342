/- purflelaw14.CodeBack returns true. -/
import Derived.Test.YtbmcddolfofmdaaDoorG16
import Derived.Test.YtbmcddolfofmdaaDoorG18
namespace Go.Proofs.YtbmcddolfofmdaaDoor
open Go.RowKit

theorem codeText_few (q : Cq) (w : World) (hq : q.In w) (hS : ShT w) (hT : TabT w) (hn : q.cd.l.length ≤ 300) {T : ByteArray} {E : Int} (h : textF q.cd = (T, E)) :
    Calls Tryd.prog 13 #[q.val] w fun e w' => e = .returned (.tuple #[.string T, .int .i64 E]) ∧ Below w.heap.size w w' := by
  have hP := codeText_any q w hq hS hT (fun _ => by have := progT_len q.cd; omega)
  unfold TextP at hP
  rw [h] at hP
  exact hP
theorem joined_len {L : List Tk} {T : ByteArray} (h : joinF L = (T, 0)) : L.length ≤ 4096 := by
  unfold joinF at h
  split at h
  · injection h with _ h; cases h
  · split at h
    · injection h with _ h; cases h
    · split at h
      · injection h with _ h; cases h
      · omega
theorem codeText_ok (q : Cq) (w : World) (hq : q.In w) (hS : ShT w) (hT : TabT w) {T : ByteArray} (h : textF q.cd = (T, 0)) :
    Calls Tryd.prog 13 #[q.val] w fun e w' => e = .returned (.tuple #[.string T, .int .i64 0]) ∧ Below w.heap.size w w' := by
  have hP := codeText_any q w hq hS hT (fun hm => by
    have h2 := h
    unfold textF at h2
    rw [if_pos hm] at h2
    have := joined_len h2
    omega)
  unfold TextP at hP
  rw [h] at hP
  exact hP
set_option maxRecDepth 100000 in
set_option maxHeartbeats 8000000 in
theorem codeBack_any (w : World) (q : Cq) (hq : q.In w) (s : ByteArray) (hs : s.size ≤ maxLen) (hSh : ShT w) (hTb : TabT w) : Calls Tryd.prog 4 #[q.val, .string s] w fun r w' => r = .returned (.bool true) ∧ Below w.heap.size w w' := by
  obtain ⟨R, A, I, P, n, c, l⟩ := q
  have HQ := Lib.hid hq
  have HSh := Lib.hid hSh
  have HTb := Lib.hid hTb
  have hn1 : n ≤ 9223372036854775807 := hq.n1
  have HLN : Hid (l.length = n) := hq.len
  have HS := Lib.hid hs
  have hs1 : s.size ≤ 9223372036854775807 := by unfold maxLen at hs; omega
  obtain ⟨W0, hW0⟩ : ∃ W, w.alloc (Cq.obj ⟨R, A, I, P, n, c, l⟩) = W := ⟨_, rfl⟩
  have HB0 : Hid (Below w.heap.size w W0) := by rw [← hW0]; exact lvBelow w _
  have HX0 : Hid (W0.heap[w.heap.size]? = some (Cq.obj ⟨R, A, I, P, n, c, l⟩)) := by rw [← hW0]; exact heap_alloc_new w _
  clear hq hs hSh hTb
  by_cases hf : n ≤ 300
  case neg =>
    have d0 : decide (n ≤ 300) = false := decide_eq_false hf
    go_enter Tryd.func4, Tryd.ntmps4
    go_wp2_with fail
    try rw [hW0]
    refine (live14_any W0 (HSh.out.on HB0.out)).mono ?_
    rintro e w1 ⟨rfl, hb⟩
    have HB1 := Lib.hid (HB0.out.trans (hb.mono HB0.out.size))
    have HX1 := Lib.hid (keep_b hb HX0.out)
    clear hb hW0
    obtain ⟨m0, m1, m2, m3, _⟩ := lvCells HX1.out
    go_wp2_with fail
    refine (refFew14_any ⟨R, A, I, P, n, c, l⟩ w1 (HQ.out.on HB1.out)).mono ?_
    rintro e w2 ⟨rfl, hb⟩
    have HB2 := Lib.hid (HB1.out.trans (hb.mono HB1.out.size))
    have HX2 := Lib.hid (keep_b hb HX1.out)
    clear hb m0 m1 m2 m3
    dsimp only
    rw [d0]
    go_wp2_with fail
    go_ret
    exact ⟨rfl, HB2.out⟩
  have d0 : decide (n ≤ 300) = true := decide_eq_true hf
  by_cases hz : s.size ≤ 20000
  case neg =>
    have d1 : decide ((20000 : Int) < (s.size : Int)) = true := by simp; omega
    have d2 : decide (20000 < s.size) = true := decide_eq_true (by omega)
    go_enter Tryd.func4, Tryd.ntmps4
    go_wp2_with fail
    try rw [hW0]
    refine (live14_any W0 (HSh.out.on HB0.out)).mono ?_
    rintro e w1 ⟨rfl, hb⟩
    have HB1 := Lib.hid (HB0.out.trans (hb.mono HB0.out.size))
    have HX1 := Lib.hid (keep_b hb HX0.out)
    clear hb hW0
    obtain ⟨m0, m1, m2, m3, _⟩ := lvCells HX1.out
    go_wp2_with fail
    refine (refFew14_any ⟨R, A, I, P, n, c, l⟩ w1 (HQ.out.on HB1.out)).mono ?_
    rintro e w2 ⟨rfl, hb⟩
    have HB2 := Lib.hid (HB1.out.trans (hb.mono HB1.out.size))
    have HX2 := Lib.hid (keep_b hb HX1.out)
    clear hb m0 m1 m2 m3
    dsimp only
    rw [d0]
    go_wp2_with fail
    go_ret
    exact ⟨rfl, HB2.out⟩
  have d1 : decide ((20000 : Int) < (s.size : Int)) = false := by simp; omega
  have d2 : decide (20000 < s.size) = false := decide_eq_false (by omega)
  have HSZ := Lib.hid hz
  obtain ⟨⟨T, E⟩, hT⟩ : ∃ r, textF (Cq.cd ⟨R, A, I, P, n, c, l⟩) = r := ⟨_, rfl⟩
  have HT := Lib.hid hT
  go_enter Tryd.func4, Tryd.ntmps4
  go_wp2_with fail
  try rw [hW0]
  refine (live14_any W0 (HSh.out.on HB0.out)).mono ?_
  rintro e w1 ⟨rfl, hb⟩
  have HB1 := Lib.hid (HB0.out.trans (hb.mono HB0.out.size))
  have HX1 := Lib.hid (keep_b hb HX0.out)
  clear hb hW0
  obtain ⟨m0, m1, m2, m3, _⟩ := lvCells HX1.out
  go_wp2_with fail
  refine (refFew14_any ⟨R, A, I, P, n, c, l⟩ w1 (HQ.out.on HB1.out)).mono ?_
  rintro e w2 ⟨rfl, hb⟩
  have HB2 := Lib.hid (HB1.out.trans (hb.mono HB1.out.size))
  have HX2 := Lib.hid (keep_b hb HX1.out)
  clear hb m0 m1 m2 m3
  dsimp only
  rw [d0]
  have hC := codeText_few ⟨R, A, I, P, n, c, l⟩ w2 (HQ.out.on HB2.out) (HSh.out.on HB2.out) (HTb.out.on HB2.out) (by rw [show (Cq.cd ⟨R, A, I, P, n, c, l⟩).l = l from rfl, HLN.out]; exact hf) HT.out
  clear hT
  obtain ⟨m0, m1, m2, m3, _⟩ := lvCells HX2.out
  go_wp2_with fail
  refine hC.mono ?_
  rintro e w3 ⟨rfl, hb⟩
  have HB3 := Lib.hid (HB2.out.trans (hb.mono HB2.out.size))
  have HX3 := Lib.hid (keep_b hb HX2.out)
  clear hb m0 m1 m2 m3 hC
  by_cases hE0 : E = 0
  case neg =>
    have e0 : (E == 0) = false := by simpa using hE0
    clear hE0
    obtain ⟨wk, rfl⟩ : ∃ wk : World, wk = w3 := ⟨_, rfl⟩
    have HBk := HB3
    have HXk := HX3
    obtain ⟨⟨D, N, E2⟩, hP⟩ : ∃ r, parseF (bl s) = r := ⟨_, rfl⟩
    have hC2 := codeParse_c s wk HS.out (HSh.out.on HBk.out) hP
    have HP := Lib.hid hP
    clear hP
    go_wp2_with fail
    refine hC2.mono ?_
    rintro e w5 ⟨A5, c5, rfl, hO5, hb⟩
    have HO5 := Lib.hid hO5
    have HB5 := Lib.hid (HBk.out.trans (hb.mono HBk.out.size))
    have HX5 := Lib.hid (keep_b hb HXk.out)
    clear hb hO5 hC2
    have HF := Lib.hid (four_cells HX5.out (.int .i64 D.R) (.int .i64 D.A) (.int .i64 D.I) (.slice A5 D.l.length c5))
    have hbs := (((HB5.out.setCell (p := ⟨w.heap.size, 0, none⟩) (Nat.le_refl _) (.int .i64 D.R)).setCell (p := ⟨w.heap.size, 1, none⟩) (Nat.le_refl _) (.int .i64 D.A)).setCell (p := ⟨w.heap.size, 2, none⟩) (Nat.le_refl _) (.int .i64 D.I)).setCell (p := ⟨w.heap.size, 3, none⟩) (Nat.le_refl _) (.slice A5 D.l.length c5)
    have g1 := set_j (i := 0) (cs := [.int .i64 R, .int .i64 A, .int .i64 I, .slice P n c]) HX5.out (.int .i64 D.R)
    have g2 := set_j (i := 1) (cs := [.int .i64 D.R, .int .i64 A, .int .i64 I, .slice P n c]) g1 (.int .i64 D.A)
    have g3 := set_j (i := 2) (cs := [.int .i64 D.R, .int .i64 D.A, .int .i64 I, .slice P n c]) g2 (.int .i64 D.I)
    have hO6 := (((HO5.out.set_other HX5.out (by decide) 0 (.int .i64 D.R)).set_other g1 (by decide) 1 (.int .i64 D.A)).set_other g2 (by decide) 2 (.int .i64 D.I)).set_other g3 (by decide) 3 (.slice A5 D.l.length c5)
    obtain ⟨W6, hW6⟩ : ∃ W, (((w5.setCell ⟨w.heap.size, 0, none⟩ (.int .i64 D.R)).setCell ⟨w.heap.size, 1, none⟩ (.int .i64 D.A)).setCell ⟨w.heap.size, 2, none⟩ (.int .i64 D.I)).setCell ⟨w.heap.size, 3, none⟩ (.slice A5 D.l.length c5) = W := ⟨_, rfl⟩
    rw [hW6] at hbs hO6 HF
    have HB6 := Lib.hid hbs
    have HO6 := Lib.hid hO6
    obtain ⟨m0, m1, m2, m3, mf0, mf1, mf2, mf3⟩ := lvCells HX5.out
    have HW6 := Lib.hid hW6
    clear g1 g2 g3 hbs hO6 hW6
    go_upto_region 10 with fail
    try rw [HW6.out]
    clear m0 m1 m2 m3 mf0 mf1 mf2 mf3
    by_cases hE2 : E2 = 0
    case neg =>
      have e2 : (E2 != 0) = true := by simpa using hE2
      obtain rfl : D = noCd := parse_err HP.out hE2
      obtain ⟨m0, m1, m2, m3, _⟩ := lvCells HF.out
      have hz : (noCd.l.length) = 0 := rfl
      clear hE2
      rw [hz] at m3
      go_wp2_with fail
      go_ret
      exact ⟨rfl, HB6.out⟩
    subst hE2
    obtain ⟨hm, T2, hT2, hs2, hp2⟩ := parse_back HP.out HSZ.out
    have HM2 := Lib.hid hm
    have HP2 := Lib.hid hp2
    have HQ6 : Hid (Cq.In ⟨D.R, D.A, D.I, A5, D.l.length, c5, D.l⟩ W6) := HO6.out.cq hm
    have hC3 := codeText_ok ⟨D.R, D.A, D.I, A5, D.l.length, c5, D.l⟩ W6 HQ6.out (HSh.out.on HB6.out) (HTb.out.on HB6.out) hT2
    have HS2 : Hid (T2.size ≤ maxLen) := by unfold Hid maxLen; omega
    clear hT2 hs2 hp2 hm
    obtain ⟨m0, m1, m2, m3, _⟩ := lvCells HF.out
    go_wp2_with fail
    refine hC3.mono ?_
    rintro e w7 ⟨rfl, hb⟩
    have HB7 := Lib.hid (HB6.out.trans (hb.mono HB6.out.size))
    have HX7 := Lib.hid (keep_b hb HF.out)
    have HQ7 := Lib.hid (HQ6.out.on hb)
    clear hb m0 m1 m2 m3 hC3
    go_wp2_with fail
    refine (codeParse_c T2 w7 HS2.out (HSh.out.on HB7.out) HP2.out).mono ?_
    rintro e w8 ⟨A8, c8, rfl, hO8, hb⟩
    have HB8 := Lib.hid (HB7.out.trans (hb.mono HB7.out.size))
    have HX8 := Lib.hid (keep_b hb HX7.out)
    have HQ8 := Lib.hid (HQ7.out.on hb)
    obtain ⟨W9, hW9⟩ : ∃ W, w8.alloc (.cells #[.int .i64 D.R, .int .i64 D.A, .int .i64 D.I, .slice A8 D.l.length c8] 25) = W := ⟨_, rfl⟩
    obtain ⟨g8, hg8⟩ : ∃ g, w8.heap.size = g := ⟨_, rfl⟩
    have hb9 : Below w8.heap.size w8 W9 := by rw [← hW9]; exact lvBelow _ _
    have HY9 : Hid (W9.heap[g8]? = some (.cells #[.int .i64 D.R, .int .i64 D.A, .int .i64 D.I, .slice A8 D.l.length c8] 25 (0, 0))) := by rw [← hW9, ← hg8]; exact heap_alloc_new _ _
    have HB9 := Lib.hid (HB8.out.trans (hb9.mono HB8.out.size))
    have HX9 := Lib.hid (keep_b hb9 HX8.out)
    have HQ9 := Lib.hid (HQ8.out.on hb9)
    have HZ9 : Hid (Cq.In ⟨D.R, D.A, D.I, A8, D.l.length, c8, D.l⟩ W9) := (hO8.below hb9 (Nat.le_refl _)).cq HM2.out
    have HW9 := Lib.hid hW9
    clear hb hO8 hb9 hW9
    go_upto_region 14 with fail
    try rw [HW9.out]
    try rw [hg8]
    clear hg8
    obtain ⟨m0, m1, m2, m3, _⟩ := lvCells HX9.out
    obtain ⟨z0, z1, z2, z3, _⟩ := lvCells HY9.out
    go_wp2_with fail
    refine (codeSame_yes ⟨D.R, D.A, D.I, A5, D.l.length, c5, D.l⟩ ⟨D.R, D.A, D.I, A8, D.l.length, c8, D.l⟩ W9 HQ9.out HZ9.out rfl).mono ?_
    rintro e wE ⟨rfl, hb⟩
    have HBE := Lib.hid (HB9.out.trans (hb.mono HB9.out.size))
    clear hb
    go_wp2_with fail
    go_ret
    exact ⟨rfl, HBE.out⟩
  subst hE0
  obtain ⟨hm, hs3, hp3⟩ := text_back HT.out (by rw [show (Cq.cd ⟨R, A, I, P, n, c, l⟩).l = l from rfl, HLN.out]; exact hf)
  rw [show (Cq.cd ⟨R, A, I, P, n, c, l⟩).l = l from rfl, HLN.out] at hp3
  have HM := Lib.hid hm
  have HP3 := Lib.hid hp3
  have HS3 : Hid (T.size ≤ maxLen) := by unfold Hid maxLen; omega
  clear hm hs3 hp3
  go_wp2_with fail
  refine (codeParse_c T w3 HS3.out (HSh.out.on HB3.out) HP3.out).mono ?_
  rintro e w4 ⟨A4, c4, rfl, hO4, hb⟩
  have HB4 := Lib.hid (HB3.out.trans (hb.mono HB3.out.size))
  have HX4 := Lib.hid (keep_b hb HX3.out)
  rw [show (Cq.cd ⟨R, A, I, P, n, c, l⟩).l.length = n from HLN.out]
  dsimp only [Cq.cd]
  obtain ⟨V4, hV4⟩ : ∃ W, w4.alloc (.cells #[.int .i64 R, .int .i64 A, .int .i64 I, .slice A4 n c4] 25) = W := ⟨_, rfl⟩
  obtain ⟨g4, hg4⟩ : ∃ g, w4.heap.size = g := ⟨_, rfl⟩
  have hb5 : Below w4.heap.size w4 V4 := by rw [← hV4]; exact lvBelow _ _
  have HY5 : Hid (V4.heap[g4]? = some (.cells #[.int .i64 R, .int .i64 A, .int .i64 I, .slice A4 n c4] 25 (0, 0))) := by rw [← hV4, ← hg4]; exact heap_alloc_new _ _
  have HB5 := Lib.hid (HB4.out.trans (hb5.mono HB4.out.size))
  have HX5 := Lib.hid (keep_b hb5 HX4.out)
  have HZ5 : Hid (Cq.In ⟨R, A, I, A4, n, c4, l⟩ V4) := by
    have h := (hO4.below hb5 (Nat.le_refl _)).cq HM.out
    rw [show (Cq.cd ⟨R, A, I, P, n, c, l⟩).l.length = n from HLN.out] at h
    exact h
  have HV4 := Lib.hid hV4
  clear hb hO4 hb5 hV4
  go_upto_region 7 with fail
  try rw [HV4.out]
  try rw [hg4]
  clear hg4
  obtain ⟨m0, m1, m2, m3, _⟩ := lvCells HX5.out
  obtain ⟨z0, z1, z2, z3, _⟩ := lvCells HY5.out
  have hn2 : (((n + 1 : Nat) : Int) != (n : Int) + 1) = false := by simp
  go_wp2_with fail
  refine (codeSame_yes ⟨R, A, I, P, n, c, l⟩ ⟨R, A, I, A4, n, c4, l⟩ V4 (HQ.out.on HB5.out) HZ5.out rfl).mono ?_
  rintro e wk ⟨rfl, hb⟩
  have HBk := Lib.hid (HB5.out.trans (hb.mono HB5.out.size))
  have HXk := Lib.hid (keep_b hb HX5.out)
  clear hb m0 m1 m2 m3 z0 z1 z2 z3 hn2
  obtain ⟨⟨D, N, E2⟩, hP⟩ : ∃ r, parseF (bl s) = r := ⟨_, rfl⟩
  have hC2 := codeParse_c s wk HS.out (HSh.out.on HBk.out) hP
  have HP := Lib.hid hP
  clear hP
  go_wp2_with fail
  refine hC2.mono ?_
  rintro e w5 ⟨A5, c5, rfl, hO5, hb⟩
  have HO5 := Lib.hid hO5
  have HB5 := Lib.hid (HBk.out.trans (hb.mono HBk.out.size))
  have HX5 := Lib.hid (keep_b hb HXk.out)
  clear hb hO5 hC2
  have HF := Lib.hid (four_cells HX5.out (.int .i64 D.R) (.int .i64 D.A) (.int .i64 D.I) (.slice A5 D.l.length c5))
  have hbs := (((HB5.out.setCell (p := ⟨w.heap.size, 0, none⟩) (Nat.le_refl _) (.int .i64 D.R)).setCell (p := ⟨w.heap.size, 1, none⟩) (Nat.le_refl _) (.int .i64 D.A)).setCell (p := ⟨w.heap.size, 2, none⟩) (Nat.le_refl _) (.int .i64 D.I)).setCell (p := ⟨w.heap.size, 3, none⟩) (Nat.le_refl _) (.slice A5 D.l.length c5)
  have g1 := set_j (i := 0) (cs := [.int .i64 R, .int .i64 A, .int .i64 I, .slice P n c]) HX5.out (.int .i64 D.R)
  have g2 := set_j (i := 1) (cs := [.int .i64 D.R, .int .i64 A, .int .i64 I, .slice P n c]) g1 (.int .i64 D.A)
  have g3 := set_j (i := 2) (cs := [.int .i64 D.R, .int .i64 D.A, .int .i64 I, .slice P n c]) g2 (.int .i64 D.I)
  have hO6 := (((HO5.out.set_other HX5.out (by decide) 0 (.int .i64 D.R)).set_other g1 (by decide) 1 (.int .i64 D.A)).set_other g2 (by decide) 2 (.int .i64 D.I)).set_other g3 (by decide) 3 (.slice A5 D.l.length c5)
  obtain ⟨W6, hW6⟩ : ∃ W, (((w5.setCell ⟨w.heap.size, 0, none⟩ (.int .i64 D.R)).setCell ⟨w.heap.size, 1, none⟩ (.int .i64 D.A)).setCell ⟨w.heap.size, 2, none⟩ (.int .i64 D.I)).setCell ⟨w.heap.size, 3, none⟩ (.slice A5 D.l.length c5) = W := ⟨_, rfl⟩
  rw [hW6] at hbs hO6 HF
  have HB6 := Lib.hid hbs
  have HO6 := Lib.hid hO6
  obtain ⟨m0, m1, m2, m3, mf0, mf1, mf2, mf3⟩ := lvCells HX5.out
  have HW6 := Lib.hid hW6
  clear g1 g2 g3 hbs hO6 hW6
  go_upto_region 10 with fail
  try rw [HW6.out]
  clear m0 m1 m2 m3 mf0 mf1 mf2 mf3
  by_cases hE2 : E2 = 0
  case neg =>
    have e2 : (E2 != 0) = true := by simpa using hE2
    obtain rfl : D = noCd := parse_err HP.out hE2
    obtain ⟨m0, m1, m2, m3, _⟩ := lvCells HF.out
    have hz : (noCd.l.length) = 0 := rfl
    clear hE2
    rw [hz] at m3
    go_wp2_with fail
    go_ret
    exact ⟨rfl, HB6.out⟩
  subst hE2
  obtain ⟨hm, T2, hT2, hs2, hp2⟩ := parse_back HP.out HSZ.out
  have HM2 := Lib.hid hm
  have HP2 := Lib.hid hp2
  have HQ6 : Hid (Cq.In ⟨D.R, D.A, D.I, A5, D.l.length, c5, D.l⟩ W6) := HO6.out.cq hm
  have hC3 := codeText_ok ⟨D.R, D.A, D.I, A5, D.l.length, c5, D.l⟩ W6 HQ6.out (HSh.out.on HB6.out) (HTb.out.on HB6.out) hT2
  have HS2 : Hid (T2.size ≤ maxLen) := by unfold Hid maxLen; omega
  clear hT2 hs2 hp2 hm
  obtain ⟨m0, m1, m2, m3, _⟩ := lvCells HF.out
  go_wp2_with fail
  refine hC3.mono ?_
  rintro e w7 ⟨rfl, hb⟩
  have HB7 := Lib.hid (HB6.out.trans (hb.mono HB6.out.size))
  have HX7 := Lib.hid (keep_b hb HF.out)
  have HQ7 := Lib.hid (HQ6.out.on hb)
  clear hb m0 m1 m2 m3 hC3
  go_wp2_with fail
  refine (codeParse_c T2 w7 HS2.out (HSh.out.on HB7.out) HP2.out).mono ?_
  rintro e w8 ⟨A8, c8, rfl, hO8, hb⟩
  have HB8 := Lib.hid (HB7.out.trans (hb.mono HB7.out.size))
  have HX8 := Lib.hid (keep_b hb HX7.out)
  have HQ8 := Lib.hid (HQ7.out.on hb)
  obtain ⟨W9, hW9⟩ : ∃ W, w8.alloc (.cells #[.int .i64 D.R, .int .i64 D.A, .int .i64 D.I, .slice A8 D.l.length c8] 25) = W := ⟨_, rfl⟩
  obtain ⟨g8, hg8⟩ : ∃ g, w8.heap.size = g := ⟨_, rfl⟩
  have hb9 : Below w8.heap.size w8 W9 := by rw [← hW9]; exact lvBelow _ _
  have HY9 : Hid (W9.heap[g8]? = some (.cells #[.int .i64 D.R, .int .i64 D.A, .int .i64 D.I, .slice A8 D.l.length c8] 25 (0, 0))) := by rw [← hW9, ← hg8]; exact heap_alloc_new _ _
  have HB9 := Lib.hid (HB8.out.trans (hb9.mono HB8.out.size))
  have HX9 := Lib.hid (keep_b hb9 HX8.out)
  have HQ9 := Lib.hid (HQ8.out.on hb9)
  have HZ9 : Hid (Cq.In ⟨D.R, D.A, D.I, A8, D.l.length, c8, D.l⟩ W9) := (hO8.below hb9 (Nat.le_refl _)).cq HM2.out
  have HW9 := Lib.hid hW9
  clear hb hO8 hb9 hW9
  go_upto_region 14 with fail
  try rw [HW9.out]
  try rw [hg8]
  clear hg8
  obtain ⟨m0, m1, m2, m3, _⟩ := lvCells HX9.out
  obtain ⟨z0, z1, z2, z3, _⟩ := lvCells HY9.out
  go_wp2_with fail
  refine (codeSame_yes ⟨D.R, D.A, D.I, A5, D.l.length, c5, D.l⟩ ⟨D.R, D.A, D.I, A8, D.l.length, c8, D.l⟩ W9 HQ9.out HZ9.out rfl).mono ?_
  rintro e wE ⟨rfl, hb⟩
  have HBE := Lib.hid (HB9.out.trans (hb.mono HB9.out.size))
  clear hb
  go_wp2_with fail
  go_ret
  exact ⟨rfl, HBE.out⟩
end Go.Proofs.YtbmcddolfofmdaaDoor
