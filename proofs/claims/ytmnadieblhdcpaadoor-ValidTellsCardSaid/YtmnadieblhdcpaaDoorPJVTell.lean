/- purflelaw15.ValidTells returns true. -/
import Derived.Test.YtmnadieblhdcpaaDoorG27
import Derived.Test.YtmnadieblhdcpaaDoorG21
import Derived.Test.YtmnadieblhdcpaaDoorG10
import Derived.Test.YtmnadieblhdcpaaDoorG19
namespace Go.Proofs.YtmnadieblhdcpaaDoor
open Go.RowKit

theorem may_okJ {c : Cd} (hm : c.may = true) : ∀ x ∈ c.l, x.ok := by
  obtain ⟨⟨r0, r1, a0, a1, i0, i1, n0, n1⟩, h2, _⟩ := Cd.may_parts hm
  intro x hx
  obtain ⟨m0, m1, m3, m4⟩ := mayJ_parts (h2 x hx)
  have lim : ∀ k, limJ c.R c.A c.l.length k ≤ 5000 := by
    intro k
    unfold limJ
    repeat' split
    all_goals omega
  have j0 := m1 0 (by omega)
  have j1 := m1 1 (by omega)
  have j2 := m1 2 (by omega)
  have l0 := lim ((kJ x.op).getD 0 32)
  have l1 := lim ((kJ x.op).getD 1 32)
  have l2 := lim ((kJ x.op).getD 2 32)
  unfold InB at j0 j1 j2
  have e0 : x.f.getD 0 0 = x.a := rfl
  have e1 : x.f.getD 1 0 = x.b := rfl
  have e2 : x.f.getD 2 0 = x.c := rfl
  rw [e0] at j0
  rw [e1] at j1
  rw [e2] at j2
  have hn : -1000000000000000000 < x.n ∧ x.n < 1000000000000000000 := by
    by_cases hk : (110 : UInt8) ∈ kJ x.op
    · exact m3 hk
    · rw [m4 hk]; decide
  exact ⟨⟨by omega, by omega⟩, ⟨by omega, by omega⟩, ⟨by omega, by omega⟩, ⟨by omega, by omega⟩, ⟨by omega, by omega⟩⟩
theorem same15_eq (a b : Cq) (w : World) (ha : a.In w) (hb : b.In w) (h : a.cd = b.cd) :
    Calls Tryd.prog 25 #[a.val, b.val] w fun e w' => e = .returned (.bool true) ∧ Below w.heap.size w w' := by
  have hP := refSame14_any a b w ha hb
  unfold SameP at hP
  rw [h, sameB_refl] at hP
  exact hP
theorem reachC_len (c : Cd) : (reachC c).length ≤ c.l.length := by
  unfold reachC; split
  · rw [reachB_len]; exact Nat.le_refl _
  · exact Nat.zero_le _
theorem setC_len (c : Cd) : (setC c).length ≤ c.l.length := by
  unfold setC; split
  · rw [setsN_len]; exact Nat.le_refl _
  · exact Nat.zero_le _
theorem setC_few (c : Cd) : ∀ L ∈ setC c, L.length ≤ 100000 := by
  unfold setC
  split
  · rename_i hm
    intro L hL
    obtain ⟨i, hi⟩ := List.getElem?_of_mem hL
    rw [setsN_at hi]
    have h1 := setN_len c i
    obtain ⟨⟨_, hR1, _⟩, _⟩ := Cd.may_parts hm
    omega
  · intro L hL; cases hL
theorem unsetC_len (c : Cd) : (unsetC c).length ≤ c.l.length := by
  unfold unsetC; split
  · rw [List.length_map]
    unfold unsetN
    exact Nat.le_trans (List.length_filter_le _ _) (by rw [List.length_range]; exact Nat.le_refl _)
  · exact Nat.zero_le _
theorem loopsC_len (c : Cd) : (loopsC c).length ≤ c.l.length := by
  unfold loopsC; split
  · rw [loops_fl]
    exact Nat.le_trans (flN_len _ _) (Nat.le_refl _)
  · exact Nat.zero_le _
theorem trimC_yes {c : Cd} {k : Nat} (h : k < (trimC c).l.length) : c.e = 0 ∧ (trimC c).l.length ≤ 4096 := by
  unfold trimC at h ⊢
  cases hm : c.may with
  | false => rw [hm] at h; exact absurd h (Nat.not_lt_zero _)
  | true =>
    refine ⟨Cd.e_yes hm, ?_⟩
    obtain ⟨⟨_, _, _, _, _, _, _, h1⟩, _⟩ := Cd.may_parts (trim_may hm)
    exact h1
theorem trimC_ok {c : Cd} : ∀ x ∈ (trimC c).l, x.ok := by
  unfold trimC
  cases hm : c.may with
  | false => intro x hx; cases hx
  | true =>
    intro x hx
    exact may_okJ (trim_may hm) x (by simpa using hx)
set_option maxRecDepth 100000 in
set_option maxHeartbeats 16000000 in
theorem validTells_any (w : World) (q : Cq) (hq : q.In w) (hSh : ShT w) : Calls Tryd.prog 3 #[q.val] w fun r w' => r = .returned (.bool true) ∧ Below w.heap.size w w' := by
  obtain ⟨R, A, I, P, n, c, l⟩ := q
  have HQ := Lib.hid hq
  have HSh := Lib.hid hSh
  have HLN : Hid (l.length = n) := hq.len
  have hn1 : n ≤ 9223372036854775807 := hq.n1
  obtain ⟨W0, hW0⟩ : ∃ W, w.alloc (Cq.obj ⟨R, A, I, P, n, c, l⟩) = W := ⟨_, rfl⟩
  have HB0 : Hid (Below w.heap.size w W0) := by rw [← hW0]; exact lvBelow w _
  have HX0 : Hid (W0.heap[w.heap.size]? = some (Cq.obj ⟨R, A, I, P, n, c, l⟩)) := by rw [← hW0]; exact heap_alloc_new w _
  clear hq hSh
  by_cases hf : n ≤ 300
  case neg =>
    have d0 : decide (n ≤ 300) = false := decide_eq_false hf
    go_enter Tryd.func3, Tryd.ntmps3
    go_wp2_with fail
    try rw [hW0]
    refine (live15_any W0 (HSh.out.on HB0.out)).mono ?_
    rintro e w1 ⟨rfl, hb⟩
    have HB1 := Lib.hid (HB0.out.trans (hb.mono HB0.out.size))
    have HX1 := Lib.hid (keep_b hb HX0.out)
    clear hb hW0
    obtain ⟨m0, m1, m2, m3, _⟩ := lvCells HX1.out
    go_wp2_with fail
    refine (refFew14_any ⟨R, A, I, P, n, c, l⟩ w1 (HQ.out.on HB1.out)).mono ?_
    rintro e w2 ⟨rfl, hb⟩
    have HB2 := Lib.hid (HB1.out.trans (hb.mono HB1.out.size))
    have HX2 := Lib.hid (keep_b hb HX1.out)
    clear hb m0 m1 m2 m3
    dsimp only
    rw [d0]
    go_wp2_with fail
    go_ret
    exact ⟨rfl, HB2.out⟩
  have d0 : decide (n ≤ 300) = true := decide_eq_true hf
  go_enter Tryd.func3, Tryd.ntmps3
  go_wp2_with fail
  try rw [hW0]
  refine (live15_any W0 (HSh.out.on HB0.out)).mono ?_
  rintro e w1 ⟨rfl, hb⟩
  have HB1 := Lib.hid (HB0.out.trans (hb.mono HB0.out.size))
  have HX1 := Lib.hid (keep_b hb HX0.out)
  clear hb hW0
  obtain ⟨m0, m1, m2, m3, _⟩ := lvCells HX1.out
  go_wp2_with fail
  refine (refFew14_any ⟨R, A, I, P, n, c, l⟩ w1 (HQ.out.on HB1.out)).mono ?_
  rintro e w2 ⟨rfl, hb⟩
  have HB2 := Lib.hid (HB1.out.trans (hb.mono HB1.out.size))
  have HX2 := Lib.hid (keep_b hb HX1.out)
  clear hb m0 m1 m2 m3
  dsimp only
  rw [d0]
  obtain ⟨cd, hcd⟩ : ∃ cd, Cq.cd ⟨R, A, I, P, n, c, l⟩ = cd := ⟨_, rfl⟩
  have HCL : Hid (cd.l.length = n) := by rw [← hcd]; exact HLN
  have HCD := Lib.hid hcd
  clear hcd
  obtain ⟨E, hE⟩ : ∃ E, cd.e = E := ⟨_, rfl⟩
  obtain ⟨T, hT⟩ : ∃ T, trimC cd = T := ⟨_, rfl⟩
  obtain ⟨tn, htn⟩ : ∃ z, T.l.length = z := ⟨_, rfl⟩
  have HE := Lib.hid hE
  have HT := Lib.hid hT
  have HTN := Lib.hid htn
  have HTY : Hid (∀ k, k < tn → E = 0 ∧ tn ≤ 4096) := fun k hk => by
    rw [← htn, ← hT] at hk
    have h := trimC_yes hk
    rw [hE, hT, htn] at h
    exact h
  have HTK : Hid (∀ x ∈ T.l, x.ok) := by rw [← hT]; exact Lib.hid trimC_ok
  clear hE hT htn
  have hQ2 := HQ.out.on HB2.out
  obtain ⟨m0, m1, m2, m3, _⟩ := lvCells HX2.out
  go_upto_region 5 with (at_builtin; refine wpList_appendJs rfl (.const (.slice none 0 0)) (.tmp 32) rfl w2.heap.size none P 0 n c w2.heap.size 0 n [] l rfl rfl (OwnJ.nil_ _ _) rfl (Nat.zero_add n) hQ2.ins (by omega) (Nat.le_refl _) ?_; intro A4 c4 w4 hO4 hG4)
  rw [List.nil_append] at hO4
  have hS4 : Below w2.heap.size w2 w4 := below_appJ (Below.refl _ _) hG4 (OwnJ.nil_ w2 w2.heap.size) (Nat.le_refl _)
  have HB4 := Lib.hid (HB2.out.trans (hS4.mono HB2.out.size))
  have HX4 := Lib.hid (keep_b hS4 HX2.out)
  have hI4 : Jis w4 w4.heap.size A4 n l := by
    have h := hO4.jis hQ2.ins.2.1
    rw [HLN.out] at h
    exact h
  have HWAS : Hid (Cq.In ⟨R, A, I, A4, n, c4, l⟩ w4) := ⟨hI4, hQ2.r, hQ2.a, hQ2.i, hQ2.n1, by have := hO4.lenCap; rw [HLN.out] at this; exact this⟩
  clear hQ2 hO4 hG4 hS4 hI4 m0 m1 m2 m3
  have hC := validReach_any ⟨R, A, I, P, n, c, l⟩ w4 (HQ.out.on HB4.out) (HSh.out.on HB4.out)
  unfold ReachP at hC
  rw [HCD.out, HE.out] at hC
  obtain ⟨m0, m1, m2, m3, _⟩ := lvCells HX4.out
  go_wp2_with fail
  (with_reducible refine hC.mono ?_)
  rintro e w5 ⟨A5, n5, c5, rfl, hI, hb⟩
  have HS5 := Lib.hid hb
  have HB5 := Lib.hid (HB4.out.trans (hb.mono HB4.out.size))
  have HX5 := Lib.hid (keep_b hb HX4.out)
  have HI5 := Lib.hid hI
  clear hC hb hI m0 m1 m2 m3
  have hC := refReach15_any ⟨R, A, I, P, n, c, l⟩ w5 (HQ.out.on HB5.out)
  unfold ReachP at hC
  rw [HCD.out, HE.out] at hC
  obtain ⟨m0, m1, m2, m3, _⟩ := lvCells HX5.out
  go_wp2_with fail
  (with_reducible refine hC.mono ?_)
  rintro e w6 ⟨A6, n6, c6, rfl, hI, hb⟩
  have HS6 := Lib.hid hb
  have HB6 := Lib.hid (HB5.out.trans (hb.mono HB5.out.size))
  have HX6 := Lib.hid (keep_b hb HX5.out)
  have HI6 := Lib.hid hI
  clear hC hb hI m0 m1 m2 m3
  have hC := validSet_any ⟨R, A, I, P, n, c, l⟩ w6 (HQ.out.on HB6.out) (HSh.out.on HB6.out)
  unfold SetP at hC
  rw [HCD.out, HE.out] at hC
  obtain ⟨m0, m1, m2, m3, _⟩ := lvCells HX6.out
  go_wp2_with fail
  (with_reducible refine hC.mono ?_)
  rintro e w7 ⟨A7, n7, c7, rfl, hI, _, hb⟩
  have HS7 := Lib.hid hb
  have HB7 := Lib.hid (HB6.out.trans (hb.mono HB6.out.size))
  have HX7 := Lib.hid (keep_b hb HX6.out)
  have HI7 := Lib.hid hI
  clear hC hb hI m0 m1 m2 m3
  have hC := refSet15_any ⟨R, A, I, P, n, c, l⟩ w7 (HQ.out.on HB7.out)
  unfold SetP at hC
  rw [HCD.out, HE.out] at hC
  obtain ⟨m0, m1, m2, m3, _⟩ := lvCells HX7.out
  go_wp2_with fail
  (with_reducible refine hC.mono ?_)
  rintro e w8 ⟨A8, n8, c8, rfl, hI, _, hb⟩
  have HS8 := Lib.hid hb
  have HB8 := Lib.hid (HB7.out.trans (hb.mono HB7.out.size))
  have HX8 := Lib.hid (keep_b hb HX7.out)
  have HI8 := Lib.hid hI
  clear hC hb hI m0 m1 m2 m3
  have hC := validUnset_any ⟨R, A, I, P, n, c, l⟩ w8 (HQ.out.on HB8.out) (HSh.out.on HB8.out)
  unfold UnsetP at hC
  rw [HCD.out, HE.out] at hC
  obtain ⟨m0, m1, m2, m3, _⟩ := lvCells HX8.out
  go_wp2_with fail
  (with_reducible refine hC.mono ?_)
  rintro e w9 ⟨A9, n9, c9, rfl, hI, hb⟩
  have HS9 := Lib.hid hb
  have HB9 := Lib.hid (HB8.out.trans (hb.mono HB8.out.size))
  have HX9 := Lib.hid (keep_b hb HX8.out)
  have HI9 := Lib.hid hI
  clear hC hb hI m0 m1 m2 m3
  have hC := refUnset15_any ⟨R, A, I, P, n, c, l⟩ w9 (HQ.out.on HB9.out)
  unfold UnsetP at hC
  rw [HCD.out, HE.out] at hC
  obtain ⟨m0, m1, m2, m3, _⟩ := lvCells HX9.out
  go_wp2_with fail
  (with_reducible refine hC.mono ?_)
  rintro e w10 ⟨A10, n10, c10, rfl, hI, hb⟩
  have HS10 := Lib.hid hb
  have HB10 := Lib.hid (HB9.out.trans (hb.mono HB9.out.size))
  have HX10 := Lib.hid (keep_b hb HX9.out)
  have HI10 := Lib.hid hI
  clear hC hb hI m0 m1 m2 m3
  have hC := validTrim_any ⟨R, A, I, P, n, c, l⟩ w10 (HQ.out.on HB10.out) (HSh.out.on HB10.out)
  unfold TrimP at hC
  rw [HCD.out, HE.out, HT.out, HTN.out] at hC
  obtain ⟨m0, m1, m2, m3, _⟩ := lvCells HX10.out
  go_wp2_with fail
  (with_reducible refine hC.mono ?_)
  rintro e v11 ⟨A11, c11, rfl, hO, hb⟩
  obtain ⟨w11, hw11⟩ : ∃ W, v11.alloc (.cells #[.int .i64 T.R, .int .i64 T.A, .int .i64 T.I, .slice A11 tn c11] 24) = W := ⟨_, rfl⟩
  obtain ⟨g11, hg11⟩ : ∃ z, v11.heap.size = z := ⟨_, rfl⟩
  have hbb : Below v11.heap.size v11 w11 := by rw [← hw11]; exact lvBelow _ _
  have HS11 := Lib.hid (hb.trans (hbb.mono hb.size))
  have HB11 := Lib.hid (HB10.out.trans (HS11.out.mono HB10.out.size))
  have HX11 := Lib.hid (keep_b HS11.out HX10.out)
  have HG11 : Hid (w11.heap[g11]? = some (Cq.obj ⟨T.R, T.A, T.I, A11, tn, c11, T.l⟩)) := by rw [← hw11, ← hg11]; exact heap_alloc_new _ _
  have HO11 : Hid (OwnJ v11 w10.heap.size A11 c11 T.l) := hO
  have HP11 : Hid (OwnJ w11 w10.heap.size A11 c11 T.l) := hO.below hbb (Nat.le_refl _)
  have HV11 : Hid (w10.heap.size ≤ g11 ∧ g11 = v11.heap.size) := ⟨by rw [← hg11]; exact hb.size, hg11.symm⟩
  have HW11 := Lib.hid hw11
  clear hC hb hbb hO hw11 m0 m1 m2 m3
  go_upto_region 12 with fail
  try rw [HW11.out]
  try rw [hg11]
  clear hg11 HW11
  have hC := refTrim15_any ⟨R, A, I, P, n, c, l⟩ w11 (HQ.out.on HB11.out)
  unfold TrimP at hC
  rw [HCD.out, HE.out, HT.out, HTN.out] at hC
  obtain ⟨m0, m1, m2, m3, _⟩ := lvCells HX11.out
  go_wp2_with fail
  (with_reducible refine hC.mono ?_)
  rintro e v12 ⟨A12, c12, rfl, hO, hb⟩
  obtain ⟨w12, hw12⟩ : ∃ W, v12.alloc (.cells #[.int .i64 T.R, .int .i64 T.A, .int .i64 T.I, .slice A12 tn c12] 24) = W := ⟨_, rfl⟩
  obtain ⟨g12, hg12⟩ : ∃ z, v12.heap.size = z := ⟨_, rfl⟩
  have hbb : Below v12.heap.size v12 w12 := by rw [← hw12]; exact lvBelow _ _
  have HS12 := Lib.hid (hb.trans (hbb.mono hb.size))
  have HB12 := Lib.hid (HB11.out.trans (HS12.out.mono HB11.out.size))
  have HX12 := Lib.hid (keep_b HS12.out HX11.out)
  have HG12 : Hid (w12.heap[g12]? = some (Cq.obj ⟨T.R, T.A, T.I, A12, tn, c12, T.l⟩)) := by rw [← hw12, ← hg12]; exact heap_alloc_new _ _
  have HO12 : Hid (OwnJ v12 w11.heap.size A12 c12 T.l) := hO
  have HP12 : Hid (OwnJ w12 w11.heap.size A12 c12 T.l) := hO.below hbb (Nat.le_refl _)
  have HV12 : Hid (w11.heap.size ≤ g12 ∧ g12 = v12.heap.size) := ⟨by rw [← hg12]; exact hb.size, hg12.symm⟩
  have HW12 := Lib.hid hw12
  clear hC hb hbb hO hw12 m0 m1 m2 m3
  go_upto_region 13 with fail
  try rw [HW12.out]
  try rw [hg12]
  clear hg12 HW12
  have hC := validLoops_far ⟨R, A, I, P, n, c, l⟩ w12 (HQ.out.on HB12.out) (HSh.out.on HB12.out)
  unfold LoopsF at hC
  rw [HCD.out, HE.out] at hC
  obtain ⟨m0, m1, m2, m3, _⟩ := lvCells HX12.out
  go_wp2_with fail
  (with_reducible refine hC.mono ?_)
  rintro e w13 ⟨A13, n13, c13, rfl, hI, hfar, hb⟩
  have HS13 := Lib.hid hb
  have HB13 := Lib.hid (HB12.out.trans (hb.mono HB12.out.size))
  have HX13 := Lib.hid (keep_b hb HX12.out)
  have HI13 := Lib.hid hI
  have HF13 := Lib.hid hfar
  clear hfar
  clear hC hb hI m0 m1 m2 m3
  have hC := refLoops15_far ⟨R, A, I, P, n, c, l⟩ w13 (HQ.out.on HB13.out)
  unfold LoopsF at hC
  rw [HCD.out, HE.out] at hC
  obtain ⟨m0, m1, m2, m3, _⟩ := lvCells HX13.out
  go_wp2_with fail
  (with_reducible refine hC.mono ?_)
  rintro e w14 ⟨A14, n14, c14, rfl, hI, hfar, hb⟩
  have HS14 := Lib.hid hb
  have HB14 := Lib.hid (HB13.out.trans (hb.mono HB13.out.size))
  have HX14 := Lib.hid (keep_b hb HX13.out)
  have HI14 := Lib.hid hI
  have HF14 := Lib.hid hfar
  clear hfar
  clear hC hb hI m0 m1 m2 m3
  obtain ⟨m0, m1, m2, m3, _⟩ := lvCells HX14.out
  have HC14 : Hid (Below w14.heap.size w14 w14) := Below.refl _ _
  have HC13 : Hid (Below w13.heap.size w13 w14) := HS14.out.trans (HC14.out.mono HS14.out.size)
  have HC12 : Hid (Below w12.heap.size w12 w14) := HS13.out.trans (HC13.out.mono HS13.out.size)
  have HC11 : Hid (Below w11.heap.size w11 w14) := HS12.out.trans (HC12.out.mono HS12.out.size)
  have HC10 : Hid (Below w10.heap.size w10 w14) := HS11.out.trans (HC11.out.mono HS11.out.size)
  have HC9 : Hid (Below w9.heap.size w9 w14) := HS10.out.trans (HC10.out.mono HS10.out.size)
  have HC8 : Hid (Below w8.heap.size w8 w14) := HS9.out.trans (HC9.out.mono HS9.out.size)
  have HC7 : Hid (Below w7.heap.size w7 w14) := HS8.out.trans (HC8.out.mono HS8.out.size)
  have HC6 : Hid (Below w6.heap.size w6 w14) := HS7.out.trans (HC7.out.mono HS7.out.size)
  have HC5 : Hid (Below w5.heap.size w5 w14) := HS6.out.trans (HC6.out.mono HS6.out.size)
  have HC4 : Hid (Below w4.heap.size w4 w14) := HS5.out.trans (HC5.out.mono HS5.out.size)
  have hs11 := HV11.out
  have hs12 := HV12.out
  have hs13 := HS13.out.size
  have hs14 := HS14.out.size
  have hl11 : g11 < w11.heap.size := lt_of_heap HG11.out
  have hl12 : g12 < w12.heap.size := lt_of_heap HG12.out
  have hc11 := HS12.out.size
  obtain ⟨gs, hgs⟩ : ∃ gs, w10.heap.size ≤ gs ∧ (gs < g11 ∨ w14.heap.size ≤ gs) ∧ (0 < tn → A11 = some ⟨gs, 0, none⟩ ∧ RestJ w14 gs 0 T.l) := by
    by_cases h0 : 0 < tn
    · obtain ⟨g, h1, h2, h3, h4⟩ := HO11.out.rest (by rw [HTN.out]; exact h0)
      refine ⟨g, h2, .inl (by rw [hs11.2]; exact h3), fun _ => ⟨h1, ?_⟩⟩
      obtain ⟨g', h1', _, _, h4'⟩ := HP11.out.rest (by rw [HTN.out]; exact h0)
      rw [h1] at h1'
      injection h1' with h1'; injection h1' with h1'
      subst h1'
      obtain ⟨cs, hcs, hcc⟩ := h4'
      exact ⟨cs, keep_b HC11.out hcs, hcc⟩
    · exact ⟨w14.heap.size, by have := HC10.out.size; exact this, .inr (Nat.le_refl _), fun h => absurd h h0⟩
  have HGS := Lib.hid hgs
  have HNE : Hid (g11 ≠ gs ∧ g12 ≠ gs ∧ (∀ b, w11.heap.size ≤ b → b < w14.heap.size → b ≠ gs)) := by
    obtain ⟨_, h2, _⟩ := hgs
    refine ⟨by omega, by omega, fun b h3 h4 => by omega⟩
  have HG11e := Lib.hid (keep_b HC11.out HG11.out)
  have HG12e := Lib.hid (keep_b HC12.out HG12.out)
  have HT12 : Hid (Jis w14 w14.heap.size A12 tn T.l) := by
    have h := (HP12.out.jis HTK.out).on HC12.out
    rw [HTN.out] at h
    exact h
  clear hs11 hs12 hs13 hs14 hl11 hl12 hc11 hgs m0 m1 m2 m3
  obtain ⟨j0, j1, j2, j3, _⟩ := lvCells HG11e.out
  go_wp2_with fail
  clear j0 j1 j2 j3
  go_loopw [87] (fun a wr => ∃ j : Nat, j ≤ tn ∧ a = .int .i64 j ∧ Hid (OffG gs w14 wr) ∧ Hid (Below gs w14 wr) ∧ Hid (j < tn → RestJ wr gs j T.l)) (fun a _ => tn - (intOf a).toNat)
  case atStart => exact ⟨0, Nat.zero_le _, rfl, OffG.refl _ _, Below.refl _ _, fun h => (HGS.out.2.2 h).2⟩
  case round =>
    obtain ⟨j, hj, rfl, HOF, HBG, HRJ⟩ := hrel
    have HG11r : Hid (wr.heap[g11]? = some (Cq.obj ⟨T.R, T.A, T.I, A11, tn, c11, T.l⟩)) := (HOF.out.block _ HNE.out.1).trans HG11e.out
    have HG12r : Hid (wr.heap[g12]? = some (Cq.obj ⟨T.R, T.A, T.I, A12, tn, c12, T.l⟩)) := (HOF.out.block _ HNE.out.2.1).trans HG12e.out
    by_cases hjs : j < tn
    · obtain ⟨rfl, ht4⟩ := HTY.out j hjs
      obtain ⟨rfl, _⟩ := HGS.out.2.2 (by omega)
      have hTr : Jis wr w14.heap.size A12 tn T.l := HT12.out.offG HOF.out fun b o h h2 => HNE.out.2.2 b (by have := HP12.out.far b o h; exact this) h2
      obtain ⟨b2, off2, x, hA, _, HXX, ⟨y0, y1, y2, y3, y4⟩, hxo⟩ := hTr.at_ hjs
      subst hA
      obtain ⟨⟨x0, x1, x2, x3, x4⟩, xf⟩ := (HRJ.out hjs).at_ HXX.out
      have HPUT := Lib.hid ((HRJ.out hjs).put (.int .i64 (-1)))
      obtain ⟨j0, j1, j2, j3, _⟩ := lvCells HG11r.out
      obtain ⟨k0, k1, k2, k3, _⟩ := lvCells HG12r.out
      have hcn := fun W => ji_neq x x W
      have hgd := fun (o1 o2 : Operand) (W : World) => run_eqGuard_agg (P := Tryd.prog) W .neq 40 o1 o2 #[.int .i64 x.op, .int .i64 x.a, .int .i64 x.b, .int .i64 x.c, .int .i64 x.n] #[.int .i64 x.op, .int .i64 x.a, .int .i64 x.b, .int .i64 x.c, .int .i64 x.n] (by kernel_rfl)
      rw [(eqJi_iff x x).2 rfl] at hcn
      have hjj : (j : Int) < (tn : Int) := by omega
      have hj0 : ¬ (j : Int) < 0 := by omega
      have hj00 : (0 : Int) ≤ (j : Int) := by omega
      have hj1 : ¬ (tn : Int) ≤ (j : Int) := by omega
      have dj : decide ((tn : Int) ≤ (j : Int)) = false := decide_eq_false hj1
      have hmx : Tryd.prog.follows .mixedOrders = true := by kernel_rfl
      clear hxo hTr
      go_wp2_with fail
      go_quiet (fail)
      generalize hW2 : World.drewN wr _ = W2
      have HOF2 : Hid (OffG gs w14 W2) := by rw [← hW2]; exact ⟨HOF.out.size, HOF.out.block⟩
      have HBG2 : Hid (Below gs w14 W2) := by rw [← hW2]; exact belowD HBG.out _
      have HRJ2 : Hid (RestJ W2 gs j T.l) := by rw [← hW2]; exact HRJ.out hjs
      have HG2 : Hid (W2.heap[g11]? = some (Cq.obj ⟨T.R, T.A, T.I, some ⟨gs, 0, none⟩, tn, c11, T.l⟩)) := by rw [← hW2]; exact HG11r.out
      clear x0 x1 x2 x3 x4 xf y0 y1 y2 y3 y4 j0 j1 j2 j3 k0 k1 k2 k3 HPUT
      obtain ⟨⟨x0, x1, x2, x3, x4⟩, xf⟩ := HRJ2.out.at_ HXX.out
      obtain ⟨j0, j1, j2, j3, _⟩ := lvCells HG2.out
      have HOF3 := Lib.hid (HOF2.out.set (j * 5) (.int .i64 (-1)))
      have HBG3 : Hid (Below gs w14 (W2.setCell ⟨gs, j * 5, none⟩ (.int .i64 (-1)))) := HBG2.out.setCell (p := ⟨gs, j * 5, none⟩) (Nat.le_refl _) _
      have HRJ3 := Lib.hid (HRJ2.out.put (.int .i64 (-1)))
      clear hW2
      go_wp2_with fail
      go_roundw
      case rel => exact ⟨j + 1, by omega, by go_num, HOF3, HBG3, fun _ => HRJ3.out⟩
      case measure => simp [intOf]; omega
    obtain rfl : j = tn := by omega
    clear hjs hj HRJ
    have hz4 := HB4.out.size
    have hz5 := HS5.out.size
    have hz6 := HS6.out.size
    have hz7 := HS7.out.size
    have hz8 := HS8.out.size
    have hz9 := HS9.out.size
    have hz10 := HS10.out.size
    have hz11 := HS11.out.size
    have hz12 := HS12.out.size
    have hz13 := HS13.out.size
    have hzg := HGS.out.1
    have HD0 : Hid (Below w.heap.size w wr) := HB14.out.trans (HBG.out.mono (by omega))
    have HD4 : Hid (Below w4.heap.size w4 wr) := HC4.out.trans (HBG.out.mono (by omega))
    have HD5 : Hid (Below w5.heap.size w5 wr) := HC5.out.trans (HBG.out.mono (by omega))
    have HD6 : Hid (Below w6.heap.size w6 wr) := HC6.out.trans (HBG.out.mono (by omega))
    have HD7 : Hid (Below w7.heap.size w7 wr) := HC7.out.trans (HBG.out.mono (by omega))
    have HD8 : Hid (Below w8.heap.size w8 wr) := HC8.out.trans (HBG.out.mono (by omega))
    have HD9 : Hid (Below w9.heap.size w9 wr) := HC9.out.trans (HBG.out.mono (by omega))
    have HD10 : Hid (Below w10.heap.size w10 wr) := HC10.out.trans (HBG.out.mono (by omega))
    have HXr : Hid (wr.heap[w.heap.size]? = some (Cq.obj ⟨R, A, I, P, n, c, l⟩)) := keep_b HD10.out HX10.out
    have HR13 : Hid (Ints wr wr.heap.size A13 n13 (loopsC cd)) := by
      have h1 : Ints w14 w14.heap.size A13 n13 (loopsC cd) := (HI13.out.below HS14.out).more HS14.out.size
      exact (h1.offG HOF.out fun b o h h2 => HNE.out.2.2 b (by have := HF13.out b o h; omega) h2).more HOF.out.size
    have HR14 : Hid (Ints wr wr.heap.size A14 n14 (loopsC cd)) := (HI14.out.offG HOF.out fun b o h h2 => HNE.out.2.2 b (by have := HF14.out b o h; omega) h2).more HOF.out.size
    have l5 : n5 ≤ 300 := by have h1 := HI5.out.1; have h2 := reachC_len cd; rw [HCL.out] at h2; omega
    have l6 : n6 ≤ 300 := by have h1 := HI6.out.1; have h2 := reachC_len cd; rw [HCL.out] at h2; omega
    have l7 : n7 ≤ 300 := by have h1 := HI7.out.1; have h2 := setC_len cd; rw [HCL.out] at h2; omega
    have l8 : n8 ≤ 300 := by have h1 := HI8.out.1; have h2 := setC_len cd; rw [HCL.out] at h2; omega
    have l9 : n9 ≤ 300 := by have h1 := HI9.out.1; have h2 := unsetC_len cd; rw [HCL.out] at h2; omega
    have l10 : n10 ≤ 300 := by have h1 := HI10.out.1; have h2 := unsetC_len cd; rw [HCL.out] at h2; omega
    have l13 : n13 ≤ 300 := by have h1 := HI13.out.1; have h2 := loopsC_len cd; rw [HCL.out] at h2; omega
    have l14 : n14 ≤ 300 := by have h1 := HI14.out.1; have h2 := loopsC_len cd; rw [HCL.out] at h2; omega
    obtain ⟨V, hV⟩ : ∃ V, validE cd = V := ⟨_, rfl⟩
    have HC_bools : Hid (∀ W, Below wr.heap.size wr W → Calls Tryd.prog 20 #[.slice A5 n5 c5, .slice A6 n6 c6] W fun e w' => e = .returned (.bool true) ∧ Below W.heap.size W w') := fun W hb => by
      have h := refSameBools_any A5 A6 n5 n6 c5 c6 (reachC cd) (reachC cd) W ((HI5.out.on HD5.out).on hb) ((HI6.out.on HD6.out).on hb) (by omega) (by omega)
      rw [decide_eq_true rfl] at h
      exact h
    have HC_lists : Hid (∀ W, Below wr.heap.size wr W → Calls Tryd.prog 21 #[.slice A7 n7 c7, .slice A8 n8 c8] W fun e w' => e = .returned (.bool true) ∧ Below W.heap.size W w') := fun W hb => by
      have h7 : IntsLL wr wr.heap.size A7 n7 (setC cd) := (HI7.out.below HD7.out).more HD7.out.size
      have h8 : IntsLL wr wr.heap.size A8 n8 (setC cd) := (HI8.out.below HD8.out).more HD8.out.size
      have h := sameListsJ_any A7 A8 n7 n8 c7 c8 (setC cd) (setC cd) W W.heap.size ((h7.below hb).more hb.size) ((h8.below hb).more hb.size) (by omega) (by omega) (setC_few cd) (setC_few cd)
      rw [decide_eq_true rfl] at h
      refine h.mono ?_
      rintro e w' ⟨rfl, m, rfl⟩
      exact ⟨rfl, belowD (Below.refl _ _) m⟩
    have HC_eq9 : Hid (∀ W, Below wr.heap.size wr W → Calls Tryd.prog 22 #[.slice A9 n9 c9, .slice A10 n10 c10] W fun e w' => e = .returned (.bool true) ∧ Below W.heap.size W w') := fun W hb => by
      have h9 : Ints wr wr.heap.size A9 n9 (unsetC cd) := (HI9.out.below HD9.out).more HD9.out.size
      have h10 : Ints wr wr.heap.size A10 n10 (unsetC cd) := (HI10.out.below HD10.out).more HD10.out.size
      exact eqR17 A9 A10 n9 n10 c9 c10 (unsetC cd) (unsetC cd) W ((h9.below hb).more hb.size) ((h10.below hb).more hb.size) (by omega) (by omega) rfl
    have HC_eq13 : Hid (∀ W, Below wr.heap.size wr W → Calls Tryd.prog 22 #[.slice A13 n13 c13, .slice A14 n14 c14] W fun e w' => e = .returned (.bool true) ∧ Below W.heap.size W w') := fun W hb => eqR17 A13 A14 n13 n14 c13 c14 (loopsC cd) (loopsC cd) W ((HR13.out.below hb).more hb.size) ((HR14.out.below hb).more hb.size) (by omega) (by omega) rfl
    have HC_chk : Hid (∀ W, Below wr.heap.size wr W → Calls Tryd.prog 23 #[Cq.val ⟨R, A, I, P, n, c, l⟩] W fun e w' => e = .returned (.int .i64 V) ∧ Below W.heap.size W w') := fun W hb => by
      have h := validCheck_any ⟨R, A, I, P, n, c, l⟩ W (HQ.out.on (HD0.out.trans (hb.mono HD0.out.size))) (HSh.out.on (HD0.out.trans (hb.mono HD0.out.size)))
      unfold ValidP at h
      rw [HCD.out, hV] at h
      exact h
    have HC_rchk : Hid (∀ W, Below wr.heap.size wr W → Calls Tryd.prog 24 #[Cq.val ⟨R, A, I, P, n, c, l⟩] W fun e w' => e = .returned (.int .i64 V) ∧ Below W.heap.size W w') := fun W hb => by
      have h := refValid15_any ⟨R, A, I, P, n, c, l⟩ W (HQ.out.on (HD0.out.trans (hb.mono HD0.out.size)))
      unfold ValidP at h
      rw [HCD.out, hV] at h
      exact h
    have HC_same : Hid (∀ W, Below wr.heap.size wr W → Calls Tryd.prog 25 #[Cq.val ⟨R, A, I, P, n, c, l⟩, Cq.val ⟨R, A, I, A4, n, c4, l⟩] W fun e w' => e = .returned (.bool true) ∧ Below W.heap.size W w') := fun W hb => same15_eq ⟨R, A, I, P, n, c, l⟩ ⟨R, A, I, A4, n, c4, l⟩ W (HQ.out.on (HD0.out.trans (hb.mono HD0.out.size))) (HWAS.out.on (HD4.out.trans (hb.mono HD4.out.size))) rfl
    have HFX : Hid (∀ W, Below wr.heap.size wr W → (W.cell? ⟨w.heap.size, 0, none⟩ = some (.int .i64 R) ∧ W.cell? ⟨w.heap.size, 1, none⟩ = some (.int .i64 A) ∧ W.cell? ⟨w.heap.size, 2, none⟩ = some (.int .i64 I) ∧ W.cell? ⟨w.heap.size, 3, none⟩ = some (.slice P n c)) ∧ (W.cell? ⟨g11, 0, none⟩ = some (.int .i64 T.R) ∧ W.cell? ⟨g11, 1, none⟩ = some (.int .i64 T.A) ∧ W.cell? ⟨g11, 2, none⟩ = some (.int .i64 T.I) ∧ W.cell? ⟨g11, 3, none⟩ = some (.slice A11 j c11)) ∧ (W.cell? ⟨g12, 0, none⟩ = some (.int .i64 T.R) ∧ W.cell? ⟨g12, 1, none⟩ = some (.int .i64 T.A) ∧ W.cell? ⟨g12, 2, none⟩ = some (.int .i64 T.I) ∧ W.cell? ⟨g12, 3, none⟩ = some (.slice A12 j c12))) := fun W hb => by
      obtain ⟨m0, m1, m2, m3, _⟩ := lvCells (keep_b hb HXr.out)
      obtain ⟨j0, j1, j2, j3, _⟩ := lvCells (keep_b hb HG11r.out)
      obtain ⟨k0, k1, k2, k3, _⟩ := lvCells (keep_b hb HG12r.out)
      exact ⟨⟨m0, m1, m2, m3⟩, ⟨j0, j1, j2, j3⟩, ⟨k0, k1, k2, k3⟩⟩
    have hmx : Tryd.prog.follows .mixedOrders = true := by kernel_rfl
    clear hV hz4 hz5 hz6 hz7 hz8 hz9 hz10 hz11 hz12 hz13 hzg l5 l6 l7 l8 l9 l10 l13 l14
    go_upto_region 22 with fail
    dsimp only [List.append]
    refine wp_region_vals (Vk.at [.fix (.bool true), .fix (.bool true), .fix (.slice A5 n5 c5), .fix (.slice A6 n6 c6), .fix (.bool true), .fix (.bool true), .fix (.bool true), .fix (.int .i64 E), .fix (.int .i64 E), .fix (.bool true), .fix (.bool true), .fix (.bool true), .fix (.slice A7 n7 c7), .fix (.slice A8 n8 c8), .fix (.bool true), .fix (.bool true), .fix (.bool true), .fix (.int .i64 E), .fix (.int .i64 E), .fix (.bool true), .fix (.bool true), .fix (.bool true), .fix (.slice A9 n9 c9), .fix (.slice A10 n10 c10), .fix (.bool true), .fix (.bool true), .fix (.bool true), .fix (.int .i64 E), .fix (.int .i64 E), .fix (.bool true), .fix (.bool true), .fix (.bool true), .fix (.pointer (some ⟨g11, 3, none⟩)), .fix (.slice A11 j c11), .fix (.int .i64 j), .fix (.pointer (some ⟨g12, 3, none⟩)), .fix (.slice A12 j c12), .fix (.int .i64 j), .fix (.bool true), .fix (.bool true), .fix (.bool true), .fix (.int .i64 E), .fix (.int .i64 E), .fix (.bool true), .fix (.bool true), .fix (.bool true), .fix (.slice A13 n13 c13), .fix (.slice A14 n14 c14), .fix (.bool true), .fix (.bool true), .fix (.bool true), .fix (.int .i64 E), .fix (.int .i64 E), .fix (.bool true), .fix (.bool true), .fix (.bool true), .fix (Cq.val ⟨R, A, I, P, n, c, l⟩), .fix (.int .i64 V), .fix (Cq.val ⟨R, A, I, P, n, c, l⟩), .fix (.int .i64 V), .fix (.bool true), .fix (.bool true), .fix (.bool true), .fix (Cq.val ⟨R, A, I, P, n, c, l⟩), .fix (.pointer (some ⟨w.heap.size, 0, none⟩)), .fix (.int .i64 R), .fix (.pointer (some ⟨w.heap.size, 1, none⟩)), .fix (.int .i64 A), .fix (.pointer (some ⟨w.heap.size, 2, none⟩)), .fix (.int .i64 I), .fix (.slice A4 n c4), .fix (Cq.val ⟨R, A, I, A4, n, c4, l⟩), .fix (.bool true), .fix (.bool true), .fix (.bool true)]) hmx (by kernel_rfl) (by kernel_rfl) (Vk.at_stay _) ?_ ?_
    · intro i o ho vs W2 hb hd K hK
      have hi : i < 75 := (List.getElem?_eq_some_iff.1 ho).1
      generalize hlit : putV vs 0 _ _ = z at hK ⊢
      simp only [List.map_cons, List.map_nil, putV, Act.put, List.setIfInBounds_toArray, List.set_cons_succ, List.set_cons_zero] at hlit
      subst hlit
      rcases (by omega : i = 0 ∨ i = 1 ∨ i = 2 ∨ i = 3 ∨ i = 4 ∨ i = 5 ∨ i = 6 ∨ i = 7 ∨ i = 8 ∨ i = 9 ∨ i = 10 ∨ i = 11 ∨ i = 12 ∨ i = 13 ∨ i = 14 ∨ i = 15 ∨ i = 16 ∨ i = 17 ∨ i = 18 ∨ i = 19 ∨ i = 20 ∨ i = 21 ∨ i = 22 ∨ i = 23 ∨ i = 24 ∨ i = 25 ∨ i = 26 ∨ i = 27 ∨ i = 28 ∨ i = 29 ∨ i = 30 ∨ i = 31 ∨ i = 32 ∨ i = 33 ∨ i = 34 ∨ i = 35 ∨ i = 36 ∨ i = 37 ∨ i = 38 ∨ i = 39 ∨ i = 40 ∨ i = 41 ∨ i = 42 ∨ i = 43 ∨ i = 44 ∨ i = 45 ∨ i = 46 ∨ i = 47 ∨ i = 48 ∨ i = 49 ∨ i = 50 ∨ i = 51 ∨ i = 52 ∨ i = 53 ∨ i = 54 ∨ i = 55 ∨ i = 56 ∨ i = 57 ∨ i = 58 ∨ i = 59 ∨ i = 60 ∨ i = 61 ∨ i = 62 ∨ i = 63 ∨ i = 64 ∨ i = 65 ∨ i = 66 ∨ i = 67 ∨ i = 68 ∨ i = 69 ∨ i = 70 ∨ i = 71 ∨ i = 72 ∨ i = 73 ∨ i = 74) with rfl | rfl | rfl | rfl | rfl | rfl | rfl | rfl | rfl | rfl | rfl | rfl | rfl | rfl | rfl | rfl | rfl | rfl | rfl | rfl | rfl | rfl | rfl | rfl | rfl | rfl | rfl | rfl | rfl | rfl | rfl | rfl | rfl | rfl | rfl | rfl | rfl | rfl | rfl | rfl | rfl | rfl | rfl | rfl | rfl | rfl | rfl | rfl | rfl | rfl | rfl | rfl | rfl | rfl | rfl | rfl | rfl | rfl | rfl | rfl | rfl | rfl | rfl | rfl | rfl | rfl | rfl | rfl | rfl | rfl | rfl | rfl | rfl | rfl | rfl
      · -- 0
        obtain rfl := Option.some.inj ho
        clear ho hd hi
        go_simp
        exact hK _ (.bool true) _ (by simp [Act.put]) (Below.refl _ _) rfl
      · -- 1
        obtain rfl := Option.some.inj ho
        have h0 : vs 0 = .bool true := hd 0 (by kernel_rfl)
        clear ho hd hi
        go_simp
        exact hK _ (.bool true) _ (by simp [Act.put, h0]) (Below.refl _ _) rfl
      · -- 2
        obtain rfl := Option.some.inj ho
        have h1 : vs 1 = .bool true := hd 1 (by kernel_rfl)
        clear ho hd hi
        go_simp
        exact hK _ (.slice A5 n5 c5) _ (by simp [Act.put, h1]) (Below.refl _ _) rfl
      · -- 3
        obtain rfl := Option.some.inj ho
        have h1 : vs 1 = .bool true := hd 1 (by kernel_rfl)
        clear ho hd hi
        go_simp
        exact hK _ (.slice A6 n6 c6) _ (by simp [Act.put, h1]) (Below.refl _ _) rfl
      · -- 4
        obtain rfl := Option.some.inj ho
        have h1 : vs 1 = .bool true := hd 1 (by kernel_rfl)
        have h2 : vs 2 = .slice A5 n5 c5 := hd 2 (by kernel_rfl)
        have h3 : vs 3 = .slice A6 n6 c6 := hd 3 (by kernel_rfl)
        clear ho hd hi
        go_simp
        go_at_call 20
        refine (HC_bools.out W2 hb).mono ?_
        rintro e w3 ⟨rfl, hb3⟩
        exact hK _ (.bool true) _ (by simp [Act.put, h1, h2, h3]) hb3 rfl
      · -- 5
        obtain rfl := Option.some.inj ho
        have h1 : vs 1 = .bool true := hd 1 (by kernel_rfl)
        have h4 : vs 4 = .bool true := hd 4 (by kernel_rfl)
        clear ho hd hi
        go_simp
        exact hK _ (.bool true) _ (by simp [Act.put, h1, h4]) (Below.refl _ _) rfl
      · -- 6
        obtain rfl := Option.some.inj ho
        have h5 : vs 5 = .bool true := hd 5 (by kernel_rfl)
        clear ho hd hi
        go_simp
        exact hK _ (.bool true) _ (by simp [Act.put, h5]) (Below.refl _ _) rfl
      · -- 7
        obtain rfl := Option.some.inj ho
        have h6 : vs 6 = .bool true := hd 6 (by kernel_rfl)
        clear ho hd hi
        go_simp
        exact hK _ (.int .i64 E) _ (by simp [Act.put, h6]) (Below.refl _ _) rfl
      · -- 8
        obtain rfl := Option.some.inj ho
        have h6 : vs 6 = .bool true := hd 6 (by kernel_rfl)
        clear ho hd hi
        go_simp
        exact hK _ (.int .i64 E) _ (by simp [Act.put, h6]) (Below.refl _ _) rfl
      · -- 9
        obtain rfl := Option.some.inj ho
        have h6 : vs 6 = .bool true := hd 6 (by kernel_rfl)
        have h7 : vs 7 = .int .i64 E := hd 7 (by kernel_rfl)
        have h8 : vs 8 = .int .i64 E := hd 8 (by kernel_rfl)
        clear ho hd hi
        go_simp
        exact hK _ (.bool true) _ (by simp [Act.put, h6, h7, h8]) (Below.refl _ _) rfl
      · -- 10
        obtain rfl := Option.some.inj ho
        have h6 : vs 6 = .bool true := hd 6 (by kernel_rfl)
        have h9 : vs 9 = .bool true := hd 9 (by kernel_rfl)
        clear ho hd hi
        go_simp
        exact hK _ (.bool true) _ (by simp [Act.put, h6, h9]) (Below.refl _ _) rfl
      · -- 11
        obtain rfl := Option.some.inj ho
        have h10 : vs 10 = .bool true := hd 10 (by kernel_rfl)
        clear ho hd hi
        go_simp
        exact hK _ (.bool true) _ (by simp [Act.put, h10]) (Below.refl _ _) rfl
      · -- 12
        obtain rfl := Option.some.inj ho
        have h11 : vs 11 = .bool true := hd 11 (by kernel_rfl)
        clear ho hd hi
        go_simp
        exact hK _ (.slice A7 n7 c7) _ (by simp [Act.put, h11]) (Below.refl _ _) rfl
      · -- 13
        obtain rfl := Option.some.inj ho
        have h11 : vs 11 = .bool true := hd 11 (by kernel_rfl)
        clear ho hd hi
        go_simp
        exact hK _ (.slice A8 n8 c8) _ (by simp [Act.put, h11]) (Below.refl _ _) rfl
      · -- 14
        obtain rfl := Option.some.inj ho
        have h11 : vs 11 = .bool true := hd 11 (by kernel_rfl)
        have h12 : vs 12 = .slice A7 n7 c7 := hd 12 (by kernel_rfl)
        have h13 : vs 13 = .slice A8 n8 c8 := hd 13 (by kernel_rfl)
        clear ho hd hi
        go_simp
        go_at_call 21
        refine (HC_lists.out W2 hb).mono ?_
        rintro e w3 ⟨rfl, hb3⟩
        exact hK _ (.bool true) _ (by simp [Act.put, h11, h12, h13]) hb3 rfl
      · -- 15
        obtain rfl := Option.some.inj ho
        have h11 : vs 11 = .bool true := hd 11 (by kernel_rfl)
        have h14 : vs 14 = .bool true := hd 14 (by kernel_rfl)
        clear ho hd hi
        go_simp
        exact hK _ (.bool true) _ (by simp [Act.put, h11, h14]) (Below.refl _ _) rfl
      · -- 16
        obtain rfl := Option.some.inj ho
        have h15 : vs 15 = .bool true := hd 15 (by kernel_rfl)
        clear ho hd hi
        go_simp
        exact hK _ (.bool true) _ (by simp [Act.put, h15]) (Below.refl _ _) rfl
      · -- 17
        obtain rfl := Option.some.inj ho
        have h16 : vs 16 = .bool true := hd 16 (by kernel_rfl)
        clear ho hd hi
        go_simp
        exact hK _ (.int .i64 E) _ (by simp [Act.put, h16]) (Below.refl _ _) rfl
      · -- 18
        obtain rfl := Option.some.inj ho
        have h16 : vs 16 = .bool true := hd 16 (by kernel_rfl)
        clear ho hd hi
        go_simp
        exact hK _ (.int .i64 E) _ (by simp [Act.put, h16]) (Below.refl _ _) rfl
      · -- 19
        obtain rfl := Option.some.inj ho
        have h16 : vs 16 = .bool true := hd 16 (by kernel_rfl)
        have h17 : vs 17 = .int .i64 E := hd 17 (by kernel_rfl)
        have h18 : vs 18 = .int .i64 E := hd 18 (by kernel_rfl)
        clear ho hd hi
        go_simp
        exact hK _ (.bool true) _ (by simp [Act.put, h16, h17, h18]) (Below.refl _ _) rfl
      · -- 20
        obtain rfl := Option.some.inj ho
        have h16 : vs 16 = .bool true := hd 16 (by kernel_rfl)
        have h19 : vs 19 = .bool true := hd 19 (by kernel_rfl)
        clear ho hd hi
        go_simp
        exact hK _ (.bool true) _ (by simp [Act.put, h16, h19]) (Below.refl _ _) rfl
      · -- 21
        obtain rfl := Option.some.inj ho
        have h20 : vs 20 = .bool true := hd 20 (by kernel_rfl)
        clear ho hd hi
        go_simp
        exact hK _ (.bool true) _ (by simp [Act.put, h20]) (Below.refl _ _) rfl
      · -- 22
        obtain rfl := Option.some.inj ho
        have h21 : vs 21 = .bool true := hd 21 (by kernel_rfl)
        clear ho hd hi
        go_simp
        exact hK _ (.slice A9 n9 c9) _ (by simp [Act.put, h21]) (Below.refl _ _) rfl
      · -- 23
        obtain rfl := Option.some.inj ho
        have h21 : vs 21 = .bool true := hd 21 (by kernel_rfl)
        clear ho hd hi
        go_simp
        exact hK _ (.slice A10 n10 c10) _ (by simp [Act.put, h21]) (Below.refl _ _) rfl
      · -- 24
        obtain rfl := Option.some.inj ho
        have h21 : vs 21 = .bool true := hd 21 (by kernel_rfl)
        have h22 : vs 22 = .slice A9 n9 c9 := hd 22 (by kernel_rfl)
        have h23 : vs 23 = .slice A10 n10 c10 := hd 23 (by kernel_rfl)
        clear ho hd hi
        go_simp
        go_at_call 22
        refine (HC_eq9.out W2 hb).mono ?_
        rintro e w3 ⟨rfl, hb3⟩
        exact hK _ (.bool true) _ (by simp [Act.put, h21, h22, h23]) hb3 rfl
      · -- 25
        obtain rfl := Option.some.inj ho
        have h21 : vs 21 = .bool true := hd 21 (by kernel_rfl)
        have h24 : vs 24 = .bool true := hd 24 (by kernel_rfl)
        clear ho hd hi
        go_simp
        exact hK _ (.bool true) _ (by simp [Act.put, h21, h24]) (Below.refl _ _) rfl
      · -- 26
        obtain rfl := Option.some.inj ho
        have h25 : vs 25 = .bool true := hd 25 (by kernel_rfl)
        clear ho hd hi
        go_simp
        exact hK _ (.bool true) _ (by simp [Act.put, h25]) (Below.refl _ _) rfl
      · -- 27
        obtain rfl := Option.some.inj ho
        have h26 : vs 26 = .bool true := hd 26 (by kernel_rfl)
        clear ho hd hi
        go_simp
        exact hK _ (.int .i64 E) _ (by simp [Act.put, h26]) (Below.refl _ _) rfl
      · -- 28
        obtain rfl := Option.some.inj ho
        have h26 : vs 26 = .bool true := hd 26 (by kernel_rfl)
        clear ho hd hi
        go_simp
        exact hK _ (.int .i64 E) _ (by simp [Act.put, h26]) (Below.refl _ _) rfl
      · -- 29
        obtain rfl := Option.some.inj ho
        have h26 : vs 26 = .bool true := hd 26 (by kernel_rfl)
        have h27 : vs 27 = .int .i64 E := hd 27 (by kernel_rfl)
        have h28 : vs 28 = .int .i64 E := hd 28 (by kernel_rfl)
        clear ho hd hi
        go_simp
        exact hK _ (.bool true) _ (by simp [Act.put, h26, h27, h28]) (Below.refl _ _) rfl
      · -- 30
        obtain rfl := Option.some.inj ho
        have h26 : vs 26 = .bool true := hd 26 (by kernel_rfl)
        have h29 : vs 29 = .bool true := hd 29 (by kernel_rfl)
        clear ho hd hi
        go_simp
        exact hK _ (.bool true) _ (by simp [Act.put, h26, h29]) (Below.refl _ _) rfl
      · -- 31
        obtain rfl := Option.some.inj ho
        have h30 : vs 30 = .bool true := hd 30 (by kernel_rfl)
        clear ho hd hi
        go_simp
        exact hK _ (.bool true) _ (by simp [Act.put, h30]) (Below.refl _ _) rfl
      · -- 32
        obtain rfl := Option.some.inj ho
        have h31 : vs 31 = .bool true := hd 31 (by kernel_rfl)
        clear ho hd hi
        go_simp
        exact hK _ (.pointer (some ⟨g11, 3, none⟩)) _ (by simp [Act.put, h31]) (Below.refl _ _) rfl
      · -- 33
        obtain rfl := Option.some.inj ho
        have h31 : vs 31 = .bool true := hd 31 (by kernel_rfl)
        have h32 : vs 32 = .pointer (some ⟨g11, 3, none⟩) := hd 32 (by kernel_rfl)
        clear ho hd hi
        obtain ⟨⟨m0, m1, m2, m3⟩, ⟨j0, j1, j2, j3⟩, ⟨k0, k1, k2, k3⟩⟩ := HFX.out W2 hb
        go_simp
        exact hK _ (.slice A11 j c11) _ (by simp [Act.put, h31, h32]) (Below.refl _ _) rfl
      · -- 34
        obtain rfl := Option.some.inj ho
        have h31 : vs 31 = .bool true := hd 31 (by kernel_rfl)
        have h33 : vs 33 = .slice A11 j c11 := hd 33 (by kernel_rfl)
        clear ho hd hi
        go_simp
        exact hK _ (.int .i64 j) _ (by simp [Act.put, h31, h33]) (Below.refl _ _) rfl
      · -- 35
        obtain rfl := Option.some.inj ho
        have h31 : vs 31 = .bool true := hd 31 (by kernel_rfl)
        clear ho hd hi
        go_simp
        exact hK _ (.pointer (some ⟨g12, 3, none⟩)) _ (by simp [Act.put, h31]) (Below.refl _ _) rfl
      · -- 36
        obtain rfl := Option.some.inj ho
        have h31 : vs 31 = .bool true := hd 31 (by kernel_rfl)
        have h35 : vs 35 = .pointer (some ⟨g12, 3, none⟩) := hd 35 (by kernel_rfl)
        clear ho hd hi
        obtain ⟨⟨m0, m1, m2, m3⟩, ⟨j0, j1, j2, j3⟩, ⟨k0, k1, k2, k3⟩⟩ := HFX.out W2 hb
        go_simp
        exact hK _ (.slice A12 j c12) _ (by simp [Act.put, h31, h35]) (Below.refl _ _) rfl
      · -- 37
        obtain rfl := Option.some.inj ho
        have h31 : vs 31 = .bool true := hd 31 (by kernel_rfl)
        have h36 : vs 36 = .slice A12 j c12 := hd 36 (by kernel_rfl)
        clear ho hd hi
        go_simp
        exact hK _ (.int .i64 j) _ (by simp [Act.put, h31, h36]) (Below.refl _ _) rfl
      · -- 38
        obtain rfl := Option.some.inj ho
        have h31 : vs 31 = .bool true := hd 31 (by kernel_rfl)
        have h34 : vs 34 = .int .i64 j := hd 34 (by kernel_rfl)
        have h37 : vs 37 = .int .i64 j := hd 37 (by kernel_rfl)
        clear ho hd hi
        go_simp
        exact hK _ (.bool true) _ (by simp [Act.put, h31, h34, h37]) (Below.refl _ _) rfl
      · -- 39
        obtain rfl := Option.some.inj ho
        have h31 : vs 31 = .bool true := hd 31 (by kernel_rfl)
        have h38 : vs 38 = .bool true := hd 38 (by kernel_rfl)
        clear ho hd hi
        go_simp
        exact hK _ (.bool true) _ (by simp [Act.put, h31, h38]) (Below.refl _ _) rfl
      · -- 40
        obtain rfl := Option.some.inj ho
        have h39 : vs 39 = .bool true := hd 39 (by kernel_rfl)
        clear ho hd hi
        go_simp
        exact hK _ (.bool true) _ (by simp [Act.put, h39]) (Below.refl _ _) rfl
      · -- 41
        obtain rfl := Option.some.inj ho
        have h40 : vs 40 = .bool true := hd 40 (by kernel_rfl)
        clear ho hd hi
        go_simp
        exact hK _ (.int .i64 E) _ (by simp [Act.put, h40]) (Below.refl _ _) rfl
      · -- 42
        obtain rfl := Option.some.inj ho
        have h40 : vs 40 = .bool true := hd 40 (by kernel_rfl)
        clear ho hd hi
        go_simp
        exact hK _ (.int .i64 E) _ (by simp [Act.put, h40]) (Below.refl _ _) rfl
      · -- 43
        obtain rfl := Option.some.inj ho
        have h40 : vs 40 = .bool true := hd 40 (by kernel_rfl)
        have h41 : vs 41 = .int .i64 E := hd 41 (by kernel_rfl)
        have h42 : vs 42 = .int .i64 E := hd 42 (by kernel_rfl)
        clear ho hd hi
        go_simp
        exact hK _ (.bool true) _ (by simp [Act.put, h40, h41, h42]) (Below.refl _ _) rfl
      · -- 44
        obtain rfl := Option.some.inj ho
        have h40 : vs 40 = .bool true := hd 40 (by kernel_rfl)
        have h43 : vs 43 = .bool true := hd 43 (by kernel_rfl)
        clear ho hd hi
        go_simp
        exact hK _ (.bool true) _ (by simp [Act.put, h40, h43]) (Below.refl _ _) rfl
      · -- 45
        obtain rfl := Option.some.inj ho
        have h44 : vs 44 = .bool true := hd 44 (by kernel_rfl)
        clear ho hd hi
        go_simp
        exact hK _ (.bool true) _ (by simp [Act.put, h44]) (Below.refl _ _) rfl
      · -- 46
        obtain rfl := Option.some.inj ho
        have h45 : vs 45 = .bool true := hd 45 (by kernel_rfl)
        clear ho hd hi
        go_simp
        exact hK _ (.slice A13 n13 c13) _ (by simp [Act.put, h45]) (Below.refl _ _) rfl
      · -- 47
        obtain rfl := Option.some.inj ho
        have h45 : vs 45 = .bool true := hd 45 (by kernel_rfl)
        clear ho hd hi
        go_simp
        exact hK _ (.slice A14 n14 c14) _ (by simp [Act.put, h45]) (Below.refl _ _) rfl
      · -- 48
        obtain rfl := Option.some.inj ho
        have h45 : vs 45 = .bool true := hd 45 (by kernel_rfl)
        have h46 : vs 46 = .slice A13 n13 c13 := hd 46 (by kernel_rfl)
        have h47 : vs 47 = .slice A14 n14 c14 := hd 47 (by kernel_rfl)
        clear ho hd hi
        go_simp
        go_at_call 22
        refine (HC_eq13.out W2 hb).mono ?_
        rintro e w3 ⟨rfl, hb3⟩
        exact hK _ (.bool true) _ (by simp [Act.put, h45, h46, h47]) hb3 rfl
      · -- 49
        obtain rfl := Option.some.inj ho
        have h45 : vs 45 = .bool true := hd 45 (by kernel_rfl)
        have h48 : vs 48 = .bool true := hd 48 (by kernel_rfl)
        clear ho hd hi
        go_simp
        exact hK _ (.bool true) _ (by simp [Act.put, h45, h48]) (Below.refl _ _) rfl
      · -- 50
        obtain rfl := Option.some.inj ho
        have h49 : vs 49 = .bool true := hd 49 (by kernel_rfl)
        clear ho hd hi
        go_simp
        exact hK _ (.bool true) _ (by simp [Act.put, h49]) (Below.refl _ _) rfl
      · -- 51
        obtain rfl := Option.some.inj ho
        have h50 : vs 50 = .bool true := hd 50 (by kernel_rfl)
        clear ho hd hi
        go_simp
        exact hK _ (.int .i64 E) _ (by simp [Act.put, h50]) (Below.refl _ _) rfl
      · -- 52
        obtain rfl := Option.some.inj ho
        have h50 : vs 50 = .bool true := hd 50 (by kernel_rfl)
        clear ho hd hi
        go_simp
        exact hK _ (.int .i64 E) _ (by simp [Act.put, h50]) (Below.refl _ _) rfl
      · -- 53
        obtain rfl := Option.some.inj ho
        have h50 : vs 50 = .bool true := hd 50 (by kernel_rfl)
        have h51 : vs 51 = .int .i64 E := hd 51 (by kernel_rfl)
        have h52 : vs 52 = .int .i64 E := hd 52 (by kernel_rfl)
        clear ho hd hi
        go_simp
        exact hK _ (.bool true) _ (by simp [Act.put, h50, h51, h52]) (Below.refl _ _) rfl
      · -- 54
        obtain rfl := Option.some.inj ho
        have h50 : vs 50 = .bool true := hd 50 (by kernel_rfl)
        have h53 : vs 53 = .bool true := hd 53 (by kernel_rfl)
        clear ho hd hi
        go_simp
        exact hK _ (.bool true) _ (by simp [Act.put, h50, h53]) (Below.refl _ _) rfl
      · -- 55
        obtain rfl := Option.some.inj ho
        have h54 : vs 54 = .bool true := hd 54 (by kernel_rfl)
        clear ho hd hi
        go_simp
        exact hK _ (.bool true) _ (by simp [Act.put, h54]) (Below.refl _ _) rfl
      · -- 56
        obtain rfl := Option.some.inj ho
        have h55 : vs 55 = .bool true := hd 55 (by kernel_rfl)
        clear ho hd hi
        obtain ⟨⟨m0, m1, m2, m3⟩, ⟨j0, j1, j2, j3⟩, ⟨k0, k1, k2, k3⟩⟩ := HFX.out W2 hb
        go_simp
        exact hK _ (Cq.val ⟨R, A, I, P, n, c, l⟩) _ (by simp [Act.put, h55]) (Below.refl _ _) rfl
      · -- 57
        obtain rfl := Option.some.inj ho
        have h55 : vs 55 = .bool true := hd 55 (by kernel_rfl)
        have h56 : vs 56 = Cq.val ⟨R, A, I, P, n, c, l⟩ := hd 56 (by kernel_rfl)
        clear ho hd hi
        go_simp
        go_at_call 23
        refine (HC_chk.out W2 hb).mono ?_
        rintro e w3 ⟨rfl, hb3⟩
        exact hK _ (.int .i64 V) _ (by simp [Act.put, h55, h56]) hb3 rfl
      · -- 58
        obtain rfl := Option.some.inj ho
        have h55 : vs 55 = .bool true := hd 55 (by kernel_rfl)
        clear ho hd hi
        obtain ⟨⟨m0, m1, m2, m3⟩, ⟨j0, j1, j2, j3⟩, ⟨k0, k1, k2, k3⟩⟩ := HFX.out W2 hb
        go_simp
        exact hK _ (Cq.val ⟨R, A, I, P, n, c, l⟩) _ (by simp [Act.put, h55]) (Below.refl _ _) rfl
      · -- 59
        obtain rfl := Option.some.inj ho
        have h55 : vs 55 = .bool true := hd 55 (by kernel_rfl)
        have h58 : vs 58 = Cq.val ⟨R, A, I, P, n, c, l⟩ := hd 58 (by kernel_rfl)
        clear ho hd hi
        go_simp
        go_at_call 24
        refine (HC_rchk.out W2 hb).mono ?_
        rintro e w3 ⟨rfl, hb3⟩
        exact hK _ (.int .i64 V) _ (by simp [Act.put, h55, h58]) hb3 rfl
      · -- 60
        obtain rfl := Option.some.inj ho
        have h55 : vs 55 = .bool true := hd 55 (by kernel_rfl)
        have h57 : vs 57 = .int .i64 V := hd 57 (by kernel_rfl)
        have h59 : vs 59 = .int .i64 V := hd 59 (by kernel_rfl)
        clear ho hd hi
        go_simp
        exact hK _ (.bool true) _ (by simp [Act.put, h55, h57, h59]) (Below.refl _ _) rfl
      · -- 61
        obtain rfl := Option.some.inj ho
        have h55 : vs 55 = .bool true := hd 55 (by kernel_rfl)
        have h60 : vs 60 = .bool true := hd 60 (by kernel_rfl)
        clear ho hd hi
        go_simp
        exact hK _ (.bool true) _ (by simp [Act.put, h55, h60]) (Below.refl _ _) rfl
      · -- 62
        obtain rfl := Option.some.inj ho
        have h61 : vs 61 = .bool true := hd 61 (by kernel_rfl)
        clear ho hd hi
        go_simp
        exact hK _ (.bool true) _ (by simp [Act.put, h61]) (Below.refl _ _) rfl
      · -- 63
        obtain rfl := Option.some.inj ho
        have h62 : vs 62 = .bool true := hd 62 (by kernel_rfl)
        clear ho hd hi
        obtain ⟨⟨m0, m1, m2, m3⟩, ⟨j0, j1, j2, j3⟩, ⟨k0, k1, k2, k3⟩⟩ := HFX.out W2 hb
        go_simp
        exact hK _ (Cq.val ⟨R, A, I, P, n, c, l⟩) _ (by simp [Act.put, h62]) (Below.refl _ _) rfl
      · -- 64
        obtain rfl := Option.some.inj ho
        have h62 : vs 62 = .bool true := hd 62 (by kernel_rfl)
        clear ho hd hi
        go_simp
        exact hK _ (.pointer (some ⟨w.heap.size, 0, none⟩)) _ (by simp [Act.put, h62]) (Below.refl _ _) rfl
      · -- 65
        obtain rfl := Option.some.inj ho
        have h62 : vs 62 = .bool true := hd 62 (by kernel_rfl)
        have h64 : vs 64 = .pointer (some ⟨w.heap.size, 0, none⟩) := hd 64 (by kernel_rfl)
        clear ho hd hi
        obtain ⟨⟨m0, m1, m2, m3⟩, ⟨j0, j1, j2, j3⟩, ⟨k0, k1, k2, k3⟩⟩ := HFX.out W2 hb
        go_simp
        exact hK _ (.int .i64 R) _ (by simp [Act.put, h62, h64]) (Below.refl _ _) rfl
      · -- 66
        obtain rfl := Option.some.inj ho
        have h62 : vs 62 = .bool true := hd 62 (by kernel_rfl)
        clear ho hd hi
        go_simp
        exact hK _ (.pointer (some ⟨w.heap.size, 1, none⟩)) _ (by simp [Act.put, h62]) (Below.refl _ _) rfl
      · -- 67
        obtain rfl := Option.some.inj ho
        have h62 : vs 62 = .bool true := hd 62 (by kernel_rfl)
        have h66 : vs 66 = .pointer (some ⟨w.heap.size, 1, none⟩) := hd 66 (by kernel_rfl)
        clear ho hd hi
        obtain ⟨⟨m0, m1, m2, m3⟩, ⟨j0, j1, j2, j3⟩, ⟨k0, k1, k2, k3⟩⟩ := HFX.out W2 hb
        go_simp
        exact hK _ (.int .i64 A) _ (by simp [Act.put, h62, h66]) (Below.refl _ _) rfl
      · -- 68
        obtain rfl := Option.some.inj ho
        have h62 : vs 62 = .bool true := hd 62 (by kernel_rfl)
        clear ho hd hi
        go_simp
        exact hK _ (.pointer (some ⟨w.heap.size, 2, none⟩)) _ (by simp [Act.put, h62]) (Below.refl _ _) rfl
      · -- 69
        obtain rfl := Option.some.inj ho
        have h62 : vs 62 = .bool true := hd 62 (by kernel_rfl)
        have h68 : vs 68 = .pointer (some ⟨w.heap.size, 2, none⟩) := hd 68 (by kernel_rfl)
        clear ho hd hi
        obtain ⟨⟨m0, m1, m2, m3⟩, ⟨j0, j1, j2, j3⟩, ⟨k0, k1, k2, k3⟩⟩ := HFX.out W2 hb
        go_simp
        exact hK _ (.int .i64 I) _ (by simp [Act.put, h62, h68]) (Below.refl _ _) rfl
      · -- 70
        obtain rfl := Option.some.inj ho
        have h62 : vs 62 = .bool true := hd 62 (by kernel_rfl)
        clear ho hd hi
        go_simp
        exact hK _ (.slice A4 n c4) _ (by simp [Act.put, h62]) (Below.refl _ _) rfl
      · -- 71
        obtain rfl := Option.some.inj ho
        have h62 : vs 62 = .bool true := hd 62 (by kernel_rfl)
        have h65 : vs 65 = .int .i64 R := hd 65 (by kernel_rfl)
        have h67 : vs 67 = .int .i64 A := hd 67 (by kernel_rfl)
        have h69 : vs 69 = .int .i64 I := hd 69 (by kernel_rfl)
        have h70 : vs 70 = .slice A4 n c4 := hd 70 (by kernel_rfl)
        clear ho hd hi
        go_simp
        exact hK _ (Cq.val ⟨R, A, I, A4, n, c4, l⟩) _ (by simp [Act.put, h62, h65, h67, h69, h70]) (Below.refl _ _) rfl
      · -- 72
        obtain rfl := Option.some.inj ho
        have h62 : vs 62 = .bool true := hd 62 (by kernel_rfl)
        have h63 : vs 63 = Cq.val ⟨R, A, I, P, n, c, l⟩ := hd 63 (by kernel_rfl)
        have h71 : vs 71 = Cq.val ⟨R, A, I, A4, n, c4, l⟩ := hd 71 (by kernel_rfl)
        clear ho hd hi
        go_simp
        go_at_call 25
        refine (HC_same.out W2 hb).mono ?_
        rintro e w3 ⟨rfl, hb3⟩
        exact hK _ (.bool true) _ (by simp [Act.put, h62, h63, h71]) hb3 rfl
      · -- 73
        obtain rfl := Option.some.inj ho
        have h62 : vs 62 = .bool true := hd 62 (by kernel_rfl)
        have h72 : vs 72 = .bool true := hd 72 (by kernel_rfl)
        clear ho hd hi
        go_simp
        exact hK _ (.bool true) _ (by simp [Act.put, h62, h72]) (Below.refl _ _) rfl
      · -- 74
        obtain rfl := Option.some.inj ho
        have h73 : vs 73 = .bool true := hd 73 (by kernel_rfl)
        clear ho hd hi
        go_simp
        exact hK _ (.bool true) _ (by simp [Act.put, h73]) (Below.refl _ _) rfl
    · intro vs W2 hb hall
      have h74 : vs 74 = .bool true := hall 74 (by decide)
      generalize hlit : putV vs 0 _ _ = z
      simp only [List.map_cons, List.map_nil, putV, Act.put, List.setIfInBounds_toArray, List.set_cons_succ, List.set_cons_zero] at hlit
      subst hlit
      rw [h74]
      have HBE := Lib.hid (HD0.out.trans (hb.mono HD0.out.size))
      clear hall hb
      go_wp2_with fail
      go_ret
      exact ⟨rfl, HBE.out⟩
end Go.Proofs.YtmnadieblhdcpaaDoor
