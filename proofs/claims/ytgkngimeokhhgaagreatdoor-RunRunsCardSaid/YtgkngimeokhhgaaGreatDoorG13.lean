/- The machine's step. -/
import Derived.Test.YtgkngimeokhhgaaGreatDoorG12
import Derived.Test.YtgkngimeokhhgaaGreatDoorG11
import Derived.Test.YtgkngimeokhhgaaGreatDoorG5
import Derived.Test.YtgkngimeokhhgaaGreatDoorG10
import Derived.Test.YtgkngimeokhhgaaGreatDoorG4
namespace Go.Proofs.YtgkngimeokhhgaaGreatDoor
open Go.RowKit Go.Sort

theorem act_any (m : Mc) (cd : Cd) (M : Nat) (x : Ji) (s : Ms) (rs : List RowU) (base : Nat) (w : World) (h : MsM w base m s rs false) (t0 : s.at_ ≤ 1000000) (t1 : s.st ≤ 1000000) (t2 : s.ce ≤ 1000000) (hk : MsOk cd M s) (hM : M + s.ce ≤ 900000) (_hR : cd.R ≤ 128) (hA : cd.A ≤ 128)
    (hx : mayJ cd.R cd.A cd.l.length x = true) (hn : I64 x.n) (hI : m.ins.length = m.i) (hI9 : m.i ≤ 128) (how : x.op = 7 ∨ x.op = 9 → (m.i : Int) ≤ x.a) (hce : (s.ce : Int) ≤ m.cells) :
    Calls Tryz.prog (actF x.op) #[.pointer (some ⟨m.g, 0, none⟩), Ji.val x] w (ActP base m s x w) := by
  obtain ⟨op, a, b, c, n⟩ := x
  obtain ⟨ha, hb, hc⟩ := may_at hx
  obtain ⟨⟨o1, o2⟩, _⟩ := mayJ_parts hx
  have hrl := hk.rl
  rw [h.nr] at hrl
  have hal := hk.al
  have hlen : ∀ i, (s.a i).length ≤ 900000 := fun i => Nat.le_trans (hk.a _).2 hM
  have hlen2 : ∀ i, (s.a i).length ≤ 1000000 := fun i => Nat.le_trans (hlen i) (by omega)
  have hrv : ∀ i, I64 (s.r i) := hk.r
  clear hx hk
  simp only at o1 o2 ha hb hc hn how
  obtain ⟨i, rfl⟩ := Int.eq_ofNat_of_zero_le ha.1
  obtain ⟨j, rfl⟩ := Int.eq_ofNat_of_zero_le hb.1
  obtain ⟨k, rfl⟩ := Int.eq_ofNat_of_zero_le hc.1
  have ha := ha.2
  have hb := hb.2
  have hc := hc.2
  rcases op_cases o1 o2 with rfl | rfl | rfl | rfl | rfl | rfl | rfl | rfl | rfl | rfl | rfl | rfl | rfl
  · exact act_0 m s rs base w _ _ _ _ h t0 t1 t2 hrv
  · have ha : (i : Int) < cd.R := ha
    exact act_1 m s rs base w _ _ _ i h t0 t1 t2 hrv (by omega) hn
  · have ha : (i : Int) < cd.R := ha
    have hb : (j : Int) < cd.R := hb
    exact act_2 m s rs base w _ _ i j h t0 t1 t2 hrv (by omega) (by omega)
  · have ha : (i : Int) < cd.R := ha
    have hb : (j : Int) < cd.R := hb
    have hc : (k : Int) < cd.R := hc
    exact act_3 m s rs base w _ i j k h t0 t1 t2 hrv (by omega) (by omega) (by omega)
  · have ha : (i : Int) < cd.R := ha
    have hb : (j : Int) < cd.R := hb
    have hc : (k : Int) < cd.R := hc
    exact act_4 m s rs base w _ i j k h t0 t1 t2 hrv (by omega) (by omega) (by omega)
  · have ha : (i : Int) < cd.R := ha
    have hb : (j : Int) < cd.R := hb
    have hc : (k : Int) < cd.R := hc
    exact act_5 m s rs base w _ i j k h t0 t1 t2 hrv (by omega) (by omega) (by omega)
  · have ha : (i : Int) < cd.R := ha
    have hb : (j : Int) < cd.A := hb
    have hc : (k : Int) < cd.R := hc
    exact act_6 m s rs base w _ i j k h t0 t1 t2 hrv (by omega) (by omega) (by omega) (by omega) hI (by omega) hlen2
  · have ha : (i : Int) < cd.A := ha
    have hb : (j : Int) < cd.R := hb
    have hc : (k : Int) < cd.R := hc
    have := how (.inl rfl)
    exact act_7 m s rs base w _ i j k h t0 t1 t2 hrv (by omega) (by omega) hI (by omega) (by omega) (by omega) hlen2 (by omega)
  · have ha : (i : Int) < cd.R := ha
    have hb : (j : Int) < cd.A := hb
    exact act_8 m s rs base w _ _ i j h t0 t1 t2 hrv (by omega) (by omega) (by omega) hI (by omega) hlen2
  · have ha : (i : Int) < cd.A := ha
    have hb : (j : Int) < cd.R := hb
    have := how (.inr rfl)
    exact act_9 m s rs base w _ _ i j h t0 t1 t2 hrv (by omega) (by omega) hI (by omega) (by omega) hlen (by omega) hce
  · exact act_10 m s rs base w _ _ _ i h t0 t1 t2 hrv
  · have ha : (i : Int) < cd.R := ha
    have hb : (j : Int) < cd.R := hb
    exact act_11 m s rs base w _ i j k h t0 t1 t2 hrv (by omega) (by omega)
  · have ha : (i : Int) < cd.R := ha
    have hb : (j : Int) < cd.R := hb
    exact act_12 m s rs base w _ i j k h t0 t1 t2 hrv (by omega) (by omega)
set_option maxRecDepth 100000 in
theorem act_enters {op : Int} (o1 : 0 ≤ op) (o2 : op ≤ 12) : ∀ args w, (callFunc (actF op) args).run Tryz.prog w = .ok (.enter (actF op) args) w := by
  rcases op_cases o1 o2 with rfl | rfl | rfl | rfl | rfl | rfl | rfl | rfl | rfl | rfl | rfl | rfl | rfl
  · exact enters_of Tryz.func46 (by kernel_rfl) rfl
  · exact enters_of Tryz.func47 (by kernel_rfl) rfl
  · exact enters_of Tryz.func48 (by kernel_rfl) rfl
  · exact enters_of Tryz.func49 (by kernel_rfl) rfl
  · exact enters_of Tryz.func50 (by kernel_rfl) rfl
  · exact enters_of Tryz.func51 (by kernel_rfl) rfl
  · exact enters_of Tryz.func52 (by kernel_rfl) rfl
  · exact enters_of Tryz.func53 (by kernel_rfl) rfl
  · exact enters_of Tryz.func54 (by kernel_rfl) rfl
  · exact enters_of Tryz.func55 (by kernel_rfl) rfl
  · exact enters_of Tryz.func56 (by kernel_rfl) rfl
  · exact enters_of Tryz.func57 (by kernel_rfl) rfl
  · exact enters_of Tryz.func58 (by kernel_rfl) rfl
/-- what the machine goes by: code that is checked, and what was handed in -/
structure McOk (m : Mc) (cd : Cd) (M : Nat) : Prop where
  l : m.l = cd.l
  n0 : m.n0 = cd.l.length
  may : cd.may = true
  own : ∀ x ∈ cd.l, x.op = 7 ∨ x.op = 9 → (m.i : Int) ≤ x.a
  ok : ∀ x ∈ cd.l, x.ok
  ins : m.ins.length = m.i
  i : (m.i : Int) = cd.I
  few : (M : Int) + m.fuel ≤ 900000
  c0 : 0 ≤ m.cells
/-- where it stands -/
structure MsAt (m : Mc) (cd : Cd) (M : Nat) (s : Ms) : Prop where
  ok : MsOk cd M s
  way : Way cd.l (-1) s.at_
  st : (s.st : Int) ≤ m.fuel
  ce : (s.ce : Int) ≤ m.cells
  cs : s.ce ≤ s.st
def StpP (base : Nat) (m : Mc) (cd : Cd) (s : Ms) (w : World) (e : Ending) (w' : World) : Prop :=
  ((s.st : Int) = m.fuel ∧ e = .returned (.int .i64 9) ∧ BelI base w w') ∨ ((s.st : Int) < m.fuel ∧ ActP base m s.tick (cd.l.getD s.at_ zJi) w e w')
theorem MsAt.at_ {m : Mc} {cd : Cd} {M : Nat} {s : Ms} (h : MsAt m cd M s) (hm : McOk m cd M) : s.at_ < cd.l.length := (small_at hm.may h.way).1
set_option maxRecDepth 100000 in
set_option maxHeartbeats 8000000 in
theorem step_any (m : Mc) (cd : Cd) (M : Nat) (s : Ms) (rs : List RowU) (base : Nat) (w : World) (h : MsM w base m s rs false) (hm : McOk m cd M) (hs : MsAt m cd M s) :
    Calls Tryz.prog 22 #[.pointer (some ⟨m.g, 0, none⟩)] w (StpP base m cd s w) := by
  have hmx : Tryz.prog.follows .mixedOrders = true := by kernel_rfl
  obtain ⟨⟨q1, q2, q3, q4, q5, q6, q7, q8⟩, hall, _⟩ := Cd.may_parts hm.may
  have hst := hs.st
  have hce := hs.ce
  have hcs := hs.cs
  have hfew := hm.few
  have hM0 : (0 : Int) ≤ (M : Int) := by omega
  have t1 : s.st ≤ 900000 := by omega
  have t0 : s.at_ ≤ 4096 := by have := hs.at_ hm; omega
  obtain ⟨x0, x1, x2, x3, x4, x5, x6, x7, x8, x9, x10, x11, x12, x13⟩ := MsM.cells h
  have HB0 : Hid (BelI base w w) := BelI.refl _ _
  have HM0 := Lib.hid h
  by_cases hf : (s.st : Int) = m.fuel
  · have d : ((s.st : Int) == m.fuel) = true := by simpa using hf
    have z1 := cell_regrown x1
    have z9 := cell_regrown x9
    clear h x0 x1 x2 x3 x4 x5 x6 x7 x8 x9 x10 x11 x12 x13 hst hce hcs hfew hM0 q1 q2 q3 q4 q5 q6 q7 q8 hall
    have HF := Lib.hid hf
    clear hf
    go_enter Tryz.func22, Tryz.ntmps22
    go_upto_region 1 with fail
    refine wp_region_quiet_below hmx (by kernel_rfl) ?_
    repeat (quiet_step (fail))
    refine wpQuiet_nil ?_
    intro _ hw'
    obtain ⟨⟨dq, osq⟩, hw''⟩ := hw'
    subst hw''
    have hb9 := below_regrown w dq osq
    have HB9 := Lib.hid (HB0.out.trans (.of hb9 HM0.out.size_))
    go_wp2_with fail
    go_ret
    exact .inl ⟨HF.out, rfl, HB9.out⟩
  have d : ((s.st : Int) == m.fuel) = false := by simpa using hf
  have HF : Hid ((s.st : Int) < m.fuel) := by unfold Hid; omega
  have z1 := cell_regrown x1
  have z9 := cell_regrown x9
  obtain ⟨x, hx⟩ : ∃ x, cd.l[s.at_]? = some x := ⟨_, List.getElem?_eq_getElem (hs.at_ hm)⟩
  have hxm := List.mem_of_getElem? hx
  have HXD : Hid (cd.l.getD s.at_ zJi = x) := by unfold Hid; rw [List.getD_eq_getElem?_getD, hx]; rfl
  have hmay := hall x hxm
  have hxo := hm.ok x hxm
  obtain ⟨⟨o1, o2⟩, _⟩ := mayJ_parts hmay
  have eL := act_enters o1 o2
  have cL := fun (W : World) (rs : List RowU) (h : MsM W base m s.tick rs false) => act_any m cd M x s.tick rs base W h (by show s.at_ + 1 ≤ _; omega) (by show s.st + 1 ≤ _; omega) (by show s.ce ≤ _; omega) hs.ok.tick (by show M + s.ce ≤ _; omega) q2 q4 hmay hxo.n hm.ins (by have := hm.i; omega) (hm.own x hxm) hce
  have HXO := Lib.hid hx
  obtain ⟨fl, hfl⟩ : ∃ f, actF x.op = f := ⟨_, rfl⟩
  rw [hfl] at eL cL
  have HFL := Lib.hid hfl
  have HOK := Lib.hid hm
  have hat0 : (0 : Int) ≤ (s.at_ : Int) := by omega
  have hat1 : (s.at_ : Int) < (m.n0 : Int) := by have := hm.n0; have := hs.at_ hm; omega
  clear h x0 x1 x2 x3 x4 x5 x6 x7 x8 x9 x10 x11 x12 x13 hst hce hcs hfew hM0 q1 q2 q3 q4 q5 q6 q7 q8 hall hf hx hxm hmay hxo o1 o2 hfl hm hs
  go_enter Tryz.func22, Tryz.ntmps22
  go_upto_region 1 with fail
  refine wp_region_quiet_below hmx (by kernel_rfl) ?_
  repeat (quiet_step (fail))
  refine wpQuiet_nil ?_
  intro _ hw'
  obtain ⟨⟨dq, osq⟩, hw''⟩ := hw'
  subst hw''
  obtain ⟨W9, hW9⟩ : ∃ W, grow (redrawn w dq) osq = W := ⟨_, rfl⟩
  have hb9 := below_regrown w dq osq
  rw [hW9] at hb9 ⊢
  have HM9 := Lib.hid (HM0.out.on hb9)
  have HB9 := Lib.hid (HB0.out.trans (.of hb9 HM0.out.size_))
  clear z1 z9 hW9 hb9
  obtain ⟨S1, hS1⟩ : ∃ S1 : Ms, ({ s with st := s.st + 1 } : Ms) = S1 := ⟨_, rfl⟩
  have hf1 := HM9.out.field (i := 1) (v := .int .i64 ((s.st : Int) + 1)) (s' := S1) (en' := false) (by rw [← hS1]) (by rw [← hS1]) (by rw [← hS1]; rfl)
  have e1 : S1.at_ = s.at_ := by rw [← hS1]
  have f1 := HM9.out.fz 1
  obtain ⟨x0, x1, x2, x3, x4, x5, x6, x7, x8, x9, x10, x11, x12, x13⟩ := MsM.cells HM9.out
  clear x0 x2 x3 x4 x5 x6 x7 x8 x9 x10 x11 x13
  obtain ⟨W1, hW1⟩ : ∃ W, W9.setCell ⟨m.g, 1, none⟩ (.int .i64 ((s.st : Int) + 1)) = W := ⟨_, rfl⟩
  rw [hW1] at hf1
  have HM1 := Lib.hid hf1.1
  have HB1 := Lib.hid (HB9.out.trans hf1.2)
  clear hf1
  go_upto_region 5 with fail
  try rw [hW1]
  clear hW1 f1 x1 x12
  have hf2 := HM1.out.field (i := 12) (v := .int .i64 ((s.at_ : Int) + 1)) (s' := s.tick) (en' := false) (by rw [← hS1]; rfl) (by rw [← hS1]; rfl) (by rw [← hS1]; rfl)
  have f12 := HM1.out.fz 12
  obtain ⟨x0, x1, x2, x3, x4, x5, x6, x7, x8, x9, x10, x11, x12, x13⟩ := MsM.cells HM1.out
  rw [e1] at x12
  clear x0 x1 x2 x3 x4 x5 x6 x7 x8 x9 x10 x11 x13 hS1 e1
  obtain ⟨W2, hW2⟩ : ∃ W, W1.setCell ⟨m.g, 12, none⟩ (.int .i64 ((s.at_ : Int) + 1)) = W := ⟨_, rfl⟩
  rw [hW2] at hf2
  have HM2 := Lib.hid hf2.1
  have HB2 := Lib.hid (HB1.out.trans hf2.2)
  clear hf2
  go_upto_region 6 with fail
  try rw [hW2]
  clear hW2 f12 x12
  obtain ⟨x0, x1, x2, x3, x4, x5, x6, x7, x8, x9, x10, x11, x12, x13⟩ := MsM.cells HM2.out
  clear x0 x1 x2 x3 x4 x5 x7 x8 x9 x10 x12 x13
  obtain ⟨cur, hc1, hc2⟩ := HM2.out.D
  have hd := hc2 s.at_ x (by rw [HOK.out.l]; exact HXO.out)
  have hd1 : W2.cell? ⟨m.gD, s.at_, none⟩ = some (.func (.func fl) #[.pointer (some ⟨m.g, 0, none⟩)] #[]) := by
    rw [cell_of_row _ _ _ _ _ _ hc1, hd, ← HFL.out]; rfl
  obtain ⟨bP, oP, x', hP, _, hx', hcJ, _⟩ := HM2.out.jis.at_ (k := s.at_) (by omega)
  obtain rfl : x = x' := by
    have h1 : m.l[s.at_]? = some x' := hx'
    rw [HOK.out.l, HXO.out] at h1
    injection h1
  rw [hP] at x6
  obtain ⟨y0, y1, y2, y3, y4⟩ := hcJ
  have zd := cell_regrown hd1
  have z6 := cell_regrown x6
  have z11 := cell_regrown x11
  have u0 := cell_regrown y0
  have u1 := cell_regrown y1
  have u2 := cell_regrown y2
  have u3 := cell_regrown y3
  have u4 := cell_regrown y4
  clear hc1 hc2 hd hd1 hP hx' x6 x11 y0 y1 y2 y3 y4 cur
  refine wp_region_below_tail 15 hmx (by kernel_rfl) ?_
  simp only [List.take_succ_cons, List.take_zero, List.drop_succ_cons, List.drop_zero]
  repeat (quiet_step (fail))
  refine wpQuiet_nil ?_
  intro _ hw'
  obtain ⟨⟨dq, osq⟩, hw''⟩ := hw'
  subst hw''
  obtain ⟨W8, hW8⟩ : ∃ W, grow (redrawn W2 dq) osq = W := ⟨_, rfl⟩
  have hb8 := below_regrown W2 dq osq
  rw [hW8] at hb8 ⊢
  have HM8 := Lib.hid (HM2.out.on hb8)
  have HB8 := Lib.hid (HB2.out.trans (.of hb8 HM2.out.size_))
  have cX := cL W8 rs HM8.out
  clear zd z6 z11 u0 u1 u2 u3 u4 hW8 hb8 cL
  go_wp2_with (go_at_fn fl; refine cX.mono ?_; rintro e w9 (⟨z, rs', hz, rfl, hM, hB⟩ | ⟨v, hz, rfl, hB⟩))
  · go_ret
    exact .inr ⟨HF.out, .inl ⟨z, rs', by rw [HXD.out]; exact hz, rfl, by rw [HXD.out]; exact hM, HB8.out.trans hB⟩⟩
  · go_ret
    exact .inr ⟨HF.out, .inr ⟨v, by rw [HXD.out]; exact hz, rfl, HB8.out.trans hB⟩⟩
end Go.Proofs.YtgkngimeokhhgaaGreatDoor
/- What is handed in is copied, one list after another. -/
namespace Go.Proofs.YtgkngimeokhhgaaGreatDoor
open Go.RowKit Go.Sort

theorem MsW.fresh {w w4 : World} {base gR gA i n' c4 : Nat} {s : Ms} {rs : List RowU} {r : RowU} {L' : List Int} {A4 : Option Addr} (h : MsW w base gR gA s rs) (hr : rs[i]? = some r) (hO : OwnI w4 base 2 A4 c4 L') (hn : L'.length = n') (hG : w.grownBy w4 none) (hl : ∀ b, A4 = some ⟨b, 0, none⟩ → w.heap.size ≤ b) :
    MsW (w4.setCell ⟨gA, i, none⟩ (.slice A4 n' c4)) base gR gA (s.arr (i : Int) L') (rs.set i ⟨A4, c4, L'⟩) ∧ KeepU base w (w4.setCell ⟨gA, i, none⟩ (.slice A4 n' c4)) ∧ w4.cell? ⟨gA, i, none⟩ = some r.hdr ∧ w4.frozen? ⟨gA, i, none⟩ = false := by
  obtain ⟨p1, p2, p3, p4, p5⟩ := h.A.fresh hr hO hn hG hl
  obtain ⟨hbg, cur, hg⟩ := h.A.heap
  have hR4 : OwnI w4 base 2 (some ⟨gR, 0, none⟩) s.R.length s.R := h.R.grownL hG fun q hq e => by cases e
  have hg4 : w4.heap[gA]? = some (.cells cur 28 (0, 0)) := (hG.block gA (lt_of_heap hg) (by simp)).trans hg
  refine ⟨⟨hR4.other hg4 (by decide) i _, p1, ?_, fun q hq => ?_⟩, ⟨p4 base w (Nat.le_refl _) (Below.refl _ _), fun b cs t hb _ h2 => p5 b cs t hb h2⟩, p2, p3⟩
  · rw [List.map_set, h.L]
    show s.A.set i _ = s.A.set (i : Int).toNat _
    rw [Int.toNat_natCast]
  · rcases List.mem_or_eq_of_mem_set hq with hq | hq
    · exact h.far q hq
    · rw [hq]
      intro e
      have e : A4 = some ⟨gR, 0, none⟩ := e
      have h1 := hl gR e
      have := h.R.ltL
      omega
structure CpU (W : World) (base gR gA i m : Nat) (T : Ms) (rs : List RowU) (L : List Int) (F : Nat → Value) (D : Nat → Bool) (vs : Nat → Value) (w' : World) : Prop where
  pre : D 6 = false → W.grownBy w' none
  vals : ∀ o, o < 6 → o ≠ 4 → D o = true → vs o = F o
  a4 : D 4 = true → D 6 = false → ∃ A4 c4, vs 4 = .slice A4 m c4 ∧ OwnI w' base 2 A4 c4 L ∧ ∀ b, A4 = some ⟨b, 0, none⟩ → W.heap.size ≤ b
  o6 : D 6 = true → D 0 = true ∧ D 1 = true ∧ D 2 = true ∧ D 3 = true ∧ D 4 = true ∧ D 5 = true
  fin : D 6 = true → ∃ A4 c4, vs 4 = .slice A4 m c4 ∧ MsW w' base gR gA (T.arr (i : Int) L) (rs.set i ⟨A4, c4, L⟩) ∧ KeepU base W w'
section
variable {W w' w'' : World} {base gR gA i m : Nat} {T : Ms} {rs : List RowU} {L : List Int} {F : Nat → Value} {D D' : Nat → Bool} {vs : Nat → Value}
theorem CpU.bel (h : CpU W base gR gA i m T rs L F D vs w') (h6 : D 6 = false) : Below W.heap.size W w' := below_of_none (h.pre h6)
theorem CpU.not6 (h : CpU W base gR gA i m T rs L F D vs w') {o : Nat} (ho : o < 6) (hd : D o = false) : D 6 = false := by
  cases e : D 6 with
  | false => rfl
  | true =>
    obtain ⟨e0, e1, e2, e3, e4, e5⟩ := h.o6 e
    rcases (by omega : o = 0 ∨ o = 1 ∨ o = 2 ∨ o = 3 ∨ o = 4 ∨ o = 5) with rfl | rfl | rfl | rfl | rfl | rfl
    · rw [e0] at hd; cases hd
    · rw [e1] at hd; cases hd
    · rw [e2] at hd; cases hd
    · rw [e3] at hd; cases hd
    · rw [e4] at hd; cases hd
    · rw [e5] at hd; cases hd
theorem CpU.other (h : CpU W base gR gA i m T rs L F D vs w') {o : Nat} (ho : o < 6 ∧ o ≠ 4) (hDi : D o = false) (hD : ∀ j, j ≠ o → D' j = D j) : CpU W base gR gA i m T rs L F D' (fun j => if j = o then F o else vs j) w' := by
  have h6 := h.not6 ho.1 hDi
  have e6 : D' 6 = D 6 := hD 6 (by omega)
  refine ⟨?_, fun j hj j4 hd => ?_, ?_, ?_, ?_⟩
  · rw [e6]; exact h.pre
  · by_cases e : j = o
    · subst e; exact if_pos rfl
    · show (if j = o then F o else vs j) = _
      rw [if_neg e]
      exact h.vals j hj j4 (by rw [← hD j e]; exact hd)
  · rw [hD 4 (by omega), e6, if_neg (by omega)]; exact h.a4
  · rw [e6, h6]; exact fun e => by cases e
  · rw [e6, h6]; exact fun e => by cases e
theorem CpU.app (h : CpU W base gR gA i m T rs L F D vs w') (hDi : D 4 = false) {A4 : Option Addr} {c4 : Nat} (hO : OwnI w'' base 2 A4 c4 L) (hG : w'.grownBy w'' none) (hA : ∀ b, A4 = some ⟨b, 0, none⟩ → w'.heap.size ≤ b) (hD : ∀ j, j ≠ 4 → D' j = D j) :
    CpU W base gR gA i m T rs L F D' (fun j => if j = 4 then .slice A4 m c4 else vs j) w'' := by
  have h6 := h.not6 (by decide) hDi
  have e6 : D' 6 = D 6 := hD 6 (by omega)
  have hp := h.pre h6
  refine ⟨fun _ => ⟨hG.1.trans hp.1, hG.2.trans hp.2, hG.3.trans hp.3, Nat.le_trans hp.4 hG.4, fun k hk hn => (hG.5 k (Nat.lt_of_lt_of_le hk hp.4) hn).trans (hp.5 k hk hn)⟩, fun j hj j4 hd => ?_, fun _ _ => ⟨A4, c4, if_pos rfl, hO, fun b hb => Nat.le_trans hp.4 (hA b hb)⟩, ?_, ?_⟩
  · show (if j = 4 then _ else vs j) = _
    rw [if_neg j4]
    exact h.vals j hj j4 (by rw [← hD j j4]; exact hd)
  · rw [e6, h6]; exact fun e => by cases e
  · rw [e6, h6]; exact fun e => by cases e
theorem CpU.put (h : CpU W base gR gA i m T rs L F D vs w') (hDi : D 6 = false) (hall : D 0 = true ∧ D 1 = true ∧ D 2 = true ∧ D 3 = true ∧ D 4 = true ∧ D 5 = true) (hM : MsW W base gR gA T rs) {r : RowU} (hr : rs[i]? = some r) (hm : L.length = m) :
    ∃ A4 c4, vs 4 = .slice A4 m c4 ∧ w'.cell? ⟨gA, i, none⟩ = some r.hdr ∧ w'.frozen? ⟨gA, i, none⟩ = false ∧
      ∀ (D' : Nat → Bool) (u : Value), (∀ q, q ≠ 6 → D' q = D q) → D' 6 = true → CpU W base gR gA i m T rs L F D' (fun j => if j = 6 then u else vs j) (w'.setCell ⟨gA, i, none⟩ (.slice A4 m c4)) := by
  obtain ⟨A4, c4, v4, hO, hl⟩ := h.a4 hall.2.2.2.2.1 hDi
  obtain ⟨p1, p2, p3, p4⟩ := hM.fresh hr hO hm (h.pre hDi) hl
  refine ⟨A4, c4, v4, p3, p4, fun D' u hD e => ?_⟩
  · refine ⟨fun e2 => (by rw [e] at e2; cases e2), fun j hj j4 hd => ?_, fun _ e2 => (by rw [e] at e2; cases e2), fun _ => ?_, fun _ => ⟨A4, c4, v4, p1, p2⟩⟩
    · show (if j = 6 then u else vs j) = _
      rw [if_neg (by omega)]
      exact h.vals j hj j4 (by rw [← hD j (by omega)]; exact hd)
    · rw [hD 0 (by decide), hD 1 (by decide), hD 2 (by decide), hD 3 (by decide), hD 4 (by decide), hD 5 (by decide)]
      exact hall
theorem CpU.same (h : CpU W base gR gA i m T rs L F D vs w') (hD : ∀ o, o < 7 → D o = D' o) : CpU W base gR gA i m T rs L F D' vs w' := by
  have e0 := hD 0 (by decide); have e1 := hD 1 (by decide); have e2 := hD 2 (by decide); have e3 := hD 3 (by decide); have e4 := hD 4 (by decide); have e5 := hD 5 (by decide); have e6 := hD 6 (by decide)
  refine ⟨?_, fun j hj j4 hd => h.vals j hj j4 (by rw [hD j (by omega)]; exact hd), ?_, ?_, ?_⟩
  · rw [← e6]; exact h.pre
  · rw [← e4, ← e6]; exact h.a4
  · rw [← e0, ← e1, ← e2, ← e3, ← e4, ← e5, ← e6]; exact h.o6
  · rw [← e6]; exact h.fin
end
end Go.Proofs.YtgkngimeokhhgaaGreatDoor
/- A run that goes on from where it stands; what is kept beside it. -/
namespace Go.Proofs.YtgkngimeokhhgaaGreatDoor
open Go.RowKit Go.Sort

/-- the way so far, ahead of what comes -/
def joinM (p : List Nat) : Except Int (Ms × List Nat) → Except Int (Ms × List Nat)
  | .ok zp => .ok (zp.1, p ++ zp.2)
  | .error e => .error e
theorem joinM_nil (r : Except Int (Ms × List Nat)) : joinM [] r = r := by cases r <;> rfl
theorem goM_err {c : Cd} {cells v : Int} {k : Nat} {s : Ms} {p : List Nat} (h : stepM s (c.l.getD s.at_ zJi) cells = .error v) : joinM p (goM c cells (k + 1) s) = .error v := by
  unfold goM; rw [h]; rfl
theorem goM_halt {c : Cd} {cells : Int} {k : Nat} {s z : Ms} {p : List Nat} (h : stepM s (c.l.getD s.at_ zJi) cells = .ok z) (h0 : (c.l.getD s.at_ zJi).op = 0) : joinM p (goM c cells (k + 1) s) = .ok (z, p ++ [s.at_]) := by
  unfold goM; rw [h]; simp only [h0, if_true]; rfl
theorem goM_next {c : Cd} {cells : Int} {k : Nat} {s z : Ms} {p : List Nat} (h : stepM s (c.l.getD s.at_ zJi) cells = .ok z) (h0 : (c.l.getD s.at_ zJi).op ≠ 0) : joinM p (goM c cells (k + 1) s) = joinM (p ++ [s.at_]) (goM c cells k z) := by
  conv => lhs; unfold goM
  rw [h]
  simp only [h0, if_false]
  cases goM c cells k z with
  | error e => rfl
  | ok zp => simp [joinM]
/-- a list of another kind of numbers stays over a step -/
theorem OwnI.keepU {w w' : World} {base c : Nat} {A : Option Addr} {xs : List Int} (h : OwnI w base 3 A c xs) (hk : KeepU base w w') : OwnI w' base 3 A c xs := by
  refine ⟨⟨h.1.1, ?_⟩, h.2⟩
  rcases h.1.2 with h1 | ⟨g, cap, cur, h1, h2, h3, h4⟩
  · exact .inl h1
  · exact .inr ⟨g, cap, cur, h1, h2, hk.blk _ _ _ h3 (by decide) (by decide), h4⟩
/-- what code works on stays over an append to a list of another kind -/
theorem MsW.beside {w w' : World} {base gR gA base2 c : Nat} {s : Ms} {rs : List RowU} {A : Option Addr} {xs : List Int} (h : MsW w base gR gA s rs) (hO : OwnI w base2 3 A c xs) {n : Nat} (hn : xs.length = n) (hG : w.grownBy w' (Value.slice A n c).ownBlock) : MsW w' base gR gA s rs := by
  subst hn
  have hty : ∀ b, (Value.slice A xs.length c).ownBlock = some b → ∃ cs, w.heap[b]? = some (.cells cs 3 (0, 0)) := by
    intro b hb
    rcases hO.1.2 with ⟨h1, _⟩ | ⟨g', cap, cur2, h1, _, h3, _⟩
    · injection h1 with h1; rw [h1] at hb; cases hb
    · injection h1 with h1
      rw [h1] at hb
      simp only [Value.ownBlock, Option.some.injEq] at hb
      subst hb
      exact ⟨cur2, h3⟩
  have hI : ∀ (A' : Option Addr) (c' : Nat) (ys : List Int), OwnI w base 2 A' c' ys → OwnI w' base 2 A' c' ys := fun A' c' ys ho => ho.grownL hG fun q hq e => by
    obtain ⟨cs, hc⟩ := hty q e.symm
    rcases ho.1.2 with ⟨h1, _⟩ | ⟨g', cap, cur2, h1, _, h3, _⟩
    · injection h1 with h1; rw [hq] at h1; cases h1
    · injection h1 with h1
      rw [hq] at h1
      injection h1 with h1; injection h1 with h1
      subst h1
      rw [hc] at h3
      injection h3 with h3; injection h3 with _ h3
      exact absurd h3 (by decide)
  obtain ⟨_, cur, hgA⟩ := h.A.heap
  refine ⟨hI _ _ _ h.R, ⟨World.ownsRow.kept h.A.rows hG (.inr ?_), fun r hr => hI _ _ _ (h.A.ins r hr), h.A.apart⟩, h.L, h.far⟩
  intro e
  have e : (Value.slice A xs.length c).ownBlock = some gA := by simpa [Value.ownBlock] using e.symm
  obtain ⟨cs, hc⟩ := hty gA e
  rw [hc] at hgA
  injection hgA with hgA; injection hgA with _ hgA
  exact absurd hgA (by decide)
/-- a block of another type stays over an append to a list of numbers -/
theorem OwnI.boxes {w w' : World} {base c b : Nat} {A : Option Addr} {xs : List Int} {cs : Array Value} {t : TypeId} (hO : OwnI w base 3 A c xs) {n : Nat} (hn : xs.length = n) (hG : w.grownBy w' (Value.slice A n c).ownBlock) (hb : w.heap[b]? = some (.cells cs t (0, 0))) (ht : t ≠ 3) : w'.heap[b]? = some (.cells cs t (0, 0)) := by
  subst hn
  refine (hG.block b (lt_of_heap hb) fun e => ?_).trans hb
  rcases hO.1.2 with ⟨h1, _⟩ | ⟨g', cap, cur2, h1, _, h3, _⟩
  · injection h1 with h1; rw [h1] at e; cases e
  · injection h1 with h1
    rw [h1] at e
    simp only [Value.ownBlock, Option.some.injEq] at e
    subst e
    rw [hb] at h3
    injection h3 with h3; injection h3 with _ h3
    exact ht h3
theorem OwnI.put5 {w : World} {base c0 g : Nat} {A : Option Addr} {xs : List Int} {a b c d e : Value} (h : OwnI w base 3 A c0 xs) (hg : w.heap[g]? = some (.cells #[a, b, c, d, e] 54 (0, 0))) (x0 x1 x2 x3 x4 : Value) : OwnI (put5 w g x0 x1 x2 x3 x4) base 3 A c0 xs := by
  have k0 := set_j (i := 0) (cs := [a, b, c, d, e]) hg x0
  have k1 := set_j (i := 1) (cs := [x0, b, c, d, e]) k0 x1
  have k2 := set_j (i := 2) (cs := [x0, x1, c, d, e]) k1 x2
  have k3 := set_j (i := 3) (cs := [x0, x1, x2, d, e]) k2 x3
  exact ((((h.other hg (by decide) 0 x0).other k0 (by decide) 1 x1).other k1 (by decide) 2 x2).other k2 (by decide) 3 x3).other k3 (by decide) 4 x4
theorem map_snoc (p : List Nat) (i : Nat) : (p ++ [i]).map (fun n : Nat => (n : Int)) = p.map (fun n : Nat => (n : Int)) ++ [(i : Int)] := by simp
theorem start_nil (c : Cd) : startM c [] = freshM c.R.toNat c.A.toNat := rfl
theorem start_next (c : Cd) {ins : List (List Int)} {i : Nat} {L : List Int} (h : ins[i]? = some L) (hn : ins.length ≤ c.A.toNat) : (startM c (ins.take i)).arr (i : Int) L = startM c (ins.take (i + 1)) := by
  have hi := (List.getElem?_eq_some_iff.1 h).1
  have e1 : (ins.take i).length = i := by rw [List.length_take]; omega
  have e2 : (ins.take (i + 1)).length = i + 1 := by rw [List.length_take]; omega
  unfold startM Ms.arr
  simp only [Int.toNat_natCast, Ms.mk.injEq, true_and, and_true]
  rw [e1, e2, show ins.take (i + 1) = ins.take i ++ [L] from by rw [List.take_add_one, h]; rfl]
  obtain ⟨m, hm⟩ : ∃ m, c.A.toNat - i = m + 1 := ⟨c.A.toNat - i - 1, by omega⟩
  have hm2 : c.A.toNat - (i + 1) = m := by omega
  have e3 : ∀ (P Q : List (List Int)) (u : List Int), P.length = i → (P ++ u :: Q).set i L = P ++ [L] ++ Q := fun P Q u hp => by
    rw [List.set_append_right _ _ (by omega), hp, Nat.sub_self]
    simp
  rw [hm, hm2, List.replicate_succ, e3 _ _ _ e1]
end Go.Proofs.YtgkngimeokhhgaaGreatDoor
/- The machine goes on till the code has ended. -/
namespace Go.Proofs.YtgkngimeokhhgaaGreatDoor
open Go.RowKit Go.Sort

theorem MsAt.next {m : Mc} {cd : Cd} {M : Nat} {s z : Ms} (hs : MsAt m cd M s) (hm : McOk m cd M) (hf : (s.st : Int) < m.fuel) (hd : doM s.tick (cd.l.getD s.at_ zJi) m.cells = .ok z) (h0 : (cd.l.getD s.at_ zJi).op ≠ 0) : MsAt m cd M z := by
  obtain ⟨h1, h2⟩ := small_at hm.may hs.way
  obtain ⟨g1, g2⟩ := may_get hm.may h1
  obtain ⟨k1, _, _, _, k2, k3⟩ := doM_keeps hd
  have k1 : z.st = s.st + 1 := k1
  have k2 : z.ce ≤ s.ce + 1 := by
    rw [k2]
    show s.ce + _ ≤ s.ce + 1
    split <;> omega
  have hce := hs.ce
  have hcs := hs.cs
  have hfew := hm.few
  exact ⟨hs.ok.tick.do_ (hm.ok _ (List.mem_of_getElem? g2)) (by show M + s.ce ≤ 1000000; omega) hd, Way.on hm.may hs.way g2 (stepM_next g1 h2 hd h0), by omega, k3 hce, by omega⟩
theorem MsAt.st_ {m : Mc} {s z : Ms} {x : Ji} (hd : doM s.tick x m.cells = .ok z) : z.st = s.st + 1 := (doM_keeps hd).1
/-- what is known of a run that stands somewhere -/
def FinI (m : Mc) (cd : Cd) (M : Nat) (RES : Except Int (Ms × List Nat)) (k : Nat) (s : Ms) (en : Bool) : Prop :=
  (en = false ∧ MsAt m cd M s ∧ ∃ p, RES = joinM p (goM cd m.cells (m.fuel - (s.st : Int)).toNat s) ∧ (m.fuel - (s.st : Int)).toNat + 1 ≤ k) ∨ (en = true ∧ ∃ p, RES = .ok (s, p))
theorem FinI.err {m : Mc} {cd : Cd} {M k : Nat} {RES : Except Int (Ms × List Nat)} {s : Ms} {v : Int} (h : FinI m cd M RES k s false) (hf : (s.st : Int) < m.fuel) (hd : doM s.tick (cd.l.getD s.at_ zJi) m.cells = .error v) : RES = .error v := by
  rcases h with ⟨_, _, p, h, _⟩ | ⟨h, _⟩
  · obtain ⟨n, hn⟩ : ∃ n, (m.fuel - (s.st : Int)).toNat = n + 1 := ⟨(m.fuel - (s.st : Int)).toNat - 1, by omega⟩
    rw [h, hn]
    exact goM_err hd
  · cases h
theorem FinI.out {m : Mc} {cd : Cd} {M k : Nat} {RES : Except Int (Ms × List Nat)} {s : Ms} (h : FinI m cd M RES k s false) (hf : (s.st : Int) = m.fuel) : RES = .error 9 := by
  rcases h with ⟨_, _, p, h, _⟩ | ⟨h, _⟩
  · rw [h, show (m.fuel - (s.st : Int)).toNat = 0 by omega]; rfl
  · cases h
theorem FinI.on {m : Mc} {cd : Cd} {M k : Nat} {RES : Except Int (Ms × List Nat)} {s z : Ms} (h : FinI m cd M RES k s false) (hm : McOk m cd M) (hf : (s.st : Int) < m.fuel) (hd : doM s.tick (cd.l.getD s.at_ zJi) m.cells = .ok z) : 1 ≤ k ∧ FinI m cd M RES (k - 1) z (decide ((cd.l.getD s.at_ zJi).op = 0)) := by
  rcases h with ⟨_, ha, p, h, hk⟩ | ⟨h, _⟩
  · refine ⟨by omega, ?_⟩
    obtain ⟨n, hn⟩ : ∃ n, (m.fuel - (s.st : Int)).toNat = n + 1 := ⟨(m.fuel - (s.st : Int)).toNat - 1, by omega⟩
    have hz := MsAt.st_ hd
    rw [hn] at h hk
    by_cases h0 : (cd.l.getD s.at_ zJi).op = 0
    · refine .inr ⟨decide_eq_true h0, p ++ [s.at_], ?_⟩
      rw [h]; exact goM_halt hd h0
    · refine .inl ⟨decide_eq_false h0, ha.next hm hf hd h0, p ++ [s.at_], ?_, by omega⟩
      rw [h, show (m.fuel - (z.st : Int)).toNat = n by omega]
      exact goM_next hd h0
  · cases h
theorem StpP.ne {base : Nat} {m : Mc} {cd : Cd} {s : Ms} {w w' : World} {e : Ending} (h : StpP base m cd s w e w') :
    ((s.st : Int) = m.fuel ∧ e = .returned (.int .i64 9) ∧ BelI base w w') ∨ ((s.st : Int) < m.fuel ∧ ∃ z rs', doM s.tick (cd.l.getD s.at_ zJi) m.cells = .ok z ∧ e = .returned (.int .i64 0) ∧ MsM w' base m z rs' (decide ((cd.l.getD s.at_ zJi).op = 0)) ∧ BelI base w w') ∨
    ((s.st : Int) < m.fuel ∧ ∃ v, (v != 0) = true ∧ doM s.tick (cd.l.getD s.at_ zJi) m.cells = .error v ∧ e = .returned (.int .i64 v) ∧ BelI base w w') := by
  rcases h with h | ⟨hf, h | ⟨v, h1, h2⟩⟩
  · exact .inl h
  · exact .inr (.inl ⟨hf, h⟩)
  · refine .inr (.inr ⟨hf, v, ?_, h1, h2⟩)
    rcases doM_errors h1 with ⟨rfl, _⟩ | ⟨rfl, _⟩ <;> decide
set_option maxRecDepth 100000 in
set_option maxHeartbeats 4000000 in
theorem finish_any (m : Mc) (cd : Cd) (M : Nat) (s : Ms) (rs : List RowU) (base : Nat) (w : World) (h : MsM w base m s rs false) (hm : McOk m cd M) (hs : MsAt m cd M s) :
    Calls Tryz.prog 20 #[.pointer (some ⟨m.g, 0, none⟩)] w fun e w' => (∃ v, goM cd m.cells (m.fuel - (s.st : Int)).toNat s = .error v ∧ e = .returned (.int .i64 v) ∧ BelI base w w') ∨
      (∃ z p rs', goM cd m.cells (m.fuel - (s.st : Int)).toNat s = .ok (z, p) ∧ e = .returned (.int .i64 0) ∧ MsM w' base m z rs' true ∧ BelI base w w') := by
  obtain ⟨RES, hR⟩ : ∃ r, goM cd m.cells (m.fuel - (s.st : Int)).toNat s = r := ⟨_, rfl⟩
  obtain ⟨N, hN⟩ : ∃ N, (m.fuel - (s.st : Int)).toNat + 1 = N := ⟨_, rfl⟩
  have HI0 : Hid (FinI m cd M RES N s false) := .inl ⟨rfl, hs, [], by rw [joinM_nil, hR], by omega⟩
  have HM0 := Lib.hid h
  have HB0 : Hid (BelI base w w) := BelI.refl _ _
  rw [hR]
  have HOK := Lib.hid hm
  clear h hR hN hs hm
  go_enter Tryz.func20, Tryz.ntmps20
  go_wp2_with fail
  go_loopg [3] N (fun k _ wr => ∃ (en : Bool) (s' : Ms) (rs' : List RowU), Hid (MsM wr base m s' rs' en) ∧ Hid (BelI base w wr) ∧ Hid (FinI m cd M RES k s' en))
  case atStart => exact ⟨false, s, rs, HM0, HB0, HI0⟩
  case round =>
    obtain ⟨en, s', rs', HM, HB, HI⟩ := hrel
    clear HM0 HB0 HI0
    obtain ⟨x0, x1, x2, x3, x4, x5, x6, x7, x8, x9, x10, x11, x12, x13⟩ := MsM.cells HM.out
    clear x0 x1 x2 x3 x4 x5 x6 x7 x8 x9 x10 x11 x12
    cases en with
    | true =>
      go_wp2_with fail
      go_ret
      rcases HI.out with ⟨h, _⟩ | ⟨_, p, h⟩
      · cases h
      · exact .inr ⟨s', p, rs', h, rfl, HM.out, HB.out⟩
    | false =>
      have hat : MsAt m cd M s' := by
        rcases HI.out with ⟨_, h, _⟩ | ⟨h, _⟩
        · exact h
        · cases h
      have cS := step_any m cd M s' rs' base wr HM.out HOK.out hat
      clear hat
      go_upto_region 2 with fail
      clear x13
      go_wp2_with (first | (go_at_call 22; refine cS.mono ?_; intro e w9 hP; rcases hP.ne with ⟨hf, rfl, hB⟩ | ⟨hf, z, rs9, hz, rfl, hM, hB⟩ | ⟨hf, v, hv0, hz, rfl, hB⟩))
      · go_ret
        exact .inl ⟨9, HI.out.out hf, rfl, HB.out.trans hB⟩
      · obtain ⟨h1, h2⟩ := HI.out.on HOK.out hf hz
        go_roundg (gk - 1)
        · exact ⟨_, z, rs9, Lib.hid hM, Lib.hid (HB.out.trans hB), Lib.hid h2⟩
        · omega
      · go_ret
        exact .inl ⟨v, HI.out.err hf hz, rfl, HB.out.trans hB⟩
end Go.Proofs.YtgkngimeokhhgaaGreatDoor
/- How the instructions that are reached are marked, round by round: plain mathematics. Nothing is claimed of the program here. -/
namespace Go.Proofs.YtgkngimeokhhgaaGreatDoor
open Go.RowKit

/-- what is marked of a list of instructions -/
structure RcI (l : List Ji) (but : Int) (o : List Bool) : Prop where
  len : o.length = l.length
  z : o[0]? = some true
  snd : ∀ i : Nat, o[i]? = some true → Way l but i
/-- where it goes on from what is marked is marked -/
def RcC (l : List Ji) (but : Int) (o : List Bool) : Prop := ∀ (i : Nat) (x : Ji) (k : Nat), o[i]? = some true → l[i]? = some x → ¬(setsJ x = true ∧ writesJ x = but) → (k : Int) ∈ nextJ x i → o[k]? = some true
def RcL (o o2 : List Bool) : Prop := ∀ i : Nat, o[i]? = some true → o2[i]? = some true
def cntB (o : List Bool) : Nat := o.countP id
theorem rcL_cons {a b : Bool} {o o2 : List Bool} (h : RcL (a :: o) (b :: o2)) : (a = true → b = true) ∧ RcL o o2 :=
  ⟨fun e => by have := h 0 (by simp [e]); simpa using this, fun i hi => by have := h (i + 1) (by simpa using hi); simpa using this⟩
theorem cnt_le : ∀ {o o2 : List Bool}, o.length = o2.length → RcL o o2 → cntB o ≤ cntB o2 ∧ (cntB o = cntB o2 → o = o2)
  | [], [], _, _ => ⟨Nat.le_refl _, fun _ => rfl⟩
  | [], _ :: _, h, _ => by simp at h
  | _ :: _, [], h, _ => by simp at h
  | a :: o, b :: o2, h, hl => by
    obtain ⟨h1, h2⟩ := rcL_cons hl
    obtain ⟨i1, i2⟩ := cnt_le (o := o) (o2 := o2) (by simpa using h) h2
    unfold cntB at *
    rw [List.countP_cons, List.countP_cons]
    cases a <;> cases b
    · simp only [id, Bool.false_eq_true, if_false, Nat.add_zero]
      exact ⟨i1, fun e => by rw [i2 e]⟩
    · simp only [id, Bool.false_eq_true, if_false, if_true, Nat.add_zero]
      exact ⟨by omega, fun e => by omega⟩
    · exact absurd (h1 rfl) (by decide)
    · simp only [id, if_true]
      exact ⟨by omega, fun e => by rw [i2 (by omega)]⟩
theorem cnt_len (o : List Bool) : cntB o ≤ o.length := List.countP_le_length
theorem closed_all {l : List Ji} {but : Int} {o : List Bool} (hz : o[0]? = some true) (hc : RcC l but o) {k : Nat} (h : Way l but k) : o[k]? = some true := by
  induction h with
  | start => exact hz
  | step _ hl hn hk ih => exact hc _ _ _ ih hl hn hk
/-- behind r rounds -/
structure RcR (l : List Ji) (but : Int) (r : Nat) (o : List Bool) : Prop where
  base : RcI l but o
  pr : RcC l but o ∨ r + 1 ≤ cntB o
theorem RcR.start {l : List Ji} {but : Int} (h : 0 < l.length) : RcR l but 0 ((List.replicate l.length false).set 0 true) := by
  have h0 : ((List.replicate l.length false).set 0 true)[0]? = some true := by rw [List.getElem?_set_self (by simpa using h)]
  refine ⟨⟨by simp, h0, fun i hi => ?_⟩, .inr ?_⟩
  · by_cases e : i = 0
    · subst e; exact .start
    · rw [List.getElem?_set_ne (by omega), List.getElem?_replicate] at hi
      split at hi <;> simp at hi
  · unfold cntB
    have : 0 < ((List.replicate l.length false).set 0 true).countP id := List.countP_pos_iff.2 ⟨true, List.mem_of_getElem? h0, rfl⟩
    omega
/-- in a round, ahead of instruction i; o0 is what was marked at its start -/
structure RcN (l : List Ji) (but : Int) (o0 : List Bool) (i : Nat) (o : List Bool) : Prop where
  base : RcI l but o
  le : RcL o0 o
  done : ∀ i2, i2 < i → ∀ (x : Ji) (k : Nat), o0[i2]? = some true → l[i2]? = some x → ¬(setsJ x = true ∧ writesJ x = but) → (k : Int) ∈ nextJ x i2 → o[k]? = some true
theorem RcN.start {l : List Ji} {but : Int} {o : List Bool} (h : RcI l but o) : RcN l but o 0 o := ⟨h, fun _ h => h, fun i2 h2 => absurd h2 (by omega)⟩
theorem RcN.skip {l : List Ji} {but : Int} {o0 o : List Bool} {i : Nat} {x : Ji} (h : RcN l but o0 i o) (hx : l[i]? = some x) (hs : o[i]? ≠ some true ∨ (setsJ x = true ∧ writesJ x = but)) : RcN l but o0 (i + 1) o := by
  refine ⟨h.base, h.le, fun i2 h2 y k h3 h4 h5 h6 => ?_⟩
  by_cases e : i2 = i
  · subst e
    rw [hx] at h4
    injection h4 with h4
    subst h4
    rcases hs with hs | hs
    · exact absurd (h.le _ h3) hs
    · exact absurd hs h5
  · exact h.done i2 (by omega) y k h3 h4 h5 h6
/-- at an instruction that is marked, and may be gone through: the first j of those where it goes on are marked -/
structure RcJ (l : List Ji) (but : Int) (o0 : List Bool) (i : Nat) (x : Ji) (j : Nat) (o : List Bool) : Prop where
  base : RcN l but o0 i o
  at_ : l[i]? = some x
  mkd : o[i]? = some true
  may : ¬(setsJ x = true ∧ writesJ x = but)
  done : ∀ j2, j2 < j → ∀ k : Nat, (nextJ x i)[j2]? = some (k : Int) → o[k]? = some true
theorem RcN.open_ {l : List Ji} {but : Int} {o0 o : List Bool} {i : Nat} {x : Ji} (h : RcN l but o0 i o) (hx : l[i]? = some x) (hm : o[i]? = some true) (hn : ¬(setsJ x = true ∧ writesJ x = but)) : RcJ l but o0 i x 0 o := ⟨h, hx, hm, hn, fun j2 h2 => absurd h2 (by omega)⟩
theorem set_true {o : List Bool} {k i : Nat} (h : o[i]? = some true) : (o.set k true)[i]? = some true := by
  by_cases e : k = i
  · subst e
    exact List.getElem?_set_self (List.getElem?_eq_some_iff.1 h).1
  · rw [List.getElem?_set_ne e]; exact h
theorem RcJ.step {l : List Ji} {but : Int} {o0 o : List Bool} {i j k : Nat} {x : Ji} (h : RcJ l but o0 i x j o) (hk : (nextJ x i)[j]? = some (k : Int)) (hl : k < l.length) : RcJ l but o0 i x (j + 1) (o.set k true) := by
  refine ⟨⟨⟨by rw [List.length_set]; exact h.base.base.len, set_true h.base.base.z, fun i2 h2 => ?_⟩, fun i2 h2 => set_true (h.base.le _ h2), fun i2 h2 y k2 h3 h4 h5 h6 => set_true (h.base.done i2 h2 y k2 h3 h4 h5 h6)⟩, h.at_, set_true h.mkd, h.may, fun j2 h2 k2 h3 => ?_⟩
  · by_cases e : k = i2
    · subst e
      exact .step (h.base.base.snd i h.mkd) h.at_ h.may (List.mem_of_getElem? hk)
    · rw [List.getElem?_set_ne e] at h2
      exact h.base.base.snd _ h2
  · by_cases e : j2 = j
    · subst e
      rw [hk] at h3
      injection h3 with h3
      have : k = k2 := by omega
      subst this
      exact List.getElem?_set_self (by rw [h.base.base.len]; exact hl)
    · exact set_true (h.done j2 (by omega) k2 h3)
theorem RcJ.close {l : List Ji} {but : Int} {o0 o : List Bool} {i j : Nat} {x : Ji} (h : RcJ l but o0 i x j o) (hj : j = (nextJ x i).length) : RcN l but o0 (i + 1) o := by
  refine ⟨h.base.base, h.base.le, fun i2 h2 y k h3 h4 h5 h6 => ?_⟩
  by_cases e : i2 = i
  · subst e
    rw [h.at_] at h4
    injection h4 with h4
    subst h4
    obtain ⟨j2, e2⟩ := List.mem_iff_getElem?.1 h6
    have hj2 := (List.getElem?_eq_some_iff.1 e2).1
    exact h.done j2 (by omega) k e2
  · exact h.base.done i2 (by omega) y k h3 h4 h5 h6
theorem RcN.close {l : List Ji} {but : Int} {o0 o : List Bool} {r : Nat} (h0 : RcR l but r o0) (h : RcN l but o0 l.length o) : RcR l but (r + 1) o := by
  refine ⟨h.base, ?_⟩
  rcases h0.pr with hc | hc
  · left
    intro i x k h1 h2 h3 h4
    exact h.le _ (closed_all h0.base.z hc (.step (h.base.snd i h1) h2 h3 h4))
  · obtain ⟨h1, h2⟩ := cnt_le (o := o0) (o2 := o) (h0.base.len.trans h.base.len.symm) h.le
    by_cases e : cntB o0 = cntB o
    · left
      have e2 := h2 e
      intro i x k h3 h4 h5 h6
      refine h.done i (List.getElem?_eq_some_iff.1 h4).1 x k ?_ h4 h5 h6
      rw [e2]; exact h3
    · right; omega
open Classical in
theorem RcR.done {c : Cd} {but : Int} {o : List Bool} (h : RcR c.l but c.l.length o) : o = reachB c but := by
  have hc : RcC c.l but o := by
    rcases h.pr with hc | hc
    · exact hc
    · have := cnt_len o
      have := h.base.len
      omega
  apply List.ext_getElem?
  intro i
  unfold reachB
  by_cases hi : i < c.l.length
  · rw [List.getElem?_map, List.getElem?_range hi]
    have hio : i < o.length := by rw [h.base.len]; exact hi
    rw [List.getElem?_eq_getElem hio]
    simp only [Option.map_some, Option.some.injEq]
    by_cases hw : Way c.l but i
    · have := closed_all h.base.z hc hw
      rw [List.getElem?_eq_getElem hio] at this
      injection this with this
      rw [this]
      exact (by simpa using hw)
    · cases hv : o[i] with
      | false => simpa using hw
      | true => exact absurd (h.base.snd i (by rw [List.getElem?_eq_getElem hio, hv])) hw
  · rw [List.getElem?_eq_none (by rw [h.base.len]; omega), List.getElem?_eq_none (by simp; omega)]
end Go.Proofs.YtgkngimeokhhgaaGreatDoor
/- The document's marking of what is reached. -/
namespace Go.Proofs.YtgkngimeokhhgaaGreatDoor
open Go.RowKit

theorem next_two15 (x : Ji) (i : Int) : (nextJ x i).length ≤ 2 := by
  unfold nextJ
  repeat' split
  all_goals simp
/-- where the variables of reach lie -/
structure RchI (w : World) (q : Cq) (g : Nat) (W : World) (o : List Bool) : Prop where
  bel : Below w.heap.size w W
  bx : W.heap[w.heap.size]? = some q.obj
  gn : w.heap.size < g
  ob : BoB W g o
section
variable {w W W' : World} {q : Cq} {g : Nat} {o : List Bool}
theorem RchI.on (h : RchI w q g W o) (hb : Below W.heap.size W W') : RchI w q g W' o := ⟨h.bel.trans (hb.mono h.bel.size), keep_b hb h.bx, h.gn, keep_b hb h.ob⟩
theorem RchI.set (h : RchI w q g W o) (k : Nat) : RchI w q g (W.setCell ⟨g, k, none⟩ (.bool true)) (o.set k true) := by
  have := h.gn
  exact ⟨h.bel.setCell (p := ⟨g, k, none⟩) (by show w.heap.size ≤ g; omega) _, (Below.heap_setCell _ ⟨g, k, none⟩ _ _ (by show w.heap.size ≠ g; omega)).trans h.bx, h.gn, h.ob.set k true⟩
end
def RchP (q : Cq) (but : Int) (w : World) (e : Ending) (w' : World) : Prop := ∃ g, e = .returned (.slice (some ⟨g, 0, none⟩) q.n q.n) ∧ w.heap.size ≤ g ∧ BoB w' g (reachB q.cd but) ∧ Below w.heap.size w w'
set_option maxRecDepth 100000 in
set_option maxHeartbeats 8000000 in
theorem refReachI_any (q : Cq) (but : Int) (w : World) (hq : q.In w) (hm : q.cd.may = true) : Calls Tryz.prog 94 #[q.val, .int .i64 but] w (RchP q but w) := by
  obtain ⟨R, A, I, P, n, c, l⟩ := q
  have HQ := Lib.hid hq
  have HLN : Hid (l.length = n) := hq.len
  have HM := Lib.hid hm
  obtain ⟨⟨_, _, _, _, _, _, hl0, hl1⟩, _⟩ := Cd.may_parts hm
  have hl0 : 1 ≤ l.length := hl0
  have hl1 : l.length ≤ 4096 := hl1
  rw [HLN.out] at hl0 hl1
  obtain ⟨i2, hi2, hx0, hx1, hx2⟩ := info_parts infoBo
  have hmk := fun W => run_makeBo (P := Tryz.prog) 108 4 i2 Tryz.underlying108 hi2 hx0 hx1 hx2 n (by omega) W
  have HXO : Hid (∀ x ∈ l, x.ok) := hq.ins.2.1
  obtain ⟨W0, hW0⟩ : ∃ W, w.alloc (Cq.obj ⟨R, A, I, P, n, c, l⟩) = W := ⟨_, rfl⟩
  obtain ⟨W1, hW1⟩ : ∃ W, W0.alloc (.cells (Array.replicate n (Value.bool false)) 4) = W := ⟨_, rfl⟩
  obtain ⟨g, hg⟩ : ∃ z, W0.heap.size = z := ⟨_, rfl⟩
  have HI0 : Hid (RchI w ⟨R, A, I, P, n, c, l⟩ g W1 (List.replicate n false)) := by
    have h0 : W0.heap[w.heap.size]? = some (Cq.obj ⟨R, A, I, P, n, c, l⟩) := by rw [← hW0]; exact heap_alloc_new w _
    have hb0 : Below w.heap.size w W0 := by rw [← hW0]; exact lvBelow w _
    have hb1 : Below W0.heap.size W0 W1 := by rw [← hW1]; exact lvBelow W0 _
    exact ⟨hb0.trans (hb1.mono hb0.size), keep_b hb1 h0, by rw [← hg]; exact lt_of_heap h0, by rw [← hg, ← hW1]; exact BoB.made W0 n⟩
  have hX0 := heap_alloc_new w (Cq.obj ⟨R, A, I, P, n, c, l⟩)
  rw [hW0] at hX0
  obtain ⟨k0, k1, k2, k3, _⟩ := lvCells hX0
  have HW1 := Lib.hid hW1
  have HGG := Lib.hid hg
  have l0 : (0 : Int) < (n : Int) := by omega
  clear hq hm hX0 hW1 hg
  go_enter Tryz.func94, Tryz.ntmps94
  go_upto_region 2 with fail
  try rw [hW0]
  rw [HW1.out, HGG.out]
  clear k0 k1 k2 k3 hmk
  obtain ⟨o0, of0⟩ := HI0.out.ob.at_ (i := 0) (v := false) (by rw [List.getElem?_replicate, if_pos (by omega)])
  have HI1 := Lib.hid (HI0.out.set 0)
  obtain ⟨W2, hW2⟩ : ∃ W, W1.setCell ⟨g, 0, none⟩ (.bool true) = W := ⟨_, rfl⟩
  rw [hW2] at HI1
  have HW2 := Lib.hid hW2
  clear hW2
  go_upto_region 3 with fail
  try rw [HW2.out]
  clear HW2 o0 of0 hW0 HW1 HGG HI0
  have HR0 : Hid (RcR l but 0 ((List.replicate n false).set 0 true)) := by rw [← HLN.out]; exact RcR.start (by rw [HLN.out]; exact hl0)
  obtain ⟨k0, k1, k2, k3, _⟩ := lvCells HI1.out.bx
  go_wp2_with fail
  clear k0 k1 k2 k3
  go_loopw [21] (fun a wr => ∃ (r : Nat) (o : List Bool), r ≤ n ∧ a = .int .i64 r ∧ Hid (RcR l but r o) ∧ Hid (RchI w ⟨R, A, I, P, n, c, l⟩ g wr o)) (fun a _ => n - (intOf a).toNat)
  case atStart => exact ⟨0, _, Nat.zero_le _, rfl, HR0, HI1⟩
  case round =>
    obtain ⟨r, o0, hr, rfl, HR, HI⟩ := hrel
    by_cases hlt : r < n
    case neg =>
      obtain rfl : r = n := by omega
      have HD : Hid (o0 = reachB (Cq.cd ⟨R, A, I, P, r, c, l⟩) but) := RcR.done (c := Cq.cd ⟨R, A, I, P, r, c, l⟩) (by have h := HR.out; rw [← HLN.out] at h; exact h)
      go_wp2_with fail
      go_ret
      have hgn := HI.out.gn
      exact ⟨g, rfl, by omega, by rw [← HD.out]; exact HI.out.ob, HI.out.bel⟩
    obtain ⟨k0, k1, k2, k3, _⟩ := lvCells HI.out.bx
    have HN0 : Hid (RcN l but o0 0 o0) := RcN.start HR.out.base
    obtain ⟨wo, rfl⟩ : ∃ wo : World, wo = wr := ⟨_, rfl⟩
    go_wp2_with fail
    clear k0 k1 k2 k3
    go_loopw [26] (fun a wr => ∃ (i : Nat) (o : List Bool), i ≤ n ∧ a = .int .i64 i ∧ Hid (RcN l but o0 i o) ∧ Hid (RchI w ⟨R, A, I, P, n, c, l⟩ g wr o)) (fun a _ => n - (intOf a).toNat)
    case atStart => exact ⟨0, o0, Nat.zero_le _, rfl, HN0, HI⟩
    case round =>
      obtain ⟨i, o, hi, rfl, HN, HI⟩ := hrel
      by_cases hin : i < n
      case neg =>
        obtain rfl : i = n := by omega
        have HR2 : Hid (RcR l but (r + 1) o) := RcN.close HR.out (by rw [HLN.out]; exact HN.out)
        go_wp2_with fail
        go_roundw
        case rel => exact ⟨r + 1, o, by omega, by go_num, HR2, HI⟩
        case measure => simp [intOf]; omega
      obtain ⟨b, off, x, hA, hbb, HX, ⟨y0, y1, y2, y3, y4⟩, hxo⟩ := ((HQ.out.on HI.out.bel).ins).at_ hin
      subst hA
      have hij : (i : Int) < (n : Int) := by omega
      obtain ⟨v, hv⟩ : ∃ v, o[i]? = some v := ⟨_, List.getElem?_eq_getElem (by rw [HN.out.base.len, HLN.out]; exact hin)⟩
      have HV := Lib.hid hv
      have HXK := Lib.hid hxo
      obtain ⟨W4, hW4⟩ : ∃ W, wr.alloc x.obj = W := ⟨_, rfl⟩
      obtain ⟨g4, hg4⟩ : ∃ z, wr.heap.size = z := ⟨_, rfl⟩
      have hb4 : Below wr.heap.size wr W4 := by rw [← hW4]; exact lvBelow _ _
      have HI4 := Lib.hid (HI.out.on hb4)
      have HY4 : Hid (W4.heap[g4]? = some x.obj) := by rw [← hW4, ← hg4]; exact newJ wr x
      have HW4 := Lib.hid hW4
      clear hbb hxo hb4 hW4 hv
      go_upto_region 8 with fail
      try rw [HW4.out]
      try rw [hg4]
      clear hg4 HW4 y0 y1 y2 y3 y4
      obtain ⟨⟨y0, y1, y2, y3, y4⟩, _⟩ := box_cellsJ HY4.out
      go_wp2_with fail
      refine (refWrites_any x W4).mono ?_
      rintro e w5 ⟨rfl, hb⟩
      have HI5 := Lib.hid (HI4.out.on hb)
      have HY5 := Lib.hid (keep_b hb HY4.out)
      clear hb y0 y1 y2 y3 y4
      obtain ⟨o1, _⟩ := HI5.out.ob.at_ HV.out
      by_cases hgo : v = true ∧ ¬(setsJ x = true ∧ writesJ x = but)
      case neg =>
        have HN2 : Hid (RcN l but o0 (i + 1) o) := HN.out.skip HX.out (by
          by_cases h1 : setsJ x = true ∧ writesJ x = but
          · exact .inr h1
          · left
            rw [HV.out]
            intro e
            injection e with e
            exact hgo ⟨e, h1⟩)
        cases v with
        | false =>
          clear hgo
          go_wp2_with fail
          go_roundw
          case rel => exact ⟨i + 1, o, by omega, by go_num, HN2, HI5⟩
          case measure => simp [intOf]; omega
        | true =>
          have h1 : setsJ x = true ∧ writesJ x = but := Classical.byContradiction fun h => hgo ⟨rfl, h⟩
          have s1 := h1.1
          have s2 : (writesJ x == but) = true := by simpa using h1.2
          clear hgo h1
          go_wp2_with fail
          go_roundw
          case rel => exact ⟨i + 1, o, by omega, by go_num, HN2, HI5⟩
          case measure => simp [intOf]; omega
      obtain ⟨rfl, hns⟩ := hgo
      have HJ0 : Hid (RcJ l but o0 i x 0 o) := HN.out.open_ HX.out HV.out hns
      have HNS := Lib.hid hns
      have hMX : ∀ k ∈ nextJ x i, 0 ≤ k ∧ k < n := by
        have h := Cd.next_in HM.out (i := i) (x := x) HX.out
        have e : (Cq.cd ⟨R, A, I, some ⟨b, off, none⟩, n, c, l⟩).l.length = n := HLN.out
        rw [e] at h
        exact h
      have HMX := Lib.hid hMX
      obtain ⟨⟨y0, y1, y2, y3, y4⟩, _⟩ := box_cellsJ HY5.out
      have hNx := refNext14_any x (i : Int) w5 HXK.out
      unfold NextP at hNx
      obtain ⟨nx, hnx⟩ : ∃ z, nextJ x (i : Int) = z := ⟨_, rfl⟩
      have hnx2 : nx.length ≤ 2 := by rw [← hnx]; exact next_two15 x i
      rw [hnx] at hNx HMX
      have HNX := Lib.hid hnx
      obtain ⟨m, hm⟩ : ∃ m, nx.length = m := ⟨_, rfl⟩
      rw [hm] at hNx hnx2
      have HML := Lib.hid hm
      clear hnx hm hMX HN
      clear y0 y1 y2 y3 y4
      go_upto_region 9 with fail
      go_cut [9, 31, 33, 35, 48] (fun a9 a31 a33 a35 a wx => a9 = .bool (setsJ x) ∧ a31 = .tuple #[.int .i64 (writesJ x), .bool (setsJ x)] ∧ a33 = .tuple #[.int .i64 (writesJ x), .bool (setsJ x)] ∧ a35 = .bool (setsJ x) ∧ a = .bool false ∧ wx = w5)
      case first =>
        cases hst : setsJ x with
        | false =>
          go_wp2_with fail
          go_meet
          case rel => exact ⟨by rw [hst], by rw [hst], by rw [hst], by rw [hst], rfl, rfl⟩
        | true =>
          have s2 : (writesJ x == but) = false := by
            rw [beq_eq_false_iff_ne]
            exact fun e => HNS.out ⟨hst, e⟩
          go_wp2_with fail
          go_meet
          case rel => exact ⟨by rw [hst], by rw [hst], by rw [hst], by rw [hst], rfl, rfl⟩
      obtain ⟨rfl, rfl, rfl, rfl, rfl, rfl⟩ := hcut
      obtain ⟨⟨y0, y1, y2, y3, y4⟩, _⟩ := box_cellsJ HY5.out
      clear o1
      go_wp2_with fail
      (with_reducible refine hNx.mono ?_)
      rintro e w6 ⟨A6, c6, rfl, hO6, hb⟩
      have HI6 := Lib.hid (HI5.out.on hb)
      have HO6 := Lib.hid hO6
      clear hb hO6 hNx y0 y1 y2 y3 y4
      go_wp2_with fail
      go_loopw [53] (fun a wr => ∃ (j : Nat) (o : List Bool), j ≤ m ∧ a = .int .i64 j ∧ Hid (RcJ l but o0 i x j o) ∧ Hid (RchI w ⟨R, A, I, some ⟨b, off, none⟩, n, c, l⟩ g wr o) ∧ Hid (OwnI wr wc.heap.size 3 A6 c6 nx) ∧ Hid (g < wc.heap.size)) (fun a _ => m - (intOf a).toNat)
      case atStart => exact ⟨0, o, Nat.zero_le _, rfl, HJ0, HI6, HO6, Lib.hid (lt_of_heap HI5.out.ob)⟩
      case round =>
        obtain ⟨j, o2, hj, rfl, HJ, HI7, HO7, HGL⟩ := hrel
        by_cases hjm : j < m
        case neg =>
          obtain rfl : j = m := by omega
          have HN2 : Hid (RcN l but o0 (i + 1) o2) := HJ.out.close (by rw [HNX.out]; exact HML.out.symm)
          go_wp2_with fail
          go_roundw
          case rel => exact ⟨i + 1, o2, by omega, by go_num, HN2, HI7⟩
          case measure => simp [intOf]; omega
        obtain ⟨z, hz⟩ : ∃ z, nx[j]? = some z := ⟨_, List.getElem?_eq_getElem (by rw [HML.out]; exact hjm)⟩
        have hzb := HMX.out z (List.mem_of_getElem? hz)
        obtain ⟨k, rfl⟩ : ∃ k : Nat, z = (k : Int) := ⟨z.toNat, by omega⟩
        have hkn : k < n := by omega
        have hkz : (k : Int) < (n : Int) := by omega
        have hk0 : (0 : Int) ≤ (k : Int) := by omega
        have hjj : (j : Int) < (m : Int) := by omega
        have HJ2 : Hid (RcJ l but o0 i x (j + 1) (o2.set k true)) := HJ.out.step (by rw [HNX.out]; exact hz) (by rw [HLN.out]; exact hkn)
        obtain ⟨g6, rfl, z0⟩ := own_at15 HO7.out hz
        obtain ⟨vk, hvk⟩ : ∃ v, o2[k]? = some v := ⟨_, List.getElem?_eq_getElem (by rw [HJ.out.base.base.len, HLN.out]; exact hkn)⟩
        obtain ⟨ok, okf⟩ := HI7.out.ob.at_ hvk
        have HI8 := Lib.hid (HI7.out.set k)
        have HO8 : Hid (OwnI (wr.setCell ⟨g, k, none⟩ (.bool true)) wc.heap.size 3 (some ⟨g6, 0, none⟩) c6 nx) := HO7.out.far HGL.out k (.bool true)
        clear hz hvk hzb
        go_wp2_with fail
        go_roundw
        case rel => exact ⟨j + 1, _, by omega, by go_num, HJ2, HI8, HO8, HGL⟩
        case measure => simp [intOf]; omega
end Go.Proofs.YtgkngimeokhhgaaGreatDoor
