/- The machine's step. -/
import Derived.Test.YtgkngimeokhhgaaDoorG9
import Derived.Test.YtgkngimeokhhgaaDoorG8
import Derived.Test.YtgkngimeokhhgaaDoorG6
import Derived.Test.YtgkngimeokhhgaaDoorG7
import Derived.Test.YtgkngimeokhhgaaDoorG5
namespace Go.Proofs.YtgkngimeokhhgaaDoor
open Go.RowKit Go.Sort

theorem act_any (m : Mc) (cd : Cd) (M : Nat) (x : Ji) (s : Ms) (rs : List RowU) (base : Nat) (w : World) (h : MsM w base m s rs false) (t0 : s.at_ ≤ 1000000) (t1 : s.st ≤ 1000000) (t2 : s.ce ≤ 1000000) (hk : MsOk cd M s) (hM : M + s.ce ≤ 900000) (_hR : cd.R ≤ 128) (hA : cd.A ≤ 128)
    (hx : mayJ cd.R cd.A cd.l.length x = true) (hn : I64 x.n) (hI : m.ins.length = m.i) (hI9 : m.i ≤ 128) (how : x.op = 7 ∨ x.op = 9 → (m.i : Int) ≤ x.a) (hce : (s.ce : Int) ≤ m.cells) :
    Calls Tryd.prog (actF x.op) #[.pointer (some ⟨m.g, 0, none⟩), Ji.val x] w (ActP base m s x w) := by
  obtain ⟨op, a, b, c, n⟩ := x
  obtain ⟨ha, hb, hc⟩ := may_at hx
  obtain ⟨⟨o1, o2⟩, _⟩ := mayJ_parts hx
  have hrl := hk.rl
  rw [h.nr] at hrl
  have hal := hk.al
  have hlen : ∀ i, (s.a i).length ≤ 900000 := fun i => Nat.le_trans (hk.a _).2 hM
  have hlen2 : ∀ i, (s.a i).length ≤ 1000000 := fun i => Nat.le_trans (hlen i) (by omega)
  have hrv : ∀ i, I64 (s.r i) := hk.r
  clear hx hk
  simp only at o1 o2 ha hb hc hn how
  obtain ⟨i, rfl⟩ := Int.eq_ofNat_of_zero_le ha.1
  obtain ⟨j, rfl⟩ := Int.eq_ofNat_of_zero_le hb.1
  obtain ⟨k, rfl⟩ := Int.eq_ofNat_of_zero_le hc.1
  have ha := ha.2
  have hb := hb.2
  have hc := hc.2
  rcases op_cases o1 o2 with rfl | rfl | rfl | rfl | rfl | rfl | rfl | rfl | rfl | rfl | rfl | rfl | rfl
  · exact act_0 m s rs base w _ _ _ _ h t0 t1 t2 hrv
  · have ha : (i : Int) < cd.R := ha
    exact act_1 m s rs base w _ _ _ i h t0 t1 t2 hrv (by omega) hn
  · have ha : (i : Int) < cd.R := ha
    have hb : (j : Int) < cd.R := hb
    exact act_2 m s rs base w _ _ i j h t0 t1 t2 hrv (by omega) (by omega)
  · have ha : (i : Int) < cd.R := ha
    have hb : (j : Int) < cd.R := hb
    have hc : (k : Int) < cd.R := hc
    exact act_3 m s rs base w _ i j k h t0 t1 t2 hrv (by omega) (by omega) (by omega)
  · have ha : (i : Int) < cd.R := ha
    have hb : (j : Int) < cd.R := hb
    have hc : (k : Int) < cd.R := hc
    exact act_4 m s rs base w _ i j k h t0 t1 t2 hrv (by omega) (by omega) (by omega)
  · have ha : (i : Int) < cd.R := ha
    have hb : (j : Int) < cd.R := hb
    have hc : (k : Int) < cd.R := hc
    exact act_5 m s rs base w _ i j k h t0 t1 t2 hrv (by omega) (by omega) (by omega)
  · have ha : (i : Int) < cd.R := ha
    have hb : (j : Int) < cd.A := hb
    have hc : (k : Int) < cd.R := hc
    exact act_6 m s rs base w _ i j k h t0 t1 t2 hrv (by omega) (by omega) (by omega) (by omega) hI (by omega) hlen2
  · have ha : (i : Int) < cd.A := ha
    have hb : (j : Int) < cd.R := hb
    have hc : (k : Int) < cd.R := hc
    have := how (.inl rfl)
    exact act_7 m s rs base w _ i j k h t0 t1 t2 hrv (by omega) (by omega) hI (by omega) (by omega) (by omega) hlen2 (by omega)
  · have ha : (i : Int) < cd.R := ha
    have hb : (j : Int) < cd.A := hb
    exact act_8 m s rs base w _ _ i j h t0 t1 t2 hrv (by omega) (by omega) (by omega) hI (by omega) hlen2
  · have ha : (i : Int) < cd.A := ha
    have hb : (j : Int) < cd.R := hb
    have := how (.inr rfl)
    exact act_9 m s rs base w _ _ i j h t0 t1 t2 hrv (by omega) (by omega) hI (by omega) (by omega) hlen (by omega) hce
  · exact act_10 m s rs base w _ _ _ i h t0 t1 t2 hrv
  · have ha : (i : Int) < cd.R := ha
    have hb : (j : Int) < cd.R := hb
    exact act_11 m s rs base w _ i j k h t0 t1 t2 hrv (by omega) (by omega)
  · have ha : (i : Int) < cd.R := ha
    have hb : (j : Int) < cd.R := hb
    exact act_12 m s rs base w _ i j k h t0 t1 t2 hrv (by omega) (by omega)
set_option maxRecDepth 100000 in
theorem act_enters {op : Int} (o1 : 0 ≤ op) (o2 : op ≤ 12) : ∀ args w, (callFunc (actF op) args).run Tryd.prog w = .ok (.enter (actF op) args) w := by
  rcases op_cases o1 o2 with rfl | rfl | rfl | rfl | rfl | rfl | rfl | rfl | rfl | rfl | rfl | rfl | rfl
  · exact enters_of Tryd.func68 (by kernel_rfl) rfl
  · exact enters_of Tryd.func69 (by kernel_rfl) rfl
  · exact enters_of Tryd.func70 (by kernel_rfl) rfl
  · exact enters_of Tryd.func71 (by kernel_rfl) rfl
  · exact enters_of Tryd.func72 (by kernel_rfl) rfl
  · exact enters_of Tryd.func73 (by kernel_rfl) rfl
  · exact enters_of Tryd.func74 (by kernel_rfl) rfl
  · exact enters_of Tryd.func75 (by kernel_rfl) rfl
  · exact enters_of Tryd.func76 (by kernel_rfl) rfl
  · exact enters_of Tryd.func77 (by kernel_rfl) rfl
  · exact enters_of Tryd.func78 (by kernel_rfl) rfl
  · exact enters_of Tryd.func79 (by kernel_rfl) rfl
  · exact enters_of Tryd.func80 (by kernel_rfl) rfl
/-- what the machine goes by: code that is checked, and what was handed in -/
structure McOk (m : Mc) (cd : Cd) (M : Nat) : Prop where
  l : m.l = cd.l
  n0 : m.n0 = cd.l.length
  may : cd.may = true
  own : ∀ x ∈ cd.l, x.op = 7 ∨ x.op = 9 → (m.i : Int) ≤ x.a
  ok : ∀ x ∈ cd.l, x.ok
  ins : m.ins.length = m.i
  i : (m.i : Int) = cd.I
  few : (M : Int) + m.fuel ≤ 900000
  c0 : 0 ≤ m.cells
/-- where it stands -/
structure MsAt (m : Mc) (cd : Cd) (M : Nat) (s : Ms) : Prop where
  ok : MsOk cd M s
  way : Way cd.l (-1) s.at_
  st : (s.st : Int) ≤ m.fuel
  ce : (s.ce : Int) ≤ m.cells
  cs : s.ce ≤ s.st
def StpP (base : Nat) (m : Mc) (cd : Cd) (s : Ms) (w : World) (e : Ending) (w' : World) : Prop :=
  ((s.st : Int) = m.fuel ∧ e = .returned (.int .i64 9) ∧ BelI base w w') ∨ ((s.st : Int) < m.fuel ∧ ActP base m s.tick (cd.l.getD s.at_ zJi) w e w')
theorem MsAt.at_ {m : Mc} {cd : Cd} {M : Nat} {s : Ms} (h : MsAt m cd M s) (hm : McOk m cd M) : s.at_ < cd.l.length := (small_at hm.may h.way).1
set_option maxRecDepth 100000 in
set_option maxHeartbeats 8000000 in
theorem step_any (m : Mc) (cd : Cd) (M : Nat) (s : Ms) (rs : List RowU) (base : Nat) (w : World) (h : MsM w base m s rs false) (hm : McOk m cd M) (hs : MsAt m cd M s) :
    Calls Tryd.prog 34 #[.pointer (some ⟨m.g, 0, none⟩)] w (StpP base m cd s w) := by
  have hmx : Tryd.prog.follows .mixedOrders = true := by kernel_rfl
  obtain ⟨⟨q1, q2, q3, q4, q5, q6, q7, q8⟩, hall, _⟩ := Cd.may_parts hm.may
  have hst := hs.st
  have hce := hs.ce
  have hcs := hs.cs
  have hfew := hm.few
  have hM0 : (0 : Int) ≤ (M : Int) := by omega
  have t1 : s.st ≤ 900000 := by omega
  have t0 : s.at_ ≤ 4096 := by have := hs.at_ hm; omega
  obtain ⟨x0, x1, x2, x3, x4, x5, x6, x7, x8, x9, x10, x11, x12, x13⟩ := MsM.cells h
  have HB0 : Hid (BelI base w w) := BelI.refl _ _
  have HM0 := Lib.hid h
  by_cases hf : (s.st : Int) = m.fuel
  · have d : ((s.st : Int) == m.fuel) = true := by simpa using hf
    have z1 := cell_regrown x1
    have z9 := cell_regrown x9
    clear h x0 x1 x2 x3 x4 x5 x6 x7 x8 x9 x10 x11 x12 x13 hst hce hcs hfew hM0 q1 q2 q3 q4 q5 q6 q7 q8 hall
    have HF := Lib.hid hf
    clear hf
    go_enter Tryd.func34, Tryd.ntmps34
    go_upto_region 1 with fail
    refine wp_region_quiet_below hmx (by kernel_rfl) ?_
    repeat (quiet_step (fail))
    refine wpQuiet_nil ?_
    intro _ hw'
    obtain ⟨⟨dq, osq⟩, hw''⟩ := hw'
    subst hw''
    have hb9 := below_regrown w dq osq
    have HB9 := Lib.hid (HB0.out.trans (.of hb9 HM0.out.size_))
    go_wp2_with fail
    go_ret
    exact .inl ⟨HF.out, rfl, HB9.out⟩
  have d : ((s.st : Int) == m.fuel) = false := by simpa using hf
  have HF : Hid ((s.st : Int) < m.fuel) := by unfold Hid; omega
  have z1 := cell_regrown x1
  have z9 := cell_regrown x9
  obtain ⟨x, hx⟩ : ∃ x, cd.l[s.at_]? = some x := ⟨_, List.getElem?_eq_getElem (hs.at_ hm)⟩
  have hxm := List.mem_of_getElem? hx
  have HXD : Hid (cd.l.getD s.at_ zJi = x) := by unfold Hid; rw [List.getD_eq_getElem?_getD, hx]; rfl
  have hmay := hall x hxm
  have hxo := hm.ok x hxm
  obtain ⟨⟨o1, o2⟩, _⟩ := mayJ_parts hmay
  have eL := act_enters o1 o2
  have cL := fun (W : World) (rs : List RowU) (h : MsM W base m s.tick rs false) => act_any m cd M x s.tick rs base W h (by show s.at_ + 1 ≤ _; omega) (by show s.st + 1 ≤ _; omega) (by show s.ce ≤ _; omega) hs.ok.tick (by show M + s.ce ≤ _; omega) q2 q4 hmay hxo.n hm.ins (by have := hm.i; omega) (hm.own x hxm) hce
  have HXO := Lib.hid hx
  obtain ⟨fl, hfl⟩ : ∃ f, actF x.op = f := ⟨_, rfl⟩
  rw [hfl] at eL cL
  have HFL := Lib.hid hfl
  have HOK := Lib.hid hm
  have hat0 : (0 : Int) ≤ (s.at_ : Int) := by omega
  have hat1 : (s.at_ : Int) < (m.n0 : Int) := by have := hm.n0; have := hs.at_ hm; omega
  clear h x0 x1 x2 x3 x4 x5 x6 x7 x8 x9 x10 x11 x12 x13 hst hce hcs hfew hM0 q1 q2 q3 q4 q5 q6 q7 q8 hall hf hx hxm hmay hxo o1 o2 hfl hm hs
  go_enter Tryd.func34, Tryd.ntmps34
  go_upto_region 1 with fail
  refine wp_region_quiet_below hmx (by kernel_rfl) ?_
  repeat (quiet_step (fail))
  refine wpQuiet_nil ?_
  intro _ hw'
  obtain ⟨⟨dq, osq⟩, hw''⟩ := hw'
  subst hw''
  obtain ⟨W9, hW9⟩ : ∃ W, grow (redrawn w dq) osq = W := ⟨_, rfl⟩
  have hb9 := below_regrown w dq osq
  rw [hW9] at hb9 ⊢
  have HM9 := Lib.hid (HM0.out.on hb9)
  have HB9 := Lib.hid (HB0.out.trans (.of hb9 HM0.out.size_))
  clear z1 z9 hW9 hb9
  obtain ⟨S1, hS1⟩ : ∃ S1 : Ms, ({ s with st := s.st + 1 } : Ms) = S1 := ⟨_, rfl⟩
  have hf1 := HM9.out.field (i := 1) (v := .int .i64 ((s.st : Int) + 1)) (s' := S1) (en' := false) (by rw [← hS1]) (by rw [← hS1]) (by rw [← hS1]; rfl)
  have e1 : S1.at_ = s.at_ := by rw [← hS1]
  have f1 := HM9.out.fz 1
  obtain ⟨x0, x1, x2, x3, x4, x5, x6, x7, x8, x9, x10, x11, x12, x13⟩ := MsM.cells HM9.out
  clear x0 x2 x3 x4 x5 x6 x7 x8 x9 x10 x11 x13
  obtain ⟨W1, hW1⟩ : ∃ W, W9.setCell ⟨m.g, 1, none⟩ (.int .i64 ((s.st : Int) + 1)) = W := ⟨_, rfl⟩
  rw [hW1] at hf1
  have HM1 := Lib.hid hf1.1
  have HB1 := Lib.hid (HB9.out.trans hf1.2)
  clear hf1
  go_upto_region 5 with fail
  try rw [hW1]
  clear hW1 f1 x1 x12
  have hf2 := HM1.out.field (i := 12) (v := .int .i64 ((s.at_ : Int) + 1)) (s' := s.tick) (en' := false) (by rw [← hS1]; rfl) (by rw [← hS1]; rfl) (by rw [← hS1]; rfl)
  have f12 := HM1.out.fz 12
  obtain ⟨x0, x1, x2, x3, x4, x5, x6, x7, x8, x9, x10, x11, x12, x13⟩ := MsM.cells HM1.out
  rw [e1] at x12
  clear x0 x1 x2 x3 x4 x5 x6 x7 x8 x9 x10 x11 x13 hS1 e1
  obtain ⟨W2, hW2⟩ : ∃ W, W1.setCell ⟨m.g, 12, none⟩ (.int .i64 ((s.at_ : Int) + 1)) = W := ⟨_, rfl⟩
  rw [hW2] at hf2
  have HM2 := Lib.hid hf2.1
  have HB2 := Lib.hid (HB1.out.trans hf2.2)
  clear hf2
  go_upto_region 6 with fail
  try rw [hW2]
  clear hW2 f12 x12
  obtain ⟨x0, x1, x2, x3, x4, x5, x6, x7, x8, x9, x10, x11, x12, x13⟩ := MsM.cells HM2.out
  clear x0 x1 x2 x3 x4 x5 x7 x8 x9 x10 x12 x13
  obtain ⟨cur, hc1, hc2⟩ := HM2.out.D
  have hd := hc2 s.at_ x (by rw [HOK.out.l]; exact HXO.out)
  have hd1 : W2.cell? ⟨m.gD, s.at_, none⟩ = some (.func (.func fl) #[.pointer (some ⟨m.g, 0, none⟩)] #[]) := by
    rw [cell_of_row _ _ _ _ _ _ hc1, hd, ← HFL.out]; rfl
  obtain ⟨bP, oP, x', hP, _, hx', hcJ, _⟩ := HM2.out.jis.at_ (k := s.at_) (by omega)
  obtain rfl : x = x' := by
    have h1 : m.l[s.at_]? = some x' := hx'
    rw [HOK.out.l, HXO.out] at h1
    injection h1
  rw [hP] at x6
  obtain ⟨y0, y1, y2, y3, y4⟩ := hcJ
  have zd := cell_regrown hd1
  have z6 := cell_regrown x6
  have z11 := cell_regrown x11
  have u0 := cell_regrown y0
  have u1 := cell_regrown y1
  have u2 := cell_regrown y2
  have u3 := cell_regrown y3
  have u4 := cell_regrown y4
  clear hc1 hc2 hd hd1 hP hx' x6 x11 y0 y1 y2 y3 y4 cur
  refine wp_region_below_tail 15 hmx (by kernel_rfl) ?_
  simp only [List.take_succ_cons, List.take_zero, List.drop_succ_cons, List.drop_zero]
  repeat (quiet_step (fail))
  refine wpQuiet_nil ?_
  intro _ hw'
  obtain ⟨⟨dq, osq⟩, hw''⟩ := hw'
  subst hw''
  obtain ⟨W8, hW8⟩ : ∃ W, grow (redrawn W2 dq) osq = W := ⟨_, rfl⟩
  have hb8 := below_regrown W2 dq osq
  rw [hW8] at hb8 ⊢
  have HM8 := Lib.hid (HM2.out.on hb8)
  have HB8 := Lib.hid (HB2.out.trans (.of hb8 HM2.out.size_))
  have cX := cL W8 rs HM8.out
  clear zd z6 z11 u0 u1 u2 u3 u4 hW8 hb8 cL
  go_wp2_with (go_at_fn fl; refine cX.mono ?_; rintro e w9 (⟨z, rs', hz, rfl, hM, hB⟩ | ⟨v, hz, rfl, hB⟩))
  · go_ret
    exact .inr ⟨HF.out, .inl ⟨z, rs', by rw [HXD.out]; exact hz, rfl, by rw [HXD.out]; exact hM, HB8.out.trans hB⟩⟩
  · go_ret
    exact .inr ⟨HF.out, .inr ⟨v, by rw [HXD.out]; exact hz, rfl, HB8.out.trans hB⟩⟩
end Go.Proofs.YtgkngimeokhhgaaDoor
/- A run that goes on from where it stands; what is kept beside it. -/
namespace Go.Proofs.YtgkngimeokhhgaaDoor
open Go.RowKit Go.Sort

/-- the way so far, ahead of what comes -/
def joinM (p : List Nat) : Except Int (Ms × List Nat) → Except Int (Ms × List Nat)
  | .ok zp => .ok (zp.1, p ++ zp.2)
  | .error e => .error e
theorem joinM_nil (r : Except Int (Ms × List Nat)) : joinM [] r = r := by cases r <;> rfl
theorem goM_out {c : Cd} {cells : Int} {s : Ms} {p : List Nat} : joinM p (goM c cells 0 s) = .error 9 := rfl
theorem goM_err {c : Cd} {cells v : Int} {k : Nat} {s : Ms} {p : List Nat} (h : stepM s (c.l.getD s.at_ zJi) cells = .error v) : joinM p (goM c cells (k + 1) s) = .error v := by
  unfold goM; rw [h]; rfl
theorem goM_halt {c : Cd} {cells : Int} {k : Nat} {s z : Ms} {p : List Nat} (h : stepM s (c.l.getD s.at_ zJi) cells = .ok z) (h0 : (c.l.getD s.at_ zJi).op = 0) : joinM p (goM c cells (k + 1) s) = .ok (z, p ++ [s.at_]) := by
  unfold goM; rw [h]; simp only [h0, if_true]; rfl
theorem goM_next {c : Cd} {cells : Int} {k : Nat} {s z : Ms} {p : List Nat} (h : stepM s (c.l.getD s.at_ zJi) cells = .ok z) (h0 : (c.l.getD s.at_ zJi).op ≠ 0) : joinM p (goM c cells (k + 1) s) = joinM (p ++ [s.at_]) (goM c cells k z) := by
  conv => lhs; unfold goM
  rw [h]
  simp only [h0, if_false]
  cases goM c cells k z with
  | error e => rfl
  | ok zp => simp [joinM]
/-- a list of another kind of numbers stays over a step -/
theorem OwnI.keepU {w w' : World} {base c : Nat} {A : Option Addr} {xs : List Int} (h : OwnI w base 3 A c xs) (hk : KeepU base w w') : OwnI w' base 3 A c xs := by
  refine ⟨⟨h.1.1, ?_⟩, h.2⟩
  rcases h.1.2 with h1 | ⟨g, cap, cur, h1, h2, h3, h4⟩
  · exact .inl h1
  · exact .inr ⟨g, cap, cur, h1, h2, hk.blk _ _ _ h3 (by decide) (by decide), h4⟩
/-- what code works on stays over an append to a list of another kind -/
theorem MsW.beside {w w' : World} {base gR gA base2 c : Nat} {s : Ms} {rs : List RowU} {A : Option Addr} {xs : List Int} (h : MsW w base gR gA s rs) (hO : OwnI w base2 3 A c xs) {n : Nat} (hn : xs.length = n) (hG : w.grownBy w' (Value.slice A n c).ownBlock) : MsW w' base gR gA s rs := by
  subst hn
  have hty : ∀ b, (Value.slice A xs.length c).ownBlock = some b → ∃ cs, w.heap[b]? = some (.cells cs 3 (0, 0)) := by
    intro b hb
    rcases hO.1.2 with ⟨h1, _⟩ | ⟨g', cap, cur2, h1, _, h3, _⟩
    · injection h1 with h1; rw [h1] at hb; cases hb
    · injection h1 with h1
      rw [h1] at hb
      simp only [Value.ownBlock, Option.some.injEq] at hb
      subst hb
      exact ⟨cur2, h3⟩
  have hI : ∀ (A' : Option Addr) (c' : Nat) (ys : List Int), OwnI w base 2 A' c' ys → OwnI w' base 2 A' c' ys := fun A' c' ys ho => ho.grownL hG fun q hq e => by
    obtain ⟨cs, hc⟩ := hty q e.symm
    rcases ho.1.2 with ⟨h1, _⟩ | ⟨g', cap, cur2, h1, _, h3, _⟩
    · injection h1 with h1; rw [hq] at h1; cases h1
    · injection h1 with h1
      rw [hq] at h1
      injection h1 with h1; injection h1 with h1
      subst h1
      rw [hc] at h3
      injection h3 with h3; injection h3 with _ h3
      exact absurd h3 (by decide)
  obtain ⟨_, cur, hgA⟩ := h.A.heap
  refine ⟨hI _ _ _ h.R, ⟨World.ownsRow.kept h.A.rows hG (.inr ?_), fun r hr => hI _ _ _ (h.A.ins r hr), h.A.apart⟩, h.L, h.far⟩
  intro e
  have e : (Value.slice A xs.length c).ownBlock = some gA := by simpa [Value.ownBlock] using e.symm
  obtain ⟨cs, hc⟩ := hty gA e
  rw [hc] at hgA
  injection hgA with hgA; injection hgA with _ hgA
  exact absurd hgA (by decide)
/-- a block of another type stays over an append to a list of numbers -/
theorem OwnI.boxes {w w' : World} {base c b : Nat} {A : Option Addr} {xs : List Int} {cs : Array Value} {t : TypeId} (hO : OwnI w base 3 A c xs) {n : Nat} (hn : xs.length = n) (hG : w.grownBy w' (Value.slice A n c).ownBlock) (hb : w.heap[b]? = some (.cells cs t (0, 0))) (ht : t ≠ 3) : w'.heap[b]? = some (.cells cs t (0, 0)) := by
  subst hn
  refine (hG.block b (lt_of_heap hb) fun e => ?_).trans hb
  rcases hO.1.2 with ⟨h1, _⟩ | ⟨g', cap, cur2, h1, _, h3, _⟩
  · injection h1 with h1; rw [h1] at e; cases e
  · injection h1 with h1
    rw [h1] at e
    simp only [Value.ownBlock, Option.some.injEq] at e
    subst e
    rw [hb] at h3
    injection h3 with h3; injection h3 with _ h3
    exact ht h3
theorem map_snoc (p : List Nat) (i : Nat) : (p ++ [i]).map (fun n : Nat => (n : Int)) = p.map (fun n : Nat => (n : Int)) ++ [(i : Int)] := by simp
theorem start_at (c : Cd) (ins : List (List Int)) : (startM c ins).at_ = 0 ∧ (startM c ins).st = 0 ∧ (startM c ins).ce = 0 ∧ (startM c ins).R = List.replicate c.R.toNat 0 := ⟨rfl, rfl, rfl, rfl⟩
theorem start_nil (c : Cd) : startM c [] = freshM c.R.toNat c.A.toNat := rfl
theorem start_next (c : Cd) {ins : List (List Int)} {i : Nat} {L : List Int} (h : ins[i]? = some L) (hn : ins.length ≤ c.A.toNat) : (startM c (ins.take i)).arr (i : Int) L = startM c (ins.take (i + 1)) := by
  have hi := (List.getElem?_eq_some_iff.1 h).1
  have e1 : (ins.take i).length = i := by rw [List.length_take]; omega
  have e2 : (ins.take (i + 1)).length = i + 1 := by rw [List.length_take]; omega
  unfold startM Ms.arr
  simp only [Int.toNat_natCast, Ms.mk.injEq, true_and, and_true]
  rw [e1, e2, show ins.take (i + 1) = ins.take i ++ [L] from by rw [List.take_add_one, h]; rfl]
  obtain ⟨m, hm⟩ : ∃ m, c.A.toNat - i = m + 1 := ⟨c.A.toNat - i - 1, by omega⟩
  have hm2 : c.A.toNat - (i + 1) = m := by omega
  have e3 : ∀ (P Q : List (List Int)) (u : List Int), P.length = i → (P ++ u :: Q).set i L = P ++ [L] ++ Q := fun P Q u hp => by
    rw [List.set_append_right _ _ (by omega), hp, Nat.sub_self]
    simp
  rw [hm, hm2, List.replicate_succ, e3 _ _ _ e1]
end Go.Proofs.YtgkngimeokhhgaaDoor
/- The machine goes on till the code has ended. -/
namespace Go.Proofs.YtgkngimeokhhgaaDoor
open Go.RowKit Go.Sort

theorem MsAt.next {m : Mc} {cd : Cd} {M : Nat} {s z : Ms} (hs : MsAt m cd M s) (hm : McOk m cd M) (hf : (s.st : Int) < m.fuel) (hd : doM s.tick (cd.l.getD s.at_ zJi) m.cells = .ok z) (h0 : (cd.l.getD s.at_ zJi).op ≠ 0) : MsAt m cd M z := by
  obtain ⟨h1, h2⟩ := small_at hm.may hs.way
  obtain ⟨g1, g2⟩ := may_get hm.may h1
  obtain ⟨k1, _, _, _, k2, k3⟩ := doM_keeps hd
  have k1 : z.st = s.st + 1 := k1
  have k2 : z.ce ≤ s.ce + 1 := by
    rw [k2]
    show s.ce + _ ≤ s.ce + 1
    split <;> omega
  have hce := hs.ce
  have hcs := hs.cs
  have hfew := hm.few
  exact ⟨hs.ok.tick.do_ (hm.ok _ (List.mem_of_getElem? g2)) (by show M + s.ce ≤ 1000000; omega) hd, Way.on hm.may hs.way g2 (stepM_next g1 h2 hd h0), by omega, k3 hce, by omega⟩
theorem MsAt.st_ {m : Mc} {s z : Ms} {x : Ji} (hd : doM s.tick x m.cells = .ok z) : z.st = s.st + 1 := (doM_keeps hd).1
/-- what is known of a run that stands somewhere -/
def FinI (m : Mc) (cd : Cd) (M : Nat) (RES : Except Int (Ms × List Nat)) (k : Nat) (s : Ms) (en : Bool) : Prop :=
  (en = false ∧ MsAt m cd M s ∧ ∃ p, RES = joinM p (goM cd m.cells (m.fuel - (s.st : Int)).toNat s) ∧ (m.fuel - (s.st : Int)).toNat + 1 ≤ k) ∨ (en = true ∧ ∃ p, RES = .ok (s, p))
theorem FinI.err {m : Mc} {cd : Cd} {M k : Nat} {RES : Except Int (Ms × List Nat)} {s : Ms} {v : Int} (h : FinI m cd M RES k s false) (hf : (s.st : Int) < m.fuel) (hd : doM s.tick (cd.l.getD s.at_ zJi) m.cells = .error v) : RES = .error v := by
  rcases h with ⟨_, _, p, h, _⟩ | ⟨h, _⟩
  · obtain ⟨n, hn⟩ : ∃ n, (m.fuel - (s.st : Int)).toNat = n + 1 := ⟨(m.fuel - (s.st : Int)).toNat - 1, by omega⟩
    rw [h, hn]
    exact goM_err hd
  · cases h
theorem FinI.out {m : Mc} {cd : Cd} {M k : Nat} {RES : Except Int (Ms × List Nat)} {s : Ms} (h : FinI m cd M RES k s false) (hf : (s.st : Int) = m.fuel) : RES = .error 9 := by
  rcases h with ⟨_, _, p, h, _⟩ | ⟨h, _⟩
  · rw [h, show (m.fuel - (s.st : Int)).toNat = 0 by omega]; rfl
  · cases h
theorem FinI.on {m : Mc} {cd : Cd} {M k : Nat} {RES : Except Int (Ms × List Nat)} {s z : Ms} (h : FinI m cd M RES k s false) (hm : McOk m cd M) (hf : (s.st : Int) < m.fuel) (hd : doM s.tick (cd.l.getD s.at_ zJi) m.cells = .ok z) : 1 ≤ k ∧ FinI m cd M RES (k - 1) z (decide ((cd.l.getD s.at_ zJi).op = 0)) := by
  rcases h with ⟨_, ha, p, h, hk⟩ | ⟨h, _⟩
  · refine ⟨by omega, ?_⟩
    obtain ⟨n, hn⟩ : ∃ n, (m.fuel - (s.st : Int)).toNat = n + 1 := ⟨(m.fuel - (s.st : Int)).toNat - 1, by omega⟩
    have hz := MsAt.st_ hd
    rw [hn] at h hk
    by_cases h0 : (cd.l.getD s.at_ zJi).op = 0
    · refine .inr ⟨decide_eq_true h0, p ++ [s.at_], ?_⟩
      rw [h]; exact goM_halt hd h0
    · refine .inl ⟨decide_eq_false h0, ha.next hm hf hd h0, p ++ [s.at_], ?_, by omega⟩
      rw [h, show (m.fuel - (z.st : Int)).toNat = n by omega]
      exact goM_next hd h0
  · cases h
theorem StpP.ne {base : Nat} {m : Mc} {cd : Cd} {s : Ms} {w w' : World} {e : Ending} (h : StpP base m cd s w e w') :
    ((s.st : Int) = m.fuel ∧ e = .returned (.int .i64 9) ∧ BelI base w w') ∨ ((s.st : Int) < m.fuel ∧ ∃ z rs', doM s.tick (cd.l.getD s.at_ zJi) m.cells = .ok z ∧ e = .returned (.int .i64 0) ∧ MsM w' base m z rs' (decide ((cd.l.getD s.at_ zJi).op = 0)) ∧ BelI base w w') ∨
    ((s.st : Int) < m.fuel ∧ ∃ v, (v != 0) = true ∧ doM s.tick (cd.l.getD s.at_ zJi) m.cells = .error v ∧ e = .returned (.int .i64 v) ∧ BelI base w w') := by
  rcases h with h | ⟨hf, h | ⟨v, h1, h2⟩⟩
  · exact .inl h
  · exact .inr (.inl ⟨hf, h⟩)
  · refine .inr (.inr ⟨hf, v, ?_, h1, h2⟩)
    rcases doM_errors h1 with ⟨rfl, _⟩ | ⟨rfl, _⟩ <;> decide
set_option maxRecDepth 100000 in
set_option maxHeartbeats 4000000 in
theorem finish_any (m : Mc) (cd : Cd) (M : Nat) (s : Ms) (rs : List RowU) (base : Nat) (w : World) (h : MsM w base m s rs false) (hm : McOk m cd M) (hs : MsAt m cd M s) :
    Calls Tryd.prog 30 #[.pointer (some ⟨m.g, 0, none⟩)] w fun e w' => (∃ v, goM cd m.cells (m.fuel - (s.st : Int)).toNat s = .error v ∧ e = .returned (.int .i64 v) ∧ BelI base w w') ∨
      (∃ z p rs', goM cd m.cells (m.fuel - (s.st : Int)).toNat s = .ok (z, p) ∧ e = .returned (.int .i64 0) ∧ MsM w' base m z rs' true ∧ BelI base w w') := by
  obtain ⟨RES, hR⟩ : ∃ r, goM cd m.cells (m.fuel - (s.st : Int)).toNat s = r := ⟨_, rfl⟩
  obtain ⟨N, hN⟩ : ∃ N, (m.fuel - (s.st : Int)).toNat + 1 = N := ⟨_, rfl⟩
  have HI0 : Hid (FinI m cd M RES N s false) := .inl ⟨rfl, hs, [], by rw [joinM_nil, hR], by omega⟩
  have HM0 := Lib.hid h
  have HB0 : Hid (BelI base w w) := BelI.refl _ _
  rw [hR]
  have HOK := Lib.hid hm
  clear h hR hN hs hm
  go_enter Tryd.func30, Tryd.ntmps30
  go_wp2_with fail
  go_loopg [3] N (fun k _ wr => ∃ (en : Bool) (s' : Ms) (rs' : List RowU), Hid (MsM wr base m s' rs' en) ∧ Hid (BelI base w wr) ∧ Hid (FinI m cd M RES k s' en))
  case atStart => exact ⟨false, s, rs, HM0, HB0, HI0⟩
  case round =>
    obtain ⟨en, s', rs', HM, HB, HI⟩ := hrel
    clear HM0 HB0 HI0
    obtain ⟨x0, x1, x2, x3, x4, x5, x6, x7, x8, x9, x10, x11, x12, x13⟩ := MsM.cells HM.out
    clear x0 x1 x2 x3 x4 x5 x6 x7 x8 x9 x10 x11 x12
    cases en with
    | true =>
      go_wp2_with fail
      go_ret
      rcases HI.out with ⟨h, _⟩ | ⟨_, p, h⟩
      · cases h
      · exact .inr ⟨s', p, rs', h, rfl, HM.out, HB.out⟩
    | false =>
      have hat : MsAt m cd M s' := by
        rcases HI.out with ⟨_, h, _⟩ | ⟨h, _⟩
        · exact h
        · cases h
      have cS := step_any m cd M s' rs' base wr HM.out HOK.out hat
      clear hat
      go_upto_region 2 with fail
      clear x13
      go_wp2_with (first | (go_at_call 34; refine cS.mono ?_; intro e w9 hP; rcases hP.ne with ⟨hf, rfl, hB⟩ | ⟨hf, z, rs9, hz, rfl, hM, hB⟩ | ⟨hf, v, hv0, hz, rfl, hB⟩))
      · go_ret
        exact .inl ⟨9, HI.out.out hf, rfl, HB.out.trans hB⟩
      · obtain ⟨h1, h2⟩ := HI.out.on HOK.out hf hz
        go_roundg (gk - 1)
        · exact ⟨_, z, rs9, Lib.hid hM, Lib.hid (HB.out.trans hB), Lib.hid h2⟩
        · omega
      · go_ret
        exact .inl ⟨v, HI.out.err hf hz, rfl, HB.out.trans hB⟩
end Go.Proofs.YtgkngimeokhhgaaDoor
/- How the instructions that are reached are marked, round by round: plain mathematics. Nothing is claimed of the program here. -/
namespace Go.Proofs.YtgkngimeokhhgaaDoor
open Go.RowKit

/-- what is marked of a list of instructions -/
structure RcI (l : List Ji) (but : Int) (o : List Bool) : Prop where
  len : o.length = l.length
  z : o[0]? = some true
  snd : ∀ i : Nat, o[i]? = some true → Way l but i
/-- where it goes on from what is marked is marked -/
def RcC (l : List Ji) (but : Int) (o : List Bool) : Prop := ∀ (i : Nat) (x : Ji) (k : Nat), o[i]? = some true → l[i]? = some x → ¬(setsJ x = true ∧ writesJ x = but) → (k : Int) ∈ nextJ x i → o[k]? = some true
def RcL (o o2 : List Bool) : Prop := ∀ i : Nat, o[i]? = some true → o2[i]? = some true
def cntB (o : List Bool) : Nat := o.countP id
theorem rcL_cons {a b : Bool} {o o2 : List Bool} (h : RcL (a :: o) (b :: o2)) : (a = true → b = true) ∧ RcL o o2 :=
  ⟨fun e => by have := h 0 (by simp [e]); simpa using this, fun i hi => by have := h (i + 1) (by simpa using hi); simpa using this⟩
theorem cnt_le : ∀ {o o2 : List Bool}, o.length = o2.length → RcL o o2 → cntB o ≤ cntB o2 ∧ (cntB o = cntB o2 → o = o2)
  | [], [], _, _ => ⟨Nat.le_refl _, fun _ => rfl⟩
  | [], _ :: _, h, _ => by simp at h
  | _ :: _, [], h, _ => by simp at h
  | a :: o, b :: o2, h, hl => by
    obtain ⟨h1, h2⟩ := rcL_cons hl
    obtain ⟨i1, i2⟩ := cnt_le (o := o) (o2 := o2) (by simpa using h) h2
    unfold cntB at *
    rw [List.countP_cons, List.countP_cons]
    cases a <;> cases b
    · simp only [id, Bool.false_eq_true, if_false, Nat.add_zero]
      exact ⟨i1, fun e => by rw [i2 e]⟩
    · simp only [id, Bool.false_eq_true, if_false, if_true, Nat.add_zero]
      exact ⟨by omega, fun e => by omega⟩
    · exact absurd (h1 rfl) (by decide)
    · simp only [id, if_true]
      exact ⟨by omega, fun e => by rw [i2 (by omega)]⟩
theorem cnt_len (o : List Bool) : cntB o ≤ o.length := List.countP_le_length
theorem closed_all {l : List Ji} {but : Int} {o : List Bool} (hz : o[0]? = some true) (hc : RcC l but o) {k : Nat} (h : Way l but k) : o[k]? = some true := by
  induction h with
  | start => exact hz
  | step _ hl hn hk ih => exact hc _ _ _ ih hl hn hk
/-- behind r rounds -/
structure RcR (l : List Ji) (but : Int) (r : Nat) (o : List Bool) : Prop where
  base : RcI l but o
  pr : RcC l but o ∨ r + 1 ≤ cntB o
theorem RcR.start {l : List Ji} {but : Int} (h : 0 < l.length) : RcR l but 0 ((List.replicate l.length false).set 0 true) := by
  have h0 : ((List.replicate l.length false).set 0 true)[0]? = some true := by rw [List.getElem?_set_self (by simpa using h)]
  refine ⟨⟨by simp, h0, fun i hi => ?_⟩, .inr ?_⟩
  · by_cases e : i = 0
    · subst e; exact .start
    · rw [List.getElem?_set_ne (by omega), List.getElem?_replicate] at hi
      split at hi <;> simp at hi
  · unfold cntB
    have : 0 < ((List.replicate l.length false).set 0 true).countP id := List.countP_pos_iff.2 ⟨true, List.mem_of_getElem? h0, rfl⟩
    omega
/-- in a round, ahead of instruction i; o0 is what was marked at its start -/
structure RcN (l : List Ji) (but : Int) (o0 : List Bool) (i : Nat) (o : List Bool) : Prop where
  base : RcI l but o
  le : RcL o0 o
  done : ∀ i2, i2 < i → ∀ (x : Ji) (k : Nat), o0[i2]? = some true → l[i2]? = some x → ¬(setsJ x = true ∧ writesJ x = but) → (k : Int) ∈ nextJ x i2 → o[k]? = some true
theorem RcN.start {l : List Ji} {but : Int} {o : List Bool} (h : RcI l but o) : RcN l but o 0 o := ⟨h, fun _ h => h, fun i2 h2 => absurd h2 (by omega)⟩
theorem RcN.skip {l : List Ji} {but : Int} {o0 o : List Bool} {i : Nat} {x : Ji} (h : RcN l but o0 i o) (hx : l[i]? = some x) (hs : o[i]? ≠ some true ∨ (setsJ x = true ∧ writesJ x = but)) : RcN l but o0 (i + 1) o := by
  refine ⟨h.base, h.le, fun i2 h2 y k h3 h4 h5 h6 => ?_⟩
  by_cases e : i2 = i
  · subst e
    rw [hx] at h4
    injection h4 with h4
    subst h4
    rcases hs with hs | hs
    · exact absurd (h.le _ h3) hs
    · exact absurd hs h5
  · exact h.done i2 (by omega) y k h3 h4 h5 h6
/-- at an instruction that is marked, and may be gone through: the first j of those where it goes on are marked -/
structure RcJ (l : List Ji) (but : Int) (o0 : List Bool) (i : Nat) (x : Ji) (j : Nat) (o : List Bool) : Prop where
  base : RcN l but o0 i o
  at_ : l[i]? = some x
  mkd : o[i]? = some true
  may : ¬(setsJ x = true ∧ writesJ x = but)
  done : ∀ j2, j2 < j → ∀ k : Nat, (nextJ x i)[j2]? = some (k : Int) → o[k]? = some true
theorem RcN.open_ {l : List Ji} {but : Int} {o0 o : List Bool} {i : Nat} {x : Ji} (h : RcN l but o0 i o) (hx : l[i]? = some x) (hm : o[i]? = some true) (hn : ¬(setsJ x = true ∧ writesJ x = but)) : RcJ l but o0 i x 0 o := ⟨h, hx, hm, hn, fun j2 h2 => absurd h2 (by omega)⟩
theorem set_true {o : List Bool} {k i : Nat} (h : o[i]? = some true) : (o.set k true)[i]? = some true := by
  by_cases e : k = i
  · subst e
    exact List.getElem?_set_self (List.getElem?_eq_some_iff.1 h).1
  · rw [List.getElem?_set_ne e]; exact h
theorem RcJ.step {l : List Ji} {but : Int} {o0 o : List Bool} {i j k : Nat} {x : Ji} (h : RcJ l but o0 i x j o) (hk : (nextJ x i)[j]? = some (k : Int)) (hl : k < l.length) : RcJ l but o0 i x (j + 1) (o.set k true) := by
  refine ⟨⟨⟨by rw [List.length_set]; exact h.base.base.len, set_true h.base.base.z, fun i2 h2 => ?_⟩, fun i2 h2 => set_true (h.base.le _ h2), fun i2 h2 y k2 h3 h4 h5 h6 => set_true (h.base.done i2 h2 y k2 h3 h4 h5 h6)⟩, h.at_, set_true h.mkd, h.may, fun j2 h2 k2 h3 => ?_⟩
  · by_cases e : k = i2
    · subst e
      exact .step (h.base.base.snd i h.mkd) h.at_ h.may (List.mem_of_getElem? hk)
    · rw [List.getElem?_set_ne e] at h2
      exact h.base.base.snd _ h2
  · by_cases e : j2 = j
    · subst e
      rw [hk] at h3
      injection h3 with h3
      have : k = k2 := by omega
      subst this
      exact List.getElem?_set_self (by rw [h.base.base.len]; exact hl)
    · exact set_true (h.done j2 (by omega) k2 h3)
theorem RcJ.close {l : List Ji} {but : Int} {o0 o : List Bool} {i j : Nat} {x : Ji} (h : RcJ l but o0 i x j o) (hj : j = (nextJ x i).length) : RcN l but o0 (i + 1) o := by
  refine ⟨h.base.base, h.base.le, fun i2 h2 y k h3 h4 h5 h6 => ?_⟩
  by_cases e : i2 = i
  · subst e
    rw [h.at_] at h4
    injection h4 with h4
    subst h4
    obtain ⟨j2, e2⟩ := List.mem_iff_getElem?.1 h6
    have hj2 := (List.getElem?_eq_some_iff.1 e2).1
    exact h.done j2 (by omega) k e2
  · exact h.base.done i2 (by omega) y k h3 h4 h5 h6
theorem RcN.close {l : List Ji} {but : Int} {o0 o : List Bool} {r : Nat} (h0 : RcR l but r o0) (h : RcN l but o0 l.length o) : RcR l but (r + 1) o := by
  refine ⟨h.base, ?_⟩
  rcases h0.pr with hc | hc
  · left
    intro i x k h1 h2 h3 h4
    exact h.le _ (closed_all h0.base.z hc (.step (h.base.snd i h1) h2 h3 h4))
  · obtain ⟨h1, h2⟩ := cnt_le (o := o0) (o2 := o) (h0.base.len.trans h.base.len.symm) h.le
    by_cases e : cntB o0 = cntB o
    · left
      have e2 := h2 e
      intro i x k h3 h4 h5 h6
      refine h.done i (List.getElem?_eq_some_iff.1 h4).1 x k ?_ h4 h5 h6
      rw [e2]; exact h3
    · right; omega
open Classical in
theorem RcR.done {c : Cd} {but : Int} {o : List Bool} (h : RcR c.l but c.l.length o) : o = reachB c but := by
  have hc : RcC c.l but o := by
    rcases h.pr with hc | hc
    · exact hc
    · have := cnt_len o
      have := h.base.len
      omega
  apply List.ext_getElem?
  intro i
  unfold reachB
  by_cases hi : i < c.l.length
  · rw [List.getElem?_map, List.getElem?_range hi]
    have hio : i < o.length := by rw [h.base.len]; exact hi
    rw [List.getElem?_eq_getElem hio]
    simp only [Option.map_some, Option.some.injEq]
    by_cases hw : Way c.l but i
    · have := closed_all h.base.z hc hw
      rw [List.getElem?_eq_getElem hio] at this
      injection this with this
      rw [this]
      exact (by simpa using hw)
    · cases hv : o[i] with
      | false => simpa using hw
      | true => exact absurd (h.base.snd i (by rw [List.getElem?_eq_getElem hio, hv])) hw
  · rw [List.getElem?_eq_none (by rw [h.base.len]; omega), List.getElem?_eq_none (by simp; omega)]
end Go.Proofs.YtgkngimeokhhgaaDoor
/- The document's marking of what is reached. -/
namespace Go.Proofs.YtgkngimeokhhgaaDoor
open Go.RowKit

theorem next_two15 (x : Ji) (i : Int) : (nextJ x i).length ≤ 2 := by
  unfold nextJ
  repeat' split
  all_goals simp
/-- where the variables of reach lie -/
structure RchI (w : World) (q : Cq) (g : Nat) (W : World) (o : List Bool) : Prop where
  bel : Below w.heap.size w W
  bx : W.heap[w.heap.size]? = some q.obj
  gn : w.heap.size < g
  ob : BoB W g o
section
variable {w W W' : World} {q : Cq} {g : Nat} {o : List Bool}
theorem RchI.on (h : RchI w q g W o) (hb : Below W.heap.size W W') : RchI w q g W' o := ⟨h.bel.trans (hb.mono h.bel.size), keep_b hb h.bx, h.gn, keep_b hb h.ob⟩
theorem RchI.set (h : RchI w q g W o) (k : Nat) : RchI w q g (W.setCell ⟨g, k, none⟩ (.bool true)) (o.set k true) := by
  have := h.gn
  exact ⟨h.bel.setCell (p := ⟨g, k, none⟩) (by show w.heap.size ≤ g; omega) _, (Below.heap_setCell _ ⟨g, k, none⟩ _ _ (by show w.heap.size ≠ g; omega)).trans h.bx, h.gn, h.ob.set k true⟩
end
def RchP (q : Cq) (but : Int) (w : World) (e : Ending) (w' : World) : Prop := ∃ g, e = .returned (.slice (some ⟨g, 0, none⟩) q.n q.n) ∧ w.heap.size ≤ g ∧ BoB w' g (reachB q.cd but) ∧ Below w.heap.size w w'
end Go.Proofs.YtgkngimeokhhgaaDoor
/- Lists of numbers of the call's own, in a slice of the call's own, that are written to in any order; no two share a block. -/
namespace Go.Proofs.YtgkngimeokhhgaaDoor
open Go.RowKit

structure RowN where
  A : Option Addr
  c : Nat
  L : List Int
def RowN.hdr (r : RowN) : Value := .slice r.A r.L.length r.c
structure RowsN (w : World) (base g : Nat) (rs : List RowN) : Prop where
  rows : w.ownsRow base 39 1 (.slice (some ⟨g, 0, none⟩) rs.length rs.length) rs.length (rs.map RowN.hdr)
  ins : ∀ r ∈ rs, OwnI w base 3 r.A r.c r.L
  apart : ∀ (i j : Nat) (r s : RowN), i ≠ j → rs[i]? = some r → rs[j]? = some s → ∀ g, r.A = some ⟨g, 0, none⟩ → s.A ≠ some ⟨g, 0, none⟩
theorem run_makeRo {P : Program} (t e : TypeId) (i : TypeInfo) (ht : P.underlying t = some (.slice e)) (hi : P.info? e = some i) (hz : i.zero = some (.slice none 0 0)) (h1 : i.size = 1) (h2 : i.bytes = 24) (n : Nat) (hn : n ≤ 100000) (w : World) :
    (Instr.makeSlice t (.int .i64 (n : Int)) (.int .i64 (n : Int))).run P w = .ok (.slice (some ⟨w.heap.size, 0, none⟩) n n) (w.alloc (.cells (Array.replicate n (Value.slice none 0 0)) e)) := by
  have hr := run_make (P := P) w t e i (.slice none 0 0) ht hi hz .i64 .i64 n n (by omega) (by omega) (by rw [h2]; omega) (by omega)
  simp only [Int.toNat_natCast, h1, Nat.mul_one] at hr
  have he : (madeCells #[.slice none 0 0] n) = Array.replicate n (Value.slice none 0 0) := by
    apply Array.ext'
    rw [toList_madeCells_one]
    simp
  have hr2 : (Instr.makeSlice t (.int .i64 (n : Int)) (.int .i64 (n : Int))).run P w = .ok (.slice (some ⟨w.heap.size, 0, none⟩) n n) (w.alloc (.cells (madeCells #[.slice none 0 0] n) e)) := hr
  rw [he] at hr2
  exact hr2
section
variable {w w' w4 : World} {base g : Nat} {rs : List RowN}
theorem RowsN.made (w : World) (base n : Nat) (hb : base ≤ w.heap.size) (hn : n ≤ 100000) : RowsN (w.alloc (.cells (Array.replicate n (Value.slice none 0 0)) 39)) base w.heap.size (List.replicate n ⟨none, 0, []⟩) := by
  refine ⟨?_, fun r hr => ?_, fun i j r s _ hr _ g hA => ?_⟩
  · rw [List.length_replicate, List.map_replicate]
    exact ⟨by simp, .inr ⟨w.heap.size, n, Array.replicate n (Value.slice none 0 0), rfl, hb, heap_alloc_new w _, Nat.le_refl _, by unfold maxLen; omega, by simp, by simp [RowN.hdr]⟩⟩
  · rw [(List.mem_replicate.1 hr).2]
    exact OwnI.nil_ _ _ _
  · have := (List.mem_replicate.1 (List.mem_of_getElem? hr)).2
    rw [this] at hA
    cases hA
theorem RowsN.heap (h : RowsN w base g rs) : base ≤ g ∧ ∃ cur, w.heap[g]? = some (.cells cur 39 (0, 0)) := by
  rcases h.rows.2 with ⟨h1, _⟩ | ⟨g', cap, cur, h1, h2, h3, _⟩
  · injection h1 with h1; cases h1
  · injection h1 with h1; injection h1 with h1; injection h1 with h1
    subst h1
    exact ⟨h2, cur, h3⟩
theorem RowsN.below {B : Nat} (h : RowsN w base g rs) (hb : Below B w w') (hB : w.heap.size ≤ B) : RowsN w' base g rs :=
  ⟨World.ownsRow.kept h.rows ⟨hb.os, hb.tape, hb.output, hb.size, fun i hi _ => hb.block i (by omega)⟩ (row := none) (by cases hh : (Value.slice (some ⟨g, 0, none⟩) rs.length rs.length).ownBlock with | none => exact .inl rfl | some k => exact .inr (by simp)), fun s hs => (h.ins s hs).below hb hB, h.apart⟩
theorem RowsN.at_ {i : Nat} {r : RowN} (h : RowsN w base g rs) (hr : rs[i]? = some r) : w.cell? ⟨g, i, none⟩ = some r.hdr ∧ w.frozen? ⟨g, i, none⟩ = false := by
  have hk := (List.getElem?_eq_some_iff.1 hr).1
  exact ⟨(h.rows.cellAt i (by simpa using hk)).trans (by rw [List.getElem?_map, hr]; rfl), h.rows.frozenAt i⟩
/-- lists stay over what is written to a slice of slices -/
theorem OwnI.past_rowsN {base' c' : Nat} {A : Option Addr} {xs : List Int} {cur : Array Value} (hO : OwnI w base' 3 A c' xs) (hg : w.heap[g]? = some (.cells cur 39 (0, 0))) (hG : w.grownBy w' (some g)) : OwnI w' base' 3 A c' xs := by
  refine hO.grownL hG fun k e => ?_
  intro e2
  injection e2 with e2
  subst e2
  rcases hO.1.2 with ⟨h1, _⟩ | ⟨g', cap, cur2, h1, _, h3, _⟩
  · injection h1 with h1; rw [e] at h1; cases h1
  · injection h1 with h1
    rw [e] at h1
    injection h1 with h1; injection h1 with h1
    subst h1
    rw [hg] at h3
    injection h3 with h3; injection h3 with _ h3
    exact absurd h3 (by decide)
/-- the i-th list has a number more -/
theorem RowsN.put {i : Nat} {r : RowN} {v : Int} {c4 : Nat} {A4 : Option Addr} (h : RowsN w base g rs) (hr : rs[i]? = some r) (hO : OwnI w4 base 3 A4 c4 (r.L ++ [v])) (hG : w.grownBy w4 (Value.slice r.A r.L.length r.c).ownBlock) (hl : ∀ b, A4 = some ⟨b, 0, none⟩ → r.A = some ⟨b, 0, none⟩ ∨ w.heap.size ≤ b) :
    RowsN (w4.setCell ⟨g, i, none⟩ (.slice A4 (r.L.length + 1) c4)) base g (rs.set i ⟨A4, c4, r.L ++ [v]⟩) ∧ w4.cell? ⟨g, i, none⟩ = some r.hdr ∧ w4.frozen? ⟨g, i, none⟩ = false ∧ (∀ B w0, B ≤ base → Below B w0 w → Below B w0 (w4.setCell ⟨g, i, none⟩ (.slice A4 (r.L.length + 1) c4))) ∧
      (∀ (b : Nat) (cs : Array Value) (t : TypeId), w.heap[b]? = some (.cells cs t (0, 0)) → t ≠ 3 → t ≠ 39 → (w4.setCell ⟨g, i, none⟩ (.slice A4 (r.L.length + 1) c4)).heap[b]? = some (.cells cs t (0, 0))) := by
  have hrm := List.mem_of_getElem? hr
  have hrO := h.ins r hrm
  have hil := (List.getElem?_eq_some_iff.1 hr).1
  obtain ⟨hbg, cur, hg⟩ := h.heap
  have hltg := (Array.getElem?_eq_some_iff.1 hg).1
  -- the row's own block is of numbers
  have hrb : ∀ b, (Value.slice r.A r.L.length r.c).ownBlock = some b → base ≤ b ∧ ∃ cs, w.heap[b]? = some (.cells cs 3 (0, 0)) := by
    intro b hb
    rcases hrO.1.2 with ⟨h1, _⟩ | ⟨g', cap, cur2, h1, h2, h3, _⟩
    · rw [h1] at hb; cases hb
    · rw [h1] at hb
      simp only [Value.ownBlock, Option.some.injEq] at hb
      subst hb
      exact ⟨h2, cur2, h3⟩
  have hne : some g ≠ (Value.slice r.A r.L.length r.c).ownBlock := by
    intro e
    obtain ⟨_, cs, h2⟩ := hrb g e.symm
    rw [hg] at h2
    injection h2 with h2; injection h2 with _ h2
    exact absurd h2 (by decide)
  have hg4 : w4.heap[g]? = some (.cells cur 39 (0, 0)) := (hG.block g hltg hne).trans hg
  have hrows4 : w4.ownsRow base 39 1 (.slice (some ⟨g, 0, none⟩) rs.length rs.length) rs.length (rs.map RowN.hdr) :=
    World.ownsRow.kept h.rows hG (.inr (by simpa [Value.ownBlock] using hne))
  obtain ⟨hst, hgs⟩ := hrows4.stored i (.slice A4 (r.L.length + 1) c4)
  have hothers : ∀ j s, j ≠ i → rs[j]? = some s → OwnI w4 base 3 s.A s.c s.L := by
    intro j s hj hs
    refine (h.ins s (List.mem_of_getElem? hs)).grownL hG fun b e e2 => ?_
    rcases hrO.1.2 with ⟨h1, _⟩ | ⟨g', cap, cur2, h1, _⟩
    · rw [h1] at e2; cases e2
    · rw [h1] at e2
      simp only [Value.ownBlock, Option.some.injEq] at e2
      subst e2
      injection h1 with h1
      exact h.apart j i s r hj hs hr b e h1
  refine ⟨⟨?_, fun s hs => ?_, fun a b s t hab hs ht k hk => ?_⟩, ?_, hrows4.frozenAt _, fun B w0 hB hb0 => ?_, fun b cs t hb h1 h2 => ?_⟩
  · rw [List.length_set, List.map_set]
    have e : RowN.hdr ⟨A4, c4, r.L ++ [v]⟩ = .slice A4 (r.L.length + 1) c4 := by simp [RowN.hdr]
    rw [e]
    exact hst
  · obtain ⟨j, hj⟩ := List.getElem?_of_mem hs
    by_cases e : i = j
    · subst e
      rw [List.getElem?_set_self hil] at hj
      injection hj with hj
      subst hj
      exact hO.past_rowsN hg4 hgs
    · rw [List.getElem?_set_ne e] at hj
      exact (hothers j s (Ne.symm e) hj).past_rowsN hg4 hgs
  · have hnew : ∀ j s, j ≠ i → rs[j]? = some s → ∀ k, s.A = some ⟨k, 0, none⟩ → A4 ≠ some ⟨k, 0, none⟩ := by
      intro j s hj hs k hk e
      rcases hl k e with h1 | h1
      · exact h.apart j i s r hj hs hr k hk h1
      · have hsO := h.ins s (List.mem_of_getElem? hs)
        rw [hk] at hsO
        have := hsO.ltL.2
        omega
    by_cases ea : a = i
    · subst ea
      rw [List.getElem?_set_self hil] at hs
      injection hs with hs
      subst hs
      rw [List.getElem?_set_ne hab] at ht
      intro e
      exact hnew b t (Ne.symm hab) ht k e hk
    · rw [List.getElem?_set_ne (Ne.symm ea)] at hs
      by_cases eb : b = i
      · subst eb
        rw [List.getElem?_set_self hil] at ht
        injection ht with ht
        subst ht
        exact hnew a s ea hs k hk
      · rw [List.getElem?_set_ne (Ne.symm eb)] at ht
        exact h.apart a b s t hab hs ht k hk
  · exact (hrows4.cellAt i (by simpa using hil)).trans (by rw [List.getElem?_map, hr]; rfl)
  · have hb4 : Below B w0 w4 := hb0.grown hG (by omega) fun k hk => Nat.le_trans hB (hrb k hk).1
    exact hb4.setCell (by show B ≤ g; omega) _
  · have hlt := (Array.getElem?_eq_some_iff.1 hb).1
    have n1 : some b ≠ (Value.slice r.A r.L.length r.c).ownBlock := by
      intro e
      obtain ⟨_, cs2, h3⟩ := hrb b e.symm
      rw [hb] at h3
      injection h3 with h3; injection h3 with _ h3
      exact h1 h3
    have n2 : b ≠ g := by
      intro e
      subst e
      rw [hg] at hb
      injection hb with hb; injection hb with _ hb
      exact h2 hb.symm
    exact (Below.heap_setCell _ ⟨g, i, none⟩ _ _ n2).trans ((hG.block b hlt n1).trans hb)
/-- lists of the call's own read as lists -/
theorem RowsN.reads (h : RowsN w base g rs) : IntsLL w w.heap.size (some ⟨g, 0, none⟩) rs.length (rs.map (·.L)) := by
  obtain ⟨_, cur, hg⟩ := h.heap
  refine ⟨by simp, fun _ => ⟨g, 0, rfl, lt_of_heap hg, fun k L hL => ?_⟩⟩
  rw [List.getElem?_map, Option.map_eq_some_iff] at hL
  obtain ⟨r, hr, rfl⟩ := hL
  have hO := h.ins r (List.mem_of_getElem? hr)
  rw [Nat.zero_add]
  exact ⟨r.A, r.c, (h.at_ hr).1, OwnI.len_cap hO, hO.ints⟩
end
end Go.Proofs.YtgkngimeokhhgaaDoor
/- What the document's valid tells, as calls' ends; which registers are surely set, register by register. -/
namespace Go.Proofs.YtgkngimeokhhgaaDoor
open Go.RowKit

noncomputable def reachC (c : Cd) : List Bool := if c.may then reachB c (-1) else []
noncomputable def setC (c : Cd) : List (List Int) := if c.may then setsN c else []
noncomputable def unsetC (c : Cd) : List Int := if c.may then (unsetN c).map (fun n : Nat => (n : Int)) else []
noncomputable def loopsC (c : Cd) : List Int := if c.may then (loopsN c).map (fun n : Nat => (n : Int)) else []
def ReachP (q : Cq) (w : World) (e : Ending) (w' : World) : Prop := ∃ A n c, e = .returned (.tuple #[.slice A n c, .int .i64 q.cd.e]) ∧ Bools w' w'.heap.size A n (reachC q.cd) ∧ Below w.heap.size w w'
def SetP (q : Cq) (w : World) (e : Ending) (w' : World) : Prop := ∃ A n c, e = .returned (.tuple #[.slice A n c, .int .i64 q.cd.e]) ∧ IntsLL w' w'.heap.size A n (setC q.cd) ∧ n ≤ c ∧ Below w.heap.size w w'
def UnsetP (q : Cq) (w : World) (e : Ending) (w' : World) : Prop := ∃ A n c, e = .returned (.tuple #[.slice A n c, .int .i64 q.cd.e]) ∧ Ints w' w'.heap.size A n (unsetC q.cd) ∧ Below w.heap.size w w'
def LoopsP (q : Cq) (w : World) (e : Ending) (w' : World) : Prop := ∃ A n c, e = .returned (.tuple #[.slice A n c, .int .i64 q.cd.e]) ∧ Ints w' w'.heap.size A n (loopsC q.cd) ∧ Below w.heap.size w w'
def ValidP (q : Cq) (w : World) (e : Ending) (w' : World) : Prop := e = .returned (.int .i64 (validE q.cd)) ∧ Below w.heap.size w w'
theorem Cd.e_yes {c : Cd} (h : c.may = true) : c.e = 0 := by unfold Cd.e; rw [h]; rfl
theorem Cd.e_no {c : Cd} (h : c.may = false) : c.e = 1 := by unfold Cd.e; rw [h]; rfl
open Classical in
/-- those of the first k registers that are surely set -/
noncomputable def setK (c : Cd) (k : Nat) (i : Nat) : List Int := ((List.range k).filter fun (n : Nat) => decide (Way c.l (-1) i ∧ ¬ Way c.l (n : Int) i)).map fun (n : Nat) => (n : Int)
theorem setK_all (c : Cd) (i : Nat) : setK c c.R.toNat i = setN c i := rfl
theorem setK_zero (c : Cd) (i : Nat) : setK c 0 i = [] := rfl
theorem setK_yes {c : Cd} {k i : Nat} (h1 : Way c.l (-1) i) (h2 : ¬ Way c.l (k : Int) i) : setK c (k + 1) i = setK c k i ++ [(k : Int)] := by
  unfold setK
  rw [List.range_succ, List.filter_append, List.map_append]
  congr 1
  rw [List.filter_cons_of_pos (by simpa using ⟨h1, h2⟩)]; rfl
theorem setK_no {c : Cd} {k i : Nat} (h : ¬ (Way c.l (-1) i ∧ ¬ Way c.l (k : Int) i)) : setK c (k + 1) i = setK c k i := by
  unfold setK
  rw [List.range_succ, List.filter_append, List.map_append, List.filter_cons_of_neg (by simpa using h)]
  simp
theorem setK_len (c : Cd) (k i : Nat) : (setK c k i).length ≤ k := by
  unfold setK
  rw [List.length_map]
  refine Nat.le_trans (List.length_filter_le _ _) ?_
  simp
theorem setK_fit (c : Cd) {k i : Nat} (hk : k ≤ 100000) : ∀ v ∈ setK c k i, -9223372036854775808 ≤ v ∧ v ≤ 9223372036854775807 := by
  intro v hv
  unfold setK at hv
  obtain ⟨m, hm, rfl⟩ := List.mem_map.1 hv
  have := List.mem_range.1 (List.mem_filter.1 hm).1
  omega
/-- the lists ahead of instruction i have what is told of register k, too -/
structure SetI (c : Cd) (k i : Nat) (rs : List RowN) : Prop where
  len : rs.length = c.l.length
  at_ : ∀ (j : Nat) (r : RowN), rs[j]? = some r → r.L = setK c (if j < i then k + 1 else k) j
theorem SetI.start (c : Cd) {n : Nat} (hn : c.l.length = n) : SetI c 0 0 (List.replicate n ⟨none, 0, []⟩) :=
  ⟨by simp [hn], fun j r hr => by rw [(List.mem_replicate.1 (List.mem_of_getElem? hr)).2, if_neg (by omega)]; rfl⟩
theorem SetI.next {c : Cd} {k n : Nat} {rs : List RowN} (hn : c.l.length = n) (h : SetI c k n rs) : SetI c (k + 1) 0 rs := by
  refine ⟨h.len, fun j r hr => ?_⟩
  have hj : j < n := by have := (List.getElem?_eq_some_iff.1 hr).1; rw [h.len, hn] at this; exact this
  rw [if_neg (by omega), h.at_ j r hr, if_pos hj]
theorem SetI.skip {c : Cd} {k i : Nat} {rs : List RowN} (h : SetI c k i rs) (hw : ¬ (Way c.l (-1) i ∧ ¬ Way c.l (k : Int) i)) : SetI c k (i + 1) rs := by
  refine ⟨h.len, fun j r hr => ?_⟩
  rw [h.at_ j r hr]
  by_cases e : j = i
  · subst e
    rw [if_neg (by omega), if_pos (by omega), setK_no hw]
  · by_cases h2 : j < i
    · rw [if_pos h2, if_pos (by omega)]
    · rw [if_neg h2, if_neg (by omega)]
theorem SetI.put {c : Cd} {k i c4 : Nat} {A4 : Option Addr} {r : RowN} {rs : List RowN} (h : SetI c k i rs) (hr : rs[i]? = some r) (h1 : Way c.l (-1) i) (h2 : ¬ Way c.l (k : Int) i) : SetI c k (i + 1) (rs.set i ⟨A4, c4, r.L ++ [(k : Int)]⟩) := by
  refine ⟨by rw [List.length_set]; exact h.len, fun j s hs => ?_⟩
  by_cases e : i = j
  · subst e
    rw [List.getElem?_set_self (List.getElem?_eq_some_iff.1 hr).1] at hs
    injection hs with hs
    subst hs
    show r.L ++ [(k : Int)] = _
    rw [if_pos (by omega), setK_yes h1 h2, h.at_ i r hr, if_neg (by omega)]
  · rw [List.getElem?_set_ne e] at hs
    rw [h.at_ j s hs]
    by_cases h3 : j < i
    · rw [if_pos h3, if_pos (by omega)]
    · rw [if_neg h3, if_neg (by omega)]
theorem SetI.done {c : Cd} {rs : List RowN} (h : SetI c c.R.toNat 0 rs) : rs.map (·.L) = setsN c := by
  apply List.ext_getElem?
  intro j
  unfold setsN
  by_cases hj : j < c.l.length
  · have hjr : j < rs.length := by rw [h.len]; exact hj
    rw [List.getElem?_map, List.getElem?_map, List.getElem?_range hj, List.getElem?_eq_getElem hjr]
    simp only [Option.map_some, Option.some.injEq]
    rw [h.at_ j _ (List.getElem?_eq_getElem hjr), if_neg (by omega)]
    exact setK_all c j
  · rw [List.getElem?_eq_none (by simp [h.len]; omega), List.getElem?_eq_none (by simp; omega)]
open Classical in
theorem reachB_at {c : Cd} {but : Int} {i : Nat} (hi : i < c.l.length) : (reachB c but)[i]? = some (decide (Way c.l but i)) := by
  unfold reachB
  rw [List.getElem?_map, List.getElem?_range hi]; rfl
theorem reachB_len (c : Cd) (but : Int) : (reachB c but).length = c.l.length := by simp [reachB]
theorem reachB_iff {c : Cd} {but : Int} {i : Nat} {v : Bool} (h : (reachB c but)[i]? = some v) : v = true ↔ Way c.l but i := by
  have hi : i < c.l.length := by have := (List.getElem?_eq_some_iff.1 h).1; rwa [reachB_len] at this
  rw [reachB_at hi] at h
  injection h with h
  rw [← h]
  simp
theorem reachB_get {c : Cd} (but : Int) {i : Nat} (hi : i < c.l.length) : ∃ v, (reachB c but)[i]? = some v := ⟨_, reachB_at hi⟩
end Go.Proofs.YtgkngimeokhhgaaDoor
/- Lists of places that are told by a mark; the document's 'is a number in a list'. -/
namespace Go.Proofs.YtgkngimeokhhgaaDoor
open Go.RowKit

/-- those of the first i places that are marked -/
def flN (p : Nat → Bool) (i : Nat) : List Int := ((List.range i).filter p).map fun n : Nat => (n : Int)
theorem flN_zero (p : Nat → Bool) : flN p 0 = [] := rfl
theorem flN_yes {p : Nat → Bool} {i : Nat} (h : p i = true) : flN p (i + 1) = flN p i ++ [(i : Int)] := by
  unfold flN
  rw [List.range_succ, List.filter_append, List.map_append]
  simp [h]
theorem flN_no {p : Nat → Bool} {i : Nat} (h : p i = false) : flN p (i + 1) = flN p i := by
  unfold flN
  rw [List.range_succ, List.filter_append, List.map_append]
  simp [h]
theorem flN_len (p : Nat → Bool) (i : Nat) : (flN p i).length ≤ i := by
  unfold flN
  rw [List.length_map]
  refine Nat.le_trans (List.length_filter_le _ _) ?_
  simp
open Classical in
noncomputable def unsetB (c : Cd) (i : Nat) : Bool := decide (Way c.l (-1) i ∧ ∃ x, c.l[i]? = some x ∧ ∃ r ∈ readsJ x, r ∉ setN c i)
open Classical in
noncomputable def loopsB (c : Cd) (i : Nat) : Bool := decide (Way c.l (-1) i ∧ ∃ x, c.l[i]? = some x ∧ ∃ k ∈ nextJ x i, k ≤ (i : Int))
theorem unset_fl (c : Cd) : (unsetN c).map (fun n : Nat => (n : Int)) = flN (unsetB c) c.l.length := rfl
theorem loops_fl (c : Cd) : (loopsN c).map (fun n : Nat => (n : Int)) = flN (loopsB c) c.l.length := rfl
theorem unsetB_of {c : Cd} {i : Nat} {x : Ji} {b : Bool} (hx : c.l[i]? = some x) (h : b = true ↔ Way c.l (-1) i ∧ ∃ r ∈ readsJ x, r ∉ setN c i) : unsetB c i = b := by
  have : unsetB c i = true ↔ b = true := by
    rw [h]
    unfold unsetB
    simp only [decide_eq_true_eq]
    constructor
    · rintro ⟨h1, y, hy, h2⟩
      rw [hx] at hy
      injection hy with hy
      subst hy
      exact ⟨h1, h2⟩
    · rintro ⟨h1, h2⟩
      exact ⟨h1, x, hx, h2⟩
  cases b <;> cases h2 : unsetB c i <;> simp_all
theorem loopsB_of {c : Cd} {i : Nat} {x : Ji} {b : Bool} (hx : c.l[i]? = some x) (h : b = true ↔ Way c.l (-1) i ∧ ∃ k ∈ nextJ x i, k ≤ (i : Int)) : loopsB c i = b := by
  have : loopsB c i = true ↔ b = true := by
    rw [h]
    unfold loopsB
    simp only [decide_eq_true_eq]
    constructor
    · rintro ⟨h1, y, hy, h2⟩
      rw [hx] at hy
      injection hy with hy
      subst hy
      exact ⟨h1, h2⟩
    · rintro ⟨h1, h2⟩
      exact ⟨h1, x, hx, h2⟩
  cases b <;> cases h2 : loopsB c i <;> simp_all
theorem setsN_at {c : Cd} {i : Nat} {L : List Int} (h : (setsN c)[i]? = some L) : L = setN c i := by
  unfold setsN at h
  rw [List.getElem?_map] at h
  cases hr : (List.range c.l.length)[i]? with
  | none => rw [hr] at h; cases h
  | some j =>
    rw [hr] at h
    have hj : j = i := by
      have h2 := (List.getElem?_eq_some_iff.1 hr)
      obtain ⟨h3, h4⟩ := h2
      simpa using h4.symm
    subst hj
    simpa using h.symm
theorem setsN_len (c : Cd) : (setsN c).length = c.l.length := by simp [setsN]
theorem setN_len (c : Cd) (i : Nat) : (setN c i).length ≤ c.R.toNat := setK_len c _ i
end Go.Proofs.YtgkngimeokhhgaaDoor
/- Loops, whose answer lies in blocks of the call's own. -/
namespace Go.Proofs.YtgkngimeokhhgaaDoor
open Go.RowKit

def LoopsF (q : Cq) (w : World) (e : Ending) (w' : World) : Prop := ∃ A n c, e = .returned (.tuple #[.slice A n c, .int .i64 q.cd.e]) ∧ Ints w' w'.heap.size A n (loopsC q.cd) ∧ (∀ b o, A = some ⟨b, o, none⟩ → w.heap.size ≤ b) ∧ Below w.heap.size w w'
theorem LoopsF.plain {q : Cq} {w w' : World} {e : Ending} (h : LoopsF q w e w') : LoopsP q w e w' := by
  obtain ⟨A, n, c, h1, h2, _, h3⟩ := h
  exact ⟨A, n, c, h1, h2, h3⟩
theorem OwnI.farJ {w : World} {base c : Nat} {e : TypeId} {A : Option Addr} {xs : List Int} (h : OwnI w base e A c xs) : ∀ b o, A = some ⟨b, o, none⟩ → base ≤ b := fun b o hA => by
  rcases h.1.2 with ⟨h1, _⟩ | ⟨g, cap, cur, h1, h2, _⟩
  · injection h1 with h1; rw [hA] at h1; cases h1
  · injection h1 with h1
    rw [hA] at h1
    injection h1 with h1; injection h1 with h1
    omega
/-- what changed is one block -/
structure OffG (g : Nat) (w w' : World) : Prop where
  size : w.heap.size ≤ w'.heap.size
  block : ∀ b, b ≠ g → w'.heap[b]? = w.heap[b]?
section
variable {g n B : Nat} {w w' : World} {A : Option Addr}
theorem OffG.refl (g : Nat) (w : World) : OffG g w w := ⟨Nat.le_refl _, fun _ _ => rfl⟩
theorem OffG.set (h : OffG g w w') (o : Nat) (v : Value) : OffG g w (w'.setCell ⟨g, o, none⟩ v) :=
  ⟨Nat.le_trans h.size ((Below.refl g w').setCell (p := ⟨g, o, none⟩) (Nat.le_refl _) v).size, fun b hb => (Below.heap_setCell _ ⟨g, o, none⟩ _ _ hb).trans (h.block b hb)⟩
theorem OffG.cell (h : OffG g w w') {p : Addr} (hp : p.block ≠ g) : w'.cell? p = w.cell? p := World.cell?_of_block (h.block _ hp)
theorem Ints.offG {xs : List Int} (h : Ints w B A n xs) (hO : OffG g w w') (hA : ∀ b o, A = some ⟨b, o, none⟩ → b < B → b ≠ g) : Ints w' B A n xs := by
  obtain ⟨h1, h2, h3⟩ := h
  refine ⟨h1, h2, fun h0 => ?_⟩
  obtain ⟨b, off, e, hb, hc⟩ := h3 h0
  exact ⟨b, off, e, hb, fun k x hx => (hO.cell (hA b off e hb)).trans (hc k x hx)⟩
theorem Jis.offG {xs : List Ji} (h : Jis w B A n xs) (hO : OffG g w w') (hA : ∀ b o, A = some ⟨b, o, none⟩ → b < B → b ≠ g) : Jis w' B A n xs := by
  obtain ⟨h1, h2, h3⟩ := h
  refine ⟨h1, h2, fun h0 => ?_⟩
  obtain ⟨b, off, e, hb, hc⟩ := h3 h0
  exact ⟨b, off, e, hb, fun k x hx i hi => (hO.cell (hA b off e hb)).trans (hc k x hx i hi)⟩
end
/-- a block of instructions, from the i-th on as they were -/
def RestJ (w : World) (g i : Nat) (l : List Ji) : Prop := ∃ cs : List Value, w.heap[g]? = some (.cells cs.toArray 35 (0, 0)) ∧ ∀ k x, i ≤ k → l[k]? = some x → ∀ j, j < 5 → cs[5 * k + j]? = some (.int .i64 (x.at j))
theorem RestJ.at_ {w : World} {g i : Nat} {l : List Ji} (h : RestJ w g i l) {x : Ji} (hx : l[i]? = some x) : CellsJ w g (i * 5) x ∧ w.frozen? ⟨g, i * 5, none⟩ = false := by
  obtain ⟨cs, hg, hc⟩ := h
  have e : i * 5 = 5 * i := by omega
  have hb := fun j hj => (blk_cell hg (hc i x (Nat.le_refl _) hx j hj)).1
  have hf := (blk_cell hg (hc i x (Nat.le_refl _) hx 0 (by omega))).2
  rw [e]
  exact ⟨⟨hb 0 (by omega), hb 1 (by omega), hb 2 (by omega), hb 3 (by omega), hb 4 (by omega)⟩, hf⟩
theorem RestJ.put {w : World} {g i : Nat} {l : List Ji} (h : RestJ w g i l) (v : Value) : RestJ (w.setCell ⟨g, i * 5, none⟩ v) g (i + 1) l := by
  obtain ⟨cs, hg, hc⟩ := h
  refine ⟨cs.set (i * 5) v, set_j hg _, fun k x hk hx j hj => ?_⟩
  rw [List.getElem?_set_ne (by omega)]
  exact hc k x (by omega) hx j hj
theorem OwnJ.rest {w : World} {base c : Nat} {A : Option Addr} {l : List Ji} (h : OwnJ w base A c l) (h0 : 0 < l.length) : ∃ g, A = some ⟨g, 0, none⟩ ∧ base ≤ g ∧ g < w.heap.size ∧ RestJ w g 0 l := by
  rcases h.2 with ⟨_, h1⟩ | ⟨g, cap, cur, hv, hb, hg, _, _, _, hr⟩
  · omega
  · have hA : A = some ⟨g, 0, none⟩ := by injection hv
    refine ⟨g, hA, hb, (Array.getElem?_eq_some_iff.1 hg).1, cur.toList, by simpa using hg, fun k x _ hx j hj => ?_⟩
    have c1 := cellsJ_at hx hj
    rw [← hr, List.getElem?_take] at c1
    split at c1
    · exact c1
    · cases c1
theorem OwnJ.far {w : World} {base c : Nat} {A : Option Addr} {l : List Ji} (h : OwnJ w base A c l) : ∀ b o, A = some ⟨b, o, none⟩ → base ≤ b := fun b o hA => by
  rcases h.heap with h1 | ⟨g, cur, h1, h2, _⟩
  · rw [hA] at h1; cases h1
  · rw [hA] at h1
    injection h1 with h1; injection h1 with h1
    omega
end Go.Proofs.YtgkngimeokhhgaaDoor
/- The document's Check of what is surely set. -/
namespace Go.Proofs.YtgkngimeokhhgaaDoor
open Go.RowKit

/-- an instruction that writes where it may not -/
def badX (I : Int) (x : Ji) : Bool := (x.op == 7 || x.op == 9) && decide (x.a < I)
theorem validE_may {c : Cd} (h : c.may = false) : validE c = 1 := by unfold validE; rw [if_pos h]
theorem validE_unset {c : Cd} (h : c.may = true) (h2 : unsetN c ≠ []) : validE c = 7 := by unfold validE; rw [if_neg (by rw [h]; simp), if_pos h2]
theorem validE_range {c : Cd} (h : c.may = true) (h2 : unsetN c = []) (h3 : c.l.any (badX c.I) = true) : validE c = 3 := by
  unfold validE
  rw [if_neg (by rw [h]; simp), if_neg (by rw [h2]; simp)]
  exact if_pos h3
theorem validE_ok {c : Cd} (h : c.may = true) (h2 : unsetN c = []) (h3 : c.l.any (badX c.I) = false) : validE c = 0 := by
  unfold validE
  rw [if_neg (by rw [h]; simp), if_neg (by rw [h2]; simp)]
  exact if_neg (by show ¬ (c.l.any (badX c.I)) = true; rw [h3]; simp)
end Go.Proofs.YtgkngimeokhhgaaDoor
