/- purflelaw14.CodeLines returns true. -/
import Derived.Test.YtbmcddolfofmdaaDoorG17
import Derived.Test.YtbmcddolfofmdaaDoorPJShifts
import Derived.Test.YtbmcddolfofmdaaDoorG18
namespace Go.Proofs.YtbmcddolfofmdaaDoor
open Go.RowKit

theorem LnS.size {B pre L : List UInt8} {l : List Ji} {j : Nat} (h : LnS B l pre L j) : pre.length + L.length ≤ B.length := by rw [h.eq]; simp
theorem LnS.next {B pre L : List UInt8} {l : List Ji} {j n : Nat} (h : LnS B l pre L j) (hl : l.length = n) (hop : ∀ x ∈ l, 0 ≤ x.op ∧ x.op ≤ 12) : (pre.length + L.length + 1 = B.length + 1 ∧ j + 1 = n + 1) ∨ ∃ pre2 L2, pre.length + L.length + 1 = pre2.length ∧ pre2.length ≤ pre.length + L.length + 1 ∧ pre.length + L.length + 1 ≤ pre2.length + L2.length ∧ LnS B l pre2 L2 (j + 1) := by
  rcases h.end_ with ⟨h1, h2⟩ | ⟨x, h1, h2, _, h3⟩
  · exact .inl ⟨by omega, by omega⟩
  · refine .inr ⟨pre ++ (L ++ [10]), lnJ x, ?_, ?_, ?_, h3 (hop x (List.mem_of_getElem? h1))⟩
    all_goals (rw [List.length_append, List.length_append]; simp; try omega)
set_option maxRecDepth 100000 in
set_option maxHeartbeats 8000000 in
theorem codeLines_any (w : World) (q : Cq) (hq : q.In w) (hSh : ShT w) (hTb : TabT w) : Calls Tryd.prog 7 #[q.val] w fun r w' => r = .returned (.bool true) ∧ Below w.heap.size w w' := by
  obtain ⟨R, A, I, P, n, c, l⟩ := q
  have HQ := Lib.hid hq
  have HSh := Lib.hid hSh
  have HTb := Lib.hid hTb
  have hn1 : n ≤ 9223372036854775807 := hq.n1
  have HLN : Hid (l.length = n) := hq.len
  obtain ⟨W0, hW0⟩ : ∃ W, w.alloc (Cq.obj ⟨R, A, I, P, n, c, l⟩) = W := ⟨_, rfl⟩
  have HB0 : Hid (Below w.heap.size w W0) := by rw [← hW0]; exact lvBelow w _
  have HX0 : Hid (W0.heap[w.heap.size]? = some (Cq.obj ⟨R, A, I, P, n, c, l⟩)) := by rw [← hW0]; exact heap_alloc_new w _
  clear hq hSh hTb
  by_cases hf : n ≤ 300
  case neg =>
    have d0 : decide (n ≤ 300) = false := decide_eq_false hf
    go_enter Tryd.func7, Tryd.ntmps7
    go_wp2_with fail
    try rw [hW0]
    refine (live14_any W0 (HSh.out.on HB0.out)).mono ?_
    rintro e w1 ⟨rfl, hb⟩
    have HB1 := Lib.hid (HB0.out.trans (hb.mono HB0.out.size))
    have HX1 := Lib.hid (keep_b hb HX0.out)
    clear hb hW0
    obtain ⟨m0, m1, m2, m3, _⟩ := lvCells HX1.out
    go_wp2_with fail
    refine (refFew14_any ⟨R, A, I, P, n, c, l⟩ w1 (HQ.out.on HB1.out)).mono ?_
    rintro e w2 ⟨rfl, hb⟩
    have HB2 := Lib.hid (HB1.out.trans (hb.mono HB1.out.size))
    have HX2 := Lib.hid (keep_b hb HX1.out)
    clear hb m0 m1 m2 m3
    dsimp only
    rw [d0]
    go_wp2_with fail
    go_ret
    exact ⟨rfl, HB2.out⟩
  have d0 : decide (n ≤ 300) = true := decide_eq_true hf
  obtain ⟨⟨T, E⟩, hT⟩ : ∃ r, textF (Cq.cd ⟨R, A, I, P, n, c, l⟩) = r := ⟨_, rfl⟩
  have HT := Lib.hid hT
  clear hT
  by_cases hE : E = 0
  case neg =>
    have hT0 : T = ⟨#[]⟩ := textF_bad HT.out hE
    subst hT0
    have e0 : (E != 0) = true := by simpa using hE
    clear hE
    go_enter Tryd.func7, Tryd.ntmps7
    go_wp2_with fail
    try rw [hW0]
    refine (live14_any W0 (HSh.out.on HB0.out)).mono ?_
    rintro e w1 ⟨rfl, hb⟩
    have HB1 := Lib.hid (HB0.out.trans (hb.mono HB0.out.size))
    have HX1 := Lib.hid (keep_b hb HX0.out)
    clear hb hW0
    obtain ⟨m0, m1, m2, m3, _⟩ := lvCells HX1.out
    go_wp2_with fail
    refine (refFew14_any ⟨R, A, I, P, n, c, l⟩ w1 (HQ.out.on HB1.out)).mono ?_
    rintro e w2 ⟨rfl, hb⟩
    have HB2 := Lib.hid (HB1.out.trans (hb.mono HB1.out.size))
    have HX2 := Lib.hid (keep_b hb HX1.out)
    clear hb m0 m1 m2 m3
    dsimp only
    rw [d0]
    have hC := codeText_any ⟨R, A, I, P, n, c, l⟩ w2 (HQ.out.on HB2.out) (HSh.out.on HB2.out) (HTb.out.on HB2.out) (fun _ => by have h3 := progT_len (Cq.cd ⟨R, A, I, P, n, c, l⟩); have h4 : (Cq.cd ⟨R, A, I, P, n, c, l⟩).l.length = n := HLN.out; omega)
    unfold TextP at hC
    rw [HT.out] at hC
    obtain ⟨m0, m1, m2, m3, _⟩ := lvCells HX2.out
    go_wp2_with fail
    refine hC.mono ?_
    rintro e w3 ⟨rfl, hb⟩
    have HB3 := Lib.hid (HB2.out.trans (hb.mono HB2.out.size))
    have HX3 := Lib.hid (keep_b hb HX2.out)
    clear hb hC m0 m1 m2 m3
    go_wp2_with fail
    go_ret
    exact ⟨rfl, HB3.out⟩
  subst hE
  obtain ⟨hmay, hbl⟩ := textF_lines HT.out
  have HBL := Lib.hid hbl
  have HOP : Hid (∀ x ∈ l, 0 ≤ x.op ∧ x.op ≤ 12) := fun x hx => (mayJ_parts ((Cd.may_parts hmay).2.1 x hx)).1
  have HSZ : Hid (T.size ≤ 65536) := by
    have h := HT.out
    unfold textF at h
    rw [if_pos hmay] at h
    have h2 := (join_size (by unfold progT headT; simp) h).1
    have h3 := progT_len (Cq.cd ⟨R, A, I, P, n, c, l⟩)
    have h4 : (Cq.cd ⟨R, A, I, P, n, c, l⟩).l.length = n := HLN.out
    unfold Hid
    omega
  clear hmay hbl
  have hsz := HSZ.out
  go_enter Tryd.func7, Tryd.ntmps7
  go_wp2_with fail
  try rw [hW0]
  refine (live14_any W0 (HSh.out.on HB0.out)).mono ?_
  rintro e w1 ⟨rfl, hb⟩
  have HB1 := Lib.hid (HB0.out.trans (hb.mono HB0.out.size))
  have HX1 := Lib.hid (keep_b hb HX0.out)
  clear hb hW0
  obtain ⟨m0, m1, m2, m3, _⟩ := lvCells HX1.out
  go_wp2_with fail
  refine (refFew14_any ⟨R, A, I, P, n, c, l⟩ w1 (HQ.out.on HB1.out)).mono ?_
  rintro e w2 ⟨rfl, hb⟩
  have HB2 := Lib.hid (HB1.out.trans (hb.mono HB1.out.size))
  have HX2 := Lib.hid (keep_b hb HX1.out)
  clear hb m0 m1 m2 m3
  dsimp only
  rw [d0]
  have hC := codeText_any ⟨R, A, I, P, n, c, l⟩ w2 (HQ.out.on HB2.out) (HSh.out.on HB2.out) (HTb.out.on HB2.out) (fun _ => by have h3 := progT_len (Cq.cd ⟨R, A, I, P, n, c, l⟩); have h4 : (Cq.cd ⟨R, A, I, P, n, c, l⟩).l.length = n := HLN.out; omega)
  unfold TextP at hC
  rw [HT.out] at hC
  obtain ⟨m0, m1, m2, m3, _⟩ := lvCells HX2.out
  go_wp2_with fail
  refine hC.mono ?_
  rintro e w3 ⟨rfl, hb⟩
  have HB3 := Lib.hid (HB2.out.trans (hb.mono HB2.out.size))
  have HX3 := Lib.hid (keep_b hb HX2.out)
  clear hb hC m0 m1 m2 m3
  go_wp2_with fail
  go_loopw [6, 7, 8] (fun a b d wr => ∃ (j p i : Nat), a = .int .i64 j ∧ b = .int .i64 p ∧ d = .int .i64 i ∧ Hid ((i = (bl T).length + 1 ∧ j = n + 1) ∨ ∃ pre L, p = pre.length ∧ pre.length ≤ i ∧ i ≤ pre.length + L.length ∧ LnS (bl T) l pre L j) ∧ Hid (Below w.heap.size w wr) ∧ Hid (wr.heap[w.heap.size]? = some (Cq.obj ⟨R, A, I, P, n, c, l⟩))) (fun _ _ d _ => T.size + 2 - (intOf d).toNat)
  case atStart => exact ⟨0, 0, 0, rfl, rfl, rfl, .inr ⟨[], _, rfl, Nat.le_refl _, Nat.zero_le _, LnS.start HBL.out⟩, HB3, HX3⟩
  case round =>
    obtain ⟨j, p, i, rfl, rfl, rfl, HS, HB, HX⟩ := hrel
    have hlen : (bl T).length = T.size := bl_len T
    by_cases hi : i ≤ T.size
    case neg =>
      have hj : j = n + 1 := by
        rcases HS.out with ⟨_, h⟩ | ⟨pre, L, _, _, h1, h2⟩
        · exact h
        · have := h2.size; omega
      subst hj
      obtain ⟨m0, m1, m2, m3, _⟩ := lvCells HX.out
      clear hlen
      go_wp2_with fail
      go_ret
      exact ⟨by simp, HB.out⟩
    obtain ⟨pre, L, hp, hpi, hiL, hS⟩ : ∃ pre L, p = pre.length ∧ pre.length ≤ i ∧ i ≤ pre.length + L.length ∧ LnS (bl T) l pre L j := by
      rcases HS.out with ⟨h, _⟩ | h
      · omega
      · exact h
    subst hp
    have hsz2 := hS.size
    rw [hlen] at hsz2
    clear HS
    by_cases hm : i < pre.length + L.length
    · have hit : i < T.size := by omega
      obtain ⟨hat, hne⟩ := hS.at_ (m := i - pre.length) (by omega)
      rw [show pre.length + (i - pre.length) = i by omega, bl_get T i hit] at hat
      have c0 : ((T[i].toNat : Int) != 10) = true := by
        injection hat with hat
        rw [hat]
        have : (L[i - pre.length]'(by omega)).toNat ≠ 10 := fun e => hne (UInt8.toNat_inj.1 e)
        simp; omega
      have HNX : Hid ((i + 1 = (bl T).length + 1 ∧ j = n + 1) ∨ ∃ pre' L, pre.length = pre'.length ∧ pre'.length ≤ i + 1 ∧ i + 1 ≤ pre'.length + L.length ∧ LnS (bl T) l pre' L j) := .inr ⟨pre, L, rfl, by omega, by omega, hS⟩
      clear hat hne hS hlen hm hiL
      go_wp2_with fail
      go_roundw
      case rel => exact ⟨j, pre.length, i + 1, rfl, rfl, by go_num, HNX, HB, HX⟩
      case measure => simp [intOf]; omega
    obtain rfl : i = pre.length + L.length := by omega
    obtain ⟨i, hi2⟩ : ∃ z, pre.length + L.length = z := ⟨_, rfl⟩
    have HNX0 := hS.next HLN.out HOP.out
    have HEND : Hid (i = T.size ∨ ∃ h : i < T.size, T[i] = 10) := by
      rcases hS.end_ with ⟨_, h⟩ | ⟨x, _, h, h2, _⟩
      · exact .inl (by omega)
      · rw [hi2] at h h2
        rw [hlen] at h2
        rw [bl_get T i h2] at h
        exact .inr ⟨h2, by injection h⟩
    have HI2 := Lib.hid hi2
    rw [hi2] at HNX0 hi hsz2 ⊢
    have HNX : Hid ((i + 1 = (bl T).length + 1 ∧ j + 1 = n + 1) ∨ ∃ pre2 L2, i + 1 = pre2.length ∧ pre2.length ≤ i + 1 ∧ i + 1 ≤ pre2.length + L2.length ∧ LnS (bl T) l pre2 L2 (j + 1)) := HNX0
    have HS := Lib.hid hS
    obtain ⟨p, hp⟩ : ∃ p, pre.length = p := ⟨_, rfl⟩
    have HP := Lib.hid hp
    rw [hp] at hi2 ⊢
    have hji : j ≤ 300 := by have := hS.le; have := HLN.out; omega
    clear HNX0 hS hm hiL hpi hp hlen
    go_upto_region 12 with fail
    go_cut [47] (fun v wx => v = .bool false ∧ wx = wr)
    case first =>
      rcases HEND.out with h | ⟨h, h10⟩
      · have d1 : decide (i < T.size) = false := decide_eq_false (by omega)
        go_wp2_with fail
        go_meet
        case rel => exact ⟨rfl, rfl⟩
      · have c0 : ((T[i].toNat : Int) != 10) = false := by rw [h10]; rfl
        clear h10
        go_wp2_with fail
        go_meet
        case rel => exact ⟨rfl, rfl⟩
    obtain ⟨rfl, rfl⟩ := hcut
    clear HEND
    obtain ⟨wo, rfl⟩ : ∃ wo : World, wo = wc := ⟨_, rfl⟩
    go_wp2_with fail
    go_loopw [9, 10] (fun a b wx => ∃ (q r : Nat), a = .int .i64 r ∧ b = .int .i64 q ∧ p ≤ q ∧ q ≤ p + L.length ∧ r ≤ q ∧ Hid (r + cpR (L.drop (q - p)) = cpR L) ∧ wx = wo) (fun _ b _ => T.size + 2 - (intOf b).toNat)
    case atStart => exact ⟨p, 0, rfl, rfl, Nat.le_refl _, by omega, by omega, Lib.hid (by rw [Nat.sub_self, List.drop_zero, Nat.zero_add]), rfl⟩
    case round =>
      obtain ⟨q, r, rfl, rfl, hpq, hqL, hrq, HC, rfl⟩ := hrel
      by_cases hq1 : q + 1 < i
      · have hm1 : (q - p) + 1 < L.length := by omega
        obtain ⟨hat, _⟩ := HS.out.at_ (m := q - p) (by omega)
        obtain ⟨hat2, _⟩ := HS.out.at_ (m := q - p + 1) hm1
        have hqt : q < T.size := by omega
        have hqt1 : q + 1 < T.size := by omega
        rw [HP.out, show p + (q - p) = q by omega, bl_get T q hqt] at hat
        rw [HP.out, show p + (q - p + 1) = q + 1 by omega, bl_get T (q + 1) hqt1] at hat2
        injection hat with hat
        injection hat2 with hat2
        have hst := cpR_step hm1
        rw [← hat, ← hat2, show q - p + 1 = q + 1 - p by omega] at hst
        have hqi : (q : Int) + 1 < (i : Int) := by omega
        have hq0 : (0 : Int) ≤ (q : Int) + 1 := by omega
        clear hat hat2
        by_cases h32 : T[q] = 32
        case neg =>
          have HC2 : Hid (r + cpR (L.drop (q + 1 - p)) = cpR L) := by
            have h := HC.out
            rw [hst, if_neg (fun hh => h32 hh.1), Nat.zero_add] at h
            exact h
          have c0 : ((T[q].toNat : Int) == 32) = false := by
            have : T[q].toNat ≠ 32 := fun e => h32 (UInt8.toNat_inj.1 e)
            rw [beq_eq_false_iff_ne]; omega
          clear hst h32
          go_wp2_with fail
          go_roundw
          case rel => exact ⟨q + 1, r, rfl, by go_num, by omega, by omega, by omega, HC2, by first | trivial | rfl⟩
          case measure => simp [intOf]; omega
        have c0 : ((T[q].toNat : Int) == 32) = true := by rw [h32]; rfl
        by_cases h114 : T[q + 1] = 114
        · have HC2 : Hid (r + 1 + cpR (L.drop (q + 1 - p)) = cpR L) := by
            have h := HC.out
            rw [hst, if_pos ⟨h32, h114⟩] at h
            unfold Hid
            omega
          have c1 : ((T[q + 1].toNat : Int) == 114) = true := by rw [h114]; rfl
          clear hst h32 h114
          go_wp2_with fail
          go_roundw
          case rel => exact ⟨q + 1, r + 1, by go_num, by go_num, by omega, by omega, by omega, HC2, by first | trivial | rfl⟩
          case measure => simp [intOf]; omega
        · have HC2 : Hid (r + cpR (L.drop (q + 1 - p)) = cpR L) := by
            have h := HC.out
            rw [hst, if_neg (fun hh => h114 hh.2), Nat.zero_add] at h
            exact h
          have c1 : ((T[q + 1].toNat : Int) == 114) = false := by
            have : T[q + 1].toNat ≠ 114 := fun e => h114 (UInt8.toNat_inj.1 e)
            rw [beq_eq_false_iff_ne]; omega
          clear hst h32 h114
          go_wp2_with fail
          go_roundw
          case rel => exact ⟨q + 1, r, rfl, by go_num, by omega, by omega, by omega, HC2, by first | trivial | rfl⟩
          case measure => simp [intOf]; omega
      · have HR : Hid (r = cpR L) := by
          have h := HC.out
          rw [cpR_last (by omega), Nat.add_zero] at h
          exact h
        clear HC
        have hri : r ≤ 65536 := by omega
        rcases HS.out.want with h0 | ⟨x, hx, hj1, hw⟩
        · subst h0
          go_wp2_with fail
          go_roundw
          case rel => exact ⟨0 + 1, i + 1, i + 1, rfl, by go_num, by go_num, HNX, HB, HX⟩
          case measure => simp [intOf]; omega
        · have HWJ : Hid (r = wantJ x) := HR.out.trans hw
          have hjn : j - 1 < n := by have := (List.getElem?_eq_some_iff.1 hx).1; have := HLN.out; omega
          obtain ⟨ba, off, y, hA, hbb, HY, ⟨y0, y1, y2, y3, y4⟩, hyo⟩ := ((HQ.out.on HB.out).ins).at_ hjn
          obtain rfl : x = y := by have := HY.out; rw [hx] at this; injection this
          subst hA
          have hj0 : (0 : Int) < (j : Int) := by omega
          have hjn1 : ¬ (n : Int) < (j : Int) := by omega
          have hjn2 : (j : Int) - 1 < (n : Int) := by omega
          have hjw : IntKind.i64.wrap ((j : Int) - 1) = ((j - 1 : Nat) : Int) := by rw [IntWalk.i64_in _ (by omega)]; omega
          have HXO := Lib.hid hyo
          obtain ⟨m0, m1, m2, m3, _⟩ := lvCells HX.out
          obtain ⟨W4, hW4⟩ : ∃ W, wr.alloc x.obj = W := ⟨_, rfl⟩
          obtain ⟨g4, hg4⟩ : ∃ z, wr.heap.size = z := ⟨_, rfl⟩
          have hb4 : Below wr.heap.size wr W4 := by rw [← hW4]; exact lvBelow _ _
          have HB4 := Lib.hid (HB.out.trans (hb4.mono HB.out.size))
          have HX4 := Lib.hid (keep_b hb4 HX.out)
          have HY4 : Hid (W4.heap[g4]? = some x.obj) := by rw [← hW4, ← hg4]; exact newJ wr x
          have HW4 := Lib.hid hW4
          clear hw hx hbb hyo hb4 hW4 HY
          go_upto_region 23 with fail
          try rw [HW4.out]
          try rw [hg4]
          clear hg4 HW4 y0 y1 y2 y3 y4 m0 m1 m2 m3
          obtain ⟨⟨y0, y1, y2, y3, y4⟩, _⟩ := box_cellsJ HY4.out
          have hRd := codeReads_any x W4 HXO.out (HSh.out.on HB4.out)
          unfold ReadsP at hRd
          obtain ⟨rd, hrd⟩ : ∃ z, (readsJ x).length = z := ⟨_, rfl⟩
          have hrd3 : rd ≤ 3 := by rw [← hrd]; exact readsJ_length x
          have HWJ2 : Hid (r = rd + if setsJ x then 1 else 0) := by rw [← hrd]; exact HWJ
          rw [hrd] at hRd
          clear hrd
          go_wp2_with fail
          refine hRd.mono ?_
          rintro e w5 ⟨A5, c5, rfl, _, hb⟩
          have HB5 := Lib.hid (HB4.out.trans (hb.mono HB4.out.size))
          have HX5 := Lib.hid (keep_b hb HX4.out)
          have HY5 := Lib.hid (keep_b hb HY4.out)
          clear hb hRd y0 y1 y2 y3 y4
          obtain ⟨⟨y0, y1, y2, y3, y4⟩, _⟩ := box_cellsJ HY5.out
          go_wp2_with fail
          refine (codeWrites_any x w5 HXO.out (HSh.out.on HB5.out)).mono ?_
          rintro e w6 ⟨rfl, hb⟩
          have HB6 := Lib.hid (HB5.out.trans (hb.mono HB5.out.size))
          have HX6 := Lib.hid (keep_b hb HX5.out)
          clear hb y0 y1 y2 y3 y4
          cases hst : setsJ x with
          | true =>
            have hr : r = rd + 1 := by have h := HWJ2.out; rw [hst] at h; exact h
            subst hr
            clear hst
            go_wp2_with fail
            go_roundw
            case rel => exact ⟨j + 1, i + 1, i + 1, by go_num, by go_num, by go_num, HNX, HB6, HX6⟩
            case measure => simp [intOf]; omega
          | false =>
            have hr : r = rd := by have h := HWJ2.out; rw [hst] at h; exact h
            subst hr
            clear hst
            go_wp2_with fail
            go_roundw
            case rel => exact ⟨j + 1, i + 1, i + 1, by go_num, by go_num, by go_num, HNX, HB6, HX6⟩
            case measure => simp [intOf]; omega
end Go.Proofs.YtbmcddolfofmdaaDoor
