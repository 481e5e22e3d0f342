/- The document's may: whether an instruction may be, in code. -/
import Derived.Test.YtgkngimeokhhgaaGreatDoorG2
import Derived.Test.YtgkngimeokhhgaaGreatDoorG1
import Derived.Deep.Slices
import Derived.Deep.Fields
import Derived.SizedLaws
import Derived.Lib.LaidTab
import Derived.OpenShut
import Derived.LaidMore
namespace Go.Proofs.YtgkngimeokhhgaaGreatDoor
open Go.RowKit

/-- code, as it is handed in -/
structure Cq where
  R : Int
  A : Int
  I : Int
  P : Option Addr
  n : Nat
  c : Nat
  l : List Ji
abbrev Cq.val (q : Cq) : Value := .agg #[.int .i64 q.R, .int .i64 q.A, .int .i64 q.I, .slice q.P q.n q.c]
abbrev Cq.obj (q : Cq) : Obj := .cells #[.int .i64 q.R, .int .i64 q.A, .int .i64 q.I, .slice q.P q.n q.c] 24
def Cq.cd (q : Cq) : Cd := ⟨q.R, q.A, q.I, q.l⟩
structure Cq.In (q : Cq) (w : World) : Prop where
  ins : Jis w w.heap.size q.P q.n q.l
  r : -9223372036854775808 ≤ q.R ∧ q.R ≤ 9223372036854775807
  a : -9223372036854775808 ≤ q.A ∧ q.A ≤ 9223372036854775807
  i : -9223372036854775808 ≤ q.I ∧ q.I ≤ 9223372036854775807
  n1 : q.n ≤ 9223372036854775807
  nc : q.n ≤ q.c
theorem Cq.In.on {q : Cq} {w w' : World} (h : q.In w) (hb : Below w.heap.size w w') : q.In w' := ⟨h.ins.on hb, h.r, h.a, h.i, h.n1, h.nc⟩
theorem Cq.In.len {q : Cq} {w : World} (h : q.In w) : q.l.length = q.n := h.ins.1
/-- the numbers of a place in an instruction -/
theorem Ji.f_at (x : Ji) {i : Nat} (h : i < 3) : ∃ v, x.f[i]? = some v ∧ x.f.getD i 0 = v := by
  have : i < x.f.length := by show i < 3; omega
  exact ⟨x.f[i], List.getElem?_eq_getElem this, by rw [List.getD_eq_getElem?_getD, List.getElem?_eq_getElem this]; rfl⟩
def InB (R A L : Int) (x : Ji) (i : Nat) : Prop := 0 ≤ x.f.getD i 0 ∧ x.f.getD i 0 < limJ R A L ((kJ x.op).getD i 32)
theorem mayJ_no {R A L : Int} {x : Ji} {i : Nat} (hi : i < 3) (h : ¬ InB R A L x i) : mayJ R A L x = false := by
  unfold mayJ
  have : ((List.range 3).all fun i => decide (0 ≤ x.f.getD i 0 ∧ x.f.getD i 0 < limJ R A L ((kJ x.op).getD i 32))) = false := by
    rw [List.all_eq_false]
    exact ⟨i, List.mem_range.2 hi, by simpa [InB] using h⟩
  rw [this, Bool.and_false, Bool.false_and]
theorem mayJ_out {R A L : Int} {x : Ji} (h : x.op < 0 ∨ 12 < x.op) : mayJ R A L x = false := by
  unfold mayJ
  rw [decide_eq_false (by omega), Bool.false_and, Bool.false_and]
theorem mayJ_yes {R A L : Int} {x : Ji} (h0 : 0 ≤ x.op ∧ x.op ≤ 12) (h : ∀ j, j < 3 → InB R A L x j) :
    mayJ R A L x = if (110 : UInt8) ∈ kJ x.op then decide (-1000000000000000000 < x.n ∧ x.n < 1000000000000000000) else decide (x.n = 0) := by
  unfold mayJ
  have : ((List.range 3).all fun i => decide (0 ≤ x.f.getD i 0 ∧ x.f.getD i 0 < limJ R A L ((kJ x.op).getD i 32))) = true := by
    rw [List.all_eq_true]
    intro i hi
    have := h i (List.mem_range.1 hi)
    simpa [InB] using this
  rw [decide_eq_true h0, this, Bool.true_and, Bool.true_and]
theorem mayJ_parts {R A L : Int} {x : Ji} (h : mayJ R A L x = true) : (0 ≤ x.op ∧ x.op ≤ 12) ∧ (∀ i, i < 3 → InB R A L x i) ∧ ((110 : UInt8) ∈ kJ x.op → -1000000000000000000 < x.n ∧ x.n < 1000000000000000000) ∧ ((110 : UInt8) ∉ kJ x.op → x.n = 0) := by
  unfold mayJ at h
  rw [Bool.and_eq_true, Bool.and_eq_true] at h
  obtain ⟨⟨h1, h2⟩, h3⟩ := h
  refine ⟨of_decide_eq_true h1, fun i hi => ?_, fun hm => ?_, fun hm => ?_⟩
  · have := List.all_eq_true.1 h2 i (List.mem_range.2 hi)
    unfold InB
    exact of_decide_eq_true this
  · rw [if_pos hm] at h3
    exact of_decide_eq_true h3
  · rw [if_neg hm] at h3
    exact of_decide_eq_true h3
theorem Cd.may_parts {c : Cd} (h : c.may = true) : (0 ≤ c.R ∧ c.R ≤ 128 ∧ 0 ≤ c.A ∧ c.A ≤ 128 ∧ 0 ≤ c.I ∧ c.I ≤ c.A ∧ 1 ≤ c.l.length ∧ c.l.length ≤ 4096) ∧ (∀ x ∈ c.l, mayJ c.R c.A c.l.length x = true) ∧ ∃ x, c.l.getLast? = some x ∧ (x.op = 0 ∨ x.op = 10) := by
  unfold Cd.may at h
  rw [Bool.and_eq_true, Bool.and_eq_true] at h
  obtain ⟨⟨h1, h2⟩, h3⟩ := h
  refine ⟨of_decide_eq_true h1, List.all_eq_true.1 h2, ?_⟩
  cases e : c.l.getLast? with
  | none => rw [e] at h3; cases h3
  | some x => rw [e] at h3; exact ⟨x, rfl, of_decide_eq_true h3⟩
theorem u8_of {c : UInt8} {n : Nat} (h : (c.toNat : Int) = (n : Int)) (hn : n < 256) : c = UInt8.ofNat n := UInt8.toNat_inj.1 (by rw [UInt8.toNat_ofNat_of_lt' (by simpa using hn)]; omega)
/-- whether an n is among the first kinds -/
def nIn (K : List UInt8) (i : Nat) : Bool := decide ((110 : UInt8) ∈ K.take i)
theorem nIn_snoc {K : List UInt8} {i : Nat} {c : UInt8} (h : K[i]? = some c) : nIn K (i + 1) = (nIn K i || decide (c = 110)) := by
  unfold nIn
  rw [List.take_add_one, h]
  simp [List.mem_append, eq_comm]
theorem nIn_end {K : List UInt8} {i : Nat} (h : K.length ≤ i) : nIn K (i + 1) = nIn K i := by
  unfold nIn
  rw [List.take_of_length_le h, List.take_of_length_le (by omega)]
theorem nIn_all {K : List UInt8} {i : Nat} (h : K.length ≤ i) : nIn K i = decide ((110 : UInt8) ∈ K) := by unfold nIn; rw [List.take_of_length_le h]
theorem inB_of {R A L : Int} {x : Ji} {i : Nat} {v lim : Int} (hv : x.f.getD i 0 = v) (hl : limJ R A L ((kJ x.op).getD i 32) = lim) : InB R A L x i ↔ (0 ≤ v ∧ v < lim) := by unfold InB; rw [hv, hl]
def MayJP (x : Ji) (q : Cq) (w : World) (e : Ending) (w' : World) : Prop := e = .returned (.bool (mayJ q.R q.A q.n x)) ∧ Below w.heap.size w w'
set_option maxRecDepth 100000 in
set_option maxHeartbeats 4000000 in
theorem refMay_any (x : Ji) (q : Cq) (w : World) (hx : x.ok) (hq : q.In w) : Calls Tryz.prog 100 #[x.val, q.val] w (MayJP x q w) := by
  obtain ⟨W0, hW0⟩ : ∃ W, (w.alloc x.obj).alloc q.obj = W := ⟨_, rfl⟩
  have HB0 : Hid (Below w.heap.size w W0) := by rw [← hW0]; exact ((Below.refl w.heap.size w).alloc (Nat.le_refl _) _).alloc (by simp) _
  have HX0 : Hid (W0.heap[w.heap.size]? = some x.obj) := by rw [← hW0]; exact pastJ _ (newJ w x)
  have HY0 : Hid (W0.heap[w.heap.size + 1]? = some q.obj) := by
    have h := heap_alloc_new (w.alloc x.obj) q.obj
    rw [World.size_alloc, hW0] at h
    exact h
  have HOK := Lib.hid hx
  have HQ := Lib.hid hq
  obtain ⟨s, hs, hbl, hsz⟩ := strJ_name (kJ x.op)
  have hsm : s.size ≤ 3 := by have := kJ_len x.op; omega
  have HS := Lib.hid hs
  have HBL := Lib.hid hbl
  have HSZ := Lib.hid hsz
  have hn1 := hq.n1
  obtain ⟨⟨k0, k1, k2, k3, k4⟩, kf⟩ := box_cellsJ HX0.out
  obtain ⟨m0, m1, m2, m3, _⟩ := lvCells HY0.out
  clear hs hbl hsz hx hq
  by_cases hop : x.op < 0 ∨ 12 < x.op
  · have HM := Lib.hid (mayJ_out (R := q.R) (A := q.A) (L := q.n) hop)
    have HW : Hid (strJ (wJ x.op) = (⟨#[]⟩ : ByteArray)) := by unfold Hid wJ; rw [if_neg (by omega)]; rfl
    clear hop
    go_enter Tryz.func100, Tryz.ntmps100
    go_wp2_with fail
    try rw [hW0]
    refine (refWord14_any x.op W0).mono ?_
    rintro e w1 ⟨rfl, hb⟩
    rw [HW.out]
    have HB1 := Lib.hid (HB0.out.trans (hb.mono HB0.out.size))
    clear hb hW0 k0 k1 k2 k3 k4 kf m0 m1 m2 m3
    go_wp2_with fail
    go_ret
    exact ⟨by rw [HM.out]; rfl, HB1.out⟩
  have hop0 : 0 ≤ x.op ∧ x.op ≤ 12 := by omega
  have HOP := Lib.hid hop0
  obtain ⟨wd, hwd, hwl, hws⟩ := strJ_name (wJ x.op)
  have hwn : wd.size ≠ 0 := by
    rw [hws]
    have : ∀ op : Int, 0 ≤ op → op ≤ 12 → (wJ op).length ≠ 0 := by
      intro op h0 h1
      rcases op_cases h0 h1 with rfl | rfl | rfl | rfl | rfl | rfl | rfl | rfl | rfl | rfl | rfl | rfl | rfl <;> decide
    exact this _ hop0.1 hop0.2
  have hne := not_empty hwn
  have HWD := Lib.hid hwd
  clear hop hop0 hwd hwl hws hwn
  go_enter Tryz.func100, Tryz.ntmps100
  go_wp2_with fail
  try rw [hW0]
  refine (refWord14_any x.op W0).mono ?_
  rintro e w1 ⟨rfl, hb⟩
  rw [HWD.out, HS.out]
  have HB1 := Lib.hid (HB0.out.trans (hb.mono HB0.out.size))
  have HX1 := Lib.hid (keep_b hb HX0.out)
  have HY1 := Lib.hid (keep_b hb HY0.out)
  clear hb hW0 k0 k1 k2 k3 k4 kf m0 m1 m2 m3
  obtain ⟨⟨k0, k1, k2, k3, k4⟩, kf⟩ := box_cellsJ HX1.out
  go_wp2_with fail
  refine (refFields_any x w1).mono ?_
  rintro e w2 ⟨hb, g, hgg, rfl, hG⟩
  have HB2 := Lib.hid (HB1.out.trans (hb.mono HB1.out.size))
  have HX2 := Lib.hid (keep_b hb HX1.out)
  have HY2 := Lib.hid (keep_b hb HY1.out)
  have HG := Lib.hid hG
  clear hb hgg hG k0 k1 k2 k3 k4 kf
  obtain ⟨m0, m1, m2, m3, _⟩ := lvCells HY2.out
  obtain ⟨⟨k0, k1, k2, k3, k4⟩, kf⟩ := box_cellsJ HX2.out
  clear k0 k1 k2 k3 kf hne
  go_wp2_with fail
  go_loop [8, 22] (fun v i => ∃ k : Nat, k ≤ 3 ∧ i = .int .i64 k ∧ v = .bool (nIn (kJ x.op) k) ∧ Hid (∀ j, j < k → InB q.R q.A q.n x j)) (fun _ i => 3 - (intOf i).toNat)
  case atStart => exact ⟨0, by omega, rfl, rfl, fun j hj => absurd hj (by omega)⟩
  case round =>
    obtain ⟨k, hk, rfl, rfl, HA⟩ := hrel
    by_cases hlt : k < 3
    · obtain ⟨v, hv, hvd⟩ := x.f_at hlt
      have hcv : w2.cell? ⟨g, k, none⟩ = some (.int .i64 v) := by
        have h3 : x.f.map (Value.int .i64) = [.int .i64 x.a, .int .i64 x.b, .int .i64 x.c] := rfl
        have : (x.f.map (Value.int .i64))[k]? = some (.int .i64 v) := by rw [List.getElem?_map, hv]; rfl
        rw [h3] at this
        refine (cell_of_row _ _ _ _ _ _ HG.out).trans ?_
        simpa using this
      have hk0 : (0 : Int) ≤ (k : Int) := by omega
      have hk3 : (k : Int) < 3 := by omega
      have HVD := Lib.hid hvd
      obtain ⟨b, hb⟩ : ∃ b, nIn (kJ x.op) k = b := ⟨_, rfl⟩
      have HBN := Lib.hid hb
      rw [hb]
      clear hv hvd hb
      by_cases hks : k < s.size
      · have hg := bl_get s k hks
        rw [HBL.out] at hg
        have hkd : (kJ x.op).getD k 32 = s[k] := by rw [List.getD_eq_getElem?_getD, hg]; rfl
        have HN1 := Lib.hid (nIn_snoc hg)
        have HKD := Lib.hid hkd
        have hks2 : (k : Int) < (s.size : Int) := by omega
        obtain ⟨cc, hcc⟩ : ∃ cc : Int, (s[k].toNat : Int) = cc := ⟨_, rfl⟩
        have HCC := Lib.hid hcc
        clear hg hkd
        by_cases h119 : cc = 119
        · subst h119
          have hck : s[k] = 119 := u8_of (n := 119) HCC.out (by omega)
          have HCK := Lib.hid hck
          clear hck
          have HL : Hid (limJ q.R q.A q.n ((kJ x.op).getD k 32) = q.R) := by unfold Hid; rw [HKD.out, HCK.out]; rfl
          have HNN : Hid (nIn (kJ x.op) (k + 1) = b) := by unfold Hid; rw [HN1.out, HCK.out, HBN.out]; simp
          by_cases hneg : v < 0
          · have HM := Lib.hid (mayJ_no (R := q.R) (A := q.A) (L := q.n) hlt (by rw [inB_of HVD.out HL.out]; omega))
            have d1 : decide (v < 0) = true := decide_eq_true hneg
            go_wp2_with fail
            go_ret
            exact ⟨by rw [HM.out]; rfl, HB2.out⟩
          · have d1 : decide (v < 0) = false := decide_eq_false hneg
            by_cases hge : q.R ≤ v
            · have HM := Lib.hid (mayJ_no (R := q.R) (A := q.A) (L := q.n) hlt (by rw [inB_of HVD.out HL.out]; omega))
              have d2 : decide (q.R ≤ v) = true := decide_eq_true hge
              clear hneg
              go_wp2_with fail
              go_ret
              exact ⟨by rw [HM.out]; rfl, HB2.out⟩
            · have HI : Hid (InB q.R q.A q.n x k) := by unfold Hid; rw [inB_of HVD.out HL.out]; omega
              have d2 : decide (q.R ≤ v) = false := decide_eq_false hge
              go_wp2_with fail
              go_round
              case rel => exact ⟨k + 1, by omega, by go_num, by rw [HNN.out], fun j hj => by
                by_cases e : j = k
                · rw [e]; exact HI.out
                · exact HA.out j (by omega)⟩
              case measure => simp [intOf]; omega
        by_cases h114 : cc = 114
        · subst h114
          have hck : s[k] = 114 := u8_of (n := 114) HCC.out (by omega)
          have HCK := Lib.hid hck
          clear hck
          have HL : Hid (limJ q.R q.A q.n ((kJ x.op).getD k 32) = q.R) := by unfold Hid; rw [HKD.out, HCK.out]; rfl
          have HNN : Hid (nIn (kJ x.op) (k + 1) = b) := by unfold Hid; rw [HN1.out, HCK.out, HBN.out]; simp
          by_cases hneg : v < 0
          · have HM := Lib.hid (mayJ_no (R := q.R) (A := q.A) (L := q.n) hlt (by rw [inB_of HVD.out HL.out]; omega))
            have d1 : decide (v < 0) = true := decide_eq_true hneg
            go_wp2_with fail
            go_ret
            exact ⟨by rw [HM.out]; rfl, HB2.out⟩
          · have d1 : decide (v < 0) = false := decide_eq_false hneg
            by_cases hge : q.R ≤ v
            · have HM := Lib.hid (mayJ_no (R := q.R) (A := q.A) (L := q.n) hlt (by rw [inB_of HVD.out HL.out]; omega))
              have d2 : decide (q.R ≤ v) = true := decide_eq_true hge
              clear hneg
              go_wp2_with fail
              go_ret
              exact ⟨by rw [HM.out]; rfl, HB2.out⟩
            · have HI : Hid (InB q.R q.A q.n x k) := by unfold Hid; rw [inB_of HVD.out HL.out]; omega
              have d2 : decide (q.R ≤ v) = false := decide_eq_false hge
              go_wp2_with fail
              go_round
              case rel => exact ⟨k + 1, by omega, by go_num, by rw [HNN.out], fun j hj => by
                by_cases e : j = k
                · rw [e]; exact HI.out
                · exact HA.out j (by omega)⟩
              case measure => simp [intOf]; omega
        by_cases h97 : cc = 97
        · subst h97
          have hck : s[k] = 97 := u8_of (n := 97) HCC.out (by omega)
          have HCK := Lib.hid hck
          clear hck
          have HL : Hid (limJ q.R q.A q.n ((kJ x.op).getD k 32) = q.A) := by unfold Hid; rw [HKD.out, HCK.out]; rfl
          have HNN : Hid (nIn (kJ x.op) (k + 1) = b) := by unfold Hid; rw [HN1.out, HCK.out, HBN.out]; simp
          by_cases hneg : v < 0
          · have HM := Lib.hid (mayJ_no (R := q.R) (A := q.A) (L := q.n) hlt (by rw [inB_of HVD.out HL.out]; omega))
            have d1 : decide (v < 0) = true := decide_eq_true hneg
            go_wp2_with fail
            go_ret
            exact ⟨by rw [HM.out]; rfl, HB2.out⟩
          · have d1 : decide (v < 0) = false := decide_eq_false hneg
            by_cases hge : q.A ≤ v
            · have HM := Lib.hid (mayJ_no (R := q.R) (A := q.A) (L := q.n) hlt (by rw [inB_of HVD.out HL.out]; omega))
              have d2 : decide (q.A ≤ v) = true := decide_eq_true hge
              clear hneg
              go_wp2_with fail
              go_ret
              exact ⟨by rw [HM.out]; rfl, HB2.out⟩
            · have HI : Hid (InB q.R q.A q.n x k) := by unfold Hid; rw [inB_of HVD.out HL.out]; omega
              have d2 : decide (q.A ≤ v) = false := decide_eq_false hge
              go_wp2_with fail
              go_round
              case rel => exact ⟨k + 1, by omega, by go_num, by rw [HNN.out], fun j hj => by
                by_cases e : j = k
                · rw [e]; exact HI.out
                · exact HA.out j (by omega)⟩
              case measure => simp [intOf]; omega
        by_cases h112 : cc = 112
        · subst h112
          have hck : s[k] = 112 := u8_of (n := 112) HCC.out (by omega)
          have HCK := Lib.hid hck
          clear hck
          have HL : Hid (limJ q.R q.A q.n ((kJ x.op).getD k 32) = (q.n : Int)) := by unfold Hid; rw [HKD.out, HCK.out]; rfl
          have HNN : Hid (nIn (kJ x.op) (k + 1) = b) := by unfold Hid; rw [HN1.out, HCK.out, HBN.out]; simp
          by_cases hneg : v < 0
          · have HM := Lib.hid (mayJ_no (R := q.R) (A := q.A) (L := q.n) hlt (by rw [inB_of HVD.out HL.out]; omega))
            have d1 : decide (v < 0) = true := decide_eq_true hneg
            go_wp2_with fail
            go_ret
            exact ⟨by rw [HM.out]; rfl, HB2.out⟩
          · have d1 : decide (v < 0) = false := decide_eq_false hneg
            by_cases hge : (q.n : Int) ≤ v
            · have HM := Lib.hid (mayJ_no (R := q.R) (A := q.A) (L := q.n) hlt (by rw [inB_of HVD.out HL.out]; omega))
              have d2 : decide ((q.n : Int) ≤ v) = true := decide_eq_true hge
              clear hneg
              go_wp2_with fail
              go_ret
              exact ⟨by rw [HM.out]; rfl, HB2.out⟩
            · have HI : Hid (InB q.R q.A q.n x k) := by unfold Hid; rw [inB_of HVD.out HL.out]; omega
              have d2 : decide ((q.n : Int) ≤ v) = false := decide_eq_false hge
              go_wp2_with fail
              go_round
              case rel => exact ⟨k + 1, by omega, by go_num, by rw [HNN.out], fun j hj => by
                by_cases e : j = k
                · rw [e]; exact HI.out
                · exact HA.out j (by omega)⟩
              case measure => simp [intOf]; omega
        by_cases h110 : cc = 110
        · subst h110
          have hck : s[k] = 110 := u8_of (n := 110) HCC.out (by omega)
          have HCK := Lib.hid hck
          clear hck
          have HL : Hid (limJ q.R q.A q.n ((kJ x.op).getD k 32) = 1) := by unfold Hid; rw [HKD.out, HCK.out]; rfl
          have HNN : Hid (nIn (kJ x.op) (k + 1) = true) := by unfold Hid; rw [HN1.out, HCK.out, HBN.out]; simp
          by_cases hneg : v < 0
          · have HM := Lib.hid (mayJ_no (R := q.R) (A := q.A) (L := q.n) hlt (by rw [inB_of HVD.out HL.out]; omega))
            have d1 : decide (v < 0) = true := decide_eq_true hneg
            go_wp2_with fail
            go_ret
            exact ⟨by rw [HM.out]; rfl, HB2.out⟩
          · have d1 : decide (v < 0) = false := decide_eq_false hneg
            by_cases hge : 1 ≤ v
            · have HM := Lib.hid (mayJ_no (R := q.R) (A := q.A) (L := q.n) hlt (by rw [inB_of HVD.out HL.out]; omega))
              have d2 : decide (1 ≤ v) = true := decide_eq_true hge
              clear hneg
              go_wp2_with fail
              go_ret
              exact ⟨by rw [HM.out]; rfl, HB2.out⟩
            · have HI : Hid (InB q.R q.A q.n x k) := by unfold Hid; rw [inB_of HVD.out HL.out]; omega
              have d2 : decide (1 ≤ v) = false := decide_eq_false hge
              go_wp2_with fail
              go_round
              case rel => exact ⟨k + 1, by omega, by go_num, by rw [HNN.out], fun j hj => by
                by_cases e : j = k
                · rw [e]; exact HI.out
                · exact HA.out j (by omega)⟩
              case measure => simp [intOf]; omega
        have c1 : (cc == 119) = false := by simpa using h119
        have c2 : (cc == 114) = false := by simpa using h114
        have c3 : (cc == 97) = false := by simpa using h97
        have c4 : (cc == 112) = false := by simpa using h112
        have c5 : (cc == 110) = false := by simpa using h110
        have HCK : Hid (s[k] ≠ 119 ∧ s[k] ≠ 114 ∧ s[k] ≠ 97 ∧ s[k] ≠ 112 ∧ s[k] ≠ 110) := by
          refine ⟨fun e => h119 ?_, fun e => h114 ?_, fun e => h97 ?_, fun e => h112 ?_, fun e => h110 ?_⟩ <;> (rw [← HCC.out, e]; rfl)
        clear h119 h114 h97 h112 h110
        have HL : Hid (limJ q.R q.A q.n ((kJ x.op).getD k 32) = (1 : Int)) := by unfold Hid; rw [HKD.out]; unfold limJ; rw [if_neg (by simp [HCK.out.1, HCK.out.2.1]), if_neg HCK.out.2.2.1, if_neg HCK.out.2.2.2.1]
        have HNN : Hid (nIn (kJ x.op) (k + 1) = b) := by unfold Hid; rw [HN1.out, HBN.out, decide_eq_false HCK.out.2.2.2.2, Bool.or_false]
        by_cases hneg : v < 0
        · have HM := Lib.hid (mayJ_no (R := q.R) (A := q.A) (L := q.n) hlt (by rw [inB_of HVD.out HL.out]; omega))
          have d1 : decide (v < 0) = true := decide_eq_true hneg
          go_wp2_with fail
          go_ret
          exact ⟨by rw [HM.out]; rfl, HB2.out⟩
        · have d1 : decide (v < 0) = false := decide_eq_false hneg
          by_cases hge : (1 : Int) ≤ v
          · have HM := Lib.hid (mayJ_no (R := q.R) (A := q.A) (L := q.n) hlt (by rw [inB_of HVD.out HL.out]; omega))
            have d2 : decide ((1 : Int) ≤ v) = true := decide_eq_true hge
            clear hneg
            go_wp2_with fail
            go_ret
            exact ⟨by rw [HM.out]; rfl, HB2.out⟩
          · have HI : Hid (InB q.R q.A q.n x k) := by unfold Hid; rw [inB_of HVD.out HL.out]; omega
            have d2 : decide ((1 : Int) ≤ v) = false := decide_eq_false hge
            go_wp2_with fail
            go_round
            case rel => exact ⟨k + 1, by omega, by go_num, by rw [HNN.out], fun j hj => by
              by_cases e : j = k
              · rw [e]; exact HI.out
              · exact HA.out j (by omega)⟩
            case measure => simp [intOf]; omega
      · have hkd : (kJ x.op).getD k 32 = 32 := by rw [List.getD_eq_getElem?_getD, List.getElem?_eq_none (by rw [← HSZ.out]; omega)]; rfl
        have HKD := Lib.hid hkd
        have HN1 := Lib.hid (nIn_end (K := kJ x.op) (i := k) (by rw [← HSZ.out]; omega))
        have dks : decide (k < s.size) = false := decide_eq_false hks
        clear hkd
        have HL : Hid (limJ q.R q.A q.n ((kJ x.op).getD k 32) = (1 : Int)) := by unfold Hid; rw [HKD.out]; rfl
        have HNN : Hid (nIn (kJ x.op) (k + 1) = b) := by unfold Hid; rw [HN1.out, HBN.out]
        by_cases hneg : v < 0
        · have HM := Lib.hid (mayJ_no (R := q.R) (A := q.A) (L := q.n) hlt (by rw [inB_of HVD.out HL.out]; omega))
          have d1 : decide (v < 0) = true := decide_eq_true hneg
          go_wp2_with fail
          go_ret
          exact ⟨by rw [HM.out]; rfl, HB2.out⟩
        · have d1 : decide (v < 0) = false := decide_eq_false hneg
          by_cases hge : (1 : Int) ≤ v
          · have HM := Lib.hid (mayJ_no (R := q.R) (A := q.A) (L := q.n) hlt (by rw [inB_of HVD.out HL.out]; omega))
            have d2 : decide ((1 : Int) ≤ v) = true := decide_eq_true hge
            clear hneg
            go_wp2_with fail
            go_ret
            exact ⟨by rw [HM.out]; rfl, HB2.out⟩
          · have HI : Hid (InB q.R q.A q.n x k) := by unfold Hid; rw [inB_of HVD.out HL.out]; omega
            have d2 : decide ((1 : Int) ≤ v) = false := decide_eq_false hge
            go_wp2_with fail
            go_round
            case rel => exact ⟨k + 1, by omega, by go_num, by rw [HNN.out], fun j hj => by
              by_cases e : j = k
              · rw [e]; exact HI.out
              · exact HA.out j (by omega)⟩
            case measure => simp [intOf]; omega
    · obtain rfl : k = 3 := by omega
      have HMY := Lib.hid (mayJ_yes (R := q.R) (A := q.A) (L := q.n) HOP.out HA.out)
      have HNA := Lib.hid (nIn_all (K := kJ x.op) (i := 3) (kJ_len _))
      by_cases hn : (110 : UInt8) ∈ kJ x.op
      · have HMZ : Hid (mayJ q.R q.A q.n x = decide (-1000000000000000000 < x.n ∧ x.n < 1000000000000000000)) := by unfold Hid; rw [HMY.out, if_pos hn]
        rw [show nIn (kJ x.op) 3 = true by rw [HNA.out]; exact decide_eq_true hn]
        clear hn
        by_cases h1 : -1000000000000000000 < x.n
        · have d1 : decide (-1000000000000000000 < x.n) = true := decide_eq_true h1
          have HD : Hid (decide (-1000000000000000000 < x.n ∧ x.n < 1000000000000000000) = decide (x.n < 1000000000000000000)) := by unfold Hid; simp [h1]
          clear h1
          go_wp2_with fail
          go_ret
          exact ⟨by rw [HMZ.out, HD.out]; rfl, HB2.out⟩
        · have d1 : decide (-1000000000000000000 < x.n) = false := decide_eq_false h1
          have HD : Hid (decide (-1000000000000000000 < x.n ∧ x.n < 1000000000000000000) = false) := by unfold Hid; simp [h1]
          clear h1
          go_wp2_with fail
          go_ret
          exact ⟨by rw [HMZ.out, HD.out]; rfl, HB2.out⟩
      · have HMZ : Hid (mayJ q.R q.A q.n x = decide (x.n = 0)) := by unfold Hid; rw [HMY.out, if_neg hn]
        rw [show nIn (kJ x.op) 3 = false by rw [HNA.out]; exact decide_eq_false hn]
        clear hn
        go_wp2_with fail
        go_ret
        exact ⟨by rw [HMZ.out]; rfl, HB2.out⟩
end Go.Proofs.YtgkngimeokhhgaaGreatDoor
/- How a slice of entries that came in reads. -/
namespace Go.Proofs.YtgkngimeokhhgaaGreatDoor
open Go.ChangeShapes Go.WideShapes Go.ChangeAt Go.RowKit Go.Deep

section
variable {H : Type} {enc : TypeId × Value → H} {w : World} {base : Nat} {spare : Nat → Bool} {held : Bool}
theorem add_two (b off i : Nat) : (Addr.add ⟨b, off, none⟩ i : Addr) = ⟨b, off + i, none⟩ := by
  by_cases h : i = 0
  · subst h; simp [Addr.add]
  · simp [Addr.add, h]
end
end Go.Proofs.YtgkngimeokhhgaaGreatDoor
/- How code, and an instruction, that came in read. -/
namespace Go.Proofs.YtgkngimeokhhgaaGreatDoor
open Go.ChangeShapes Go.WideShapes Go.ChangeAt Go.RowKit Go.Deep

theorem list5 {α : Type} {l : List α} (h : l.length = 5) : ∃ a b c d e, l = [a, b, c, d, e] := by
  match l, h with
  | [a, b, c, d, e], _ => exact ⟨a, b, c, d, e, rfl⟩
section
variable {H : Type} {enc : TypeId × Value → H} {w : World} {base : Nat} {spare : Nat → Bool} {held : Bool}
set_option maxRecDepth 100000 in
/-- five cells that read as an instruction -/
theorem open_ins5 {f0 f1 f2 f3 f4 : Field} {fuel : Nat} {v0 v1 v2 v3 v4 : Value} {x : DataW H × List MemPlace} (hs : Tryz.prog.underlying 70 = some (.struct #[f0, f1, f2, f3, f4])) (hone : oneCellFields Tryz.prog #[f0, f1, f2, f3, f4] = true) (ht0 : f0.type = 3) (ht1 : f1.type = 3) (ht2 : f2.type = 3) (ht3 : f3.type = 3) (ht4 : f4.type = 2)
    (h : DataW.trod enc Tryz.prog w base spare held fuel 70 [v0, v1, v2, v3, v4] = some x) :
    ∃ y : Ji, v0 = .int .i64 y.op ∧ v1 = .int .i64 y.a ∧ v2 = .int .i64 y.b ∧ v3 = .int .i64 y.c ∧ v4 = .int .i64 y.n ∧ y.ok := by
  obtain ⟨ys, k, _, _, _, hyl, hf⟩ := DataW.trod_struct hs h
  obtain ⟨y0, y1, y2, y3, y4, rfl⟩ := list5 hyl
  obtain ⟨o0, k0⟩ := hone_of hone 0 f0 rfl
  obtain ⟨o1, k1⟩ := hone_of hone 1 f1 rfl
  obtain ⟨o2, k2⟩ := hone_of hone 2 f2 rfl
  obtain ⟨o3, k3⟩ := hone_of hone 3 f3 rfl
  obtain ⟨o4, k4⟩ := hone_of hone 4 f4 rfl
  have h0 := hf 0 f0 rfl
  have h1 := hf 1 f1 rfl
  have h2 := hf 2 f2 rfl
  have h3 := hf 3 f3 rfl
  have h4 := hf 4 f4 rfl
  rw [o0, k0, ht0] at h0
  rw [o1, k1, ht1] at h1
  rw [o2, k2, ht2] at h2
  rw [o3, k3, ht3] at h3
  rw [o4, k4, ht4] at h4
  simp only [List.drop_zero, List.take_succ_cons, List.take_zero, List.drop_succ_cons, List.getElem?_cons_zero, List.getElem?_cons_succ] at h0 h1 h2 h3 h4
  obtain ⟨u0, e0, _, hw0⟩ := DataW.trod_int Tryz.underlying3 h0
  obtain ⟨u1, e1, _, hw1⟩ := DataW.trod_int Tryz.underlying3 h1
  obtain ⟨u2, e2, _, hw2⟩ := DataW.trod_int Tryz.underlying3 h2
  obtain ⟨u3, e3, _, hw3⟩ := DataW.trod_int Tryz.underlying3 h3
  obtain ⟨u4, e4, _, hw4⟩ := DataW.trod_int Tryz.underlying2 h4
  simp only [List.cons.injEq, and_true] at e0 e1 e2 e3 e4
  subst e0 e1 e2 e3 e4
  exact ⟨⟨u0, u1, u2, u3, u4⟩, rfl, rfl, rfl, rfl, rfl, ⟨wf_bounds hw0, wf_bounds hw1, wf_bounds hw2, wf_bounds hw3, wf_bounds hw4⟩⟩
set_option maxRecDepth 100000 in
/-- a []api.Ins that came in -/
theorem open_inss {v : Value} {d : DataW H} {p : List MemPlace} (hf : ∃ a n c, v = .slice a n c) (h : DataW.Trod enc Tryz.prog w base spare held 22 v d p) :
    ∃ A n c l, v = .slice A n c ∧ Jis w w.heap.size A n l ∧ n ≤ 9223372036854775807 ∧ n ≤ c := by
  obtain ⟨a0, len0, cap0, rfl⟩ := hf
  obtain ⟨fuel, hf⟩ := h
  rcases open_slice Tryz.underlying22 hf with ⟨hcs, _⟩ | ⟨x, l, c, m, k, D, Pl, hcs, _, hl, hm, hmm, _, hi⟩
  · simp [Value.cells] at hcs
    obtain ⟨rfl, rfl, rfl⟩ := hcs
    exact ⟨none, 0, 0, [], rfl, Jis.nil_, by omega, Nat.le_refl _⟩
  · simp [Value.cells] at hcs
    obtain ⟨rfl, rfl, rfl⟩ := hcs
    have hC : Tryz.prog.cellsOf 70 = 5 := by kernel_rfl
    have key : ∀ i, i < len0 → ∃ y : Ji, (∀ j, j < 5 → w.cell? ((x.add (i * 5)).add j) = some (.int .i64 (y.at j))) ∧ y.ok := by
      intro i hil
      have hml : len0 ≤ m := by rw [hmm]; split <;> omega
      obtain ⟨cs', hc, ht'⟩ := hi i (by omega)
      rw [hC] at hc
      obtain ⟨_, hlen, hat⟩ := World.cells?_some hc
      obtain ⟨v0, v1, v2, v3, v4, rfl⟩ := list5 hlen
      obtain ⟨y, rfl, rfl, rfl, rfl, rfl, hy⟩ := open_ins5 Tryz.underlying70 (by kernel_rfl) (by kernel_rfl) (by kernel_rfl) (by kernel_rfl) (by kernel_rfl) (by kernel_rfl) ht'
      refine ⟨y, fun j hj => ?_, hy⟩
      rw [hat j hj]
      match j, hj with
      | 0, _ => rfl
      | 1, _ => rfl
      | 2, _ => rfl
      | 3, _ => rfl
      | 4, _ => rfl
    refine ⟨_, _, _, (List.range len0).map fun i => if hh : i < len0 then Classical.choose (key i hh) else ⟨0, 0, 0, 0, 0⟩, rfl, ⟨by simp, ?_, ?_⟩, by unfold maxLen at hm; omega, hl⟩
    · intro y hy
      rw [List.mem_map] at hy
      obtain ⟨i, hir, rfl⟩ := hy
      have hil := List.mem_range.1 hir
      rw [dif_pos hil]
      exact (Classical.choose_spec (key i hil)).2
    · intro h0
      obtain ⟨b, off, spot⟩ := x
      have hs := (Classical.choose_spec (key 0 h0)).1 0 (by omega)
      have hspot : spot = none := by simpa [Addr.add] using World.cell?_spot hs
      subst hspot
      have hlt : b < w.heap.size := by have := lt_of_cell hs; simpa [Addr.add] using this
      refine ⟨b, off, rfl, hlt, fun q y hy j hj => ?_⟩
      rw [List.getElem?_map, Option.map_eq_some_iff] at hy
      obtain ⟨i, hir, hiy⟩ := hy
      have hq : q < len0 := by have := (List.getElem?_eq_some_iff.1 hir).1; simpa using this
      have hqi : i = q := by have := (List.getElem?_eq_some_iff.1 hir).2; simpa using this.symm
      subst hqi
      rw [dif_pos hq] at hiy
      have hk := (Classical.choose_spec (key i hq)).1 j hj
      rw [hiy] at hk
      rw [add_two, add_two] at hk
      exact hk
set_option maxRecDepth 100000 in
/-- code that came in -/
theorem open_code {r : Reach} {b0 : Nat} {v : Value} {d : DataW H} {p : List MemPlace} (hv : Value.okWide Tryz.prog w r b0 24 v) (h : DataW.Trod enc Tryz.prog w base spare held 24 v d p) :
    ∃ q : Cq, v = q.val ∧ q.In w := by
  obtain ⟨v0, v1, v2, v3, y0, y1, y2, y3, k, rfl, _, _, h0, h1, h2, h3⟩ := Go.Joins.open_agg4 Tryz.underlying24 (by kernel_rfl) (by kernel_rfl) hv h
  obtain ⟨R, e0, _, hw0⟩ := DataW.trod_int Tryz.underlying3 h0
  obtain ⟨A, e1, _, hw1⟩ := DataW.trod_int Tryz.underlying3 h1
  obtain ⟨I, e2, _, hw2⟩ := DataW.trod_int Tryz.underlying3 h2
  obtain ⟨a3, l3, c3, e3⟩ := Go.Joins.slice_form Tryz.underlying22 h3
  simp only [List.cons.injEq, and_true] at e0 e1 e2 e3
  have t3 : DataW.Trod enc Tryz.prog w base spare held 22 v3 y3.1 y3.2 := ⟨k, by rw [e3] at h3 ⊢; exact h3⟩
  obtain ⟨P, n, c, l, f3, i3, b3, g3⟩ := open_inss ⟨_, _, _, e3⟩ t3
  exact ⟨⟨R, A, I, P, n, c, l⟩, by rw [e0, e1, e2, f3], ⟨i3, wf_bounds hw0, wf_bounds hw1, wf_bounds hw2, b3, g3⟩⟩
end
end Go.Proofs.YtgkngimeokhhgaaGreatDoor
/- Slices of slices of integers: how they read, those of the call's own, and one more behind them. -/
namespace Go.Proofs.YtgkngimeokhhgaaGreatDoor
open Go.RowKit

set_option maxRecDepth 100000 in
theorem infoRow : (Tryz.prog.info? 36).map (fun i => (i.zero, i.size, i.bytes)) = some (some (.slice none 0 0), 1, 24) := by kernel_rfl

/-- the header (A, n) leads to slices that read as the lists LL -/
def IntsLL (w : World) (B : Nat) (A : Option Addr) (n : Nat) (LL : List (List Int)) : Prop :=
  LL.length = n ∧ (0 < n → ∃ b off, A = some ⟨b, off, none⟩ ∧ b < B ∧ ∀ (k : Nat) (L : List Int), LL[k]? = some L → ∃ a c, w.cell? ⟨b, off + k, none⟩ = some (.slice a L.length c) ∧ L.length ≤ c ∧ Ints w B a L.length L)
theorem IntsLL.at_ {w : World} {B n k : Nat} {A : Option Addr} {LL : List (List Int)} (h : IntsLL w B A n LL) (hk : k < n) :
    ∃ b off L a c, A = some ⟨b, off, none⟩ ∧ b < B ∧ Hid (LL[k]? = some L) ∧ w.cell? ⟨b, off + k, none⟩ = some (.slice a L.length c) ∧ L.length ≤ c ∧ Ints w B a L.length L := by
  obtain ⟨hl, hc⟩ := h
  obtain ⟨b, off, rfl, hB, hx⟩ := hc (by omega)
  have hk' : k < LL.length := by omega
  obtain ⟨a, c, h1, h2, h3⟩ := hx k _ (List.getElem?_eq_getElem hk')
  exact ⟨b, off, LL[k], a, c, rfl, hB, List.getElem?_eq_getElem hk', h1, h2, h3⟩
theorem IntsLL.below {w w' : World} {B n : Nat} {A : Option Addr} {LL : List (List Int)} (h : IntsLL w B A n LL) (hb : Below B w w') : IntsLL w' B A n LL := by
  refine ⟨h.1, fun h0 => ?_⟩
  obtain ⟨b, off, rfl, hB, hx⟩ := h.2 h0
  refine ⟨b, off, rfl, hB, fun k L hL => ?_⟩
  obtain ⟨a, c, h1, h2, h3⟩ := hx k L hL
  exact ⟨a, c, (hb.cell (p := ⟨b, off + k, none⟩) hB).trans h1, h2, h3.below hb⟩
theorem IntsLL.more {w : World} {B B' n : Nat} {A : Option Addr} {LL : List (List Int)} (h : IntsLL w B A n LL) (hb : B ≤ B') : IntsLL w B' A n LL := by
  refine ⟨h.1, fun h0 => ?_⟩
  obtain ⟨b, off, rfl, hB, hx⟩ := h.2 h0
  refine ⟨b, off, rfl, by omega, fun k L hL => ?_⟩
  obtain ⟨a, c, h1, h2, h3⟩ := hx k L hL
  exact ⟨a, c, h1, h2, h3.more hb⟩
theorem IntsLL.nil_ (w : World) (B : Nat) (A : Option Addr) : IntsLL w B A 0 [] := ⟨rfl, fun h => absurd h (by omega)⟩

/-- the heads of slices of the call's own -/
def HeadsOK (w : World) (base : Nat) : List Value → List (List Int) → Prop
  | [], [] => True
  | v :: vs, L :: LL => (∃ a c, v = .slice a L.length c ∧ OwnI w base 3 a c L) ∧ HeadsOK w base vs LL
  | _, _ => False
theorem HeadsOK.len {w : World} {base : Nat} {vs : List Value} {LL : List (List Int)} (h : HeadsOK w base vs LL) : vs.length = LL.length := by
  induction vs generalizing LL with
  | nil => cases LL with | nil => rfl | cons L LL => exact h.elim
  | cons v vs ih => cases LL with | nil => exact h.elim | cons L LL => simp [ih h.2]
theorem HeadsOK.at_ {w : World} {base k : Nat} {vs : List Value} {LL : List (List Int)} {L : List Int} (h : HeadsOK w base vs LL) (hk : LL[k]? = some L) : ∃ a c, vs[k]? = some (.slice a L.length c) ∧ OwnI w base 3 a c L := by
  induction vs generalizing LL k with
  | nil => cases LL with | nil => simp at hk | cons L LL => exact h.elim
  | cons v vs ih => cases LL with
    | nil => exact h.elim
    | cons L' LL => cases k with
      | zero => simp at hk; subst hk; obtain ⟨a, c, rfl, ho⟩ := h.1; exact ⟨a, c, rfl, ho⟩
      | succ k => exact ih h.2 (by simpa using hk)
theorem HeadsOK.map {w w' : World} {base base' : Nat} {vs : List Value} {LL : List (List Int)} (h : HeadsOK w base vs LL) (hm : ∀ a c L, OwnI w base 3 a c L → OwnI w' base' 3 a c L) : HeadsOK w' base' vs LL := by
  induction vs generalizing LL with
  | nil => cases LL with | nil => trivial | cons L LL => exact h.elim
  | cons v vs ih => cases LL with
    | nil => exact h.elim
    | cons L LL => obtain ⟨⟨a, c, e, ho⟩, h2⟩ := h; exact ⟨⟨a, c, e, hm _ _ _ ho⟩, ih h2⟩
theorem HeadsOK.snoc {w : World} {base c : Nat} {a : Option Addr} {vs : List Value} {LL : List (List Int)} {L : List Int} (h : HeadsOK w base vs LL) (ho : OwnI w base 3 a c L) : HeadsOK w base (vs ++ [.slice a L.length c]) (LL ++ [L]) := by
  induction vs generalizing LL with
  | nil => cases LL with | nil => exact ⟨⟨a, c, rfl, ho⟩, trivial⟩ | cons L LL => exact h.elim
  | cons v vs ih => cases LL with
    | nil => exact h.elim
    | cons L LL => exact ⟨h.1, ih h.2⟩

/-- a slice of the call's own, of slices of the call's own -/
def OwnLL (w : World) (base : Nat) (A : Option Addr) (c : Nat) (LL : List (List Int)) : Prop :=
  ∃ vs, w.ownsRow base 36 1 (.slice A LL.length c) LL.length vs ∧ HeadsOK w base vs LL
theorem OwnLL.nil_ (w : World) (base : Nat) : OwnLL w base none 0 [] := ⟨[], w.ownsRow_nil base _ 1, trivial⟩
theorem OwnI.len_cap {w : World} {base : Nat} {e : TypeId} {A : Option Addr} {c : Nat} {xs : List Int} (h : OwnI w base e A c xs) : xs.length ≤ c := by
  rcases h.1.2 with ⟨hv, h0⟩ | ⟨g', cap, cur, hv, hb, hh, hc, _⟩
  · omega
  · injection hv with h1 h2 h3; omega
theorem OwnLL.ints {w : World} {base : Nat} {A : Option Addr} {c : Nat} {LL : List (List Int)} (h : OwnLL w base A c LL) : IntsLL w w.heap.size A LL.length LL := by
  obtain ⟨vs, hr, hh⟩ := h
  refine ⟨rfl, fun h0 => ?_⟩
  rcases hr.2 with ⟨_, h1⟩ | ⟨g, cap, cur, hv, _, hg, _⟩
  · omega
  have hA : A = some ⟨g, 0, none⟩ := by injection hv
  subst hA
  have hlt : g < w.heap.size := (hr.lt g rfl).2
  refine ⟨g, 0, rfl, hlt, fun k L hL => ?_⟩
  obtain ⟨a, c2, h1, h2⟩ := hh.at_ hL
  have hk := (List.getElem?_eq_some_iff.1 h1).1
  refine ⟨a, c2, ?_, h2.len_cap, h2.ints⟩
  rw [Nat.zero_add]
  exact (hr.cellAt k (by rw [← hh.len]; omega)).trans h1
theorem OwnLL.below {w w' : World} {base B : Nat} {A : Option Addr} {c : Nat} {LL : List (List Int)} (h : OwnLL w base A c LL) (hb : Below B w w') (hB : w.heap.size ≤ B) : OwnLL w' base A c LL := by
  obtain ⟨vs, hr, hh⟩ := h
  refine ⟨vs, ?_, hh.map fun a c L ho => ho.below hb hB⟩
  exact hr.kept ⟨hb.os, hb.tape, hb.output, hb.size, fun i hi _ => hb.block i (by omega)⟩ (row := none) (by cases hh : (Value.slice A LL.length c).ownBlock with | none => exact .inl rfl | some k => exact .inr (by simp))
theorem OwnLL.mono {w : World} {base base' : Nat} {A : Option Addr} {c : Nat} {LL : List (List Int)} (h : OwnLL w base A c LL) (hb : base' ≤ base) : OwnLL w base' A c LL := by
  obtain ⟨vs, hr, hh⟩ := h
  refine ⟨vs, ⟨hr.1, ?_⟩, hh.map fun a c L ho => ho.mono hb⟩
  rcases hr.2 with hh | ⟨g, cap, cur, h1, h2, h3⟩
  · exact .inl hh
  · exact .inr ⟨g, cap, cur, h1, by omega, h3⟩
theorem OwnLL.alloc {w : World} {base : Nat} {A : Option Addr} {c : Nat} {LL : List (List Int)} (h : OwnLL w base A c LL) (o : Obj) : OwnLL (w.alloc o) base A c LL := by
  obtain ⟨vs, hr, hh⟩ := h
  exact ⟨vs, hr.alloc o, hh.map fun a c L ho => ho.alloc o⟩

end Go.Proofs.YtgkngimeokhhgaaGreatDoor
/- How a slice of slices of int64s that came in reads. -/
namespace Go.Proofs.YtgkngimeokhhgaaGreatDoor
open Go.ChangeShapes Go.WideShapes Go.ChangeAt Go.RowKit Go.Deep

section
variable {H : Type} {enc : TypeId × Value → H} {w : World} {base : Nat} {spare : Nat → Bool} {held : Bool}
set_option maxRecDepth 100000 in
theorem bytesI6 : Tryz.prog.bytesOf 2 = 8 := by kernel_rfl
set_option maxRecDepth 100000 in
theorem bytesRow6 : Tryz.prog.bytesOf 28 = 24 := by kernel_rfl
theorem wAll_mem6 {P : Program} {t : TypeId} {d : DataW H} {x : Nat} : ∀ {ds : List (DataW H)}, d ∈ ds → x ∈ d.weights P t → x ∈ DataW.weightsAll P t ds
  | d' :: r, hm, hx => by
    rcases List.mem_cons.1 hm with rfl | hm
    · simp [DataW.weightsAll, hx]
    · simp [DataW.weightsAll, wAll_mem6 hm hx]
set_option maxRecDepth 100000 in
theorem one_row6 {fuel : Nat} {a : Addr} {cs : List Value} {x : DataW H × List MemPlace} (hl : cs.length = 1) (hc : ∀ i, i < 1 → w.cell? (a.add i) = cs[i]?) (h : DataW.trod enc Tryz.prog w base spare held fuel 28 cs = some x) (hw : ∀ y ∈ x.1.weights Tryz.prog 28, y ≤ reachBytes) :
    ∃ (A : Option Addr) (n c : Nat) (L : List Int), w.cell? a = some (.slice A n c) ∧ Ints w w.heap.size A n L ∧ n ≤ 17592186044416 ∧ n ≤ c := by
  match cs, hl with
  | [v], _ =>
    obtain ⟨a0, l0, c0, e0⟩ := Go.Joins.slice_form Tryz.underlying28 h
    simp only [List.cons.injEq, and_true] at e0
    subst e0
    obtain ⟨A, n, c, L, f, i, b, g⟩ := open_numsc Tryz.underlying28 Tryz.underlying2 (by kernel_rfl) ⟨_, _, _, rfl⟩ (⟨fuel, h⟩ : DataW.Trod enc Tryz.prog w base spare held 28 (.slice a0 l0 c0) x.1 x.2)
    have hn : n ≤ 17592186044416 := by
      rcases open_slice Tryz.underlying28 h with ⟨hcs, _⟩ | ⟨x0, l, c, m, k, D, Pl, hcs, _, _, _, hmm, hx, _⟩
      · simp only [List.cons.injEq, and_true] at hcs
        rw [f] at hcs
        injection hcs with _ hcs _
        omega
      · simp only [List.cons.injEq, and_true] at hcs
        rw [f] at hcs
        injection hcs with _ hcs _
        have := hw ((((List.range l).map D).length + ((List.range (m - l)).map fun j => D (l + j)).length) * Tryz.prog.bytesOf 2) (by rw [hx]; simp [DataW.weights, Tryz.underlying28])
        rw [bytesI6] at this
        simp only [List.length_map, List.length_range, reachBytes] at this
        omega
    refine ⟨A, n, c, L, ?_, i, hn, g⟩
    have := hc 0 (by omega)
    rw [← f]
    simpa [Addr.add] using this
theorem add_one6 (b off i : Nat) : (Addr.add ⟨b, off, none⟩ i : Addr) = ⟨b, off + i, none⟩ := by
  by_cases h : i = 0
  · subst h; simp [Addr.add]
  · simp [Addr.add, h]
set_option maxRecDepth 100000 in
/-- a [][]int64 that came in -/
theorem open_rows6 {v : Value} {d : DataW H} {p : List MemPlace} (hf : ∃ a n c, v = .slice a n c) (h : DataW.Trod enc Tryz.prog w base spare held 25 v d p) (hw : ∀ y ∈ d.weights Tryz.prog 25, y ≤ reachBytes) :
    ∃ A n c LL, v = .slice A n c ∧ IntsLL w w.heap.size A n LL ∧ n ≤ 5864062014805 ∧ n ≤ c ∧ ∀ L ∈ LL, L.length ≤ 17592186044416 := by
  obtain ⟨a0, len0, cap0, rfl⟩ := hf
  obtain ⟨fuel, hf⟩ := h
  rcases open_slice Tryz.underlying25 hf with ⟨hcs, _⟩ | ⟨x, l, c, m, k, D, Pl, hcs, _, hl, hm, hmm, hx, hi⟩
  · simp [Value.cells] at hcs
    obtain ⟨rfl, rfl, rfl⟩ := hcs
    exact ⟨none, 0, 0, [], rfl, IntsLL.nil_ _ _ _, by omega, Nat.le_refl _, by simp⟩
  · simp [Value.cells] at hcs
    obtain ⟨rfl, rfl, rfl⟩ := hcs
    have hC : Tryz.prog.cellsOf 28 = 1 := by kernel_rfl
    have key : ∀ i, i < len0 → ∃ (L : List Int) (A : Option Addr) (n c : Nat), w.cell? (x.add i) = some (.slice A n c) ∧ Ints w w.heap.size A n L ∧ n ≤ 17592186044416 ∧ n ≤ c := by
      intro i hil
      have hml : len0 ≤ m := by rw [hmm]; split <;> omega
      obtain ⟨cs', hc, ht'⟩ := hi i (by omega)
      rw [hC, Nat.mul_one] at hc
      obtain ⟨_, hlen, hat⟩ := World.cells?_some hc
      obtain ⟨A, n, c, L, h1, h2, h3, h4⟩ := one_row6 hlen hat ht' (fun y hy => hw y (by
        have hd : d = .slice ((List.range len0).map D) ((List.range (m - len0)).map fun j => D (len0 + j)) := by injection hx
        rw [hd]
        simp only [DataW.weights, Tryz.underlying25]
        exact List.mem_cons_of_mem _ (List.mem_append_left _ (wAll_mem6 (d := D i) (List.mem_map.2 ⟨i, List.mem_range.2 hil, rfl⟩) hy))))
      exact ⟨L, A, n, c, h1, h2, h3, h4⟩
    have hmax : len0 ≤ 5864062014805 := by
      have hd : d = .slice ((List.range len0).map D) ((List.range (m - len0)).map fun j => D (len0 + j)) := by injection hx
      have := hw ((((List.range len0).map D).length + ((List.range (m - len0)).map fun j => D (len0 + j)).length) * Tryz.prog.bytesOf 28) (by rw [hd]; simp [DataW.weights, Tryz.underlying25])
      rw [bytesRow6] at this
      simp only [List.length_map, List.length_range, reachBytes] at this
      omega
    refine ⟨_, _, _, (List.range len0).map fun i => if hh : i < len0 then Classical.choose (key i hh) else [], rfl, ⟨by simp, fun h0 => ?_⟩, hmax, hl, fun L hL => ?_⟩
    · obtain ⟨b, off, spot⟩ := x
      obtain ⟨A, n, c, hs, _⟩ := Classical.choose_spec (key 0 h0)
      have hspot : spot = none := by simpa [Addr.add] using World.cell?_spot hs
      subst hspot
      have hlt : b < w.heap.size := by have := lt_of_cell hs; simpa [Addr.add] using this
      refine ⟨b, off, rfl, hlt, fun q y hy => ?_⟩
      rw [List.getElem?_map, Option.map_eq_some_iff] at hy
      obtain ⟨i, hir, hiy⟩ := hy
      have hq : q < len0 := by have := (List.getElem?_eq_some_iff.1 hir).1; simpa using this
      have hqi : i = q := by have := (List.getElem?_eq_some_iff.1 hir).2; simpa using this.symm
      subst hqi
      rw [dif_pos hq] at hiy
      obtain ⟨A, n, c, h1, h2, h3, h4⟩ := Classical.choose_spec (key i hq)
      rw [hiy] at h2
      have hyl := h2.1
      subst hyl
      rw [add_one6] at h1
      exact ⟨A, c, h1, h4, h2⟩
    · rw [List.mem_map] at hL
      obtain ⟨i, hir, rfl⟩ := hL
      have hil := List.mem_range.1 hir
      rw [dif_pos hil]
      obtain ⟨A, n, c, _, h2, h3, _⟩ := Classical.choose_spec (key i hil)
      rw [h2.1]; exact h3
end
end Go.Proofs.YtgkngimeokhhgaaGreatDoor
/- The program's table of instructions' shapes, as the row lays it, and how it is read; what stands behind a word, as the table's numbers. -/
namespace Go.Proofs.YtgkngimeokhhgaaGreatDoor
open Go.RowKit

/-- what stands behind a word: the table's numbers -/
def kindNs : List (List Int) := [[0, 0, 0, 0], [1, 0, 0, 6], [1, 2, 0, 0], [1, 2, 2, 0], [1, 2, 2, 0], [1, 2, 2, 0], [1, 3, 2, 0], [3, 2, 2, 0], [1, 3, 0, 0], [3, 2, 0, 0], [4, 0, 0, 0], [2, 2, 4, 0], [2, 2, 4, 0]]
def kN (op : Int) : List Int := if 0 ≤ op ∧ op ≤ 12 then kindNs.getD op.toNat [0, 0, 0, 0] else [0, 0, 0, 0]
theorem kN_len (op : Int) : (kN op).length = 4 := by
  unfold kN
  split
  · rename_i h
    rcases op_cases h.1 h.2 with rfl | rfl | rfl | rfl | rfl | rfl | rfl | rfl | rfl | rfl | rfl | rfl | rfl <;> decide
  · decide
theorem kN_bound (op : Int) : ∀ v ∈ kN op, 0 ≤ v ∧ v ≤ 6 := by
  unfold kN
  split
  · rename_i h
    rcases op_cases h.1 h.2 with rfl | rfl | rfl | rfl | rfl | rfl | rfl | rfl | rfl | rfl | rfl | rfl | rfl <;> decide
  · decide
def shRow (l : List UInt8) (ks : List Int) : List Value := .string (strJ l) :: ks.map (Value.int .i64)
def shAll : List (List UInt8) → List (List Int) → List Value
  | w :: ws, k :: ks => shRow w k ++ shAll ws ks
  | _, _ => []
/-- the table's cells -/
def shCells : List Value := shAll wordsJ kindNs
/-- the table's datum -/
def shData : DataW Unit := .agg (wordsJ.zipWith (fun w k => .agg [.lit (.string w), Lib.tabData .i64 k]) kindNs)
/-- the table holds what it was laid with -/
def ShIs (w : World) : Prop := w.var? Tryz.prog "purfle/code.shapes" = some shCells.toArray
/-- so at this world, and whatever is written behind it -/
def ShT (W : World) : Prop := ∀ w, Below W.heap.size W w → ShIs w
theorem ShT.here {W : World} (h : ShT W) : ShIs W := h W (Below.refl _ _)
theorem ShT.on {W w : World} (h : ShT W) (hb : Below W.heap.size W w) : ShT w := fun w' h' => h w' (hb.trans (h'.mono hb.size))
set_option maxRecDepth 100000 in
theorem gSh : Tryz.prog.globalNamed "purfle/code.shapes" = some 0 := by kernel_rfl
theorem shT_of {W : World} (h : ShIs W) : ShT W := fun w hb => by
  unfold ShIs World.var? at *
  rw [gSh] at h ⊢
  simp only [Option.bind_some] at h ⊢
  have hl : 0 < W.heap.size := by
    cases hh : W.heap[(0 : Nat)]? with
    | none => rw [hh] at h; cases h
    | some o => exact (Array.getElem?_eq_some_iff.1 hh).1
  rw [hb.block _ hl]
  exact h
theorem str_of {l : List UInt8} {s : ByteArray} (h : s.data.toList = l) : s = strJ l := by
  subst h
  cases s
  rfl
set_option maxRecDepth 100000 in
theorem row_of_trod {W : World} {base : Nat} {sp : Nat → Bool} {held : Bool} {fuel : Nat} {cs : List Value} {l : List UInt8} {ks : List Int} {p : List MemPlace} {enc : TypeId × Value → Unit}
    (h : DataW.trod enc Tryz.prog W base sp held fuel 85 cs = some (.agg [.lit (.string l), Lib.tabData .i64 ks], p)) : cs = shRow l ks := by
  obtain ⟨y0, y1, n, hx, hl, h0, h1⟩ := Go.ChangeShapes.trod_struct2 Tryz.underlying85 h
  injection hx with hx _
  injection hx with hx
  injection hx with hx0 hx1
  injection hx1 with hx1 _
  obtain ⟨s, hs, hy, _⟩ := DataW.trod_string Tryz.underlying9 h0
  have hc1 := Lib.cells_of_tab (p := y1.2) (zs := ks) Tryz.underlying83 Tryz.underlying3 (by kernel_rfl) (by kernel_rfl) (by rw [h1]; exact congrArg some (Prod.ext hx1.symm rfl))
  have hlen : cs.length = 5 := hl.trans (by kernel_rfl)
  have es : s = strJ l := by
    rw [hy] at hx0
    injection hx0 with hx0
    injection hx0 with hx0
    exact str_of hx0.symm
  subst es
  have e0 : (cs.drop 0).take 1 = [.string (strJ l)] := hs
  have e1 : (cs.drop 1).take 4 = ks.map (Value.int .i64) := hc1
  rw [List.drop_zero] at e0
  rw [List.take_of_length_le (by simp; omega)] at e1
  rw [← List.take_append_drop 1 cs, e0, e1]
  rfl
theorem rows_of_chunks : ∀ (ws : List (List UInt8)) (ks : List (List Int)) (cs : List Value), ws.length = ks.length → cs.length = ws.length * 5 →
    (∀ (i : Nat) (w : List UInt8) (k : List Int), ws[i]? = some w → ks[i]? = some k → (cs.drop (i * 5)).take 5 = shRow w k) → cs = shAll ws ks
  | [], _, cs, _, hl, _ => by
    rw [List.eq_nil_of_length_eq_zero (l := cs) (by simpa using hl)]
    unfold shAll; rfl
  | w :: ws, [], cs, h, _, _ => by simp at h
  | w :: ws, k :: ks, cs, h, hl, hc => by
    have h0 := hc 0 w k rfl rfl
    rw [Nat.zero_mul, List.drop_zero] at h0
    show cs = shRow w k ++ shAll ws ks
    rw [← h0]
    have ih := rows_of_chunks ws ks (cs.drop 5) (by simpa using h) (by simp only [List.length_cons] at hl; rw [List.length_drop]; omega) (fun i w' k' hw hk => by
      have := hc (i + 1) w' k' (by simpa using hw) (by simpa using hk)
      rw [List.drop_drop, show 5 + i * 5 = (i + 1) * 5 by omega]
      exact this)
    rw [← ih, List.take_append_drop]
set_option maxRecDepth 100000 in
theorem sh_of_trod {W : World} {base : Nat} {sp : Nat → Bool} {held : Bool} {fuel : Nat} {cs : List Value} {p : List MemPlace} {enc : TypeId × Value → Unit}
    (h : DataW.trod enc Tryz.prog W base sp held fuel 132 cs = some (shData, p)) : cs = shCells := by
  obtain ⟨xs, m, _, hx, hl, hxl, hch⟩ := DataW.trod_array Tryz.underlying132 h
  injection hx with hx _
  unfold shData at hx
  injection hx with hx
  have hlen : cs.length = 65 := hl.trans (by kernel_rfl)
  have hce : Tryz.prog.cellsOf 85 = 5 := by kernel_rfl
  refine rows_of_chunks wordsJ kindNs cs (by decide) (by rw [hlen]; decide) fun i w k hw hk => ?_
  have hi : i < 13 := (List.getElem?_eq_some_iff.1 hw).1
  have hc := hch i hi
  rw [hce] at hc
  have hxi : i < xs.length := by omega
  rw [List.getElem?_eq_getElem hxi] at hc
  have hz := congrArg (·[i]?) hx
  simp only [List.getElem?_zipWith, hw, hk, List.getElem?_map, List.getElem?_eq_getElem hxi, Option.map_some] at hz
  have hz' := Option.some.inj hz
  exact row_of_trod (p := xs[i].2) (hc.trans (congrArg some (Prod.ext hz'.symm rfl)))
theorem shAll_at : ∀ (ws : List (List UInt8)) (ks : List (List Int)) (k i : Nat) (w : List UInt8) (q : List Int), (∀ q ∈ ks, q.length = 4) → ws[k]? = some w → ks[k]? = some q → i < 5 → (shAll ws ks)[k * 5 + i]? = (shRow w q)[i]?
  | [], _, k, _, _, _, _, h, _, _ => by simp at h
  | _ :: _, [], k, _, _, _, _, _, h, _ => by simp at h
  | w :: ws, q :: ks, 0, i, w', q', hl, hw, hq, hi => by
    simp at hw hq
    subst hw; subst hq
    have h4 := hl q (by simp)
    show (shRow w q ++ shAll ws ks)[0 * 5 + i]? = _
    rw [Nat.zero_mul, Nat.zero_add, List.getElem?_append_left (by simp [shRow]; omega)]
  | w :: ws, q :: ks, k + 1, i, w', q', hl, hw, hq, hi => by
    have h4 := hl q (by simp)
    have hr : (shRow w q).length = 5 := by simp [shRow]; omega
    show (shRow w q ++ shAll ws ks)[(k + 1) * 5 + i]? = _
    rw [List.getElem?_append_right (by omega), hr, show (k + 1) * 5 + i - 5 = k * 5 + i by omega]
    exact shAll_at ws ks k i w' q' (fun z hz => hl z (by simp [hz])) (by simpa using hw) (by simpa using hq) hi
theorem shCells_at {k i : Nat} (hk : k < 13) (hi : i < 5) : shCells[k * 5 + i]? = (shRow (wJ k) (kN k))[i]? := by
  refine shAll_at wordsJ kindNs k i _ _ (by decide) ?_ ?_ hi
  · unfold wJ
    rw [if_pos (by omega), Int.toNat_natCast, List.getD_eq_getElem?_getD, List.getElem?_eq_getElem (show k < wordsJ.length from hk)]; rfl
  · unfold kN
    rw [if_pos (by omega), Int.toNat_natCast, List.getD_eq_getElem?_getD, List.getElem?_eq_getElem (show k < kindNs.length from hk)]; rfl
/-- what stands behind a word, at one place -/
def kA (op : Int) (j : Nat) : Int := (kN op).getD j 0
/-- the cells of one op's row -/
structure ShRow (w : World) (o : Nat) (op : Int) : Prop where
  c0 : w.cell? ⟨0, o, none⟩ = some (.string (strJ (wJ op)))
  c1 : w.cell? ⟨0, o + 1, none⟩ = some (.int .i64 (kA op 0))
  c2 : w.cell? ⟨0, o + 2, none⟩ = some (.int .i64 (kA op 1))
  c3 : w.cell? ⟨0, o + 3, none⟩ = some (.int .i64 (kA op 2))
  c4 : w.cell? ⟨0, o + 4, none⟩ = some (.int .i64 (kA op 3))
theorem ShIs.row {w : World} (h : ShIs w) {k : Nat} (hk : k < 13) : ShRow w (k * 5) (k : Int) := by
  have c : ∀ i, i < 5 → w.cell? ⟨0, k * 5 + i, none⟩ = (shRow (wJ k) (kN k))[i]? := fun i hi => by
    rw [World.var?_cell gSh h (k * 5 + i), List.getElem?_toArray]
    exact shCells_at hk hi
  have e : ∀ j, j < 4 → (shRow (wJ k) (kN k))[j + 1]? = some (.int .i64 (kA (k : Int) j)) := fun j hj => by
    unfold kA
    have hl := kN_len (k : Int)
    show ((kN (k : Int)).map (Value.int .i64))[j]? = _
    rw [List.getD_eq_getElem?_getD, List.getElem?_map, List.getElem?_eq_getElem (by omega)]
    rfl
  exact ⟨c 0 (by omega), (c 1 (by omega)).trans (e 0 (by omega)), (c 2 (by omega)).trans (e 1 (by omega)), (c 3 (by omega)).trans (e 2 (by omega)), (c 4 (by omega)).trans (e 3 (by omega))⟩
/-- a shape, as a value -/
def shV (op : Int) : Value := .agg #[.string (strJ (wJ op)), .int .i64 (kA op 0), .int .i64 (kA op 1), .int .i64 (kA op 2), .int .i64 (kA op 3)]
def isOp (op : Int) : Bool := decide (0 ≤ op ∧ op ≤ 12)
def ShapeP (op : Int) (w : World) (e : Ending) (w' : World) : Prop := e = .returned (.tuple #[shV op, .bool (isOp op)]) ∧ Below w.heap.size w w'
end Go.Proofs.YtgkngimeokhhgaaGreatDoor
