/- purflelaw14.CodeReads returns true. -/
import Derived.Test.YtbmcddolfofmdaaDoorG16
import Derived.Test.YtbmcddolfofmdaaDoorG13
import Derived.Shelf.LaysM
import Derived.Shelf.Strconv.Itoa4
import Derived.Test.YtbmcddolfofmdaaDoorProg
import Derived.Test.YtbmcddolfofmdaaDoorG8
import Derived.Lib.AppendIntMem
import Derived.Laws.StructEq
import Derived.Test.YtbmcddolfofmdaaDoorRows
import Derived.Test.YtbmcddolfofmdaaDoorG1
import Derived.WalkKit
import Derived.ProofKit
import Derived.OpenShut
import Derived.ChangeOld
import Derived.Below
import Derived.Lib.SmallJoins
import Derived.Test.YtbmcddolfofmdaaDoorG3
import Derived.Deep.Slices
import Derived.Deep.Fields
import Derived.Test.YtbmcddolfofmdaaDoorG5
namespace Go.Proofs.YtbmcddolfofmdaaDoor
open Go.RowKit

theorem refParse_c (s : ByteArray) (w : World) (hs : s.size ≤ 20000) {D : Cd} {N E : Int} (h : parseF (bl s) = (D, N, E)) :
    Calls Tryd.prog 10 #[.string s] w fun e w' => ∃ A' c', e = .returned (.tuple #[.agg #[.int .i64 D.R, .int .i64 D.A, .int .i64 D.I, .slice A' D.l.length c'], .int .i64 N, .int .i64 E]) ∧ OwnJ w' w.heap.size A' c' D.l ∧ Below w.heap.size w w' := by
  have hP := refParse14_any s w (by unfold maxLen; omega)
  unfold ParseP at hP
  rw [h] at hP
  exact hP
theorem refSame14_yes (a b : Cq) (w : World) (ha : a.In w) (hb : b.In w) (h : a.cd = b.cd) :
    Calls Tryd.prog 11 #[a.val, b.val] w fun e w' => e = .returned (.bool true) ∧ Below w.heap.size w w' := by
  have hP := refSame14_any a b w ha hb
  unfold SameP at hP
  rw [h, sameB_refl] at hP
  exact hP
/-- what is read may be, or is no code -/
theorem parse_in {s : ByteArray} {D : Cd} {N E : Int} (h : parseF (bl s) = (D, N, E)) (hs : s.size ≤ 20000) {w : World} {base c : Nat} {A : Option Addr} (hO : OwnJ w base A c D.l) : Cq.In ⟨D.R, D.A, D.I, A, D.l.length, c, D.l⟩ w := by
  by_cases hE : E = 0
  · subst hE
    exact hO.cq (parse_back h hs).1
  · obtain rfl : D = noCd := parse_err h hE
    exact ⟨hO.jis (fun x hx => absurd hx (by simp [noCd])), by show -9223372036854775808 ≤ (0 : Int) ∧ (0 : Int) ≤ 9223372036854775807; omega, by show -9223372036854775808 ≤ (0 : Int) ∧ (0 : Int) ≤ 9223372036854775807; omega, by show -9223372036854775808 ≤ (0 : Int) ∧ (0 : Int) ≤ 9223372036854775807; omega, by show 0 ≤ 9223372036854775807; omega, Nat.zero_le _⟩
set_option maxRecDepth 100000 in
set_option maxHeartbeats 8000000 in
theorem codeReads_law (w : World) (s : ByteArray) (hs : s.size ≤ maxLen) (hS : ShT w) : Calls Tryd.prog 3 #[.string s] w fun r w' => r = .returned (.bool true) ∧ Below w.heap.size w w' := by
  have HS := Lib.hid hs
  have HSH := Lib.hid hS
  clear hS
  have hs1 : s.size ≤ 9223372036854775807 := by unfold maxLen at hs; omega
  clear hs
  by_cases hz : s.size ≤ 20000
  case neg =>
    have d1 : decide ((20000 : Int) < (s.size : Int)) = true := by simp; omega
    have d2 : decide (20000 < s.size) = true := decide_eq_true (by omega)
    go_enter Tryd.func3, Tryd.ntmps3
    go_wp2_with fail
    refine (live14_any w HSH.out).mono ?_
    rintro e w1 ⟨rfl, hb⟩
    have HB1 := Lib.hid hb
    clear hb
    go_wp2_with fail
    go_ret
    exact ⟨rfl, HB1.out⟩
  have d1 : decide ((20000 : Int) < (s.size : Int)) = false := by simp; omega
  have d2 : decide (20000 < s.size) = false := decide_eq_false (by omega)
  have HSZ := Lib.hid hz
  obtain ⟨⟨D, N, E⟩, hP⟩ : ∃ r, parseF (bl s) = r := ⟨_, rfl⟩
  have HP := Lib.hid hP
  clear hP hz
  go_enter Tryd.func3, Tryd.ntmps3
  go_wp2_with fail
  refine (live14_any w HSH.out).mono ?_
  rintro e w1 ⟨rfl, hb⟩
  have HB1 := Lib.hid hb
  clear hb
  go_wp2_with fail
  refine (codeParse_c s w1 HS.out (HSH.out.on HB1.out) HP.out).mono ?_
  rintro e w2 ⟨A2, c2, rfl, hO2, hb⟩
  have HB2 := Lib.hid (HB1.out.trans (hb.mono HB1.out.size))
  obtain ⟨W3, hW3⟩ : ∃ W, w2.alloc (.cells #[.int .i64 D.R, .int .i64 D.A, .int .i64 D.I, .slice A2 D.l.length c2] 25) = W := ⟨_, rfl⟩
  obtain ⟨g3, hg3⟩ : ∃ g, w2.heap.size = g := ⟨_, rfl⟩
  have hb3 : Below w2.heap.size w2 W3 := by rw [← hW3]; exact lvBelow _ _
  have HY3 : Hid (W3.heap[g3]? = some (.cells #[.int .i64 D.R, .int .i64 D.A, .int .i64 D.I, .slice A2 D.l.length c2] 25 (0, 0))) := by rw [← hW3, ← hg3]; exact heap_alloc_new _ _
  have HB3 := Lib.hid (HB2.out.trans (hb3.mono HB2.out.size))
  have HQ3 := Lib.hid (parse_in HP.out HSZ.out (hO2.below hb3 (Nat.le_refl _)))
  have HW3 := Lib.hid hW3
  clear hb hO2 hb3 hW3
  go_upto_region 5 with fail
  try rw [HW3.out]
  try rw [hg3]
  clear hg3
  go_wp2_with fail
  refine (refParse_c s W3 HSZ.out HP.out).mono ?_
  rintro e w4 ⟨A4, c4, rfl, hO4, hb⟩
  have HB4 := Lib.hid (HB3.out.trans (hb.mono HB3.out.size))
  have HY4 := Lib.hid (keep_b hb HY3.out)
  have HQ4 := Lib.hid (HQ3.out.on hb)
  obtain ⟨W5, hW5⟩ : ∃ W, w4.alloc (.cells #[.int .i64 D.R, .int .i64 D.A, .int .i64 D.I, .slice A4 D.l.length c4] 25) = W := ⟨_, rfl⟩
  obtain ⟨g5, hg5⟩ : ∃ g, w4.heap.size = g := ⟨_, rfl⟩
  have hb5 : Below w4.heap.size w4 W5 := by rw [← hW5]; exact lvBelow _ _
  have HZ5 : Hid (W5.heap[g5]? = some (.cells #[.int .i64 D.R, .int .i64 D.A, .int .i64 D.I, .slice A4 D.l.length c4] 25 (0, 0))) := by rw [← hW5, ← hg5]; exact heap_alloc_new _ _
  have HB5 := Lib.hid (HB4.out.trans (hb5.mono HB4.out.size))
  have HY5 := Lib.hid (keep_b hb5 HY4.out)
  have HQ5 := Lib.hid (HQ4.out.on hb5)
  have HR5 := Lib.hid (parse_in HP.out HSZ.out (hO4.below hb5 (Nat.le_refl _)))
  have HW5 := Lib.hid hW5
  clear hb hO4 hb5 hW5
  go_upto_region 6 with fail
  try rw [HW5.out]
  try rw [hg5]
  clear hg5
  obtain ⟨m0, m1, m2, m3, _⟩ := lvCells HY5.out
  obtain ⟨z0, z1, z2, z3, _⟩ := lvCells HZ5.out
  go_wp2_with fail
  refine (refSame14_yes ⟨D.R, D.A, D.I, A2, D.l.length, c2, D.l⟩ ⟨D.R, D.A, D.I, A4, D.l.length, c4, D.l⟩ W5 HQ5.out HR5.out rfl).mono ?_
  rintro e wE ⟨rfl, hb⟩
  have HBE := Lib.hid (HB5.out.trans (hb.mono HB5.out.size))
  clear hb
  go_wp2_with fail
  go_ret
  exact ⟨rfl, HBE.out⟩
end Go.Proofs.YtbmcddolfofmdaaDoor
/- The lines of code's text, and the registers that they name: plain mathematics. Nothing is claimed of the program here. -/
namespace Go.Proofs.YtbmcddolfofmdaaDoor
open Go.RowKit

/-- a token's bytes: some, no blank, no end of a line -/
structure Cln (l : List UInt8) : Prop where
  ne : l ≠ []
  b : (32 : UInt8) ∉ l
  n : (10 : UInt8) ∉ l
theorem cln_word {op : Int} (h0 : 0 ≤ op) (h1 : op ≤ 12) : Cln (wJ op) := by
  rcases op_cases h0 h1 with rfl | rfl | rfl | rfl | rfl | rfl | rfl | rfl | rfl | rfl | rfl | rfl | rfl
  all_goals exact ⟨by decide, by decide, by decide⟩
theorem dd_not {u : Nat} {c : UInt8} (hc : kb c ≠ 5) : c ∉ Lib.decDigits u := fun h => hc (dd_kb u c h)
theorem cln_dd (u : Nat) : Cln (Lib.decDigits u) :=
  ⟨fun e => by have := dd_pos u; rw [e] at this; simp at this, dd_not (by decide), dd_not (by decide)⟩
theorem cln_reg {c : UInt8} (hb : c ≠ 32) (hn : c ≠ 10) (v : Int) : Cln (bl (regT c v).s) := by
  unfold regT
  rw [bl_tokW]
  have h := cln_dd v.toNat
  refine ⟨by simp, fun hm => ?_, fun hm => ?_⟩
  · rcases List.mem_cons.1 hm with e | hm
    · exact hb e.symm
    · exact h.b hm
  · rcases List.mem_cons.1 hm with e | hm
    · exact hn e.symm
    · exact h.n hm
theorem bl_tokN (v : Int) : bl (tokN v).s = Lib.decDigits v.toNat := bl_ofL _
theorem cln_num (v : Int) : ∀ t ∈ numT v, Cln (bl t.s) ∧ (bl t.s).head? ≠ some 114 := by
  have hN : ∀ u : Int, Cln (bl (tokN u).s) ∧ (bl (tokN u).s).head? ≠ some 114 := fun u => by
    rw [bl_tokN]
    refine ⟨cln_dd _, fun h => ?_⟩
    have hm : (114 : UInt8) ∈ Lib.decDigits u.toNat := List.mem_of_mem_head? h
    exact dd_not (by decide) hm
  have hM : Cln (bl minusTk.s) ∧ (bl minusTk.s).head? ≠ some 114 := ⟨⟨by decide, by decide, by decide⟩, by decide⟩
  intro t ht
  unfold numT at ht
  split at ht
  · rcases List.mem_cons.1 ht with rfl | ht
    · exact hM
    · rw [List.mem_singleton.1 ht]; exact hN _
  · rw [List.mem_singleton.1 ht]; exact hN _
/-- whether a token begins as a register does -/
def isR (t : Tk) : Bool := (bl t.s).head? == some 114
theorem num_r (v : Int) : (numT v).countP isR = 0 := by
  rw [List.countP_eq_zero]
  intro t ht
  have := (cln_num v t ht).2
  simpa [isR] using this
theorem reg_r (c : UInt8) (v : Int) : isR (regT c v) = (c == 114) := by
  unfold isR regT
  rw [bl_tokW]
  rfl
theorem argT_cln {k : UInt8} {v N : Int} : ∀ t ∈ argT k v N, Cln (bl t.s) := by
  intro t ht
  unfold argT at ht
  split at ht
  · rw [List.mem_singleton.1 ht]; exact cln_reg (by decide) (by decide) v
  · split at ht
    · rw [List.mem_singleton.1 ht]; exact cln_reg (by decide) (by decide) v
    · split at ht
      · exact (cln_num v t ht).1
      · split at ht
        · exact (cln_num N t ht).1
        · cases ht
theorem argsT_cln {N : Int} : ∀ (ks : List UInt8) (vs : List Int), ∀ t ∈ argsT ks vs N, Cln (bl t.s)
  | [], _, t, ht => by simp [argsT] at ht
  | _ :: _, [], t, ht => by simp [argsT] at ht
  | k :: ks, v :: vs, t, ht => by
    unfold argsT at ht
    rcases List.mem_append.1 ht with ht | ht
    · exact argT_cln t ht
    · exact argsT_cln ks vs t ht
def isWR (k : UInt8) : Bool := k == 119 || k == 114
theorem argT_r (k : UInt8) (v N : Int) : (argT k v N).countP isR = if isWR k then 1 else 0 := by
  by_cases h : k = 119 ∨ k = 114
  · have hw : isWR k = true := by simpa [isWR] using h
    rw [hw]
    unfold argT
    rw [if_pos h]
    simp [reg_r]
  · have hw : isWR k = false := by simpa [isWR] using h
    rw [hw]
    unfold argT
    rw [if_neg h]
    simp only [Bool.false_eq_true, if_false]
    split
    · simp [reg_r]
    · split
      · exact num_r v
      · split
        · exact num_r N
        · rfl
theorem argsT_r (N : Int) : ∀ (ks : List UInt8) (vs : List Int), ks.length ≤ vs.length → (argsT ks vs N).countP isR = ks.countP isWR
  | [], _, _ => by simp [argsT]
  | _ :: _, [], h => by simp at h
  | k :: ks, v :: vs, h => by
    unfold argsT
    rw [List.countP_append, argT_r, argsT_r N ks vs (by simpa using h), List.countP_cons]
    omega
theorem readsG_count : ∀ (ks : List UInt8) (vs : List Int), ks.length ≤ vs.length → (readsG ks vs).length = ks.countP (· == 114)
  | [], _, _ => by simp [readsG]
  | _ :: _, [], h => by simp at h
  | k :: ks, v :: vs, h => by
    have ih := readsG_count ks vs (by simpa using h)
    unfold readsG
    rw [List.countP_cons]
    by_cases hk : k = 114
    · rw [if_pos hk]
      simp [hk, ih]
    · rw [if_neg hk]
      simp [hk, ih]
/-- how many registers an instruction asks for and sets -/
def wantJ (x : Ji) : Nat := (readsJ x).length + if setsJ x then 1 else 0
theorem want_kinds (x : Ji) : wantJ x = (kJ x.op).countP isWR := by
  have hall : ∀ l ∈ kindsJ, l.countP (· == 114) + (if (l.head? == some 119) = true then 1 else 0) = l.countP isWR := by decide
  have hn : ([] : List UInt8).countP (· == 114) + (if (([] : List UInt8).head? == some 119) = true then 1 else 0) = ([] : List UInt8).countP isWR := by decide
  unfold wantJ readsJ setsJ
  rw [readsG_count _ _ (kJ_len x.op)]
  unfold kJ
  split
  · by_cases hl : x.op.toNat < kindsJ.length
    · rw [List.getD_eq_getElem?_getD, List.getElem?_eq_getElem hl]
      exact hall _ (List.getElem_mem hl)
    · rw [List.getD_eq_getElem?_getD, List.getElem?_eq_none (by omega)]
      exact hn
  · exact hn
/-- how often a blank stands ahead of an r -/
def cpR : List UInt8 → Nat
  | a :: b :: l => (if a = 32 ∧ b = 114 then 1 else 0) + cpR (b :: l)
  | _ => 0
theorem cpR_skip : ∀ (u v : List UInt8), (32 : UInt8) ∉ u → cpR (u ++ v) = cpR v
  | [], _, _ => rfl
  | a :: u, v, h => by
    have ha : a ≠ 32 := fun e => h (by rw [e]; exact List.mem_cons_self)
    have ih := cpR_skip u v (fun hm => h (List.mem_cons_of_mem _ hm))
    cases hu : u ++ v with
    | nil =>
      have := List.append_eq_nil_iff.1 hu
      rw [this.1, this.2]; rfl
    | cons b l =>
      rw [List.cons_append, hu, cpR, if_neg (fun hh => ha hh.1), Nat.zero_add, ← hu]
      exact ih
theorem cpR_sep {v : List UInt8} (h : v ≠ []) : cpR (32 :: v) = (if v.head? = some 114 then 1 else 0) + cpR v := by
  cases v with
  | nil => exact absurd rfl h
  | cons b l => simp [cpR]
theorem cpR_jt : ∀ (L : List Tk), (∀ t ∈ L, Cln (bl t.s) ∧ t.k ≠ 4) → cpR (jt true L) = L.countP isR
  | [], _ => rfl
  | t :: L, h => by
    obtain ⟨hc, hk⟩ := h t (by simp)
    have ih := cpR_jt L (fun u hu => h u (by simp [hu]))
    rw [jt_on hk, if_pos rfl, List.cons_append, cpR_sep (by simp [hc.ne]), cpR_skip _ _ hc.b, ih, List.countP_cons]
    cases hb : bl t.s with
    | nil => exact absurd hb hc.ne
    | cons c r =>
      unfold isR
      rw [hb]
      simp
      omega
theorem jt_clean : ∀ (L : List Tk) (b : Bool), (∀ t ∈ L, Cln (bl t.s) ∧ t.k ≠ 4) → (10 : UInt8) ∉ jt b L
  | [], _, _ => by simp [jt]
  | t :: L, b, h => by
    obtain ⟨hc, hk⟩ := h t (by simp)
    have ih := jt_clean L true (fun u hu => h u (by simp [hu]))
    rw [jt_on hk]
    intro hm
    rcases List.mem_append.1 hm with hm | hm
    · cases b with
      | true =>
        simp only [if_true] at hm
        rcases List.mem_cons.1 hm with e | hm
        · exact absurd e (by decide)
        · exact hc.n hm
      | false => exact hc.n (by simpa using hm)
    · exact ih hm
/-- an instruction's line -/
def lnJ (x : Ji) : List UInt8 := jt false (lineT x)
theorem line_toks {x : Ji} (h0 : 0 ≤ x.op) (h1 : x.op ≤ 12) : ∀ t ∈ lineT x, Cln (bl t.s) ∧ t.k ≠ 4 := by
  intro t ht
  refine ⟨?_, lineT_k x t ht⟩
  unfold lineT at ht
  rcases List.mem_cons.1 ht with rfl | ht
  · rw [bl_tokW]; exact cln_word h0 h1
  · exact argsT_cln _ _ t ht
theorem ln_regs {x : Ji} (h0 : 0 ≤ x.op) (h1 : x.op ≤ 12) : cpR (lnJ x) = wantJ x := by
  have h := line_toks h0 h1
  unfold lnJ
  have e : lineT x = tokW (wJ x.op) :: argsT (kJ x.op) x.f x.n := rfl
  rw [e] at h ⊢
  obtain ⟨hc, hk⟩ := h _ (by simp : tokW (wJ x.op) ∈ tokW (wJ x.op) :: argsT (kJ x.op) x.f x.n)
  rw [jt_on hk, if_neg (by decide), cpR_skip _ _ hc.b, cpR_jt _ (fun t ht => h t (by simp [ht])), argsT_r _ _ _ (kJ_len x.op), want_kinds]
theorem ln_off {x : Ji} (h0 : 0 ≤ x.op) (h1 : x.op ≤ 12) : (10 : UInt8) ∉ lnJ x := jt_clean _ _ (line_toks h0 h1)
/-- the lines behind the first -/
def rjJ : List Ji → List UInt8
  | [] => []
  | x :: l => 10 :: (lnJ x ++ rjJ l)
theorem jt_restT : ∀ (l : List Ji) (L : List Tk) (b : Bool), (∀ t ∈ L, t.k ≠ 4) → jt b (L ++ restT l) = jt b L ++ rjJ l := by
  intro l
  induction l with
  | nil => intro L b _; simp [restT, rjJ]
  | cons x l ih =>
    intro L
    induction L with
    | nil =>
      intro b _
      show jt b (lineTk :: (lineT x ++ restT l)) = _
      rw [jt_line rfl, ih (lineT x) false (lineT_k x)]
      rfl
    | cons t L ih2 =>
      intro b h
      have hk := h t (by simp)
      rw [List.cons_append, jt_on hk, jt_on hk, ih2 true (fun u hu => h u (by simp [hu])), List.append_assoc]
/-- the first line -/
def hdL (c : Cd) : List UInt8 := jt false (headT c.R c.A c.I)
theorem hd_off (c : Cd) : (10 : UInt8) ∉ hdL c := by
  refine jt_clean _ _ (fun t ht => ⟨?_, headT_k _ _ _ t ht⟩)
  unfold headT at ht
  simp only [List.mem_append, List.mem_singleton] at ht
  rcases ht with ((rfl | ht) | ht) | ht
  · rw [bl_tokW]; exact ⟨by decide, by decide, by decide⟩
  · exact (cln_num _ t ht).1
  · exact (cln_num _ t ht).1
  · exact (cln_num _ t ht).1
theorem text_lines (c : Cd) : jt false (progT c) = hdL c ++ rjJ c.l := jt_restT c.l _ false (headT_k _ _ _)
theorem textF_lines {c : Cd} {T : ByteArray} (h : textF c = (T, 0)) : c.may = true ∧ bl T = hdL c ++ rjJ c.l := by
  unfold textF at h
  split at h
  · rename_i hm
    refine ⟨hm, ?_⟩
    rw [(join_size (by unfold progT headT; simp) h).2.1, text_lines]
  · simp at h
theorem textF_bad {c : Cd} {T : ByteArray} {E : Int} (h : textF c = (T, E)) (hE : E ≠ 0) : T = ⟨#[]⟩ := by
  have hp : (textF c).2 ≠ 0 → (textF c).1 = ⟨#[]⟩ := by
    unfold textF
    split
    · unfold joinF
      split
      · exact fun _ => rfl
      · split
        · exact fun _ => rfl
        · split
          · exact fun _ => rfl
          · exact fun h => absurd rfl h
    · exact fun _ => rfl
  rw [h] at hp
  exact hp hE
/-- where the walk through a text stands: pre is behind it, L is the line, r are the lines to come -/
structure LnS (B : List UInt8) (l : List Ji) (pre L : List UInt8) (j : Nat) : Prop where
  eq : B = pre ++ (L ++ rjJ (l.drop j))
  off : (10 : UInt8) ∉ L
  le : j ≤ l.length
  want : j = 0 ∨ ∃ x, l[j - 1]? = some x ∧ 1 ≤ j ∧ cpR L = wantJ x
theorem LnS.start {c : Cd} {B : List UInt8} (h : B = hdL c ++ rjJ c.l) : LnS B c.l [] (hdL c) 0 := ⟨by simpa using h, hd_off c, Nat.zero_le _, .inl rfl⟩
section
variable {B pre L : List UInt8} {l : List Ji} {j : Nat}
theorem LnS.at_ (h : LnS B l pre L j) {m : Nat} (hm : m < L.length) : B[pre.length + m]? = some L[m] ∧ L[m] ≠ 10 := by
  refine ⟨?_, fun e => h.off (by rw [← e]; exact List.getElem_mem hm)⟩
  rw [h.eq, List.getElem?_append_right (by omega), Nat.add_sub_cancel_left, List.getElem?_append_left hm, List.getElem?_eq_getElem hm]
theorem LnS.end_ (h : LnS B l pre L j) : (j = l.length ∧ B.length = pre.length + L.length) ∨ (∃ x, l[j]? = some x ∧ B[pre.length + L.length]? = some 10 ∧ pre.length + L.length < B.length ∧ (0 ≤ x.op ∧ x.op ≤ 12 → LnS B l (pre ++ (L ++ [10])) (lnJ x) (j + 1))) := by
  by_cases hj : j = l.length
  · refine .inl ⟨hj, ?_⟩
    rw [h.eq, List.drop_of_length_le (by omega)]
    simp [rjJ]
  · have hlt : j < l.length := by have := h.le; omega
    have hd : l.drop j = l[j] :: l.drop (j + 1) := List.drop_eq_getElem_cons hlt
    have he := h.eq
    rw [hd] at he
    simp only [rjJ] at he
    refine .inr ⟨l[j], List.getElem?_eq_getElem hlt, ?_, ?_, fun hx => ⟨?_, ln_off hx.1 hx.2, hlt, .inr ⟨l[j], ?_, by omega, ln_regs hx.1 hx.2⟩⟩⟩
    · rw [he, List.getElem?_append_right (by omega), Nat.add_sub_cancel_left, List.getElem?_append_right (by omega), Nat.sub_self]; rfl
    · rw [he]; simp
    · rw [he]; simp
    · rw [Nat.add_sub_cancel]; exact List.getElem?_eq_getElem hlt
end
theorem cpR_step {L : List UInt8} {m : Nat} (h : m + 1 < L.length) : cpR (L.drop m) = (if L[m]'(by omega) = 32 ∧ L[m + 1] = 114 then 1 else 0) + cpR (L.drop (m + 1)) := by
  rw [List.drop_eq_getElem_cons (by omega : m < L.length), List.drop_eq_getElem_cons h, cpR]
theorem cpR_last {L : List UInt8} {m : Nat} (h : ¬ m + 1 < L.length) : cpR (L.drop m) = 0 := by
  have hl : (L.drop m).length ≤ 1 := by rw [List.length_drop]; omega
  match hd : L.drop m, hl with
  | [], _ => rfl
  | [_], _ => rfl
  | _ :: _ :: _, h2 => simp at h2
end Go.Proofs.YtbmcddolfofmdaaDoor
/- strconv.FormatInt at base 10, laid out of the library's contract. -/
namespace Go.Proofs.YtbmcddolfofmdaaDoor
open Go.Shelf Go.Proofs
def x_laysM173_ren : Go.Shelf.Ren := ⟨fun | 173 => 89 | 246 => 92 | 283 => 93 | 284 => 94 | 285 => 95 | 286 => 96 | 129 => 98 | 317 => 97 | 318 => 99 | 319 => 100 | 320 => 101 | 337 => 102 | 338 => 103 | n => n, fun | 2 => 2 | 3 => 3 | 9 => 9 | 4 => 4 | 171 => 127 | 0 => 0 | 53 => 128 | 37 => 103 | 5 => 5 | 173 => 131 | 212 => 135 | 51 => 136 | 20 => 20 | 213 => 137 | 46 => 139 | 232 => 142 | 233 => 143 | n => n, fun | 17 => 2 | 18 => 3 | 19 => 4 | n => n⟩
set_option maxRecDepth 100000 in
theorem x_laysM173 : Go.Proofs.LaysM.n173 Tryd.prog x_laysM173_ren := {
  mixed := by kernel_rfl
  f129 := Tryd.func98.trans (congrArg some (by kernel_rfl))
  f173 := Tryd.func89.trans (congrArg some (by kernel_rfl))
  f246 := Tryd.func92.trans (congrArg some (by kernel_rfl))
  f283 := Tryd.func93.trans (congrArg some (by kernel_rfl))
  f284 := Tryd.func94.trans (congrArg some (by kernel_rfl))
  f285 := Tryd.func95.trans (congrArg some (by kernel_rfl))
  f286 := Tryd.func96.trans (congrArg some (by kernel_rfl))
  f317 := Tryd.func97.trans (congrArg some (by kernel_rfl))
  f318 := Tryd.func99.trans (congrArg some (by kernel_rfl))
  f319 := Tryd.func100.trans (congrArg some (by kernel_rfl))
  f320 := Tryd.func101.trans (congrArg some (by kernel_rfl))
  f337 := Tryd.func102.trans (congrArg some (by kernel_rfl))
  f338 := Tryd.func103.trans (congrArg some (by kernel_rfl))
  t0 := Tryd.underlying0
  a0 := Tryd.isAgg0
  z0 := Tryd.sizeOf0
  v0 := Tryd.zeroValue0
  t2 := Tryd.underlying2
  a2 := Tryd.isAgg2
  z2 := Tryd.sizeOf2
  v2 := Tryd.zeroValue2
  t3 := Tryd.underlying3
  a3 := Tryd.isAgg3
  z3 := Tryd.sizeOf3
  v3 := Tryd.zeroValue3
  t4 := Tryd.underlying4
  a4 := Tryd.isAgg4
  z4 := Tryd.sizeOf4
  v4 := Tryd.zeroValue4
  t5 := Tryd.underlying5
  a5 := Tryd.isAgg5
  z5 := Tryd.sizeOf5
  v5 := Tryd.zeroValue5
  t9 := Tryd.underlying9
  a9 := Tryd.isAgg9
  z9 := Tryd.sizeOf9
  v9 := Tryd.zeroValue9
  t20 := Tryd.underlying20
  a20 := Tryd.isAgg20
  z20 := Tryd.sizeOf20
  v20 := Tryd.zeroValue20
  t37 := Tryd.underlying103
  a37 := Tryd.isAgg103
  z37 := Tryd.sizeOf103
  v37 := Tryd.zeroValue103
  t46 := Tryd.underlying139
  a46 := Tryd.isAgg139
  z46 := Tryd.sizeOf139
  v46 := Tryd.zeroValue139
  t51 := Tryd.underlying136
  a51 := Tryd.isAgg136
  z51 := Tryd.sizeOf136
  v51 := Tryd.zeroValue136
  t53 := Tryd.underlying128
  a53 := Tryd.isAgg128
  z53 := Tryd.sizeOf128
  v53 := Tryd.zeroValue128
  t171 := Tryd.underlying127
  a171 := Tryd.isAgg127
  z171 := Tryd.sizeOf127
  v171 := Tryd.zeroValue127
  t173 := Tryd.underlying131
  a173 := Tryd.isAgg131
  z173 := Tryd.sizeOf131
  v173 := Tryd.zeroValue131
  t212 := Tryd.underlying135
  a212 := Tryd.isAgg135
  z212 := Tryd.sizeOf135
  v212 := Tryd.zeroValue135
  t213 := Tryd.underlying137
  a213 := Tryd.isAgg137
  z213 := Tryd.sizeOf137
  t232 := Tryd.underlying142
  a232 := Tryd.isAgg142
  z232 := Tryd.sizeOf142
  v232 := Tryd.zeroValue142
  t233 := Tryd.underlying143
  a233 := Tryd.isAgg143
  z233 := Tryd.sizeOf143
  v233 := Tryd.zeroValue143
  g17 := by kernel_rfl
  g18 := by kernel_rfl
  g19 := by kernel_rfl
  i0 := by kernel_rfl
  i2 := by kernel_rfl
  i3 := by kernel_rfl
  i4 := by kernel_rfl
  i5 := by kernel_rfl
  i9 := by kernel_rfl
  i20 := by kernel_rfl
  i37 := by kernel_rfl
  i46 := by kernel_rfl
  i51 := by kernel_rfl
  i53 := by kernel_rfl
  i171 := by kernel_rfl
  i173 := by kernel_rfl
  i212 := by kernel_rfl
  i232 := by kernel_rfl
  i233 := by kernel_rfl
  m17 := by kernel_rfl
  m18 := by kernel_rfl
  m19 := by kernel_rfl }
open Go.RowKit Go.Sort Go.Lib in
theorem x_strconv_FormatInt_10 (n : Int) (h0 : -9223372036854775808 ≤ n) (h1 : n ≤ 9223372036854775807) (w : World) (htab : Lib.TabIs Tryd.prog w "internal/strconv.uint64pow10" .u64 Lib.pow10Tab) :
    Calls Tryd.prog 89 #[.int .i64 n, .int .i64 10] w fun e w' => e = .returned (.string ⟨(Lib.itoa n).toArray⟩) ∧ ∃ k os, w' = grow (w.drewN k) os := Any.strconv_FormatInt_10 x_laysM173 n h0 h1 w htab
end Go.Proofs.YtbmcddolfofmdaaDoor
/- purflelaw08.LexerNumbers returns true at every two numbers, where strconv's table reads as it is laid. -/
namespace Go.Proofs.YtbmcddolfofmdaaDoor
open Go.RowKit

/-- strconv's table of powers of ten, at this world and each behind it -/
def TabT (W : World) : Prop := Lib.TabBelow Tryd.prog W.heap.size W "internal/strconv.uint64pow10" .u64 Lib.pow10Tab
theorem TabT.at_ {W w : World} (h : TabT W) (hb : Below W.heap.size W w) : Lib.TabIs Tryd.prog w "internal/strconv.uint64pow10" .u64 Lib.pow10Tab := Lib.TabBelow.here (Lib.TabBelow.on h hb)
set_option maxRecDepth 100000 in
theorem digits_any (n : Int) (h0 : -9223372036854775808 ≤ n) (h1 : n ≤ 9223372036854775807) (w : World) (htab : Lib.TabIs Tryd.prog w "internal/strconv.uint64pow10" .u64 Lib.pow10Tab) (T : ByteArray) (hT : Hid (ofL (Lib.itoa n) = T)) :
    Calls Tryd.prog 83 #[.int .i64 n] w fun e w' => e = .returned (.string T) ∧ Below w.heap.size w w' := by
  have cF := x_strconv_FormatInt_10 n h0 h1 w htab
  have hT2 : (⟨(Lib.itoa n).toArray⟩ : ByteArray) = T := hT.out
  rw [hT2] at cF
  clear hT2 hT htab
  go_enter Tryd.func83, Tryd.ntmps83
  go_wp2_with (go_at_call 89; (with_reducible refine cF.mono ?_); rintro e w1 ⟨rfl, k, os, rfl⟩)
  go_ret
  exact ⟨rfl, Lib.below_grow _ _ (Nat.le_refl _) _ _⟩
theorem itoa_short (n : Int) (h0 : -9223372036854775808 ≤ n) (h1 : n ≤ 9223372036854775807) : (Lib.itoa n).length ≤ 20 := by
  unfold Lib.itoa
  split
  · have := dd_le 18 n.natAbs (by omega)
    rw [List.length_cons]
    omega
  · have := dd_le 18 n.toNat (by omega)
    omega
end Go.Proofs.YtbmcddolfofmdaaDoor
/- How the arguments of the statements read: slices of integers, dense tensors, integers. -/
namespace Go.Proofs.YtbmcddolfofmdaaDoor
open Go.ChangeShapes Go.WideShapes Go.ChangeAt Go.RowKit

set_option maxRecDepth 100000 in
theorem own : ownKnob Tryd.prog.godebug = none := by kernel_rfl
set_option maxRecDepth 100000 in
theorem laidOut : laidOutB Tryd.prog = true := by kernel_rfl

theorem lt_of_cell {w : World} {a : Addr} {v : Value} (h : w.cell? a = some v) : a.block < w.heap.size := by
  rcases Nat.lt_or_ge a.block w.heap.size with hlt | hge
  · exact hlt
  · have : w.heap[a.block]? = none := Array.getElem?_eq_none hge
    simp [World.cell?, this] at h

theorem wf_bounds {n : Int} (h : (Lit.int .i64 n).wf = true) : -9223372036854775808 ≤ n ∧ n ≤ 9223372036854775807 := by
  simp [Lit.wf, IntKind.min, IntKind.max, IntKind.signed, IntKind.bits] at h
  omega

theorem ints_of_row {w : World} {x : Addr} {len : Nat} {zs : List Int} (hz : len ≤ zs.length) (hcell : ∀ i, i < zs.length → w.cell? (x.add i) = some (.int .i64 (zs.getD i 0))) (hwz : ∀ n ∈ zs, (Lit.int .i64 n).wf = true) :
    Ints w w.heap.size (some x) len (zs.take len) := by
  refine ⟨by rw [List.length_take]; omega, fun n hn => wf_bounds (hwz n (List.mem_of_mem_take hn)), fun h0 => ?_⟩
  obtain ⟨b, off, spot⟩ := x
  have hc := hcell 0 (by omega)
  have hspot : spot = none := by simpa [Addr.add] using World.cell?_spot hc
  subst hspot
  have hlt : b < w.heap.size := by have := lt_of_cell hc; simpa [Addr.add] using this
  refine ⟨b, off, rfl, hlt, fun k y hy => ?_⟩
  have hk : k < len := by have := (List.getElem?_eq_some_iff.1 hy).1; rw [List.length_take] at this; omega
  have h1 := hcell k (by omega)
  have h2 : zs.getD k 0 = y := by
    rw [List.getElem?_take, if_pos hk] at hy
    simp [List.getD, hy]
  rw [h2] at h1
  by_cases hk0 : k = 0
  · subst hk0; simpa [Addr.add] using h1
  · simpa [Addr.add, hk0] using h1

section
variable {H : Type} {enc : TypeId × Value → H} {w : World} {base : Nat} {spare : Nat → Bool} {held : Bool}
/-- a []int, or a []int64, that came in -/
theorem open_nums {t e : TypeId} {v : Value} {d : DataW H} {p : List MemPlace} (ht : Tryd.prog.underlying t = some (.slice e)) (he : Tryd.prog.underlying e = some (.int .i64)) (hC : Tryd.prog.cellsOf e = 1) (hf : ∃ a n c, v = .slice a n c) (h : DataW.Trod enc Tryd.prog w base spare held t v d p) :
    ∃ A n c xs, v = .slice A n c ∧ Ints w w.heap.size A n xs ∧ n ≤ 9223372036854775807 := by
  obtain ⟨a0, len0, cap0, rfl⟩ := hf
  obtain ⟨fuel, hf⟩ := h
  rcases open_ints ht he hC hf with ⟨hcs, _⟩ | ⟨x, l, c, zs, hcs, _, hl, hm, hz, _, hcell, hwz⟩
  · simp [Value.cells] at hcs
    obtain ⟨rfl, rfl, rfl⟩ := hcs
    exact ⟨none, 0, 0, [], rfl, Ints.nil_, by omega⟩
  · simp [Value.cells] at hcs
    obtain ⟨rfl, rfl, rfl⟩ := hcs
    have hz' : len0 ≤ zs.length := by split at hz <;> omega
    refine ⟨_, _, _, _, rfl, ints_of_row hz' hcell hwz, ?_⟩
    unfold maxLen at hm
    omega
end
end Go.Proofs.YtbmcddolfofmdaaDoor
/- How a slice of integers that came in reads, with its room. -/
namespace Go.Proofs.YtbmcddolfofmdaaDoor
open Go.ChangeShapes Go.WideShapes Go.ChangeAt Go.RowKit

section
variable {H : Type} {enc : TypeId × Value → H} {w : World} {base : Nat} {spare : Nat → Bool} {held : Bool}
/-- the same, and its room -/
theorem open_numsc {t e : TypeId} {v : Value} {d : DataW H} {p : List MemPlace} (ht : Tryd.prog.underlying t = some (.slice e)) (he : Tryd.prog.underlying e = some (.int .i64)) (hC : Tryd.prog.cellsOf e = 1) (hf : ∃ a n c, v = .slice a n c) (h : DataW.Trod enc Tryd.prog w base spare held t v d p) :
    ∃ A n c xs, v = .slice A n c ∧ Ints w w.heap.size A n xs ∧ n ≤ 9223372036854775807 ∧ n ≤ c := by
  obtain ⟨a0, len0, cap0, rfl⟩ := hf
  obtain ⟨fuel, hf⟩ := h
  rcases open_ints ht he hC hf with ⟨hcs, _⟩ | ⟨x, l, c, zs, hcs, _, hl, hm, hz, _, hcell, hwz⟩
  · simp [Value.cells] at hcs
    obtain ⟨rfl, rfl, rfl⟩ := hcs
    exact ⟨none, 0, 0, [], rfl, Ints.nil_, by omega, Nat.le_refl _⟩
  · simp [Value.cells] at hcs
    obtain ⟨rfl, rfl, rfl⟩ := hcs
    have hz' : len0 ≤ zs.length := by split at hz <;> omega
    refine ⟨_, _, _, _, rfl, ints_of_row hz' hcell hwz, ?_, hl⟩
    unfold maxLen at hm
    omega
end
end Go.Proofs.YtbmcddolfofmdaaDoor
/- How a slice of entries that came in reads. -/
namespace Go.Proofs.YtbmcddolfofmdaaDoor
open Go.ChangeShapes Go.WideShapes Go.ChangeAt Go.RowKit Go.Deep

section
variable {H : Type} {enc : TypeId × Value → H} {w : World} {base : Nat} {spare : Nat → Bool} {held : Bool}
theorem add_two (b off i : Nat) : (Addr.add ⟨b, off, none⟩ i : Addr) = ⟨b, off + i, none⟩ := by
  by_cases h : i = 0
  · subst h; simp [Addr.add]
  · simp [Addr.add, h]
end
end Go.Proofs.YtbmcddolfofmdaaDoor
/- How code, and an instruction, that came in read. -/
namespace Go.Proofs.YtbmcddolfofmdaaDoor
open Go.ChangeShapes Go.WideShapes Go.ChangeAt Go.RowKit Go.Deep

theorem list5 {α : Type} {l : List α} (h : l.length = 5) : ∃ a b c d e, l = [a, b, c, d, e] := by
  match l, h with
  | [a, b, c, d, e], _ => exact ⟨a, b, c, d, e, rfl⟩
theorem array5 {α : Type} {cs : Array α} (h : cs.size = 5) : ∃ a b c d e, cs = #[a, b, c, d, e] := by
  obtain ⟨l⟩ := cs
  match l, h with
  | [a, b, c, d, e], _ => exact ⟨a, b, c, d, e, rfl⟩
section
variable {H : Type} {enc : TypeId × Value → H} {w : World} {base : Nat} {spare : Nat → Bool} {held : Bool}
set_option maxRecDepth 100000 in
/-- five cells that read as an instruction -/
theorem open_ins5 {f0 f1 f2 f3 f4 : Field} {fuel : Nat} {v0 v1 v2 v3 v4 : Value} {x : DataW H × List MemPlace} (hs : Tryd.prog.underlying 39 = some (.struct #[f0, f1, f2, f3, f4])) (hone : oneCellFields Tryd.prog #[f0, f1, f2, f3, f4] = true) (ht0 : f0.type = 3) (ht1 : f1.type = 3) (ht2 : f2.type = 3) (ht3 : f3.type = 3) (ht4 : f4.type = 2)
    (h : DataW.trod enc Tryd.prog w base spare held fuel 39 [v0, v1, v2, v3, v4] = some x) :
    ∃ y : Ji, v0 = .int .i64 y.op ∧ v1 = .int .i64 y.a ∧ v2 = .int .i64 y.b ∧ v3 = .int .i64 y.c ∧ v4 = .int .i64 y.n ∧ y.ok := by
  obtain ⟨ys, k, _, _, _, hyl, hf⟩ := DataW.trod_struct hs h
  obtain ⟨y0, y1, y2, y3, y4, rfl⟩ := list5 hyl
  obtain ⟨o0, k0⟩ := hone_of hone 0 f0 rfl
  obtain ⟨o1, k1⟩ := hone_of hone 1 f1 rfl
  obtain ⟨o2, k2⟩ := hone_of hone 2 f2 rfl
  obtain ⟨o3, k3⟩ := hone_of hone 3 f3 rfl
  obtain ⟨o4, k4⟩ := hone_of hone 4 f4 rfl
  have h0 := hf 0 f0 rfl
  have h1 := hf 1 f1 rfl
  have h2 := hf 2 f2 rfl
  have h3 := hf 3 f3 rfl
  have h4 := hf 4 f4 rfl
  rw [o0, k0, ht0] at h0
  rw [o1, k1, ht1] at h1
  rw [o2, k2, ht2] at h2
  rw [o3, k3, ht3] at h3
  rw [o4, k4, ht4] at h4
  simp only [List.drop_zero, List.take_succ_cons, List.take_zero, List.drop_succ_cons, List.getElem?_cons_zero, List.getElem?_cons_succ] at h0 h1 h2 h3 h4
  obtain ⟨u0, e0, _, hw0⟩ := DataW.trod_int Tryd.underlying3 h0
  obtain ⟨u1, e1, _, hw1⟩ := DataW.trod_int Tryd.underlying3 h1
  obtain ⟨u2, e2, _, hw2⟩ := DataW.trod_int Tryd.underlying3 h2
  obtain ⟨u3, e3, _, hw3⟩ := DataW.trod_int Tryd.underlying3 h3
  obtain ⟨u4, e4, _, hw4⟩ := DataW.trod_int Tryd.underlying2 h4
  simp only [List.cons.injEq, and_true] at e0 e1 e2 e3 e4
  subst e0 e1 e2 e3 e4
  exact ⟨⟨u0, u1, u2, u3, u4⟩, rfl, rfl, rfl, rfl, rfl, ⟨wf_bounds hw0, wf_bounds hw1, wf_bounds hw2, wf_bounds hw3, wf_bounds hw4⟩⟩
set_option maxRecDepth 100000 in
/-- an instruction that came in -/
theorem open_ins {r : Reach} {b0 : Nat} {v : Value} {d : DataW H} {p : List MemPlace} (hv : Value.okWide Tryd.prog w r b0 39 v) (h : DataW.Trod enc Tryd.prog w base spare held 39 v d p) : ∃ y : Ji, v = y.val ∧ y.ok := by
  obtain ⟨cs, rfl, hsz⟩ := okWide_struct Tryd.underlying39 hv
  have hC : Tryd.prog.cellsOf 39 = 5 := by kernel_rfl
  obtain ⟨v0, v1, v2, v3, v4, rfl⟩ := array5 (hsz.trans hC)
  obtain ⟨fuel, hf⟩ := h
  obtain ⟨y, rfl, rfl, rfl, rfl, rfl, hy⟩ := open_ins5 Tryd.underlying39 (by kernel_rfl) (by kernel_rfl) (by kernel_rfl) (by kernel_rfl) (by kernel_rfl) (by kernel_rfl) hf
  exact ⟨y, rfl, hy⟩
set_option maxRecDepth 100000 in
/-- a []api.Ins that came in -/
theorem open_inss {v : Value} {d : DataW H} {p : List MemPlace} (hf : ∃ a n c, v = .slice a n c) (h : DataW.Trod enc Tryd.prog w base spare held 23 v d p) :
    ∃ A n c l, v = .slice A n c ∧ Jis w w.heap.size A n l ∧ n ≤ 9223372036854775807 ∧ n ≤ c := by
  obtain ⟨a0, len0, cap0, rfl⟩ := hf
  obtain ⟨fuel, hf⟩ := h
  rcases open_slice Tryd.underlying23 hf with ⟨hcs, _⟩ | ⟨x, l, c, m, k, D, Pl, hcs, _, hl, hm, hmm, _, hi⟩
  · simp [Value.cells] at hcs
    obtain ⟨rfl, rfl, rfl⟩ := hcs
    exact ⟨none, 0, 0, [], rfl, Jis.nil_, by omega, Nat.le_refl _⟩
  · simp [Value.cells] at hcs
    obtain ⟨rfl, rfl, rfl⟩ := hcs
    have hC : Tryd.prog.cellsOf 39 = 5 := by kernel_rfl
    have key : ∀ i, i < len0 → ∃ y : Ji, (∀ j, j < 5 → w.cell? ((x.add (i * 5)).add j) = some (.int .i64 (y.at j))) ∧ y.ok := by
      intro i hil
      have hml : len0 ≤ m := by rw [hmm]; split <;> omega
      obtain ⟨cs', hc, ht'⟩ := hi i (by omega)
      rw [hC] at hc
      obtain ⟨_, hlen, hat⟩ := World.cells?_some hc
      obtain ⟨v0, v1, v2, v3, v4, rfl⟩ := list5 hlen
      obtain ⟨y, rfl, rfl, rfl, rfl, rfl, hy⟩ := open_ins5 Tryd.underlying39 (by kernel_rfl) (by kernel_rfl) (by kernel_rfl) (by kernel_rfl) (by kernel_rfl) (by kernel_rfl) ht'
      refine ⟨y, fun j hj => ?_, hy⟩
      rw [hat j hj]
      match j, hj with
      | 0, _ => rfl
      | 1, _ => rfl
      | 2, _ => rfl
      | 3, _ => rfl
      | 4, _ => rfl
    refine ⟨_, _, _, (List.range len0).map fun i => if hh : i < len0 then Classical.choose (key i hh) else ⟨0, 0, 0, 0, 0⟩, rfl, ⟨by simp, ?_, ?_⟩, by unfold maxLen at hm; omega, hl⟩
    · intro y hy
      rw [List.mem_map] at hy
      obtain ⟨i, hir, rfl⟩ := hy
      have hil := List.mem_range.1 hir
      rw [dif_pos hil]
      exact (Classical.choose_spec (key i hil)).2
    · intro h0
      obtain ⟨b, off, spot⟩ := x
      have hs := (Classical.choose_spec (key 0 h0)).1 0 (by omega)
      have hspot : spot = none := by simpa [Addr.add] using World.cell?_spot hs
      subst hspot
      have hlt : b < w.heap.size := by have := lt_of_cell hs; simpa [Addr.add] using this
      refine ⟨b, off, rfl, hlt, fun q y hy j hj => ?_⟩
      rw [List.getElem?_map, Option.map_eq_some_iff] at hy
      obtain ⟨i, hir, hiy⟩ := hy
      have hq : q < len0 := by have := (List.getElem?_eq_some_iff.1 hir).1; simpa using this
      have hqi : i = q := by have := (List.getElem?_eq_some_iff.1 hir).2; simpa using this.symm
      subst hqi
      rw [dif_pos hq] at hiy
      have hk := (Classical.choose_spec (key i hq)).1 j hj
      rw [hiy] at hk
      rw [add_two, add_two] at hk
      exact hk
set_option maxRecDepth 100000 in
/-- code that came in -/
theorem open_code {r : Reach} {b0 : Nat} {v : Value} {d : DataW H} {p : List MemPlace} (hv : Value.okWide Tryd.prog w r b0 25 v) (h : DataW.Trod enc Tryd.prog w base spare held 25 v d p) :
    ∃ q : Cq, v = q.val ∧ q.In w := by
  obtain ⟨v0, v1, v2, v3, y0, y1, y2, y3, k, rfl, _, _, h0, h1, h2, h3⟩ := Go.Joins.open_agg4 Tryd.underlying25 (by kernel_rfl) (by kernel_rfl) hv h
  obtain ⟨R, e0, _, hw0⟩ := DataW.trod_int Tryd.underlying3 h0
  obtain ⟨A, e1, _, hw1⟩ := DataW.trod_int Tryd.underlying3 h1
  obtain ⟨I, e2, _, hw2⟩ := DataW.trod_int Tryd.underlying3 h2
  obtain ⟨a3, l3, c3, e3⟩ := Go.Joins.slice_form Tryd.underlying23 h3
  simp only [List.cons.injEq, and_true] at e0 e1 e2 e3
  have t3 : DataW.Trod enc Tryd.prog w base spare held 23 v3 y3.1 y3.2 := ⟨k, by rw [e3] at h3 ⊢; exact h3⟩
  obtain ⟨P, n, c, l, f3, i3, b3, g3⟩ := open_inss ⟨_, _, _, e3⟩ t3
  exact ⟨⟨R, A, I, P, n, c, l⟩, by rw [e0, e1, e2, f3], ⟨i3, wf_bounds hw0, wf_bounds hw1, wf_bounds hw2, b3, g3⟩⟩
end
end Go.Proofs.YtbmcddolfofmdaaDoor
