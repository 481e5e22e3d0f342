/- The document's Check of what is surely set. -/
import Derived.Test.YtgkngimeokhhgaaGreatDoorG14
import Derived.Test.YtgkngimeokhhgaaGreatDoorG1
import Derived.WalkMore
import Derived.OwnWalk
import Derived.Below
import Derived.Lib.ItoaNum
import Derived.BigFrame
import Derived.WalkLawsBesides
import Derived.Laws.StructEq
import Derived.BigQuiet
import Derived.Deep.QuietTactic
namespace Go.Proofs.YtgkngimeokhhgaaGreatDoor
open Go.RowKit

/-- an instruction that writes where it may not -/
def badX (I : Int) (x : Ji) : Bool := (x.op == 7 || x.op == 9) && decide (x.a < I)
theorem validE_may {c : Cd} (h : c.may = false) : validE c = 1 := by unfold validE; rw [if_pos h]
theorem validE_unset {c : Cd} (h : c.may = true) (h2 : unsetN c ≠ []) : validE c = 7 := by unfold validE; rw [if_neg (by rw [h]; simp), if_pos h2]
theorem validE_range {c : Cd} (h : c.may = true) (h2 : unsetN c = []) (h3 : c.l.any (badX c.I) = true) : validE c = 3 := by
  unfold validE
  rw [if_neg (by rw [h]; simp), if_neg (by rw [h2]; simp)]
  exact if_pos h3
theorem validE_ok {c : Cd} (h : c.may = true) (h2 : unsetN c = []) (h3 : c.l.any (badX c.I) = false) : validE c = 0 := by
  unfold validE
  rw [if_neg (by rw [h]; simp), if_neg (by rw [h2]; simp)]
  exact if_neg (by show ¬ (c.l.any (badX c.I)) = true; rw [h3]; simp)
set_option maxRecDepth 100000 in
set_option maxHeartbeats 8000000 in
theorem refValid15_any (q : Cq) (w : World) (hq : q.In w) : Calls Tryz.prog 31 #[q.val] w (ValidP q w) := by
  have HQ := Lib.hid hq
  obtain ⟨R, A, I, P, n, c, l⟩ := q
  have HLN : Hid (l.length = n) := hq.len
  have hn0 : n ≤ 9223372036854775807 := hq.n1
  obtain ⟨W0, hW0⟩ : ∃ W, w.alloc (Cq.obj ⟨R, A, I, P, n, c, l⟩) = W := ⟨_, rfl⟩
  have HB0 : Hid (Below w.heap.size w W0) := by rw [← hW0]; exact lvBelow w _
  have HX0 : Hid (W0.heap[w.heap.size]? = some (Cq.obj ⟨R, A, I, P, n, c, l⟩)) := by rw [← hW0]; exact heap_alloc_new w _
  have hC := refUnset15_any ⟨R, A, I, P, n, c, l⟩ W0 (hq.on HB0.out)
  unfold UnsetP at hC
  obtain ⟨k0, k1, k2, k3, _⟩ := lvCells HX0.out
  clear hq
  cases hm : Cd.may (Cq.cd ⟨R, A, I, P, n, c, l⟩) with
  | false =>
    have HV : Hid (validE (Cq.cd ⟨R, A, I, P, n, c, l⟩) = 1) := validE_may hm
    have HE := Lib.hid (Cd.e_no hm)
    rw [HE.out] at hC
    clear hm
    go_enter Tryz.func31, Tryz.ntmps31
    go_wp2_with fail
    try rw [hW0]
    refine hC.mono ?_
    rintro e w1 ⟨A1, n1, c1, rfl, hU, hb⟩
    have HB1 := Lib.hid (HB0.out.trans (hb.mono HB0.out.size))
    have HX1 := Lib.hid (keep_b hb HX0.out)
    have hU1 : (unsetC (Cq.cd ⟨R, A, I, P, n, c, l⟩)).length = n1 := hU.1
    clear hb hC k0 k1 k2 k3 hW0 hU
    go_wp2_with fail
    go_ret
    exact ⟨by rw [HV.out]; rfl, HB1.out⟩
  | true =>
    have HM := Lib.hid hm
    have HUC : Hid (unsetC (Cq.cd ⟨R, A, I, P, n, c, l⟩) = (unsetN (Cq.cd ⟨R, A, I, P, n, c, l⟩)).map (fun n : Nat => (n : Int))) := by unfold Hid unsetC; rw [hm]; rfl
    have HE := Lib.hid (Cd.e_yes hm)
    rw [HE.out] at hC
    clear hm
    go_enter Tryz.func31, Tryz.ntmps31
    go_wp2_with fail
    try rw [hW0]
    refine hC.mono ?_
    rintro e w1 ⟨A1, n1, c1, rfl, hU, hb⟩
    have HB1 := Lib.hid (HB0.out.trans (hb.mono HB0.out.size))
    have HX1 := Lib.hid (keep_b hb HX0.out)
    have hU1 : (unsetC (Cq.cd ⟨R, A, I, P, n, c, l⟩)).length = n1 := hU.1
    clear hb hC k0 k1 k2 k3 hW0 hU
    rw [HUC.out, List.length_map] at hU1
    by_cases hz : n1 = 0
    case neg =>
      have HV : Hid (validE (Cq.cd ⟨R, A, I, P, n, c, l⟩) = 7) := validE_unset HM.out (fun e => hz (by rw [← hU1, e]; rfl))
      have z0 : (0 : Int) < (n1 : Int) := by omega
      clear hU1 hz
      go_wp2_with fail
      go_ret
      exact ⟨by rw [HV.out]; rfl, HB1.out⟩
    have HUN : Hid (unsetN (Cq.cd ⟨R, A, I, P, n, c, l⟩) = []) := List.eq_nil_of_length_eq_zero (by omega)
    subst hz
    clear hU1
    obtain ⟨k0, k1, k2, k3, _⟩ := lvCells HX1.out
    go_wp2_with fail
    clear k0 k1 k2 k3
    go_loopw [21] (fun a wr => ∃ k : Nat, k ≤ n ∧ a = .int .i64 k ∧ Hid ((l.take k).any (badX I) = false) ∧ Hid (Below w.heap.size w wr) ∧ Hid (wr.heap[w.heap.size]? = some (Cq.obj ⟨R, A, I, P, n, c, l⟩))) (fun a _ => n - (intOf a).toNat)
    case atStart => exact ⟨0, Nat.zero_le _, rfl, rfl, HB1, HX1⟩
    case round =>
      obtain ⟨k, hk, rfl, HK, HB, HX⟩ := hrel
      by_cases hkn : k < n
      case neg =>
        obtain rfl : k = n := by omega
        have HV : Hid (validE (Cq.cd ⟨R, A, I, P, k, c, l⟩) = 0) := validE_ok HM.out HUN.out (by have h := HK.out; rw [List.take_of_length_le (by rw [HLN.out]; exact Nat.le_refl _)] at h; exact h)
        go_wp2_with fail
        go_ret
        exact ⟨by rw [HV.out]; rfl, HB.out⟩
      obtain ⟨b, off, x, hA, hbb, HXX, ⟨y0, y1, y2, y3, y4⟩, hxo⟩ := ((HQ.out.on HB.out).ins).at_ hkn
      subst hA
      have hkk : (k : Int) < (n : Int) := by omega
      obtain ⟨W4, hW4⟩ : ∃ W, wr.alloc x.obj = W := ⟨_, rfl⟩
      obtain ⟨g4, hg4⟩ : ∃ z, wr.heap.size = z := ⟨_, rfl⟩
      have hb4 : Below wr.heap.size wr W4 := by rw [← hW4]; exact lvBelow _ _
      have HB4 := Lib.hid (HB.out.trans (hb4.mono HB.out.size))
      have HX4 := Lib.hid (keep_b hb4 HX.out)
      have HY4 : Hid (W4.heap[g4]? = some x.obj) := by rw [← hW4, ← hg4]; exact newJ wr x
      have HWQ := Lib.hid hW4
      have HXM : Hid (x ∈ l) := List.mem_of_getElem? HXX.out
      have HTK : Hid ((l.take (k + 1)).any (badX I) = badX I x) := by
        have := HXX.out
        unfold Hid
        rw [List.take_add_one, this, List.any_append, HK.out]; simp
      clear hbb hxo hb4 hW4
      go_upto_region 9 with fail
      try rw [HWQ.out]
      try rw [hg4]
      clear hg4 HWQ y0 y1 y2 y3 y4
      obtain ⟨⟨y0, y1, y2, y3, y4⟩, _⟩ := box_cellsJ HY4.out
      obtain ⟨k0, k1, k2, k3, _⟩ := lvCells HX4.out
      by_cases h79 : x.op = 7 ∨ x.op = 9
      · by_cases ha : x.a < I
        · have HBX : Hid (badX I x = true) := by
            unfold Hid badX
            rw [decide_eq_true ha]
            rcases h79 with h | h <;> rw [h] <;> rfl
          have HV : Hid (validE (Cq.cd ⟨R, A, I, some ⟨b, off, none⟩, n, c, l⟩) = 3) := validE_range HM.out HUN.out (List.any_eq_true.2 ⟨x, HXM.out, HBX.out⟩)
          have d0 : decide (x.a < I) = true := decide_eq_true ha
          clear ha
          rcases h79 with h | h
          · have e0 : (x.op == 7) = true := by rw [h]; rfl
            clear h
            go_wp2_with fail
            go_ret
            exact ⟨by rw [HV.out]; rfl, HB4.out⟩
          · have e0 : (x.op == 7) = false := by rw [h]; rfl
            have e1 : (x.op == 9) = true := by rw [h]; rfl
            clear h
            go_wp2_with fail
            go_ret
            exact ⟨by rw [HV.out]; rfl, HB4.out⟩
        · have HBX : Hid (badX I x = false) := by unfold Hid badX; rw [decide_eq_false ha, Bool.and_false]
          have HK2 : Hid ((l.take (k + 1)).any (badX I) = false) := HTK.out.trans HBX.out
          have d0 : decide (x.a < I) = false := decide_eq_false ha
          clear ha
          rcases h79 with h | h
          · have e0 : (x.op == 7) = true := by rw [h]; rfl
            clear h
            go_wp2_with fail
            go_roundw
            case rel => exact ⟨k + 1, by omega, by go_num, HK2, HB4, HX4⟩
            case measure => simp [intOf]; omega
          · have e0 : (x.op == 7) = false := by rw [h]; rfl
            have e1 : (x.op == 9) = true := by rw [h]; rfl
            clear h
            go_wp2_with fail
            go_roundw
            case rel => exact ⟨k + 1, by omega, by go_num, HK2, HB4, HX4⟩
            case measure => simp [intOf]; omega
      · have e0 : (x.op == 7) = false := by rw [beq_eq_false_iff_ne]; exact fun h => h79 (.inl h)
        have e1 : (x.op == 9) = false := by rw [beq_eq_false_iff_ne]; exact fun h => h79 (.inr h)
        have HBX : Hid (badX I x = false) := by unfold Hid badX; rw [e0, e1]; rfl
        have HK2 : Hid ((l.take (k + 1)).any (badX I) = false) := HTK.out.trans HBX.out
        clear h79
        go_wp2_with fail
        go_roundw
        case rel => exact ⟨k + 1, by omega, by go_num, HK2, HB4, HX4⟩
        case measure => simp [intOf]; omega
end Go.Proofs.YtgkngimeokhhgaaGreatDoor
/- lexer.pass: where the next token begins, and whether a line ends ahead of it. -/
namespace Go.Proofs.YtgkngimeokhhgaaGreatDoor
open Go.RowKit

/-- what is gone by ahead of a token: how many bytes, and whether a line ends (e: one has ended; i: within a remark) -/
def passL : Bool → Bool → List UInt8 → Nat × Bool
  | e, _, [] => (0, e)
  | e, i, c :: l =>
    if kb c = 2 then ((passL true false l).1 + 1, (passL true false l).2)
    else if kb c = 3 then ((passL e true l).1 + 1, (passL e true l).2)
    else if kb c ≠ 1 ∧ i = false then (0, e)
    else ((passL e i l).1 + 1, (passL e i l).2)
/-- the same, from a place on -/
def passAt (l : List UInt8) (k : Nat) (e i : Bool) : Nat × Bool := (k + (passL e i (l.drop k)).1, (passL e i (l.drop k)).2)
theorem drop_at {l : List UInt8} {k : Nat} {c : UInt8} (h : l[k]? = some c) : l.drop k = c :: l.drop (k + 1) := by
  obtain ⟨hk, e⟩ := List.getElem?_eq_some_iff.1 h
  rw [List.drop_eq_getElem_cons hk, e]
theorem passAt_end (l : List UInt8) (e i : Bool) : passAt l l.length e i = (l.length, e) := by
  unfold passAt
  rw [List.drop_of_length_le (Nat.le_refl _)]
  rfl
theorem passAt_line {l : List UInt8} {k : Nat} {c : UInt8} (h : l[k]? = some c) (hc : kb c = 2) (e i : Bool) : passAt l k e i = passAt l (k + 1) true false := by
  unfold passAt
  rw [drop_at h, passL, if_pos hc]
  simp only [Prod.mk.injEq, and_true]
  omega
theorem passAt_remark {l : List UInt8} {k : Nat} {c : UInt8} (h : l[k]? = some c) (hc : kb c = 3) (e i : Bool) : passAt l k e i = passAt l (k + 1) e true := by
  unfold passAt
  rw [drop_at h, passL, if_neg (by omega), if_pos hc]
  simp only [Prod.mk.injEq, and_true]
  omega
theorem passAt_stop {l : List UInt8} {k : Nat} {c : UInt8} (h : l[k]? = some c) (h2 : kb c ≠ 2) (h3 : kb c ≠ 3) (h1 : kb c ≠ 1) (e : Bool) : passAt l k e false = (k, e) := by
  unfold passAt
  rw [drop_at h, passL, if_neg h2, if_neg h3, if_pos ⟨h1, rfl⟩]
  rfl
theorem passAt_on {l : List UInt8} {k : Nat} {c : UInt8} (h : l[k]? = some c) (h2 : kb c ≠ 2) (h3 : kb c ≠ 3) (e i : Bool) (hi : kb c = 1 ∨ i = true) : passAt l k e i = passAt l (k + 1) e i := by
  unfold passAt
  rw [drop_at h, passL, if_neg h2, if_neg h3, if_neg (by rintro ⟨a, b⟩; rcases hi with hi | hi; exact a hi; rw [b] at hi; cases hi)]
  simp only [Prod.mk.injEq, and_true]
  omega
set_option maxRecDepth 100000 in
set_option maxHeartbeats 8000000 in
theorem pass_any (s : ByteArray) (p : Nat) (w : World) (hs : s.size ≤ 1000000) (hp : p ≤ s.size) (P : Nat) (E : Bool) (HP : Hid (passAt (bl s) p false false = (P, E))) : Calls Tryz.prog 33 #[.string s, .int .i64 p] w fun e w' => e = .returned (.tuple #[.int .i64 P, .bool E]) ∧ w = w' := by
  go_enter Tryz.func33, Tryz.ntmps33
  go_wp2
  go_step3
  go_wp2
  go_step3
  go_wp2
  go_loop [1, 6, 7] (fun a x y => ∃ (k : Nat) (e i : Bool), k ≤ s.size ∧ a = .int .i64 k ∧ x = .bool e ∧ y = .bool i ∧ Hid (passAt (bl s) k e i = (P, E))) (fun a _ _ => s.size - (intOf a).toNat)
  case atStart => exact ⟨p, false, false, hp, rfl, rfl, rfl, HP⟩
  case round =>
    obtain ⟨k, e, i, hk, rfl, rfl, rfl, HR⟩ := hrel
    by_cases hlt : k < s.size
    · have HG : Hid ((bl s)[k]? = some s[k]) := bl_get s k hlt
      obtain ⟨K, HK⟩ : ∃ K, Hid (kb s[k] = K) := ⟨_, Lib.hid rfl⟩
      have cK := fun w => kindOf_any s[k].toNat (u8_lt _) w K HK
      go_wp2_with (go_at_call 60; refine (cK _).mono ?_; rintro e w1 ⟨rfl, rfl⟩)
      · rename_i a
        exact ⟨⟨k + 1, true, false, by omega, by go_num, rfl, rfl, Lib.hid ((passAt_line HG.out (HK.out.trans (by simpa using a)) e i).symm.trans HR.out)⟩, by simp [intOf]; omega⟩
      · rename_i a
        exact ⟨⟨k + 1, e, true, by omega, by go_num, rfl, rfl, Lib.hid ((passAt_remark HG.out (HK.out.trans (by simpa using a)) e i).symm.trans HR.out)⟩, by simp [intOf]; omega⟩
      · rename_i a b c
        exact ⟨⟨k + 1, e, i, by omega, by go_num, rfl, rfl, Lib.hid ((passAt_on HG.out (by rw [HK.out]; simpa using a) (by rw [HK.out]; simpa using b) e i (Or.inl (HK.out.trans c))).symm.trans HR.out)⟩, by simp [intOf]; omega⟩
      · rename_i a b c d
        have hi : i = false := by simpa using d.2
        subst hi
        have h := (passAt_stop HG.out (by rw [HK.out]; simpa using a) (by rw [HK.out]; simpa using b) (by rw [HK.out]; exact c) e).symm.trans HR.out
        injection h with h1 h2
        subst h1 h2
        rw [Exit.noGoto_ret]
        exact bodyPost_ret (v := .tuple #[.int .i64 k, .bool e]) (by simp [results, Tryz.results33, go_sem]) rfl ⟨rfl, rfl⟩
      · rename_i a b c d
        have hi : i = true := by
          rcases d with d | d
          · exact absurd (by simpa using d) c
          · simpa using d
        exact ⟨⟨k + 1, e, i, by omega, by go_num, rfl, rfl, Lib.hid ((passAt_on HG.out (by rw [HK.out]; simpa using a) (by rw [HK.out]; simpa using b) e i (Or.inr hi)).symm.trans HR.out)⟩, by simp [intOf]; omega⟩
    · obtain rfl : s.size = k := by omega
      have h := HR.out
      rw [← bl_len s, passAt_end] at h
      injection h with h1 h2
      rw [bl_len] at h1
      subst h1 h2
      go_wp2
      exact bodyPost_ret (v := .tuple #[.int .i64 s.size, .bool e]) (by simp [results, Tryz.results33, go_sem]) rfl ⟨rfl, rfl⟩
end Go.Proofs.YtgkngimeokhhgaaGreatDoor
/- What lexer.Cut gives, in plain words. -/
namespace Go.Proofs.YtgkngimeokhhgaaGreatDoor
open Go.RowKit

def ofL (l : List UInt8) : ByteArray := ⟨l.toArray⟩
theorem bl_ofL (l : List UInt8) : bl (ofL l) = l := by simp [bl, ofL]
theorem ofL_bl (s : ByteArray) : ofL (bl s) = s := Lib.mk_data s
theorem ofL_size (l : List UInt8) : (ofL l).size = l.length := by rw [← bl_len, bl_ofL]
theorem extract_ofL (s : ByteArray) (a b : Nat) : s.extract a b = ofL (((bl s).drop a).take (b - a)) := Lib.extract_eq s a b
/-- how long the first token of a text is -/
def mF (r : List UInt8) : Nat := max (alongL r) 1
theorem mF_pos (r : List UInt8) : 1 ≤ mF r := by unfold mF; omega
theorem mF_le {r : List UInt8} (h : r ≠ []) : mF r ≤ r.length := by
  have := alongL_le r
  have : 0 < r.length := List.length_pos_iff.2 h
  unfold mF
  omega
theorem passL_le : ∀ (l : List UInt8) (e i : Bool), (passL e i l).1 ≤ l.length
  | [], _, _ => Nat.le_refl _
  | c :: l, e, i => by
    have h1 := passL_le l true false
    have h2 := passL_le l e true
    have h3 := passL_le l e i
    rw [passL, List.length_cons]
    repeat' split
    all_goals simp only
    all_goals omega
def lineTk : Tk := ⟨4, ⟨#[]⟩, 0⟩
/-- one token more, behind an end of a line if one is told and there is one ahead -/
def withLine (e : Bool) (L : List Tk) (t : Tk) : List Tk := if e = true ∧ L ≠ [] then L ++ [lineTk] ++ [t] else L ++ [t]
/-- the tokens of a text that begins with one, behind those that are there; or how many bytes are left where none begins -/
def cutE (r : List UInt8) (e : Bool) (L : List Tk) : Except Nat (List Tk) :=
  if _h : r = [] then .ok L else
    match tokF (ofL (r.take (mF r))) with
    | none => .error r.length
    | some t => cutE ((r.drop (mF r)).drop (passL false false (r.drop (mF r))).1) (passL false false (r.drop (mF r))).2 (withLine e L t)
termination_by r.length
decreasing_by
  have h1 := mF_pos r
  have : 0 < r.length := List.length_pos_iff.2 _h
  simp only [List.length_drop]
  omega
theorem cutE_nil (e : Bool) (L : List Tk) : cutE [] e L = .ok L := by rw [cutE]; simp
theorem cutE_bad {r : List UInt8} (h : r ≠ []) (ht : tokF (ofL (r.take (mF r))) = none) (e : Bool) (L : List Tk) : cutE r e L = .error r.length := by
  rw [cutE, dif_neg h, ht]
theorem cutE_on {r : List UInt8} {t : Tk} (h : r ≠ []) (ht : tokF (ofL (r.take (mF r))) = some t) (e : Bool) (L : List Tk) :
    cutE r e L = cutE ((r.drop (mF r)).drop (passL false false (r.drop (mF r))).1) (passL false false (r.drop (mF r))).2 (withLine e L t) := by
  rw [cutE, dif_neg h, ht]
/-- the tokens of a text, or how many bytes are left where none begins -/
def cutG (l : List UInt8) : Except Nat (List Tk) := cutE (l.drop (passL false false l).1) (passL false false l).2 []
/-- what Cut gives of n bytes: tokens, a place, an error -/
def cutH (n : Nat) (R : Except Nat (List Tk)) : List Tk × Int × Int :=
  match R with
  | .error q => ([], ((n - q : Nat) : Int), 6)
  | .ok L => if 4096 < L.length then ([], 0, 2) else (L, (n : Int), 0)
def cutF (l : List UInt8) : List Tk × Int × Int := if 65536 < l.length then ([], 0, 2) else cutH l.length (cutG l)
theorem tokF_text {s : ByteArray} {t : Tk} (h0 : s.size ≠ 0) (h : tokF s = some t) : t.s = s := by
  unfold tokF at h
  rw [if_neg h0] at h
  repeat' split at h
  all_goals first | (injection h with h; rw [← h]) | cases h
/-- from a place on -/
theorem passAt_fst (l : List UInt8) (k : Nat) : passAt l k false false = (k + (passL false false (l.drop k)).1, (passL false false (l.drop k)).2) := rfl
end Go.Proofs.YtgkngimeokhhgaaGreatDoor
/- Texts put together, and their tokens: plain mathematics. -/
namespace Go.Proofs.YtgkngimeokhhgaaGreatDoor
open Go.RowKit

/-- the tokens from a place on where a line has ended, or not, behind those that are there -/
def cutQ (e : Bool) (l : List UInt8) (L : List Tk) : Except Nat (List Tk) := cutE (l.drop (passL e false l).1) (passL e false l).2 L
theorem cutE_next {r : List UInt8} {t : Tk} (h : r ≠ []) (ht : tokF (ofL (r.take (mF r))) = some t) (e : Bool) (L : List Tk) : cutE r e L = cutQ false (r.drop (mF r)) (withLine e L t) := cutE_on h ht e L
end Go.Proofs.YtgkngimeokhhgaaGreatDoor
/- Tokens: how they read; slices of the call's own of them, and one more behind them. -/
namespace Go.Proofs.YtgkngimeokhhgaaGreatDoor
open Go.RowKit

/-- numbers and texts that Go holds -/
def Tk.ok (t : Tk) : Prop := -9223372036854775808 ≤ t.k ∧ t.k ≤ 9223372036854775807 ∧ -9223372036854775808 ≤ t.n ∧ t.n ≤ 9223372036854775807 ∧ t.s.size ≤ maxLen
def cellsT : List Tk → List Value
  | [] => []
  | x :: ss => .int .i64 x.k :: .string x.s :: .int .i64 x.n :: cellsT ss
theorem cellsT_length (ss : List Tk) : (cellsT ss).length = 3 * ss.length := by
  induction ss with
  | nil => rfl
  | cons x ss ih => simp only [cellsT, List.length_cons, ih]; omega
theorem cellsT_append (a b : List Tk) : cellsT (a ++ b) = cellsT a ++ cellsT b := by
  induction a with
  | nil => rfl
  | cons x a ih => simp only [List.cons_append, cellsT, ih]
theorem cellsT_at {ss : List Tk} {k : Nat} {x : Tk} (h : ss[k]? = some x) : (cellsT ss)[3 * k]? = some (.int .i64 x.k) ∧ (cellsT ss)[3 * k + 1]? = some (.string x.s) ∧ (cellsT ss)[3 * k + 2]? = some (.int .i64 x.n) := by
  induction ss generalizing k with
  | nil => simp at h
  | cons y ss ih =>
    cases k with
    | zero => simp at h; subst h; exact ⟨rfl, rfl, rfl⟩
    | succ k =>
      have := ih (k := k) (by simpa using h)
      exact ⟨by rw [← this.1]; rfl, by rw [← this.2.1]; rfl, by rw [← this.2.2]; rfl⟩
/-- the header (A, n) leads to the tokens ss, in blocks below B -/
def Toks (w : World) (B : Nat) (A : Option Addr) (n : Nat) (ss : List Tk) : Prop :=
  ss.length = n ∧ (∀ x ∈ ss, x.ok) ∧
  (0 < n → ∃ b off, A = some ⟨b, off, none⟩ ∧ b < B ∧ ∀ (k : Nat) (x : Tk), ss[k]? = some x → w.cell? ⟨b, off + k * 3, none⟩ = some (.int .i64 x.k) ∧ w.cell? ⟨b, off + k * 3 + 1, none⟩ = some (.string x.s) ∧ w.cell? ⟨b, off + k * 3 + 2, none⟩ = some (.int .i64 x.n))
section
variable {w w' : World} {B B' n : Nat} {A : Option Addr} {ss : List Tk}
theorem Toks.nil_ : Toks w B A 0 [] := ⟨rfl, by simp, fun h => absurd h (by omega)⟩
theorem Toks.keep (h : Toks w B A n ss) (hk : ∀ p : Addr, p.block < B → w'.cell? p = w.cell? p) : Toks w' B A n ss := by
  obtain ⟨hl, hb, hc⟩ := h
  refine ⟨hl, hb, fun hn => ?_⟩
  obtain ⟨b, off, e, hB, hx⟩ := hc hn
  exact ⟨b, off, e, hB, fun k x hx' => ⟨(hk _ hB).trans (hx k x hx').1, (hk _ hB).trans (hx k x hx').2.1, (hk _ hB).trans (hx k x hx').2.2⟩⟩
theorem Toks.more (h : Toks w B A n ss) (hB : B ≤ B') : Toks w B' A n ss := by
  obtain ⟨hl, hb, hc⟩ := h
  refine ⟨hl, hb, fun hn => ?_⟩
  obtain ⟨b, off, e, hB', hx⟩ := hc hn
  exact ⟨b, off, e, by omega, hx⟩
theorem Toks.below (h : Toks w B A n ss) (hb : Below B w w') : Toks w' B A n ss := h.keep fun _ hp => hb.cell hp
theorem Toks.drewN (h : Toks w B A n ss) (k : Nat) : Toks (w.drewN k) B A n ss := h
theorem Toks.at_ {k : Nat} (h : Toks w B A n ss) (hk : k < n) :
    ∃ b off x, A = some ⟨b, off, none⟩ ∧ b < B ∧ Hid (ss[k]? = some x) ∧ w.cell? ⟨b, off + k * 3, none⟩ = some (.int .i64 x.k) ∧ w.cell? ⟨b, off + k * 3 + 1, none⟩ = some (.string x.s) ∧ w.cell? ⟨b, off + k * 3 + 2, none⟩ = some (.int .i64 x.n) ∧ x.ok := by
  obtain ⟨hl, hb, hc⟩ := h
  obtain ⟨b, off, rfl, hB, hx⟩ := hc (by omega)
  have hk' : k < ss.length := by omega
  have hm := hb _ (List.getElem_mem hk')
  have hx' := hx k _ (List.getElem?_eq_getElem hk')
  exact ⟨b, off, ss[k], rfl, hB, List.getElem?_eq_getElem hk', hx'.1, hx'.2.1, hx'.2.2, hm⟩
end
set_option maxRecDepth 100000 in
theorem infoTok : (Tryz.prog.info? 77).map (fun i => (i.zero, i.size, i.bytes)) = some (some (.agg #[.int .i64 0, .string ⟨#[]⟩, .int .i64 0]), 3, 32) := by kernel_rfl
/-- a slice of the call's own, of tokens -/
def OwnT (w : World) (base : Nat) (A : Option Addr) (c : Nat) (ss : List Tk) : Prop := w.ownsRow base 77 3 (.slice A ss.length c) ss.length (cellsT ss)
section
variable {w w' : World} {base B c : Nat} {A : Option Addr} {ss : List Tk}
theorem OwnT.nil_ (w : World) (base : Nat) : OwnT w base none 0 [] := w.ownsRow_nil base _ 3
theorem OwnT.below (h : OwnT w base A c ss) (hb : Below B w w') (hB : w.heap.size ≤ B) : OwnT w' base A c ss :=
  World.ownsRow.kept h ⟨hb.os, hb.tape, hb.output, hb.size, fun i hi _ => hb.block i (by omega)⟩ (row := none) (by cases hh : (Value.slice A ss.length c).ownBlock with | none => exact .inl rfl | some k => exact .inr (by simp))
theorem OwnT.alloc (h : OwnT w base A c ss) (o : Obj) : OwnT (w.alloc o) base A c ss := World.ownsRow.alloc h o
theorem OwnT.lt {g : Nat} (h : OwnT w base (some ⟨g, 0, none⟩) c ss) : base ≤ g ∧ g < w.heap.size := World.ownsRow.lt h g rfl
theorem OwnT.heap (h : OwnT w base A c ss) : A = none ∨ ∃ g cur, A = some ⟨g, 0, none⟩ ∧ base ≤ g ∧ w.heap[g]? = some (.cells cur 77 (0, 0)) := by
  rcases h.2 with ⟨h1, _⟩ | ⟨g, cap, cur, h1, h2, h3, _⟩
  · injection h1 with h1; exact .inl h1
  · injection h1 with h1; exact .inr ⟨g, cur, h1, h2, h3⟩
theorem OwnT.same (h : OwnT w base A c ss) (hq : ∀ b, A = some ⟨b, 0, none⟩ → w'.heap[b]? = w.heap[b]?) : OwnT w' base A c ss := by
  refine ⟨h.1, ?_⟩
  rcases h.2 with h1 | ⟨b, cap, cur, h1, h2, h3, h4⟩
  · exact .inl h1
  · refine .inr ⟨b, cap, cur, h1, h2, ?_, h4⟩
    injection h1 with h1
    rw [hq b h1]; exact h3
theorem OwnT.rows (h : OwnT w base A c ss) : ∀ (k : Nat) (x : Tk), ss[k]? = some x → ∃ g, A = some ⟨g, 0, none⟩ ∧ base ≤ g ∧ g < w.heap.size ∧ w.cell? ⟨g, 3 * k, none⟩ = some (.int .i64 x.k) ∧ w.cell? ⟨g, 3 * k + 1, none⟩ = some (.string x.s) ∧ w.cell? ⟨g, 3 * k + 2, none⟩ = some (.int .i64 x.n) := by
  intro k x hx
  have hk := (List.getElem?_eq_some_iff.1 hx).1
  rcases h.2 with ⟨_, h1⟩ | ⟨g, cap, cur, hv, hb, hg, _, _, _, hr⟩
  · omega
  · have hA : A = some ⟨g, 0, none⟩ := by injection hv
    obtain ⟨c1, c2, c3⟩ := cellsT_at hx
    have hl := cellsT_length ss
    refine ⟨g, hA, hb, (Array.getElem?_eq_some_iff.1 hg).1, (cell_of_row _ _ _ _ _ _ hg).trans ?_, (cell_of_row _ _ _ _ _ _ hg).trans ?_, (cell_of_row _ _ _ _ _ _ hg).trans ?_⟩
    · rw [← hr, List.getElem?_take] at c1
      split at c1
      · simpa using c1
      · cases c1
    · rw [← hr, List.getElem?_take] at c2
      split at c2
      · simpa using c2
      · cases c2
    · rw [← hr, List.getElem?_take] at c3
      split at c3
      · simpa using c3
      · cases c3
/-- tokens of the call's own read as tokens -/
theorem OwnT.toks (h : OwnT w base A c ss) (hx : ∀ x ∈ ss, x.ok) : Toks w w.heap.size A ss.length ss := by
  refine ⟨rfl, hx, fun h0 => ?_⟩
  obtain ⟨g, e, _, hlt, _⟩ := h.rows 0 _ (List.getElem?_eq_getElem h0)
  refine ⟨g, 0, e, hlt, fun k x hk => ?_⟩
  obtain ⟨g', e', _, _, a1, a2, a3⟩ := h.rows k x hk
  rw [e] at e'
  injection e' with e'; injection e' with e'
  subst e'
  rw [Nat.zero_add, Nat.mul_comm k 3]
  exact ⟨a1, a2, a3⟩
theorem OwnT.lenCap (h : OwnT w base A c ss) : ss.length ≤ c := by
  rcases h.2 with ⟨h1, h2⟩ | ⟨g, cap, cur, h1, _, _, h5, _⟩
  · omega
  · injection h1 with _ _ h1; omega
end
/-- one token more, and what was written -/
theorem wpList_appendTok {ops : Array Oper} {rest : List Oper} {o : Oper} {a : Act} {w : World} {Q : Exit → Act → World → Prop}
    (hg : o.guard = none) (s x : Operand) (hop : o.op = Op.call { callee := Callee.builtin Builtin.append, args := #[s, x], argTypes := #[59, 59] })
    (base : Nat) (A : Option Addr) (c p r g : Nat) (y : Tk) (L : List Tk) (hgz : w.heap.size = g) (hs : a.eval s = .slice A p c) (hx : a.eval x = .slice (some ⟨g, 0, none⟩) 1 1)
    (ho : OwnT w base A c L) (hp : L.length = p) (hr : p + 1 = r) (hl : r ≤ 1000000) (hb : base ≤ w.heap.size)
    (hK : ∀ A' c' w', OwnT w' base A' c' (L ++ [y]) → w.grownBy w' (Value.slice A p c).ownBlock → wpList Tryz.prog ops Q rest (a.put o.dst (.slice A' r c')) w') :
    wpList Tryz.prog ops Q (o :: rest) a (w.alloc (.cells #[.int .i64 y.k, .string y.s, .int .i64 y.n] 77)) := by
  obtain ⟨i, hi, hz, h1, h2⟩ := info_parts infoTok
  subst hp
  subst hr
  subst hgz
  refine wpList_append_own _ hg s x 59 hop base 77 i (.agg #[.int .i64 0, .string ⟨#[]⟩, .int .i64 0]) 3 32 Tryz.underlying59 hi hz h1 h2 (by rfl) (by decide) _ L.length (cellsT L) hs (World.ownsRow.alloc ho _) ⟨w.heap.size, 0, none⟩ 1 1 [.int .i64 y.k, .string y.s, .int .i64 y.n] hx rfl ?_ (by simp [Value.oneCell']) (by unfold maxLen; omega) (by omega) (by simp; omega) ?_
  · intro j u hj
    match j, hj with
    | 0, hj => simp at hj; subst hj; simp [Addr.add]
    | 1, hj => simp at hj; subst hj; simp [Addr.add]
    | 2, hj => simp at hj; subst hj; simp [Addr.add]
    | j + 3, hj => simp at hj
  · intro v' w' hown hgr _
    obtain ⟨A', c', rfl⟩ : ∃ A' c', v' = .slice A' (L.length + 1) c' := by
      rcases hown.2 with ⟨rfl, h0⟩ | ⟨g, cap, cur, rfl, _⟩
      · omega
      · exact ⟨_, _, rfl⟩
    refine hK A' c' w' ?_ ((World.grownBy_alloc w _ _).trans hgr)
    unfold OwnT
    rw [List.length_append, cellsT_append]
    exact hown
theorem block_keptT {w w' : World} {base' c' g p : Nat} {A' : Option Addr} {L : List Tk} {cs : Array Value} {t : TypeId} {fr : Nat × Nat} (h : w.heap[g]? = some (.cells cs t fr)) (hG : ∀ g', A' = some ⟨g', 0, none⟩ → g' ≠ g) (hg : w.grownBy w' (Value.slice A' p c').ownBlock) (hS : OwnT w base' A' c' L) : w'.heap[g]? = some (.cells cs t fr) := by
  refine (hg.block g (Array.getElem?_eq_some_iff.1 h).1 ?_).trans h
  rcases hS.heap with h1 | ⟨g', cur, h1, _, hh⟩
  · rw [h1]; simp [Value.ownBlock]
  · rw [h1]
    intro e
    exact hG g' h1 (by simpa [Value.ownBlock] using e.symm)
theorem below_appT {w1 W w3 : World} {base p c : Nat} {A : Option Addr} {xs : List Tk} (hb : Below base w1 W) (hg : W.grownBy w3 (Value.slice A p c).ownBlock) (ho : OwnT W base A c xs) (hs : base ≤ W.heap.size) : Below base w1 w3 :=
  hb.grown hg hs fun k hk => by
    rcases ho.heap with h1 | ⟨g', cur, h1, h2, _⟩
    · rw [h1] at hk; cases hk
    · rw [h1] at hk
      simp only [Value.ownBlock, Option.some.injEq] at hk
      omega
end Go.Proofs.YtgkngimeokhhgaaGreatDoor
/- The tokens that Cut gives: each may be, and none is longer than what was cut. -/
namespace Go.Proofs.YtgkngimeokhhgaaGreatDoor
open Go.RowKit

theorem numL_bound : ∀ (n : Nat) (l : List UInt8), l.length = n → (∀ c ∈ l, kb c = 5) → 0 ≤ numL l ∧ numL l < 10 ^ n := by
  intro n
  induction n with
  | zero =>
    intro l hl _
    obtain rfl := List.eq_nil_of_length_eq_zero hl
    exact ⟨by decide, by decide⟩
  | succ n ih =>
    intro l hl h
    rcases List.eq_nil_or_concat l with rfl | ⟨l, c, rfl⟩
    · simp at hl
    · rw [List.concat_eq_append] at hl h ⊢
      obtain ⟨a, b⟩ := ih l (by simpa using hl) (fun x hx => h x (by simp [hx]))
      have hc := dig_in (h c (by simp))
      rw [numL_snoc]
      exact ⟨by omega, ten_step b (by omega)⟩
theorem pow18 (k : Nat) (h : k ≤ 18) : (10 : Int) ^ k ≤ 1000000000000000000 := by
  have : ∀ k, k < 19 → (10 : Int) ^ k ≤ 1000000000000000000 := by decide
  exact this k (by omega)
theorem isNumL_bound {l : List UInt8} (h : isNumL l = true) : 0 ≤ numL l ∧ numL l < 1000000000000000000 := by
  unfold isNumL at h
  rw [decide_eq_true_iff] at h
  obtain ⟨h1, h2, _, h3⟩ := h
  have := numL_bound _ l rfl (fun c hc => by
    obtain ⟨j, hj, e⟩ := List.getElem_of_mem hc
    obtain ⟨d, e1, e2⟩ := h3 j hj
    rw [List.getElem?_eq_getElem hj, e] at e1
    injection e1 with e1
    rw [e1]; exact e2)
  have := pow18 l.length h2
  omega
/-- a token may be: it is the one whose text it has -/
def mayT (t : Tk) : Prop := tokF t.s = some t
theorem tokF_len {s : ByteArray} {t : Tk} (h : tokF s = some t) : s.size ≤ 18 := by
  unfold tokF at h
  split at h
  · omega
  · split at h
    · rename_i hw
      unfold isWordL at hw
      rw [decide_eq_true_iff, bl_len] at hw
      omega
    · split at h
      · rename_i hw
        unfold isNumL at hw
        rw [decide_eq_true_iff, bl_len] at hw
        omega
      · split at h
        · rename_i hw
          unfold isSignL at hw
          rw [decide_eq_true_iff, bl_len] at hw
          omega
        · cases h
theorem tokF_ok {s : ByteArray} {t : Tk} (h : tokF s = some t) : t.ok := by
  have hl := tokF_len h
  unfold tokF at h
  unfold Tk.ok
  split at h
  · injection h with h; subst h; exact ⟨by decide, by decide, by decide, by decide, by decide⟩
  · split at h
    · injection h with h; subst h; exact ⟨by simp only; omega, by simp only; omega, by simp only; omega, by simp only; omega, by unfold maxLen; simp only; omega⟩
    · split at h
      · rename_i hn
        have := isNumL_bound hn
        injection h with h; subst h; exact ⟨by simp only; omega, by simp only; omega, by simp only; omega, by simp only; omega, by unfold maxLen; simp only; omega⟩
      · split at h
        · injection h with h; subst h; exact ⟨by simp only; omega, by simp only; omega, by simp only; omega, by simp only; omega, by unfold maxLen; simp only; omega⟩
        · cases h
theorem mayT.ok {t : Tk} (h : mayT t) : t.ok := tokF_ok h
theorem line_may : mayT lineTk := by unfold mayT lineTk; rfl
theorem ofL_ne {r : List UInt8} (h : r ≠ []) : (ofL (r.take (mF r))).size ≠ 0 := by
  have := mF_pos r
  have := mF_le h
  rw [ofL_size, List.length_take]
  omega
/-- whatever holds of an end of a line, and of each token, holds of all that is cut -/
theorem cutE_all (P : Tk → Prop) (hl : P lineTk) (ht : ∀ s t, s.size ≠ 0 → tokF s = some t → P t) (n : Nat) : ∀ (r : List UInt8), r.length ≤ n → ∀ (e : Bool) (L M : List Tk), (∀ t ∈ L, P t) → cutE r e L = .ok M → ∀ t ∈ M, P t := by
  induction n with
  | zero =>
    intro r hr e L M hL h
    obtain rfl : r = [] := List.eq_nil_of_length_eq_zero (by omega)
    rw [cutE_nil] at h; injection h with h; subst h; exact hL
  | succ n ih =>
    intro r hr e L M hL h
    by_cases h0 : r = []
    · subst h0; rw [cutE_nil] at h; injection h with h; subst h; exact hL
    · have hm := mF_le h0
      have hm1 := mF_pos r
      cases hk : tokF (ofL (r.take (mF r))) with
      | none => rw [cutE_bad h0 hk] at h; cases h
      | some t =>
        rw [cutE_next h0 hk] at h
        refine ih _ (by rw [List.length_drop, List.length_drop]; omega) _ _ _ (fun x hx => ?_) h
        have hp := ht _ _ (ofL_ne h0) hk
        unfold withLine at hx
        split at hx
        · simp only [List.mem_append, List.mem_singleton] at hx
          rcases hx with (hx | rfl) | rfl
          · exact hL x hx
          · exact hl
          · exact hp
        · simp only [List.mem_append, List.mem_singleton] at hx
          rcases hx with hx | rfl
          · exact hL x hx
          · exact hp
theorem cutG_all (P : Tk → Prop) (hl : P lineTk) (ht : ∀ s t, s.size ≠ 0 → tokF s = some t → P t) {l : List UInt8} {M : List Tk} (h : cutG l = .ok M) : ∀ t ∈ M, P t :=
  cutE_all P hl ht _ _ (Nat.le_refl _) _ _ _ (by simp) h
theorem cutF_mem {l : List UInt8} : (cutF l).1 = [] ∨ cutG l = .ok (cutF l).1 := by
  unfold cutF
  split
  · exact .inl rfl
  · unfold cutH
    split
    · exact .inl rfl
    · split
      · exact .inl rfl
      · rename_i h _; exact .inr h
theorem cutF_may (l : List UInt8) : ∀ t ∈ (cutF l).1, mayT t := by
  rcases cutF_mem (l := l) with h | h
  · rw [h]; simp
  · exact cutG_all mayT line_may (fun s t hs h => by unfold mayT; rw [tokF_text hs h]; exact h) h
theorem cutF_ok (l : List UInt8) : ∀ t ∈ (cutF l).1, t.ok := fun t ht => (cutF_may l t ht).ok
theorem cutF_len (l : List UInt8) : (cutF l).1.length ≤ 4096 := by
  unfold cutF
  split
  · simp
  · unfold cutH
    split
    · simp
    · split
      · simp
      · simp only; omega
theorem cutF_good {l : List UInt8} (h : (cutF l).2.2 = 0) : cutG l = .ok (cutF l).1 ∧ l.length ≤ 65536 ∧ (cutF l).2.1 = l.length := by
  unfold cutF at h ⊢
  split at h
  · cases h
  · rename_i h1
    rw [if_neg h1]
    unfold cutH at h ⊢
    split at h
    · cases h
    · rename_i L hL
      split at h
      · cases h
      · rename_i h4
        rw [hL]
        simp only [if_neg h4, and_true, true_and]
        omega
end Go.Proofs.YtgkngimeokhhgaaGreatDoor
/- A number's digits, and how they are cut: plain mathematics. -/
namespace Go.Proofs.YtgkngimeokhhgaaGreatDoor
open Go.RowKit

theorem dig_byte : ∀ d, d < 10 → kb (UInt8.ofNat (48 + d)) = 5 ∧ (UInt8.ofNat (48 + d)).toNat = 48 + d := by decide
def minusTk : Tk := ⟨3, ⟨#[45]⟩, 0⟩
end Go.Proofs.YtgkngimeokhhgaaGreatDoor
/- append of a whole list of tokens. -/
namespace Go.Proofs.YtgkngimeokhhgaaGreatDoor
open Go.RowKit

theorem Toks.cells {w : World} {B n : Nat} {ad : Addr} {es : List Tk} (h : Toks w B (some ad) n es) : ∀ (j : Nat) (u : Value), (cellsT es)[j]? = some u → w.cell? (ad.add j) = some u := by
  intro j u hu
  have hj := (List.getElem?_eq_some_iff.1 hu).1
  rw [cellsT_length] at hj
  obtain ⟨hl, _, hc⟩ := h
  obtain ⟨b, off, e, _, hx⟩ := hc (by omega)
  injection e with e
  subst e
  have hk : j / 3 < es.length := by omega
  have hx' := hx (j / 3) _ (List.getElem?_eq_getElem hk)
  have hce := cellsT_at (List.getElem?_eq_getElem hk)
  have hadd : (Addr.add ⟨b, off, none⟩ j : Addr) = ⟨b, off + j, none⟩ := by
    by_cases h0 : j = 0
    · subst h0; simp [Addr.add]
    · simp [Addr.add, h0]
  rw [hadd]
  generalize es[j / 3] = y at hx' hce
  generalize hq : j / 3 = q at hx' hce
  rcases (by omega : j = 3 * q ∨ j = 3 * q + 1 ∨ j = 3 * q + 2) with rfl | rfl | rfl
  · rw [← hu, hce.1, ← hx'.1, Nat.mul_comm]
  · rw [← hu, hce.2.1, ← hx'.2.1, Nat.mul_comm, Nat.add_assoc]
  · rw [← hu, hce.2.2, ← hx'.2.2, Nat.mul_comm, Nat.add_assoc]
theorem Toks.on {w w' : World} {B B2 n : Nat} {A : Option Addr} {ss : List Tk} (h : Toks w B A n ss) (hb : Below B2 w w') (hB : B ≤ B2) : Toks w' B A n ss := h.keep fun _ hp => hb.cell (Nat.lt_of_lt_of_le hp hB)
theorem Toks.alloc {w : World} {B n : Nat} {A : Option Addr} {ss : List Tk} (h : Toks w B A n ss) (hB : B ≤ w.heap.size) (o : Obj) : Toks (w.alloc o) B A n ss := h.keep fun p hp => World.cell?_alloc_lt w o p (by omega)
theorem size_allocT (w : World) (o : Obj) : w.heap.size ≤ (w.alloc o).heap.size := by
  show _ ≤ (w.heap.push o).size
  rw [Array.size_push]
  omega
theorem Toks.grown {w w' : World} {B n : Nat} {A : Option Addr} {ss : List Tk} (h : Toks w B A n ss) {row : Option Nat} (hg : w.grownBy w' row) (hB : B ≤ w.heap.size) (hr : ∀ g, row = some g → B ≤ g) : Toks w' B A n ss :=
  h.keep fun p hp => World.cell?_of_block (hg.block p.block (by omega) (fun e => by have := hr _ e.symm; omega))
theorem OwnT.row {w : World} {base c p : Nat} {A : Option Addr} {ss : List Tk} (h : OwnT w base A c ss) : ∀ g, (Value.slice A p c).ownBlock = some g → base ≤ g := by
  intro g e
  rcases h.heap with h1 | ⟨g', cur, h1, h2, _⟩
  · rw [h1] at e; cases e
  · rw [h1] at e
    simp only [Value.ownBlock, Option.some.injEq] at e
    omega
end Go.Proofs.YtgkngimeokhhgaaGreatDoor
/- lexer.Cut: a text's tokens, or where there is none. -/
namespace Go.Proofs.YtgkngimeokhhgaaGreatDoor
open Go.RowKit

/-- tokens of the call's own, a place and an error -/
def CutP (w : World) (L : List Tk) (N E : Int) (e : Ending) (w' : World) : Prop :=
  ∃ A n c, e = .returned (.tuple #[.slice A n c, .int .i64 N, .int .i64 E]) ∧ L.length = n ∧ OwnT w' w.heap.size A c L ∧ Below w.heap.size w w'
theorem ltK {w w2 : World} {base c : Nat} {A : Option Addr} {L : List Tk} (h : OwnT w base A c L) (hs : w.heap.size ≤ w2.heap.size) : ∀ g, A = some ⟨g, 0, none⟩ → g < w2.heap.size := by
  intro g e
  subst e
  have := h.lt.2
  omega
/-- a box of one token stays, over one token more -/
theorem boxK {W w4 : World} {base c n g : Nat} {A : Option Addr} {L : List Tk} {t : Tk} (hb : W.heap[g]? = some (.cells #[.int .i64 t.k, .string t.s, .int .i64 t.n] 77 (0, 0))) (hG : W.grownBy w4 (Value.slice A n c).ownBlock) (hO : OwnT W base A c L) (hA : A ≠ some ⟨g, 0, none⟩) : w4.heap[g]? = some (.cells #[.int .i64 t.k, .string t.s, .int .i64 t.n] 77 (0, 0)) :=
  block_keptT hb (fun g' e e2 => hA (by rw [e, e2])) hG hO
theorem notBox {w : World} {base c g : Nat} {A : Option Addr} {L : List Tk} {t : Tk} (hb : w.heap[g]? = some (.cells #[.int .i64 t.k, .string t.s, .int .i64 t.n] 77 (0, 0))) (hO : OwnT w base A c L) (h2 : 2 ≤ L.length) : A ≠ some ⟨g, 0, none⟩ := by
  intro e
  obtain ⟨g', e', _, _, h, _⟩ := hO.rows 1 _ (List.getElem?_eq_getElem h2)
  rw [e] at e'
  injection e' with e'; injection e' with e'
  subst e'
  rw [cell_of_row _ _ _ _ _ _ hb] at h
  simp at h
theorem boxCells {w : World} {g : Nat} {t : Tk} (hb : w.heap[g]? = some (.cells #[.int .i64 t.k, .string t.s, .int .i64 t.n] 77 (0, 0))) : w.cell? ⟨g, 0, none⟩ = some (.int .i64 t.k) ∧ w.cell? ⟨g, 1, none⟩ = some (.string t.s) ∧ w.cell? ⟨g, 2, none⟩ = some (.int .i64 t.n) :=
  ⟨cell_of_row _ _ 0 _ _ _ hb, cell_of_row _ _ 1 _ _ _ hb, cell_of_row _ _ 2 _ _ _ hb⟩
theorem box_new (w : World) (t : Tk) : (w.alloc (.cells #[.int .i64 t.k, .string t.s, .int .i64 t.n] 77)).heap[w.heap.size]? = some (.cells #[.int .i64 t.k, .string t.s, .int .i64 t.n] 77 (0, 0)) := by
  show (w.heap.push _)[w.heap.size]? = _
  rw [Array.getElem?_push_size]
set_option maxRecDepth 100000 in
set_option maxHeartbeats 8000000 in
theorem cut_any (s : ByteArray) (w : World) (hs : s.size ≤ maxLen) : Calls Tryz.prog 25 #[.string s] w (CutP w (cutF (bl s)).1 (cutF (bl s)).2.1 (cutF (bl s)).2.2) := by
  by_cases h6 : 65536 < s.size
  · have hE : cutF (bl s) = ([], 0, 2) := by unfold cutF; rw [bl_len, if_pos h6]
    rw [hE]
    clear hE
    unfold maxLen at hs
    go_enter Tryz.func25, Tryz.ntmps25
    go_wp2
    exact bodyPost_ret (v := .tuple #[.slice none 0 0, .int .i64 0, .int .i64 2]) (by simp [results, Tryz.results25, go_sem]) rfl ⟨none, 0, 0, rfl, rfl, OwnT.nil_ _ _, Below.refl _ _⟩
  · have hsz : s.size ≤ 65536 := by omega
    obtain ⟨R, HR⟩ : ∃ R, Hid (cutG (bl s) = R) := ⟨_, Lib.hid rfl⟩
    have HE : Hid (cutF (bl s) = cutH s.size R) := by
      unfold Hid cutF
      rw [bl_len, if_neg h6, HR.out]
    have cP := fun w => pass_any s 0 w (by omega) (by omega) _ _ (Lib.hid (passAt_fst (bl s) 0))
    obtain ⟨p0, hp0⟩ : ∃ p, 0 + (passL false false ((bl s).drop 0)).1 = p := ⟨_, rfl⟩
    obtain ⟨e0, he0⟩ : ∃ e, (passL false false ((bl s).drop 0)).2 = e := ⟨_, rfl⟩
    rw [hp0, he0] at cP
    have hp0l : p0 ≤ s.size := by
      have := passL_le ((bl s).drop 0) false false
      rw [List.length_drop, bl_len] at this
      omega
    have HI0 : Hid (cutE ((bl s).drop p0) e0 [] = R) := by
      unfold Hid
      rw [← HR.out, ← hp0, ← he0, List.drop_zero, Nat.zero_add]
      rfl
    clear hp0 he0 hs HR h6
    go_enter Tryz.func25, Tryz.ntmps25
    go_wp2_with (go_at_call 33; refine (cP _).mono ?_; rintro e w1 ⟨rfl, rfl⟩)
    go_loopw [5, 6, 7] (fun o a x wr => ∃ (L : List Tk) (A : Option Addr) (n c k : Nat) (e : Bool), o = .slice A n c ∧ a = .int .i64 k ∧ x = .bool e ∧ k ≤ s.size ∧ Hid (L.length = n) ∧ Hid (OwnT wr w.heap.size A c L) ∧ Hid (Below w.heap.size w wr) ∧ Hid (cutE ((bl s).drop k) e L = R) ∧ n ≤ 2 * k) (fun _ a _ _ => s.size - (intOf a).toNat)
    case atStart => exact ⟨[], none, 0, 0, p0, e0, rfl, rfl, rfl, hp0l, rfl, OwnT.nil_ _ _, Below.refl _ _, HI0, by omega⟩
    case round =>
      obtain ⟨L, A, n, c, k, e, rfl, rfl, rfl, hk, HL, HO, HB, HC, hn⟩ := hrel
      have hsz0 := HB.out.size
      by_cases hlt : k < s.size
      · have hr : (bl s).drop k ≠ [] := by
          intro h
          have := congrArg List.length h
          rw [List.length_drop, bl_len] at this
          simp at this
          omega
        obtain ⟨m, hm⟩ : ∃ m, mF ((bl s).drop k) = m := ⟨_, rfl⟩
        have hm1 : 1 ≤ m := by rw [← hm]; exact mF_pos _
        have hm2 : k + m ≤ s.size := by
          have := mF_le hr
          rw [hm, List.length_drop, bl_len] at this
          omega
        obtain ⟨v, hv⟩ : ∃ v, ofL (((bl s).drop k).take m) = v := ⟨_, rfl⟩
        have hvs : v.size = m := by rw [← hv, ofL_size, List.length_take, List.length_drop, bl_len]; omega
        have ex : s.extract k s.size = ofL ((bl s).drop k) := by
          rw [extract_ofL, List.take_of_length_le]
          rw [List.length_drop, bl_len]
          omega
        have cF : ∀ W, Calls Tryz.prog 35 #[.string (s.extract k s.size)] W fun e w' => e = .returned (.string v) ∧ W = w' := by
          intro W
          have h := front_any (s.extract k s.size) W (by rw [ex, ofL_size, List.length_drop, bl_len]; unfold maxLen; omega) (by rw [ex, ofL_size, List.length_drop, bl_len]; omega)
          rw [ex, bl_ofL, extract_ofL, bl_ofL, List.drop_zero, Nat.sub_zero] at h
          rw [ex, ← hv, ← hm]
          exact h
        have cT := fun W => token_any v W (by unfold maxLen; omega)
        have hvs1 : v.size ≠ 0 := by omega
        have c0 : (0 : Int) ≤ (k : Int) := by omega
        have c1 : (k : Int) ≤ (s.size : Int) := by omega
        cases ht : tokF v with
        | none =>
          rw [ht] at cT
          change ∀ W, Calls Tryz.prog 34 #[.string v] W fun e w' => e = .returned (.tuple #[.agg #[.int .i64 0, .string ⟨#[]⟩, .int .i64 0], .bool false]) ∧ Below W.heap.size W w' at cT
          have HQ : Hid (cutF (bl s) = ([], (k : Int), 6)) := by
            have h := HC.out
            rw [cutE_bad hr (by rw [hm, hv]; exact ht), List.length_drop, bl_len] at h
            unfold Hid
            rw [HE.out, ← h]
            show (([], ((s.size - (s.size - k) : Nat) : Int), 6) : List Tk × Int × Int) = _
            rw [show s.size - (s.size - k) = k by omega]
          clear ht hv hm ex hr HC HE HI0 cP
          go_wp2_with (first | (go_at_call 35; refine (cF _).mono ?_; rintro e w1 ⟨rfl, rfl⟩) | (go_at_call 34; refine (cT _).mono ?_; rintro e w2 ⟨rfl, hb2⟩))
          rw [HQ.out]
          exact bodyPost_ret (v := .tuple #[.slice none 0 0, .int .i64 k, .int .i64 6]) (by simp [results, Tryz.results25, go_sem]) rfl ⟨none, 0, 0, rfl, rfl, OwnT.nil_ _ _, (HB.out.trans (hb2.mono hsz0)).alloc (Nat.le_trans hsz0 hb2.size) _⟩
        | some t =>
          obtain ⟨a, v', nn⟩ := t
          have hvv := tokF_text hvs1 ht
          simp only at hvv
          subst hvv
          rw [ht] at cT
          change ∀ W, Calls Tryz.prog 34 #[.string v'] W fun e w' => e = .returned (.tuple #[.agg #[.int .i64 a, .string v', .int .i64 nn], .bool true]) ∧ Below W.heap.size W w' at cT
          have HHT := Lib.hid ht
          have HVM : Hid (v'.size = m) := hvs
          have hl1 : n + 1 ≤ 1000000 := by omega
          have hvb : k + v'.size ≤ s.size := by omega
          have hv1 : 1 ≤ v'.size := by omega
          have HC2 : ∀ L', withLine e L ⟨a, v', nn⟩ = L' → Hid (cutE (((bl s).drop (k + v'.size)).drop (passL false false ((bl s).drop (k + v'.size))).1) (passL false false ((bl s).drop (k + v'.size))).2 L' = R) := by
            intro L' e'
            have h := HC.out
            rw [cutE_on hr (by rw [hm, hv]; exact ht), hm, e'] at h
            unfold Hid
            rw [hvs]
            simp only [List.drop_drop] at h ⊢
            exact h
          have cP2 := fun W => pass_any s (k + v'.size) W (by omega) hvb _ _ (Lib.hid (passAt_fst (bl s) (k + v'.size)))
          have hple := passL_le ((bl s).drop (k + v'.size)) false false
          rw [List.length_drop, bl_len] at hple
          generalize hP1 : (passL false false ((bl s).drop (k + v'.size))).1 = P1 at HC2 cP2 hple
          generalize hE1 : (passL false false ((bl s).drop (k + v'.size))).2 = E1 at HC2 cP2
          simp only [Int.natCast_add, List.drop_drop] at cP2 HC2
          clear ht hv hm ex hr HC HE HI0 cP hvs hP1 hE1 hm2
          cases e with
          | false =>
            have HCN := HC2 (L ++ [⟨a, v', nn⟩]) (by unfold withLine; rw [if_neg (by simp)])
            clear HC2
            go_wp2_with (first | (go_at_call 35; refine (cF _).mono ?_; rintro e w1 ⟨rfl, rfl⟩) | (go_at_call 34; refine (cT _).mono ?_; rintro e w2 ⟨rfl, hb2⟩; have HO2 := Lib.hid ((HO.out.below hb2 (Nat.le_refl _)).alloc (.cells #[.int .i64 a, .string v', .int .i64 nn] 77)); have HB2 := Lib.hid ((HB.out.trans (hb2.mono hsz0)).alloc (Nat.le_trans hsz0 hb2.size) (.cells #[.int .i64 a, .string v', .int .i64 nn] 77)); have hsz2 := hb2.size; have HA2 := Lib.hid (ltK HO.out hb2.size); have HX2 := Lib.hid (box_new w2 ⟨a, v', nn⟩)) | (go_at_call 33; refine (cP2 _).mono ?_; rintro e w6 ⟨rfl, rfl⟩) | (at_builtin; refine wpList_appendTok rfl (.tmp 43) (.tmp 45) rfl w.heap.size A c n (n + 1) (w2.heap.size + 1) ⟨a, v', nn⟩ L (Array.size_push _) rfl rfl HO2.out HL.out rfl hl1 HB2.out.size ?_; intro A4 c4 w4 HO4 HG4; have HX4 := Lib.hid (boxK (t := ⟨a, v', nn⟩) HX2.out HG4 HO2.out (fun e => absurd (HA2.out _ e) (Nat.lt_irrefl _))); obtain ⟨_, hx4, _⟩ := boxCells (t := ⟨a, v', nn⟩) HX4.out; have hsz4 := HG4.size))
            refine ⟨⟨L ++ [⟨a, v', nn⟩], A4, n + 1, c4, k + v'.size + P1, E1, rfl, congrArg (Value.int .i64) (by omega), rfl, by omega, Lib.hid (by rw [List.length_append, HL.out]; rfl), Lib.hid HO4, Lib.hid (below_appT HB2.out HG4 HO2.out HB2.out.size), HCN, by omega⟩, by simp [intOf]; omega⟩
          | true =>
            by_cases hn0 : n = 0
            · subst hn0
              have HCN := HC2 (L ++ [⟨a, v', nn⟩]) (by unfold withLine; rw [if_neg (fun h => h.2 (List.eq_nil_of_length_eq_zero HL.out))])
              clear HC2
              go_wp2_with (first | (go_at_call 35; refine (cF _).mono ?_; rintro e w1 ⟨rfl, rfl⟩) | (go_at_call 34; refine (cT _).mono ?_; rintro e w2 ⟨rfl, hb2⟩; have HO2 := Lib.hid ((HO.out.below hb2 (Nat.le_refl _)).alloc (.cells #[.int .i64 a, .string v', .int .i64 nn] 77)); have HB2 := Lib.hid ((HB.out.trans (hb2.mono hsz0)).alloc (Nat.le_trans hsz0 hb2.size) (.cells #[.int .i64 a, .string v', .int .i64 nn] 77)); have hsz2 := hb2.size; have HA2 := Lib.hid (ltK HO.out hb2.size); have HX2 := Lib.hid (box_new w2 ⟨a, v', nn⟩)) | (go_at_call 33; refine (cP2 _).mono ?_; rintro e w6 ⟨rfl, rfl⟩) | (at_builtin; refine wpList_appendTok rfl (.tmp 43) (.tmp 45) rfl w.heap.size A c 0 (0 + 1) (w2.heap.size + 1) ⟨a, v', nn⟩ L (Array.size_push _) rfl rfl HO2.out HL.out rfl hl1 HB2.out.size ?_; intro A4 c4 w4 HO4 HG4; have HX4 := Lib.hid (boxK (t := ⟨a, v', nn⟩) HX2.out HG4 HO2.out (fun e => absurd (HA2.out _ e) (Nat.lt_irrefl _))); obtain ⟨_, hx4, _⟩ := boxCells (t := ⟨a, v', nn⟩) HX4.out; have hsz4 := HG4.size))
              refine ⟨⟨L ++ [⟨a, v', nn⟩], A4, 0 + 1, c4, k + v'.size + P1, E1, rfl, congrArg (Value.int .i64) (by omega), rfl, by omega, Lib.hid (by rw [List.length_append, HL.out]; rfl), Lib.hid HO4, Lib.hid (below_appT HB2.out HG4 HO2.out HB2.out.size), HCN, by omega⟩, by simp [intOf]; omega⟩
            · have HCN := HC2 (L ++ [lineTk] ++ [⟨a, v', nn⟩]) (by unfold withLine; rw [if_pos ⟨rfl, fun h => hn0 (by rw [← HL.out, h]; rfl)⟩])
              have hnp : 0 < n := by omega
              have hl2 : n + 1 + 1 ≤ 1000000 := by omega
              clear HC2 hn0
              go_wp2_with (first | (go_at_call 35; refine (cF _).mono ?_; rintro e w1 ⟨rfl, rfl⟩) | (go_at_call 34; refine (cT _).mono ?_; rintro e w2 ⟨rfl, hb2⟩; have HO2 := Lib.hid ((HO.out.below hb2 (Nat.le_refl _)).alloc (.cells #[.int .i64 a, .string v', .int .i64 nn] 77)); have HB2 := Lib.hid ((HB.out.trans (hb2.mono hsz0)).alloc (Nat.le_trans hsz0 hb2.size) (.cells #[.int .i64 a, .string v', .int .i64 nn] 77)); have hsz2 := hb2.size; have HA2 := Lib.hid (ltK HO.out hb2.size); have HX2 := Lib.hid (box_new w2 ⟨a, v', nn⟩)) | (go_at_call 33; refine (cP2 _).mono ?_; rintro e w6 ⟨rfl, rfl⟩) | (at_builtin; refine wpList_appendTok rfl (.tmp 39) (.tmp 41) rfl w.heap.size A c n (n + 1) (w2.heap.size + 1) lineTk L (Array.size_push _) rfl rfl HO2.out HL.out rfl hl1 HB2.out.size ?_; intro A4 c4 w4 HO4 HG4; have HX4 := Lib.hid (boxK (t := ⟨a, v', nn⟩) HX2.out HG4 HO2.out (fun e => absurd (HA2.out _ e) (Nat.lt_irrefl _))); obtain ⟨hx0, hx1, hx2⟩ := boxCells (t := ⟨a, v', nn⟩) HX4.out; have hsz4 := HG4.size; have HL4 : Hid ((L ++ [lineTk]).length = n + 1) := Lib.hid (by rw [List.length_append, HL.out]; rfl); have hB4 : w.heap.size ≤ w4.heap.size := Nat.le_trans HB2.out.size HG4.size) | (at_builtin; refine wpList_appendTok rfl (.tmp 43) (.tmp 45) rfl w.heap.size A4 c4 (n + 1) (n + 1 + 1) w4.heap.size ⟨a, v', nn⟩ (L ++ [lineTk]) rfl rfl rfl HO4 HL4.out rfl hl2 hB4 ?_; intro A5 c5 w5 HO5 HG5; have HX5 := Lib.hid (boxK (t := ⟨a, v', nn⟩) HX4.out HG5 HO4 (notBox (t := ⟨a, v', nn⟩) HX4.out HO4 (by rw [HL4.out]; omega))); obtain ⟨_, hx5, _⟩ := boxCells (t := ⟨a, v', nn⟩) HX5.out))
              refine ⟨⟨L ++ [lineTk] ++ [⟨a, v', nn⟩], A5, n + 1 + 1, c5, k + v'.size + P1, E1, rfl, congrArg (Value.int .i64) (by omega), rfl, by omega, Lib.hid (by rw [List.length_append, HL4.out]; rfl), Lib.hid HO5, Lib.hid (below_appT (below_appT HB2.out HG4 HO2.out HB2.out.size) HG5 HO4 hB4), HCN, by omega⟩, by simp [intOf]; omega⟩
      · obtain rfl : s.size = k := by omega
        have hR : R = .ok L := by
          rw [← HC.out, List.drop_of_length_le (by rw [bl_len]; omega), cutE_nil]
        subst hR
        clear hlt HC HI0 cP
        by_cases h4 : 4096 < n
        · have HQ : Hid (cutF (bl s) = ([], 0, 2)) := by
            unfold Hid
            rw [HE.out]
            unfold cutH
            simp only
            rw [if_pos (by rw [HL.out]; exact h4)]
          go_wp2
          rw [HQ.out]
          exact bodyPost_ret (v := .tuple #[.slice none 0 0, .int .i64 0, .int .i64 2]) (by simp [results, Tryz.results25, go_sem]) rfl ⟨none, 0, 0, rfl, rfl, OwnT.nil_ _ _, HB.out⟩
        · have HQ : Hid (cutF (bl s) = (L, (s.size : Int), 0)) := by
            unfold Hid
            rw [HE.out]
            unfold cutH
            simp only
            rw [if_neg (by rw [HL.out]; exact h4)]
          go_wp2
          rw [HQ.out]
          exact bodyPost_ret (v := .tuple #[.slice A n c, .int .i64 s.size, .int .i64 0]) (by simp [results, Tryz.results25, go_sem]) rfl ⟨A, n, c, rfl, HL.out, HO.out, HB.out⟩
end Go.Proofs.YtgkngimeokhhgaaGreatDoor
/- The document's Same: whether two lists of tokens are. -/
namespace Go.Proofs.YtgkngimeokhhgaaGreatDoor
open Go.RowKit

def eqTk (a b : Tk) : Bool := a.k == b.k && (a.s.toList == b.s.toList && a.n == b.n)
theorem eqTk_iff (a b : Tk) : eqTk a b = true ↔ a = b := by
  obtain ⟨k, s, n⟩ := a
  obtain ⟨k', s', n'⟩ := b
  unfold eqTk
  simp only [Bool.and_eq_true, beq_iff_eq, Tk.mk.injEq]
  have h : s.toList = s'.toList ↔ s = s' :=
    ⟨fun h => by rw [← Lib.mk_data s, ← Lib.mk_data s', ← Lib.toList_data, ← Lib.toList_data, h], fun h => by rw [h]⟩
  rw [h]
set_option maxRecDepth 100000 in
theorem tk_eqIn (a b : Tk) (w : World) : (Op.equalIn 10000 77 (.agg #[.int .i64 a.k, .string a.s, .int .i64 a.n]) (.agg #[.int .i64 b.k, .string b.s, .int .i64 b.n])).run Tryz.prog w = .ok (eqTk a b) w := by
  have hp0 : ∀ a : Tk, (part 3 #[Value.int .i64 a.k, .string a.s, .int .i64 a.n] 0).run Tryz.prog w = .ok (.int .i64 a.k) w := fun a => by kernel_rfl
  have hp1 : ∀ a : Tk, (part 9 #[Value.int .i64 a.k, .string a.s, .int .i64 a.n] 1).run Tryz.prog w = .ok (.string a.s) w := fun a => by kernel_rfl
  have hp2 : ∀ a : Tk, (part 2 #[Value.int .i64 a.k, .string a.s, .int .i64 a.n] 2).run Tryz.prog w = .ok (.int .i64 a.n) w := fun a => by kernel_rfl
  have hf : (Tryz.prog.fieldsOf 77).toList.map (fun f => (f.name, f.type, f.offset)) = [("Kind", 3, 0), ("S", 9, 1), ("N", 2, 2)] := by kernel_rfl
  rw [run_equalIn_struct w 9999 77 _ _ (by kernel_rfl) (by kernel_rfl)]
  obtain ⟨L, hL⟩ : ∃ L, (Tryz.prog.fieldsOf 77).toList = L := ⟨_, rfl⟩
  rw [hL] at hf ⊢
  match L, hf with
  | [f0, f1, f2], hf =>
    simp only [List.map_cons, List.map_nil, List.cons.injEq, Prod.mk.injEq, and_true] at hf
    obtain ⟨⟨n0, t0, o0⟩, ⟨n1, t1, o1⟩, n2, t2, o2⟩ := hf
    have h3 : ∀ a b : Int, (Op.equalIn 9999 3 (.int .i64 a) (.int .i64 b)).run Tryz.prog w = .ok (a == b) w := fun a b => run_equalIn_int w 9998 3 .i64 .i64 a b Tryz.underlying3
    have h4 : ∀ a b : Int, (Op.equalIn 9999 2 (.int .i64 a) (.int .i64 b)).run Tryz.prog w = .ok (a == b) w := fun a b => run_equalIn_int w 9998 2 .i64 .i64 a b Tryz.underlying2
    have h5 : ∀ a b : ByteArray, (Op.equalIn 9999 9 (.string a) (.string b)).run Tryz.prog w = .ok (a.toList == b.toList) w := fun a b => run_equalIn_string w 9998 9 a b Tryz.underlying9
    unfold eqTk
    cases e1 : (a.k == b.k) <;> cases e2 : (a.s.toList == b.s.toList) <;> cases e3 : (a.n == b.n) <;> simp [Op.eqFields, n0, n1, n2, t0, t1, t2, o0, o1, o2, hp0, hp1, hp2, h3, h4, h5, e1, e2, e3]
theorem tk_eql (a b : Tk) (w : World) : (binOp .eql 77 (.agg #[.int .i64 a.k, .string a.s, .int .i64 a.n]) (.agg #[.int .i64 b.k, .string b.s, .int .i64 b.n])).run Tryz.prog w = .ok (.bool (eqTk a b)) w := by
  rw [run_eql_struct, tk_eqIn]
  rfl
end Go.Proofs.YtgkngimeokhhgaaGreatDoor
/- What the laws over texts share. -/
namespace Go.Proofs.YtgkngimeokhhgaaGreatDoor
open Go.RowKit

theorem bl_take (s : ByteArray) (a : Nat) : bl (s.extract 0 a) = (bl s).take a := by
  rw [extract_ofL, bl_ofL, List.drop_zero, Nat.sub_zero]
end Go.Proofs.YtgkngimeokhhgaaGreatDoor
/- lexer.Check; whether each token of a list may be. -/
namespace Go.Proofs.YtgkngimeokhhgaaGreatDoor
open Go.RowKit

/-- a token may be: it is the one whose text it has -/
def mayB (t : Tk) : Bool := match tokF t.s with | some u => eqTk t u | none => false
theorem mayB_iff (t : Tk) : mayB t = true ↔ mayT t := by
  unfold mayB mayT
  cases tokF t.s with
  | none => simp
  | some u =>
    simp only [eqTk_iff, Option.some.injEq]
    exact ⟨fun h => h.symm, fun h => h.symm⟩
end Go.Proofs.YtgkngimeokhhgaaGreatDoor
