/- The document's Same: whether two are the same code, part by part. -/
import Derived.Test.YtmnadieblhdcpaaDoorG6
import Derived.Laws.StructEq
import Derived.BigQuiet
import Derived.Test.YtmnadieblhdcpaaDoorG7
import Derived.Test.YtmnadieblhdcpaaDoorG14
import Derived.Test.YtmnadieblhdcpaaDoorG13
import Derived.Test.YtmnadieblhdcpaaDoorG12
import Derived.IntWalk
import Derived.Deep.CutBlock
import Derived.Deep.DeepCutAuto
import Derived.Deep.LoopGhost
import Derived.Test.YtmnadieblhdcpaaDoorG10
import Derived.Lib.LaidTab
import Derived.OpenShut
import Derived.LaidMore
namespace Go.Proofs.YtmnadieblhdcpaaDoor
open Go.RowKit

def eqJi (a b : Ji) : Bool := a.op == b.op && (a.a == b.a && (a.b == b.b && (a.c == b.c && a.n == b.n)))
theorem eqJi_iff (a b : Ji) : eqJi a b = true ↔ a = b := by
  obtain ⟨o, x, y, z, n⟩ := a
  obtain ⟨o', x', y', z', n'⟩ := b
  unfold eqJi
  simp only [Bool.and_eq_true, beq_iff_eq, Ji.mk.injEq]
set_option maxRecDepth 100000 in
theorem ji_eqIn (a b : Ji) (w : World) : (Op.equalIn 10000 40 a.val b.val).run Tryd.prog w = .ok (eqJi a b) w := by
  have hp0 : ∀ a : Ji, (part 3 #[Value.int .i64 a.op, .int .i64 a.a, .int .i64 a.b, .int .i64 a.c, .int .i64 a.n] 0).run Tryd.prog w = .ok (.int .i64 a.op) w := fun a => by kernel_rfl
  have hp1 : ∀ a : Ji, (part 3 #[Value.int .i64 a.op, .int .i64 a.a, .int .i64 a.b, .int .i64 a.c, .int .i64 a.n] 1).run Tryd.prog w = .ok (.int .i64 a.a) w := fun a => by kernel_rfl
  have hp2 : ∀ a : Ji, (part 3 #[Value.int .i64 a.op, .int .i64 a.a, .int .i64 a.b, .int .i64 a.c, .int .i64 a.n] 2).run Tryd.prog w = .ok (.int .i64 a.b) w := fun a => by kernel_rfl
  have hp3 : ∀ a : Ji, (part 3 #[Value.int .i64 a.op, .int .i64 a.a, .int .i64 a.b, .int .i64 a.c, .int .i64 a.n] 3).run Tryd.prog w = .ok (.int .i64 a.c) w := fun a => by kernel_rfl
  have hp4 : ∀ a : Ji, (part 2 #[Value.int .i64 a.op, .int .i64 a.a, .int .i64 a.b, .int .i64 a.c, .int .i64 a.n] 4).run Tryd.prog w = .ok (.int .i64 a.n) w := fun a => by kernel_rfl
  have hf : (Tryd.prog.fieldsOf 40).toList.map (fun f => (f.name, f.type, f.offset)) = [("Op", 3, 0), ("A", 3, 1), ("B", 3, 2), ("C", 3, 3), ("N", 2, 4)] := by kernel_rfl
  rw [run_equalIn_struct w 9999 40 _ _ (by kernel_rfl) (by kernel_rfl)]
  obtain ⟨L, hL⟩ : ∃ L, (Tryd.prog.fieldsOf 40).toList = L := ⟨_, rfl⟩
  rw [hL] at hf ⊢
  match L, hf with
  | [f0, f1, f2, f3, f4], hf =>
    simp only [List.map_cons, List.map_nil, List.cons.injEq, Prod.mk.injEq, and_true] at hf
    obtain ⟨⟨n0, t0, o0⟩, ⟨n1, t1, o1⟩, ⟨n2, t2, o2⟩, ⟨n3, t3, o3⟩, n4, t4, o4⟩ := hf
    have h3 : ∀ a b : Int, (Op.equalIn 9999 3 (.int .i64 a) (.int .i64 b)).run Tryd.prog w = .ok (a == b) w := fun a b => run_equalIn_int w 9998 3 .i64 .i64 a b Tryd.underlying3
    have h4 : ∀ a b : Int, (Op.equalIn 9999 2 (.int .i64 a) (.int .i64 b)).run Tryd.prog w = .ok (a == b) w := fun a b => run_equalIn_int w 9998 2 .i64 .i64 a b Tryd.underlying2
    unfold eqJi
    cases e1 : (a.op == b.op) <;> cases e2 : (a.a == b.a) <;> cases e3 : (a.b == b.b) <;> cases e4 : (a.c == b.c) <;> cases e5 : (a.n == b.n) <;> simp [Op.eqFields, n0, n1, n2, n3, n4, t0, t1, t2, t3, t4, o0, o1, o2, o3, o4, hp0, hp1, hp2, hp3, hp4, h3, h4, e1, e2, e3, e4, e5]
theorem ji_neq (a b : Ji) (w : World) : (binOp .neq 40 a.val b.val).run Tryd.prog w = .ok (.bool !(eqJi a b)) w := by
  rw [run_neq_struct, ji_eqIn]
  rfl
def sameB (a b : Cd) : Bool := decide (a.R = b.R) && (decide (a.A = b.A) && (decide (a.I = b.I) && decide (a.l = b.l)))
theorem sameB_iff (a b : Cd) : sameB a b = true ↔ a = b := by
  obtain ⟨r, x, i, l⟩ := a
  obtain ⟨r', x', i', l'⟩ := b
  unfold sameB
  simp only [Bool.and_eq_true, decide_eq_true_eq, Cd.mk.injEq]
theorem sameB_refl (a : Cd) : sameB a a = true := (sameB_iff a a).2 rfl
theorem sameB_no {a b : Cd} (h : a ≠ b) : sameB a b = false := by
  cases e : sameB a b with
  | false => rfl
  | true => exact absurd ((sameB_iff a b).1 e) h
def SameP (a b : Cq) (w : World) (e : Ending) (w' : World) : Prop := e = .returned (.bool (sameB a.cd b.cd)) ∧ Below w.heap.size w w'
set_option maxRecDepth 100000 in
set_option maxHeartbeats 4000000 in
theorem refSame14_any (a b : Cq) (w : World) (ha : a.In w) (hb : b.In w) : Calls Tryd.prog 25 #[a.val, b.val] w (SameP a b w) := by
  obtain ⟨R, A, I, P, n, c, l⟩ := a
  obtain ⟨R2, A2, I2, P2, n2, c2, l2⟩ := b
  obtain ⟨W0, hW0⟩ : ∃ W, (w.alloc (Cq.obj ⟨R, A, I, P, n, c, l⟩)).alloc (Cq.obj ⟨R2, A2, I2, P2, n2, c2, l2⟩) = W := ⟨_, rfl⟩
  have HB0 : Hid (Below w.heap.size w W0) := by rw [← hW0]; exact ((Below.refl w.heap.size w).alloc (Nat.le_refl _) _).alloc (by simp) _
  have HX0 : Hid (W0.heap[w.heap.size]? = some (Cq.obj ⟨R, A, I, P, n, c, l⟩)) := by rw [← hW0]; exact pastJ _ (heap_alloc_new w _)
  have HY0 : Hid (W0.heap[w.heap.size + 1]? = some (Cq.obj ⟨R2, A2, I2, P2, n2, c2, l2⟩)) := by
    have h := heap_alloc_new (w.alloc (Cq.obj ⟨R, A, I, P, n, c, l⟩)) (Cq.obj ⟨R2, A2, I2, P2, n2, c2, l2⟩)
    rw [World.size_alloc, hW0] at h
    exact h
  have HA := Lib.hid ha
  have HB := Lib.hid hb
  have hn1 : n ≤ 9223372036854775807 := ha.n1
  have hn2 : n2 ≤ 9223372036854775807 := hb.n1
  have HLA : Hid (l.length = n) := ha.len
  have HLB : Hid (l2.length = n2) := hb.len
  have hmx : Tryd.prog.follows .mixedOrders = true := by kernel_rfl
  obtain ⟨k0, k1, k2, k3, _⟩ := lvCells HX0.out
  obtain ⟨m0, m1, m2, m3, _⟩ := lvCells HY0.out
  clear ha hb
  by_cases e0 : R = R2
  case neg =>
    have f0 : (R != R2) = true := by simpa using e0
    have HS : Hid (sameB (Cq.cd ⟨R, A, I, P, n, c, l⟩) (Cq.cd ⟨R2, A2, I2, P2, n2, c2, l2⟩) = false) := sameB_no fun h => e0 (congrArg Cd.R h)
    clear e0
    go_enter Tryd.func25, Tryd.ntmps25
    go_wp2_with fail
    try rw [hW0]
    go_ret
    exact ⟨by rw [HS.out]; rfl, HB0.out⟩
  have f0 : (R != R2) = false := by simpa using e0
  by_cases e1 : A = A2
  case neg =>
    have f1 : (A != A2) = true := by simpa using e1
    have HS : Hid (sameB (Cq.cd ⟨R, A, I, P, n, c, l⟩) (Cq.cd ⟨R2, A2, I2, P2, n2, c2, l2⟩) = false) := sameB_no fun h => e1 (congrArg Cd.A h)
    clear e0 e1
    go_enter Tryd.func25, Tryd.ntmps25
    go_wp2_with fail
    try rw [hW0]
    go_ret
    exact ⟨by rw [HS.out]; rfl, HB0.out⟩
  have f1 : (A != A2) = false := by simpa using e1
  by_cases e2 : I = I2
  case neg =>
    have f2 : (I != I2) = true := by simpa using e2
    have HS : Hid (sameB (Cq.cd ⟨R, A, I, P, n, c, l⟩) (Cq.cd ⟨R2, A2, I2, P2, n2, c2, l2⟩) = false) := sameB_no fun h => e2 (congrArg Cd.I h)
    clear e0 e1 e2
    go_enter Tryd.func25, Tryd.ntmps25
    go_wp2_with fail
    try rw [hW0]
    go_ret
    exact ⟨by rw [HS.out]; rfl, HB0.out⟩
  have f2 : (I != I2) = false := by simpa using e2
  by_cases e3 : n = n2
  case neg =>
    have f3 : ((n : Int) != (n2 : Int)) = true := by simp; omega
    have HS : Hid (sameB (Cq.cd ⟨R, A, I, P, n, c, l⟩) (Cq.cd ⟨R2, A2, I2, P2, n2, c2, l2⟩) = false) := sameB_no fun h => e3 (by
      have := congrArg (fun c => c.l.length) h
      rw [← HLA.out, ← HLB.out]; exact this)
    clear e0 e1 e2 e3
    go_enter Tryd.func25, Tryd.ntmps25
    go_wp2_with fail
    try rw [hW0]
    go_ret
    exact ⟨by rw [HS.out]; rfl, HB0.out⟩
  have f3 : ((n : Int) != (n2 : Int)) = false := by simp [e3]
  have HE : Hid (R = R2 ∧ A = A2 ∧ I = I2 ∧ n = n2) := ⟨e0, e1, e2, e3⟩
  clear e0 e1 e2 e3
  go_enter Tryd.func25, Tryd.ntmps25
  go_upto_region 3 with fail
  try rw [hW0]
  clear hW0 f0 f1 f2 f3
  go_wp2_with fail
  clear k0 k1 k2 k3 m0 m1 m2 m3
  go_loopw [37] (fun i wr => ∃ k : Nat, k ≤ n ∧ i = .int .i64 k ∧ Hid (∀ j < k, l[j]? = l2[j]?) ∧ Hid (Below W0.heap.size W0 wr)) (fun i _ => n - (intOf i).toNat)
  case atStart => exact ⟨0, Nat.zero_le _, rfl, fun j hj => absurd hj (by omega), Below.refl _ _⟩
  case round =>
    obtain ⟨k, hk, rfl, HJ, HBr⟩ := hrel
    have HBW := Lib.hid (HB0.out.trans (HBr.out.mono HB0.out.size))
    by_cases hlt : k < n
    · have hlt2 : k < n2 := by have := HE.out.2.2.2; omega
      obtain ⟨b, off, y, hA, hb, HY, ⟨y0, y1, y2, y3, y4⟩, hyo⟩ := ((HA.out.on HBW.out).ins).at_ hlt
      obtain ⟨b2, off2, z, hA2, hb2, HZ, ⟨z0, z1, z2, z3, z4⟩, hzo⟩ := ((HB.out.on HBW.out).ins).at_ hlt2
      subst hA
      subst hA2
      obtain ⟨k0, k1, k2, k3, _⟩ := lvCells (keep_b HBr.out HX0.out)
      obtain ⟨m0, m1, m2, m3, _⟩ := lvCells (keep_b HBr.out HY0.out)
      have hcn := fun W => ji_neq y z W
      have hgd := fun (o1 o2 : Operand) (W : World) => run_eqGuard_agg (P := Tryd.prog) W .neq 40 o1 o2 #[.int .i64 y.op, .int .i64 y.a, .int .i64 y.b, .int .i64 y.c, .int .i64 y.n] #[.int .i64 z.op, .int .i64 z.a, .int .i64 z.b, .int .i64 z.c, .int .i64 z.n] (by kernel_rfl)
      have hk0 : (0 : Int) ≤ k := by omega
      have hk1 : (k : Int) < (n : Int) := by omega
      have hk2 : (k : Int) < (n2 : Int) := by omega
      clear hb hb2 hyo hzo k0 k1 k2 m0 m1 m2
      by_cases e : y = z
      · have he : eqJi y z = true := (eqJi_iff y z).2 e
        rw [he] at hcn
        have HEQ := Lib.hid e
        clear e he
        go_wp2_with fail
        go_quiet (fail)
        go_wp2_with fail
        go_roundw
        case rel => exact ⟨k + 1, by omega, by go_num, fun j hj => by
          by_cases ej : j = k
          · subst ej; rw [HY.out, HZ.out, HEQ.out]
          · exact HJ.out j (by omega), belowD HBr.out _⟩
        case measure => simp [intOf]; omega
      · have he : eqJi y z = false := by
          cases q : eqJi y z
          · rfl
          · exact absurd ((eqJi_iff y z).1 q) e
        rw [he] at hcn
        have HS : Hid (sameB (Cq.cd ⟨R, A, I, some ⟨b, off, none⟩, n, c, l⟩) (Cq.cd ⟨R2, A2, I2, some ⟨b2, off2, none⟩, n2, c2, l2⟩) = false) := sameB_no fun h => e (by
          have h1 : l = l2 := congrArg Cd.l h
          have h2 := HY.out
          rw [h1, HZ.out] at h2
          injection h2 with h2
          exact h2.symm)
        clear e he
        go_wp2_with fail
        go_quiet (fail)
        go_wp2_with fail
        go_ret
        exact ⟨by rw [HS.out]; rfl, belowD HBW.out _⟩
    · have HS : Hid (sameB (Cq.cd ⟨R, A, I, P, n, c, l⟩) (Cq.cd ⟨R2, A2, I2, P2, n2, c2, l2⟩) = true) := (sameB_iff _ _).2 (by
        obtain ⟨e0, e1, e2, e3⟩ := HE.out
        have e4 : l = l2 := List.ext_getElem? fun j => by
          by_cases hj : j < n
          · exact HJ.out j (by omega)
          · rw [List.getElem?_eq_none (by have := HLA.out; omega), List.getElem?_eq_none (by have := HLB.out; omega)]
        show (⟨R, A, I, l⟩ : Cd) = ⟨R2, A2, I2, l2⟩
        rw [e0, e1, e2, e4])
      go_wp2_with fail
      go_ret
      exact ⟨by rw [HS.out]; rfl, HBW.out⟩
end Go.Proofs.YtmnadieblhdcpaaDoor
/- What code's text is read as, as a call's end. -/
namespace Go.Proofs.YtmnadieblhdcpaaDoor
open Go.RowKit

def ParseP (s : ByteArray) (w : World) (e : Ending) (w' : World) : Prop :=
  ∃ A' c', e = .returned (.tuple #[.agg #[.int .i64 (parseF (bl s)).1.R, .int .i64 (parseF (bl s)).1.A, .int .i64 (parseF (bl s)).1.I, .slice A' (parseF (bl s)).1.l.length c'], .int .i64 (parseF (bl s)).2.1, .int .i64 (parseF (bl s)).2.2]) ∧ OwnJ w' w.heap.size A' c' (parseF (bl s)).1.l ∧ Below w.heap.size w w'
/-- what Text tells -/
def textF (c : Cd) : ByteArray × Int := if c.may then joinF (progT c) else (⟨#[]⟩, 1)
def TextP (q : Cq) (w : World) (e : Ending) (w' : World) : Prop := e = .returned (.tuple #[.string (textF q.cd).1, .int .i64 (textF q.cd).2]) ∧ Below w.heap.size w w'
end Go.Proofs.YtmnadieblhdcpaaDoor
/- The document's Join: it gives what lexer.Join does. -/
namespace Go.Proofs.YtmnadieblhdcpaaDoor
open Go.RowKit

/-- no line is empty, one token after the other (e: the line is empty so far) -/
def fB : Bool → List Tk → Bool
  | e, [] => !e
  | e, t :: l => if t.k = 4 then !e && fB true l else fB false l
theorem fB_full : ∀ (l cur : List Tk), fullL cur l ↔ fB (decide (cur = [])) l = true
  | [], cur => by
    unfold fullL fB
    simp [linesK]
  | t :: l, cur => by
    unfold fB
    by_cases h : t.k = 4
    · have ih := fB_full l []
      unfold fullL at ih ⊢
      rw [linesK_line h, linesK_all, if_pos h]
      simp only [List.nil_append, List.singleton_append, List.mem_cons, forall_eq_or_imp, Bool.and_eq_true]
      rw [ih]
      simp
    · have ih := fB_full l (cur ++ [t])
      unfold fullL at ih ⊢
      rw [linesK_on h, if_neg h, ih]
      simp
theorem joinF_fB {L : List Tk} (h0 : L ≠ []) (hm : L.all mayB = true) : joinF L = if fB true L = false then (⟨#[]⟩, 1) else if 4096 < L.length then (⟨#[]⟩, 2) else (ofL (jt false L), 0) := by
  have h1 := fB_full L []
  unfold joinF
  rw [if_neg (by rw [hm]; decide), joinT_jt h0]
  by_cases hf : fB true L = false
  · rw [if_pos hf, if_pos]
    apply Classical.byContradiction
    intro hx
    have : fullL [] L := fun R hR e => hx ⟨R, by unfold linesL; rw [if_neg h0]; exact hR, e⟩
    rw [h1] at this
    simp [hf] at this
  · rw [if_neg hf, if_neg]
    rintro ⟨R, hR, e⟩
    have h2 : fullL [] L := by rw [h1]; simpa using hf
    unfold linesL at hR
    rw [if_neg h0] at hR
    exact h2 R hR e
theorem joinF_bad {L : List Tk} {t : Tk} (ht : t ∈ L) (hm : mayB t = false) : joinF L = (⟨#[]⟩, 1) := by
  unfold joinF
  rw [if_pos]
  rw [List.all_eq_false]
  exact ⟨t, ht, by rw [hm]; decide⟩
theorem fB_line {e : Bool} {t : Tk} {l : List Tk} (h : t.k = 4) : fB e (t :: l) = (!e && fB true l) := by rw [fB, if_pos h]
theorem fB_on {e : Bool} {t : Tk} {l : List Tk} (h : t.k ≠ 4) : fB e (t :: l) = fB false l := by rw [fB, if_neg h]
theorem all_drop {L : List Tk} {k : Nat} {x : Tk} (hx : L[k]? = some x) (h : (L.take k).all mayB = true) (hm : mayB x = true) : (L.take (k + 1)).all mayB = true := by
  rw [List.take_add_one, hx, List.all_append, h]
  simp [hm]
theorem Toks.cell {w : World} {B n b off k : Nat} {L : List Tk} {x : Tk} (h : Toks w B (some ⟨b, off, none⟩) n L) (hx : L[k]? = some x) : w.cell? ⟨b, off + k * 3, none⟩ = some (.int .i64 x.k) := by
  have hk := (List.getElem?_eq_some_iff.1 hx).1
  rw [h.1] at hk
  obtain ⟨b', off', e, _, hc⟩ := h.2.2 (by omega)
  injection e with e; injection e with e1 e2
  subst e1 e2
  exact (hc k x hx).1
theorem totT_le : ∀ (L : List Tk), (∀ t ∈ L, mayT t) → totT L ≤ 18 * L.length
  | [], _ => by simp [totT]
  | t :: l, h => by
    have h1 := totT_le l fun x hx => h x (by simp [hx])
    have h2 := tokF_len (h t (by simp))
    unfold totT at h1 ⊢
    simp only [List.map_cons, List.sum_cons, List.length_cons]
    omega
theorem bl_cat (s t : ByteArray) : bl (s ++ t) = bl s ++ bl t := bl_append s t
theorem jt_line {b : Bool} {t : Tk} {l : List Tk} (h : t.k = 4) : jt b (t :: l) = 10 :: jt false l := by rw [jt, if_pos h]
theorem jt_on {b : Bool} {t : Tk} {l : List Tk} (h : t.k ≠ 4) : jt b (t :: l) = (if b then 32 :: bl t.s else bl t.s) ++ jt true l := by rw [jt, if_neg h]
end Go.Proofs.YtmnadieblhdcpaaDoor
/- The document's Text of code. -/
namespace Go.Proofs.YtmnadieblhdcpaaDoor
open Go.RowKit

theorem argT_ok {c : UInt8} {v N : Int} (h0 : 0 ≤ v) (h1 : v ≤ 9223372036854775807) (hN0 : -9223372036854775807 ≤ N) (hN1 : N ≤ 9223372036854775807) : ∀ t ∈ argT c v N, t.ok := by
  have hreg : ∀ d : UInt8, (regT d v).ok := fun d => by
    rw [reg_text d h0]
    have h2 := itoa_size h0 h1
    refine ⟨by show -9223372036854775808 ≤ (1 : Int); decide, by show (1 : Int) ≤ 9223372036854775807; decide, by show -9223372036854775808 ≤ (0 : Int); decide, by show (0 : Int) ≤ 9223372036854775807; decide, ?_⟩
    show ((⟨#[d]⟩ : ByteArray) ++ ofL (Lib.itoa v)).size ≤ maxLen
    rw [ByteArray.size_append]
    have h3 : (⟨#[d]⟩ : ByteArray).size = 1 := rfl
    unfold maxLen
    omega
  intro t ht
  unfold argT at ht
  split at ht
  · rw [List.mem_singleton.1 ht]; exact hreg _
  · split at ht
    · rw [List.mem_singleton.1 ht]; exact hreg _
    · split at ht
      · exact numT_ok (by omega) h1 t ht
      · split at ht
        · exact numT_ok hN0 hN1 t ht
        · cases ht
theorem argsT_ok {N : Int} (hN0 : -9223372036854775807 ≤ N) (hN1 : N ≤ 9223372036854775807) : ∀ (ks : List UInt8) (vs : List Int), (∀ v ∈ vs, 0 ≤ v ∧ v ≤ 9223372036854775807) → ∀ t ∈ argsT ks vs N, t.ok
  | [], _, _, t, ht => by simp [argsT] at ht
  | _ :: _, [], _, t, ht => by simp [argsT] at ht
  | k :: ks, v :: vs, h, t, ht => by
    unfold argsT at ht
    rcases List.mem_append.1 ht with ht | ht
    · exact argT_ok (h v (by simp)).1 (h v (by simp)).2 hN0 hN1 t ht
    · exact argsT_ok hN0 hN1 ks vs (fun u hu => h u (by simp [hu])) t ht
theorem wJ_five (op : Int) : (wJ op).length ≤ 5 := by
  have hall : ∀ l ∈ wordsJ, l.length ≤ 5 := by decide
  unfold wJ
  split
  · by_cases hl : op.toNat < wordsJ.length
    · rw [List.getD_eq_getElem?_getD, List.getElem?_eq_getElem hl]
      exact hall _ (List.getElem_mem hl)
    · rw [List.getD_eq_getElem?_getD, List.getElem?_eq_none (by omega)]
      exact Nat.zero_le _
  · exact Nat.zero_le _
theorem tokW_ok {l : List UInt8} (h : l.length ≤ 5) : (tokW l).ok := by
  refine ⟨by show -9223372036854775808 ≤ (1 : Int); decide, by show (1 : Int) ≤ 9223372036854775807; decide, by show -9223372036854775808 ≤ (0 : Int); decide, by show (0 : Int) ≤ 9223372036854775807; decide, ?_⟩
  show (ofL l).size ≤ maxLen
  rw [ofL_size]
  unfold maxLen
  omega
theorem may_f0 {R A L : Int} {x : Ji} (h : mayJ R A L x = true) : ∀ (i : Nat) (v : Int), x.f[i]? = some v → 0 ≤ v := by
  intro i v hv
  have hi : i < 3 := (List.getElem?_eq_some_iff.1 hv).1
  have := ((mayJ_parts h).2.1 i hi).1
  rw [List.getD_eq_getElem?_getD, hv] at this
  exact this
theorem may_n0 {R A L : Int} {x : Ji} (h : mayJ R A L x = true) : -9223372036854775807 ≤ x.n ∧ x.n ≤ 9223372036854775807 := by
  obtain ⟨_, _, m3, m4⟩ := mayJ_parts h
  by_cases hk : (110 : UInt8) ∈ kJ x.op
  · have := m3 hk; omega
  · rw [m4 hk]; omega
theorem lineT_ok {R A L : Int} {x : Ji} (h : mayJ R A L x = true) (hx : x.ok) : ∀ t ∈ lineT x, t.ok := by
  intro t ht
  unfold lineT at ht
  rcases List.mem_cons.1 ht with rfl | ht
  · exact tokW_ok (wJ_five _)
  · refine argsT_ok (may_n0 h).1 (may_n0 h).2 _ _ (fun v hv => ?_) t ht
    obtain ⟨i, hi, rfl⟩ := List.mem_iff_getElem.1 hv
    have h1 := List.getElem?_eq_getElem hi
    exact ⟨may_f0 h i _ h1, (Ji.f_fits hx i _ h1).2⟩
theorem lineTk_ok : lineTk.ok := ⟨by decide, by decide, by decide, by decide, by show 0 ≤ maxLen; unfold maxLen; omega⟩
theorem restT_snoc : ∀ (l : List Ji) (x : Ji), restT (l ++ [x]) = restT l ++ (lineTk :: lineT x)
  | [], x => by simp [restT]
  | y :: l, x => by
    rw [List.cons_append]
    unfold restT
    rw [restT_snoc l x]
    simp
theorem prog_step {R A I : Int} {l : List Ji} {k : Nat} {x : Ji} (hx : l[k]? = some x) : progT ⟨R, A, I, l.take (k + 1)⟩ = (progT ⟨R, A, I, l.take k⟩ ++ [lineTk]) ++ lineT x := by
  show headT R A I ++ restT (l.take (k + 1)) = ((headT R A I ++ restT (l.take k)) ++ [lineTk]) ++ lineT x
  rw [List.take_add_one, hx]
  show headT R A I ++ restT (l.take k ++ [x]) = _
  rw [restT_snoc]
  simp
theorem step_appendToks {ops : Array Oper} {o : Oper} {a : Act} {w : World} {K : Act → World → Prop} {Q : Exit → Act → World → Prop} {E : Prop}
    (hg : o.guard = none) (s x : Operand) (hop : o.op = Op.call { callee := Callee.builtin Builtin.append, args := #[s, x], argTypes := #[78, 78] })
    (base : Nat) (A A2 : Option Addr) (c m c2 B p r : Nat) (xs ys : List Tk) (hs : a.eval s = .slice A p c) (hx : a.eval x = .slice A2 m c2) (ho : OwnT w base A c xs) (hp : xs.length = p) (hr : p + m = r) (hi2 : Toks w B A2 m ys) (hl : r ≤ 1000000) (hb : base ≤ w.heap.size)
    (hK : ∀ A' c' w', OwnT w' base A' c' (xs ++ ys) → w.grownBy w' (Value.slice A p c).ownBlock → K (a.put o.dst (.slice A' r c')) w') :
    if Region.wanted o (yielded ops a.tmps) = true then Oper.wp Tryd.prog o a w K Q else E := by
  rw [if_pos (by simp [Region.wanted, hg])]
  exact wp_appendToks s x hop base A A2 c m c2 B p r xs ys hs hx ho hp hr hi2 hl hb hK
def hdJ (R A I : Int) (k : Nat) : List Tk := tokW codeW :: ([R, A, I].take k).flatMap numT
theorem hdJ_step {R A I v : Int} {k : Nat} (hv : [R, A, I][k]? = some v) : hdJ R A I (k + 1) = hdJ R A I k ++ numT v := by
  unfold hdJ
  rw [List.take_add_one, hv, List.flatMap_append]
  simp
theorem hdJ_all (R A I : Int) : hdJ R A I 3 = progT ⟨R, A, I, []⟩ := by
  unfold hdJ progT headT restT
  simp
theorem hdJ_len (R A I : Int) (k : Nat) : (hdJ R A I k).length ≤ 7 := by
  have h1 := numT_two R
  have h2 := numT_two A
  have h3 := numT_two I
  unfold hdJ
  match k with
  | 0 => simp
  | 1 => simp; omega
  | 2 => simp; omega
  | k + 3 => simp; omega
theorem prog_ok {R A I : Int} (hR : 0 ≤ R ∧ R ≤ 128) (hA : 0 ≤ A ∧ A ≤ 128) (hI : 0 ≤ I ∧ I ≤ 128) : ∀ l : List Ji, (∀ x ∈ l, ∀ t ∈ lineT x, t.ok) → ∀ t ∈ progT ⟨R, A, I, l⟩, t.ok := by
  intro l hl t ht
  have hrest : ∀ l : List Ji, (∀ x ∈ l, ∀ t ∈ lineT x, t.ok) → ∀ t ∈ restT l, t.ok := by
    intro l
    induction l with
    | nil => intro _ t ht; simp [restT] at ht
    | cons x l ih =>
      intro h t ht
      unfold restT at ht
      rcases List.mem_cons.1 ht with rfl | ht
      · exact lineTk_ok
      · rcases List.mem_append.1 ht with ht | ht
        · exact h x (by simp) t ht
        · exact ih (fun y hy => h y (by simp [hy])) t ht
  rcases List.mem_append.1 (show t ∈ headT R A I ++ restT l from ht) with ht | ht
  · unfold headT at ht
    simp only [List.mem_append, List.mem_singleton] at ht
    rcases ht with ((rfl | ht) | ht) | ht
    · exact tokW_ok (by decide)
    · exact numT_ok (by omega) (by omega) t ht
    · exact numT_ok (by omega) (by omega) t ht
    · exact numT_ok (by omega) (by omega) t ht
  · exact hrest l hl t ht
end Go.Proofs.YtmnadieblhdcpaaDoor
/- The document's Lines: tokens cut into lines. -/
namespace Go.Proofs.YtmnadieblhdcpaaDoor
open Go.RowKit

end Go.Proofs.YtmnadieblhdcpaaDoor
/- The document's Cut: it gives what lexer.Cut does. -/
namespace Go.Proofs.YtmnadieblhdcpaaDoor
open Go.RowKit

/-- the tokens from a place on, with what is known of ends of lines -/
def cutP (l : List UInt8) (p : Nat × Bool) (L : List Tk) : Except Nat (List Tk) := cutE (l.drop p.1) p.2 L
theorem passAt_in {l : List UInt8} {k : Nat} {c : UInt8} (h : l[k]? = some c) (hc : kb c ≠ 2) (e : Bool) : passAt l k e true = passAt l (k + 1) e true := by
  by_cases h3 : kb c = 3
  · exact passAt_remark h h3 e true
  · exact passAt_on h hc h3 e true (Or.inr rfl)
theorem passAt_out {l : List UInt8} {k : Nat} {c : UInt8} (h : l[k]? = some c) (hc : kb c = 2) (e : Bool) : passAt l k e true = passAt l k e false := by
  rw [passAt_line h hc e true, passAt_line h hc e false]
theorem kb_eq {c : UInt8} {K : Int} (h : kb c = K) : (K = 1 ↔ c.toNat = 32 ∨ c.toNat = 9) ∧ (K = 2 ↔ c.toNat = 10) ∧ (K = 3 ↔ c.toNat = 35) := by
  subst h
  unfold kb kindI
  refine ⟨?_, ?_, ?_⟩
  all_goals
    repeat' split
    all_goals constructor
    all_goals intro h
    all_goals omega
theorem mF_ld {r : List UInt8} {m : Nat} (h1 : 1 ≤ m) (h : ∀ j < m, ∃ d, r[j]? = some d ∧ isLD d = true) (h2 : m = r.length ∨ ∃ d, r[m]? = some d ∧ isLD d = false) : mF r = m := by
  have := along_eq r m h h2
  unfold mF
  omega
theorem mF_no {r : List UInt8} {d : UInt8} (h : r[0]? = some d) (hd : isLD d = false) : mF r = 1 := by
  have := along_eq r 0 (fun j hj => absurd hj (by omega)) (Or.inr ⟨d, h, hd⟩)
  unfold mF
  omega
end Go.Proofs.YtmnadieblhdcpaaDoor
/- The document's Parse of code: what has been read of the lines so far; where the variables lie. -/
namespace Go.Proofs.YtmnadieblhdcpaaDoor
open Go.RowKit

theorem linesK_row : ∀ (l cur : List Tk) (D : List (List Tk)) (N : Nat), (∀ r ∈ D, r.length ≤ N) → cur.length + l.length ≤ N → ∀ r ∈ linesK D cur l, r.length ≤ N
  | [], cur, D, N, hD, hc, r, hr => by
    rw [linesK] at hr
    rcases List.mem_append.1 hr with hr | hr
    · exact hD r hr
    · rw [List.mem_singleton.1 hr]; simpa using hc
  | t :: l, cur, D, N, hD, hc, r, hr => by
    rw [linesK] at hr
    simp only [List.length_cons] at hc
    split at hr
    · refine linesK_row l [] (D ++ [cur]) N (fun s hs => ?_) (by simp only [List.length_nil]; omega) r hr
      rcases List.mem_append.1 hs with hs | hs
      · exact hD s hs
      · rw [List.mem_singleton.1 hs]; omega
    · exact linesK_row l (cur ++ [t]) D N hD (by rw [List.length_append, List.length_singleton]; omega) r hr
theorem linesL_row {l : List Tk} {r : List Tk} (h : r ∈ linesL l) : r.length ≤ l.length := by
  unfold linesL at h
  split at h
  · cases h
  · exact linesK_row l [] [] l.length (fun s hs => by cases hs) (by simp) r h
theorem linesL_mayAll {l : List Tk} (hm : ∀ t ∈ l, mayT t) {r : List Tk} (h : r ∈ linesL l) : ∀ t ∈ r, mayT t := by
  unfold linesL at h
  split at h
  · cases h
  · exact linesK_may l [] hm (fun t ht => by cases ht) r h
theorem linesL_few (l : List Tk) : (linesL l).length ≤ l.length + 1 := by
  have go : ∀ (l cur : List Tk) (D : List (List Tk)), (linesK D cur l).length ≤ D.length + l.length + 1 := by
    intro l
    induction l with
    | nil => intro cur D; simp [linesK]
    | cons t l ih =>
      intro cur D
      rw [linesK]
      split
      · refine Nat.le_trans (ih _ _) ?_
        simp only [List.length_append, List.length_cons, List.length_nil]; omega
      · refine Nat.le_trans (ih _ _) ?_
        simp only [List.length_cons]; omega
  unfold linesL
  split
  · simp
  · simpa using go l [] []
/-- the lines so far: xs is what they are, rs are still to be read, from line i on -/
def GoR (R : List (List Tk)) (i : Nat) (rs : List (List Tk)) (xs : List Ji) : Prop := rowsF 1 R = match rowsF i rs with
  | .error j => .error j
  | .ok l => .ok (xs ++ l)
theorem GoR.start (R : List (List Tk)) : GoR R 1 R [] := by
  unfold GoR
  cases rowsF 1 R <;> rfl
theorem GoR.step {R rs : List (List Tk)} {r : List Tk} {i : Nat} {xs : List Ji} {x : Ji} (h : GoR R i (r :: rs) xs) (hx : insF r = some x) : GoR R (i + 1) rs (xs ++ [x]) := by
  unfold GoR at *
  rw [h, rowsF, hx]
  cases rowsF (i + 1) rs with
  | error j => rfl
  | ok l => simp
theorem GoR.bad {R rs : List (List Tk)} {r : List Tk} {i : Nat} {xs : List Ji} (h : GoR R i (r :: rs) xs) (hx : insF r = none) : rowsF 1 R = .error i := by
  unfold GoR at h
  rw [h, rowsF, hx]
theorem GoR.done {R : List (List Tk)} {i : Nat} {xs : List Ji} (h : GoR R i [] xs) : rowsF 1 R = .ok xs := by
  unfold GoR at h
  rw [h, rowsF]
  simp
theorem parse_cut {l : List UInt8} (h : (cutF l).2.2 ≠ 0) : parseF l = (noCd, (cutF l).2.1, (cutF l).2.2) := by unfold parseF; rw [if_pos h]
theorem parse_lines {l : List UInt8} (h : (cutF l).2.2 = 0) : parseF l = parseR (linesL (cutF l).1) := by unfold parseF; rw [if_neg (by rw [h]; simp)]
theorem parse_head {h : List Tk} {rs : List (List Tk)} (hh : headOK h = false) : parseR (h :: rs) = (noCd, 0, 6) := by unfold parseR; dsimp only; rw [hh]; rfl
theorem parse_bad {h : List Tk} {rs : List (List Tk)} {i : Nat} (hh : headOK h = true) (hr : rowsF 1 rs = .error i) : parseR (h :: rs) = (noCd, (i : Int), 6) := by unfold parseR; dsimp only; rw [hh, hr]; rfl
theorem parse_no {h : List Tk} {rs : List (List Tk)} {xs : List Ji} (hh : headOK h = true) (hr : rowsF 1 rs = .ok xs) (hm : Cd.may ⟨(h.getD 1 zTk).n, (h.getD 2 zTk).n, (h.getD 3 zTk).n, xs⟩ = false) : parseR (h :: rs) = (noCd, 0, 1) := by unfold parseR; dsimp only; rw [hh, hr]; dsimp only; rw [hm]; rfl
theorem parse_yes {h : List Tk} {rs : List (List Tk)} {xs : List Ji} (hh : headOK h = true) (hr : rowsF 1 rs = .ok xs) (hm : Cd.may ⟨(h.getD 1 zTk).n, (h.getD 2 zTk).n, (h.getD 3 zTk).n, xs⟩ = true) : parseR (h :: rs) = (⟨(h.getD 1 zTk).n, (h.getD 2 zTk).n, (h.getD 3 zTk).n, xs⟩, ((rs.length + 1 : Nat) : Int), 0) := by unfold parseR; dsimp only; rw [hh, hr]; dsimp only; rw [hm]; rfl
abbrev zeroC : Obj := .cells #[.int .i64 0, .int .i64 0, .int .i64 0, .slice none 0 0] 24
/-- where the variables of Parse lie -/
structure PaI (w w2 : World) (R A I : Int) (g : Nat) (wr : World) (A' : Option Addr) (c' : Nat) (L : List Ji) : Prop where
  bel : Below w.heap.size w wr
  bel2 : Below w2.heap.size w2 wr
  lt : w.heap.size < w2.heap.size
  rv : wr.heap[w.heap.size]? = some zeroC
  gn : w2.heap.size ≤ g
  box : wr.heap[g]? = some (.cells #[.int .i64 R, .int .i64 A, .int .i64 I, .slice A' L.length c'] 24 (0, 0))
  own : OwnJ wr w2.heap.size A' c' L
section
variable {w w2 wr w' : World} {R A I : Int} {g c' c2 : Nat} {A' A2 : Option Addr} {L : List Ji} {y : Ji}
theorem PaI.below (h : PaI w w2 R A I g wr A' c' L) (hb : Below wr.heap.size wr w') : PaI w w2 R A I g w' A' c' L :=
  ⟨h.bel.trans (hb.mono h.bel.size), h.bel2.trans (hb.mono h.bel2.size), h.lt, keep_b hb h.rv, h.gn, keep_b hb h.box, h.own.below hb (Nat.le_refl _)⟩
theorem PaI.add (h : PaI w w2 R A I g wr A' c' L) (hO : OwnJ w' w2.heap.size A2 c2 (L ++ [y])) (hG : wr.grownBy w' (Value.slice A' L.length c').ownBlock) : PaI w w2 R A I g (w'.setCell ⟨g, 3, none⟩ (.slice A2 (L.length + 1) c2)) A2 c2 (L ++ [y]) := by
  have h2 := box_keptJ h.rv (by decide) hG h.own
  have h3 := box_keptJ h.box (by decide) hG h.own
  have hs := set_j (i := 3) (cs := [.int .i64 R, .int .i64 A, .int .i64 I, .slice A' L.length c']) h3 (.slice A2 (L.length + 1) c2)
  have hn := h.gn
  have hl := h.lt
  refine ⟨(below_appJ h.bel hG (h.own.mono (by omega)) h.bel.size).setCell (p := ⟨g, 3, none⟩) (by show w.heap.size ≤ g; omega) _, (below_appJ h.bel2 hG h.own h.bel2.size).setCell (p := ⟨g, 3, none⟩) hn _, hl, (Below.heap_setCell _ ⟨g, 3, none⟩ _ _ (by show w.heap.size ≠ g; omega)).trans h2, hn, ?_, hO.set_other h3 (by decide) _ _⟩
  rw [List.length_append]
  exact hs
end
/-- the result's four cells, stored -/
def putC (w : World) (g : Nat) (R A I : Int) (v : Value) : World := (((w.setCell ⟨g, 0, none⟩ (.int .i64 R)).setCell ⟨g, 1, none⟩ (.int .i64 A)).setCell ⟨g, 2, none⟩ (.int .i64 I)).setCell ⟨g, 3, none⟩ v
theorem putC_cells {w : World} {g : Nat} (h : w.heap[g]? = some zeroC) (R A I : Int) (v : Value) : (putC w g R A I v).cell? ⟨g, 0, none⟩ = some (.int .i64 R) ∧ (putC w g R A I v).cell? ⟨g, 1, none⟩ = some (.int .i64 A) ∧ (putC w g R A I v).cell? ⟨g, 2, none⟩ = some (.int .i64 I) ∧ (putC w g R A I v).cell? ⟨g, 3, none⟩ = some v := by
  obtain ⟨h0, h1, h2, h3, _⟩ := lvCells (four_cells h (.int .i64 R) (.int .i64 A) (.int .i64 I) v)
  exact ⟨h0, h1, h2, h3⟩
theorem putC_below {w0 w : World} {g : Nat} (h : Below g w0 w) (R A I : Int) (v : Value) : Below g w0 (putC w g R A I v) :=
  (((h.setCell (p := ⟨g, 0, none⟩) (Nat.le_refl g) _).setCell (p := ⟨g, 1, none⟩) (Nat.le_refl g) _).setCell (p := ⟨g, 2, none⟩) (Nat.le_refl g) _).setCell (p := ⟨g, 3, none⟩) (Nat.le_refl g) _
theorem putC_own {w : World} {base g c' : Nat} {A' : Option Addr} {L : List Ji} (h : OwnJ w base A' c' L) (hg : w.heap[g]? = some zeroC) (R A I : Int) (v : Value) : OwnJ (putC w g R A I v) base A' c' L :=
  World.ownsRow.kept h (grownBy_setE (grownBy_setE (grownBy_setE (grownBy_setE (grown_same w _) _ _) _ _) _ _) _ _) (rows_ne h hg (by decide))
theorem RowsK.lenCap {w : World} {base ch n : Nat} {H : Option Addr} {rs : List RowK} (h : RowsK w base H ch rs) (hn : rs.length = n) : n ≤ ch := by
  subst hn
  rcases h.rows.2 with ⟨h1, h2⟩ | ⟨g, cap, cur, h1, _, _, h5, _⟩
  · omega
  · injection h1 with _ _ h1; omega
theorem insR_false {L : List Tk} {x : Ji} (h : insR L x false) : insF L = none := by
  unfold insR at h
  cases hi : insF L with
  | none => rfl
  | some y => rw [hi] at h; exact absurd h.1 (by decide)
theorem insR_true {L : List Tk} {x : Ji} (h : insR L x true) : insF L = some x := by
  unfold insR at h
  cases hi : insF L with
  | none => simp [hi] at h
  | some y => rw [hi] at h; rw [h.2]
/-- nothing was read -/
theorem parse_none {s : ByteArray} {w W : World} {N E : Int} (hb : Below w.heap.size w W) (h : parseF (bl s) = (noCd, N, E)) : ParseP s w (.returned (.tuple #[.agg #[.int .i64 0, .int .i64 0, .int .i64 0, .slice none 0 0], .int .i64 N, .int .i64 E])) (putC W w.heap.size 0 0 0 (.slice none 0 0)) := by
  unfold ParseP
  rw [h]
  exact ⟨none, 0, rfl, OwnJ.nil_ _ _, putC_below hb _ _ _ _⟩
end Go.Proofs.YtmnadieblhdcpaaDoor
/- What the document's Trim has at hand: where its variables lie; the instructions that stay, one by one. -/
namespace Go.Proofs.YtmnadieblhdcpaaDoor
open Go.RowKit

noncomputable def trimC (c : Cd) : Cd := if c.may then c.trim else ⟨0, 0, 0, []⟩
def TrimP (q : Cq) (w : World) (e : Ending) (w' : World) : Prop :=
  ∃ A' c', e = .returned (.tuple #[.agg #[.int .i64 (trimC q.cd).R, .int .i64 (trimC q.cd).A, .int .i64 (trimC q.cd).I, .slice A' (trimC q.cd).l.length c'], .int .i64 q.cd.e]) ∧ OwnJ w' w.heap.size A' c' (trimC q.cd).l ∧ Below w.heap.size w w'
theorem run_makeIn {P : Program} (t e : TypeId) (i : TypeInfo) (ht : P.underlying t = some (.slice e)) (hi : P.info? e = some i) (hz : i.zero = some (.int .i64 0)) (h1 : i.size = 1) (h2 : i.bytes = 8) (n : Nat) (hn : n ≤ 100000) (w : World) :
    (Instr.makeSlice t (.int .i64 (n : Int)) (.int .i64 (n : Int))).run P w = .ok (.slice (some ⟨w.heap.size, 0, none⟩) n n) (w.alloc (.cells (Array.replicate n (Value.int .i64 0)) e)) := by
  have hr := run_make (P := P) w t e i (.int .i64 0) ht hi hz .i64 .i64 n n (by omega) (by omega) (by rw [h2]; omega) (by omega)
  simp only [Int.toNat_natCast, h1, Nat.mul_one] at hr
  have he : (madeCells #[.int .i64 0] n) = Array.replicate n (Value.int .i64 0) := by
    apply Array.ext'
    rw [toList_madeCells_one]
    simp
  have hr2 : (Instr.makeSlice t (.int .i64 (n : Int)) (.int .i64 (n : Int))).run P w = .ok (.slice (some ⟨w.heap.size, 0, none⟩) n n) (w.alloc (.cells (madeCells #[.int .i64 0] n) e)) := hr
  rw [he] at hr2
  exact hr2
/-- a block is a list of numbers -/
def InB_ (w : World) (g : Nat) (xs : List Int) : Prop := w.heap[g]? = some (.cells (xs.map (Value.int .i64)).toArray 3 (0, 0))
theorem InB_.at_ {w : World} {g i : Nat} {xs : List Int} {v : Int} (h : InB_ w g xs) (hv : xs[i]? = some v) : w.cell? ⟨g, i, none⟩ = some (.int .i64 v) ∧ w.frozen? ⟨g, i, none⟩ = false :=
  blk_cell h (by rw [List.getElem?_map, hv]; rfl)
theorem InB_.set {w : World} {g : Nat} {xs : List Int} (h : InB_ w g xs) (i : Nat) (v : Int) : InB_ (w.setCell ⟨g, i, none⟩ (.int .i64 v)) g (xs.set i v) := by
  unfold InB_
  rw [List.map_set]
  exact set_j h _
theorem InB_.made (w : World) (n : Nat) : InB_ (w.alloc (.cells (Array.replicate n (Value.int .i64 0)) 3)) w.heap.size (List.replicate n 0) := by
  unfold InB_
  rw [heap_alloc_new]
  simp
/-- how many are reached ahead of each, of the first i -/
noncomputable def rkL (c : Cd) (n i : Nat) : List Int := (List.range n).map fun j => if j < i then ((rk c j : Nat) : Int) else 0
theorem rkL_zero (c : Cd) (n : Nat) : rkL c n 0 = List.replicate n 0 := by
  unfold rkL
  rw [List.eq_replicate_iff]
  exact ⟨by simp, fun b hb => by
    obtain ⟨j, _, rfl⟩ := List.mem_map.1 hb
    rw [if_neg (by omega)]⟩
theorem rkL_set (c : Cd) {n i : Nat} (hi : i < n) : (rkL c n i).set i ((rk c i : Nat) : Int) = rkL c n (i + 1) := by
  apply List.ext_getElem?
  intro j
  unfold rkL
  by_cases hj : j < n
  · by_cases e : i = j
    · subst e
      rw [List.getElem?_set_self (by simpa using hi), List.getElem?_map, List.getElem?_range hj, Option.map_some, if_pos (by omega)]
    · rw [List.getElem?_set_ne e, List.getElem?_map, List.getElem?_map, List.getElem?_range hj, Option.map_some, Option.map_some]
      by_cases h : j < i
      · rw [if_pos h, if_pos (by omega)]
      · rw [if_neg h, if_neg (by omega)]
  · rw [List.getElem?_eq_none (by simp; omega), List.getElem?_eq_none (by simp; omega)]
theorem rkL_at (c : Cd) {n j : Nat} (hj : j < n) : (rkL c n n)[j]? = some ((rk c j : Nat) : Int) := by
  unfold rkL
  rw [List.getElem?_map, List.getElem?_range hj, Option.map_some, if_pos hj]
theorem rkL_get (c : Cd) {n i : Nat} (hi : i < n) : ∃ v, (rkL c n i)[i]? = some v := ⟨_, by
  unfold rkL
  rw [List.getElem?_map, List.getElem?_range hi, Option.map_some]⟩
theorem rk_le (c : Cd) (i : Nat) : rk c i ≤ i := by
  unfold rk
  refine Nat.le_trans (List.length_filter_le _ _) ?_
  simp
theorem rk_no {c : Cd} {i : Nat} (h : wayB c i = false) : rk c (i + 1) = rk c i := by
  unfold rk
  rw [List.range_succ, List.filter_append, List.length_append]
  simp [h]
theorem wayB_of {c : Cd} {i : Nat} {v : Bool} (h : v = true ↔ Way c.l (-1) i) : wayB c i = v := by
  have : wayB c i = true ↔ v = true := by rw [h]; exact wayB_iff
  cases v <;> cases h2 : wayB c i <;> simp_all
/-- what stays of the first i instructions -/
noncomputable def trL (c : Cd) (i : Nat) : List Ji := ((List.range i).filter (wayB c)).map fun j => renum (rk c) (c.l.getD j zJi)
theorem trL_all (c : Cd) : trL c c.l.length = c.trim.l := rfl
theorem trL_len (c : Cd) (i : Nat) : (trL c i).length = rk c i := by unfold trL rk; rw [List.length_map]
theorem trL_yes {c : Cd} {i : Nat} {x : Ji} (h : wayB c i = true) (hx : c.l[i]? = some x) : trL c (i + 1) = trL c i ++ [renum (rk c) x] := by
  unfold trL
  rw [List.range_succ, List.filter_append, List.map_append]
  simp [h, List.getD_eq_getElem?_getD, hx]
theorem trL_no {c : Cd} {i : Nat} (h : wayB c i = false) : trL c (i + 1) = trL c i := by
  unfold trL
  rw [List.range_succ, List.filter_append, List.map_append]
  simp [h]
/-- where the variables of Trim lie -/
structure TrI (w w1 : World) (q : Cq) (ga g9 : Nat) (vals : List Int) (W : World) (A' : Option Addr) (c' : Nat) (L : List Ji) : Prop where
  bel : Below w.heap.size w W
  bel1 : Below w1.heap.size w1 W
  bx : W.heap[w.heap.size]? = some q.obj
  rv : W.heap[w.heap.size + 1]? = some zeroC
  lt : w.heap.size + 1 < w1.heap.size
  ga1 : w1.heap.size ≤ ga
  g91 : ga < g9
  ab : InB_ W ga vals
  box : W.heap[g9]? = some (.cells #[.int .i64 q.R, .int .i64 q.A, .int .i64 q.I, .slice A' L.length c'] 24 (0, 0))
  own : OwnJ W w1.heap.size A' c' L
section
variable {w w1 W w' : World} {q : Cq} {ga g9 c' c2 : Nat} {vals : List Int} {A' A2 : Option Addr} {L : List Ji} {y : Ji}
theorem TrI.on (h : TrI w w1 q ga g9 vals W A' c' L) (hb : Below W.heap.size W w') : TrI w w1 q ga g9 vals w' A' c' L :=
  ⟨h.bel.trans (hb.mono h.bel.size), h.bel1.trans (hb.mono h.bel1.size), keep_b hb h.bx, keep_b hb h.rv, h.lt, h.ga1, h.g91, keep_b hb h.ab, keep_b hb h.box, h.own.below hb (Nat.le_refl _)⟩
theorem TrI.add (h : TrI w w1 q ga g9 vals W A' c' L) (hO : OwnJ w' w1.heap.size A2 c2 (L ++ [y])) (hG : W.grownBy w' (Value.slice A' L.length c').ownBlock) : TrI w w1 q ga g9 vals (w'.setCell ⟨g9, 3, none⟩ (.slice A2 (L.length + 1) c2)) A2 c2 (L ++ [y]) := by
  have h1 := box_keptJ h.bx (by decide) hG h.own
  have h2 := box_keptJ h.rv (by decide) hG h.own
  have h3 := box_keptJ h.box (by decide) hG h.own
  have h4 : w'.heap[ga]? = _ := box_keptJ h.ab (by decide) hG h.own
  have hs := set_j (i := 3) (cs := [.int .i64 q.R, .int .i64 q.A, .int .i64 q.I, .slice A' L.length c']) h3 (.slice A2 (L.length + 1) c2)
  have hl := h.lt
  have hg := h.ga1
  have hg2 := h.g91
  refine ⟨(below_appJ h.bel hG (h.own.mono (by omega)) h.bel.size).setCell (p := ⟨g9, 3, none⟩) (by show w.heap.size ≤ g9; omega) _, (below_appJ h.bel1 hG h.own h.bel1.size).setCell (p := ⟨g9, 3, none⟩) (by show w1.heap.size ≤ g9; omega) _, (Below.heap_setCell _ ⟨g9, 3, none⟩ _ _ (by show w.heap.size ≠ g9; omega)).trans h1, (Below.heap_setCell _ ⟨g9, 3, none⟩ _ _ (by show w.heap.size + 1 ≠ g9; omega)).trans h2, hl, hg, hg2, (Below.heap_setCell _ ⟨g9, 3, none⟩ _ _ (by show ga ≠ g9; omega)).trans h4, ?_, hO.set_other h3 (by decide) _ _⟩
  rw [List.length_append]
  exact hs
/-- a write into a box of the call's own, behind all of these -/
theorem TrI.put (h : TrI w w1 q ga g9 vals W A' c' L) {gx i : Nat} {v : Value} (hgx : g9 < gx) (hne : ∀ b, A' = some ⟨b, 0, none⟩ → b ≠ gx) : TrI w w1 q ga g9 vals (W.setCell ⟨gx, i, none⟩ v) A' c' L := by
  have hl := h.lt
  have hg := h.ga1
  have hg2 := h.g91
  exact ⟨h.bel.setCell (p := ⟨gx, i, none⟩) (by show w.heap.size ≤ gx; omega) _, h.bel1.setCell (p := ⟨gx, i, none⟩) (by show w1.heap.size ≤ gx; omega) _, (Below.heap_setCell _ ⟨gx, i, none⟩ _ _ (by show w.heap.size ≠ gx; omega)).trans h.bx, (Below.heap_setCell _ ⟨gx, i, none⟩ _ _ (by show w.heap.size + 1 ≠ gx; omega)).trans h.rv, hl, hg, hg2, (Below.heap_setCell _ ⟨gx, i, none⟩ _ _ (by show ga ≠ gx; omega)).trans h.ab, (Below.heap_setCell _ ⟨gx, i, none⟩ _ _ (by show g9 ≠ gx; omega)).trans h.box, h.own.set_off hne _ _⟩
end
theorem trim_none {q : Cq} {w W : World} {g : Nat} (hb : Below w.heap.size w W) (hg : w.heap.size ≤ g) (h : q.cd.may = false) : TrimP q w (.returned (.tuple #[.agg #[.int .i64 0, .int .i64 0, .int .i64 0, .slice none 0 0], .int .i64 1])) (putC W g 0 0 0 (.slice none 0 0)) := by
  have hC : trimC q.cd = ⟨0, 0, 0, []⟩ := by unfold trimC; rw [h]; rfl
  refine ⟨none, 0, by rw [hC, Cd.e_no h]; rfl, by rw [hC]; exact OwnJ.nil_ _ _, ?_⟩
  exact (((hb.setCell (p := ⟨g, 0, none⟩) hg _).setCell (p := ⟨g, 1, none⟩) hg _).setCell (p := ⟨g, 2, none⟩) hg _).setCell (p := ⟨g, 3, none⟩) hg _
end Go.Proofs.YtmnadieblhdcpaaDoor
/- The program's table of instructions' shapes, as the row lays it, and how it is read; what stands behind a word, as the table's numbers. -/
namespace Go.Proofs.YtmnadieblhdcpaaDoor
open Go.RowKit

/-- what stands behind a word: the table's numbers -/
def kindNs : List (List Int) := [[0, 0, 0, 0], [1, 0, 0, 6], [1, 2, 0, 0], [1, 2, 2, 0], [1, 2, 2, 0], [1, 2, 2, 0], [1, 3, 2, 0], [3, 2, 2, 0], [1, 3, 0, 0], [3, 2, 0, 0], [4, 0, 0, 0], [2, 2, 4, 0], [2, 2, 4, 0]]
def kN (op : Int) : List Int := if 0 ≤ op ∧ op ≤ 12 then kindNs.getD op.toNat [0, 0, 0, 0] else [0, 0, 0, 0]
theorem kN_len (op : Int) : (kN op).length = 4 := by
  unfold kN
  split
  · rename_i h
    rcases op_cases h.1 h.2 with rfl | rfl | rfl | rfl | rfl | rfl | rfl | rfl | rfl | rfl | rfl | rfl | rfl <;> decide
  · decide
theorem kN_bound (op : Int) : ∀ v ∈ kN op, 0 ≤ v ∧ v ≤ 6 := by
  unfold kN
  split
  · rename_i h
    rcases op_cases h.1 h.2 with rfl | rfl | rfl | rfl | rfl | rfl | rfl | rfl | rfl | rfl | rfl | rfl | rfl <;> decide
  · decide
def shRow (l : List UInt8) (ks : List Int) : List Value := .string (strJ l) :: ks.map (Value.int .i64)
def shAll : List (List UInt8) → List (List Int) → List Value
  | w :: ws, k :: ks => shRow w k ++ shAll ws ks
  | _, _ => []
/-- the table's cells -/
def shCells : List Value := shAll wordsJ kindNs
/-- the table's datum -/
def shData : DataW Unit := .agg (wordsJ.zipWith (fun w k => .agg [.lit (.string w), Lib.tabData .i64 k]) kindNs)
/-- the table holds what it was laid with -/
def ShIs (w : World) : Prop := w.var? Tryd.prog "purfle/code.shapes" = some shCells.toArray
/-- so at this world, and whatever is written behind it -/
def ShT (W : World) : Prop := ∀ w, Below W.heap.size W w → ShIs w
theorem ShT.here {W : World} (h : ShT W) : ShIs W := h W (Below.refl _ _)
theorem ShT.on {W w : World} (h : ShT W) (hb : Below W.heap.size W w) : ShT w := fun w' h' => h w' (hb.trans (h'.mono hb.size))
set_option maxRecDepth 100000 in
theorem gSh : Tryd.prog.globalNamed "purfle/code.shapes" = some 0 := by kernel_rfl
theorem shT_of {W : World} (h : ShIs W) : ShT W := fun w hb => by
  unfold ShIs World.var? at *
  rw [gSh] at h ⊢
  simp only [Option.bind_some] at h ⊢
  have hl : 0 < W.heap.size := by
    cases hh : W.heap[(0 : Nat)]? with
    | none => rw [hh] at h; cases h
    | some o => exact (Array.getElem?_eq_some_iff.1 hh).1
  rw [hb.block _ hl]
  exact h
theorem str_of {l : List UInt8} {s : ByteArray} (h : s.data.toList = l) : s = strJ l := by
  subst h
  cases s
  rfl
set_option maxRecDepth 100000 in
theorem row_of_trod {W : World} {base : Nat} {sp : Nat → Bool} {held : Bool} {fuel : Nat} {cs : List Value} {l : List UInt8} {ks : List Int} {p : List MemPlace} {enc : TypeId × Value → Unit}
    (h : DataW.trod enc Tryd.prog W base sp held fuel 72 cs = some (.agg [.lit (.string l), Lib.tabData .i64 ks], p)) : cs = shRow l ks := by
  obtain ⟨y0, y1, n, hx, hl, h0, h1⟩ := Go.ChangeShapes.trod_struct2 Tryd.underlying72 h
  injection hx with hx _
  injection hx with hx
  injection hx with hx0 hx1
  injection hx1 with hx1 _
  obtain ⟨s, hs, hy, _⟩ := DataW.trod_string Tryd.underlying9 h0
  have hc1 := Lib.cells_of_tab (p := y1.2) (zs := ks) Tryd.underlying70 Tryd.underlying3 (by kernel_rfl) (by kernel_rfl) (by rw [h1]; exact congrArg some (Prod.ext hx1.symm rfl))
  have hlen : cs.length = 5 := hl.trans (by kernel_rfl)
  have es : s = strJ l := by
    rw [hy] at hx0
    injection hx0 with hx0
    injection hx0 with hx0
    exact str_of hx0.symm
  subst es
  have e0 : (cs.drop 0).take 1 = [.string (strJ l)] := hs
  have e1 : (cs.drop 1).take 4 = ks.map (Value.int .i64) := hc1
  rw [List.drop_zero] at e0
  rw [List.take_of_length_le (by simp; omega)] at e1
  rw [← List.take_append_drop 1 cs, e0, e1]
  rfl
theorem rows_of_chunks : ∀ (ws : List (List UInt8)) (ks : List (List Int)) (cs : List Value), ws.length = ks.length → cs.length = ws.length * 5 →
    (∀ (i : Nat) (w : List UInt8) (k : List Int), ws[i]? = some w → ks[i]? = some k → (cs.drop (i * 5)).take 5 = shRow w k) → cs = shAll ws ks
  | [], _, cs, _, hl, _ => by
    rw [List.eq_nil_of_length_eq_zero (l := cs) (by simpa using hl)]
    unfold shAll; rfl
  | w :: ws, [], cs, h, _, _ => by simp at h
  | w :: ws, k :: ks, cs, h, hl, hc => by
    have h0 := hc 0 w k rfl rfl
    rw [Nat.zero_mul, List.drop_zero] at h0
    show cs = shRow w k ++ shAll ws ks
    rw [← h0]
    have ih := rows_of_chunks ws ks (cs.drop 5) (by simpa using h) (by simp only [List.length_cons] at hl; rw [List.length_drop]; omega) (fun i w' k' hw hk => by
      have := hc (i + 1) w' k' (by simpa using hw) (by simpa using hk)
      rw [List.drop_drop, show 5 + i * 5 = (i + 1) * 5 by omega]
      exact this)
    rw [← ih, List.take_append_drop]
set_option maxRecDepth 100000 in
theorem sh_of_trod {W : World} {base : Nat} {sp : Nat → Bool} {held : Bool} {fuel : Nat} {cs : List Value} {p : List MemPlace} {enc : TypeId × Value → Unit}
    (h : DataW.trod enc Tryd.prog W base sp held fuel 94 cs = some (shData, p)) : cs = shCells := by
  obtain ⟨xs, m, _, hx, hl, hxl, hch⟩ := DataW.trod_array Tryd.underlying94 h
  injection hx with hx _
  unfold shData at hx
  injection hx with hx
  have hlen : cs.length = 65 := hl.trans (by kernel_rfl)
  have hce : Tryd.prog.cellsOf 72 = 5 := by kernel_rfl
  refine rows_of_chunks wordsJ kindNs cs (by decide) (by rw [hlen]; decide) fun i w k hw hk => ?_
  have hi : i < 13 := (List.getElem?_eq_some_iff.1 hw).1
  have hc := hch i hi
  rw [hce] at hc
  have hxi : i < xs.length := by omega
  rw [List.getElem?_eq_getElem hxi] at hc
  have hz := congrArg (·[i]?) hx
  simp only [List.getElem?_zipWith, hw, hk, List.getElem?_map, List.getElem?_eq_getElem hxi, Option.map_some] at hz
  have hz' := Option.some.inj hz
  exact row_of_trod (p := xs[i].2) (hc.trans (congrArg some (Prod.ext hz'.symm rfl)))
theorem shAll_at : ∀ (ws : List (List UInt8)) (ks : List (List Int)) (k i : Nat) (w : List UInt8) (q : List Int), (∀ q ∈ ks, q.length = 4) → ws[k]? = some w → ks[k]? = some q → i < 5 → (shAll ws ks)[k * 5 + i]? = (shRow w q)[i]?
  | [], _, k, _, _, _, _, h, _, _ => by simp at h
  | _ :: _, [], k, _, _, _, _, _, h, _ => by simp at h
  | w :: ws, q :: ks, 0, i, w', q', hl, hw, hq, hi => by
    simp at hw hq
    subst hw; subst hq
    have h4 := hl q (by simp)
    show (shRow w q ++ shAll ws ks)[0 * 5 + i]? = _
    rw [Nat.zero_mul, Nat.zero_add, List.getElem?_append_left (by simp [shRow]; omega)]
  | w :: ws, q :: ks, k + 1, i, w', q', hl, hw, hq, hi => by
    have h4 := hl q (by simp)
    have hr : (shRow w q).length = 5 := by simp [shRow]; omega
    show (shRow w q ++ shAll ws ks)[(k + 1) * 5 + i]? = _
    rw [List.getElem?_append_right (by omega), hr, show (k + 1) * 5 + i - 5 = k * 5 + i by omega]
    exact shAll_at ws ks k i w' q' (fun z hz => hl z (by simp [hz])) (by simpa using hw) (by simpa using hq) hi
theorem shCells_at {k i : Nat} (hk : k < 13) (hi : i < 5) : shCells[k * 5 + i]? = (shRow (wJ k) (kN k))[i]? := by
  refine shAll_at wordsJ kindNs k i _ _ (by decide) ?_ ?_ hi
  · unfold wJ
    rw [if_pos (by omega), Int.toNat_natCast, List.getD_eq_getElem?_getD, List.getElem?_eq_getElem (show k < wordsJ.length from hk)]; rfl
  · unfold kN
    rw [if_pos (by omega), Int.toNat_natCast, List.getD_eq_getElem?_getD, List.getElem?_eq_getElem (show k < kindNs.length from hk)]; rfl
/-- what stands behind a word, at one place -/
def kA (op : Int) (j : Nat) : Int := (kN op).getD j 0
/-- the cells of one op's row -/
structure ShRow (w : World) (o : Nat) (op : Int) : Prop where
  c0 : w.cell? ⟨0, o, none⟩ = some (.string (strJ (wJ op)))
  c1 : w.cell? ⟨0, o + 1, none⟩ = some (.int .i64 (kA op 0))
  c2 : w.cell? ⟨0, o + 2, none⟩ = some (.int .i64 (kA op 1))
  c3 : w.cell? ⟨0, o + 3, none⟩ = some (.int .i64 (kA op 2))
  c4 : w.cell? ⟨0, o + 4, none⟩ = some (.int .i64 (kA op 3))
theorem ShIs.row {w : World} (h : ShIs w) {k : Nat} (hk : k < 13) : ShRow w (k * 5) (k : Int) := by
  have c : ∀ i, i < 5 → w.cell? ⟨0, k * 5 + i, none⟩ = (shRow (wJ k) (kN k))[i]? := fun i hi => by
    rw [World.var?_cell gSh h (k * 5 + i), List.getElem?_toArray]
    exact shCells_at hk hi
  have e : ∀ j, j < 4 → (shRow (wJ k) (kN k))[j + 1]? = some (.int .i64 (kA (k : Int) j)) := fun j hj => by
    unfold kA
    have hl := kN_len (k : Int)
    show ((kN (k : Int)).map (Value.int .i64))[j]? = _
    rw [List.getD_eq_getElem?_getD, List.getElem?_map, List.getElem?_eq_getElem (by omega)]
    rfl
  exact ⟨c 0 (by omega), (c 1 (by omega)).trans (e 0 (by omega)), (c 2 (by omega)).trans (e 1 (by omega)), (c 3 (by omega)).trans (e 2 (by omega)), (c 4 (by omega)).trans (e 3 (by omega))⟩
/-- a shape, as a value -/
def shV (op : Int) : Value := .agg #[.string (strJ (wJ op)), .int .i64 (kA op 0), .int .i64 (kA op 1), .int .i64 (kA op 2), .int .i64 (kA op 3)]
def isOp (op : Int) : Bool := decide (0 ≤ op ∧ op ≤ 12)
def ShapeP (op : Int) (w : World) (e : Ending) (w' : World) : Prop := e = .returned (.tuple #[shV op, .bool (isOp op)]) ∧ Below w.heap.size w w'
end Go.Proofs.YtmnadieblhdcpaaDoor
