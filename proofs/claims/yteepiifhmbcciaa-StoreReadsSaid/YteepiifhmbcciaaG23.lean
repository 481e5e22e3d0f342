/- The contract of the document's Same of levels. -/
import Derived.Test.YteepiifhmbcciaaG5
import Derived.Test.YteepiifhmbcciaaG16
import Derived.Test.YteepiifhmbcciaaG3
import Derived.Test.YteepiifhmbcciaaG10
import Derived.Laws.StructEq
import Derived.BigQuiet
import Derived.Lib.QuietBelow
import Derived.Test.YteepiifhmbcciaaG7
import Derived.OwnWalk
import Derived.BigFrame
import Derived.Deep.RegionLaw
namespace Go.Proofs.Yteepiifhmbcciaa
open Go.RowKit

theorem refEqual_bel (A A2 : Option Addr) (n n2 c c2 : Nat) (xs ys : List Int) (w : World) (h : Ints w w.heap.size A n xs) (h2 : Ints w w.heap.size A2 n2 ys) (hn : n ≤ 100000) (hn2 : n2 ≤ 9223372036854775807) :
    Calls Try.prog 23 #[.slice A n c, .slice A2 n2 c2] w fun e w' => e = .returned (.bool (decide (xs = ys))) ∧ Below w.heap.size w w' :=
  (refEqual_any A A2 n n2 c c2 xs ys w w.heap.size h h2 hn hn2).mono fun e w' ⟨he, m, hm⟩ => ⟨he, by subst hm; exact below_drewN2 (Below.refl _ _) m⟩
theorem two_lv (w : World) (o o2 : Obj) : ((w.alloc o).alloc o2).heap[w.heap.size]? = some o ∧ ((w.alloc o).alloc o2).heap[w.heap.size + 1]? = some o2 := by
  refine ⟨?_, ?_⟩
  · rw [Below.heap_alloc (w.alloc o) o2 w.heap.size (by simp)]; exact heap_alloc_new w o
  · have := heap_alloc_new (w.alloc o) o2; rwa [World.size_alloc] at this
set_option maxRecDepth 100000 in
set_option maxHeartbeats 1000000 in
theorem refSameL_any (K S K2 S2 : Int) (A B A2 B2 : Option Addr) (n c m e n2 c2 m2 e2 : Nat) (xs ys xs2 ys2 : List Int) (w : World) (h : LvI w A n B m xs ys) (h2 : LvI w A2 n2 B2 m2 xs2 ys2) (hn : n ≤ 100000) (hm : m ≤ 100000) :
    Calls Try.prog 53 #[lvV K S A n c B m e, lvV K2 S2 A2 n2 c2 B2 m2 e2] w fun x w' => x = .returned (.bool (pB (K = K2 ∧ S = S2 ∧ xs = xs2 ∧ ys = ys2))) ∧ Below w.heap.size w w' := by
  have z0 := lvBelow w (lvO K S A n c B m e)
  have z1 := z0.alloc z0.size (lvO K2 S2 A2 n2 c2 B2 m2 e2)
  obtain ⟨b1, b2⟩ := two_lv w (lvO K S A n c B m e) (lvO K2 S2 A2 n2 c2 B2 m2 e2)
  replace h := h.below z1
  replace h2 := h2.below z1
  have cP := fun W (hb : Below ((w.alloc (lvO K S A n c B m e)).alloc (lvO K2 S2 A2 n2 c2 B2 m2 e2)).heap.size ((w.alloc (lvO K S A n c B m e)).alloc (lvO K2 S2 A2 n2 c2 B2 m2 e2)) W) => refEqual_bel A A2 n n2 c c2 xs xs2 W (h.below hb).pos (h2.below hb).pos hn h2.n1
  have cC := fun W (hb : Below ((w.alloc (lvO K S A n c B m e)).alloc (lvO K2 S2 A2 n2 c2 B2 m2 e2)).heap.size ((w.alloc (lvO K S A n c B m e)).alloc (lvO K2 S2 A2 n2 c2 B2 m2 e2)) W) => refEqual_bel B B2 m m2 e e2 ys ys2 W (h.below hb).crd (h2.below hb).crd hm h2.m1
  clear h h2 z0
  by_cases q0 : K = K2
  · have f0 : (K == K2) = true := by simpa using q0
    by_cases q1 : S = S2
    · have f1 : (S == S2) = true := by simpa using q1
      by_cases q2 : xs = xs2
      · rw [decide_eq_true q2] at cP
        have HC : Hid (pB (K = K2 ∧ S = S2 ∧ xs = xs2 ∧ ys = ys2) = decide (ys = ys2)) := by
          unfold Hid
          by_cases q3 : ys = ys2
          · rw [pB_t ⟨q0, q1, q2, q3⟩, decide_eq_true q3]
          · rw [pB_f (fun q => q3 q.2.2.2), decide_eq_false q3]
        obtain ⟨r, hr⟩ : ∃ r, decide (ys = ys2) = r := ⟨_, rfl⟩
        rw [hr] at cC HC
        clear q0 q1 q2 hr
        go_enter Try.func53, Try.ntmps53
        go_wp2_with fail
        refine (cP _ (Below.refl _ _)).mono ?_
        rintro x w3 ⟨rfl, hb3⟩
        obtain ⟨k0, k1, k2, k3, _⟩ := lvCells (oKeep hb3 b1)
        obtain ⟨j0, j1, j2, j3, _⟩ := lvCells (oKeep hb3 b2)
        go_wp2_with fail
        refine (cC _ hb3).mono ?_
        rintro x w5 ⟨rfl, hb5⟩
        have hb6 := z1.trans ((hb3.trans (hb5.mono hb3.size)).mono z1.size)
        go_wp2_with fail
        go_ret
        exact ⟨ret_of (by rw [HC.out]; rfl), hb6⟩
      · rw [decide_eq_false q2] at cP
        have HF : Hid (pB (K = K2 ∧ S = S2 ∧ xs = xs2 ∧ ys = ys2) = false) := pB_f (fun q => q2 q.2.2.1)
        clear q0 q1 q2 cC
        go_enter Try.func53, Try.ntmps53
        go_wp2_with fail
        refine (cP _ (Below.refl _ _)).mono ?_
        rintro x w3 ⟨rfl, hb3⟩
        have hb6 := z1.trans (hb3.mono z1.size)
        go_wp2_with fail
        go_ret
        exact ⟨ret_of (by rw [HF.out]; rfl), hb6⟩
    · have f1 : (S == S2) = false := by simpa using q1
      have HF : Hid (pB (K = K2 ∧ S = S2 ∧ xs = xs2 ∧ ys = ys2) = false) := pB_f (fun q => q1 q.2.1)
      clear q0 q1 cC cP
      go_enter Try.func53, Try.ntmps53
      go_wp2_with fail
      go_ret
      exact ⟨ret_of (by rw [HF.out]; rfl), z1⟩
  · have f0 : (K == K2) = false := by simpa using q0
    have HF : Hid (pB (K = K2 ∧ S = S2 ∧ xs = xs2 ∧ ys = ys2) = false) := pB_f (fun q => q0 q.1)
    clear q0 cC cP
    go_enter Try.func53, Try.ntmps53
    go_wp2_with fail
    go_ret
    exact ⟨ret_of (by rw [HF.out]; rfl), z1⟩
end Go.Proofs.Yteepiifhmbcciaa
/- The document's Equals of stored tensors. -/
namespace Go.Proofs.Yteepiifhmbcciaa
open Go.RowKit Go.Sort

def eqSp (a b : Sp) : Bool := a.k == b.k && (a.m == b.m && a.s == b.s)
theorem eqSp_iff (a b : Sp) : eqSp a b = true ↔ a = b := by
  obtain ⟨k, s, n⟩ := a
  obtain ⟨k', s', n'⟩ := b
  unfold eqSp
  simp only [Bool.and_eq_true, beq_iff_eq, Sp.mk.injEq]
set_option maxRecDepth 100000 in
theorem sp_eqIn (a b : Sp) (w : World) : (Op.equalIn 10000 60 (.agg #[.int .i64 a.k, .int .i64 a.m, .int .i64 a.s]) (.agg #[.int .i64 b.k, .int .i64 b.m, .int .i64 b.s])).run Try.prog w = .ok (eqSp a b) w := by
  have hp0 : ∀ a : Sp, (part 3 #[Value.int .i64 a.k, .int .i64 a.m, .int .i64 a.s] 0).run Try.prog w = .ok (.int .i64 a.k) w := fun a => by kernel_rfl
  have hp1 : ∀ a : Sp, (part 3 #[Value.int .i64 a.k, .int .i64 a.m, .int .i64 a.s] 1).run Try.prog w = .ok (.int .i64 a.m) w := fun a => by kernel_rfl
  have hp2 : ∀ a : Sp, (part 3 #[Value.int .i64 a.k, .int .i64 a.m, .int .i64 a.s] 2).run Try.prog w = .ok (.int .i64 a.s) w := fun a => by kernel_rfl
  have hf : (Try.prog.fieldsOf 60).toList.map (fun f => (f.name, f.type, f.offset)) = [("Kind", 3, 0), ("Mode", 3, 1), ("Size", 3, 2)] := by kernel_rfl
  rw [run_equalIn_struct w 9999 60 _ _ (by kernel_rfl) (by kernel_rfl)]
  obtain ⟨L, hL⟩ : ∃ L, (Try.prog.fieldsOf 60).toList = L := ⟨_, rfl⟩
  rw [hL] at hf ⊢
  match L, hf with
  | [f0, f1, f2], hf =>
    simp only [List.map_cons, List.map_nil, List.cons.injEq, Prod.mk.injEq, and_true] at hf
    obtain ⟨⟨n0, t0, o0⟩, ⟨n1, t1, o1⟩, n2, t2, o2⟩ := hf
    have h3 : ∀ a b : Int, (Op.equalIn 9999 3 (.int .i64 a) (.int .i64 b)).run Try.prog w = .ok (a == b) w := fun a b => run_equalIn_int w 9998 3 .i64 .i64 a b Try.underlying3
    unfold eqSp
    cases e1 : (a.k == b.k) <;> cases e2 : (a.m == b.m) <;> cases e3 : (a.s == b.s) <;> simp [Op.eqFields, n0, n1, n2, t0, t1, t2, o0, o1, o2, hp0, hp1, hp2, h3, e1, e2, e3]
theorem sp_neq (a b : Sp) (w : World) : (binOp .neq 60 (.agg #[.int .i64 a.k, .int .i64 a.m, .int .i64 a.s]) (.agg #[.int .i64 b.k, .int .i64 b.m, .int .i64 b.s])).run Try.prog w = .ok (.bool !(eqSp a b)) w := by
  rw [run_neq_struct, sp_eqIn]
  rfl
/-- what a level tells -/
def Lv.q (l : Lv) : Int × Int × List Int × List Int := (l.k, l.s, l.xs, l.ys)
theorem Lv.q_iff (l m : Lv) : l.q = m.q ↔ (l.k = m.k ∧ l.s = m.s ∧ l.xs = m.xs ∧ l.ys = m.ys) := by
  unfold Lv.q
  simp only [Prod.mk.injEq]
/-- two tensors tell the same -/
def eqT (a b : Ten) : Prop := (a.xs = b.xs ∧ a.vs = b.vs) ∧ a.fs = b.fs ∧ a.ls.map Lv.q = b.ls.map Lv.q
def EqTPost (w : World) (a b : Ten) (e : Ending) (w' : World) : Prop := e = .returned (.bool (pB (eqT a b))) ∧ Below w.heap.size w w'
set_option maxRecDepth 100000 in
set_option maxHeartbeats 4000000 in
theorem refEq5_any (a b : Ten) (w : World) (ha : a.In w w.heap.size) (hb : b.In w w.heap.size) (fa : fewT a) :
    Calls Try.prog 24 #[a.val, b.val] w (EqTPost w a b) := by
  have hmx : Try.prog.follows .mixedOrders = true := by kernel_rfl
  obtain ⟨W0, hW0⟩ : ∃ W, (w.alloc a.obj).alloc b.obj = W := ⟨_, rfl⟩
  have z0 := lvBelow w a.obj
  have HB0 : Hid (Below w.heap.size w W0) := by rw [← hW0]; exact z0.alloc z0.size b.obj
  obtain ⟨b1, b2⟩ := two_lv w a.obj b.obj
  rw [hW0] at b1 b2
  have HKP : Hid (∀ W, Below W0.heap.size W0 W → Below w.heap.size w W ∧ W.heap[w.heap.size]? = some a.obj ∧ W.heap[w.heap.size + 1]? = some b.obj ∧ a.In W W.heap.size ∧ b.In W W.heap.size) := fun W hW => ⟨HB0.out.trans (hW.mono HB0.out.size), keep_b hW b1, keep_b hW b2, ha.on (HB0.out.trans (hW.mono HB0.out.size)), hb.on (HB0.out.trans (hW.mono HB0.out.size))⟩
  have HFW := Lib.hid fa
  obtain ⟨_, _, _, hA0, hC0⟩ := HKP.out W0 (Below.refl _ _)
  have hE := equals_any a.A a.V b.A b.V a.n a.c a.vn a.vc b.n b.c b.vn b.vc a.xs a.vs b.xs b.vs W0 hA0.shape hA0.vals hC0.shape hC0.vals hA0.n1 hA0.v1 (by have := hC0.n1; omega) (by have := hC0.v1; omega)
  obtain ⟨k0, k1, k2, k3, _⟩ := lvCells b1
  obtain ⟨j0, j1, j2, j3, _⟩ := lvCells b2
  have HLL : Hid (a.ls.length = a.ln ∧ b.ls.length = b.ln ∧ a.fs.length = a.fn ∧ b.fs.length = b.fn) := ⟨ha.lvs.1, hb.lvs.1, ha.form.1, hb.form.1⟩
  have hfn : a.fn ≤ 40 := fa.2.1
  have hln : a.ln ≤ 40 := fa.2.2.1
  clear ha hb fa hA0 hC0 z0 b1 b2
  by_cases q1 : a.xs = b.xs ∧ a.vs = b.vs
  · rw [decide_eq_true q1.1, decide_eq_true q1.2] at hE
    by_cases q2 : a.fn = b.fn
    · have e2 : ((a.fn : Int) != (b.fn : Int)) = false := by simp [q2]
      by_cases q3 : a.ln = b.ln
      · have e3 : ((a.ln : Int) != (b.ln : Int)) = false := by simp [q3]
        have HQ : Hid ((a.xs = b.xs ∧ a.vs = b.vs) ∧ a.fn = b.fn ∧ a.ln = b.ln) := ⟨q1, q2, q3⟩
        clear q1 q2 q3
        go_enter Try.func24, Try.ntmps24
        go_wp2_with fail
        try rw [hW0]
        refine hE.mono ?_
        rintro e w1 ⟨rfl, hb1⟩
        have HB1 := Lib.hid hb1
        obtain ⟨_, n1, n2, _, _⟩ := HKP.out w1 hb1
        obtain ⟨k0, k1, k2, k3, _⟩ := lvCells n1
        obtain ⟨j0, j1, j2, j3, _⟩ := lvCells n2
        clear hb1 hE hW0 n1 n2
        go_wp2_with fail
        clear k0 k1 k2 k3 j0 j1 j2 j3
        go_loopw [40] (fun i wr => ∃ k : Nat, k ≤ a.fn ∧ i = .int .i64 k ∧ Hid (∀ j < k, a.fs[j]? = b.fs[j]?) ∧ Hid (Below W0.heap.size W0 wr)) (fun i _ => a.fn - (intOf i).toNat)
        case atStart => exact ⟨0, Nat.zero_le _, rfl, fun j hj => absurd hj (by omega), HB1.out⟩
        case round =>
          obtain ⟨k, hk, rfl, HA, HB⟩ := hrel
          obtain ⟨_, n1, n2, hi, hi2⟩ := HKP.out wr HB.out
          obtain ⟨k0, k1, k2, k3, _⟩ := lvCells n1
          obtain ⟨j0, j1, j2, j3, _⟩ := lvCells n2
          by_cases hlt : k < a.fn
          · have hlt2 : k < b.fn := by have := HQ.out.2.1; omega
            obtain ⟨bp, off, x, hAF, _, HX, hc0, hc1, hc2, _⟩ := hi.form.at_ hlt
            obtain ⟨bp2, off2, y, hBF, _, HY, hd0, hd1, hd2, _⟩ := hi2.form.at_ hlt2
            rw [hAF] at k1
            rw [hBF] at j1
            have hcn := fun W => sp_neq x y W
            have hgd := fun (o1 o2 : Operand) (W : World) => run_eqGuard_agg (P := Try.prog) W .neq 60 o1 o2 #[.int .i64 x.k, .int .i64 x.m, .int .i64 x.s] #[.int .i64 y.k, .int .i64 y.m, .int .i64 y.s] (by kernel_rfl)
            have hk0 : (0 : Int) ≤ k := by omega
            have hk1 : (k : Int) < a.fn := by omega
            have hk2 : (k : Int) < b.fn := by omega
            clear hi hi2 n1 n2 hAF hBF
            by_cases e : x = y
            · have he : eqSp x y = true := (eqSp_iff x y).2 e
              rw [he] at hcn
              have HE := Lib.hid e
              clear e he k0 k2 k3 j0 j2 j3
              go_wp2_with fail
              go_quiet (fail)
              go_wp2_with fail
              go_roundw
              case rel => exact ⟨k + 1, by omega, by go_num, fun j hj => by
                by_cases ej : j = k
                · subst ej; rw [HX.out, HY.out, HE.out]
                · exact HA.out j (by omega), below_drewN HB.out _⟩
              case measure => simp [intOf]; omega
            · have he : eqSp x y = false := by
                cases q : eqSp x y
                · rfl
                · exact absurd ((eqSp_iff x y).1 q) e
              rw [he] at hcn
              have HF : Hid (pB (eqT a b) = false) := pB_f fun q => e (by
                have h1 := HX.out
                rw [q.2.1, HY.out] at h1
                injection h1 with h1
                exact h1.symm)
              clear e he k0 k2 k3 j0 j2 j3
              go_wp2_with fail
              go_quiet (fail)
              go_wp2_with fail
              go_ret
              exact ⟨by rw [HF.out]; rfl, (HKP.out _ (below_drewN HB.out _)).1⟩
          · have HFS : Hid (a.fs = b.fs) := List.ext_getElem? fun j => by
              by_cases hj : j < k
              · exact HA.out j hj
              · have := HQ.out
                have := HLL.out
                rw [List.getElem?_eq_none (by omega), List.getElem?_eq_none (by omega)]
            clear hi hi2 n1 n2 HA HB1
            go_wp2_with fail
            clear k0 k1 k2 k3 j0 j1 j2 j3 hlt
            go_loopw [58] (fun i wr => ∃ k : Nat, k ≤ a.ln ∧ i = .int .i64 k ∧ Hid (∀ j < k, (a.ls.map Lv.q)[j]? = (b.ls.map Lv.q)[j]?) ∧ Hid (Below W0.heap.size W0 wr)) (fun i _ => a.ln - (intOf i).toNat)
            case atStart => exact ⟨0, Nat.zero_le _, rfl, fun j hj => absurd hj (by omega), HB.out⟩
            case round =>
              obtain ⟨r, hr, rfl, HA, HB2⟩ := hrel
              obtain ⟨_, n1, n2, hi, hi2⟩ := HKP.out wr HB2.out
              obtain ⟨k0, k1, k2, k3, _⟩ := lvCells n1
              obtain ⟨j0, j1, j2, j3, _⟩ := lvCells n2
              by_cases hlt : r < a.ln
              · have hlt2 : r < b.ln := by have := HQ.out.2.2; omega
                obtain ⟨bp, off, x, hAF, _, HX, hc0, hc1, hc2, hc3, hx⟩ := hi.lvs.at_ hlt
                obtain ⟨bp2, off2, y, hBF, _, HY, hd0, hd1, hd2, hd3, hy⟩ := hi2.lvs.at_ hlt2
                rw [hAF] at k2
                rw [hBF] at j2
                have hfew := HFW.out.2.2.2.2 x (List.mem_of_getElem? HX.out)
                have g1 := cell_regrown k2
                have g2 := cell_regrown j2
                have x0 := cell_regrown hc0
                have x1 := cell_regrown hc1
                have x2 := cell_regrown hc2
                have x3 := cell_regrown hc3
                have y0 := cell_regrown hd0
                have y1 := cell_regrown hd1
                have y2 := cell_regrown hd2
                have y3 := cell_regrown hd3
                have cS := fun d os => Calls.regrown_of (refSameL_any x.k x.s y.k y.s x.A x.B y.A y.B x.n x.c x.m x.e y.n y.c y.m y.e x.xs x.ys y.xs y.ys (grow (redrawn wr d) os) ((hx.below (below_regrown wr d os)).more (below_regrown wr d os).size).lvI ((hy.below (below_regrown wr d os)).more (below_regrown wr d os).size).lvI (by omega) (by omega))
                have hk0 : (0 : Int) ≤ r := by omega
                have hk1 : (r : Int) < a.ln := by omega
                have hk2 : (r : Int) < b.ln := by omega
                clear hi hi2 n1 n2 hAF hBF hfew hx hy hc0 hc1 hc2 hc3 hd0 hd1 hd2 hd3 k0 k1 k2 k3 j0 j1 j2 j3
                by_cases e : x.k = y.k ∧ x.s = y.s ∧ x.xs = y.xs ∧ x.ys = y.ys
                · rw [pB_t e] at cS
                  have HE : Hid (x.q = y.q) := (Lv.q_iff x y).2 e
                  clear e
                  go_wp2_with fail
                  refine wp_region_quiet_below hmx (by kernel_rfl) ?_
                  repeat (quiet_step (first | (go_at_call 53; with_reducible exact cS _ _)))
                  refine wpQuiet_nil ?_
                  intro _ hw'
                  obtain ⟨⟨dq, osq⟩, hw''⟩ := hw'
                  subst hw''
                  go_wp2_with fail
                  go_roundw
                  case rel => exact ⟨r + 1, by omega, by go_num, fun j hj => by
                    by_cases ej : j = r
                    · subst ej; rw [List.getElem?_map, List.getElem?_map, HX.out, HY.out, Option.map_some, Option.map_some, HE.out]
                    · exact HA.out j (by omega), HB2.out.trans ((below_regrown wr dq osq).mono HB2.out.size)⟩
                  case measure => simp [intOf]; omega
                · rw [pB_f e] at cS
                  have HF : Hid (pB (eqT a b) = false) := pB_f fun q => e ((Lv.q_iff x y).1 (by
                    have h1 : (a.ls.map Lv.q)[r]? = some x.q := by rw [List.getElem?_map, HX.out]; rfl
                    rw [q.2.2, List.getElem?_map, HY.out] at h1
                    injection h1 with h1
                    exact h1.symm))
                  clear e
                  go_wp2_with fail
                  refine wp_region_quiet_below hmx (by kernel_rfl) ?_
                  repeat (quiet_step (first | (go_at_call 53; with_reducible exact cS _ _)))
                  refine wpQuiet_nil ?_
                  intro _ hw'
                  obtain ⟨⟨dq, osq⟩, hw''⟩ := hw'
                  subst hw''
                  go_wp2_with fail
                  go_ret
                  exact ⟨by rw [HF.out]; rfl, (HKP.out _ (HB2.out.trans ((below_regrown wr dq osq).mono HB2.out.size))).1⟩
              · have HF : Hid (pB (eqT a b) = true) := pB_t ⟨HQ.out.1, HFS.out, List.ext_getElem? fun j => by
                  by_cases hj : j < r
                  · exact HA.out j hj
                  · have := HQ.out
                    have := HLL.out
                    rw [List.getElem?_eq_none (by rw [List.length_map]; omega), List.getElem?_eq_none (by rw [List.length_map]; omega)]⟩
                clear hi hi2 n1 n2 k0 k1 k2 k3 j0 j1 j2 j3
                go_wp2_with fail
                go_ret
                exact ⟨by rw [HF.out]; rfl, (HKP.out _ HB2.out).1⟩
      · have e3 : ((a.ln : Int) != (b.ln : Int)) = true := bne_iff_ne.2 (by omega)
        have HF : Hid (pB (eqT a b) = false) := pB_f fun q => q3 (by have := HLL.out; have h := congrArg List.length q.2.2; rw [List.length_map, List.length_map] at h; omega)
        clear q1 q2 q3
        go_enter Try.func24, Try.ntmps24
        go_wp2_with fail
        try rw [hW0]
        refine hE.mono ?_
        rintro e w1 ⟨rfl, hb1⟩
        have HB1 := Lib.hid hb1
        obtain ⟨_, n1, n2, _, _⟩ := HKP.out w1 hb1
        obtain ⟨k0, k1, k2, k3, _⟩ := lvCells n1
        obtain ⟨j0, j1, j2, j3, _⟩ := lvCells n2
        clear hb1 hE hW0 n1 n2
        go_wp2_with fail
        go_ret
        exact ⟨by rw [HF.out]; rfl, (HKP.out _ HB1.out).1⟩
    · have e2 : ((a.fn : Int) != (b.fn : Int)) = true := bne_iff_ne.2 (by omega)
      have HF : Hid (pB (eqT a b) = false) := pB_f fun q => q2 (by have := HLL.out; have h := congrArg List.length q.2.1; omega)
      clear q1 q2
      go_enter Try.func24, Try.ntmps24
      go_wp2_with fail
      try rw [hW0]
      refine hE.mono ?_
      rintro e w1 ⟨rfl, hb1⟩
      have HB1 := Lib.hid hb1
      obtain ⟨_, n1, n2, _, _⟩ := HKP.out w1 hb1
      obtain ⟨k0, k1, k2, k3, _⟩ := lvCells n1
      obtain ⟨j0, j1, j2, j3, _⟩ := lvCells n2
      clear hb1 hE hW0 n1 n2
      go_wp2_with fail
      go_ret
      exact ⟨by rw [HF.out]; rfl, (HKP.out _ HB1.out).1⟩
  · have hR : (decide (a.xs = b.xs) && decide (a.vs = b.vs)) = false := by
      rw [← Bool.not_eq_true, Bool.and_eq_true, decide_eq_true_iff, decide_eq_true_iff]
      exact q1
    rw [hR] at hE
    have HF : Hid (pB (eqT a b) = false) := pB_f fun q => q1 q.1
    clear q1 hR
    go_enter Try.func24, Try.ntmps24
    go_wp2_with fail
    try rw [hW0]
    refine hE.mono ?_
    rintro e w1 ⟨rfl, hb1⟩
    have HB1 := Lib.hid hb1
    clear hb1 hE hW0 k0 k1 k2 k3 j0 j1 j2 j3
    go_wp2_with fail
    go_ret
    exact ⟨by rw [HF.out]; rfl, (HKP.out _ HB1.out).1⟩
end Go.Proofs.Yteepiifhmbcciaa
/- The contracts of level's outline and Same. -/
namespace Go.Proofs.Yteepiifhmbcciaa
open Go.RowKit Go.Sort

set_option maxRecDepth 100000 in
theorem outline_any (K S : Int) (A B : Option Addr) (n c m e : Nat) (w : World) :
    Calls Try.prog 57 #[lvV K S A n c B m e] w fun x w' => x = .returned (.agg #[.int .i64 K, .int .i64 S]) ∧ Below w.heap.size w w' := by
  have z0 := lvBelow w (lvO K S A n c B m e)
  go_enter Try.func57, Try.ntmps57
  go_wp2
  refine bodyPost_ret (v := .agg #[.int .i64 K, .int .i64 S]) (by simp [results, Try.results57, go_sem]) rfl ⟨rfl, ?_⟩
  exact z0.alloc z0.size _
theorem equal_bel (A A2 : Option Addr) (n n2 c c2 : Nat) (xs ys : List Int) (w : World) (h : Ints w w.heap.size A n xs) (h2 : Ints w w.heap.size A2 n2 ys) (hn : n ≤ 100000) (hn2 : n2 ≤ 9223372036854775807) :
    Calls Try.prog 29 #[.slice A n c, .slice A2 n2 c2] w fun e w' => e = .returned (.bool (decide (xs = ys))) ∧ Below w.heap.size w w' :=
  (equalInt_any A A2 n n2 c c2 xs ys w w.heap.size h h2 hn hn2).mono fun e w' ⟨he, m, hm⟩ => ⟨he, by subst hm; exact below_drewN2 (Below.refl _ _) m⟩
set_option maxRecDepth 100000 in
theorem arr_eq (K S K2 S2 : Int) (w : World) : (Op.equalIn 10000 87 (.agg #[.int .i64 K, .int .i64 S]) (.agg #[.int .i64 K2, .int .i64 S2])).run Try.prog w = .ok (K == K2 && S == S2) w := by
  suffices h : ∀ d : Nat, (Op.equalIn (d + 1 + 1) 87 (.agg #[.int .i64 K, .int .i64 S]) (.agg #[.int .i64 K2, .int .i64 S2])).run Try.prog w = .ok (K == K2 && S == S2) w from h 9998
  intro d
  obtain ⟨i0, hi0, hz0, hz1, hz2⟩ := info_parts infoInt
  have h3 : ∀ a b : Int, (Op.equalIn (d + 1) 3 (.int .i64 a) (.int .i64 b)).run Try.prog w = .ok (a == b) w := fun a b => by simp [Op.equalIn, run_underlying Try.underlying3]
  have hs : (sizeOf 3).run Try.prog w = .ok 1 w := by simp [sizeOf, typeInfo, hi0, hz1]
  have hp0 : (part 3 #[Value.int .i64 K, Value.int .i64 S] (0 * 1)).run Try.prog w = .ok (.int .i64 K) w := by kernel_rfl
  have hp1 : (part 3 #[Value.int .i64 K2, Value.int .i64 S2] (0 * 1)).run Try.prog w = .ok (.int .i64 K2) w := by kernel_rfl
  have hp2 : (part 3 #[Value.int .i64 K, Value.int .i64 S] (1 * 1)).run Try.prog w = .ok (.int .i64 S) w := by kernel_rfl
  have hp3 : (part 3 #[Value.int .i64 K2, Value.int .i64 S2] (1 * 1)).run Try.prog w = .ok (.int .i64 S2) w := by kernel_rfl
  rw [Op.equalIn]
  simp only [Sem.run_bind, run_underlying Try.underlying87, Result.andThen_ok, hs]
  simp only [Std.Legacy.Range.forIn_eq_forIn_range', Std.Legacy.Range.size]
  cases h1 : (K == K2) <;> cases h2 : (S == S2) <;> simp [List.range', hp0, hp1, hp2, hp3, h3, h1, h2]
theorem arr_bin (K S K2 S2 : Int) (w : World) : (binOp .eql 87 (.agg #[.int .i64 K, .int .i64 S]) (.agg #[.int .i64 K2, .int .i64 S2])).run Try.prog w = .ok (.bool (K == K2 && S == S2)) w := by
  have := arr_eq K S K2 S2 w
  simp only [binOp]
  simp [Op.equal, Op.maxDepth, this]
set_option maxRecDepth 100000 in
theorem arr_guard (K S K2 S2 : Int) (x y : Operand) (w : World) : (eqGuard .eql 87 x y (.agg #[.int .i64 K, .int .i64 S]) (.agg #[.int .i64 K2, .int .i64 S2])).run Try.prog w = .ok () w := by
  have hm : Try.prog.eqGuardType Try.prog.depth 87 = false := by kernel_rfl
  simp [eqGuard, run_program, hm]

set_option maxRecDepth 100000 in
set_option maxHeartbeats 600000 in
theorem sameL_any (K S K2 S2 : Int) (A B A2 B2 : Option Addr) (n c m e n2 c2 m2 e2 : Nat) (xs ys xs2 ys2 : List Int) (w : World) (h : LvI w A n B m xs ys) (h2 : LvI w A2 n2 B2 m2 xs2 ys2) (hn : n ≤ 100000) (hm : m ≤ 100000) :
    Calls Try.prog 32 #[lvV K S A n c B m e, lvV K2 S2 A2 n2 c2 B2 m2 e2] w fun x w' => x = .returned (.bool (pB (K = K2 ∧ S = S2 ∧ xs = xs2 ∧ ys = ys2))) ∧ Below w.heap.size w w' := by
  have hmx : Try.prog.follows .mixedOrders = true := by kernel_rfl
  have z0 := lvBelow w (lvO K S A n c B m e)
  have z1 := z0.alloc z0.size (lvO K2 S2 A2 n2 c2 B2 m2 e2)
  have b1 := lvCells ((two_lv w (lvO K S A n c B m e) (lvO K2 S2 A2 n2 c2 B2 m2 e2)).1)
  have b2 := lvCells ((two_lv w (lvO K S A n c B m e) (lvO K2 S2 A2 n2 c2 B2 m2 e2)).2)
  replace h := h.below z1
  replace h2 := h2.below z1
  obtain ⟨W0, hW0⟩ : ∃ W0, (w.alloc (lvO K S A n c B m e)).alloc (lvO K2 S2 A2 n2 c2 B2 m2 e2) = W0 := ⟨_, rfl⟩
  rw [hW0] at b1 b2 h h2 z1
  obtain ⟨k0, k1, k2, k3, _⟩ := b1
  obtain ⟨j0, j1, j2, j3, _⟩ := b2
  have y0 := cell_regrown k0
  have y1 := cell_regrown k1
  have y2 := cell_regrown k2
  have y3 := cell_regrown k3
  have x0 := cell_regrown j0
  have x1 := cell_regrown j1
  have x2 := cell_regrown j2
  have x3 := cell_regrown j3
  have cO := fun d os => Calls.regrown_of (outline_any K S A B n c m e (grow (redrawn W0 d) os))
  have cO2 := fun d os => Calls.regrown_of (outline_any K2 S2 A2 B2 n2 c2 m2 e2 (grow (redrawn W0 d) os))
  have cP := fun d os => Calls.regrown_of (equal_bel A A2 n n2 c c2 xs xs2 (grow (redrawn W0 d) os) (h.below (below_regrown W0 d os)).pos (h2.below (below_regrown W0 d os)).pos hn h2.n1)
  have cC := fun d os => Calls.regrown_of (equal_bel B B2 m m2 e e2 ys ys2 (grow (redrawn W0 d) os) (h.below (below_regrown W0 d os)).crd (h2.below (below_regrown W0 d os)).crd hm h2.m1)
  clear k0 k1 k2 k3 j0 j1 j2 j3 z0 h h2
  have H0 := Lib.hid hW0
  clear hW0
  have hgd := fun x y w => arr_guard K S K2 S2 x y w
  have hae := fun w => arr_bin K S K2 S2 w
  by_cases q1 : K = K2 ∧ S = S2
  · have hq : (K == K2 && S == S2) = true := by simp [q1.1, q1.2]
    rw [hq] at hae
    by_cases q2 : xs = xs2
    · rw [decide_eq_true q2] at cP
      by_cases q3 : ys = ys2
      · rw [decide_eq_true q3] at cC
        have HF : Hid (pB (K = K2 ∧ S = S2 ∧ xs = xs2 ∧ ys = ys2) = true) := pB_t ⟨q1.1, q1.2, q2, q3⟩
        clear q1 q2 q3 hq
        go_enter Try.func32, Try.ntmps32
        go_wp2_with fail
        rw [H0.out]
        refine wp_region_quiet_below hmx (by kernel_rfl) ?_
        repeat (quiet_step (first | (go_at_call 57; with_reducible exact cO _ _) | (go_at_call 57; with_reducible exact cO2 _ _) | (go_at_call 29; with_reducible exact cP _ _) | (go_at_call 29; with_reducible exact cC _ _)))
        refine wpQuiet_nil ?_
        intro _ hw'
        obtain ⟨⟨dq, osq⟩, hw''⟩ := hw'
        subst hw''
        go_wp2
        go_ret
        exact ⟨ret_of (by rw [HF.out]; rfl), z1.trans ((below_regrown W0 dq osq).mono z1.size)⟩
      · rw [decide_eq_false q3] at cC
        have HF : Hid (pB (K = K2 ∧ S = S2 ∧ xs = xs2 ∧ ys = ys2) = false) := pB_f (fun q => q3 q.2.2.2)
        clear q1 q2 q3 hq
        go_enter Try.func32, Try.ntmps32
        go_wp2_with fail
        rw [H0.out]
        refine wp_region_quiet_below hmx (by kernel_rfl) ?_
        repeat (quiet_step (first | (go_at_call 57; with_reducible exact cO _ _) | (go_at_call 57; with_reducible exact cO2 _ _) | (go_at_call 29; with_reducible exact cP _ _) | (go_at_call 29; with_reducible exact cC _ _)))
        refine wpQuiet_nil ?_
        intro _ hw'
        obtain ⟨⟨dq, osq⟩, hw''⟩ := hw'
        subst hw''
        go_wp2
        go_ret
        exact ⟨ret_of (by rw [HF.out]; rfl), z1.trans ((below_regrown W0 dq osq).mono z1.size)⟩
    · rw [decide_eq_false q2] at cP
      have HF : Hid (pB (K = K2 ∧ S = S2 ∧ xs = xs2 ∧ ys = ys2) = false) := pB_f (fun q => q2 q.2.2.1)
      clear q1 q2 hq cC
      go_enter Try.func32, Try.ntmps32
      go_wp2_with fail
      rw [H0.out]
      refine wp_region_quiet_below hmx (by kernel_rfl) ?_
      repeat (quiet_step (first | (go_at_call 57; with_reducible exact cO _ _) | (go_at_call 57; with_reducible exact cO2 _ _) | (go_at_call 29; with_reducible exact cP _ _)))
      refine wpQuiet_nil ?_
      intro _ hw'
      obtain ⟨⟨dq, osq⟩, hw''⟩ := hw'
      subst hw''
      go_wp2
      go_ret
      exact ⟨ret_of (by rw [HF.out]; rfl), z1.trans ((below_regrown W0 dq osq).mono z1.size)⟩
  · have hq : (K == K2 && S == S2) = false := by
      by_cases qa : K = K2
      · have qb : ¬ S = S2 := fun qb => q1 ⟨qa, qb⟩
        simp [qb]
      · simp [qa]
    rw [hq] at hae
    have HF : Hid (pB (K = K2 ∧ S = S2 ∧ xs = xs2 ∧ ys = ys2) = false) := pB_f (fun q => q1 ⟨q.1, q.2.1⟩)
    clear q1 hq cC cP
    go_enter Try.func32, Try.ntmps32
    go_wp2_with fail
    rw [H0.out]
    refine wp_region_quiet_below hmx (by kernel_rfl) ?_
    repeat (quiet_step (first | (go_at_call 57; with_reducible exact cO _ _) | (go_at_call 57; with_reducible exact cO2 _ _)))
    refine wpQuiet_nil ?_
    intro _ hw'
    obtain ⟨⟨dq, osq⟩, hw''⟩ := hw'
    subst hw''
    go_wp2
    go_ret
    exact ⟨ret_of (by rw [HF.out]; rfl), z1.trans ((below_regrown W0 dq osq).mono z1.size)⟩
end Go.Proofs.Yteepiifhmbcciaa
/- slices.Equal of specs, slices.EqualFunc of levels. -/
namespace Go.Proofs.Yteepiifhmbcciaa
open Go.RowKit Go.Sort

set_option maxRecDepth 100000 in
set_option maxHeartbeats 1000000 in
theorem equalSp_any (A A2 : Option Addr) (n n2 c c2 : Nat) (xs ys : List Sp) (w : World) (h : Specs w w.heap.size A n xs) (h2 : Specs w w.heap.size A2 n2 ys) (hn : n ≤ 100000) :
    Calls Try.prog 30 #[.slice A n c, .slice A2 n2 c2] w fun e w' => e = .returned (.bool (pB (xs = ys))) ∧ Below w.heap.size w w' := by
  have HL : Hid (xs.length = n) := h.1
  have HL2 : Hid (ys.length = n2) := h2.1
  by_cases hne : n = n2
  · subst hne
    have e0 : ((n : Int) != (n : Int)) = false := by simp
    go_enter Try.func30, Try.ntmps30
    go_wp2
    go_loopw [13] (fun i wr => ∃ k : Nat, k ≤ n ∧ i = .int .i64 k ∧ Hid (Below w.heap.size w wr) ∧ Hid (xs.take k = ys.take k)) (fun i _ => n - (intOf i).toNat)
    case atStart => exact ⟨0, Nat.zero_le _, rfl, Below.refl _ _, by unfold Hid; simp⟩
    case round =>
      obtain ⟨k, hk, rfl, HB, HK⟩ := hrel
      by_cases hlt : k < n
      · obtain ⟨b, off, x, rfl, _, HX, hc0, hc1, hc2, _⟩ := (h.on HB.out (Nat.le_refl _)).at_ hlt
        obtain ⟨b2, off2, y, rfl, _, HY, hd0, hd1, hd2, _⟩ := (h2.on HB.out (Nat.le_refl _)).at_ hlt
        have hcn := fun W => sp_neq x y W
        have hgd := fun (o1 o2 : Operand) (W : World) => run_eqGuard_agg (P := Try.prog) W .neq 60 o1 o2 #[.int .i64 x.k, .int .i64 x.m, .int .i64 x.s] #[.int .i64 y.k, .int .i64 y.m, .int .i64 y.s] (by kernel_rfl)
        have hk0 : (0 : Int) ≤ k := by omega
        have hk1 : (k : Int) < n := by omega
        by_cases hxy : x = y
        · have HN : Hid (xs.take (k + 1) = ys.take (k + 1)) := by unfold Hid; rw [take_succ_of HX.out, take_succ_of HY.out, HK.out, hxy]
          have he : eqSp x y = true := (eqSp_iff x y).2 hxy
          rw [he] at hcn
          clear hxy he
          go_wp2
          go_quiet (fail)
          go_wp2
          go_roundw
          case rel => exact ⟨k + 1, by omega, by go_num, below_drewN HB.out _, HN⟩
          case measure => simp [intOf]; omega
        · have HF : Hid (pB (xs = ys) = false) := pB_f (by
            intro e; subst e
            have := HX.out; rw [HY.out] at this; exact hxy (by injection this with this; exact this.symm))
          have he : eqSp x y = false := by
            cases q : eqSp x y
            · rfl
            · exact absurd ((eqSp_iff x y).1 q) hxy
          rw [he] at hcn
          clear hxy he
          go_wp2
          go_quiet (fail)
          go_wp2
          go_ret
          exact ⟨by rw [HF.out]; rfl, below_drewN HB.out _⟩
      · have HF : Hid (pB (xs = ys) = true) := pB_t (by
          have := HK.out
          rwa [List.take_of_length_le (by rw [HL.out]; omega), List.take_of_length_le (by rw [HL2.out]; omega)] at this)
        go_wp2
        go_ret
        exact ⟨by rw [HF.out]; rfl, HB.out⟩
  · have HF : Hid (pB (xs = ys) = false) := pB_f (by intro e; subst e; exact hne (by rw [← HL.out, ← HL2.out]))
    have hne2 : ((n : Int) != (n2 : Int)) = true := by simp; omega
    clear hne
    go_enter Try.func30, Try.ntmps30
    go_wp2
    go_ret
    exact ⟨by rw [HF.out]; rfl, Below.refl _ _⟩

set_option maxRecDepth 100000 in
set_option maxHeartbeats 4000000 in
theorem equalLv_any (A B : Option Addr) (n m c d : Nat) (es fs : List Lv) (w : World) (h : Lvs w w.heap.size A n es) (h2 : Lvs w w.heap.size B m fs) (hn : n ≤ 100000) (hes : ∀ x ∈ es, x.n ≤ 100000 ∧ x.m ≤ 100000) :
    Calls Try.prog 31 #[.slice A n c, .slice B m d, .func (.func 32) #[] #[]] w fun e w' => e = .returned (.bool (pB (es.map Lv.q = fs.map Lv.q))) ∧ Below w.heap.size w w' := by
  have HL : Hid (es.length = n) := h.1
  have HL2 : Hid (fs.length = m) := h2.1
  have HES := Lib.hid hes
  clear hes
  by_cases hnm : n = m
  · subst hnm
    have e2 : ((n : Int) != (n : Int)) = false := by simp
    go_enter Try.func31, Try.ntmps31
    go_wp2
    go_loopw [17] (fun i wr => ∃ k : Nat, k ≤ n ∧ i = .int .i64 k ∧ Hid ((es.map Lv.q).take k = (fs.map Lv.q).take k) ∧ Hid (Below w.heap.size w wr)) (fun i _ => n - (intOf i).toNat)
    case atStart => exact ⟨0, Nat.zero_le _, rfl, rfl, Below.refl _ _⟩
    case round =>
      obtain ⟨k, hk, rfl, HT, HB⟩ := hrel
      by_cases hlt : k < n
      · obtain ⟨b, off, x, rfl, _, HX, hc0, hc1, hc2, hc3, ix⟩ := (h.on HB.out (Nat.le_refl _)).at_ hlt
        obtain ⟨b2, off2, y, rfl, _, HY, hd0, hd1, hd2, hd3, iy⟩ := (h2.on HB.out (Nat.le_refl _)).at_ hlt
        have hxn := HES.out x (List.mem_of_getElem? HX.out)
        have g0 := fun o => cellPast o hd0
        have g1 := fun o => cellPast o hd1
        have g2 := fun o => cellPast o hd2
        have g3 := fun o => cellPast o hd3
        have HXT := Lib.hid (take_succ_of (xs := es.map Lv.q) (k := k) (x := x.q) (by rw [List.getElem?_map, HX.out]; rfl))
        have HYT := Lib.hid (take_succ_of (xs := fs.map Lv.q) (k := k) (x := y.q) (by rw [List.getElem?_map, HY.out]; rfl))
        have hBr1 := lvBelow wr (lvO x.k x.s x.A x.n x.c x.B x.m x.e)
        have hBr := hBr1.alloc hBr1.size (lvO y.k y.s y.A y.n y.c y.B y.m y.e)
        obtain ⟨t1, t2⟩ := two_lv wr (lvO x.k x.s x.A x.n x.c x.B x.m x.e) (lvO y.k y.s y.A y.n y.c y.B y.m y.e)
        obtain ⟨k0, k1, k2, k3, _⟩ := lvCells t1
        obtain ⟨m0, m1, m2, m3, _⟩ := lvCells t2
        have HB2 := Lib.hid (HB.out.trans (hBr.mono HB.out.size))
        have HS := sameL_any x.k x.s y.k y.s x.A x.B y.A y.B x.n x.c x.m x.e y.n y.c y.m y.e x.xs x.ys y.xs y.ys _ (((ix.more HB.out.size).below hBr).more hBr.size).lvI (((iy.more HB.out.size).below hBr).more hBr.size).lvI (by omega) (by omega)
        clear ix iy hBr hBr1 t1 t2 hxn hd0 hd1 hd2 hd3
        by_cases hq : x.k = y.k ∧ x.s = y.s ∧ x.xs = y.xs ∧ x.ys = y.ys
        · rw [pB_t hq] at HS
          have HN : Hid ((es.map Lv.q).take (k + 1) = (fs.map Lv.q).take (k + 1)) := by unfold Hid; rw [HXT.out, HYT.out, HT.out, (Lv.q_iff x y).2 hq]
          clear hq
          go_wp2_with fail
          refine HS.mono ?_
          rintro e w3 ⟨rfl, hb3⟩
          have hbw := HB2.out.trans (hb3.mono HB2.out.size)
          clear HS hb3
          go_wp2_with fail
          go_roundw
          case rel => exact ⟨k + 1, by omega, by go_num, HN, hbw⟩
          case measure => simp [intOf]; omega
        · rw [pB_f hq] at HS
          have HF : Hid (pB (es.map Lv.q = fs.map Lv.q) = false) := pB_f fun e => hq (by
            have := congrArg (fun l => l[k]?) e
            simp only [List.getElem?_map, HX.out, HY.out] at this
            exact (Lv.q_iff x y).1 (Option.some.inj this))
          clear hq
          go_wp2_with fail
          refine HS.mono ?_
          rintro e w3 ⟨rfl, hb3⟩
          have hbw := HB2.out.trans (hb3.mono HB2.out.size)
          clear HS hb3
          go_wp2_with fail
          go_ret
          exact ⟨by rw [HF.out]; rfl, hbw⟩
      · have HF : Hid (pB (es.map Lv.q = fs.map Lv.q) = true) := pB_t (by
          have := HT.out
          rwa [List.take_of_length_le (by rw [List.length_map, HL.out]; omega), List.take_of_length_le (by rw [List.length_map, HL2.out]; omega)] at this)
        go_wp2
        go_ret
        exact ⟨by rw [HF.out]; rfl, HB.out⟩
  · have e2 : ((n : Int) != (m : Int)) = true := by simp; omega
    have HF : Hid (pB (es.map Lv.q = fs.map Lv.q) = false) := pB_f fun e => hnm (by
      have := congrArg List.length e
      rwa [List.length_map, List.length_map, HL.out, HL2.out] at this)
    clear hnm
    go_enter Try.func31, Try.ntmps31
    go_wp2
    go_ret
    exact ⟨by rw [HF.out]; rfl, Below.refl _ _⟩
end Go.Proofs.Yteepiifhmbcciaa
/- Slices of the call's own, of specs. -/
namespace Go.Proofs.Yteepiifhmbcciaa
open Go.RowKit

def cellsS : List Sp → List Value
  | [] => []
  | x :: ss => .int .i64 x.k :: .int .i64 x.m :: .int .i64 x.s :: cellsS ss
theorem cellsS_length (ss : List Sp) : (cellsS ss).length = 3 * ss.length := by
  induction ss with
  | nil => rfl
  | cons x ss ih => simp only [cellsS, List.length_cons, ih]; omega
theorem cellsS_append (a b : List Sp) : cellsS (a ++ b) = cellsS a ++ cellsS b := by
  induction a with
  | nil => rfl
  | cons x a ih => simp only [List.cons_append, cellsS, ih]
theorem cellsS_at {ss : List Sp} {k : Nat} {x : Sp} (h : ss[k]? = some x) : (cellsS ss)[3 * k]? = some (.int .i64 x.k) ∧ (cellsS ss)[3 * k + 1]? = some (.int .i64 x.m) ∧ (cellsS ss)[3 * k + 2]? = some (.int .i64 x.s) := by
  induction ss generalizing k with
  | nil => simp at h
  | cons y ss ih =>
    cases k with
    | zero => simp at h; subst h; exact ⟨rfl, rfl, rfl⟩
    | succ k =>
      have := ih (k := k) (by simpa using h)
      exact ⟨by rw [← this.1]; rfl, by rw [← this.2.1]; rfl, by rw [← this.2.2]; rfl⟩
theorem cellsS_one (ss : List Sp) : ∀ u ∈ cellsS ss, u.oneCell' = true := by
  induction ss with
  | nil => simp [cellsS]
  | cons x ss ih =>
    intro u hu
    simp only [cellsS, List.mem_cons] at hu
    rcases hu with rfl | rfl | rfl | hu
    · simp [Value.oneCell']
    · simp [Value.oneCell']
    · simp [Value.oneCell']
    · exact ih u hu
set_option maxRecDepth 100000 in
theorem infoS : (Try.prog.info? 60).map (fun i => (i.zero, i.size, i.bytes)) = some (some (.agg #[.int .i64 0, .int .i64 0, .int .i64 0]), 3, 24) := by kernel_rfl
/-- a slice of the call's own -/
def OwnS (w : World) (base : Nat) (A : Option Addr) (c : Nat) (ss : List Sp) : Prop := w.ownsRow base 60 3 (.slice A ss.length c) ss.length (cellsS ss)
section
variable {w w' : World} {base B c : Nat} {A : Option Addr} {ss : List Sp}
theorem OwnS.nil_ (w : World) (base : Nat) : OwnS w base none 0 [] := w.ownsRow_nil base _ 3
theorem OwnS.below (h : OwnS w base A c ss) (hb : Below B w w') (hB : w.heap.size ≤ B) : OwnS w' base A c ss :=
  World.ownsRow.kept h ⟨hb.os, hb.tape, hb.output, hb.size, fun i hi _ => hb.block i (by omega)⟩ (row := none) (by cases hh : (Value.slice A ss.length c).ownBlock with | none => exact .inl rfl | some k => exact .inr (by simp))
theorem OwnS.mono {base' : Nat} (h : OwnS w base A c ss) (hb : base' ≤ base) : OwnS w base' A c ss := by
  refine ⟨h.1, ?_⟩
  rcases h.2 with hh | ⟨g, cap, cur, h1, h2, h3⟩
  · exact .inl hh
  · exact .inr ⟨g, cap, cur, h1, by omega, h3⟩
theorem OwnS.heap (h : OwnS w base A c ss) : A = none ∨ ∃ g cur, A = some ⟨g, 0, none⟩ ∧ base ≤ g ∧ w.heap[g]? = some (.cells cur 60 (0, 0)) := by
  rcases h.2 with ⟨h1, _⟩ | ⟨g, cap, cur, h1, h2, h3, _⟩
  · injection h1 with h1; exact .inl h1
  · injection h1 with h1; exact .inr ⟨g, cur, h1, h2, h3⟩
theorem OwnS.same (h : OwnS w base A c ss) (hq : ∀ b, A = some ⟨b, 0, none⟩ → w'.heap[b]? = w.heap[b]?) : OwnS w' base A c ss := by
  refine ⟨h.1, ?_⟩
  rcases h.2 with h1 | ⟨b, cap, cur, h1, h2, h3, h4⟩
  · exact .inl h1
  · refine .inr ⟨b, cap, cur, h1, h2, ?_, h4⟩
    injection h1 with h1
    rw [hq b h1]; exact h3
theorem OwnS.rows (h : OwnS w base A c ss) : ∀ (k : Nat) (x : Sp), ss[k]? = some x → ∃ g, A = some ⟨g, 0, none⟩ ∧ base ≤ g ∧ g < w.heap.size ∧ w.cell? ⟨g, 3 * k, none⟩ = some (.int .i64 x.k) ∧ w.cell? ⟨g, 3 * k + 1, none⟩ = some (.int .i64 x.m) ∧ w.cell? ⟨g, 3 * k + 2, none⟩ = some (.int .i64 x.s) := by
  intro k x hx
  have hk := (List.getElem?_eq_some_iff.1 hx).1
  rcases h.2 with ⟨_, h1⟩ | ⟨g, cap, cur, hv, hb, hg, _, _, _, hr⟩
  · omega
  · have hA : A = some ⟨g, 0, none⟩ := by injection hv
    obtain ⟨c1, c2, c3⟩ := cellsS_at hx
    refine ⟨g, hA, hb, (Array.getElem?_eq_some_iff.1 hg).1, (cell_of_row _ _ _ _ _ _ hg).trans ?_, (cell_of_row _ _ _ _ _ _ hg).trans ?_, (cell_of_row _ _ _ _ _ _ hg).trans ?_⟩
    · rw [← hr, List.getElem?_take] at c1
      split at c1
      · simpa using c1
      · cases c1
    · rw [← hr, List.getElem?_take] at c2
      split at c2
      · simpa using c2
      · cases c2
    · rw [← hr, List.getElem?_take] at c3
      split at c3
      · simpa using c3
      · cases c3
theorem OwnS.lenCap (h : OwnS w base A c ss) : ss.length ≤ c := by
  rcases h.2 with ⟨h1, h2⟩ | ⟨g, cap, cur, h1, _, _, h5, _⟩
  · omega
  · injection h1 with _ _ h1; omega
end

theorem OwnS.specs {w : World} {base c : Nat} {A : Option Addr} {ss : List Sp} (h : OwnS w base A c ss) (hx : ∀ x ∈ ss, x.ok) : Specs w w.heap.size A ss.length ss := by
  refine ⟨rfl, hx, fun h0 => ?_⟩
  obtain ⟨g, e, _, hlt, _⟩ := h.rows 0 _ (List.getElem?_eq_getElem h0)
  refine ⟨g, 0, e, hlt, fun k x hk => ?_⟩
  obtain ⟨g', e', _, _, a1, a2, a3⟩ := h.rows k x hk
  rw [e] at e'
  injection e' with e'; injection e' with e'
  subst e'
  rw [Nat.zero_add, Nat.mul_comm k 3]
  exact ⟨a1, a2, a3⟩
theorem Specs.cells_ {w : World} {B n : Nat} {ad : Addr} {es : List Sp} (h : Specs w B (some ad) n es) : ∀ (j : Nat) (u : Value), (cellsS es)[j]? = some u → w.cell? (ad.add j) = some u := by
  intro j u hu
  have hj := (List.getElem?_eq_some_iff.1 hu).1
  rw [cellsS_length] at hj
  obtain ⟨hl, _, hc⟩ := h
  obtain ⟨b, off, e, _, hx⟩ := hc (by omega)
  injection e with e
  subst e
  have hk : j / 3 < es.length := by omega
  have hx' := hx (j / 3) _ (List.getElem?_eq_getElem hk)
  have hce := cellsS_at (List.getElem?_eq_getElem hk)
  have hadd : (Addr.add ⟨b, off, none⟩ j : Addr) = ⟨b, off + j, none⟩ := by
    by_cases h0 : j = 0
    · subst h0; simp [Addr.add]
    · simp [Addr.add, h0]
  rw [hadd]
  generalize es[j / 3] = y at hx' hce
  generalize hq : j / 3 = q at hx' hce
  rcases (by omega : j = 3 * q ∨ j = 3 * q + 1 ∨ j = 3 * q + 2) with rfl | rfl | rfl
  · rw [← hu, hce.1, ← hx'.1, Nat.mul_comm]
  · rw [← hu, hce.2.1, ← hx'.2.1, Nat.mul_comm, Nat.add_assoc]
  · rw [← hu, hce.2.2, ← hx'.2.2, Nat.mul_comm, Nat.add_assoc]
theorem run_appendNilS (w : World) (base : Nat) (ty : TypeId) (v : Value) (n : Nat) (xs : List Value) (hown : w.ownsRow base 60 3 v n xs) (c : Nat) :
    (Builtin.append_ #[23, 23] ty #[v, .slice none 0 c]).run Try.prog w = .ok v w := by
  obtain ⟨i, hi, hz, h1, h2⟩ := info_parts infoS
  have ht := Try.underlying23
  rcases hown.2 with ⟨rfl, rfl⟩ | ⟨g, cap, cur, rfl, _, _, hnc, _⟩ <;> simp [Builtin.append_, run_underlying ht, sizeOf, typeInfo, Builtin.lenOf, Builtin.firstCells, *, storeCells]
theorem run_appendSpecs (w : World) (base : Nat) (ty : TypeId) (A A2 : Option Addr) (c m c2 B : Nat) (xs ys : List Sp) (ho : OwnS w base A c xs) (hs : Specs w B A2 m ys) (hl : xs.length + m ≤ 1000000) (hb : base ≤ w.heap.size) :
    ∃ A' c' w', (Builtin.append_ #[23, 23] ty #[.slice A xs.length c, .slice A2 m c2]).run Try.prog w = .ok (.slice A' (xs.length + m) c') w' ∧ OwnS w' base A' c' (xs ++ ys) ∧ w.grownBy w' (Value.slice A xs.length c).ownBlock := by
  obtain ⟨i, hi, hz, h1, h2⟩ := info_parts infoS
  have hlen := hs.1
  rcases Option.eq_none_or_eq_some A2 with rfl | ⟨ad, rfl⟩
  · obtain rfl : m = 0 := by
      rcases Nat.eq_zero_or_pos m with h0 | h0
      · exact h0
      · obtain ⟨b, off, e', _⟩ := hs.2.2 h0; cases e'
    obtain rfl : ys = [] := List.eq_nil_of_length_eq_zero hlen
    have hrun := run_appendNilS w base ty (.slice A xs.length c) xs.length (cellsS xs) ho c2
    exact ⟨A, c, w, by simpa using hrun, by simpa using ho, World.grownBy.refl w _⟩
  · obtain ⟨v', w', hr, h3, h4, _⟩ := run_append_own (P := Try.prog) w base 23 ty 60 i (.agg #[.int .i64 0, .int .i64 0, .int .i64 0]) 3 24 Try.underlying23 hi hz h1 h2 rfl (by decide) (.slice A xs.length c) xs.length (cellsS xs) ho ad m c2 (cellsS ys) (by rw [cellsS_length, hlen]; omega) hs.cells_ (cellsS_one ys) (by unfold maxLen; omega) (by omega) hb
    obtain ⟨A', c', rfl⟩ : ∃ A' c', v' = .slice A' (xs.length + m) c' := by
      rcases h3.2 with ⟨rfl, h0⟩ | ⟨g, cap, cur, rfl, _⟩
      · rw [h0]; exact ⟨_, _, rfl⟩
      · exact ⟨_, _, rfl⟩
    refine ⟨A', c', w', hr, ?_, h4⟩
    unfold OwnS
    rw [List.length_append, hlen, cellsS_append]
    exact h3
/-- specs behind nothing -/
theorem step_cloneSpecs {ops : Array Oper} {o : Oper} {a : Act} {w : World} {K : Act → World → Prop} {Q : Exit → Act → World → Prop} {E : Prop}
    (hg : o.guard = none) (s x : Operand) (hop : o.op = Op.call { callee := Callee.builtin Builtin.append, args := #[s, x], argTypes := #[23, 23] })
    (A2 : Option Addr) (m c2 B : Nat) (ys : List Sp) (hs : a.eval s = .slice none 0 0) (hx : a.eval x = .slice A2 m c2) (hi2 : Specs w B A2 m ys) (hl : m ≤ 1000000)
    (hK : ∀ A' c' w', OwnS w' w.heap.size A' c' ys → Below w.heap.size w w' → K (a.put o.dst (.slice A' m c')) w') :
    if Region.wanted o (yielded ops a.tmps) = true then Oper.wp Try.prog o a w K Q else E := by
  have hw : Region.wanted o (yielded ops a.tmps) = true := by simp [Region.wanted, hg]
  rw [if_pos hw]
  obtain ⟨A', c', w', hrun, ho', hb'⟩ := run_appendSpecs w w.heap.size o.type none A2 0 m c2 B [] ys (OwnS.nil_ _ _) hi2 (by simpa using hl) (Nat.le_refl _)
  simp only [List.length_nil, Nat.zero_add, List.nil_append] at hrun ho'
  unfold Oper.wp
  simp [execOp, hop, resolve, invoke, builtin, hs, hx, hrun, Result.andThen]
  exact hK _ _ _ ho' (below_of_none hb')
/-- numbers behind nothing -/
theorem step_cloneInts {P : Program} {ops : Array Oper} {o : Oper} {a : Act} {w : World} {K : Act → World → Prop} {Q : Exit → Act → World → Prop} {E : Prop}
    (hg : o.guard = none) (s x : Operand) (t : TypeId) (hop : o.op = Op.call { callee := Callee.builtin Builtin.append, args := #[s, x], argTypes := #[t, t] })
    (e : TypeId) (i : TypeInfo) (ht : P.underlying t = some (.slice e)) (hi : P.info? e = some i) (hz : i.zero = some (.int .i64 0)) (h1 : i.size = 1) (h2 : i.bytes = 8)
    (A2 : Option Addr) (m c2 B : Nat) (ys : List Int) (hs : a.eval s = .slice none 0 0) (hx : a.eval x = .slice A2 m c2) (hi2 : Ints w B A2 m ys) (hl : m ≤ 1000000)
    (hK : ∀ A' c' w', OwnI w' w.heap.size e A' c' ys → Below w.heap.size w w' → K (a.put o.dst (.slice A' m c')) w') :
    if Region.wanted o (yielded ops a.tmps) = true then Oper.wp P o a w K Q else E :=
  step_appendInts hg s x t hop w.heap.size e i ht hi hz h1 h2 none A2 0 m c2 B 0 m [] ys hs hx (OwnI.nil_ _ _ _) rfl (Nat.zero_add _) hi2 hl (Nat.le_refl _) fun A' c' w' ho hb => hK A' c' w' (by simpa using ho) (below_of_none hb)

end Go.Proofs.Yteepiifhmbcciaa
