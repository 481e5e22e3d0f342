/- The contracts of level's outline and Same. -/
import Derived.Test.YtanbhpdobpiafaaLFew
import Derived.Lib.QuietBelow
namespace Go.Proofs.Ytanbhpdobpiafaa
open Go.RowKit Go.Sort

set_option maxRecDepth 100000 in
theorem outline_any (K S : Int) (A B : Option Addr) (n c m e : Nat) (w : World) :
    Calls Try.prog 45 #[lvV K S A n c B m e] w fun x w' => x = .returned (.agg #[.int .i64 K, .int .i64 S]) ∧ Below w.heap.size w w' := by
  have z0 := lvBelow w (lvO K S A n c B m e)
  go_enter Try.func45, Try.ntmps45
  go_wp2
  refine bodyPost_ret (v := .agg #[.int .i64 K, .int .i64 S]) (by simp [results, Try.results45, go_sem]) rfl ⟨rfl, ?_⟩
  exact z0.alloc z0.size _
theorem equal_bel (A A2 : Option Addr) (n n2 c c2 : Nat) (xs ys : List Int) (w : World) (h : Ints w w.heap.size A n xs) (h2 : Ints w w.heap.size A2 n2 ys) (hn : n ≤ 100000) (hn2 : n2 ≤ 9223372036854775807) :
    Calls Try.prog 46 #[.slice A n c, .slice A2 n2 c2] w fun e w' => e = .returned (.bool (decide (xs = ys))) ∧ Below w.heap.size w w' :=
  (equalInt_any A A2 n n2 c c2 xs ys w w.heap.size h h2 hn hn2).mono fun e w' ⟨he, m, hm⟩ => ⟨he, by subst hm; exact below_drewN2 (Below.refl _ _) m⟩
set_option maxRecDepth 100000 in
theorem arr_eq (K S K2 S2 : Int) (w : World) : (Op.equalIn 10000 62 (.agg #[.int .i64 K, .int .i64 S]) (.agg #[.int .i64 K2, .int .i64 S2])).run Try.prog w = .ok (K == K2 && S == S2) w := by
  suffices h : ∀ d : Nat, (Op.equalIn (d + 1 + 1) 62 (.agg #[.int .i64 K, .int .i64 S]) (.agg #[.int .i64 K2, .int .i64 S2])).run Try.prog w = .ok (K == K2 && S == S2) w from h 9998
  intro d
  obtain ⟨i0, hi0, hz0, hz1, hz2⟩ := info_parts infoInt
  have h3 : ∀ a b : Int, (Op.equalIn (d + 1) 3 (.int .i64 a) (.int .i64 b)).run Try.prog w = .ok (a == b) w := fun a b => by simp [Op.equalIn, run_underlying Try.underlying3]
  have hs : (sizeOf 3).run Try.prog w = .ok 1 w := by simp [sizeOf, typeInfo, hi0, hz1]
  have hp0 : (part 3 #[Value.int .i64 K, Value.int .i64 S] (0 * 1)).run Try.prog w = .ok (.int .i64 K) w := by kernel_rfl
  have hp1 : (part 3 #[Value.int .i64 K2, Value.int .i64 S2] (0 * 1)).run Try.prog w = .ok (.int .i64 K2) w := by kernel_rfl
  have hp2 : (part 3 #[Value.int .i64 K, Value.int .i64 S] (1 * 1)).run Try.prog w = .ok (.int .i64 S) w := by kernel_rfl
  have hp3 : (part 3 #[Value.int .i64 K2, Value.int .i64 S2] (1 * 1)).run Try.prog w = .ok (.int .i64 S2) w := by kernel_rfl
  rw [Op.equalIn]
  simp only [Sem.run_bind, run_underlying Try.underlying62, Result.andThen_ok, hs]
  simp only [Std.Legacy.Range.forIn_eq_forIn_range', Std.Legacy.Range.size]
  cases h1 : (K == K2) <;> cases h2 : (S == S2) <;> simp [List.range', hp0, hp1, hp2, hp3, h3, h1, h2]
theorem arr_bin (K S K2 S2 : Int) (w : World) : (binOp .eql 62 (.agg #[.int .i64 K, .int .i64 S]) (.agg #[.int .i64 K2, .int .i64 S2])).run Try.prog w = .ok (.bool (K == K2 && S == S2)) w := by
  have := arr_eq K S K2 S2 w
  simp only [binOp]
  simp [Op.equal, Op.maxDepth, this]
set_option maxRecDepth 100000 in
theorem arr_guard (K S K2 S2 : Int) (x y : Operand) (w : World) : (eqGuard .eql 62 x y (.agg #[.int .i64 K, .int .i64 S]) (.agg #[.int .i64 K2, .int .i64 S2])).run Try.prog w = .ok () w := by
  have hm : Try.prog.eqGuardType Try.prog.depth 62 = false := by kernel_rfl
  simp [eqGuard, run_program, hm]

set_option maxRecDepth 100000 in
set_option maxHeartbeats 600000 in
theorem sameL_any (K S K2 S2 : Int) (A B A2 B2 : Option Addr) (n c m e n2 c2 m2 e2 : Nat) (xs ys xs2 ys2 : List Int) (w : World) (h : LvI w A n B m xs ys) (h2 : LvI w A2 n2 B2 m2 xs2 ys2) (hn : n ≤ 100000) (hm : m ≤ 100000) :
    Calls Try.prog 24 #[lvV K S A n c B m e, lvV K2 S2 A2 n2 c2 B2 m2 e2] w fun x w' => x = .returned (.bool (pB (K = K2 ∧ S = S2 ∧ xs = xs2 ∧ ys = ys2))) ∧ Below w.heap.size w w' := by
  have hmx : Try.prog.follows .mixedOrders = true := by kernel_rfl
  have z0 := lvBelow w (lvO K S A n c B m e)
  have z1 := z0.alloc z0.size (lvO K2 S2 A2 n2 c2 B2 m2 e2)
  have b1 := lvCells (zz_one w (lvO K S A n c B m e) (lvO K2 S2 A2 n2 c2 B2 m2 e2))
  have b2 := lvCells (zz_two w (lvO K S A n c B m e) (lvO K2 S2 A2 n2 c2 B2 m2 e2))
  replace h := h.below z1
  replace h2 := h2.below z1
  obtain ⟨W0, hW0⟩ : ∃ W0, (w.alloc (lvO K S A n c B m e)).alloc (lvO K2 S2 A2 n2 c2 B2 m2 e2) = W0 := ⟨_, rfl⟩
  rw [hW0] at b1 b2 h h2 z1
  obtain ⟨k0, k1, k2, k3, _⟩ := b1
  obtain ⟨j0, j1, j2, j3, _⟩ := b2
  have y0 := cell_regrown k0
  have y1 := cell_regrown k1
  have y2 := cell_regrown k2
  have y3 := cell_regrown k3
  have x0 := cell_regrown j0
  have x1 := cell_regrown j1
  have x2 := cell_regrown j2
  have x3 := cell_regrown j3
  have cO := fun d os => Calls.regrown_of (outline_any K S A B n c m e (grow (redrawn W0 d) os))
  have cO2 := fun d os => Calls.regrown_of (outline_any K2 S2 A2 B2 n2 c2 m2 e2 (grow (redrawn W0 d) os))
  have cP := fun d os => Calls.regrown_of (equal_bel A A2 n n2 c c2 xs xs2 (grow (redrawn W0 d) os) (h.below (below_regrown W0 d os)).pos (h2.below (below_regrown W0 d os)).pos hn h2.n1)
  have cC := fun d os => Calls.regrown_of (equal_bel B B2 m m2 e e2 ys ys2 (grow (redrawn W0 d) os) (h.below (below_regrown W0 d os)).crd (h2.below (below_regrown W0 d os)).crd hm h2.m1)
  clear k0 k1 k2 k3 j0 j1 j2 j3 z0 h h2
  have H0 := Lib.hid hW0
  clear hW0
  have hgd := fun x y w => arr_guard K S K2 S2 x y w
  have hae := fun w => arr_bin K S K2 S2 w
  by_cases q1 : K = K2 ∧ S = S2
  · have hq : (K == K2 && S == S2) = true := by simp [q1.1, q1.2]
    rw [hq] at hae
    by_cases q2 : xs = xs2
    · rw [decide_eq_true q2] at cP
      by_cases q3 : ys = ys2
      · rw [decide_eq_true q3] at cC
        have HF : Hid (pB (K = K2 ∧ S = S2 ∧ xs = xs2 ∧ ys = ys2) = true) := pB_t ⟨q1.1, q1.2, q2, q3⟩
        clear q1 q2 q3 hq
        go_enter Try.func24, Try.ntmps24
        go_wp2_with fail
        rw [H0.out]
        refine wp_region_quiet_below hmx (by kernel_rfl) ?_
        repeat (quiet_step (first | (go_at_call 45; with_reducible exact cO _ _) | (go_at_call 45; with_reducible exact cO2 _ _) | (go_at_call 46; with_reducible exact cP _ _) | (go_at_call 46; with_reducible exact cC _ _)))
        refine wpQuiet_nil ?_
        intro _ hw'
        obtain ⟨⟨dq, osq⟩, hw''⟩ := hw'
        subst hw''
        go_wp2
        go_ret
        exact ⟨ret_of (by rw [HF.out]; rfl), z1.trans ((below_regrown W0 dq osq).mono z1.size)⟩
      · rw [decide_eq_false q3] at cC
        have HF : Hid (pB (K = K2 ∧ S = S2 ∧ xs = xs2 ∧ ys = ys2) = false) := pB_f (fun q => q3 q.2.2.2)
        clear q1 q2 q3 hq
        go_enter Try.func24, Try.ntmps24
        go_wp2_with fail
        rw [H0.out]
        refine wp_region_quiet_below hmx (by kernel_rfl) ?_
        repeat (quiet_step (first | (go_at_call 45; with_reducible exact cO _ _) | (go_at_call 45; with_reducible exact cO2 _ _) | (go_at_call 46; with_reducible exact cP _ _) | (go_at_call 46; with_reducible exact cC _ _)))
        refine wpQuiet_nil ?_
        intro _ hw'
        obtain ⟨⟨dq, osq⟩, hw''⟩ := hw'
        subst hw''
        go_wp2
        go_ret
        exact ⟨ret_of (by rw [HF.out]; rfl), z1.trans ((below_regrown W0 dq osq).mono z1.size)⟩
    · rw [decide_eq_false q2] at cP
      have HF : Hid (pB (K = K2 ∧ S = S2 ∧ xs = xs2 ∧ ys = ys2) = false) := pB_f (fun q => q2 q.2.2.1)
      clear q1 q2 hq cC
      go_enter Try.func24, Try.ntmps24
      go_wp2_with fail
      rw [H0.out]
      refine wp_region_quiet_below hmx (by kernel_rfl) ?_
      repeat (quiet_step (first | (go_at_call 45; with_reducible exact cO _ _) | (go_at_call 45; with_reducible exact cO2 _ _) | (go_at_call 46; with_reducible exact cP _ _)))
      refine wpQuiet_nil ?_
      intro _ hw'
      obtain ⟨⟨dq, osq⟩, hw''⟩ := hw'
      subst hw''
      go_wp2
      go_ret
      exact ⟨ret_of (by rw [HF.out]; rfl), z1.trans ((below_regrown W0 dq osq).mono z1.size)⟩
  · have hq : (K == K2 && S == S2) = false := by
      by_cases qa : K = K2
      · have qb : ¬ S = S2 := fun qb => q1 ⟨qa, qb⟩
        simp [qb]
      · simp [qa]
    rw [hq] at hae
    have HF : Hid (pB (K = K2 ∧ S = S2 ∧ xs = xs2 ∧ ys = ys2) = false) := pB_f (fun q => q1 ⟨q.1, q.2.1⟩)
    clear q1 hq cC cP
    go_enter Try.func24, Try.ntmps24
    go_wp2_with fail
    rw [H0.out]
    refine wp_region_quiet_below hmx (by kernel_rfl) ?_
    repeat (quiet_step (first | (go_at_call 45; with_reducible exact cO _ _) | (go_at_call 45; with_reducible exact cO2 _ _)))
    refine wpQuiet_nil ?_
    intro _ hw'
    obtain ⟨⟨dq, osq⟩, hw''⟩ := hw'
    subst hw''
    go_wp2
    go_ret
    exact ⟨ret_of (by rw [HF.out]; rfl), z1.trans ((below_regrown W0 dq osq).mono z1.size)⟩
end Go.Proofs.Ytanbhpdobpiafaa
