/- purflelaw04.LevelTells returns true at every two levels, and numbers. -/
import Derived.Test.YtanbhpdobpiafaaLTellD
import Derived.Test.YtanbhpdobpiafaaLFew
import Derived.Lib.QuietBelow
namespace Go.Proofs.Ytanbhpdobpiafaa
open Go.RowKit Go.Sort

theorem sameC_bel (A A2 : Option Addr) (n c c2 : Nat) (L : List (Int × Int)) (w : World) (h : Chs w w.heap.size A n L) (h2 : Chs w w.heap.size A2 n L) (hn : n ≤ 2000000) :
    Calls Try.prog 19 #[.slice A n c, .slice A2 n c2] w fun e w' => e = .returned (.bool true) ∧ Below w.heap.size w w' :=
  (sameC_any A A2 n c c2 L w _ h h2 hn).mono fun e w' ⟨he, m, hm⟩ => ⟨he, by subst hm; exact below_drewN2 (Below.refl _ _) m⟩

set_option maxRecDepth 100000 in
set_option maxHeartbeats 4000000 in
theorem levelTells_exit (K S K2 S2 a p at_ k : Int) (A B A2 B2 : Option Addr) (n c m e n2 c2 m2 e2 : Nat) (xs ys xs2 ys2 : List Int) (w : World) (h : LvI w A n B m xs ys) (h2 : LvI w A2 n2 B2 m2 xs2 ys2) (hx : ¬ (FewP K S a n m ∧ FewP K2 S2 0 n2 m2)) :
    Calls Try.prog 3 #[lvV K S A n c B m e, lvV K2 S2 A2 n2 c2 B2 m2 e2, .int .i64 a, .int .i64 p, .int .i64 at_, .int .i64 k] w fun x w' => x = .returned (.bool true) ∧ Below w.heap.size w w' := by
  have HF1 := fun W => fewL_any K S a A B n c m e W h.n1 h.m1
  have HF2 := fun W => fewL_any K2 S2 0 A2 B2 n2 c2 m2 e2 W h2.n1 h2.m1
  have z0 := lvBelow w (lvO K S A n c B m e)
  have z1 := z0.alloc z0.size (lvO K2 S2 A2 n2 c2 B2 m2 e2)
  have b1 := zz_one w (lvO K S A n c B m e) (lvO K2 S2 A2 n2 c2 B2 m2 e2)
  have b2 := zz_two w (lvO K S A n c B m e) (lvO K2 S2 A2 n2 c2 B2 m2 e2)
  by_cases h1 : FewP K S a n m
  · rw [pB_t h1] at HF1
    rw [pB_f (fun q => hx ⟨h1, q⟩)] at HF2
    clear hx h1 h h2
    go_enter Try.func3, Try.ntmps3
    go_wp2_with fail
    refine (lvLive_any _).mono ?_
    rintro x w1 ⟨rfl, hb1⟩
    have hb3 := z1.trans (hb1.mono z1.size)
    have q1 := oKeep hb1 b1
    have q2 := oKeep hb1 b2
    obtain ⟨k0, k1, k2, k3, _⟩ := lvCells q1
    clear z0 z1 b1 b2 hb1
    go_wp2_with fail
    refine (HF1 _).mono ?_
    rintro x w3 ⟨rfl, hb4⟩
    have hb5 := hb3.trans (hb4.mono hb3.size)
    replace q1 := oKeep hb4 q1
    replace q2 := oKeep hb4 q2
    clear k0 k1 k2 k3 hb3 hb4
    obtain ⟨k0, k1, k2, k3, _⟩ := lvCells q2
    go_wp2_with fail
    refine (HF2 _).mono ?_
    rintro x w6 ⟨rfl, hb6⟩
    have hb7 := hb5.trans (hb6.mono hb5.size)
    go_wp2_with fail
    go_ret
    exact ⟨rfl, hb7⟩
  · rw [pB_f h1] at HF1
    clear hx h1 h h2
    go_enter Try.func3, Try.ntmps3
    go_wp2_with fail
    refine (lvLive_any _).mono ?_
    rintro x w1 ⟨rfl, hb1⟩
    have hb3 := z1.trans (hb1.mono z1.size)
    have q1 := oKeep hb1 b1
    obtain ⟨k0, k1, k2, k3, _⟩ := lvCells q1
    clear z0 z1 b1 b2 hb1
    go_wp2_with fail
    refine (HF1 _).mono ?_
    rintro x w3 ⟨rfl, hb4⟩
    have hb5 := hb3.trans (hb4.mono hb3.size)
    go_wp2_with fail
    go_ret
    exact ⟨rfl, hb5⟩

set_option maxRecDepth 100000 in
set_option maxHeartbeats 8000000 in
theorem levelTells_main (K S K2 S2 a p at_ k : Int) (A B A2 B2 : Option Addr) (n c m e n2 c2 m2 e2 : Nat) (xs ys xs2 ys2 : List Int) (w : World) (h : LvI w A n B m xs ys) (hme : m ≤ e) (h2 : LvI w A2 n2 B2 m2 xs2 ys2) (hx : FewP K S a n m ∧ FewP K2 S2 0 n2 m2) :
    Calls Try.prog 3 #[lvV K S A n c B m e, lvV K2 S2 A2 n2 c2 B2 m2 e2, .int .i64 a, .int .i64 p, .int .i64 at_, .int .i64 k] w fun x w' => x = .returned (.bool true) ∧ Below w.heap.size w w' := by
  have HF1 := fun W => fewL_any K S a A B n c m e W h.n1 h.m1
  have HF2 := fun W => fewL_any K2 S2 0 A2 B2 n2 c2 m2 e2 W h2.n1 h2.m1
  rw [pB_t hx.1] at HF1
  rw [pB_t hx.2] at HF2
  have hn : n ≤ 100000 := by have := hx.1.1; omega
  have hm : m ≤ 100000 := by have := hx.1.2.1; omega
  obtain ⟨bv, bE, HB⟩ := below_both K S a n m xs ys hn hm
  obtain ⟨cN, cL, cE, hcN, HCH⟩ := children_both K S a p n m xs ys hn hm
  obtain ⟨fv, fb, fE, HFI⟩ := find_both K S a p at_ n m xs ys hn hm
  obtain ⟨pv, pu, pE, HPA⟩ := parent_both K S a k n m xs ys hn hm
  replace HB := fun W (hb : Below w.heap.size w W) => HB A B c e W (h.below hb)
  replace HCH := fun W (hb : Below w.heap.size w W) => HCH A B c e W (h.below hb)
  replace HFI := fun W (hb : Below w.heap.size w W) => HFI A B c e W (h.below hb) hme
  replace HPA := fun W (hb : Below w.heap.size w W) => HPA A B c e W (h.below hb)
  have HC1 := fun W (hb : Below w.heap.size w W) => lvCheck_any K S a A B n c m e xs ys W (h.below hb).pos h.n1 (h.below hb).crd h.m1
  have HC2 := fun W (hb : Below w.heap.size w W) => lvRefCheck_any K S a A B n c m e xs ys W (h.below hb) hn hm
  have HW1 := fun W => whole_any K S A B n c m e W
  have HW2 := fun W => refWhole_any K S A B n c m e W
  have HS1 := fun W (hb : Below w.heap.size w W) => sameL_any K S K2 S2 A B A2 B2 n c m e n2 c2 m2 e2 xs ys xs2 ys2 W (h.below hb) (h2.below hb) hn hm
  have HS2 := fun W (hb : Below w.heap.size w W) => refSameL_any K S K2 S2 A B A2 B2 n c m e n2 c2 m2 e2 xs ys xs2 ys2 W (h.below hb) (h2.below hb) hn hm
  obtain ⟨lE, hlE⟩ : ∃ lE, lvF K S xs ys a = lE := ⟨_, rfl⟩
  obtain ⟨wB, hwB⟩ : ∃ wB, wholeB K = wB := ⟨_, rfl⟩
  obtain ⟨sB, hsB⟩ : ∃ sB, pB (K = K2 ∧ S = S2 ∧ xs = xs2 ∧ ys = ys2) = sB := ⟨_, rfl⟩
  rw [hlE] at HC1 HC2
  rw [hwB] at HW1 HW2
  rw [hsB] at HS1 HS2
  have z0 := lvBelow w (lvO K S A n c B m e)
  have z1 := z0.alloc z0.size (lvO K2 S2 A2 n2 c2 B2 m2 e2)
  have b1 := zz_one w (lvO K S A n c B m e) (lvO K2 S2 A2 n2 c2 B2 m2 e2)
  have b2 := zz_two w (lvO K S A n c B m e) (lvO K2 S2 A2 n2 c2 B2 m2 e2)
  have f1 : (bv == bv) = true := by simp
  have f2 : (bE == bE) = true := by simp
  have f3 : (cE == cE) = true := by simp
  have f4 : (fv == fv) = true := by simp
  have f5 : (fb == fb) = true := by simp
  have f6 : (fE == fE) = true := by simp
  have f7 : (pv == pv) = true := by simp
  have f8 : (pu == pu) = true := by simp
  have f9 : (pE == pE) = true := by simp
  have g1 : (lE == lE) = true := by simp
  have g2 : (wB == wB) = true := by simp
  have g3 : (sB == sB) = true := by simp
  clear hx h h2 hlE hwB hsB hn hm hme
  go_enter Try.func3, Try.ntmps3
  go_wp2_with fail
  refine (lvLive_any _).mono ?_
  rintro x w1 ⟨rfl, hb1⟩
  have hb := z1.trans (hb1.mono z1.size)
  have q1 := oKeep hb1 b1
  have q2 := oKeep hb1 b2
  obtain ⟨k0, k1, k2, k3, _⟩ := lvCells q1
  clear z0 z1 b1 b2 hb1
  go_wp2_with fail
  refine (HF1 _).mono ?_
  rintro x w2 ⟨rfl, hb1⟩
  replace hb := hb.trans (hb1.mono hb.size)
  replace q1 := oKeep hb1 q1
  replace q2 := oKeep hb1 q2
  clear k0 k1 k2 k3 hb1 HF1
  obtain ⟨k0, k1, k2, k3, _⟩ := lvCells q2
  go_wp2_with fail
  refine (HF2 _).mono ?_
  rintro x w3 ⟨rfl, hb1⟩
  replace hb := hb.trans (hb1.mono hb.size)
  replace q1 := oKeep hb1 q1
  replace q2 := oKeep hb1 q2
  clear k0 k1 k2 k3 hb1 HF2
  obtain ⟨k0, k1, k2, k3, _⟩ := lvCells q1
  go_wp2_with fail
  refine ((HB _ hb).1).mono ?_
  rintro x w4 ⟨rfl, hb1⟩
  replace hb := hb.trans (hb1.mono hb.size)
  replace q1 := oKeep hb1 q1
  replace q2 := oKeep hb1 q2
  clear k0 k1 k2 k3 hb1
  obtain ⟨k0, k1, k2, k3, _⟩ := lvCells q1
  go_wp2_with fail
  refine ((HB _ hb).2).mono ?_
  rintro x w5 ⟨rfl, hb1⟩
  replace hb := hb.trans (hb1.mono hb.size)
  replace q1 := oKeep hb1 q1
  replace q2 := oKeep hb1 q2
  clear k0 k1 k2 k3 hb1 HB
  obtain ⟨k0, k1, k2, k3, _⟩ := lvCells q1
  go_wp2_with fail
  refine ((HCH _ hb).1).mono ?_
  rintro x w6 ⟨A3, c3, rfl, HO1, hb1⟩
  replace hb := hb.trans (hb1.mono hb.size)
  replace q1 := oKeep hb1 q1
  replace q2 := oKeep hb1 q2
  have HX := Lib.hid HO1
  clear k0 k1 k2 k3 hb1 HO1
  obtain ⟨k0, k1, k2, k3, _⟩ := lvCells q1
  go_wp2_with fail
  refine ((HCH _ hb).2).mono ?_
  rintro x w7 ⟨A4, c4, rfl, HO1, hb1⟩
  replace hb := hb.trans (hb1.mono hb.size)
  replace q1 := oKeep hb1 q1
  replace q2 := oKeep hb1 q2
  replace HX := Lib.hid ((HX.out.below hb1).more hb1.size)
  have HY := Lib.hid HO1
  clear k0 k1 k2 k3 hb1 HCH HO1
  obtain ⟨k0, k1, k2, k3, _⟩ := lvCells q1
  go_wp2_with fail
  refine ((HFI _ hb).1).mono ?_
  rintro x w8 ⟨rfl, hb1⟩
  replace hb := hb.trans (hb1.mono hb.size)
  replace q1 := oKeep hb1 q1
  replace q2 := oKeep hb1 q2
  replace HX := Lib.hid ((HX.out.below hb1).more hb1.size)
  replace HY := Lib.hid ((HY.out.below hb1).more hb1.size)
  clear k0 k1 k2 k3 hb1
  obtain ⟨k0, k1, k2, k3, _⟩ := lvCells q1
  go_wp2_with fail
  refine ((HFI _ hb).2).mono ?_
  rintro x w9 ⟨rfl, hb1⟩
  replace hb := hb.trans (hb1.mono hb.size)
  replace q1 := oKeep hb1 q1
  replace q2 := oKeep hb1 q2
  replace HX := Lib.hid ((HX.out.below hb1).more hb1.size)
  replace HY := Lib.hid ((HY.out.below hb1).more hb1.size)
  clear k0 k1 k2 k3 hb1 HFI
  obtain ⟨k0, k1, k2, k3, _⟩ := lvCells q1
  go_wp2_with fail
  refine ((HPA _ hb).1).mono ?_
  rintro x w10 ⟨rfl, hb1⟩
  replace hb := hb.trans (hb1.mono hb.size)
  replace q1 := oKeep hb1 q1
  replace q2 := oKeep hb1 q2
  replace HX := Lib.hid ((HX.out.below hb1).more hb1.size)
  replace HY := Lib.hid ((HY.out.below hb1).more hb1.size)
  clear k0 k1 k2 k3 hb1
  obtain ⟨k0, k1, k2, k3, _⟩ := lvCells q1
  go_wp2_with fail
  refine ((HPA _ hb).2).mono ?_
  rintro x w11 ⟨rfl, hb1⟩
  replace hb := hb.trans (hb1.mono hb.size)
  replace q1 := oKeep hb1 q1
  replace q2 := oKeep hb1 q2
  replace HX := Lib.hid ((HX.out.below hb1).more hb1.size)
  replace HY := Lib.hid ((HY.out.below hb1).more hb1.size)
  clear k0 k1 k2 k3 hb1 HPA
  obtain ⟨k0, k1, k2, k3, _⟩ := lvCells q1
  have hmx : Try.prog.follows .mixedOrders = true := by kernel_rfl
  obtain ⟨j0, j1, j2, j3, _⟩ := lvCells q2
  have y0 := cell_regrown k0
  have y1 := cell_regrown k1
  have y2 := cell_regrown k2
  have y3 := cell_regrown k3
  have x0 := cell_regrown j0
  have x1 := cell_regrown j1
  have x2 := cell_regrown j2
  have x3 := cell_regrown j3
  have cA := fun d os => Calls.regrown_of (sameC_bel A3 A4 cN c3 c4 cL (grow (redrawn w11 d) os) ((HX.out.below (below_regrown w11 d os)).more (below_regrown w11 d os).size) ((HY.out.below (below_regrown w11 d os)).more (below_regrown w11 d os).size) hcN)
  have cB := fun d os => Calls.regrown_of (HC1 (grow (redrawn w11 d) os) (hb.trans ((below_regrown w11 d os).mono hb.size)))
  have cC := fun d os => Calls.regrown_of (HC2 (grow (redrawn w11 d) os) (hb.trans ((below_regrown w11 d os).mono hb.size)))
  have cD := fun d os => Calls.regrown_of (HW1 (grow (redrawn w11 d) os))
  have cE' := fun d os => Calls.regrown_of (HW2 (grow (redrawn w11 d) os))
  have cF := fun d os => Calls.regrown_of (HS1 (grow (redrawn w11 d) os) (hb.trans ((below_regrown w11 d os).mono hb.size)))
  have cG := fun d os => Calls.regrown_of (HS2 (grow (redrawn w11 d) os) (hb.trans ((below_regrown w11 d os).mono hb.size)))
  clear k0 k1 k2 k3 j0 j1 j2 j3 HX HY HC1 HC2 HW1 HW2 HS1 HS2 q1 q2
  go_wp2_with fail
  dsimp only [List.append]
  refine wp_region_quiet_below hmx (by kernel_rfl) ?_
  repeat (quiet_step (first | (go_at_call 19; with_reducible exact cA _ _) | (go_at_call 20; with_reducible exact cB _ _) | (go_at_call 21; with_reducible exact cC _ _) | (go_at_call 22; with_reducible exact cD _ _) | (go_at_call 23; with_reducible exact cE' _ _) | (go_at_call 24; with_reducible exact cF _ _) | (go_at_call 25; with_reducible exact cG _ _)))
  refine wpQuiet_nil ?_
  intro _ hw'
  obtain ⟨⟨dq, osq⟩, hw''⟩ := hw'
  subst hw''
  go_wp2
  go_ret
  exact ⟨rfl, hb.trans ((below_regrown w11 dq osq).mono hb.size)⟩

theorem levelTells_any (w : World) (K S : Int) (A : Option Addr) (n c : Nat) (B : Option Addr) (m e : Nat) (xs ys : List Int) (h1 : Ints w w.heap.size A n xs) (h2 : n ≤ 9223372036854775807) (h3 : Ints w w.heap.size B m ys) (h4 : m ≤ 9223372036854775807) (_h5 : n ≤ c) (h6 : m ≤ e) (_h7 : -9223372036854775808 ≤ K ∧ K ≤ 9223372036854775807) (_h8 : -9223372036854775808 ≤ S ∧ S ≤ 9223372036854775807)
    (K2 S2 : Int) (A2 : Option Addr) (n2 c2 : Nat) (B2 : Option Addr) (m2 e2 : Nat) (xs2 ys2 : List Int) (i1 : Ints w w.heap.size A2 n2 xs2) (i2 : n2 ≤ 9223372036854775807) (i3 : Ints w w.heap.size B2 m2 ys2) (i4 : m2 ≤ 9223372036854775807) (_i5 : n2 ≤ c2) (_i6 : m2 ≤ e2) (_i7 : -9223372036854775808 ≤ K2 ∧ K2 ≤ 9223372036854775807) (_i8 : -9223372036854775808 ≤ S2 ∧ S2 ≤ 9223372036854775807)
    (a : Int) (_ : -9223372036854775808 ≤ a) (_ : a ≤ 9223372036854775807) (p : Int) (_ : -9223372036854775808 ≤ p) (_ : p ≤ 9223372036854775807) (t : Int) (_ : -9223372036854775808 ≤ t) (_ : t ≤ 9223372036854775807) (k : Int) (_ : -9223372036854775808 ≤ k) (_ : k ≤ 9223372036854775807) :
    Calls Try.prog 3 #[lvV K S A n c B m e, lvV K2 S2 A2 n2 c2 B2 m2 e2, .int .i64 a, .int .i64 p, .int .i64 t, .int .i64 k] w fun x w' => x = .returned (.bool true) ∧ Below w.heap.size w w' := by
  by_cases hx : FewP K S a n m ∧ FewP K2 S2 0 n2 m2
  · exact levelTells_main K S K2 S2 a p t k A B A2 B2 n c m e n2 c2 m2 e2 xs ys xs2 ys2 w ⟨h1, h3, h2, h4⟩ h6 ⟨i1, i3, i2, i4⟩ hx
  · exact levelTells_exit K S K2 S2 a p t k A B A2 B2 n c m e n2 c2 m2 e2 xs ys xs2 ys2 w ⟨h1, h3, h2, h4⟩ ⟨i1, i3, i2, i4⟩ hx
end Go.Proofs.Ytanbhpdobpiafaa
