/- purflelaw04.LevelJoins returns true where the level of both may be. -/
import Derived.Test.YtanbhpdobpiafaaLJoinL
namespace Go.Proofs.Ytanbhpdobpiafaa
open Go.RowKit


set_option maxRecDepth 100000 in
set_option maxHeartbeats 8000000 in
theorem levelJoins_ok_small (K S : Int) (A : Option Addr) (n c : Nat) (AA : List (List Int)) (B : Option Addr) (m e : Nat) (BB : List (List Int)) (w : World) (hA : IntsLL w w.heap.size A n AA) (hn : n ≤ 5864062014805) (hAb : ∀ L ∈ AA, L.length ≤ 17592186044416) (hB : IntsLL w w.heap.size B m BB) (hm : m ≤ 5864062014805) (hBb : ∀ L ∈ BB, L.length ≤ 17592186044416) (h100 : n + m ≤ 100) (hEz : makeE K S (AA ++ BB) = 0) (hwb : wholeB K = true) (hS : ¬ 200 < S) :
    Calls Try.prog 8 #[.int .i64 K, .int .i64 S, .slice A n c, .slice B m e] w fun x w' => x = .returned (.bool true) ∧ Below w.heap.size w w' := by
  have HB : Below w.heap.size w w := Below.refl _ _
  have d1 : decide ((100 : Int) < (n : Int) + (m : Int)) = false := decide_eq_false (by omega)
  have d2 : ¬ (100 : Int) < (n : Int) + (m : Int) := by omega
  have hAc : ∀ L ∈ AA, L.length ≤ 9223372036854775807 := fun L hL => by have := hAb L hL; omega
  have hBc : ∀ L ∈ BB, L.length ≤ 9223372036854775807 := fun L hL => by have := hBb L hL; omega
  have hZc : ∀ L ∈ AA ++ BB, L.length ≤ 9223372036854775807 := fun L hL => by rcases List.mem_append.1 hL with q | q; exact hAc L q; exact hBc L q
  have HAL : Hid (AA.length = n) := hA.1
  obtain ⟨hEa, hEb⟩ := make_split hEz
  have HMA := fun W (hI : IntsLL W W.heap.size A n AA) => make_ok K S A n c _ W hI (by omega) hAc hEa
  have HMB := fun W (hI : IntsLL W W.heap.size B m BB) => make_ok K S B m e _ W hI (by omega) hBc hEb
  have HMZ := fun W A' c' (hI : IntsLL W W.heap.size A' (n + m) (AA ++ BB)) => make_ok K S A' (n + m) c' _ W hI (by omega) hZc hEz
  have hxa := (makeE_ok hEa).2.2
  have hxb := (makeE_ok hEb).2.2
  have hxz := (makeE_ok hEz).2.2
  have htj := tot_join hEa hEb hEz
  have hkj := fun (p : Nat) (hp : p < BB.length) => kids_join hEa hEz (p := p) hp
  rw [List.length_append] at hxz
  rw [hA.1] at hxa htj hkj hxz
  rw [hB.1] at hxb htj hkj hxz
  obtain ⟨PA, hPA⟩ : ∃ PA, mkPos K AA = PA := ⟨_, rfl⟩
  obtain ⟨CA, hCA⟩ : ∃ CA, mkCrd K AA = CA := ⟨_, rfl⟩
  obtain ⟨PB, hPB⟩ : ∃ PB, mkPos K BB = PB := ⟨_, rfl⟩
  obtain ⟨CB, hCB⟩ : ∃ CB, mkCrd K BB = CB := ⟨_, rfl⟩
  obtain ⟨PZ, hPZ⟩ : ∃ PZ, mkPos K (AA ++ BB) = PZ := ⟨_, rfl⟩
  obtain ⟨CZ, hCZ⟩ : ∃ CZ, mkCrd K (AA ++ BB) = CZ := ⟨_, rfl⟩
  rw [hPA, hCA] at HMA hxa
  rw [hPB, hCB] at HMB hxb
  rw [hPZ, hCZ] at HMZ hxz
  rw [hCA, hCB, hCZ] at htj
  rw [hPB, hCB, hPZ, hCZ, hCA] at hkj
  have HXA := Lib.hid hxa
  have HXB := Lib.hid hxb
  have HXZ := Lib.hid hxz
  have HKJ := Lib.hid hkj
  obtain ⟨mb, hmb, HLB⟩ := lok_of hxb
  obtain rfl : mb = m := by omega
  have HLBH := Lib.hid HLB
  obtain ⟨Ta, hTa⟩ : ∃ Ta, totN K S CA n = Ta := ⟨_, rfl⟩
  obtain ⟨Tb, hTb⟩ : ∃ Tb, totN K S CB mb = Tb := ⟨_, rfl⟩
  obtain ⟨Tz, hTz⟩ : ∃ Tz, totN K S CZ (n + mb) = Tz := ⟨_, rfl⟩
  have hTa1 : Ta ≤ 1048576 := by
    have := (lvF_pos hxa).2.2.2.1
    rw [totN_eq (lvF_pos hxa).1.2.2.1, hTa] at this; omega
  have hTb1 : Tb ≤ 1048576 := by have := HLB.tot; rw [hTb] at this; exact this
  rw [hTa, hTb, hTz] at htj
  rw [hTa] at hkj
  have HKJ2 := Lib.hid hkj
  have HTA := Lib.hid hTa
  have HTB := Lib.hid hTb
  have HTZ := Lib.hid hTz
  have t1 : ((Tz : Int) != (Ta : Int) + (Tb : Int)) = false := by rw [htj]; simp
  have t2 : ((Tz : Int) == (Ta : Int) + (Tb : Int)) = true := by rw [htj]; simp
  clear hxa hxb hxz htj hkj HLB hmb hEa hEb hEz hTa hTb hTz hAb hBb hAc hBc hZc HKJ hPA hCA hPB hCB hPZ hCZ
  have d3 : decide (200 < S) = false := decide_eq_false hS
  go_enter Try.func8, Try.ntmps8
  go_wp2_with fail
  refine (lvLive_any _).mono ?_
  rintro x w1 ⟨rfl, hb⟩
  replace hA := (hA.below hb).more hb.size
  replace hB := (hB.below hb).more hb.size
  replace HB := HB.trans (hb.mono HB.size)
  clear hb
  go_wp2_with fail
  refine (HMA _ hA).mono ?_
  rintro x w2 ⟨A1, n1, c1, A2, m1, c2, rfl, LX, hx1, hx2, hb⟩
  replace hA := (hA.below hb).more hb.size
  replace hB := (hB.below hb).more hb.size
  replace HB := HB.trans (hb.mono HB.size)
  clear hb
  have hz := lvBelow w2 (lvO K S A1 n1 c1 A2 m1 c2)
  have zx := heap_alloc_new w2 (lvO K S A1 n1 c1 A2 m1 c2)
  replace hA := (hA.below hz).more hz.size
  replace hB := (hB.below hz).more hz.size
  replace LX := LX.below hz
  replace HB := HB.trans (hz.mono HB.size)
  clear hz
  go_wp2_with fail
  refine (HMB _ hB).mono ?_
  rintro x w3 ⟨A3, n3, c3, A4, m3, c4, rfl, LY, hy1, hy2, hb⟩
  replace hA := (hA.below hb).more hb.size
  replace hB := (hB.below hb).more hb.size
  replace LX := LX.below hb
  replace zx := oKeep hb zx
  replace HB := HB.trans (hb.mono HB.size)
  clear hb
  have hz := lvBelow w3 (lvO K S A3 n3 c3 A4 m3 c4)
  have zy := heap_alloc_new w3 (lvO K S A3 n3 c3 A4 m3 c4)
  replace hA := (hA.below hz).more hz.size
  replace hB := (hB.below hz).more hz.size
  replace LX := LX.below hz
  replace zx := oKeep hz zx
  replace LY := LY.below hz
  replace HB := HB.trans (hz.mono HB.size)
  clear hz
  go_wp2_with (first | (at_builtin; refine wpList_appendHeads rfl (.const (.slice none 0 0)) (.tmp 53) rfl (w3.alloc (lvO K S A3 n3 c3 A4 m3 c4)).heap.size (w3.alloc (lvO K S A3 n3 c3 A4 m3 c4)).heap.size none A 0 n c 0 n [] AA rfl rfl (OwnH.nil_ _ _ _) hA rfl (Nat.zero_add n) (by omega) (Nat.le_refl _) (Nat.le_refl _) ?_; intro A6 c6 w6 HO6 hb6; have hB6 := hB.below hb6) | (at_builtin; refine wpList_appendHeads rfl (.tmp 54) (.tmp 55) rfl (w3.alloc (lvO K S A3 n3 c3 A4 m3 c4)).heap.size (w3.alloc (lvO K S A3 n3 c3 A4 m3 c4)).heap.size A6 B c6 mb e n (n + mb) ([] ++ AA) BB rfl rfl HO6 hB6 HAL.out rfl (by omega) hb6.size (Nat.le_refl _) ?_; intro A7 c7 w7 HO7 hb7))
  have hbq := hb6.trans hb7
  have hZ := HO7.ints hbq.size
  rw [List.nil_append] at hZ
  have hlz : (AA ++ BB).length = n + mb := by rw [List.length_append, HAL.out, hB.1]
  rw [hlz] at hZ
  replace LX := LX.below hbq
  replace LY := LY.below hbq
  replace zx := oKeep hbq zx
  replace zy := oKeep hbq zy
  replace HB := HB.trans (hbq.mono HB.size)
  clear hlz hb6 hb7 hB6 HO6 HO7 hA hB hbq
  go_wp2_with fail
  refine (HMZ _ A7 c7 hZ).mono ?_
  rintro x w9 ⟨A8, n8, c8, A9, m9, c9, rfl, LZ, hz1, hz2, hb⟩
  replace LX := LX.below hb
  replace LY := LY.below hb
  replace zx := oKeep hb zx
  replace zy := oKeep hb zy
  replace HB := HB.trans (hb.mono HB.size)
  clear hb
  have hz := lvBelow w9 (lvO K S A8 n8 c8 A9 m9 c9)
  have zz := heap_alloc_new w9 (lvO K S A8 n8 c8 A9 m9 c9)
  replace LX := LX.below hz
  replace LY := LY.below hz
  replace zx := oKeep hz zx
  replace zy := oKeep hz zy
  replace LZ := LZ.below hz
  replace HB := HB.trans (hz.mono HB.size)
  clear hz
  clear hZ HMA HMB HMZ
  obtain ⟨p0, p1, p2, p3, _⟩ := lvCells zx
  obtain ⟨q0, q1, q2, q3, _⟩ := lvCells zy
  obtain ⟨r0, r1, r2, r3, _⟩ := lvCells zz
  have HC1 := below_ok K S n A1 A2 n1 c1 m1 c2 PA CA _ LX HXA.out
  rw [HTA.out] at HC1
  go_wp2_with fail
  refine (HC1).mono ?_
  rintro x w10 ⟨rfl, hb⟩
  replace LX := LX.below hb
  replace LY := LY.below hb
  replace zx := oKeep hb zx
  replace zy := oKeep hb zy
  replace LZ := LZ.below hb
  replace zz := oKeep hb zz
  replace HB := HB.trans (hb.mono HB.size)
  clear hb
  clear HC1
  clear p0 p1 p2 p3 q0 q1 q2 q3 r0 r1 r2 r3
  obtain ⟨p0, p1, p2, p3, _⟩ := lvCells zx
  obtain ⟨q0, q1, q2, q3, _⟩ := lvCells zy
  obtain ⟨r0, r1, r2, r3, _⟩ := lvCells zz
  have HC1 := below_ok K S mb A3 A4 n3 c3 m3 c4 PB CB _ LY HXB.out
  rw [HTB.out] at HC1
  go_wp2_with fail
  refine (HC1).mono ?_
  rintro x w11 ⟨rfl, hb⟩
  replace LX := LX.below hb
  replace LY := LY.below hb
  replace zx := oKeep hb zx
  replace zy := oKeep hb zy
  replace LZ := LZ.below hb
  replace zz := oKeep hb zz
  replace HB := HB.trans (hb.mono HB.size)
  clear hb
  clear HC1
  clear p0 p1 p2 p3 q0 q1 q2 q3 r0 r1 r2 r3
  obtain ⟨p0, p1, p2, p3, _⟩ := lvCells zx
  obtain ⟨q0, q1, q2, q3, _⟩ := lvCells zy
  obtain ⟨r0, r1, r2, r3, _⟩ := lvCells zz
  have HC1 := below_ok K S (n + mb) A8 A9 n8 c8 m9 c9 PZ CZ _ LZ HXZ.out
  rw [HTZ.out, Int.natCast_add] at HC1
  go_wp2_with fail
  refine (HC1).mono ?_
  rintro x w12 ⟨rfl, hb⟩
  replace LX := LX.below hb
  replace LY := LY.below hb
  replace zx := oKeep hb zx
  replace zy := oKeep hb zy
  replace LZ := LZ.below hb
  replace zz := oKeep hb zz
  replace HB := HB.trans (hb.mono HB.size)
  clear hb
  clear HC1
  clear p0 p1 p2 p3 q0 q1 q2 q3 r0 r1 r2 r3
  obtain ⟨p0, p1, p2, p3, _⟩ := lvCells zx
  obtain ⟨q0, q1, q2, q3, _⟩ := lvCells zy
  obtain ⟨r0, r1, r2, r3, _⟩ := lvCells zz
  have HC1 := fun W => whole_any K S A8 A9 n8 c8 m9 c9 W
  rw [hwb] at HC1
  go_wp2_with fail
  refine (HC1 _).mono ?_
  rintro x w13 ⟨rfl, hb⟩
  replace LX := LX.below hb
  replace LY := LY.below hb
  replace zx := oKeep hb zx
  replace zy := oKeep hb zy
  replace LZ := LZ.below hb
  replace zz := oKeep hb zz
  replace HB := HB.trans (hb.mono HB.size)
  clear hb
  clear HC1
  clear p0 p1 p2 p3 q0 q1 q2 q3 r0 r1 r2 r3
  go_wp2_with fail
  obtain ⟨wo, rfl⟩ : ∃ wo : World, wo = w13 := ⟨_, rfl⟩
  go_loopw [133] (fun v wr => ∃ p : Nat, v = .int .i64 (p : Int) ∧ p ≤ mb ∧ Below wo.heap.size wo wr) (fun v _ => mb - (intOf v).toNat)
  case atStart => exact ⟨0, rfl, Nat.zero_le _, Below.refl _ _⟩
  case round =>
    obtain ⟨p, rfl, hp, hbo⟩ := hrel
    replace LY := LY.below hbo
    replace LZ := LZ.below hbo
    replace zy := oKeep hbo zy
    replace zz := oKeep hbo zz
    replace HB := HB.trans (hbo.mono HB.size)
    by_cases hlt : p < mb
    · have hkz := HKJ2.out p hlt
      have HC2 := fun W (hI : LvI W A8 n8 A9 m9 PZ CZ) => children_ok K S (n + mb) (n + p) A8 A9 n8 c8 m9 c9 PZ CZ W hI HXZ.out (by omega)
      rw [hkz] at HC2
      have HC1 := children_ok K S mb p A3 A4 n3 c3 m3 c4 PB CB _ LY HXB.out hlt
      have HKF : Hid (∀ (j : Nat) (x : Int × Int), (kids K S PB CB p)[j]? = some x → 0 ≤ x.2 ∧ x.2 ≤ 1048576) := fun j x hx => kids_fit HLBH.out hlt hx
      have hlen0 : (kids K S PB CB p).length ≤ 1048576 := by rw [kids_length]; have := HLBH.out.le_tot (p := p + 1) (by omega); have := HLBH.out.tot; omega
      obtain ⟨L, hL⟩ : ∃ L, kids K S PB CB p = L := ⟨_, rfl⟩
      obtain ⟨M, hM⟩ : ∃ M, L.map (fun x => (x.1, x.2 + ((Ta : Nat) : Int))) = M := ⟨_, rfl⟩
      rw [hL] at HC1 HC2 HKF hlen0
      rw [hM] at HC2
      have hML : M.length = L.length := by rw [← hM, List.length_map]
      rw [hML] at HC2
      obtain ⟨N, hN⟩ : ∃ N, L.length = N := ⟨_, rfl⟩
      rw [hN] at HC1 HC2 hML hlen0
      have HNL := Lib.hid hN
      have HNM := Lib.hid hML
      have HMM := Lib.hid hM
      simp only [Int.natCast_add] at HC2
      obtain ⟨q0, q1, q2, q3, _⟩ := lvCells zy
      have e1 : ((N : Int) == (N : Int)) = true := by simp
      have e2 : ((N : Int) != (N : Int)) = false := by simp
      clear hL hM hN hML hkz
      go_wp2_with fail
      refine HC1.mono ?_
      rintro x wA ⟨A5, c5, rfl, HOy, hb⟩
      have HOY := Lib.hid HOy.chs
      rw [HNL.out] at HOY
      replace LZ := LZ.below hb
      replace zz := oKeep hb zz
      replace HB := HB.trans (hb.mono HB.size)
      have hbo2 := hbo.trans (hb.mono hbo.size)
      clear hb HOy HC1 q0 q1 q2 q3
      obtain ⟨q0, q1, q2, q3, _⟩ := lvCells zz
      go_wp2_with fail
      refine (HC2 _ LZ).mono ?_
      rintro x wB ⟨A6, c6, rfl, HOz, hb⟩
      have HOZ := Lib.hid HOz.chs
      rw [HNM.out] at HOZ
      replace HOY : Hid (Chs wB wB.heap.size A5 N L) := (HOY.out.below hb).more hb.size
      replace HB := HB.trans (hb.mono HB.size)
      have hbo3 := hbo2.trans (hb.mono hbo2.size)
      clear hb HOz HC2 q0 q1 q2 q3 LZ LY zy zz hbo2 hbo
      go_wp2_with fail
      obtain ⟨wi, rfl⟩ : ∃ wi : World, wi = wB := ⟨_, rfl⟩
      go_loopw [173] (fun v wr => ∃ q r : Nat, v = .int .i64 (q : Int) ∧ q ≤ N ∧ wr = wi.drewN r) (fun v _ => N - (intOf v).toNat)
      case atStart => exact ⟨0, 0, rfl, Nat.zero_le _, rfl⟩
      case round =>
        obtain ⟨q, r, rfl, hq, rfl⟩ := hrel
        by_cases hlt2 : q < N
        · obtain ⟨b5, off5, x, rfl, _, HX, hc0, hc1, hx3, hx4⟩ := HOY.out.at_ hlt2
          obtain ⟨b6, off6, y, rfl, _, HY, hd0, hd1, hy3, hy4⟩ := HOZ.out.at_ hlt2
          have hfit := HKF.out q x HX.out
          have hyx : y = (x.1, x.2 + ((Ta : Nat) : Int)) := by have := HY.out; rw [← HMM.out, List.getElem?_map, HX.out] at this; injection this with this; exact this.symm
          subst hyx
          obtain ⟨x1, x2⟩ := x
          dsimp only at hc0 hc1 hd0 hd1 hx3 hx4 hy3 hy4 hfit
          have f1 : (x1 == x1) = true := by simp
          have f2 : (x1 != x1) = false := by simp
          have f3 : (x2 + (Ta : Int) == x2 + (Ta : Int)) = true := by simp
          have f4 : (x2 + (Ta : Int) != x2 + (Ta : Int)) = false := by simp
          have e5 : IntKind.i64.wrap (x2 + (Ta : Int)) = x2 + (Ta : Int) := by rw [IntWalk.i64_in _ (by omega)]
          have g0 : (0 : Int) ≤ q := by omega
          have g1 : (q : Int) < N := by omega
          go_wp2_with fail
          go_quiet (fail)
          go_wp2_with fail
          go_roundw
          case rel => exact ⟨q + 1, _, by go_num, by omega, rfl⟩
          case measure => simp [intOf]; omega
        · go_wp2_with fail
          go_roundw
          case rel => exact ⟨p + 1, by go_num, by omega, below_drewN2 hbo3 _⟩
          case measure => simp [intOf]; omega
    · go_wp2_with fail
      go_ret
      exact ⟨rfl, HB⟩
end Go.Proofs.Ytanbhpdobpiafaa
