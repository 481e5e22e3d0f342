/- purflelaw04.LevelBack returns true at every kind, size and groups. -/
import Derived.Test.YtanbhpdobpiafaaLBackX
namespace Go.Proofs.Ytanbhpdobpiafaa
open Go.RowKit


set_option maxRecDepth 100000 in
set_option maxHeartbeats 8000000 in
theorem levelBack_small (K S : Int) (A : Option Addr) (n c : Nat) (LL : List (List Int)) (w : World) (hA : IntsLL w w.heap.size A n LL) (hn : n ≤ 5864062014805) (hLb : ∀ L ∈ LL, L.length ≤ 17592186044416) (h100 : n ≤ 100) (hsh : ∀ L ∈ LL, L.length ≤ 300) (hE : makeE K S LL = 0) (hwb : wholeB K = true) (hS : ¬ 100 < S) :
    Calls Try.prog 6 #[.int .i64 K, .int .i64 S, .slice A n c] w fun x w' => x = .returned (.bool true) ∧ Below w.heap.size w w' := by
  have HB : Below w.heap.size w w := Below.refl _ _
  have d1 : decide ((100 : Int) < (n : Int)) = false := decide_eq_false (by omega)
  have HLB := Lib.hid hLb
  have HSH := Lib.hid hsh
  have HLN : Hid (LL.length = n) := hA.1
  have hLc : ∀ L ∈ LL, L.length ≤ 9223372036854775807 := fun L hL => by have := hsh L hL; omega
  have HMA := fun W (hI : IntsLL W W.heap.size A n LL) => make_ok K S A n c _ W hI (by omega) hLc hE
  have hx := (makeE_ok hE).2.2
  rw [hA.1] at hx
  obtain ⟨hoE, hoP, hoC⟩ := own_same hE
  rw [hA.1] at hoE hoP hoC
  have hob : ∀ L ∈ ownTo K S LL n, L.length ≤ 9223372036854775807 := by
    intro L hL
    unfold ownTo at hL
    obtain ⟨p, hp, rfl⟩ := List.mem_map.1 hL
    have hp := List.mem_range.1 hp
    obtain ⟨b, hb, HL⟩ := lok_of hx
    obtain rfl : b = n := by omega
    rw [List.length_map, kids_length]
    have := HL.le_tot (p := p + 1) (by omega)
    have := HL.tot
    omega
  have HMO := fun W A' c' (hI : IntsLL W W.heap.size A' n (ownTo K S LL n)) => make_ok K S A' n c' _ W hI (by omega) hob hoE
  rw [hoP, hoC] at HMO
  have HKM := Lib.hid (fun (hw : wholeB K = false) (p : Nat) (L : List Int) (hL : LL[p]? = some L) => kids_made hE hw hL)
  have HOS := Lib.hid (ownTo_succ K S LL)
  have HOL := Lib.hid (ownTo_length K S LL)
  have HO0 : Hid (ownTo K S LL 0 = []) := rfl
  obtain ⟨PA, hPA⟩ : ∃ PA, mkPos K LL = PA := ⟨_, rfl⟩
  obtain ⟨CA, hCA⟩ : ∃ CA, mkCrd K LL = CA := ⟨_, rfl⟩
  rw [hPA, hCA] at HMA hx HMO HKM HOS
  have HXA := Lib.hid hx
  obtain ⟨i1, hi1, hy0, hy1, hy2⟩ := info_parts infoInt
  obtain ⟨i0, hi0, hz0, hz1, hz2⟩ := info_parts infoRow
  clear hE hx hoE hoP hoC hob hPA hCA
  have d3 : decide (100 < S) = false := decide_eq_false hS
  clear hLb hsh hLc
  go_enter Try.func6, Try.ntmps6
  go_wp2_with fail
  refine (lvLive_any _).mono ?_
  rintro x w1 ⟨rfl, hb⟩
  replace hA := (hA.below hb).more hb.size
  replace HB := HB.trans (hb.mono HB.size)
  clear hb
  go_wp2_with fail
  go_loopw [29] (fun v wr => ∃ k : Nat, v = .int .i64 (k : Int) ∧ k ≤ n ∧ wr = w1) (fun v _ => n - (intOf v).toNat)
  case atStart => exact ⟨0, rfl, Nat.zero_le _, rfl⟩
  case round =>
    obtain ⟨k, rfl, hk, rfl⟩ := hrel
    by_cases hlt : k < n
    · obtain ⟨b, off, L, aL, cL, hA0, _, HX, hc, hcap, hI⟩ := hA.at_ hlt
      have hLm := HLB.out L (List.mem_of_getElem? HX.out)
      obtain ⟨lL, hlL⟩ : ∃ l, L.length = l := ⟨_, rfl⟩
      rw [hlL] at hc hcap hI hLm
      have HLL := Lib.hid hlL
      have HA0 := Lib.hid hA0
      clear hlL
      subst hA0
      have d2 : decide ((300 : Int) < (lL : Int)) = false := decide_eq_false (by have := HSH.out L (List.mem_of_getElem? HX.out); rw [HLL.out] at this; omega)
      go_wp2_with fail
      go_roundw
      case rel => exact ⟨k + 1, by go_num, by omega, by first | trivial | rfl⟩
      case measure => simp [intOf]; omega
    · go_wp2_with fail
      refine (HMA _ hA).mono ?_
      rintro x w2 ⟨A1, n1, c1, A2, m1, c2, rfl, LX, hx1, hx2, hb⟩
      have zx := heap_alloc_new w2 (lvO K S A1 n1 c1 A2 m1 c2)
      have hz := lvBelow w2 (lvO K S A1 n1 c1 A2 m1 c2)
      have hb2 := hb.trans (hz.mono hb.size)
      replace LX := LX.below hz
      replace hA := (hA.below hb2).more hb2.size
      replace HB := HB.trans (hb2.mono HB.size)
      have HW := fun W => whole_any K S A1 A2 n1 c1 m1 c2 W
      rw [hwb] at HW
      clear hb hz hb2 HMA
      go_wp2_with fail
      refine (HW _).mono ?_
      rintro x w3 ⟨rfl, hb⟩
      replace LX := LX.below hb
      replace zx := oKeep hb zx
      replace hA := (hA.below hb).more hb.size
      replace HB := HB.trans (hb.mono HB.size)
      clear hb
      go_wp2_with fail
      obtain ⟨wo, rfl⟩ : ∃ wo : World, wo = w3 := ⟨_, rfl⟩
      have hown0 : Hid (OwnLL wo wo.heap.size none 0 (ownTo K S LL 0)) := by unfold Hid; rw [HO0.out]; exact OwnLL.nil_ _ _
      go_loopw [12, 58] (fun u v wr => ∃ (A3 : Option Addr) (c3 p : Nat), u = .slice A3 p c3 ∧ v = .int .i64 (p : Int) ∧ p ≤ n ∧ Hid (OwnLL wr wo.heap.size A3 c3 (ownTo K S LL p)) ∧ Below wo.heap.size wo wr) (fun _ v _ => n - (intOf v).toNat)
      case atStart => exact ⟨none, 0, 0, rfl, rfl, Nat.zero_le _, hown0, Below.refl _ _⟩
      case round =>
        clear hown0
        obtain ⟨A3, c3, p, rfl, rfl, hp, HOW, hbo⟩ := hrel
        have LY := LX.below hbo
        have zy := oKeep hbo zx
        have hA2 := (hA.below hbo).more hbo.size
        have HB2 := HB.trans (hbo.mono HB.size)
        obtain ⟨k0, k1, k2, k3, _⟩ := lvCells zy
        by_cases hlt2 : p < n
        · obtain ⟨b, off, L, aL, cL, hA0, _, HX, hc, hcap, hI⟩ := hA2.at_ hlt2
          have hLm := HSH.out L (List.mem_of_getElem? HX.out)
          have hCH := children_ok K S n p A1 A2 n1 c1 m1 c2 PA CA _ LY HXA.out hlt2
          obtain ⟨bb, hbb, HLk⟩ := lok_of HXA.out
          obtain rfl : bb = n := by omega
          have hNb : (kids K S PA CA p).length ≤ 1048576 := by rw [kids_length]; have := HLk.le_tot (p := p + 1) (by omega); have := HLk.tot; omega
          have hNs : wholeB K = true → ((kids K S PA CA p).length : Int) = S := by
            intro hw
            rw [kids_length, HLk.wholeNext hw p]
            have := HLk.size0; omega
          have hkm : wholeB K = false → (kids K S PA CA p).map (·.1) = L := fun hw => HKM.out hw p L HX.out
          have hosx := HOS.out p
          obtain ⟨M, hM⟩ : ∃ M, kids K S PA CA p = M := ⟨_, rfl⟩
          rw [hM] at hCH hNb hNs hkm hosx
          obtain ⟨N, hN⟩ : ∃ N, M.length = N := ⟨_, rfl⟩
          rw [hN] at hCH hNb hNs
          have HNM := Lib.hid hN
          have HSX := Lib.hid hosx
          have HKL := Lib.hid hkm
          have HNS := Lib.hid hNs
          have hN3 : N ≤ 300 := by have := HNS.out hwb; omega
          obtain ⟨lL, hlL⟩ : ∃ l, L.length = l := ⟨_, rfl⟩
          rw [hlL] at hc hcap hI hLm
          have HLL := Lib.hid hlL
          clear hM hN hosx hkm hNs hlL hbb HLk
          subst hA0
          go_wp2_with fail
          refine hCH.mono ?_
          rintro x w4 ⟨A4, c4, rfl, HOc, hb⟩
          have HCHS := Lib.hid HOc.chs
          rw [HNM.out] at HCHS
          replace LY := LY.below hb
          replace zy := oKeep hb zy
          replace HB2 := HB2.trans (hb.mono HB2.size)
          have hbo4 := hbo.trans (hb.mono hbo.size)
          have HOW4 := Lib.hid (HOW.out.below hb (Nat.le_refl _))
          replace hI := (hI.below hb).more hb.size
          clear hb HOc hCH HOW hbo k0 k1 k2 k3 hc hA2
          go_wp2_with fail
          obtain ⟨wi, rfl⟩ : ∃ wi : World, wi = w4 := ⟨_, rfl⟩
          go_loopw [17, 75] (fun u v wr => ∃ (A5 : Option Addr) (c5 q : Nat), u = .slice A5 q c5 ∧ v = .int .i64 (q : Int) ∧ q ≤ N ∧ Hid (OwnI wr wi.heap.size 3 A5 c5 ((M.take q).map (·.1))) ∧ Hid (((M.take q).map (·.1)).length = q) ∧ Below wi.heap.size wi wr) (fun _ v _ => N - (intOf v).toNat)
          case atStart => exact ⟨none, 0, 0, rfl, rfl, Nat.zero_le _, by unfold Hid; simp only [List.take_zero, List.map_nil]; exact OwnI.nil_ _ _ _, by unfold Hid; simp, Below.refl _ _⟩
          case round =>
            obtain ⟨A5, c5, q, rfl, rfl, hq, HPL, HPN, hbi⟩ := hrel
            by_cases hlt3 : q < N
            · obtain ⟨b5, off5, x, rfl, _, HX5, hc0, hc1, hx3, hx4⟩ := (HCHS.out.below hbi).at_ hlt3
              obtain ⟨x1, x2⟩ := x
              dsimp only at hc0 hc1 hx3 hx4
              have hsz := hbi.size
              have HTK : Hid ((M.take (q + 1)).map (·.1) = (M.take q).map (·.1) ++ [x1]) := by unfold Hid; rw [take_succ_of HX5.out, List.map_append]; rfl
              have HTL : Hid (((M.take (q + 1)).map (·.1)).length = q + 1) := by unfold Hid; rw [HTK.out, List.length_append, HPN.out]; rfl
              have hbj := hbi.alloc hbi.size (.cells #[.int .i64 x1, .int .i64 x2] 47)
              have HPL2 := Lib.hid (HPL.out.alloc (.cells #[.int .i64 x1, .int .i64 x2] 47))
              have hSZ : (wr.alloc (.cells #[.int .i64 x1, .int .i64 x2] 47)).heap.size = wr.heap.size + 1 := by simp
              have HSRC : Hid (Ints ((wr.alloc (.cells #[.int .i64 x1, .int .i64 x2] 47)).alloc (.cells #[.int .i64 x1] 3)) (wr.heap.size + 1 + 1) (some ⟨wr.heap.size + 1, 0, none⟩) 1 [x1]) := by
                have := src_new (t := 3) (wr.alloc (.cells #[.int .i64 x1, .int .i64 x2] 47)) hx3
                rw [hSZ] at this; exact this
              clear hSZ
              go_wp2_with (at_builtin; refine wpList_appendInts _ rfl (.tmp 79) (.tmp 82) 22 rfl wi.heap.size 3 i1 Try.underlying22 hi1 hy0 hy1 hy2 A5 (some ⟨wr.heap.size + 1, 0, none⟩) c5 1 1 (wr.heap.size + 1 + 1) q (q + 1) ((M.take q).map (·.1)) [x1] rfl rfl (HPL2.out.alloc _) HPN.out rfl HSRC.out (by omega) (by simp; omega) ?_; intro A6 c6 w6 HO6 HG6; have HO6' := Lib.hid HO6; have hbk := below_app (hbj.alloc hbj.size _) HG6 (HPL2.out.alloc _) HPN.out (by simp; omega); clear HO6 HG6)
              go_roundw
              case rel => exact ⟨A6, c6, q + 1, rfl, by go_num, by omega, by unfold Hid; rw [HTK.out]; exact HO6'.out, HTL, hbk⟩
              case measure => simp [intOf]; omega
            · have HQN : Hid (q = N) := by unfold Hid; omega
              have HMF : Hid ((M.take q).map (·.1) = M.map (·.1)) := by unfold Hid; rw [List.take_of_length_le (by rw [HNM.out, HQN.out]; exact Nat.le_refl _)]
              have HPL3 : Hid (OwnI wr wi.heap.size 3 A5 c5 (M.map (·.1))) := by unfold Hid; rw [← HMF.out]; exact HPL.out
              have HPN3 : Hid ((M.map (·.1)).length = q) := by unfold Hid; rw [← HMF.out]; exact HPN.out
              have hqN : q ≤ 300 := by omega
              replace LY := LY.below hbi
              replace zy := oKeep hbi zy
              replace HB2 := HB2.trans (hbi.mono HB2.size)
              have hbo5 := hbo4.trans (hbi.mono hbo4.size)
              have HOW5 := Lib.hid (HOW4.out.below hbi (Nat.le_refl _))
              replace hI := (hI.below hbi).more hbi.size
              have hwi := hbo4.size
              clear hbi HPL HPN HMF HCHS
              obtain ⟨k0, k1, k2, k3, _⟩ := lvCells zy
              have HW2 := fun W => whole_any K S A1 A2 n1 c1 m1 c2 W
              rw [hwb] at HW2
              have f1 : ((q : Int) == S) = true := by have := HNS.out hwb; have := HQN.out; simp; omega
              have f2 : ((q : Int) != S) = false := by have := HNS.out hwb; have := HQN.out; simp; omega
              go_wp2_with fail
              refine (HW2 _).mono ?_
              rintro x w7 ⟨rfl, hb⟩
              have zz := oKeep hb zy
              obtain ⟨l0, l1, l2, l3, _⟩ := lvCells zz
              go_wp2_with fail
              refine (HW2 _).mono ?_
              rintro x w9 ⟨rfl, hb9⟩
              replace hb := hb.trans (hb9.mono hb.size)
              clear hb9
              have HOW6 := Lib.hid (HOW5.out.below hb (Nat.le_refl _))
              have HPL6 := Lib.hid ((HPL3.out.below hb (Nat.le_refl _)).mono (base' := wo.heap.size) hwi)
              have hbo6 := hbo5.trans (hb.mono hbo5.size)
              have HOLp := Lib.hid (HOL.out p)
              clear hb HOW5 HPL3
              go_wp2_with (at_builtin; refine wpList_appendRow rfl (.tmp 104) (.tmp 106) rfl wo.heap.size i0 hi0 hz0 hz1 hz2 A3 c3 p (p + 1) c5 q A5 (ownTo K S LL p) (M.map (·.1)) rfl rfl HOW6.out HPL6.out HPN3.out HOLp.out rfl (by omega) hbo6.size ?_; intro A8 c8 w8' HO8 hb8; have HO8' := Lib.hid HO8; have hbo8 := hbo6.trans (hb8.mono (Nat.le_refl _)); clear HO8 hb8)
              go_roundw
              case rel => exact ⟨A8, c8, p + 1, rfl, by go_num, by omega, by unfold Hid; rw [HSX.out]; exact HO8'.out, hbo8⟩
              case measure => simp [intOf]; omega
        · have HPE : Hid (p = n) := by unfold Hid; omega
          have hIL := HOW.out.ints
          have hlo := HOL.out p
          rw [hlo] at hIL
          rw [HPE.out] at hIL
          have hHM := HMO _ A3 c3 hIL
          rw [← HPE.out] at hHM
          clear hIL hlo HMO
          go_wp2_with fail
          refine hHM.mono ?_
          rintro x w10 ⟨A5, n5, c5, A6, m5, c6, rfl, LZ, hx5, hx6, hb⟩
          have hz := lvBelow w10 (lvO K S A5 n5 c5 A6 m5 c6)
          have zn := heap_alloc_new w10 (lvO K S A5 n5 c5 A6 m5 c6)
          have hb2 := hb.trans (hz.mono hb.size)
          replace LY := LY.below hb2
          replace zy := oKeep hb2 zy
          replace LZ := LZ.below hz
          replace HB2 := HB2.trans (hb2.mono HB2.size)
          have hn1 : n1 ≤ 100000 := by
            obtain ⟨bb, hbb, HLk⟩ := lok_of HXA.out
            obtain rfl : bb = n := by omega
            have := LY.pos.1
            by_cases q : K = 1 ∨ K = 2
            · rw [HLk.posLen q] at this; omega
            · rw [HLk.posNil q] at this; omega
          have hSM := sameL_any K S K S A1 A2 A5 A6 n1 c1 m1 c2 n5 c5 m5 c6 PA CA PA CA _ LY LZ hn1 (by omega)
          rw [pB_t ⟨rfl, rfl, rfl, rfl⟩] at hSM
          obtain ⟨l0, l1, l2, l3, _⟩ := lvCells zy
          obtain ⟨q0, q1, q2, q3, _⟩ := lvCells zn
          clear hb hz hb2 hHM k0 k1 k2 k3
          go_wp2_with fail
          refine hSM.mono ?_
          rintro x w11 ⟨rfl, hb⟩
          have HB3 := HB2.trans (hb.mono HB2.size)
          go_wp2_with fail
          go_ret
          exact ⟨rfl, HB3⟩
end Go.Proofs.Ytanbhpdobpiafaa
