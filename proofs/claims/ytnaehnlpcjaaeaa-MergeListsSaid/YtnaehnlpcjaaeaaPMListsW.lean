/- MergeLists at every input. -/
import Derived.Test.YtnaehnlpcjaaeaaPMLists
namespace Go.Proofs.Ytnaehnlpcjaaeaa
open Go.RowKit

set_option maxRecDepth 100000 in
set_option maxHeartbeats 4000000 in
theorem mergeLists_many (w : World) (A : Option Addr) (n c : Nat) (LL : List (List Int)) (h : IntsLL w w.heap.size A n LL) (hn : n ≤ 5864062014805) (hL : ∀ L ∈ LL, L.length ≤ 17592186044416) (hs : ¬ (n ≤ 50 ∧ LL.flatten.length ≤ 500)) :
    Calls Try.prog 3 #[.slice A n c] w fun e w' => e = .returned (.bool true) ∧ Below w.heap.size w w' := by
  have cL := mLive_any w
  have cF := fun W (hb : Below w.heap.size w W) => fewM_any A n c _ LL W (h.below hb) hn hL false (decide_eq_false hs)
  clear h hL hs
  go_enter Try.func3, Try.ntmps3
  go_wp2_with (first | (go_at_call 9; refine cL.mono ?_; rintro e w1 ⟨rfl, hb1⟩) | (go_at_call 10; refine (cF w1 hb1).mono ?_; rintro e w2 ⟨rfl, q2, hw2⟩; have hb2 := belowQ hb1 hw2; clear hw2))
  go_ret
  exact ⟨rfl, hb2⟩
set_option maxRecDepth 100000 in
set_option maxHeartbeats 8000000 in
theorem mergeLists_in (w : World) (A : Option Addr) (n c : Nat) (LL : List (List Int)) (h : IntsLL w w.heap.size A n LL) (hL : ∀ L ∈ LL, L.length ≤ 17592186044416) (s1 : n ≤ 50) (s2 : LL.flatten.length ≤ 500) :
    Calls Try.prog 3 #[.slice A n c] w fun e w' => e = .returned (.bool true) ∧ Below w.heap.size w w' := by
  have cL := mLive_any w
  obtain ⟨E, hE⟩ := errU LL
  have hE2 : E = 0 ∨ E = 1 := by rcases hE with ⟨_, h1⟩ | ⟨_, h1⟩; exact .inl h1; exact .inr h1
  have HLM : Hid (∀ L ∈ LL, L.length ≤ 500) := fun L hm => by
    have : L.length ≤ LL.flatten.length := (List.sublist_flatten_of_mem hm).length_le
    omega
  have HH := Lib.hid h
  have HL := Lib.hid hL
  have HT := Lib.hid s2
  have HLN : Hid (LL.length = n) := h.1
  have k1 := fun W (hb : Below w.heap.size w W) => uni_v E A n c LL W ((h.below hb).more hb.size) (by omega) (by omega) hE
  have k2 := fun W (hb : Below w.heap.size w W) => refUnion_v E A n c LL W ((h.below hb).more hb.size) (by omega) (by omega) hE
  have k3 := fun W (hb : Below w.heap.size w W) => bo_v E A n c LL W ((h.below hb).more hb.size) (by omega) (by omega) hE
  have k4 := fun W (hb : Below w.heap.size w W) => refBoth_v E A n c LL W ((h.below hb).more hb.size) (by omega) (by omega) hE
  have k5 := fun W (hb : Below w.heap.size w W) => walk_v E A n c LL W ((h.below hb).more hb.size) (by omega) (by omega) hE
  have k6 := fun W (hb : Below w.heap.size w W) => refWalk_v E A n c LL W ((h.below hb).more hb.size) (by omega) (by omega) hE
  have K1 := Lib.hid k1
  have K2 := Lib.hid k2
  have K3 := Lib.hid k3
  have K4 := Lib.hid k4
  have K5 := Lib.hid k5
  have K6 := Lib.hid k6
  obtain ⟨i0, hi0, hz0, hz1, hz2⟩ := info_parts infoInt
  clear h hL s2 hE k1 k2 k3 k4 k5 k6
  go_enter Try.func3, Try.ntmps3
  go_wp2_with (first | (go_at_call 9; refine cL.mono ?_; rintro e w1 ⟨rfl, hb1⟩) | (go_at_call 10; refine (few_small A n c _ LL w1 (HH.out.below hb1) HL.out s1 true (decide_eq_true HT.out)).mono ?_; rintro e w2 ⟨rfl, q2, hw2⟩; have HB2 := Lib.hid (belowQ hb1 hw2); clear hw2 hb1))
  clear cL
  go_loopw [28, 4] (fun v s wr => ∃ (k : Nat) (rs : List RowT) (H : Option Addr) (ch : Nat), v = .int .i64 (k : Int) ∧ s = .slice H k ch ∧ k ≤ n ∧ Hid (rs.length = k) ∧ Hid (rs.map (·.L) = LL.take k) ∧ Hid (RowsW wr w2.heap.size H ch rs) ∧ Hid (Below w2.heap.size w2 wr)) (fun v _ _ => n - (intOf v).toNat)
  case atStart => exact ⟨0, [], none, 0, rfl, rfl, Nat.zero_le _, rfl, rfl, RowsW.start _ _, Below.refl _ _⟩
  case round =>
    obtain ⟨k, rs, H, ch, rfl, rfl, hk, HRL, HRM, HRW, HX⟩ := hrel
    obtain ⟨wo, hwo⟩ : ∃ wo : World, wo = wr := ⟨_, rfl⟩
    rw [← hwo] at HRW HX ⊢
    clear hwo
    have hbw := HB2.out.trans (HX.out.mono HB2.out.size)
    have hz := HX.out.size
    by_cases hlt : k < n
    · obtain ⟨b, off, L, a, lc, rfl, _, HY, hc1, hcap, hIL⟩ := (HH.out.below hbw).at_ hlt
      have hLb := HLM.out L (List.mem_of_getElem? HY.out)
      have HTK := Lib.hid (take_succ_of HY.out)
      obtain ⟨M, hM⟩ : ∃ M, L.length = M := ⟨_, rfl⟩
      rw [hM] at hc1 hcap hIL hLb
      have HML := Lib.hid hM
      have HIL := Lib.hid hIL
      have k0 : (0 : Int) ≤ (k : Int) := by omega
      have k1 : (k : Int) < (n : Int) := by omega
      obtain ⟨R, hR⟩ : ∃ R, decide (L.Pairwise (· < ·)) = R := ⟨_, rfl⟩
      have HR := Lib.hid hR
      have eR : (R != R) = false := by cases R <;> rfl
      have HBW := Lib.hid hbw
      clear hM hIL hR hbw
      go_wp2_with (first | (at_builtin; refine wpList_appendWhere _ rfl (.const (.slice none 0 0)) (.tmp 33) 25 rfl wo.heap.size 3 i0 Try.underlying25 hi0 hz0 hz1 hz2 none a 0 M lc w.heap.size 0 M [] L rfl rfl (OwnI.nil_ _ _ _) rfl (Nat.zero_add _) HIL.out (by omega) (Nat.le_refl _) ?_; intro A4 c4 w4 HO4 HG4 HW4; have hb4 : Below wo.heap.size wo w4 := (Below.refl _ _).grown HG4 (Nat.le_refl _) (fun k hk => by cases hk); have HR4 := Lib.hid (HRW.out.below hb4 (Nat.le_refl _)); have HO4' : Hid (OwnI w4 w2.heap.size 3 A4 c4 L) := (HO4.mono hz); have HX4 := Lib.hid (HX.out.trans (hb4.mono hz))) | (at_builtin; refine wpList_appendRowT rfl (.tmp 32) (.tmp 35) rfl w2.heap.size H ch k (k + 1) M ⟨A4, c4, L⟩ rs rfl rfl (by have := HR4.out.rows; rwa [HRL.out] at this) HRL.out rfl HML.out (by omega) HX4.out.size ?_; intro H5 c5 w5 HO5 HG5; have HR5 := Lib.hid (HR4.out.app HO5 HG5 HO4'.out); have HX5 := Lib.hid (HR4.out.grown HX4.out HG5 (Nat.le_refl _) HX4.out.size); have HBW5 := Lib.hid (HB2.out.trans (HX5.out.mono HB2.out.size))) | (go_at_call 11; refine (rises_any a M lc w.heap.size L w5 (HIL.out.keep fun p hp => (HBW5.out.cell hp).trans (HBW.out.cell hp).symm) (by omega) R HR).mono ?_; rintro e w6 ⟨rfl, q6, hw6⟩; have HX6 := Lib.hid (belowQ HX5.out hw6); have HR6 : Hid (RowsW w6 w2.heap.size H5 c5 (rs ++ [⟨A4, c4, L⟩])) := (by rw [hw6]; exact ⟨HR5.out.rows, HR5.out.ins⟩); have HI6 : Hid (Ints w6 w.heap.size a M L) := (by rw [hw6]; exact (HIL.out.keep fun p hp => (HBW5.out.cell hp).trans (HBW.out.cell hp).symm)); clear hw6) | (go_at_call 12; refine (refRises_any a M lc w.heap.size L w6 HI6.out (by omega) R HR).mono ?_; rintro e w7 ⟨rfl, q7, hw7⟩; have HX7 := Lib.hid (belowQ HX6.out hw7); have HR7 : Hid (RowsW w7 w2.heap.size H5 c5 (rs ++ [⟨A4, c4, L⟩])) := (by rw [hw7]; exact ⟨HR6.out.rows, HR6.out.ins⟩); clear hw7))
      go_roundw
      case rel => exact ⟨k + 1, rs ++ [⟨A4, c4, L⟩], H5, c5, by go_num, rfl, by omega, by unfold Hid; rw [List.length_append, HRL.out]; rfl, by unfold Hid; rw [HTK.out, List.map_append, HRM.out]; rfl, HR7, HX7⟩
      case measure => simp [intOf]; omega
    · obtain rfl : k = n := by omega
      have he : LL.take k = LL := by rw [← HLN.out, List.take_length]
      rw [he] at HRM
      have hwas := HRW.out.ints
      rw [HRL.out, HRM.out] at hwas
      have HWAS := Lib.hid hwas
      clear hlt he hk hwas HRW
      go_wp2_with fail
      refine (K1.out wo hbw).mono ?_
      rintro e w3 ⟨ua, A3, r3, c3, rfl, hi, h0, h1, hb⟩
      have HB3 := Lib.hid (hbw.trans (hb.mono hbw.size))
      replace HWAS := Lib.hid ((HWAS.out.below hb).more hb.size)
      have HI3 := Lib.hid hi
      have HU3 := Lib.hid (And.intro h0 h1)
      clear hi h0 h1 hb hbw HX hz
      go_wp2_with fail
      refine (K2.out w3 HB3.out).mono ?_
      rintro e w4 ⟨ub, A4, r4, c4, rfl, hi, _, h0, h1, hb⟩
      have HB4 := Lib.hid (HB3.out.trans (hb.mono HB3.out.size))
      replace HWAS := Lib.hid ((HWAS.out.below hb).more hb.size)
      replace HI3 := Lib.hid ((HI3.out.below hb).more hb.size)
      have HI4 := Lib.hid hi
      have HU4 := Lib.hid (And.intro h0 h1)
      clear hi h0 h1 hb HB3
      go_wp2_with fail
      refine (K3.out w4 HB4.out).mono ?_
      rintro e w5 ⟨uc, A5, r5, c5, rfl, hi, h0, h1, hb⟩
      have HB5 := Lib.hid (HB4.out.trans (hb.mono HB4.out.size))
      replace HWAS := Lib.hid ((HWAS.out.below hb).more hb.size)
      replace HI3 := Lib.hid ((HI3.out.below hb).more hb.size)
      replace HI4 := Lib.hid ((HI4.out.below hb).more hb.size)
      have HI5 := Lib.hid hi
      have HU5 := Lib.hid (And.intro h0 h1)
      clear hi h0 h1 hb HB4
      go_wp2_with fail
      refine (K4.out w5 HB5.out).mono ?_
      rintro e w6 ⟨ud, A6, r6, c6, rfl, hi, _, h0, h1, hb⟩
      have HB6 := Lib.hid (HB5.out.trans (hb.mono HB5.out.size))
      replace HWAS := Lib.hid ((HWAS.out.below hb).more hb.size)
      replace HI3 := Lib.hid ((HI3.out.below hb).more hb.size)
      replace HI4 := Lib.hid ((HI4.out.below hb).more hb.size)
      replace HI5 := Lib.hid ((HI5.out.below hb).more hb.size)
      have HI6 := Lib.hid hi
      have HU6 := Lib.hid (And.intro h0 h1)
      clear hi h0 h1 hb HB5
      go_wp2_with fail
      refine (K5.out w6 HB6.out).mono ?_
      rintro e w7 ⟨ss, A7, r7, c7, rfl, hi, hr7, hn7, h0, h1, hb⟩
      have HB7 := Lib.hid (HB6.out.trans (hb.mono HB6.out.size))
      replace HWAS := Lib.hid ((HWAS.out.below hb).more hb.size)
      replace HI3 := Lib.hid ((HI3.out.below hb).more hb.size)
      replace HI4 := Lib.hid ((HI4.out.below hb).more hb.size)
      replace HI5 := Lib.hid ((HI5.out.below hb).more hb.size)
      replace HI6 := Lib.hid ((HI6.out.below hb).more hb.size)
      have HS7 := Lib.hid hi
      have HU7 := Lib.hid (And.intro h0 h1)
      have HN7 := Lib.hid hn7
      clear hi h0 h1 hb HB6 hn7
      go_wp2_with fail
      refine (K6.out w7 HB7.out).mono ?_
      rintro e w8 ⟨ts, A8, r8, c8, rfl, hi, hr8, hn8, h0, h1, hb⟩
      have HB8 := Lib.hid (HB7.out.trans (hb.mono HB7.out.size))
      replace HWAS := Lib.hid ((HWAS.out.below hb).more hb.size)
      replace HI3 := Lib.hid ((HI3.out.below hb).more hb.size)
      replace HI4 := Lib.hid ((HI4.out.below hb).more hb.size)
      replace HI5 := Lib.hid ((HI5.out.below hb).more hb.size)
      replace HI6 := Lib.hid ((HI6.out.below hb).more hb.size)
      replace HS7 := Lib.hid ((HS7.out.below hb).more hb.size)
      have HS8 := Lib.hid hi
      have hab : ua = ub := by
        rcases hE2 with h2 | h2
        · exact rise_same (HU3.out.1 h2).rise (HU4.out.1 h2).rise fun m => ((HU3.out.1 h2).mem m).trans ((HU4.out.1 h2).mem m).symm
        · rw [HU3.out.2 h2, HU4.out.2 h2]
      have hcd : uc = ud := by
        rcases hE2 with h2 | h2
        · exact rise_same (HU5.out.1 h2).rise (HU6.out.1 h2).rise fun m => ((HU5.out.1 h2).mem m).trans ((HU6.out.1 h2).mem m).symm
        · rw [HU5.out.2 h2, HU6.out.2 h2]
      have hst : ss.map keyS = ts.map keyS := by
        rcases hE2 with h2 | h2
        · obtain ⟨u, hu, hk⟩ := h0 h2
          have hw := HU7.out.1 h2
          rw [hw.keys, hk]
          rw [rise_same hw.union.rise hu.rise fun m => (hw.union.mem m).trans (hu.mem m).symm]
        · rw [HU7.out.2 h2, h1 h2]
      have hla : ua.length ≤ 500 := by
        rcases hE2 with h2 | h2
        · exact Nat.le_trans (HU3.out.1 h2).len HT.out
        · rw [HU3.out.2 h2]; simp
      have hlc : uc.length ≤ 500 := by
        rcases hE2 with h2 | h2
        · exact Nat.le_trans (HU5.out.1 h2).len HT.out
        · rw [HU5.out.2 h2]; simp
      have hi3 := HI3.out.1
      have hi4 := HI4.out.1
      have hi5 := HI5.out.1
      have hi6 := HI6.out.1
      rw [← hab] at hi4
      rw [← hcd] at hi6
      have q1 := fun (W : World) (q : Nat) (hW : W = w8.drewN q) => refEqual_any A3 A4 r3 r4 c3 c4 ua ub W w8.heap.size (by rw [hW]; exact HI3.out) (by rw [hW]; exact HI4.out) (by omega) (by omega)
      have q2 := fun (W : World) (q : Nat) (hW : W = w8.drewN q) => refEqual_any A5 A6 r5 r6 c5 c6 uc ud W w8.heap.size (by rw [hW]; exact HI5.out) (by rw [hW]; exact HI6.out) (by omega) (by omega)
      simp only [decide_eq_true hab] at q1
      simp only [decide_eq_true hcd] at q2
      have q3 := fun (W : World) (q : Nat) (hW : W = w8.drewN q) => refSameStops_any A7 A8 r7 r8 c7 c8 ss ts W (by rw [hW]; exact HS7.out) (by rw [hW]; exact HS8.out) (by omega) (by omega) (fun s hs => by rw [HN7.out s hs]; omega) (fun s hs => by rw [hn8 s hs]; omega)
      simp only [decide_eq_true hst] at q3
      have q0 := fun (W : World) (q : Nat) (hW : W = w8.drewN q) (a a' : Option Addr) (lc lc' : Nat) (L : List Int) (hm : L ∈ LL) (h1 : Ints w8 w8.heap.size a L.length L) (h2 : Ints w8 w8.heap.size a' L.length L) => refEqual_any a a' L.length L.length lc lc' L L W w8.heap.size (by rw [hW]; exact h1) (by rw [hW]; exact h2) (by have := HLM.out L hm; omega) (by have := HLM.out L hm; omega)
      simp only [decide_true] at q0
      have Q0 := Lib.hid q0
      have Q1 := Lib.hid q1
      have Q2 := Lib.hid q2
      have Q3 := Lib.hid q3
      have eE : (E == E) = true := by simp
      have hE3 : E = E := rfl
      clear hi hr7 hr8 hn8 h0 h1 hb HB7 hab hcd hst hla hlc hi3 hi4 hi5 hi6 q0 q1 q2 q3 hE3 hE2
      go_wp2_with fail
      go_loopw [75] (fun v wx => ∃ (j q : Nat), v = .int .i64 (j : Int) ∧ j ≤ k ∧ Hid (wx = w8.drewN q)) (fun v _ => k - (intOf v).toNat)
      case atStart => exact ⟨0, 0, rfl, Nat.zero_le _, rfl⟩
      case round =>
        obtain ⟨j, q, rfl, hj, HW⟩ := hrel
        by_cases hlt : j < k
        · obtain ⟨b, off, L, a, lc, rfl, _, HY, hc1, hcap, hIL⟩ := (HH.out.below (belowQ HB8.out HW.out)).at_ hlt
          obtain ⟨b2, off2, L2, a2, lc2, rfl, _, HY2, hc2, _, hIL2⟩ := HWAS.out.at_ hlt
          have eL : L2 = L := by have := HY2.out; rw [HY.out] at this; injection this with this; exact this.symm
          subst eL
          have hc3 : wr.cell? ⟨b2, off2 + j, none⟩ = some (.slice a2 L2.length lc2) := by rw [HW.out]; exact hc2
          have hIL8 : Ints w8 w8.heap.size a L2.length L2 := (hIL.keep fun p hp => by rw [HW.out]; rfl).more HB8.out.size
          have cQ := Q0.out wr q HW.out a a2 lc lc2 L2 (List.mem_of_getElem? HY.out) hIL8 hIL2
          obtain ⟨M, hM⟩ : ∃ M, L2.length = M := ⟨_, rfl⟩
          rw [hM] at hc1 hc3 cQ
          have j0 : (0 : Int) ≤ (j : Int) := by omega
          have j1 : (j : Int) < (k : Int) := by omega
          clear hM hIL hIL2 hIL8 hc2 hcap
          go_wp2_with (go_at_call 19; refine cQ.mono ?_; rintro e w9 ⟨rfl, q9, hw9⟩)
          go_roundw
          case rel => exact ⟨j + 1, _, by go_num, by omega, by unfold Hid; rw [HW.out]; exact World.drewN_drewN _ _ _⟩
          case measure => simp [intOf]; omega
        · obtain rfl : j = k := by omega
          clear hlt hj
          have cq1 := Q1.out wr q HW.out
          go_wp2_with fail
          refine cq1.mono ?_
          rintro e w9 ⟨rfl, q9, hw9⟩
          have HW9 : Hid (w9 = w8.drewN (q + q9)) := by unfold Hid; rw [hw9, HW.out]; exact World.drewN_drewN _ _ _
          have cq2 := Q2.out w9 _ HW9.out
          clear hw9
          go_wp2_with fail
          refine cq2.mono ?_
          rintro e w10 ⟨rfl, q10, hw10⟩
          have HW10 : Hid (w10 = w8.drewN (q + q9 + q10)) := by unfold Hid; rw [hw10, HW9.out]; exact World.drewN_drewN _ _ _
          have cq3 := Q3.out w10 _ HW10.out
          clear hw10
          go_wp2_with fail
          refine cq3.mono ?_
          rintro e w11 ⟨rfl, q11, hw11⟩
          have hb11 := belowQ (belowQ HB8.out HW10.out) hw11
          clear hw11
          go_wp2_with fail
          go_ret
          exact ⟨rfl, hb11⟩
theorem mergeLists_any (w : World) (A : Option Addr) (n c : Nat) (LL : List (List Int)) (h : IntsLL w w.heap.size A n LL) (hn : n ≤ 5864062014805) (_ : n ≤ c) (hL : ∀ L ∈ LL, L.length ≤ 17592186044416) :
    Calls Try.prog 3 #[.slice A n c] w fun e w' => e = .returned (.bool true) ∧ Below w.heap.size w w' := by
  by_cases hs : n ≤ 50 ∧ LL.flatten.length ≤ 500
  · exact mergeLists_in w A n c LL h hL hs.1 hs.2
  · exact mergeLists_many w A n c LL h hn hL hs
end Go.Proofs.Ytnaehnlpcjaaeaa
