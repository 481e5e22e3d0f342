/- purflelaw04.LevelMakes returns true at every kind, size and groups. -/
import Derived.Test.YtanbhpdobpiafaaLRefM
import Derived.Test.YtanbhpdobpiafaaLRefS
import Derived.Test.YtanbhpdobpiafaaLFew
namespace Go.Proofs.Ytanbhpdobpiafaa
open Go.RowKit

theorem lv_wrap (v : Int) : -9223372036854775808 ≤ IntKind.i64.wrap v ∧ IntKind.i64.wrap v ≤ 9223372036854775807 := by
  have e1 := wrap_eq v
  rw [e1]; unfold wrap64; omega
theorem post_ok {w w' : World} {K S : Int} {LL : List (List Int)} {x : Ending} {PP CC : List Int} {p q : Nat} (h : MakePost w K S LL x w') (hE : makeE K S LL = 0) (hP : mkPos K LL = PP) (hC : mkCrd K LL = CC) (hp : PP.length = p) (hq : CC.length = q) :
    ∃ A1 c1 A2 c2, x = .returned (.tuple #[lvV K S A1 p c1 A2 q c2, .int .i64 0]) ∧ OwnI w' w.heap.size 3 A1 c1 PP ∧ OwnI w' w.heap.size 3 A2 c2 CC ∧ Below w.heap.size w w' := by
  subst hP hC hp hq
  rcases h with ⟨_, h⟩ | ⟨h0, _⟩
  · exact h
  · exact absurd hE h0
theorem post_bad {w w' : World} {K S E : Int} {LL : List (List Int)} {x : Ending} (h : MakePost w K S LL x w') (hE : makeE K S LL = E) (h0 : E ≠ 0) :
    x = .returned (.tuple #[lvV 0 0 none 0 0 none 0 0, .int .i64 E]) ∧ Below w.heap.size w w' := by
  subst hE
  rcases h with ⟨h, _⟩ | ⟨_, h⟩
  · exact absurd h h0
  · exact h
theorem made_len {K S : Int} {LL : List (List Int)} (hE : makeE K S LL = 0) (hn : LL.length ≤ 5000) : (mkPos K LL).length ≤ 5001 ∧ (mkCrd K LL).length ≤ 65536 := by
  have h0 := (makeE_ok hE).2.2
  obtain ⟨b, hbb, HL⟩ := lok_of h0
  have hc := HL.crd
  refine ⟨?_, hc⟩
  by_cases hk : K = 1 ∨ K = 2
  · rw [HL.posLen hk]; have := HL.ahead; omega
  · rw [HL.posNil hk]; omega
theorem own_lv {W : World} {B1 B2 p q c1 c2 : Nat} {A1 A2 : Option Addr} {PP CC : List Int} (h1 : OwnI W B1 3 A1 c1 PP) (h2 : OwnI W B2 3 A2 c2 CC) (hp : PP.length = p) (hq : CC.length = q) (hpb : p ≤ 5001) (hqb : q ≤ 65536) : LvI W A1 p A2 q PP CC := by
  subst hp hq
  exact ⟨h1.ints, h2.ints, by omega, by omega⟩

set_option maxRecDepth 100000 in
set_option maxHeartbeats 2000000 in
theorem levelMakes_huge (K S : Int) (A : Option Addr) (n c : Nat) (LL : List (List Int)) (w : World) (hA : IntsLL w w.heap.size A n LL) (hn : n ≤ 5864062014805) (hLb : ∀ L ∈ LL, L.length ≤ 17592186044416) (h5 : 5000 < n) :
    Calls Try.prog 4 #[.int .i64 K, .int .i64 S, .slice A n c] w fun x w' => x = .returned (.bool true) ∧ Below w.heap.size w w' := by
  have HB : Below w.heap.size w w := Below.refl _ _
  have d1 : decide ((5000 : Int) < (n : Int)) = true := decide_eq_true (by omega)
  have HLB := Lib.hid hLb
  clear hLb
  go_enter Try.func4, Try.ntmps4
  go_wp2_with fail
  refine (lvLive_any _).mono ?_
  rintro x w1 ⟨rfl, hb⟩
  replace hA := (hA.below hb).more hb.size
  have hw1 := hb.size
  replace HB := HB.trans (hb.mono HB.size)
  clear hb
  go_wp2_with fail
  go_loopw [8, 21] (fun u v wr => ∃ (k : Nat) (s : Int), u = .int .i64 s ∧ v = .int .i64 (k : Int) ∧ k ≤ n ∧ wr = w1) (fun _ v _ => n - (intOf v).toNat)
  case atStart => exact ⟨0, 0, by first | exact ⟨rfl, rfl, Nat.zero_le _, rfl⟩ | exact ⟨rfl, Nat.zero_le _, rfl⟩⟩
  case round =>
    obtain ⟨k, s, rfl, rfl, hk, rfl⟩ := hrel
    by_cases hlt : k < n
    · obtain ⟨b, off, L, aL, cL, hA0, _, HX, hc, hcap, hI⟩ := hA.at_ hlt
      have hLm := HLB.out L (List.mem_of_getElem? HX.out)
      obtain ⟨lL, hlL⟩ : ∃ l, L.length = l := ⟨_, rfl⟩
      rw [hlL] at hc hcap hI hLm
      have HLL := Lib.hid hlL
      have HA0 := Lib.hid hA0
      clear hlL
      subst hA0
      go_wp2_with fail
      go_roundw
      case rel => exact ⟨k + 1, _, rfl, by go_num, by omega, by first | trivial | rfl⟩
      case measure => simp [intOf]; omega
    · obtain ⟨t, ht⟩ : ∃ t, decide ((70000 : Int) < s) = t := ⟨_, rfl⟩
      cases t
      · go_wp2_with fail
        go_ret
        exact ⟨rfl, HB⟩
      · go_wp2_with fail
        go_ret
        exact ⟨rfl, HB⟩

set_option maxRecDepth 100000 in
set_option maxHeartbeats 2000000 in
theorem levelMakes_long (K S : Int) (A : Option Addr) (n c : Nat) (LL : List (List Int)) (w : World) (hA : IntsLL w w.heap.size A n LL) (hn : n ≤ 5864062014805) (hLb : ∀ L ∈ LL, L.length ≤ 17592186044416) (h5 : n ≤ 5000) (h7 : 70000 < LL.flatten.length) :
    Calls Try.prog 4 #[.int .i64 K, .int .i64 S, .slice A n c] w fun x w' => x = .returned (.bool true) ∧ Below w.heap.size w w' := by
  have HB : Below w.heap.size w w := Below.refl _ _
  have d1 : decide ((5000 : Int) < (n : Int)) = false := decide_eq_false (by omega)
  have HLB := Lib.hid hLb
  have HLN : Hid (LL.length = n) := hA.1
  have HF7 := Lib.hid h7
  clear hLb h7
  go_enter Try.func4, Try.ntmps4
  go_wp2_with fail
  refine (lvLive_any _).mono ?_
  rintro x w1 ⟨rfl, hb⟩
  replace hA := (hA.below hb).more hb.size
  have hw1 := hb.size
  replace HB := HB.trans (hb.mono HB.size)
  clear hb
  go_wp2_with fail
  go_loopw [8, 21] (fun u v wr => ∃ (k : Nat) (T : Nat), Hid ((LL.take k).flatten.length = T) ∧ T ≤ k * 17592186044416 ∧ u = .int .i64 (T : Int) ∧ v = .int .i64 (k : Int) ∧ k ≤ n ∧ wr = w1) (fun _ v _ => n - (intOf v).toNat)
  case atStart => exact ⟨0, 0, by unfold Hid; simp, by omega, rfl, rfl, Nat.zero_le _, rfl⟩
  case round =>
    obtain ⟨k, T, HTK, hTb, rfl, rfl, hk, rfl⟩ := hrel
    by_cases hlt : k < n
    · obtain ⟨b, off, L, aL, cL, hA0, _, HX, hc, hcap, hI⟩ := hA.at_ hlt
      have hLm := HLB.out L (List.mem_of_getElem? HX.out)
      obtain ⟨lL, hlL⟩ : ∃ l, L.length = l := ⟨_, rfl⟩
      rw [hlL] at hc hcap hI hLm
      have HLL := Lib.hid hlL
      have HA0 := Lib.hid hA0
      clear hlL
      subst hA0
      have HTK2 : Hid ((LL.take (k + 1)).flatten.length = T + lL) := by unfold Hid; rw [flat_succ HX.out, List.length_append, HTK.out, HLL.out]
      have e5 : IntKind.i64.wrap ((T : Int) + (lL : Int)) = (T : Int) + (lL : Int) := by rw [IntWalk.i64_in _ (by omega)]
      go_wp2_with fail
      go_roundw
      case rel => exact ⟨k + 1, T + lL, HTK2, by omega, by go_num, by go_num, by omega, by first | trivial | rfl⟩
      case measure => simp [intOf]; omega
    · have htl : T = LL.flatten.length := by
        have := HTK.out
        rw [List.take_of_length_le (by rw [HLN.out]; omega)] at this
        omega
      have d2 : decide ((70000 : Int) < (T : Int)) = true := decide_eq_true (by have := HF7.out; omega)
      clear htl
      go_wp2_with fail
      go_ret
      exact ⟨rfl, HB⟩

set_option maxRecDepth 100000 in
set_option maxHeartbeats 8000000 in
theorem levelMakes_bad (K S : Int) (A : Option Addr) (n c : Nat) (LL : List (List Int)) (w : World) (hA : IntsLL w w.heap.size A n LL) (hn : n ≤ 5864062014805) (hLb : ∀ L ∈ LL, L.length ≤ 17592186044416) (h5 : n ≤ 5000) (h7 : LL.flatten.length ≤ 70000) (hE : makeE K S LL ≠ 0) :
    Calls Try.prog 4 #[.int .i64 K, .int .i64 S, .slice A n c] w fun x w' => x = .returned (.bool true) ∧ Below w.heap.size w w' := by
  have HB : Below w.heap.size w w := Below.refl _ _
  have d1 : decide ((5000 : Int) < (n : Int)) = false := decide_eq_false (by omega)
  have HLB := Lib.hid hLb
  have HLN : Hid (LL.length = n) := hA.1
  have HF7 := Lib.hid h7
  have HA0 := Lib.hid hA
  have hLc : ∀ L ∈ LL, L.length ≤ 9223372036854775807 := fun L hL => by have := hLb L hL; omega
  obtain ⟨E, hEE⟩ : ∃ E, makeE K S LL = E := ⟨_, rfl⟩
  rw [hEE] at hE
  have HMA := fun W (hI : IntsLL W W.heap.size A n LL) => (make_any K S A n c LL W hI h5 hLc).mono (fun _ _ h => post_bad h hEE hE)
  have HMB := fun W (hI : IntsLL W W.heap.size A n LL) => (refMake_all K S A n c LL W hI h5 h7 hLc).mono (fun _ _ h => post_bad h hEE hE)
  have e1 : (E == E) = true := by simp
  have e2 : (E != E) = false := by simp
  clear hE hEE
  clear hLb h7 hLc
  go_enter Try.func4, Try.ntmps4
  go_wp2_with fail
  refine (lvLive_any _).mono ?_
  rintro x w1 ⟨rfl, hb⟩
  replace hA := (hA.below hb).more hb.size
  have hw1 := hb.size
  replace HB := HB.trans (hb.mono HB.size)
  clear hb
  go_wp2_with fail
  go_loopw [8, 21] (fun u v wr => ∃ (k : Nat) (T : Nat), Hid ((LL.take k).flatten.length = T) ∧ T ≤ k * 17592186044416 ∧ u = .int .i64 (T : Int) ∧ v = .int .i64 (k : Int) ∧ k ≤ n ∧ wr = w1) (fun _ v _ => n - (intOf v).toNat)
  case atStart => exact ⟨0, 0, by unfold Hid; simp, by omega, rfl, rfl, Nat.zero_le _, rfl⟩
  case round =>
    obtain ⟨k, T, HTK, hTb, rfl, rfl, hk, rfl⟩ := hrel
    by_cases hlt : k < n
    · obtain ⟨b, off, L, aL, cL, hA0, _, HX, hc, hcap, hI⟩ := hA.at_ hlt
      have hLm := HLB.out L (List.mem_of_getElem? HX.out)
      obtain ⟨lL, hlL⟩ : ∃ l, L.length = l := ⟨_, rfl⟩
      rw [hlL] at hc hcap hI hLm
      have HLL := Lib.hid hlL
      have HA0 := Lib.hid hA0
      clear hlL
      subst hA0
      have HTK2 : Hid ((LL.take (k + 1)).flatten.length = T + lL) := by unfold Hid; rw [flat_succ HX.out, List.length_append, HTK.out, HLL.out]
      have e5 : IntKind.i64.wrap ((T : Int) + (lL : Int)) = (T : Int) + (lL : Int) := by rw [IntWalk.i64_in _ (by omega)]
      go_wp2_with fail
      go_roundw
      case rel => exact ⟨k + 1, T + lL, HTK2, by omega, by go_num, by go_num, by omega, by first | trivial | rfl⟩
      case measure => simp [intOf]; omega
    · have htl : T = LL.flatten.length := by
        have := HTK.out
        rw [List.take_of_length_le (by rw [HLN.out]; omega)] at this
        omega
      have d2 : decide ((70000 : Int) < (T : Int)) = false := decide_eq_false (by have := HF7.out; omega)
      clear htl
      obtain ⟨wz, rfl⟩ : ∃ wz : World, wz = wr := ⟨_, rfl⟩
      go_wp2_with fail
      refine (HMA _ hA).mono ?_
      rintro x w2 ⟨rfl, hb⟩
      replace hA := (hA.below hb).more hb.size
      replace HB := HB.trans (hb.mono HB.size)
      clear hb
      have hz := lvBelow w2 (lvO 0 0 none 0 0 none 0 0)
      have zx := heap_alloc_new w2 (lvO 0 0 none 0 0 none 0 0)
      replace hA := (hA.below hz).more hz.size
      replace HB := HB.trans (hz.mono HB.size)
      clear hz
      go_wp2_with fail
      refine (HMB _ hA).mono ?_
      rintro x w3 ⟨rfl, hb⟩
      replace hA := (hA.below hb).more hb.size
      replace zx := oKeep hb zx
      replace HB := HB.trans (hb.mono HB.size)
      clear hb
      have hz := lvBelow w3 (lvO 0 0 none 0 0 none 0 0)
      have zy := heap_alloc_new w3 (lvO 0 0 none 0 0 none 0 0)
      replace hA := (hA.below hz).more hz.size
      replace zx := oKeep hz zx
      replace HB := HB.trans (hz.mono HB.size)
      clear hz
      have HC1 := refSameL_any 0 0 0 0 none none none none 0 0 0 0 0 0 0 0 [] [] [] [] (w3.alloc (lvO 0 0 none 0 0 none 0 0)) ⟨Ints.nil_, Ints.nil_, by omega, by omega⟩ ⟨Ints.nil_, Ints.nil_, by omega, by omega⟩ (by omega) (by omega)
      rw [pB_t ⟨rfl, rfl, rfl, rfl⟩] at HC1
      obtain ⟨p0, p1, p2, p3, f0, f1, f2, f3⟩ := lvCells zx
      obtain ⟨q0, q1, q2, q3, g0, g1, g2, g3⟩ := lvCells zy
      go_wp2_with fail
      refine (HC1).mono ?_
      rintro x w4 ⟨rfl, hb⟩
      have hs4 : w3.heap.size + 1 ≤ w4.heap.size := by have := hb.size; rwa [World.size_alloc] at this
      replace hA := (hA.below hb).more hb.size
      replace zx := oKeep hb zx
      replace zy := oKeep hb zy
      replace HB := HB.trans (hb.mono HB.size)
      clear hb
      clear HC1 p0 p1 p2 p3 f0 f1 f2 f3 q0 q1 q2 q3 g0 g1 g2 g3
      obtain ⟨p0, p1, p2, p3, f0, f1, f2, f3⟩ := lvCells zx
      obtain ⟨q0, q1, q2, q3, g0, g1, g2, g3⟩ := lvCells zy
      go_wp2_with fail
      obtain ⟨wo, rfl⟩ : ∃ wo : World, wo = w4 := ⟨_, rfl⟩
      clear p0 p1 p2 p3 f0 f1 f2 f3 q0 q1 q2 q3 g0 g1 g2 g3
      go_loopw [64] (fun v wr => v = .int .i64 0 ∧ wr = wo) (fun _ _ => 0)
      case atStart => exact ⟨rfl, rfl⟩
      case round =>
        obtain ⟨rfl, rfl⟩ := hrel
        go_wp2_with fail
        refine (HMB _ hA).mono ?_
        rintro x w5 ⟨rfl, hb⟩
        replace zy := oKeep hb zy
        replace HB := HB.trans (hb.mono HB.size)
        clear hb
        have hz := lvBelow w5 (lvO 0 0 none 0 0 none 0 0)
        have zz := heap_alloc_new w5 (lvO 0 0 none 0 0 none 0 0)
        replace zy := oKeep hz zy
        replace HB := HB.trans (hz.mono HB.size)
        clear hz
        have HC1 := refSameL_any 0 0 0 0 none none none none 0 0 0 0 0 0 0 0 [] [] [] [] (w5.alloc (lvO 0 0 none 0 0 none 0 0)) ⟨Ints.nil_, Ints.nil_, by omega, by omega⟩ ⟨Ints.nil_, Ints.nil_, by omega, by omega⟩ (by omega) (by omega)
        rw [pB_t ⟨rfl, rfl, rfl, rfl⟩] at HC1
        obtain ⟨p0, p1, p2, p3, f0, f1, f2, f3⟩ := lvCells zz
        obtain ⟨q0, q1, q2, q3, g0, g1, g2, g3⟩ := lvCells zy
        go_wp2_with fail
        refine (HC1).mono ?_
        rintro x w6 ⟨rfl, hb⟩
        replace zy := oKeep hb zy
        replace zz := oKeep hb zz
        replace HB := HB.trans (hb.mono HB.size)
        clear hb
        go_wp2_with fail
        go_ret
        exact ⟨rfl, HB⟩

set_option maxRecDepth 100000 in
set_option maxHeartbeats 8000000 in
theorem levelMakes_ok (K S : Int) (A : Option Addr) (n c : Nat) (LL : List (List Int)) (w : World) (hA : IntsLL w w.heap.size A n LL) (hn : n ≤ 5864062014805) (hLb : ∀ L ∈ LL, L.length ≤ 17592186044416) (h5 : n ≤ 5000) (h7 : LL.flatten.length ≤ 70000) (hE : makeE K S LL = 0) :
    Calls Try.prog 4 #[.int .i64 K, .int .i64 S, .slice A n c] w fun x w' => x = .returned (.bool true) ∧ Below w.heap.size w w' := by
  have HB : Below w.heap.size w w := Below.refl _ _
  have d1 : decide ((5000 : Int) < (n : Int)) = false := decide_eq_false (by omega)
  have HLB := Lib.hid hLb
  have HLN : Hid (LL.length = n) := hA.1
  have HF7 := Lib.hid h7
  have HA0 := Lib.hid hA
  have hLc : ∀ L ∈ LL, L.length ≤ 9223372036854775807 := fun L hL => by have := hLb L hL; omega
  obtain ⟨hpb, hqb⟩ := made_len hE (by rw [hA.1]; exact h5)
  obtain ⟨PP, hPP⟩ : ∃ P, mkPos K LL = P := ⟨_, rfl⟩
  obtain ⟨CC, hCC⟩ : ∃ C, mkCrd K LL = C := ⟨_, rfl⟩
  rw [hPP] at hpb
  rw [hCC] at hqb
  obtain ⟨p, hPL⟩ : ∃ p, PP.length = p := ⟨_, rfl⟩
  obtain ⟨q, hCL⟩ : ∃ q, CC.length = q := ⟨_, rfl⟩
  have HMA := fun W (hI : IntsLL W W.heap.size A n LL) => (make_any K S A n c LL W hI h5 hLc).mono (fun _ _ h => post_ok h hE hPP hCC hPL hCL)
  have HMB := fun W (hI : IntsLL W W.heap.size A n LL) => (refMake_all K S A n c LL W hI h5 h7 hLc).mono (fun _ _ h => post_ok h hE hPP hCC hPL hCL)
  rw [hPL] at hpb
  rw [hCL] at hqb
  have HPL := Lib.hid hPL
  have HCL := Lib.hid hCL
  clear hE hPP hCC hPL hCL
  clear hLb h7 hLc
  go_enter Try.func4, Try.ntmps4
  go_wp2_with fail
  refine (lvLive_any _).mono ?_
  rintro x w1 ⟨rfl, hb⟩
  replace hA := (hA.below hb).more hb.size
  have hw1 := hb.size
  replace HB := HB.trans (hb.mono HB.size)
  clear hb
  go_wp2_with fail
  go_loopw [8, 21] (fun u v wr => ∃ (k : Nat) (T : Nat), Hid ((LL.take k).flatten.length = T) ∧ T ≤ k * 17592186044416 ∧ u = .int .i64 (T : Int) ∧ v = .int .i64 (k : Int) ∧ k ≤ n ∧ wr = w1) (fun _ v _ => n - (intOf v).toNat)
  case atStart => exact ⟨0, 0, by unfold Hid; simp, by omega, rfl, rfl, Nat.zero_le _, rfl⟩
  case round =>
    obtain ⟨k, T, HTK, hTb, rfl, rfl, hk, rfl⟩ := hrel
    by_cases hlt : k < n
    · obtain ⟨b, off, L, aL, cL, hA0, _, HX, hc, hcap, hI⟩ := hA.at_ hlt
      have hLm := HLB.out L (List.mem_of_getElem? HX.out)
      obtain ⟨lL, hlL⟩ : ∃ l, L.length = l := ⟨_, rfl⟩
      rw [hlL] at hc hcap hI hLm
      have HLL := Lib.hid hlL
      have HA0 := Lib.hid hA0
      clear hlL
      subst hA0
      have HTK2 : Hid ((LL.take (k + 1)).flatten.length = T + lL) := by unfold Hid; rw [flat_succ HX.out, List.length_append, HTK.out, HLL.out]
      have e5 : IntKind.i64.wrap ((T : Int) + (lL : Int)) = (T : Int) + (lL : Int) := by rw [IntWalk.i64_in _ (by omega)]
      go_wp2_with fail
      go_roundw
      case rel => exact ⟨k + 1, T + lL, HTK2, by omega, by go_num, by go_num, by omega, by first | trivial | rfl⟩
      case measure => simp [intOf]; omega
    · have htl : T = LL.flatten.length := by
        have := HTK.out
        rw [List.take_of_length_le (by rw [HLN.out]; omega)] at this
        omega
      have d2 : decide ((70000 : Int) < (T : Int)) = false := decide_eq_false (by have := HF7.out; omega)
      clear htl
      obtain ⟨wz, rfl⟩ : ∃ wz : World, wz = wr := ⟨_, rfl⟩
      go_wp2_with fail
      refine (HMA _ hA).mono ?_
      rintro x w2 ⟨A1, c1, A2, c2, rfl, HO1, HO2, hb⟩
      have HGX : Hid (∀ g, A2 = some ⟨g, 0, none⟩ → g < w2.heap.size) := fun g hg => by subst hg; exact (HO2.1.lt g rfl).2
      replace hA := (hA.below hb).more hb.size
      replace HB := HB.trans (hb.mono HB.size)
      clear hb
      have hz := lvBelow w2 (lvO K S A1 p c1 A2 q c2)
      have zx := heap_alloc_new w2 (lvO K S A1 p c1 A2 q c2)
      replace hA := (hA.below hz).more hz.size
      replace HO1 := HO1.below hz (Nat.le_refl _)
      replace HO2 := HO2.below hz (Nat.le_refl _)
      replace HB := HB.trans (hz.mono HB.size)
      clear hz
      go_wp2_with fail
      refine (HMB _ hA).mono ?_
      rintro x w3 ⟨A3, c3, A4, c4, rfl, HO3, HO4, hb⟩
      have hs3 : w2.heap.size + 1 ≤ w3.heap.size := by have := hb.size; rwa [World.size_alloc] at this
      replace hA := (hA.below hb).more hb.size
      replace HO1 := HO1.below hb (Nat.le_refl _)
      replace HO2 := HO2.below hb (Nat.le_refl _)
      replace zx := oKeep hb zx
      replace HB := HB.trans (hb.mono HB.size)
      clear hb
      have hz := lvBelow w3 (lvO K S A3 p c3 A4 q c4)
      have zy := heap_alloc_new w3 (lvO K S A3 p c3 A4 q c4)
      replace hA := (hA.below hz).more hz.size
      replace HO1 := HO1.below hz (Nat.le_refl _)
      replace HO2 := HO2.below hz (Nat.le_refl _)
      replace zx := oKeep hz zx
      replace HO3 := HO3.below hz (Nat.le_refl _)
      replace HO4 := HO4.below hz (Nat.le_refl _)
      replace HB := HB.trans (hz.mono HB.size)
      clear hz
      rw [World.size_alloc] at HO3 HO4
      have HC1 := refSameL_any K S K S A1 A2 A3 A4 p c1 q c2 p c3 q c4 PP CC PP CC _ (own_lv HO1 HO2 HPL.out HCL.out hpb hqb) (own_lv HO3 HO4 HPL.out HCL.out hpb hqb) (by omega) (by omega)
      rw [pB_t ⟨rfl, rfl, rfl, rfl⟩] at HC1
      obtain ⟨p0, p1, p2, p3, f0, f1, f2, f3⟩ := lvCells zx
      obtain ⟨q0, q1, q2, q3, g0, g1, g2, g3⟩ := lvCells zy
      go_wp2_with fail
      refine (HC1).mono ?_
      rintro x w4 ⟨rfl, hb⟩
      have hs4 : w3.heap.size + 1 ≤ w4.heap.size := by have := hb.size; rwa [World.size_alloc] at this
      replace hA := (hA.below hb).more hb.size
      replace HO1 := HO1.below hb (Nat.le_refl _)
      replace HO2 := HO2.below hb (Nat.le_refl _)
      replace zx := oKeep hb zx
      replace HO3 := HO3.below hb (Nat.le_refl _)
      replace HO4 := HO4.below hb (Nat.le_refl _)
      replace zy := oKeep hb zy
      replace HB := HB.trans (hb.mono HB.size)
      clear hb
      clear HC1 p0 p1 p2 p3 f0 f1 f2 f3 q0 q1 q2 q3 g0 g1 g2 g3
      obtain ⟨p0, p1, p2, p3, f0, f1, f2, f3⟩ := lvCells zx
      obtain ⟨q0, q1, q2, q3, g0, g1, g2, g3⟩ := lvCells zy
      go_wp2_with fail
      obtain ⟨wo, rfl⟩ : ∃ wo : World, wo = w4 := ⟨_, rfl⟩
      clear p0 p1 p2 p3 f0 f1 f2 f3 q0 q1 q2 q3 g0 g1 g2 g3
      go_loopw [64] (fun v wr => ∃ (j : Nat) (M : List Int), v = .int .i64 (j : Int) ∧ j ≤ q ∧ Hid (M.length = q) ∧ Hid (OwnI wr wz.heap.size 3 A2 c2 M) ∧ Hid (OwnI wr (w2.heap.size + 1) 3 A3 c3 PP) ∧ Hid (OwnI wr (w2.heap.size + 1) 3 A4 c4 CC) ∧ wr.heap[w2.heap.size]? = some (lvO K S A1 p c1 A2 q c2) ∧ wr.heap[w3.heap.size]? = some (lvO K S A3 p c3 A4 q c4) ∧ Below w.heap.size w wr ∧ w3.heap.size ≤ wr.heap.size) (fun v _ => q - (intOf v).toNat)
      case atStart => exact ⟨0, CC, rfl, Nat.zero_le _, HCL, HO2, HO3, HO4, zx, zy, HB, by omega⟩
      case round =>
        clear hA HO1 HO2 HO3 HO4 zx zy HB
        obtain ⟨j, M, rfl, hj, HML, HOM, HO3, HO4, zx, zy, HB, hs⟩ := hrel
        obtain ⟨p0, p1, p2, p3, f0, f1, f2, f3⟩ := lvCells zx
        by_cases hlt2 : j < q
        · obtain ⟨g, rfl, hg1, hg2⟩ := HOM.out.some_ (by rw [HML.out]; omega)
          obtain ⟨y, HY⟩ : ∃ y, Hid (M[j]? = some y) := ⟨_, Lib.hid (List.getElem?_eq_getElem (by rw [HML.out]; exact hlt2))⟩
          obtain ⟨hcy, hfy⟩ := HOM.out.cell_ HY.out
          have hv := lv_wrap (y + 100)
          obtain ⟨v, hvv⟩ : ∃ v, IntKind.i64.wrap (y + 100) = v := ⟨_, rfl⟩
          rw [hvv] at hv
          have hgx : g < w2.heap.size := HGX.out g rfl
          have HOM2 : Hid (OwnI (wr.setCell ⟨g, j, none⟩ (.int .i64 v)) wz.heap.size 3 (some ⟨g, 0, none⟩) c2 (M.set j v)) := HOM.out.set_ j v hv
          have HO32 : Hid (OwnI (wr.setCell ⟨g, j, none⟩ (.int .i64 v)) (w2.heap.size + 1) 3 A3 c3 PP) := HO3.out.far (by omega) j _
          have HO42 : Hid (OwnI (wr.setCell ⟨g, j, none⟩ (.int .i64 v)) (w2.heap.size + 1) 3 A4 c4 CC) := HO4.out.far (by omega) j _
          have zx2 := keep1 zx (g := g) (by omega) j (.int .i64 v)
          have zy2 := keep1 zy (g := g) (by omega) j (.int .i64 v)
          have HB2 := HB.setCell (p := ⟨g, j, none⟩) (Nat.le_trans hw1 hg1) (.int .i64 v)
          have HML2 : Hid ((M.set j v).length = q) := by unfold Hid; rw [List.length_set]; exact HML.out
          have hs2 : w3.heap.size ≤ (wr.setCell ⟨g, j, none⟩ (.int .i64 v)).heap.size := by rw [size_set]; exact hs
          clear HOM HO3 HO4 zx zy HB
          go_wp2_with fail
          go_roundw
          case rel => exact ⟨j + 1, _, by go_num, by omega, HML2, HOM2, HO32, HO42, zx2, zy2, HB2, hs2⟩
          case measure => simp [intOf]; omega
        · have hA := (HA0.out.below HB).more HB.size
          replace HO3 := HO3.out
          replace HO4 := HO4.out
          clear HOM zx p0 p1 p2 p3 f0 f1 f2 f3
          go_wp2_with fail
          refine (HMB _ hA).mono ?_
          rintro x w5 ⟨A5, c5, A6, c6, rfl, HO5, HO6, hb⟩
          replace HO3 := HO3.below hb (Nat.le_refl _)
          replace HO4 := HO4.below hb (Nat.le_refl _)
          replace zy := oKeep hb zy
          replace HB := HB.trans (hb.mono HB.size)
          clear hb
          have hz := lvBelow w5 (lvO K S A5 p c5 A6 q c6)
          have zz := heap_alloc_new w5 (lvO K S A5 p c5 A6 q c6)
          replace HO3 := HO3.below hz (Nat.le_refl _)
          replace HO4 := HO4.below hz (Nat.le_refl _)
          replace zy := oKeep hz zy
          replace HO5 := HO5.below hz (Nat.le_refl _)
          replace HO6 := HO6.below hz (Nat.le_refl _)
          replace HB := HB.trans (hz.mono HB.size)
          clear hz
          have HC1 := refSameL_any K S K S A5 A6 A3 A4 p c5 q c6 p c3 q c4 PP CC PP CC _ (own_lv HO5 HO6 HPL.out HCL.out hpb hqb) (own_lv HO3 HO4 HPL.out HCL.out hpb hqb) (by omega) (by omega)
          rw [pB_t ⟨rfl, rfl, rfl, rfl⟩] at HC1
          obtain ⟨p0, p1, p2, p3, f0, f1, f2, f3⟩ := lvCells zz
          obtain ⟨q0, q1, q2, q3, g0, g1, g2, g3⟩ := lvCells zy
          go_wp2_with fail
          refine (HC1).mono ?_
          rintro x w6 ⟨rfl, hb⟩
          replace HO3 := HO3.below hb (Nat.le_refl _)
          replace HO4 := HO4.below hb (Nat.le_refl _)
          replace zy := oKeep hb zy
          replace HO5 := HO5.below hb (Nat.le_refl _)
          replace HO6 := HO6.below hb (Nat.le_refl _)
          replace zz := oKeep hb zz
          replace HB := HB.trans (hb.mono HB.size)
          clear hb
          go_wp2_with fail
          go_ret
          exact ⟨rfl, HB⟩

theorem levelMakes_any (w : World) (K : Int) (_hK1 : -9223372036854775808 ≤ K) (_hK2 : K ≤ 9223372036854775807) (S : Int) (_hS1 : -9223372036854775808 ≤ S) (_hS2 : S ≤ 9223372036854775807) (A : Option Addr) (n c : Nat) (LL : List (List Int)) (hA : IntsLL w w.heap.size A n LL) (hn : n ≤ 5864062014805) (_hc : n ≤ c) (hLb : ∀ L ∈ LL, L.length ≤ 17592186044416) :
    Calls Try.prog 4 #[.int .i64 K, .int .i64 S, .slice A n c] w fun x w' => x = .returned (.bool true) ∧ Below w.heap.size w w' := by
  by_cases h5 : 5000 < n
  · exact levelMakes_huge K S A n c LL w hA hn hLb h5
  by_cases h7 : 70000 < LL.flatten.length
  · exact levelMakes_long K S A n c LL w hA hn hLb (by omega) h7
  by_cases hE : makeE K S LL = 0
  · exact levelMakes_ok K S A n c LL w hA hn hLb (by omega) (by omega) hE
  · exact levelMakes_bad K S A n c LL w hA hn hLb (by omega) (by omega) hE
end Go.Proofs.Ytanbhpdobpiafaa
