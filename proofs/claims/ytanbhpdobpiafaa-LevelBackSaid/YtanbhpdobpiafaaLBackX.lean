/- purflelaw04.LevelBack returns true at every kind, size and groups. -/
import Derived.Test.YtanbhpdobpiafaaLBackM
import Derived.Test.YtanbhpdobpiafaaLSame
namespace Go.Proofs.Ytanbhpdobpiafaa
open Go.RowKit

set_option maxRecDepth 100000 in
theorem levelBack_many (K S : Int) (A : Option Addr) (n c : Nat) (LL : List (List Int)) (w : World) (_hA : IntsLL w w.heap.size A n LL) (hn : n ≤ 5864062014805) (_hLb : ∀ L ∈ LL, L.length ≤ 17592186044416) (h100 : 100 < n) :
    Calls Try.prog 6 #[.int .i64 K, .int .i64 S, .slice A n c] w fun x w' => x = .returned (.bool true) ∧ Below w.heap.size w w' := by
  have HB : Below w.heap.size w w := Below.refl _ _
  have d1 : decide ((100 : Int) < (n : Int)) = true := decide_eq_true (by omega)
  clear h100
  go_enter Try.func6, Try.ntmps6
  go_wp2_with fail
  refine (lvLive_any _).mono ?_
  rintro x w1 ⟨rfl, hb⟩
  replace HB := HB.trans (hb.mono HB.size)
  go_wp2_with fail
  go_ret
  exact ⟨rfl, HB⟩

set_option maxRecDepth 100000 in
set_option maxHeartbeats 2000000 in
theorem levelBack_long (K S : Int) (A : Option Addr) (n c : Nat) (LL : List (List Int)) (w : World) (hA : IntsLL w w.heap.size A n LL) (hn : n ≤ 5864062014805) (hLb : ∀ L ∈ LL, L.length ≤ 17592186044416) (h100 : n ≤ 100) (hl : ∃ L ∈ LL, 300 < L.length) :
    Calls Try.prog 6 #[.int .i64 K, .int .i64 S, .slice A n c] w fun x w' => x = .returned (.bool true) ∧ Below w.heap.size w w' := by
  have HB : Below w.heap.size w w := Below.refl _ _
  have d1 : decide ((100 : Int) < (n : Int)) = false := decide_eq_false (by omega)
  have HLB := Lib.hid hLb
  have HLN : Hid (LL.length = n) := hA.1
  have HEX := Lib.hid hl
  clear hLb hl
  go_enter Try.func6, Try.ntmps6
  go_wp2_with fail
  refine (lvLive_any _).mono ?_
  rintro x w1 ⟨rfl, hb⟩
  replace hA := (hA.below hb).more hb.size
  replace HB := HB.trans (hb.mono HB.size)
  clear hb
  go_wp2_with fail
  go_loopw [29] (fun v wr => ∃ k : Nat, v = .int .i64 (k : Int) ∧ k ≤ n ∧ wr = w1 ∧ Hid (∀ L ∈ LL.take k, L.length ≤ 300)) (fun v _ => n - (intOf v).toNat)
  case atStart => exact ⟨0, rfl, Nat.zero_le _, rfl, by unfold Hid; intro L hL; simp at hL⟩
  case round =>
    obtain ⟨k, rfl, hk, rfl, HSH⟩ := hrel
    by_cases hlt : k < n
    · obtain ⟨b, off, L, aL, cL, hA0, _, HX, hc, hcap, hI⟩ := hA.at_ hlt
      have hLm := HLB.out L (List.mem_of_getElem? HX.out)
      obtain ⟨lL, hlL⟩ : ∃ l, L.length = l := ⟨_, rfl⟩
      rw [hlL] at hc hcap hI hLm
      have HLL := Lib.hid hlL
      have HA0 := Lib.hid hA0
      clear hlL
      subst hA0
      by_cases h3 : 300 < lL
      · have d2 : decide ((300 : Int) < (lL : Int)) = true := decide_eq_true (by omega)
        go_wp2_with fail
        go_ret
        exact ⟨rfl, HB⟩
      · have d2 : decide ((300 : Int) < (lL : Int)) = false := decide_eq_false (by omega)
        have HSH2 : Hid (∀ L ∈ LL.take (k + 1), L.length ≤ 300) := by
          unfold Hid; intro M hM
          rw [take_succ_of HX.out] at hM
          rcases List.mem_append.1 hM with hM | hM
          · exact HSH.out M hM
          · simp at hM; rw [hM, HLL.out]; omega
        go_wp2_with fail
        go_roundw
        case rel => exact ⟨k + 1, by go_num, by omega, by first | trivial | rfl, HSH2⟩
        case measure => simp [intOf]; omega
    · exfalso
      obtain ⟨L, hL, hl⟩ := HEX.out
      have := HSH.out L (by rw [List.take_of_length_le (by rw [HLN.out]; omega)]; exact hL)
      omega

set_option maxRecDepth 100000 in
set_option maxHeartbeats 8000000 in
theorem levelBack_bad (K S : Int) (A : Option Addr) (n c : Nat) (LL : List (List Int)) (w : World) (hA : IntsLL w w.heap.size A n LL) (hn : n ≤ 5864062014805) (hLb : ∀ L ∈ LL, L.length ≤ 17592186044416) (h100 : n ≤ 100) (hsh : ∀ L ∈ LL, L.length ≤ 300) (hE : makeE K S LL ≠ 0) :
    Calls Try.prog 6 #[.int .i64 K, .int .i64 S, .slice A n c] w fun x w' => x = .returned (.bool true) ∧ Below w.heap.size w w' := by
  have HB : Below w.heap.size w w := Below.refl _ _
  have d1 : decide ((100 : Int) < (n : Int)) = false := decide_eq_false (by omega)
  have HLB := Lib.hid hLb
  have HSH := Lib.hid hsh
  have HLN : Hid (LL.length = n) := hA.1
  have hLc : ∀ L ∈ LL, L.length ≤ 9223372036854775807 := fun L hL => by have := hsh L hL; omega
  obtain ⟨E, hEE⟩ : ∃ E, makeE K S LL = E := ⟨_, rfl⟩
  rw [hEE] at hE
  have HMA := fun W (hI : IntsLL W W.heap.size A n LL) => make_bad K S E A n c _ W hI (by omega) hLc hEE hE
  have e1 : (E == 0) = false := by simpa using hE
  have e2 : (E != 0) = true := by simpa using hE
  clear hE hEE
  clear hLb hsh hLc
  go_enter Try.func6, Try.ntmps6
  go_wp2_with fail
  refine (lvLive_any _).mono ?_
  rintro x w1 ⟨rfl, hb⟩
  replace hA := (hA.below hb).more hb.size
  replace HB := HB.trans (hb.mono HB.size)
  clear hb
  go_wp2_with fail
  go_loopw [29] (fun v wr => ∃ k : Nat, v = .int .i64 (k : Int) ∧ k ≤ n ∧ wr = w1) (fun v _ => n - (intOf v).toNat)
  case atStart => exact ⟨0, rfl, Nat.zero_le _, rfl⟩
  case round =>
    obtain ⟨k, rfl, hk, rfl⟩ := hrel
    by_cases hlt : k < n
    · obtain ⟨b, off, L, aL, cL, hA0, _, HX, hc, hcap, hI⟩ := hA.at_ hlt
      have hLm := HLB.out L (List.mem_of_getElem? HX.out)
      obtain ⟨lL, hlL⟩ : ∃ l, L.length = l := ⟨_, rfl⟩
      rw [hlL] at hc hcap hI hLm
      have HLL := Lib.hid hlL
      have HA0 := Lib.hid hA0
      clear hlL
      subst hA0
      have d2 : decide ((300 : Int) < (lL : Int)) = false := decide_eq_false (by have := HSH.out L (List.mem_of_getElem? HX.out); rw [HLL.out] at this; omega)
      go_wp2_with fail
      go_roundw
      case rel => exact ⟨k + 1, by go_num, by omega, by first | trivial | rfl⟩
      case measure => simp [intOf]; omega
    · go_wp2_with fail
      refine (HMA _ hA).mono ?_
      rintro x w2 ⟨rfl, hb⟩
      have HB2 := HB.trans (hb.mono HB.size)
      have HB3 := HB2.trans ((lvBelow w2 (lvO 0 0 none 0 0 none 0 0)).mono HB2.size)
      go_wp2_with fail
      go_ret
      exact ⟨rfl, HB3⟩

set_option maxRecDepth 100000 in
set_option maxHeartbeats 8000000 in
theorem levelBack_large (K S : Int) (A : Option Addr) (n c : Nat) (LL : List (List Int)) (w : World) (hA : IntsLL w w.heap.size A n LL) (hn : n ≤ 5864062014805) (hLb : ∀ L ∈ LL, L.length ≤ 17592186044416) (h100 : n ≤ 100) (hsh : ∀ L ∈ LL, L.length ≤ 300) (hE : makeE K S LL = 0) (hwb : wholeB K = true) (hS : 100 < S) :
    Calls Try.prog 6 #[.int .i64 K, .int .i64 S, .slice A n c] w fun x w' => x = .returned (.bool true) ∧ Below w.heap.size w w' := by
  have HB : Below w.heap.size w w := Below.refl _ _
  have d1 : decide ((100 : Int) < (n : Int)) = false := decide_eq_false (by omega)
  have HLB := Lib.hid hLb
  have HSH := Lib.hid hsh
  have HLN : Hid (LL.length = n) := hA.1
  have hLc : ∀ L ∈ LL, L.length ≤ 9223372036854775807 := fun L hL => by have := hsh L hL; omega
  have HMA := fun W (hI : IntsLL W W.heap.size A n LL) => make_ok K S A n c _ W hI (by omega) hLc hE
  clear hE
  have d3 : decide (100 < S) = true := decide_eq_true hS
  clear hLb hsh hLc
  go_enter Try.func6, Try.ntmps6
  go_wp2_with fail
  refine (lvLive_any _).mono ?_
  rintro x w1 ⟨rfl, hb⟩
  replace hA := (hA.below hb).more hb.size
  replace HB := HB.trans (hb.mono HB.size)
  clear hb
  go_wp2_with fail
  go_loopw [29] (fun v wr => ∃ k : Nat, v = .int .i64 (k : Int) ∧ k ≤ n ∧ wr = w1) (fun v _ => n - (intOf v).toNat)
  case atStart => exact ⟨0, rfl, Nat.zero_le _, rfl⟩
  case round =>
    obtain ⟨k, rfl, hk, rfl⟩ := hrel
    by_cases hlt : k < n
    · obtain ⟨b, off, L, aL, cL, hA0, _, HX, hc, hcap, hI⟩ := hA.at_ hlt
      have hLm := HLB.out L (List.mem_of_getElem? HX.out)
      obtain ⟨lL, hlL⟩ : ∃ l, L.length = l := ⟨_, rfl⟩
      rw [hlL] at hc hcap hI hLm
      have HLL := Lib.hid hlL
      have HA0 := Lib.hid hA0
      clear hlL
      subst hA0
      have d2 : decide ((300 : Int) < (lL : Int)) = false := decide_eq_false (by have := HSH.out L (List.mem_of_getElem? HX.out); rw [HLL.out] at this; omega)
      go_wp2_with fail
      go_roundw
      case rel => exact ⟨k + 1, by go_num, by omega, by first | trivial | rfl⟩
      case measure => simp [intOf]; omega
    · go_wp2_with fail
      refine (HMA _ hA).mono ?_
      rintro x w2 ⟨A1, n1, c1, A2, m1, c2, rfl, LX, hx1, hx2, hb⟩
      have zx := heap_alloc_new w2 (lvO K S A1 n1 c1 A2 m1 c2)
      have hz := lvBelow w2 (lvO K S A1 n1 c1 A2 m1 c2)
      have hb2 := hb.trans (hz.mono hb.size)
      replace LX := LX.below hz
      replace hA := (hA.below hb2).more hb2.size
      replace HB := HB.trans (hb2.mono HB.size)
      have HW := fun W => whole_any K S A1 A2 n1 c1 m1 c2 W
      rw [hwb] at HW
      clear hb hz hb2 HMA
      go_wp2_with fail
      refine (HW _).mono ?_
      rintro x w3 ⟨rfl, hb⟩
      replace LX := LX.below hb
      replace zx := oKeep hb zx
      replace hA := (hA.below hb).more hb.size
      replace HB := HB.trans (hb.mono HB.size)
      clear hb
      go_wp2_with fail
      go_ret
      exact ⟨rfl, HB⟩
end Go.Proofs.Ytanbhpdobpiafaa
