/- MergeSets at every input. -/
import Derived.Test.YtnaehnlpcjaaeaaPMSets
namespace Go.Proofs.Ytnaehnlpcjaaeaa
open Go.RowKit

set_option maxRecDepth 100000 in
set_option maxHeartbeats 4000000 in
theorem mergeSets_few (w : World) (A : Option Addr) (n c : Nat) (LL : List (List Int)) (h : IntsLL w w.heap.size A n LL) (hn : n ≤ 5864062014805) (hL : ∀ L ∈ LL, L.length ≤ 17592186044416) (a : Int) (hs : ¬ ((n ≤ 50 ∧ LL.flatten.length ≤ 500) ∧ 0 < n)) :
    Calls Try.prog 5 #[.slice A n c, .int .i64 a] w fun e w' => e = .returned (.bool true) ∧ Below w.heap.size w w' := by
  have cL := mLive_any w
  obtain ⟨R, hR⟩ : ∃ R, decide (n ≤ 50 ∧ LL.flatten.length ≤ 500) = R := ⟨_, rfl⟩
  have cF := fun W (hb : Below w.heap.size w W) => fewM_any A n c _ LL W (h.below hb) hn hL R hR
  have hcase : R = false ∨ (R = true ∧ n = 0) := by
    cases R with
    | false => exact .inl rfl
    | true =>
      rcases Nat.eq_zero_or_pos n with h5 | h5
      · exact .inr ⟨rfl, h5⟩
      · exact absurd ⟨of_decide_eq_true hR, h5⟩ hs
  clear h hL hs hR
  rcases hcase with rfl | ⟨rfl, rfl⟩
  all_goals
    go_enter Try.func5, Try.ntmps5
    go_wp2_with (first | (go_at_call 9; refine cL.mono ?_; rintro e w1 ⟨rfl, hb1⟩) | (go_at_call 10; refine (cF w1 hb1).mono ?_; rintro e w2 ⟨rfl, q2, hw2⟩; have hb2 := belowQ hb1 hw2; clear hw2))
    go_ret
    exact ⟨rfl, hb2⟩
set_option maxRecDepth 100000 in
set_option maxHeartbeats 4000000 in
theorem mergeSets_err (w : World) (A : Option Addr) (n c : Nat) (LL : List (List Int)) (h : IntsLL w w.heap.size A n LL) (hL : ∀ L ∈ LL, L.length ≤ 17592186044416) (hs : n ≤ 50) (ht : LL.flatten.length ≤ 500) (h0 : 0 < n) (hR : ¬ AllRise LL) (a : Int) :
    Calls Try.prog 5 #[.slice A n c, .int .i64 a] w fun e w' => e = .returned (.bool true) ∧ Below w.heap.size w w' := by
  have cL := mLive_any w
  have HH := Lib.hid h
  have HL := Lib.hid hL
  have HT := Lib.hid ht
  have HR := Lib.hid hR
  have e5 : ((n : Int) == 0) = false := by simp; omega
  clear h hL ht hR
  go_enter Try.func5, Try.ntmps5
  go_wp2_with (first | (go_at_call 9; refine cL.mono ?_; rintro e w1 ⟨rfl, hb1⟩) | (go_at_call 10; refine (few_small A n c _ LL w1 (HH.out.below hb1) HL.out hs true (decide_eq_true HT.out)).mono ?_; rintro e w2 ⟨rfl, q2, hw2⟩; have hb2 := belowQ hb1 hw2; clear hw2) | (go_at_call 17; refine (walk_err A n c LL w2 ((HH.out.below hb2).more hb2.size) (fun L hm => by have := HL.out L hm; omega) (by omega) HR.out).mono ?_; rintro e w3 ⟨rfl, hb3⟩; have HB3 := Lib.hid (hb2.trans (hb3.mono hb2.size)); clear hb3))
  go_ret
  exact ⟨rfl, HB3.out⟩
theorem mergeSets_any (w : World) (A : Option Addr) (n c : Nat) (LL : List (List Int)) (h : IntsLL w w.heap.size A n LL) (hn : n ≤ 5864062014805) (_ : n ≤ c) (hL : ∀ L ∈ LL, L.length ≤ 17592186044416) (a : Int) (_ : -9223372036854775808 ≤ a) (_ : a ≤ 9223372036854775807) :
    Calls Try.prog 5 #[.slice A n c, .int .i64 a] w fun e w' => e = .returned (.bool true) ∧ Below w.heap.size w w' := by
  by_cases hs : (n ≤ 50 ∧ LL.flatten.length ≤ 500) ∧ 0 < n
  · by_cases hR : AllRise LL
    · exact mergeSets_in w A n c LL h hL hs.1.1 hs.1.2 hs.2 hR a
    · exact mergeSets_err w A n c LL h hL hs.1.1 hs.1.2 hs.2 hR a
  · exact mergeSets_few w A n c LL h hn hL a hs
end Go.Proofs.Ytnaehnlpcjaaeaa
