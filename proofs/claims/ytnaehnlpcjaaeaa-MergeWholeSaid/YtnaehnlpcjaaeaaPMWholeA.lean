/- MergeWhole at every input. -/
import Derived.Test.YtnaehnlpcjaaeaaPMWhole
namespace Go.Proofs.Ytnaehnlpcjaaeaa
open Go.RowKit

set_option maxRecDepth 100000 in
set_option maxHeartbeats 4000000 in
theorem mergeWhole_many (w : World) (A : Option Addr) (n c : Nat) (LL : List (List Int)) (h : IntsLL w w.heap.size A n LL) (hn : n ≤ 5864062014805) (hL : ∀ L ∈ LL, L.length ≤ 17592186044416) (hs : ¬ (n ≤ 50 ∧ LL.flatten.length ≤ 500)) :
    Calls Try.prog 4 #[.slice A n c] w fun e w' => e = .returned (.bool true) ∧ Below w.heap.size w w' := by
  have cL := mLive_any w
  have cF : ∀ W, IntsLL W w.heap.size A n LL → Calls Try.prog 10 #[.slice A n c] W fun e w' => e = .returned (.bool false) ∧ ∃ q, w' = W.drewN q := fun W hW => by
    by_cases h1 : n ≤ 50
    · exact few_small A n c _ LL W hW hL h1 false (decide_eq_false fun h2 => hs ⟨h1, h2⟩)
    · exact few_big A n c _ LL W hW hn (by omega)
  have HH := Lib.hid h
  clear h hL hs
  go_enter Try.func4, Try.ntmps4
  go_wp2_with (first | (go_at_call 9; refine cL.mono ?_; rintro e w1 ⟨rfl, hb1⟩) | (go_at_call 10; refine (cF w1 (HH.out.below hb1)).mono ?_; rintro e w2 ⟨rfl, q2, hw2⟩; have hb2 := belowQ hb1 hw2; clear hw2))
  go_ret
  exact ⟨rfl, hb2⟩
set_option maxRecDepth 100000 in
set_option maxHeartbeats 4000000 in
theorem mergeWhole_err (w : World) (A : Option Addr) (n c : Nat) (LL : List (List Int)) (h : IntsLL w w.heap.size A n LL) (hL : ∀ L ∈ LL, L.length ≤ 17592186044416) (hs : n ≤ 50) (ht : LL.flatten.length ≤ 500) (hR : ¬ AllRise LL) :
    Calls Try.prog 4 #[.slice A n c] w fun e w' => e = .returned (.bool true) ∧ Below w.heap.size w w' := by
  have cL := mLive_any w
  have HH := Lib.hid h
  have HL := Lib.hid hL
  have HT := Lib.hid ht
  have HR := Lib.hid hR
  clear h hL ht hR
  go_enter Try.func4, Try.ntmps4
  go_wp2_with (first | (go_at_call 9; refine cL.mono ?_; rintro e w1 ⟨rfl, hb1⟩) | (go_at_call 10; refine (few_small A n c _ LL w1 (HH.out.below hb1) HL.out hs true (decide_eq_true HT.out)).mono ?_; rintro e w2 ⟨rfl, q2, hw2⟩; have hb2 := belowQ hb1 hw2; clear hw2) | (go_at_call 17; refine (walk_err A n c LL w2 ((HH.out.below hb2).more hb2.size) (fun L hm => by have := HL.out L hm; omega) (by omega) HR.out).mono ?_; rintro e w3 ⟨rfl, hb3⟩; have HB3 := Lib.hid (hb2.trans (hb3.mono hb2.size)); clear hb3))
  go_ret
  exact ⟨rfl, HB3.out⟩
theorem mergeWhole_any (w : World) (A : Option Addr) (n c : Nat) (LL : List (List Int)) (h : IntsLL w w.heap.size A n LL) (hn : n ≤ 5864062014805) (_ : n ≤ c) (hL : ∀ L ∈ LL, L.length ≤ 17592186044416) :
    Calls Try.prog 4 #[.slice A n c] w fun e w' => e = .returned (.bool true) ∧ Below w.heap.size w w' := by
  by_cases hs : n ≤ 50 ∧ LL.flatten.length ≤ 500
  · by_cases hR : AllRise LL
    · exact mergeWhole_in w A n c LL h hL hs.1 hs.2 hR
    · exact mergeWhole_err w A n c LL h hL hs.1 hs.2 hR
  · exact mergeWhole_many w A n c LL h hn hL hs
end Go.Proofs.Ytnaehnlpcjaaeaa
