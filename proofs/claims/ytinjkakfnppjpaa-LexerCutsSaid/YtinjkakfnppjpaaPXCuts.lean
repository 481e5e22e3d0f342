/- purflelaw08.LexerCuts returns true at every text. -/
import Derived.Test.YtinjkakfnppjpaaG3
import Derived.Test.YtinjkakfnppjpaaG2
namespace Go.Proofs.Ytinjkakfnppjpaa
open Go.RowKit

set_option maxRecDepth 100000 in
set_option maxHeartbeats 4000000 in
theorem lexerCuts_any (W : World) (s : ByteArray) (ws : s.size ≤ maxLen) (_ : s.size ≤ 140737488351232) : Calls Try.prog 3 #[.string s] W fun e w' => e = .returned (.bool true) ∧ Below W.heap.size W w' := by
  have cC := fun w => cut_any s w ws
  have cR := fun w => refCut_any s w ws
  have hok := Lib.hid (cutF_ok (bl s))
  have hln := cutF_len (bl s)
  generalize (cutF (bl s)).1 = L at cC cR hok hln
  generalize (cutF (bl s)).2.1 = N at cC cR
  generalize (cutF (bl s)).2.2 = E at cC cR
  have sl := Lib.hid (sameTL_rfl L)
  unfold maxLen at ws
  by_cases h7 : (70000 : Int) < s.size
  · clear cC cR
    go_enter Try.func3, Try.ntmps3
    go_wp2_with (go_at_call 9; refine (live_any _).mono ?_; rintro e w1 ⟨rfl, hb1⟩)
    go_ret
    exact ⟨rfl, hb1⟩
  · go_enter Try.func3, Try.ntmps3
    go_wp2_with (first | (go_at_call 9; refine (live_any _).mono ?_; rintro e w1 ⟨rfl, hb1⟩) | (go_at_call 10; refine (cC _).mono ?_; rintro e w2 ⟨A, n, c, rfl, hn, hO, hb2⟩) | (go_at_call 11; refine (cR _).mono ?_; rintro e w3 ⟨A', n', c', rfl, hn', hO', hb3⟩; have T1 := ((hO.rd hok.out hn).below hb3).more hb3.size; have T2 := hO'.rd hok.out hn'; have hn4 : n ≤ 1000000 := by omega) | (go_at_call 12; refine (refSame_any A A' n c n' c' _ L L _ T1 T2 hn4).mono ?_; rintro e w4 ⟨rfl, m4, rfl⟩; rw [sl.out]))
    go_ret
    exact ⟨rfl, below_dX ((hb1.trans (hb2.mono hb1.size)).trans (hb3.mono (Nat.le_trans hb1.size hb2.size))) _⟩
end Go.Proofs.Ytinjkakfnppjpaa
