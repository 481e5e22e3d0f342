/- The document's letter, digit, sign, Word, Number and token. -/
import Derived.Test.YtinjkakfnppjpaaDoorG1
namespace Go.Proofs.YtinjkakfnppjpaaDoor
open Go.RowKit

set_option maxRecDepth 100000 in
theorem refLetter_any (c : Nat) (h : c < 256) (w : World) : Calls Tryd.prog 17 #[.int .u8 c] w fun e w' => e = .returned (.bool (decide (kindI c = 4))) ∧ w = w' := by
  have hk : Hid (kindI c = 4 ↔ (97 ≤ c ∧ c ≤ 122) ∨ (65 ≤ c ∧ c ≤ 90)) := by
    unfold Hid kindI
    repeat' split
    all_goals constructor
    all_goals intro h
    all_goals omega
  go_enter Tryd.func17, Tryd.ntmps17
  go_wp2
  all_goals
    go_ret
    refine ⟨congrArg (fun b => Ending.returned (.bool b)) ?_, rfl⟩
    rw [Bool.eq_iff_iff]
    simp [hk.out]
    try omega
set_option maxRecDepth 100000 in
theorem refDigit_any (c : Nat) (h : c < 256) (w : World) : Calls Tryd.prog 14 #[.int .u8 c] w fun e w' => e = .returned (.bool (decide (kindI c = 5))) ∧ w = w' := by
  have hk : Hid (kindI c = 5 ↔ 48 ≤ c ∧ c ≤ 57) := by
    unfold Hid kindI
    repeat' split
    all_goals constructor
    all_goals intro h
    all_goals omega
  go_enter Tryd.func14, Tryd.ntmps14
  go_wp2
  all_goals
    go_ret
    refine ⟨congrArg (fun b => Ending.returned (.bool b)) ?_, rfl⟩
    rw [Bool.eq_iff_iff]
    simp [hk.out]
    try omega
end Go.Proofs.YtinjkakfnppjpaaDoor
