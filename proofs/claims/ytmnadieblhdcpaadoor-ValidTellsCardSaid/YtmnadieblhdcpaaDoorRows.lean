/-
  NARROWER THAN 'FOR EVERY INPUT', by the rows' own cells (each row's printed sentence says how): ValidTells: laid · ValidWays: laid · ValidTrims: laid · ValidEnds: laid · ValidShifts: laid.
  DERIVED. THE GIVEN ROWS OF THIS SEAT. 5 by the template 'for every input the law returns true; each argument reads behind the call as it read before'; 0 by the template 'total and deterministic' (their statements: YtmnadieblhdcpaaDoorTotals.lean).
  GIVEN WITH THE SEED: the statements are not yours to turn. If you find one false, say at which input.
  Laid BY PROGRAM, IN A SANDBOX (cutbox-rows.mjs): the forced cells as the released guide's own fill.sh prints them over the translation 59e5dc99d6da38eb… (all of the seat's roots in one cut). By AI agents, Wed Nov 11 2026. No macro, syntax, notation, axiom, sorry.
-/
import Derived.Test.YtmnadieblhdcpaaDoorChecked
import GoSem.Claim
import GoSem.ClaimJoined
import GoSem.ClaimMapViews
import Derived.JoinedTies
import Derived.KernelRfl
namespace Go.Proofs.YtmnadieblhdcpaaDoor
/- THE CELL 'sum', in the pinned program and in every row, IS THE sha256 OF THE DUMP (.gsa) THAT YtmnadieblhdcpaaDoorProg.lean LOADS. Nothing in Lean hashes anything: it is a label: what it is worth is what the hold of that sum in a sandbox is worth. -/
noncomputable def Tryd.pinned : Pinned := { name := "ytmnadieblhdcpaadoor", sum := "59e5dc99d6da38ebd3088e23add1ba32b99a0a3dea3d0db7d8254b9838db90cd", checked := Tryd.checked }
namespace Rows
def none {H : Type} : Left H := { results := [], args := [] }

/- WHAT THE LISTED PACKAGE-LEVEL VARIABLES READ AS WHEN THE CALL BEGINS. Each datum BY PROGRAM (the guide's laid-datum.mjs) off the statement by which the dump's own 'gosem.cut.vars' lays the variable. In a bare row this is a premise. The card (YtmnadieblhdcpaaDoorCards.lean) ties it to the program's text. -/
def laid_purfle_code_shapes {H : Type} : DataW H := .agg [.agg [.lit (.string [104, 97, 108, 116]), .agg [.lit (.int .i64 0), .lit (.int .i64 0), .lit (.int .i64 0), .lit (.int .i64 0)]], .agg [.lit (.string [115, 101, 116]), .agg [.lit (.int .i64 1), .lit (.int .i64 0), .lit (.int .i64 0), .lit (.int .i64 6)]], .agg [.lit (.string [109, 111, 118, 101]), .agg [.lit (.int .i64 1), .lit (.int .i64 2), .lit (.int .i64 0), .lit (.int .i64 0)]], .agg [.lit (.string [97, 100, 100]), .agg [.lit (.int .i64 1), .lit (.int .i64 2), .lit (.int .i64 2), .lit (.int .i64 0)]], .agg [.lit (.string [115, 117, 98]), .agg [.lit (.int .i64 1), .lit (.int .i64 2), .lit (.int .i64 2), .lit (.int .i64 0)]], .agg [.lit (.string [109, 117, 108]), .agg [.lit (.int .i64 1), .lit (.int .i64 2), .lit (.int .i64 2), .lit (.int .i64 0)]], .agg [.lit (.string [108, 111, 97, 100]), .agg [.lit (.int .i64 1), .lit (.int .i64 3), .lit (.int .i64 2), .lit (.int .i64 0)]], .agg [.lit (.string [115, 116, 111, 114, 101]), .agg [.lit (.int .i64 3), .lit (.int .i64 2), .lit (.int .i64 2), .lit (.int .i64 0)]], .agg [.lit (.string [108, 101, 110]), .agg [.lit (.int .i64 1), .lit (.int .i64 3), .lit (.int .i64 0), .lit (.int .i64 0)]], .agg [.lit (.string [112, 117, 115, 104]), .agg [.lit (.int .i64 3), .lit (.int .i64 2), .lit (.int .i64 0), .lit (.int .i64 0)]], .agg [.lit (.string [106, 117, 109, 112]), .agg [.lit (.int .i64 4), .lit (.int .i64 0), .lit (.int .i64 0), .lit (.int .i64 0)]], .agg [.lit (.string [108, 101, 115, 115]), .agg [.lit (.int .i64 2), .lit (.int .i64 2), .lit (.int .i64 4), .lit (.int .i64 0)]], .agg [.lit (.string [115, 97, 109, 101]), .agg [.lit (.int .i64 2), .lit (.int .i64 2), .lit (.int .i64 4), .lit (.int .i64 0)]]]

/-- 'purflelaw15.ValidTells': WHATEVER THE INPUT: true; the input reads as it did. -/
def validTellsSpec : ChangeSpec := { name := "validTells", fn := fun _ => fun
  | [d] => { results := [.lit (.bool true)], args := [d] }
  | _ => none }
def validTellsRow : OpenClaim := { program := "ytmnadieblhdcpaadoor", sum := "59e5dc99d6da38ebd3088e23add1ba32b99a0a3dea3d0db7d8254b9838db90cd", func := "purfle/purflelaw15.ValidTells", spec := "validTells", inPlace := ["internal/bytealg.IndexByteString"], unfollowed := true, recurses := true, named := ["purfle/code.shapes"], apart := false, laid := [("purfle/code.shapes", laid_purfle_code_shapes)] }
def ValidTellsSaid : Prop := validTellsRow.holds Tryd.pinned (OpenSpec.ofChange validTellsSpec)

/-- ITS FALSE NEIGHBOUR: 'it returns false'. Refute it at one input. -/
def validTellsWrong : ChangeSpec := { name := "validTells", fn := fun _ => fun
  | [d] => { results := [.lit (.bool false)], args := [d] }
  | _ => none }
def ValidTellsWrongFalsely : Prop := validTellsRow.holds Tryd.pinned (OpenSpec.ofChange validTellsWrong)

/-- 'purflelaw15.ValidWays': WHATEVER THE INPUT: true; the input reads as it did. -/
def validWaysSpec : ChangeSpec := { name := "validWays", fn := fun _ => fun
  | [d1, d2] => { results := [.lit (.bool true)], args := [d1, d2] }
  | _ => none }
def validWaysRow : OpenClaim := { program := "ytmnadieblhdcpaadoor", sum := "59e5dc99d6da38ebd3088e23add1ba32b99a0a3dea3d0db7d8254b9838db90cd", func := "purfle/purflelaw15.ValidWays", spec := "validWays", inPlace := ["internal/bytealg.IndexByteString"], unfollowed := true, recurses := true, named := ["purfle/code.shapes"], apart := false, laid := [("purfle/code.shapes", laid_purfle_code_shapes)] }
def ValidWaysSaid : Prop := validWaysRow.holds Tryd.pinned (OpenSpec.ofChange validWaysSpec)

/-- ITS FALSE NEIGHBOUR: 'it returns false'. Refute it at one input. -/
def validWaysWrong : ChangeSpec := { name := "validWays", fn := fun _ => fun
  | [d1, d2] => { results := [.lit (.bool false)], args := [d1, d2] }
  | _ => none }
def ValidWaysWrongFalsely : Prop := validWaysRow.holds Tryd.pinned (OpenSpec.ofChange validWaysWrong)

/-- 'purflelaw15.ValidTrims': WHATEVER THE INPUT: true; the input reads as it did. -/
def validTrimsSpec : ChangeSpec := { name := "validTrims", fn := fun _ => fun
  | [d1, d2] => { results := [.lit (.bool true)], args := [d1, d2] }
  | _ => none }
def validTrimsRow : OpenClaim := { program := "ytmnadieblhdcpaadoor", sum := "59e5dc99d6da38ebd3088e23add1ba32b99a0a3dea3d0db7d8254b9838db90cd", func := "purfle/purflelaw15.ValidTrims", spec := "validTrims", inPlace := ["internal/bytealg.IndexByteString"], unfollowed := true, recurses := true, named := ["purfle/code.shapes"], apart := false, laid := [("purfle/code.shapes", laid_purfle_code_shapes)] }
def ValidTrimsSaid : Prop := validTrimsRow.holds Tryd.pinned (OpenSpec.ofChange validTrimsSpec)

/-- ITS FALSE NEIGHBOUR: 'it returns false'. Refute it at one input. -/
def validTrimsWrong : ChangeSpec := { name := "validTrims", fn := fun _ => fun
  | [d1, d2] => { results := [.lit (.bool false)], args := [d1, d2] }
  | _ => none }
def ValidTrimsWrongFalsely : Prop := validTrimsRow.holds Tryd.pinned (OpenSpec.ofChange validTrimsWrong)

/-- 'purflelaw15.ValidEnds': WHATEVER THE INPUT: true; the input reads as it did. -/
def validEndsSpec : ChangeSpec := { name := "validEnds", fn := fun _ => fun
  | [d1, d2] => { results := [.lit (.bool true)], args := [d1, d2] }
  | _ => none }
def validEndsRow : OpenClaim := { program := "ytmnadieblhdcpaadoor", sum := "59e5dc99d6da38ebd3088e23add1ba32b99a0a3dea3d0db7d8254b9838db90cd", func := "purfle/purflelaw15.ValidEnds", spec := "validEnds", inPlace := ["internal/bytealg.IndexByteString"], unfollowed := true, recurses := true, named := ["purfle/code.shapes"], apart := false, laid := [("purfle/code.shapes", laid_purfle_code_shapes)] }
def ValidEndsSaid : Prop := validEndsRow.holds Tryd.pinned (OpenSpec.ofChange validEndsSpec)

/-- ITS FALSE NEIGHBOUR: 'it returns false'. Refute it at one input. -/
def validEndsWrong : ChangeSpec := { name := "validEnds", fn := fun _ => fun
  | [d1, d2] => { results := [.lit (.bool false)], args := [d1, d2] }
  | _ => none }
def ValidEndsWrongFalsely : Prop := validEndsRow.holds Tryd.pinned (OpenSpec.ofChange validEndsWrong)

/-- 'purflelaw15.ValidShifts': WHATEVER THE INPUT: true; the input reads as it did. -/
def validShiftsSpec : ChangeSpec := { name := "validShifts", fn := fun _ => fun
  | [d1, d2] => { results := [.lit (.bool true)], args := [d1, d2] }
  | _ => none }
def validShiftsRow : OpenClaim := { program := "ytmnadieblhdcpaadoor", sum := "59e5dc99d6da38ebd3088e23add1ba32b99a0a3dea3d0db7d8254b9838db90cd", func := "purfle/purflelaw15.ValidShifts", spec := "validShifts", inPlace := ["internal/bytealg.IndexByteString"], unfollowed := true, recurses := true, named := ["purfle/code.shapes"], apart := false, laid := [("purfle/code.shapes", laid_purfle_code_shapes)] }
def ValidShiftsSaid : Prop := validShiftsRow.holds Tryd.pinned (OpenSpec.ofChange validShiftsSpec)

/-- ITS FALSE NEIGHBOUR: 'it returns false'. Refute it at one input. -/
def validShiftsWrong : ChangeSpec := { name := "validShifts", fn := fun _ => fun
  | [d1, d2] => { results := [.lit (.bool false)], args := [d1, d2] }
  | _ => none }
def ValidShiftsWrongFalsely : Prop := validShiftsRow.holds Tryd.pinned (OpenSpec.ofChange validShiftsWrong)

/- THE SECOND FORM. 'bulk': how many values and letters a reading holds, each counted each time it is reached (what is shared counts as often as it is met; a slice's spare places count too). A statement '..UptoSaid' is the law's where the arguments, and the package variables that the reading takes, are together of bulk at most 1048576: NARROWER than '..Said'. Prove '..Said' where nothing that the law and all that it calls make is longer than what came in: it says more and counts as full. Else prove '..UptoSaid'. A law counts once. -/
mutual
def uptoBulk {H : Type} : DataW H → Nat
  | .lit (.string bytes) => bytes.length + 1
  | .lit _ => 1
  | .nil => 1
  | .ptr d => uptoBulk d + 1
  | .slice elems spare => uptoBulkAll elems + uptoBulkAll spare + 1
  | .agg parts => uptoBulkAll parts + 1
  | .iface _ d => uptoBulk d + 1
  | .map entries => uptoBulkEntries entries + 1
  | .held _ => 1
def uptoBulkAll {H : Type} : List (DataW H) → Nat
  | [] => 0
  | d :: r => uptoBulk d + uptoBulkAll r
def uptoBulkEntries {H : Type} : List (Lit × DataW H) → Nat
  | [] => 0
  | x :: r => uptoBulkEntry x + uptoBulkEntries r
def uptoBulkEntry {H : Type} : Lit × DataW H → Nat
  | (.string bytes, d) => bytes.length + uptoBulk d + 1
  | (_, d) => uptoBulk d + 1
 end
def uptoSmall : (H : Type) → List (DataW H) → Bool := fun _ ds => decide (uptoBulkAll ds ≤ 1048576)
def OpenSpec.upto (s : _root_.Go.ChangeSpec) : _root_.Go.OpenSpec := { _root_.Go.OpenSpec.ofChange s with cond := some uptoSmall }

/-- 'purflelaw15.ValidTells', WHERE WHAT IT READS IS OF BULK AT MOST 1048576: true; the input reads as it did. -/
def validTellsUptoRow : OpenClaim := { program := "ytmnadieblhdcpaadoor", sum := "59e5dc99d6da38ebd3088e23add1ba32b99a0a3dea3d0db7d8254b9838db90cd", func := "purfle/purflelaw15.ValidTells", spec := "validTells", inPlace := ["internal/bytealg.IndexByteString"], unfollowed := true, recurses := true, named := ["purfle/code.shapes"], apart := false, laid := [("purfle/code.shapes", laid_purfle_code_shapes)], narrowed := true }
def ValidTellsUptoSaid : Prop := validTellsUptoRow.holds Tryd.pinned (OpenSpec.upto validTellsSpec)

/-- 'purflelaw15.ValidWays', WHERE WHAT IT READS IS OF BULK AT MOST 1048576: true; the input reads as it did. -/
def validWaysUptoRow : OpenClaim := { program := "ytmnadieblhdcpaadoor", sum := "59e5dc99d6da38ebd3088e23add1ba32b99a0a3dea3d0db7d8254b9838db90cd", func := "purfle/purflelaw15.ValidWays", spec := "validWays", inPlace := ["internal/bytealg.IndexByteString"], unfollowed := true, recurses := true, named := ["purfle/code.shapes"], apart := false, laid := [("purfle/code.shapes", laid_purfle_code_shapes)], narrowed := true }
def ValidWaysUptoSaid : Prop := validWaysUptoRow.holds Tryd.pinned (OpenSpec.upto validWaysSpec)

/-- 'purflelaw15.ValidTrims', WHERE WHAT IT READS IS OF BULK AT MOST 1048576: true; the input reads as it did. -/
def validTrimsUptoRow : OpenClaim := { program := "ytmnadieblhdcpaadoor", sum := "59e5dc99d6da38ebd3088e23add1ba32b99a0a3dea3d0db7d8254b9838db90cd", func := "purfle/purflelaw15.ValidTrims", spec := "validTrims", inPlace := ["internal/bytealg.IndexByteString"], unfollowed := true, recurses := true, named := ["purfle/code.shapes"], apart := false, laid := [("purfle/code.shapes", laid_purfle_code_shapes)], narrowed := true }
def ValidTrimsUptoSaid : Prop := validTrimsUptoRow.holds Tryd.pinned (OpenSpec.upto validTrimsSpec)

/-- 'purflelaw15.ValidEnds', WHERE WHAT IT READS IS OF BULK AT MOST 1048576: true; the input reads as it did. -/
def validEndsUptoRow : OpenClaim := { program := "ytmnadieblhdcpaadoor", sum := "59e5dc99d6da38ebd3088e23add1ba32b99a0a3dea3d0db7d8254b9838db90cd", func := "purfle/purflelaw15.ValidEnds", spec := "validEnds", inPlace := ["internal/bytealg.IndexByteString"], unfollowed := true, recurses := true, named := ["purfle/code.shapes"], apart := false, laid := [("purfle/code.shapes", laid_purfle_code_shapes)], narrowed := true }
def ValidEndsUptoSaid : Prop := validEndsUptoRow.holds Tryd.pinned (OpenSpec.upto validEndsSpec)

/-- 'purflelaw15.ValidShifts', WHERE WHAT IT READS IS OF BULK AT MOST 1048576: true; the input reads as it did. -/
def validShiftsUptoRow : OpenClaim := { program := "ytmnadieblhdcpaadoor", sum := "59e5dc99d6da38ebd3088e23add1ba32b99a0a3dea3d0db7d8254b9838db90cd", func := "purfle/purflelaw15.ValidShifts", spec := "validShifts", inPlace := ["internal/bytealg.IndexByteString"], unfollowed := true, recurses := true, named := ["purfle/code.shapes"], apart := false, laid := [("purfle/code.shapes", laid_purfle_code_shapes)], narrowed := true }
def ValidShiftsUptoSaid : Prop := validShiftsUptoRow.holds Tryd.pinned (OpenSpec.upto validShiftsSpec)

end Rows
end Go.Proofs.YtmnadieblhdcpaaDoor
