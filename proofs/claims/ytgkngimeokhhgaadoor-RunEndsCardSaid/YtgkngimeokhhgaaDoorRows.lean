/-
  NARROWER THAN 'FOR EVERY INPUT', by the rows' own cells (each row's printed sentence says how): RunSafe: laid · RunNeeds: laid · RunPath: laid · RunTrims: laid · RunEnds: laid · RunStraight: laid.
  DERIVED. THE GIVEN ROWS OF THIS SEAT. 6 by the template 'for every input the law returns true; each argument reads behind the call as it read before'; 0 by the template 'total and deterministic' (their statements: YtgkngimeokhhgaaDoorTotals.lean).
  GIVEN WITH THE SEED: the statements are not yours to turn. If you find one false, say at which input.
  Laid BY PROGRAM, IN A SANDBOX (cutbox-rows.mjs): the forced cells as the released guide's own fill.sh prints them over the translation 4e3f693799a46697… (all of the seat's roots in one cut). By AI agents, Wed Nov 11 2026. No macro, syntax, notation, axiom, sorry.
-/
import Derived.Test.YtgkngimeokhhgaaDoorChecked
import GoSem.Claim
import GoSem.ClaimJoined
import GoSem.ClaimMapViews
import Derived.JoinedTies
import Derived.KernelRfl
namespace Go.Proofs.YtgkngimeokhhgaaDoor
/- THE CELL 'sum', in the pinned program and in every row, IS THE sha256 OF THE DUMP (.gsa) THAT YtgkngimeokhhgaaDoorProg.lean LOADS. Nothing in Lean hashes anything: it is a label: what it is worth is what the hold of that sum in a sandbox is worth. -/
noncomputable def Tryd.pinned : Pinned := { name := "ytgkngimeokhhgaadoor", sum := "4e3f693799a46697c3577187e60d9be95e140bf5456662394d109c0f3b4eb8fd", checked := Tryd.checked }
namespace Rows
def none {H : Type} : Left H := { results := [], args := [] }

/- WHAT THE LISTED PACKAGE-LEVEL VARIABLES READ AS WHEN THE CALL BEGINS. Each datum BY PROGRAM (the guide's laid-datum.mjs) off the statement by which the dump's own 'gosem.cut.vars' lays the variable. In a bare row this is a premise. The card (YtgkngimeokhhgaaDoorCards.lean) ties it to the program's text. -/
def laid_purfle_code_shapes {H : Type} : DataW H := .agg [.agg [.lit (.string [104, 97, 108, 116]), .agg [.lit (.int .i64 0), .lit (.int .i64 0), .lit (.int .i64 0), .lit (.int .i64 0)]], .agg [.lit (.string [115, 101, 116]), .agg [.lit (.int .i64 1), .lit (.int .i64 0), .lit (.int .i64 0), .lit (.int .i64 6)]], .agg [.lit (.string [109, 111, 118, 101]), .agg [.lit (.int .i64 1), .lit (.int .i64 2), .lit (.int .i64 0), .lit (.int .i64 0)]], .agg [.lit (.string [97, 100, 100]), .agg [.lit (.int .i64 1), .lit (.int .i64 2), .lit (.int .i64 2), .lit (.int .i64 0)]], .agg [.lit (.string [115, 117, 98]), .agg [.lit (.int .i64 1), .lit (.int .i64 2), .lit (.int .i64 2), .lit (.int .i64 0)]], .agg [.lit (.string [109, 117, 108]), .agg [.lit (.int .i64 1), .lit (.int .i64 2), .lit (.int .i64 2), .lit (.int .i64 0)]], .agg [.lit (.string [108, 111, 97, 100]), .agg [.lit (.int .i64 1), .lit (.int .i64 3), .lit (.int .i64 2), .lit (.int .i64 0)]], .agg [.lit (.string [115, 116, 111, 114, 101]), .agg [.lit (.int .i64 3), .lit (.int .i64 2), .lit (.int .i64 2), .lit (.int .i64 0)]], .agg [.lit (.string [108, 101, 110]), .agg [.lit (.int .i64 1), .lit (.int .i64 3), .lit (.int .i64 0), .lit (.int .i64 0)]], .agg [.lit (.string [112, 117, 115, 104]), .agg [.lit (.int .i64 3), .lit (.int .i64 2), .lit (.int .i64 0), .lit (.int .i64 0)]], .agg [.lit (.string [106, 117, 109, 112]), .agg [.lit (.int .i64 4), .lit (.int .i64 0), .lit (.int .i64 0), .lit (.int .i64 0)]], .agg [.lit (.string [108, 101, 115, 115]), .agg [.lit (.int .i64 2), .lit (.int .i64 2), .lit (.int .i64 4), .lit (.int .i64 0)]], .agg [.lit (.string [115, 97, 109, 101]), .agg [.lit (.int .i64 2), .lit (.int .i64 2), .lit (.int .i64 4), .lit (.int .i64 0)]]]

/-- 'purflelaw16.RunSafe': WHATEVER THE INPUT: true; the input reads as it did. -/
def runSafeSpec : ChangeSpec := { name := "runSafe", fn := fun _ => fun
  | [d1, d2, d3, d4] => { results := [.lit (.bool true)], args := [d1, d2, d3, d4] }
  | _ => none }
def runSafeRow : OpenClaim := { program := "ytgkngimeokhhgaadoor", sum := "4e3f693799a46697c3577187e60d9be95e140bf5456662394d109c0f3b4eb8fd", func := "purfle/purflelaw16.RunSafe", spec := "runSafe", inPlace := ["internal/bytealg.IndexByteString"], unfollowed := true, recurses := true, named := ["purfle/code.shapes"], apart := false, laid := [("purfle/code.shapes", laid_purfle_code_shapes)] }
def RunSafeSaid : Prop := runSafeRow.holds Tryd.pinned (OpenSpec.ofChange runSafeSpec)

/-- ITS FALSE NEIGHBOUR: 'it returns false'. Refute it at one input. -/
def runSafeWrong : ChangeSpec := { name := "runSafe", fn := fun _ => fun
  | [d1, d2, d3, d4] => { results := [.lit (.bool false)], args := [d1, d2, d3, d4] }
  | _ => none }
def RunSafeWrongFalsely : Prop := runSafeRow.holds Tryd.pinned (OpenSpec.ofChange runSafeWrong)

/-- 'purflelaw16.RunNeeds': WHATEVER THE INPUT: true; the input reads as it did. -/
def runNeedsSpec : ChangeSpec := { name := "runNeeds", fn := fun _ => fun
  | [d1, d2, d3] => { results := [.lit (.bool true)], args := [d1, d2, d3] }
  | _ => none }
def runNeedsRow : OpenClaim := { program := "ytgkngimeokhhgaadoor", sum := "4e3f693799a46697c3577187e60d9be95e140bf5456662394d109c0f3b4eb8fd", func := "purfle/purflelaw16.RunNeeds", spec := "runNeeds", inPlace := ["internal/bytealg.IndexByteString"], unfollowed := true, recurses := true, named := ["purfle/code.shapes"], apart := false, laid := [("purfle/code.shapes", laid_purfle_code_shapes)] }
def RunNeedsSaid : Prop := runNeedsRow.holds Tryd.pinned (OpenSpec.ofChange runNeedsSpec)

/-- ITS FALSE NEIGHBOUR: 'it returns false'. Refute it at one input. -/
def runNeedsWrong : ChangeSpec := { name := "runNeeds", fn := fun _ => fun
  | [d1, d2, d3] => { results := [.lit (.bool false)], args := [d1, d2, d3] }
  | _ => none }
def RunNeedsWrongFalsely : Prop := runNeedsRow.holds Tryd.pinned (OpenSpec.ofChange runNeedsWrong)

/-- 'purflelaw16.RunPath': WHATEVER THE INPUT: true; the input reads as it did. -/
def runPathSpec : ChangeSpec := { name := "runPath", fn := fun _ => fun
  | [d1, d2] => { results := [.lit (.bool true)], args := [d1, d2] }
  | _ => none }
def runPathRow : OpenClaim := { program := "ytgkngimeokhhgaadoor", sum := "4e3f693799a46697c3577187e60d9be95e140bf5456662394d109c0f3b4eb8fd", func := "purfle/purflelaw16.RunPath", spec := "runPath", inPlace := ["internal/bytealg.IndexByteString"], unfollowed := true, recurses := true, named := ["purfle/code.shapes"], apart := false, laid := [("purfle/code.shapes", laid_purfle_code_shapes)] }
def RunPathSaid : Prop := runPathRow.holds Tryd.pinned (OpenSpec.ofChange runPathSpec)

/-- ITS FALSE NEIGHBOUR: 'it returns false'. Refute it at one input. -/
def runPathWrong : ChangeSpec := { name := "runPath", fn := fun _ => fun
  | [d1, d2] => { results := [.lit (.bool false)], args := [d1, d2] }
  | _ => none }
def RunPathWrongFalsely : Prop := runPathRow.holds Tryd.pinned (OpenSpec.ofChange runPathWrong)

/-- 'purflelaw16.RunTrims': WHATEVER THE INPUT: true; the input reads as it did. -/
def runTrimsSpec : ChangeSpec := { name := "runTrims", fn := fun _ => fun
  | [d1, d2, d3] => { results := [.lit (.bool true)], args := [d1, d2, d3] }
  | _ => none }
def runTrimsRow : OpenClaim := { program := "ytgkngimeokhhgaadoor", sum := "4e3f693799a46697c3577187e60d9be95e140bf5456662394d109c0f3b4eb8fd", func := "purfle/purflelaw16.RunTrims", spec := "runTrims", inPlace := ["internal/bytealg.IndexByteString"], unfollowed := true, recurses := true, named := ["purfle/code.shapes"], apart := false, laid := [("purfle/code.shapes", laid_purfle_code_shapes)] }
def RunTrimsSaid : Prop := runTrimsRow.holds Tryd.pinned (OpenSpec.ofChange runTrimsSpec)

/-- ITS FALSE NEIGHBOUR: 'it returns false'. Refute it at one input. -/
def runTrimsWrong : ChangeSpec := { name := "runTrims", fn := fun _ => fun
  | [d1, d2, d3] => { results := [.lit (.bool false)], args := [d1, d2, d3] }
  | _ => none }
def RunTrimsWrongFalsely : Prop := runTrimsRow.holds Tryd.pinned (OpenSpec.ofChange runTrimsWrong)

/-- 'purflelaw16.RunEnds': WHATEVER THE INPUT: true; the input reads as it did. -/
def runEndsSpec : ChangeSpec := { name := "runEnds", fn := fun _ => fun
  | [d1, d2] => { results := [.lit (.bool true)], args := [d1, d2] }
  | _ => none }
def runEndsRow : OpenClaim := { program := "ytgkngimeokhhgaadoor", sum := "4e3f693799a46697c3577187e60d9be95e140bf5456662394d109c0f3b4eb8fd", func := "purfle/purflelaw16.RunEnds", spec := "runEnds", inPlace := ["internal/bytealg.IndexByteString"], unfollowed := true, recurses := true, named := ["purfle/code.shapes"], apart := false, laid := [("purfle/code.shapes", laid_purfle_code_shapes)] }
def RunEndsSaid : Prop := runEndsRow.holds Tryd.pinned (OpenSpec.ofChange runEndsSpec)

/-- ITS FALSE NEIGHBOUR: 'it returns false'. Refute it at one input. -/
def runEndsWrong : ChangeSpec := { name := "runEnds", fn := fun _ => fun
  | [d1, d2] => { results := [.lit (.bool false)], args := [d1, d2] }
  | _ => none }
def RunEndsWrongFalsely : Prop := runEndsRow.holds Tryd.pinned (OpenSpec.ofChange runEndsWrong)

/-- 'purflelaw16.RunStraight': WHATEVER THE INPUT: true; the input reads as it did. -/
def runStraightSpec : ChangeSpec := { name := "runStraight", fn := fun _ => fun
  | [d] => { results := [.lit (.bool true)], args := [d] }
  | _ => none }
def runStraightRow : OpenClaim := { program := "ytgkngimeokhhgaadoor", sum := "4e3f693799a46697c3577187e60d9be95e140bf5456662394d109c0f3b4eb8fd", func := "purfle/purflelaw16.RunStraight", spec := "runStraight", inPlace := ["internal/bytealg.IndexByteString"], unfollowed := true, recurses := true, named := ["purfle/code.shapes"], apart := false, laid := [("purfle/code.shapes", laid_purfle_code_shapes)] }
def RunStraightSaid : Prop := runStraightRow.holds Tryd.pinned (OpenSpec.ofChange runStraightSpec)

/-- ITS FALSE NEIGHBOUR: 'it returns false'. Refute it at one input. -/
def runStraightWrong : ChangeSpec := { name := "runStraight", fn := fun _ => fun
  | [d] => { results := [.lit (.bool false)], args := [d] }
  | _ => none }
def RunStraightWrongFalsely : Prop := runStraightRow.holds Tryd.pinned (OpenSpec.ofChange runStraightWrong)

/- THE SECOND FORM. 'bulk': how many values and letters a reading holds, each counted each time it is reached (what is shared counts as often as it is met; a slice's spare places count too). A statement '..UptoSaid' is the law's where the arguments, and the package variables that the reading takes, are together of bulk at most 1048576: NARROWER than '..Said'. Prove '..Said' where nothing that the law and all that it calls make is longer than what came in: it says more and counts as full. Else prove '..UptoSaid'. A law counts once. -/
mutual
def uptoBulk {H : Type} : DataW H → Nat
  | .lit (.string bytes) => bytes.length + 1
  | .lit _ => 1
  | .nil => 1
  | .ptr d => uptoBulk d + 1
  | .slice elems spare => uptoBulkAll elems + uptoBulkAll spare + 1
  | .agg parts => uptoBulkAll parts + 1
  | .iface _ d => uptoBulk d + 1
  | .map entries => uptoBulkEntries entries + 1
  | .held _ => 1
def uptoBulkAll {H : Type} : List (DataW H) → Nat
  | [] => 0
  | d :: r => uptoBulk d + uptoBulkAll r
def uptoBulkEntries {H : Type} : List (Lit × DataW H) → Nat
  | [] => 0
  | x :: r => uptoBulkEntry x + uptoBulkEntries r
def uptoBulkEntry {H : Type} : Lit × DataW H → Nat
  | (.string bytes, d) => bytes.length + uptoBulk d + 1
  | (_, d) => uptoBulk d + 1
 end
def uptoSmall : (H : Type) → List (DataW H) → Bool := fun _ ds => decide (uptoBulkAll ds ≤ 1048576)
def OpenSpec.upto (s : _root_.Go.ChangeSpec) : _root_.Go.OpenSpec := { _root_.Go.OpenSpec.ofChange s with cond := some uptoSmall }

/-- 'purflelaw16.RunSafe', WHERE WHAT IT READS IS OF BULK AT MOST 1048576: true; the input reads as it did. -/
def runSafeUptoRow : OpenClaim := { program := "ytgkngimeokhhgaadoor", sum := "4e3f693799a46697c3577187e60d9be95e140bf5456662394d109c0f3b4eb8fd", func := "purfle/purflelaw16.RunSafe", spec := "runSafe", inPlace := ["internal/bytealg.IndexByteString"], unfollowed := true, recurses := true, named := ["purfle/code.shapes"], apart := false, laid := [("purfle/code.shapes", laid_purfle_code_shapes)], narrowed := true }
def RunSafeUptoSaid : Prop := runSafeUptoRow.holds Tryd.pinned (OpenSpec.upto runSafeSpec)

/-- 'purflelaw16.RunNeeds', WHERE WHAT IT READS IS OF BULK AT MOST 1048576: true; the input reads as it did. -/
def runNeedsUptoRow : OpenClaim := { program := "ytgkngimeokhhgaadoor", sum := "4e3f693799a46697c3577187e60d9be95e140bf5456662394d109c0f3b4eb8fd", func := "purfle/purflelaw16.RunNeeds", spec := "runNeeds", inPlace := ["internal/bytealg.IndexByteString"], unfollowed := true, recurses := true, named := ["purfle/code.shapes"], apart := false, laid := [("purfle/code.shapes", laid_purfle_code_shapes)], narrowed := true }
def RunNeedsUptoSaid : Prop := runNeedsUptoRow.holds Tryd.pinned (OpenSpec.upto runNeedsSpec)

/-- 'purflelaw16.RunPath', WHERE WHAT IT READS IS OF BULK AT MOST 1048576: true; the input reads as it did. -/
def runPathUptoRow : OpenClaim := { program := "ytgkngimeokhhgaadoor", sum := "4e3f693799a46697c3577187e60d9be95e140bf5456662394d109c0f3b4eb8fd", func := "purfle/purflelaw16.RunPath", spec := "runPath", inPlace := ["internal/bytealg.IndexByteString"], unfollowed := true, recurses := true, named := ["purfle/code.shapes"], apart := false, laid := [("purfle/code.shapes", laid_purfle_code_shapes)], narrowed := true }
def RunPathUptoSaid : Prop := runPathUptoRow.holds Tryd.pinned (OpenSpec.upto runPathSpec)

/-- 'purflelaw16.RunTrims', WHERE WHAT IT READS IS OF BULK AT MOST 1048576: true; the input reads as it did. -/
def runTrimsUptoRow : OpenClaim := { program := "ytgkngimeokhhgaadoor", sum := "4e3f693799a46697c3577187e60d9be95e140bf5456662394d109c0f3b4eb8fd", func := "purfle/purflelaw16.RunTrims", spec := "runTrims", inPlace := ["internal/bytealg.IndexByteString"], unfollowed := true, recurses := true, named := ["purfle/code.shapes"], apart := false, laid := [("purfle/code.shapes", laid_purfle_code_shapes)], narrowed := true }
def RunTrimsUptoSaid : Prop := runTrimsUptoRow.holds Tryd.pinned (OpenSpec.upto runTrimsSpec)

/-- 'purflelaw16.RunEnds', WHERE WHAT IT READS IS OF BULK AT MOST 1048576: true; the input reads as it did. -/
def runEndsUptoRow : OpenClaim := { program := "ytgkngimeokhhgaadoor", sum := "4e3f693799a46697c3577187e60d9be95e140bf5456662394d109c0f3b4eb8fd", func := "purfle/purflelaw16.RunEnds", spec := "runEnds", inPlace := ["internal/bytealg.IndexByteString"], unfollowed := true, recurses := true, named := ["purfle/code.shapes"], apart := false, laid := [("purfle/code.shapes", laid_purfle_code_shapes)], narrowed := true }
def RunEndsUptoSaid : Prop := runEndsUptoRow.holds Tryd.pinned (OpenSpec.upto runEndsSpec)

/-- 'purflelaw16.RunStraight', WHERE WHAT IT READS IS OF BULK AT MOST 1048576: true; the input reads as it did. -/
def runStraightUptoRow : OpenClaim := { program := "ytgkngimeokhhgaadoor", sum := "4e3f693799a46697c3577187e60d9be95e140bf5456662394d109c0f3b4eb8fd", func := "purfle/purflelaw16.RunStraight", spec := "runStraight", inPlace := ["internal/bytealg.IndexByteString"], unfollowed := true, recurses := true, named := ["purfle/code.shapes"], apart := false, laid := [("purfle/code.shapes", laid_purfle_code_shapes)], narrowed := true }
def RunStraightUptoSaid : Prop := runStraightUptoRow.holds Tryd.pinned (OpenSpec.upto runStraightSpec)

end Rows
end Go.Proofs.YtgkngimeokhhgaaDoor
