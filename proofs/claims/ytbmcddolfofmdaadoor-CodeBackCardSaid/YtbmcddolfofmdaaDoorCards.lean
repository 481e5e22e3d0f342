/-
  DERIVED. GIVEN WITH THE SEED: THE CARDS: each row of YtbmcddolfofmdaaDoorRows.lean that lists a variable, with what it lists TIED to the program's text (the seventh form; the later family's looks); each row that meets fmt, with fmt's text TOLD by the authors' own Lean function (tested against real Go, not proved from fmt's source: count such statements apart). THE CARD IS WHAT COUNTS. Prove the row's statement (the work); the ties are given (YtbmcddolfofmdaaDoorTie.lean); close each card by the builder's one call (the guide's Derived/Test/ToyasCard.lean, 'card_holds'). Laid BY PROGRAM, IN A SANDBOX (cutbox-door.mjs). By AI agents, Wed Nov 11 2026. No macro, syntax, notation, axiom, sorry.
-/
import Derived.Test.YtbmcddolfofmdaaDoorRows
import GoSem.ClaimSeven
namespace Go.Proofs.YtbmcddolfofmdaaDoor
namespace Rows

/-- THE TIED CARD OF 'purflelaw14.CodeReads'. -/
def codeReadsCard : Claim7 := { stood := { row := codeReadsRow, standIns := [], harness := (true, "3536aa02a2a5d7592c696a08f1918a0cae957e32f4d097949d4c9ca06c407a6f"), looks := false }, kinds := [], alts := [], laidByText := true, laidKinds := [.data], laidTests := true, laidLooks := .later }
def CodeReadsCardSaid : Prop := Claim7.holds Tryd.pinned (.plain (OpenSpec.ofChange codeReadsSpec)) codeReadsCard

/-- THE TIED CARD OF 'purflelaw14.CodeBack'. -/
def codeBackCard : Claim7 := { stood := { row := codeBackRow, standIns := [], harness := (true, "3536aa02a2a5d7592c696a08f1918a0cae957e32f4d097949d4c9ca06c407a6f"), looks := false }, kinds := [], alts := [], laidByText := true, laidKinds := [.data, .data, .data, .data], laidTests := true, laidLooks := .later }
def CodeBackCardSaid : Prop := Claim7.holds Tryd.pinned (.plain (OpenSpec.ofChange codeBackSpec)) codeBackCard

/-- THE TIED CARD OF 'purflelaw14.CodeShifts'. -/
def codeShiftsCard : Claim7 := { stood := { row := codeShiftsRow, standIns := [], harness := (true, "3536aa02a2a5d7592c696a08f1918a0cae957e32f4d097949d4c9ca06c407a6f"), looks := false }, kinds := [], alts := [], laidByText := true, laidKinds := [.data], laidTests := true, laidLooks := .later }
def CodeShiftsCardSaid : Prop := Claim7.holds Tryd.pinned (.plain (OpenSpec.ofChange codeShiftsSpec)) codeShiftsCard

/-- THE TIED CARD OF 'purflelaw14.CodeBends'. -/
def codeBendsCard : Claim7 := { stood := { row := codeBendsRow, standIns := [], harness := (true, "3536aa02a2a5d7592c696a08f1918a0cae957e32f4d097949d4c9ca06c407a6f"), looks := false }, kinds := [], alts := [], laidByText := true, laidKinds := [.data], laidTests := true, laidLooks := .later }
def CodeBendsCardSaid : Prop := Claim7.holds Tryd.pinned (.plain (OpenSpec.ofChange codeBendsSpec)) codeBendsCard

/-- THE TIED CARD OF 'purflelaw14.CodeLines'. -/
def codeLinesCard : Claim7 := { stood := { row := codeLinesRow, standIns := [], harness := (true, "3536aa02a2a5d7592c696a08f1918a0cae957e32f4d097949d4c9ca06c407a6f"), looks := false }, kinds := [], alts := [], laidByText := true, laidKinds := [.data, .data, .data, .data], laidTests := true, laidLooks := .later }
def CodeLinesCardSaid : Prop := Claim7.holds Tryd.pinned (.plain (OpenSpec.ofChange codeLinesSpec)) codeLinesCard

/-- THE SECOND FORM's CARD OF 'purflelaw14.CodeReads'. -/
def codeReadsUptoCard : Claim7 := { stood := { row := codeReadsUptoRow, standIns := [], harness := (true, "3536aa02a2a5d7592c696a08f1918a0cae957e32f4d097949d4c9ca06c407a6f"), looks := false }, kinds := [], alts := [], laidByText := true, laidKinds := [.data], laidTests := true, laidLooks := .later }
def CodeReadsUptoCardSaid : Prop := Claim7.holds Tryd.pinned (.plain (OpenSpec.upto codeReadsSpec)) codeReadsUptoCard

/-- THE SECOND FORM's CARD OF 'purflelaw14.CodeBack'. -/
def codeBackUptoCard : Claim7 := { stood := { row := codeBackUptoRow, standIns := [], harness := (true, "3536aa02a2a5d7592c696a08f1918a0cae957e32f4d097949d4c9ca06c407a6f"), looks := false }, kinds := [], alts := [], laidByText := true, laidKinds := [.data, .data, .data, .data], laidTests := true, laidLooks := .later }
def CodeBackUptoCardSaid : Prop := Claim7.holds Tryd.pinned (.plain (OpenSpec.upto codeBackSpec)) codeBackUptoCard

/-- THE SECOND FORM's CARD OF 'purflelaw14.CodeShifts'. -/
def codeShiftsUptoCard : Claim7 := { stood := { row := codeShiftsUptoRow, standIns := [], harness := (true, "3536aa02a2a5d7592c696a08f1918a0cae957e32f4d097949d4c9ca06c407a6f"), looks := false }, kinds := [], alts := [], laidByText := true, laidKinds := [.data], laidTests := true, laidLooks := .later }
def CodeShiftsUptoCardSaid : Prop := Claim7.holds Tryd.pinned (.plain (OpenSpec.upto codeShiftsSpec)) codeShiftsUptoCard

/-- THE SECOND FORM's CARD OF 'purflelaw14.CodeBends'. -/
def codeBendsUptoCard : Claim7 := { stood := { row := codeBendsUptoRow, standIns := [], harness := (true, "3536aa02a2a5d7592c696a08f1918a0cae957e32f4d097949d4c9ca06c407a6f"), looks := false }, kinds := [], alts := [], laidByText := true, laidKinds := [.data], laidTests := true, laidLooks := .later }
def CodeBendsUptoCardSaid : Prop := Claim7.holds Tryd.pinned (.plain (OpenSpec.upto codeBendsSpec)) codeBendsUptoCard

/-- THE SECOND FORM's CARD OF 'purflelaw14.CodeLines'. -/
def codeLinesUptoCard : Claim7 := { stood := { row := codeLinesUptoRow, standIns := [], harness := (true, "3536aa02a2a5d7592c696a08f1918a0cae957e32f4d097949d4c9ca06c407a6f"), looks := false }, kinds := [], alts := [], laidByText := true, laidKinds := [.data, .data, .data, .data], laidTests := true, laidLooks := .later }
def CodeLinesUptoCardSaid : Prop := Claim7.holds Tryd.pinned (.plain (OpenSpec.upto codeLinesSpec)) codeLinesUptoCard
end Rows
end Go.Proofs.YtbmcddolfofmdaaDoor
