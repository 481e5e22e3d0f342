/-
  DERIVED. GIVEN WITH THE SEED: THE CARDS: each row of YtmnadieblhdcpaaDoorRows.lean that lists a variable, with what it lists TIED to the program's text (the seventh form; the later family's looks); each row that meets fmt, with fmt's text TOLD by the authors' own Lean function (tested against real Go, not proved from fmt's source: count such statements apart). THE CARD IS WHAT COUNTS. Prove the row's statement (the work); the ties are given (YtmnadieblhdcpaaDoorTie.lean); close each card by the builder's one call (the guide's Derived/Test/ToyasCard.lean, 'card_holds'). Laid BY PROGRAM, IN A SANDBOX (cutbox-door.mjs). By AI agents, Wed Nov 11 2026. No macro, syntax, notation, axiom, sorry.
-/
import Derived.Test.YtmnadieblhdcpaaDoorRows
import GoSem.ClaimSeven
namespace Go.Proofs.YtmnadieblhdcpaaDoor
namespace Rows

/-- THE TIED CARD OF 'purflelaw15.ValidTells'. -/
def validTellsCard : Claim7 := { stood := { row := validTellsRow, standIns := [], harness := (true, "9fbb50dc817b2c47192c315d78529dec82e0dc7ee37a98de40f301e9b43f251a"), looks := false }, kinds := [], alts := [], laidByText := true, laidKinds := [.data], laidTests := true, laidLooks := .later }
def ValidTellsCardSaid : Prop := Claim7.holds Tryd.pinned (.plain (OpenSpec.ofChange validTellsSpec)) validTellsCard

/-- THE TIED CARD OF 'purflelaw15.ValidWays'. -/
def validWaysCard : Claim7 := { stood := { row := validWaysRow, standIns := [], harness := (true, "9fbb50dc817b2c47192c315d78529dec82e0dc7ee37a98de40f301e9b43f251a"), looks := false }, kinds := [], alts := [], laidByText := true, laidKinds := [.data], laidTests := true, laidLooks := .later }
def ValidWaysCardSaid : Prop := Claim7.holds Tryd.pinned (.plain (OpenSpec.ofChange validWaysSpec)) validWaysCard

/-- THE TIED CARD OF 'purflelaw15.ValidTrims'. -/
def validTrimsCard : Claim7 := { stood := { row := validTrimsRow, standIns := [], harness := (true, "9fbb50dc817b2c47192c315d78529dec82e0dc7ee37a98de40f301e9b43f251a"), looks := false }, kinds := [], alts := [], laidByText := true, laidKinds := [.data], laidTests := true, laidLooks := .later }
def ValidTrimsCardSaid : Prop := Claim7.holds Tryd.pinned (.plain (OpenSpec.ofChange validTrimsSpec)) validTrimsCard

/-- THE TIED CARD OF 'purflelaw15.ValidEnds'. -/
def validEndsCard : Claim7 := { stood := { row := validEndsRow, standIns := [], harness := (true, "9fbb50dc817b2c47192c315d78529dec82e0dc7ee37a98de40f301e9b43f251a"), looks := false }, kinds := [], alts := [], laidByText := true, laidKinds := [.data], laidTests := true, laidLooks := .later }
def ValidEndsCardSaid : Prop := Claim7.holds Tryd.pinned (.plain (OpenSpec.ofChange validEndsSpec)) validEndsCard

/-- THE TIED CARD OF 'purflelaw15.ValidShifts'. -/
def validShiftsCard : Claim7 := { stood := { row := validShiftsRow, standIns := [], harness := (true, "9fbb50dc817b2c47192c315d78529dec82e0dc7ee37a98de40f301e9b43f251a"), looks := false }, kinds := [], alts := [], laidByText := true, laidKinds := [.data], laidTests := true, laidLooks := .later }
def ValidShiftsCardSaid : Prop := Claim7.holds Tryd.pinned (.plain (OpenSpec.ofChange validShiftsSpec)) validShiftsCard

/-- THE SECOND FORM's CARD OF 'purflelaw15.ValidTells'. -/
def validTellsUptoCard : Claim7 := { stood := { row := validTellsUptoRow, standIns := [], harness := (true, "9fbb50dc817b2c47192c315d78529dec82e0dc7ee37a98de40f301e9b43f251a"), looks := false }, kinds := [], alts := [], laidByText := true, laidKinds := [.data], laidTests := true, laidLooks := .later }
def ValidTellsUptoCardSaid : Prop := Claim7.holds Tryd.pinned (.plain (OpenSpec.upto validTellsSpec)) validTellsUptoCard

/-- THE SECOND FORM's CARD OF 'purflelaw15.ValidWays'. -/
def validWaysUptoCard : Claim7 := { stood := { row := validWaysUptoRow, standIns := [], harness := (true, "9fbb50dc817b2c47192c315d78529dec82e0dc7ee37a98de40f301e9b43f251a"), looks := false }, kinds := [], alts := [], laidByText := true, laidKinds := [.data], laidTests := true, laidLooks := .later }
def ValidWaysUptoCardSaid : Prop := Claim7.holds Tryd.pinned (.plain (OpenSpec.upto validWaysSpec)) validWaysUptoCard

/-- THE SECOND FORM's CARD OF 'purflelaw15.ValidTrims'. -/
def validTrimsUptoCard : Claim7 := { stood := { row := validTrimsUptoRow, standIns := [], harness := (true, "9fbb50dc817b2c47192c315d78529dec82e0dc7ee37a98de40f301e9b43f251a"), looks := false }, kinds := [], alts := [], laidByText := true, laidKinds := [.data], laidTests := true, laidLooks := .later }
def ValidTrimsUptoCardSaid : Prop := Claim7.holds Tryd.pinned (.plain (OpenSpec.upto validTrimsSpec)) validTrimsUptoCard

/-- THE SECOND FORM's CARD OF 'purflelaw15.ValidEnds'. -/
def validEndsUptoCard : Claim7 := { stood := { row := validEndsUptoRow, standIns := [], harness := (true, "9fbb50dc817b2c47192c315d78529dec82e0dc7ee37a98de40f301e9b43f251a"), looks := false }, kinds := [], alts := [], laidByText := true, laidKinds := [.data], laidTests := true, laidLooks := .later }
def ValidEndsUptoCardSaid : Prop := Claim7.holds Tryd.pinned (.plain (OpenSpec.upto validEndsSpec)) validEndsUptoCard

/-- THE SECOND FORM's CARD OF 'purflelaw15.ValidShifts'. -/
def validShiftsUptoCard : Claim7 := { stood := { row := validShiftsUptoRow, standIns := [], harness := (true, "9fbb50dc817b2c47192c315d78529dec82e0dc7ee37a98de40f301e9b43f251a"), looks := false }, kinds := [], alts := [], laidByText := true, laidKinds := [.data], laidTests := true, laidLooks := .later }
def ValidShiftsUptoCardSaid : Prop := Claim7.holds Tryd.pinned (.plain (OpenSpec.upto validShiftsSpec)) validShiftsUptoCard
end Rows
end Go.Proofs.YtmnadieblhdcpaaDoor
