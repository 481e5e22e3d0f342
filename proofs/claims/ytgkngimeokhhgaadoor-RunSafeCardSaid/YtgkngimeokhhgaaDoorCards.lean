/-
  DERIVED. GIVEN WITH THE SEED: THE CARDS: each row of YtgkngimeokhhgaaDoorRows.lean that lists a variable, with what it lists TIED to the program's text (the seventh form; the later family's looks); each row that meets fmt, with fmt's text TOLD by the authors' own Lean function (tested against real Go, not proved from fmt's source: count such statements apart). THE CARD IS WHAT COUNTS. Prove the row's statement (the work); the ties are given (YtgkngimeokhhgaaDoorTie.lean); close each card by the builder's one call (the guide's Derived/Test/ToyasCard.lean, 'card_holds'). Laid BY PROGRAM, IN A SANDBOX (cutbox-door.mjs). By AI agents, Wed Nov 11 2026. No macro, syntax, notation, axiom, sorry.
-/
import Derived.Test.YtgkngimeokhhgaaDoorRows
import GoSem.ClaimSeven
namespace Go.Proofs.YtgkngimeokhhgaaDoor
namespace Rows

/-- THE TIED CARD OF 'purflelaw16.RunSafe'. -/
def runSafeCard : Claim7 := { stood := { row := runSafeRow, standIns := [], harness := (true, "567e8a481f9e494808bba4bd282edc7cf7e39e3b8d246fbe590e9bbf22b9ee70"), looks := false }, kinds := [], alts := [], laidByText := true, laidKinds := [.data], laidTests := true, laidLooks := .later }
def RunSafeCardSaid : Prop := Claim7.holds Tryd.pinned (.plain (OpenSpec.ofChange runSafeSpec)) runSafeCard

/-- THE TIED CARD OF 'purflelaw16.RunNeeds'. -/
def runNeedsCard : Claim7 := { stood := { row := runNeedsRow, standIns := [], harness := (true, "567e8a481f9e494808bba4bd282edc7cf7e39e3b8d246fbe590e9bbf22b9ee70"), looks := false }, kinds := [], alts := [], laidByText := true, laidKinds := [.data], laidTests := true, laidLooks := .later }
def RunNeedsCardSaid : Prop := Claim7.holds Tryd.pinned (.plain (OpenSpec.ofChange runNeedsSpec)) runNeedsCard

/-- THE TIED CARD OF 'purflelaw16.RunPath'. -/
def runPathCard : Claim7 := { stood := { row := runPathRow, standIns := [], harness := (true, "567e8a481f9e494808bba4bd282edc7cf7e39e3b8d246fbe590e9bbf22b9ee70"), looks := false }, kinds := [], alts := [], laidByText := true, laidKinds := [.data], laidTests := true, laidLooks := .later }
def RunPathCardSaid : Prop := Claim7.holds Tryd.pinned (.plain (OpenSpec.ofChange runPathSpec)) runPathCard

/-- THE TIED CARD OF 'purflelaw16.RunTrims'. -/
def runTrimsCard : Claim7 := { stood := { row := runTrimsRow, standIns := [], harness := (true, "567e8a481f9e494808bba4bd282edc7cf7e39e3b8d246fbe590e9bbf22b9ee70"), looks := false }, kinds := [], alts := [], laidByText := true, laidKinds := [.data], laidTests := true, laidLooks := .later }
def RunTrimsCardSaid : Prop := Claim7.holds Tryd.pinned (.plain (OpenSpec.ofChange runTrimsSpec)) runTrimsCard

/-- THE TIED CARD OF 'purflelaw16.RunEnds'. -/
def runEndsCard : Claim7 := { stood := { row := runEndsRow, standIns := [], harness := (true, "567e8a481f9e494808bba4bd282edc7cf7e39e3b8d246fbe590e9bbf22b9ee70"), looks := false }, kinds := [], alts := [], laidByText := true, laidKinds := [.data], laidTests := true, laidLooks := .later }
def RunEndsCardSaid : Prop := Claim7.holds Tryd.pinned (.plain (OpenSpec.ofChange runEndsSpec)) runEndsCard

/-- THE TIED CARD OF 'purflelaw16.RunStraight'. -/
def runStraightCard : Claim7 := { stood := { row := runStraightRow, standIns := [], harness := (true, "567e8a481f9e494808bba4bd282edc7cf7e39e3b8d246fbe590e9bbf22b9ee70"), looks := false }, kinds := [], alts := [], laidByText := true, laidKinds := [.data], laidTests := true, laidLooks := .later }
def RunStraightCardSaid : Prop := Claim7.holds Tryd.pinned (.plain (OpenSpec.ofChange runStraightSpec)) runStraightCard

/-- THE SECOND FORM's CARD OF 'purflelaw16.RunSafe'. -/
def runSafeUptoCard : Claim7 := { stood := { row := runSafeUptoRow, standIns := [], harness := (true, "567e8a481f9e494808bba4bd282edc7cf7e39e3b8d246fbe590e9bbf22b9ee70"), looks := false }, kinds := [], alts := [], laidByText := true, laidKinds := [.data], laidTests := true, laidLooks := .later }
def RunSafeUptoCardSaid : Prop := Claim7.holds Tryd.pinned (.plain (OpenSpec.upto runSafeSpec)) runSafeUptoCard

/-- THE SECOND FORM's CARD OF 'purflelaw16.RunNeeds'. -/
def runNeedsUptoCard : Claim7 := { stood := { row := runNeedsUptoRow, standIns := [], harness := (true, "567e8a481f9e494808bba4bd282edc7cf7e39e3b8d246fbe590e9bbf22b9ee70"), looks := false }, kinds := [], alts := [], laidByText := true, laidKinds := [.data], laidTests := true, laidLooks := .later }
def RunNeedsUptoCardSaid : Prop := Claim7.holds Tryd.pinned (.plain (OpenSpec.upto runNeedsSpec)) runNeedsUptoCard

/-- THE SECOND FORM's CARD OF 'purflelaw16.RunPath'. -/
def runPathUptoCard : Claim7 := { stood := { row := runPathUptoRow, standIns := [], harness := (true, "567e8a481f9e494808bba4bd282edc7cf7e39e3b8d246fbe590e9bbf22b9ee70"), looks := false }, kinds := [], alts := [], laidByText := true, laidKinds := [.data], laidTests := true, laidLooks := .later }
def RunPathUptoCardSaid : Prop := Claim7.holds Tryd.pinned (.plain (OpenSpec.upto runPathSpec)) runPathUptoCard

/-- THE SECOND FORM's CARD OF 'purflelaw16.RunTrims'. -/
def runTrimsUptoCard : Claim7 := { stood := { row := runTrimsUptoRow, standIns := [], harness := (true, "567e8a481f9e494808bba4bd282edc7cf7e39e3b8d246fbe590e9bbf22b9ee70"), looks := false }, kinds := [], alts := [], laidByText := true, laidKinds := [.data], laidTests := true, laidLooks := .later }
def RunTrimsUptoCardSaid : Prop := Claim7.holds Tryd.pinned (.plain (OpenSpec.upto runTrimsSpec)) runTrimsUptoCard

/-- THE SECOND FORM's CARD OF 'purflelaw16.RunEnds'. -/
def runEndsUptoCard : Claim7 := { stood := { row := runEndsUptoRow, standIns := [], harness := (true, "567e8a481f9e494808bba4bd282edc7cf7e39e3b8d246fbe590e9bbf22b9ee70"), looks := false }, kinds := [], alts := [], laidByText := true, laidKinds := [.data], laidTests := true, laidLooks := .later }
def RunEndsUptoCardSaid : Prop := Claim7.holds Tryd.pinned (.plain (OpenSpec.upto runEndsSpec)) runEndsUptoCard

/-- THE SECOND FORM's CARD OF 'purflelaw16.RunStraight'. -/
def runStraightUptoCard : Claim7 := { stood := { row := runStraightUptoRow, standIns := [], harness := (true, "567e8a481f9e494808bba4bd282edc7cf7e39e3b8d246fbe590e9bbf22b9ee70"), looks := false }, kinds := [], alts := [], laidByText := true, laidKinds := [.data], laidTests := true, laidLooks := .later }
def RunStraightUptoCardSaid : Prop := Claim7.holds Tryd.pinned (.plain (OpenSpec.upto runStraightSpec)) runStraightUptoCard
end Rows
end Go.Proofs.YtgkngimeokhhgaaDoor
