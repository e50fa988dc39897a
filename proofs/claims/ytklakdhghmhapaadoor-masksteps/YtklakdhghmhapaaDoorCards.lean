/-
  DERIVED. GIVEN WITH THE SEED: THE CARDS: each row of YtklakdhghmhapaaDoorRows.lean that lists a variable, with what it lists TIED to the program's text (the seventh form; the later family's looks); each row that meets fmt, with fmt's text TOLD by the authors' own Lean function (tested against real Go, not proved from fmt's source: count such statements apart). THE CARD IS WHAT COUNTS. Prove the row's statement (the work); the ties are given (YtklakdhghmhapaaDoorTie.lean); close each card by the builder's one call (the guide's Derived/Test/ToyasCard.lean, 'card_holds'). Laid BY PROGRAM, IN A SANDBOX (cutbox-door.mjs). By AI agents, Wed Nov 11 2026. No macro, syntax, notation, axiom, sorry.
-/
import Derived.Test.YtklakdhghmhapaaDoorRows
import GoSem.ClaimSeven
namespace Go.Proofs.YtklakdhghmhapaaDoor
namespace Rows

/-- THE TIED CARD OF 'bramblelaw4.MaskTells'. -/
def maskTellsCard : Claim7 := { stood := { row := maskTellsRow, standIns := [], harness := (true, "461913104e83096c153716fcad880b39894c64cd7fa2bf6fa6b2ad8f1b5b2faa"), looks := false }, kinds := [], alts := [], laidByText := true, laidKinds := [.data], laidTests := true, laidLooks := .later }
def MaskTellsCardSaid : Prop := Claim7.holds Tryd.pinned (.plain (OpenSpec.ofChange maskTellsSpec)) maskTellsCard

/-- THE TIED CARD OF 'bramblelaw4.MaskBack'. -/
def maskBackCard : Claim7 := { stood := { row := maskBackRow, standIns := [], harness := (true, "461913104e83096c153716fcad880b39894c64cd7fa2bf6fa6b2ad8f1b5b2faa"), looks := false }, kinds := [], alts := [], laidByText := true, laidKinds := [.data], laidTests := true, laidLooks := .later }
def MaskBackCardSaid : Prop := Claim7.holds Tryd.pinned (.plain (OpenSpec.ofChange maskBackSpec)) maskBackCard

/-- THE TIED CARD OF 'bramblelaw4.MaskSteps'. -/
def maskStepsCard : Claim7 := { stood := { row := maskStepsRow, standIns := [], harness := (true, "461913104e83096c153716fcad880b39894c64cd7fa2bf6fa6b2ad8f1b5b2faa"), looks := false }, kinds := [], alts := [], laidByText := true, laidKinds := [.data], laidTests := true, laidLooks := .later }
def MaskStepsCardSaid : Prop := Claim7.holds Tryd.pinned (.plain (OpenSpec.ofChange maskStepsSpec)) maskStepsCard

/-- THE TIED CARD OF 'bramblelaw4.MaskOthers'. -/
def maskOthersCard : Claim7 := { stood := { row := maskOthersRow, standIns := [], harness := (true, "461913104e83096c153716fcad880b39894c64cd7fa2bf6fa6b2ad8f1b5b2faa"), looks := false }, kinds := [], alts := [], laidByText := true, laidKinds := [.data], laidTests := true, laidLooks := .later }
def MaskOthersCardSaid : Prop := Claim7.holds Tryd.pinned (.plain (OpenSpec.ofChange maskOthersSpec)) maskOthersCard

/-- THE SECOND FORM's CARD OF 'bramblelaw4.MaskTells'. -/
def maskTellsUptoCard : Claim7 := { stood := { row := maskTellsUptoRow, standIns := [], harness := (true, "461913104e83096c153716fcad880b39894c64cd7fa2bf6fa6b2ad8f1b5b2faa"), looks := false }, kinds := [], alts := [], laidByText := true, laidKinds := [.data], laidTests := true, laidLooks := .later }
def MaskTellsUptoCardSaid : Prop := Claim7.holds Tryd.pinned (.plain (OpenSpec.upto maskTellsSpec)) maskTellsUptoCard

/-- THE SECOND FORM's CARD OF 'bramblelaw4.MaskBack'. -/
def maskBackUptoCard : Claim7 := { stood := { row := maskBackUptoRow, standIns := [], harness := (true, "461913104e83096c153716fcad880b39894c64cd7fa2bf6fa6b2ad8f1b5b2faa"), looks := false }, kinds := [], alts := [], laidByText := true, laidKinds := [.data], laidTests := true, laidLooks := .later }
def MaskBackUptoCardSaid : Prop := Claim7.holds Tryd.pinned (.plain (OpenSpec.upto maskBackSpec)) maskBackUptoCard

/-- THE SECOND FORM's CARD OF 'bramblelaw4.MaskSteps'. -/
def maskStepsUptoCard : Claim7 := { stood := { row := maskStepsUptoRow, standIns := [], harness := (true, "461913104e83096c153716fcad880b39894c64cd7fa2bf6fa6b2ad8f1b5b2faa"), looks := false }, kinds := [], alts := [], laidByText := true, laidKinds := [.data], laidTests := true, laidLooks := .later }
def MaskStepsUptoCardSaid : Prop := Claim7.holds Tryd.pinned (.plain (OpenSpec.upto maskStepsSpec)) maskStepsUptoCard

/-- THE SECOND FORM's CARD OF 'bramblelaw4.MaskOthers'. -/
def maskOthersUptoCard : Claim7 := { stood := { row := maskOthersUptoRow, standIns := [], harness := (true, "461913104e83096c153716fcad880b39894c64cd7fa2bf6fa6b2ad8f1b5b2faa"), looks := false }, kinds := [], alts := [], laidByText := true, laidKinds := [.data], laidTests := true, laidLooks := .later }
def MaskOthersUptoCardSaid : Prop := Claim7.holds Tryd.pinned (.plain (OpenSpec.upto maskOthersSpec)) maskOthersUptoCard
end Rows
end Go.Proofs.YtklakdhghmhapaaDoor
