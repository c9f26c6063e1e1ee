/-
  DERIVED. GIVEN WITH THE SEED: THE CARDS: each row of YtflhondihccjeaaDoorRows.lean that lists a variable, with what it lists TIED to the program's text (the seventh form; the later family's looks); each row that meets fmt, with fmt's text TOLD by the authors' own Lean function (tested against real Go, not proved from fmt's source: count such statements apart). THE CARD IS WHAT COUNTS. Prove the row's statement (the work); the ties are given (YtflhondihccjeaaDoorTie.lean); close each card by the builder's one call (the guide's Derived/Test/ToyasCard.lean, 'card_holds'). Laid BY PROGRAM, IN A SANDBOX (cutbox-door.mjs). By AI agents, Wed Nov 11 2026. No macro, syntax, notation, axiom, sorry.
-/
import Derived.Test.YtflhondihccjeaaDoorRows
import GoSem.ClaimSeven
namespace Go.Proofs.YtflhondihccjeaaDoor
namespace Rows

/-- THE TIED CARD OF 'postilionlaw13.ValueIs'. -/
def valueIsCard : Claim7 := { stood := { row := valueIsRow, standIns := [], harness := (true, "0eea0084a1fc3b44d2acc88d1b22c2d2ff86bf3303dee103e47e2045c12e377b"), looks := false }, kinds := [], alts := [], laidByText := true, laidKinds := [.data, .pinned], laidTests := true, laidLooks := .later }
def ValueIsCardSaid : Prop := Claim7.holds Tryd.pinned (.plain (OpenSpec.ofChange valueIsSpec)) valueIsCard

/-- THE TIED CARD OF 'postilionlaw13.ValueBack'. -/
def valueBackCard : Claim7 := { stood := { row := valueBackRow, standIns := [], harness := (true, "0eea0084a1fc3b44d2acc88d1b22c2d2ff86bf3303dee103e47e2045c12e377b"), looks := false }, kinds := [], alts := [], laidByText := true, laidKinds := [.data, .pinned], laidTests := true, laidLooks := .later }
def ValueBackCardSaid : Prop := Claim7.holds Tryd.pinned (.plain (OpenSpec.ofChange valueBackSpec)) valueBackCard

/-- THE SECOND FORM's CARD OF 'postilionlaw13.ValueIs'. -/
def valueIsUptoCard : Claim7 := { stood := { row := valueIsUptoRow, standIns := [], harness := (true, "0eea0084a1fc3b44d2acc88d1b22c2d2ff86bf3303dee103e47e2045c12e377b"), looks := false }, kinds := [], alts := [], laidByText := true, laidKinds := [.data, .pinned], laidTests := true, laidLooks := .later }
def ValueIsUptoCardSaid : Prop := Claim7.holds Tryd.pinned (.plain (OpenSpec.upto valueIsSpec)) valueIsUptoCard

/-- THE SECOND FORM's CARD OF 'postilionlaw13.ValueBack'. -/
def valueBackUptoCard : Claim7 := { stood := { row := valueBackUptoRow, standIns := [], harness := (true, "0eea0084a1fc3b44d2acc88d1b22c2d2ff86bf3303dee103e47e2045c12e377b"), looks := false }, kinds := [], alts := [], laidByText := true, laidKinds := [.data, .pinned], laidTests := true, laidLooks := .later }
def ValueBackUptoCardSaid : Prop := Claim7.holds Tryd.pinned (.plain (OpenSpec.upto valueBackSpec)) valueBackUptoCard
end Rows
end Go.Proofs.YtflhondihccjeaaDoor
