/-
  DERIVED. GIVEN WITH THE SEED: THE CARDS: each row of YtjphecfkjpfkeaaDoorRows.lean that lists a variable, with what it lists TIED to the program's text (the seventh form; the later family's looks); each row that meets fmt, with fmt's text TOLD by the authors' own Lean function (tested against real Go, not proved from fmt's source: count such statements apart). THE CARD IS WHAT COUNTS. Prove the row's statement (the work); the ties are given (YtjphecfkjpfkeaaDoorTie.lean); close each card by the builder's one call (the guide's Derived/Test/ToyasCard.lean, 'card_holds'). Laid BY PROGRAM, IN A SANDBOX (cutbox-door.mjs). By AI agents, Wed Nov 11 2026. No macro, syntax, notation, axiom, sorry.
-/
import Derived.Test.YtjphecfkjpfkeaaDoorRows
import GoSem.ClaimSeven
namespace Go.Proofs.YtjphecfkjpfkeaaDoor
namespace Rows

/-- THE TIED CARD OF 'postilionlaw16.PathIs'. -/
def pathIsCard : Claim7 := { stood := { row := pathIsRow, standIns := [], harness := (true, "5d5e67a838a8157cab1d8b389a3012c80abe583f2391063a8d2b36c286b19b41"), looks := false }, kinds := [], alts := [], laidByText := true, laidKinds := [.data, .pinned], laidTests := true, laidLooks := .later }
def PathIsCardSaid : Prop := Claim7.holds Tryd.pinned (.plain (OpenSpec.ofChange pathIsSpec)) pathIsCard

/-- THE TIED CARD OF 'postilionlaw16.PathFind'. -/
def pathFindCard : Claim7 := { stood := { row := pathFindRow, standIns := [], harness := (true, "5d5e67a838a8157cab1d8b389a3012c80abe583f2391063a8d2b36c286b19b41"), looks := false }, kinds := [], alts := [], laidByText := true, laidKinds := [.data, .pinned], laidTests := true, laidLooks := .later }
def PathFindCardSaid : Prop := Claim7.holds Tryd.pinned (.plain (OpenSpec.ofChange pathFindSpec)) pathFindCard

/-- THE TIED CARD OF 'postilionlaw16.PathWalk'. -/
def pathWalkCard : Claim7 := { stood := { row := pathWalkRow, standIns := [], harness := (true, "5d5e67a838a8157cab1d8b389a3012c80abe583f2391063a8d2b36c286b19b41"), looks := false }, kinds := [], alts := [], laidByText := true, laidKinds := [.data, .pinned], laidTests := true, laidLooks := .later }
def PathWalkCardSaid : Prop := Claim7.holds Tryd.pinned (.plain (OpenSpec.ofChange pathWalkSpec)) pathWalkCard

/-- THE SECOND FORM's CARD OF 'postilionlaw16.PathIs'. -/
def pathIsUptoCard : Claim7 := { stood := { row := pathIsUptoRow, standIns := [], harness := (true, "5d5e67a838a8157cab1d8b389a3012c80abe583f2391063a8d2b36c286b19b41"), looks := false }, kinds := [], alts := [], laidByText := true, laidKinds := [.data, .pinned], laidTests := true, laidLooks := .later }
def PathIsUptoCardSaid : Prop := Claim7.holds Tryd.pinned (.plain (OpenSpec.upto pathIsSpec)) pathIsUptoCard

/-- THE SECOND FORM's CARD OF 'postilionlaw16.PathFind'. -/
def pathFindUptoCard : Claim7 := { stood := { row := pathFindUptoRow, standIns := [], harness := (true, "5d5e67a838a8157cab1d8b389a3012c80abe583f2391063a8d2b36c286b19b41"), looks := false }, kinds := [], alts := [], laidByText := true, laidKinds := [.data, .pinned], laidTests := true, laidLooks := .later }
def PathFindUptoCardSaid : Prop := Claim7.holds Tryd.pinned (.plain (OpenSpec.upto pathFindSpec)) pathFindUptoCard

/-- THE SECOND FORM's CARD OF 'postilionlaw16.PathWalk'. -/
def pathWalkUptoCard : Claim7 := { stood := { row := pathWalkUptoRow, standIns := [], harness := (true, "5d5e67a838a8157cab1d8b389a3012c80abe583f2391063a8d2b36c286b19b41"), looks := false }, kinds := [], alts := [], laidByText := true, laidKinds := [.data, .pinned], laidTests := true, laidLooks := .later }
def PathWalkUptoCardSaid : Prop := Claim7.holds Tryd.pinned (.plain (OpenSpec.upto pathWalkSpec)) pathWalkUptoCard
end Rows
end Go.Proofs.YtjphecfkjpfkeaaDoor
