/-
  DERIVED. GIVEN WITH THE SEED: THE CARDS: each row of YtfcclppgjfkfoaaGreatDoorRows.lean that lists a variable, with what it lists TIED to the program's text (the seventh form; the later family's looks); each row that meets fmt, with fmt's text TOLD by the authors' own Lean function (tested against real Go, not proved from fmt's source: count such statements apart). THE CARD IS WHAT COUNTS. Prove the row's statement (the work); the ties are given (YtfcclppgjfkfoaaGreatDoorTie.lean); close each card by the builder's one call (the guide's Derived/Test/ToyasCard.lean, 'card_holds'). Laid BY PROGRAM, IN A SANDBOX (cutbox-door.mjs). By AI agents, Wed Nov 11 2026. No macro, syntax, notation, axiom, sorry.
-/
import Derived.Test.YtfcclppgjfkfoaaGreatDoorRows
import GoSem.ClaimSeven
namespace Go.Proofs.YtfcclppgjfkfoaaGreatDoor
namespace Rows

/-- THE TIED CARD OF 'postiliontop.WholeTree'. -/
def wholeTreeCard : Claim7 := { stood := { row := wholeTreeRow, standIns := [], harness := (true, "bb7e4e57af1c3fd7542fe984142451d7ac0bf2d8c75784bb5c44dd9537b8f100"), looks := false }, kinds := [], alts := [], laidByText := true, laidKinds := [.data, .pinned], laidTests := true, laidLooks := .later }
def WholeTreeCardSaid : Prop := Claim7.holds Tryz.pinned (.plain (OpenSpec.ofChange wholeTreeSpec)) wholeTreeCard

/-- THE SECOND FORM's CARD OF 'postiliontop.WholeTree'. -/
def wholeTreeUptoCard : Claim7 := { stood := { row := wholeTreeUptoRow, standIns := [], harness := (true, "bb7e4e57af1c3fd7542fe984142451d7ac0bf2d8c75784bb5c44dd9537b8f100"), looks := false }, kinds := [], alts := [], laidByText := true, laidKinds := [.data, .pinned], laidTests := true, laidLooks := .later }
def WholeTreeUptoCardSaid : Prop := Claim7.holds Tryz.pinned (.plain (OpenSpec.upto wholeTreeSpec)) wholeTreeUptoCard
end Rows
end Go.Proofs.YtfcclppgjfkfoaaGreatDoor
