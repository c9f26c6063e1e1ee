/-
  No cell of these rows narrows 'for every input' (looked for: loops, veiled, ifaces, maps, wideKeys, modest, calm, conditions, laid).
  DERIVED. THE GIVEN ROWS OF THIS SEAT. 2 by the template 'for every input the law returns true; each argument reads behind the call as it read before'; 0 by the template 'total and deterministic' (their statements: YteooafoamnfjbaaTotals.lean).
  GIVEN WITH THE SEED: the statements are not yours to turn. If you find one false, say at which input.
  Laid BY PROGRAM, IN A SANDBOX (cutbox-rows.mjs): the forced cells as the released guide's own fill.sh prints them over the translation f545f2191d98cdad… (all of the seat's roots in one cut). By AI agents, Wed Nov 11 2026. No macro, syntax, notation, axiom, sorry.
-/
import Derived.Test.YteooafoamnfjbaaChecked
import GoSem.Claim
import GoSem.ClaimJoined
import GoSem.ClaimMapViews
import Derived.JoinedTies
import Derived.KernelRfl
namespace Go.Proofs.Yteooafoamnfjbaa
/- THE CELL 'sum', in the pinned program and in every row, IS THE sha256 OF THE DUMP (.gsa) THAT YteooafoamnfjbaaProg.lean LOADS. Nothing in Lean hashes anything: it is a label: what it is worth is what the hold of that sum in a sandbox is worth. -/
noncomputable def Try.pinned : Pinned := { name := "yteooafoamnfjbaa", sum := "f545f2191d98cdad190ba04c572b6cc6b6e8997c1a3c7d595e08d12c33e01d20", checked := Try.checked }
namespace Rows
def none {H : Type} : Left H := { results := [], args := [] }

/-- 'postilionlaw08.DogPlays': WHATEVER THE INPUT: true; the input reads as it did. -/
def dogPlaysSpec : ChangeSpec := { name := "dogPlays", fn := fun _ => fun
  | [d] => { results := [.lit (.bool true)], args := [d] }
  | _ => none }
def dogPlaysRow : OpenClaim := { program := "yteooafoamnfjbaa", sum := "f545f2191d98cdad190ba04c572b6cc6b6e8997c1a3c7d595e08d12c33e01d20", func := "postilion/postilionlaw08.DogPlays", spec := "dogPlays", apart := false }
def DogPlaysSaid : Prop := dogPlaysRow.holds Try.pinned (OpenSpec.ofChange dogPlaysSpec)

/-- ITS FALSE NEIGHBOUR: 'it returns false'. Refute it at one input. -/
def dogPlaysWrong : ChangeSpec := { name := "dogPlays", fn := fun _ => fun
  | [d] => { results := [.lit (.bool false)], args := [d] }
  | _ => none }
def DogPlaysWrongFalsely : Prop := dogPlaysRow.holds Try.pinned (OpenSpec.ofChange dogPlaysWrong)

/-- 'postilionlaw08.DogBarks': WHATEVER THE INPUT: true; the input reads as it did. -/
def dogBarksSpec : ChangeSpec := { name := "dogBarks", fn := fun _ => fun
  | [d1, d2] => { results := [.lit (.bool true)], args := [d1, d2] }
  | _ => none }
def dogBarksRow : OpenClaim := { program := "yteooafoamnfjbaa", sum := "f545f2191d98cdad190ba04c572b6cc6b6e8997c1a3c7d595e08d12c33e01d20", func := "postilion/postilionlaw08.DogBarks", spec := "dogBarks", apart := false }
def DogBarksSaid : Prop := dogBarksRow.holds Try.pinned (OpenSpec.ofChange dogBarksSpec)

/-- ITS FALSE NEIGHBOUR: 'it returns false'. Refute it at one input. -/
def dogBarksWrong : ChangeSpec := { name := "dogBarks", fn := fun _ => fun
  | [d1, d2] => { results := [.lit (.bool false)], args := [d1, d2] }
  | _ => none }
def DogBarksWrongFalsely : Prop := dogBarksRow.holds Try.pinned (OpenSpec.ofChange dogBarksWrong)

/- THE SECOND FORM. 'bulk': how many values and letters a reading holds, each counted each time it is reached (what is shared counts as often as it is met; a slice's spare places count too). A statement '..UptoSaid' is the law's where the arguments, and the package variables that the reading takes, are together of bulk at most 1048576: NARROWER than '..Said'. Prove '..Said' where nothing that the law and all that it calls make is longer than what came in: it says more and counts as full. Else prove '..UptoSaid'. A law counts once. -/
mutual
def uptoBulk {H : Type} : DataW H → Nat
  | .lit (.string bytes) => bytes.length + 1
  | .lit _ => 1
  | .nil => 1
  | .ptr d => uptoBulk d + 1
  | .slice elems spare => uptoBulkAll elems + uptoBulkAll spare + 1
  | .agg parts => uptoBulkAll parts + 1
  | .iface _ d => uptoBulk d + 1
  | .map entries => uptoBulkEntries entries + 1
  | .held _ => 1
def uptoBulkAll {H : Type} : List (DataW H) → Nat
  | [] => 0
  | d :: r => uptoBulk d + uptoBulkAll r
def uptoBulkEntries {H : Type} : List (Lit × DataW H) → Nat
  | [] => 0
  | x :: r => uptoBulkEntry x + uptoBulkEntries r
def uptoBulkEntry {H : Type} : Lit × DataW H → Nat
  | (.string bytes, d) => bytes.length + uptoBulk d + 1
  | (_, d) => uptoBulk d + 1
 end
def uptoSmall : (H : Type) → List (DataW H) → Bool := fun _ ds => decide (uptoBulkAll ds ≤ 1048576)
def OpenSpec.upto (s : _root_.Go.ChangeSpec) : _root_.Go.OpenSpec := { _root_.Go.OpenSpec.ofChange s with cond := some uptoSmall }

/-- 'postilionlaw08.DogPlays', WHERE WHAT IT READS IS OF BULK AT MOST 1048576: true; the input reads as it did. -/
def dogPlaysUptoRow : OpenClaim := { program := "yteooafoamnfjbaa", sum := "f545f2191d98cdad190ba04c572b6cc6b6e8997c1a3c7d595e08d12c33e01d20", func := "postilion/postilionlaw08.DogPlays", spec := "dogPlays", apart := false, narrowed := true }
def DogPlaysUptoSaid : Prop := dogPlaysUptoRow.holds Try.pinned (OpenSpec.upto dogPlaysSpec)

/-- 'postilionlaw08.DogBarks', WHERE WHAT IT READS IS OF BULK AT MOST 1048576: true; the input reads as it did. -/
def dogBarksUptoRow : OpenClaim := { program := "yteooafoamnfjbaa", sum := "f545f2191d98cdad190ba04c572b6cc6b6e8997c1a3c7d595e08d12c33e01d20", func := "postilion/postilionlaw08.DogBarks", spec := "dogBarks", apart := false, narrowed := true }
def DogBarksUptoSaid : Prop := dogBarksUptoRow.holds Try.pinned (OpenSpec.upto dogBarksSpec)

end Rows
end Go.Proofs.Yteooafoamnfjbaa
