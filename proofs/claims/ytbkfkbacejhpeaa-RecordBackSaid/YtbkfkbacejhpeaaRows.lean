/-
  No cell of these rows narrows 'for every input' (looked for: loops, veiled, ifaces, maps, wideKeys, modest, calm, conditions, laid).
  DERIVED. THE GIVEN ROWS OF THIS SEAT. 3 by the template 'for every input the law returns true; each argument reads behind the call as it read before'; 0 by the template 'total and deterministic' (their statements: YtbkfkbacejhpeaaTotals.lean).
  GIVEN WITH THE SEED: the statements are not yours to turn. If you find one false, say at which input.
  Laid BY PROGRAM, IN A SANDBOX (cutbox-rows.mjs): the forced cells as the released guide's own fill.sh prints them over the translation 52c397dae6ee87fa… (all of the seat's roots in one cut). By AI agents, Wed Nov 11 2026. No macro, syntax, notation, axiom, sorry.
-/
import Derived.Test.YtbkfkbacejhpeaaChecked
import GoSem.Claim
import GoSem.ClaimJoined
import GoSem.ClaimMapViews
import Derived.JoinedTies
import Derived.KernelRfl
namespace Go.Proofs.Ytbkfkbacejhpeaa
/- THE CELL 'sum', in the pinned program and in every row, IS THE sha256 OF THE DUMP (.gsa) THAT YtbkfkbacejhpeaaProg.lean LOADS. Nothing in Lean hashes anything: it is a label: what it is worth is what the hold of that sum in a sandbox is worth. -/
noncomputable def Try.pinned : Pinned := { name := "ytbkfkbacejhpeaa", sum := "52c397dae6ee87face4154f30e1eba03b00fd27d7ac9279ce23b9f7a43429b3a", checked := Try.checked }
namespace Rows
def none {H : Type} : Left H := { results := [], args := [] }

/-- 'postilionlaw20.RecordIs': WHATEVER THE INPUT: true; the input reads as it did. -/
def recordIsSpec : ChangeSpec := { name := "recordIs", fn := fun _ => fun
  | [d1, d2, d3] => { results := [.lit (.bool true)], args := [d1, d2, d3] }
  | _ => none }
def recordIsRow : OpenClaim := { program := "ytbkfkbacejhpeaa", sum := "52c397dae6ee87face4154f30e1eba03b00fd27d7ac9279ce23b9f7a43429b3a", func := "postilion/postilionlaw20.RecordIs", spec := "recordIs", inPlace := ["internal/abi.NoEscape"], apart := false }
def RecordIsSaid : Prop := recordIsRow.holds Try.pinned (OpenSpec.ofChange recordIsSpec)

/-- ITS FALSE NEIGHBOUR: 'it returns false'. Refute it at one input. -/
def recordIsWrong : ChangeSpec := { name := "recordIs", fn := fun _ => fun
  | [d1, d2, d3] => { results := [.lit (.bool false)], args := [d1, d2, d3] }
  | _ => none }
def RecordIsWrongFalsely : Prop := recordIsRow.holds Try.pinned (OpenSpec.ofChange recordIsWrong)

/-- 'postilionlaw20.RecordBack': WHATEVER THE INPUT: true; the input reads as it did. -/
def recordBackSpec : ChangeSpec := { name := "recordBack", fn := fun _ => fun
  | [d1, d2, d3] => { results := [.lit (.bool true)], args := [d1, d2, d3] }
  | _ => none }
def recordBackRow : OpenClaim := { program := "ytbkfkbacejhpeaa", sum := "52c397dae6ee87face4154f30e1eba03b00fd27d7ac9279ce23b9f7a43429b3a", func := "postilion/postilionlaw20.RecordBack", spec := "recordBack", inPlace := ["internal/abi.NoEscape"], apart := false }
def RecordBackSaid : Prop := recordBackRow.holds Try.pinned (OpenSpec.ofChange recordBackSpec)

/-- ITS FALSE NEIGHBOUR: 'it returns false'. Refute it at one input. -/
def recordBackWrong : ChangeSpec := { name := "recordBack", fn := fun _ => fun
  | [d1, d2, d3] => { results := [.lit (.bool false)], args := [d1, d2, d3] }
  | _ => none }
def RecordBackWrongFalsely : Prop := recordBackRow.holds Try.pinned (OpenSpec.ofChange recordBackWrong)

/-- 'postilionlaw20.RecordNewer': WHATEVER THE INPUT: true; the input reads as it did. -/
def recordNewerSpec : ChangeSpec := { name := "recordNewer", fn := fun _ => fun
  | [d1, d2] => { results := [.lit (.bool true)], args := [d1, d2] }
  | _ => none }
def recordNewerRow : OpenClaim := { program := "ytbkfkbacejhpeaa", sum := "52c397dae6ee87face4154f30e1eba03b00fd27d7ac9279ce23b9f7a43429b3a", func := "postilion/postilionlaw20.RecordNewer", spec := "recordNewer", inPlace := ["internal/abi.NoEscape"], apart := false }
def RecordNewerSaid : Prop := recordNewerRow.holds Try.pinned (OpenSpec.ofChange recordNewerSpec)

/-- ITS FALSE NEIGHBOUR: 'it returns false'. Refute it at one input. -/
def recordNewerWrong : ChangeSpec := { name := "recordNewer", fn := fun _ => fun
  | [d1, d2] => { results := [.lit (.bool false)], args := [d1, d2] }
  | _ => none }
def RecordNewerWrongFalsely : Prop := recordNewerRow.holds Try.pinned (OpenSpec.ofChange recordNewerWrong)

/- THE SECOND FORM. 'bulk': how many values and letters a reading holds, each counted each time it is reached (what is shared counts as often as it is met; a slice's spare places count too). A statement '..UptoSaid' is the law's where the arguments, and the package variables that the reading takes, are together of bulk at most 1048576: NARROWER than '..Said'. Prove '..Said' where nothing that the law and all that it calls make is longer than what came in: it says more and counts as full. Else prove '..UptoSaid'. A law counts once. -/
mutual
def uptoBulk {H : Type} : DataW H → Nat
  | .lit (.string bytes) => bytes.length + 1
  | .lit _ => 1
  | .nil => 1
  | .ptr d => uptoBulk d + 1
  | .slice elems spare => uptoBulkAll elems + uptoBulkAll spare + 1
  | .agg parts => uptoBulkAll parts + 1
  | .iface _ d => uptoBulk d + 1
  | .map entries => uptoBulkEntries entries + 1
  | .held _ => 1
def uptoBulkAll {H : Type} : List (DataW H) → Nat
  | [] => 0
  | d :: r => uptoBulk d + uptoBulkAll r
def uptoBulkEntries {H : Type} : List (Lit × DataW H) → Nat
  | [] => 0
  | x :: r => uptoBulkEntry x + uptoBulkEntries r
def uptoBulkEntry {H : Type} : Lit × DataW H → Nat
  | (.string bytes, d) => bytes.length + uptoBulk d + 1
  | (_, d) => uptoBulk d + 1
 end
def uptoSmall : (H : Type) → List (DataW H) → Bool := fun _ ds => decide (uptoBulkAll ds ≤ 1048576)
def OpenSpec.upto (s : _root_.Go.ChangeSpec) : _root_.Go.OpenSpec := { _root_.Go.OpenSpec.ofChange s with cond := some uptoSmall }

/-- 'postilionlaw20.RecordIs', WHERE WHAT IT READS IS OF BULK AT MOST 1048576: true; the input reads as it did. -/
def recordIsUptoRow : OpenClaim := { program := "ytbkfkbacejhpeaa", sum := "52c397dae6ee87face4154f30e1eba03b00fd27d7ac9279ce23b9f7a43429b3a", func := "postilion/postilionlaw20.RecordIs", spec := "recordIs", inPlace := ["internal/abi.NoEscape"], apart := false, narrowed := true }
def RecordIsUptoSaid : Prop := recordIsUptoRow.holds Try.pinned (OpenSpec.upto recordIsSpec)

/-- 'postilionlaw20.RecordBack', WHERE WHAT IT READS IS OF BULK AT MOST 1048576: true; the input reads as it did. -/
def recordBackUptoRow : OpenClaim := { program := "ytbkfkbacejhpeaa", sum := "52c397dae6ee87face4154f30e1eba03b00fd27d7ac9279ce23b9f7a43429b3a", func := "postilion/postilionlaw20.RecordBack", spec := "recordBack", inPlace := ["internal/abi.NoEscape"], apart := false, narrowed := true }
def RecordBackUptoSaid : Prop := recordBackUptoRow.holds Try.pinned (OpenSpec.upto recordBackSpec)

/-- 'postilionlaw20.RecordNewer', WHERE WHAT IT READS IS OF BULK AT MOST 1048576: true; the input reads as it did. -/
def recordNewerUptoRow : OpenClaim := { program := "ytbkfkbacejhpeaa", sum := "52c397dae6ee87face4154f30e1eba03b00fd27d7ac9279ce23b9f7a43429b3a", func := "postilion/postilionlaw20.RecordNewer", spec := "recordNewer", inPlace := ["internal/abi.NoEscape"], apart := false, narrowed := true }
def RecordNewerUptoSaid : Prop := recordNewerUptoRow.holds Try.pinned (OpenSpec.upto recordNewerSpec)

end Rows
end Go.Proofs.Ytbkfkbacejhpeaa
