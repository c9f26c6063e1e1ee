/-
  NARROWER THAN 'FOR EVERY INPUT', by the rows' own cells (each row's printed sentence says how): GrammarCheck: loops · GrammarFinds: loops.
  DERIVED. THE GIVEN ROWS OF THIS SEAT. 3 by the template 'for every input the law returns true; each argument reads behind the call as it read before'; 0 by the template 'total and deterministic' (their statements: YtmgfnghegcfhnaaTotals.lean).
  GIVEN WITH THE SEED: the statements are not yours to turn. If you find one false, say at which input.
  Laid BY PROGRAM, IN A SANDBOX (cutbox-rows.mjs): the forced cells as the released guide's own fill.sh prints them over the translation b8c10712403028e0… (all of the seat's roots in one cut). By AI agents, Wed Nov 11 2026. No macro, syntax, notation, axiom, sorry.
-/
import Derived.Test.YtmgfnghegcfhnaaChecked
import GoSem.Claim
import GoSem.ClaimJoined
import GoSem.ClaimMapViews
import Derived.JoinedTies
import Derived.KernelRfl
namespace Go.Proofs.Ytmgfnghegcfhnaa
/- THE CELL 'sum', in the pinned program and in every row, IS THE sha256 OF THE DUMP (.gsa) THAT YtmgfnghegcfhnaaProg.lean LOADS. Nothing in Lean hashes anything: it is a label: what it is worth is what the hold of that sum in a sandbox is worth. -/
noncomputable def Try.pinned : Pinned := { name := "ytmgfnghegcfhnaa", sum := "b8c10712403028e0d0e882774f96446b81b47c99e3204fa4fd14618eec2d9e84", checked := Try.checked }
namespace Rows
def none {H : Type} : Left H := { results := [], args := [] }

/-- 'postilionlaw19.GrammarNames': WHATEVER THE INPUT: true; the input reads as it did. -/
def grammarNamesSpec : ChangeSpec := { name := "grammarNames", fn := fun _ => fun
  | [d] => { results := [.lit (.bool true)], args := [d] }
  | _ => none }
def grammarNamesRow : OpenClaim := { program := "ytmgfnghegcfhnaa", sum := "b8c10712403028e0d0e882774f96446b81b47c99e3204fa4fd14618eec2d9e84", func := "postilion/postilionlaw19.GrammarNames", spec := "grammarNames", inPlace := ["internal/bytealg.IndexByteString", "internal/bytealg.IndexString"], unfollowed := true, recurses := true, named := ["internal/bytealg.MaxLen"], apart := false }
def GrammarNamesSaid : Prop := grammarNamesRow.holds Try.pinned (OpenSpec.ofChange grammarNamesSpec)

/-- ITS FALSE NEIGHBOUR: 'it returns false'. Refute it at one input. -/
def grammarNamesWrong : ChangeSpec := { name := "grammarNames", fn := fun _ => fun
  | [d] => { results := [.lit (.bool false)], args := [d] }
  | _ => none }
def GrammarNamesWrongFalsely : Prop := grammarNamesRow.holds Try.pinned (OpenSpec.ofChange grammarNamesWrong)

/-- 'postilionlaw19.GrammarCheck': WHATEVER THE INPUT: true; the input reads as it did. -/
def grammarCheckSpec : ChangeSpec := { name := "grammarCheck", fn := fun _ => fun
  | [d] => { results := [.lit (.bool true)], args := [d] }
  | _ => none }
def grammarCheckRow : OpenClaim := { program := "ytmgfnghegcfhnaa", sum := "b8c10712403028e0d0e882774f96446b81b47c99e3204fa4fd14618eec2d9e84", func := "postilion/postilionlaw19.GrammarCheck", spec := "grammarCheck", inPlace := ["internal/bytealg.IndexByteString", "internal/bytealg.IndexString"], unfollowed := true, recurses := true, named := ["internal/bytealg.MaxLen"], loops := true, apart := false }
def GrammarCheckSaid : Prop := grammarCheckRow.holds Try.pinned (OpenSpec.ofChange grammarCheckSpec)

/-- ITS FALSE NEIGHBOUR: 'it returns false'. Refute it at one input. -/
def grammarCheckWrong : ChangeSpec := { name := "grammarCheck", fn := fun _ => fun
  | [d] => { results := [.lit (.bool false)], args := [d] }
  | _ => none }
def GrammarCheckWrongFalsely : Prop := grammarCheckRow.holds Try.pinned (OpenSpec.ofChange grammarCheckWrong)

/-- 'postilionlaw19.GrammarFinds': WHATEVER THE INPUT: true; the input reads as it did. -/
def grammarFindsSpec : ChangeSpec := { name := "grammarFinds", fn := fun _ => fun
  | [d] => { results := [.lit (.bool true)], args := [d] }
  | _ => none }
def grammarFindsRow : OpenClaim := { program := "ytmgfnghegcfhnaa", sum := "b8c10712403028e0d0e882774f96446b81b47c99e3204fa4fd14618eec2d9e84", func := "postilion/postilionlaw19.GrammarFinds", spec := "grammarFinds", inPlace := ["internal/bytealg.IndexByteString", "internal/bytealg.IndexString"], unfollowed := true, recurses := true, named := ["internal/bytealg.MaxLen"], loops := true, apart := false }
def GrammarFindsSaid : Prop := grammarFindsRow.holds Try.pinned (OpenSpec.ofChange grammarFindsSpec)

/-- ITS FALSE NEIGHBOUR: 'it returns false'. Refute it at one input. -/
def grammarFindsWrong : ChangeSpec := { name := "grammarFinds", fn := fun _ => fun
  | [d] => { results := [.lit (.bool false)], args := [d] }
  | _ => none }
def GrammarFindsWrongFalsely : Prop := grammarFindsRow.holds Try.pinned (OpenSpec.ofChange grammarFindsWrong)

/- THE SECOND FORM. 'bulk': how many values and letters a reading holds, each counted each time it is reached (what is shared counts as often as it is met; a slice's spare places count too). A statement '..UptoSaid' is the law's where the arguments, and the package variables that the reading takes, are together of bulk at most 1048576: NARROWER than '..Said'. Prove '..Said' where nothing that the law and all that it calls make is longer than what came in: it says more and counts as full. Else prove '..UptoSaid'. A law counts once. -/
mutual
def uptoBulk {H : Type} : DataW H → Nat
  | .lit (.string bytes) => bytes.length + 1
  | .lit _ => 1
  | .nil => 1
  | .ptr d => uptoBulk d + 1
  | .slice elems spare => uptoBulkAll elems + uptoBulkAll spare + 1
  | .agg parts => uptoBulkAll parts + 1
  | .iface _ d => uptoBulk d + 1
  | .map entries => uptoBulkEntries entries + 1
  | .held _ => 1
def uptoBulkAll {H : Type} : List (DataW H) → Nat
  | [] => 0
  | d :: r => uptoBulk d + uptoBulkAll r
def uptoBulkEntries {H : Type} : List (Lit × DataW H) → Nat
  | [] => 0
  | x :: r => uptoBulkEntry x + uptoBulkEntries r
def uptoBulkEntry {H : Type} : Lit × DataW H → Nat
  | (.string bytes, d) => bytes.length + uptoBulk d + 1
  | (_, d) => uptoBulk d + 1
 end
def uptoSmall : (H : Type) → List (DataW H) → Bool := fun _ ds => decide (uptoBulkAll ds ≤ 1048576)
def OpenSpec.upto (s : _root_.Go.ChangeSpec) : _root_.Go.OpenSpec := { _root_.Go.OpenSpec.ofChange s with cond := some uptoSmall }

/-- 'postilionlaw19.GrammarNames', WHERE WHAT IT READS IS OF BULK AT MOST 1048576: true; the input reads as it did. -/
def grammarNamesUptoRow : OpenClaim := { program := "ytmgfnghegcfhnaa", sum := "b8c10712403028e0d0e882774f96446b81b47c99e3204fa4fd14618eec2d9e84", func := "postilion/postilionlaw19.GrammarNames", spec := "grammarNames", inPlace := ["internal/bytealg.IndexByteString", "internal/bytealg.IndexString"], unfollowed := true, recurses := true, named := ["internal/bytealg.MaxLen"], apart := false, narrowed := true }
def GrammarNamesUptoSaid : Prop := grammarNamesUptoRow.holds Try.pinned (OpenSpec.upto grammarNamesSpec)

/-- 'postilionlaw19.GrammarCheck', WHERE WHAT IT READS IS OF BULK AT MOST 1048576: true; the input reads as it did. -/
def grammarCheckUptoRow : OpenClaim := { program := "ytmgfnghegcfhnaa", sum := "b8c10712403028e0d0e882774f96446b81b47c99e3204fa4fd14618eec2d9e84", func := "postilion/postilionlaw19.GrammarCheck", spec := "grammarCheck", inPlace := ["internal/bytealg.IndexByteString", "internal/bytealg.IndexString"], unfollowed := true, recurses := true, named := ["internal/bytealg.MaxLen"], loops := true, apart := false, narrowed := true }
def GrammarCheckUptoSaid : Prop := grammarCheckUptoRow.holds Try.pinned (OpenSpec.upto grammarCheckSpec)

/-- 'postilionlaw19.GrammarFinds', WHERE WHAT IT READS IS OF BULK AT MOST 1048576: true; the input reads as it did. -/
def grammarFindsUptoRow : OpenClaim := { program := "ytmgfnghegcfhnaa", sum := "b8c10712403028e0d0e882774f96446b81b47c99e3204fa4fd14618eec2d9e84", func := "postilion/postilionlaw19.GrammarFinds", spec := "grammarFinds", inPlace := ["internal/bytealg.IndexByteString", "internal/bytealg.IndexString"], unfollowed := true, recurses := true, named := ["internal/bytealg.MaxLen"], loops := true, apart := false, narrowed := true }
def GrammarFindsUptoSaid : Prop := grammarFindsUptoRow.holds Try.pinned (OpenSpec.upto grammarFindsSpec)

end Rows
end Go.Proofs.Ytmgfnghegcfhnaa
