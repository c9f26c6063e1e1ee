/- What num.Big, num.FromBig, num.Up and the document's own Big, FromBig, Up return, for every argument; strings of at most 2^63 - 1 bytes. -/
import Derived.Test.YtmgfnghegcfhnaaProg
import Derived.Test.YtmgfnghegcfhnaaNumPlain
import Derived.Test.YtmgfnghegcfhnaaMg5
import Derived.WalkKit
import Derived.WalkSpells
import Derived.Laws.IdiomStrings
import Derived.Deep.QuietTactic
import Derived.BigQuiet
import Derived.Lib.Hide
import Derived.Deep.Draws
namespace Go.Proofs.Ytmgfnghegcfhnaa
open Go.RowKit

theorem ownsRow_below {w w' : World} {base : Nat} {e : TypeId} {size : Nat} {v : Value} {n : Nat} {xs : List Value} (h : w.ownsRow base e size v n xs) (hb : Below w.heap.size w w') : w'.ownsRow base e size v n xs :=
  h.kept (row := none) ⟨hb.os, hb.tape, hb.output, hb.size, fun k hk _ => hb.block k hk⟩ (by cases hv : v.ownBlock <;> simp)

def upOf (n : Int) : Int := if n < 0 ∨ 9007199254740992 < n then n else (n + 3) / 4 * 4

end Go.Proofs.Ytmgfnghegcfhnaa
