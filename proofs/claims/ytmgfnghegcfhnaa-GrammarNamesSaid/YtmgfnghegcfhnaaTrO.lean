/- What the document's Take does with a TokEnd that closes a kid. Conditions: a Builder in memory. -/
import Derived.Test.YtmgfnghegcfhnaaTrL
import Derived.Test.YtmgfnghegcfhnaaTrJ
namespace Go.Proofs.Ytmgfnghegcfhnaa
open Go.RowKit

theorem cn_one (a : ByteArray) (b c : Value) (hb : b.oneCell' = true) (hc : c.oneCell' = true) : ∀ u ∈ (#[.string a, b, c] : Array Value).toList, u.oneCell' = true := by
  intro u hu
  simp at hu
  rcases hu with rfl | rfl | rfl
  · rfl
  · exact hb
  · exact hc

end Go.Proofs.Ytmgfnghegcfhnaa
