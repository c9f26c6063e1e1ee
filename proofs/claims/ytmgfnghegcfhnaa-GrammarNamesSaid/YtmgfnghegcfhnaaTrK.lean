/- What the document's Take does with a TokProp. Conditions: a Builder in memory. -/
import Derived.Test.YtmgfnghegcfhnaaTrI
import Derived.Test.YtmgfnghegcfhnaaAppM
import Derived.Test.YtmgfnghegcfhnaaReg
namespace Go.Proofs.Ytmgfnghegcfhnaa
open Go.RowKit

theorem elemProp : ElemN Try.prog 26 42 2 32 := elemN_mk (z := .agg #[.string ByteArray.empty, .string ByteArray.empty]) Try.underlying26 (by kernel_rfl) rfl (by decide)
theorem two_one (a b : ByteArray) : ∀ u ∈ (#[.string a, .string b] : Array Value).toList, u.oneCell' = true := by
  intro u hu
  simp at hu
  rcases hu with rfl | rfl <;> rfl
theorem len_snoc {α : Type} (l : List α) (x : α) : (l ++ [x]).length = l.length + 1 := by simp
end Go.Proofs.Ytmgfnghegcfhnaa
