/- What the document's Take does with a TokBegin that it takes. Conditions: a Builder in memory. -/
import Derived.Test.YtmgfnghegcfhnaaTrI
import Derived.Test.YtmgfnghegcfhnaaAppM
import Derived.Deep.RegionLaw
namespace Go.Proofs.Ytmgfnghegcfhnaa
open Go.RowKit

theorem elemNode : ElemN Try.prog 27 29 3 64 := elemN_mk (z := .agg #[.string ByteArray.empty, .slice none 0 0, .slice none 0 0]) Try.underlying27 (by kernel_rfl) rfl (by decide)
def zeroN : Array Value := #[.string ⟨#[]⟩, .slice none 0 0, .slice none 0 0]
theorem zeroN_one : ∀ u ∈ zeroN.toList, u.oneCell' = true := by
  intro u hu
  simp [zeroN] at hu
  rcases hu with rfl | rfl <;> rfl
end Go.Proofs.Ytmgfnghegcfhnaa
