/- What the document's Take does with a TokEnd that closes the root. Conditions: a Builder in memory. -/
import Derived.Test.YtmgfnghegcfhnaaTrK
import Derived.Deep.RegionLaw
namespace Go.Proofs.Ytmgfnghegcfhnaa
open Go.RowKit

end Go.Proofs.Ytmgfnghegcfhnaa
