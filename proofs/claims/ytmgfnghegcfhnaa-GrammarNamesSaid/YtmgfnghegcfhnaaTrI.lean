/- What the document's Take does that changes nothing: TokNop, and each error but those of a property. Conditions: a Builder in memory. -/
import Derived.Test.YtmgfnghegcfhnaaTrH
import Derived.Test.YtmgfnghegcfhnaaTkS
import Derived.Deep.DeepCutAuto
import Derived.Deep.RegionHeld3
namespace Go.Proofs.Ytmgfnghegcfhnaa
open Go.RowKit

end Go.Proofs.Ytmgfnghegcfhnaa
