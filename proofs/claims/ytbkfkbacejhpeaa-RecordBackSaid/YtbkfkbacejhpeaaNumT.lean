/- What the document's SameInts returns for two slices of the same numbers. Conditions: at most 2^40 numbers. -/
import Derived.Test.YtbkfkbacejhpeaaNumR
import Derived.BigQuiet
namespace Go.Proofs.Ytbkfkbacejhpeaa
open Go.RowKit

end Go.Proofs.Ytbkfkbacejhpeaa
