/- Package value keeps its contracts. No condition. -/
import Derived.Test.YtflhondihccjeaaDoorVlE
import Derived.Test.YtflhondihccjeaaDoorVlN
import Derived.Test.YtflhondihccjeaaDoorVlT
namespace Go.Proofs.YtflhondihccjeaaDoor
open Go.RowKit

theorem vl_must : VlMust where
  numbers A cap l w hr hl := numbers_any A cap l w hr (by omega)
  texts := texts_any
  asNumbers := asNumbers_any
  asNumber := asNumber_any
  asTexts := asTexts_any
  asText := asText_any
end Go.Proofs.YtflhondihccjeaaDoor
