/- Package token, as it landed, does what it must: the contracts of Put, Read and Plain. No condition beyond those that the contracts name. -/
import Derived.Test.YtdflflcidajenaaTkT
import Derived.Test.YtdflflcidajenaaTkU
import Derived.Test.YtdflflcidajenaaTkZ
namespace Go.Proofs.Ytdflflcidajenaa

theorem token_must : TokMust where
  put := fun A cap l w hr hc hm hz _ => put_any A cap l w hr (Nat.le_trans hc hm) hz
  read := fun s t w hs ht => read_any s t w hs ht
  plain := fun A cap l w hr _ _ hl _ => plain_any A cap l w hr hl
end Go.Proofs.Ytdflflcidajenaa
