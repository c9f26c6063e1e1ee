/- Package path keeps its contracts. No condition. -/
import Derived.Test.YtjphecfkjpfkeaaDoorMg39
import Derived.Test.YtjphecfkjpfkeaaDoorMg42
import Derived.Test.YtjphecfkjpfkeaaDoorMg43
import Derived.Test.YtjphecfkjpfkeaaDoorMg44
import Derived.Test.YtjphecfkjpfkeaaDoorMg46
namespace Go.Proofs.YtjphecfkjpfkeaaDoor
open Go.RowKit

theorem path_must : PathMust where
  parts p w h := (parts_any p w h).mono fun _ _ ⟨A, cap, h1, h2, _, h3, h4⟩ => ⟨A, cap, h1, h2, h3, h4⟩
  join := join_any
  find G n v2 v3 p w _ hp hN := (find_any parts_any G n v2 v3 p w hp hN).mono fun _ _ ⟨u2, u3, h1, h2, h3⟩ => ⟨u2, u3, h1, h2.mono fun _ h => .inl h, h3⟩
  kid G n v2 v3 nm w _ _ hN := (kid_any G n v2 v3 nm w hN).mono fun _ _ ⟨u2, u3, h1, h2, h3⟩ => ⟨u2, u3, h1, h2.mono fun _ h => .inl h, h3⟩
  value G n v2 v3 nm w _ hN := pvalue_any G n v2 v3 nm w hN
  text G n v2 v3 p nm w hl hp _ hN := text_any asText_any parts_any G n v2 v3 p nm w hp hN fun _ h => Nat.le_trans (low_at300 hl h) (by decide)
  number G n v2 v3 p nm w hl hp _ hN := number_any asNumber_any parts_any G n v2 v3 p nm w hp hN fun _ h => low_at hl h
end Go.Proofs.YtjphecfkjpfkeaaDoor
