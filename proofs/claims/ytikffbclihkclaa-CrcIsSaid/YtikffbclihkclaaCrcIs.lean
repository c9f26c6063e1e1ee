/- CrcIs returns true for every number and every string. -/
import Derived.Test.YtikffbclihkclaaCrcC
namespace Go.Proofs.Ytikffbclihkclaa
open Go.RowKit

set_option maxHeartbeats 1600000 in
set_option maxRecDepth 100000 in
theorem crcIs_any (n : Int) (s : ByteArray) (w : World) (hs : s.size ≤ maxLen) :
    Calls Try.prog 3 #[.int .i64 n, .string s] w fun e w' => e = .returned (.bool true) ∧ Below w.heap.size w w' := by
  have HM := Lib.hid hs
  unfold maxLen at hs
  by_cases h : s.size ≤ 1024
  · go_enter Try.func3, Try.ntmps3
    go_wp2_with fail
    refine (sum1 s w HM.out).mono ?_
    rintro e w1 ⟨rfl, rfl⟩
    have c1 := (Below.refl w.heap.size w).alloc (Nat.le_refl _) (.cells #[.string s] 9)
    generalize w.alloc (.cells #[.string s] 9) = w1 at *
    go_wp2_with fail
    refine (refsum_any s w1 HM.out).mono ?_
    rintro e w2 ⟨rfl, rfl⟩
    go_wp2_with fail
    refine (slow_any s w1 HM.out).mono ?_
    rintro e w2 ⟨rfl, rfl⟩
    go_wp2_with fail
    refine (refsum_any s w1 HM.out).mono ?_
    rintro e w2 ⟨rfl, rfl⟩
    go_wp2_with fail
    refine (more_any n s w1 HM.out).mono ?_
    rintro e w2 ⟨rfl, rfl⟩
    go_wp2_with fail
    refine (refmore_any n s w1 HM.out).mono ?_
    rintro e w2 ⟨rfl, rfl⟩
    go_wp2_with fail
    refine (entry_any n w1).mono ?_
    rintro e w2 ⟨rfl, rfl⟩
    go_wp2_with fail
    refine (refentry_any n w1).mono ?_
    rintro e w2 ⟨rfl, rfl⟩
    go_wp2_with fail
    refine (awake02 w1).mono ?_
    rintro e w2 ⟨rfl, hb⟩
    have c2 := c1.trans (hb.mono c1.size)
    go_wp2
    go_ret
    exact ⟨rfl, c2⟩
  · go_enter Try.func3, Try.ntmps3
    go_wp2_with fail
    refine (entry_any n w).mono ?_
    rintro e w2 ⟨rfl, rfl⟩
    go_wp2_with fail
    refine (refentry_any n w).mono ?_
    rintro e w2 ⟨rfl, rfl⟩
    go_wp2_with fail
    refine (awake02 w).mono ?_
    rintro e w2 ⟨rfl, hb⟩
    go_wp2
    go_ret
    exact ⟨rfl, hb⟩
end Go.Proofs.Ytikffbclihkclaa
