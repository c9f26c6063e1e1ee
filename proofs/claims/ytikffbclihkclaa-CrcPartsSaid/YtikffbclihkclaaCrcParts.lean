/- CrcParts returns true for all strings. -/
import Derived.Test.YtikffbclihkclaaCrcC
namespace Go.Proofs.Ytikffbclihkclaa
open Go.RowKit

theorem more_app (n : Nat) (a b : ByteArray) : more n (a ++ b).data.toList = more (more n a.data.toList) b.data.toList := by
  have e : (a ++ b).data.toList = a.data.toList ++ b.data.toList := by simp
  rw [e, more_append]

set_option maxHeartbeats 1600000 in
set_option maxRecDepth 100000 in
theorem crcParts_main (a b c : ByteArray) (w : World) (ha : a.size ≤ 1024) (hb : b.size ≤ 1024) (hc : c.size ≤ 1024) :
    Calls Try.prog 4 #[.string a, .string b, .string c] w fun e w' => e = .returned (.bool true) ∧ Below w.heap.size w w' := by
  have ma : a.size ≤ maxLen := by unfold maxLen; omega
  have mb : b.size ≤ maxLen := by unfold maxLen; omega
  have mc : c.size ≤ maxLen := by unfold maxLen; omega
  have sz : (a ++ b).size = a.size + b.size := by simp
  have sz2 : (a ++ b ++ c).size = a.size + b.size + c.size := by simp
  have sz3 : (b ++ c).size = b.size + c.size := by simp
  have mall : (a ++ b ++ c).size ≤ maxLen := by unfold maxLen; omega
  have mbc : (b ++ c).size ≤ maxLen := by unfold maxLen; omega
  have E1 := more_app 0 (a ++ b) c
  rw [more_app 0 a b] at E1
  have E2 := more_app (more 0 a.data.toList) b c
  have ltA := more_lt (n := 0) a.data.toList (by omega)
  have S3 := fun w => sum3 a b c w ma mb mc
  have SL := fun w => slow_any (a ++ b ++ c) w mall
  have SA := fun w => sum1 (a ++ b ++ c) w mall
  have S1 := fun w => sum1 a w ma
  have M := fun w => more_any ((more 0 a.data.toList : Nat) : Int) (b ++ c) w mbc
  have er : (((more 0 a.data.toList : Nat) : Int) % 4294967296).toNat = more 0 a.data.toList := by omega
  rw [er, E2] at M
  rw [E1] at SL SA
  generalize more (more (more 0 a.data.toList) b.data.toList) c.data.toList = R at *
  generalize more 0 a.data.toList = r at *
  clear E1 E2 ltA er sz sz2 sz3 mall mbc ma mb mc
  have HS3 := Lib.hid S3
  have HSL := Lib.hid SL
  have HSA := Lib.hid SA
  have HS1 := Lib.hid S1
  have HM := Lib.hid M
  clear S3 SL SA S1 M
  go_enter Try.func4, Try.ntmps4
  go_wp2_with fail
  refine (HS3.out w).mono ?_
  rintro e w1 ⟨rfl, rfl⟩
  have c1 := (Below.refl w.heap.size w).alloc (Nat.le_refl _) (.cells #[.string a, .string b, .string c] 9)
  generalize w.alloc (.cells #[.string a, .string b, .string c] 9) = w1 at *
  go_wp2_with fail
  refine (HSL.out w1).mono ?_
  rintro e w2 ⟨rfl, rfl⟩
  go_wp2_with fail
  refine (HSA.out w1).mono ?_
  rintro e w2 ⟨rfl, rfl⟩
  have c2 := c1.alloc c1.size (.cells #[.string (a ++ b ++ c)] 9)
  generalize w1.alloc (.cells #[.string (a ++ b ++ c)] 9) = w2 at *
  clear c1
  go_wp2_with fail
  refine (HSL.out w2).mono ?_
  rintro e w3 ⟨rfl, rfl⟩
  go_wp2_with fail
  refine (HS1.out w2).mono ?_
  rintro e w3 ⟨rfl, rfl⟩
  have c3 := c2.alloc c2.size (.cells #[.string a] 9)
  generalize w2.alloc (.cells #[.string a] 9) = w3 at *
  clear c2
  go_wp2_with fail
  refine (HM.out w3).mono ?_
  rintro e w4 ⟨rfl, rfl⟩
  go_wp2_with fail
  refine (HSL.out w3).mono ?_
  rintro e w4 ⟨rfl, rfl⟩
  go_wp2_with fail
  refine (awake02 w3).mono ?_
  rintro e w5 ⟨rfl, hb5⟩
  have c5 := c3.trans (hb5.mono c3.size)
  go_wp2
  go_ret
  exact ⟨rfl, c5⟩

set_option maxHeartbeats 800000 in
theorem crcParts_any (a b c : ByteArray) (w : World) (ha : a.size ≤ maxLen) (hb : b.size ≤ maxLen) (hc : c.size ≤ maxLen) :
    Calls Try.prog 4 #[.string a, .string b, .string c] w fun e w' => e = .returned (.bool true) ∧ Below w.heap.size w w' := by
  unfold maxLen at ha hb hc
  by_cases h1 : a.size ≤ 1024
  · by_cases h2 : b.size ≤ 1024
    · by_cases h3 : c.size ≤ 1024
      · exact crcParts_main a b c w h1 h2 h3
      · go_enter Try.func4, Try.ntmps4
        go_wp2_with fail
        refine (awake02 w).mono ?_
        rintro e w8 ⟨rfl, hb8⟩
        go_wp2
        go_ret
        exact ⟨rfl, hb8⟩
    · go_enter Try.func4, Try.ntmps4
      go_wp2_with fail
      refine (awake02 w).mono ?_
      rintro e w8 ⟨rfl, hb8⟩
      go_wp2
      go_ret
      exact ⟨rfl, hb8⟩
  · go_enter Try.func4, Try.ntmps4
    go_wp2_with fail
    refine (awake02 w).mono ?_
    rintro e w8 ⟨rfl, hb8⟩
    go_wp2
    go_ret
    exact ⟨rfl, hb8⟩
end Go.Proofs.Ytikffbclihkclaa
