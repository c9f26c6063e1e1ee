/- ShaIs returns true for all strings. -/
import Derived.Test.YtppfdhledmbkhaaShaO
namespace Go.Proofs.Ytppfdhledmbkhaa
open Go.RowKit

theorem equal_same (s : ByteArray) (w : World) (hs : s.size ≤ 1099511627776) : Calls Try.prog 7 #[.string s, .string s] w fun e w' => e = .returned (.bool true) ∧ Below w.heap.size w w' :=
  (equal_any s s w hs).mono fun e w' ⟨he, hb⟩ => ⟨by rw [he, decide_eq_true rfl], hb⟩
theorem equal_other (s t : ByteArray) (w : World) (hs : s.size ≤ 1099511627776) (hne : s ≠ t) : Calls Try.prog 7 #[.string s, .string t] w fun e w' => e = .returned (.bool false) ∧ Below w.heap.size w w' :=
  (equal_any s t w hs).mono fun e w' ⟨he, hb⟩ => ⟨by rw [he, decide_eq_false hne], hb⟩

set_option maxHeartbeats 1600000 in
set_option maxRecDepth 100000 in
theorem shaIs_main (s t : ByteArray) (w : World) (hs : s.size ≤ 1024) (ht : t.size ≤ 1024) :
    Calls Try.prog 3 #[.string s, .string t] w fun e w' => e = .returned (.bool true) ∧ Below w.heap.size w w' := by
  have S1 := Lib.hid (fun w => shasum1 s w (by omega))
  have S2 := Lib.hid (fun w => refsum_any s w (by omega))
  have E2 := Lib.hid (fun w => equal_same s w (by omega))
  have hd1 : decide ((1024 : Int) < s.size) = false := decide_eq_false (by omega)
  have hd2 : decide ((1024 : Int) < t.size) = false := decide_eq_false (by omega)
  generalize hash s.data.toList = H at *
  by_cases hst : s = t
  · subst hst
    go_enter Try.func3, Try.ntmps3
    go_wp2_with fail
    refine (S1.out w).mono ?_
    rintro e w1 ⟨rfl, b1⟩
    go_wp2_with fail
    refine (S2.out w1).mono ?_
    rintro e w2 ⟨rfl, hb2⟩
    have b2 := b1.trans (hb2.mono b1.size)
    go_wp2_with fail
    refine (E2.out w2).mono ?_
    rintro e w3 ⟨rfl, hb3⟩
    have b3 := b2.trans (hb3.mono b2.size)
    go_wp2_with fail
    refine (E2.out w3).mono ?_
    rintro e w4 ⟨rfl, hb4⟩
    have b4 := b3.trans (hb4.mono b3.size)
    go_wp2_with fail
    refine (awake03 w4).mono ?_
    rintro e w5 ⟨rfl, hb5⟩
    have b5 := b4.trans (hb5.mono b4.size)
    go_wp2
    go_ret
    exact ⟨rfl, b5⟩
  · have E1 := Lib.hid (fun w => equal_other s t w (by omega) hst)
    have hl : (s.toList == t.toList) = false := by
      rw [beq_eq_false_iff_ne]
      intro h
      apply hst
      rw [ByteArray.toList_eq, ByteArray.toList_eq] at h
      exact ByteArray.ext (Array.ext' h)
    clear hst
    go_enter Try.func3, Try.ntmps3
    go_wp2_with fail
    refine (S1.out w).mono ?_
    rintro e w1 ⟨rfl, b1⟩
    go_wp2_with fail
    refine (S2.out w1).mono ?_
    rintro e w2 ⟨rfl, hb2⟩
    have b2 := b1.trans (hb2.mono b1.size)
    go_wp2_with fail
    refine (E1.out w2).mono ?_
    rintro e w3 ⟨rfl, hb3⟩
    have b3 := b2.trans (hb3.mono b2.size)
    go_wp2_with fail
    refine (E2.out w3).mono ?_
    rintro e w4 ⟨rfl, hb4⟩
    have b4 := b3.trans (hb4.mono b3.size)
    go_wp2_with fail
    refine (awake03 w4).mono ?_
    rintro e w5 ⟨rfl, hb5⟩
    have b5 := b4.trans (hb5.mono b4.size)
    go_wp2
    go_ret
    exact ⟨rfl, b5⟩

set_option maxHeartbeats 800000 in
theorem shaIs_any (s t : ByteArray) (w : World) (hs : s.size ≤ maxLen) (ht : t.size ≤ maxLen) :
    Calls Try.prog 3 #[.string s, .string t] w fun e w' => e = .returned (.bool true) ∧ Below w.heap.size w w' := by
  unfold maxLen at hs ht
  by_cases h1 : s.size ≤ 1024
  · by_cases h2 : t.size ≤ 1024
    · exact shaIs_main s t w h1 h2
    · have hd1 : decide ((1024 : Int) < s.size) = false := decide_eq_false (by omega)
      have hd2 : decide ((1024 : Int) < t.size) = true := decide_eq_true (by omega)
      go_enter Try.func3, Try.ntmps3
      go_wp2_with fail
      refine (awake03 w).mono ?_
      rintro e w8 ⟨rfl, hb8⟩
      go_wp2
      go_ret
      exact ⟨rfl, hb8⟩
  · have hd1 : decide ((1024 : Int) < s.size) = true := decide_eq_true (by omega)
    go_enter Try.func3, Try.ntmps3
    go_wp2_with fail
    refine (awake03 w).mono ?_
    rintro e w8 ⟨rfl, hb8⟩
    go_wp2
    go_ret
    exact ⟨rfl, hb8⟩
end Go.Proofs.Ytppfdhledmbkhaa
