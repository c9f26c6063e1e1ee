/- What guard.New makes, and what Locked, On, Ops and Read of a Guard return. Conditions: a slice that reads as numbers. -/
import Derived.Test.YtidnbpehhpakcaaGuA
namespace Go.Proofs.Ytidnbpehhpakcaa
open Go.RowKit

set_option maxHeartbeats 1600000 in
set_option maxRecDepth 100000 in
theorem gnew_any (p : Option Addr) (A : Option Addr) (cap : Nat) (L : List Int) (w : World) (hl : L.length ≤ maxLen) (hr : RdI w.heap.size w A L) :
    Calls Try.prog 19 #[.pointer p, .slice A L.length cap] w fun e w' => ∃ g, e = .returned (.pointer (some ⟨g, 0, none⟩)) ∧ w.heap.size ≤ g ∧ Arr w' g 80 (lockC p (lkL L)) ∧ Below w.heap.size w w' := by
  have hl2 : L.length ≤ 9223372036854775807 := by unfold maxLen at hl; omega
  have HR := Lib.hid hr
  clear hl hr
  go_enter Try.func19, Try.ntmps19
  have HA0 : Hid (Arr (w.alloc (.cells (lockC p (List.replicate 48 false)) 80)) w.heap.size 80 (lockC p (lkL (L.take 0)))) := by
    unfold Hid
    rw [List.take_zero, lkL_nil]
    exact Arr.new _ _ _
  have HB0 := Lib.hid ((Below.refl w.heap.size w).alloc (Nat.le_refl _) (.cells (lockC p (List.replicate 48 false)) 80))
  go_wp2
  change Code.wp _ _ _ _ (w.alloc (.cells (lockC p (List.replicate 48 false)) 80))
  generalize w.alloc (.cells (lockC p (List.replicate 48 false)) 80) = W at *
  go_loopw [14] (fun i wr => ∃ k : Nat, k ≤ L.length ∧ i = .int .i64 k ∧ Arr wr w.heap.size 80 (lockC p (lkL (L.take k))) ∧ Below w.heap.size w wr) (fun i _ => L.length - (intOf i).toNat)
  case atStart => exact ⟨0, Nat.zero_le _, rfl, HA0.out, HB0.out⟩
  case round =>
    clear HA0 HB0
    obtain ⟨k, hk, rfl, hA, hb⟩ := hrel
    have HA := Lib.hid hA
    have HB := Lib.hid hb
    clear hA hb
    by_cases hlt : k < L.length
    · have hki : (k : Int) < L.length := by omega
      obtain ⟨b, off, x, rfl, hbl, hc, HX⟩ := (HR.out.below HB.out).at_ hlt
      go_wp2_with fail
      refine (exists_any x _).mono ?_
      rintro e w1 ⟨rfl, rfl⟩
      by_cases hs : isS x = true
      · have hb := isS_true hs
        obtain ⟨n, rfl⟩ := Int.eq_ofNat_of_zero_le hb.1
        have hn : n < 48 := by omega
        have hni : (n : Int) < 48 := by omega
        have hcl := lock_at HA.out (j := n) (by rw [lkL_length]; exact hn)
        have hf := HA.out.frozen (1 + n)
        have HN : Hid (Arr (wr.setCell ⟨w.heap.size, 1 + n, none⟩ (.bool true)) w.heap.size 80 (lockC p (lkL (L.take (k + 1)))) ∧ Below w.heap.size w (wr.setCell ⟨w.heap.size, 1 + n, none⟩ (.bool true))) := by
          refine ⟨?_, HB.out.setCell (p := ⟨w.heap.size, 1 + n, none⟩) (Nat.le_refl _) _⟩
          have := lock_set HA.out n true
          rwa [lkL_in L hlt HX.out] at this
        generalize (lkL (L.take k)).getD n false = old at hcl
        rw [hs]
        clear hs hb
        go_wp2
        go_roundw
        case rel => exact ⟨k + 1, by omega, by go_num, HN.out.1, HN.out.2⟩
        case measure => simp [intOf]; omega
      · have hs' : isS x = false := by simpa using hs
        have HN : Hid (lkL (L.take (k + 1)) = lkL (L.take k)) := lkL_out L hlt HX.out hs'
        rw [hs']
        clear hs hs'
        go_wp2
        go_roundw
        case rel => exact ⟨k + 1, by omega, by go_num, by rw [HN.out]; exact HA.out, HB.out⟩
        case measure => simp [intOf]; omega
    · obtain rfl : k = L.length := by omega
      have HN : Hid (Arr wr w.heap.size 80 (lockC p (lkL L))) := by
        have := HA.out
        rwa [List.take_length] at this
      clear HA
      go_wp2
      go_ret
      exact ⟨w.heap.size, rfl, Nat.le_refl _, HN.out, HB.out⟩
/-- The flash of what is in a Guard. -/
theorem field_chip (p : Option Addr) (K : List Bool) (w : World) : (Instr.field 78 (.agg (lockC p K)) 0).run Try.prog w = .ok (.pointer p) w := by
  simp [Instr.field, run_underlying Try.underlying78, part, Try.isAgg45, asAgg, lockC, go_sem]

theorem gread_any (q p : Option Addr) (K : List Bool) (a n : Int) (s : ByteArray) (r : Int) (w : World) (h : GD w q p K) (hc : ∀ W, Below w.heap.size w W → Calls Try.prog 42 #[.pointer p, .int .i64 a, .int .i64 n] W fun e w' => e = .returned (.tuple #[.string s, .int .i64 r]) ∧ W = w') :
    Calls Try.prog 28 #[.pointer q, .int .i64 a, .int .i64 n] w fun e w' => e = .returned (.tuple #[.string s, .int .i64 r]) ∧ Below w.heap.size w w' := by
  have HS := Lib.hid (shield_any q p K w h)
  have HC := Lib.hid hc
  have hf := field_chip p K
  clear h hc
  go_enter Try.func28, Try.ntmps28
  go_wp2_with fail
  refine HS.out.mono ?_
  rintro e w1 ⟨rfl, hb1⟩
  have HB1 := Lib.hid hb1
  clear hb1
  go_wp2_with fail
  refine (HC.out _ HB1.out).mono ?_
  rintro e w2 ⟨rfl, rfl⟩
  go_wp2
  go_ret2
  exact ⟨rfl, HB1.out⟩
end Go.Proofs.Ytidnbpehhpakcaa
