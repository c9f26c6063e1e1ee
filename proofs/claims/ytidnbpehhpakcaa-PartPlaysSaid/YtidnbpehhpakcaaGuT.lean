/- What touches returns: whether bytes are in a locked sector. No condition. -/
import Derived.Test.YtidnbpehhpakcaaGuA
namespace Go.Proofs.Ytidnbpehhpakcaa
open Go.RowKit

set_option maxHeartbeats 3200000 in
set_option maxRecDepth 100000 in
theorem touches_any (p : Option Addr) (K : List Bool) (a n : Int) (w : World) (hK : K.length = 48) :
    Calls Try.prog 56 #[.agg (lockC p K), .int .i64 a, .int .i64 n] w fun e w' => e = .returned (.bool (tch K a n)) ∧ Below w.heap.size w w' := by
  have HA := Lib.hid (Arr.new w 78 (lockC p K))
  have HB := Lib.hid ((Below.refl w.heap.size w).alloc (Nat.le_refl _) (.cells (lockC p K) 78))
  have HK := Lib.hid hK
  clear hK
  by_cases h1 : a < 0
  · have hd : decide (a < 0) = true := decide_eq_true h1
    have HT : Hid (tch K a n = false) := tch_no fun j h0 => by omega
    rw [HT.out]
    clear h1
    go_enter Try.func56, Try.ntmps56
    go_wp2
    go_ret
    exact ⟨rfl, HB.out⟩
  have hd1 : decide (a < 0) = false := decide_eq_false h1
  by_cases h2 : 24576 ≤ a
  · have hd : decide (24576 ≤ a) = true := decide_eq_true h2
    have HT : Hid (tch K a n = false) := tch_no fun j h0 => by omega
    rw [HT.out]
    clear h1 h2
    go_enter Try.func56, Try.ntmps56
    go_wp2
    go_ret
    exact ⟨rfl, HB.out⟩
  have hd2 : decide (24576 ≤ a) = false := decide_eq_false h2
  by_cases h3 : n ≤ 0
  · have hd : decide (n ≤ 0) = true := decide_eq_true h3
    have HT : Hid (tch K a n = false) := tch_no fun j h0 => by omega
    rw [HT.out]
    clear h1 h2 h3
    go_enter Try.func56, Try.ntmps56
    go_wp2
    go_ret
    exact ⟨rfl, HB.out⟩
  have hd3 : decide (n ≤ 0) = false := decide_eq_false h3
  obtain ⟨x, rfl⟩ := Int.eq_ofNat_of_zero_le (show 0 ≤ a by omega)
  obtain ⟨y, rfl⟩ := Int.eq_ofNat_of_zero_le (show 0 ≤ n by omega)
  have hx : x < 24576 := by omega
  have hy : 0 < y := by omega
  clear h1 h2 h3 hd1 hd2 hd3
  obtain ⟨q0, hq0⟩ : ∃ q0 : Nat, x / 512 = q0 := ⟨_, rfl⟩
  have HQ0 : Hid ((x : Int) / 512 = (q0 : Int)) := by unfold Hid; omega
  have hyi : (0 : Int) < y := by omega
  obtain ⟨z, hz⟩ : ∃ z : Nat, x + min y (24576 - x) - 1 = z := ⟨_, rfl⟩
  have HZ : Hid (x ≤ z ∧ z < 24576 ∧ ∀ j : Nat, x ≤ j → j < 24576 → ((j : Int) - x < y ↔ j ≤ z)) := by
    refine ⟨by omega, by omega, fun j h1 h2 => ?_⟩
    omega
  obtain ⟨l, hl⟩ : ∃ l : Nat, z / 512 = l := ⟨_, rfl⟩
  have hl2 : (z : Int) / 512 = (l : Int) := by omega
  have HL := Lib.hid hl
  have HQ := Lib.hid hq0
  have hl48 : l < 48 := by omega
  have hzz : z < 24576 := by omega
  have hq1 : q0 ≤ l + 1 := by omega
  by_cases hm : y ≤ 24576 - x
  · have HZ3 : Hid ((x : Int) + y - 1 = (z : Int)) := by unfold Hid; omega
    have hmi : (y : Int) ≤ 24576 - x := by omega
    clear hm hz hl hq0
    go_enter Try.func56, Try.ntmps56
    go_wp2
    rw [HZ3.out, HQ0.out]
    generalize w.alloc (.cells (lockC p K) 78) = W at *
    go_loopw [8] (fun i wr => ∃ k : Nat, q0 ≤ k ∧ k ≤ l + 1 ∧ i = .int .i64 k ∧ (∀ j, q0 ≤ j → j < k → K.getD j false = false) ∧ W = wr) (fun i _ => l + 1 - (intOf i).toNat)
    case atStart => exact ⟨q0, Nat.le_refl _, hq1, rfl, fun _ h h' => absurd h (by omega), rfl⟩
    case round =>
      obtain ⟨k, hk0, hk, rfl, hall, rfl⟩ := hrel
      have HALL := Lib.hid hall
      clear hall
      by_cases hlt : k ≤ l
      · have hki : (k : Int) ≤ l := by omega
        have hk48 : (k : Int) < 48 := by omega
        have hcl := lock_at HA.out (j := k) (by rw [HK.out]; omega)
        cases hv : K.getD k false with
        | true =>
          rw [hv] at hcl
          have HN : Hid (tch K x y = true) := by
            obtain ⟨z1, z2, z3⟩ := HZ.out
            have e1 := HL.out
            have e2 := HQ.out
            by_cases hx5 : x ≤ 512 * k
            · exact tch_yes (j := 512 * k) (by omega) (by omega) (by omega) ((z3 _ hx5 (by omega)).2 (by omega)) (by rw [Nat.mul_div_cancel_left _ (by decide)]; exact hv)
            · exact tch_yes (j := x) (by omega) (by omega) (by omega) ((z3 _ (Nat.le_refl _) (by omega)).2 (by omega)) (by rw [show x / 512 = k by omega]; exact hv)
          clear hv
          go_wp2
          go_ret
          exact ⟨by rw [HN.out]; rfl, HB.out⟩
        | false =>
          rw [hv] at hcl
          have HN : Hid (∀ j, q0 ≤ j → j < k + 1 → K.getD j false = false) := by
            intro j h1 h2
            by_cases e : j = k
            · subst e; exact hv
            · exact HALL.out j h1 (by omega)
          clear hv
          go_wp2
          go_roundw
          case rel => exact ⟨k + 1, by omega, by omega, by go_num, HN.out, trivial⟩
          case measure => simp [intOf]; omega
      · obtain rfl : k = l + 1 := by omega
        have HN : Hid (tch K x y = false) := by
          obtain ⟨z1, z2, z3⟩ := HZ.out
          have e1 := HL.out
          have e2 := HQ.out
          refine tch_no fun j h0 h1 h2 h3 => HALL.out _ (by omega) ?_
          have := (z3 j (by omega) h1).1 h3
          omega
        have hki : ¬ ((l + 1 : Nat) : Int) ≤ l := by omega
        go_wp2
        go_ret
        exact ⟨by rw [HN.out]; rfl, HB.out⟩
  · obtain ⟨r, hr⟩ : ∃ r : Nat, (24576 : Int) - x = r := ⟨24576 - x, by omega⟩
    have HZ3 : Hid ((x : Int) + (r : Int) - 1 = (z : Int)) := by unfold Hid; omega
    have hmi : (r : Int) < y := by omega
    have hr0 : x + r ≤ 24576 := by omega
    have hr1 : 0 < r := by omega
    clear hm hz hl hq0
    go_enter Try.func56, Try.ntmps56
    go_wp2
    rw [HZ3.out, HQ0.out]
    generalize w.alloc (.cells (lockC p K) 78) = W at *
    go_loopw [8] (fun i wr => ∃ k : Nat, q0 ≤ k ∧ k ≤ l + 1 ∧ i = .int .i64 k ∧ (∀ j, q0 ≤ j → j < k → K.getD j false = false) ∧ W = wr) (fun i _ => l + 1 - (intOf i).toNat)
    case atStart => exact ⟨q0, Nat.le_refl _, hq1, rfl, fun _ h h' => absurd h (by omega), rfl⟩
    case round =>
      obtain ⟨k, hk0, hk, rfl, hall, rfl⟩ := hrel
      have HALL := Lib.hid hall
      clear hall
      by_cases hlt : k ≤ l
      · have hki : (k : Int) ≤ l := by omega
        have hk48 : (k : Int) < 48 := by omega
        have hcl := lock_at HA.out (j := k) (by rw [HK.out]; omega)
        cases hv : K.getD k false with
        | true =>
          rw [hv] at hcl
          have HN : Hid (tch K x y = true) := by
            obtain ⟨z1, z2, z3⟩ := HZ.out
            have e1 := HL.out
            have e2 := HQ.out
            by_cases hx5 : x ≤ 512 * k
            · exact tch_yes (j := 512 * k) (by omega) (by omega) (by omega) ((z3 _ hx5 (by omega)).2 (by omega)) (by rw [Nat.mul_div_cancel_left _ (by decide)]; exact hv)
            · exact tch_yes (j := x) (by omega) (by omega) (by omega) ((z3 _ (Nat.le_refl _) (by omega)).2 (by omega)) (by rw [show x / 512 = k by omega]; exact hv)
          clear hv
          go_wp2
          go_ret
          exact ⟨by rw [HN.out]; rfl, HB.out⟩
        | false =>
          rw [hv] at hcl
          have HN : Hid (∀ j, q0 ≤ j → j < k + 1 → K.getD j false = false) := by
            intro j h1 h2
            by_cases e : j = k
            · subst e; exact hv
            · exact HALL.out j h1 (by omega)
          clear hv
          go_wp2
          go_roundw
          case rel => exact ⟨k + 1, by omega, by omega, by go_num, HN.out, trivial⟩
          case measure => simp [intOf]; omega
      · obtain rfl : k = l + 1 := by omega
        have HN : Hid (tch K x y = false) := by
          obtain ⟨z1, z2, z3⟩ := HZ.out
          have e1 := HL.out
          have e2 := HQ.out
          refine tch_no fun j h0 h1 h2 h3 => HALL.out _ (by omega) ?_
          have := (z3 j (by omega) h1).1 h3
          omega
        have hki : ¬ ((l + 1 : Nat) : Int) ≤ l := by omega
        go_wp2
        go_ret
        exact ⟨by rw [HN.out]; rfl, HB.out⟩
end Go.Proofs.Ytidnbpehhpakcaa
