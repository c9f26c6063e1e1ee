/- What crc.step, crc.Entry and the document's own step, eight, Entry return: a step and eight steps; for every argument (step, eight: 32 bits). -/
import Derived.Test.YtbkfkbacejhpeaaProg
import Derived.Test.YtbkfkbacejhpeaaCrcPlain
import Derived.WalkKit
import Derived.WalkSpells
import Derived.Lib.Hide
import Derived.IntWalk
namespace Go.Proofs.Ytbkfkbacejhpeaa
open Go.RowKit

set_option maxHeartbeats 400000 in
theorem step_any (n : Nat) (w : World) (h : n < 4294967296) :
    Calls Try.prog 36 #[.int .i64 (n : Int)] w fun e w' => e = .returned (.int .i64 ((st n : Nat) : Int)) ∧ w = w' := by
  have hand := i64_and_one n h
  have e2 : ((n / 2 : Nat) : Int) = (n : Int) / 2 := by omega
  by_cases ho : n % 2 = 1
  · have E : st n = n / 2 ^^^ 3988292384 := if_pos ho
    have hx := i64_xor_nat (n / 2) 3988292384 (by omega) (by omega)
    rw [← E, e2] at hx
    have hx' : bits .xor .i64 ((n : Int) / 2) 3988292384 = ((st n : Nat) : Int) := hx
    rw [ho] at hand
    have ha' : bits .and .i64 (n : Int) 1 = 1 := hand
    have h1 : (1 : Int) ≤ 1 := by omega
    generalize st n = r at *
    clear hx hand E e2
    go_enter Try.func36, Try.ntmps36
    go_wp2
    go_ret
    exact ⟨rfl, rfl⟩
  · have E : st n = n / 2 := if_neg ho
    rw [E, e2]
    have hz : n % 2 = 0 := by omega
    rw [hz] at hand
    have ha' : bits .and .i64 (n : Int) 1 = 0 := hand
    clear hand E e2
    go_enter Try.func36, Try.ntmps36
    go_wp2
    go_ret
    exact ⟨rfl, rfl⟩

set_option maxHeartbeats 400000 in
theorem refstep_any (n : Nat) (w : World) (h : n < 4294967296) :
    Calls Try.prog 37 #[.int .u32 (n : Int)] w fun e w' => e = .returned (.int .u32 ((st n : Nat) : Int)) ∧ w = w' := by
  have e2 : ((n / 2 : Nat) : Int) = (n : Int) / 2 := by omega
  by_cases ho : n % 2 = 1
  · have E : st n = n / 2 ^^^ 3988292384 := if_pos ho
    have hx := u32_xor_nat (n / 2) 3988292384 (by omega) (by omega)
    rw [← E, e2] at hx
    have hx' : bits .xor .u32 ((n : Int) / 2) 3988292384 = ((st n : Nat) : Int) := hx
    have ho' : (n : Int) % 2 = 1 := by omega
    generalize st n = r at *
    clear hx E e2
    go_enter Try.func37, Try.ntmps37
    go_wp2
    go_ret
    exact ⟨rfl, rfl⟩
  · have E : st n = n / 2 := if_neg ho
    rw [E, e2]
    have ho' : (n : Int) % 2 = 0 := by omega
    clear E e2
    go_enter Try.func37, Try.ntmps37
    go_wp2
    go_ret
    exact ⟨rfl, rfl⟩

set_option maxHeartbeats 400000 in
theorem entry_any (b : Int) (w : World) :
    Calls Try.prog 32 #[.int .i64 b] w fun e w' => e = .returned (.int .i64 ((sts 8 (b % 256).toNat : Nat) : Int)) ∧ w = w' := by
  have hand := (i64_and_low b).1
  have hlt : (b % 256).toNat < 4294967296 := by omega
  generalize (b % 256).toNat = m at *
  go_enter Try.func32, Try.ntmps32
  go_wp2
  clear hand
  go_loop [3, 6] (fun n i => ∃ k : Nat, k ≤ 8 ∧ i = .int .i64 k ∧ n = .int .i64 ((sts k m : Nat) : Int)) (fun _ i => 8 - (intOf i).toNat)
  case atStart => exact ⟨0, Nat.zero_le _, rfl, rfl⟩
  case round =>
    obtain ⟨k, hk, rfl, rfl⟩ := hrel
    by_cases hl : k < 8
    · go_wp2_with fail
      refine (step_any (sts k m) w (sts_lt k hlt)).mono ?_
      rintro e w1 ⟨rfl, rfl⟩
      go_wp2
      go_round
      case rel => exact ⟨k + 1, by omega, by go_num, rfl⟩
      case measure => simp [intOf]; omega
    · obtain rfl : k = 8 := by omega
      go_wp2
      go_ret
      exact ⟨rfl, rfl⟩

set_option maxHeartbeats 400000 in
theorem eight_any (m : Nat) (w : World) (hlt : m < 4294967296) :
    Calls Try.prog 33 #[.int .u32 (m : Int)] w fun e w' => e = .returned (.int .u32 ((sts 8 m : Nat) : Int)) ∧ w = w' := by
  go_enter Try.func33, Try.ntmps33
  go_wp2
  go_loop [0, 3] (fun n i => ∃ k : Nat, k ≤ 8 ∧ i = .int .i64 k ∧ n = .int .u32 ((sts k m : Nat) : Int)) (fun _ i => 8 - (intOf i).toNat)
  case atStart => exact ⟨0, Nat.zero_le _, rfl, rfl⟩
  case round =>
    obtain ⟨k, hk, rfl, rfl⟩ := hrel
    by_cases hl : k < 8
    · go_wp2_with fail
      refine (refstep_any (sts k m) w (sts_lt k hlt)).mono ?_
      rintro e w1 ⟨rfl, rfl⟩
      go_wp2
      go_round
      case rel => exact ⟨k + 1, by omega, by go_num, rfl⟩
      case measure => simp [intOf]; omega
    · obtain rfl : k = 8 := by omega
      go_wp2
      go_ret
      exact ⟨rfl, rfl⟩

end Go.Proofs.Ytbkfkbacejhpeaa
