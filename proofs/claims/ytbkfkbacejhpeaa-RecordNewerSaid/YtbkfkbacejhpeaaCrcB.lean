/- What crc.More, crc.Slow, crc.Sum and the document's own More and Sum return: the checksum; for every argument (a string has at most 2^63 - 1 bytes). -/
import Derived.Test.YtbkfkbacejhpeaaCrcA
namespace Go.Proofs.Ytbkfkbacejhpeaa
open Go.RowKit

theorem take_snocC (s : ByteArray) (k : Nat) (h : k < s.size) : s.data.toList.take (k + 1) = s.data.toList.take k ++ [s[k]] := by
  rw [List.take_succ_eq_append_getElem (by simpa using h)]; rfl
theorem takes_step (m : Nat) (s : ByteArray) (k : Nat) (h : k < s.size) : takes m (s.data.toList.take (k + 1)) = take1 (takes m (s.data.toList.take k)) s[k] := by
  rw [take_snocC s k h, takes_snoc]
theorem take_full (s : ByteArray) : s.data.toList.take s.size = s.data.toList := List.take_of_length_le (Nat.le_refl _)

set_option maxHeartbeats 800000 in
theorem more_any (n : Int) (s : ByteArray) (w : World) (hs : s.size ≤ maxLen) :
    Calls Try.prog 27 #[.int .i64 n, .string s] w fun e w' => e = .returned (.int .i64 ((more (n % 4294967296).toNat s.data.toList : Nat) : Int)) ∧ w = w' := by
  unfold maxLen at hs
  have hand := (i64_and_low n).2
  have hlt : (n % 4294967296).toNat < 4294967296 := by omega
  generalize (n % 4294967296).toNat = m0 at *
  have hx : bits .xor .i64 (m0 : Int) 4294967295 = ((inv m0 : Nat) : Int) := i64_xor_nat m0 4294967295 hlt (by omega)
  have hm := inv_lt hlt
  have HE : Hid (more m0 s.data.toList = inv (takes (inv m0) s.data.toList)) := rfl
  generalize more m0 s.data.toList = R at *
  generalize inv m0 = m at *
  go_enter Try.func27, Try.ntmps27
  go_wp2
  clear hand hx hlt
  go_loop [5, 12] (fun x i => ∃ k : Nat, k ≤ s.size ∧ i = .int .i64 k ∧ x = .int .i64 ((takes m (s.data.toList.take k) : Nat) : Int)) (fun _ i => s.size - (intOf i).toNat)
  case atStart => exact ⟨0, Nat.zero_le _, rfl, rfl⟩
  case round =>
    obtain ⟨k, hk, rfl, rfl⟩ := hrel
    have hr := takes_lt (s.data.toList.take k) hm
    by_cases hl : k < s.size
    · have HS := Lib.hid (takes_step m s k hl)
      generalize takes m (s.data.toList.take k) = r at *
      have hb := byte32 s[k]
      have hbx := i64_xor_nat r s[k].toNat hr hb
      have HT := Lib.hid (take1_entry r s[k])
      have hen := fun w => entry_any (((r ^^^ s[k].toNat : Nat)) : Int) w
      have em : (((r ^^^ s[k].toNat : Nat) : Int) % 256).toNat = (r ^^^ s[k].toNat) % 256 := by omega
      rw [em] at hen
      clear em
      have HN := Lib.hid hen
      clear hen
      have hq := i64_xor_nat (r / 256) (sts 8 ((r ^^^ s[k].toNat) % 256)) (by omega) (sts_lt 8 (by omega))
      rw [← HT.out] at hq
      have e2 : ((r / 256 : Nat) : Int) = (r : Int) / 256 := by omega
      rw [e2] at hq
      clear e2
      have HQ := Lib.hid hq
      clear hq
      go_wp2_with fail
      refine (HN.out w).mono ?_
      rintro e w1 ⟨rfl, rfl⟩
      have hq := HQ.out
      clear HQ hbx
      go_wp2
      go_round
      case rel => exact ⟨k + 1, by omega, by go_num, by rw [HS.out]⟩
      case measure => simp [intOf]; omega
    · obtain rfl : k = s.size := by omega
      have HF := Lib.hid (take_full s)
      rw [HF.out] at hr
      have hx2 : bits .xor .i64 ((takes m s.data.toList : Nat) : Int) 4294967295 = ((inv (takes m s.data.toList) : Nat) : Int) := i64_xor_nat _ 4294967295 hr (by omega)
      rw [← HE.out] at hx2
      rw [HF.out]
      generalize takes m s.data.toList = q at *
      go_wp2
      go_ret
      exact ⟨rfl, rfl⟩

set_option maxHeartbeats 800000 in
theorem refmore_any (n : Int) (s : ByteArray) (w : World) (hs : s.size ≤ maxLen) :
    Calls Try.prog 28 #[.int .i64 n, .string s] w fun e w' => e = .returned (.int .i64 ((more (n % 4294967296).toNat s.data.toList : Nat) : Int)) ∧ w = w' := by
  unfold maxLen at hs
  have hlt : (n % 4294967296).toNat < 4294967296 := by omega
  have hn : n % 4294967296 = (((n % 4294967296).toNat : Nat) : Int) := by omega
  generalize (n % 4294967296).toNat = m0 at *
  have hx : bits .xor .u32 (m0 : Int) 4294967295 = ((inv m0 : Nat) : Int) := u32_xor_nat m0 4294967295 hlt (by omega)
  have hm := inv_lt hlt
  have hR := more_lt s.data.toList hlt
  have HE : Hid (more m0 s.data.toList = inv (takes (inv m0) s.data.toList)) := rfl
  generalize more m0 s.data.toList = R at *
  generalize inv m0 = m at *
  go_enter Try.func28, Try.ntmps28
  go_wp2
  clear hn hx hlt
  go_loop [5, 6] (fun x i => ∃ k : Nat, k ≤ s.size ∧ i = .int .i64 k ∧ x = .int .u32 ((takes m (s.data.toList.take k) : Nat) : Int)) (fun _ i => s.size - (intOf i).toNat)
  case atStart => exact ⟨0, Nat.zero_le _, rfl, rfl⟩
  case round =>
    obtain ⟨k, hk, rfl, rfl⟩ := hrel
    have hr := takes_lt (s.data.toList.take k) hm
    by_cases hl : k < s.size
    · have HS := Lib.hid (takes_step m s k hl)
      generalize takes m (s.data.toList.take k) = r at *
      have hb := byte32 s[k]
      have hbx := u32_xor_nat r s[k].toNat hr hb
      have HN := Lib.hid (fun w => eight_any (r ^^^ s[k].toNat) w (xor_lt32 hr hb))
      go_wp2_with fail
      refine (HN.out w).mono ?_
      rintro e w1 ⟨rfl, rfl⟩
      clear hbx
      go_wp2
      go_round
      case rel => exact ⟨k + 1, by omega, by go_num, by rw [HS.out]; rfl⟩
      case measure => simp [intOf]; omega
    · obtain rfl : k = s.size := by omega
      have HF := Lib.hid (take_full s)
      rw [HF.out] at hr
      have hx2 : bits .xor .u32 ((takes m s.data.toList : Nat) : Int) 4294967295 = ((inv (takes m s.data.toList) : Nat) : Int) := u32_xor_nat _ 4294967295 hr (by omega)
      rw [← HE.out] at hx2
      rw [HF.out]
      generalize takes m s.data.toList = q at *
      go_wp2
      go_ret
      exact ⟨rfl, rfl⟩

set_option maxHeartbeats 400000 in
theorem refsum_any (s : ByteArray) (w : World) (hs : s.size ≤ maxLen) :
    Calls Try.prog 19 #[.string s] w fun e w' => e = .returned (.int .i64 ((more 0 s.data.toList : Nat) : Int)) ∧ w = w' := by
  have H := Lib.hid (refmore_any 0 s w hs)
  go_enter Try.func19, Try.ntmps19
  go_wp2_with fail
  refine H.out.mono ?_
  rintro e w1 ⟨rfl, rfl⟩
  go_wp2
  go_ret
  exact ⟨rfl, rfl⟩

end Go.Proofs.Ytbkfkbacejhpeaa
