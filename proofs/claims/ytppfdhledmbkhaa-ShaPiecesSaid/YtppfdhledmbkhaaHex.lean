/- What the document's own Hex returns, for every string of at most 2^40 bytes. -/
import Derived.Test.YtppfdhledmbkhaaArr
import Derived.Test.YtppfdhledmbkhaaProg
import Derived.IntWalk
import Derived.Deep.QuietTactic
import Derived.BigQuiet
import Derived.Laws.IdiomStrings
namespace Go.Proofs.Ytppfdhledmbkhaa
open Go.RowKit

theorem size_mk (l : List UInt8) : (ByteArray.mk l.toArray).size = l.length := by show l.toArray.size = _; simp
/-- The hexadecimal digits. -/
def digs : List UInt8 := [48, 49, 50, 51, 52, 53, 54, 55, 56, 57, 97, 98, 99, 100, 101, 102]
def dig (n : Nat) : UInt8 := digs.getD n 0
theorem dig_at (n : Nat) (h : n < (ByteArray.mk #[48, 49, 50, 51, 52, 53, 54, 55, 56, 57, 97, 98, 99, 100, 101, 102]).size) :
    (ByteArray.mk #[48, 49, 50, 51, 52, 53, 54, 55, 56, 57, 97, 98, 99, 100, 101, 102])[n]'h = dig n := by
  have h' : n < 16 := h
  match n, h' with
  | 0, _ => rfl | 1, _ => rfl | 2, _ => rfl | 3, _ => rfl | 4, _ => rfl | 5, _ => rfl | 6, _ => rfl | 7, _ => rfl
  | 8, _ => rfl | 9, _ => rfl | 10, _ => rfl | 11, _ => rfl | 12, _ => rfl | 13, _ => rfl | 14, _ => rfl | 15, _ => rfl | n + 16, h => exact absurd h (by omega)
theorem dig_cut (n : Nat) (h' : n < 16) :
    (ByteArray.mk #[48, 49, 50, 51, 52, 53, 54, 55, 56, 57, 97, 98, 99, 100, 101, 102]).extract n (n + 1) = ⟨#[dig n]⟩ := by
  match n, h' with
  | 0, _ => rfl | 1, _ => rfl | 2, _ => rfl | 3, _ => rfl | 4, _ => rfl | 5, _ => rfl | 6, _ => rfl | 7, _ => rfl
  | 8, _ => rfl | 9, _ => rfl | 10, _ => rfl | 11, _ => rfl | 12, _ => rfl | 13, _ => rfl | 14, _ => rfl | 15, _ => rfl | n + 16, h => exact absurd h (by omega)
def hex2 (b : UInt8) : List UInt8 := [dig (b.toNat / 16), dig (b.toNat % 16)]
def hexTake (s : ByteArray) (k : Nat) : List UInt8 := (s.data.toList.take k).flatMap hex2
theorem take_snoc (s : ByteArray) (k : Nat) (h : k < s.size) : s.data.toList.take (k + 1) = s.data.toList.take k ++ [s[k]] := by
  rw [List.take_succ_eq_append_getElem (by simpa using h)]; rfl
theorem hexTake_succ (s : ByteArray) (k : Nat) (h : k < s.size) : hexTake s (k + 1) = hexTake s k ++ [dig (s[k].toNat / 16)] ++ [dig (s[k].toNat % 16)] := by
  unfold hexTake; rw [take_snoc s k h, List.flatMap_append]; simp [hex2]
theorem hexTake_length (s : ByteArray) : ∀ k, k ≤ s.size → (hexTake s k).length = 2 * k
  | 0, _ => rfl
  | k + 1, h => by rw [hexTake_succ s k (by omega), List.length_append, List.length_append, hexTake_length s k (by omega)]; simp; omega
theorem hexTake_all (s : ByteArray) : hexTake s s.size = s.data.toList.flatMap hex2 := by unfold hexTake; rw [List.take_of_length_le (by simp)]
set_option maxHeartbeats 800000 in
set_option maxRecDepth 100000 in
theorem refhex_any (s : ByteArray) (w : World) (hl : s.size ≤ 1099511627776) :
    Calls Try.prog 15 #[.string s] w fun e w' => e = .returned (.string ⟨(s.data.toList.flatMap hex2).toArray⟩) ∧ Below w.heap.size w w' := by
  rw [← hexTake_all s]
  go_enter Try.func15, Try.ntmps15
  go_wp2
  go_loopw [3, 4] (fun o i wr => ∃ k : Nat, k ≤ s.size ∧ i = .int .i64 k ∧ o = .string ⟨(hexTake s k).toArray⟩ ∧ Below w.heap.size w wr)
    (fun _ i _ => s.size - (intOf i).toNat)
  case atStart => exact ⟨0, Nat.zero_le _, rfl, rfl, Below.refl _ _⟩
  case round =>
    obtain ⟨k, hk, rfl, rfl, hb⟩ := hrel
    have hsz := hb.size
    by_cases hlt : k < s.size
    · have hbyte := s[k].toNat_lt
      obtain ⟨x, hx⟩ : ∃ x : Nat, s[k].toNat / 16 = x := ⟨_, rfl⟩
      obtain ⟨y, hy⟩ : ∃ y : Nat, s[k].toNat % 16 = y := ⟨_, rfl⟩
      have hx1 : x < 16 := by omega
      have hy1 : y < 16 := by omega
      have HS := Lib.hid (hexTake_succ s k hlt)
      rw [hx, hy] at HS
      have hxi : ((s[k].toNat : Nat) : Int) / 16 = (x : Int) := by omega
      have hyi : ((s[k].toNat : Nat) : Int) % 16 = (y : Int) := by omega
      have HL := Lib.hid (hexTake_length s k hk)
      have c1 := dig_cut x hx1
      have c2 := dig_cut y hy1
      have a1 : ∀ W, (Op.stringOp .add ⟨(hexTake s k).toArray⟩ ⟨#[dig x]⟩).run Try.prog W = .ok (.string ⟨(hexTake s k ++ [dig x]).toArray⟩) W := fun W => by
        rw [run_string_add_sum W _ _ (by rw [size_mk, HL.out]; show _ + 1 ≤ _; omega), ByteArray.mk_append_mk]
      have a2 : ∀ W, (Op.stringOp .add ⟨(hexTake s k ++ [dig x]).toArray⟩ ⟨#[dig y]⟩).run Try.prog W = .ok (.string ⟨(hexTake s (k + 1)).toArray⟩) W := fun W => by
        rw [run_string_add_sum W _ _ (by rw [size_mk, List.length_append, HL.out]; show _ + 1 + 1 ≤ _; omega), ByteArray.mk_append_mk, HS.out]
      have hx2 : (0 : Int) ≤ x := by omega
      have hx3 : (x : Int) + 1 ≤ 16 := by omega
      have hy3 : (y : Int) + 1 ≤ 16 := by omega
      clear hx hy HL HS
      go_wp2
      go_quiet (fail)
      go_wp2
      rw [hyi]
      clear hxi hyi hbyte
      have hbq := hb.trans ((below_drewN wr nq).mono hsz)
      generalize wr.drewN nq = wq at hbq ⊢
      have hsq := hbq.size
      clear hb
      go_quiet (fail)
      have hbe := hbq.trans ((below_drewN wq nq).mono hsq)
      clear c1 c2 a1 a2
      go_wp2
      go_roundw
      case rel => exact ⟨k + 1, by omega, by go_num, rfl, hbe⟩
      case measure => simp [intOf]; omega
    · have hkl : k = s.size := by omega
      subst hkl
      go_wp2
      go_ret
      exact ⟨rfl, hb⟩
end Go.Proofs.Ytppfdhledmbkhaa
