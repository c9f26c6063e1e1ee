/- What crc.Sum returns for every slice of parts, and that awake() of layer 2's statements returns true. Conditions: each part has at most 2^63 - 1 bytes, and there are at most 2^63 - 1 of them. -/
import Derived.Test.YtbkfkbacejhpeaaCrcB
import Derived.Below
namespace Go.Proofs.Ytbkfkbacejhpeaa
open Go.RowKit

/-- The slice at A reads as the strings L. -/
def RdS (w : World) (A : Option Addr) (L : List ByteArray) : Prop :=
  L = [] ∨ ∃ b off, A = some ⟨b, off, none⟩ ∧ ∀ k, k < L.length → w.cell? ⟨b, off + k, none⟩ = some (.string (L.getD k ByteArray.empty))
theorem RdS.at_ {w : World} {A : Option Addr} {L : List ByteArray} (h : RdS w A L) {k : Nat} (hk : k < L.length) :
    ∃ b off x, A = some ⟨b, off, none⟩ ∧ w.cell? ⟨b, off + k, none⟩ = some (.string x) ∧ Hid (L.getD k ByteArray.empty = x) := by
  rcases h with rfl | ⟨b, off, rfl, hc⟩
  · simp at hk
  · exact ⟨b, off, _, rfl, hc k hk, rfl⟩
/-- The sum of parts, one after the other. -/
def sumOf (L : List ByteArray) : Nat := L.foldl (fun n s => more n s.data.toList) 0
theorem sumOf_succ (L : List ByteArray) (k : Nat) (h : k < L.length) : sumOf (L.take (k + 1)) = more (sumOf (L.take k)) (L.getD k ByteArray.empty).data.toList := by
  unfold sumOf
  rw [List.take_succ_eq_append_getElem h, List.foldl_append]
  simp [List.getD, List.getElem?_eq_getElem h]
theorem sumOf_lt (L : List ByteArray) : sumOf L < 4294967296 := by
  unfold sumOf
  have H : ∀ (L : List ByteArray) (n : Nat), n < 4294967296 → L.foldl (fun n s => more n s.data.toList) n < 4294967296 := by
    intro L
    induction L with
    | nil => intro n h; exact h
    | cons s L ih => intro n h; exact ih _ (more_lt _ h)
  exact H L 0 (by omega)

set_option maxHeartbeats 800000 in
theorem sum_any (A : Option Addr) (cap : Nat) (L : List ByteArray) (w : World) (hl : L.length ≤ maxLen) (hr : RdS w A L) (hs : ∀ k, k < L.length → (L.getD k ByteArray.empty).size ≤ maxLen) :
    Calls Try.prog 26 #[.slice A L.length cap] w fun e w' => e = .returned (.int .i64 ((sumOf L : Nat) : Int)) ∧ w = w' := by
  unfold maxLen at hl
  have HS := Lib.hid hs
  have HR := Lib.hid hr
  clear hs hr
  go_enter Try.func26, Try.ntmps26
  go_wp2
  go_loop [3, 8] (fun x i => ∃ k : Nat, k ≤ L.length ∧ i = .int .i64 k ∧ x = .int .i64 ((sumOf (L.take k) : Nat) : Int)) (fun _ i => L.length - (intOf i).toNat)
  case atStart => exact ⟨0, Nat.zero_le _, rfl, rfl⟩
  case round =>
    obtain ⟨k, hk, rfl, rfl⟩ := hrel
    by_cases hlt : k < L.length
    · obtain ⟨b, off, x, rfl, hc, HX⟩ := HR.out.at_ hlt
      have hsz := HS.out k hlt
      rw [HX.out] at hsz
      have HT := Lib.hid (sumOf_succ L k hlt)
      have hlt2 := sumOf_lt (L.take k)
      generalize sumOf (L.take k) = r at *
      have hm := more_any (r : Int) x w hsz
      have er : ((r : Int) % 4294967296).toNat = r := by omega
      rw [er] at hm
      have HM := Lib.hid hm
      clear hm er
      go_wp2_with fail
      refine HM.out.mono ?_
      rintro e w1 ⟨rfl, rfl⟩
      go_wp2
      go_round
      case rel => exact ⟨k + 1, by omega, by go_num, by rw [HT.out, HX.out]⟩
      case measure => simp [intOf]; omega
    · obtain rfl : k = L.length := by omega
      rw [List.take_length]
      go_wp2
      go_ret
      exact ⟨rfl, rfl⟩

theorem rd1 (w : World) (s : ByteArray) : RdS (w.alloc (.cells #[.string s] 9)) (some ⟨w.heap.size, 0, none⟩) [s] := by
  refine .inr ⟨_, _, rfl, fun k hk => ?_⟩
  rw [Nat.zero_add, World.cell?_alloc_mark]
  match k, hk with
  | 0, _ => rfl
theorem rd3 (w : World) (a b c : ByteArray) : RdS (w.alloc (.cells #[.string a, .string b, .string c] 9)) (some ⟨w.heap.size, 0, none⟩) [a, b, c] := by
  refine .inr ⟨_, _, rfl, fun k hk => ?_⟩
  rw [Nat.zero_add, World.cell?_alloc_mark]
  match k, hk with
  | 0, _ => rfl
  | 1, _ => rfl
  | 2, _ => rfl
/-- Sum of one part that the call has just laid. -/
theorem sum1 (s : ByteArray) (w : World) (hs : s.size ≤ maxLen) :
    Calls Try.prog 26 #[.slice (some ⟨w.heap.size, 0, none⟩) 1 1] (w.alloc (.cells #[.string s] 9)) fun e w' => e = .returned (.int .i64 ((more 0 s.data.toList : Nat) : Int)) ∧ w.alloc (.cells #[.string s] 9) = w' :=
  sum_any (some ⟨w.heap.size, 0, none⟩) 1 [s] _ (by show 1 ≤ maxLen; unfold maxLen; omega) (rd1 w s) (fun k hk => by
    match k, hk with
    | 0, _ => exact hs)
theorem sum3 (a b c : ByteArray) (w : World) (ha : a.size ≤ maxLen) (hb : b.size ≤ maxLen) (hc : c.size ≤ maxLen) :
    Calls Try.prog 26 #[.slice (some ⟨w.heap.size, 0, none⟩) 3 3] (w.alloc (.cells #[.string a, .string b, .string c] 9)) fun e w' => e = .returned (.int .i64 ((more (more (more 0 a.data.toList) b.data.toList) c.data.toList : Nat) : Int)) ∧ w.alloc (.cells #[.string a, .string b, .string c] 9) = w' :=
  sum_any (some ⟨w.heap.size, 0, none⟩) 3 [a, b, c] _ (by show 3 ≤ maxLen; unfold maxLen; omega) (rd3 w a b c) (fun k hk => by
    match k, hk with
    | 0, _ => exact ha
    | 1, _ => exact hb
    | 2, _ => exact hc)
theorem sum0 (w : World) : Calls Try.prog 26 #[.slice none 0 0] w fun e w' => e = .returned (.int .i64 0) ∧ w = w' :=
  sum_any none 0 [] w (by show 0 ≤ maxLen; omega) (.inl rfl) (fun _ hk => by cases hk)

theorem aw_sum : more 0 (ByteArray.mk #[49, 50, 51, 52, 53, 54, 55, 56, 57]).data.toList = 3421780262 := by decide +kernel
theorem aw_entry : sts 8 ((1 : Int) % 256).toNat = 1996959894 := by decide +kernel

end Go.Proofs.Ytbkfkbacejhpeaa
