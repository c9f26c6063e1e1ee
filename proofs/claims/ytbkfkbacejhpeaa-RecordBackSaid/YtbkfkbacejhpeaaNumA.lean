/- What num.Big, num.FromBig, num.Up and the document's own Big, FromBig, Up return, for every argument; strings of at most 2^63 - 1 bytes. -/
import Derived.Test.YtbkfkbacejhpeaaProg
import Derived.Test.YtbkfkbacejhpeaaNumPlain
import Derived.Test.YtbkfkbacejhpeaaArr
import Derived.WalkKit
import Derived.WalkSpells
import Derived.Laws.IdiomStrings
import Derived.Deep.QuietTactic
import Derived.BigQuiet
import Derived.Lib.Hide
import Derived.Deep.Draws
namespace Go.Proofs.Ytbkfkbacejhpeaa
open Go.RowKit

theorem ownsRow_below {w w' : World} {base : Nat} {e : TypeId} {size : Nat} {v : Value} {n : Nat} {xs : List Value} (h : w.ownsRow base e size v n xs) (hb : Below w.heap.size w w') : w'.ownsRow base e size v n xs :=
  h.kept (row := none) ⟨hb.os, hb.tape, hb.output, hb.size, fun k hk _ => hb.block k hk⟩ (by cases hv : v.ownBlock <;> simp)

theorem conv4 (w : World) (a b c d : Int) :
    (convert 36 9 (.slice (some ⟨w.heap.size, 0, none⟩) 4 4)).run Try.prog (w.alloc (.cells #[.int .u8 a, .int .u8 b, .int .u8 c, .int .u8 d] 5)) =
      .ok (.string ⟨#[b8 a, b8 b, b8 c, b8 d]⟩) (w.alloc (.cells #[.int .u8 a, .int .u8 b, .int .u8 c, .int .u8 d] 5)) := by
  rw [run_convert_bytes_string _ 36 9 5 _ 4 4 Try.underlying36 Try.underlying5 Try.underlying9]
  have hl := run_loadCells_list (P := Try.prog) (w.alloc (.cells #[.int .u8 a, .int .u8 b, .int .u8 c, .int .u8 d] 5)) ⟨w.heap.size, 0, none⟩ ([a, b, c, d].map (Value.int .u8)) (fun j v hj => by
    have h4 : j < 4 := by have := (List.getElem?_eq_some_iff.1 hj).1; simpa using this
    have e : (⟨w.heap.size, 0, none⟩ : Addr).add j = ⟨w.heap.size, j, none⟩ := by unfold Addr.add; split <;> simp_all
    rw [e, World.cell?_alloc_mark, ← hj]
    match j, h4 with
    | 0, _ => rfl
    | 1, _ => rfl
    | 2, _ => rfl
    | 3, _ => rfl)
  rw [run_bytesToString _ _ 4 4 [a, b, c, d] hl]
  rfl

set_option maxHeartbeats 400000 in
theorem big_any (n : Int) (w : World) :
    Calls Try.prog 24 #[.int .i64 n] w fun e w' => e = .returned (.string ⟨(big n).toArray⟩) ∧ Below w.heap.size w w' := by
  have hc := conv4 w (n / 16777216 % 256) (n / 65536 % 256) (n / 256 % 256) (n % 256)
  go_enter Try.func24, Try.ntmps24
  go_wp2
  go_ret
  exact ⟨rfl, (Below.refl _ _).alloc (Nat.le_refl _) _⟩

set_option maxHeartbeats 400000 in
theorem refbig_any (n : Int) (w : World) :
    Calls Try.prog 18 #[.int .i64 n] w fun e w' => e = .returned (.string ⟨(big n).toArray⟩) ∧ Below w.heap.size w w' := by
  have e1 : n % 4294967296 / 16777216 = n / 16777216 % 256 := by omega
  have e2 : n % 4294967296 / 65536 % 256 = n / 65536 % 256 := by omega
  have e3 : n % 4294967296 / 256 % 256 = n / 256 % 256 := by omega
  have hc := conv4 w (n / 16777216 % 256) (n / 65536 % 256) (n / 256 % 256) (n % 256)
  rw [← e1, ← e2, ← e3] at hc
  have E : ∃ r : List UInt8, r = big n ∧ r = [b8 (n % 4294967296 / 16777216), b8 (n % 4294967296 / 65536 % 256), b8 (n % 4294967296 / 256 % 256), b8 (n % 256)] := ⟨_, rfl, by rw [e1, e2, e3]; rfl⟩
  obtain ⟨r, E1, E2⟩ := E
  rw [← E1]
  have H := Lib.hid E2
  clear e1 e2 e3 E1 E2
  go_enter Try.func18, Try.ntmps18
  go_wp2
  go_ret
  exact ⟨by rw [H.out]; rfl, (Below.refl _ _).alloc (Nat.le_refl _) _⟩

set_option maxHeartbeats 400000 in
theorem frombig_yes (s : ByteArray) (w : World) (h : 4 ≤ s.size) (hm : s.size ≤ maxLen) :
    Calls Try.prog 30 #[.string s] w fun e w' => e = .returned (.tuple #[.int .i64 (frombig s.data.toList), .bool true]) ∧ Below w.heap.size w w' := by
  unfold maxLen at hm
  have i0 : 0 < s.size := by omega
  have i1 : 1 < s.size := by omega
  have i2 : 2 < s.size := by omega
  have i3 : 3 < s.size := by omega
  have j1 : (1 : Int) < s.size := by omega
  have j2 : (2 : Int) < s.size := by omega
  have j3 : (3 : Int) < s.size := by omega
  have E := join4 _ _ _ _ (byte_in s[0]) (byte_in s[1]) (byte_in s[2]) (byte_in s[3])
  rw [← frombig_at s i0 i1 i2 i3] at E
  have H := Lib.hid E
  clear E
  go_enter Try.func30, Try.ntmps30
  go_wp2
  go_quiet (fail)
  go_wp2
  go_ret2
  rw [← H.out]
  exact ⟨rfl, below_drewN _ _⟩

set_option maxHeartbeats 400000 in
theorem frombig_no (s : ByteArray) (w : World) (h : s.size < 4) :
    Calls Try.prog 30 #[.string s] w fun e w' => e = .returned (.tuple #[.int .i64 0, .bool false]) ∧ w = w' := by
  go_enter Try.func30, Try.ntmps30
  go_wp2
  go_ret2
  exact ⟨rfl, rfl⟩

set_option maxHeartbeats 400000 in
theorem reffrombig_yes (s : ByteArray) (w : World) (h : 4 ≤ s.size) (hm : s.size ≤ maxLen) :
    Calls Try.prog 22 #[.string s] w fun e w' => e = .returned (.tuple #[.int .i64 (frombig s.data.toList), .bool true]) ∧ Below w.heap.size w w' := by
  unfold maxLen at hm
  have i0 : 0 < s.size := by omega
  have i1 : 1 < s.size := by omega
  have i2 : 2 < s.size := by omega
  have i3 : 3 < s.size := by omega
  have j1 : (1 : Int) < s.size := by omega
  have j2 : (2 : Int) < s.size := by omega
  have j3 : (3 : Int) < s.size := by omega
  have E := sum4 _ _ _ _ (byte_in s[0]) (byte_in s[1]) (byte_in s[2]) (byte_in s[3])
  rw [← frombig_at s i0 i1 i2 i3] at E
  have H := Lib.hid E
  clear E
  go_enter Try.func22, Try.ntmps22
  go_wp2
  go_quiet (fail)
  go_wp2
  go_ret2
  rw [← H.out]
  exact ⟨rfl, below_drewN _ _⟩

set_option maxHeartbeats 400000 in
theorem reffrombig_no (s : ByteArray) (w : World) (h : s.size < 4) :
    Calls Try.prog 22 #[.string s] w fun e w' => e = .returned (.tuple #[.int .i64 0, .bool false]) ∧ w = w' := by
  go_enter Try.func22, Try.ntmps22
  go_wp2
  go_ret2
  exact ⟨rfl, rfl⟩

def upOf (n : Int) : Int := if n < 0 ∨ 9007199254740992 < n then n else (n + 3) / 4 * 4

end Go.Proofs.Ytbkfkbacejhpeaa
