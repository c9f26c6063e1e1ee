/- What num.Big, num.FromBig, num.Up and the document's own Big, FromBig, Up return, for every argument; strings of at most 2^63 - 1 bytes. -/
import Derived.Test.YtjphecfkjpfkeaaDoorProg
import Derived.Test.YtjphecfkjpfkeaaDoorNumPlain
import Derived.Test.YtjphecfkjpfkeaaDoorArr
import Derived.WalkKit
import Derived.WalkSpells
import Derived.Laws.IdiomStrings
import Derived.Deep.QuietTactic
import Derived.BigQuiet
import Derived.Lib.Hide
import Derived.Deep.Draws
namespace Go.Proofs.YtjphecfkjpfkeaaDoor
open Go.RowKit

theorem ownsRow_below {w w' : World} {base : Nat} {e : TypeId} {size : Nat} {v : Value} {n : Nat} {xs : List Value} (h : w.ownsRow base e size v n xs) (hb : Below w.heap.size w w') : w'.ownsRow base e size v n xs :=
  h.kept (row := none) ⟨hb.os, hb.tape, hb.output, hb.size, fun k hk _ => hb.block k hk⟩ (by cases hv : v.ownBlock <;> simp)

theorem conv4 (w : World) (a b c d : Int) :
    (convert 65 9 (.slice (some ⟨w.heap.size, 0, none⟩) 4 4)).run Tryd.prog (w.alloc (.cells #[.int .u8 a, .int .u8 b, .int .u8 c, .int .u8 d] 5)) =
      .ok (.string ⟨#[b8 a, b8 b, b8 c, b8 d]⟩) (w.alloc (.cells #[.int .u8 a, .int .u8 b, .int .u8 c, .int .u8 d] 5)) := by
  rw [run_convert_bytes_string _ 65 9 5 _ 4 4 Tryd.underlying65 Tryd.underlying5 Tryd.underlying9]
  have hl := run_loadCells_list (P := Tryd.prog) (w.alloc (.cells #[.int .u8 a, .int .u8 b, .int .u8 c, .int .u8 d] 5)) ⟨w.heap.size, 0, none⟩ ([a, b, c, d].map (Value.int .u8)) (fun j v hj => by
    have h4 : j < 4 := by have := (List.getElem?_eq_some_iff.1 hj).1; simpa using this
    have e : (⟨w.heap.size, 0, none⟩ : Addr).add j = ⟨w.heap.size, j, none⟩ := by unfold Addr.add; split <;> simp_all
    rw [e, World.cell?_alloc_mark, ← hj]
    match j, h4 with
    | 0, _ => rfl
    | 1, _ => rfl
    | 2, _ => rfl
    | 3, _ => rfl)
  rw [run_bytesToString _ _ 4 4 [a, b, c, d] hl]
  rfl

set_option maxHeartbeats 400000 in
theorem frombig_yes (s : ByteArray) (w : World) (h : 4 ≤ s.size) (hm : s.size ≤ maxLen) :
    Calls Tryd.prog 49 #[.string s] w fun e w' => e = .returned (.tuple #[.int .i64 (frombig s.data.toList), .bool true]) ∧ Below w.heap.size w w' := by
  unfold maxLen at hm
  have i0 : 0 < s.size := by omega
  have i1 : 1 < s.size := by omega
  have i2 : 2 < s.size := by omega
  have i3 : 3 < s.size := by omega
  have j1 : (1 : Int) < s.size := by omega
  have j2 : (2 : Int) < s.size := by omega
  have j3 : (3 : Int) < s.size := by omega
  have E := join4 _ _ _ _ (byte_in s[0]) (byte_in s[1]) (byte_in s[2]) (byte_in s[3])
  rw [← frombig_at s i0 i1 i2 i3] at E
  have H := Lib.hid E
  clear E
  go_enter Tryd.func49, Tryd.ntmps49
  go_wp2
  go_quiet (fail)
  go_wp2
  go_ret2
  rw [← H.out]
  exact ⟨rfl, below_drewN _ _⟩

set_option maxHeartbeats 400000 in
theorem frombig_no (s : ByteArray) (w : World) (h : s.size < 4) :
    Calls Tryd.prog 49 #[.string s] w fun e w' => e = .returned (.tuple #[.int .i64 0, .bool false]) ∧ w = w' := by
  go_enter Tryd.func49, Tryd.ntmps49
  go_wp2
  go_ret2
  exact ⟨rfl, rfl⟩

set_option maxHeartbeats 400000 in
theorem reffrombig_yes (s : ByteArray) (w : World) (h : 4 ≤ s.size) (hm : s.size ≤ maxLen) :
    Calls Tryd.prog 50 #[.string s] w fun e w' => e = .returned (.tuple #[.int .i64 (frombig s.data.toList), .bool true]) ∧ Below w.heap.size w w' := by
  unfold maxLen at hm
  have i0 : 0 < s.size := by omega
  have i1 : 1 < s.size := by omega
  have i2 : 2 < s.size := by omega
  have i3 : 3 < s.size := by omega
  have j1 : (1 : Int) < s.size := by omega
  have j2 : (2 : Int) < s.size := by omega
  have j3 : (3 : Int) < s.size := by omega
  have E := sum4 _ _ _ _ (byte_in s[0]) (byte_in s[1]) (byte_in s[2]) (byte_in s[3])
  rw [← frombig_at s i0 i1 i2 i3] at E
  have H := Lib.hid E
  clear E
  go_enter Tryd.func50, Tryd.ntmps50
  go_wp2
  go_quiet (fail)
  go_wp2
  go_ret2
  rw [← H.out]
  exact ⟨rfl, below_drewN _ _⟩

set_option maxHeartbeats 400000 in
theorem reffrombig_no (s : ByteArray) (w : World) (h : s.size < 4) :
    Calls Tryd.prog 50 #[.string s] w fun e w' => e = .returned (.tuple #[.int .i64 0, .bool false]) ∧ w = w' := by
  go_enter Tryd.func50, Tryd.ntmps50
  go_wp2
  go_ret2
  exact ⟨rfl, rfl⟩

def upOf (n : Int) : Int := if n < 0 ∨ 9007199254740992 < n then n else (n + 3) / 4 * 4

end Go.Proofs.YtjphecfkjpfkeaaDoor
