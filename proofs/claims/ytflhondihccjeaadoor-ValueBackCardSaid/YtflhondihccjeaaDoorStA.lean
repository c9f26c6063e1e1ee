/- What allowed, Get and the map of no bytes' positions are, and strings.Cut at one byte 0; the document's May, Get and Few. Conditions: strings of at most 2^40 bytes, places of 64 bits. -/
import Derived.Test.YtflhondihccjeaaDoorShelf
import Derived.Test.YtflhondihccjeaaDoorStPlain
import Derived.Test.YtflhondihccjeaaDoorRdK
import Derived.Laws.IdiomStrings
import Derived.Deep.QuietTactic
import Derived.BigQuiet
import Derived.IntWalk
namespace Go.Proofs.YtflhondihccjeaaDoor
open Go.RowKit

/-- internal/stringslite.Cut at one byte. -/
theorem scut0_lite (s : ByteArray) (w : World) (hl : s.size ≤ maxLen) : Calls Tryd.prog 36 #[.string s, .string ⟨#[0]⟩] w fun e w' =>
    (∃ r, e = .returned (.tuple #[.string (if z0 s.data.toList < s.size then s.extract 0 (z0 s.data.toList) else s), .string r, .bool (decide (z0 s.data.toList < s.size))])) ∧ ∃ n, w' = w.drewN n := by
  have hz := indexByte_z0 s.data.toList
  have hlen : s.data.toList.length = s.size := rfl
  have HI := Lib.hid (Tryd.stringslite_Index_one s 0)
  rw [hz, hlen] at HI
  unfold maxLen at hl
  by_cases h3 : z0 s.data.toList < s.size
  · rw [if_pos h3] at HI
    rw [if_pos h3, decide_eq_true h3]
    generalize z0 s.data.toList = z at *
    have c0 : (0 : Int) ≤ z := by omega
    have c1 : (z : Int) ≤ s.size := by omega
    have c2 : (0 : Int) ≤ (z : Int) + 1 := by omega
    have c3 : (z : Int) + 1 ≤ s.size := by omega
    have d0 : decide ((0 : Int) ≤ (z : Int)) = true := decide_eq_true (by omega)
    clear hz hlen
    go_enter Tryd.func36, Tryd.ntmps36
    go_wp2_with fail
    refine (HI.out _).mono ?_
    rintro e w1 ⟨rfl, rfl⟩
    go_wp2
    go_quiet (fail)
    go_wp2
    go_ret3
    exact ⟨⟨_, rfl⟩, _, rfl⟩
  · rw [if_neg h3] at HI
    rw [if_neg h3, decide_eq_false h3]
    clear hz hlen
    go_enter Tryd.func36, Tryd.ntmps36
    go_wp2_with fail
    refine (HI.out _).mono ?_
    rintro e w1 ⟨rfl, rfl⟩
    go_wp2
    go_ret3
    exact ⟨⟨_, rfl⟩, 0, rfl⟩
theorem scut0_any (s : ByteArray) (w : World) (hl : s.size ≤ maxLen) : Calls Tryd.prog 30 #[.string s, .string ⟨#[0]⟩] w fun e w' =>
    (∃ r, e = .returned (.tuple #[.string (if z0 s.data.toList < s.size then s.extract 0 (z0 s.data.toList) else s), .string r, .bool (decide (z0 s.data.toList < s.size))])) ∧ ∃ n, w' = w.drewN n := by
  have HI := Lib.hid (scut0_lite s w hl)
  generalize decide (z0 s.data.toList < s.size) = d at *
  generalize (if z0 s.data.toList < s.size then s.extract 0 (z0 s.data.toList) else s) = x at *
  go_enter Tryd.func30, Tryd.ntmps30
  go_wp2_with fail
  refine HI.out.mono ?_
  rintro e w1 ⟨⟨r, rfl⟩, n, rfl⟩
  go_wp2
  go_ret3
  exact ⟨⟨_, rfl⟩, n, rfl⟩
end Go.Proofs.YtflhondihccjeaaDoor
