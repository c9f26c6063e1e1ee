/- What allowed, Get and the map of no bytes' positions are, and strings.Cut at one byte 0; the document's May, Get and Few. Conditions: strings of at most 2^40 bytes, places of 64 bits. -/
import Derived.Test.YtdflflcidajenaaShelf
import Derived.Test.YtdflflcidajenaaStPlain
import Derived.Test.YtdflflcidajenaaRdK
import Derived.Laws.IdiomStrings
import Derived.Deep.QuietTactic
import Derived.BigQuiet
import Derived.IntWalk
namespace Go.Proofs.Ytdflflcidajenaa
open Go.RowKit

theorem sallowed_any (s : ByteArray) (w : World) (hl : s.size ≤ maxLen) : Calls Try.prog 50 #[.string s] w fun e w' => e = .returned (.bool (mayB s)) ∧ w = w' := by
  have hz := indexByte_z0 s.data.toList
  have hm := z0_mem s.data.toList
  have hlen : s.data.toList.length = s.size := rfl
  have HI := Lib.hid (Try.strings_IndexByte s 0)
  have h0 : (0 : Int).toNat.toUInt8 = 0 := rfl
  rw [h0, hz] at HI
  unfold maxLen at hl
  by_cases h1 : 1 ≤ s.size
  · by_cases h2 : s.size ≤ 31
    · have d1 : decide ((1 : Int) ≤ s.size) = true := decide_eq_true (by omega)
      have d2 : decide ((s.size : Int) ≤ 31) = true := decide_eq_true (by omega)
      by_cases h3 : z0 s.data.toList < s.data.toList.length
      · have hf : mayB s = false := by cases e : mayB s with
          | false => rfl
          | true => exact absurd (hm.2 h3) (mayB_iff.1 e).2.2
        rw [hf]
        rw [if_pos h3] at HI
        have d3 : decide (((z0 s.data.toList : Nat) : Int) < 0) = false := decide_eq_false (by omega)
        generalize z0 s.data.toList = z at *
        clear hz hm h3 hf hlen h1 h2
        go_enter Try.func50, Try.ntmps50
        go_wp2_with fail
        refine (HI.out _).mono ?_
        rintro e w1 ⟨rfl, rfl⟩
        go_wp2
        go_ret
        exact ⟨rfl, rfl⟩
      · have hf : mayB s = true := mayB_iff.2 ⟨h1, h2, fun h => h3 (hm.1 h)⟩
        rw [hf]
        rw [if_neg h3] at HI
        clear hz hm h3 hf hlen h1 h2
        go_enter Try.func50, Try.ntmps50
        go_wp2_with fail
        refine (HI.out _).mono ?_
        rintro e w1 ⟨rfl, rfl⟩
        go_wp2
        go_ret
        exact ⟨rfl, rfl⟩
    · have hf : mayB s = false := by cases e : mayB s with
        | false => rfl
        | true => exact absurd (mayB_iff.1 e).2.1 h2
      rw [hf]
      have d1 : decide ((1 : Int) ≤ s.size) = true := decide_eq_true (by omega)
      have d2 : decide ((s.size : Int) ≤ 31) = false := decide_eq_false (by omega)
      clear hz hm hf hlen h1 h2
      go_enter Try.func50, Try.ntmps50
      go_wp2
      go_ret
      exact ⟨rfl, rfl⟩
  · have hf : mayB s = false := by cases e : mayB s with
      | false => rfl
      | true => exact absurd (mayB_iff.1 e).1 h1
    rw [hf]
    have d1 : decide ((1 : Int) ≤ s.size) = false := decide_eq_false (by omega)
    clear hz hm hf hlen h1
    go_enter Try.func50, Try.ntmps50
    go_wp2
    go_ret
    exact ⟨rfl, rfl⟩

/-- internal/stringslite.Cut at one byte. -/
theorem scut0_lite (s : ByteArray) (w : World) (hl : s.size ≤ maxLen) : Calls Try.prog 61 #[.string s, .string ⟨#[0]⟩] w fun e w' =>
    (∃ r, e = .returned (.tuple #[.string (if z0 s.data.toList < s.size then s.extract 0 (z0 s.data.toList) else s), .string r, .bool (decide (z0 s.data.toList < s.size))])) ∧ ∃ n, w' = w.drewN n := by
  have hz := indexByte_z0 s.data.toList
  have hlen : s.data.toList.length = s.size := rfl
  have HI := Lib.hid (Try.stringslite_Index_one s 0)
  rw [hz, hlen] at HI
  unfold maxLen at hl
  by_cases h3 : z0 s.data.toList < s.size
  · rw [if_pos h3] at HI
    rw [if_pos h3, decide_eq_true h3]
    generalize z0 s.data.toList = z at *
    have c0 : (0 : Int) ≤ z := by omega
    have c1 : (z : Int) ≤ s.size := by omega
    have c2 : (0 : Int) ≤ (z : Int) + 1 := by omega
    have c3 : (z : Int) + 1 ≤ s.size := by omega
    have d0 : decide ((0 : Int) ≤ (z : Int)) = true := decide_eq_true (by omega)
    clear hz hlen
    go_enter Try.func61, Try.ntmps61
    go_wp2_with fail
    refine (HI.out _).mono ?_
    rintro e w1 ⟨rfl, rfl⟩
    go_wp2
    go_quiet (fail)
    go_wp2
    go_ret3
    exact ⟨⟨_, rfl⟩, _, rfl⟩
  · rw [if_neg h3] at HI
    rw [if_neg h3, decide_eq_false h3]
    clear hz hlen
    go_enter Try.func61, Try.ntmps61
    go_wp2_with fail
    refine (HI.out _).mono ?_
    rintro e w1 ⟨rfl, rfl⟩
    go_wp2
    go_ret3
    exact ⟨⟨_, rfl⟩, 0, rfl⟩
theorem scut0_any (s : ByteArray) (w : World) (hl : s.size ≤ maxLen) : Calls Try.prog 59 #[.string s, .string ⟨#[0]⟩] w fun e w' =>
    (∃ r, e = .returned (.tuple #[.string (if z0 s.data.toList < s.size then s.extract 0 (z0 s.data.toList) else s), .string r, .bool (decide (z0 s.data.toList < s.size))])) ∧ ∃ n, w' = w.drewN n := by
  have HI := Lib.hid (scut0_lite s w hl)
  generalize decide (z0 s.data.toList < s.size) = d at *
  generalize (if z0 s.data.toList < s.size then s.extract 0 (z0 s.data.toList) else s) = x at *
  go_enter Try.func59, Try.ntmps59
  go_wp2_with fail
  refine HI.out.mono ?_
  rintro e w1 ⟨⟨r, rfl⟩, n, rfl⟩
  go_wp2
  go_ret3
  exact ⟨⟨_, rfl⟩, n, rfl⟩
end Go.Proofs.Ytdflflcidajenaa
