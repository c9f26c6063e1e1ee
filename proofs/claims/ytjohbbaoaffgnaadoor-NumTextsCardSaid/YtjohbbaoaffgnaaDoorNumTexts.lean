/- NumTexts returns true for every string and every number. Conditions: the library's table uint64pow10 and its two error variables hold what their initialisers lay. -/
import Derived.Test.YtjohbbaoaffgnaaDoorNumAwake
namespace Go.Proofs.YtjohbbaoaffgnaaDoor
open Go.RowKit

def HexOk (s : ByteArray) : Prop := s.size % 2 = 0 ∧ ∀ j, j < s.size → 0 ≤ dgt s j
instance (s : ByteArray) : Decidable (HexOk s) := inferInstanceAs (Decidable (_ ∧ ∀ j, j < s.size → 0 ≤ dgt s j))
def fhL (s : ByteArray) : List UInt8 := if HexOk s then unhex s (s.size / 2) else []
def fhB (s : ByteArray) : Bool := decide (HexOk s)
theorem bad_of (s : ByteArray) (h : ¬ HexOk s) (h2 : s.size % 2 = 0) : ∃ bad, bad < s.size ∧ dgt s bad < 0 :=
  Classical.byContradiction fun hn => h ⟨h2, fun j hj => Int.not_lt.1 fun hd => hn ⟨j, hj, hd⟩⟩
theorem fromhex_all (s : ByteArray) (w : World) (hm : s.size ≤ 1099511627776) :
    Calls Tryd.prog 16 #[.string s] w fun e w' => e = .returned (.tuple #[.string ⟨(fhL s).toArray⟩, .bool (fhB s)]) ∧ Below w.heap.size w w' := by
  by_cases h : HexOk s
  · have e1 : fhL s = unhex s (s.size / 2) := if_pos h
    have e2 : fhB s = true := by simpa [fhB] using h
    rw [e1, e2]; exact fromhex_yes s (s.size / 2) w (by have := h.1; omega) hm h.2
  · have e1 : fhL s = [] := if_neg h
    have e2 : fhB s = false := by simpa [fhB] using h
    rw [e1, e2]
    by_cases h2 : s.size % 2 = 0
    · obtain ⟨bad, hb, hv⟩ := bad_of s h h2
      exact fromhex_no s (s.size / 2) bad w (by omega) hm hb hv
    · exact fromhex_odd s w h2 hm
theorem reffromhex_all (s : ByteArray) (w : World) (hm : s.size ≤ 1099511627776) :
    Calls Tryd.prog 17 #[.string s] w fun e w' => e = .returned (.tuple #[.string ⟨(fhL s).toArray⟩, .bool (fhB s)]) ∧ Below w.heap.size w w' := by
  by_cases h : HexOk s
  · have e1 : fhL s = unhex s (s.size / 2) := if_pos h
    have e2 : fhB s = true := by simpa [fhB] using h
    rw [e1, e2]; exact reffromhex_yes s (s.size / 2) w (by have := h.1; omega) hm h.2
  · have e1 : fhL s = [] := if_neg h
    have e2 : fhB s = false := by simpa [fhB] using h
    rw [e1, e2]
    by_cases h2 : s.size % 2 = 0
    · obtain ⟨bad, hb, hv⟩ := bad_of s h h2
      exact reffromhex_no s (s.size / 2) bad w (by omega) hm hb hv
    · exact reffromhex_odd s w h2 hm
def fdN (s : ByteArray) : Int := (decOf s.data.toList).getD 0
def fdB (s : ByteArray) : Bool := (decOf s.data.toList).isSome
theorem fromdec_all (s : ByteArray) (w : World) (hl : s.size ≤ 1099511627776) (ht : Tab w) (he : Errs w) :
    Calls Tryd.prog 18 #[.string s] w fun e w' => e = .returned (.tuple #[.int .i64 (fdN s), .bool (fdB s)]) ∧ Below w.heap.size w w' := by
  unfold fdN fdB
  cases h : decOf s.data.toList with
  | none => exact fromdec_none s w hl ht he h
  | some v => exact fromdec_some s v w hl ht he h
theorem reffromdec_all (s : ByteArray) (w : World) (hl : s.size ≤ 1099511627776) :
    Calls Tryd.prog 19 #[.string s] w fun e w' => e = .returned (.tuple #[.int .i64 (fdN s), .bool (fdB s)]) ∧ w = w' := by
  have h0 := reffromdec_any s w hl
  unfold fdN fdB
  cases h : decOf s.data.toList with
  | none => rw [decEnd_none h] at h0; exact h0
  | some v => rw [decEnd_some h] at h0; exact h0

set_option maxHeartbeats 1600000 in
set_option maxRecDepth 100000 in
theorem numTexts_any (s : ByteArray) (n : Int) (w : World) (hs : s.size ≤ maxLen) (h0 : -9223372036854775808 ≤ n) (h1 : n ≤ 9223372036854775807) (ht : Tab w) (he : Errs w) :
    Calls Tryd.prog 4 #[.string s, .int .i64 n] w fun e w' => e = .returned (.bool true) ∧ Below w.heap.size w w' := by
  unfold maxLen at hs
  have HT := Lib.hid ht
  have HE := Lib.hid he
  clear ht he
  by_cases h2 : s.size ≤ 200
  · go_enter Tryd.func4, Tryd.ntmps4
    go_wp2_with fail
    refine (fromhex_all s w (by omega)).mono ?_
    rintro e w1 ⟨rfl, c1⟩
    go_wp2_with fail
    refine (reffromhex_all s w1 (by omega)).mono ?_
    rintro e w2 ⟨rfl, hb2⟩
    have c2 := c1.trans (hb2.mono c1.size)
    clear c1 hb2
    go_wp2_with fail
    refine (fromdec_all s w2 (by omega) (HT.out.below c2) (HE.out.below c2)).mono ?_
    rintro e w3 ⟨rfl, hb3⟩
    have c3 := c2.trans (hb3.mono c2.size)
    clear c2 hb3
    go_wp2_with fail
    refine (reffromdec_all s w3 (by omega)).mono ?_
    rintro e w4 ⟨rfl, rfl⟩
    go_wp2_with fail
    refine (hex_any s w3 (by omega)).mono ?_
    rintro e w5 ⟨rfl, hb5⟩
    have c5 := c3.trans (hb5.mono c3.size)
    clear c3 hb5
    go_wp2_with fail
    refine (refhex_any s w5 (by omega)).mono ?_
    rintro e w6 ⟨rfl, hb6⟩
    have c6 := c5.trans (hb6.mono c5.size)
    clear c5 hb6
    go_wp2_with fail
    refine (dec_any n w6 h0 h1 (HT.out.below c6)).mono ?_
    rintro e w7 ⟨rfl, hb7⟩
    have c7 := c6.trans (hb7.mono c6.size)
    clear c6 hb7
    go_wp2_with fail
    refine (refdec_any n w7 h0 h1).mono ?_
    rintro e w8 ⟨rfl, rfl⟩
    go_wp2_with fail
    refine (up_any n w7).mono ?_
    rintro e w9 ⟨rfl, rfl⟩
    go_wp2_with fail
    refine (refup_any n w7).mono ?_
    rintro e w10 ⟨rfl, rfl⟩
    go_wp2_with fail
    refine (awake01 w7 (HT.out.below c7)).mono ?_
    rintro e w11 ⟨rfl, hb11⟩
    have c11 := c7.trans (hb11.mono c7.size)
    clear c7 hb11
    go_wp2
    go_ret
    exact ⟨rfl, c11⟩
  · go_enter Tryd.func4, Tryd.ntmps4
    go_wp2_with fail
    refine (awake01 w HT.out).mono ?_
    rintro e w8 ⟨rfl, hb8⟩
    go_wp2
    go_ret
    exact ⟨rfl, hb8⟩
end Go.Proofs.YtjohbbaoaffgnaaDoor
