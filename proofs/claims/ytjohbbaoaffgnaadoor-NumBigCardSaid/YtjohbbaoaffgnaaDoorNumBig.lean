/- NumBig returns true for every slice of numbers and every string. Condition: the library's table uint64pow10 holds what its initialiser lays. -/
import Derived.Test.YtjohbbaoaffgnaaDoorNumAwake
import Derived.Deep.RegionHeld3
namespace Go.Proofs.YtjohbbaoaffgnaaDoor
open Go.RowKit

theorem big_held {w0 : World} {p : Addr} {v : Value} (n : Int) (w : World) (hp : p.block < w0.heap.size) (h1 : w.cell? p = some v) (h2 : Below w0.heap.size w0 w) :
    Calls Tryd.prog 7 #[.int .i64 n] w fun e w' => e = .returned (.string ⟨(big n).toArray⟩) ∧ w'.cell? p = some v ∧ Below w0.heap.size w0 w' :=
  (big_any n w).mono fun _ _ ⟨he, hb⟩ => ⟨he, (hb.cell (by have := h2.size; omega)).trans h1, h2.trans (hb.mono h2.size)⟩
theorem refbig_held {w0 : World} {p : Addr} {v : Value} (n : Int) (w : World) (hp : p.block < w0.heap.size) (h1 : w.cell? p = some v) (h2 : Below w0.heap.size w0 w) :
    Calls Tryd.prog 8 #[.int .i64 n] w fun e w' => e = .returned (.string ⟨(big n).toArray⟩) ∧ w'.cell? p = some v ∧ Below w0.heap.size w0 w' :=
  (refbig_any n w).mono fun _ _ ⟨he, hb⟩ => ⟨he, (hb.cell (by have := h2.size; omega)).trans h1, h2.trans (hb.mono h2.size)⟩

def fbN (s : ByteArray) : Int := if 4 ≤ s.size then frombig s.data.toList else 0
def fbB (s : ByteArray) : Bool := decide (4 ≤ s.size)
def fsL (s : ByteArray) : List Int := if s.size % 4 = 0 then nums s.data.toList (s.size / 4) else []
def fsB (s : ByteArray) : Bool := decide (s.size % 4 = 0)
theorem frombig_all (s : ByteArray) (w : World) (hm : s.size ≤ maxLen) :
    Calls Tryd.prog 9 #[.string s] w fun e w' => e = .returned (.tuple #[.int .i64 (fbN s), .bool (fbB s)]) ∧ Below w.heap.size w w' := by
  by_cases h : 4 ≤ s.size
  · have e1 : fbN s = frombig s.data.toList := if_pos h
    have e2 : fbB s = true := by simpa [fbB] using h
    rw [e1, e2]; exact frombig_yes s w h hm
  · have e1 : fbN s = 0 := if_neg h
    have e2 : fbB s = false := by simpa [fbB] using h
    rw [e1, e2]; exact (frombig_no s w (by omega)).mono fun _ _ ⟨he, hw⟩ => ⟨he, hw ▸ Below.refl _ _⟩
theorem reffrombig_all (s : ByteArray) (w : World) (hm : s.size ≤ maxLen) :
    Calls Tryd.prog 10 #[.string s] w fun e w' => e = .returned (.tuple #[.int .i64 (fbN s), .bool (fbB s)]) ∧ Below w.heap.size w w' := by
  by_cases h : 4 ≤ s.size
  · have e1 : fbN s = frombig s.data.toList := if_pos h
    have e2 : fbB s = true := by simpa [fbB] using h
    rw [e1, e2]; exact reffrombig_yes s w h hm
  · have e1 : fbN s = 0 := if_neg h
    have e2 : fbB s = false := by simpa [fbB] using h
    rw [e1, e2]; exact (reffrombig_no s w (by omega)).mono fun _ _ ⟨he, hw⟩ => ⟨he, hw ▸ Below.refl _ _⟩
/-- What FromBigs returns: a slice of the call's own that holds these numbers. -/
def FsEnds (s : ByteArray) (w : World) (e : Ending) (w' : World) : Prop :=
  ∃ A cap, e = .returned (.tuple #[.slice A (fsL s).length cap, .bool (fsB s)]) ∧ RdI w'.heap.size w' A (fsL s) ∧ Below w.heap.size w w'
theorem frombigs_all (s : ByteArray) (w : World) (hm : s.size ≤ 1099511627776) : Calls Tryd.prog 11 #[.string s] w (FsEnds s w) := by
  by_cases h : s.size % 4 = 0
  · have e1 : fsL s = nums s.data.toList (s.size / 4) := if_pos h
    have e2 : fsB s = true := by simpa [fsB] using h
    refine (frombigs_yes s (s.size / 4) w (by omega) hm).mono ?_
    rintro e w' ⟨v, rfl, ho, hb⟩
    obtain ⟨A, cap, rfl, hr⟩ := rdI_of_own ho
    exact ⟨A, cap, by rw [e1, e2], by rw [e1]; exact hr, hb⟩
  · have e1 : fsL s = [] := if_neg h
    have e2 : fsB s = false := by simpa [fsB] using h
    refine (frombigs_no s w h hm).mono ?_
    rintro e w' ⟨rfl, rfl⟩
    exact ⟨none, 0, by rw [e1, e2]; rfl, by rw [e1]; exact .inl rfl, Below.refl _ _⟩
theorem reffrombigs_all (s : ByteArray) (w : World) (hm : s.size ≤ 1099511627776) : Calls Tryd.prog 12 #[.string s] w (FsEnds s w) := by
  by_cases h : s.size % 4 = 0
  · have e1 : fsL s = nums s.data.toList (s.size / 4) := if_pos h
    have e2 : fsB s = true := by simpa [fsB] using h
    refine (reffrombigs_yes s (s.size / 4) w (by omega) hm).mono ?_
    rintro e w' ⟨v, rfl, ho, hb⟩
    obtain ⟨A, cap, rfl, hr⟩ := rdI_of_own ho
    exact ⟨A, cap, by rw [e1, e2], by rw [e1]; exact hr, hb⟩
  · have e1 : fsL s = [] := if_neg h
    have e2 : fsB s = false := by simpa [fsB] using h
    refine (reffrombigs_no s w h hm).mono ?_
    rintro e w' ⟨rfl, rfl⟩
    exact ⟨none, 0, by rw [e1, e2]; rfl, by rw [e1]; exact .inl rfl, Below.refl _ _⟩
theorem fsL_len (s : ByteArray) : (fsL s).length ≤ s.size := by
  unfold fsL
  split
  · rw [nums_length]; omega
  · exact Nat.zero_le _

set_option maxHeartbeats 1600000 in
set_option maxRecDepth 100000 in
theorem numBig_main (A : Option Addr) (cap : Nat) (l : List Int) (s : ByteArray) (w : World) (hl : l.length ≤ 60) (hs : s.size ≤ 200) (hr : RdI w.heap.size w A l) (ht : Tab w) :
    Calls Tryd.prog 3 #[.slice A l.length cap, .string s] w fun e w' => e = .returned (.bool true) ∧ Below w.heap.size w w' := by
  have HT := Lib.hid ht
  clear ht
  go_enter Tryd.func3, Tryd.ntmps3
  go_wp2
  go_loopw [5] (fun i wr => ∃ k : Nat, k ≤ l.length ∧ i = .int .i64 k ∧ Below w.heap.size w wr) (fun i _ => l.length - (intOf i).toNat)
  case atStart => exact ⟨0, Nat.zero_le _, rfl, Below.refl _ _⟩
  case round =>
    obtain ⟨k, hk, rfl, hb⟩ := hrel
    have hsz := hb.size
    by_cases hlt : k < l.length
    · obtain ⟨b, off, x, rfl, hbl, hc, HX⟩ := (hr.below hb).at_ hlt
      have hbd := hb.drew
      go_wp2
      go_region_held3 (fun w' => w'.cell? ⟨b, off + k, none⟩ = some (.int .i64 x) ∧ Below w.heap.size w w') (go_keep)
        (first | (go_at_call 7; refine (big_held (p := ⟨b, off + k, none⟩) _ _ hbl (by assumption) (by assumption)).mono ?_; rintro e w1 ⟨rfl, h1, h2⟩)
               | (go_at_call 8; refine (refbig_held (p := ⟨b, off + k, none⟩) _ _ hbl (by assumption) (by assumption)).mono ?_; rintro e w1 ⟨rfl, h1, h2⟩))
      clear hbd h1
      go_wp2
      go_roundw
      case rel => exact ⟨k + 1, by omega, by go_num, h2⟩
      case measure => simp [intOf]; omega
    · have hkl : k = l.length := by omega
      subst hkl
      have hlen := fsL_len s
      go_wp2_with fail
      refine (frombig_all s wr (by unfold maxLen; omega)).mono ?_
      rintro e w1 ⟨rfl, hb1⟩
      have c1 := hb.trans (hb1.mono hb.size)
      clear hb hb1
      go_wp2_with fail
      refine (reffrombig_all s w1 (by unfold maxLen; omega)).mono ?_
      rintro e w2 ⟨rfl, hb2⟩
      have c2 := c1.trans (hb2.mono c1.size)
      clear c1 hb2
      go_wp2_with fail
      refine (frombigs_all s w2 (by omega)).mono ?_
      rintro e w3 ⟨A3, cap3, rfl, hr3, hb3⟩
      have c3 := c2.trans (hb3.mono c2.size)
      clear c2 hb3
      go_wp2_with fail
      refine (reffrombigs_all s w3 (by omega)).mono ?_
      rintro e w4 ⟨A4, cap4, rfl, hr4, hb4⟩
      have c4 := c3.trans (hb4.mono c3.size)
      have hr34 := (hr3.below hb4).mono hb4.size
      clear c3 hb4 hr3
      have hra := (hr.below c4).mono c4.size
      go_wp2_with fail
      refine (bigs_any _ _ l w4 (by omega) hra).mono ?_
      rintro e w5 ⟨rfl, hb5⟩
      have c5 := c4.trans (hb5.mono c4.size)
      have hrb := (hra.below hb5).mono hb5.size
      have hr45 := (hr4.below hb5).mono hb5.size
      have hr35 := (hr34.below hb5).mono hb5.size
      clear c4 hb5 hra hr4 hr34
      go_wp2_with fail
      refine (refbigs_any _ _ l w5 (by omega) hrb).mono ?_
      rintro e w6 ⟨rfl, hb6⟩
      have c6 := c5.trans (hb6.mono c5.size)
      have hr46 := (hr45.below hb6).mono hb6.size
      have hr36 := (hr35.below hb6).mono hb6.size
      clear c5 hb6 hrb hr45 hr35
      go_wp2_with fail
      refine (sameints_any _ _ _ _ (fsL s) w6 (by omega) hr36 hr46).mono ?_
      rintro e w7 ⟨rfl, hb7⟩
      have c7 := c6.trans (hb7.mono c6.size)
      clear c6 hb7 hr36 hr46
      go_wp2_with fail
      refine (awake01 w7 (HT.out.below c7)).mono ?_
      rintro e w8 ⟨rfl, hb8⟩
      have c8 := c7.trans (hb8.mono c7.size)
      clear c7 hb8
      go_wp2
      go_ret
      exact ⟨rfl, c8⟩

set_option maxHeartbeats 400000 in
theorem numBig_any (A : Option Addr) (cap : Nat) (l : List Int) (s : ByteArray) (w : World) (hl : l.length ≤ maxLen) (hs : s.size ≤ maxLen) (hr : RdI w.heap.size w A l) (ht : Tab w) :
    Calls Tryd.prog 3 #[.slice A l.length cap, .string s] w fun e w' => e = .returned (.bool true) ∧ Below w.heap.size w w' := by
  unfold maxLen at hl hs
  by_cases h1 : l.length ≤ 60
  · by_cases h2 : s.size ≤ 200
    · exact numBig_main A cap l s w h1 h2 hr ht
    · have HT := Lib.hid ht
      have HR := Lib.hid hr
      clear ht hr
      go_enter Tryd.func3, Tryd.ntmps3
      go_wp2_with fail
      refine (awake01 w HT.out).mono ?_
      rintro e w8 ⟨rfl, hb8⟩
      go_wp2
      go_ret
      exact ⟨rfl, hb8⟩
  · have HT := Lib.hid ht
    have HR := Lib.hid hr
    clear ht hr
    go_enter Tryd.func3, Tryd.ntmps3
    go_wp2_with fail
    refine (awake01 w HT.out).mono ?_
    rintro e w8 ⟨rfl, hb8⟩
    go_wp2
    go_ret
    exact ⟨rfl, hb8⟩
end Go.Proofs.YtjohbbaoaffgnaaDoor
