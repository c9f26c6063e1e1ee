/- What package value's Numbers, AsNumbers and AsNumber return. Conditions: strings of at most 2^40 bytes; a slice that reads as at most 2^40 numbers. -/
import Derived.Test.YtflhondihccjeaaDoorVlB
import Derived.Test.YtflhondihccjeaaDoorNumC
namespace Go.Proofs.YtflhondihccjeaaDoor
open Go.RowKit

set_option maxRecDepth 100000 in
theorem numbers_any (A : Option Addr) (cap : Nat) (l : List Int) (w : World) (hr : RdI w.heap.size w A l) (hl : l.length ≤ 1099511627776) :
    Calls Tryd.prog 17 #[.slice A l.length cap] w fun e w' => e = .returned (.string ⟨(bigs l l.length).toArray⟩) ∧ Below w.heap.size w w' := by
  have HB := Lib.hid (bigs_any A cap l w hl hr)
  generalize (⟨(bigs l l.length).toArray⟩ : ByteArray) = R at *
  go_enter Tryd.func17, Tryd.ntmps17
  go_wp2_with fail
  refine HB.out.mono ?_
  rintro e w1 ⟨rfl, hb⟩
  have HW := Lib.hid hb
  clear hb
  go_wp2
  go_ret
  exact ⟨rfl, HW.out⟩

set_option maxHeartbeats 800000 in
set_option maxRecDepth 100000 in
theorem asNumbers_any (v : ByteArray) (w : World) (hv : v.size ≤ 1099511627776) :
    Calls Tryd.prog 7 #[.string v] w fun e w' => ∃ A cap, e = .returned (.tuple #[.slice A (asN v.data.toList).length cap, .bool (okN v.size)]) ∧ RdI w'.heap.size w' A (asN v.data.toList) ∧ Below w.heap.size w w' := by
  obtain ⟨R, hR⟩ : ∃ R : Value → World → Prop, R = fun x w' => ∃ A cap, x = .tuple #[.slice A (asN v.data.toList).length cap, .bool (okN v.size)] ∧ RdI w'.heap.size w' A (asN v.data.toList) ∧ Below w.heap.size w w' := ⟨_, rfl⟩
  suffices H : Calls Tryd.prog 7 #[.string v] w (fun e w' => ∃ x, e = .returned x ∧ R x w') from H.mono fun e w' ⟨x, h1, h2⟩ => by
    rw [hR] at h2
    obtain ⟨A, cap, rfl, h3⟩ := h2
    exact ⟨A, cap, h1, h3⟩
  have hlen : v.data.toList.length = v.size := rfl
  by_cases h0 : v.size = 0
  · have HE : Hid (R (.tuple #[.slice none 0 0, .bool false]) w) := by
      obtain rfl := nil_of_size h0
      rw [hR]
      exact ⟨none, 0, rfl, .inl rfl, Below.refl _ _⟩
    obtain rfl := nil_of_size h0
    clear hR h0 hlen
    go_enter Tryd.func7, Tryd.ntmps7
    go_wp2
    go_ret2
    first | exact HE.out | exact ⟨_, rfl, HE.out⟩
  · have hn := ne_nil_of h0
    by_cases h4 : v.size % 4 = 0
    · have ho : okN v.size = true := decide_eq_true ⟨h0, h4⟩
      have ha : asN v.data.toList = numsB v.data.toList (v.size / 4) := by unfold asN; rw [hlen, if_pos ho]
      have HF := Lib.hid (frombigs_yes v (v.size / 4) w (by omega) hv)
      rw [ho, ha, numsB_length] at hR
      have HR := Lib.hid hR
      clear ho ha h4 h0 hR
      go_enter Tryd.func7, Tryd.ntmps7
      go_wp2_with fail
      refine HF.out.mono ?_
      rintro e w1 ⟨x, rfl, ho, hb⟩
      obtain ⟨A, cap, rfl, hr⟩ := rdI_of_own ho
      rw [numsB_length]
      have HE : Hid (R (.tuple #[.slice A (v.size / 4) cap, .bool true]) w1) := by rw [HR.out]; exact ⟨A, cap, rfl, hr, hb⟩
      clear ho hr hb HF HR
      go_wp2
      go_ret2
      first | exact HE.out | exact ⟨_, rfl, HE.out⟩
    · have ho : okN v.size = false := decide_eq_false (fun h => h4 h.2)
      have ha : asN v.data.toList = [] := by unfold asN; rw [hlen, ho]; rfl
      have HF := Lib.hid (frombigs_no v w h4 hv)
      have HE : Hid (R (.tuple #[.slice none 0 0, .bool false]) w) := by
        rw [hR, ho, ha]
        exact ⟨none, 0, rfl, .inl rfl, Below.refl _ _⟩
      clear ho ha h4 h0 hR
      go_enter Tryd.func7, Tryd.ntmps7
      go_wp2_with fail
      refine HF.out.mono ?_
      rintro e w1 ⟨rfl, rfl⟩
      go_wp2
      go_ret2
      first | exact HE.out | exact ⟨_, rfl, HE.out⟩

set_option maxHeartbeats 800000 in
set_option maxRecDepth 100000 in
theorem asNumber_any (v : ByteArray) (w : World) (hv : v.size ≤ 1099511627776) :
    Calls Tryd.prog 9 #[.string v] w fun e w' => e = .returned (.tuple #[.int .i64 (asN1 v.data.toList), .bool (decide (v.size = 4))]) ∧ Below w.heap.size w w' := by
  have hlen : v.data.toList.length = v.size := rfl
  by_cases h4 : v.size = 4
  · have ha : asN1 v.data.toList = frombig v.data.toList := if_pos h4
    have d4 : ((v.size : Int) != 4) = false := by rw [h4]; rfl
    have HF := Lib.hid (frombig_yes v w (by omega) (by unfold maxLen; exact Nat.le_trans hv (by decide)))
    rw [ha, decide_eq_true h4]
    clear ha h4 hlen
    go_enter Tryd.func9, Tryd.ntmps9
    go_wp2_with fail
    refine HF.out.mono ?_
    rintro e w1 ⟨rfl, hb⟩
    have HB := Lib.hid hb
    clear hb
    go_wp2
    go_ret2
    exact ⟨rfl, HB.out⟩
  · have ha : asN1 v.data.toList = 0 := if_neg h4
    have d4 : ((v.size : Int) != 4) = true := by simp; omega
    rw [ha, decide_eq_false h4]
    clear ha h4 hlen
    go_enter Tryd.func9, Tryd.ntmps9
    go_wp2
    go_ret2
    exact ⟨rfl, Below.refl _ _⟩
end Go.Proofs.YtflhondihccjeaaDoor
