/- The document's answers for layer 13, on: AsNumbers, AsNumber, AsTexts, AsText; its SameTexts of the same texts. Conditions: strings of at most 2^40 bytes. -/
import Derived.Test.YtflhondihccjeaaDoorVlA
import Derived.BigQuiet
namespace Go.Proofs.YtflhondihccjeaaDoor
open Go.RowKit

theorem nil_of_size {v : ByteArray} (h : v.size = 0) : v = ⟨#[]⟩ := by
  apply ByteArray.ext
  apply Array.ext'
  exact List.length_eq_zero_iff.1 h
theorem ne_nil_of {v : ByteArray} (h : v.size ≠ 0) : (v.toList == ([] : List UInt8)) = false := by
  rw [ByteArray.toList_eq]
  have hl : v.data.toList.length = v.size := rfl
  cases e : v.data.toList with
  | nil => rw [e] at hl; exact absurd hl.symm h
  | cons a r => rfl
set_option maxHeartbeats 800000 in
set_option maxRecDepth 100000 in
theorem rasNumbers_any (v : ByteArray) (w : World) (hv : v.size ≤ 1099511627776) :
    Calls Tryd.prog 8 #[.string v] w fun e w' => ∃ A cap, e = .returned (.tuple #[.slice A (asN v.data.toList).length cap, .bool (okN v.size)]) ∧ RdI w'.heap.size w' A (asN v.data.toList) ∧ Below w.heap.size w w' := by
  obtain ⟨R, hR⟩ : ∃ R : Value → World → Prop, R = fun x w' => ∃ A cap, x = .tuple #[.slice A (asN v.data.toList).length cap, .bool (okN v.size)] ∧ RdI w'.heap.size w' A (asN v.data.toList) ∧ Below w.heap.size w w' := ⟨_, rfl⟩
  suffices H : Calls Tryd.prog 8 #[.string v] w (fun e w' => ∃ x, e = .returned x ∧ R x w') from H.mono fun e w' ⟨x, h1, h2⟩ => by
    rw [hR] at h2
    obtain ⟨A, cap, rfl, h3⟩ := h2
    exact ⟨A, cap, h1, h3⟩
  have hlen : v.data.toList.length = v.size := rfl
  by_cases h0 : v.size = 0
  · have HE : Hid (R (.tuple #[.slice none 0 0, .bool false]) w) := by
      obtain rfl := nil_of_size h0
      rw [hR]
      exact ⟨none, 0, rfl, .inl rfl, Below.refl _ _⟩
    obtain rfl := nil_of_size h0
    clear hR h0 hlen
    go_enter Tryd.func8, Tryd.ntmps8
    go_wp2
    go_ret2
    first | exact HE.out | exact ⟨_, rfl, HE.out⟩
  · have hn := ne_nil_of h0
    by_cases h4 : v.size % 4 = 0
    · have ho : okN v.size = true := decide_eq_true ⟨h0, h4⟩
      have ha : asN v.data.toList = numsB v.data.toList (v.size / 4) := by unfold asN; rw [hlen, if_pos ho]
      have HF := Lib.hid (reffrombigs_yes v (v.size / 4) w (by omega) hv)
      rw [ho, ha, numsB_length] at hR
      have HR := Lib.hid hR
      clear ho ha h4 h0 hR
      go_enter Tryd.func8, Tryd.ntmps8
      go_wp2_with fail
      refine HF.out.mono ?_
      rintro e w1 ⟨x, rfl, ho, hb⟩
      obtain ⟨A, cap, rfl, hr⟩ := rdI_of_own ho
      rw [numsB_length]
      have HE : Hid (R (.tuple #[.slice A (v.size / 4) cap, .bool true]) w1) := by rw [HR.out]; exact ⟨A, cap, rfl, hr, hb⟩
      clear ho hr hb HF HR
      go_wp2
      go_ret2
      first | exact HE.out | exact ⟨_, rfl, HE.out⟩
    · have ho : okN v.size = false := decide_eq_false (fun h => h4 h.2)
      have ha : asN v.data.toList = [] := by unfold asN; rw [hlen, ho]; rfl
      have HF := Lib.hid (reffrombigs_no v w h4 hv)
      have HE : Hid (R (.tuple #[.slice none 0 0, .bool false]) w) := by
        rw [hR, ho, ha]
        exact ⟨none, 0, rfl, .inl rfl, Below.refl _ _⟩
      clear ho ha h4 h0 hR
      go_enter Tryd.func8, Tryd.ntmps8
      go_wp2_with fail
      refine HF.out.mono ?_
      rintro e w1 ⟨rfl, rfl⟩
      go_wp2
      go_ret2
      first | exact HE.out | exact ⟨_, rfl, HE.out⟩

/-- AsNumber: the number, and whether it is one. -/
def asN1 (l : List UInt8) : Int := if l.length = 4 then frombig l else 0
set_option maxHeartbeats 800000 in
set_option maxRecDepth 100000 in
theorem rasNumber_any (v : ByteArray) (w : World) (hv : v.size ≤ 1099511627776) :
    Calls Tryd.prog 10 #[.string v] w fun e w' => e = .returned (.tuple #[.int .i64 (asN1 v.data.toList), .bool (decide (v.size = 4))]) ∧ Below w.heap.size w w' := by
  have hlen : v.data.toList.length = v.size := rfl
  by_cases h4 : v.size = 4
  · have ha : asN1 v.data.toList = frombig v.data.toList := if_pos h4
    have d4 : ((v.size : Int) != 4) = false := by rw [h4]; rfl
    have HF := Lib.hid (reffrombig_yes v w (by omega) (by unfold maxLen; exact Nat.le_trans hv (by decide)))
    rw [ha, decide_eq_true h4]
    clear ha h4 hlen
    go_enter Tryd.func10, Tryd.ntmps10
    go_wp2_with fail
    refine HF.out.mono ?_
    rintro e w1 ⟨rfl, hb⟩
    have HB := Lib.hid hb
    clear hb
    go_wp2
    go_ret2
    exact ⟨rfl, HB.out⟩
  · have ha : asN1 v.data.toList = 0 := if_neg h4
    have d4 : ((v.size : Int) != 4) = true := by simp; omega
    rw [ha, decide_eq_false h4]
    clear ha h4 hlen
    go_enter Tryd.func10, Tryd.ntmps10
    go_wp2
    go_ret2
    exact ⟨rfl, Below.refl _ _⟩
end Go.Proofs.YtflhondihccjeaaDoor
