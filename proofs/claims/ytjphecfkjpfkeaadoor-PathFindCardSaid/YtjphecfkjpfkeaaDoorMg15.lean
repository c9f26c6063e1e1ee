/- The document's answers for layer 13, on: AsNumbers, AsNumber, AsTexts, AsText; its SameTexts of the same texts. Conditions: strings of at most 2^40 bytes. -/
import Derived.Test.YtjphecfkjpfkeaaDoorMg14
import Derived.BigQuiet
namespace Go.Proofs.YtjphecfkjpfkeaaDoor
open Go.RowKit

theorem nil_of_size {v : ByteArray} (h : v.size = 0) : v = ⟨#[]⟩ := by
  apply ByteArray.ext
  apply Array.ext'
  exact List.length_eq_zero_iff.1 h
theorem ne_nil_of {v : ByteArray} (h : v.size ≠ 0) : (v.toList == ([] : List UInt8)) = false := by
  rw [ByteArray.toList_eq]
  have hl : v.data.toList.length = v.size := rfl
  cases e : v.data.toList with
  | nil => rw [e] at hl; exact absurd hl.symm h
  | cons a r => rfl
/-- AsNumber: the number, and whether it is one. -/
def asN1 (l : List UInt8) : Int := if l.length = 4 then frombig l else 0
set_option maxHeartbeats 800000 in
set_option maxRecDepth 100000 in
theorem rasNumber_any (v : ByteArray) (w : World) (hv : v.size ≤ 1099511627776) :
    Calls Tryd.prog 38 #[.string v] w fun e w' => e = .returned (.tuple #[.int .i64 (asN1 v.data.toList), .bool (decide (v.size = 4))]) ∧ Below w.heap.size w w' := by
  have hlen : v.data.toList.length = v.size := rfl
  by_cases h4 : v.size = 4
  · have ha : asN1 v.data.toList = frombig v.data.toList := if_pos h4
    have d4 : ((v.size : Int) != 4) = false := by rw [h4]; rfl
    have HF := Lib.hid (reffrombig_yes v w (by omega) (by unfold maxLen; exact Nat.le_trans hv (by decide)))
    rw [ha, decide_eq_true h4]
    clear ha h4 hlen
    go_enter Tryd.func38, Tryd.ntmps38
    go_wp2_with fail
    refine HF.out.mono ?_
    rintro e w1 ⟨rfl, hb⟩
    have HB := Lib.hid hb
    clear hb
    go_wp2
    go_ret2
    exact ⟨rfl, HB.out⟩
  · have ha : asN1 v.data.toList = 0 := if_neg h4
    have d4 : ((v.size : Int) != 4) = true := by simp; omega
    rw [ha, decide_eq_false h4]
    clear ha h4 hlen
    go_enter Tryd.func38, Tryd.ntmps38
    go_wp2
    go_ret2
    exact ⟨rfl, Below.refl _ _⟩
end Go.Proofs.YtjphecfkjpfkeaaDoor
