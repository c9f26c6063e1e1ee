/- What num.Bigs returns for every slice of at most 2^40 numbers. -/
import Derived.Test.YtjphecfkjpfkeaaDoorNumR
import Derived.Test.YtjphecfkjpfkeaaDoorShelf
import Derived.BigQuiet
import Derived.Test.YtjphecfkjpfkeaaDoorMg9
import Derived.Test.YtjphecfkjpfkeaaDoorMg13
namespace Go.Proofs.YtjphecfkjpfkeaaDoor
open Go.RowKit

theorem isBuilder_below {T e : TypeId} {B b : Nat} {bs : List Value} {w w' : World} (h : Lib.IsBuilder T e B b bs w) (hb : Below w.heap.size w w') : Lib.IsBuilder T e B b bs w' := by
  have H : ∀ p, Lib.BuilderAt T e B b p bs w → Lib.BuilderAt T e B b p bs w' := fun p h => by
    have hlt := h.lt
    obtain ⟨h1, v, h2, h3, h4⟩ := h
    exact ⟨h1, v, (hb.block b hlt).trans h2, ownsRow_below h3 hb, h4⟩
  rcases h with h | h
  · exact .inl (H _ h)
  · exact .inr (H _ h)

end Go.Proofs.YtjphecfkjpfkeaaDoor

/- What the document's SameInts returns for two slices of the same numbers. Conditions: at most 2^40 numbers. -/
namespace Go.Proofs.YtjphecfkjpfkeaaDoor
open Go.RowKit

end Go.Proofs.YtjphecfkjpfkeaaDoor

/- What num.FromBigs returns for every string of at most 2^40 bytes, and what the document's SameInts returns for two slices of the same numbers. -/
namespace Go.Proofs.YtjphecfkjpfkeaaDoor
open Go.RowKit

end Go.Proofs.YtjphecfkjpfkeaaDoor

/- What package value's Numbers, AsNumbers and AsNumber return. Conditions: strings of at most 2^40 bytes; a slice that reads as at most 2^40 numbers. -/
namespace Go.Proofs.YtjphecfkjpfkeaaDoor
open Go.RowKit

set_option maxHeartbeats 800000 in
set_option maxRecDepth 100000 in
theorem asNumber_any (v : ByteArray) (w : World) (hv : v.size ≤ 1099511627776) :
    Calls Tryd.prog 37 #[.string v] w fun e w' => e = .returned (.tuple #[.int .i64 (asN1 v.data.toList), .bool (decide (v.size = 4))]) ∧ Below w.heap.size w w' := by
  have hlen : v.data.toList.length = v.size := rfl
  by_cases h4 : v.size = 4
  · have ha : asN1 v.data.toList = frombig v.data.toList := if_pos h4
    have d4 : ((v.size : Int) != 4) = false := by rw [h4]; rfl
    have HF := Lib.hid (frombig_yes v w (by omega) (by unfold maxLen; exact Nat.le_trans hv (by decide)))
    rw [ha, decide_eq_true h4]
    clear ha h4 hlen
    go_enter Tryd.func37, Tryd.ntmps37
    go_wp2_with fail
    refine HF.out.mono ?_
    rintro e w1 ⟨rfl, hb⟩
    have HB := Lib.hid hb
    clear hb
    go_wp2
    go_ret2
    exact ⟨rfl, HB.out⟩
  · have ha : asN1 v.data.toList = 0 := if_neg h4
    have d4 : ((v.size : Int) != 4) = true := by simp; omega
    rw [ha, decide_eq_false h4]
    clear ha h4 hlen
    go_enter Tryd.func37, Tryd.ntmps37
    go_wp2
    go_ret2
    exact ⟨rfl, Below.refl _ _⟩
end Go.Proofs.YtjphecfkjpfkeaaDoor
