/- What the document's Few of strings returns. Conditions: a slice that reads as strings. -/
import Derived.Test.YtjphecfkjpfkeaaDoorMg9
import Derived.Test.YtjphecfkjpfkeaaDoorProg
import Derived.WalkKit
import Derived.IntWalk
namespace Go.Proofs.YtjphecfkjpfkeaaDoor
open Go.RowKit

/-- Are there few strings, of few bytes? -/
def few9 (l : List ByteArray) : Bool := decide (l.length ≤ 40 ∧ ∀ k, k < l.length → (l.getD k ByteArray.empty).size ≤ 100)
theorem few9_len {l : List ByteArray} (h : few9 l = true) : l.length ≤ 40 := (of_decide_eq_true h).1
set_option maxHeartbeats 800000 in
set_option maxRecDepth 100000 in
theorem rfew9_any (A : Option Addr) (cap : Nat) (l : List ByteArray) (w : World) (hr : RdT w A l) (hl : l.length ≤ maxLen) :
    Calls Tryd.prog 6 #[.slice A l.length cap] w fun e w' => e = .returned (.bool (few9 l)) ∧ w = w' := by
  unfold maxLen at hl
  have HR := Lib.hid hr
  have HF1 : Hid (∀ k, k < l.length → 100 < (l.getD k ByteArray.empty).size → few9 l = false) := fun k hk h => decide_eq_false (fun hh => by have := hh.2 k hk; omega)
  have HF2 : Hid (40 < l.length → few9 l = false) := fun h => decide_eq_false (fun hh => by omega)
  have HF3 : Hid (l.length ≤ 40 → (∀ k, k < l.length → (l.getD k ByteArray.empty).size ≤ 100) → few9 l = true) := fun h1 h2 => decide_eq_true ⟨h1, h2⟩
  generalize few9 l = R at *
  clear hr
  go_enter Tryd.func6, Tryd.ntmps6
  go_wp2
  go_loop [3] (fun i => ∃ k : Nat, k ≤ l.length ∧ k ≤ 40 ∧ i = .int .i64 k ∧ Hid (∀ j, j < k → (l.getD j ByteArray.empty).size ≤ 100)) (fun i => l.length - (intOf i).toNat)
  case atStart => exact ⟨0, Nat.zero_le _, by omega, rfl, fun j h => absurd h (by omega)⟩
  case round =>
    obtain ⟨k, hk, hk40, rfl, HK⟩ := hrel
    by_cases hlt : k < l.length
    · have hd1 : decide ((k : Int) < l.length) = true := decide_eq_true (by omega)
      by_cases h40 : k < 40
      · obtain ⟨b, off, x, rfl, hc, HX⟩ := HR.out.at_ hlt
        have hd2 : decide ((k : Int) < 40) = true := decide_eq_true (by omega)
        by_cases h100 : x.size ≤ 100
        · have hd : decide ((100 : Int) < x.size) = false := decide_eq_false (by omega)
          go_wp2
          go_round
          case rel => exact ⟨k + 1, by omega, by omega, by go_num, fun j hj => by
            by_cases e : j = k
            · subst e; rw [HX.out]; exact h100
            · exact HK.out j (by omega)⟩
          case measure => simp [intOf]; omega
        · have hd : decide ((100 : Int) < x.size) = true := decide_eq_true (by omega)
          have HE := Lib.hid (HF1.out k hlt (by rw [HX.out]; omega))
          go_wp2
          go_ret
          exact ⟨by rw [HE.out]; rfl, rfl⟩
      · have hd2 : decide ((k : Int) < 40) = false := decide_eq_false (by omega)
        have hd3 : decide ((l.length : Int) ≤ 40) = false := decide_eq_false (by omega)
        have HE := Lib.hid (HF2.out (by omega))
        go_wp2
        go_ret
        exact ⟨by rw [HE.out]; rfl, rfl⟩
    · obtain rfl : k = l.length := by omega
      have hd1 : decide ((l.length : Int) < l.length) = false := decide_eq_false (by omega)
      have hd3 : decide ((l.length : Int) ≤ 40) = true := decide_eq_true (by omega)
      have HE := Lib.hid (HF3.out hk40 HK.out)
      go_wp2
      go_ret
      exact ⟨by rw [HE.out]; rfl, rfl⟩
theorem few9_each {l : List ByteArray} (h : few9 l = true) : ∀ k, k < l.length → (l.getD k ByteArray.empty).size ≤ 100 := (of_decide_eq_true h).2
end Go.Proofs.YtjphecfkjpfkeaaDoor
