/- A slice of numbers that came in; numbers' bytes one behind the other; what the document's own Bigs returns for every slice of at most 2^40 numbers. -/
import Derived.Test.YtbkfkbacejhpeaaNumA
import Derived.Test.YtbkfkbacejhpeaaRdI
namespace Go.Proofs.Ytbkfkbacejhpeaa
open Go.RowKit

def bigs (l : List Int) (k : Nat) : List UInt8 := (l.take k).flatMap big
theorem bigs_zero (l : List Int) : bigs l 0 = [] := rfl
theorem bigs_succ (l : List Int) (k : Nat) (h : k < l.length) : bigs l (k + 1) = bigs l k ++ big (l.getD k 0) := by
  unfold bigs
  rw [List.take_succ_eq_append_getElem h, List.flatMap_append]
  simp [List.getD, List.getElem?_eq_getElem h]
theorem big_length (n : Int) : (big n).length = 4 := rfl
theorem bigs_length (l : List Int) : ∀ k, k ≤ l.length → (bigs l k).length = 4 * k
  | 0, _ => rfl
  | k + 1, h => by rw [bigs_succ l k (by omega), List.length_append, bigs_length l k (by omega), big_length]; omega
theorem size_mk (l : List UInt8) : (ByteArray.mk l.toArray).size = l.length := by show l.toArray.size = _; simp

set_option maxHeartbeats 800000 in
set_option maxRecDepth 100000 in
theorem refbigs_any (A : Option Addr) (cap : Nat) (l : List Int) (w : World) (hl : l.length ≤ 1099511627776) (hr : RdI w.heap.size w A l) :
    Calls Try.prog 17 #[.slice A l.length cap] w fun e w' => e = .returned (.string ⟨(bigs l l.length).toArray⟩) ∧ Below w.heap.size w w' := by
  go_enter Try.func17, Try.ntmps17
  go_wp2
  go_loopw [3, 4] (fun s i wr => ∃ k : Nat, k ≤ l.length ∧ i = .int .i64 k ∧ s = .string ⟨(bigs l k).toArray⟩ ∧ Below w.heap.size w wr)
    (fun _ i _ => l.length - (intOf i).toNat)
  case atStart => exact ⟨0, Nat.zero_le _, rfl, rfl, Below.refl _ _⟩
  case round =>
    obtain ⟨k, hk, rfl, rfl, hb⟩ := hrel
    have hsz := hb.size
    by_cases hlt : k < l.length
    · obtain ⟨b, off, x, rfl, hbl, hc, HX⟩ := (hr.below hb).at_ hlt
      have hadd : ∀ W, (Op.stringOp .add ⟨(bigs l k).toArray⟩ ⟨(big x).toArray⟩).run Try.prog W = .ok (.string ⟨(bigs l (k + 1)).toArray⟩) W := fun W => by
        rw [run_string_add_sum W _ _ (by rw [size_mk, size_mk, bigs_length l k hk, big_length]; omega), ByteArray.mk_append_mk, bigs_succ l k hlt, HX.out]
      go_wp2_with fail
      refine (refbig_any _ _).mono ?_
      rintro e w1 ⟨rfl, hb1⟩
      have hbb : Below w.heap.size w w1 := hb.trans (hb1.mono (by omega))
      have ha1 := hadd w1
      clear hb hb1 hc hadd
      go_wp2
      go_roundw
      case rel => exact ⟨k + 1, by omega, by go_num, rfl, hbb⟩
      case measure => simp [intOf]; omega
    · have hkl : k = l.length := by omega
      subst hkl
      go_wp2
      go_ret
      exact ⟨rfl, hb⟩
end Go.Proofs.Ytbkfkbacejhpeaa
