/- A slice of numbers that came in; numbers' bytes one behind the other; what the document's own Bigs returns for every slice of at most 2^40 numbers. -/
import Derived.Test.YtjphecfkjpfkeaaDoorNumA
namespace Go.Proofs.YtjphecfkjpfkeaaDoor
open Go.RowKit

/-- The slice at A reads as the numbers l, in blocks below B. -/
def RdI (B : Nat) (w : World) (A : Option Addr) (l : List Int) : Prop :=
  l = [] ∨ ∃ b off, A = some ⟨b, off, none⟩ ∧ b < B ∧ ∀ k, k < l.length → w.cell? ⟨b, off + k, none⟩ = some (.int .i64 (l.getD k 0))
theorem RdI.at_ {B : Nat} {w : World} {A : Option Addr} {l : List Int} (h : RdI B w A l) {k : Nat} (hk : k < l.length) :
    ∃ b off x, A = some ⟨b, off, none⟩ ∧ b < B ∧ w.cell? ⟨b, off + k, none⟩ = some (.int .i64 x) ∧ Hid (l.getD k 0 = x) := by
  rcases h with rfl | ⟨b, off, rfl, hb, hc⟩
  · simp at hk
  · exact ⟨b, off, _, rfl, hb, hc k hk, rfl⟩
theorem RdI.below {B : Nat} {w w' : World} {A : Option Addr} {l : List Int} (h : RdI B w A l) (hb : Below B w w') : RdI B w' A l := by
  rcases h with h | ⟨b, off, rfl, hlt, hc⟩
  · exact .inl h
  · exact .inr ⟨b, off, rfl, hlt, fun k hk => (hb.cell (p := ⟨b, off + k, none⟩) hlt).trans (hc k hk)⟩
theorem RdI.mono {B B' : Nat} {w : World} {A : Option Addr} {l : List Int} (h : RdI B w A l) (hB : B ≤ B') : RdI B' w A l := by
  rcases h with h | ⟨b, off, rfl, hlt, hc⟩
  · exact .inl h
  · exact .inr ⟨b, off, rfl, by omega, hc⟩

def bigs (l : List Int) (k : Nat) : List UInt8 := (l.take k).flatMap big
theorem bigs_zero (l : List Int) : bigs l 0 = [] := rfl
theorem bigs_succ (l : List Int) (k : Nat) (h : k < l.length) : bigs l (k + 1) = bigs l k ++ big (l.getD k 0) := by
  unfold bigs
  rw [List.take_succ_eq_append_getElem h, List.flatMap_append]
  simp [List.getD, List.getElem?_eq_getElem h]
theorem big_length (n : Int) : (big n).length = 4 := rfl
theorem bigs_length (l : List Int) : ∀ k, k ≤ l.length → (bigs l k).length = 4 * k
  | 0, _ => rfl
  | k + 1, h => by rw [bigs_succ l k (by omega), List.length_append, bigs_length l k (by omega), big_length]; omega
theorem size_mk (l : List UInt8) : (ByteArray.mk l.toArray).size = l.length := by show l.toArray.size = _; simp

end Go.Proofs.YtjphecfkjpfkeaaDoor
