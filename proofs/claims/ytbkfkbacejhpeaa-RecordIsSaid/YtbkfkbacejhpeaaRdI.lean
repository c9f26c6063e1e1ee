/- A slice that reads as numbers. No condition: nothing of the program stands in it. -/
import Derived.Test.YtbkfkbacejhpeaaArr
import Derived.WalkKit
import Derived.Lib.Hide
namespace Go.Proofs.Ytbkfkbacejhpeaa
open Go.RowKit

/-- The slice at A reads as the numbers l, in blocks below B. -/
def RdI (B : Nat) (w : World) (A : Option Addr) (l : List Int) : Prop :=
  l = [] ∨ ∃ b off, A = some ⟨b, off, none⟩ ∧ b < B ∧ ∀ k, k < l.length → w.cell? ⟨b, off + k, none⟩ = some (.int .i64 (l.getD k 0))
theorem RdI.at_ {B : Nat} {w : World} {A : Option Addr} {l : List Int} (h : RdI B w A l) {k : Nat} (hk : k < l.length) :
    ∃ b off x, A = some ⟨b, off, none⟩ ∧ b < B ∧ w.cell? ⟨b, off + k, none⟩ = some (.int .i64 x) ∧ Hid (l.getD k 0 = x) := by
  rcases h with rfl | ⟨b, off, rfl, hb, hc⟩
  · simp at hk
  · exact ⟨b, off, _, rfl, hb, hc k hk, rfl⟩
theorem RdI.below {B : Nat} {w w' : World} {A : Option Addr} {l : List Int} (h : RdI B w A l) (hb : Below B w w') : RdI B w' A l := by
  rcases h with h | ⟨b, off, rfl, hlt, hc⟩
  · exact .inl h
  · exact .inr ⟨b, off, rfl, hlt, fun k hk => (hb.cell (p := ⟨b, off + k, none⟩) hlt).trans (hc k hk)⟩
theorem RdI.mono {B B' : Nat} {w : World} {A : Option Addr} {l : List Int} (h : RdI B w A l) (hB : B ≤ B') : RdI B' w A l := by
  rcases h with h | ⟨b, off, rfl, hlt, hc⟩
  · exact .inl h
  · exact .inr ⟨b, off, rfl, by omega, hc⟩
end Go.Proofs.Ytbkfkbacejhpeaa
