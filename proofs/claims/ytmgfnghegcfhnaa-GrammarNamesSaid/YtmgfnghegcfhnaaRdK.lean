/- A slice of numbers of any kind that came in, read as a list. No condition: nothing of the program stands in it. -/
import Derived.Test.YtmgfnghegcfhnaaArr
namespace Go.Proofs.Ytmgfnghegcfhnaa
open Go.RowKit

/-- The slice at A reads as the numbers l, of kind k. -/
def RdK (k : IntKind) (w : World) (A : Option Addr) (l : List Int) : Prop := l = [] ∨ ∃ b off, A = some ⟨b, off, none⟩ ∧ ∀ j, j < l.length → w.cell? ⟨b, off + j, none⟩ = some (.int k (l.getD j 0))
theorem RdK.at_ {k : IntKind} {w : World} {A : Option Addr} {l : List Int} (h : RdK k w A l) {j : Nat} (hj : j < l.length) : ∃ b off x, A = some ⟨b, off, none⟩ ∧ w.cell? ⟨b, off + j, none⟩ = some (.int k x) ∧ Hid (l.getD j 0 = x) := by
  rcases h with rfl | ⟨b, off, rfl, hc⟩
  · simp at hj
  · exact ⟨b, off, _, rfl, hc j hj, rfl⟩
theorem RdK.below {k : IntKind} {w w' : World} {A : Option Addr} {l : List Int} (h : RdK k w A l) (hb : Below w.heap.size w w') : RdK k w' A l := by
  rcases h with h | ⟨b, off, rfl, hc⟩
  · exact .inl h
  · exact .inr ⟨b, off, rfl, fun j hj => (World.cell?_of_block (a := ⟨b, off + j, none⟩) (hb.block b (World.block_lt_of_cell? w _ (hc j hj)))).trans (hc j hj)⟩
theorem cellK_below {w w' : World} {b o : Nat} {v : Value} (h : w.cell? ⟨b, o, none⟩ = some v) (hb : Below w.heap.size w w') : w'.cell? ⟨b, o, none⟩ = some v :=
  (World.cell?_of_block (a := ⟨b, o, none⟩) (hb.block b (World.block_lt_of_cell? w _ h))).trans h
end Go.Proofs.Ytmgfnghegcfhnaa
