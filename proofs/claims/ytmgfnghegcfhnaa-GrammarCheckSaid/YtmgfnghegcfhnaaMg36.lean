/- A slice of strings that came in, read as a list. No condition: nothing of the program stands in it. -/
import Derived.Test.YtmgfnghegcfhnaaMg5
namespace Go.Proofs.Ytmgfnghegcfhnaa
open Go.RowKit

/-- The slice at A reads as the strings l. -/
def RdT (w : World) (A : Option Addr) (l : List ByteArray) : Prop := l = [] ∨ ∃ b off, A = some ⟨b, off, none⟩ ∧ ∀ k, k < l.length → w.cell? ⟨b, off + k, none⟩ = some (.string (l.getD k ByteArray.empty))
theorem RdT.at_ {w : World} {A : Option Addr} {l : List ByteArray} (h : RdT w A l) {k : Nat} (hk : k < l.length) : ∃ b off x, A = some ⟨b, off, none⟩ ∧ w.cell? ⟨b, off + k, none⟩ = some (.string x) ∧ Hid (l.getD k ByteArray.empty = x) := by
  rcases h with rfl | ⟨b, off, rfl, hc⟩
  · simp at hk
  · exact ⟨b, off, _, rfl, hc k hk, rfl⟩
theorem RdT.below {w w' : World} {A : Option Addr} {l : List ByteArray} (h : RdT w A l) (hb : Below w.heap.size w w') : RdT w' A l := by
  rcases h with h | ⟨b, off, rfl, hc⟩
  · exact .inl h
  · refine .inr ⟨b, off, rfl, fun k hk => ?_⟩
    have hck := hc k hk
    rw [World.cell?_of_block (a := ⟨b, off + k, none⟩) (hb.block b (World.block_lt_of_cell? w _ hck))]
    exact hck
/-- Strings of a block that the call has laid. -/
theorem rdT_new (w : World) (t : TypeId) (l : List ByteArray) : RdT (w.alloc (.cells (l.map Value.string).toArray t)) (some ⟨w.heap.size, 0, none⟩) l := by
  have h := Arr.new w t (l.map Value.string).toArray
  refine .inr ⟨w.heap.size, 0, rfl, fun k hk => ?_⟩
  rw [h.cell, Nat.zero_add]
  simp [hk]
end Go.Proofs.Ytmgfnghegcfhnaa
