/- Spans in memory: a slice of them; what the document's inside, Meet and Same return. Conditions: Meet: spans that exist. -/
import Derived.Test.YtmgfnghegcfhnaaRaPlain
import Derived.Test.YtmgfnghegcfhnaaChecked
import Derived.Test.YtmgfnghegcfhnaaMg5
import Derived.Deep.QuietTactic
import Derived.Deep.RegionHeld3
import Derived.Deep.DeepCutAuto
namespace Go.Proofs.Ytmgfnghegcfhnaa
open Go.RowKit

/-- A span lies at a place. -/
def SpAt (w : World) (b o : Nat) (x : SP) : Prop := w.cell? ⟨b, o, none⟩ = some (.int .i64 x.p) ∧ w.cell? ⟨b, o + 1, none⟩ = some (.int .i64 x.n)
/-- The slice at A reads as the spans L. -/
def RdSp (w : World) (A : Option Addr) (L : List SP) : Prop := L = [] ∨ ∃ b off, A = some ⟨b, off, none⟩ ∧ ∀ k, k < L.length → SpAt w b (off + k * 2) (L.getD k sp0)
theorem RdSp.at_ {w : World} {A : Option Addr} {L : List SP} (h : RdSp w A L) {k : Nat} (hk : k < L.length) : ∃ b off x, A = some ⟨b, off, none⟩ ∧ SpAt w b (off + k * 2) x ∧ Hid (L.getD k sp0 = x) := by
  rcases h with rfl | ⟨b, off, rfl, hc⟩
  · simp at hk
  · exact ⟨b, off, _, rfl, hc k hk, rfl⟩
theorem SpAt.below {w w' : World} {b o : Nat} {x : SP} (h : SpAt w b o x) (hb : Below w.heap.size w w') : SpAt w' b o x := by
  obtain ⟨h1, h2⟩ := h
  have hlt : b < w.heap.size := World.block_lt_of_cell? w _ h1
  have e : ∀ j, w'.cell? ⟨b, j, none⟩ = w.cell? ⟨b, j, none⟩ := fun j => World.cell?_of_block (a := ⟨b, j, none⟩) (hb.block b hlt)
  exact ⟨by rw [e]; exact h1, by rw [e]; exact h2⟩
theorem RdSp.below {w w' : World} {A : Option Addr} {L : List SP} (h : RdSp w A L) (hb : Below w.heap.size w w') : RdSp w' A L := by
  rcases h with h | ⟨b, off, rfl, hc⟩
  · exact .inl h
  · exact .inr ⟨b, off, rfl, fun k hk => (hc k hk).below hb⟩
/-- A span as cells, and as a value. -/
def spC (x : SP) : Array Value := #[.int .i64 x.p, .int .i64 x.n]
def spV (x : SP) : Value := .agg #[.int .i64 x.p, .int .i64 x.n]

end Go.Proofs.Ytmgfnghegcfhnaa

/- What the document's Check of spans returns. Conditions: slices that read as spans; those that are loaded exist. -/
namespace Go.Proofs.Ytmgfnghegcfhnaa
open Go.RowKit

theorem step_sp {P : Nat → Prop} {k : Nat} (h : ∀ j, j < k → P j) (hk : P k) : ∀ j, j < k + 1 → P j := fun j hj => by
  by_cases e : j = k
  · subst e; exact hk
  · exact h j (by omega)
theorem cell_below {w w' : World} {b o : Nat} {v : Value} (h : w.cell? ⟨b, o, none⟩ = some v) (hb : Below w.heap.size w w') : w'.cell? ⟨b, o, none⟩ = some v :=
  (World.cell?_of_block (a := ⟨b, o, none⟩) (hb.block b (World.block_lt_of_cell? w _ h))).trans h

end Go.Proofs.Ytmgfnghegcfhnaa
