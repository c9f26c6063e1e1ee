/- Acts: a slice of them in memory, and the document's Few. Conditions: a bound below 2^62. -/
import Derived.Test.YtidnbpehhpakcaaNorHB
namespace Go.Proofs.Ytidnbpehhpakcaa
open Go.RowKit

/-- An act. -/
structure AC where
  kind : Int
  pl : Int
  n : Int
  s : ByteArray
def ac0 : AC := ⟨0, 0, 0, ⟨#[]⟩⟩
/-- An act lies at a place. -/
def AcAt (w : World) (b o : Nat) (x : AC) : Prop :=
  w.cell? ⟨b, o, none⟩ = some (.int .i64 x.kind) ∧ w.cell? ⟨b, o + 1, none⟩ = some (.int .i64 x.pl) ∧ w.cell? ⟨b, o + 2, none⟩ = some (.int .i64 x.n) ∧ w.cell? ⟨b, o + 3, none⟩ = some (.string x.s)
/-- The slice at A reads as the acts L. -/
def RdA (w : World) (A : Option Addr) (L : List AC) : Prop := L = [] ∨ ∃ b off, A = some ⟨b, off, none⟩ ∧ ∀ k, k < L.length → AcAt w b (off + k * 4) (L.getD k ac0)
theorem RdA.at_ {w : World} {A : Option Addr} {L : List AC} (h : RdA w A L) {k : Nat} (hk : k < L.length) : ∃ b off x, A = some ⟨b, off, none⟩ ∧ AcAt w b (off + k * 4) x ∧ Hid (L.getD k ac0 = x) := by
  rcases h with rfl | ⟨b, off, rfl, hc⟩
  · simp at hk
  · exact ⟨b, off, _, rfl, hc k hk, rfl⟩
theorem RdA.below {w w' : World} {A : Option Addr} {L : List AC} (h : RdA w A L) (hb : Below w.heap.size w w') : RdA w' A L := by
  rcases h with h | ⟨b, off, rfl, hc⟩
  · exact .inl h
  · refine .inr ⟨b, off, rfl, fun k hk => ?_⟩
    obtain ⟨h1, h2, h3, h4⟩ := hc k hk
    have hlt : b < w.heap.size := World.block_lt_of_cell? w _ h1
    have e : ∀ j, w'.cell? ⟨b, j, none⟩ = w.cell? ⟨b, j, none⟩ := fun j => World.cell?_of_block (a := ⟨b, j, none⟩) (hb.block b hlt)
    exact ⟨by rw [e]; exact h1, by rw [e]; exact h2, by rw [e]; exact h3, by rw [e]; exact h4⟩

/-- An act done. -/
def doS (c : St) (x : AC) : St × ByteArray × Nat :=
  if x.kind = 1 then ((erS c x.pl).1, ⟨#[]⟩, (erS c x.pl).2)
  else if x.kind = 2 then ((prS c x.pl x.s).1, ⟨#[]⟩, (prS c x.pl x.s).2)
  else if x.kind = 3 then ((wrS c x.pl x.s).1, ⟨#[]⟩, (wrS c x.pl x.s).2)
  else if x.kind = 4 then (fuS c x.n x.s, ⟨#[]⟩, 0)
  else if x.kind = 5 then (poS c, ⟨#[]⟩, 0)
  else if x.kind = 6 then (c, rdS c x.pl x.n)
  else (c, ⟨#[]⟩, 0)
/-- An act as a value. -/
def acV (x : AC) : Value := .agg #[.int .i64 x.kind, .int .i64 x.pl, .int .i64 x.n, .string x.s]
end Go.Proofs.Ytidnbpehhpakcaa
