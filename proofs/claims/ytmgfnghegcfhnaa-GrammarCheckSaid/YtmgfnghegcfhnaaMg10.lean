/- Trees in memory, and how a tree that came in is read. Conditions: values without a ring, as the row says. -/
import Derived.Test.YtmgfnghegcfhnaaTrPlain
import Derived.Test.YtmgfnghegcfhnaaProg
import Derived.Test.YtmgfnghegcfhnaaMg5
import Derived.Test.YtmgfnghegcfhnaaMg9
import Derived.WalkKit
import Derived.Deep.Slices
import Derived.ChangeArms
namespace Go.Proofs.Ytmgfnghegcfhnaa
open Go.RowKit

/-- A property lies at a place. -/
def PrAt (w : World) (b o : Nat) (x : PR) : Prop := w.cell? ⟨b, o, none⟩ = some (.string x.nm) ∧ w.cell? ⟨b, o + 1, none⟩ = some (.string x.vl)
/-- The slice at A, in a block of G, reads as the properties l. -/
def RdPr (w : World) (G : Nat → Prop) (A : Option Addr) (l : List PR) : Prop := l = [] ∨ ∃ b off, A = some ⟨b, off, none⟩ ∧ G b ∧ ∀ k, k < l.length → PrAt w b (off + k * 2) (l.getD k pr0)
/-- A node's name, and two slices, are a tree, all in blocks of G. -/
inductive NdAt (w : World) (G : Nat → Prop) : ND → Value → Value → Prop
  | mk (nm : ByteArray) (ps : List PR) (ks : List ND) (A K : Option Addr) (pc kc : Nat) (p q : Nat → Value)
      (hp : RdPr w G A ps) (hpc : ps.length ≤ pc) (hpm : pc ≤ maxLen) (hkc : ks.length ≤ kc) (hkm : kc ≤ maxLen)
      (hK : ks = [] ∨ ∃ b off, K = some ⟨b, off, none⟩ ∧ G b ∧ ∀ i, i < ks.length → w.cell? ⟨b, off + i * 3, none⟩ = some (.string (ks.getD i nd0).nm) ∧ w.cell? ⟨b, off + i * 3 + 1, none⟩ = some (p i) ∧ w.cell? ⟨b, off + i * 3 + 2, none⟩ = some (q i))
      (hk : ∀ i, i < ks.length → NdAt w G (ks.getD i nd0) (p i) (q i)) : NdAt w G (.mk nm ps ks) (.slice A ps.length pc) (.slice K ks.length kc)

theorem cell_kept {w w' : World} {F F' : Nat → Prop} (hm : Moved w w' F F') {b o : Nat} (hF : ¬ F b) {v : Value} (h : w.cell? ⟨b, o, none⟩ = some v) : w'.cell? ⟨b, o, none⟩ = some v := by
  have hlt : b < w.heap.size := World.block_lt_of_cell? w _ h
  rw [World.cell?_of_block (a := ⟨b, o, none⟩) (hm.block b hlt hF)]
  exact h
theorem RdPr.kept {w w' : World} {G F F' : Nat → Prop} {A : Option Addr} {l : List PR} (h : RdPr w G A l) (hm : Moved w w' F F') (hd : ∀ k, G k → ¬ F k) : RdPr w' G A l := by
  rcases h with h | ⟨b, off, rfl, hg, hc⟩
  · exact .inl h
  · exact .inr ⟨b, off, rfl, hg, fun k hk => ⟨cell_kept hm (hd b hg) (hc k hk).1, cell_kept hm (hd b hg) (hc k hk).2⟩⟩
theorem NdAt.kept {w w' : World} {G F F' : Nat → Prop} {n : ND} {v2 v3 : Value} (h : NdAt w G n v2 v3) (hm : Moved w w' F F') (hd : ∀ k, G k → ¬ F k) : NdAt w' G n v2 v3 := by
  induction h with
  | mk nm ps ks A K pc kc p q hp hpc hpm hkc hkm hK hk ih =>
    refine .mk nm ps ks A K pc kc p q (hp.kept hm hd) hpc hpm hkc hkm ?_ ih
    rcases hK with h | ⟨b, off, rfl, hg, hc⟩
    · exact .inl h
    · exact .inr ⟨b, off, rfl, hg, fun i hi => ⟨cell_kept hm (hd b hg) (hc i hi).1, cell_kept hm (hd b hg) (hc i hi).2.1, cell_kept hm (hd b hg) (hc i hi).2.2⟩⟩
theorem nd_below {w w' : World} {G : Nat → Prop} {n : ND} {v2 v3 : Value} (h : NdAt w G n v2 v3) (hb : Below w.heap.size w w') : NdAt w' G n v2 v3 := h.kept (Moved.of_below hb (fun _ => False)) (fun _ _ h => h)
theorem RdPr.below {w w' : World} {G : Nat → Prop} {A : Option Addr} {l : List PR} (h : RdPr w G A l) (hb : Below w.heap.size w w') : RdPr w' G A l := h.kept (Moved.of_below hb (fun _ => False)) (fun _ _ h => h)
theorem RdPr.mono {w : World} {G G' : Nat → Prop} {A : Option Addr} {l : List PR} (h : RdPr w G A l) (hg : ∀ k, G k → G' k) : RdPr w G' A l := by
  rcases h with h | ⟨b, off, rfl, hb, hc⟩
  · exact .inl h
  · exact .inr ⟨b, off, rfl, hg b hb, hc⟩
theorem NdAt.mono {w : World} {G G' : Nat → Prop} {n : ND} {v2 v3 : Value} (h : NdAt w G n v2 v3) (hg : ∀ k, G k → G' k) : NdAt w G' n v2 v3 := by
  induction h with
  | mk nm ps ks A K pc kc p q hp hpc hpm hkc hkm hK hk ih =>
    refine .mk nm ps ks A K pc kc p q (hp.mono hg) hpc hpm hkc hkm ?_ ih
    rcases hK with h | ⟨b, off, rfl, hb, hc⟩
    · exact .inl h
    · exact .inr ⟨b, off, rfl, hg b hb, hc⟩
theorem nd_lt {w : World} {G : Nat → Prop} {n : ND} {v2 v3 : Value} (h : NdAt w G n v2 v3) : NdAt w (fun k => k < w.heap.size) n v2 v3 := by
  induction h with
  | mk nm ps ks A K pc kc p q hp hpc hpm hkc hkm hK hk ih =>
    refine .mk nm ps ks A K pc kc p q ?_ hpc hpm hkc hkm ?_ ih
    · rcases hp with h | ⟨b, off, rfl, hb, hc⟩
      · exact .inl h
      · by_cases h0 : ps.length = 0
        · exact .inl (List.length_eq_zero_iff.1 h0)
        · exact .inr ⟨b, off, rfl, World.block_lt_of_cell? w _ (hc 0 (by omega)).1, hc⟩
    · rcases hK with h | ⟨b, off, rfl, hb, hc⟩
      · exact .inl h
      · by_cases h0 : ks.length = 0
        · exact .inl (List.length_eq_zero_iff.1 h0)
        · exact .inr ⟨b, off, rfl, World.block_lt_of_cell? w _ (hc 0 (by omega)).1, hc⟩
/-- A tree stays where one block beyond it has changed. -/
theorem nd_grown {w w' : World} {B g : Nat} {n : ND} {v2 v3 : Value} (h : NdAt w (fun k => k < B) n v2 v3) (hg : w.grownBy w' (some g)) (hB : B ≤ g) : NdAt w' (fun k => k < B) n v2 v3 :=
  h.kept (F := fun k => k = g) (F' := fun k => k = g) (Moved.grown hg (fun k hk => by injection hk with hk; exact hk.symm) (fun k hk => .inl hk)) (fun k hk e => by subst e; omega)
/-- A property of a slice. -/
theorem RdPr.at_ {w : World} {G : Nat → Prop} {A : Option Addr} {l : List PR} (h : RdPr w G A l) {k : Nat} (hk : k < l.length) : ∃ b off x, A = some ⟨b, off, none⟩ ∧ PrAt w b (off + k * 2) x ∧ Hid (l.getD k pr0 = x) := by
  rcases h with rfl | ⟨b, off, rfl, _, hc⟩
  · simp at hk
  · exact ⟨b, off, _, rfl, hc k hk, rfl⟩
/-- A tree's two slices. -/
theorem nd_shape {w : World} {G : Nat → Prop} {n : ND} {v2 v3 : Value} (h : NdAt w G n v2 v3) : ∃ A K pc kc, v2 = .slice A n.ps.length pc ∧ v3 = .slice K n.ks.length kc ∧ n.ps.length ≤ pc ∧ pc ≤ maxLen ∧ n.ks.length ≤ kc ∧ kc ≤ maxLen := by
  cases h with
  | mk nm ps ks A K pc kc p q hp hpc hpm hkc hkm hK hk => exact ⟨A, K, pc, kc, rfl, rfl, hpc, hpm, hkc, hkm⟩
theorem nd_prop {w : World} {G : Nat → Prop} {n : ND} {A : Option Addr} {l pc : Nat} {v3 : Value} (h : NdAt w G n (.slice A l pc) v3) {k : Nat} (hk : k < n.ps.length) : ∃ b off x, A = some ⟨b, off, none⟩ ∧ PrAt w b (off + k * 2) x ∧ Hid (n.ps.getD k pr0 = x) := by
  cases h with
  | mk nm ps ks A K pc kc p q hp => exact hp.at_ hk
/-- A kid of a node. -/
theorem nd_kid {w : World} {G : Nat → Prop} {n : ND} {v2 : Value} {K : Option Addr} {l kc : Nat} (h : NdAt w G n v2 (.slice K l kc)) {k : Nat} (hk : k < n.ks.length) :
    ∃ b off x y z, K = some ⟨b, off, none⟩ ∧ w.cell? ⟨b, off + k * 3, none⟩ = some (.string x.nm) ∧ w.cell? ⟨b, off + k * 3 + 1, none⟩ = some y ∧ w.cell? ⟨b, off + k * 3 + 2, none⟩ = some z ∧ NdAt w G x y z ∧ Hid (n.ks.getD k nd0 = x) := by
  cases h with
  | mk nm ps ks A K pc kc p q hp hpc hpm hkc hkm hK hk' =>
    rcases hK with rfl | ⟨b, off, rfl, _, hc⟩
    · simp [ND.ks] at hk
    · obtain ⟨h1, h2, h3⟩ := hc k hk
      exact ⟨b, off, _, _, _, rfl, h1, h2, h3, hk' k hk, rfl⟩
theorem nd_props {w : World} {G : Nat → Prop} {n : ND} {A : Option Addr} {l pc : Nat} {v3 : Value} (h : NdAt w G n (.slice A l pc) v3) : RdPr w G A n.ps ∧ l = n.ps.length := by
  cases h with
  | mk nm ps ks A K pc kc p q hp => exact ⟨hp, rfl⟩
end Go.Proofs.Ytmgfnghegcfhnaa
