/- A node that is being made, in a variable of a call's own: what each change of it leaves. No condition: nothing of the program stands in it but types. -/
import Derived.Test.YtjddclkfakphlaaTrH
namespace Go.Proofs.Ytjddclkfakphlaa
open Go.RowKit

/-- What may change of a node that is being made. -/
def fpN (g : Nat) (x : ON) (k : Nat) : Prop := k = g ∨ ownS x.p k ∨ ownS x.q k
/-- Block g is a node that is being made, with two slices of its own. -/
structure NodeV (w : World) (B g : Nat) (x : ON) : Prop where
  arr : Arr w g 25 #[.string x.nm, x.p, x.q]
  on : OnAt w B (fpN g x) x
  gB : B ≤ g
  sep : x.q.ownBlock ≠ some g
section
variable {w w' : World} {B g : Nat} {x : ON}
theorem NodeV.low (h : NodeV w B g x) {k : Nat} (hk : fpN g x k) : B ≤ k := by
  rcases hk with rfl | hk | hk
  · exact h.gB
  · exact (h.on.p.lt k hk).1
  · exact (h.on.q.lt k hk).1
theorem NodeV.high (h : NodeV w B g x) {k : Nat} (hk : fpN g x k) : k < w.heap.size := by
  rcases hk with rfl | hk | hk
  · exact h.arr.lt
  · exact (h.on.p.lt k hk).2
  · exact (h.on.q.lt k hk).2
/-- What changes elsewhere, and what is new, leaves it. -/
theorem NodeV.apart {F F' : Nat → Prop} (h : NodeV w B g x) (hm : Moved w w' F F') (hF : ∀ k, F k → k < B) : NodeV w' B g x :=
  ⟨hm.arr h.arr (fun hf => by have := hF g hf; have := h.gB; omega),
   ⟨ow_moved h.on.p hm fun k hk hf => by have := hF k hf; have := (h.on.p.lt k hk).1; omega, ow_moved h.on.q hm fun k hk hf => by have := hF k hf; have := (h.on.q.lt k hk).1; omega,
    fun c hc => (h.on.k c hc).kept hm fun k hk hf => by have := hF k hf; have := hk.1; omega⟩, h.gB, h.sep⟩
theorem NodeV.below (h : NodeV w B g x) (hb : Below w.heap.size w w') : NodeV w' B g x := h.apart (F := fun _ => False) (F' := fun _ => False) (Moved.of_below hb _) (fun _ h => h.elim)
theorem nv_new {nm : ByteArray} (hA : Arr w g 25 #[.string nm, .slice none 0 0, .slice none 0 0]) (hB : B ≤ g) : NodeV w B g ⟨nm, [], [], .slice none 0 0, .slice none 0 0⟩ :=
  ⟨hA, ⟨World.ownsRow_nil _ _ _ _, World.ownsRow_nil _ _ _ _, fun c hc => absurd hc List.not_mem_nil⟩, hB, fun h => by cases h⟩
/-- A property has been added. -/
theorem nv_prop (h : NodeV w B g x) (pr : PR) {p' : Value} (hA : Arr w' g 25 #[.string x.nm, p', x.q]) (hp : w'.ownsRow B 52 2 p' (x.ps.length + 1) (prL (x.ps ++ [pr])))
    (hm : Moved w w' (fun k => k = g ∨ ownS x.p k) (fun k => k = g ∨ ownS p' k)) : NodeV w' B g ⟨x.nm, x.ps ++ [pr], x.kl, p', x.q⟩ ∧ Moved w w' (fpN g x) (fpN g ⟨x.nm, x.ps ++ [pr], x.kl, p', x.q⟩) := by
  have hM : Moved w w' (fpN g x) (fpN g ⟨x.nm, x.ps ++ [pr], x.kl, p', x.q⟩) := hm.inside (fun k hk => hk.imp id .inl) (fun k hk => by
    rcases hk with hk | hk | hk
    · exact .inl (.inl hk)
    · exact .inr (.inl (.inr hk))
    · exact .inl (.inr (.inr hk)))
  refine ⟨⟨hA, ⟨by show w'.ownsRow B _ 2 p' (x.ps ++ [pr]).length _; rw [List.length_append]; exact hp, ow_moved h.on.q hm fun k hk hf => ?_, fun c hc => nd_moved (h.on.k c hc) hM⟩, h.gB, h.sep⟩, hM⟩
  rcases hf with rfl | hf
  · exact h.sep hk
  · exact apart_types h.on.p h.on.q tyneT.2.2 k hf hk
/-- A kid has been added. -/
theorem nv_kid (h : NodeV w B g x) (c : KD) {q' : Value} (hA : Arr w' g 25 #[.string x.nm, x.p, q']) (hq : w'.ownsRow B 25 3 q' (x.kl.length + 1) (kdL (x.kl ++ [c])))
    (hm : Moved w w' (fun k => k = g ∨ ownS x.q k) (fun k => k = g ∨ ownS q' k)) (hs : q'.ownBlock ≠ some g) (hc : NdAt w (fun k => B ≤ k ∧ ¬ fpN g x k) c.nd c.y c.z) :
    NodeV w' B g ⟨x.nm, x.ps, x.kl ++ [c], x.p, q'⟩ ∧ Moved w w' (fpN g x) (fpN g ⟨x.nm, x.ps, x.kl ++ [c], x.p, q'⟩) := by
  have hM : Moved w w' (fpN g x) (fpN g ⟨x.nm, x.ps, x.kl ++ [c], x.p, q'⟩) := hm.inside (fun k hk => hk.imp id .inr) (fun k hk => by
    rcases hk with hk | hk | hk
    · exact .inl (.inl hk)
    · exact .inl (.inr (.inl hk))
    · exact .inr (.inl (.inr hk)))
  refine ⟨⟨hA, ⟨ow_moved h.on.p hm fun k hk hf => ?_, by show w'.ownsRow B _ 3 q' (x.kl ++ [c]).length _; rw [List.length_append]; exact hq, fun d hd => ?_⟩, h.gB, hs⟩, hM⟩
  · rcases hf with rfl | hf
    · exact ow_arr h.arr h.on.p (Ne.symm tyneT.2.2) hk.symm
    · exact apart_types h.on.p h.on.q tyneT.2.2 k hk hf
  · rcases List.mem_append.1 hd with hd | hd
    · exact nd_moved (h.on.k d hd) hM
    · rw [List.mem_singleton] at hd; subst hd
      exact nd_moved hc hM
/-- It is done. -/
theorem nv_done (h : NodeV w B g x) : NdAt w (fun k => B ≤ k) x.nd x.p x.q := nd_of_on h.on (fun _ hk _ => hk) (fun k hk => (h.on.p.lt k hk).1) (fun k hk => (h.on.q.lt k hk).1)
end
end Go.Proofs.Ytjddclkfakphlaa
