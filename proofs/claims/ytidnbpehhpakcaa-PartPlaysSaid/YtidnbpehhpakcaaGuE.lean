/- The law's awake(): what must come, whatever the arguments are. No condition. -/
import Derived.Test.YtidnbpehhpakcaaGuD
namespace Go.Proofs.Ytidnbpehhpakcaa
open Go.RowKit

/-- A slice of numbers that the call has just laid. -/
theorem rdI_new (w : World) (l : List Int) : RdI (w.heap.size + 1) (w.alloc (.cells (l.map (Value.int .i64)).toArray 3)) (some ⟨w.heap.size, 0, none⟩) l := by
  refine .inr ⟨w.heap.size, 0, rfl, Nat.lt_succ_self _, fun k hk => ?_⟩
  rw [Nat.zero_add, (Arr.new w 3 _).cell k]
  simp [List.getD, hk]
theorem gnew_lit (l : List Int) (hl : l.length ≤ maxLen) (p : Option Addr) (W : World) :
    Calls Try.prog 19 #[.pointer p, .slice (some ⟨W.heap.size, 0, none⟩) l.length l.length] (W.alloc (.cells (l.map (Value.int .i64)).toArray 3)) fun e w' => ∃ g, e = .returned (.pointer (some ⟨g, 0, none⟩)) ∧ W.heap.size ≤ g ∧ Arr w' g 80 (lockC p (lkL l)) ∧ Below W.heap.size W w' := by
  refine (gnew_any p _ _ l _ hl (by rw [size_alloc]; exact rdI_new W l)).mono ?_
  rintro e w' ⟨g, he, hg, hA, hb⟩
  rw [size_alloc] at hg hb
  exact ⟨g, he, by omega, hA, ((Below.refl _ _).alloc (Nat.le_refl _) _).trans (hb.mono (by omega))⟩
/-- A flash and its guard. -/
def Two (w : World) (gg gc : Nat) (K : List Bool) (c : St) : Prop := GD w (some ⟨gg, 0, none⟩) (some ⟨gc, 0, none⟩) K ∧ RN w gc c ∧ gg ≠ gc
theorem Two.below {w w' : World} {gg gc : Nat} {K : List Bool} {c : St} (h : Two w gg gc K c) (hb : Below w.heap.size w w') : Two w' gg gc K c := ⟨h.1.below hb, h.2.1.below hb h.2.1.lt, h.2.2⟩
theorem Two.next {w w' : World} {gg gc : Nat} {K : List Bool} {c c' : St} (h : Two w gg gc K c) (hN : RN w' gc c') (hg : w.grownBy w' (some gc)) : Two w' gg gc K c' :=
  ⟨h.1.grown hg (fun e => h.2.2 (by injection e with e; injection e)), hN, h.2.2⟩

def awK : List Bool := lkL [0, 3, 99]
def awD : List UInt8 := mapAt st0.B 512 1 (prF ⟨#[120]⟩)
theorem awD_take : (awD.drop 512).take 1 = [120] := by
  have hl : st0.B.length = 24576 := List.length_replicate
  rw [take_getD _ _ _ (by unfold awD; rw [mapAt_length, hl]; decide)]
  show [awD.getD 512 0] = _
  unfold awD
  rw [mapAt_getD _ _ _ _ _ (by rw [hl]; decide), if_pos (by decide), st0_getD 512 (by decide)]
  rfl
end Go.Proofs.Ytidnbpehhpakcaa
