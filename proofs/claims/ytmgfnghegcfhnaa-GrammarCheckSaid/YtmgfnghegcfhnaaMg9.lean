/- Rows of the call's own beside other blocks, and what a call that changes a few blocks leaves as it was. No condition: nothing of the program stands in it. -/
import Derived.Test.YtmgfnghegcfhnaaMg5
namespace Go.Proofs.Ytmgfnghegcfhnaa
open Go.RowKit

theorem sz_alloc (w : World) (o : Obj) : (w.alloc o).heap.size = w.heap.size + 1 := Array.size_push _
theorem gr_cell (w : World) (g j : Nat) (v : Value) : w.grownBy (w.setCell ⟨g, j, none⟩ v) (some g) :=
  ⟨rfl, rfl, rfl, ((Below.refl 0 w).setCell (p := ⟨g, j, none⟩) (Nat.zero_le _) v).size, fun k _ hk => heap_setCell_other w ⟨g, j, none⟩ k v (fun e => hk (by rw [e]))⟩
theorem gr_below {w w' : World} {r : Option Nat} (h : Below w.heap.size w w') : w.grownBy w' r := ⟨h.os, h.tape, h.output, h.size, fun k hk _ => h.block k hk⟩
theorem Arr.gr {w w' : World} {g t : Nat} {cs : Array Value} {r : Option Nat} (h : Arr w g t cs) (hg : w.grownBy w' r) (hr : some g ≠ r) : Arr w' g t cs := (hg.block g h.lt hr).trans h
section
variable {w w' : World} {base base' g t e e' size size' : Nat} {cs : Array Value} {v v' : Value} {n n' : Nat} {xs xs' : List Value}
theorem ow_below (h : w.ownsRow base e size v n xs) (hb : Below w.heap.size w w') : w'.ownsRow base e size v n xs :=
  h.kept (gr_below (r := none) hb) (by cases v.ownBlock with
    | none => exact .inl rfl
    | some g => exact .inr (fun e => by cases e))
/-- The block of a row is of its elements' type. -/
theorem ow_type (h : w.ownsRow base e size v n xs) {k : Nat} (hk : v.ownBlock = some k) : ∃ cur, w.heap[k]? = some (.cells cur e (0, 0)) := by
  rcases h.2 with ⟨rfl, _⟩ | ⟨g, cap, cur, rfl, _, hg, _⟩
  · cases hk
  · simp only [Value.ownBlock, Option.some.injEq] at hk
    subst hk
    exact ⟨cur, hg⟩
theorem ow_arr (hA : Arr w g t cs) (h : w.ownsRow base e size v n xs) (hne : t ≠ e) : some g ≠ v.ownBlock := by
  intro hk
  obtain ⟨cur, hg⟩ := ow_type h hk.symm
  unfold Arr at hA
  rw [hA] at hg
  injection hg with hg
  injection hg with _ h2 _
  exact hne h2
theorem ow_ow (h : w.ownsRow base e size v n xs) (h' : w.ownsRow base' e' size' v' n' xs') (hne : e ≠ e') : v.ownBlock = none ∨ v.ownBlock ≠ v'.ownBlock := by
  cases hk : v.ownBlock with
  | none => exact .inl rfl
  | some k =>
    refine .inr fun hk' => ?_
    obtain ⟨cur, hg⟩ := ow_type h hk
    obtain ⟨cur', hg'⟩ := ow_type h' hk'.symm
    rw [hg'] at hg
    injection hg with hg
    injection hg with _ h2 _
    exact hne h2.symm
theorem ow_set (hA : Arr w g t cs) (h : w.ownsRow base e size v n xs) (hne : t ≠ e) (j : Nat) (u : Value) : (w.setCell ⟨g, j, none⟩ u).ownsRow base e size v n xs :=
  h.kept (gr_cell w g j u) (by
    have := ow_arr hA h hne
    cases hk : v.ownBlock with
    | none => exact .inl rfl
    | some k => exact .inr fun e => this (by rw [hk, e]))
end
/-- Only blocks of F, and new ones, have changed; F' are the ones that may change next. -/
structure Moved (w w' : World) (F F' : Nat → Prop) : Prop where
  os : w'.os = w.os
  tape : w'.tape = w.tape
  output : w'.output = w.output
  size : w.heap.size ≤ w'.heap.size
  block : ∀ k, k < w.heap.size → ¬ F k → w'.heap[k]? = w.heap[k]?
  foot : ∀ k, F' k → F k ∨ w.heap.size ≤ k
section
variable {w w' w'' : World} {F F' F'' : Nat → Prop}
theorem Moved.refl (w : World) (F : Nat → Prop) : Moved w w F F := ⟨rfl, rfl, rfl, Nat.le_refl _, fun _ _ _ => rfl, fun _ h => .inl h⟩
theorem Moved.of_below (h : Below w.heap.size w w') (F : Nat → Prop) : Moved w w' F F := ⟨h.os, h.tape, h.output, h.size, fun k hk _ => h.block k hk, fun _ h => .inl h⟩
theorem Moved.trans (h : Moved w w' F F') (h' : Moved w' w'' F' F'') : Moved w w'' F F'' :=
  ⟨h'.os.trans h.os, h'.tape.trans h.tape, h'.output.trans h.output, Nat.le_trans h.size h'.size, fun k hk hf => (h'.block k (Nat.lt_of_lt_of_le hk h.size) (fun hf' => (h.foot k hf').elim hf (fun hle => absurd hk (by omega)))).trans (h.block k hk hf),
    fun k hk => (h'.foot k hk).elim (h.foot k) (fun hle => .inr (Nat.le_trans h.size hle))⟩
theorem Moved.below {B : Nat} (h : Moved w w' F F') (hF : ∀ k, F k → B ≤ k) (hB : B ≤ w.heap.size) : Below B w w' :=
  ⟨h.os, h.tape, h.output, h.size, fun k hk => h.block k (Nat.lt_of_lt_of_le hk hB) (fun hf => absurd (hF k hf) (by omega))⟩
theorem Moved.arr {g t : Nat} {cs : Array Value} (h : Moved w w' F F') (hA : Arr w g t cs) (hg : ¬ F g) : Arr w' g t cs := (h.block g hA.lt hg).trans hA
theorem Moved.grown {r : Option Nat} (hg : w.grownBy w' r) (hr : ∀ k, r = some k → F k) (hf : ∀ k, F' k → F k ∨ w.heap.size ≤ k) : Moved w w' F F' :=
  ⟨hg.os, hg.tape, hg.output, hg.size, fun k hk hn => hg.block k hk (fun e => hn (hr k e.symm)), hf⟩
end
end Go.Proofs.Ytmgfnghegcfhnaa
