/- Arrays of numbers that lie in blocks of the call's own. No condition: nothing of the program stands in it. -/
import Derived.WalkKit
import Derived.WalkSpells
import Derived.Lib.Hide
import Derived.Below
import Derived.Deep.Draws
import Derived.Laws.Rows
import Derived.Laws.Tables
import Derived.Laws.CopyOwn
namespace Go.Proofs.Ytbkfkbacejhpeaa
open Go.RowKit

theorem below_drewN (w : World) (n : Nat) : Below w.heap.size w (w.drewN n) := ⟨rfl, rfl, rfl, Nat.le_refl _, fun _ _ => rfl⟩
/-- Numbers as cells. -/
def nums (k : IntKind) (l : List Nat) : Array Value := (l.map fun (n : Nat) => Value.int k (n : Int)).toArray
theorem nums_size (k : IntKind) (l : List Nat) : (nums k l).size = l.length := by simp [nums]
theorem nums_one (k : IntKind) (l : List Nat) : (nums k l).all (·.oneCell') = true := by
  unfold nums
  rw [Array.all_eq_true_iff_forall_mem]
  intro v hv
  simp at hv
  obtain ⟨n, _, rfl⟩ := hv
  rfl
theorem nums_at (k : IntKind) (l : List Nat) {j : Nat} (h : j < l.length) : (nums k l)[j]? = some (.int k ((l.getD j 0 : Nat) : Int)) := by
  simp [nums, h]
theorem nums_set (k : IntKind) (l : List Nat) (j n : Nat) : (nums k l).setIfInBounds j (.int k (n : Int)) = nums k (l.set j n) := by
  unfold nums
  apply Array.ext'
  simp [List.map_set]

/-- Block g of the world is just these cells, none of them frozen. -/
def Arr (w : World) (g : Nat) (t : TypeId) (cs : Array Value) : Prop := w.heap[g]? = some (.cells cs t (0, 0))
section
variable {w w' : World} {g : Nat} {t : TypeId} {cs : Array Value}
theorem Arr.lt (h : Arr w g t cs) : g < w.heap.size := (Array.getElem?_eq_some_iff.1 h).1
theorem Arr.new (w : World) (t : TypeId) (cs : Array Value) : Arr (w.alloc (.cells cs t)) w.heap.size t cs := by
  show (w.heap.push _)[w.heap.size]? = _
  simp
theorem Arr.alloc (h : Arr w g t cs) (o : Obj) : Arr (w.alloc o) g t cs := by
  have := h.lt
  unfold Arr at h ⊢
  show (w.heap.push _)[g]? = _
  rw [Array.getElem?_push, if_neg (by omega), h]
theorem Arr.new1 (w : World) (o : Obj) (t : TypeId) (cs : Array Value) : Arr ((w.alloc o).alloc (.cells cs t)) (w.heap.size + 1) t cs := by
  have := Arr.new (w.alloc o) t cs
  rwa [show (w.alloc o).heap.size = w.heap.size + 1 from Array.size_push _] at this
theorem Arr.new2 (w : World) (o o' : Obj) (t : TypeId) (cs : Array Value) : Arr (((w.alloc o).alloc o').alloc (.cells cs t)) (w.heap.size + 1 + 1) t cs := by
  have := Arr.new1 (w.alloc o) o' t cs
  rwa [show (w.alloc o).heap.size = w.heap.size + 1 from Array.size_push _] at this
theorem Arr.new1r (w : World) (o : Obj) (g : Nat) (r : Array Value) (t : TypeId) (cs : Array Value) : Arr (((w.alloc o).setRow g r).alloc (.cells cs t)) (w.heap.size + 1) t cs := by
  have := Arr.new ((w.alloc o).setRow g r) t cs
  rwa [size_setRow, show (w.alloc o).heap.size = w.heap.size + 1 from Array.size_push _] at this
theorem Arr.drewN (h : Arr w g t cs) (n : Nat) : Arr (w.drewN n) g t cs := h
theorem Arr.below {B : Nat} (h : Arr w g t cs) (hb : Below B w w') (hg : g < B) : Arr w' g t cs := (hb.block g hg).trans h
theorem Arr.far (h : Arr w g t cs) {g' j : Nat} (hne : g ≠ g') (v : Value) : Arr (w.setCell ⟨g', j, none⟩ v) g t cs := by
  unfold Arr at h ⊢
  simp [World.setCell, Array.getElem?_modify, h]
  intro e
  exact absurd e.symm hne
theorem Arr.put (h : Arr w g t cs) (j : Nat) (v : Value) : Arr (w.setCell ⟨g, j, none⟩ v) g t (cs.setIfInBounds j v) := by
  unfold Arr at h ⊢
  simp [World.setCell, Array.getElem?_modify, h]
theorem Arr.row (h : Arr w g t cs) (cs' : Array Value) : Arr (w.setRow g cs') g t cs' := setRow_heap w g cs cs' t _ h
theorem Arr.rowFar (h : Arr w g t cs) {g' : Nat} (hne : g ≠ g') (cs' : Array Value) : Arr (w.setRow g' cs') g t cs := (setRow_other w g' g cs' (by omega)).trans h
theorem Arr.cell (h : Arr w g t cs) (j : Nat) : w.cell? ⟨g, j, none⟩ = cs[j]? := cell_of_row w g j cs t (0, 0) h
theorem Arr.frozen (h : Arr w g t cs) (j : Nat) : w.frozen? ⟨g, j, none⟩ = false := by
  unfold Arr at h
  simp [World.frozen?, h]
end
/-- A number of an array. -/
theorem Arr.num {w : World} {g : Nat} {t : TypeId} {k : IntKind} {l : List Nat} (h : Arr w g t (nums k l)) {j : Nat} (hj : j < l.length) {x : Nat} (hx : l.getD j 0 = x) :
    w.cell? ⟨g, j, none⟩ = some (.int k (x : Int)) := by rw [h.cell, nums_at k l hj, hx]
/-- A number is put into an array. -/
theorem Arr.numPut {w : World} {g : Nat} {t : TypeId} {k : IntKind} {l : List Nat} (h : Arr w g t (nums k l)) (j n : Nat) : Arr (w.setCell ⟨g, j, none⟩ (.int k (n : Int))) g t (nums k (l.set j n)) := by
  have := h.put j (.int k (n : Int))
  rwa [nums_set] at this
theorem Arr.numNext {w : World} {g : Nat} {t : TypeId} {k : IntKind} {l l' : List Nat} (h : Arr w g t (nums k l)) (j n : Nat) (v : Int) (hv : v = (n : Int)) (hl : l.set j n = l') : Arr (w.setCell ⟨g, j, none⟩ (.int k v)) g t (nums k l') := by
  subst hv
  subst hl
  exact h.numPut j n
end Go.Proofs.Ytbkfkbacejhpeaa
