/- A Chip of package nor in memory: its cells, what stores make of them, the zero Chip. No condition. -/
import Derived.Test.YtidnbpehhpakcaaBytes
import Derived.Test.YtidnbpehhpakcaaNorPlain
import Derived.Laws.CopyRow
import Derived.Deep.MidRow
import Derived.Deep.WholeRow
import Derived.Lib.BufferWrite
import Derived.Great.BuildSlice
namespace Go.Proofs.Ytidnbpehhpakcaa
open Go.RowKit

/-- Only block g has changed. -/
theorem grown_row (w : World) (g : Nat) (cs : Array Value) : w.grownBy (w.setRow g cs) (some g) :=
  ⟨rfl, rfl, rfl, by rw [size_setRow]; exact Nat.le_refl _, fun k _ hk => setRow_other w g k cs (fun e => hk (by rw [e]))⟩
theorem grown_cell (w : World) (g j : Nat) (v : Value) : w.grownBy (w.setCell ⟨g, j, none⟩ v) (some g) :=
  ⟨rfl, rfl, rfl, ((Below.refl 0 w).setCell (p := ⟨g, j, none⟩) (Nat.zero_le _) v).size, fun k _ hk => heap_setCell_other w ⟨g, j, none⟩ k v (fun e => hk (by rw [e]))⟩
theorem grown_trans {w w' w'' : World} {r : Option Nat} (h : w.grownBy w' r) (h' : w'.grownBy w'' r) : w.grownBy w'' r :=
  ⟨h'.os.trans h.os, h'.tape.trans h.tape, h'.output.trans h.output, Nat.le_trans h.size h'.size, fun k hk hr => (h'.block k (Nat.lt_of_lt_of_le hk h.size) hr).trans (h.block k hk hr)⟩
theorem grown_refl (w : World) (r : Option Nat) : w.grownBy w r := ⟨rfl, rfl, rfl, Nat.le_refl _, fun _ _ _ => rfl⟩
theorem grown_below {w w' : World} {r : Option Nat} (h : Below w.heap.size w w') : w.grownBy w' r := ⟨h.os, h.tape, h.output, h.size, fun k hk _ => h.block k hk⟩
theorem below_grown {B g : Nat} {w w' w'' : World} (h : Below B w w') (hg : w'.grownBy w'' (some g)) (hB : B ≤ g) (hz : B ≤ w'.heap.size) : Below B w w'' :=
  h.grown hg hz (fun k hk => by injection hk with hk; omega)
theorem Arr.grown {w w' : World} {g t : Nat} {cs : Array Value} {r : Option Nat} (h : Arr w g t cs) (hg : w.grownBy w' r) (hr : some g ≠ r) : Arr w' g t cs := (hg.block g h.lt hr).trans h
theorem grown_alloc (w : World) (o : Obj) (r : Option Nat) : w.grownBy (w.alloc o) r := grown_below ((Below.refl _ _).alloc (Nat.le_refl _) o)
theorem grown_put {w w' : World} {g : Nat} (h : w.grownBy w' (some g)) (j : Nat) (v : Value) : w.grownBy (w'.setCell ⟨g, j, none⟩ v) (some g) := grown_trans h (grown_cell w' g j v)

/-- The cells of a Chip. -/
def chipC (m on : Bool) (ops left : Int) (torn : ByteArray) (B : List UInt8) : Array Value :=
  (Value.bool m :: .bool on :: .int .i64 ops :: .int .i64 left :: .string torn :: Lib.byteCells B).toArray
theorem byteCells_length (l : List UInt8) : (Lib.byteCells l).length = l.length := by simp [Lib.byteCells]
theorem chipC_size (m on : Bool) (ops left : Int) (torn : ByteArray) (B : List UInt8) : (chipC m on ops left torn B).size = 5 + B.length := by
  unfold chipC; rw [List.size_toArray]; simp only [List.length_cons, byteCells_length]; omega
section
variable {w : World} {g t : Nat} {m on : Bool} {ops left : Int} {torn : ByteArray} {B : List UInt8}
theorem chip_made (h : Arr w g t (chipC m on ops left torn B)) : w.cell? ⟨g, 0, none⟩ = some (.bool m) := by rw [h.cell]; rfl
theorem chip_on (h : Arr w g t (chipC m on ops left torn B)) : w.cell? ⟨g, 1, none⟩ = some (.bool on) := by rw [h.cell]; rfl
theorem chip_ops (h : Arr w g t (chipC m on ops left torn B)) : w.cell? ⟨g, 2, none⟩ = some (.int .i64 ops) := by rw [h.cell]; rfl
theorem chip_left (h : Arr w g t (chipC m on ops left torn B)) : w.cell? ⟨g, 3, none⟩ = some (.int .i64 left) := by rw [h.cell]; rfl
theorem chip_torn (h : Arr w g t (chipC m on ops left torn B)) : w.cell? ⟨g, 4, none⟩ = some (.string torn) := by rw [h.cell]; rfl
theorem chip_byte (h : Arr w g t (chipC m on ops left torn B)) {j : Nat} (hj : j < B.length) : w.cell? ⟨g, 5 + j, none⟩ = some (.int .u8 ((B.getD j 0).toNat : Int)) := by
  rw [h.cell]
  unfold chipC
  rw [List.getElem?_toArray, show 5 + j = j + 1 + 1 + 1 + 1 + 1 by omega]
  simp only [List.getElem?_cons_succ]
  exact byteCells_getD B hj
theorem chip_setOn (h : Arr w g t (chipC m on ops left torn B)) (b : Bool) : Arr (w.setCell ⟨g, 1, none⟩ (.bool b)) g t (chipC m b ops left torn B) := by
  have := h.put 1 (.bool b)
  rwa [show (chipC m on ops left torn B).setIfInBounds 1 (.bool b) = chipC m b ops left torn B by unfold chipC; apply Array.ext'; simp] at this
theorem chip_setOps (h : Arr w g t (chipC m on ops left torn B)) (x : Int) : Arr (w.setCell ⟨g, 2, none⟩ (.int .i64 x)) g t (chipC m on x left torn B) := by
  have := h.put 2 (.int .i64 x)
  rwa [show (chipC m on ops left torn B).setIfInBounds 2 (.int .i64 x) = chipC m on x left torn B by unfold chipC; apply Array.ext'; simp] at this
theorem chip_setLeft (h : Arr w g t (chipC m on ops left torn B)) (x : Int) : Arr (w.setCell ⟨g, 3, none⟩ (.int .i64 x)) g t (chipC m on ops x torn B) := by
  have := h.put 3 (.int .i64 x)
  rwa [show (chipC m on ops left torn B).setIfInBounds 3 (.int .i64 x) = chipC m on ops x torn B by unfold chipC; apply Array.ext'; simp] at this
theorem chip_setTorn (h : Arr w g t (chipC m on ops left torn B)) (x : ByteArray) : Arr (w.setCell ⟨g, 4, none⟩ (.string x)) g t (chipC m on ops left x B) := by
  have := h.put 4 (.string x)
  rwa [show (chipC m on ops left torn B).setIfInBounds 4 (.string x) = chipC m on ops left x B by unfold chipC; apply Array.ext'; simp] at this
theorem chip_setByte (h : Arr w g t (chipC m on ops left torn B)) (j : Nat) (x : UInt8) (y : Int) (hy : y = (x.toNat : Int)) : Arr (w.setCell ⟨g, 5 + j, none⟩ (.int .u8 y)) g t (chipC m on ops left torn (B.set j x)) := by
  subst hy
  have := h.put (5 + j) (.int .u8 (x.toNat : Int))
  rwa [show (chipC m on ops left torn B).setIfInBounds (5 + j) (.int .u8 (x.toNat : Int)) = chipC m on ops left torn (B.set j x) by
    unfold chipC Lib.byteCells; apply Array.ext'; rw [show 5 + j = j + 1 + 1 + 1 + 1 + 1 by omega]; simp [List.map_set]] at this
/-- All bytes, or some of them, as a string. -/
theorem chip_string (h : Arr w g t (chipC m on ops left torn B)) (a n cap : Nat) (hn : a + n ≤ B.length) :
    (convert 82 9 (.slice (some ⟨g, 5 + a, none⟩) n cap)).run Try.prog w = .ok (.string ⟨((B.drop a).take n).toArray⟩) w := by
  have hl : ((B.drop a).take n).length = n := by rw [List.length_take, List.length_drop]; omega
  have := run_convert_bytes_back (P := Try.prog) w 82 9 5 ⟨g, 5 + a, none⟩ cap ((B.drop a).take n) Try.underlying82 Try.underlying5 Try.underlying9 (fun j hj => by
    have hjn : j < n := by omega
    have e : (⟨g, 5 + a, none⟩ : Addr).add j = ⟨g, 5 + (a + j), none⟩ := by unfold Addr.add; split <;> simp_all <;> omega
    rw [e, chip_byte h (by omega), getD_lt _ (by omega)]
    simp)
  rwa [hl] at this
end

/-- A zero Chip's cells. -/
def isZ : Value → Bool
  | .int .u8 (.ofNat 0) => true
  | _ => false
theorem isZ_eq {v : Value} (h : isZ v = true) : v = .int .u8 ((0 : UInt8).toNat : Int) := by
  unfold isZ at h
  split at h
  · rfl
  · cases h
/-- 2^k such cells are taken off. -/
def offZ : Nat → List Value → Option (List Value)
  | 0, [] => none
  | 0, v :: r => if isZ v then some r else none
  | k + 1, l => match offZ k l with
    | none => none
    | some r => offZ k r
theorem offZ_eq (k : Nat) (l r : List Value) (h : offZ k l = some r) : l = Lib.byteCells (List.replicate (2 ^ k) 0) ++ r := by
  induction k generalizing l r with
  | zero =>
    match l, h with
    | v :: l, h =>
      unfold offZ at h
      split at h
      · injection h with h; subst h
        rw [isZ_eq (v := v) ‹_›]; rfl
      · cases h
  | succ k ih =>
    unfold offZ at h
    split at h
    · cases h
    · rename_i r' hr'
      rw [ih _ _ hr', ih _ _ h, ← List.append_assoc]
      unfold Lib.byteCells
      rw [← List.map_append, List.replicate_append_replicate, show 2 ^ k + 2 ^ k = 2 ^ (k + 1) by omega]
/-- Is a list just 2^14 + 2^13 such cells? -/
def allZ (l : List Value) : Bool := match offZ 14 l with
  | none => false
  | some r => match offZ 13 r with
    | some [] => true
    | _ => false
theorem allZ_eq {l : List Value} (h : allZ l = true) : l = Lib.byteCells (List.replicate 24576 0) := by
  unfold allZ at h
  split at h
  · cases h
  · rename_i r hr
    split at h
    · rename_i hr2
      rw [offZ_eq _ _ _ hr, offZ_eq _ _ _ hr2, List.append_nil]
      unfold Lib.byteCells
      rw [← List.map_append, List.replicate_append_replicate]
    · cases h
def isChip0 : Option Value → Bool
  | some (.agg ⟨.bool false :: .bool false :: .int .i64 (.ofNat 0) :: .int .i64 (.ofNat 0) :: .string ⟨⟨[]⟩⟩ :: l⟩) => allZ l
  | _ => false
/-- A zero Chip. -/
def chip0 : Array Value := chipC false false 0 0 ⟨#[]⟩ (List.replicate 24576 0)
theorem isChip0_eq {v : Option Value} (h : isChip0 v = true) : v = some (.agg chip0) := by
  unfold isChip0 at h
  split at h
  · rw [allZ_eq h]; rfl
  · cases h
theorem chip0_zero : Try.t75.zero = some (.agg chip0) := isChip0_eq (by kernel_rfl)
end Go.Proofs.Ytidnbpehhpakcaa
