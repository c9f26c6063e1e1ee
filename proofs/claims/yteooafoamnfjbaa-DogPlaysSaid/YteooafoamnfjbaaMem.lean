/- Small general laws: what is left as it was where one block has changed; a block's zero bytes, told by halving; copy of a string's bytes into a block; a part of a block set to one value. No condition: nothing of the program stands in it but the types of bytes. -/
import Derived.Test.YteooafoamnfjbaaBytes
import Derived.Laws.CopyRow
import Derived.Deep.MidRow
import Derived.Deep.WholeRow
import Derived.Lib.BufferWrite
import Derived.Lib.SliceRun
namespace Go.Proofs.Yteooafoamnfjbaa
open Go.RowKit

/-- Only block g has changed. -/
theorem grown_row (w : World) (g : Nat) (cs : Array Value) : w.grownBy (w.setRow g cs) (some g) :=
  ⟨rfl, rfl, rfl, by rw [size_setRow]; exact Nat.le_refl _, fun k _ hk => setRow_other w g k cs (fun e => hk (by rw [e]))⟩
theorem grown_cell (w : World) (g j : Nat) (v : Value) : w.grownBy (w.setCell ⟨g, j, none⟩ v) (some g) :=
  ⟨rfl, rfl, rfl, ((Below.refl 0 w).setCell (p := ⟨g, j, none⟩) (Nat.zero_le _) v).size, fun k _ hk => heap_setCell_other w ⟨g, j, none⟩ k v (fun e => hk (by rw [e]))⟩
theorem grown_trans {w w' w'' : World} {r : Option Nat} (h : w.grownBy w' r) (h' : w'.grownBy w'' r) : w.grownBy w'' r :=
  ⟨h'.os.trans h.os, h'.tape.trans h.tape, h'.output.trans h.output, Nat.le_trans h.size h'.size, fun k hk hr => (h'.block k (Nat.lt_of_lt_of_le hk h.size) hr).trans (h.block k hk hr)⟩
theorem grown_refl (w : World) (r : Option Nat) : w.grownBy w r := ⟨rfl, rfl, rfl, Nat.le_refl _, fun _ _ _ => rfl⟩
theorem grown_below {w w' : World} {r : Option Nat} (h : Below w.heap.size w w') : w.grownBy w' r := ⟨h.os, h.tape, h.output, h.size, fun k hk _ => h.block k hk⟩
theorem below_grown {B g : Nat} {w w' w'' : World} (h : Below B w w') (hg : w'.grownBy w'' (some g)) (hB : B ≤ g) (hz : B ≤ w'.heap.size) : Below B w w'' :=
  h.grown hg hz (fun k hk => by injection hk with hk; omega)
theorem Arr.grown {w w' : World} {g t : Nat} {cs : Array Value} {r : Option Nat} (h : Arr w g t cs) (hg : w.grownBy w' r) (hr : some g ≠ r) : Arr w' g t cs := (hg.block g h.lt hr).trans h
theorem grown_alloc (w : World) (o : Obj) (r : Option Nat) : w.grownBy (w.alloc o) r := grown_below ((Below.refl _ _).alloc (Nat.le_refl _) o)
theorem grown_put {w w' : World} {g : Nat} (h : w.grownBy w' (some g)) (j : Nat) (v : Value) : w.grownBy (w'.setCell ⟨g, j, none⟩ v) (some g) := grown_trans h (grown_cell w' g j v)

theorem byteCells_length (l : List UInt8) : (Lib.byteCells l).length = l.length := by simp [Lib.byteCells]
/-- A zero byte's cell. -/
def isZ : Value → Bool
  | .int .u8 (.ofNat 0) => true
  | _ => false
theorem isZ_eq {v : Value} (h : isZ v = true) : v = .int .u8 ((0 : UInt8).toNat : Int) := by
  unfold isZ at h
  split at h
  · rfl
  · cases h
/-- 2^k such cells are taken off. -/
def offZ : Nat → List Value → Option (List Value)
  | 0, [] => none
  | 0, v :: r => if isZ v then some r else none
  | k + 1, l => match offZ k l with
    | none => none
    | some r => offZ k r
theorem offZ_eq (k : Nat) (l r : List Value) (h : offZ k l = some r) : l = Lib.byteCells (List.replicate (2 ^ k) 0) ++ r := by
  induction k generalizing l r with
  | zero =>
    match l, h with
    | v :: l, h =>
      unfold offZ at h
      split at h
      · injection h with h; subst h
        rw [isZ_eq (v := v) ‹_›]; rfl
      · cases h
  | succ k ih =>
    unfold offZ at h
    split at h
    · cases h
    · rename_i r' hr'
      rw [ih _ _ hr', ih _ _ h, ← List.append_assoc]
      unfold Lib.byteCells
      rw [← List.map_append, List.replicate_append_replicate, show 2 ^ k + 2 ^ k = 2 ^ (k + 1) by omega]
/-- copy of a string's bytes. -/
theorem run_copy_str {P : Program} (w : World) (dT sT ty elem : TypeId) (g o dLen dCap : Nat) (s : ByteArray) (n : Nat) (hn : min s.size dLen = n) (cur : Array Value) (t : TypeId)
    (hu : P.underlying dT = some (.slice elem)) (hs : (P.info? elem).map (·.size) = some 1) (hg : w.heap[g]? = some (.cells cur t (0, 0))) (hfit : o + n ≤ cur.size) :
    (Builtin.copy_ #[dT, sT] ty #[.slice (some ⟨g, o, none⟩) dLen dCap, .string s]).run P w =
      .ok (goInt n) (w.setRow g (cur.toList.take o ++ Lib.byteCells (s.data.toList.take n) ++ cur.toList.drop (o + n)).toArray) := by
  have hlen : (Lib.byteCells (s.data.toList.take n)).length = n := by rw [byteCells_length, List.length_take]; have : s.data.toList.length = s.size := rfl; omega
  have hst := run_storeCells_at P g o t (Lib.byteCells (s.data.toList.take n)) 0 cur w hg (by rw [hlen]; simpa using hfit) (Lib.byteCells_one _)
  have hmin : Nat.min s.size dLen = n := hn
  have htk : List.take n (List.map (fun b : UInt8 => Value.int IntKind.u8 (b.toNat : Int)) s.data.toList) = Lib.byteCells (s.data.toList.take n) := by
    unfold Lib.byteCells; rw [List.map_take]
  rw [hlen] at hst
  simp only [Nat.add_zero] at hst
  cases hq : P.info? elem with
  | none => simp [hq] at hs
  | some i =>
    simp [Builtin.copy_, run_underlying hu, Builtin.lenOf, Builtin.firstCells, sizeOf, typeInfo, hq, hmin]
    rw [htk, hst]
    simp [Result.andThen]
theorem copy_str {P : Program} {ops : Array Oper} {rest : List Oper} {o : Oper} {a : Act} {w : World} {Q : Exit → Act → World → Prop} (hgd : o.guard = none) (d x : Operand) (dT sT : TypeId)
    (ho : o.op = .call { callee := .builtin .copy, args := #[d, x], argTypes := #[dT, sT] }) (v u : Value) (hd : a.eval d = v) (hx : a.eval x = u) {v' : Value} {w' : World}
    (hr : (Builtin.copy_ #[dT, sT] o.type #[v, u]).run P w = .ok v' w') (h : wpList P ops Q rest (a.put o.dst v') w') : wpList P ops Q (o :: rest) a w := by
  refine wpList_plain hgd fun K hK => ?_
  unfold Oper.wp
  simp [execOp, ho, resolve, invoke, builtin, hd, hx, hr, Result.andThen]
  exact hK _ _ h
/-- clear of some cells of a block, one cell an element. -/
theorem run_clear_row {P : Program} (w : World) (t e ty : TypeId) (z : Value) (ht : P.underlying t = some (.slice e)) (hv : ∀ w, (zeroValue e).run P w = .ok z w) (hz : z.cells = #[z]) (h1 : z.oneCell' = true) (g o n c : Nat) (hn : 0 < n) (cur : Array Value) (tt : TypeId)
    (hg : Arr w g tt cur) (hfit : o + n ≤ cur.size) :
    (Builtin.clear_ #[t] ty #[.slice (some ⟨g, o, none⟩) n c]).run P w = .ok (.tuple #[]) (w.setRow g (cur.toList.take o ++ List.replicate n z ++ cur.toList.drop (o + n)).toArray) := by
  have hall : ∀ v ∈ List.replicate n z, v.oneCell' = true := by intro v hv'; rw [List.eq_of_mem_replicate hv']; exact h1
  have hc : ∀ j, j < n → (w.cell? ⟨g, o + j, none⟩).isSome = true := fun j hj => by rw [hg.cell, Array.getElem?_eq_getElem (by omega)]; rfl
  have hf : ∀ j, j < n → w.frozen? ⟨g, o + j, none⟩ = false := fun j _ => hg.frozen _
  rw [Lib.run_clear_slice w t e ty z ht hv hz h1 g o n c hn hc hf]
  have a1 := run_storeCells_at P g o tt (List.replicate n z) 0 cur w hg (by simpa using hfit) hall
  have a2 := run_storeCells_cells (P := P) g o (List.replicate n z) 0 w (by simpa using hc) (by simpa using hf) hall
  rw [a1] at a2
  rw [Nat.add_zero] at a2
  injection a2 with _ a3
  rw [← a3, List.length_replicate]
end Go.Proofs.Yteooafoamnfjbaa
