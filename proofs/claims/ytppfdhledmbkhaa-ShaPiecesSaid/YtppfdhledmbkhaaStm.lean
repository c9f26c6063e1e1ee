/- A Stream of package sha in memory: its cells, and stores into parts of them; copy from a string. No condition. -/
import Derived.Test.YtppfdhledmbkhaaBytes
import Derived.Test.YtppfdhledmbkhaaShaD
import Derived.Laws.CopyRow
import Derived.Deep.MidRow
namespace Go.Proofs.Ytppfdhledmbkhaa
open Go.RowKit

def n32 (l : List Nat) : List Value := l.map fun (n : Nat) => Value.int .u32 (n : Int)
def n8 (l : List Nat) : List Value := l.map fun (n : Nat) => Value.int .u8 (n : Int)
theorem n32_length (l : List Nat) : (n32 l).length = l.length := List.length_map _
theorem n8_length (l : List Nat) : (n8 l).length = l.length := List.length_map _
theorem n32_array (l : List Nat) : (n32 l).toArray = nums .u32 l := rfl
theorem n8_array (l : List Nat) : (n8 l).toArray = nums .u8 l := rfl
/-- The cells of a Stream. -/
def strm (c : Nat) (S R : List Nat) : Array Value := (Value.int .i64 (c : Int) :: (n32 S ++ n8 R)).toArray
theorem strm_size (c : Nat) (S R : List Nat) : (strm c S R).size = 1 + S.length + R.length := by
  unfold strm; rw [List.size_toArray, List.length_cons, List.length_append, n32_length, n8_length]; omega
theorem strm_count (c c' : Nat) (S R : List Nat) : (strm c S R).setIfInBounds 0 (.int .i64 (c' : Int)) = strm c' S R := by
  unfold strm; apply Array.ext'; simp
theorem strm_sums (c : Nat) (S S' R : List Nat) (h : S.length = 8) : ((strm c S R).toList.take 1 ++ n32 S' ++ (strm c S R).toList.drop (1 + 8)).toArray = strm c S' R := by
  unfold strm
  have e : (Value.int .i64 (c : Int) :: (n32 S ++ n8 R)).toArray.toList = Value.int .i64 (c : Int) :: (n32 S ++ n8 R) := rfl
  rw [e, List.take_succ_cons, List.take_zero, show 1 + 8 = 8 + 1 from rfl, List.drop_succ_cons, List.drop_left' (by rw [n32_length, h])]
  rfl
theorem strm_rest (c : Nat) (S R X : List Nat) (p : Nat) (h : S.length = 8) : ((strm c S R).toList.take (9 + p) ++ n8 X ++ (strm c S R).toList.drop (9 + p + X.length)).toArray = strm c S (R.take p ++ X ++ R.drop (p + X.length)) := by
  unfold strm
  have e : (Value.int .i64 (c : Int) :: (n32 S ++ n8 R)).toArray.toList = Value.int .i64 (c : Int) :: (n32 S ++ n8 R) := rfl
  have e1 : 9 + p = 8 + p + 1 := by omega
  have e2 : 9 + p + X.length = 8 + (p + X.length) + 1 := by omega
  rw [e, e2, e1, List.take_succ_cons, List.drop_succ_cons]
  have e3 : (n32 S ++ n8 R).take (8 + p) = n32 S ++ (n8 R).take p := by
    have := List.take_length_add_append (l₁ := n32 S) (l₂ := n8 R) p
    rwa [n32_length, h] at this
  have e4 : (n32 S ++ n8 R).drop (8 + (p + X.length)) = (n8 R).drop (p + X.length) := by
    have := List.drop_length_add_append (l₁ := n32 S) (l₂ := n8 R) (p + X.length)
    rwa [n32_length, h] at this
  rw [e3, e4]
  congr 1
  simp [n8]
section
variable {w : World} {g t c : Nat} {S R : List Nat}
theorem stm_count (h : Arr w g t (strm c S R)) : w.cell? ⟨g, 0, none⟩ = some (.int .i64 (c : Int)) := by rw [h.cell]; rfl
theorem stm_sums (h : Arr w g t (strm c S R)) : w.rangeAt g 1 (n32 S) := fun j v hv => by
  rw [h.cell]
  unfold strm
  rw [List.getElem?_toArray, Nat.add_comm, List.getElem?_cons_succ, List.getElem?_append_left (List.getElem?_eq_some_iff.1 hv).1, hv]
theorem stm_rest (h : Arr w g t (strm c S R)) (hS : S.length = 8) : w.rangeAt g 9 (n8 R) := fun j v hv => by
  rw [h.cell]
  unfold strm
  rw [List.getElem?_toArray, show 9 + j = 8 + j + 1 by omega, List.getElem?_cons_succ, List.getElem?_append_right (by rw [n32_length, hS]; omega), n32_length, hS, Nat.add_sub_cancel_left, hv]
end
/-- A whole array that is stored into a part of a block. -/
theorem store_part {P : Program} {ops : Array Oper} {rest : List Oper} {op : Oper} {a : Act} {w : World} {Q : Exit → Act → World → Prop} (hgd : op.guard = none) (ty : TypeId) (x y : Operand) (ho : op.op = .store ty x y)
    (g o : Nat) (cells : List Value) (hx : a.eval x = .pointer (some ⟨g, o, none⟩)) (hy : a.eval y = .agg cells.toArray) {t : TypeId} {cs : Array Value} (hA : Arr w g t cs) (hfit : o + cells.length ≤ cs.size)
    (hi : (P.info? ty).map (·.size) = some cells.length) (h1 : ∀ v ∈ cells, v.oneCell' = true)
    (h : wpList P ops Q rest (a.put op.dst undef) (w.setRow g (cs.toList.take o ++ cells ++ cs.toList.drop (o + cells.length)).toArray)) : wpList P ops Q (op :: rest) a w := by
  refine wpList_plain hgd fun K hK => ?_
  have hst := run_storeCells_at P g o t cells 0 cs w hA (by simpa using hfit) h1
  rw [Nat.add_zero] at hst
  have hrun : (storeVar ty ⟨g, o, none⟩ (.agg cells.toArray)).run P w = .ok () (w.setRow g (cs.toList.take o ++ cells ++ cs.toList.drop (o + cells.length)).toArray) := by
    cases hq : P.info? ty with
    | none => simp [hq] at hi
    | some i =>
      have hs : cells.length = i.size := by simp [hq] at hi; omega
      simp [storeVar, sizeOf, typeInfo, hq, Value.cells, hs] at hst ⊢
      exact hst
  unfold Oper.wp execOp
  simp only [ho, hx, hy, Instr.storeAt, Instr.sureAddr, Sem.run_bind, Sem.run_pure, Result.andThen_ok, hrun]
  exact hK _ _ h
/-- The same in a region that draws its order; and a load. -/
theorem step_store_part {P : Program} {ops : Array Oper} {op : Oper} {a : Act} {w : World} {K : Act → World → Prop} {Q : Exit → Act → World → Prop} {E : Prop} (hgd : op.guard = none) (ty : TypeId) (x y : Operand) (ho : op.op = .store ty x y)
    (g o : Nat) (cells : List Value) (hx : a.eval x = .pointer (some ⟨g, o, none⟩)) (hy : a.eval y = .agg cells.toArray) {t : TypeId} {cs : Array Value} (hA : Arr w g t cs) (hfit : o + cells.length ≤ cs.size)
    (hi : (P.info? ty).map (·.size) = some cells.length) (h1 : ∀ v ∈ cells, v.oneCell' = true)
    (h : K (a.put op.dst undef) (w.setRow g (cs.toList.take o ++ cells ++ cs.toList.drop (o + cells.length)).toArray)) : if Region.wanted op (yielded ops a.tmps) = true then op.wp P a w K Q else E := by
  have hw : Region.wanted op (yielded ops a.tmps) = true := by simp [Region.wanted, hgd]
  rw [if_pos hw]
  have hst := run_storeCells_at P g o t cells 0 cs w hA (by simpa using hfit) h1
  rw [Nat.add_zero] at hst
  have hrun : (storeVar ty ⟨g, o, none⟩ (.agg cells.toArray)).run P w = .ok () (w.setRow g (cs.toList.take o ++ cells ++ cs.toList.drop (o + cells.length)).toArray) := by
    cases hq : P.info? ty with
    | none => simp [hq] at hi
    | some i =>
      have hs : cells.length = i.size := by simp [hq] at hi; omega
      simp [storeVar, sizeOf, typeInfo, hq, Value.cells, hs] at hst ⊢
      exact hst
  unfold Oper.wp execOp
  simp only [ho, hx, hy, Instr.storeAt, Instr.sureAddr, Sem.run_bind, Sem.run_pure, Result.andThen_ok, hrun]
  exact h
theorem step_load_mid {P : Program} {ops : Array Oper} {op : Oper} {a : Act} {w : World} {K : Act → World → Prop} {Q : Exit → Act → World → Prop} {E : Prop} (hgd : op.guard = none) (ty : TypeId) (x : Operand) (ho : op.op = .load ty x)
    (b o : Nat) (hx : a.eval x = .pointer (some ⟨b, o, none⟩)) (cs : List Value) (d : TypeDesc) (hc : w.rangeAt b o cs) (hu : P.underlying ty = some d) (hd : d.isRow = true) (hi : (P.info? ty).map (·.size) = some cs.length)
    (h : K (a.put op.dst (.agg cs.toArray)) w) : if Region.wanted op (yielded ops a.tmps) = true then op.wp P a w K Q else E := by
  have hw : Region.wanted op (yielded ops a.tmps) = true := by simp [Region.wanted, hgd]
  rw [if_pos hw]
  exact wp_load_mid ty x ho b o hx cs d hc hu hd hi h
/-- Cells that are put into a block that is known. -/
theorem setCells_row {w : World} {g t : Nat} {cs : Array Value} (hA : Arr w g t cs) (o : Nat) (vs : List Value) (hfit : o + vs.length ≤ cs.size) (h1 : ∀ v ∈ vs, v.oneCell' = true) :
    w.setCells g o vs = w.setRow g (cs.toList.take o ++ vs ++ cs.toList.drop (o + vs.length)).toArray := by
  have a1 := run_storeCells_at Try.prog g o t vs 0 cs w hA (by simpa using hfit) h1
  have a2 := run_storeCells_cells (P := Try.prog) g o vs 0 w (fun j hj => by rw [hA.cell, Array.getElem?_eq_getElem (by omega)]; rfl) (fun j hj => hA.frozen _) h1
  rw [a1] at a2
  rw [Nat.add_zero] at a2
  injection a2 with _ a3
  exact a3.symm
theorem stm_there {w : World} {g t c : Nat} {S R : List Nat} (h : Arr w g t (strm c S R)) (hS : S.length = 8) : w.there g 1 8 := fun j hj =>
  ⟨by rw [h.cell, Array.getElem?_eq_getElem (by rw [strm_size]; omega)]; rfl, h.frozen _⟩
theorem n32_one (l : List Nat) : ∀ v ∈ n32 l, v.oneCell' = true := by
  intro v hv
  simp only [n32, List.mem_map] at hv
  obtain ⟨b, _, rfl⟩ := hv
  rfl
/-- copy of a string's first bytes. -/
theorem run_copy_str {P : Program} (w : World) (dT sT ty elem : TypeId) (g o dLen dCap : Nat) (s : ByteArray) (n : Nat) (hn : min s.size dLen = n) (cur : Array Value) (t : TypeId)
    (hu : P.underlying dT = some (.slice elem)) (hs : (P.info? elem).map (·.size) = some 1) (hg : w.heap[g]? = some (.cells cur t (0, 0))) (hfit : o + n ≤ cur.size) :
    (Builtin.copy_ #[dT, sT] ty #[.slice (some ⟨g, o, none⟩) dLen dCap, .string s]).run P w =
      .ok (goInt n) (w.setRow g (cur.toList.take o ++ n8 (bys (s.data.toList.take n)) ++ cur.toList.drop (o + n)).toArray) := by
  have hlen : (n8 (bys (s.data.toList.take n))).length = n := by rw [n8_length, bys_length, List.length_take]; have : s.data.toList.length = s.size := rfl; omega
  have hone : ∀ v ∈ n8 (bys (s.data.toList.take n)), v.oneCell' = true := by
    intro v hv
    simp only [n8, List.mem_map] at hv
    obtain ⟨b, _, rfl⟩ := hv
    rfl
  have hst := run_storeCells_at P g o t (n8 (bys (s.data.toList.take n))) 0 cur w hg (by rw [hlen]; simpa using hfit) hone
  have hmin : Nat.min s.size dLen = n := hn
  have htk : List.take n (List.map (fun b : UInt8 => Value.int IntKind.u8 (b.toNat : Int)) s.data.toList) = n8 (bys (s.data.toList.take n)) := by
    unfold n8 bys; rw [List.map_map, List.map_take]; rfl
  rw [hlen] at hst
  simp only [Nat.add_zero] at hst
  cases hq : P.info? elem with
  | none => simp [hq] at hs
  | some i =>
    simp [Builtin.copy_, run_underlying hu, Builtin.lenOf, Builtin.firstCells, sizeOf, typeInfo, hq, hmin]
    rw [htk, hst]
    simp [Result.andThen]
theorem copy_str {P : Program} {ops : Array Oper} {rest : List Oper} {o : Oper} {a : Act} {w : World} {Q : Exit → Act → World → Prop} (hgd : o.guard = none) (d x : Operand) (dT sT : TypeId)
    (ho : o.op = .call { callee := .builtin .copy, args := #[d, x], argTypes := #[dT, sT] }) (v u : Value) (hd : a.eval d = v) (hx : a.eval x = u) {v' : Value} {w' : World}
    (hr : (Builtin.copy_ #[dT, sT] o.type #[v, u]).run P w = .ok v' w') (h : wpList P ops Q rest (a.put o.dst v') w') : wpList P ops Q (o :: rest) a w := by
  refine wpList_plain hgd fun K hK => ?_
  unfold Oper.wp
  simp [execOp, ho, resolve, invoke, builtin, hd, hx, hr, Result.andThen]
  exact hK _ _ h
/-- Only block g has changed. -/
theorem grown_row (w : World) (g : Nat) (cs : Array Value) : w.grownBy (w.setRow g cs) (some g) :=
  ⟨rfl, rfl, rfl, by rw [size_setRow]; exact Nat.le_refl _, fun k _ hk => setRow_other w g k cs (fun e => hk (by rw [e]))⟩
theorem grown_cell (w : World) (g j : Nat) (v : Value) : w.grownBy (w.setCell ⟨g, j, none⟩ v) (some g) :=
  ⟨rfl, rfl, rfl, ((Below.refl 0 w).setCell (p := ⟨g, j, none⟩) (Nat.zero_le _) v).size, fun k _ hk => heap_setCell_other w ⟨g, j, none⟩ k v (fun e => hk (by rw [e]))⟩
theorem grown_trans {w w' w'' : World} {r : Option Nat} (h : w.grownBy w' r) (h' : w'.grownBy w'' r) : w.grownBy w'' r :=
  ⟨h'.os.trans h.os, h'.tape.trans h.tape, h'.output.trans h.output, Nat.le_trans h.size h'.size, fun k hk hr => (h'.block k (Nat.lt_of_lt_of_le hk h.size) hr).trans (h.block k hk hr)⟩
theorem grown_refl (w : World) (r : Option Nat) : w.grownBy w r := ⟨rfl, rfl, rfl, Nat.le_refl _, fun _ _ _ => rfl⟩
theorem grown_below {w w' : World} {r : Option Nat} (h : Below w.heap.size w w') : w.grownBy w' r := ⟨h.os, h.tape, h.output, h.size, fun k hk _ => h.block k hk⟩
theorem below_grown {B g : Nat} {w w' w'' : World} (h : Below B w w') (hg : w'.grownBy w'' (some g)) (hB : B ≤ g) (hz : B ≤ w'.heap.size) : Below B w w'' :=
  h.grown hg hz (fun k hk => by injection hk with hk; omega)
theorem Arr.grown {w w' : World} {g t : Nat} {cs : Array Value} {r : Option Nat} (h : Arr w g t cs) (hg : w.grownBy w' r) (hr : some g ≠ r) : Arr w' g t cs := (hg.block g h.lt hr).trans h
end Go.Proofs.Ytppfdhledmbkhaa
