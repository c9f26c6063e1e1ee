/- Bytes that a call has converted or made and appends to; a load of a whole array in a region that draws its order. Conditions: fewer than 2^40 bytes. -/
import Derived.Test.YteooafoamnfjbaaProg
import Derived.Test.YteooafoamnfjbaaArr
import Derived.Test.YteooafoamnfjbaaKit
import Derived.Lib.BufferRead
import Derived.ArgAppend
import Derived.Laws.IdiomStrings
import Derived.StillTailTactics
import Derived.Deep.MidRow
namespace Go.Proofs.Yteooafoamnfjbaa
open Go.RowKit

/-- The slice v, in a block of the call's own, reads as the bytes l; all its cells up to the capacity may be written. -/
def BRow (base : Nat) (w : World) (v : Value) (l : List UInt8) : Prop :=
  ∃ g cap, v = .slice (some ⟨g, 0, none⟩) l.length cap ∧ base ≤ g ∧ g < w.heap.size ∧ l.length ≤ cap ∧ (∀ j, j < l.length → w.cell? ⟨g, j, none⟩ = some (.int .u8 ((l.getD j 0).toNat : Int))) ∧
    ∀ j, j < cap → (w.cell? ⟨g, j, none⟩).isSome = true ∧ w.frozen? ⟨g, j, none⟩ = false
theorem elem_byte : Hid (ElemIs Try.prog 36 5 (.int .u8 0) 1) := elemIs_mk Try.underlying36 rfl (by kernel_rfl)
theorem byteCells_getD (l : List UInt8) {j : Nat} (h : j < l.length) : (Lib.byteCells l)[j]? = some (.int .u8 ((l.getD j 0).toNat : Int)) := by
  simp [Lib.byteCells, h]

/-- []byte(s). -/
theorem brow_conv (w : World) (s : ByteArray) (cap : Nat) (t : TypeId) (h : s.size ≤ cap) :
    BRow w.heap.size (w.alloc (.cells (bytesRow s cap) t ((bytesRow s cap).size, (bytesRow s cap).size + 1))) (.slice (some ⟨w.heap.size, 0, none⟩) s.size cap) s.data.toList := by
  have hz : (bytesRow s cap).size = cap := by
    unfold bytesRow
    rw [Array.size_append, Array.size_map, Array.size_replicate]
    have : s.data.size = s.size := rfl
    omega
  refine ⟨w.heap.size, cap, by simp, Nat.le_refl _, by simp, by simpa using h, fun j hj => ?_, fun j hj => ⟨?_, ?_⟩⟩
  · have hj' : j < s.data.size := by simpa using hj
    rw [World.cell?_alloc_mark, bytesRow_at s cap j hj']
    simp [List.getD, Array.getElem?_eq_getElem hj']
  · rw [World.cell?_alloc_mark, Array.getElem?_eq_getElem (by omega)]; rfl
  · rw [World.frozen?_alloc_mark]
    have : ¬ (bytesRow s cap).size ≤ j := by omega
    simp [this]
theorem BRow.drew {base : Nat} {w : World} {v : Value} {l : List UInt8} (h : BRow base w v l) : BRow base w.drew v l := h
theorem BRow.owns {base : Nat} {w : World} {v : Value} {l : List UInt8} (h : w.ownsRow base 5 1 v l.length (Lib.byteCells l)) (h0 : l ≠ []) : BRow base w v l := by
  obtain ⟨hlen, ⟨rfl, hn⟩ | ⟨g, cap, cur, rfl, hg, hc, hle, _, hz, ht⟩⟩ := h
  · exact absurd (List.length_eq_zero_iff.1 hn) h0
  · refine ⟨g, cap, rfl, hg, (Array.getElem?_eq_some_iff.1 hc).1, hle, fun j hj => ?_, fun j hj => ⟨?_, frozen_of_row w g j cur _ hc⟩⟩
    · rw [cell_of_row w g j cur _ _ hc, ← byteCells_getD l hj, ← ht, List.getElem?_take_of_lt (by omega), Array.getElem?_toList]
    · rw [cell_of_row w g j cur _ _ hc, Array.getElem?_eq_getElem (by omega)]; rfl

/-- 'b = append(b, u)'. -/
theorem brow_append {ops : Array Oper} {rest : List Oper} {o : Oper} {a : Act} {Q : Exit → Act → World → Prop} {w : World} (hgd : o.guard = none) (s x : Operand)
    (ho : o.op = .call { callee := .builtin .append, args := #[s, x], argTypes := #[36, 36] })
    (base : Nat) (v : Value) (l : List UInt8) (u : UInt8) (hs : a.eval s = v) (hr : BRow base w v l) (H : Nat) (hH : w.heap.size = H) (hx : a.eval x = .slice (some ⟨H, 0, none⟩) 1 1)
    (hn : l.length + 1 ≤ 1099511627776) (hb0 : base ≤ w.heap.size)
    (h : ∀ v' w', BRow base w' v' (l ++ [u]) → Below base w w' → wpList Try.prog ops Q rest (a.put o.dst v') w') : wpList Try.prog ops Q (o :: rest) a (w.alloc (.cells #[.int .u8 (u.toNat : Int)] 5)) := by
  subst hH
  obtain ⟨h0, hz, i, hi, hz0, hz1, hz2⟩ := elem_byte.out
  obtain ⟨g, cap, rfl, hg, hgl, hle, hc, hf⟩ := hr
  have hc' : ∀ j, j < l.length → (w.alloc (.cells #[.int .u8 (u.toNat : Int)] 5)).cell? ⟨g, j, none⟩ = some (.int .u8 ((l.getD j 0).toNat : Int)) := fun j hj => by
    rw [World.cell?_alloc_lt _ _ _ hgl]; exact hc j hj
  have hf' : ∀ j, j < cap → ((w.alloc (.cells #[.int .u8 (u.toNat : Int)] 5)).cell? ⟨g, j, none⟩).isSome = true ∧ (w.alloc (.cells #[.int .u8 (u.toNat : Int)] 5)).frozen? ⟨g, j, none⟩ = false := fun j hj => by
    rw [World.cell?_alloc_lt _ _ _ hgl, World.frozen?_alloc_past _ _ _ hgl]; exact hf j hj
  have hbl : Below base w (w.alloc (.cells #[.int .u8 (u.toNat : Int)] 5)) := (Below.refl _ _).alloc hb0 _
  have hsz : (w.alloc (.cells #[.int .u8 (u.toNat : Int)] 5)).heap.size = w.heap.size + 1 := Array.size_push _
  have hnew : (w.alloc (.cells #[.int .u8 (u.toNat : Int)] 5)).cell? ⟨w.heap.size, 0, none⟩ = some (.int .u8 (u.toNat : Int)) := by rw [World.cell?_alloc_mark]; rfl
  generalize w.alloc (.cells #[.int .u8 (u.toNat : Int)] 5) = W at *
  refine wpList_append_arg W hgd s x 36 ho 5 i (.int .u8 0) 1 1 h0 hi hz0 hz1 hz2 hz (by decide) g 0 l.length cap (Lib.byteCells l) hs (by simp [Lib.byteCells]) ?_ ⟨w.heap.size, 0, none⟩ 1 1 [.int .u8 (u.toNat : Int)] hx rfl ?_ ?_ ?_ (by unfold maxLen; omega) (by omega) ?_ ?_
  · intro j y hj
    have hjl : j < l.length := by have := (List.getElem?_eq_some_iff.1 hj).1; simpa [Lib.byteCells] using this
    rw [byteCells_getD l hjl] at hj
    rw [Nat.zero_add, hc' j hjl, hj]
  · intro j y hj
    match j, hj with
    | 0, hj => simp at hj; subst hj; simpa [Addr.add] using hnew
  · intro y hy; simp at hy; subst hy; rfl
  · intro hroom j hj
    obtain rfl : j = 0 := by simp at hj; omega
    have := hf' l.length (by omega)
    simpa using this
  · intro hroom
    have e1 : 0 + l.length * 1 = l.length := by omega
    rw [e1]
    show wpList _ _ _ _ _ (W.setCell ⟨g, l.length, none⟩ (.int .u8 (u.toNat : Int)))
    have hsm := World.cell?_setCell_same W ⟨g, l.length, none⟩ (.int .u8 (u.toNat : Int)) (Option.isSome_iff_exists.1 (hf' l.length (by omega)).1).choose_spec
    refine h _ _ ⟨g, cap, by simp, hg, ?_, by simp; omega, fun j hj => ?_, fun j hj => ?_⟩ ((hbl.setCell (p := ⟨g, l.length, none⟩) hg _))
    · have := ((Below.refl 0 W).setCell (p := ⟨g, l.length, none⟩) (Nat.zero_le _) (.int .u8 (u.toNat : Int))).size
      omega
    · rw [List.length_append] at hj
      by_cases e : j = l.length
      · subst e
        rw [hsm]
        simp [List.getD]
      · have hjl : j < l.length := by simp at hj; omega
        rw [World.cell?_setCell_other W _ _ _ (fun he => e (congrArg Addr.off he).symm), hc' j hjl, List.getD_eq_getElem?_getD, List.getD_eq_getElem?_getD, List.getElem?_append_left hjl]
    · refine ⟨?_, (World.frozen?_setCell W _ _ _).trans (hf' j hj).2⟩
      by_cases e : j = l.length
      · subst e; rw [hsm]; rfl
      · rw [World.cell?_setCell_other W _ _ _ (fun he => e (congrArg Addr.off he).symm)]; exact (hf' j hj).1
  · intro _ v' w' hown hgr
    have hown' : w'.ownsRow base 5 1 v' (l ++ [u]).length (Lib.byteCells (l ++ [u])) := by
      have e : Lib.byteCells (l ++ [u]) = Lib.byteCells l ++ [.int .u8 (u.toNat : Int)] := by simp [Lib.byteCells]
      rw [e, List.length_append]
      obtain ⟨q1, q2 | ⟨g', c', cur, q3, q4, q5⟩⟩ := hown
      · exact ⟨q1, .inl q2⟩
      · exact ⟨q1, .inr ⟨g', c', cur, q3, by omega, q5⟩⟩
    exact h _ _ (BRow.owns hown' (by simp)) (hbl.grown hgr (by omega) (fun k hk => by cases hk))

/-- string(b). -/
theorem brow_string {base : Nat} {w : World} {v : Value} {l : List UInt8} (h : BRow base w v l) : (convert 36 9 v).run Try.prog w = .ok (.string ⟨l.toArray⟩) w := by
  obtain ⟨g, cap, rfl, _, _, _, hc, _⟩ := h
  exact run_convert_bytes_back w 36 9 5 ⟨g, 0, none⟩ cap l Try.underlying36 Try.underlying5 Try.underlying9 (fun j hj => by
    have e : (⟨g, 0, none⟩ : Addr).add j = ⟨g, j, none⟩ := by unfold Addr.add; split <;> simp_all
    rw [e, hc j hj]
    have e2 : l.getD j 0 = l[j] := by rw [List.getD_eq_getElem?_getD, List.getElem?_eq_getElem hj]; rfl
    rw [e2])
/-- A load in a region that draws its order and whose operations only read. -/
theorem still_load {P : Program} {ops : Array Oper} {w : World} {Q : Act → Prop} {a : Act} {o : Oper} {rest : List Oper} (hw : Region.wanted o (yielded ops a.tmps) = true) (ty : TypeId) (x : Operand) (ho : o.op = .load ty x)
    (v : Value) (hr : (Instr.loadAt ty (a.eval x)).run P w = .ok v w) (h : wpStill P ops w Q rest (a.put o.dst v)) : wpStill P ops w Q (o :: rest) a := by
  show if _ then _ else _
  rw [if_pos hw]
  unfold Oper.still execOp
  simp only [ho, Sem.run_bind, hr, Result.andThen_ok, Sem.run_pure, Oper.stillUpon]
  exact ⟨trivial, h⟩
theorem run_loadAt_row {P : Program} {w : World} {g : Nat} {t ty : TypeId} {cs : Array Value} {d : TypeDesc} (hA : Arr w g t cs) (hu : P.underlying ty = some d) (hd : (match d with | .struct _ | .array _ _ => true | _ => false) = true) (hi : (P.info? ty).map (·.size) = some cs.size) :
    (Instr.loadAt ty (.pointer (some ⟨g, 0, none⟩))).run P w = .ok (.agg cs) w := by
  simp only [Instr.loadAt, Instr.sureAddr, Sem.run_bind, Sem.run_pure, Result.andThen_ok, run_loadVar_row w g t ty cs _ d hA hu hd hi]
end Go.Proofs.Yteooafoamnfjbaa
