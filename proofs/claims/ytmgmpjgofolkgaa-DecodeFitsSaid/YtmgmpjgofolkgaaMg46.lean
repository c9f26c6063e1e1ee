/- Bytes that a call has converted or made and appends to; a load of a whole array in a region that draws its order. Conditions: fewer than 2^40 bytes. -/
import Derived.Test.YtmgmpjgofolkgaaProg
import Derived.Test.YtmgmpjgofolkgaaMg0
import Derived.Test.YtmgmpjgofolkgaaMg7
import Derived.Lib.BufferRead
import Derived.ArgAppend
import Derived.Laws.IdiomStrings
import Derived.StillTailTactics
import Derived.Deep.MidRow
import Derived.Test.YtmgmpjgofolkgaaMg29
import Derived.Laws.MakeOwn
namespace Go.Proofs.Ytmgmpjgofolkgaa
open Go.RowKit

/-- The slice v, in a block of the call's own, reads as the bytes l; all its cells up to the capacity may be written. -/
def BRow (base : Nat) (w : World) (v : Value) (l : List UInt8) : Prop :=
  ∃ g cap, v = .slice (some ⟨g, 0, none⟩) l.length cap ∧ base ≤ g ∧ g < w.heap.size ∧ l.length ≤ cap ∧ (∀ j, j < l.length → w.cell? ⟨g, j, none⟩ = some (.int .u8 ((l.getD j 0).toNat : Int))) ∧
    ∀ j, j < cap → (w.cell? ⟨g, j, none⟩).isSome = true ∧ w.frozen? ⟨g, j, none⟩ = false
theorem elem_byte : Hid (ElemIs Try.prog 66 5 (.int .u8 0) 1) := elemIs_mk Try.underlying66 rfl (by kernel_rfl)
theorem byteCells_getD (l : List UInt8) {j : Nat} (h : j < l.length) : (Lib.byteCells l)[j]? = some (.int .u8 ((l.getD j 0).toNat : Int)) := by
  simp [Lib.byteCells, h]

/-- []byte(s). -/
theorem brow_conv (w : World) (s : ByteArray) (cap : Nat) (t : TypeId) (h : s.size ≤ cap) :
    BRow w.heap.size (w.alloc (.cells (bytesRow s cap) t ((bytesRow s cap).size, (bytesRow s cap).size + 1))) (.slice (some ⟨w.heap.size, 0, none⟩) s.size cap) s.data.toList := by
  have hz : (bytesRow s cap).size = cap := by
    unfold bytesRow
    rw [Array.size_append, Array.size_map, Array.size_replicate]
    have : s.data.size = s.size := rfl
    omega
  refine ⟨w.heap.size, cap, by simp, Nat.le_refl _, by simp, by simpa using h, fun j hj => ?_, fun j hj => ⟨?_, ?_⟩⟩
  · have hj' : j < s.data.size := by simpa using hj
    rw [World.cell?_alloc_mark, bytesRow_at s cap j hj']
    simp [List.getD, Array.getElem?_eq_getElem hj']
  · rw [World.cell?_alloc_mark, Array.getElem?_eq_getElem (by omega)]; rfl
  · rw [World.frozen?_alloc_mark]
    have : ¬ (bytesRow s cap).size ≤ j := by omega
    simp [this]
theorem BRow.drew {base : Nat} {w : World} {v : Value} {l : List UInt8} (h : BRow base w v l) : BRow base w.drew v l := h
theorem BRow.owns {base : Nat} {w : World} {v : Value} {l : List UInt8} (h : w.ownsRow base 5 1 v l.length (Lib.byteCells l)) (h0 : l ≠ []) : BRow base w v l := by
  obtain ⟨hlen, ⟨rfl, hn⟩ | ⟨g, cap, cur, rfl, hg, hc, hle, _, hz, ht⟩⟩ := h
  · exact absurd (List.length_eq_zero_iff.1 hn) h0
  · refine ⟨g, cap, rfl, hg, (Array.getElem?_eq_some_iff.1 hc).1, hle, fun j hj => ?_, fun j hj => ⟨?_, frozen_of_row w g j cur _ hc⟩⟩
    · rw [cell_of_row w g j cur _ _ hc, ← byteCells_getD l hj, ← ht, List.getElem?_take_of_lt (by omega), Array.getElem?_toList]
    · rw [cell_of_row w g j cur _ _ hc, Array.getElem?_eq_getElem (by omega)]; rfl

/-- 'b = append(b, u)'. -/
theorem brow_append {ops : Array Oper} {rest : List Oper} {o : Oper} {a : Act} {Q : Exit → Act → World → Prop} {w : World} (hgd : o.guard = none) (s x : Operand)
    (ho : o.op = .call { callee := .builtin .append, args := #[s, x], argTypes := #[66, 66] })
    (base : Nat) (v : Value) (l : List UInt8) (u : UInt8) (hs : a.eval s = v) (hr : BRow base w v l) (H : Nat) (hH : w.heap.size = H) (hx : a.eval x = .slice (some ⟨H, 0, none⟩) 1 1)
    (hn : l.length + 1 ≤ 1099511627776) (hb0 : base ≤ w.heap.size)
    (h : ∀ v' w', BRow base w' v' (l ++ [u]) → Below base w w' → wpList Try.prog ops Q rest (a.put o.dst v') w') : wpList Try.prog ops Q (o :: rest) a (w.alloc (.cells #[.int .u8 (u.toNat : Int)] 5)) := by
  subst hH
  obtain ⟨h0, hz, i, hi, hz0, hz1, hz2⟩ := elem_byte.out
  obtain ⟨g, cap, rfl, hg, hgl, hle, hc, hf⟩ := hr
  have hc' : ∀ j, j < l.length → (w.alloc (.cells #[.int .u8 (u.toNat : Int)] 5)).cell? ⟨g, j, none⟩ = some (.int .u8 ((l.getD j 0).toNat : Int)) := fun j hj => by
    rw [World.cell?_alloc_lt _ _ _ hgl]; exact hc j hj
  have hf' : ∀ j, j < cap → ((w.alloc (.cells #[.int .u8 (u.toNat : Int)] 5)).cell? ⟨g, j, none⟩).isSome = true ∧ (w.alloc (.cells #[.int .u8 (u.toNat : Int)] 5)).frozen? ⟨g, j, none⟩ = false := fun j hj => by
    rw [World.cell?_alloc_lt _ _ _ hgl, World.frozen?_alloc_past _ _ _ hgl]; exact hf j hj
  have hbl : Below base w (w.alloc (.cells #[.int .u8 (u.toNat : Int)] 5)) := (Below.refl _ _).alloc hb0 _
  have hsz : (w.alloc (.cells #[.int .u8 (u.toNat : Int)] 5)).heap.size = w.heap.size + 1 := Array.size_push _
  have hnew : (w.alloc (.cells #[.int .u8 (u.toNat : Int)] 5)).cell? ⟨w.heap.size, 0, none⟩ = some (.int .u8 (u.toNat : Int)) := by rw [World.cell?_alloc_mark]; rfl
  generalize w.alloc (.cells #[.int .u8 (u.toNat : Int)] 5) = W at *
  refine wpList_append_arg W hgd s x 66 ho 5 i (.int .u8 0) 1 1 h0 hi hz0 hz1 hz2 hz (by decide) g 0 l.length cap (Lib.byteCells l) hs (by simp [Lib.byteCells]) ?_ ⟨w.heap.size, 0, none⟩ 1 1 [.int .u8 (u.toNat : Int)] hx rfl ?_ ?_ ?_ (by unfold maxLen; omega) (by omega) ?_ ?_
  · intro j y hj
    have hjl : j < l.length := by have := (List.getElem?_eq_some_iff.1 hj).1; simpa [Lib.byteCells] using this
    rw [byteCells_getD l hjl] at hj
    rw [Nat.zero_add, hc' j hjl, hj]
  · intro j y hj
    match j, hj with
    | 0, hj => simp at hj; subst hj; simpa [Addr.add] using hnew
  · intro y hy; simp at hy; subst hy; rfl
  · intro hroom j hj
    obtain rfl : j = 0 := by simp at hj; omega
    have := hf' l.length (by omega)
    simpa using this
  · intro hroom
    have e1 : 0 + l.length * 1 = l.length := by omega
    rw [e1]
    show wpList _ _ _ _ _ (W.setCell ⟨g, l.length, none⟩ (.int .u8 (u.toNat : Int)))
    have hsm := World.cell?_setCell_same W ⟨g, l.length, none⟩ (.int .u8 (u.toNat : Int)) (Option.isSome_iff_exists.1 (hf' l.length (by omega)).1).choose_spec
    refine h _ _ ⟨g, cap, by simp, hg, ?_, by simp; omega, fun j hj => ?_, fun j hj => ?_⟩ ((hbl.setCell (p := ⟨g, l.length, none⟩) hg _))
    · have := ((Below.refl 0 W).setCell (p := ⟨g, l.length, none⟩) (Nat.zero_le _) (.int .u8 (u.toNat : Int))).size
      omega
    · rw [List.length_append] at hj
      by_cases e : j = l.length
      · subst e
        rw [hsm]
        simp [List.getD]
      · have hjl : j < l.length := by simp at hj; omega
        rw [World.cell?_setCell_other W _ _ _ (fun he => e (congrArg Addr.off he).symm), hc' j hjl, List.getD_eq_getElem?_getD, List.getD_eq_getElem?_getD, List.getElem?_append_left hjl]
    · refine ⟨?_, (World.frozen?_setCell W _ _ _).trans (hf' j hj).2⟩
      by_cases e : j = l.length
      · subst e; rw [hsm]; rfl
      · rw [World.cell?_setCell_other W _ _ _ (fun he => e (congrArg Addr.off he).symm)]; exact (hf' j hj).1
  · intro _ v' w' hown hgr
    have hown' : w'.ownsRow base 5 1 v' (l ++ [u]).length (Lib.byteCells (l ++ [u])) := by
      have e : Lib.byteCells (l ++ [u]) = Lib.byteCells l ++ [.int .u8 (u.toNat : Int)] := by simp [Lib.byteCells]
      rw [e, List.length_append]
      obtain ⟨q1, q2 | ⟨g', c', cur, q3, q4, q5⟩⟩ := hown
      · exact ⟨q1, .inl q2⟩
      · exact ⟨q1, .inr ⟨g', c', cur, q3, by omega, q5⟩⟩
    exact h _ _ (BRow.owns hown' (by simp)) (hbl.grown hgr (by omega) (fun k hk => by cases hk))

/-- string(b). -/
theorem brow_string {base : Nat} {w : World} {v : Value} {l : List UInt8} (h : BRow base w v l) : (convert 66 9 v).run Try.prog w = .ok (.string ⟨l.toArray⟩) w := by
  obtain ⟨g, cap, rfl, _, _, _, hc, _⟩ := h
  exact run_convert_bytes_back w 66 9 5 ⟨g, 0, none⟩ cap l Try.underlying66 Try.underlying5 Try.underlying9 (fun j hj => by
    have e : (⟨g, 0, none⟩ : Addr).add j = ⟨g, j, none⟩ := by unfold Addr.add; split <;> simp_all
    rw [e, hc j hj]
    have e2 : l.getD j 0 = l[j] := by rw [List.getD_eq_getElem?_getD, List.getElem?_eq_getElem hj]; rfl
    rw [e2])
/-- A load in a region that draws its order and whose operations only read. -/
theorem still_load {P : Program} {ops : Array Oper} {w : World} {Q : Act → Prop} {a : Act} {o : Oper} {rest : List Oper} (hw : Region.wanted o (yielded ops a.tmps) = true) (ty : TypeId) (x : Operand) (ho : o.op = .load ty x)
    (v : Value) (hr : (Instr.loadAt ty (a.eval x)).run P w = .ok v w) (h : wpStill P ops w Q rest (a.put o.dst v)) : wpStill P ops w Q (o :: rest) a := by
  show if _ then _ else _
  rw [if_pos hw]
  unfold Oper.still execOp
  simp only [ho, Sem.run_bind, hr, Result.andThen_ok, Sem.run_pure, Oper.stillUpon]
  exact ⟨trivial, h⟩
theorem run_loadAt_row {P : Program} {w : World} {g : Nat} {t ty : TypeId} {cs : Array Value} {d : TypeDesc} (hA : Arr w g t cs) (hu : P.underlying ty = some d) (hd : (match d with | .struct _ | .array _ _ => true | _ => false) = true) (hi : (P.info? ty).map (·.size) = some cs.size) :
    (Instr.loadAt ty (.pointer (some ⟨g, 0, none⟩))).run P w = .ok (.agg cs) w := by
  simp only [Instr.loadAt, Instr.sureAddr, Sem.run_bind, Sem.run_pure, Result.andThen_ok, run_loadVar_row w g t ty cs _ d hA hu hd hi]
end Go.Proofs.Ytmgmpjgofolkgaa

/- The bytes of a small tree, and the awake() of layer 14's statements. Conditions: the contracts of package decode. -/
namespace Go.Proofs.Ytmgmpjgofolkgaa
open Go.RowKit

/-- Sixteen bytes 0. -/
def z16 : Array Value := (List.replicate 16 (Value.int .u8 0)).toArray
def zb16 : List UInt8 := List.replicate 16 0
def hd14 : List UInt8 := [208, 13, 254, 237, 0, 0, 0, 72, 0, 0, 0, 56, 0, 0, 0, 72, 0, 0, 0, 40, 0, 0, 0, 17, 0, 0, 0, 16, 0, 0, 0, 5, 0, 0, 0, 0, 0, 0, 0, 16]
def en14 : List UInt8 := [0, 0, 0, 1, 0, 0, 0, 0, 0, 0, 0, 2, 0, 0, 0, 9]
def sm14 : ByteArray := ⟨((hd14 ++ zb16) ++ en14).toArray⟩
theorem sm14_size : sm14.size = 72 := rfl
/-- The tree of a root alone. -/
def T14 : DT := ⟨nd0, [], 5⟩
theorem tree14 : treeD sm14.data.toList = (T14, 0) := by kernel_rfl
theorem size14 : (readH sm14.data.toList).1.tot = 72 ∧ (readH sm14.data.toList).2 = 0 := by constructor <;> kernel_rfl
theorem none14 : treeD [] = (dt0, 14) := by kernel_rfl
theorem make16 (w : World) : (Instr.makeSlice 66 (.int .i64 16) (.int .i64 16)).run Try.prog w = .ok (.slice (some ⟨w.heap.size, 0, none⟩) 16 16) (w.alloc (.cells z16 5)) := by
  obtain ⟨h0, hz, i, hi, hz0, hz1, hz2⟩ := elem_byte.out
  have := run_makeSlice (P := Try.prog) w 66 5 i (.int .u8 0) h0 hi hz0 .i64 .i64 16 16 (by omega) (by omega) (by rw [hz1]; decide) (by rw [hz2]; decide) (by omega)
  rw [hz1, show madeCells (Value.int .u8 0).cells (Int.toNat 16 * 1) = z16 from by kernel_rfl] at this
  exact this
theorem conv16 (w : World) : (convert 66 9 (.slice (some ⟨w.heap.size, 0, none⟩) 16 16)).run Try.prog (w.alloc (.cells z16 5)) = .ok (.string ⟨zb16.toArray⟩) (w.alloc (.cells z16 5)) :=
  run_convert_bytes_back (w.alloc (.cells z16 5)) 66 9 5 ⟨w.heap.size, 0, none⟩ 16 zb16 Try.underlying66 Try.underlying5 Try.underlying9 (fun j hj => by
    have e : (⟨w.heap.size, 0, none⟩ : Addr).add j = ⟨w.heap.size, j, none⟩ := by unfold Addr.add; split <;> simp_all
    have hj' : j < 16 := hj
    rw [e, (Arr.new w 5 z16).cell]
    have h1 : z16[j]? = some (.int .u8 0) := by unfold z16; rw [List.getElem?_toArray, List.getElem?_replicate, if_pos hj']
    rw [h1]
    exact congrArg (fun b : UInt8 => some (Value.int .u8 (b.toNat : Int))) (show (0 : UInt8) = zb16[j] from (List.getElem_replicate ..).symm))

set_option maxHeartbeats 1600000 in
set_option maxRecDepth 100000 in
theorem small_any (w : World) : Calls Try.prog 15 #[] w fun e w' => e = .returned (.string sm14) ∧ Below w.heap.size w w' := by
  have hmk := make16 w
  have hcv := conv16 w
  have HB := Lib.hid ((Below.refl w.heap.size w).alloc (Nat.le_refl _) (.cells z16 5))
  have a1 : ∀ W, (Op.stringOp .add ⟨#[208, 13, 254, 237, 0, 0, 0, 72, 0, 0, 0, 56, 0, 0, 0, 72, 0, 0, 0, 40, 0, 0, 0, 17, 0, 0, 0, 16, 0, 0, 0, 5, 0, 0, 0, 0, 0, 0, 0, 16]⟩ ⟨zb16.toArray⟩).run Try.prog W = .ok (.string ⟨(hd14 ++ zb16).toArray⟩) W := fun W => by
    rw [run_string_add_sum W _ _ (by decide)]
    rfl
  have a2 : ∀ W, (Op.stringOp .add ⟨(hd14 ++ zb16).toArray⟩ ⟨#[0, 0, 0, 1, 0, 0, 0, 0, 0, 0, 0, 2, 0, 0, 0, 9]⟩).run Try.prog W = .ok (.string sm14) W := fun W => by
    rw [run_string_add_sum W _ _ (by decide)]
    rfl
  generalize (⟨(hd14 ++ zb16).toArray⟩ : ByteArray) = x1 at *
  generalize (⟨zb16.toArray⟩ : ByteArray) = x0 at *
  generalize sm14 = x2 at *
  go_enter Try.func15, Try.ntmps15
  go_wp2
  go_ret
  exact ⟨rfl, HB.out⟩

set_option maxHeartbeats 1600000 in
set_option maxRecDepth 100000 in
theorem awake14 (M : DecMust) (w : World) : Calls Try.prog 5 #[] w fun e w' => e = .returned (.bool true) ∧ Below w.heap.size w w' := by
  have HSM := Lib.hid (fun W => small_any W)
  have HTR : Hid (∀ W, Calls Try.prog 6 #[.string sm14] W fun e w' => ∃ v2 v3 A cap, e = .returned (.tuple #[.agg (dtC ⟨#[]⟩ v2 v3 (.slice A 0 cap) 5), .int .i64 0]) ∧ DtAt w' T14 v2 v3 A ∧ Below W.heap.size W w') := fun W => by
    have := M.tree sm14 W (by decide)
    rw [tree14] at this
    exact this
  have HSZ : Hid (∀ W, Calls Try.prog 11 #[.string sm14] W fun e w' => e = .returned (.tuple #[.int .i64 72, .int .i64 0]) ∧ Below W.heap.size W w') := fun W => by
    have := M.size sm14 W (by decide)
    rw [size14.1, size14.2] at this
    exact this
  have HT0 : Hid (∀ W, Calls Try.prog 6 #[.string ⟨#[]⟩] W fun e w' => ∃ v2 v3 A cap, e = .returned (.tuple #[.agg (dtC ⟨#[]⟩ v2 v3 (.slice A 0 cap) 0), .int .i64 14]) ∧ DtAt w' dt0 v2 v3 A ∧ Below W.heap.size W w') := fun W => by
    have := M.tree ⟨#[]⟩ W (by decide)
    rw [show (⟨#[]⟩ : ByteArray).data.toList = [] from rfl, none14] at this
    exact this
  have HSA : Hid (∀ W v2 v3 A cap, DtAt W T14 v2 v3 A → Calls Try.prog 12 #[.agg (dtC ⟨#[]⟩ v2 v3 (.slice A 0 cap) 5), .agg (dtC ⟨#[]⟩ (.slice none 0 0) (.slice none 0 0) (.slice none 0 0) 5)] W fun e w' => e = .returned (.bool true) ∧ Below W.heap.size W w') := fun W v2 v3 A cap h =>
    rSameT_any T14 v2 v3 (.slice none 0 0) (.slice none 0 0) A none cap 0 W (by decide) h ⟨nd0_at _ _, .inl rfl⟩
  have HB := Lib.hid (Below.refl w.heap.size w)
  clear M
  generalize sm14 = S at *
  go_enter Try.func5, Try.ntmps5
  go_wp2_with fail
  refine (HSM.out _).mono ?_
  rintro e w1 ⟨rfl, hb⟩
  have HB := Lib.hid (HB.out.trans (hb.mono HB.out.size))
  clear hb
  go_wp2_with fail
  refine (HTR.out _).mono ?_
  rintro e w2 ⟨v2, v3, A, cap, rfl, hd, hb⟩
  obtain ⟨B2, B3, m2, m3, h2, h3, -⟩ := nd_shape hd.1
  replace h2 : v2 = .slice B2 0 m2 := h2
  replace h3 : v3 = .slice B3 0 m3 := h3
  subst h2 h3
  have hb2 : Below w2.heap.size w2 (w2.alloc (.cells (dtC ⟨#[]⟩ (.slice B2 0 m2) (.slice B3 0 m3) (.slice A 0 cap) 5) 29)) := (Below.refl _ _).alloc (Nat.le_refl _) _
  have HD := Lib.hid (hd.below hb2)
  have HB := Lib.hid (HB.out.trans (hb.mono HB.out.size))
  have HB := Lib.hid (HB.out.trans (hb2.mono HB.out.size))
  have HA := Lib.hid (Arr.new w2 29 (dtC ⟨#[]⟩ (.slice B2 0 m2) (.slice B3 0 m3) (.slice A 0 cap) 5))
  clear hb hd hb2 HTR
  go_upto_region 2 with fail
  generalize w2.alloc (.cells (dtC ⟨#[]⟩ (.slice B2 0 m2) (.slice B3 0 m3) (.slice A 0 cap) 5) 29) = W2 at *
  generalize w2.heap.size = g at *
  go_wp2_with fail
  refine (HSM.out _).mono ?_
  rintro e w3 ⟨rfl, hb⟩
  have HD := Lib.hid (HD.out.below hb)
  have HA := Lib.hid (HA.out.below hb HA.out.lt)
  have HB := Lib.hid (HB.out.trans (hb.mono HB.out.size))
  clear hb
  go_wp2_with fail
  refine (HSZ.out _).mono ?_
  rintro e w4 ⟨rfl, hb⟩
  have HD := Lib.hid (HD.out.below hb)
  have HA := Lib.hid (HA.out.below hb HA.out.lt)
  have HB := Lib.hid (HB.out.trans (hb.mono HB.out.size))
  clear hb
  go_wp2_with fail
  refine (HT0.out _).mono ?_
  rintro e w5 ⟨y2, y3, A5, k5, rfl, hd, hb⟩
  obtain ⟨B4, B5, m4, m5, h2, h3, -⟩ := nd_shape hd.1
  replace h2 : y2 = .slice B4 0 m4 := h2
  replace h3 : y3 = .slice B5 0 m5 := h3
  subst h2 h3
  have hb2 : Below w5.heap.size w5 (w5.alloc (.cells (dtC ⟨#[]⟩ (.slice B4 0 m4) (.slice B5 0 m5) (.slice A5 0 k5) 0) 29)) := (Below.refl _ _).alloc (Nat.le_refl _) _
  have HD := Lib.hid ((HD.out.below hb).below hb2)
  have HA := Lib.hid (HA.out.below hb HA.out.lt)
  have HA := Lib.hid (HA.out.below hb2 HA.out.lt)
  have HB := Lib.hid (HB.out.trans (hb.mono HB.out.size))
  have HB := Lib.hid (HB.out.trans (hb2.mono HB.out.size))
  clear hb hd hb2 HT0
  go_upto_region 4 with fail
  generalize w5.alloc (.cells (dtC ⟨#[]⟩ (.slice B4 0 m4) (.slice B5 0 m5) (.slice A5 0 k5) 0) 29) = W5 at *
  obtain ⟨k0, k1, k2, k3, k4⟩ := dt_cells HA.out
  clear HSM HSZ
  go_wp2_with (refine wpList_load_row rfl 29 (.tmp 1) rfl g rfl _ _ _ _ HA.out Try.underlying29 rfl (infoDt ⟨#[]⟩ (.slice B2 0 m2) (.slice B3 0 m3) (.slice A 0 cap) 5) ?_)
  refine (HSA.out _ _ _ _ _ HD.out).mono ?_
  rintro e w6 ⟨rfl, hb⟩
  have HB := Lib.hid (HB.out.trans (hb.mono HB.out.size))
  clear hb k0 k1 k2 k3 k4
  go_wp2
  go_ret
  exact ⟨rfl, HB.out⟩
end Go.Proofs.Ytmgmpjgofolkgaa
