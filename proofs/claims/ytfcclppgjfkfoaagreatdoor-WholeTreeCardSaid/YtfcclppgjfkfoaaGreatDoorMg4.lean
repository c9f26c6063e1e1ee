/- Appending to a slice of a call's own, and where the new slice lies: one element of one cell, and a string's bytes. Conditions: fewer than 2^47 bytes. -/
import Derived.Test.YtfcclppgjfkfoaaGreatDoorMg3
import Derived.Maps.AppendAt
import Derived.Lib.AppendStr
import Derived.WalkKit
import Derived.Test.YtfcclppgjfkfoaaGreatDoorMg2
import Derived.BigQuiet
namespace Go.Proofs.YtfcclppgjfkfoaaGreatDoor
open Go.RowKit

/-- The block of a slice of the call's own. -/
def ownS (v : Value) (k : Nat) : Prop := v.ownBlock = some k
theorem Moved.inside {w w' : World} {F F' G G' : Nat → Prop} (h : Moved w w' F F') (hG : ∀ k, F k → G k) (hG' : ∀ k, G' k → G k ∨ F' k ∨ w.heap.size ≤ k) : Moved w w' G G' :=
  ⟨h.os, h.tape, h.output, h.size, fun k hk hn => h.block k hk (fun hf => hn (hG k hf)), fun k hk => by
    rcases hG' k hk with h1 | h1 | h1
    · exact .inl h1
    · exact (h.foot k h1).imp (hG k) id
    · exact .inr h1⟩
theorem Moved.of_grown {w w' : World} {v v' : Value} (hg : w.grownBy w' v.ownBlock) (hl : v'.ownBlock = v.ownBlock ∨ ∃ k, v'.ownBlock = some k ∧ w.heap.size ≤ k) : Moved w w' (ownS v) (ownS v') :=
  ⟨hg.os, hg.tape, hg.output, hg.size, fun k hk hn => hg.block k hk (fun e => hn e.symm), fun k hk => by
    rcases hl with h | ⟨j, h, hj⟩
    · refine .inl ?_; unfold ownS at hk ⊢; rwa [h] at hk
    · unfold ownS at hk; rw [h] at hk; injection hk with hk; exact .inr (hk ▸ hj)⟩
theorem ow_base {w : World} {base base' e size : Nat} {v : Value} {n : Nat} {xs : List Value} (h : w.ownsRow base e size v n xs) (hb : ∀ k, v.ownBlock = some k → base' ≤ k) : w.ownsRow base' e size v n xs := by
  obtain ⟨q1, q2 | ⟨g, c, cur, q3, q4, q5⟩⟩ := h
  · exact ⟨q1, .inl q2⟩
  · exact ⟨q1, .inr ⟨g, c, cur, q3, hb g (by rw [q3]; rfl), q5⟩⟩
theorem Moved.row {w w' : World} {F F' : Nat → Prop} {base e size : Nat} {v : Value} {n : Nat} {xs : List Value} (h : Moved w w' F F') (ho : w.ownsRow base e size v n xs) (hf : ∀ k, v.ownBlock = some k → ¬ F k) : w'.ownsRow base e size v n xs := by
  obtain ⟨q1, q2 | ⟨g, c, cur, q3, q4, q5, q6⟩⟩ := ho
  · exact ⟨q1, .inl q2⟩
  · exact ⟨q1, .inr ⟨g, c, cur, q3, q4, (h.block g (Array.getElem?_eq_some_iff.1 q5).1 (hf g (by rw [q3]; rfl))).trans q5, q6⟩⟩
/-- 's = append(s, u)', s a slice of the call's own. -/
theorem append_moved {P : Program} {ops : Array Oper} {rest : List Oper} {o : Oper} {a : Act} {Q : Exit → Act → World → Prop} {w : World} (hgd : o.guard = none) (s x : Operand) (t : TypeId)
    (ho : o.op = .call { callee := .builtin .append, args := #[s, x], argTypes := #[t, t] })
    (e : TypeId) (z : Value) (bytes : Nat) (hel : Hid (ElemIs P t e z bytes)) (u : Value) (h1 : u.oneCell' = true)
    (v : Value) (n : Nat) (xs : List Value) (hs : a.eval s = v) (hown : w.ownsRow 0 e 1 v n xs) (H : Nat) (hH : w.heap.size = H) (hx : a.eval x = .slice (some ⟨H, 0, none⟩) 1 1)
    (hn : (n + 1) * bytes ≤ 140737488355328) (hm : n + 1 ≤ maxLen)
    (h : ∀ v' w', w'.ownsRow 0 e 1 v' (n + 1) (xs ++ [u]) → Moved w w' (ownS v) (ownS v') → wpList P ops Q rest (a.put o.dst v') w') : wpList P ops Q (o :: rest) a (w.alloc (.cells #[u] e)) := by
  subst hH
  obtain ⟨h0, hz, i, hi, hz0, hz1, hz2⟩ := hel.out
  refine wpList_append_own_at _ hgd s x t ho 0 e i z 1 bytes h0 hi hz0 hz1 hz2 hz (by decide) v n xs hs (hown.alloc _) ⟨w.heap.size, 0, none⟩ 1 1 [u] hx rfl (cell_one_new w u e) ?_ hm hn (Nat.zero_le _) ?_
  · intro y hy; simp at hy; subst hy; exact h1
  · intro v' w' ho' hg _ hl
    refine h v' w' ho' (Moved.of_grown ((World.grownBy_alloc w _ _).trans hg) ?_)
    rcases hl with hl | hl
    · exact .inl hl
    · rw [sz_alloc] at hl; exact .inr ⟨_, hl, Nat.le_succ _⟩
theorem run_append_str_at {P : Program} (w : World) (t u ty e : TypeId) (i : TypeInfo) (ht : P.underlying t = some (.slice e)) (hu : P.underlying u = some .string) (hi : P.info? e = some i) (hz : i.zero = some (.int .u8 0)) (hsize : i.size = 1) (hby : i.bytes = 1)
    (v : Value) (n : Nat) (xs : List Value) (hown : w.ownsRow 0 e 1 v n xs) (s : ByteArray) (h63 : n + s.size ≤ maxLen) (hbytes : n + s.size ≤ 140737488355328) :
    ∃ v' w', (Builtin.append_ #[t, u] ty #[v, .string s]).run P w = .ok v' w' ∧ w'.ownsRow 0 e 1 v' (n + s.size) (xs ++ Lib.strCells s) ∧ Moved w w' (ownS v) (ownS v') := by
  obtain ⟨v', w', hr, ho, hg, _⟩ := Lib.run_append_own_string w 0 t u ty e i ht hu hi hz hsize hby v n xs hown s h63 hbytes (Nat.zero_le _)
  refine ⟨v', w', hr, ho, Moved.of_grown hg ?_⟩
  have hxl : xs.length = n := by simpa using hown.1
  rcases hown.2 with ⟨rfl, rfl⟩ | ⟨g, cap, cur, rfl, hbg, hgg, hnc, hcm, hcs, htake⟩
  · cases hk : v'.ownBlock with
    | none => exact .inl rfl
    | some k =>
      refine .inr ⟨k, rfl, ?_⟩
      obtain ⟨v2, w2, hr2, ho2, _⟩ := Lib.run_append_own_string w w.heap.size t u ty e i ht hu hi hz hsize hby (.slice none 0 0) 0 xs ⟨hown.1, .inl ⟨rfl, rfl⟩⟩ s h63 hbytes (Nat.le_refl _)
      rw [hr] at hr2
      injection hr2 with e1 e2
      subst e1
      rcases ho2.2 with ⟨rfl, _⟩ | ⟨g2, _, _, rfl, hb2, _⟩
      · cases hk
      · injection hk with hk; exact hk ▸ hb2
  · by_cases hroom : n + s.size ≤ cap
    · have hcs' : cur.size = cap := by simpa using hcs
      rw [Lib.run_append_room_string (P := P) w t u ty e i ht hu hi hsize g n cap cur hgg s hroom (by omega)] at hr
      injection hr with e1 _
      subst e1
      exact .inl rfl
    · rw [Lib.run_append_grow_string (P := P) w t u ty e i (.int .u8 0) ht hu hi hz ⟨g, 0, none⟩ n cap xs (by rw [hsize]; simpa using hxl) (hown.cells (g := g) rfl) s (by omega) (by simp only [maxLen] at h63; omega) (by rw [hby]; exact growslice_fits (by omega) (by omega))] at hr
      injection hr with e1 _
      subst e1
      exact .inr ⟨_, rfl, Nat.le_refl _⟩
/-- 's = append(s, t...)', s a slice of bytes of the call's own, t a string. -/
theorem append_str_moved {P : Program} {ops : Array Oper} {rest : List Oper} {o : Oper} {a : Act} {Q : Exit → Act → World → Prop} {w : World} (hgd : o.guard = none) (sl x : Operand) (t u : TypeId)
    (ho : o.op = .call { callee := .builtin .append, args := #[sl, x], argTypes := #[t, u] })
    (e : TypeId) (hel : Hid (ElemIs P t e (.int .u8 0) 1)) (hu : P.underlying u = some .string)
    (v : Value) (n : Nat) (xs : List Value) (hs : a.eval sl = v) (hown : w.ownsRow 0 e 1 v n xs) (s : ByteArray) (hx : a.eval x = .string s)
    (h63 : n + s.size ≤ maxLen) (hbytes : n + s.size ≤ 140737488355328)
    (h : ∀ v' w', w'.ownsRow 0 e 1 v' (n + s.size) (xs ++ Lib.strCells s) → Moved w w' (ownS v) (ownS v') → wpList P ops Q rest (a.put o.dst v') w') : wpList P ops Q (o :: rest) a w := by
  obtain ⟨h0, hz, i, hi, hz0, hz1, hz2⟩ := hel.out
  refine wpList_plain hgd fun K hK => ?_
  obtain ⟨v', w', hr, h2, h3⟩ := run_append_str_at (P := P) w t u o.type e i h0 hu hi hz0 hz1 hz2 v n xs hown s h63 hbytes
  unfold Oper.wp execOp
  simp only [ho, resolve, invoke, builtin, Sem.run_bind, Sem.run_pure, Result.andThen_ok, List.map_toArray, List.map_cons, List.map_nil, hs, hx, hr]
  exact hK _ _ (h v' w' h2 h3)
end Go.Proofs.YtfcclppgjfkfoaaGreatDoor

/- Append of one element of any type, just made, and of a whole slice of one's own, to a slice of one's own. Conditions: fewer than 2^47 bytes. -/
namespace Go.Proofs.YtfcclppgjfkfoaaGreatDoor
open Go.RowKit

/-- What append asks of a slice's type: its elements' type, zero value, cells, bytes. -/
def ElemN (P : Program) (t e : TypeId) (size bytes : Nat) : Prop := P.underlying t = some (.slice e) ∧ ∃ i z, P.info? e = some i ∧ i.zero = some z ∧ i.size = size ∧ i.bytes = bytes ∧ z.cells.size = size ∧ 0 < size
theorem elemN_mk {P : Program} {t e : TypeId} {z : Value} {size bytes : Nat} (h0 : P.underlying t = some (.slice e)) (h : (P.info? e).map (fun i => (i.zero, i.size, i.bytes)) = some (some z, size, bytes)) (hz : z.cells.size = size) (hs : 0 < size) : ElemN P t e size bytes := by
  obtain ⟨i, hi, he⟩ := Option.map_eq_some_iff.1 h
  simp only [Prod.mk.injEq] at he
  exact ⟨h0, i, z, hi, he.1, he.2.1, he.2.2, hz, hs⟩
theorem run_append_none {P : Program} (w : World) (t ty e : TypeId) (i : TypeInfo) (ht : P.underlying t = some (.slice e)) (hi : P.info? e = some i) (A : Option Addr) (n c : Nat) (hc : n ≤ c) :
    (Builtin.append_ #[t, t] ty #[.slice A n c, .slice none 0 0]).run P w = .ok (.slice A n c) w := by
  cases A with
  | none => simp [Builtin.append_, run_underlying ht, sizeOf, typeInfo, hi, Builtin.lenOf, Builtin.firstCells, hc]
  | some a => simp [Builtin.append_, run_underlying ht, sizeOf, typeInfo, hi, Builtin.lenOf, Builtin.firstCells, hc, storeCells]
/-- How an own slice is written. -/
theorem slice_ofN {w : World} {base e size : Nat} {v : Value} {n : Nat} {xs : List Value} (h : w.ownsRow base e size v n xs) : ∃ A cap, v = .slice A n cap ∧ n ≤ cap := by
  rcases h.2 with ⟨h1, h2⟩ | ⟨b, cap, cur, h1, _, _, h2, _⟩
  · exact ⟨none, 0, by rw [h1, h2], by omega⟩
  · exact ⟨_, cap, h1, h2⟩
section
variable {P : Program} {ops : Array Oper} {rest : List Oper} {o : Oper} {a : Act} {Q : Exit → Act → World → Prop} {w : World}
/-- 's = append(s, x)', x just laid in a block of its own. -/
theorem append_new (hgd : o.guard = none) (s y : Operand) (t : TypeId) (ho : o.op = .call { callee := .builtin .append, args := #[s, y], argTypes := #[t, t] })
    (e size bytes : Nat) (hel : Hid (ElemN P t e size bytes)) (v : Value) (n : Nat) (xs : List Value) (hs : a.eval s = v) (hown : w.ownsRow 0 e size v n xs) (cs : Array Value) (hcs : cs.size = size) (h1 : ∀ u ∈ cs.toList, u.oneCell' = true)
    (H : Nat) (hH : w.heap.size = H) (hx : a.eval y = .slice (some ⟨H, 0, none⟩) 1 1) (hm : n + 1 ≤ maxLen) (hb : (n + 1) * bytes ≤ 140737488355328)
    (h : ∀ v' w', w'.ownsRow 0 e size v' (n + 1) (xs ++ cs.toList) → Moved w w' (ownS v) (ownS v') → wpList P ops Q rest (a.put o.dst v') w') : wpList P ops Q (o :: rest) a (w.alloc (.cells cs e)) := by
  subst hH
  obtain ⟨h0, i, z, hi, hz0, hz1, hz2, hz3, hz4⟩ := hel.out
  refine wpList_append_own_at _ hgd s y t ho 0 e i z size bytes h0 hi hz0 hz1 hz2 hz3 hz4 v n xs hs (hown.alloc _) ⟨w.heap.size, 0, none⟩ 1 1 cs.toList hx (by rw [Array.length_toList, hcs]; omega) ?_ h1 hm hb (Nat.zero_le _) ?_
  · intro j u hj
    have e : (⟨w.heap.size, 0, none⟩ : Addr).add j = ⟨w.heap.size, j, none⟩ := by unfold Addr.add; split <;> simp_all
    rw [e, (Arr.new w _ cs).cell, ← hj, Array.getElem?_toList]
  · intro v' w' ho' hg _ hl
    refine h v' w' ho' (Moved.of_grown ((World.grownBy_alloc w _ _).trans hg) ?_)
    rcases hl with hl | hl
    · exact .inl hl
    · rw [sz_alloc] at hl; exact .inr ⟨_, hl, Nat.le_succ _⟩
theorem run_append_row (w : World) (t ty e : TypeId) (size bytes : Nat) (hel : Hid (ElemN P t e size bytes)) (v u : Value) (n m B : Nat) (xs ys : List Value) (hown : w.ownsRow 0 e size v n xs) (hr : w.ownsRow B e size u m ys) (h1 : ∀ x ∈ ys, x.oneCell' = true)
    (hm : n + m ≤ maxLen) (hb : (n + m) * bytes ≤ 140737488355328) :
    ∃ v' w', (Builtin.append_ #[t, t] ty #[v, u]).run P w = .ok v' w' ∧ w'.ownsRow 0 e size v' (n + m) (xs ++ ys) ∧ Moved w w' (ownS v) (ownS v') := by
  obtain ⟨h0, i, z, hi, hz0, hz1, hz2, hz3, hz4⟩ := hel.out
  have hyl := hr.1
  rcases hr.2 with ⟨hu, hz⟩ | ⟨b, cap, cur, hu, _, hg, hnc, _, hcs, hx2⟩
  · subst hz
    have hy0 : ys = [] := List.length_eq_zero_iff.1 (by rw [hyl]; omega)
    subst hy0
    obtain ⟨A, cap, hv, hcap⟩ := slice_ofN hown
    refine ⟨.slice A n cap, w, by rw [hv, hu]; exact run_append_none w t ty e i h0 hi A n cap hcap, ?_, ?_⟩
    · rw [List.append_nil, Nat.add_zero, ← hv]; exact hown
    · rw [← hv]; exact Moved.refl _ _
  · obtain ⟨v', w', hrun, ho', hg', _, hl⟩ := run_append_own_at (P := P) w 0 t ty e i z size bytes h0 hi hz0 hz1 hz2 hz3 hz4 v n xs hown ⟨b, 0, none⟩ m cap ys hyl (by
      intro j u' hj
      have e : (⟨b, 0, none⟩ : Addr).add j = ⟨b, j, none⟩ := by unfold Addr.add; split <;> simp_all
      have hlt : j < m * size := by
        have := (List.getElem?_eq_some_iff.1 hj).1
        rw [hyl] at this; exact this
      rw [e, cell_of_row w b _ cur _ (0, 0) hg, ← hj, ← hx2, List.getElem?_take_of_lt hlt, Array.getElem?_toList]) h1 hm hb (Nat.zero_le _)
    refine ⟨v', w', by rw [hu]; exact hrun, ho', Moved.of_grown hg' ?_⟩
    rcases hl with hl | hl
    · exact .inl hl
    · exact .inr ⟨_, hl, Nat.le_refl _⟩
/-- 's = append(s, r...)', r a slice of some call's own. -/
theorem append_row (hgd : o.guard = none) (s y : Operand) (t : TypeId) (ho : o.op = .call { callee := .builtin .append, args := #[s, y], argTypes := #[t, t] })
    (e size bytes : Nat) (hel : Hid (ElemN P t e size bytes)) (v u : Value) (n m B : Nat) (xs ys : List Value) (hs : a.eval s = v) (hown : w.ownsRow 0 e size v n xs) (hx : a.eval y = u) (hr : w.ownsRow B e size u m ys) (h1 : ∀ x ∈ ys, x.oneCell' = true)
    (hm : n + m ≤ maxLen) (hb : (n + m) * bytes ≤ 140737488355328)
    (h : ∀ v' w', w'.ownsRow 0 e size v' (n + m) (xs ++ ys) → Moved w w' (ownS v) (ownS v') → wpList P ops Q rest (a.put o.dst v') w') : wpList P ops Q (o :: rest) a w := by
  obtain ⟨v', w', hrun, h2, h3⟩ := run_append_row (P := P) w t o.type e size bytes hel v u n m B xs ys hown hr h1 hm hb
  refine wpList_plain hgd fun K hK => ?_
  unfold Oper.wp execOp
  simp only [ho, resolve, invoke, builtin, Sem.run_bind, Sem.run_pure, Result.andThen_ok, List.map_toArray, List.map_cons, List.map_nil, hs, hx, hrun]
  exact hK _ _ (h v' w' h2 h3)
/-- The same in a region that draws its order. -/
theorem step_append_row {K : Act → World → Prop} {E : Prop} (hgd : o.guard = none) (s y : Operand) (t : TypeId) (ho : o.op = .call { callee := .builtin .append, args := #[s, y], argTypes := #[t, t] })
    (e size bytes : Nat) (hel : Hid (ElemN P t e size bytes)) (v u : Value) (n m B : Nat) (xs ys : List Value) (hs : a.eval s = v) (hown : w.ownsRow 0 e size v n xs) (hx : a.eval y = u) (hr : w.ownsRow B e size u m ys) (h1 : ∀ x ∈ ys, x.oneCell' = true)
    (hm : n + m ≤ maxLen) (hb : (n + m) * bytes ≤ 140737488355328)
    (h : ∀ A' cap' w', w'.ownsRow 0 e size (.slice A' (n + m) cap') (n + m) (xs ++ ys) → Moved w w' (ownS v) (ownS (.slice A' (n + m) cap')) → K (a.put o.dst (.slice A' (n + m) cap')) w') : if Region.wanted o (yielded ops a.tmps) = true then Oper.wp P o a w K Q else E := by
  have hw : Region.wanted o (yielded ops a.tmps) = true := by simp [Region.wanted, hgd]
  rw [if_pos hw]
  obtain ⟨v', w', hrun, h2, h3⟩ := run_append_row (P := P) w t o.type e size bytes hel v u n m B xs ys hown hr h1 hm hb
  obtain ⟨A', cap', rfl, _⟩ := slice_ofN h2
  unfold Oper.wp execOp
  simp only [ho, resolve, invoke, builtin, Sem.run_bind, Sem.run_pure, Result.andThen_ok, List.map_toArray, List.map_cons, List.map_nil, hs, hx, hrun]
  exact h A' cap' w' h2 h3
end
end Go.Proofs.YtfcclppgjfkfoaaGreatDoor

/- The document's answers for layer 13: cut, Texts, AsNumbers, AsNumber, AsTexts, AsText, and its SameTexts of the same texts. Conditions: strings of at most 2^40 bytes; slices that read as numbers, as texts. -/
namespace Go.Proofs.YtfcclppgjfkfoaaGreatDoor
open Go.RowKit

theorem cutS_list (s : ByteArray) : (cutS s).data.toList = cutL s.data.toList := by unfold cutS; simp
theorem cutS_all {s : ByteArray} (h : z0 s.data.toList = s.size) : cutS s = s := by
  apply ByteArray.ext
  apply Array.ext'
  rw [cutS_list]
  unfold cutL
  rw [h]
  exact List.take_length
theorem cutS_ext {s : ByteArray} {k : Nat} (h : z0 s.data.toList = k) : cutS s = s.extract 0 k := by
  apply ByteArray.ext
  apply Array.ext'
  rw [cutS_list]
  have e : (s.extract 0 k).data = s.data.extract 0 k := ByteArray.data_extract
  rw [e, Array.toList_extract, List.extract_eq_take_drop, List.drop_zero, Nat.sub_zero]
  unfold cutL
  rw [h]

theorem txt_snoc (l : List ByteArray) {k : Nat} (hk : k < l.length) {x : ByteArray} (hx : l.getD k ByteArray.empty = x) : txtB (l.take (k + 1)) = txtB (l.take k) ++ (cutL x.data.toList ++ [0]) := by
  have e : l.take (k + 1) = l.take k ++ [x] := by
    rw [List.take_succ_eq_append_getElem hk, ← hx, List.getD_eq_getElem?_getD, List.getElem?_eq_getElem hk]; rfl
  rw [e]
  unfold txtB
  rw [List.flatMap_append]; simp
theorem str_add {x y z : ByteArray} (hz : z.data.toList = x.data.toList ++ y.data.toList) (h : x.size + y.size ≤ 1099511627776) (W : World) : (Op.stringOp .add x y).run Tryz.prog W = .ok (.string z) W := by
  obtain ⟨⟨a⟩⟩ := x
  obtain ⟨⟨b⟩⟩ := y
  obtain ⟨⟨c⟩⟩ := z
  obtain rfl : c = a ++ b := hz
  have := run_string_add_sum (P := Tryz.prog) W ⟨a.toArray⟩ ⟨b.toArray⟩ (by
    have h' : a.length + b.length ≤ 1099511627776 := h
    show a.length + b.length ≤ 9223372036854775807
    omega)
  rw [ByteArray.mk_append_mk] at this
  exact this

end Go.Proofs.YtfcclppgjfkfoaaGreatDoor

/- The document's answers for layer 13, on: AsNumbers, AsNumber, AsTexts, AsText; its SameTexts of the same texts. Conditions: strings of at most 2^40 bytes. -/
namespace Go.Proofs.YtfcclppgjfkfoaaGreatDoor
open Go.RowKit

theorem nil_of_size {v : ByteArray} (h : v.size = 0) : v = ⟨#[]⟩ := by
  apply ByteArray.ext
  apply Array.ext'
  exact List.length_eq_zero_iff.1 h
theorem ne_nil_of {v : ByteArray} (h : v.size ≠ 0) : (v.toList == ([] : List UInt8)) = false := by
  rw [ByteArray.toList_eq]
  have hl : v.data.toList.length = v.size := rfl
  cases e : v.data.toList with
  | nil => rw [e] at hl; exact absurd hl.symm h
  | cons a r => rfl
/-- AsNumber: the number, and whether it is one. -/
def asN1 (l : List UInt8) : Int := if l.length = 4 then frombig l else 0
end Go.Proofs.YtfcclppgjfkfoaaGreatDoor

/- The document's AsTexts and AsText of layer 13; its SameTexts of the same texts. Conditions: strings of at most 2^40 bytes; at most 2^40 texts. -/
namespace Go.Proofs.YtfcclppgjfkfoaaGreatDoor
open Go.RowKit

/-- How long a string is. -/
def strLen13 : Value → Nat
  | .string s => s.size
  | _ => 0
theorem elemS13 : ElemIs Tryz.prog 22 9 (.string ⟨#[]⟩) 16 := elemIs_mk Tryz.underlying22 rfl (by kernel_rfl)
theorem last_at (p : ByteArray) (m : Nat) (hm : p.size = m + 1) : p.data.toList.getLast? = some (p.data.toList.getD m 0) := by
  have hl : p.data.toList.length = m + 1 := hm
  rw [List.getLast?_eq_getElem?, hl, Nat.add_sub_cancel, List.getD_eq_getElem?_getD, List.getElem?_eq_getElem (by omega)]; rfl
theorem row_txt {w : World} {base : Nat} {v : Value} {l : List ByteArray} (h : w.ownsRow base 9 1 v l.length (l.map Value.string)) : ∃ A cap, v = .slice A l.length cap ∧ RdT w A l := by
  rcases h.2 with ⟨rfl, hz⟩ | ⟨b, cap, cur, rfl, hb, hg, hnc, hcm, hcs, hx⟩
  · exact ⟨none, 0, by rw [hz], .inl (List.length_eq_zero_iff.1 hz)⟩
  · refine ⟨_, cap, rfl, .inr ⟨b, 0, rfl, fun k hk => ?_⟩⟩
    rw [Nat.zero_add, h.cellAt k (by omega)]
    simp [hk]
theorem baL_len (L : List (List UInt8)) : (baL L).length = L.length := List.length_map _

end Go.Proofs.YtfcclppgjfkfoaaGreatDoor

/- The document's AsText of layer 13; its SameTexts of the same texts. Conditions: strings of at most 2^40 bytes; at most 2^40 texts. -/
namespace Go.Proofs.YtfcclppgjfkfoaaGreatDoor
open Go.RowKit

/-- AsText: the only text, and whether there is one. -/
def asT1 (l : List UInt8) : ByteArray × Bool := if okV l = true ∧ (asT l).length = 1 then (⟨((asT l).getD 0 []).toArray⟩, true) else (⟨#[]⟩, false)
theorem baL_one {T : List (List UInt8)} (h : T.length = 1) : (baL T).getD 0 ByteArray.empty = ⟨(T.getD 0 []).toArray⟩ := by
  match T, h with
  | [t], _ => rfl
end Go.Proofs.YtfcclppgjfkfoaaGreatDoor
