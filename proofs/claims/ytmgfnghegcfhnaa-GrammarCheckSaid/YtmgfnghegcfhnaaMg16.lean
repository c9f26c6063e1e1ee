/- Append of one element of any type, just made, and of a whole slice of one's own, to a slice of one's own. Conditions: fewer than 2^47 bytes. -/
import Derived.Test.YtmgfnghegcfhnaaMg15
import Derived.WalkKit
namespace Go.Proofs.Ytmgfnghegcfhnaa
open Go.RowKit

/-- What append asks of a slice's type: its elements' type, zero value, cells, bytes. -/
def ElemN (P : Program) (t e : TypeId) (size bytes : Nat) : Prop := P.underlying t = some (.slice e) ∧ ∃ i z, P.info? e = some i ∧ i.zero = some z ∧ i.size = size ∧ i.bytes = bytes ∧ z.cells.size = size ∧ 0 < size
theorem elemN_mk {P : Program} {t e : TypeId} {z : Value} {size bytes : Nat} (h0 : P.underlying t = some (.slice e)) (h : (P.info? e).map (fun i => (i.zero, i.size, i.bytes)) = some (some z, size, bytes)) (hz : z.cells.size = size) (hs : 0 < size) : ElemN P t e size bytes := by
  obtain ⟨i, hi, he⟩ := Option.map_eq_some_iff.1 h
  simp only [Prod.mk.injEq] at he
  exact ⟨h0, i, z, hi, he.1, he.2.1, he.2.2, hz, hs⟩
theorem run_append_none {P : Program} (w : World) (t ty e : TypeId) (i : TypeInfo) (ht : P.underlying t = some (.slice e)) (hi : P.info? e = some i) (A : Option Addr) (n c : Nat) (hc : n ≤ c) :
    (Builtin.append_ #[t, t] ty #[.slice A n c, .slice none 0 0]).run P w = .ok (.slice A n c) w := by
  cases A with
  | none => simp [Builtin.append_, run_underlying ht, sizeOf, typeInfo, hi, Builtin.lenOf, Builtin.firstCells, hc]
  | some a => simp [Builtin.append_, run_underlying ht, sizeOf, typeInfo, hi, Builtin.lenOf, Builtin.firstCells, hc, storeCells]
/-- How an own slice is written. -/
theorem slice_ofN {w : World} {base e size : Nat} {v : Value} {n : Nat} {xs : List Value} (h : w.ownsRow base e size v n xs) : ∃ A cap, v = .slice A n cap ∧ n ≤ cap := by
  rcases h.2 with ⟨h1, h2⟩ | ⟨b, cap, cur, h1, _, _, h2, _⟩
  · exact ⟨none, 0, by rw [h1, h2], by omega⟩
  · exact ⟨_, cap, h1, h2⟩
section
variable {P : Program} {ops : Array Oper} {rest : List Oper} {o : Oper} {a : Act} {Q : Exit → Act → World → Prop} {w : World}
/-- 's = append(s, x)', x just laid in a block of its own. -/
theorem append_new (hgd : o.guard = none) (s y : Operand) (t : TypeId) (ho : o.op = .call { callee := .builtin .append, args := #[s, y], argTypes := #[t, t] })
    (e size bytes : Nat) (hel : Hid (ElemN P t e size bytes)) (v : Value) (n : Nat) (xs : List Value) (hs : a.eval s = v) (hown : w.ownsRow 0 e size v n xs) (cs : Array Value) (hcs : cs.size = size) (h1 : ∀ u ∈ cs.toList, u.oneCell' = true)
    (H : Nat) (hH : w.heap.size = H) (hx : a.eval y = .slice (some ⟨H, 0, none⟩) 1 1) (hm : n + 1 ≤ maxLen) (hb : (n + 1) * bytes ≤ 140737488355328)
    (h : ∀ v' w', w'.ownsRow 0 e size v' (n + 1) (xs ++ cs.toList) → Moved w w' (ownS v) (ownS v') → wpList P ops Q rest (a.put o.dst v') w') : wpList P ops Q (o :: rest) a (w.alloc (.cells cs e)) := by
  subst hH
  obtain ⟨h0, i, z, hi, hz0, hz1, hz2, hz3, hz4⟩ := hel.out
  refine wpList_append_own_at _ hgd s y t ho 0 e i z size bytes h0 hi hz0 hz1 hz2 hz3 hz4 v n xs hs (hown.alloc _) ⟨w.heap.size, 0, none⟩ 1 1 cs.toList hx (by rw [Array.length_toList, hcs]; omega) ?_ h1 hm hb (Nat.zero_le _) ?_
  · intro j u hj
    have e : (⟨w.heap.size, 0, none⟩ : Addr).add j = ⟨w.heap.size, j, none⟩ := by unfold Addr.add; split <;> simp_all
    rw [e, (Arr.new w _ cs).cell, ← hj, Array.getElem?_toList]
  · intro v' w' ho' hg _ hl
    refine h v' w' ho' (Moved.of_grown ((World.grownBy_alloc w _ _).trans hg) ?_)
    rcases hl with hl | hl
    · exact .inl hl
    · rw [sz_alloc] at hl; exact .inr ⟨_, hl, Nat.le_succ _⟩
theorem run_append_row (w : World) (t ty e : TypeId) (size bytes : Nat) (hel : Hid (ElemN P t e size bytes)) (v u : Value) (n m B : Nat) (xs ys : List Value) (hown : w.ownsRow 0 e size v n xs) (hr : w.ownsRow B e size u m ys) (h1 : ∀ x ∈ ys, x.oneCell' = true)
    (hm : n + m ≤ maxLen) (hb : (n + m) * bytes ≤ 140737488355328) :
    ∃ v' w', (Builtin.append_ #[t, t] ty #[v, u]).run P w = .ok v' w' ∧ w'.ownsRow 0 e size v' (n + m) (xs ++ ys) ∧ Moved w w' (ownS v) (ownS v') := by
  obtain ⟨h0, i, z, hi, hz0, hz1, hz2, hz3, hz4⟩ := hel.out
  have hyl := hr.1
  rcases hr.2 with ⟨hu, hz⟩ | ⟨b, cap, cur, hu, _, hg, hnc, _, hcs, hx2⟩
  · subst hz
    have hy0 : ys = [] := List.length_eq_zero_iff.1 (by rw [hyl]; omega)
    subst hy0
    obtain ⟨A, cap, hv, hcap⟩ := slice_ofN hown
    refine ⟨.slice A n cap, w, by rw [hv, hu]; exact run_append_none w t ty e i h0 hi A n cap hcap, ?_, ?_⟩
    · rw [List.append_nil, Nat.add_zero, ← hv]; exact hown
    · rw [← hv]; exact Moved.refl _ _
  · obtain ⟨v', w', hrun, ho', hg', _, hl⟩ := run_append_own_at (P := P) w 0 t ty e i z size bytes h0 hi hz0 hz1 hz2 hz3 hz4 v n xs hown ⟨b, 0, none⟩ m cap ys hyl (by
      intro j u' hj
      have e : (⟨b, 0, none⟩ : Addr).add j = ⟨b, j, none⟩ := by unfold Addr.add; split <;> simp_all
      have hlt : j < m * size := by
        have := (List.getElem?_eq_some_iff.1 hj).1
        rw [hyl] at this; exact this
      rw [e, cell_of_row w b _ cur _ (0, 0) hg, ← hj, ← hx2, List.getElem?_take_of_lt hlt, Array.getElem?_toList]) h1 hm hb (Nat.zero_le _)
    refine ⟨v', w', by rw [hu]; exact hrun, ho', Moved.of_grown hg' ?_⟩
    rcases hl with hl | hl
    · exact .inl hl
    · exact .inr ⟨_, hl, Nat.le_refl _⟩
/-- 's = append(s, r...)', r a slice of some call's own. -/
theorem append_row (hgd : o.guard = none) (s y : Operand) (t : TypeId) (ho : o.op = .call { callee := .builtin .append, args := #[s, y], argTypes := #[t, t] })
    (e size bytes : Nat) (hel : Hid (ElemN P t e size bytes)) (v u : Value) (n m B : Nat) (xs ys : List Value) (hs : a.eval s = v) (hown : w.ownsRow 0 e size v n xs) (hx : a.eval y = u) (hr : w.ownsRow B e size u m ys) (h1 : ∀ x ∈ ys, x.oneCell' = true)
    (hm : n + m ≤ maxLen) (hb : (n + m) * bytes ≤ 140737488355328)
    (h : ∀ v' w', w'.ownsRow 0 e size v' (n + m) (xs ++ ys) → Moved w w' (ownS v) (ownS v') → wpList P ops Q rest (a.put o.dst v') w') : wpList P ops Q (o :: rest) a w := by
  obtain ⟨v', w', hrun, h2, h3⟩ := run_append_row (P := P) w t o.type e size bytes hel v u n m B xs ys hown hr h1 hm hb
  refine wpList_plain hgd fun K hK => ?_
  unfold Oper.wp execOp
  simp only [ho, resolve, invoke, builtin, Sem.run_bind, Sem.run_pure, Result.andThen_ok, List.map_toArray, List.map_cons, List.map_nil, hs, hx, hrun]
  exact hK _ _ (h v' w' h2 h3)
/-- The same in a region that draws its order. -/
theorem step_append_row {K : Act → World → Prop} {E : Prop} (hgd : o.guard = none) (s y : Operand) (t : TypeId) (ho : o.op = .call { callee := .builtin .append, args := #[s, y], argTypes := #[t, t] })
    (e size bytes : Nat) (hel : Hid (ElemN P t e size bytes)) (v u : Value) (n m B : Nat) (xs ys : List Value) (hs : a.eval s = v) (hown : w.ownsRow 0 e size v n xs) (hx : a.eval y = u) (hr : w.ownsRow B e size u m ys) (h1 : ∀ x ∈ ys, x.oneCell' = true)
    (hm : n + m ≤ maxLen) (hb : (n + m) * bytes ≤ 140737488355328)
    (h : ∀ A' cap' w', w'.ownsRow 0 e size (.slice A' (n + m) cap') (n + m) (xs ++ ys) → Moved w w' (ownS v) (ownS (.slice A' (n + m) cap')) → K (a.put o.dst (.slice A' (n + m) cap')) w') : if Region.wanted o (yielded ops a.tmps) = true then Oper.wp P o a w K Q else E := by
  have hw : Region.wanted o (yielded ops a.tmps) = true := by simp [Region.wanted, hgd]
  rw [if_pos hw]
  obtain ⟨v', w', hrun, h2, h3⟩ := run_append_row (P := P) w t o.type e size bytes hel v u n m B xs ys hown hr h1 hm hb
  obtain ⟨A', cap', rfl, _⟩ := slice_ofN h2
  unfold Oper.wp execOp
  simp only [ho, resolve, invoke, builtin, Sem.run_bind, Sem.run_pure, Result.andThen_ok, List.map_toArray, List.map_cons, List.map_nil, hs, hx, hrun]
  exact h A' cap' w' h2 h3
end
end Go.Proofs.Ytmgfnghegcfhnaa
