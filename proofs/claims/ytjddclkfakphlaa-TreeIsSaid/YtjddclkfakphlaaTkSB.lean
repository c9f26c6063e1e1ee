/- Append of a slice of tokens to one's own. Conditions: at most 2^40 tokens. -/
import Derived.Test.YtjddclkfakphlaaTkS
namespace Go.Proofs.Ytjddclkfakphlaa
open Go.RowKit

theorem tkL_app (l r : List TK) : tkL (l ++ r) = tkL l ++ tkL r := by simp [tkL]
theorem tkL_one (l : List TK) : ∀ u ∈ tkL l, u.oneCell' = true := by
  intro u hu
  simp only [tkL, List.mem_flatMap] at hu
  obtain ⟨x, _, hx⟩ := hu
  simp [tkl] at hx
  rcases hx with rfl | rfl | rfl <;> rfl
theorem run_append_nothing {P : Program} (w : World) (t ty e : TypeId) (i : TypeInfo) (ht : P.underlying t = some (.slice e)) (hi : P.info? e = some i) (A : Option Addr) (n c : Nat) (hc : n ≤ c) :
    (Builtin.append_ #[t, t] ty #[.slice A n c, .slice none 0 0]).run P w = .ok (.slice A n c) w := by
  cases A with
  | none => simp [Builtin.append_, run_underlying ht, sizeOf, typeInfo, hi, Builtin.lenOf, Builtin.firstCells, hc]
  | some a => simp [Builtin.append_, run_underlying ht, sizeOf, typeInfo, hi, Builtin.lenOf, Builtin.firstCells, hc, storeCells]
/-- 'l = append(l, r...)', r a slice of tokens of some call's own. -/
theorem append_tks {ops : Array Oper} {rest : List Oper} {o : Oper} {a : Act} {Q : Exit → Act → World → Prop} {w : World} (hgd : o.guard = none) (s y : Operand)
    (ho : o.op = .call { callee := .builtin .append, args := #[s, y], argTypes := #[31, 31] })
    (v u : Value) (l r : List TK) (B : Nat) (hs : a.eval s = v) (hown : w.ownsRow 0 46 3 v l.length (tkL l)) (hx : a.eval y = u) (hr : w.ownsRow B 46 3 u r.length (tkL r))
    (hn : l.length + r.length ≤ 1099511627776)
    (h : ∀ v' w', w'.ownsRow 0 46 3 v' (l ++ r).length (tkL (l ++ r)) → Moved w w' (ownS v) (ownS v') → wpList Try.prog ops Q rest (a.put o.dst v') w') : wpList Try.prog ops Q (o :: rest) a w := by
  have hinf : ((Try.prog.info? 46).map fun i => (i.zero, i.size, i.bytes)) = some (some (tkV tk0), 3, 40) := by kernel_rfl
  obtain ⟨i, hi, he⟩ := Option.map_eq_some_iff.1 hinf
  simp only [Prod.mk.injEq] at he
  rcases hr.2 with ⟨hu, hz⟩ | ⟨b, cap, cur, hu, _, hg, hnc, _, hcs, hx2⟩
  · have hr0 : r = [] := List.length_eq_zero_iff.1 hz
    subst hr0
    obtain ⟨A, cap, hv, hcap⟩ : ∃ A cap, v = .slice A l.length cap ∧ l.length ≤ cap := by
      rcases hown.2 with ⟨h1, h2⟩ | ⟨b, cap, cur, h1, _, _, h2, _⟩
      · exact ⟨none, 0, by rw [h1, h2], by omega⟩
      · exact ⟨_, cap, h1, h2⟩
    refine wpList_plain hgd fun K hK => ?_
    have hrun := run_append_nothing (P := Try.prog) w 31 o.type 46 i Try.underlying31 hi A l.length cap hcap
    unfold Oper.wp execOp
    simp only [ho, resolve, invoke, builtin, Sem.run_bind, Sem.run_pure, Result.andThen_ok, List.map_toArray, List.map_cons, List.map_nil, hs, hx, hu, hv, hrun]
    refine hK _ _ (h _ w ?_ ?_)
    · rw [List.append_nil, ← hv]; exact hown
    · rw [← hv]; exact Moved.refl _ _
  · refine wpList_append_own_at _ hgd s y 31 ho 0 46 i (tkV tk0) 3 40 Try.underlying31 hi he.1 he.2.1 he.2.2 rfl (by decide) v l.length (tkL l) hs hown ⟨b, 0, none⟩ r.length cap (tkL r) (hx.trans hu) (tkL_length r) ?_ (tkL_one r) (by unfold maxLen; omega) (by omega) (Nat.zero_le _) ?_
    · intro j u' hj
      have e : (⟨b, 0, none⟩ : Addr).add j = ⟨b, j, none⟩ := by unfold Addr.add; split <;> simp_all
      have hlt : j < r.length * 3 := by
        have := (List.getElem?_eq_some_iff.1 hj).1
        rw [tkL_length] at this; exact this
      rw [e, cell_of_row w b _ cur _ (0, 0) hg, ← hj, ← hx2, List.getElem?_take_of_lt hlt, Array.getElem?_toList]
    · intro v' w' ho' hg' _ hl
      refine h v' w' (by rw [tkL_app, List.length_append]; exact ho') (Moved.of_grown hg' ?_)
      rcases hl with hl | hl
      · exact .inl hl
      · exact .inr ⟨_, hl, Nat.le_refl _⟩
end Go.Proofs.Ytjddclkfakphlaa
