/- Appending to a slice of a call's own, and where the new slice lies: one element of one cell, and a string's bytes. Conditions: fewer than 2^47 bytes. -/
import Derived.Test.YtmgfnghegcfhnaaMg9
import Derived.Maps.AppendAt
import Derived.Lib.AppendStr
namespace Go.Proofs.Ytmgfnghegcfhnaa
open Go.RowKit

/-- The block of a slice of the call's own. -/
def ownS (v : Value) (k : Nat) : Prop := v.ownBlock = some k
theorem Moved.inside {w w' : World} {F F' G G' : Nat → Prop} (h : Moved w w' F F') (hG : ∀ k, F k → G k) (hG' : ∀ k, G' k → G k ∨ F' k ∨ w.heap.size ≤ k) : Moved w w' G G' :=
  ⟨h.os, h.tape, h.output, h.size, fun k hk hn => h.block k hk (fun hf => hn (hG k hf)), fun k hk => by
    rcases hG' k hk with h1 | h1 | h1
    · exact .inl h1
    · exact (h.foot k h1).imp (hG k) id
    · exact .inr h1⟩
theorem Moved.of_grown {w w' : World} {v v' : Value} (hg : w.grownBy w' v.ownBlock) (hl : v'.ownBlock = v.ownBlock ∨ ∃ k, v'.ownBlock = some k ∧ w.heap.size ≤ k) : Moved w w' (ownS v) (ownS v') :=
  ⟨hg.os, hg.tape, hg.output, hg.size, fun k hk hn => hg.block k hk (fun e => hn e.symm), fun k hk => by
    rcases hl with h | ⟨j, h, hj⟩
    · refine .inl ?_; unfold ownS at hk ⊢; rwa [h] at hk
    · unfold ownS at hk; rw [h] at hk; injection hk with hk; exact .inr (hk ▸ hj)⟩
theorem ow_base {w : World} {base base' e size : Nat} {v : Value} {n : Nat} {xs : List Value} (h : w.ownsRow base e size v n xs) (hb : ∀ k, v.ownBlock = some k → base' ≤ k) : w.ownsRow base' e size v n xs := by
  obtain ⟨q1, q2 | ⟨g, c, cur, q3, q4, q5⟩⟩ := h
  · exact ⟨q1, .inl q2⟩
  · exact ⟨q1, .inr ⟨g, c, cur, q3, hb g (by rw [q3]; rfl), q5⟩⟩
theorem Moved.row {w w' : World} {F F' : Nat → Prop} {base e size : Nat} {v : Value} {n : Nat} {xs : List Value} (h : Moved w w' F F') (ho : w.ownsRow base e size v n xs) (hf : ∀ k, v.ownBlock = some k → ¬ F k) : w'.ownsRow base e size v n xs := by
  obtain ⟨q1, q2 | ⟨g, c, cur, q3, q4, q5, q6⟩⟩ := ho
  · exact ⟨q1, .inl q2⟩
  · exact ⟨q1, .inr ⟨g, c, cur, q3, q4, (h.block g (Array.getElem?_eq_some_iff.1 q5).1 (hf g (by rw [q3]; rfl))).trans q5, q6⟩⟩
/-- 's = append(s, u)', s a slice of the call's own. -/
theorem append_moved {P : Program} {ops : Array Oper} {rest : List Oper} {o : Oper} {a : Act} {Q : Exit → Act → World → Prop} {w : World} (hgd : o.guard = none) (s x : Operand) (t : TypeId)
    (ho : o.op = .call { callee := .builtin .append, args := #[s, x], argTypes := #[t, t] })
    (e : TypeId) (z : Value) (bytes : Nat) (hel : Hid (ElemIs P t e z bytes)) (u : Value) (h1 : u.oneCell' = true)
    (v : Value) (n : Nat) (xs : List Value) (hs : a.eval s = v) (hown : w.ownsRow 0 e 1 v n xs) (H : Nat) (hH : w.heap.size = H) (hx : a.eval x = .slice (some ⟨H, 0, none⟩) 1 1)
    (hn : (n + 1) * bytes ≤ 140737488355328) (hm : n + 1 ≤ maxLen)
    (h : ∀ v' w', w'.ownsRow 0 e 1 v' (n + 1) (xs ++ [u]) → Moved w w' (ownS v) (ownS v') → wpList P ops Q rest (a.put o.dst v') w') : wpList P ops Q (o :: rest) a (w.alloc (.cells #[u] e)) := by
  subst hH
  obtain ⟨h0, hz, i, hi, hz0, hz1, hz2⟩ := hel.out
  refine wpList_append_own_at _ hgd s x t ho 0 e i z 1 bytes h0 hi hz0 hz1 hz2 hz (by decide) v n xs hs (hown.alloc _) ⟨w.heap.size, 0, none⟩ 1 1 [u] hx rfl (cell_one_new w u e) ?_ hm hn (Nat.zero_le _) ?_
  · intro y hy; simp at hy; subst hy; exact h1
  · intro v' w' ho' hg _ hl
    refine h v' w' ho' (Moved.of_grown ((World.grownBy_alloc w _ _).trans hg) ?_)
    rcases hl with hl | hl
    · exact .inl hl
    · rw [sz_alloc] at hl; exact .inr ⟨_, hl, Nat.le_succ _⟩
theorem run_append_str_at {P : Program} (w : World) (t u ty e : TypeId) (i : TypeInfo) (ht : P.underlying t = some (.slice e)) (hu : P.underlying u = some .string) (hi : P.info? e = some i) (hz : i.zero = some (.int .u8 0)) (hsize : i.size = 1) (hby : i.bytes = 1)
    (v : Value) (n : Nat) (xs : List Value) (hown : w.ownsRow 0 e 1 v n xs) (s : ByteArray) (h63 : n + s.size ≤ maxLen) (hbytes : n + s.size ≤ 140737488355328) :
    ∃ v' w', (Builtin.append_ #[t, u] ty #[v, .string s]).run P w = .ok v' w' ∧ w'.ownsRow 0 e 1 v' (n + s.size) (xs ++ Lib.strCells s) ∧ Moved w w' (ownS v) (ownS v') := by
  obtain ⟨v', w', hr, ho, hg, _⟩ := Lib.run_append_own_string w 0 t u ty e i ht hu hi hz hsize hby v n xs hown s h63 hbytes (Nat.zero_le _)
  refine ⟨v', w', hr, ho, Moved.of_grown hg ?_⟩
  have hxl : xs.length = n := by simpa using hown.1
  rcases hown.2 with ⟨rfl, rfl⟩ | ⟨g, cap, cur, rfl, hbg, hgg, hnc, hcm, hcs, htake⟩
  · cases hk : v'.ownBlock with
    | none => exact .inl rfl
    | some k =>
      refine .inr ⟨k, rfl, ?_⟩
      obtain ⟨v2, w2, hr2, ho2, _⟩ := Lib.run_append_own_string w w.heap.size t u ty e i ht hu hi hz hsize hby (.slice none 0 0) 0 xs ⟨hown.1, .inl ⟨rfl, rfl⟩⟩ s h63 hbytes (Nat.le_refl _)
      rw [hr] at hr2
      injection hr2 with e1 e2
      subst e1
      rcases ho2.2 with ⟨rfl, _⟩ | ⟨g2, _, _, rfl, hb2, _⟩
      · cases hk
      · injection hk with hk; exact hk ▸ hb2
  · by_cases hroom : n + s.size ≤ cap
    · have hcs' : cur.size = cap := by simpa using hcs
      rw [Lib.run_append_room_string (P := P) w t u ty e i ht hu hi hsize g n cap cur hgg s hroom (by omega)] at hr
      injection hr with e1 _
      subst e1
      exact .inl rfl
    · rw [Lib.run_append_grow_string (P := P) w t u ty e i (.int .u8 0) ht hu hi hz ⟨g, 0, none⟩ n cap xs (by rw [hsize]; simpa using hxl) (hown.cells (g := g) rfl) s (by omega) (by simp only [maxLen] at h63; omega) (by rw [hby]; exact growslice_fits (by omega) (by omega))] at hr
      injection hr with e1 _
      subst e1
      exact .inr ⟨_, rfl, Nat.le_refl _⟩
/-- 's = append(s, t...)', s a slice of bytes of the call's own, t a string. -/
theorem append_str_moved {P : Program} {ops : Array Oper} {rest : List Oper} {o : Oper} {a : Act} {Q : Exit → Act → World → Prop} {w : World} (hgd : o.guard = none) (sl x : Operand) (t u : TypeId)
    (ho : o.op = .call { callee := .builtin .append, args := #[sl, x], argTypes := #[t, u] })
    (e : TypeId) (hel : Hid (ElemIs P t e (.int .u8 0) 1)) (hu : P.underlying u = some .string)
    (v : Value) (n : Nat) (xs : List Value) (hs : a.eval sl = v) (hown : w.ownsRow 0 e 1 v n xs) (s : ByteArray) (hx : a.eval x = .string s)
    (h63 : n + s.size ≤ maxLen) (hbytes : n + s.size ≤ 140737488355328)
    (h : ∀ v' w', w'.ownsRow 0 e 1 v' (n + s.size) (xs ++ Lib.strCells s) → Moved w w' (ownS v) (ownS v') → wpList P ops Q rest (a.put o.dst v') w') : wpList P ops Q (o :: rest) a w := by
  obtain ⟨h0, hz, i, hi, hz0, hz1, hz2⟩ := hel.out
  refine wpList_plain hgd fun K hK => ?_
  obtain ⟨v', w', hr, h2, h3⟩ := run_append_str_at (P := P) w t u o.type e i h0 hu hi hz0 hz1 hz2 v n xs hown s h63 hbytes
  unfold Oper.wp execOp
  simp only [ho, resolve, invoke, builtin, Sem.run_bind, Sem.run_pure, Result.andThen_ok, List.map_toArray, List.map_cons, List.map_nil, hs, hx, hr]
  exact hK _ _ (h v' w' h2 h3)
end Go.Proofs.Ytmgfnghegcfhnaa
