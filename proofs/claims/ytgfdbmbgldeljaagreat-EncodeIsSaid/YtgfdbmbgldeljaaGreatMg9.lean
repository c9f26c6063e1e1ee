/- Appending to a slice of a call's own, and where the new slice lies: one element of one cell, and a string's bytes. Conditions: fewer than 2^47 bytes. -/
import Derived.Test.YtgfdbmbgldeljaaGreatMg8
import Derived.Maps.AppendAt
import Derived.Lib.AppendStr
import Derived.Maps.OwnSet
import Derived.Lib.BufferRead
import Derived.Lib.SliceRun
import Derived.Deep.DeepCutAuto
import Derived.Carry
namespace Go.Proofs.YtgfdbmbgldeljaaGreat
open Go.RowKit

/-- The block of a slice of the call's own. -/
def ownS (v : Value) (k : Nat) : Prop := v.ownBlock = some k
theorem Moved.inside {w w' : World} {F F' G G' : Nat → Prop} (h : Moved w w' F F') (hG : ∀ k, F k → G k) (hG' : ∀ k, G' k → G k ∨ F' k ∨ w.heap.size ≤ k) : Moved w w' G G' :=
  ⟨h.os, h.tape, h.output, h.size, fun k hk hn => h.block k hk (fun hf => hn (hG k hf)), fun k hk => by
    rcases hG' k hk with h1 | h1 | h1
    · exact .inl h1
    · exact (h.foot k h1).imp (hG k) id
    · exact .inr h1⟩
theorem Moved.of_grown {w w' : World} {v v' : Value} (hg : w.grownBy w' v.ownBlock) (hl : v'.ownBlock = v.ownBlock ∨ ∃ k, v'.ownBlock = some k ∧ w.heap.size ≤ k) : Moved w w' (ownS v) (ownS v') :=
  ⟨hg.os, hg.tape, hg.output, hg.size, fun k hk hn => hg.block k hk (fun e => hn e.symm), fun k hk => by
    rcases hl with h | ⟨j, h, hj⟩
    · refine .inl ?_; unfold ownS at hk ⊢; rwa [h] at hk
    · unfold ownS at hk; rw [h] at hk; injection hk with hk; exact .inr (hk ▸ hj)⟩
theorem ow_base {w : World} {base base' e size : Nat} {v : Value} {n : Nat} {xs : List Value} (h : w.ownsRow base e size v n xs) (hb : ∀ k, v.ownBlock = some k → base' ≤ k) : w.ownsRow base' e size v n xs := by
  obtain ⟨q1, q2 | ⟨g, c, cur, q3, q4, q5⟩⟩ := h
  · exact ⟨q1, .inl q2⟩
  · exact ⟨q1, .inr ⟨g, c, cur, q3, hb g (by rw [q3]; rfl), q5⟩⟩
theorem Moved.row {w w' : World} {F F' : Nat → Prop} {base e size : Nat} {v : Value} {n : Nat} {xs : List Value} (h : Moved w w' F F') (ho : w.ownsRow base e size v n xs) (hf : ∀ k, v.ownBlock = some k → ¬ F k) : w'.ownsRow base e size v n xs := by
  obtain ⟨q1, q2 | ⟨g, c, cur, q3, q4, q5, q6⟩⟩ := ho
  · exact ⟨q1, .inl q2⟩
  · exact ⟨q1, .inr ⟨g, c, cur, q3, q4, (h.block g (Array.getElem?_eq_some_iff.1 q5).1 (hf g (by rw [q3]; rfl))).trans q5, q6⟩⟩
/-- 's = append(s, u)', s a slice of the call's own. -/
theorem append_moved {P : Program} {ops : Array Oper} {rest : List Oper} {o : Oper} {a : Act} {Q : Exit → Act → World → Prop} {w : World} (hgd : o.guard = none) (s x : Operand) (t : TypeId)
    (ho : o.op = .call { callee := .builtin .append, args := #[s, x], argTypes := #[t, t] })
    (e : TypeId) (z : Value) (bytes : Nat) (hel : Hid (ElemIs P t e z bytes)) (u : Value) (h1 : u.oneCell' = true)
    (v : Value) (n : Nat) (xs : List Value) (hs : a.eval s = v) (hown : w.ownsRow 0 e 1 v n xs) (H : Nat) (hH : w.heap.size = H) (hx : a.eval x = .slice (some ⟨H, 0, none⟩) 1 1)
    (hn : (n + 1) * bytes ≤ 140737488355328) (hm : n + 1 ≤ maxLen)
    (h : ∀ v' w', w'.ownsRow 0 e 1 v' (n + 1) (xs ++ [u]) → Moved w w' (ownS v) (ownS v') → wpList P ops Q rest (a.put o.dst v') w') : wpList P ops Q (o :: rest) a (w.alloc (.cells #[u] e)) := by
  subst hH
  obtain ⟨h0, hz, i, hi, hz0, hz1, hz2⟩ := hel.out
  refine wpList_append_own_at _ hgd s x t ho 0 e i z 1 bytes h0 hi hz0 hz1 hz2 hz (by decide) v n xs hs (hown.alloc _) ⟨w.heap.size, 0, none⟩ 1 1 [u] hx rfl (cell_one_new w u e) ?_ hm hn (Nat.zero_le _) ?_
  · intro y hy; simp at hy; subst hy; exact h1
  · intro v' w' ho' hg _ hl
    refine h v' w' ho' (Moved.of_grown ((World.grownBy_alloc w _ _).trans hg) ?_)
    rcases hl with hl | hl
    · exact .inl hl
    · rw [sz_alloc] at hl; exact .inr ⟨_, hl, Nat.le_succ _⟩
theorem run_append_str_at {P : Program} (w : World) (t u ty e : TypeId) (i : TypeInfo) (ht : P.underlying t = some (.slice e)) (hu : P.underlying u = some .string) (hi : P.info? e = some i) (hz : i.zero = some (.int .u8 0)) (hsize : i.size = 1) (hby : i.bytes = 1)
    (v : Value) (n : Nat) (xs : List Value) (hown : w.ownsRow 0 e 1 v n xs) (s : ByteArray) (h63 : n + s.size ≤ maxLen) (hbytes : n + s.size ≤ 140737488355328) :
    ∃ v' w', (Builtin.append_ #[t, u] ty #[v, .string s]).run P w = .ok v' w' ∧ w'.ownsRow 0 e 1 v' (n + s.size) (xs ++ Lib.strCells s) ∧ Moved w w' (ownS v) (ownS v') := by
  obtain ⟨v', w', hr, ho, hg, _⟩ := Lib.run_append_own_string w 0 t u ty e i ht hu hi hz hsize hby v n xs hown s h63 hbytes (Nat.zero_le _)
  refine ⟨v', w', hr, ho, Moved.of_grown hg ?_⟩
  have hxl : xs.length = n := by simpa using hown.1
  rcases hown.2 with ⟨rfl, rfl⟩ | ⟨g, cap, cur, rfl, hbg, hgg, hnc, hcm, hcs, htake⟩
  · cases hk : v'.ownBlock with
    | none => exact .inl rfl
    | some k =>
      refine .inr ⟨k, rfl, ?_⟩
      obtain ⟨v2, w2, hr2, ho2, _⟩ := Lib.run_append_own_string w w.heap.size t u ty e i ht hu hi hz hsize hby (.slice none 0 0) 0 xs ⟨hown.1, .inl ⟨rfl, rfl⟩⟩ s h63 hbytes (Nat.le_refl _)
      rw [hr] at hr2
      injection hr2 with e1 e2
      subst e1
      rcases ho2.2 with ⟨rfl, _⟩ | ⟨g2, _, _, rfl, hb2, _⟩
      · cases hk
      · injection hk with hk; exact hk ▸ hb2
  · by_cases hroom : n + s.size ≤ cap
    · have hcs' : cur.size = cap := by simpa using hcs
      rw [Lib.run_append_room_string (P := P) w t u ty e i ht hu hi hsize g n cap cur hgg s hroom (by omega)] at hr
      injection hr with e1 _
      subst e1
      exact .inl rfl
    · rw [Lib.run_append_grow_string (P := P) w t u ty e i (.int .u8 0) ht hu hi hz ⟨g, 0, none⟩ n cap xs (by rw [hsize]; simpa using hxl) (hown.cells (g := g) rfl) s (by omega) (by simp only [maxLen] at h63; omega) (by rw [hby]; exact growslice_fits (by omega) (by omega))] at hr
      injection hr with e1 _
      subst e1
      exact .inr ⟨_, rfl, Nat.le_refl _⟩
/-- 's = append(s, t...)', s a slice of bytes of the call's own, t a string. -/
theorem append_str_moved {P : Program} {ops : Array Oper} {rest : List Oper} {o : Oper} {a : Act} {Q : Exit → Act → World → Prop} {w : World} (hgd : o.guard = none) (sl x : Operand) (t u : TypeId)
    (ho : o.op = .call { callee := .builtin .append, args := #[sl, x], argTypes := #[t, u] })
    (e : TypeId) (hel : Hid (ElemIs P t e (.int .u8 0) 1)) (hu : P.underlying u = some .string)
    (v : Value) (n : Nat) (xs : List Value) (hs : a.eval sl = v) (hown : w.ownsRow 0 e 1 v n xs) (s : ByteArray) (hx : a.eval x = .string s)
    (h63 : n + s.size ≤ maxLen) (hbytes : n + s.size ≤ 140737488355328)
    (h : ∀ v' w', w'.ownsRow 0 e 1 v' (n + s.size) (xs ++ Lib.strCells s) → Moved w w' (ownS v) (ownS v') → wpList P ops Q rest (a.put o.dst v') w') : wpList P ops Q (o :: rest) a w := by
  obtain ⟨h0, hz, i, hi, hz0, hz1, hz2⟩ := hel.out
  refine wpList_plain hgd fun K hK => ?_
  obtain ⟨v', w', hr, h2, h3⟩ := run_append_str_at (P := P) w t u o.type e i h0 hu hi hz0 hz1 hz2 v n xs hown s h63 hbytes
  unfold Oper.wp execOp
  simp only [ho, resolve, invoke, builtin, Sem.run_bind, Sem.run_pure, Result.andThen_ok, List.map_toArray, List.map_cons, List.map_nil, hs, hx, hr]
  exact hK _ _ (h v' w' h2 h3)
end Go.Proofs.YtgfdbmbgldeljaaGreat

/- A Block in memory: its bytes, its map of positions, its count; what own, Bytes and Add do. Conditions: at most 2^30 strings are there. -/
namespace Go.Proofs.YtgfdbmbgldeljaaGreat
open Go.RowKit Go.Maps Go.WideMaps

theorem keyS : Keyed Tryz.prog 9 := string_keyed Tryz.underlying9
theorem zeroI (w : World) : (zeroValue 3).run Tryz.prog w = .ok (.int .i64 0) w := by kernel_rfl
theorem elemB : ElemIs Tryz.prog 58 5 (.int .u8 0) 1 := elemIs_mk Tryz.underlying58 rfl (by kernel_rfl)
theorem bytes_eq' {a b : ByteArray} (h : a.data.toList = b.data.toList) : a = b := ByteArray.ext (Array.ext' h)
/-- A map's reading is the strings L with their places. -/
def MapIs (D : DataW Unit) (L : List ByteArray) : Prop :=
  Tidy D ∧ Maps.size D = L.length ∧ ∀ s : ByteArray, Maps.has D (.string s.data.toList) = thereB L s ∧ (thereB L s = true → D.atKey (.string s.data.toList) (.lit (.int .i64 0)) = .lit (.int .i64 (posn L s)))
theorem mapIs_nil : MapIs (.map []) [] := ⟨tidy_empty, rfl, fun _ => ⟨rfl, fun h => by cases h⟩⟩
theorem keyLit (s : ByteArray) : WideAt.IsKeyLit (.string s.data.toList) := trivial
theorem mapIs_put {D : DataW Unit} {L : List ByteArray} (h : MapIs D L) {s : ByteArray} (hs : thereB L s = false) : MapIs (D.put (.string s.data.toList) (.lit (.int .i64 ((flat L).length : Int)))) (L ++ [s]) := by
  obtain ⟨h1, h2, h3⟩ := h
  have hs' := thereB_not.1 hs
  refine ⟨h1.put (keyLit s) _, ?_, fun t => ?_⟩
  · rw [size_put h1, (h3 s).1, hs, h2]; simp
  · by_cases e : t = s
    · subst e
      refine ⟨?_, fun _ => ?_⟩
      · rw [has_put_same h1.isMap (keyLit t), eq_comm, thereB_iff]; simp
      · rw [atKey_put_same h1.isMap (keyLit t), posn_snoc L t hs']
    · have hne : Lit.string t.data.toList ≠ Lit.string s.data.toList := fun h => e (bytes_eq' (Lit.string.inj h))
      have ht : thereB (L ++ [s]) t = thereB L t := by
        rw [Bool.eq_iff_iff, thereB_iff, thereB_iff, List.mem_append, List.mem_singleton]
        exact ⟨fun h => h.elim id (fun h => absurd h e), .inl⟩
      refine ⟨by rw [has_put_other hne, (h3 t).1, ht], fun hth => ?_⟩
      rw [ht] at hth
      rw [atKey_put_other hne, (h3 t).2 hth, posn_app L [s] t (thereB_iff.1 hth)]

/-- Block g is a Block of the strings L, its bytes in v, its map m; BK1: one that has a map. -/
def BK1 (w : World) (g : Nat) (v : Value) (b : Nat) (D : DataW Unit) (L : List ByteArray) : Prop :=
  Arr w g 84 #[v, .map (some b), .int .i64 (L.length : Int)] ∧ w.ownsRow 0 5 1 v (flat L).length (Lib.byteCells (flat L)) ∧ okL L ∧
    w.ownsMap Tryz.prog 9 (plainElem Tryz.prog 3) b L.length D ∧ MapIs D L
def BK0 (w : World) (g : Nat) (v : Value) (m : Option Nat) (L : List ByteArray) : Prop := L = [] ∧ v = .slice none 0 0 ∧ m = none ∧ Arr w g 84 #[.slice none 0 0, .map none, .int .i64 0]
def BK (w : World) (g : Nat) (v : Value) (m : Option Nat) (L : List ByteArray) : Prop := BK0 w g v m L ∨ ∃ b D, m = some b ∧ BK1 w g v b D L
/-- Its blocks. -/
def fpB (g : Nat) (v : Value) (m : Option Nat) (k : Nat) : Prop := k = g ∨ v.ownBlock = some k ∨ m = some k
section
variable {w w' : World} {g b : Nat} {v : Value} {m : Option Nat} {D : DataW Unit} {L : List ByteArray} {F F' : Nat → Prop}
theorem BK1.kept (h : BK1 w g v b D L) (hm : Moved w w' F F') (hf : ∀ k, fpB g v (some b) k → ¬ F k) : BK1 w' g v b D L := by
  obtain ⟨h1, h2, h3, h4, h5⟩ := h
  have hlt := h4.lt
  obtain ⟨es, clock, hb, F1, hs, hD⟩ := h4
  exact ⟨hm.arr h1 (hf g (.inl rfl)), hm.row h2 (fun k hk => hf k (.inr (.inl hk))), h3, ⟨es, clock, (hm.block b hlt (hf b (.inr (.inr rfl)))).trans hb, F1, hs, hD⟩, h5⟩
theorem BK.kept (h : BK w g v m L) (hm : Moved w w' F F') (hf : ∀ k, fpB g v m k → ¬ F k) : BK w' g v m L := by
  rcases h with ⟨h1, h2, h3, h4⟩ | ⟨b, D, rfl, h⟩
  · exact .inl ⟨h1, h2, h3, hm.arr h4 (hf g (.inl rfl))⟩
  · exact .inr ⟨b, D, rfl, h.kept hm hf⟩
theorem BK.below (h : BK w g v m L) (hb : Below w.heap.size w w') : BK w' g v m L := h.kept (Moved.of_below hb (fun _ => False)) (fun _ _ h => h)
theorem BK1.below (h : BK1 w g v b D L) (hb : Below w.heap.size w w') : BK1 w' g v b D L := h.kept (Moved.of_below hb (fun _ => False)) (fun _ _ h => h)
theorem BK.lt (h : BK w g v m L) {k : Nat} (hk : fpB g v m k) : k < w.heap.size := by
  rcases h with ⟨_, rfl, rfl, h4⟩ | ⟨b, D, rfl, h1, h2, _, h4, _⟩
  · rcases hk with rfl | hk | hk
    · exact h4.lt
    · cases hk
    · cases hk
  · rcases hk with rfl | hk | hk
    · exact h1.lt
    · obtain ⟨cur, hc⟩ := ow_type h2 hk
      exact (Array.getElem?_eq_some_iff.1 hc).1
    · injection hk with hk; subst hk; exact h4.lt
theorem BK.ok (h : BK w g v m L) : okL L := by
  rcases h with ⟨rfl, _⟩ | ⟨b, D, rfl, h⟩
  · exact okL_nil
  · exact h.2.2.1
theorem BK.row (h : BK w g v m L) : w.ownsRow 0 5 1 v (flat L).length (Lib.byteCells (flat L)) := by
  rcases h with ⟨rfl, rfl, _⟩ | ⟨b, D, rfl, h⟩
  · exact World.ownsRow_nil _ _ _ _
  · exact h.2.1
theorem BK.cell0 (h : BK w g v m L) : w.cell? ⟨g, 0, none⟩ = some v := by
  rcases h with ⟨_, rfl, _, h4⟩ | ⟨b, D, rfl, h⟩
  · exact h4.cell 0
  · exact h.1.cell 0
/-- No block of another kind is one of its blocks. -/
theorem BK.not_arr (h : BK w g v m L) {g' t : Nat} {cs : Array Value} (hA : Arr w g' t cs) (h1 : t ≠ 84) (h2 : t ≠ 5) : ¬ fpB g v m g' := by
  unfold Arr at hA
  rintro (rfl | hk | hk)
  · rcases h with ⟨_, _, _, h4⟩ | ⟨b, D, rfl, h, _⟩
    · unfold Arr at h4; rw [hA] at h4; injection h4 with h4; injection h4 with _ h5; exact h1 h5
    · unfold Arr at h; rw [hA] at h; injection h with h; injection h with _ h5; exact h1 h5
  · obtain ⟨cur, hc⟩ := ow_type h.row hk
    rw [hA] at hc; injection hc with hc; injection hc with _ h5; exact h2 h5
  · rcases h with ⟨_, _, h3, _⟩ | ⟨b, D, rfl, _, _, _, h4, _⟩
    · rw [h3] at hk; cases hk
    · injection hk with hk
      subst hk
      obtain ⟨es, clock, hb, _⟩ := h4
      rw [hA] at hb; injection hb with hb; cases hb
end
/-- How an own slice of bytes is written. -/
theorem slice_of {w : World} {base e : Nat} {v : Value} {n : Nat} {xs : List Value} (h : w.ownsRow base e 1 v n xs) : ∃ A cap, v = .slice A n cap := by
  rcases h.2 with ⟨rfl, rfl⟩ | ⟨g, cap, cur, rfl, _⟩
  · exact ⟨_, _, rfl⟩
  · exact ⟨_, _, rfl⟩
theorem row_string {w : World} {base : Nat} {v : Value} {l : List UInt8} (h : w.ownsRow base 5 1 v l.length (Lib.byteCells l)) : (convert 58 9 v).run Tryz.prog w = .ok (.string ⟨l.toArray⟩) w := by
  by_cases h0 : l = []
  · subst h0
    rcases h.2 with ⟨rfl, _⟩ | ⟨g, cap, cur, rfl, _⟩
    · exact Lib.run_convert_nil_bytes w _ _ 5 0 Tryz.underlying58 Tryz.underlying5 Tryz.underlying9
    · exact run_convert_bytes_back w 58 9 5 ⟨g, 0, none⟩ cap [] Tryz.underlying58 Tryz.underlying5 Tryz.underlying9 (fun j hj => by simp at hj)
  · rcases h.2 with ⟨_, hn⟩ | ⟨g, cap, cur, rfl, hg, hc, hle, _, hz, ht⟩
    · exact absurd (List.length_eq_zero_iff.1 hn) h0
    · refine run_convert_bytes_back w 58 9 5 ⟨g, 0, none⟩ cap l Tryz.underlying58 Tryz.underlying5 Tryz.underlying9 (fun j hj => ?_)
      have e : (⟨g, 0, none⟩ : Addr).add j = ⟨g, j, none⟩ := by unfold Addr.add; split <;> simp_all
      have e2 : (Lib.byteCells l)[j]? = some (.int .u8 (l[j].toNat : Int)) := by simp [Lib.byteCells, hj]
      rw [e, cell_of_row w g j cur _ _ hc, ← e2, ← ht, List.getElem?_take_of_lt (by omega), Array.getElem?_toList]

set_option maxHeartbeats 800000 in
set_option maxRecDepth 100000 in
theorem sbytes_any (g : Nat) (v : Value) (m : Option Nat) (L : List ByteArray) (w : World) (h : BK w g v m L) :
    Calls Tryz.prog 40 #[.pointer (some ⟨g, 0, none⟩)] w fun e w' => e = .returned (.string ⟨(flat L).toArray⟩) ∧ w = w' := by
  have c0 := h.cell0
  have HS := row_string h.row
  clear h
  generalize (ByteArray.mk (flat L).toArray) = S at *
  go_enter Tryz.func40, Tryz.ntmps40
  go_wp2
  go_ret
  exact ⟨rfl, rfl⟩
set_option maxRecDepth 100000 in
theorem sbytes_nil (w : World) : Calls Tryz.prog 40 #[.pointer none] w fun e w' => e = .returned (.string ⟨#[]⟩) ∧ w = w' := by
  go_enter Tryz.func40, Tryz.ntmps40
  go_wp2
  go_ret
  exact ⟨rfl, rfl⟩

set_option maxRecDepth 100000 in
theorem sclone_nil (w : World) : Calls Tryz.prog 96 #[.slice none 0 0] w fun e w' => e = .returned (.slice none 0 0) ∧ w = w' := by
  have q22 : ∀ (w : World) (a : Option Addr) (n c n' c' : Nat), (binOp .eql 58 (.slice a n c) (.slice none n' c')).run Tryz.prog w = .ok (.bool a.isNone) w := fun w a n c n' c' => Lib.run_eql_slice_nil w _ _ a n c n' c' Tryz.underlying58
  go_enter Tryz.func96, Tryz.ntmps96
  go_wp2
  go_ret
  exact ⟨rfl, rfl⟩
set_option maxRecDepth 100000 in
theorem spositions_none (w : World) : Calls Tryz.prog 97 #[.string ⟨#[]⟩] w fun e w' => e = .returned (.map (some w.heap.size)) ∧ w' = w.alloc (.map #[] 0) := by
  have hmm := @run_makeMap Tryz.prog
  go_enter Tryz.func97, Tryz.ntmps97
  go_wp2
  refine wp_loop_rounds 1 ?_
  rw [rounds_succ]
  go_wp2
  go_ret
  exact ⟨rfl, rfl⟩
end Go.Proofs.YtgfdbmbgldeljaaGreat
