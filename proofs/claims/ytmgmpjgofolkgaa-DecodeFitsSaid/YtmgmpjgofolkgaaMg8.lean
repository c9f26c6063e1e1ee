/- What the document's own FromBigs returns for every string of at most 2^40 bytes. -/
import Derived.Test.YtmgmpjgofolkgaaMg1
import Derived.Test.YtmgmpjgofolkgaaMg0
import Derived.Test.YtmgmpjgofolkgaaMg7
import Derived.Maps.AppendAt
import Derived.Lib.AppendStr
namespace Go.Proofs.Ytmgmpjgofolkgaa
open Go.RowKit

theorem info_int : ∃ i, Try.prog.info? 3 = some i ∧ i.zero = some (.int .i64 0) ∧ i.size = 1 ∧ i.bytes = 8 := by
  have h : ((Try.prog.info? 3).map fun i => (i.zero, i.size, i.bytes)) = some (some (.int .i64 0), 1, 8) := by kernel_rfl
  obtain ⟨i, hi, he⟩ := Option.map_eq_some_iff.1 h
  simp only [Prod.mk.injEq] at he
  exact ⟨i, hi, he.1, he.2.1, he.2.2⟩

theorem extract_tail (s : ByteArray) (a : Nat) : (s.extract a s.size).data.toList = s.data.toList.drop a := by
  have e : (s.extract a s.size).data = s.data.extract a s.size := ByteArray.data_extract
  rw [e, Array.toList_extract]
  have hs : s.size = s.data.toList.length := rfl
  rw [List.extract_eq_take_drop, List.take_of_length_le (by rw [List.length_drop, ← hs]; omega)]
theorem extract_size (s : ByteArray) (a : Nat) : (s.extract a s.size).size = s.size - a := by
  rw [ByteArray.size_extract]; omega

set_option maxHeartbeats 800000 in
set_option maxRecDepth 100000 in
theorem reffrombigs_yes (s : ByteArray) (m : Nat) (w : World) (hm : s.size = 4 * m) (hl : s.size ≤ 1099511627776) :
    Calls Try.prog 22 #[.string s] w fun e w' => ∃ v, e = .returned (.tuple #[v, .bool true]) ∧ w'.ownsRow w.heap.size 3 1 v m (intVals (numsB s.data.toList m)) ∧ Below w.heap.size w w' := by
  obtain ⟨i0, hi, hz0, hz1, hz2⟩ := info_int
  have HI := Lib.hid hi; have HZ0 := Lib.hid hz0; have HZ1 := Lib.hid hz1; have HZ2 := Lib.hid hz2
  clear hi hz0 hz1 hz2
  have hmod : (((s.size : Int) % 4) != 0) = false := by
    have : (s.size : Int) % 4 = 0 := by omega
    simp [this]
  have HM := Lib.hid hm
  have hm1 : s.size ≤ 4 * m := by omega
  have hm2 : 4 * m ≤ s.size := by omega
  clear hm
  go_enter Try.func22, Try.ntmps22
  go_wp2
  go_loopw [4, 5] (fun v i wr => ∃ k : Nat, k ≤ m ∧ i = .int .i64 ((4 * k : Nat) : Int) ∧ wr.ownsRow w.heap.size 3 1 v k (intVals (numsB s.data.toList k)) ∧ Below w.heap.size w wr)
    (fun _ i _ => s.size - (intOf i).toNat)
  case atStart => exact ⟨0, Nat.zero_le _, rfl, World.ownsRow_nil _ _ _ _, Below.refl _ _⟩
  case round =>
    obtain ⟨k, hk, rfl, hown, hb⟩ := hrel
    have hsz := hb.size
    by_cases hlt : k < m
    · go_wp2_with fail
      refine (reffrombig_yes _ _ (by rw [extract_size]; omega) (by rw [extract_size]; unfold maxLen; omega)).mono ?_
      rintro e w1 ⟨rfl, hb1⟩
      have hE := extract_tail s (4 * k)
      rw [hE]
      clear hE
      have hown1 := ownsRow_below hown hb1
      have hb2 : Below w.heap.size w w1 := hb.trans (hb1.mono hsz)
      have hs1 := hb2.size
      have HS := Lib.hid (intVals_numsB_succ s.data.toList k)
      generalize frombig (s.data.toList.drop (4 * k)) = x at HS ⊢
      clear hown hb hb1
      go_wp2_with (at_builtin; refine wpList_append_own _ rfl _ _ 59 rfl w.heap.size 3 i0 (.int .i64 0) 1 8 Try.underlying59 HI.out HZ0.out HZ1.out HZ2.out rfl (by decide) _ _ _ rfl (hown1.alloc _) ⟨w1.heap.size, 0, none⟩ 1 1 [.int .i64 x] rfl rfl ?c1 ?c2 ?c3 ?c4 ?c5 ?_)
      case c1 =>
        intro j u hj
        match j, hj with
        | 0, hj => simp at hj; subst hj; simp [Addr.add]
      case c2 => intro u hu; simp at hu; subst hu; rfl
      case c3 => unfold maxLen; omega
      case c4 => omega
      case c5 => simp; omega
      · intro v' w2 hown' hgrow _
        have hb3 : Below w.heap.size w w2 := (hb2.alloc hs1 _).grown hgrow (by simp; omega) (fun g hg => (hown1.lt g hg).1)
        clear hown1 hgrow hb2
        go_wp2
        go_roundw
        case rel => exact ⟨k + 1, by omega, by go_num, by rw [HS.out]; exact hown', hb3⟩
        case measure => simp [intOf]; omega
    · have hkl : k = m := by omega
      subst hkl
      go_wp2
      go_ret2
      exact ⟨_, rfl, hown, hb⟩

set_option maxHeartbeats 400000 in
theorem reffrombigs_no (s : ByteArray) (w : World) (hm : s.size % 4 ≠ 0) (hl : s.size ≤ 1099511627776) :
    Calls Try.prog 22 #[.string s] w fun e w' => e = .returned (.tuple #[.slice none 0 0, .bool false]) ∧ w = w' := by
  have hmod : (((s.size : Int) % 4) != 0) = true := by
    have : ¬ (s.size : Int) % 4 = 0 := by omega
    simp [this]
  clear hm
  go_enter Try.func22, Try.ntmps22
  go_wp2
  go_ret2
  exact ⟨rfl, rfl⟩

theorem rdI_of_own {w : World} {base : Nat} {v : Value} {n : Nat} {l : List Int} (h : w.ownsRow base 3 1 v n (intVals l)) : ∃ A cap, v = .slice A l.length cap ∧ RdI w.heap.size w A l := by
  obtain ⟨hlen, hv⟩ := h
  have hn : n = l.length := by simp [intVals] at hlen; omega
  subst hn
  rcases hv with ⟨rfl, h0⟩ | ⟨g, cap, cur, rfl, hg, hc, _, _, _, ht⟩
  · exact ⟨none, 0, by rw [h0], .inl (List.length_eq_zero_iff.1 h0)⟩
  · refine ⟨_, cap, rfl, .inr ⟨g, 0, rfl, ?_, fun k hk => ?_⟩⟩
    · exact (Array.getElem?_eq_some_iff.1 hc).1
    · simp only [World.cell?, hc, Nat.zero_add]
      have h1 : (cur.toList.take (l.length * 1))[k]? = (intVals l)[k]? := by rw [ht]
      rw [List.getElem?_take, if_pos (by omega)] at h1
      simp only [intVals, List.getElem?_map, List.getElem?_eq_getElem hk, Option.map_some, Array.getElem?_toList] at h1
      simp [List.getD, List.getElem?_eq_getElem hk, h1]
end Go.Proofs.Ytmgmpjgofolkgaa

/- Rows of the call's own beside other blocks, and what a call that changes a few blocks leaves as it was. No condition: nothing of the program stands in it. -/
namespace Go.Proofs.Ytmgmpjgofolkgaa
open Go.RowKit

theorem sz_alloc (w : World) (o : Obj) : (w.alloc o).heap.size = w.heap.size + 1 := Array.size_push _
theorem gr_cell (w : World) (g j : Nat) (v : Value) : w.grownBy (w.setCell ⟨g, j, none⟩ v) (some g) :=
  ⟨rfl, rfl, rfl, ((Below.refl 0 w).setCell (p := ⟨g, j, none⟩) (Nat.zero_le _) v).size, fun k _ hk => heap_setCell_other w ⟨g, j, none⟩ k v (fun e => hk (by rw [e]))⟩
theorem gr_below {w w' : World} {r : Option Nat} (h : Below w.heap.size w w') : w.grownBy w' r := ⟨h.os, h.tape, h.output, h.size, fun k hk _ => h.block k hk⟩
theorem Arr.gr {w w' : World} {g t : Nat} {cs : Array Value} {r : Option Nat} (h : Arr w g t cs) (hg : w.grownBy w' r) (hr : some g ≠ r) : Arr w' g t cs := (hg.block g h.lt hr).trans h
section
variable {w w' : World} {base base' g t e e' size size' : Nat} {cs : Array Value} {v v' : Value} {n n' : Nat} {xs xs' : List Value}
theorem ow_below (h : w.ownsRow base e size v n xs) (hb : Below w.heap.size w w') : w'.ownsRow base e size v n xs :=
  h.kept (gr_below (r := none) hb) (by cases v.ownBlock with
    | none => exact .inl rfl
    | some g => exact .inr (fun e => by cases e))
/-- The block of a row is of its elements' type. -/
theorem ow_type (h : w.ownsRow base e size v n xs) {k : Nat} (hk : v.ownBlock = some k) : ∃ cur, w.heap[k]? = some (.cells cur e (0, 0)) := by
  rcases h.2 with ⟨rfl, _⟩ | ⟨g, cap, cur, rfl, _, hg, _⟩
  · cases hk
  · simp only [Value.ownBlock, Option.some.injEq] at hk
    subst hk
    exact ⟨cur, hg⟩
theorem ow_arr (hA : Arr w g t cs) (h : w.ownsRow base e size v n xs) (hne : t ≠ e) : some g ≠ v.ownBlock := by
  intro hk
  obtain ⟨cur, hg⟩ := ow_type h hk.symm
  unfold Arr at hA
  rw [hA] at hg
  injection hg with hg
  injection hg with _ h2 _
  exact hne h2
theorem ow_ow (h : w.ownsRow base e size v n xs) (h' : w.ownsRow base' e' size' v' n' xs') (hne : e ≠ e') : v.ownBlock = none ∨ v.ownBlock ≠ v'.ownBlock := by
  cases hk : v.ownBlock with
  | none => exact .inl rfl
  | some k =>
    refine .inr fun hk' => ?_
    obtain ⟨cur, hg⟩ := ow_type h hk
    obtain ⟨cur', hg'⟩ := ow_type h' hk'.symm
    rw [hg'] at hg
    injection hg with hg
    injection hg with _ h2 _
    exact hne h2.symm
theorem ow_set (hA : Arr w g t cs) (h : w.ownsRow base e size v n xs) (hne : t ≠ e) (j : Nat) (u : Value) : (w.setCell ⟨g, j, none⟩ u).ownsRow base e size v n xs :=
  h.kept (gr_cell w g j u) (by
    have := ow_arr hA h hne
    cases hk : v.ownBlock with
    | none => exact .inl rfl
    | some k => exact .inr fun e => this (by rw [hk, e]))
end
/-- Only blocks of F, and new ones, have changed; F' are the ones that may change next. -/
structure Moved (w w' : World) (F F' : Nat → Prop) : Prop where
  os : w'.os = w.os
  tape : w'.tape = w.tape
  output : w'.output = w.output
  size : w.heap.size ≤ w'.heap.size
  block : ∀ k, k < w.heap.size → ¬ F k → w'.heap[k]? = w.heap[k]?
  foot : ∀ k, F' k → F k ∨ w.heap.size ≤ k
section
variable {w w' w'' : World} {F F' F'' : Nat → Prop}
theorem Moved.refl (w : World) (F : Nat → Prop) : Moved w w F F := ⟨rfl, rfl, rfl, Nat.le_refl _, fun _ _ _ => rfl, fun _ h => .inl h⟩
theorem Moved.of_below (h : Below w.heap.size w w') (F : Nat → Prop) : Moved w w' F F := ⟨h.os, h.tape, h.output, h.size, fun k hk _ => h.block k hk, fun _ h => .inl h⟩
theorem Moved.trans (h : Moved w w' F F') (h' : Moved w' w'' F' F'') : Moved w w'' F F'' :=
  ⟨h'.os.trans h.os, h'.tape.trans h.tape, h'.output.trans h.output, Nat.le_trans h.size h'.size, fun k hk hf => (h'.block k (Nat.lt_of_lt_of_le hk h.size) (fun hf' => (h.foot k hf').elim hf (fun hle => absurd hk (by omega)))).trans (h.block k hk hf),
    fun k hk => (h'.foot k hk).elim (h.foot k) (fun hle => .inr (Nat.le_trans h.size hle))⟩
theorem Moved.below {B : Nat} (h : Moved w w' F F') (hF : ∀ k, F k → B ≤ k) (hB : B ≤ w.heap.size) : Below B w w' :=
  ⟨h.os, h.tape, h.output, h.size, fun k hk => h.block k (Nat.lt_of_lt_of_le hk hB) (fun hf => absurd (hF k hf) (by omega))⟩
theorem Moved.arr {g t : Nat} {cs : Array Value} (h : Moved w w' F F') (hA : Arr w g t cs) (hg : ¬ F g) : Arr w' g t cs := (h.block g hA.lt hg).trans hA
theorem Moved.grown {r : Option Nat} (hg : w.grownBy w' r) (hr : ∀ k, r = some k → F k) (hf : ∀ k, F' k → F k ∨ w.heap.size ≤ k) : Moved w w' F F' :=
  ⟨hg.os, hg.tape, hg.output, hg.size, fun k hk hn => hg.block k hk (fun e => hn (hr k e.symm)), hf⟩
end
end Go.Proofs.Ytmgmpjgofolkgaa

/- Appending to a slice of a call's own, and where the new slice lies: one element of one cell, and a string's bytes. Conditions: fewer than 2^47 bytes. -/
namespace Go.Proofs.Ytmgmpjgofolkgaa
open Go.RowKit

/-- The block of a slice of the call's own. -/
def ownS (v : Value) (k : Nat) : Prop := v.ownBlock = some k
theorem Moved.inside {w w' : World} {F F' G G' : Nat → Prop} (h : Moved w w' F F') (hG : ∀ k, F k → G k) (hG' : ∀ k, G' k → G k ∨ F' k ∨ w.heap.size ≤ k) : Moved w w' G G' :=
  ⟨h.os, h.tape, h.output, h.size, fun k hk hn => h.block k hk (fun hf => hn (hG k hf)), fun k hk => by
    rcases hG' k hk with h1 | h1 | h1
    · exact .inl h1
    · exact (h.foot k h1).imp (hG k) id
    · exact .inr h1⟩
theorem Moved.of_grown {w w' : World} {v v' : Value} (hg : w.grownBy w' v.ownBlock) (hl : v'.ownBlock = v.ownBlock ∨ ∃ k, v'.ownBlock = some k ∧ w.heap.size ≤ k) : Moved w w' (ownS v) (ownS v') :=
  ⟨hg.os, hg.tape, hg.output, hg.size, fun k hk hn => hg.block k hk (fun e => hn e.symm), fun k hk => by
    rcases hl with h | ⟨j, h, hj⟩
    · refine .inl ?_; unfold ownS at hk ⊢; rwa [h] at hk
    · unfold ownS at hk; rw [h] at hk; injection hk with hk; exact .inr (hk ▸ hj)⟩
theorem ow_base {w : World} {base base' e size : Nat} {v : Value} {n : Nat} {xs : List Value} (h : w.ownsRow base e size v n xs) (hb : ∀ k, v.ownBlock = some k → base' ≤ k) : w.ownsRow base' e size v n xs := by
  obtain ⟨q1, q2 | ⟨g, c, cur, q3, q4, q5⟩⟩ := h
  · exact ⟨q1, .inl q2⟩
  · exact ⟨q1, .inr ⟨g, c, cur, q3, hb g (by rw [q3]; rfl), q5⟩⟩
theorem Moved.row {w w' : World} {F F' : Nat → Prop} {base e size : Nat} {v : Value} {n : Nat} {xs : List Value} (h : Moved w w' F F') (ho : w.ownsRow base e size v n xs) (hf : ∀ k, v.ownBlock = some k → ¬ F k) : w'.ownsRow base e size v n xs := by
  obtain ⟨q1, q2 | ⟨g, c, cur, q3, q4, q5, q6⟩⟩ := ho
  · exact ⟨q1, .inl q2⟩
  · exact ⟨q1, .inr ⟨g, c, cur, q3, q4, (h.block g (Array.getElem?_eq_some_iff.1 q5).1 (hf g (by rw [q3]; rfl))).trans q5, q6⟩⟩
/-- 's = append(s, u)', s a slice of the call's own. -/
theorem append_moved {P : Program} {ops : Array Oper} {rest : List Oper} {o : Oper} {a : Act} {Q : Exit → Act → World → Prop} {w : World} (hgd : o.guard = none) (s x : Operand) (t : TypeId)
    (ho : o.op = .call { callee := .builtin .append, args := #[s, x], argTypes := #[t, t] })
    (e : TypeId) (z : Value) (bytes : Nat) (hel : Hid (ElemIs P t e z bytes)) (u : Value) (h1 : u.oneCell' = true)
    (v : Value) (n : Nat) (xs : List Value) (hs : a.eval s = v) (hown : w.ownsRow 0 e 1 v n xs) (H : Nat) (hH : w.heap.size = H) (hx : a.eval x = .slice (some ⟨H, 0, none⟩) 1 1)
    (hn : (n + 1) * bytes ≤ 140737488355328) (hm : n + 1 ≤ maxLen)
    (h : ∀ v' w', w'.ownsRow 0 e 1 v' (n + 1) (xs ++ [u]) → Moved w w' (ownS v) (ownS v') → wpList P ops Q rest (a.put o.dst v') w') : wpList P ops Q (o :: rest) a (w.alloc (.cells #[u] e)) := by
  subst hH
  obtain ⟨h0, hz, i, hi, hz0, hz1, hz2⟩ := hel.out
  refine wpList_append_own_at _ hgd s x t ho 0 e i z 1 bytes h0 hi hz0 hz1 hz2 hz (by decide) v n xs hs (hown.alloc _) ⟨w.heap.size, 0, none⟩ 1 1 [u] hx rfl (cell_one_new w u e) ?_ hm hn (Nat.zero_le _) ?_
  · intro y hy; simp at hy; subst hy; exact h1
  · intro v' w' ho' hg _ hl
    refine h v' w' ho' (Moved.of_grown ((World.grownBy_alloc w _ _).trans hg) ?_)
    rcases hl with hl | hl
    · exact .inl hl
    · rw [sz_alloc] at hl; exact .inr ⟨_, hl, Nat.le_succ _⟩
theorem run_append_str_at {P : Program} (w : World) (t u ty e : TypeId) (i : TypeInfo) (ht : P.underlying t = some (.slice e)) (hu : P.underlying u = some .string) (hi : P.info? e = some i) (hz : i.zero = some (.int .u8 0)) (hsize : i.size = 1) (hby : i.bytes = 1)
    (v : Value) (n : Nat) (xs : List Value) (hown : w.ownsRow 0 e 1 v n xs) (s : ByteArray) (h63 : n + s.size ≤ maxLen) (hbytes : n + s.size ≤ 140737488355328) :
    ∃ v' w', (Builtin.append_ #[t, u] ty #[v, .string s]).run P w = .ok v' w' ∧ w'.ownsRow 0 e 1 v' (n + s.size) (xs ++ Lib.strCells s) ∧ Moved w w' (ownS v) (ownS v') := by
  obtain ⟨v', w', hr, ho, hg, _⟩ := Lib.run_append_own_string w 0 t u ty e i ht hu hi hz hsize hby v n xs hown s h63 hbytes (Nat.zero_le _)
  refine ⟨v', w', hr, ho, Moved.of_grown hg ?_⟩
  have hxl : xs.length = n := by simpa using hown.1
  rcases hown.2 with ⟨rfl, rfl⟩ | ⟨g, cap, cur, rfl, hbg, hgg, hnc, hcm, hcs, htake⟩
  · cases hk : v'.ownBlock with
    | none => exact .inl rfl
    | some k =>
      refine .inr ⟨k, rfl, ?_⟩
      obtain ⟨v2, w2, hr2, ho2, _⟩ := Lib.run_append_own_string w w.heap.size t u ty e i ht hu hi hz hsize hby (.slice none 0 0) 0 xs ⟨hown.1, .inl ⟨rfl, rfl⟩⟩ s h63 hbytes (Nat.le_refl _)
      rw [hr] at hr2
      injection hr2 with e1 e2
      subst e1
      rcases ho2.2 with ⟨rfl, _⟩ | ⟨g2, _, _, rfl, hb2, _⟩
      · cases hk
      · injection hk with hk; exact hk ▸ hb2
  · by_cases hroom : n + s.size ≤ cap
    · have hcs' : cur.size = cap := by simpa using hcs
      rw [Lib.run_append_room_string (P := P) w t u ty e i ht hu hi hsize g n cap cur hgg s hroom (by omega)] at hr
      injection hr with e1 _
      subst e1
      exact .inl rfl
    · rw [Lib.run_append_grow_string (P := P) w t u ty e i (.int .u8 0) ht hu hi hz ⟨g, 0, none⟩ n cap xs (by rw [hsize]; simpa using hxl) (hown.cells (g := g) rfl) s (by omega) (by simp only [maxLen] at h63; omega) (by rw [hby]; exact growslice_fits (by omega) (by omega))] at hr
      injection hr with e1 _
      subst e1
      exact .inr ⟨_, rfl, Nat.le_refl _⟩
/-- 's = append(s, t...)', s a slice of bytes of the call's own, t a string. -/
theorem append_str_moved {P : Program} {ops : Array Oper} {rest : List Oper} {o : Oper} {a : Act} {Q : Exit → Act → World → Prop} {w : World} (hgd : o.guard = none) (sl x : Operand) (t u : TypeId)
    (ho : o.op = .call { callee := .builtin .append, args := #[sl, x], argTypes := #[t, u] })
    (e : TypeId) (hel : Hid (ElemIs P t e (.int .u8 0) 1)) (hu : P.underlying u = some .string)
    (v : Value) (n : Nat) (xs : List Value) (hs : a.eval sl = v) (hown : w.ownsRow 0 e 1 v n xs) (s : ByteArray) (hx : a.eval x = .string s)
    (h63 : n + s.size ≤ maxLen) (hbytes : n + s.size ≤ 140737488355328)
    (h : ∀ v' w', w'.ownsRow 0 e 1 v' (n + s.size) (xs ++ Lib.strCells s) → Moved w w' (ownS v) (ownS v') → wpList P ops Q rest (a.put o.dst v') w') : wpList P ops Q (o :: rest) a w := by
  obtain ⟨h0, hz, i, hi, hz0, hz1, hz2⟩ := hel.out
  refine wpList_plain hgd fun K hK => ?_
  obtain ⟨v', w', hr, h2, h3⟩ := run_append_str_at (P := P) w t u o.type e i h0 hu hi hz0 hz1 hz2 v n xs hown s h63 hbytes
  unfold Oper.wp execOp
  simp only [ho, resolve, invoke, builtin, Sem.run_bind, Sem.run_pure, Result.andThen_ok, List.map_toArray, List.map_cons, List.map_nil, hs, hx, hr]
  exact hK _ _ (h v' w' h2 h3)
end Go.Proofs.Ytmgmpjgofolkgaa
