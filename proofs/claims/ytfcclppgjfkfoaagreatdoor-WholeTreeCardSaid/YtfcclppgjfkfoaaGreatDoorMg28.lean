/- What package tree's Copy returns. Conditions: a tree that is read, of at most 20 levels, with at most 2^30 nodes and properties. -/
import Derived.Test.YtfcclppgjfkfoaaGreatDoorMg26
import Derived.Test.YtfcclppgjfkfoaaGreatDoorMg27
import Derived.Test.YtfcclppgjfkfoaaGreatDoorMg6
namespace Go.Proofs.YtfcclppgjfkfoaaGreatDoor
open Go.RowKit

theorem run_append_zeroT {P : Program} (w : World) (t ty e : TypeId) (i : TypeInfo) (ht : P.underlying t = some (.slice e)) (hi : P.info? e = some i) (A A' : Option Addr) (n c c' : Nat) (hc : n ≤ c) :
    (Builtin.append_ #[t, t] ty #[.slice A n c, .slice A' 0 c']).run P w = .ok (.slice A n c) w := by
  cases A with
  | none => cases A' <;> simp [Builtin.append_, run_underlying ht, sizeOf, typeInfo, hi, Builtin.lenOf, Builtin.firstCells, hc, loadCells, loadCellsFrom]
  | some a => cases A' <;> simp [Builtin.append_, run_underlying ht, sizeOf, typeInfo, hi, Builtin.lenOf, Builtin.firstCells, hc, storeCells, loadCells, loadCellsFrom]
section
variable {P : Program} {ops : Array Oper} {o : Oper} {a : Act} {Q : Exit → Act → World → Prop} {w : World}
theorem run_append_src (w : World) (t ty e : TypeId) (size bytes : Nat) (hel : Hid (ElemN P t e size bytes)) (v : Value) (n m : Nat) (A : Option Addr) (c : Nat) (xs ys : List Value) (hown : w.ownsRow 0 e size v n xs) (hyl : ys.length = m * size)
    (hr : m = 0 ∨ ∃ b off, A = some ⟨b, off, none⟩ ∧ ∀ j u, ys[j]? = some u → w.cell? ⟨b, off + j, none⟩ = some u) (h1 : ∀ x ∈ ys, x.oneCell' = true) (hm : n + m ≤ maxLen) (hb : (n + m) * bytes ≤ 140737488355328) :
    ∃ v' w', (Builtin.append_ #[t, t] ty #[v, .slice A m c]).run P w = .ok v' w' ∧ w'.ownsRow 0 e size v' (n + m) (xs ++ ys) ∧ Moved w w' (ownS v) (ownS v') := by
  obtain ⟨h0, i, z, hi, hz0, hz1, hz2, hz3, hz4⟩ := hel.out
  rcases hr with rfl | ⟨b, off, rfl, hr⟩
  · have hy0 : ys = [] := List.length_eq_zero_iff.1 (by rw [hyl]; omega)
    subst hy0
    obtain ⟨A5, cap, rfl, hcap⟩ := slice_ofN hown
    refine ⟨.slice A5 n cap, w, run_append_zeroT w t ty e i h0 hi A5 A n cap c hcap, ?_, Moved.refl _ _⟩
    rw [List.append_nil, Nat.add_zero]; exact hown
  · obtain ⟨v', w', hrun, ho', hg', _, hl⟩ := run_append_own_at (P := P) w 0 t ty e i z size bytes h0 hi hz0 hz1 hz2 hz3 hz4 v n xs hown ⟨b, off, none⟩ m c ys hyl (by
      intro j u hj
      have e : (⟨b, off, none⟩ : Addr).add j = ⟨b, off + j, none⟩ := by unfold Addr.add; split <;> simp_all
      rw [e]; exact hr j u hj) h1 hm hb (Nat.zero_le _)
    refine ⟨v', w', hrun, ho', Moved.of_grown hg' ?_⟩
    rcases hl with hl | hl
    · exact .inl hl
    · exact .inr ⟨_, hl, Nat.le_refl _⟩
theorem step_append_src {K : Act → World → Prop} {E : Prop} (hgd : o.guard = none) (s y : Operand) (t : TypeId) (ho : o.op = .call { callee := .builtin .append, args := #[s, y], argTypes := #[t, t] })
    (e size bytes : Nat) (hel : Hid (ElemN P t e size bytes)) (v : Value) (n m : Nat) (A : Option Addr) (c : Nat) (xs ys : List Value) (hs : a.eval s = v) (hown : w.ownsRow 0 e size v n xs) (hx : a.eval y = .slice A m c) (hyl : ys.length = m * size)
    (hr : m = 0 ∨ ∃ b off, A = some ⟨b, off, none⟩ ∧ ∀ j u, ys[j]? = some u → w.cell? ⟨b, off + j, none⟩ = some u) (h1 : ∀ x ∈ ys, x.oneCell' = true) (hm : n + m ≤ maxLen) (hb : (n + m) * bytes ≤ 140737488355328)
    (h : ∀ A' cap' w', w'.ownsRow 0 e size (.slice A' (n + m) cap') (n + m) (xs ++ ys) → Moved w w' (ownS v) (ownS (.slice A' (n + m) cap')) → K (a.put o.dst (.slice A' (n + m) cap')) w') : if Region.wanted o (yielded ops a.tmps) = true then Oper.wp P o a w K Q else E := by
  have hw : Region.wanted o (yielded ops a.tmps) = true := by simp [Region.wanted, hgd]
  rw [if_pos hw]
  obtain ⟨v', w', hrun, h2, h3⟩ := run_append_src (P := P) w t o.type e size bytes hel v n m A c xs ys hown hyl hr h1 hm hb
  obtain ⟨A', cap', rfl, _⟩ := slice_ofN h2
  unfold Oper.wp execOp
  simp only [ho, resolve, invoke, builtin, Sem.run_bind, Sem.run_pure, Result.andThen_ok, List.map_toArray, List.map_cons, List.map_nil, hs, hx, hrun]
  exact h A' cap' w' h2 h3
end
theorem prL_one (l : List PR) : ∀ x ∈ prL l, x.oneCell' = true := fun x hx => by
  obtain ⟨p, _, hp⟩ := List.mem_flatMap.1 hx
  simp [prl] at hp
  rcases hp with rfl | rfl <;> rfl
theorem prL_len (l : List PR) : (prL l).length = l.length * 2 := flat_len (f := prl) (fun _ => rfl) l
/-- Properties that are read, cell by cell. -/
theorem rdpr_cells {w : World} {G : Nat → Prop} {A : Option Addr} {l : List PR} (h : RdPr w G A l) : l.length = 0 ∨ ∃ b off, A = some ⟨b, off, none⟩ ∧ ∀ j u, (prL l)[j]? = some u → w.cell? ⟨b, off + j, none⟩ = some u := by
  rcases h with h | ⟨b, off, rfl, _, hc⟩
  · exact .inl (by rw [h]; rfl)
  · refine .inr ⟨b, off, rfl, fun j u hj => ?_⟩
    have hlt := (List.getElem?_eq_some_iff.1 hj).1
    rw [prL_len] at hlt
    have hk : j / 2 < l.length := by omega
    obtain ⟨h1, h2⟩ := hc (j / 2) hk
    have e : j = j / 2 * 2 + j % 2 := by omega
    have hm : j % 2 = 0 ∨ j % 2 = 1 := by omega
    rw [e] at hj ⊢
    rcases hm with hm | hm
    · rw [hm] at hj ⊢
      rw [prL_at l hk (by omega)] at hj
      injection hj with hj
      rw [← hj, Nat.add_zero]; exact h1
    · rw [hm] at hj ⊢
      rw [prL_at l hk (by omega)] at hj
      injection hj with hj
      rw [← hj, ← Nat.add_assoc]; exact h2
/-- The sizes of a tree that is copied. -/
def CpOk (k : Nat) (n : ND) : Prop := dpR k n = true ∧ (countR k n).a ≤ 1073741824 ∧ (countR k n).b ≤ 1073741824
theorem count_pos : ∀ {k : Nat} {n : ND}, dpR k n = true → 1 ≤ (countR k n).a
  | 0, _, h => by cases h
  | k + 1, n, _ => by rw [countR_succ]; show 1 ≤ 1 + _; omega
theorem cp_kids {k : Nat} {n : ND} (h : CpOk (k + 1) n) : (∀ x ∈ n.ks, CpOk k x) ∧ n.ks.length ≤ 1073741824 ∧ n.ps.length ≤ 1073741824 := by
  obtain ⟨h1, h2, h3⟩ := h
  have hd : ∀ x ∈ n.ks, dpR k x = true := List.all_eq_true.1 (show n.ks.all (dpR k) = true from h1)
  have hs : ∀ l : List ND, (∀ x ∈ l, dpR k x = true) → l.length ≤ (csum k l).a ∧ ∀ x ∈ l, (countR k x).a ≤ (csum k l).a ∧ (countR k x).b ≤ (csum k l).b := fun l => by
    induction l with
    | nil => exact fun _ => ⟨Nat.zero_le _, fun x hx => absurd hx List.not_mem_nil⟩
    | cons y l ih =>
      intro hl
      have i1 := ih fun x hx => hl x (List.mem_cons_of_mem _ hx)
      have i2 := csum_cons k y l
      have i3 := count_pos (hl y List.mem_cons_self)
      refine ⟨by rw [List.length_cons]; omega, fun x hx => ?_⟩
      rcases List.mem_cons.1 hx with rfl | hx
      · omega
      · have := i1.2 x hx; omega
  have hk := hs n.ks hd
  rw [countR_succ] at h2 h3
  simp only at h2 h3
  exact ⟨fun x hx => ⟨hd x hx, by have := (hk.2 x hx).1; omega, by have := (hk.2 x hx).2; omega⟩, by omega, by omega⟩

/-- The copy's variable, where the properties are copied first. -/
theorem cp_first {w5 W1 Wd : World} {A5 : Option Addr} {cap5 : Nat} {nm : ByteArray} {ps : List PR} (hd : Below W1.heap.size W1 Wd) (q1 : w5.ownsRow 0 92 2 (.slice A5 ps.length cap5) ps.length (prL ps)) (q2 : Moved Wd w5 (ownS (.slice none 0 0)) (ownS (.slice A5 ps.length cap5))) :
    NodeV (w5.alloc (.cells #[.string nm, .slice A5 ps.length cap5, .slice none 0 0] 28)) W1.heap.size w5.heap.size ⟨nm, ps, [], .slice A5 ps.length cap5, .slice none 0 0⟩ ∧ Below W1.heap.size W1 (w5.alloc (.cells #[.string nm, .slice A5 ps.length cap5, .slice none 0 0] 28)) := by
  have hz : W1.heap.size ≤ w5.heap.size := Nat.le_trans hd.size q2.size
  have hb5 : Below W1.heap.size W1 w5 := hd.trans (q2.below (fun k hk => by cases hk) hd.size)
  have hb6 : Below W1.heap.size W1 (w5.alloc (.cells #[.string nm, .slice A5 ps.length cap5, .slice none 0 0] 28)) := hb5.alloc hz _
  have hbl : ∀ k, (Value.slice A5 ps.length cap5).ownBlock = some k → W1.heap.size ≤ k := fun k hk => by
    rcases q2.foot k hk with h | h
    · cases h
    · exact Nat.le_trans hd.size h
  exact ⟨⟨Arr.new w5 _ _, ⟨(ow_base q1 hbl).alloc _, World.ownsRow_nil _ _ _ _, fun c hc => absurd hc List.not_mem_nil⟩, hz, fun h => by cases h⟩, hb6⟩
/-- The same, where the variable is made first. -/
theorem cp_second {w5 W1 : World} {A5 : Option Addr} {cap5 : Nat} {nm : ByteArray} {ps : List PR} (q1 : w5.ownsRow 0 92 2 (.slice A5 ps.length cap5) ps.length (prL ps)) (q2 : Moved (W1.alloc (.cells zeroN 28)).drew w5 (ownS (.slice none 0 0)) (ownS (.slice A5 ps.length cap5))) :
    NodeV (((w5.setCell ⟨W1.heap.size, 0, none⟩ (.string nm)).setCell ⟨W1.heap.size, 1, none⟩ (.slice A5 ps.length cap5)).setCell ⟨W1.heap.size, 2, none⟩ (.slice none 0 0)) W1.heap.size W1.heap.size ⟨nm, ps, [], .slice A5 ps.length cap5, .slice none 0 0⟩ ∧ Below W1.heap.size W1 (((w5.setCell ⟨W1.heap.size, 0, none⟩ (.string nm)).setCell ⟨W1.heap.size, 1, none⟩ (.slice A5 ps.length cap5)).setCell ⟨W1.heap.size, 2, none⟩ (.slice none 0 0)) := by
  have hd : Below W1.heap.size W1 (W1.alloc (.cells zeroN 28)).drew := ((Below.refl _ _).alloc (Nat.le_refl _) _).drew
  have hA : Arr (W1.alloc (.cells zeroN 28)).drew W1.heap.size 28 zeroN := Arr.new W1 _ _
  have hA5 := q2.arr hA (fun h => by cases h)
  have hb5 : Below W1.heap.size W1 w5 := hd.trans (q2.below (fun k hk => by cases hk) hd.size)
  have hbl : ∀ k, (Value.slice A5 ps.length cap5).ownBlock = some k → W1.heap.size ≤ k := fun k hk => by
    rcases q2.foot k hk with h | h
    · cases h
    · exact Nat.le_trans hd.size h
  have hg : w5.grownBy (((w5.setCell ⟨W1.heap.size, 0, none⟩ (.string nm)).setCell ⟨W1.heap.size, 1, none⟩ (.slice A5 ps.length cap5)).setCell ⟨W1.heap.size, 2, none⟩ (.slice none 0 0)) (some W1.heap.size) := World.grownBy.trans (gr_cell _ _ 0 _) (World.grownBy.trans (gr_cell _ _ 1 _) (gr_cell _ _ 2 _))
  have hA6 := ((hA5.put 0 (.string nm)).put 1 (.slice A5 ps.length cap5)).put 2 (.slice none 0 0)
  refine ⟨⟨hA6, ⟨(ow_base q1 hbl).kept hg ?_, World.ownsRow_nil _ _ _ _, fun c hc => absurd hc List.not_mem_nil⟩, Nat.le_refl _, fun h => by cases h⟩, hb5.grown hg hb5.size (fun k hk => by injection hk with hk; omega)⟩
  have := ow_arr hA5 q1 (by decide)
  exact .inr fun e => this e.symm
theorem cp_zero {w5 W1 : World} {v : Value} (q2 : Moved (W1.alloc (.cells zeroN 28)).drew w5 (ownS (.slice none 0 0)) (ownS v)) :
    w5.cell? ⟨W1.heap.size, 0, none⟩ = some (.string ⟨#[]⟩) ∧ w5.cell? ⟨W1.heap.size, 1, none⟩ = some (.slice none 0 0) ∧ w5.cell? ⟨W1.heap.size, 2, none⟩ = some (.slice none 0 0) ∧ w5.frozen? ⟨W1.heap.size, 0, none⟩ = false ∧ w5.frozen? ⟨W1.heap.size, 1, none⟩ = false ∧ w5.frozen? ⟨W1.heap.size, 2, none⟩ = false := by
  have hA5 := q2.arr (Arr.new W1 28 zeroN) (fun h => by cases h)
  exact ⟨hA5.cell 0, hA5.cell 1, hA5.cell 2, hA5.frozen 0, hA5.frozen 1, hA5.frozen 2⟩

set_option maxHeartbeats 3200000 in
set_option maxRecDepth 100000 in
theorem tcopy_sole : ∀ (k : Nat) (n : ND) (v2 v3 : Value) (w : World), CpOk k n → NdAt w (fun b => b < w.heap.size) n v2 v3 →
    Calls Tryz.prog 30 #[.agg #[.string n.nm, v2, v3]] w fun e w' => ∃ u2 u3, e = .returned (.agg #[.string n.nm, u2, u3]) ∧ Sole w' w.heap.size w'.heap.size n u2 u3 ∧ Below w.heap.size w w'
  | 0, _, _, _, _, h, _ => by cases h.1
  | k + 1, n, v2, v3, w, hcp, hN => by
    have HIH := Lib.hid (fun x y z W h1 h2 => tcopy_sole k x y z W h1 h2)
    obtain ⟨hck, hkl, hpl⟩ := cp_kids hcp
    obtain ⟨A, K, pc, kc, rfl, rfl, hpc, hpm, hkc, hkm⟩ := nd_shape hN
    unfold maxLen at hpm hkm
    have HCK := Lib.hid hck
    obtain ⟨W1, hW1⟩ : ∃ W1, W1 = (w.alloc (.cells #[.string n.nm, .slice A n.ps.length pc, .slice K n.ks.length kc] 28)).alloc (.cells zeroN 28) := ⟨_, rfl⟩
    obtain ⟨g8, hg8⟩ : ∃ g8, g8 = w.heap.size := ⟨_, rfl⟩
    obtain ⟨g2, hg2⟩ : ∃ g2, g2 = w.heap.size + 1 := ⟨_, rfl⟩
    have hB1 : Below w.heap.size w W1 := by rw [hW1]; exact ((Below.refl _ _).alloc (Nat.le_refl _) _).alloc (by rw [sz_alloc]; omega) _
    have hA8 : Arr W1 g8 28 #[.string n.nm, .slice A n.ps.length pc, .slice K n.ks.length kc] := by rw [hW1, hg8]; exact (Arr.new w _ _).alloc _
    have hA2 : Arr W1 g2 28 zeroN := by rw [hW1, hg2]; exact Arr.new1 w _ _ _
    have HN1 := Lib.hid (nd_below hN hB1)
    have HA8 := Lib.hid hA8
    have HA2 := Lib.hid hA2
    have HB1 := Lib.hid hB1
    have hz1 := hB1.size
    have k0 : W1.cell? ⟨g8, 0, none⟩ = some (.string n.nm) := hA8.cell 0
    have k1 : W1.cell? ⟨g8, 1, none⟩ = some (.slice A n.ps.length pc) := hA8.cell 1
    have k2 : W1.cell? ⟨g8, 2, none⟩ = some (.slice K n.ks.length kc) := hA8.cell 2
    have HEL := Lib.hid elemProp
    have HEN := Lib.hid elemNode
    have HRS : Hid (∀ W', Below W1.heap.size W1 W' → n.ps.length = 0 ∨ ∃ b off, A = some ⟨b, off, none⟩ ∧ ∀ j u, (prL n.ps)[j]? = some u → W'.cell? ⟨b, off + j, none⟩ = some u) := fun W' h => rdpr_cells ((nd_props (nd_below HN1.out h)).1)
    have HP1 := Lib.hid (prL_one n.ps)
    have HPL := Lib.hid (prL_len n.ps)
    have hbd : Below W1.heap.size W1 W1.drew := (Below.refl _ _).drew
    have hbe : Below W1.heap.size W1 (W1.alloc (.cells zeroN 28)).drew := ((Below.refl _ _).alloc (Nat.le_refl _) _).drew
    have HGW : Hid (w.heap.size ≤ g2) := by unfold Hid; omega
    clear hB1 hA8 hA2 hcp hck
    go_enter Tryz.func30, Tryz.ntmps30
    go_upto_region 1 with fail
    change Code.wp _ _ _ _ ((w.alloc (.cells #[.string n.nm, .slice A n.ps.length pc, .slice K n.ks.length kc] 28)).alloc (.cells zeroN 28))
    rw [← hW1, ← hg2, ← hg8]
    clear hW1 hg8 hg2
    -- COPY0
    go_cut [3] (fun s3 wx => ∃ A5 cap5A B g3, s3 = .pointer (some ⟨g3, 0, none⟩) ∧ NodeV wx B g3 ⟨n.nm, n.ps, [], .slice A5 n.ps.length cap5A, .slice none 0 0⟩ ∧ Below W1.heap.size W1 wx ∧ W1.heap.size ≤ B)
    case first =>
      have HS0 : Hid (W1.drew.cell? ⟨g8, 0, none⟩ = some (.string n.nm) ∧ W1.drew.cell? ⟨g8, 1, none⟩ = some (.slice A n.ps.length pc) ∧ W1.drew.cell? ⟨g8, 2, none⟩ = some (.slice K n.ks.length kc)) := ⟨k0, k1, k2⟩
      have HSA : Hid ((W1.alloc (.cells #[.string ⟨#[]⟩, .slice none 0 0, .slice none 0 0] 28)).drew.cell? ⟨g8, 0, none⟩ = some (.string n.nm) ∧ (W1.alloc (.cells #[.string ⟨#[]⟩, .slice none 0 0, .slice none 0 0] 28)).drew.cell? ⟨g8, 1, none⟩ = some (.slice A n.ps.length pc) ∧ (W1.alloc (.cells #[.string ⟨#[]⟩, .slice none 0 0, .slice none 0 0] 28)).drew.cell? ⟨g8, 2, none⟩ = some (.slice K n.ks.length kc)) := arr_nd (HA8.out.below hbe HA8.out.lt)
      have HS5 : Hid (∀ (w' : World) v, Moved W1.drew w' (ownS (.slice none 0 0)) (ownS v) → (w'.cell? ⟨g8, 0, none⟩ = some (.string n.nm) ∧ w'.cell? ⟨g8, 1, none⟩ = some (.slice A n.ps.length pc) ∧ w'.cell? ⟨g8, 2, none⟩ = some (.slice K n.ks.length kc))) := fun w' v hm => arr_nd (hm.arr (HA8.out.below hbd HA8.out.lt) (fun h => by cases h))
      have HS5A : Hid (∀ (w' : World) v, Moved (W1.alloc (.cells #[.string ⟨#[]⟩, .slice none 0 0, .slice none 0 0] 28)).drew w' (ownS (.slice none 0 0)) (ownS v) → (w'.cell? ⟨g8, 0, none⟩ = some (.string n.nm) ∧ w'.cell? ⟨g8, 1, none⟩ = some (.slice A n.ps.length pc) ∧ w'.cell? ⟨g8, 2, none⟩ = some (.slice K n.ks.length kc))) := fun w' v hm => arr_nd (hm.arr (HA8.out.below hbe HA8.out.lt) (fun h => by cases h))
      have HS6 : Hid (∀ (w' : World) o, (w'.cell? ⟨g8, 0, none⟩ = some (.string n.nm) ∧ w'.cell? ⟨g8, 1, none⟩ = some (.slice A n.ps.length pc) ∧ w'.cell? ⟨g8, 2, none⟩ = some (.slice K n.ks.length kc)) → ((w'.alloc o).cell? ⟨g8, 0, none⟩ = some (.string n.nm) ∧ (w'.alloc o).cell? ⟨g8, 1, none⟩ = some (.slice A n.ps.length pc) ∧ (w'.alloc o).cell? ⟨g8, 2, none⟩ = some (.slice K n.ks.length kc))) := fun w' o ⟨e1, e2, e3⟩ =>
        have M := Moved.of_below ((Below.refl w'.heap.size w').alloc (Nat.le_refl _) o) (fun _ => False)
        ⟨cell_kept M id e1, cell_kept M id e2, cell_kept M id e3⟩
      have hg81 : g8 ≠ W1.heap.size := Nat.ne_of_lt HA8.out.lt
      have HS7 : Hid (∀ (w' : World) u0 u1 u2, (w'.cell? ⟨g8, 0, none⟩ = some (.string n.nm) ∧ w'.cell? ⟨g8, 1, none⟩ = some (.slice A n.ps.length pc) ∧ w'.cell? ⟨g8, 2, none⟩ = some (.slice K n.ks.length kc)) → ((((w'.setCell ⟨W1.heap.size, 0, none⟩ u0).setCell ⟨W1.heap.size, 1, none⟩ u1).setCell ⟨W1.heap.size, 2, none⟩ u2).cell? ⟨g8, 0, none⟩ = some (.string n.nm) ∧ (((w'.setCell ⟨W1.heap.size, 0, none⟩ u0).setCell ⟨W1.heap.size, 1, none⟩ u1).setCell ⟨W1.heap.size, 2, none⟩ u2).cell? ⟨g8, 1, none⟩ = some (.slice A n.ps.length pc) ∧ (((w'.setCell ⟨W1.heap.size, 0, none⟩ u0).setCell ⟨W1.heap.size, 1, none⟩ u1).setCell ⟨W1.heap.size, 2, none⟩ u2).cell? ⟨g8, 2, none⟩ = some (.slice K n.ks.length kc))) := fun w' u0 u1 u2 ⟨e1, e2, e3⟩ =>
        ⟨(World.cell?_setCell_far _ _ _ _ hg81.symm).trans ((World.cell?_setCell_far _ _ _ _ hg81.symm).trans ((World.cell?_setCell_far _ _ _ _ hg81.symm).trans e1)), (World.cell?_setCell_far _ _ _ _ hg81.symm).trans ((World.cell?_setCell_far _ _ _ _ hg81.symm).trans ((World.cell?_setCell_far _ _ _ _ hg81.symm).trans e2)), (World.cell?_setCell_far _ _ _ _ hg81.symm).trans ((World.cell?_setCell_far _ _ _ _ hg81.symm).trans ((World.cell?_setCell_far _ _ _ _ hg81.symm).trans e3))⟩
      refine wp_region_held_drew (S := fun (w' : World) => w'.cell? ⟨g8, 0, none⟩ = some (.string n.nm) ∧ w'.cell? ⟨g8, 1, none⟩ = some (.slice A n.ps.length pc) ∧ w'.cell? ⟨g8, 2, none⟩ = some (.slice K n.ks.length kc)) (by kernel_rfl) (by (first | exact HS0.out | exact HSA.out | assumption | exact HS6.out _ _ (by assumption) | exact HS7.out _ _ _ _ (by assumption))) (fun hHeld => ?_)
      refine takeH 0 6 rfl rfl (v := ?_) (by kernel_rfl) (by kernel_rfl) (by kernel_rfl) (fun _ _ _ h => h) (Or.inl ⟨by rfl, ?_⟩) hHeld ?_
      rotate_left 1
      · (intro w hSw; (try dsimp only at hSw); go_simp; try (with_reducible rfl))
      (try simp only [Act.put]); (try simp only [List.setIfInBounds_toArray]); (try simp only [List.set_cons_succ]); (try simp only [List.set_cons_zero])
      refine takeH 1 7 rfl rfl (v := ?_) (by kernel_rfl) (by kernel_rfl) (by kernel_rfl) (fun _ _ _ h => h) (Or.inl ⟨by rfl, ?_⟩) hHeld ?_
      rotate_left 1
      · (intro w hSw; (try dsimp only at hSw); go_simp; try (with_reducible rfl))
      (try simp only [Act.put]); (try simp only [List.setIfInBounds_toArray]); (try simp only [List.set_cons_succ]); (try simp only [List.set_cons_zero])
      refine takeH 2 8 rfl rfl (v := ?_) (by kernel_rfl) (by kernel_rfl) (by kernel_rfl) (fun _ _ _ h => h) (Or.inl ⟨by rfl, ?_⟩) hHeld ?_
      rotate_left 1
      · (intro w hSw; (try dsimp only at hSw); go_simp; try (with_reducible rfl))
      (try simp only [Act.put]); (try simp only [List.setIfInBounds_toArray]); (try simp only [List.set_cons_succ]); (try simp only [List.set_cons_zero])
      refine takeH 3 9 rfl rfl (v := ?_) (by kernel_rfl) (by kernel_rfl) (by kernel_rfl) (fun _ _ _ h => h) (Or.inl ⟨by rfl, ?_⟩) hHeld ?_
      rotate_left 1
      · (intro w hSw; (try dsimp only at hSw); go_simp; try (with_reducible rfl))
      (try simp only [Act.put]); (try simp only [List.setIfInBounds_toArray]); (try simp only [List.set_cons_succ]); (try simp only [List.set_cons_zero])
      refine wpAnyH_ready (rs := [4, 6]) (by kernel_rfl) (by simp) (AllReadyH.cons rfl (fun K hK => ?_) (AllReadyH.cons rfl (fun K hK => ?_) AllReadyH.nil))
      · refine step_append_src (w := W1.drew) (by rfl) _ _ _ (by rfl) 92 2 32 HEL (.slice none 0 0) 0 n.ps.length A pc [] (prL n.ps) (by rfl) (World.ownsRow_nil _ _ _ _) (by rfl) HPL.out (HRS.out _ hbd) HP1.out (by unfold maxLen; omega) (by omega) ?_
        intro A5 cap5A w5 q1 q2
        rw [Nat.zero_add] at q1 q2
        rw [List.nil_append] at q1
        rw [Nat.zero_add]
        have hs5 := HS5.out w5 _ q2
        (try dsimp only)
        refine hK.out _ _ (by (first | exact HS0.out | exact HSA.out | assumption | exact HS6.out _ _ (by assumption) | exact HS7.out _ _ _ _ (by assumption))) (fun hHeld => ?_)
        clear hK K
        (try simp only [Act.put]); (try simp only [List.setIfInBounds_toArray]); (try simp only [List.set_cons_succ]); (try simp only [List.set_cons_zero])
        refine takeH 5 11 rfl rfl (v := ?_) (by kernel_rfl) (by kernel_rfl) (by kernel_rfl) (fun _ _ _ h => h) (Or.inl ⟨by rfl, ?_⟩) hHeld ?_
        rotate_left 1
        · (intro w hSw; (try dsimp only at hSw); go_simp; try (with_reducible rfl))
        (try simp only [Act.put]); (try simp only [List.setIfInBounds_toArray]); (try simp only [List.set_cons_succ]); (try simp only [List.set_cons_zero])
        refine wpAnyH_ready (rs := [6]) (by kernel_rfl) (by simp) (AllReadyH.cons rfl (fun K hK => ?_) AllReadyH.nil)
        go_simp
        refine hK.out _ _ (by (first | exact HS0.out | exact HSA.out | assumption | exact HS6.out _ _ (by assumption) | exact HS7.out _ _ _ _ (by assumption))) (fun hHeld => ?_)
        clear hK K
        (try simp only [Act.put]); (try simp only [List.setIfInBounds_toArray]); (try simp only [List.set_cons_succ]); (try simp only [List.set_cons_zero])
        refine wpAnyH_ready (rs := [7]) (by kernel_rfl) (by simp) (AllReadyH.cons rfl (fun K hK => ?_) AllReadyH.nil)
        go_simp
        refine hK.out _ _ (by (first | exact HS0.out | exact HSA.out | assumption | exact HS6.out _ _ (by assumption) | exact HS7.out _ _ _ _ (by assumption))) (fun hHeld => ?_)
        clear hK K
        (try simp only [Act.put]); (try simp only [List.setIfInBounds_toArray]); (try simp only [List.set_cons_succ]); (try simp only [List.set_cons_zero])
        refine wpAnyH_done (by kernel_rfl) ?_ _
        clear hHeld HS0 HSA HS6 HS7 HS5 HS5A
        obtain ⟨R1, R2⟩ := cp_first (nm := n.nm) hbd q1 q2
        go_wp2_with fail
        go_meet
        exact ⟨A5, cap5A, _, _, rfl, R1, R2, Nat.le_refl _⟩
      · go_simp
        refine hK.out _ _ (by (first | exact HS0.out | exact HSA.out | assumption | exact HS6.out _ _ (by assumption) | exact HS7.out _ _ _ _ (by assumption))) (fun hHeld => ?_)
        clear hK K
        (try simp only [Act.put]); (try simp only [List.setIfInBounds_toArray]); (try simp only [List.set_cons_succ]); (try simp only [List.set_cons_zero])
        refine wpAnyH_ready (rs := [4]) (by kernel_rfl) (by simp) (AllReadyH.cons rfl (fun K hK => ?_) AllReadyH.nil)
        refine step_append_src (w := (W1.alloc (.cells #[.string ⟨#[]⟩, .slice none 0 0, .slice none 0 0] 28)).drew) (by rfl) _ _ _ (by rfl) 92 2 32 HEL (.slice none 0 0) 0 n.ps.length A pc [] (prL n.ps) (by rfl) (World.ownsRow_nil _ _ _ _) (by rfl) HPL.out (HRS.out _ hbe) HP1.out (by unfold maxLen; omega) (by omega) ?_
        intro A5 cap5A w5 q1 q2
        rw [Nat.zero_add] at q1 q2
        rw [List.nil_append] at q1
        rw [Nat.zero_add]
        have hs5 := HS5A.out w5 _ q2
        (try dsimp only)
        obtain ⟨z0, z1, z2, z3, z4, z5⟩ := cp_zero q2
        refine hK.out _ _ (by (first | exact HS0.out | exact HSA.out | assumption | exact HS6.out _ _ (by assumption) | exact HS7.out _ _ _ _ (by assumption))) (fun hHeld => ?_)
        clear hK K
        (try simp only [Act.put]); (try simp only [List.setIfInBounds_toArray]); (try simp only [List.set_cons_succ]); (try simp only [List.set_cons_zero])
        refine takeH 5 11 rfl rfl (v := ?_) (by kernel_rfl) (by kernel_rfl) (by kernel_rfl) (fun _ _ _ h => h) (Or.inl ⟨by rfl, ?_⟩) hHeld ?_
        rotate_left 1
        · (intro w hSw; (try dsimp only at hSw); go_simp; try (with_reducible rfl))
        (try simp only [Act.put]); (try simp only [List.setIfInBounds_toArray]); (try simp only [List.set_cons_succ]); (try simp only [List.set_cons_zero])
        refine wpAnyH_ready (rs := [7]) (by kernel_rfl) (by simp) (AllReadyH.cons rfl (fun K hK => ?_) AllReadyH.nil)
        go_simp
        refine hK.out _ _ (by (first | exact HS0.out | exact HSA.out | assumption | exact HS6.out _ _ (by assumption) | exact HS7.out _ _ _ _ (by assumption))) (fun hHeld => ?_)
        clear hK K
        (try simp only [Act.put]); (try simp only [List.setIfInBounds_toArray]); (try simp only [List.set_cons_succ]); (try simp only [List.set_cons_zero])
        refine wpAnyH_done (by kernel_rfl) ?_ _
        clear hHeld HS0 HSA HS6 HS7 HS5 HS5A
        obtain ⟨R1, R2⟩ := cp_second (nm := n.nm) q1 q2
        go_wp2_with fail
        go_meet
        exact ⟨A5, cap5A, _, _, rfl, R1, R2, Nat.le_refl _⟩
    -- COPY
    case rest => as_aux_lemma =>
      obtain ⟨A5, cap5A, B, g3, rfl, R1, R2, hBw⟩ := hcut
      have HBW : Hid (w.heap.size ≤ B) := Nat.le_trans hz1 hBw
      have HG2 : Hid (g2 < B) := Nat.lt_of_lt_of_le HA2.out.lt hBw
      have HG2W : Hid (w.heap.size ≤ g2) := HGW.out
      have HR1 := Lib.hid R1
      have HR2 := Lib.hid (HB1.out.trans (R2.mono hz1))
      have HR3 := Lib.hid (HA2.out.below R2 HA2.out.lt)
      have k3 : wc.cell? ⟨g8, 2, none⟩ = some (.slice K n.ks.length kc) := (HA8.out.below R2 HA8.out.lt).cell 2
      have HN0 := Lib.hid hN
      have HZ1 := Lib.hid hz1
      clear R1 R2 hBw k0 k1 k2 HA2 HA8 HB1 HN1 hz1 hbd hbe HRS HP1 HPL HEL hpl hpc hpm HGW
      go_wp2
      go_loopw [15] (fun i wr => ∃ (j : Nat) (kl : List KD) (q : Value), j ≤ n.ks.length ∧ i = .int .i64 j ∧ NodeV wr B g3 ⟨n.nm, n.ps, kl, .slice A5 n.ps.length cap5A, q⟩ ∧ Hid (kl.map KD.nd = n.ks.take j) ∧ Below w.heap.size w wr ∧ Arr wr g2 28 zeroN ∧ KS wr B wr.heap.size g3 ⟨n.nm, n.ps, kl, .slice A5 n.ps.length cap5A, q⟩) (fun i _ => n.ks.length - (intOf i).toNat)
      case atStart => exact ⟨0, [], _, Nat.zero_le _, rfl, HR1.out, rfl, HR2.out, HR3.out, ks_new⟩
      case round =>
        clear HR1 HR2 HR3 k3
        obtain ⟨j, kl, q, hj, rfl, hv, HKL, hb, hA2, hks⟩ := hrel
        have HKS := Lib.hid hks
        clear hks
        have HV := Lib.hid hv
        have HB := Lib.hid hb
        have HA2r := Lib.hid hA2
        have hsz := hb.size
        have hkll : kl.length = j := by
          have := congrArg List.length HKL.out
          rw [List.length_map, List.length_take] at this
          omega
        by_cases hlt : j < n.ks.length
        · have hji : (j : Int) < n.ks.length := by omega
          obtain ⟨b, off, x, y, z, rfl, h1, h2, h3, h4, HX⟩ := nd_kid (nd_below HN0.out hb) hlt
          have hxm := getD_mem (d := nd0) hlt
          rw [HX.out] at hxm
          have hcx := HCK.out x hxm
          have hkl64 : kl.length ≤ 1073741824 := by omega
          have HTK : Hid (∀ c : KD, c.nd = x → (kl ++ [c]).map KD.nd = n.ks.take (j + 1)) := fun c hc => by
            have e : n.ks.getD j nd0 = n.ks[j] := by rw [List.getD_eq_getElem?_getD, List.getElem?_eq_getElem hlt]; rfl
            rw [List.map_append, HKL.out, List.take_succ_eq_append_getElem hlt, ← e, HX.out, List.map_cons, List.map_nil, hc]
          obtain ⟨ya, za, yc, zc, rfl, rfl, _⟩ := nd_shape h4
          have hq : ∃ Z zd, q = .slice Z kl.length zd := by
            obtain ⟨Z, zd, e, _⟩ := row_form hv.on.q
            exact ⟨Z, zd, e⟩
          obtain ⟨Z, zd, rfl⟩ := hq
          clear hkll
          have hb9 : Below wr.heap.size wr (wr.alloc (.cells #[.string x.nm, .slice ya x.ps.length yc, .slice za x.ks.length zc] 28)) := (Below.refl _ _).alloc (Nat.le_refl _) _
          have HA9 := Lib.hid (Arr.new wr 28 #[.string x.nm, .slice ya x.ps.length yc, .slice za x.ks.length zc])
          have HV9 := Lib.hid (HV.out.below hb9)
          have HKS9 := Lib.hid ((HKS.out.below hb9).up hb9.size)
          have HB9 := Lib.hid (HB.out.trans (hb9.mono hsz))
          have HA29 := Lib.hid (HA2r.out.below hb9 HA2r.out.lt)
          have hg39 : g3 < wr.heap.size := HV.out.arr.lt
          have HAQ : Hid (Value.ownBlock (.slice Z kl.length zd) = some wr.heap.size → False) := fun e => by have := (HV.out.on.q.lt _ e).2; omega
          have h49 := nd_lt (nd_below h4 hb9)
          have hz9 : wr.heap.size < (wr.alloc (.cells #[.string x.nm, .slice ya x.ps.length yc, .slice za x.ks.length zc] 28)).heap.size := HA9.out.lt
          clear hb9 hv hb hA2 h4 HX hxm HV HB HA2r HKS
          go_upto_region 5 with fail
          generalize wr.alloc (.cells #[.string x.nm, .slice ya x.ps.length yc, .slice za x.ks.length zc] 28) = W9 at *
          generalize wr.heap.size = g9 at *
          have HC := Lib.hid (HIH.out x _ _ W9.drew hcx (nd_below h49 ((Below.refl _ _).drew)))
          have k9 : W9.cell? ⟨g3, 2, none⟩ = some (.slice Z kl.length zd) := HV9.out.arr.cell 2
          have HS0 : Hid (W9.drew.cell? ⟨g9, 0, none⟩ = some (.string x.nm) ∧ W9.drew.cell? ⟨g9, 1, none⟩ = some (.slice ya x.ps.length yc) ∧ W9.drew.cell? ⟨g9, 2, none⟩ = some (.slice za x.ks.length zc)) := arr_nd HA9.out
          have hg93 : g3 ≠ g9 := by omega
          have HS7 : Hid (∀ (w5 : World) v, (w5.cell? ⟨g9, 0, none⟩ = some (.string x.nm) ∧ w5.cell? ⟨g9, 1, none⟩ = some (.slice ya x.ps.length yc) ∧ w5.cell? ⟨g9, 2, none⟩ = some (.slice za x.ks.length zc)) → ((w5.setCell ⟨g3, 2, none⟩ v).cell? ⟨g9, 0, none⟩ = some (.string x.nm) ∧ (w5.setCell ⟨g3, 2, none⟩ v).cell? ⟨g9, 1, none⟩ = some (.slice ya x.ps.length yc) ∧ (w5.setCell ⟨g3, 2, none⟩ v).cell? ⟨g9, 2, none⟩ = some (.slice za x.ks.length zc))) := fun w5 v ⟨e1, e2, e3⟩ =>
            ⟨(World.cell?_setCell_far _ _ _ _ hg93).trans e1, (World.cell?_setCell_far _ _ _ _ hg93).trans e2, (World.cell?_setCell_far _ _ _ _ hg93).trans e3⟩
          have HFC : Hid (∀ (w3 : World) ua ub uc ud, Sole w3 W9.drew.heap.size w3.heap.size x (.slice ua x.ps.length uc) (.slice ub x.ks.length ud) → Below W9.drew.heap.size W9.drew w3 →
              (w3.cell? ⟨g9, 0, none⟩ = some (.string x.nm) ∧ w3.cell? ⟨g9, 1, none⟩ = some (.slice ya x.ps.length yc) ∧ w3.cell? ⟨g9, 2, none⟩ = some (.slice za x.ks.length zc)) ∧ ((w3.alloc (.cells #[.string x.nm, .slice ua x.ps.length uc, .slice ub x.ks.length ud] 28)).cell? ⟨g9, 0, none⟩ = some (.string x.nm) ∧ (w3.alloc (.cells #[.string x.nm, .slice ua x.ps.length uc, .slice ub x.ks.length ud] 28)).cell? ⟨g9, 1, none⟩ = some (.slice ya x.ps.length yc) ∧ (w3.alloc (.cells #[.string x.nm, .slice ua x.ps.length uc, .slice ub x.ks.length ud] 28)).cell? ⟨g9, 2, none⟩ = some (.slice za x.ks.length zc)) ∧ w3.cell? ⟨g3, 2, none⟩ = some (.slice Z kl.length zd) ∧ (w3.alloc (.cells #[.string x.nm, .slice ua x.ps.length uc, .slice ub x.ks.length ud] 28)).cell? ⟨g3, 2, none⟩ = some (.slice Z kl.length zd) ∧ Hid (Arr (w3.alloc (.cells #[.string x.nm, .slice ua x.ps.length uc, .slice ub x.ks.length ud] 28)) w3.heap.size 28 #[.string x.nm, .slice ua x.ps.length uc, .slice ub x.ks.length ud]) ∧ Hid ((w3.alloc (.cells #[.string x.nm, .slice ua x.ps.length uc, .slice ub x.ks.length ud] 28)).ownsRow B 28 3 (.slice Z kl.length zd) kl.length (kdL kl)) ∧ Hid (B ≤ (w3.alloc (.cells #[.string x.nm, .slice ua x.ps.length uc, .slice ub x.ks.length ud] 28)).heap.size) ∧
              Hid (∀ g5 cap5 w5, w5.ownsRow B 28 3 (.slice (some ⟨g5, 0, none⟩) (kl.length + 1) cap5) (kl.length + 1) (kdL kl ++ (#[.string x.nm, .slice ua x.ps.length uc, .slice ub x.ks.length ud] : Array Value).toList) → (w3.alloc (.cells #[.string x.nm, .slice ua x.ps.length uc, .slice ub x.ks.length ud] 28)).grownBy w5 (Value.ownBlock (.slice Z kl.length zd)) → (Value.ownBlock (.slice Z kl.length zd) = some g5 ∨ g5 = (w3.alloc (.cells #[.string x.nm, .slice ua x.ps.length uc, .slice ub x.ks.length ud] 28)).heap.size) →
                (w5.cell? ⟨g9, 0, none⟩ = some (.string x.nm) ∧ w5.cell? ⟨g9, 1, none⟩ = some (.slice ya x.ps.length yc) ∧ w5.cell? ⟨g9, 2, none⟩ = some (.slice za x.ks.length zc)) ∧ w5.cell? ⟨g3, 2, none⟩ = some (.slice Z kl.length zd) ∧ w5.frozen? ⟨g3, 2, none⟩ = false ∧ (NodeV (w5.setCell ⟨g3, 2, none⟩ (.slice (some ⟨g5, 0, none⟩) (kl.length + 1) cap5)) B g3 ⟨n.nm, n.ps, kl ++ [⟨x, .slice ua x.ps.length uc, .slice ub x.ks.length ud⟩], .slice A5 n.ps.length cap5A, (.slice (some ⟨g5, 0, none⟩) (kl.length + 1) cap5)⟩ ∧ Hid ((kl ++ [(⟨x, .slice ua x.ps.length uc, .slice ub x.ks.length ud⟩ : KD)]).map KD.nd = n.ks.take (j + 1)) ∧ Below w.heap.size w (w5.setCell ⟨g3, 2, none⟩ (.slice (some ⟨g5, 0, none⟩) (kl.length + 1) cap5)) ∧ Arr (w5.setCell ⟨g3, 2, none⟩ (.slice (some ⟨g5, 0, none⟩) (kl.length + 1) cap5)) g2 28 zeroN ∧ KS (w5.setCell ⟨g3, 2, none⟩ (.slice (some ⟨g5, 0, none⟩) (kl.length + 1) cap5)) B (w5.setCell ⟨g3, 2, none⟩ (.slice (some ⟨g5, 0, none⟩) (kl.length + 1) cap5)).heap.size g3 ⟨n.nm, n.ps, kl ++ [⟨x, .slice ua x.ps.length uc, .slice ub x.ks.length ud⟩], .slice A5 n.ps.length cap5A, (.slice (some ⟨g5, 0, none⟩) (kl.length + 1) cap5)⟩))) := by
            intro w3 ua ub uc ud hs3 hb3
            have hn3 := sole_nd hs3
            have hb3' : Below W9.heap.size W9 w3 := ((Below.refl _ _).drew).trans hb3
            have hb4 : Below w3.heap.size w3 (w3.alloc (.cells #[.string x.nm, .slice ua x.ps.length uc, .slice ub x.ks.length ud] 28)) := (Below.refl _ _).alloc (Nat.le_refl _) _
            have hb34 : Below W9.heap.size W9 (w3.alloc (.cells #[.string x.nm, .slice ua x.ps.length uc, .slice ub x.ks.length ud] 28)) := hb3'.trans (hb4.mono hb3'.size)
            have hV4 := HV9.out.below hb34
            have hA4 := HA9.out.below hb34 HA9.out.lt
            have hA24 := HA29.out.below hb34 HA29.out.lt
            have hB4 := HB9.out.trans (hb34.mono HB9.out.size)
            have hg34 : g3 < W9.heap.size := HV9.out.arr.lt
            refine ⟨arr_nd (HA9.out.below hb3' HA9.out.lt), arr_nd hA4, (HV9.out.below hb3').arr.cell 2, hV4.arr.cell 2, Arr.new w3 _ _, hV4.on.q, Nat.le_trans hV4.gB (Nat.le_of_lt hV4.arr.lt), ?_⟩
            intro g5 cap5 w5 q1 q2 q3
            have hqb : ∀ k, Value.ownBlock (.slice Z kl.length zd) = some k → k ≠ g3 ∧ B ≤ k ∧ k < W9.heap.size := fun k hk => ⟨fun e => hV4.sep (e ▸ hk), (HV9.out.on.q.lt k hk).1, (HV9.out.on.q.lt k hk).2⟩
            have hfr : ∀ r, Value.ownBlock (.slice Z kl.length zd) ≠ some r → some r ≠ Value.ownBlock (.slice Z kl.length zd) := fun r h e => h e.symm
            have hq9 : Value.ownBlock (.slice Z kl.length zd) ≠ some g9 := fun e => HAQ.out e
            have hq2 : Value.ownBlock (.slice Z kl.length zd) ≠ some g2 := fun e => by have := (hqb g2 e).2.1; have := HG2.out; omega
            have hA95 := hA4.gr q2 (hfr _ hq9)
            have hA25 := hA24.gr q2 (hfr _ hq2)
            have hA35 := hV4.arr.gr q2 (hfr _ hV4.sep)
            have hg53 : g5 ≠ g3 := by
              rintro rfl
              rcases q3 with h | h
              · exact hV4.sep h
              · have := hb34.size; omega
            have hm5 : Moved (w3.alloc (.cells #[.string x.nm, .slice ua x.ps.length uc, .slice ub x.ks.length ud] 28)) w5 (fun k => k = g3 ∨ ownS (.slice Z kl.length zd) k) (fun k => k = g3 ∨ ownS (.slice (some ⟨g5, 0, none⟩) (kl.length + 1) cap5) k) := Moved.grown q2 (fun k hk => .inr hk) (fun k hk => by
              rcases hk with hk | hk
              · exact .inl (.inl hk)
              · exact (ownS_lies (n := kl.length + 1) (cap := cap5) q3 k hk).imp .inr id)
            have hm6 : Moved w5 (w5.setCell ⟨g3, 2, none⟩ (.slice (some ⟨g5, 0, none⟩) (kl.length + 1) cap5)) (fun k => k = g3 ∨ ownS (.slice (some ⟨g5, 0, none⟩) (kl.length + 1) cap5) k) (fun k => k = g3 ∨ ownS (.slice (some ⟨g5, 0, none⟩) (kl.length + 1) cap5) k) := Moved.grown (gr_cell w5 g3 2 _) (fun k hk => by injection hk with hk; exact .inl hk.symm) (fun k hk => .inl hk)
            have hq5 := q1.kept (w' := (w5.setCell ⟨g3, 2, none⟩ (.slice (some ⟨g5, 0, none⟩) (kl.length + 1) cap5))) (gr_cell w5 g3 2 _) (.inr fun e => hg53 (by injection e with e))
            have hnv := nv_kid hV4 ⟨x, .slice ua x.ps.length uc, .slice ub x.ks.length ud⟩ (w' := (w5.setCell ⟨g3, 2, none⟩ (.slice (some ⟨g5, 0, none⟩) (kl.length + 1) cap5))) (hA35.put 2 _) (by rw [kdL_app]; exact hq5) (hm5.trans hm6) (fun e => hg53 (by injection e)) ((nd_below hn3 hb4).mono fun k hk => ⟨by have := HV9.out.gB; have hk' : W9.heap.size ≤ k := hk.1; omega, fun hf => by have := HV9.out.high hf; exact absurd this (Nat.not_lt.2 hk.1)⟩)
            refine ⟨arr_nd hA95, hA35.cell 2, hA35.frozen 2, hnv.1, HTK.out _ rfl, hB4.trans (hnv.2.below (fun k hk => Nat.le_trans HBW.out (hV4.low hk)) hB4.size |>.mono (Nat.le_refl _)), (hA25.far (by have := HG2.out; have := HV9.out.gB; omega) _), (ks_kid (c := ⟨x, .slice ua x.ps.length uc, .slice ub x.ks.length ud⟩) (HKS9.out.below hb34) (sole_below hs3 hb4) hb3.size hb4.size (fun k hk => HV9.out.high hk) (by have := HV9.out.gB; omega) (hm5.trans hm6)).up (Nat.le_trans hb4.size (hm5.trans hm6).size)⟩
          clear h49 hcx h1 h2 h3 HV9 HA9 HB9 HA29 HKS9
          refine wp_region_held_drew (S := fun (w' : World) => w'.cell? ⟨g9, 0, none⟩ = some (.string x.nm) ∧ w'.cell? ⟨g9, 1, none⟩ = some (.slice ya x.ps.length yc) ∧ w'.cell? ⟨g9, 2, none⟩ = some (.slice za x.ks.length zc)) (by kernel_rfl) (by (first | exact HS0.out | assumption | exact HS7.out _ _ (by assumption))) (fun hHeld => ?_)
          refine takeH 0 19 rfl rfl (v := ?_) (by kernel_rfl) (by kernel_rfl) (by kernel_rfl) (fun _ _ _ h => h) (Or.inl ⟨by rfl, ?_⟩) hHeld ?_
          rotate_left 1
          · (intro w hSw; (try dsimp only at hSw); go_simp; try (with_reducible rfl))
          (try simp only [Act.put]); (try simp only [List.setIfInBounds_toArray]); (try simp only [List.set_cons_succ]); (try simp only [List.set_cons_zero])
          refine takeH 2 21 rfl rfl (v := ?_) (by kernel_rfl) (by kernel_rfl) (by kernel_rfl) (fun _ _ _ h => h) (Or.inl ⟨by rfl, ?_⟩) hHeld ?_
          rotate_left 1
          · (intro w hSw; (try dsimp only at hSw); go_simp; try (with_reducible rfl))
          (try simp only [Act.put]); (try simp only [List.setIfInBounds_toArray]); (try simp only [List.set_cons_succ]); (try simp only [List.set_cons_zero])
          refine wpAnyH_ready (rs := [1, 3]) (by kernel_rfl) (by simp) (AllReadyH.cons rfl (fun K hK => ?_) (AllReadyH.cons rfl (fun K hK => ?_) AllReadyH.nil))
          · go_simp
            refine hK.out _ _ (by (first | exact HS0.out | assumption | exact HS7.out _ _ (by assumption))) (fun hHeld => ?_)
            clear hK K
            (try simp only [Act.put]); (try simp only [List.setIfInBounds_toArray]); (try simp only [List.set_cons_succ]); (try simp only [List.set_cons_zero])
            refine wpAnyH_ready (rs := [3]) (by kernel_rfl) (by simp) (AllReadyH.cons rfl (fun K hK => ?_) AllReadyH.nil)
            go_simp
            refine HC.out.mono ?_
            rintro e w3 ⟨u2, u3, rfl, hn3, hb3⟩
            obtain ⟨ua, ub, uc, ud, rfl, rfl, _⟩ := nd_shape (sole_nd hn3)
            obtain ⟨hs3, hs4, hq3, hq4, HNEW, HROW, HSZ, HF5⟩ := HFC.out w3 ua ub uc ud hn3 hb3
            (try dsimp only)
            refine hK.out _ _ (by (first | exact HS0.out | assumption | exact HS7.out _ _ (by assumption))) (fun hHeld => ?_)
            clear hK K
            (try simp only [Act.put]); (try simp only [List.setIfInBounds_toArray]); (try simp only [List.set_cons_succ]); (try simp only [List.set_cons_zero])
            refine wpAnyH_ready (rs := [4]) (by kernel_rfl) (by simp) (AllReadyH.cons rfl (fun K hK => ?_) AllReadyH.nil)
            go_simp
            refine hK.out _ _ (by (first | exact HS0.out | assumption | exact HS7.out _ _ (by assumption))) (fun hHeld => ?_)
            clear hK K
            (try simp only [Act.put]); (try simp only [List.setIfInBounds_toArray]); (try simp only [List.set_cons_succ]); (try simp only [List.set_cons_zero])
            refine wpAnyH_ready (rs := [5]) (by kernel_rfl) (by simp) (AllReadyH.cons rfl (fun K hK => ?_) AllReadyH.nil)
            refine step_append_at (by rfl) _ _ _ (by rfl) 28 3 64 HEN B (.slice Z kl.length zd) kl.length (kdL kl) (by rfl) HROW.out w3.heap.size #[.string x.nm, .slice ua x.ps.length uc, .slice ub x.ks.length ud] HNEW.out rfl (cn_one _ _ _ rfl rfl) (by rfl) (by unfold maxLen; omega) (by omega) HSZ.out ?_
            intro g5 cap5 w5 q1 q2 q3 q4
            obtain ⟨hs5, y1, y2, y3⟩ := HF5.out g5 cap5 w5 q1 q2 q3
            (try dsimp only)
            refine hK.out _ _ (by (first | exact HS0.out | assumption | exact HS7.out _ _ (by assumption))) (fun hHeld => ?_)
            clear hK K
            (try simp only [Act.put]); (try simp only [List.setIfInBounds_toArray]); (try simp only [List.set_cons_succ]); (try simp only [List.set_cons_zero])
            refine takeH 6 25 rfl rfl (v := ?_) (by kernel_rfl) (by kernel_rfl) (by kernel_rfl) (fun _ _ _ h => h) (Or.inl ⟨by rfl, ?_⟩) hHeld ?_
            rotate_left 1
            · (intro w hSw; (try dsimp only at hSw); go_simp; try (with_reducible rfl))
            (try simp only [Act.put]); (try simp only [List.setIfInBounds_toArray]); (try simp only [List.set_cons_succ]); (try simp only [List.set_cons_zero])
            refine wpAnyH_ready (rs := [7]) (by kernel_rfl) (by simp) (AllReadyH.cons rfl (fun K hK => ?_) AllReadyH.nil)
            go_simp
            refine hK.out _ _ (by (first | exact HS0.out | assumption | exact HS7.out _ _ (by assumption))) (fun hHeld => ?_)
            clear hK K
            (try simp only [Act.put]); (try simp only [List.setIfInBounds_toArray]); (try simp only [List.set_cons_succ]); (try simp only [List.set_cons_zero])
            refine wpAnyH_done (by kernel_rfl) ?_ _
            have HE := Lib.hid y3
            clear y1 y2 y3 hs3 hs4 hs5 hq3 hq4 q1 q2 q3 q4 HF5 HNEW HROW HSZ hb3 hn3 HFC HC HS0 HS7 hHeld
            go_wp2
            obtain ⟨r1, r2, r3, r4, r5⟩ := HE.out
            have R1 := Lib.hid r1
            have R3 := Lib.hid r3
            have R4 := Lib.hid r4
            have R5 := Lib.hid r5
            clear r1 r3 r4 r5
            go_roundw
            case rel => exact ⟨j + 1, kl ++ [(⟨x, .slice ua x.ps.length uc, .slice ub x.ks.length ud⟩ : KD)], _, by omega, by go_num, R1.out, r2, R3.out, R4.out, R5.out⟩
            case measure => simp [intOf]; omega
          · go_simp
            refine HC.out.mono ?_
            rintro e w3 ⟨u2, u3, rfl, hn3, hb3⟩
            obtain ⟨ua, ub, uc, ud, rfl, rfl, _⟩ := nd_shape (sole_nd hn3)
            obtain ⟨hs3, hs4, hq3, hq4, HNEW, HROW, HSZ, HF5⟩ := HFC.out w3 ua ub uc ud hn3 hb3
            (try dsimp only)
            refine hK.out _ _ (by (first | exact HS0.out | assumption | exact HS7.out _ _ (by assumption))) (fun hHeld => ?_)
            clear hK K
            (try simp only [Act.put]); (try simp only [List.setIfInBounds_toArray]); (try simp only [List.set_cons_succ]); (try simp only [List.set_cons_zero])
            refine wpAnyH_ready (rs := [1, 4]) (by kernel_rfl) (by simp) (AllReadyH.cons rfl (fun K hK => ?_) (AllReadyH.cons rfl (fun K hK => ?_) AllReadyH.nil))
            · go_simp
              refine hK.out _ _ (by (first | exact HS0.out | assumption | exact HS7.out _ _ (by assumption))) (fun hHeld => ?_)
              clear hK K
              (try simp only [Act.put]); (try simp only [List.setIfInBounds_toArray]); (try simp only [List.set_cons_succ]); (try simp only [List.set_cons_zero])
              refine wpAnyH_ready (rs := [4]) (by kernel_rfl) (by simp) (AllReadyH.cons rfl (fun K hK => ?_) AllReadyH.nil)
              go_simp
              refine hK.out _ _ (by (first | exact HS0.out | assumption | exact HS7.out _ _ (by assumption))) (fun hHeld => ?_)
              clear hK K
              (try simp only [Act.put]); (try simp only [List.setIfInBounds_toArray]); (try simp only [List.set_cons_succ]); (try simp only [List.set_cons_zero])
              refine wpAnyH_ready (rs := [5]) (by kernel_rfl) (by simp) (AllReadyH.cons rfl (fun K hK => ?_) AllReadyH.nil)
              refine step_append_at (by rfl) _ _ _ (by rfl) 28 3 64 HEN B (.slice Z kl.length zd) kl.length (kdL kl) (by rfl) HROW.out w3.heap.size #[.string x.nm, .slice ua x.ps.length uc, .slice ub x.ks.length ud] HNEW.out rfl (cn_one _ _ _ rfl rfl) (by rfl) (by unfold maxLen; omega) (by omega) HSZ.out ?_
              intro g5 cap5 w5 q1 q2 q3 q4
              obtain ⟨hs5, y1, y2, y3⟩ := HF5.out g5 cap5 w5 q1 q2 q3
              (try dsimp only)
              refine hK.out _ _ (by (first | exact HS0.out | assumption | exact HS7.out _ _ (by assumption))) (fun hHeld => ?_)
              clear hK K
              (try simp only [Act.put]); (try simp only [List.setIfInBounds_toArray]); (try simp only [List.set_cons_succ]); (try simp only [List.set_cons_zero])
              refine takeH 6 25 rfl rfl (v := ?_) (by kernel_rfl) (by kernel_rfl) (by kernel_rfl) (fun _ _ _ h => h) (Or.inl ⟨by rfl, ?_⟩) hHeld ?_
              rotate_left 1
              · (intro w hSw; (try dsimp only at hSw); go_simp; try (with_reducible rfl))
              (try simp only [Act.put]); (try simp only [List.setIfInBounds_toArray]); (try simp only [List.set_cons_succ]); (try simp only [List.set_cons_zero])
              refine wpAnyH_ready (rs := [7]) (by kernel_rfl) (by simp) (AllReadyH.cons rfl (fun K hK => ?_) AllReadyH.nil)
              go_simp
              refine hK.out _ _ (by (first | exact HS0.out | assumption | exact HS7.out _ _ (by assumption))) (fun hHeld => ?_)
              clear hK K
              (try simp only [Act.put]); (try simp only [List.setIfInBounds_toArray]); (try simp only [List.set_cons_succ]); (try simp only [List.set_cons_zero])
              refine wpAnyH_done (by kernel_rfl) ?_ _
              have HE := Lib.hid y3
              clear y1 y2 y3 hs3 hs4 hs5 hq3 hq4 q1 q2 q3 q4 HF5 HNEW HROW HSZ hb3 hn3 HFC HC HS0 HS7 hHeld
              go_wp2
              obtain ⟨r1, r2, r3, r4, r5⟩ := HE.out
              have R1 := Lib.hid r1
              have R3 := Lib.hid r3
              have R4 := Lib.hid r4
              have R5 := Lib.hid r5
              clear r1 r3 r4 r5
              go_roundw
              case rel => exact ⟨j + 1, kl ++ [(⟨x, .slice ua x.ps.length uc, .slice ub x.ks.length ud⟩ : KD)], _, by omega, by go_num, R1.out, r2, R3.out, R4.out, R5.out⟩
              case measure => simp [intOf]; omega
            · go_simp
              refine hK.out _ _ (by (first | exact HS0.out | assumption | exact HS7.out _ _ (by assumption))) (fun hHeld => ?_)
              clear hK K
              (try simp only [Act.put]); (try simp only [List.setIfInBounds_toArray]); (try simp only [List.set_cons_succ]); (try simp only [List.set_cons_zero])
              refine wpAnyH_ready (rs := [1]) (by kernel_rfl) (by simp) (AllReadyH.cons rfl (fun K hK => ?_) AllReadyH.nil)
              go_simp
              refine hK.out _ _ (by (first | exact HS0.out | assumption | exact HS7.out _ _ (by assumption))) (fun hHeld => ?_)
              clear hK K
              (try simp only [Act.put]); (try simp only [List.setIfInBounds_toArray]); (try simp only [List.set_cons_succ]); (try simp only [List.set_cons_zero])
              refine wpAnyH_ready (rs := [5]) (by kernel_rfl) (by simp) (AllReadyH.cons rfl (fun K hK => ?_) AllReadyH.nil)
              refine step_append_at (by rfl) _ _ _ (by rfl) 28 3 64 HEN B (.slice Z kl.length zd) kl.length (kdL kl) (by rfl) HROW.out w3.heap.size #[.string x.nm, .slice ua x.ps.length uc, .slice ub x.ks.length ud] HNEW.out rfl (cn_one _ _ _ rfl rfl) (by rfl) (by unfold maxLen; omega) (by omega) HSZ.out ?_
              intro g5 cap5 w5 q1 q2 q3 q4
              obtain ⟨hs5, y1, y2, y3⟩ := HF5.out g5 cap5 w5 q1 q2 q3
              (try dsimp only)
              refine hK.out _ _ (by (first | exact HS0.out | assumption | exact HS7.out _ _ (by assumption))) (fun hHeld => ?_)
              clear hK K
              (try simp only [Act.put]); (try simp only [List.setIfInBounds_toArray]); (try simp only [List.set_cons_succ]); (try simp only [List.set_cons_zero])
              refine takeH 6 25 rfl rfl (v := ?_) (by kernel_rfl) (by kernel_rfl) (by kernel_rfl) (fun _ _ _ h => h) (Or.inl ⟨by rfl, ?_⟩) hHeld ?_
              rotate_left 1
              · (intro w hSw; (try dsimp only at hSw); go_simp; try (with_reducible rfl))
              (try simp only [Act.put]); (try simp only [List.setIfInBounds_toArray]); (try simp only [List.set_cons_succ]); (try simp only [List.set_cons_zero])
              refine wpAnyH_ready (rs := [7]) (by kernel_rfl) (by simp) (AllReadyH.cons rfl (fun K hK => ?_) AllReadyH.nil)
              go_simp
              refine hK.out _ _ (by (first | exact HS0.out | assumption | exact HS7.out _ _ (by assumption))) (fun hHeld => ?_)
              clear hK K
              (try simp only [Act.put]); (try simp only [List.setIfInBounds_toArray]); (try simp only [List.set_cons_succ]); (try simp only [List.set_cons_zero])
              refine wpAnyH_done (by kernel_rfl) ?_ _
              have HE := Lib.hid y3
              clear y1 y2 y3 hs3 hs4 hs5 hq3 hq4 q1 q2 q3 q4 HF5 HNEW HROW HSZ hb3 hn3 HFC HC HS0 HS7 hHeld
              go_wp2
              obtain ⟨r1, r2, r3, r4, r5⟩ := HE.out
              have R1 := Lib.hid r1
              have R3 := Lib.hid r3
              have R4 := Lib.hid r4
              have R5 := Lib.hid r5
              clear r1 r3 r4 r5
              go_roundw
              case rel => exact ⟨j + 1, kl ++ [(⟨x, .slice ua x.ps.length uc, .slice ub x.ks.length ud⟩ : KD)], _, by omega, by go_num, R1.out, r2, R3.out, R4.out, R5.out⟩
              case measure => simp [intOf]; omega
        · obtain rfl : j = n.ks.length := by omega
          clear hkll
          rw [List.take_length] at HKL
          have HDN := Lib.hid (ks_done HKS.out HV.out (Nat.le_refl _))
          have hnd : (⟨n.nm, n.ps, kl, .slice A5 n.ps.length cap5A, q⟩ : ON).nd = n := by
            show ND.mk n.nm n.ps (kl.map KD.nd) = n
            rw [HKL.out]; exact (ND.eta n).symm
          rw [hnd] at HDN
          have hq : ∃ Z zd, q = .slice Z kl.length zd := by
            obtain ⟨Z, zd, e, _⟩ := row_form hv.on.q
            exact ⟨Z, zd, e⟩
          obtain ⟨Z, zd, rfl⟩ := hq
          have c0 : wr.cell? ⟨g3, 0, none⟩ = some (.string n.nm) := HV.out.arr.cell 0
          have c1 : wr.cell? ⟨g3, 1, none⟩ = some (.slice A5 n.ps.length cap5A) := HV.out.arr.cell 1
          have c2 : wr.cell? ⟨g3, 2, none⟩ = some (.slice Z kl.length zd) := HV.out.arr.cell 2
          have HFIN : Hid (Sole (wr.setRow g2 #[.string n.nm, .slice A5 n.ps.length cap5A, .slice Z kl.length zd]) w.heap.size (wr.setRow g2 #[.string n.nm, .slice A5 n.ps.length cap5A, .slice Z kl.length zd]).heap.size n (.slice A5 n.ps.length cap5A) (.slice Z kl.length zd)) :=
            (HDN.out.kept (moved_setRow wr g2 _) (fun k hk _ e => by have := HG2.out; omega)).wide HBW.out (by rw [size_setRow]; exact Nat.le_refl _)
          have HBF : Hid (Below w.heap.size w (wr.setRow g2 #[.string n.nm, .slice A5 n.ps.length cap5A, .slice Z kl.length zd])) := below_setRow HB.out HG2W.out _
          have HONE : Hid ((#[.string n.nm, .slice A5 n.ps.length cap5A, .slice Z kl.length zd] : Array Value).all (·.oneCell') = true) := by
            unfold Hid
            rw [Array.all_eq_true_iff_forall_mem]
            intro v hv
            simp at hv
            rcases hv with rfl | rfl | rfl <;> rfl
          clear hv hb hA2 HKL hnd HDN HV HKS
          go_wp2_with (refine wpList_store_row rfl 28 (.tmp 2) (.tmp 27) rfl g2 #[.string n.nm, .slice A5 n.ps.length cap5A, .slice Z kl.length zd] rfl rfl _ _ HA2r.out (infoNd _ _ _) rfl HONE.out ?_)
          exact bodyPost_ret (v := .agg #[.string n.nm, .slice A5 n.ps.length cap5A, .slice Z kl.length zd]) (results_cell_row rfl _ _ g2 _ #[.string n.nm, .slice A5 n.ps.length cap5A, .slice Z kl.length zd] _ _ rfl (HA2r.out.row _) Tryz.underlying28 rfl (infoNd _ _ _)) rfl ⟨_, _, rfl, HFIN.out, HBF.out⟩
theorem tcopy_any (k : Nat) (n : ND) (v2 v3 : Value) (w : World) (h1 : CpOk k n) (h2 : NdAt w (fun b => b < w.heap.size) n v2 v3) :
    Calls Tryz.prog 30 #[.agg #[.string n.nm, v2, v3]] w fun e w' => ∃ u2 u3, e = .returned (.agg #[.string n.nm, u2, u3]) ∧ NdAt w' (fun b => w.heap.size ≤ b) n u2 u3 ∧ Below w.heap.size w w' :=
  (tcopy_sole k n v2 v3 w h1 h2).mono fun _ _ ⟨u2, u3, e1, e2, e3⟩ => ⟨u2, u3, e1, (sole_nd e2).mono (fun _ h => h.1), e3⟩
end Go.Proofs.YtfcclppgjfkfoaaGreatDoor
