/- What slices.Delete does with one element of a slice of one's own: of properties, of nodes. Condition: the element is there. -/
import Derived.Test.YtfcclppgjfkfoaaDoorMg32
import Derived.Test.YtfcclppgjfkfoaaDoorMg8
import Derived.Deep.LoopGhost
import Derived.Sort.WalkB12
import Derived.Test.YtfcclppgjfkfoaaDoorMg7
namespace Go.Proofs.YtfcclppgjfkfoaaDoor
open Go.RowKit

theorem zc2 (a b : Value) : (Builtin.zeroCells #[a, b] 1).toList = [a, b] := by
  simp [Builtin.zeroCells, Array.toList_map, List.range_succ]
theorem zc3 (a b c : Value) : (Builtin.zeroCells #[a, b, c] 1).toList = [a, b, c] := by
  simp [Builtin.zeroCells, Array.toList_map, List.range_succ]
set_option maxRecDepth 100000 in
theorem zcells_prop (z : Value) (i : TypeInfo) (h : Tryd.prog.info? 62 = some i) (hz : i.zero = some z) : (Builtin.zeroCells z.cells 1).toList = [.string ⟨#[]⟩, .string ⟨#[]⟩] := by
  have e : (Tryd.prog.info? 62).map (·.zero) = some (some (.agg #[.string ⟨#[]⟩, .string ⟨#[]⟩])) := by kernel_rfl
  rw [h, Option.map_some, hz] at e
  injection e with e
  injection e with e
  rw [e]
  exact zc2 _ _
set_option maxRecDepth 100000 in
theorem zcells_node (z : Value) (i : TypeInfo) (h : Tryd.prog.info? 25 = some i) (hz : i.zero = some z) : (Builtin.zeroCells z.cells 1).toList = [.string ⟨#[]⟩, .slice none 0 0, .slice none 0 0] := by
  have e : (Tryd.prog.info? 25).map (·.zero) = some (some (.agg #[.string ⟨#[]⟩, .slice none 0 0, .slice none 0 0])) := by kernel_rfl
  rw [h, Option.map_some, hz] at e
  injection e with e
  injection e with e
  rw [e]
  exact zc3 _ _ _

set_option maxHeartbeats 4000000 in
set_option maxRecDepth 1000000 in
theorem delProp_any (B n i g cap : Nat) (xs : List Value) (w : World) (h : w.ownsRow B 62 2 (.slice (some ⟨g, 0, none⟩) n cap) n xs) (hi : i < n) (hone : ∀ x ∈ xs, x.oneCell' = true) :
    Calls Tryd.prog 35 #[.slice (some ⟨g, 0, none⟩) n cap, .int .i64 (i : Int), .int .i64 ((i : Int) + 1)] w fun e w' => e = .returned (.slice (some ⟨g, 0, none⟩) (n - 1) cap) ∧
      w'.ownsRow B 62 2 (.slice (some ⟨g, 0, none⟩) (n - 1) cap) (n - 1) (xs.take (i * 2) ++ xs.drop ((i + 1) * 2)) ∧ Moved w w' (ownS (.slice (some ⟨g, 0, none⟩) n cap)) (ownS (.slice (some ⟨g, 0, none⟩) (n - 1) cap)) := by
  obtain ⟨h0, i0, z0, hi0, hz0, hz1, hz2, hz3, hz4⟩ := elemProp
  have hzv : ∀ w, (zeroValue 62).run Tryd.prog w = .ok z0 w := fun w => by simp [zeroValue, typeInfo, hi0, hz0]
  obtain ⟨A0, cap0, he0, hnc, hcm, hcell⟩ := row_form h
  injection he0 with he0 _ he0c
  subst he0c
  clear he0 hcell
  have hcells : ∀ j, j < n * 2 → w.cell? ⟨g, j, none⟩ = xs[j]? := fun j hj => h.cellAt j hj
  have hxl := h.1
  obtain ⟨j, hj⟩ : ∃ j, j = i + 1 := ⟨_, rfl⟩
  have hjn : j ≤ n := by omega
  have e1 : (i : Int) + 1 = (j : Int) := by omega
  obtain ⟨news, hnews⟩ : ∃ news, news = xs.drop (j * 2) := ⟨_, rfl⟩
  have hlen : news.length = (n - j) * 2 := by rw [hnews, List.length_drop, hxl]; omega
  obtain ⟨A, hA, hsrc⟩ : ∃ A : Addr, (if cap = j then (some (⟨g, 0, none⟩ : Addr)) else some ⟨g, j * 2, none⟩) = some A ∧ Hid (∀ t u, news[t]? = some u → w.drew.cell? (A.add t) = some u) := by
    by_cases hh : cap = j
    · refine ⟨⟨g, 0, none⟩, by simp [hh], fun t u hu => ?_⟩
      have h00 : news.length = 0 := by rw [hlen]; omega
      rw [List.length_eq_zero_iff.1 h00] at hu
      simp at hu
    · refine ⟨⟨g, j * 2, none⟩, by simp [hh], fun t u hu => ?_⟩
      have ht : t < (n - j) * 2 := by
        have := (List.getElem?_eq_some_iff.1 hu).1
        rwa [hlen] at this
      rw [hnews, List.getElem?_drop] at hu
      have hc := hcells (j * 2 + t) (by omega)
      rw [hu] at hc
      have e : (⟨g, j * 2, none⟩ : Addr).add t = ⟨g, j * 2 + t, none⟩ := by simp [Addr.add]
      rw [e]
      exact hc
  have s1 : Hid (news.length = (n - j) * 2) := hlen
  have s2 : Hid (∀ u ∈ news, u.oneCell' = true) := fun u hu => hone u (by rw [hnews] at hu; exact List.mem_of_mem_drop hu)
  have s3 : Hid (∀ t, t < news.length → (w.drew.cell? ⟨g, 0 + i * 2 + t, none⟩).isSome = true ∧ w.drew.frozen? ⟨g, 0 + i * 2 + t, none⟩ = false) := fun t ht => by
    rw [hlen] at ht
    rw [Nat.zero_add]
    refine ⟨?_, h.frozenAt _⟩
    show (w.cell? _).isSome = true
    rw [hcells _ (by omega), List.getElem?_eq_getElem (by omega)]; rfl
  obtain ⟨W1, hW1⟩ : ∃ W1, W1 = w.drew.setCells g (0 + i * 2) news := ⟨_, rfl⟩
  have HFIN : Hid ((W1.setCells g ((n - 1) * 2) [.string ⟨#[]⟩, .string ⟨#[]⟩]).ownsRow B 62 2 (.slice (some ⟨g, 0, none⟩) (n - 1) cap) (n - 1) (xs.take (i * 2) ++ xs.drop ((i + 1) * 2))) := by
    rw [hW1, hnews, hj, Nat.zero_add]
    exact own_del (w := w.drew) (zs := [.string ⟨#[]⟩, .string ⟨#[]⟩]) h.drew hi (by decide) rfl
  have HMV : Hid (Moved w (W1.setCells g ((n - 1) * 2) [.string ⟨#[]⟩, .string ⟨#[]⟩]) (ownS (.slice (some ⟨g, 0, none⟩) n cap)) (ownS (.slice (some ⟨g, 0, none⟩) (n - 1) cap))) := by
    rw [hW1]
    exact (Moved.of_below ((Below.refl w.heap.size w).drew) _).trans (own_del_moved w.drew g _ _ n (n - 1) cap cap _ _)
  have hg1 : w.drew.grownBy W1 (some g) := by rw [hW1]; exact gr_cells _ _ _ _
  obtain ⟨cur, hcu, hcs⟩ : ∃ cur, Arr w.drew g 62 cur ∧ n * 2 ≤ cur.size := by
    rcases h.2 with ⟨hh, _⟩ | ⟨g', cap', cur, hh, hb, hg, hnc', hcm', hcs, htk⟩
    · cases hh
    injection hh with hh _ hhc
    injection hh with hh
    injection hh with hh
    subst hh
    exact ⟨cur, hg, by omega⟩
  obtain ⟨c1, a1, s1', _⟩ := arr_setCells news (0 + i * 2) hcu (by rw [hlen]; omega)
  rw [← hW1] at a1
  have hcl : ∀ ty, (Builtin.clear_ #[22] ty #[.slice (some ⟨g, (i + (n - j)) * 2, none⟩) (n - (i + (n - j))) (cap - (i + (n - j)))]).run Tryd.prog W1 = .ok (.tuple #[]) (W1.setCells g ((n - 1) * 2) [.string ⟨#[]⟩, .string ⟨#[]⟩]) := fun ty => by
    rw [show i + (n - j) = n - 1 by omega, show n - (n - 1) = 1 by omega]
    refine run_clear_any W1 22 62 ty z0 h0 hzv g _ 1 _ (by decide) [.string ⟨#[]⟩, .string ⟨#[]⟩] ?_ ?_ (fun t ht => ?_) (fun t _ => a1.frozen _)
    · exact zcells_prop z0 i0 hi0 hz0
    · intro v hv; simp at hv; rcases hv with rfl | rfl <;> rfl
    · have ht : t < 2 := ht
      rw [a1.cell, Array.getElem?_eq_getElem (by omega)]; rfl
  have hic : i ≤ cap := by omega
  have hjc : j ≤ cap := by omega
  have HW : Hid (W1 = w.drew.setCells g (0 + i * 2) news) := hW1
  have hij : i ≤ j := by omega
  have hne : i ≠ j := by omega
  have hnj : i + (n - j) = n - 1 := by omega
  rw [e1]
  have HNJ := Lib.hid hnj
  clear hW1 hg1 hcu hcs a1 s1' hcells hlen hnews h hone hzv hj e1 hi hxl hnj
  go_enter Tryd.func35, Tryd.ntmps35
  go_wp2_with fail
  go_region_law (refine step_append_room rfl (.tmp 22) (.tmp 25) 22 rfl 62 i0 2 h0 hi0 hz1 g 0 i cap (by simp [Act.eval, Act.put]) A (n - j) (cap - j) news (by simp [Act.eval, Act.put]) s1.out hsrc.out s2.out (by omega) s3.out ?_; rw [← HW.out])
  go_wp2
  go_ret
  refine ⟨by rw [← HNJ.out]; rfl, HFIN.out, HMV.out⟩
set_option maxHeartbeats 4000000 in
set_option maxRecDepth 1000000 in
theorem delNode_any (B n i g cap : Nat) (xs : List Value) (w : World) (h : w.ownsRow B 25 3 (.slice (some ⟨g, 0, none⟩) n cap) n xs) (hi : i < n) (hone : ∀ x ∈ xs, x.oneCell' = true) :
    Calls Tryd.prog 42 #[.slice (some ⟨g, 0, none⟩) n cap, .int .i64 (i : Int), .int .i64 ((i : Int) + 1)] w fun e w' => e = .returned (.slice (some ⟨g, 0, none⟩) (n - 1) cap) ∧
      w'.ownsRow B 25 3 (.slice (some ⟨g, 0, none⟩) (n - 1) cap) (n - 1) (xs.take (i * 3) ++ xs.drop ((i + 1) * 3)) ∧ Moved w w' (ownS (.slice (some ⟨g, 0, none⟩) n cap)) (ownS (.slice (some ⟨g, 0, none⟩) (n - 1) cap)) := by
  obtain ⟨h0, i0, z0, hi0, hz0, hz1, hz2, hz3, hz4⟩ := elemNode
  have hzv : ∀ w, (zeroValue 25).run Tryd.prog w = .ok z0 w := fun w => by simp [zeroValue, typeInfo, hi0, hz0]
  obtain ⟨A0, cap0, he0, hnc, hcm, hcell⟩ := row_form h
  injection he0 with he0 _ he0c
  subst he0c
  clear he0 hcell
  have hcells : ∀ j, j < n * 3 → w.cell? ⟨g, j, none⟩ = xs[j]? := fun j hj => h.cellAt j hj
  have hxl := h.1
  obtain ⟨j, hj⟩ : ∃ j, j = i + 1 := ⟨_, rfl⟩
  have hjn : j ≤ n := by omega
  have e1 : (i : Int) + 1 = (j : Int) := by omega
  obtain ⟨news, hnews⟩ : ∃ news, news = xs.drop (j * 3) := ⟨_, rfl⟩
  have hlen : news.length = (n - j) * 3 := by rw [hnews, List.length_drop, hxl]; omega
  obtain ⟨A, hA, hsrc⟩ : ∃ A : Addr, (if cap = j then (some (⟨g, 0, none⟩ : Addr)) else some ⟨g, j * 3, none⟩) = some A ∧ Hid (∀ t u, news[t]? = some u → w.drew.cell? (A.add t) = some u) := by
    by_cases hh : cap = j
    · refine ⟨⟨g, 0, none⟩, by simp [hh], fun t u hu => ?_⟩
      have h00 : news.length = 0 := by rw [hlen]; omega
      rw [List.length_eq_zero_iff.1 h00] at hu
      simp at hu
    · refine ⟨⟨g, j * 3, none⟩, by simp [hh], fun t u hu => ?_⟩
      have ht : t < (n - j) * 3 := by
        have := (List.getElem?_eq_some_iff.1 hu).1
        rwa [hlen] at this
      rw [hnews, List.getElem?_drop] at hu
      have hc := hcells (j * 3 + t) (by omega)
      rw [hu] at hc
      have e : (⟨g, j * 3, none⟩ : Addr).add t = ⟨g, j * 3 + t, none⟩ := by simp [Addr.add]
      rw [e]
      exact hc
  have s1 : Hid (news.length = (n - j) * 3) := hlen
  have s2 : Hid (∀ u ∈ news, u.oneCell' = true) := fun u hu => hone u (by rw [hnews] at hu; exact List.mem_of_mem_drop hu)
  have s3 : Hid (∀ t, t < news.length → (w.drew.cell? ⟨g, 0 + i * 3 + t, none⟩).isSome = true ∧ w.drew.frozen? ⟨g, 0 + i * 3 + t, none⟩ = false) := fun t ht => by
    rw [hlen] at ht
    rw [Nat.zero_add]
    refine ⟨?_, h.frozenAt _⟩
    show (w.cell? _).isSome = true
    rw [hcells _ (by omega), List.getElem?_eq_getElem (by omega)]; rfl
  obtain ⟨W1, hW1⟩ : ∃ W1, W1 = w.drew.setCells g (0 + i * 3) news := ⟨_, rfl⟩
  have HFIN : Hid ((W1.setCells g ((n - 1) * 3) [.string ⟨#[]⟩, .slice none 0 0, .slice none 0 0]).ownsRow B 25 3 (.slice (some ⟨g, 0, none⟩) (n - 1) cap) (n - 1) (xs.take (i * 3) ++ xs.drop ((i + 1) * 3))) := by
    rw [hW1, hnews, hj, Nat.zero_add]
    exact own_del (w := w.drew) (zs := [.string ⟨#[]⟩, .slice none 0 0, .slice none 0 0]) h.drew hi (by decide) rfl
  have HMV : Hid (Moved w (W1.setCells g ((n - 1) * 3) [.string ⟨#[]⟩, .slice none 0 0, .slice none 0 0]) (ownS (.slice (some ⟨g, 0, none⟩) n cap)) (ownS (.slice (some ⟨g, 0, none⟩) (n - 1) cap))) := by
    rw [hW1]
    exact (Moved.of_below ((Below.refl w.heap.size w).drew) _).trans (own_del_moved w.drew g _ _ n (n - 1) cap cap _ _)
  have hg1 : w.drew.grownBy W1 (some g) := by rw [hW1]; exact gr_cells _ _ _ _
  obtain ⟨cur, hcu, hcs⟩ : ∃ cur, Arr w.drew g 25 cur ∧ n * 3 ≤ cur.size := by
    rcases h.2 with ⟨hh, _⟩ | ⟨g', cap', cur, hh, hb, hg, hnc', hcm', hcs, htk⟩
    · cases hh
    injection hh with hh _ hhc
    injection hh with hh
    injection hh with hh
    subst hh
    exact ⟨cur, hg, by omega⟩
  obtain ⟨c1, a1, s1', _⟩ := arr_setCells news (0 + i * 3) hcu (by rw [hlen]; omega)
  rw [← hW1] at a1
  have hcl : ∀ ty, (Builtin.clear_ #[23] ty #[.slice (some ⟨g, (i + (n - j)) * 3, none⟩) (n - (i + (n - j))) (cap - (i + (n - j)))]).run Tryd.prog W1 = .ok (.tuple #[]) (W1.setCells g ((n - 1) * 3) [.string ⟨#[]⟩, .slice none 0 0, .slice none 0 0]) := fun ty => by
    rw [show i + (n - j) = n - 1 by omega, show n - (n - 1) = 1 by omega]
    refine run_clear_any W1 23 25 ty z0 h0 hzv g _ 1 _ (by decide) [.string ⟨#[]⟩, .slice none 0 0, .slice none 0 0] ?_ ?_ (fun t ht => ?_) (fun t _ => a1.frozen _)
    · exact zcells_node z0 i0 hi0 hz0
    · intro v hv; simp at hv; rcases hv with rfl | rfl | rfl <;> rfl
    · have ht : t < 3 := ht
      rw [a1.cell, Array.getElem?_eq_getElem (by omega)]; rfl
  have hic : i ≤ cap := by omega
  have hjc : j ≤ cap := by omega
  have HW : Hid (W1 = w.drew.setCells g (0 + i * 3) news) := hW1
  have hij : i ≤ j := by omega
  have hne : i ≠ j := by omega
  have hnj : i + (n - j) = n - 1 := by omega
  rw [e1]
  have HNJ := Lib.hid hnj
  clear hW1 hg1 hcu hcs a1 s1' hcells hlen hnews h hone hzv hj e1 hi hxl hnj
  go_enter Tryd.func42, Tryd.ntmps42
  go_wp2_with fail
  go_region_law (refine step_append_room rfl (.tmp 22) (.tmp 25) 23 rfl 25 i0 3 h0 hi0 hz1 g 0 i cap (by simp [Act.eval, Act.put]) A (n - j) (cap - j) news (by simp [Act.eval, Act.put]) s1.out hsrc.out s2.out (by omega) s3.out ?_; rw [← HW.out])
  go_wp2
  go_ret
  refine ⟨by rw [← HNJ.out]; rfl, HFIN.out, HMV.out⟩
end Go.Proofs.YtfcclppgjfkfoaaDoor

/- A node that is being made, in a variable of a call's own: what each change of it leaves. No condition: nothing of the program stands in it but types. -/
namespace Go.Proofs.YtfcclppgjfkfoaaDoor
open Go.RowKit

/-- What may change of a node that is being made. -/
def fpN (g : Nat) (x : ON) (k : Nat) : Prop := k = g ∨ ownS x.p k ∨ ownS x.q k
/-- Block g is a node that is being made, with two slices of its own. -/
structure NodeV (w : World) (B g : Nat) (x : ON) : Prop where
  arr : Arr w g 25 #[.string x.nm, x.p, x.q]
  on : OnAt w B (fpN g x) x
  gB : B ≤ g
  sep : x.q.ownBlock ≠ some g
section
variable {w w' : World} {B g : Nat} {x : ON}
theorem NodeV.low (h : NodeV w B g x) {k : Nat} (hk : fpN g x k) : B ≤ k := by
  rcases hk with rfl | hk | hk
  · exact h.gB
  · exact (h.on.p.lt k hk).1
  · exact (h.on.q.lt k hk).1
theorem NodeV.high (h : NodeV w B g x) {k : Nat} (hk : fpN g x k) : k < w.heap.size := by
  rcases hk with rfl | hk | hk
  · exact h.arr.lt
  · exact (h.on.p.lt k hk).2
  · exact (h.on.q.lt k hk).2
/-- What changes elsewhere, and what is new, leaves it. -/
theorem NodeV.apart {F F' : Nat → Prop} (h : NodeV w B g x) (hm : Moved w w' F F') (hF : ∀ k, F k → k < B) : NodeV w' B g x :=
  ⟨hm.arr h.arr (fun hf => by have := hF g hf; have := h.gB; omega),
   ⟨ow_moved h.on.p hm fun k hk hf => by have := hF k hf; have := (h.on.p.lt k hk).1; omega, ow_moved h.on.q hm fun k hk hf => by have := hF k hf; have := (h.on.q.lt k hk).1; omega,
    fun c hc => (h.on.k c hc).kept hm fun k hk hf => by have := hF k hf; have := hk.1; omega⟩, h.gB, h.sep⟩
theorem NodeV.below (h : NodeV w B g x) (hb : Below w.heap.size w w') : NodeV w' B g x := h.apart (F := fun _ => False) (F' := fun _ => False) (Moved.of_below hb _) (fun _ h => h.elim)
theorem nv_new {nm : ByteArray} (hA : Arr w g 25 #[.string nm, .slice none 0 0, .slice none 0 0]) (hB : B ≤ g) : NodeV w B g ⟨nm, [], [], .slice none 0 0, .slice none 0 0⟩ :=
  ⟨hA, ⟨World.ownsRow_nil _ _ _ _, World.ownsRow_nil _ _ _ _, fun c hc => absurd hc List.not_mem_nil⟩, hB, fun h => by cases h⟩
/-- A property has been added. -/
theorem nv_prop (h : NodeV w B g x) (pr : PR) {p' : Value} (hA : Arr w' g 25 #[.string x.nm, p', x.q]) (hp : w'.ownsRow B 62 2 p' (x.ps.length + 1) (prL (x.ps ++ [pr])))
    (hm : Moved w w' (fun k => k = g ∨ ownS x.p k) (fun k => k = g ∨ ownS p' k)) : NodeV w' B g ⟨x.nm, x.ps ++ [pr], x.kl, p', x.q⟩ ∧ Moved w w' (fpN g x) (fpN g ⟨x.nm, x.ps ++ [pr], x.kl, p', x.q⟩) := by
  have hM : Moved w w' (fpN g x) (fpN g ⟨x.nm, x.ps ++ [pr], x.kl, p', x.q⟩) := hm.inside (fun k hk => hk.imp id .inl) (fun k hk => by
    rcases hk with hk | hk | hk
    · exact .inl (.inl hk)
    · exact .inr (.inl (.inr hk))
    · exact .inl (.inr (.inr hk)))
  refine ⟨⟨hA, ⟨by show w'.ownsRow B _ 2 p' (x.ps ++ [pr]).length _; rw [List.length_append]; exact hp, ow_moved h.on.q hm fun k hk hf => ?_, fun c hc => nd_moved (h.on.k c hc) hM⟩, h.gB, h.sep⟩, hM⟩
  rcases hf with rfl | hf
  · exact h.sep hk
  · exact apart_types h.on.p h.on.q tyPN k hf hk
/-- A kid has been added. -/
theorem nv_kid (h : NodeV w B g x) (c : KD) {q' : Value} (hA : Arr w' g 25 #[.string x.nm, x.p, q']) (hq : w'.ownsRow B 25 3 q' (x.kl.length + 1) (kdL (x.kl ++ [c])))
    (hm : Moved w w' (fun k => k = g ∨ ownS x.q k) (fun k => k = g ∨ ownS q' k)) (hs : q'.ownBlock ≠ some g) (hc : NdAt w (fun k => B ≤ k ∧ ¬ fpN g x k) c.nd c.y c.z) :
    NodeV w' B g ⟨x.nm, x.ps, x.kl ++ [c], x.p, q'⟩ ∧ Moved w w' (fpN g x) (fpN g ⟨x.nm, x.ps, x.kl ++ [c], x.p, q'⟩) := by
  have hM : Moved w w' (fpN g x) (fpN g ⟨x.nm, x.ps, x.kl ++ [c], x.p, q'⟩) := hm.inside (fun k hk => hk.imp id .inr) (fun k hk => by
    rcases hk with hk | hk | hk
    · exact .inl (.inl hk)
    · exact .inl (.inr (.inl hk))
    · exact .inr (.inl (.inr hk)))
  refine ⟨⟨hA, ⟨ow_moved h.on.p hm fun k hk hf => ?_, by show w'.ownsRow B _ 3 q' (x.kl ++ [c]).length _; rw [List.length_append]; exact hq, fun d hd => ?_⟩, h.gB, hs⟩, hM⟩
  · rcases hf with rfl | hf
    · exact ow_arr h.arr h.on.p (Ne.symm tyPN) hk.symm
    · exact apart_types h.on.p h.on.q tyPN k hk hf
  · rcases List.mem_append.1 hd with hd | hd
    · exact nd_moved (h.on.k d hd) hM
    · rw [List.mem_singleton] at hd; subst hd
      exact nd_moved hc hM
/-- It is done. -/
theorem nv_done (h : NodeV w B g x) : NdAt w (fun k => B ≤ k) x.nd x.p x.q := nd_of_on h.on (fun _ hk _ => hk) (fun k hk => (h.on.p.lt k hk).1) (fun k hk => (h.on.q.lt k hk).1)
end
end Go.Proofs.YtfcclppgjfkfoaaDoor
