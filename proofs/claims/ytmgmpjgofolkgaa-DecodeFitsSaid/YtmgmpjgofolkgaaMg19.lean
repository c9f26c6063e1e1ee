/- What each change of the document's Builder leaves: a node is opened, a property is added, a node is closed, and becomes the root or a kid. No condition: nothing of the program stands in it but types. -/
import Derived.Test.YtmgmpjgofolkgaaMg18
namespace Go.Proofs.Ytmgmpjgofolkgaa
open Go.RowKit

theorem getD_app_lt {α : Type} {d : α} {l r : List α} {k : Nat} (hk : k < l.length) : (l ++ r).getD k d = l.getD k d := by
  rw [List.getD_eq_getElem?_getD, List.getElem?_append_left hk, ← List.getD_eq_getElem?_getD]
theorem getD_app_at {α : Type} {d x : α} {l : List α} : (l ++ [x]).getD l.length d = x := by
  rw [List.getD_eq_getElem?_getD, List.getElem?_append_right (Nat.le_refl _), Nat.sub_self]; rfl
/-- A slice's elements lie at its block, from its beginning on. -/
theorem row_form {w : World} {base e size n : Nat} {v : Value} {xs : List Value} (h : w.ownsRow base e size v n xs) : ∃ A cap, v = .slice A n cap ∧ n ≤ cap ∧ cap ≤ maxLen ∧ (n = 0 ∨ ∃ b, A = some ⟨b, 0, none⟩ ∧ v.ownBlock = some b ∧ ∀ j, j < n * size → w.cell? ⟨b, j, none⟩ = xs[j]?) := by
  rcases h.2 with ⟨rfl, rfl⟩ | ⟨b, cap, cur, rfl, hb, hg, hnc, hcm, hcs, hx⟩
  · exact ⟨none, 0, rfl, Nat.le_refl _, Nat.zero_le _, .inl rfl⟩
  · exact ⟨_, cap, rfl, hnc, hcm, .inr ⟨b, rfl, rfl, fun j hj => h.cellAt j hj⟩⟩
/-- An open node whose two slices are of G is a tree. -/
theorem nd_of_on {w : World} {B : Nat} {F : Nat → Prop} {G : Nat → Prop} {x : ON} (h : OnAt w B F x) (hG : ∀ k, B ≤ k → ¬ F k → G k) (hp : ∀ k, x.p.ownBlock = some k → G k) (hq : ∀ k, x.q.ownBlock = some k → G k) : NdAt w G x.nd x.p x.q := by
  obtain ⟨A, pc, ep, h1, h2, h3⟩ := row_form h.p
  obtain ⟨K, kc, eq_, g1, g2, g3⟩ := row_form h.q
  have hkl : (x.kl.map KD.nd).length = x.kl.length := List.length_map _
  have hget : ∀ i, i < x.kl.length → (x.kl.map KD.nd).getD i nd0 = (x.kl.getD i kd0).nd := fun i hi => by
    rw [List.getD_eq_getElem?_getD, List.getElem?_map, List.getD_eq_getElem?_getD, List.getElem?_eq_getElem hi]; rfl
  rw [ep, eq_]
  have M := @NdAt.mk w G x.nm x.ps (x.kl.map KD.nd) A K pc kc (fun i => (x.kl.getD i kd0).y) (fun i => (x.kl.getD i kd0).z)
    (by
      rcases h3 with h3 | ⟨b, rfl, hb, hc⟩
      · exact .inl (List.length_eq_zero_iff.1 h3)
      · refine .inr ⟨b, 0, rfl, hp b hb, fun k hk => ?_⟩
        refine ⟨?_, ?_⟩
        · rw [Nat.zero_add, show k * 2 = k * 2 + 0 from rfl, hc _ (by omega), prL_at x.ps hk (by omega)]; rfl
        · rw [Nat.zero_add, hc _ (by omega), prL_at x.ps hk (by omega)]; rfl)
    h1 h2 (by rw [hkl]; exact g1) g2
    (by
      rcases g3 with g3 | ⟨b, rfl, hb, hc⟩
      · exact .inl (List.length_eq_zero_iff.1 (by rw [hkl]; exact g3))
      · refine .inr ⟨b, 0, rfl, hq b hb, fun i hi => ?_⟩
        rw [hkl] at hi
        rw [hget i hi]
        refine ⟨?_, ?_, ?_⟩
        · rw [Nat.zero_add, show i * 3 = i * 3 + 0 from rfl, hc _ (by omega), kdL_at x.kl hi (by omega)]; rfl
        · rw [Nat.zero_add, hc _ (by omega), kdL_at x.kl hi (by omega)]; rfl
        · rw [Nat.zero_add, hc _ (by omega), kdL_at x.kl hi (by omega)]; rfl)
    (fun i hi => by
      rw [hkl] at hi
      rw [hget i hi]
      refine (h.k _ ?_).mono fun k hk => hG k hk.1 hk.2
      rw [List.getD_eq_getElem?_getD, List.getElem?_eq_getElem hi]
      exact List.getElem_mem hi)
  rw [hkl] at M
  exact M

section
variable {w w' : World} {B g : Nat} {b b' : BD} {vo vo' r2 r3 : Value} {L : List ON} {x y : ON}
theorem pair_cons {vo : Value} {L : List ON} (h : (vo :: L.map ON.q).Pairwise Apart) {x : ON} (hx : x ∈ L) : Apart vo x.q := (List.pairwise_cons.1 h).1 _ (List.mem_map_of_mem hx)
theorem pair_last {l : List Value} {v : Value} (h : (l ++ [v]).Pairwise Apart) {u : Value} (hu : u ∈ l) : Apart u v := (List.pairwise_append.1 h).2.2 u hu v (List.mem_singleton.2 rfl)
theorem pair_snoc {l : List Value} {v : Value} (h : l.Pairwise Apart) (hv : ∀ u ∈ l, Apart u v) : (l ++ [v]).Pairwise Apart :=
  List.pairwise_append.2 ⟨h, List.pairwise_singleton _ _, fun u hu v' hv' => by rw [List.mem_singleton.1 hv']; exact hv u hu⟩
theorem map_snoc {α β : Type} (f : α → β) (l : List α) (x : α) : (l ++ [x]).map f = l.map f ++ [f x] := by simp

/-- A node has been opened. -/
theorem bx_begin (h : BX w B g b vo L r2 r3) (nm : ByteArray) (hA : Arr w' g 77 (bdC vo' b' r2 r3)) (ho : b'.op = b.op ++ [.mk nm [] []]) (hr : b'.rt = b.rt)
    (hrow : w'.ownsRow B 26 3 vo' (L.length + 1) (onL (L ++ [⟨nm, [], [], .slice none 0 0, .slice none 0 0⟩])))
    (hm : Moved w w' (fun k => k = g ∨ ownS vo k) (fun k => k = g ∨ ownS vo' k)) (hfo : ∀ k, ownS vo' k → ownS vo k ∨ w.heap.size ≤ k) :
    BX w' B g b' vo' (L ++ [⟨nm, [], [], .slice none 0 0, .slice none 0 0⟩]) r2 r3 ∧ Moved w w' (fpO g vo L) (fpO g vo' (L ++ [⟨nm, [], [], .slice none 0 0, .slice none 0 0⟩])) := by
  have hM : Moved w w' (fpO g vo L) (fpO g vo' (L ++ [⟨nm, [], [], .slice none 0 0, .slice none 0 0⟩])) := hm.inside (fun k hk => by
      rcases hk with hk | hk
      · exact .inl hk
      · exact .inr (.inl hk)) (fun k hk => by
      rcases hk with hk | hk | ⟨x, hx, hk⟩
      · exact .inl (.inl hk)
      · exact .inr (.inl (.inr hk))
      · rcases List.mem_append.1 hx with hx | hx
        · exact .inl (.inr (.inr ⟨x, hx, hk⟩))
        · rw [List.mem_singleton] at hx; subst hx
          rcases hk with hk | hk <;> cases hk)
  have lt : ∀ x ∈ L, (∀ k, x.q.ownBlock = some k → k < w.heap.size) := fun x hx k hk => ((h.each x hx).q.lt k hk).2
  refine ⟨⟨hA, h.gB, by rw [map_snoc, h.op, ho]; rfl, by rw [List.length_append]; exact hrow, fun x hx => ?_, hr ▸ nd_moved h.rt hM, ?_, ?_⟩, hM⟩
  · rcases List.mem_append.1 hx with hx | hx
    · have hx0 := h.each x hx
      refine ⟨ow_moved hx0.p hm fun k hk hf => ?_, ow_moved hx0.q hm fun k hk hf => ?_, fun c hc => nd_moved (hx0.k c hc) hM⟩
      · rcases hf with rfl | hf
        · exact ow_arr h.arr hx0.p tyneT.2.1 hk.symm
        · exact apart_types hx0.p h.row tyneT.2.2 k hk hf
      · rcases hf with rfl | hf
        · exact ow_arr h.arr hx0.q tyneT.1 hk.symm
        · exact pair_cons h.sepq hx k hf hk
    · rw [List.mem_singleton] at hx; subst hx
      exact ⟨World.ownsRow_nil _ _ _ _, World.ownsRow_nil _ _ _ _, fun c hc => absurd hc (List.not_mem_nil)⟩
  · rw [map_snoc, ← List.cons_append]
    refine pair_snoc (List.pairwise_cons.2 ⟨fun v hv => ?_, (List.pairwise_cons.1 h.sepq).2⟩) fun u _ => (Apart.of_none rfl).symm
    obtain ⟨x, hx, rfl⟩ := List.mem_map.1 hv
    exact (pair_cons h.sepq hx).moved hfo (lt x hx)
  · rw [map_snoc]
    exact pair_snoc h.sepp fun u _ => (Apart.of_none rfl).symm
/-- A property has been added to the last open node. -/
theorem bx_prop (h : BX w B g b vo (L ++ [x]) r2 r3) (pr : PR) {p' : Value} (hA : Arr w' g 77 (bdC vo b' r2 r3)) (ho : b'.op = L.map ON.nd ++ [.mk x.nm (x.ps ++ [pr]) (x.kl.map KD.nd)]) (hr : b'.rt = b.rt)
    (hp : w'.ownsRow B 96 2 p' (x.ps.length + 1) (prL (x.ps ++ [pr])))
    (hrow : w'.ownsRow B 26 3 vo (L.length + 1) (onL (L ++ [⟨x.nm, x.ps ++ [pr], x.kl, p', x.q⟩])))
    (hm : Moved w w' (fun k => ownS vo k ∨ ownS x.p k) (fun k => ownS vo k ∨ ownS p' k)) (hfo : ∀ k, ownS p' k → ownS x.p k ∨ w.heap.size ≤ k) :
    BX w' B g b' vo (L ++ [⟨x.nm, x.ps ++ [pr], x.kl, p', x.q⟩]) r2 r3 ∧ Moved w w' (fpO g vo (L ++ [x])) (fpO g vo (L ++ [⟨x.nm, x.ps ++ [pr], x.kl, p', x.q⟩])) := by
  have hxm : x ∈ L ++ [x] := List.mem_append_right _ (List.mem_singleton.2 rfl)
  have hM : Moved w w' (fpO g vo (L ++ [x])) (fpO g vo (L ++ [⟨x.nm, x.ps ++ [pr], x.kl, p', x.q⟩])) := hm.inside (fun k hk => by
      rcases hk with hk | hk
      · exact .inr (.inl hk)
      · exact .inr (.inr ⟨x, hxm, .inl hk⟩)) (fun k hk => by
      rcases hk with hk | hk | ⟨c, hc, hk⟩
      · exact .inl (.inl hk)
      · exact .inl (.inr (.inl hk))
      · rcases List.mem_append.1 hc with hc | hc
        · exact .inl (.inr (.inr ⟨c, List.mem_append_left _ hc, hk⟩))
        · rw [List.mem_singleton] at hc; subst hc
          rcases hk with hk | hk
          · exact .inr (.inl (.inr hk))
          · exact .inl (.inr (.inr ⟨x, hxm, .inr hk⟩)))
  have hx0 := h.each x hxm
  have hsp := h.sepp
  have hsq := h.sepq
  rw [map_snoc] at hsp hsq
  refine ⟨⟨hA, h.gB, by rw [map_snoc, ho]; rfl, by rw [List.length_append]; exact hrow, fun c hc => ?_, hr ▸ nd_moved h.rt hM, ?_, ?_⟩, hM⟩
  · rcases List.mem_append.1 hc with hc | hc
    · have hcm : c ∈ L ++ [x] := List.mem_append_left _ hc
      have hc0 := h.each c hcm
      refine ⟨ow_moved hc0.p hm fun k hk hf => ?_, ow_moved hc0.q hm fun k hk hf => ?_, fun d hd => nd_moved (hc0.k d hd) hM⟩
      · rcases hf with hf | hf
        · exact apart_types hc0.p h.row tyneT.2.2 k hk hf
        · exact pair_last hsp (List.mem_map_of_mem hc) k hk hf
      · rcases hf with hf | hf
        · exact pair_cons h.sepq hcm k hf hk
        · exact apart_types hx0.p hc0.q tyneT.2.2 k hf hk
    · rw [List.mem_singleton] at hc; subst hc
      refine ⟨by show w'.ownsRow B _ 2 p' (x.ps ++ [pr]).length _; rw [List.length_append]; exact hp, ow_moved hx0.q hm fun k hk hf => ?_, fun d hd => nd_moved (hx0.k d hd) hM⟩
      rcases hf with hf | hf
      · exact pair_cons h.sepq hxm k hf hk
      · exact apart_types hx0.p hx0.q tyneT.2.2 k hf hk
  · rw [map_snoc]; exact hsq
  · rw [map_snoc]
    refine pair_snoc (List.pairwise_append.1 hsp).1 fun u hu => ?_
    obtain ⟨c, hc, rfl⟩ := List.mem_map.1 hu
    exact ((pair_last hsp hu).symm.moved hfo fun k hk => ((h.each c (List.mem_append_left _ hc)).p.lt k hk).2).symm
/-- What may change has become less. -/
theorem fp_less {vo vo' : Value} (h : vo'.ownBlock = vo.ownBlock) {k : Nat} (hk : fpO g vo' L k) : fpO g vo (L ++ [y]) k := by
  rcases hk with hk | hk | ⟨x, hx, hk⟩
  · exact .inl hk
  · exact .inr (.inl (by unfold ownS at hk ⊢; rw [← h]; exact hk))
  · exact .inr (.inr ⟨x, List.mem_append_left _ hx, hk⟩)
/-- The last open node has been closed. -/
theorem bx_pop (h : BX w B g b vo (L ++ [y]) r2 r3) (hA : Arr w' g 77 (bdC vo' b' r2 r3)) (hg : w.grownBy w' (some g)) (ho : b'.op = L.map ON.nd) (hr : b'.rt = b.rt)
    (hv : ∃ A cap, vo = .slice A (L.length + 1) cap ∧ vo' = .slice A L.length cap) :
    BX w' B g b' vo' L r2 r3 ∧ Moved w w' (fpO g vo (L ++ [y])) (fpO g vo' L) ∧ NdAt w' (fun k => B ≤ k ∧ ¬ fpO g vo' L k) y.nd y.p y.q := by
  obtain ⟨A, cap, rfl, rfl⟩ := hv
  have hob : (Value.slice A L.length cap).ownBlock = (Value.slice A (L.length + 1) cap).ownBlock := by cases A <;> rfl
  have hym : y ∈ L ++ [y] := List.mem_append_right _ (List.mem_singleton.2 rfl)
  have hM : Moved w w' (fpO g (.slice A (L.length + 1) cap) (L ++ [y])) (fpO g (.slice A L.length cap) L) := Moved.grown hg (fun k hk => .inl (by injection hk with hk; exact hk.symm)) (fun k hk => .inl (fp_less hob hk))
  have hn : ∀ {base e size n : Nat} {v : Value} {xs : List Value}, w.ownsRow base e size v n xs → 77 ≠ e → w'.ownsRow base e size v n xs := fun hw hne => hw.kept hg (by
    have := ow_arr h.arr hw hne
    exact .inr (fun e => this e.symm))
  have hy0 := h.each y hym
  have hsp := h.sepp
  have hsq := h.sepq
  rw [map_snoc] at hsp hsq
  have hrow := h.row
  rw [List.length_append, onL_app] at hrow
  have hrow' : w.ownsRow B 26 3 (.slice A L.length cap) L.length (onL L) := by
    rcases hrow.2 with ⟨h1, h2⟩ | ⟨c, cap', cur, h1, h2, h3, h4, h5, h6, h7⟩
    · simp only [List.length_cons, List.length_nil] at h2; omega
    · injection h1 with e1 e2 e3
      subst e1 e3
      refine ⟨by rw [onL_len], .inr ⟨c, cap, cur, rfl, h2, h3, by simp only [List.length_cons, List.length_nil] at h4; omega, h5, h6, ?_⟩⟩
      have := congrArg (List.take (L.length * 3)) h7
      rw [List.take_take, Nat.min_eq_left (by simp only [List.length_cons, List.length_nil]; omega), List.take_append_of_le_length (by rw [onL_len]; exact Nat.le_refl _), show (onL L).take (L.length * 3) = onL L from List.take_of_length_le (by rw [onL_len]; exact Nat.le_refl _)] at this
      exact this
  have hyn : NdAt w (fun k => B ≤ k ∧ ¬ fpO g (.slice A L.length cap) L k) y.nd y.p y.q := by
    refine nd_of_on hy0 (fun k h1 h2 => ⟨h1, fun h3 => h2 (fp_less hob h3)⟩) (fun k hk => ⟨(hy0.p.lt k hk).1, ?_⟩) (fun k hk => ⟨(hy0.q.lt k hk).1, ?_⟩)
    · rintro (rfl | h3 | ⟨x, hx, h3 | h3⟩)
      · exact ow_arr h.arr hy0.p tyneT.2.1 hk.symm
      · exact apart_types hy0.p hrow' tyneT.2.2 k hk h3
      · exact pair_last hsp (List.mem_map_of_mem hx) k h3 hk
      · exact apart_types hy0.p (h.each x (List.mem_append_left _ hx)).q tyneT.2.2 k hk h3
    · rintro (rfl | h3 | ⟨x, hx, h3 | h3⟩)
      · exact ow_arr h.arr hy0.q tyneT.1 hk.symm
      · unfold ownS at h3; rw [hob] at h3; exact pair_cons h.sepq hym k h3 hk
      · exact apart_types (h.each x (List.mem_append_left _ hx)).p hy0.q tyneT.2.2 k h3 hk
      · exact (List.pairwise_append.1 (List.pairwise_cons.1 hsq).2).2.2 _ (List.mem_map_of_mem hx) _ (List.mem_singleton.2 rfl) k h3 hk
  have hM0 : Moved w w' (fpO g (.slice A L.length cap) L) (fpO g (.slice A L.length cap) L) := Moved.grown hg (fun k hk => .inl (by injection hk with hk; exact hk.symm)) (fun k hk => .inl hk)
  refine ⟨⟨hA, h.gB, ho.symm, hn hrow' tyneT.1, fun x hx => ?_, hr ▸ nd_moved h.rt hM, ?_, ?_⟩, hM, nd_moved hyn hM0⟩
  · have hx0 := h.each x (List.mem_append_left _ hx)
    exact ⟨hn hx0.p tyneT.2.1, hn hx0.q tyneT.1, fun c hc => nd_moved (hx0.k c hc) hM⟩
  · refine List.pairwise_cons.2 ⟨fun v hv => ?_, (List.pairwise_append.1 (List.pairwise_cons.1 hsq).2).1⟩
    obtain ⟨x, hx, rfl⟩ := List.mem_map.1 hv
    intro k hk
    rw [hob] at hk
    exact pair_cons h.sepq (List.mem_append_left _ hx) k hk
  · exact (List.pairwise_append.1 hsp).1
/-- It has become the root. -/
theorem bx_root (h : BX w B g b vo L r2 r3) {n : ND} {v2 v3 : Value} (hn : NdAt w (fun k => B ≤ k ∧ ¬ fpO g vo L k) n v2 v3) (hA : Arr w' g 77 (bdC vo b' v2 v3)) (hg : w.grownBy w' (some g)) (ho : b'.op = b.op) (hr : b'.rt = n) : BX w' B g b' vo L v2 v3 ∧ Moved w w' (fpO g vo L) (fpO g vo L) := by
  have hm : Moved w w' (fpO g vo L) (fpO g vo L) := Moved.grown hg (fun k hk => .inl (by injection hk with hk; exact hk.symm)) (fun k hk => .inl hk)
  have hk : ∀ {base e size n : Nat} {v : Value} {xs : List Value}, w.ownsRow base e size v n xs → 77 ≠ e → w'.ownsRow base e size v n xs := fun hw hne => hw.kept hg (by
    have := ow_arr h.arr hw hne
    exact .inr (fun e => this e.symm))
  exact ⟨⟨hA, h.gB, h.op.trans ho.symm, hk h.row tyneT.1, fun x hx => ⟨hk (h.each x hx).p tyneT.2.1, hk (h.each x hx).q tyneT.1, fun c hc => nd_moved ((h.each x hx).k c hc) hm⟩, hr ▸ nd_moved hn hm, h.sepq, h.sepp⟩, hm⟩
/-- It has become a kid of the last open node. -/
theorem bx_kid (h : BX w B g b vo (L ++ [x]) r2 r3) {n : ND} {v2 v3 : Value} (hn : NdAt w (fun k => B ≤ k ∧ ¬ fpO g vo (L ++ [x]) k) n v2 v3) {q' : Value} (hA : Arr w' g 77 (bdC vo b' r2 r3))
    (ho : b'.op = L.map ON.nd ++ [.mk x.nm x.ps (x.kl.map KD.nd ++ [n])]) (hr : b'.rt = b.rt)
    (hq : w'.ownsRow B 26 3 q' (x.kl.length + 1) (kdL (x.kl ++ [⟨n, v2, v3⟩])))
    (hrow : w'.ownsRow B 26 3 vo (L.length + 1) (onL (L ++ [⟨x.nm, x.ps, x.kl ++ [⟨n, v2, v3⟩], x.p, q'⟩])))
    (hm : Moved w w' (fun k => ownS vo k ∨ ownS x.q k) (fun k => ownS vo k ∨ ownS q' k)) (hfo : ∀ k, ownS q' k → ownS x.q k ∨ w.heap.size ≤ k) :
    BX w' B g b' vo (L ++ [⟨x.nm, x.ps, x.kl ++ [⟨n, v2, v3⟩], x.p, q'⟩]) r2 r3 ∧ Moved w w' (fpO g vo (L ++ [x])) (fpO g vo (L ++ [⟨x.nm, x.ps, x.kl ++ [⟨n, v2, v3⟩], x.p, q'⟩])) := by
  have hxm : x ∈ L ++ [x] := List.mem_append_right _ (List.mem_singleton.2 rfl)
  have hM : Moved w w' (fpO g vo (L ++ [x])) (fpO g vo (L ++ [⟨x.nm, x.ps, x.kl ++ [⟨n, v2, v3⟩], x.p, q'⟩])) := hm.inside (fun k hk => by
      rcases hk with hk | hk
      · exact .inr (.inl hk)
      · exact .inr (.inr ⟨x, hxm, .inr hk⟩)) (fun k hk => by
      rcases hk with hk | hk | ⟨c, hc, hk⟩
      · exact .inl (.inl hk)
      · exact .inl (.inr (.inl hk))
      · rcases List.mem_append.1 hc with hc | hc
        · exact .inl (.inr (.inr ⟨c, List.mem_append_left _ hc, hk⟩))
        · rw [List.mem_singleton] at hc; subst hc
          rcases hk with hk | hk
          · exact .inl (.inr (.inr ⟨x, hxm, .inl hk⟩))
          · exact .inr (.inl (.inr hk)))
  have hx0 := h.each x hxm
  have hsp := h.sepp
  have hsq := h.sepq
  rw [map_snoc] at hsp hsq
  have hsq2 := (List.pairwise_cons.1 hsq).2
  refine ⟨⟨hA, h.gB, by rw [map_snoc, ho]; unfold ON.nd; rw [map_snoc], by rw [List.length_append]; exact hrow, fun c hc => ?_, hr ▸ nd_moved h.rt hM, ?_, ?_⟩, hM⟩
  · rcases List.mem_append.1 hc with hc | hc
    · have hcm : c ∈ L ++ [x] := List.mem_append_left _ hc
      have hc0 := h.each c hcm
      refine ⟨ow_moved hc0.p hm fun k hk hf => ?_, ow_moved hc0.q hm fun k hk hf => ?_, fun d hd => nd_moved (hc0.k d hd) hM⟩
      · rcases hf with hf | hf
        · exact apart_types hc0.p h.row tyneT.2.2 k hk hf
        · exact apart_types hc0.p hx0.q tyneT.2.2 k hk hf
      · rcases hf with hf | hf
        · exact pair_cons h.sepq hcm k hf hk
        · exact pair_last hsq2 (List.mem_map_of_mem hc) k hk hf
    · rw [List.mem_singleton] at hc; subst hc
      refine ⟨ow_moved hx0.p hm fun k hk hf => ?_, by show w'.ownsRow B _ 3 q' (x.kl ++ [_]).length _; rw [List.length_append]; exact hq, fun d hd => ?_⟩
      · rcases hf with hf | hf
        · exact apart_types hx0.p h.row tyneT.2.2 k hk hf
        · exact apart_types hx0.p hx0.q tyneT.2.2 k hk hf
      · rcases List.mem_append.1 hd with hd | hd
        · exact nd_moved (hx0.k d hd) hM
        · rw [List.mem_singleton] at hd; subst hd
          exact nd_moved hn hM
  · rw [map_snoc]
    refine List.pairwise_cons.2 ⟨fun v hv => ?_, ?_⟩
    · rcases List.mem_append.1 hv with hv | hv
      · exact (List.pairwise_cons.1 hsq).1 v (List.mem_append_left _ hv)
      · rw [List.mem_singleton] at hv; subst hv
        exact ((pair_cons h.sepq hxm).symm.moved hfo fun k hk => (h.row.lt k hk).2).symm
    · refine pair_snoc (List.pairwise_append.1 hsq2).1 fun u hu => ?_
      obtain ⟨c, hc, rfl⟩ := List.mem_map.1 hu
      exact ((pair_last hsq2 hu).symm.moved hfo fun k hk => ((h.each c (List.mem_append_left _ hc)).q.lt k hk).2).symm
  · rw [map_snoc]; exact hsp
end
end Go.Proofs.Ytmgmpjgofolkgaa
