/- What each change of the document's Builder leaves: a node is opened, a property is added, a node is closed, and becomes the root or a kid. No condition: nothing of the program stands in it but types. -/
import Derived.Test.YtmgfnghegcfhnaaTrG
namespace Go.Proofs.Ytmgfnghegcfhnaa
open Go.RowKit

theorem getD_app_lt {α : Type} {d : α} {l r : List α} {k : Nat} (hk : k < l.length) : (l ++ r).getD k d = l.getD k d := by
  rw [List.getD_eq_getElem?_getD, List.getElem?_append_left hk, ← List.getD_eq_getElem?_getD]
theorem getD_app_at {α : Type} {d x : α} {l : List α} : (l ++ [x]).getD l.length d = x := by
  rw [List.getD_eq_getElem?_getD, List.getElem?_append_right (Nat.le_refl _), Nat.sub_self]; rfl
/-- A slice's elements lie at its block, from its beginning on. -/
theorem row_form {w : World} {base e size n : Nat} {v : Value} {xs : List Value} (h : w.ownsRow base e size v n xs) : ∃ A cap, v = .slice A n cap ∧ n ≤ cap ∧ cap ≤ maxLen ∧ (n = 0 ∨ ∃ b, A = some ⟨b, 0, none⟩ ∧ v.ownBlock = some b ∧ ∀ j, j < n * size → w.cell? ⟨b, j, none⟩ = xs[j]?) := by
  rcases h.2 with ⟨rfl, rfl⟩ | ⟨b, cap, cur, rfl, hb, hg, hnc, hcm, hcs, hx⟩
  · exact ⟨none, 0, rfl, Nat.le_refl _, Nat.zero_le _, .inl rfl⟩
  · exact ⟨_, cap, rfl, hnc, hcm, .inr ⟨b, rfl, rfl, fun j hj => h.cellAt j hj⟩⟩
/-- An open node whose two slices are of G is a tree. -/
theorem nd_of_on {w : World} {B : Nat} {F : Nat → Prop} {G : Nat → Prop} {x : ON} (h : OnAt w B F x) (hG : ∀ k, B ≤ k → ¬ F k → G k) (hp : ∀ k, x.p.ownBlock = some k → G k) (hq : ∀ k, x.q.ownBlock = some k → G k) : NdAt w G x.nd x.p x.q := by
  obtain ⟨A, pc, ep, h1, h2, h3⟩ := row_form h.p
  obtain ⟨K, kc, eq_, g1, g2, g3⟩ := row_form h.q
  have hkl : (x.kl.map KD.nd).length = x.kl.length := List.length_map _
  have hget : ∀ i, i < x.kl.length → (x.kl.map KD.nd).getD i nd0 = (x.kl.getD i kd0).nd := fun i hi => by
    rw [List.getD_eq_getElem?_getD, List.getElem?_map, List.getD_eq_getElem?_getD, List.getElem?_eq_getElem hi]; rfl
  rw [ep, eq_]
  have M := @NdAt.mk w G x.nm x.ps (x.kl.map KD.nd) A K pc kc (fun i => (x.kl.getD i kd0).y) (fun i => (x.kl.getD i kd0).z)
    (by
      rcases h3 with h3 | ⟨b, rfl, hb, hc⟩
      · exact .inl (List.length_eq_zero_iff.1 h3)
      · refine .inr ⟨b, 0, rfl, hp b hb, fun k hk => ?_⟩
        refine ⟨?_, ?_⟩
        · rw [Nat.zero_add, show k * 2 = k * 2 + 0 from rfl, hc _ (by omega), prL_at x.ps hk (by omega)]; rfl
        · rw [Nat.zero_add, hc _ (by omega), prL_at x.ps hk (by omega)]; rfl)
    h1 h2 (by rw [hkl]; exact g1) g2
    (by
      rcases g3 with g3 | ⟨b, rfl, hb, hc⟩
      · exact .inl (List.length_eq_zero_iff.1 (by rw [hkl]; exact g3))
      · refine .inr ⟨b, 0, rfl, hq b hb, fun i hi => ?_⟩
        rw [hkl] at hi
        rw [hget i hi]
        refine ⟨?_, ?_, ?_⟩
        · rw [Nat.zero_add, show i * 3 = i * 3 + 0 from rfl, hc _ (by omega), kdL_at x.kl hi (by omega)]; rfl
        · rw [Nat.zero_add, hc _ (by omega), kdL_at x.kl hi (by omega)]; rfl
        · rw [Nat.zero_add, hc _ (by omega), kdL_at x.kl hi (by omega)]; rfl)
    (fun i hi => by
      rw [hkl] at hi
      rw [hget i hi]
      refine (h.k _ ?_).mono fun k hk => hG k hk.1 hk.2
      rw [List.getD_eq_getElem?_getD, List.getElem?_eq_getElem hi]
      exact List.getElem_mem hi)
  rw [hkl] at M
  exact M

section
variable {w w' : World} {B g : Nat} {b b' : BD} {vo vo' r2 r3 : Value} {L : List ON} {x y : ON}
theorem pair_cons {vo : Value} {L : List ON} (h : (vo :: L.map ON.q).Pairwise Apart) {x : ON} (hx : x ∈ L) : Apart vo x.q := (List.pairwise_cons.1 h).1 _ (List.mem_map_of_mem hx)
theorem pair_last {l : List Value} {v : Value} (h : (l ++ [v]).Pairwise Apart) {u : Value} (hu : u ∈ l) : Apart u v := (List.pairwise_append.1 h).2.2 u hu v (List.mem_singleton.2 rfl)
theorem pair_snoc {l : List Value} {v : Value} (h : l.Pairwise Apart) (hv : ∀ u ∈ l, Apart u v) : (l ++ [v]).Pairwise Apart :=
  List.pairwise_append.2 ⟨h, List.pairwise_singleton _ _, fun u hu v' hv' => by rw [List.mem_singleton.1 hv']; exact hv u hu⟩
theorem map_snoc {α β : Type} (f : α → β) (l : List α) (x : α) : (l ++ [x]).map f = l.map f ++ [f x] := by simp

/-- What may change has become less. -/
theorem fp_less {vo vo' : Value} (h : vo'.ownBlock = vo.ownBlock) {k : Nat} (hk : fpO g vo' L k) : fpO g vo (L ++ [y]) k := by
  rcases hk with hk | hk | ⟨x, hx, hk⟩
  · exact .inl hk
  · exact .inr (.inl (by unfold ownS at hk ⊢; rw [← h]; exact hk))
  · exact .inr (.inr ⟨x, List.mem_append_left _ hx, hk⟩)
end
end Go.Proofs.Ytmgfnghegcfhnaa
