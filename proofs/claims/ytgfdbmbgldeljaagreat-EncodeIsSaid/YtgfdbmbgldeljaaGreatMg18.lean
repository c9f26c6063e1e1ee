/- What each change of the document's Builder leaves: a node is opened, a property is added, a node is closed, and becomes the root or a kid. No condition: nothing of the program stands in it but types. -/
import Derived.Test.YtgfdbmbgldeljaaGreatMg17
import Derived.Test.YtgfdbmbgldeljaaGreatMg12
import Derived.Deep.DeepCutAuto
import Derived.Deep.RegionHeld3
import Derived.Test.YtgfdbmbgldeljaaGreatMg16
import Derived.Deep.RegionLaw
namespace Go.Proofs.YtgfdbmbgldeljaaGreat
open Go.RowKit

theorem getD_app_lt {α : Type} {d : α} {l r : List α} {k : Nat} (hk : k < l.length) : (l ++ r).getD k d = l.getD k d := by
  rw [List.getD_eq_getElem?_getD, List.getElem?_append_left hk, ← List.getD_eq_getElem?_getD]
theorem getD_app_at {α : Type} {d x : α} {l : List α} : (l ++ [x]).getD l.length d = x := by
  rw [List.getD_eq_getElem?_getD, List.getElem?_append_right (Nat.le_refl _), Nat.sub_self]; rfl
/-- A slice's elements lie at its block, from its beginning on. -/
theorem row_form {w : World} {base e size n : Nat} {v : Value} {xs : List Value} (h : w.ownsRow base e size v n xs) : ∃ A cap, v = .slice A n cap ∧ n ≤ cap ∧ cap ≤ maxLen ∧ (n = 0 ∨ ∃ b, A = some ⟨b, 0, none⟩ ∧ v.ownBlock = some b ∧ ∀ j, j < n * size → w.cell? ⟨b, j, none⟩ = xs[j]?) := by
  rcases h.2 with ⟨rfl, rfl⟩ | ⟨b, cap, cur, rfl, hb, hg, hnc, hcm, hcs, hx⟩
  · exact ⟨none, 0, rfl, Nat.le_refl _, Nat.zero_le _, .inl rfl⟩
  · exact ⟨_, cap, rfl, hnc, hcm, .inr ⟨b, rfl, rfl, fun j hj => h.cellAt j hj⟩⟩
/-- An open node whose two slices are of G is a tree. -/
theorem nd_of_on {w : World} {B : Nat} {F : Nat → Prop} {G : Nat → Prop} {x : ON} (h : OnAt w B F x) (hG : ∀ k, B ≤ k → ¬ F k → G k) (hp : ∀ k, x.p.ownBlock = some k → G k) (hq : ∀ k, x.q.ownBlock = some k → G k) : NdAt w G x.nd x.p x.q := by
  obtain ⟨A, pc, ep, h1, h2, h3⟩ := row_form h.p
  obtain ⟨K, kc, eq_, g1, g2, g3⟩ := row_form h.q
  have hkl : (x.kl.map KD.nd).length = x.kl.length := List.length_map _
  have hget : ∀ i, i < x.kl.length → (x.kl.map KD.nd).getD i nd0 = (x.kl.getD i kd0).nd := fun i hi => by
    rw [List.getD_eq_getElem?_getD, List.getElem?_map, List.getD_eq_getElem?_getD, List.getElem?_eq_getElem hi]; rfl
  rw [ep, eq_]
  have M := @NdAt.mk w G x.nm x.ps (x.kl.map KD.nd) A K pc kc (fun i => (x.kl.getD i kd0).y) (fun i => (x.kl.getD i kd0).z)
    (by
      rcases h3 with h3 | ⟨b, rfl, hb, hc⟩
      · exact .inl (List.length_eq_zero_iff.1 h3)
      · refine .inr ⟨b, 0, rfl, hp b hb, fun k hk => ?_⟩
        refine ⟨?_, ?_⟩
        · rw [Nat.zero_add, show k * 2 = k * 2 + 0 from rfl, hc _ (by omega), prL_at x.ps hk (by omega)]; rfl
        · rw [Nat.zero_add, hc _ (by omega), prL_at x.ps hk (by omega)]; rfl)
    h1 h2 (by rw [hkl]; exact g1) g2
    (by
      rcases g3 with g3 | ⟨b, rfl, hb, hc⟩
      · exact .inl (List.length_eq_zero_iff.1 (by rw [hkl]; exact g3))
      · refine .inr ⟨b, 0, rfl, hq b hb, fun i hi => ?_⟩
        rw [hkl] at hi
        rw [hget i hi]
        refine ⟨?_, ?_, ?_⟩
        · rw [Nat.zero_add, show i * 3 = i * 3 + 0 from rfl, hc _ (by omega), kdL_at x.kl hi (by omega)]; rfl
        · rw [Nat.zero_add, hc _ (by omega), kdL_at x.kl hi (by omega)]; rfl
        · rw [Nat.zero_add, hc _ (by omega), kdL_at x.kl hi (by omega)]; rfl)
    (fun i hi => by
      rw [hkl] at hi
      rw [hget i hi]
      refine (h.k _ ?_).mono fun k hk => hG k hk.1 hk.2
      rw [List.getD_eq_getElem?_getD, List.getElem?_eq_getElem hi]
      exact List.getElem_mem hi)
  rw [hkl] at M
  exact M

section
variable {w w' : World} {B g : Nat} {b b' : BD} {vo vo' r2 r3 : Value} {L : List ON} {x y : ON}
theorem pair_cons {vo : Value} {L : List ON} (h : (vo :: L.map ON.q).Pairwise Apart) {x : ON} (hx : x ∈ L) : Apart vo x.q := (List.pairwise_cons.1 h).1 _ (List.mem_map_of_mem hx)
theorem pair_last {l : List Value} {v : Value} (h : (l ++ [v]).Pairwise Apart) {u : Value} (hu : u ∈ l) : Apart u v := (List.pairwise_append.1 h).2.2 u hu v (List.mem_singleton.2 rfl)
theorem pair_snoc {l : List Value} {v : Value} (h : l.Pairwise Apart) (hv : ∀ u ∈ l, Apart u v) : (l ++ [v]).Pairwise Apart :=
  List.pairwise_append.2 ⟨h, List.pairwise_singleton _ _, fun u hu v' hv' => by rw [List.mem_singleton.1 hv']; exact hv u hu⟩
theorem map_snoc {α β : Type} (f : α → β) (l : List α) (x : α) : (l ++ [x]).map f = l.map f ++ [f x] := by simp

/-- What may change has become less. -/
theorem fp_less {vo vo' : Value} (h : vo'.ownBlock = vo.ownBlock) {k : Nat} (hk : fpO g vo' L k) : fpO g vo (L ++ [y]) k := by
  rcases hk with hk | hk | ⟨x, hx, hk⟩
  · exact .inl hk
  · exact .inr (.inl (by unfold ownS at hk ⊢; rw [← h]; exact hk))
  · exact .inr (.inr ⟨x, List.mem_append_left _ hx, hk⟩)
end
end Go.Proofs.YtgfdbmbgldeljaaGreat

/- What the document's Take does that changes nothing: TokNop, and each error but those of a property. Conditions: a Builder in memory. -/
namespace Go.Proofs.YtgfdbmbgldeljaaGreat
open Go.RowKit

end Go.Proofs.YtgfdbmbgldeljaaGreat

/- What the document's Take does with a TokBegin that it takes. Conditions: a Builder in memory. -/
namespace Go.Proofs.YtgfdbmbgldeljaaGreat
open Go.RowKit

theorem elemNode : ElemN Tryz.prog 23 25 3 64 := elemN_mk (z := .agg #[.string ByteArray.empty, .slice none 0 0, .slice none 0 0]) Tryz.underlying23 (by kernel_rfl) rfl (by decide)
def zeroN : Array Value := #[.string ⟨#[]⟩, .slice none 0 0, .slice none 0 0]
theorem zeroN_one : ∀ u ∈ zeroN.toList, u.oneCell' = true := by
  intro u hu
  simp [zeroN] at hu
  rcases hu with rfl | rfl <;> rfl
end Go.Proofs.YtgfdbmbgldeljaaGreat

/- Small general laws for a region that draws its order, walked by hand: what is known of the world may become more on the way. No condition: nothing of the program stands in it. -/
namespace Go.Proofs.YtgfdbmbgldeljaaGreat

/-- A stronger condition on the world may be taken from here on. -/
theorem wpAnyH_more {P : Program} {md : Region.Mode} {ops : Array Oper} {Q : Exit → Act → World → Prop} {S S' : World → Prop} (hS : ∀ w, S' w → S w) :
    ∀ {fuel : Nat} {listed : Array Bool} {a : Act} {w : World}, wpAnyH P md ops Q S' fuel listed a w → wpAnyH P md ops Q S fuel listed a w
  | 0, _, _, _, h => h
  | _ + 1, _, _, _, h => ⟨h.1, fun i hi => wpOp_mono (fun _ _ h' => ⟨hS _ h'.1, wpAnyH_more hS h'.2⟩) (h.2 i hi)⟩
/-- Operation i, which writes slot d, is taken first. -/
theorem takeH {P : Program} {md : Region.Mode} {ops : Array Oper} {Q : Exit → Act → World → Prop} {S : World → Prop} (i : Nat) (d : Tmp) {oi : Oper} {v : Value} {fuel : Nat} {listed : Array Bool} {a : Act} {w : World} (hi : ops[i]? = some oi) (hd : oi.dst = some d)
    (hs : Region.noSelect ops = true) (hf : Region.free md ops listed i = true) (hr : (Region.ready md ops listed).contains i = true)
    (hQ : ∀ c a w, Q (.panic c) (a.put (some d) v) w → Q (.panic c) a w) (hy : YieldsIf P ops S oi v a) (hS : S w)
    (h : wpAnyH P md ops Q S fuel (listed.setIfInBounds i true) (a.put (some d) v) w) : wpAnyH P md ops Q S (fuel + 1) listed a w :=
  wpAnyH_take hi hs hf hr (by rw [hd]; exact hQ) hy hS (by rw [hd]; exact h)
/-- It is shown of the world at hand, and handed on. -/
theorem wpAnyH_from {P : Program} {md : Region.Mode} {ops : Array Oper} {Q : Exit → Act → World → Prop} {S S' : World → Prop} {fuel : Nat} {listed : Array Bool} {a : Act} {w : World} (hS : ∀ w, S' w → S w) (h : S' w)
    (k : S' w → wpAnyH P md ops Q S' fuel listed a w) : wpAnyH P md ops Q S fuel listed a w := wpAnyH_more hS (k h)
end Go.Proofs.YtgfdbmbgldeljaaGreat

/- What the document's Take does with a TokProp. Conditions: a Builder in memory. -/
namespace Go.Proofs.YtgfdbmbgldeljaaGreat
open Go.RowKit

theorem elemProp : ElemN Tryz.prog 22 39 2 32 := elemN_mk (z := .agg #[.string ByteArray.empty, .string ByteArray.empty]) Tryz.underlying22 (by kernel_rfl) rfl (by decide)
theorem two_one (a b : ByteArray) : ∀ u ∈ (#[.string a, .string b] : Array Value).toList, u.oneCell' = true := by
  intro u hu
  simp at hu
  rcases hu with rfl | rfl <;> rfl
theorem len_snoc {α : Type} (l : List α) (x : α) : (l ++ [x]).length = l.length + 1 := by simp
end Go.Proofs.YtgfdbmbgldeljaaGreat

/- What the document's Take does with a TokEnd that closes the root. Conditions: a Builder in memory. -/
namespace Go.Proofs.YtgfdbmbgldeljaaGreat
open Go.RowKit

end Go.Proofs.YtgfdbmbgldeljaaGreat

/- What the document's Take does with a TokEnd that closes a kid. Conditions: a Builder in memory. -/
namespace Go.Proofs.YtgfdbmbgldeljaaGreat
open Go.RowKit

theorem cn_one (a : ByteArray) (b c : Value) (hb : b.oneCell' = true) (hc : c.oneCell' = true) : ∀ u ∈ (#[.string a, b, c] : Array Value).toList, u.oneCell' = true := by
  intro u hu
  simp at hu
  rcases hu with rfl | rfl | rfl
  · rfl
  · exact hb
  · exact hc

end Go.Proofs.YtgfdbmbgldeljaaGreat

/- What the document's Take does, at any token. Conditions: a Builder in memory, not more in it than Take lets in. -/
namespace Go.Proofs.YtgfdbmbgldeljaaGreat
open Go.RowKit

/-- Not more is in a Builder than Take lets in. -/
def okB (b : BD) : Prop := b.op.length ≤ 8 ∧ b.ns ≤ 64 ∧ b.pn ≤ 256 ∧ b.op.length ≤ b.ns ∧ ∀ n ∈ b.op, n.ps.length ≤ b.pn ∧ n.ks.length + b.op.length ≤ b.ns
theorem okB_zero : okB bd0 := ⟨by decide, by decide, by decide, by decide, fun n hn => absurd hn List.not_mem_nil⟩
theorem getLastD_snocT {α : Type} (l : List α) (x d : α) : (l ++ [x]).getLastD d = x := by simp
theorem snoc_of_ne {α : Type} : ∀ {l : List α}, l ≠ [] → ∃ r x, l = r ++ [x] := fun {l} h => ⟨l.dropLast, l.getLast h, (List.dropLast_concat_getLast h).symm⟩
theorem onLast_snocT (f : ND → ND) (l : List ND) (x : ND) : onLast f (l ++ [x]) = l ++ [f x] := by unfold onLast; rw [getLastD_snocT, List.dropLast_concat]
theorem okB_take (b : BD) (t : TK) (h : okB b) : okB (takeR b t).1 := by
  obtain ⟨op, dn, rt, ns, pn⟩ := b
  obtain ⟨h1, h2, h3, h4, h5⟩ := h
  simp only at h1 h2 h3 h4 h5
  unfold takeR
  simp only
  split
  · exact ⟨h1, h2, h3, h4, h5⟩
  split
  · exact ⟨h1, h2, h3, h4, h5⟩
  rename_i g1 g2
  split
  · split
    · exact ⟨h1, h2, h3, h4, h5⟩
    split
    · exact ⟨h1, h2, h3, h4, h5⟩
    · refine ⟨?_, ?_, h3, ?_, fun n hn => ?_⟩
      · show (op ++ [_]).length ≤ 8; rw [len_snoc]; omega
      · show ns + 1 ≤ 64; omega
      · show (op ++ [_]).length ≤ ns + 1; rw [len_snoc]; omega
      · show n.ps.length ≤ pn ∧ n.ks.length + (op ++ [_]).length ≤ ns + 1
        rw [len_snoc]
        rcases List.mem_append.1 hn with hn | hn
        · have := h5 n hn; omega
        · rw [List.mem_singleton] at hn; subst hn
          exact ⟨Nat.zero_le _, by show 0 + _ ≤ _; omega⟩
  · rename_i hk1
    have hne : op ≠ [] := fun e => g2 (.inr (.inr (.inr ⟨hk1, e⟩)))
    obtain ⟨l, x, rfl⟩ := snoc_of_ne hne
    rw [len_snoc] at h1 h4 h5
    have hx := h5 x (List.mem_append_right _ (List.mem_singleton.2 rfl))
    split
    · split
      · exact ⟨by rw [len_snoc]; exact h1, h2, h3, by rw [len_snoc]; exact h4, fun n hn => by show _ ∧ _ + (l ++ [x]).length ≤ _; rw [len_snoc]; exact h5 n hn⟩
      split
      · exact ⟨by rw [len_snoc]; exact h1, h2, h3, by rw [len_snoc]; exact h4, fun n hn => by show _ ∧ _ + (l ++ [x]).length ≤ _; rw [len_snoc]; exact h5 n hn⟩
      · rw [onLast_snocT]
        refine ⟨by rw [len_snoc]; exact h1, h2, by show pn + 1 ≤ 256; omega, by rw [len_snoc]; exact h4, fun n hn => ?_⟩
        show n.ps.length ≤ pn + 1 ∧ n.ks.length + (l ++ [_]).length ≤ ns
        rw [len_snoc]
        rcases List.mem_append.1 hn with hn | hn
        · have := h5 n (List.mem_append_left _ hn); omega
        · rw [List.mem_singleton] at hn; subst hn
          refine ⟨?_, hx.2⟩
          show (x.ps ++ [_]).length ≤ pn + 1
          rw [len_snoc]; omega
    split
    · exact ⟨Nat.zero_le _, h2, h3, Nat.zero_le _, fun n hn => absurd hn List.not_mem_nil⟩
    · rename_i hl
      rw [len_snoc] at hl
      have hne2 : l ≠ [] := fun e => hl (by rw [e]; rfl)
      obtain ⟨l2, z, rfl⟩ := snoc_of_ne hne2
      rw [List.dropLast_concat, onLast_snocT]
      rw [len_snoc] at h1 h4 h5
      have hz := h5 z (List.mem_append_left _ (List.mem_append_right _ (List.mem_singleton.2 rfl)))
      refine ⟨by show (l2 ++ [_]).length ≤ 8; rw [len_snoc]; omega, h2, h3, by show (l2 ++ [_]).length ≤ ns; rw [len_snoc]; omega, fun n hn => ?_⟩
      show n.ps.length ≤ pn ∧ n.ks.length + (l2 ++ [_]).length ≤ ns
      rw [len_snoc]
      rcases List.mem_append.1 hn with hn | hn
      · have := h5 n (List.mem_append_left _ (List.mem_append_left _ hn)); omega
      · rw [List.mem_singleton] at hn; subst hn
        refine ⟨hz.1, ?_⟩
        show (z.ks ++ [_]).length + _ ≤ ns
        rw [len_snoc]; have := hz.2; omega

end Go.Proofs.YtgfdbmbgldeljaaGreat

/- What the document's Of returns. Conditions: a slice that reads as tokens, at most 2^40 of them. -/
namespace Go.Proofs.YtgfdbmbgldeljaaGreat
open Go.RowKit

/-- Two results, the first a struct of the call's own. -/
theorem results_rowN {P : Program} {fn : Func} {p u : Tmp} {ty : TypeId} (h : fn.results = #[.cell p ty, .tmp u]) (tmps : Array Value) (w : World) (g : Nat) (t : TypeId) (cs : Array Value) (fr : Nat × Nat) (d : TypeDesc)
    (hp : tmps.getD p undef = .pointer (some ⟨g, 0, none⟩)) (hg : w.heap[g]? = some (.cells cs t fr))
    (hu : P.underlying ty = some d) (hd : (match d with | .struct _ | .array _ _ => true | _ => false) = true) (hi : (P.info? ty).map (·.size) = some cs.size) :
    (results fn tmps).run P w = .ok (.tuple #[.agg cs, tmps.getD u undef]) w := by
  have e : (results fn tmps).run P w = ((asAddr (tmps.getD p undef)).run P w).andThen fun a w₁ => ((loadVar ty a).run P w₁).andThen fun x w₂ => .ok (.tuple #[x, tmps.getD u undef]) w₂ := by
    simp only [results, h]
    simp [Sem.run_bind, Result.andThen]
  rw [e, hp]
  simp [asAddr, run_loadVar_row w g t ty cs fr d hg hu hd hi, Result.andThen]
theorem infoNd (a b c : Value) : (Tryz.prog.info? 25).map (·.size) = some (#[a, b, c] : Array Value).size := by show _ = some 3; kernel_rfl
/-- So many tokens have been taken, without an error. -/
theorem runB_snoc {b0 b : BD} {l : List TK} {t : TK} (h : runB b0 l = (b, 0)) : runB b0 (l ++ [t]) = takeR b t := by
  induction l generalizing b0 with
  | nil =>
    injection h with h _
    subst h
    show runB b0 [t] = _
    unfold runB
    split
    · rename_i e; rw [e]; rfl
    · rename_i e; rw [e]
  | cons x l ih =>
    rw [List.cons_append]
    unfold runB at h ⊢
    split
    · rename_i b' e
      rw [e] at h
      exact ih h
    · rename_i b' k e
      rw [e] at h
      cases h
theorem runB_stop {b0 b : BD} {e : Nat} {l : List TK} (h : runB b0 l = (b, e + 1)) (r : List TK) : runB b0 (l ++ r) = (b, e + 1) := by
  induction l generalizing b0 with
  | nil => cases h
  | cons x l ih =>
    rw [List.cons_append]
    unfold runB at h ⊢
    split
    · rename_i b' e
      rw [e] at h
      exact ih h
    · rename_i b' k e
      rw [e] at h
      exact h
theorem take_snocT (l : List TK) {k : Nat} (hk : k < l.length) : l.take (k + 1) = l.take k ++ [l.getD k tk0] := by
  rw [List.take_succ_eq_append_getElem hk, List.getD_eq_getElem?_getD, List.getElem?_eq_getElem hk]; rfl
theorem ofR_err {l : List TK} {k : Nat} (hk : k < l.length) {b : BD} (h : runB bd0 (l.take k) = (b, 0)) (he : (takeR b (l.getD k tk0)).2 ≠ 0) : ofR l = (nd0, (takeR b (l.getD k tk0)).2) := by
  have h1 : runB bd0 (l.take (k + 1)) = takeR b (l.getD k tk0) := by rw [take_snocT l hk]; exact runB_snoc h
  obtain ⟨b', e, h2⟩ : ∃ b' e, takeR b (l.getD k tk0) = (b', e) := ⟨_, _, rfl⟩
  rw [h2] at h1 he ⊢
  cases e with
  | zero => exact absurd rfl he
  | succ e =>
    have h3 := runB_stop h1 (l.drop (k + 1))
    rw [List.take_append_drop] at h3
    unfold ofR
    rw [h3]
theorem ofR_end {l : List TK} {b : BD} (h : runB bd0 l = (b, 0)) : ofR l = if b.dn = true then (b.rt, 0) else (nd0, 6) := by
  unfold ofR
  rw [h]
theorem nd0_at (w : World) (G : Nat → Prop) : NdAt w G nd0 (.slice none 0 0) (.slice none 0 0) :=
  @NdAt.mk w G ByteArray.empty [] [] none none 0 0 (fun _ => undef) (fun _ => undef) (.inl rfl) (Nat.le_refl _) (Nat.zero_le _) (Nat.le_refl _) (Nat.zero_le _) (.inl rfl) (fun _ hi => absurd hi (Nat.not_lt_zero _))
theorem zl_one : (#[.string ⟨#[]⟩, .slice none 0 0, .slice none 0 0] : Array Value).all (·.oneCell') = true := by
  rw [Array.all_eq_true_iff_forall_mem]
  intro v hv
  simp at hv
  rcases hv with rfl | rfl <;> rfl
theorem moved_setRow (w : World) (g : Nat) (cs : Array Value) : Moved w (w.setRow g cs) (fun k => k = g) (fun k => k = g) :=
  ⟨rfl, rfl, rfl, by rw [size_setRow]; exact Nat.le_refl _, fun k _ hn => setRow_other w g k cs (fun e => hn e), fun k hk => .inl hk⟩
end Go.Proofs.YtgfdbmbgldeljaaGreat
