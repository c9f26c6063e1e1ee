/- The document's Builder of trees in memory: what is open, the rows that it owns, and what each change of it leaves. No condition: nothing of the program stands in it but types. -/
import Derived.Test.YtgfdbmbgldeljaaMg15
import Derived.Test.YtgfdbmbgldeljaaMg14
import Derived.Laws.OwnMore
import Derived.Deep.Onto
import Derived.Test.YtgfdbmbgldeljaaMg11
import Derived.Deep.DeepCutAuto
import Derived.Deep.RegionHeld3
import Derived.Deep.RegionLaw
namespace Go.Proofs.Ytgfdbmbgldeljaa
open Go.RowKit

/-- A kid that is closed: its tree, its two slices. -/
structure KD where
  nd : ND
  y : Value
  z : Value
def kd0 : KD := ⟨nd0, .slice none 0 0, .slice none 0 0⟩
/-- A node that is open: its name, properties, kids, and the two slices that it owns. -/
structure ON where
  nm : ByteArray
  ps : List PR
  kl : List KD
  p : Value
  q : Value
def ON.nd (x : ON) : ND := .mk x.nm x.ps (x.kl.map KD.nd)
def prl (x : PR) : List Value := [.string x.nm, .string x.vl]
def prL (l : List PR) : List Value := l.flatMap prl
def kdl (x : KD) : List Value := [.string x.nd.nm, x.y, x.z]
def kdL (l : List KD) : List Value := l.flatMap kdl
def onl (x : ON) : List Value := [.string x.nm, x.p, x.q]
def onL (l : List ON) : List Value := l.flatMap onl
theorem flat_len {α : Type} {f : α → List Value} {n : Nat} (hf : ∀ x, (f x).length = n) (l : List α) : (l.flatMap f).length = l.length * n := by
  induction l with
  | nil => simp
  | cons x l ih => rw [List.flatMap_cons, List.length_append, ih, hf, List.length_cons, Nat.add_mul, Nat.one_mul, Nat.add_comm]
theorem flat_at {α : Type} {f : α → List Value} {n : Nat} (hf : ∀ x, (f x).length = n) (d : α) (l : List α) {k j : Nat} (hk : k < l.length) (hj : j < n) : (l.flatMap f)[k * n + j]? = (f (l.getD k d))[j]? := by
  induction l generalizing k with
  | nil => simp at hk
  | cons x l ih =>
    rw [List.flatMap_cons]
    match k, hk with
    | 0, _ => rw [Nat.zero_mul, Nat.zero_add, List.getElem?_append_left (by rw [hf]; exact hj)]; rfl
    | k + 1, hk =>
      rw [List.getElem?_append_right (by rw [hf, Nat.add_mul, Nat.one_mul]; omega), hf, show (k + 1) * n + j - n = k * n + j by rw [Nat.add_mul, Nat.one_mul]; omega]
      exact ih (by simpa using hk)
theorem prL_at (l : List PR) {k j : Nat} (hk : k < l.length) (hj : j < 2) : (prL l)[k * 2 + j]? = (prl (l.getD k pr0))[j]? := flat_at (f := prl) (fun _ => rfl) pr0 l hk hj
theorem kdL_at (l : List KD) {k j : Nat} (hk : k < l.length) (hj : j < 3) : (kdL l)[k * 3 + j]? = (kdl (l.getD k kd0))[j]? := flat_at (f := kdl) (fun _ => rfl) kd0 l hk hj
def on0 : ON := ⟨ByteArray.empty, [], [], .slice none 0 0, .slice none 0 0⟩
theorem onL_at (l : List ON) {k j : Nat} (hk : k < l.length) (hj : j < 3) : (onL l)[k * 3 + j]? = (onl (l.getD k on0))[j]? := flat_at (f := onl) (fun _ => rfl) on0 l hk hj
theorem onL_len (l : List ON) : (onL l).length = l.length * 3 := flat_len (f := onl) (fun _ => rfl) l
theorem prL_app (l r : List PR) : prL (l ++ r) = prL l ++ prL r := by simp [prL]
theorem kdL_app (l r : List KD) : kdL (l ++ r) = kdL l ++ kdL r := by simp [kdL]
theorem onL_app (l r : List ON) : onL (l ++ r) = onL l ++ onL r := by simp [onL]
/-- The same block is not both slices'. -/
def Apart (v v' : Value) : Prop := ∀ k, v.ownBlock = some k → v'.ownBlock ≠ some k
theorem Apart.symm {v v' : Value} (h : Apart v v') : Apart v' v := fun k h1 h2 => h k h2 h1
theorem Apart.of_none {v v' : Value} (h : v.ownBlock = none) : Apart v v' := fun k hk => by rw [h] at hk; cases hk
theorem apart_types {w : World} {base base' e e' size size' n n' : Nat} {v v' : Value} {xs xs' : List Value} (h : w.ownsRow base e size v n xs) (h' : w.ownsRow base' e' size' v' n' xs') (hne : e ≠ e') : Apart v v' := fun k hk hk' => by
  rcases ow_ow h h' hne with h1 | h1
  · rw [h1] at hk; cases hk
  · exact h1 (hk.trans hk'.symm)
/-- A row that has changed, or is new, is apart from what the old one was apart from. -/
theorem Apart.moved {w : World} {u u' v : Value} (h : Apart u v) (hF : ∀ k, ownS u' k → ownS u k ∨ w.heap.size ≤ k) (hv : ∀ k, v.ownBlock = some k → k < w.heap.size) : Apart u' v := fun k hk hk' => by
  rcases hF k hk with h1 | h1
  · exact h k h1 hk'
  · have := hv k hk'; omega
/-- All that may change. -/
def fpO (g : Nat) (vo : Value) (L : List ON) (k : Nat) : Prop := k = g ∨ ownS vo k ∨ ∃ x ∈ L, ownS x.p k ∨ ownS x.q k
/-- An open node in memory. -/
structure OnAt (w : World) (B : Nat) (F : Nat → Prop) (x : ON) : Prop where
  p : w.ownsRow B 42 2 x.p x.ps.length (prL x.ps)
  q : w.ownsRow B 25 3 x.q x.kl.length (kdL x.kl)
  k : ∀ c ∈ x.kl, NdAt w (fun k => B ≤ k ∧ ¬ F k) c.nd c.y c.z
/-- A Builder's cells. -/
def bdC (vo : Value) (b : BD) (r2 r3 : Value) : Array Value := #[vo, .bool b.dn, .string b.rt.nm, r2, r3, .int .i64 (b.ns : Int), .int .i64 (b.pn : Int)]
theorem tyPN : 42 ≠ 25 := by decide
/-- A tree lies in blocks that are there. -/
theorem nd_and {w : World} {G : Nat → Prop} {n : ND} {v2 v3 : Value} (h : NdAt w G n v2 v3) : NdAt w (fun k => G k ∧ k < w.heap.size) n v2 v3 := by
  induction h with
  | mk nm ps ks A K pc kc p q hp hpc hpm hkc hkm hK hk ih =>
    refine .mk nm ps ks A K pc kc p q ?_ hpc hpm hkc hkm ?_ ih
    · rcases hp with h | ⟨b, off, rfl, hb, hc⟩
      · exact .inl h
      · by_cases h0 : ps.length = 0
        · exact .inl (List.length_eq_zero_iff.1 h0)
        · exact .inr ⟨b, off, rfl, ⟨hb, World.block_lt_of_cell? w _ (hc 0 (by omega)).1⟩, hc⟩
    · rcases hK with h | ⟨b, off, rfl, hb, hc⟩
      · exact .inl h
      · by_cases h0 : ks.length = 0
        · exact .inl (List.length_eq_zero_iff.1 h0)
        · exact .inr ⟨b, off, rfl, ⟨hb, World.block_lt_of_cell? w _ (hc 0 (by omega)).1⟩, hc⟩
/-- A closed tree beside what changes stays, and stays beside what may change next. -/
theorem nd_moved {w w' : World} {B : Nat} {F F' : Nat → Prop} {n : ND} {v2 v3 : Value} (h : NdAt w (fun k => B ≤ k ∧ ¬ F k) n v2 v3) (hm : Moved w w' F F') : NdAt w' (fun k => B ≤ k ∧ ¬ F' k) n v2 v3 :=
  ((nd_and h).kept hm (fun _ hk => hk.1.2)).mono fun k hk => ⟨hk.1.1, fun hf => by
    rcases hm.foot k hf with h1 | h1
    · exact hk.1.2 h1
    · have := hk.2; omega⟩
theorem ow_moved {w w' : World} {F F' : Nat → Prop} {base e size n : Nat} {v : Value} {xs : List Value} (h : w.ownsRow base e size v n xs) (hm : Moved w w' F F') (hn : ∀ k, v.ownBlock = some k → ¬ F k) : w'.ownsRow base e size v n xs := hm.row h hn
section
variable {w w' : World} {B g : Nat} {b b' : BD} {vo vo' r2 r3 : Value} {L : List ON}
theorem fp_g {L : List ON} {vo : Value} {g : Nat} : fpO g vo L g := .inl rfl
end
end Go.Proofs.Ytgfdbmbgldeljaa

/- What each change of the document's Builder leaves: a node is opened, a property is added, a node is closed, and becomes the root or a kid. No condition: nothing of the program stands in it but types. -/
namespace Go.Proofs.Ytgfdbmbgldeljaa
open Go.RowKit

theorem getD_app_lt {α : Type} {d : α} {l r : List α} {k : Nat} (hk : k < l.length) : (l ++ r).getD k d = l.getD k d := by
  rw [List.getD_eq_getElem?_getD, List.getElem?_append_left hk, ← List.getD_eq_getElem?_getD]
theorem getD_app_at {α : Type} {d x : α} {l : List α} : (l ++ [x]).getD l.length d = x := by
  rw [List.getD_eq_getElem?_getD, List.getElem?_append_right (Nat.le_refl _), Nat.sub_self]; rfl
/-- A slice's elements lie at its block, from its beginning on. -/
theorem row_form {w : World} {base e size n : Nat} {v : Value} {xs : List Value} (h : w.ownsRow base e size v n xs) : ∃ A cap, v = .slice A n cap ∧ n ≤ cap ∧ cap ≤ maxLen ∧ (n = 0 ∨ ∃ b, A = some ⟨b, 0, none⟩ ∧ v.ownBlock = some b ∧ ∀ j, j < n * size → w.cell? ⟨b, j, none⟩ = xs[j]?) := by
  rcases h.2 with ⟨rfl, rfl⟩ | ⟨b, cap, cur, rfl, hb, hg, hnc, hcm, hcs, hx⟩
  · exact ⟨none, 0, rfl, Nat.le_refl _, Nat.zero_le _, .inl rfl⟩
  · exact ⟨_, cap, rfl, hnc, hcm, .inr ⟨b, rfl, rfl, fun j hj => h.cellAt j hj⟩⟩
/-- An open node whose two slices are of G is a tree. -/
theorem nd_of_on {w : World} {B : Nat} {F : Nat → Prop} {G : Nat → Prop} {x : ON} (h : OnAt w B F x) (hG : ∀ k, B ≤ k → ¬ F k → G k) (hp : ∀ k, x.p.ownBlock = some k → G k) (hq : ∀ k, x.q.ownBlock = some k → G k) : NdAt w G x.nd x.p x.q := by
  obtain ⟨A, pc, ep, h1, h2, h3⟩ := row_form h.p
  obtain ⟨K, kc, eq_, g1, g2, g3⟩ := row_form h.q
  have hkl : (x.kl.map KD.nd).length = x.kl.length := List.length_map _
  have hget : ∀ i, i < x.kl.length → (x.kl.map KD.nd).getD i nd0 = (x.kl.getD i kd0).nd := fun i hi => by
    rw [List.getD_eq_getElem?_getD, List.getElem?_map, List.getD_eq_getElem?_getD, List.getElem?_eq_getElem hi]; rfl
  rw [ep, eq_]
  have M := @NdAt.mk w G x.nm x.ps (x.kl.map KD.nd) A K pc kc (fun i => (x.kl.getD i kd0).y) (fun i => (x.kl.getD i kd0).z)
    (by
      rcases h3 with h3 | ⟨b, rfl, hb, hc⟩
      · exact .inl (List.length_eq_zero_iff.1 h3)
      · refine .inr ⟨b, 0, rfl, hp b hb, fun k hk => ?_⟩
        refine ⟨?_, ?_⟩
        · rw [Nat.zero_add, show k * 2 = k * 2 + 0 from rfl, hc _ (by omega), prL_at x.ps hk (by omega)]; rfl
        · rw [Nat.zero_add, hc _ (by omega), prL_at x.ps hk (by omega)]; rfl)
    h1 h2 (by rw [hkl]; exact g1) g2
    (by
      rcases g3 with g3 | ⟨b, rfl, hb, hc⟩
      · exact .inl (List.length_eq_zero_iff.1 (by rw [hkl]; exact g3))
      · refine .inr ⟨b, 0, rfl, hq b hb, fun i hi => ?_⟩
        rw [hkl] at hi
        rw [hget i hi]
        refine ⟨?_, ?_, ?_⟩
        · rw [Nat.zero_add, show i * 3 = i * 3 + 0 from rfl, hc _ (by omega), kdL_at x.kl hi (by omega)]; rfl
        · rw [Nat.zero_add, hc _ (by omega), kdL_at x.kl hi (by omega)]; rfl
        · rw [Nat.zero_add, hc _ (by omega), kdL_at x.kl hi (by omega)]; rfl)
    (fun i hi => by
      rw [hkl] at hi
      rw [hget i hi]
      refine (h.k _ ?_).mono fun k hk => hG k hk.1 hk.2
      rw [List.getD_eq_getElem?_getD, List.getElem?_eq_getElem hi]
      exact List.getElem_mem hi)
  rw [hkl] at M
  exact M

section
variable {w w' : World} {B g : Nat} {b b' : BD} {vo vo' r2 r3 : Value} {L : List ON} {x y : ON}
theorem pair_cons {vo : Value} {L : List ON} (h : (vo :: L.map ON.q).Pairwise Apart) {x : ON} (hx : x ∈ L) : Apart vo x.q := (List.pairwise_cons.1 h).1 _ (List.mem_map_of_mem hx)
theorem pair_last {l : List Value} {v : Value} (h : (l ++ [v]).Pairwise Apart) {u : Value} (hu : u ∈ l) : Apart u v := (List.pairwise_append.1 h).2.2 u hu v (List.mem_singleton.2 rfl)
theorem pair_snoc {l : List Value} {v : Value} (h : l.Pairwise Apart) (hv : ∀ u ∈ l, Apart u v) : (l ++ [v]).Pairwise Apart :=
  List.pairwise_append.2 ⟨h, List.pairwise_singleton _ _, fun u hu v' hv' => by rw [List.mem_singleton.1 hv']; exact hv u hu⟩
theorem map_snoc {α β : Type} (f : α → β) (l : List α) (x : α) : (l ++ [x]).map f = l.map f ++ [f x] := by simp

/-- What may change has become less. -/
theorem fp_less {vo vo' : Value} (h : vo'.ownBlock = vo.ownBlock) {k : Nat} (hk : fpO g vo' L k) : fpO g vo (L ++ [y]) k := by
  rcases hk with hk | hk | ⟨x, hx, hk⟩
  · exact .inl hk
  · exact .inr (.inl (by unfold ownS at hk ⊢; rw [← h]; exact hk))
  · exact .inr (.inr ⟨x, List.mem_append_left _ hx, hk⟩)
end
end Go.Proofs.Ytgfdbmbgldeljaa

/- What the document's Take does that changes nothing: TokNop, and each error but those of a property. Conditions: a Builder in memory. -/
namespace Go.Proofs.Ytgfdbmbgldeljaa
open Go.RowKit

end Go.Proofs.Ytgfdbmbgldeljaa

/- What the document's Take does with a TokBegin that it takes. Conditions: a Builder in memory. -/
namespace Go.Proofs.Ytgfdbmbgldeljaa
open Go.RowKit

theorem elemNode : ElemN Try.prog 23 25 3 64 := elemN_mk (z := .agg #[.string ByteArray.empty, .slice none 0 0, .slice none 0 0]) Try.underlying23 (by kernel_rfl) rfl (by decide)
def zeroN : Array Value := #[.string ⟨#[]⟩, .slice none 0 0, .slice none 0 0]
theorem zeroN_one : ∀ u ∈ zeroN.toList, u.oneCell' = true := by
  intro u hu
  simp [zeroN] at hu
  rcases hu with rfl | rfl <;> rfl
end Go.Proofs.Ytgfdbmbgldeljaa

/- Small general laws for a region that draws its order, walked by hand: what is known of the world may become more on the way. No condition: nothing of the program stands in it. -/
namespace Go.Proofs.Ytgfdbmbgldeljaa

/-- A stronger condition on the world may be taken from here on. -/
theorem wpAnyH_more {P : Program} {md : Region.Mode} {ops : Array Oper} {Q : Exit → Act → World → Prop} {S S' : World → Prop} (hS : ∀ w, S' w → S w) :
    ∀ {fuel : Nat} {listed : Array Bool} {a : Act} {w : World}, wpAnyH P md ops Q S' fuel listed a w → wpAnyH P md ops Q S fuel listed a w
  | 0, _, _, _, h => h
  | _ + 1, _, _, _, h => ⟨h.1, fun i hi => wpOp_mono (fun _ _ h' => ⟨hS _ h'.1, wpAnyH_more hS h'.2⟩) (h.2 i hi)⟩
/-- Operation i, which writes slot d, is taken first. -/
theorem takeH {P : Program} {md : Region.Mode} {ops : Array Oper} {Q : Exit → Act → World → Prop} {S : World → Prop} (i : Nat) (d : Tmp) {oi : Oper} {v : Value} {fuel : Nat} {listed : Array Bool} {a : Act} {w : World} (hi : ops[i]? = some oi) (hd : oi.dst = some d)
    (hs : Region.noSelect ops = true) (hf : Region.free md ops listed i = true) (hr : (Region.ready md ops listed).contains i = true)
    (hQ : ∀ c a w, Q (.panic c) (a.put (some d) v) w → Q (.panic c) a w) (hy : YieldsIf P ops S oi v a) (hS : S w)
    (h : wpAnyH P md ops Q S fuel (listed.setIfInBounds i true) (a.put (some d) v) w) : wpAnyH P md ops Q S (fuel + 1) listed a w :=
  wpAnyH_take hi hs hf hr (by rw [hd]; exact hQ) hy hS (by rw [hd]; exact h)
/-- It is shown of the world at hand, and handed on. -/
theorem wpAnyH_from {P : Program} {md : Region.Mode} {ops : Array Oper} {Q : Exit → Act → World → Prop} {S S' : World → Prop} {fuel : Nat} {listed : Array Bool} {a : Act} {w : World} (hS : ∀ w, S' w → S w) (h : S' w)
    (k : S' w → wpAnyH P md ops Q S' fuel listed a w) : wpAnyH P md ops Q S fuel listed a w := wpAnyH_more hS (k h)
end Go.Proofs.Ytgfdbmbgldeljaa

/- What the document's Take does with a TokProp. Conditions: a Builder in memory. -/
namespace Go.Proofs.Ytgfdbmbgldeljaa
open Go.RowKit

theorem elemProp : ElemN Try.prog 22 42 2 32 := elemN_mk (z := .agg #[.string ByteArray.empty, .string ByteArray.empty]) Try.underlying22 (by kernel_rfl) rfl (by decide)
theorem two_one (a b : ByteArray) : ∀ u ∈ (#[.string a, .string b] : Array Value).toList, u.oneCell' = true := by
  intro u hu
  simp at hu
  rcases hu with rfl | rfl <;> rfl
theorem len_snoc {α : Type} (l : List α) (x : α) : (l ++ [x]).length = l.length + 1 := by simp
end Go.Proofs.Ytgfdbmbgldeljaa

/- What the document's Take does with a TokEnd that closes the root. Conditions: a Builder in memory. -/
namespace Go.Proofs.Ytgfdbmbgldeljaa
open Go.RowKit

end Go.Proofs.Ytgfdbmbgldeljaa

/- What the document's Take does with a TokEnd that closes a kid. Conditions: a Builder in memory. -/
namespace Go.Proofs.Ytgfdbmbgldeljaa
open Go.RowKit

theorem cn_one (a : ByteArray) (b c : Value) (hb : b.oneCell' = true) (hc : c.oneCell' = true) : ∀ u ∈ (#[.string a, b, c] : Array Value).toList, u.oneCell' = true := by
  intro u hu
  simp at hu
  rcases hu with rfl | rfl | rfl
  · rfl
  · exact hb
  · exact hc

end Go.Proofs.Ytgfdbmbgldeljaa

/- What the document's Take does, at any token. Conditions: a Builder in memory, not more in it than Take lets in. -/
namespace Go.Proofs.Ytgfdbmbgldeljaa
open Go.RowKit

/-- Not more is in a Builder than Take lets in. -/
def okB (b : BD) : Prop := b.op.length ≤ 8 ∧ b.ns ≤ 64 ∧ b.pn ≤ 256 ∧ b.op.length ≤ b.ns ∧ ∀ n ∈ b.op, n.ps.length ≤ b.pn ∧ n.ks.length + b.op.length ≤ b.ns
theorem okB_zero : okB bd0 := ⟨by decide, by decide, by decide, by decide, fun n hn => absurd hn List.not_mem_nil⟩
theorem getLastD_snocT {α : Type} (l : List α) (x d : α) : (l ++ [x]).getLastD d = x := by simp
theorem snoc_of_ne {α : Type} : ∀ {l : List α}, l ≠ [] → ∃ r x, l = r ++ [x] := fun {l} h => ⟨l.dropLast, l.getLast h, (List.dropLast_concat_getLast h).symm⟩
theorem onLast_snocT (f : ND → ND) (l : List ND) (x : ND) : onLast f (l ++ [x]) = l ++ [f x] := by unfold onLast; rw [getLastD_snocT, List.dropLast_concat]
theorem okB_take (b : BD) (t : TK) (h : okB b) : okB (takeR b t).1 := by
  obtain ⟨op, dn, rt, ns, pn⟩ := b
  obtain ⟨h1, h2, h3, h4, h5⟩ := h
  simp only at h1 h2 h3 h4 h5
  unfold takeR
  simp only
  split
  · exact ⟨h1, h2, h3, h4, h5⟩
  split
  · exact ⟨h1, h2, h3, h4, h5⟩
  rename_i g1 g2
  split
  · split
    · exact ⟨h1, h2, h3, h4, h5⟩
    split
    · exact ⟨h1, h2, h3, h4, h5⟩
    · refine ⟨?_, ?_, h3, ?_, fun n hn => ?_⟩
      · show (op ++ [_]).length ≤ 8; rw [len_snoc]; omega
      · show ns + 1 ≤ 64; omega
      · show (op ++ [_]).length ≤ ns + 1; rw [len_snoc]; omega
      · show n.ps.length ≤ pn ∧ n.ks.length + (op ++ [_]).length ≤ ns + 1
        rw [len_snoc]
        rcases List.mem_append.1 hn with hn | hn
        · have := h5 n hn; omega
        · rw [List.mem_singleton] at hn; subst hn
          exact ⟨Nat.zero_le _, by show 0 + _ ≤ _; omega⟩
  · rename_i hk1
    have hne : op ≠ [] := fun e => g2 (.inr (.inr (.inr ⟨hk1, e⟩)))
    obtain ⟨l, x, rfl⟩ := snoc_of_ne hne
    rw [len_snoc] at h1 h4 h5
    have hx := h5 x (List.mem_append_right _ (List.mem_singleton.2 rfl))
    split
    · split
      · exact ⟨by rw [len_snoc]; exact h1, h2, h3, by rw [len_snoc]; exact h4, fun n hn => by show _ ∧ _ + (l ++ [x]).length ≤ _; rw [len_snoc]; exact h5 n hn⟩
      split
      · exact ⟨by rw [len_snoc]; exact h1, h2, h3, by rw [len_snoc]; exact h4, fun n hn => by show _ ∧ _ + (l ++ [x]).length ≤ _; rw [len_snoc]; exact h5 n hn⟩
      · rw [onLast_snocT]
        refine ⟨by rw [len_snoc]; exact h1, h2, by show pn + 1 ≤ 256; omega, by rw [len_snoc]; exact h4, fun n hn => ?_⟩
        show n.ps.length ≤ pn + 1 ∧ n.ks.length + (l ++ [_]).length ≤ ns
        rw [len_snoc]
        rcases List.mem_append.1 hn with hn | hn
        · have := h5 n (List.mem_append_left _ hn); omega
        · rw [List.mem_singleton] at hn; subst hn
          refine ⟨?_, hx.2⟩
          show (x.ps ++ [_]).length ≤ pn + 1
          rw [len_snoc]; omega
    split
    · exact ⟨Nat.zero_le _, h2, h3, Nat.zero_le _, fun n hn => absurd hn List.not_mem_nil⟩
    · rename_i hl
      rw [len_snoc] at hl
      have hne2 : l ≠ [] := fun e => hl (by rw [e]; rfl)
      obtain ⟨l2, z, rfl⟩ := snoc_of_ne hne2
      rw [List.dropLast_concat, onLast_snocT]
      rw [len_snoc] at h1 h4 h5
      have hz := h5 z (List.mem_append_left _ (List.mem_append_right _ (List.mem_singleton.2 rfl)))
      refine ⟨by show (l2 ++ [_]).length ≤ 8; rw [len_snoc]; omega, h2, h3, by show (l2 ++ [_]).length ≤ ns; rw [len_snoc]; omega, fun n hn => ?_⟩
      show n.ps.length ≤ pn ∧ n.ks.length + (l2 ++ [_]).length ≤ ns
      rw [len_snoc]
      rcases List.mem_append.1 hn with hn | hn
      · have := h5 n (List.mem_append_left _ (List.mem_append_left _ hn)); omega
      · rw [List.mem_singleton] at hn; subst hn
        refine ⟨hz.1, ?_⟩
        show (z.ks ++ [_]).length + _ ≤ ns
        rw [len_snoc]; have := hz.2; omega

end Go.Proofs.Ytgfdbmbgldeljaa
