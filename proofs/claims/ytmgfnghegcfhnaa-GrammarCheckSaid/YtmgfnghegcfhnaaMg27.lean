/- Append of one element, laid in a block of its own, in a region that draws its order: where the new slice lies; cells stored into a row of one's own. Conditions: fewer than 2^47 bytes. -/
import Derived.Test.YtmgfnghegcfhnaaMg16
import Derived.Laws.OwnMore
import Derived.Deep.AppendLies
import Derived.Deep.RegionHeld3
import Derived.Deep.DeepCutAuto
import Derived.Test.YtmgfnghegcfhnaaMg26
import Derived.Deep.RegionLaw
namespace Go.Proofs.Ytmgfnghegcfhnaa
open Go.RowKit

section
variable {P : Program} {ops : Array Oper} {rest : List Oper} {o : Oper} {a : Act} {Q : Exit → Act → World → Prop} {w : World}
theorem step_append_at {K : Act → World → Prop} {E : Prop} (hgd : o.guard = none) (s y : Operand) (t : TypeId) (ho : o.op = .call { callee := .builtin .append, args := #[s, y], argTypes := #[t, t] })
    (e size bytes : Nat) (hel : Hid (ElemN P t e size bytes)) (B : Nat) (v : Value) (n : Nat) (xs : List Value) (hs : a.eval s = v) (hown : w.ownsRow B e size v n xs) (b : Nat) (cs : Array Value) (hA : Arr w b e cs) (hcs : cs.size = size) (h1 : ∀ u ∈ cs.toList, u.oneCell' = true)
    (hx : a.eval y = .slice (some ⟨b, 0, none⟩) 1 1) (hm : n + 1 ≤ maxLen) (hb : (n + 1) * bytes ≤ 140737488355328) (hB : B ≤ w.heap.size)
    (h : ∀ g cap w', w'.ownsRow B e size (.slice (some ⟨g, 0, none⟩) (n + 1) cap) (n + 1) (xs ++ cs.toList) → w.grownBy w' v.ownBlock → (v.ownBlock = some g ∨ g = w.heap.size) → g < w'.heap.size → K (a.put o.dst (.slice (some ⟨g, 0, none⟩) (n + 1) cap)) w') : if Region.wanted o (yielded ops a.tmps) = true then Oper.wp P o a w K Q else E := by
  obtain ⟨h0, i, z, hi, hz0, hz1, hz2, hz3, hz4⟩ := hel.out
  exact step_append_lies w hgd s y t ho B e i z size bytes h0 hi hz0 hz1 hz2 hz3 hz4 v n xs hs hown ⟨b, 0, none⟩ 1 1 cs.toList hx (by rw [Array.length_toList, hcs, Nat.one_mul]) (World.news_of_block hA) h1 (by decide) hm hb hB _ rfl h
/-- 's = append(s, x)', x just laid in a block of its own, s in no block below B. -/
theorem append_newB (hgd : o.guard = none) (s y : Operand) (t : TypeId) (ho : o.op = .call { callee := .builtin .append, args := #[s, y], argTypes := #[t, t] })
    (e size bytes : Nat) (hel : Hid (ElemN P t e size bytes)) (B : Nat) (v : Value) (n : Nat) (xs : List Value) (hs : a.eval s = v) (hown : w.ownsRow B e size v n xs) (cs : Array Value) (hcs : cs.size = size) (h1 : ∀ u ∈ cs.toList, u.oneCell' = true)
    (H : Nat) (hH : w.heap.size = H) (hx : a.eval y = .slice (some ⟨H, 0, none⟩) 1 1) (hm : n + 1 ≤ maxLen) (hb : (n + 1) * bytes ≤ 140737488355328) (hB : B ≤ w.heap.size)
    (h : ∀ v' w', w'.ownsRow B e size v' (n + 1) (xs ++ cs.toList) → (w.alloc (.cells cs e)).grownBy w' v.ownBlock → wpList P ops Q rest (a.put o.dst v') w') : wpList P ops Q (o :: rest) a (w.alloc (.cells cs e)) := by
  subst hH
  obtain ⟨h0, i, z, hi, hz0, hz1, hz2, hz3, hz4⟩ := hel.out
  refine wpList_append_own_at _ hgd s y t ho B e i z size bytes h0 hi hz0 hz1 hz2 hz3 hz4 v n xs hs (hown.alloc _) ⟨w.heap.size, 0, none⟩ 1 1 cs.toList hx (by rw [Array.length_toList, hcs]; omega) ?_ h1 hm hb (by rw [sz_alloc]; omega) ?_
  · intro j u hj
    have e : (⟨w.heap.size, 0, none⟩ : Addr).add j = ⟨w.heap.size, j, none⟩ := by unfold Addr.add; split <;> simp_all
    rw [e, (Arr.new w _ cs).cell, ← hj, Array.getElem?_toList]
  · intro v' w' ho' hg _ _
    exact h v' w' ho' hg
end
/-- Where it lies, as a footprint. -/
theorem ownS_lies {w : World} {v : Value} {g n cap : Nat} (h : v.ownBlock = some g ∨ g = w.heap.size) : ∀ k, ownS (.slice (some ⟨g, 0, none⟩) n cap) k → ownS v k ∨ w.heap.size ≤ k := fun k hk => by
  injection hk with hk
  subst hk
  rcases h with h | h
  · exact .inl h
  · exact .inr (Nat.le_of_eq h.symm)
theorem set_three (l : List Value) (a b c x y z : Value) (n : Nat) (hn : n = l.length) : (((l ++ [a, b, c]).set n x).set (n + 1) y).set (n + 2) z = l ++ [x, y, z] := by
  subst hn
  rw [List.set_append_right _ _ (Nat.le_refl _), List.set_append_right _ _ (by omega), List.set_append_right _ _ (by omega)]
  simp
theorem set_one (l : List Value) (a b c x : Value) (n : Nat) (hn : n = l.length) : (l ++ [a, b, c]).set (n + 1) x = l ++ [a, x, c] := by
  subst hn
  rw [List.set_append_right _ _ (by omega)]
  simp
theorem set_two (l : List Value) (a b c x : Value) (n : Nat) (hn : n = l.length) : (l ++ [a, b, c]).set (n + 2) x = l ++ [a, b, x] := by
  subst hn
  rw [List.set_append_right _ _ (by omega)]
  simp
/-- Three cells are stored into a row of one's own. -/
theorem row_three {w : World} {base e size g n cap : Nat} {xs ys : List Value} (h : w.ownsRow base e size (.slice (some ⟨g, 0, none⟩) n cap) n xs) (j : Nat) (x y z : Value) (hs : ((xs.set j x).set (j + 1) y).set (j + 2) z = ys) :
    (((w.setCell ⟨g, j, none⟩ x).setCell ⟨g, j + 1, none⟩ y).setCell ⟨g, j + 2, none⟩ z).ownsRow base e size (.slice (some ⟨g, 0, none⟩) n cap) n ys ∧ w.grownBy (((w.setCell ⟨g, j, none⟩ x).setCell ⟨g, j + 1, none⟩ y).setCell ⟨g, j + 2, none⟩ z) (some g) := by
  have h1 := h.stored j x
  have h2 := h1.1.stored (j + 1) y
  have h3 := h2.1.stored (j + 2) z
  subst hs
  exact ⟨h3.1, World.grownBy.trans h1.2 (World.grownBy.trans h2.2 h3.2)⟩
end Go.Proofs.Ytmgfnghegcfhnaa

/- What the document's Take does with a TokBegin that it takes. Conditions: a Builder in memory. -/
namespace Go.Proofs.Ytmgfnghegcfhnaa
open Go.RowKit

theorem elemNode : ElemN Try.prog 27 29 3 64 := elemN_mk (z := .agg #[.string ByteArray.empty, .slice none 0 0, .slice none 0 0]) Try.underlying27 (by kernel_rfl) rfl (by decide)
def zeroN : Array Value := #[.string ⟨#[]⟩, .slice none 0 0, .slice none 0 0]
theorem zeroN_one : ∀ u ∈ zeroN.toList, u.oneCell' = true := by
  intro u hu
  simp [zeroN] at hu
  rcases hu with rfl | rfl <;> rfl
end Go.Proofs.Ytmgfnghegcfhnaa

/- Small general laws for a region that draws its order, walked by hand: what is known of the world may become more on the way. No condition: nothing of the program stands in it. -/
namespace Go.Proofs.Ytmgfnghegcfhnaa

/-- A stronger condition on the world may be taken from here on. -/
theorem wpAnyH_more {P : Program} {md : Region.Mode} {ops : Array Oper} {Q : Exit → Act → World → Prop} {S S' : World → Prop} (hS : ∀ w, S' w → S w) :
    ∀ {fuel : Nat} {listed : Array Bool} {a : Act} {w : World}, wpAnyH P md ops Q S' fuel listed a w → wpAnyH P md ops Q S fuel listed a w
  | 0, _, _, _, h => h
  | _ + 1, _, _, _, h => ⟨h.1, fun i hi => wpOp_mono (fun _ _ h' => ⟨hS _ h'.1, wpAnyH_more hS h'.2⟩) (h.2 i hi)⟩
/-- Operation i, which writes slot d, is taken first. -/
theorem takeH {P : Program} {md : Region.Mode} {ops : Array Oper} {Q : Exit → Act → World → Prop} {S : World → Prop} (i : Nat) (d : Tmp) {oi : Oper} {v : Value} {fuel : Nat} {listed : Array Bool} {a : Act} {w : World} (hi : ops[i]? = some oi) (hd : oi.dst = some d)
    (hs : Region.noSelect ops = true) (hf : Region.free md ops listed i = true) (hr : (Region.ready md ops listed).contains i = true)
    (hQ : ∀ c a w, Q (.panic c) (a.put (some d) v) w → Q (.panic c) a w) (hy : YieldsIf P ops S oi v a) (hS : S w)
    (h : wpAnyH P md ops Q S fuel (listed.setIfInBounds i true) (a.put (some d) v) w) : wpAnyH P md ops Q S (fuel + 1) listed a w :=
  wpAnyH_take hi hs hf hr (by rw [hd]; exact hQ) hy hS (by rw [hd]; exact h)
/-- It is shown of the world at hand, and handed on. -/
theorem wpAnyH_from {P : Program} {md : Region.Mode} {ops : Array Oper} {Q : Exit → Act → World → Prop} {S S' : World → Prop} {fuel : Nat} {listed : Array Bool} {a : Act} {w : World} (hS : ∀ w, S' w → S w) (h : S' w)
    (k : S' w → wpAnyH P md ops Q S' fuel listed a w) : wpAnyH P md ops Q S fuel listed a w := wpAnyH_more hS (k h)
end Go.Proofs.Ytmgfnghegcfhnaa
