/- Slices of tokens in memory, that came in or are the call's own, and append of tokens to one's own. No condition: nothing of the program stands in it but types. -/
import Derived.Test.YtfcclppgjfkfoaaDoorProg
import Derived.Test.YtfcclppgjfkfoaaDoorMg1
import Derived.Test.YtfcclppgjfkfoaaDoorMg7
import Derived.Test.YtfcclppgjfkfoaaDoorMg5
import Derived.WalkKit
import Derived.WalkSpells
import Derived.Deep.RegionHeld3
import Derived.Deep.WholeRow
import Derived.Deep.DeepCutAuto
import Derived.Laws.OwnMore
import Derived.Deep.AppendLies
import Derived.Deep.RegionLaw
namespace Go.Proofs.YtfcclppgjfkfoaaDoor
open Go.RowKit

/-- A token as cells, and as a value. -/
def tkC (x : TK) : Array Value := #[.int .i64 x.kd, .string x.nm, .string x.vl]
def tkV (x : TK) : Value := .agg #[.int .i64 x.kd, .string x.nm, .string x.vl]
theorem infoTk (x : TK) : (Tryd.prog.info? 36).map (·.size) = some (tkC x).size := by show _ = some 3; kernel_rfl
theorem tkC_one (x : TK) : (tkC x).all (·.oneCell') = true := by
  rw [Array.all_eq_true_iff_forall_mem]
  intro v hv
  simp [tkC] at hv
  rcases hv with rfl | rfl | rfl <;> rfl
/-- A token lies at a place. -/
def TkAt (w : World) (b o : Nat) (x : TK) : Prop := w.cell? ⟨b, o, none⟩ = some (.int .i64 x.kd) ∧ w.cell? ⟨b, o + 1, none⟩ = some (.string x.nm) ∧ w.cell? ⟨b, o + 2, none⟩ = some (.string x.vl)
/-- The slice at A reads as the tokens l. -/
def RdTk (w : World) (A : Option Addr) (l : List TK) : Prop := l = [] ∨ ∃ b off, A = some ⟨b, off, none⟩ ∧ ∀ k, k < l.length → TkAt w b (off + k * 3) (l.getD k tk0)
theorem RdTk.at_ {w : World} {A : Option Addr} {l : List TK} (h : RdTk w A l) {k : Nat} (hk : k < l.length) : ∃ b off x, A = some ⟨b, off, none⟩ ∧ TkAt w b (off + k * 3) x ∧ Hid (l.getD k tk0 = x) := by
  rcases h with rfl | ⟨b, off, rfl, hc⟩
  · simp at hk
  · exact ⟨b, off, _, rfl, hc k hk, rfl⟩
theorem TkAt.below {w w' : World} {b o : Nat} {x : TK} (h : TkAt w b o x) (hb : Below w.heap.size w w') : TkAt w' b o x := ⟨cellK_below h.1 hb, cellK_below h.2.1 hb, cellK_below h.2.2 hb⟩
theorem RdTk.below {w w' : World} {A : Option Addr} {l : List TK} (h : RdTk w A l) (hb : Below w.heap.size w w') : RdTk w' A l := by
  rcases h with h | ⟨b, off, rfl, hc⟩
  · exact .inl h
  · exact .inr ⟨b, off, rfl, fun k hk => (hc k hk).below hb⟩
/-- Tokens as cells. -/
def tkl (x : TK) : List Value := [.int .i64 x.kd, .string x.nm, .string x.vl]
def tkL (l : List TK) : List Value := l.flatMap tkl
theorem tkL_snoc (l : List TK) (x : TK) : tkL (l ++ [x]) = tkL l ++ tkl x := by simp [tkL]
theorem tkL_length (l : List TK) : (tkL l).length = l.length * 3 := by
  induction l with
  | nil => rfl
  | cons x l ih => show (tkl x ++ tkL l).length = _; rw [List.length_append, ih, List.length_cons]; simp only [tkl, List.length_cons, List.length_nil]; omega
theorem tkL_at (l : List TK) {k : Nat} (hk : k < l.length) : (tkL l)[k * 3]? = some (.int .i64 (l.getD k tk0).kd) ∧ (tkL l)[k * 3 + 1]? = some (.string (l.getD k tk0).nm) ∧ (tkL l)[k * 3 + 2]? = some (.string (l.getD k tk0).vl) := by
  induction l generalizing k with
  | nil => simp at hk
  | cons x l ih =>
    show (tkl x ++ tkL l)[k * 3]? = _ ∧ (tkl x ++ tkL l)[k * 3 + 1]? = _ ∧ (tkl x ++ tkL l)[k * 3 + 2]? = _
    match k, hk with
    | 0, _ => exact ⟨rfl, rfl, rfl⟩
    | k + 1, hk =>
      have := ih (k := k) (by simpa using hk)
      rw [show (k + 1) * 3 = k * 3 + 1 + 1 + 1 by omega]
      simp only [tkl, List.cons_append, List.nil_append, List.getElem?_cons_succ, List.getD_cons_succ]
      exact this
theorem row_rdTk {w : World} {base : Nat} {v : Value} {l : List TK} (h : w.ownsRow base 36 3 v l.length (tkL l)) : ∃ A cap, v = .slice A l.length cap ∧ RdTk w A l := by
  rcases h.2 with ⟨rfl, hz⟩ | ⟨b, cap, cur, rfl, _, hg, _, _, _, hx⟩
  · exact ⟨none, 0, by rw [hz], .inl (List.length_eq_zero_iff.1 hz)⟩
  · refine ⟨_, cap, rfl, .inr ⟨b, 0, rfl, fun k hk => ?_⟩⟩
    obtain ⟨h1, h2, h3⟩ := tkL_at l hk
    have e : ∀ j, j < l.length * 3 → cur[j]? = (tkL l)[j]? := fun j hj => by
      rw [← hx, List.getElem?_take_of_lt hj, Array.getElem?_toList]
    refine ⟨?_, ?_, ?_⟩
    · rw [Nat.zero_add, cell_of_row w b _ cur _ (0, 0) hg, e _ (by omega), h1]
    · rw [Nat.zero_add, cell_of_row w b _ cur _ (0, 0) hg, e _ (by omega), h2]
    · rw [Nat.zero_add, cell_of_row w b _ cur _ (0, 0) hg, e _ (by omega), h3]
/-- 'l = append(l, x)', x a token. -/
theorem append_tk {ops : Array Oper} {rest : List Oper} {o : Oper} {a : Act} {Q : Exit → Act → World → Prop} {w : World} (hgd : o.guard = none) (s y : Operand)
    (ho : o.op = .call { callee := .builtin .append, args := #[s, y], argTypes := #[31, 31] })
    (x : TK) (v : Value) (l : List TK) (hs : a.eval s = v) (hown : w.ownsRow 0 36 3 v l.length (tkL l)) (H : Nat) (hH : w.heap.size = H) (hx : a.eval y = .slice (some ⟨H, 0, none⟩) 1 1)
    (hn : l.length ≤ 1099511627776)
    (h : ∀ v' w', w'.ownsRow 0 36 3 v' (l ++ [x]).length (tkL (l ++ [x])) → Moved w w' (ownS v) (ownS v') → wpList Tryd.prog ops Q rest (a.put o.dst v') w') : wpList Tryd.prog ops Q (o :: rest) a (w.alloc (.cells (tkC x) 36)) := by
  subst hH
  have hinf : ((Tryd.prog.info? 36).map fun i => (i.zero, i.size, i.bytes)) = some (some (tkV tk0), 3, 40) := by kernel_rfl
  obtain ⟨i, hi, he⟩ := Option.map_eq_some_iff.1 hinf
  simp only [Prod.mk.injEq] at he
  refine wpList_append_own_at _ hgd s y 31 ho 0 36 i (tkV tk0) 3 40 Tryd.underlying31 hi he.1 he.2.1 he.2.2 rfl (by decide) v l.length (tkL l) hs (hown.alloc _) ⟨w.heap.size, 0, none⟩ 1 1 (tkl x) hx rfl ?_ ?_ (by unfold maxLen; omega) (by omega) (Nat.zero_le _) ?_
  · intro j u hj
    have hA := Arr.new w 36 (tkC x)
    have hlt := (List.getElem?_eq_some_iff.1 hj).1
    have e : (⟨w.heap.size, 0, none⟩ : Addr).add j = ⟨w.heap.size, j, none⟩ := by unfold Addr.add; split <;> simp_all
    rw [e, hA.cell, ← hj]
    show (tkl x).toArray[j]? = _
    rw [List.getElem?_toArray]
  · intro u hu; simp [tkl] at hu; rcases hu with rfl | rfl | rfl <;> rfl
  · intro v' w' ho' hg _ hl
    refine h v' w' (by rw [tkL_snoc, List.length_append]; exact ho') (Moved.of_grown ((World.grownBy_alloc w _ _).trans hg) ?_)
    rcases hl with hl | hl
    · exact .inl hl
    · rw [sz_alloc] at hl; exact .inr ⟨_, hl, Nat.le_succ _⟩
end Go.Proofs.YtfcclppgjfkfoaaDoor

/- What the document's Take does that changes nothing: TokNop, and each error but those of a property. Conditions: a Builder in memory. -/
namespace Go.Proofs.YtfcclppgjfkfoaaDoor
open Go.RowKit

end Go.Proofs.YtfcclppgjfkfoaaDoor

/- Append of one element, laid in a block of its own, in a region that draws its order: where the new slice lies; cells stored into a row of one's own. Conditions: fewer than 2^47 bytes. -/
namespace Go.Proofs.YtfcclppgjfkfoaaDoor
open Go.RowKit

section
variable {P : Program} {ops : Array Oper} {rest : List Oper} {o : Oper} {a : Act} {Q : Exit → Act → World → Prop} {w : World}
theorem step_append_at {K : Act → World → Prop} {E : Prop} (hgd : o.guard = none) (s y : Operand) (t : TypeId) (ho : o.op = .call { callee := .builtin .append, args := #[s, y], argTypes := #[t, t] })
    (e size bytes : Nat) (hel : Hid (ElemN P t e size bytes)) (B : Nat) (v : Value) (n : Nat) (xs : List Value) (hs : a.eval s = v) (hown : w.ownsRow B e size v n xs) (b : Nat) (cs : Array Value) (hA : Arr w b e cs) (hcs : cs.size = size) (h1 : ∀ u ∈ cs.toList, u.oneCell' = true)
    (hx : a.eval y = .slice (some ⟨b, 0, none⟩) 1 1) (hm : n + 1 ≤ maxLen) (hb : (n + 1) * bytes ≤ 140737488355328) (hB : B ≤ w.heap.size)
    (h : ∀ g cap w', w'.ownsRow B e size (.slice (some ⟨g, 0, none⟩) (n + 1) cap) (n + 1) (xs ++ cs.toList) → w.grownBy w' v.ownBlock → (v.ownBlock = some g ∨ g = w.heap.size) → g < w'.heap.size → K (a.put o.dst (.slice (some ⟨g, 0, none⟩) (n + 1) cap)) w') : if Region.wanted o (yielded ops a.tmps) = true then Oper.wp P o a w K Q else E := by
  obtain ⟨h0, i, z, hi, hz0, hz1, hz2, hz3, hz4⟩ := hel.out
  exact step_append_lies w hgd s y t ho B e i z size bytes h0 hi hz0 hz1 hz2 hz3 hz4 v n xs hs hown ⟨b, 0, none⟩ 1 1 cs.toList hx (by rw [Array.length_toList, hcs, Nat.one_mul]) (World.news_of_block hA) h1 (by decide) hm hb hB _ rfl h
/-- 's = append(s, x)', x just laid in a block of its own, s in no block below B. -/
theorem append_newB (hgd : o.guard = none) (s y : Operand) (t : TypeId) (ho : o.op = .call { callee := .builtin .append, args := #[s, y], argTypes := #[t, t] })
    (e size bytes : Nat) (hel : Hid (ElemN P t e size bytes)) (B : Nat) (v : Value) (n : Nat) (xs : List Value) (hs : a.eval s = v) (hown : w.ownsRow B e size v n xs) (cs : Array Value) (hcs : cs.size = size) (h1 : ∀ u ∈ cs.toList, u.oneCell' = true)
    (H : Nat) (hH : w.heap.size = H) (hx : a.eval y = .slice (some ⟨H, 0, none⟩) 1 1) (hm : n + 1 ≤ maxLen) (hb : (n + 1) * bytes ≤ 140737488355328) (hB : B ≤ w.heap.size)
    (h : ∀ v' w', w'.ownsRow B e size v' (n + 1) (xs ++ cs.toList) → (w.alloc (.cells cs e)).grownBy w' v.ownBlock → wpList P ops Q rest (a.put o.dst v') w') : wpList P ops Q (o :: rest) a (w.alloc (.cells cs e)) := by
  subst hH
  obtain ⟨h0, i, z, hi, hz0, hz1, hz2, hz3, hz4⟩ := hel.out
  refine wpList_append_own_at _ hgd s y t ho B e i z size bytes h0 hi hz0 hz1 hz2 hz3 hz4 v n xs hs (hown.alloc _) ⟨w.heap.size, 0, none⟩ 1 1 cs.toList hx (by rw [Array.length_toList, hcs]; omega) ?_ h1 hm hb (by rw [sz_alloc]; omega) ?_
  · intro j u hj
    have e : (⟨w.heap.size, 0, none⟩ : Addr).add j = ⟨w.heap.size, j, none⟩ := by unfold Addr.add; split <;> simp_all
    rw [e, (Arr.new w _ cs).cell, ← hj, Array.getElem?_toList]
  · intro v' w' ho' hg _ _
    exact h v' w' ho' hg
end
/-- Where it lies, as a footprint. -/
theorem ownS_lies {w : World} {v : Value} {g n cap : Nat} (h : v.ownBlock = some g ∨ g = w.heap.size) : ∀ k, ownS (.slice (some ⟨g, 0, none⟩) n cap) k → ownS v k ∨ w.heap.size ≤ k := fun k hk => by
  injection hk with hk
  subst hk
  rcases h with h | h
  · exact .inl h
  · exact .inr (Nat.le_of_eq h.symm)
theorem set_three (l : List Value) (a b c x y z : Value) (n : Nat) (hn : n = l.length) : (((l ++ [a, b, c]).set n x).set (n + 1) y).set (n + 2) z = l ++ [x, y, z] := by
  subst hn
  rw [List.set_append_right _ _ (Nat.le_refl _), List.set_append_right _ _ (by omega), List.set_append_right _ _ (by omega)]
  simp
theorem set_one (l : List Value) (a b c x : Value) (n : Nat) (hn : n = l.length) : (l ++ [a, b, c]).set (n + 1) x = l ++ [a, x, c] := by
  subst hn
  rw [List.set_append_right _ _ (by omega)]
  simp
theorem set_two (l : List Value) (a b c x : Value) (n : Nat) (hn : n = l.length) : (l ++ [a, b, c]).set (n + 2) x = l ++ [a, b, x] := by
  subst hn
  rw [List.set_append_right _ _ (by omega)]
  simp
/-- Three cells are stored into a row of one's own. -/
theorem row_three {w : World} {base e size g n cap : Nat} {xs ys : List Value} (h : w.ownsRow base e size (.slice (some ⟨g, 0, none⟩) n cap) n xs) (j : Nat) (x y z : Value) (hs : ((xs.set j x).set (j + 1) y).set (j + 2) z = ys) :
    (((w.setCell ⟨g, j, none⟩ x).setCell ⟨g, j + 1, none⟩ y).setCell ⟨g, j + 2, none⟩ z).ownsRow base e size (.slice (some ⟨g, 0, none⟩) n cap) n ys ∧ w.grownBy (((w.setCell ⟨g, j, none⟩ x).setCell ⟨g, j + 1, none⟩ y).setCell ⟨g, j + 2, none⟩ z) (some g) := by
  have h1 := h.stored j x
  have h2 := h1.1.stored (j + 1) y
  have h3 := h2.1.stored (j + 2) z
  subst hs
  exact ⟨h3.1, World.grownBy.trans h1.2 (World.grownBy.trans h2.2 h3.2)⟩
end Go.Proofs.YtfcclppgjfkfoaaDoor

/- What the document's Take does with a TokBegin that it takes. Conditions: a Builder in memory. -/
namespace Go.Proofs.YtfcclppgjfkfoaaDoor
open Go.RowKit

theorem elemNode : ElemN Tryd.prog 23 25 3 64 := elemN_mk (z := .agg #[.string ByteArray.empty, .slice none 0 0, .slice none 0 0]) Tryd.underlying23 (by kernel_rfl) rfl (by decide)
def zeroN : Array Value := #[.string ⟨#[]⟩, .slice none 0 0, .slice none 0 0]
theorem zeroN_one : ∀ u ∈ zeroN.toList, u.oneCell' = true := by
  intro u hu
  simp [zeroN] at hu
  rcases hu with rfl | rfl <;> rfl
end Go.Proofs.YtfcclppgjfkfoaaDoor

/- Small general laws for a region that draws its order, walked by hand: what is known of the world may become more on the way. No condition: nothing of the program stands in it. -/
namespace Go.Proofs.YtfcclppgjfkfoaaDoor

/-- A stronger condition on the world may be taken from here on. -/
theorem wpAnyH_more {P : Program} {md : Region.Mode} {ops : Array Oper} {Q : Exit → Act → World → Prop} {S S' : World → Prop} (hS : ∀ w, S' w → S w) :
    ∀ {fuel : Nat} {listed : Array Bool} {a : Act} {w : World}, wpAnyH P md ops Q S' fuel listed a w → wpAnyH P md ops Q S fuel listed a w
  | 0, _, _, _, h => h
  | _ + 1, _, _, _, h => ⟨h.1, fun i hi => wpOp_mono (fun _ _ h' => ⟨hS _ h'.1, wpAnyH_more hS h'.2⟩) (h.2 i hi)⟩
/-- Operation i, which writes slot d, is taken first. -/
theorem takeH {P : Program} {md : Region.Mode} {ops : Array Oper} {Q : Exit → Act → World → Prop} {S : World → Prop} (i : Nat) (d : Tmp) {oi : Oper} {v : Value} {fuel : Nat} {listed : Array Bool} {a : Act} {w : World} (hi : ops[i]? = some oi) (hd : oi.dst = some d)
    (hs : Region.noSelect ops = true) (hf : Region.free md ops listed i = true) (hr : (Region.ready md ops listed).contains i = true)
    (hQ : ∀ c a w, Q (.panic c) (a.put (some d) v) w → Q (.panic c) a w) (hy : YieldsIf P ops S oi v a) (hS : S w)
    (h : wpAnyH P md ops Q S fuel (listed.setIfInBounds i true) (a.put (some d) v) w) : wpAnyH P md ops Q S (fuel + 1) listed a w :=
  wpAnyH_take hi hs hf hr (by rw [hd]; exact hQ) hy hS (by rw [hd]; exact h)
/-- It is shown of the world at hand, and handed on. -/
theorem wpAnyH_from {P : Program} {md : Region.Mode} {ops : Array Oper} {Q : Exit → Act → World → Prop} {S S' : World → Prop} {fuel : Nat} {listed : Array Bool} {a : Act} {w : World} (hS : ∀ w, S' w → S w) (h : S' w)
    (k : S' w → wpAnyH P md ops Q S' fuel listed a w) : wpAnyH P md ops Q S fuel listed a w := wpAnyH_more hS (k h)
end Go.Proofs.YtfcclppgjfkfoaaDoor

/- What the document's Take does with a TokProp. Conditions: a Builder in memory. -/
namespace Go.Proofs.YtfcclppgjfkfoaaDoor
open Go.RowKit

theorem elemProp : ElemN Tryd.prog 22 62 2 32 := elemN_mk (z := .agg #[.string ByteArray.empty, .string ByteArray.empty]) Tryd.underlying22 (by kernel_rfl) rfl (by decide)
theorem two_one (a b : ByteArray) : ∀ u ∈ (#[.string a, .string b] : Array Value).toList, u.oneCell' = true := by
  intro u hu
  simp at hu
  rcases hu with rfl | rfl <;> rfl
theorem len_snoc {α : Type} (l : List α) (x : α) : (l ++ [x]).length = l.length + 1 := by simp
end Go.Proofs.YtfcclppgjfkfoaaDoor

/- What the document's Take does with a TokEnd that closes the root. Conditions: a Builder in memory. -/
namespace Go.Proofs.YtfcclppgjfkfoaaDoor
open Go.RowKit

end Go.Proofs.YtfcclppgjfkfoaaDoor

/- What the document's Take does with a TokEnd that closes a kid. Conditions: a Builder in memory. -/
namespace Go.Proofs.YtfcclppgjfkfoaaDoor
open Go.RowKit

theorem cn_one (a : ByteArray) (b c : Value) (hb : b.oneCell' = true) (hc : c.oneCell' = true) : ∀ u ∈ (#[.string a, b, c] : Array Value).toList, u.oneCell' = true := by
  intro u hu
  simp at hu
  rcases hu with rfl | rfl | rfl
  · rfl
  · exact hb
  · exact hc

end Go.Proofs.YtfcclppgjfkfoaaDoor

/- What the document's Take does, at any token. Conditions: a Builder in memory, not more in it than Take lets in. -/
namespace Go.Proofs.YtfcclppgjfkfoaaDoor
open Go.RowKit

/-- Not more is in a Builder than Take lets in. -/
def okB (b : BD) : Prop := b.op.length ≤ 8 ∧ b.ns ≤ 64 ∧ b.pn ≤ 256 ∧ b.op.length ≤ b.ns ∧ ∀ n ∈ b.op, n.ps.length ≤ b.pn ∧ n.ks.length + b.op.length ≤ b.ns
theorem okB_zero : okB bd0 := ⟨by decide, by decide, by decide, by decide, fun n hn => absurd hn List.not_mem_nil⟩
theorem getLastD_snocT {α : Type} (l : List α) (x d : α) : (l ++ [x]).getLastD d = x := by simp
theorem snoc_of_ne {α : Type} : ∀ {l : List α}, l ≠ [] → ∃ r x, l = r ++ [x] := fun {l} h => ⟨l.dropLast, l.getLast h, (List.dropLast_concat_getLast h).symm⟩
theorem onLast_snocT (f : ND → ND) (l : List ND) (x : ND) : onLast f (l ++ [x]) = l ++ [f x] := by unfold onLast; rw [getLastD_snocT, List.dropLast_concat]
theorem okB_take (b : BD) (t : TK) (h : okB b) : okB (takeR b t).1 := by
  obtain ⟨op, dn, rt, ns, pn⟩ := b
  obtain ⟨h1, h2, h3, h4, h5⟩ := h
  simp only at h1 h2 h3 h4 h5
  unfold takeR
  simp only
  split
  · exact ⟨h1, h2, h3, h4, h5⟩
  split
  · exact ⟨h1, h2, h3, h4, h5⟩
  rename_i g1 g2
  split
  · split
    · exact ⟨h1, h2, h3, h4, h5⟩
    split
    · exact ⟨h1, h2, h3, h4, h5⟩
    · refine ⟨?_, ?_, h3, ?_, fun n hn => ?_⟩
      · show (op ++ [_]).length ≤ 8; rw [len_snoc]; omega
      · show ns + 1 ≤ 64; omega
      · show (op ++ [_]).length ≤ ns + 1; rw [len_snoc]; omega
      · show n.ps.length ≤ pn ∧ n.ks.length + (op ++ [_]).length ≤ ns + 1
        rw [len_snoc]
        rcases List.mem_append.1 hn with hn | hn
        · have := h5 n hn; omega
        · rw [List.mem_singleton] at hn; subst hn
          exact ⟨Nat.zero_le _, by show 0 + _ ≤ _; omega⟩
  · rename_i hk1
    have hne : op ≠ [] := fun e => g2 (.inr (.inr (.inr ⟨hk1, e⟩)))
    obtain ⟨l, x, rfl⟩ := snoc_of_ne hne
    rw [len_snoc] at h1 h4 h5
    have hx := h5 x (List.mem_append_right _ (List.mem_singleton.2 rfl))
    split
    · split
      · exact ⟨by rw [len_snoc]; exact h1, h2, h3, by rw [len_snoc]; exact h4, fun n hn => by show _ ∧ _ + (l ++ [x]).length ≤ _; rw [len_snoc]; exact h5 n hn⟩
      split
      · exact ⟨by rw [len_snoc]; exact h1, h2, h3, by rw [len_snoc]; exact h4, fun n hn => by show _ ∧ _ + (l ++ [x]).length ≤ _; rw [len_snoc]; exact h5 n hn⟩
      · rw [onLast_snocT]
        refine ⟨by rw [len_snoc]; exact h1, h2, by show pn + 1 ≤ 256; omega, by rw [len_snoc]; exact h4, fun n hn => ?_⟩
        show n.ps.length ≤ pn + 1 ∧ n.ks.length + (l ++ [_]).length ≤ ns
        rw [len_snoc]
        rcases List.mem_append.1 hn with hn | hn
        · have := h5 n (List.mem_append_left _ hn); omega
        · rw [List.mem_singleton] at hn; subst hn
          refine ⟨?_, hx.2⟩
          show (x.ps ++ [_]).length ≤ pn + 1
          rw [len_snoc]; omega
    split
    · exact ⟨Nat.zero_le _, h2, h3, Nat.zero_le _, fun n hn => absurd hn List.not_mem_nil⟩
    · rename_i hl
      rw [len_snoc] at hl
      have hne2 : l ≠ [] := fun e => hl (by rw [e]; rfl)
      obtain ⟨l2, z, rfl⟩ := snoc_of_ne hne2
      rw [List.dropLast_concat, onLast_snocT]
      rw [len_snoc] at h1 h4 h5
      have hz := h5 z (List.mem_append_left _ (List.mem_append_right _ (List.mem_singleton.2 rfl)))
      refine ⟨by show (l2 ++ [_]).length ≤ 8; rw [len_snoc]; omega, h2, h3, by show (l2 ++ [_]).length ≤ ns; rw [len_snoc]; omega, fun n hn => ?_⟩
      show n.ps.length ≤ pn ∧ n.ks.length + (l2 ++ [_]).length ≤ ns
      rw [len_snoc]
      rcases List.mem_append.1 hn with hn | hn
      · have := h5 n (List.mem_append_left _ (List.mem_append_left _ hn)); omega
      · rw [List.mem_singleton] at hn; subst hn
        refine ⟨hz.1, ?_⟩
        show (z.ks ++ [_]).length + _ ≤ ns
        rw [len_snoc]; have := hz.2; omega

end Go.Proofs.YtfcclppgjfkfoaaDoor
