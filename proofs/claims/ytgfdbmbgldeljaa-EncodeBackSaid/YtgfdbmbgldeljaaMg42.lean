/- A reader of a tree's tokens, one after the other, in plain words: what it does is what the document's Builder does. No condition: nothing of the program stands in it. -/
import Derived.Test.YtgfdbmbgldeljaaMg5
import Derived.Test.YtgfdbmbgldeljaaMg16
namespace Go.Proofs.Ytgfdbmbgldeljaa

/-- What is told at the end. -/
def finB : BD × Nat → ND × Nat
  | (_, e + 1) => (nd0, e + 1)
  | (b, 0) => if b.dn = true then (b.rt, 0) else (nd0, 6)
theorem ofR_fin (l : List TK) : ofR l = finB (runB bd0 l) := by
  unfold ofR finB
  rcases runB bd0 l with ⟨b, _ | e⟩ <;> rfl
/-- The next token that says something, and what is behind it. -/
def nextR : List TK → Option (TK × List TK)
  | [] => none
  | t :: l => if t.kd = 4 then nextR l else some (t, l)
/-- The token that stands for none. -/
def tkN : TK := ⟨0, ⟨#[]⟩, ⟨#[]⟩⟩
/-- What next returns: a token, whether there is one, the tokens behind it. -/
def NextP (m : List TK) (t : TK) (b : Bool) (l : List TK) : Prop := (b = true ∧ nextR m = some (t, l)) ∨ (b = false ∧ t = tkN ∧ l = [] ∧ nextR m = none)
theorem take_nop (b : BD) {t : TK} (h : t.kd = 4) : takeR b t = (b, 0) := if_pos h
theorem runB_nop (b : BD) {t : TK} (l : List TK) (h : t.kd = 4) : runB b (t :: l) = runB b l := runB_cons (take_nop b h)
theorem run_next (b : BD) : ∀ {m : List TK} {t : TK} {l : List TK}, nextR m = some (t, l) → runB b m = runB b (t :: l) ∧ t.kd ≠ 4 ∧ l.length < m.length
  | [], _, _, h => by cases h
  | x :: m, t, l, h => by
    unfold nextR at h
    by_cases hx : x.kd = 4
    · rw [if_pos hx] at h
      obtain ⟨h1, h2, h3⟩ := run_next b h
      exact ⟨by rw [runB_nop b m hx, h1], h2, by rw [List.length_cons]; omega⟩
    · rw [if_neg hx] at h
      injection h with h
      injection h with h1 h2
      subst h1 h2
      exact ⟨rfl, hx, Nat.lt_succ_self _⟩
theorem run_none (b : BD) : ∀ {m : List TK}, nextR m = none → runB b m = (b, 0)
  | [], _ => rfl
  | x :: m, h => by
    unfold nextR at h
    by_cases hx : x.kd = 4
    · rw [if_pos hx] at h
      rw [runB_nop b m hx]; exact run_none b h
    · rw [if_neg hx] at h; cases h
/-- A token, or the end, is what it is for the Builder, too. -/
theorem fin_next {b : BD} (hb : b.dn = false) {m : List TK} {t : TK} {f : Bool} {l : List TK} (h : NextP m t f l) : finB (runB b m) = finB (runB b (t :: l)) := by
  rcases h with ⟨_, h⟩ | ⟨_, rfl, rfl, h⟩
  · rw [(run_next b h).1]
  · rw [run_none b h]
    have e : takeR b tkN = (b, 6) := by
      unfold takeR
      rw [if_neg (by decide), if_pos (.inl (by decide))]
    show finB (b, 0) = finB (match takeR b tkN with
      | (b', 0) => runB b' []
      | (b', e + 1) => (b', e + 1))
    rw [e]
    show (if b.dn = true then (b.rt, 0) else (nd0, 6)) = (nd0, 6)
    rw [hb, if_neg (by decide)]
theorem next_len {m : List TK} {t : TK} {f : Bool} {l : List TK} (h : NextP m t f l) : l.length ≤ m.length ∧ (f = true → l.length < m.length) ∧ (f = false → t.kd = 0) ∧ t.kd ≠ 4 := by
  rcases h with ⟨rfl, h⟩ | ⟨rfl, rfl, rfl, _⟩
  · have := run_next bd0 h
    exact ⟨by omega, (fun _ => this.2.2), (fun h => by cases h), this.2.1⟩
  · exact ⟨Nat.zero_le _, (fun h => by cases h), (fun _ => rfl), by decide⟩
theorem fin_err {b b' : BD} {t : TK} {l : List TK} {e : Nat} (h : takeR b t = (b', e + 1)) : finB (runB b (t :: l)) = (nd0, e + 1) := by
  show finB (match takeR b t with
    | (b', 0) => runB b' l
    | (b', e + 1) => (b', e + 1)) = _
  rw [h]; rfl
theorem fin_ok {b b' : BD} {t : TK} {l : List TK} (h : takeR b t = (b', 0)) : finB (runB b (t :: l)) = finB (runB b' l) := by rw [runB_cons h]
/-- A Builder with open nodes. -/
def stB (op : List ND) (ns pn : Nat) : BD := ⟨op, false, nd0, ns, pn⟩
/-- The last open node has ended. -/
def popB (op : List ND) (n : ND) (ns pn : Nat) : BD := if op = [] then ⟨[], true, n, ns, pn⟩ else stB (onLast (fun y => addKid y n) op) ns pn
theorem take_end (op : List ND) (n : ND) (ns pn : Nat) (t : TK) (ht : t.kd = 2) : takeR (stB (op ++ [n]) ns pn) t = (popB op n ns pn, 0) := by
  have hne : op ++ [n] ≠ [] := by simp
  unfold takeR popB stB
  simp only
  rw [if_neg (by rw [ht]; decide), if_neg (by rw [ht]; simp), if_neg (by rw [ht]; decide), if_neg (by rw [ht]; decide)]
  by_cases ho : op = []
  · subst ho; simp
  · have h1 : ¬ (op ++ [n]).length = 1 := by
      rw [List.length_append]
      have : op.length ≠ 0 := fun h => ho (List.length_eq_zero_iff.1 h)
      simp only [List.length_cons, List.length_nil]; omega
    rw [if_neg h1, if_neg ho, List.dropLast_concat, getLastD_snoc]
theorem pop_kid (op : List ND) (y n : ND) (ns pn : Nat) : popB (op ++ [y]) n ns pn = stB (op ++ [addKid y n]) ns pn := by
  unfold popB
  rw [if_neg (by simp), onLast_snoc]
theorem take_deep (op : List ND) (ns pn : Nat) (t : TK) (ht : t.kd = 1) (ho : op.length = 8) : takeR (stB op ns pn) t = (stB op ns pn, 13) := by
  unfold takeR stB
  simp only
  rw [if_neg (by rw [ht]; decide), if_neg (by rw [ht]; simp), if_pos ht, if_pos ho]
theorem take_many (op : List ND) (ns pn : Nat) (t : TK) (ht : t.kd = 1) (ho : op.length ≠ 8) (hn : ns = 64) : takeR (stB op ns pn) t = (stB op ns pn, 7) := by
  unfold takeR stB
  simp only
  rw [if_neg (by rw [ht]; decide), if_neg (by rw [ht]; simp), if_pos ht, if_neg ho, if_pos hn]
theorem take_open (op : List ND) (ns pn : Nat) (t : TK) (ht : t.kd = 1) (ho : op.length ≠ 8) (hn : ns ≠ 64) : takeR (stB op ns pn) t = (stB (op ++ [.mk t.nm [] []]) (ns + 1) pn, 0) := by
  unfold takeR stB
  simp only
  rw [if_neg (by rw [ht]; decide), if_neg (by rw [ht]; simp), if_pos ht, if_neg ho, if_neg hn]
theorem take_form (op : List ND) (x : ND) (ns pn : Nat) (t : TK) (h1 : t.kd ≠ 1) (h2 : t.kd ≠ 2) (h3 : t.kd ≠ 3) (h4 : t.kd ≠ 4) : takeR (stB (op ++ [x]) ns pn) t = (stB (op ++ [x]) ns pn, 6) := by
  unfold takeR
  rw [if_neg h4, if_pos]
  by_cases h : t.kd < 1
  · exact .inl h
  · exact .inr (.inl (by omega))
theorem take_late (op : List ND) (x : ND) (ns pn : Nat) (t : TK) (h3 : t.kd = 3) (hk : x.ks ≠ []) : takeR (stB (op ++ [x]) ns pn) t = (stB (op ++ [x]) ns pn, 6) := by
  unfold takeR stB
  simp only
  rw [if_neg (by rw [h3]; decide), if_neg (by rw [h3]; simp), if_neg (by rw [h3]; decide), if_pos h3, getLastD_snoc, if_pos hk]
theorem take_full (op : List ND) (x : ND) (ns pn : Nat) (t : TK) (h3 : t.kd = 3) (hk : x.ks = []) (hp : pn = 256) : takeR (stB (op ++ [x]) ns pn) t = (stB (op ++ [x]) ns pn, 7) := by
  unfold takeR stB
  simp only
  rw [if_neg (by rw [h3]; decide), if_neg (by rw [h3]; simp), if_neg (by rw [h3]; decide), if_pos h3, getLastD_snoc, if_neg (by rw [hk]; simp), if_pos hp]
theorem take_more (op : List ND) (x : ND) (ns pn : Nat) (t : TK) (h3 : t.kd = 3) (hk : x.ks = []) (hp : pn ≠ 256) : takeR (stB (op ++ [x]) ns pn) t = (stB (op ++ [addProp x ⟨t.nm, t.vl⟩]) ns (pn + 1), 0) := by
  unfold takeR stB
  simp only
  rw [if_neg (by rw [h3]; decide), if_neg (by rw [h3]; simp), if_neg (by rw [h3]; decide), if_pos h3, getLastD_snoc, if_neg (by rw [hk]; simp), if_neg hp, onLast_snoc]
/-- The whole: what Of does with the first token, and behind the root's end. -/
theorem of_first {m : List TK} {t : TK} {f : Bool} {l : List TK} (h : NextP m t f l) (ht : t.kd ≠ 1) : ofR m = (nd0, 6) := by
  rw [ofR_fin, fin_next rfl h]
  have h4 := (next_len h).2.2.2
  have e : takeR bd0 t = (bd0, 6) := by
    unfold takeR
    rw [if_neg h4, if_pos]
    by_cases h : t.kd < 1 ∨ 3 < t.kd
    · exact h.imp id .inl
    · exact .inr (.inr (.inr ⟨ht, rfl⟩))
  exact fin_err e
theorem of_node {m : List TK} {t : TK} {f : Bool} {l : List TK} (h : NextP m t f l) : ofR m = finB (runB (stB [] 0 0) (t :: l)) := by rw [ofR_fin, fin_next rfl h]; rfl
theorem fin_root (n : ND) (ns pn : Nat) {m : List TK} {t : TK} {f : Bool} {l : List TK} (h : NextP m t f l) : finB (runB (popB [] n ns pn) m) = if f = true then (nd0, 6) else (n, 0) := by
  have ep : popB [] n ns pn = ⟨[], true, n, ns, pn⟩ := by unfold popB; rw [if_pos rfl]
  rw [ep]
  rcases h with ⟨rfl, h⟩ | ⟨rfl, rfl, rfl, h⟩
  · rw [(run_next _ h).1, if_pos rfl]
    have h4 := (run_next bd0 h).2.1
    have e : takeR ⟨[], true, n, ns, pn⟩ t = (⟨[], true, n, ns, pn⟩, 6) := by
      unfold takeR
      rw [if_neg h4, if_pos (.inr (.inr (.inl rfl)))]
    exact fin_err e
  · rw [run_none _ h, if_neg (by decide)]; rfl
end Go.Proofs.Ytgfdbmbgldeljaa

/- A node that is being made, in a variable of a call's own: what each change of it leaves. No condition: nothing of the program stands in it but types. -/
namespace Go.Proofs.Ytgfdbmbgldeljaa
open Go.RowKit

/-- What may change of a node that is being made. -/
def fpN (g : Nat) (x : ON) (k : Nat) : Prop := k = g ∨ ownS x.p k ∨ ownS x.q k
/-- Block g is a node that is being made, with two slices of its own. -/
structure NodeV (w : World) (B g : Nat) (x : ON) : Prop where
  arr : Arr w g 25 #[.string x.nm, x.p, x.q]
  on : OnAt w B (fpN g x) x
  gB : B ≤ g
  sep : x.q.ownBlock ≠ some g
section
variable {w w' : World} {B g : Nat} {x : ON}
theorem NodeV.low (h : NodeV w B g x) {k : Nat} (hk : fpN g x k) : B ≤ k := by
  rcases hk with rfl | hk | hk
  · exact h.gB
  · exact (h.on.p.lt k hk).1
  · exact (h.on.q.lt k hk).1
theorem NodeV.high (h : NodeV w B g x) {k : Nat} (hk : fpN g x k) : k < w.heap.size := by
  rcases hk with rfl | hk | hk
  · exact h.arr.lt
  · exact (h.on.p.lt k hk).2
  · exact (h.on.q.lt k hk).2
/-- What changes elsewhere, and what is new, leaves it. -/
theorem NodeV.apart {F F' : Nat → Prop} (h : NodeV w B g x) (hm : Moved w w' F F') (hF : ∀ k, F k → k < B) : NodeV w' B g x :=
  ⟨hm.arr h.arr (fun hf => by have := hF g hf; have := h.gB; omega),
   ⟨ow_moved h.on.p hm fun k hk hf => by have := hF k hf; have := (h.on.p.lt k hk).1; omega, ow_moved h.on.q hm fun k hk hf => by have := hF k hf; have := (h.on.q.lt k hk).1; omega,
    fun c hc => (h.on.k c hc).kept hm fun k hk hf => by have := hF k hf; have := hk.1; omega⟩, h.gB, h.sep⟩
theorem NodeV.below (h : NodeV w B g x) (hb : Below w.heap.size w w') : NodeV w' B g x := h.apart (F := fun _ => False) (F' := fun _ => False) (Moved.of_below hb _) (fun _ h => h.elim)
theorem nv_new {nm : ByteArray} (hA : Arr w g 25 #[.string nm, .slice none 0 0, .slice none 0 0]) (hB : B ≤ g) : NodeV w B g ⟨nm, [], [], .slice none 0 0, .slice none 0 0⟩ :=
  ⟨hA, ⟨World.ownsRow_nil _ _ _ _, World.ownsRow_nil _ _ _ _, fun c hc => absurd hc List.not_mem_nil⟩, hB, fun h => by cases h⟩
/-- A property has been added. -/
theorem nv_prop (h : NodeV w B g x) (pr : PR) {p' : Value} (hA : Arr w' g 25 #[.string x.nm, p', x.q]) (hp : w'.ownsRow B 42 2 p' (x.ps.length + 1) (prL (x.ps ++ [pr])))
    (hm : Moved w w' (fun k => k = g ∨ ownS x.p k) (fun k => k = g ∨ ownS p' k)) : NodeV w' B g ⟨x.nm, x.ps ++ [pr], x.kl, p', x.q⟩ ∧ Moved w w' (fpN g x) (fpN g ⟨x.nm, x.ps ++ [pr], x.kl, p', x.q⟩) := by
  have hM : Moved w w' (fpN g x) (fpN g ⟨x.nm, x.ps ++ [pr], x.kl, p', x.q⟩) := hm.inside (fun k hk => hk.imp id .inl) (fun k hk => by
    rcases hk with hk | hk | hk
    · exact .inl (.inl hk)
    · exact .inr (.inl (.inr hk))
    · exact .inl (.inr (.inr hk)))
  refine ⟨⟨hA, ⟨by show w'.ownsRow B _ 2 p' (x.ps ++ [pr]).length _; rw [List.length_append]; exact hp, ow_moved h.on.q hm fun k hk hf => ?_, fun c hc => nd_moved (h.on.k c hc) hM⟩, h.gB, h.sep⟩, hM⟩
  rcases hf with rfl | hf
  · exact h.sep hk
  · exact apart_types h.on.p h.on.q tyPN k hf hk
/-- A kid has been added. -/
theorem nv_kid (h : NodeV w B g x) (c : KD) {q' : Value} (hA : Arr w' g 25 #[.string x.nm, x.p, q']) (hq : w'.ownsRow B 25 3 q' (x.kl.length + 1) (kdL (x.kl ++ [c])))
    (hm : Moved w w' (fun k => k = g ∨ ownS x.q k) (fun k => k = g ∨ ownS q' k)) (hs : q'.ownBlock ≠ some g) (hc : NdAt w (fun k => B ≤ k ∧ ¬ fpN g x k) c.nd c.y c.z) :
    NodeV w' B g ⟨x.nm, x.ps, x.kl ++ [c], x.p, q'⟩ ∧ Moved w w' (fpN g x) (fpN g ⟨x.nm, x.ps, x.kl ++ [c], x.p, q'⟩) := by
  have hM : Moved w w' (fpN g x) (fpN g ⟨x.nm, x.ps, x.kl ++ [c], x.p, q'⟩) := hm.inside (fun k hk => hk.imp id .inr) (fun k hk => by
    rcases hk with hk | hk | hk
    · exact .inl (.inl hk)
    · exact .inl (.inr (.inl hk))
    · exact .inr (.inl (.inr hk)))
  refine ⟨⟨hA, ⟨ow_moved h.on.p hm fun k hk hf => ?_, by show w'.ownsRow B _ 3 q' (x.kl ++ [c]).length _; rw [List.length_append]; exact hq, fun d hd => ?_⟩, h.gB, hs⟩, hM⟩
  · rcases hf with rfl | hf
    · exact ow_arr h.arr h.on.p (Ne.symm tyPN) hk.symm
    · exact apart_types h.on.p h.on.q tyPN k hk hf
  · rcases List.mem_append.1 hd with hd | hd
    · exact nd_moved (h.on.k d hd) hM
    · rw [List.mem_singleton] at hd; subst hd
      exact nd_moved hc hM
/-- It is done. -/
theorem nv_done (h : NodeV w B g x) : NdAt w (fun k => B ≤ k) x.nd x.p x.q := nd_of_on h.on (fun _ hk _ => hk) (fun k hk => (h.on.p.lt k hk).1) (fun k hk => (h.on.q.lt k hk).1)
end
end Go.Proofs.Ytgfdbmbgldeljaa
