/- A node that is being made, in a variable of a call's own: what each change of it leaves. No condition: nothing of the program stands in it but types. -/
import Derived.Test.YtfcclppgjfkfoaaGreatDoorMg6
import Derived.Test.YtfcclppgjfkfoaaGreatDoorMg25
import Derived.Test.YtfcclppgjfkfoaaGreatDoorMg14
import Derived.Test.YtfcclppgjfkfoaaGreatDoorMg18
namespace Go.Proofs.YtfcclppgjfkfoaaGreatDoor
open Go.RowKit

/-- What may change of a node that is being made. -/
def fpN (g : Nat) (x : ON) (k : Nat) : Prop := k = g ∨ ownS x.p k ∨ ownS x.q k
/-- Block g is a node that is being made, with two slices of its own. -/
structure NodeV (w : World) (B g : Nat) (x : ON) : Prop where
  arr : Arr w g 28 #[.string x.nm, x.p, x.q]
  on : OnAt w B (fpN g x) x
  gB : B ≤ g
  sep : x.q.ownBlock ≠ some g
section
variable {w w' : World} {B g : Nat} {x : ON}
theorem NodeV.low (h : NodeV w B g x) {k : Nat} (hk : fpN g x k) : B ≤ k := by
  rcases hk with rfl | hk | hk
  · exact h.gB
  · exact (h.on.p.lt k hk).1
  · exact (h.on.q.lt k hk).1
theorem NodeV.high (h : NodeV w B g x) {k : Nat} (hk : fpN g x k) : k < w.heap.size := by
  rcases hk with rfl | hk | hk
  · exact h.arr.lt
  · exact (h.on.p.lt k hk).2
  · exact (h.on.q.lt k hk).2
/-- What changes elsewhere, and what is new, leaves it. -/
theorem NodeV.apart {F F' : Nat → Prop} (h : NodeV w B g x) (hm : Moved w w' F F') (hF : ∀ k, F k → k < B) : NodeV w' B g x :=
  ⟨hm.arr h.arr (fun hf => by have := hF g hf; have := h.gB; omega),
   ⟨ow_moved h.on.p hm fun k hk hf => by have := hF k hf; have := (h.on.p.lt k hk).1; omega, ow_moved h.on.q hm fun k hk hf => by have := hF k hf; have := (h.on.q.lt k hk).1; omega,
    fun c hc => (h.on.k c hc).kept hm fun k hk hf => by have := hF k hf; have := hk.1; omega⟩, h.gB, h.sep⟩
theorem NodeV.below (h : NodeV w B g x) (hb : Below w.heap.size w w') : NodeV w' B g x := h.apart (F := fun _ => False) (F' := fun _ => False) (Moved.of_below hb _) (fun _ h => h.elim)
theorem nv_new {nm : ByteArray} (hA : Arr w g 28 #[.string nm, .slice none 0 0, .slice none 0 0]) (hB : B ≤ g) : NodeV w B g ⟨nm, [], [], .slice none 0 0, .slice none 0 0⟩ :=
  ⟨hA, ⟨World.ownsRow_nil _ _ _ _, World.ownsRow_nil _ _ _ _, fun c hc => absurd hc List.not_mem_nil⟩, hB, fun h => by cases h⟩
/-- A property has been added. -/
theorem nv_prop (h : NodeV w B g x) (pr : PR) {p' : Value} (hA : Arr w' g 28 #[.string x.nm, p', x.q]) (hp : w'.ownsRow B 92 2 p' (x.ps.length + 1) (prL (x.ps ++ [pr])))
    (hm : Moved w w' (fun k => k = g ∨ ownS x.p k) (fun k => k = g ∨ ownS p' k)) : NodeV w' B g ⟨x.nm, x.ps ++ [pr], x.kl, p', x.q⟩ ∧ Moved w w' (fpN g x) (fpN g ⟨x.nm, x.ps ++ [pr], x.kl, p', x.q⟩) := by
  have hM : Moved w w' (fpN g x) (fpN g ⟨x.nm, x.ps ++ [pr], x.kl, p', x.q⟩) := hm.inside (fun k hk => hk.imp id .inl) (fun k hk => by
    rcases hk with hk | hk | hk
    · exact .inl (.inl hk)
    · exact .inr (.inl (.inr hk))
    · exact .inl (.inr (.inr hk)))
  refine ⟨⟨hA, ⟨by show w'.ownsRow B _ 2 p' (x.ps ++ [pr]).length _; rw [List.length_append]; exact hp, ow_moved h.on.q hm fun k hk hf => ?_, fun c hc => nd_moved (h.on.k c hc) hM⟩, h.gB, h.sep⟩, hM⟩
  rcases hf with rfl | hf
  · exact h.sep hk
  · exact apart_types h.on.p h.on.q tyPN k hf hk
/-- A kid has been added. -/
theorem nv_kid (h : NodeV w B g x) (c : KD) {q' : Value} (hA : Arr w' g 28 #[.string x.nm, x.p, q']) (hq : w'.ownsRow B 28 3 q' (x.kl.length + 1) (kdL (x.kl ++ [c])))
    (hm : Moved w w' (fun k => k = g ∨ ownS x.q k) (fun k => k = g ∨ ownS q' k)) (hs : q'.ownBlock ≠ some g) (hc : NdAt w (fun k => B ≤ k ∧ ¬ fpN g x k) c.nd c.y c.z) :
    NodeV w' B g ⟨x.nm, x.ps, x.kl ++ [c], x.p, q'⟩ ∧ Moved w w' (fpN g x) (fpN g ⟨x.nm, x.ps, x.kl ++ [c], x.p, q'⟩) := by
  have hM : Moved w w' (fpN g x) (fpN g ⟨x.nm, x.ps, x.kl ++ [c], x.p, q'⟩) := hm.inside (fun k hk => hk.imp id .inr) (fun k hk => by
    rcases hk with hk | hk | hk
    · exact .inl (.inl hk)
    · exact .inl (.inr (.inl hk))
    · exact .inr (.inl (.inr hk)))
  refine ⟨⟨hA, ⟨ow_moved h.on.p hm fun k hk hf => ?_, by show w'.ownsRow B _ 3 q' (x.kl ++ [c]).length _; rw [List.length_append]; exact hq, fun d hd => ?_⟩, h.gB, hs⟩, hM⟩
  · rcases hf with rfl | hf
    · exact ow_arr h.arr h.on.p (Ne.symm tyPN) hk.symm
    · exact apart_types h.on.p h.on.q tyPN k hk hf
  · rcases List.mem_append.1 hd with hd | hd
    · exact nd_moved (h.on.k d hd) hM
    · rw [List.mem_singleton] at hd; subst hd
      exact nd_moved hc hM
/-- It is done. -/
theorem nv_done (h : NodeV w B g x) : NdAt w (fun k => B ≤ k) x.nd x.p x.q := nd_of_on h.on (fun _ hk _ => hk) (fun k hk => (h.on.p.lt k hk).1) (fun k hk => (h.on.q.lt k hk).1)
end
end Go.Proofs.YtfcclppgjfkfoaaGreatDoor

/- Trees of one's own whose parts lie in blocks of their own: what is changed in one kid is not changed in another. No condition: nothing of the program stands in it but types. -/
namespace Go.Proofs.YtfcclppgjfkfoaaGreatDoor
open Go.RowKit

/-- A tree of one's own, in blocks from a to b: each kid's blocks are from a place to a place, and no other part's. -/
inductive Sole (w : World) : Nat → Nat → ND → Value → Value → Prop
  | mk (a b : Nat) (nm : ByteArray) (ps : List PR) (kl : List KD) (p q : Value) (lo hi : Nat → Nat)
      (hp : w.ownsRow a 92 2 p ps.length (prL ps)) (hq : w.ownsRow a 28 3 q kl.length (kdL kl))
      (hpb : ∀ k, p.ownBlock = some k → k < b) (hqb : ∀ k, q.ownBlock = some k → k < b)
      (hin : ∀ i, i < kl.length → a ≤ lo i ∧ hi i ≤ b)
      (hd : ∀ i j, i < j → j < kl.length → hi i ≤ lo j)
      (hpo : ∀ k i, i < kl.length → p.ownBlock = some k → ¬ (lo i ≤ k ∧ k < hi i))
      (hqo : ∀ k i, i < kl.length → q.ownBlock = some k → ¬ (lo i ≤ k ∧ k < hi i))
      (hk : ∀ i, i < kl.length → Sole w (lo i) (hi i) (kl.getD i kd0).nd (kl.getD i kd0).y (kl.getD i kd0).z) : Sole w a b (.mk nm ps (kl.map KD.nd)) p q
theorem kd_getD {kl : List KD} {c : KD} (hc : c ∈ kl) : ∃ i, i < kl.length ∧ kl.getD i kd0 = c := by
  obtain ⟨i, hi, rfl⟩ := List.getElem_of_mem hc
  exact ⟨i, hi, by rw [List.getD_eq_getElem?_getD, List.getElem?_eq_getElem hi]; rfl⟩
/-- It is a tree that is read. -/
theorem sole_nd {w : World} {a b : Nat} {n : ND} {y z : Value} (h : Sole w a b n y z) : NdAt w (fun k => a ≤ k ∧ k < b) n y z := by
  induction h with
  | mk a b nm ps kl p q lo hi hp hq hpb hqb hin hd hpo hqo hk ih =>
    refine nd_of_on (w := w) (B := a) (F := fun k => b ≤ k) (x := ⟨nm, ps, kl, p, q⟩) ⟨hp, hq, fun c hc => ?_⟩ (fun k h1 h2 => ⟨h1, by omega⟩) (fun k hk => ⟨(hp.lt k hk).1, hpb k hk⟩) (fun k hk => ⟨(hq.lt k hk).1, hqb k hk⟩)
    obtain ⟨i, hi', rfl⟩ := kd_getD hc
    have := hin i hi'
    exact (ih i hi').mono fun k hk => ⟨by omega, by omega⟩
theorem Sole.kept {w w' : World} {F F' : Nat → Prop} {a b : Nat} {n : ND} {y z : Value} (h : Sole w a b n y z) (hm : Moved w w' F F') (hF : ∀ k, a ≤ k → k < b → ¬ F k) : Sole w' a b n y z := by
  induction h with
  | mk a b nm ps kl p q lo hi hp hq hpb hqb hin hd hpo hqo hk ih =>
    refine .mk a b nm ps kl p q lo hi (ow_moved hp hm fun k hk => hF k (hp.lt k hk).1 (hpb k hk)) (ow_moved hq hm fun k hk => hF k (hq.lt k hk).1 (hqb k hk)) hpb hqb hin hd hpo hqo fun i hi' => ih i hi' fun k h1 h2 => ?_
    have := hin i hi'
    exact hF k (by omega) (by omega)
theorem sole_below {w w' : World} {a b : Nat} {n : ND} {y z : Value} (h : Sole w a b n y z) (hb : Below w.heap.size w w') : Sole w' a b n y z := h.kept (F := fun _ => False) (Moved.of_below hb _) (fun _ _ _ h => h)
theorem Sole.wide {w : World} {a b a' b' : Nat} {n : ND} {y z : Value} (h : Sole w a b n y z) (ha : a' ≤ a) (hb : b ≤ b') : Sole w a' b' n y z := by
  cases h with
  | mk _ _ nm ps kl _ _ lo hi hp hq hpb hqb hin hd hpo hqo hk =>
    refine .mk a' b' nm ps kl y z lo hi (ow_base hp fun k hk => Nat.le_trans ha (hp.lt k hk).1) (ow_base hq fun k hk => Nat.le_trans ha (hq.lt k hk).1) (fun k hk => Nat.lt_of_lt_of_le (hpb k hk) hb) (fun k hk => Nat.lt_of_lt_of_le (hqb k hk) hb) (fun i hi' => ?_) hd hpo hqo hk
    have := hin i hi'
    exact ⟨by omega, by omega⟩
/-- The kids of a node that is being made are each a tree of one's own. -/
def KS (w : World) (B T g : Nat) (x : ON) : Prop := ∃ lo hi : Nat → Nat, (∀ i, i < x.kl.length → B ≤ lo i ∧ hi i ≤ T) ∧ (∀ i j, i < j → j < x.kl.length → hi i ≤ lo j) ∧ (∀ k i, i < x.kl.length → fpN g x k → ¬ (lo i ≤ k ∧ k < hi i)) ∧
  ∀ i, i < x.kl.length → Sole w (lo i) (hi i) (x.kl.getD i kd0).nd (x.kl.getD i kd0).y (x.kl.getD i kd0).z
theorem ks_new {w : World} {B T g : Nat} {nm : ByteArray} {ps : List PR} {p q : Value} : KS w B T g ⟨nm, ps, [], p, q⟩ :=
  ⟨fun _ => 0, fun _ => 0, fun _ h => absurd h (Nat.not_lt_zero _), fun _ _ _ h => absurd h (Nat.not_lt_zero _), fun _ _ h => absurd h (Nat.not_lt_zero _), fun _ h => absurd h (Nat.not_lt_zero _)⟩
theorem KS.below {w w' : World} {B T g : Nat} {x : ON} (h : KS w B T g x) (hb : Below w.heap.size w w') : KS w' B T g x := by
  obtain ⟨lo, hi, h1, h2, h3, h4⟩ := h
  exact ⟨lo, hi, h1, h2, h3, fun i hi' => sole_below (h4 i hi') hb⟩
theorem KS.up {w : World} {B T T' g : Nat} {x : ON} (h : KS w B T g x) (hT : T ≤ T') : KS w B T' g x := by
  obtain ⟨lo, hi, h1, h2, h3, h4⟩ := h
  exact ⟨lo, hi, fun i hi' => ⟨(h1 i hi').1, Nat.le_trans (h1 i hi').2 hT⟩, h2, h3, h4⟩
theorem ks_kid {w w' : World} {B T M g : Nat} {x : ON} {c : KD} {q' : Value} (h : KS w B T g x) (hc : Sole w T M c.nd c.y c.z) (hTM : T ≤ M) (hM : M ≤ w.heap.size) (hfp : ∀ k, fpN g x k → k < T) (hB : B ≤ T)
    (hm : Moved w w' (fun k => k = g ∨ ownS x.q k) (fun k => k = g ∨ ownS q' k)) : KS w' B M g ⟨x.nm, x.ps, x.kl ++ [c], x.p, q'⟩ := by
  obtain ⟨lo, hi, h1, h2, h3, h4⟩ := h
  have hfq : ∀ k, (k = g ∨ ownS x.q k) → fpN g x k := fun k hk => hk.imp id .inr
  have hlen : (x.kl ++ [c]).length = x.kl.length + 1 := by simp
  have hget : ∀ i, i < x.kl.length → (x.kl ++ [c]).getD i kd0 = x.kl.getD i kd0 := fun i hi' => getD_app_lt hi'
  have hgl : (x.kl ++ [c]).getD x.kl.length kd0 = c := getD_app_at
  refine ⟨fun i => if i < x.kl.length then lo i else T, fun i => if i < x.kl.length then hi i else M, fun i hi' => ?_, fun i j hij hj => ?_, fun k i hi' hk => ?_, fun i hi' => ?_⟩
  · by_cases e : i < x.kl.length
    · simp only [if_pos e]
      exact ⟨(h1 i e).1, Nat.le_trans (h1 i e).2 hTM⟩
    · simp only [if_neg e]
      exact ⟨hB, Nat.le_refl _⟩
  · simp only [hlen] at hj
    have e : i < x.kl.length := by omega
    simp only [if_pos e]
    by_cases e2 : j < x.kl.length
    · simp only [if_pos e2]; exact h2 i j hij e2
    · simp only [if_neg e2]; exact (h1 i e).2
  · have hk' : fpN g x k ∨ w.heap.size ≤ k := by
      rcases hk with hk | hk | hk
      · exact .inl (.inl hk)
      · exact .inl (.inr (.inl hk))
      · exact (hm.foot k (.inr hk)).imp (hfq k) id
    by_cases e : i < x.kl.length
    · simp only [if_pos e]
      rcases hk' with hk' | hk'
      · exact h3 k i e hk'
      · have := (h1 i e).2; omega
    · simp only [if_neg e]
      rcases hk' with hk' | hk'
      · have := hfp k hk'; omega
      · omega
  · simp only [hlen] at hi'
    by_cases e : i < x.kl.length
    · simp only [if_pos e, hget i e]
      exact (h4 i e).kept hm fun k a1 a2 hf => h3 k i e (hfq k hf) ⟨a1, a2⟩
    · obtain rfl : i = x.kl.length := by omega
      simp only [if_neg e, hgl]
      exact hc.kept hm fun k a1 a2 hf => by have := hfp k (hfq k hf); omega
theorem ks_done {w : World} {B T g : Nat} {x : ON} (h : KS w B T g x) (hV : NodeV w B g x) (hT : T ≤ w.heap.size) : Sole w B w.heap.size x.nd x.p x.q := by
  obtain ⟨lo, hi, h1, h2, h3, h4⟩ := h
  exact .mk B w.heap.size x.nm x.ps x.kl x.p x.q lo hi hV.on.p hV.on.q (fun k hk => (hV.on.p.lt k hk).2) (fun k hk => (hV.on.q.lt k hk).2) (fun i hi' => ⟨(h1 i hi').1, Nat.le_trans (h1 i hi').2 hT⟩) h2 (fun k i hi' hk => h3 k i hi' (.inr (.inl hk))) (fun k i hi' hk => h3 k i hi' (.inr (.inr hk))) h4
end Go.Proofs.YtfcclppgjfkfoaaGreatDoor

/- What a function that is passed down a tree of one's own must leave (ChangeOk), and what a change of a kid is to the node above. No condition: nothing of the program stands in it but types. -/
namespace Go.Proofs.YtfcclppgjfkfoaaGreatDoor
open Go.RowKit

/-- A node's cells in a block of nodes, and its tree, in blocks from lo to hi, apart from it. -/
structure At17 (w : World) (b o : Nat) (cur : Array Value) (lo hi : Nat) (n : ND) (p q : Value) : Prop where
  arr : Arr w b 28 cur
  c0 : cur[o]? = some (.string n.nm)
  c1 : cur[o + 1]? = some p
  c2 : cur[o + 2]? = some q
  sole : Sole w lo hi n p q
  apart : ¬ (lo ≤ b ∧ b < hi)
theorem At17.below {w w' : World} {b o lo hi : Nat} {cur : Array Value} {n : ND} {p q : Value} (h : At17 w b o cur lo hi n p q) (hb : Below w.heap.size w w') : At17 w' b o cur lo hi n p q :=
  ⟨h.arr.below hb h.arr.lt, h.c0, h.c1, h.c2, sole_below h.sole hb, h.apart⟩
/-- What a change leaves: other blocks as they were, of the node's block the other cells; and the changed tree, if it was changed. -/
def Post17 (w w' : World) (b o : Nat) (cur : Array Value) (lo hi : Nat) (T : ND × Nat) : Prop :=
  ∃ cur', Moved w w' (fun k => k = b ∨ (lo ≤ k ∧ k < hi)) (fun _ => False) ∧ Arr w' b 28 cur' ∧ cur'.size = cur.size ∧ (∀ j, j ≠ o + 1 → j ≠ o + 2 → cur'[j]? = cur[j]?) ∧
    (T.2 = 0 → ∃ p' q', cur'[o + 1]? = some p' ∧ cur'[o + 2]? = some q' ∧ NdAt w' (fun k => (lo ≤ k ∧ k < hi) ∨ w.heap.size ≤ k) T.1 p' q')
theorem post_no {w w' : World} {b o lo hi e : Nat} {cur : Array Value} {n m : ND} {p q : Value} (h : At17 w b o cur lo hi n p q) (hb : Below w.heap.size w w') (he : e ≠ 0) : Post17 w w' b o cur lo hi (m, e) :=
  ⟨cur, ((Moved.of_below hb (fun _ => False)).inside (fun _ h => h.elim) (fun _ h => h.elim)), h.arr.below hb h.arr.lt, rfl, fun _ _ _ => rfl, fun h => absurd h he⟩
theorem Post17.later {w w1 w' : World} {b o lo hi : Nat} {cur : Array Value} {T : ND × Nat} (hb : Below w.heap.size w w1) (h : Post17 w1 w' b o cur lo hi T) : Post17 w w' b o cur lo hi T := by
  obtain ⟨cur', h1, h2, h3, h4, h5⟩ := h
  refine ⟨cur', ((Moved.of_below hb (fun k => k = b ∨ (lo ≤ k ∧ k < hi))).trans h1), h2, h3, h4, fun h0 => ?_⟩
  obtain ⟨p', q', e1, e2, e3⟩ := h5 h0
  exact ⟨p', q', e1, e2, e3.mono fun k hk => hk.imp id (fun h => Nat.le_trans hb.size h)⟩
/-- v is a function value that does the change c at a node it is handed, wherever what was there ahead of it is as it was. -/
def ChangeOk (w0 : World) (v : Value) (c : CH) : Prop := ∃ f caps, v = .func (.func f) #[] caps ∧ (∀ (args : Array Value) (w : World), (callFunc f args).run Tryz.prog w = .ok (.enter f args) w) ∧
  ∀ w b o cur lo hi n p q, Below w0.heap.size w0 w → At17 w b o cur lo hi n p q → n.ps.length ≤ 1000000 → n.ks.length ≤ 1000000 →
    Calls Tryz.prog f (#[.pointer (some ⟨b, o, none⟩)] ++ caps) w fun e w' => e = .returned (.int .i64 ((hereR n c).2 : Nat)) ∧ Post17 w w' b o cur lo hi (hereR n c)

/-- The kid of a place: where its cells are, and what its change is to the node. -/
theorem at_kid {w : World} {b o lo hi i : Nat} {cur : Array Value} {n : ND} {p q : Value} (h : At17 w b o cur lo hi n p q) (hi' : i < n.ks.length) :
    ∃ bq kc curq l' h' y z, q = .slice (some ⟨bq, 0, none⟩) n.ks.length kc ∧ At17 w bq (i * 3) curq l' h' (n.ks.getD i nd0) y z ∧
      (∀ w' (T : ND × Nat), Post17 w w' bq (i * 3) curq l' h' T → T.2 = 0 → T.1.nm = (n.ks.getD i nd0).nm → Post17 w w' b o cur lo hi (.mk n.nm n.ps (n.ks.take i ++ T.1 :: n.ks.drop (i + 1)), 0)) ∧
      (∀ w' (T : ND × Nat) (e : Nat), Post17 w w' bq (i * 3) curq l' h' T → e ≠ 0 → Post17 w w' b o cur lo hi (nd0, e)) ∧
      (∀ w' (T : ND × Nat), Post17 w w' bq (i * 3) curq l' h' T → Arr w' b 28 cur) := by
  obtain ⟨harr, hc0, hc1, hc2, hs, hap⟩ := h
  cases hs with
  | mk _ _ nm ps kl _ _ lw hg hp hq hpb hqb hin hd hpo hqo hk =>
    have hlen : (ND.mk nm ps (kl.map KD.nd)).ks.length = kl.length := List.length_map _
    have hik : i < kl.length := by rwa [hlen] at hi'
    have hgd : ∀ j, j < kl.length → (ND.mk nm ps (kl.map KD.nd)).ks.getD j nd0 = (kl.getD j kd0).nd := fun j hj => by
      show (kl.map KD.nd).getD j nd0 = _
      rw [List.getD_eq_getElem?_getD, List.getElem?_map, List.getD_eq_getElem?_getD, List.getElem?_eq_getElem hj]; rfl
    have hqrow := hq
    rcases hq.2 with ⟨_, e⟩ | ⟨g, cap, curq, rfl, hb, hgq, hnc, hcm, hcs, htk⟩
    · omega
    have hcell : ∀ j, j < kl.length * 3 → curq[j]? = (kdL kl)[j]? := fun j hj => by
      rw [← htk, List.getElem?_take_of_lt hj, Array.getElem?_toList]
    have hgA : Arr w g 28 curq := hgq
    have hgb : g < hi := hqb g rfl
    have hik3 : i * 3 + 2 < kl.length * 3 := by omega
    have hin' := hin i hik
    have hbg : ¬ (b = g ∨ (lw i ≤ b ∧ b < hg i)) := fun e => by
      rcases e with e | e
      · exact hap ⟨by omega, by omega⟩
      · exact hap ⟨by omega, by omega⟩
    have hins : ∀ k, (k = g ∨ (lw i ≤ k ∧ k < hg i)) → (k = b ∨ (lo ≤ k ∧ k < hi)) := fun k hk => by
      rcases hk with hk | hk
      · exact .inr ⟨by omega, by omega⟩
      · exact .inr ⟨by omega, by omega⟩
    refine ⟨g, cap, curq, lw i, hg i, (kl.getD i kd0).y, (kl.getD i kd0).z, by rw [hlen], ⟨hgA, ?_, ?_, ?_, ?_, fun e => hqo g i hik rfl e⟩, fun w' T hT h0 hnm => ?_, fun w' T e hT he => ?_, fun w' T hT => ?_⟩
    · rw [hgd i hik, hcell _ (by omega), show i * 3 = i * 3 + 0 from rfl, kdL_at kl hik (by omega)]; rfl
    · rw [hcell _ (by omega), kdL_at kl hik (by omega)]; rfl
    · rw [hcell _ (by omega), kdL_at kl hik (by omega)]; rfl
    · rw [hgd i hik]; exact hk i hik
    · obtain ⟨c', hm, ha, hsz, hfr, hok⟩ := hT
      obtain ⟨p', q', e1, e2, hnd⟩ := hok h0
      rw [hgd i hik] at hnm
      have hpr := ow_moved hp hm fun k hk' hf => by
        rcases hf with e | e
        · exact apart_types hp hqrow tyPN k hk' (by rw [e]; rfl)
        · exact hpo k i hik hk' e
      have hset : ∀ j, j < kl.length → (kl.set i ⟨T.1, p', q'⟩).getD j kd0 = if i = j then ⟨T.1, p', q'⟩ else kl.getD j kd0 := fun j hj => by
        rw [List.getD_eq_getElem?_getD, List.getElem?_set]
        by_cases e : i = j
        · rw [if_pos e, if_pos e, if_pos (by omega)]; rfl
        · rw [if_neg e, if_neg e, ← List.getD_eq_getElem?_getD]
      have hl2 : (kl.set i ⟨T.1, p', q'⟩).length = kl.length := List.length_set
      have hkl3 : (kdL (kl.set i ⟨T.1, p', q'⟩)).length = kl.length * 3 := by rw [kdL, flat_len (f := kdl) (n := 3) (fun _ => rfl), hl2]
      have hrow : w'.ownsRow lo 28 3 (.slice (some ⟨g, 0, none⟩) kl.length cap) (kl.set i ⟨T.1, p', q'⟩).length (kdL (kl.set i ⟨T.1, p', q'⟩)) := by
        rw [hl2]
        refine ⟨hkl3, .inr ⟨g, cap, c', rfl, hb, ha, hnc, hcm, by rw [hsz, hcs], ?_⟩⟩
        apply List.ext_getElem?
        intro j
        by_cases hj : j < kl.length * 3
        · rw [List.getElem?_take_of_lt hj, Array.getElem?_toList]
          have hj3 : j / 3 < kl.length := by omega
          have hat := kdL_at (kl.set i ⟨T.1, p', q'⟩) (k := j / 3) (j := j % 3) (by rw [hl2]; exact hj3) (by omega)
          rw [show j / 3 * 3 + j % 3 = j by omega, hset _ hj3] at hat
          rw [hat]
          have hat0 := kdL_at kl (k := j / 3) (j := j % 3) hj3 (by omega)
          rw [show j / 3 * 3 + j % 3 = j by omega] at hat0
          by_cases e : i = j / 3
          · rw [if_pos e]
            have hm3 : j % 3 = 0 ∨ j % 3 = 1 ∨ j % 3 = 2 := by omega
            rcases hm3 with hm3 | hm3 | hm3
            · rw [hfr j (by omega) (by omega), hcell j hj, hat0, ← e, hm3]
              show some (Value.string (kl.getD i kd0).nd.nm) = some (Value.string T.1.nm)
              rw [hnm]
            · rw [hm3, show j = i * 3 + 1 by omega, e1]; rfl
            · rw [hm3, show j = i * 3 + 2 by omega, e2]; rfl
          · rw [if_neg e, hfr j (by omega) (by omega), hcell j hj, hat0]
        · rw [List.getElem?_eq_none (by rw [List.length_take]; omega), List.getElem?_eq_none (by rw [hkl3]; omega)]
      obtain ⟨A, pc, rfl, hpr', h1, h2⟩ := rdPr_row (fun k => (lo ≤ k ∧ k < hi) ∨ w.heap.size ≤ k) hpr (fun k hk' => .inl ⟨(hp.lt k hk').1, hpb k hk'⟩)
      refine ⟨cur, hm.inside hins (fun _ h => h.elim), hm.arr harr hbg, rfl, fun _ _ _ => rfl, fun _ => ⟨_, _, hc1, hc2, ?_⟩⟩
      have hnew := nd_make (nm := nm) hpr' h1 h2 hrow (fun k hk' => by injection hk' with hk'; subst hk'; exact .inl ⟨hb, hgb⟩) (fun c hc => by
        obtain ⟨j, hj, rfl⟩ := kd_getD hc
        rw [hl2] at hj
        rw [hset j hj]
        by_cases e : i = j
        · rw [if_pos e]
          exact hnd.mono fun k hk' => hk'.imp (fun h => ⟨by omega, by omega⟩) id
        · rw [if_neg e]
          have hij := hin j hj
          refine (sole_nd ((hk j hj).kept hm fun k a1 a2 hf => ?_)).mono fun k hk' => .inl ⟨by omega, by omega⟩
          rcases hf with hf | hf
          · exact hqo g j hj rfl ⟨by omega, by omega⟩
          · rcases Nat.lt_or_gt_of_ne e with e | e
            · have := hd i j e hj; omega
            · have := hd j i e hik; omega)
      have hmap : (kl.set i ⟨T.1, p', q'⟩).map KD.nd = (kl.map KD.nd).take i ++ T.1 :: (kl.map KD.nd).drop (i + 1) := by
        rw [List.map_set, List.set_eq_take_append_cons_drop, if_pos (by rw [List.length_map]; exact hik)]
      rw [hmap] at hnew
      exact hnew
    · obtain ⟨c', hm, ha, hsz, hfr, hok⟩ := hT
      exact ⟨cur, hm.inside hins (fun _ h => h.elim), hm.arr harr hbg, rfl, fun _ _ _ => rfl, fun h0 => absurd h0 he⟩
    · obtain ⟨c', hm, _⟩ := hT
      exact hm.arr harr hbg
/-- Where the first kid of a name is, in plain words. -/
theorem ix_kid {n : ND} {s : ByteArray} {r : Int} (h : IxIs (fun x : ND => decide (x.nm = s)) nd0 n.ks r) : (r = -1 ∧ kidR n s = none) ∨ ∃ k : Nat, r = (k : Int) ∧ k < n.ks.length ∧ kidR n s = some (n.ks.getD k nd0) ∧ (n.ks.getD k nd0).nm = s ∧ (∀ m, replR s m n.ks = n.ks.take k ++ m :: n.ks.drop (k + 1)) ∧ withoutR s n.ks = n.ks.take k ++ n.ks.drop (k + 1) := by
  rcases h with ⟨h1, h2⟩ | ⟨k, h1, h2, h3, h4⟩
  · exact .inl ⟨h1, find_none (f := fun x : ND => decide (x.nm = s)) (d := nd0) h2⟩
  · have hn := of_decide_eq_true h3
    exact .inr ⟨k, h1, h2, find_take (f := fun x : ND => decide (x.nm = s)) (d := nd0) h2 h4 h3, hn, fun m => repl_hit h2 h4 hn, without_hit h2 h4 hn⟩
end Go.Proofs.YtfcclppgjfkfoaaGreatDoor

/- What edit's allowed returns; what is left where a node's properties, or its kids, have been changed in place. Conditions: names of at most 2^40 bytes. -/
namespace Go.Proofs.YtfcclppgjfkfoaaGreatDoor
open Go.RowKit Go.Maps Go.WideMaps

set_option maxHeartbeats 800000 in
set_option maxRecDepth 100000 in
theorem allowed_any (s : ByteArray) (w : World) (hs : s.size ≤ maxLen) : Calls Tryz.prog 44 #[.string s] w fun e w' => e = .returned (.bool (mayB s)) ∧ Below w.heap.size w w' := by
  obtain ⟨W1, hW1⟩ : ∃ W1, W1 = w.alloc (.cells #[.slice none 0 0, .map none, .int .i64 0] 113) := ⟨_, rfl⟩
  obtain ⟨g, hg⟩ : ∃ g, g = w.heap.size := ⟨_, rfl⟩
  have hB : Below w.heap.size w W1 := by rw [hW1]; exact (Below.refl _ _).alloc (Nat.le_refl _) _
  have hK : BK W1 g (.slice none 0 0) none [] := .inl ⟨rfl, rfl, rfl, by rw [hW1, hg]; exact Arr.new _ _ _⟩
  have hC := sadd_any g (.slice none 0 0) none [] s W1 hK hs (by decide)
  have HC := Lib.hid hC
  have HB := Lib.hid hB
  have HG : Hid (∀ k, fpB g (.slice none 0 0) none k → w.heap.size ≤ k) := fun k hk => by
    rcases hk with hk | hk | hk
    · omega
    · cases hk
    · cases hk
  have HE : Hid (((((addV [] s).2 : Nat) : Int) == 0) = mayB s) := by
    unfold Hid addV
    cases mayB s <;> rfl
  generalize addV [] s = T at *
  obtain ⟨T1, T2⟩ := T
  simp only at HC HE
  clear hB hK hC
  go_enter Tryz.func44, Tryz.ntmps44
  go_upto_region 2 with fail
  change Code.wp _ _ _ _ (w.alloc (.cells #[.slice none 0 0, .map none, .int .i64 0] 113))
  rw [← hW1, ← hg]
  clear hW1 hg
  go_wp2_with fail
  refine HC.out.mono ?_
  rintro e w2 ⟨rfl, v', m', _, hm⟩
  have HF := Lib.hid (HB.out.trans (hm.below (B := w.heap.size) HG.out HB.out.size))
  clear hm HC HG
  go_wp2
  go_ret
  exact ⟨by rw [← HE.out]; rfl, HF.out⟩

/-- A node's properties have been changed. -/
theorem post_props {w w3 : World} {b o lo hi B : Nat} {cur cur' : Array Value} {n : ND} {p q p' : Value} {ps' : List PR} (h : At17 w b o cur lo hi n p q) (hm : Moved w w3 (fun k => k = b ∨ ownS p k) (fun k => k = b ∨ ownS p' k)) (ha : Arr w3 b 28 cur') (hsz : cur'.size = cur.size)
    (hfr : ∀ j, j ≠ o + 1 → cur'[j]? = cur[j]?) (h1 : cur'[o + 1]? = some p') (hrow : w3.ownsRow B 92 2 p' ps'.length (prL ps')) : Post17 w w3 b o cur lo hi (.mk n.nm ps' n.ks, 0) := by
  obtain ⟨harr, hc0, hc1, hc2, hs, hap⟩ := h
  have hG : ∀ k, p'.ownBlock = some k → (lo ≤ k ∧ k < hi) ∨ w.heap.size ≤ k := fun k hk => by
    rcases hm.foot k (.inr hk) with (hf | hf) | hf
    · subst hf
      exact absurd hk (fun e => ow_arr ha hrow (Ne.symm tyPN) e.symm)
    · cases hs with
      | mk _ _ nm ps kl _ _ lw hg hp hq hpb hqb hin hd hpo hqo hk' => exact .inl ⟨(hp.lt k hf).1, hpb k hf⟩
    · exact .inr hf
  cases hs with
  | mk _ _ nm ps kl _ _ lw hg hp hq hpb hqb hin hd hpo hqo hk =>
    have hno : ∀ k, (k = b ∨ ownS p k) → (k = b ∨ (lo ≤ k ∧ k < hi)) := fun k hk' => hk'.imp id fun e => ⟨(hp.lt k e).1, hpb k e⟩
    refine ⟨cur', hm.inside hno (fun _ h => h.elim), ha, hsz, fun j a _ => hfr j a, fun _ => ⟨p', q, h1, by rw [hfr _ (by omega)]; exact hc2, ?_⟩⟩
    obtain ⟨A, pc, rfl, hpr', l1, l2⟩ := rdPr_row (fun k => (lo ≤ k ∧ k < hi) ∨ w.heap.size ≤ k) hrow hG
    refine nd_make (nm := nm) hpr' l1 l2 (ow_moved hq hm fun k hk' hf => ?_) (fun k hk' => .inl ⟨(hq.lt k hk').1, hqb k hk'⟩) (fun c hc => ?_)
    · rcases hf with rfl | hf
      · exact hap ⟨(hq.lt _ hk').1, hqb _ hk'⟩
      · exact apart_types hp hq tyPN k hf hk'
    · obtain ⟨j, hj, rfl⟩ := kd_getD hc
      have hij := hin j hj
      refine (sole_nd ((hk j hj).kept hm fun k a1 a2 hf => ?_)).mono fun k hk' => .inl ⟨by omega, by omega⟩
      rcases hf with rfl | hf
      · exact hap ⟨by omega, by omega⟩
      · exact hpo k j hj hf ⟨a1, a2⟩
/-- A node's kids have been changed. -/
theorem post_kids {w : World} {b o lo hi : Nat} {cur : Array Value} {n : ND} {p q : Value} (h : At17 w b o cur lo hi n p q) : ∃ kl : List KD, kl.map KD.nd = n.ks ∧ w.ownsRow lo 28 3 q kl.length (kdL kl) ∧ (∀ x ∈ kdL kl, x.oneCell' = true) ∧ q.ownBlock ≠ some b ∧
    ∀ (w3 : World) (kl' : List KD) (q' : Value) (cur' : Array Value) (B : Nat), Moved w w3 (fun k => k = b ∨ ownS q k) (fun k => k = b ∨ ownS q' k) → Arr w3 b 28 cur' → cur'.size = cur.size → (∀ j, j ≠ o + 2 → cur'[j]? = cur[j]?) → cur'[o + 2]? = some q' → q'.ownBlock ≠ some b →
      w3.ownsRow B 28 3 q' kl'.length (kdL kl') → (∀ c ∈ kl', c ∈ kl ∨ ∃ nm, c = ⟨.mk nm [] [], .slice none 0 0, .slice none 0 0⟩) → Post17 w w3 b o cur lo hi (.mk n.nm n.ps (kl'.map KD.nd), 0) := by
  obtain ⟨harr, hc0, hc1, hc2, hs, hap⟩ := h
  cases hs with
  | mk _ _ nm ps kl _ _ lw hg hp hq hpb hqb hin hd hpo hqo hk =>
    have hqn : q.ownBlock ≠ some b := fun e => hap ⟨(hq.lt _ e).1, hqb _ e⟩
    refine ⟨kl, rfl, hq, fun x hx => ?_, hqn, fun w3 kl' q' cur' B hm ha hsz hfr h2 hqn' hrow hk' => ?_⟩
    · obtain ⟨c, hc, hx⟩ := List.mem_flatMap.1 hx
      obtain ⟨j, hj, rfl⟩ := kd_getD hc
      obtain ⟨ya, za, yc, zc, e1, e2, _⟩ := nd_shape (sole_nd (hk j hj))
      unfold kdl at hx
      rw [e1, e2] at hx
      simp at hx
      rcases hx with rfl | rfl | rfl <;> rfl
    have hno : ∀ k, (k = b ∨ ownS q k) → (k = b ∨ (lo ≤ k ∧ k < hi)) := fun k hk' => hk'.imp id fun e => ⟨(hq.lt k e).1, hqb k e⟩
    refine ⟨cur', hm.inside hno (fun _ h => h.elim), ha, hsz, fun j _ a => hfr j a, fun _ => ⟨p, q', by rw [hfr _ (by omega)]; exact hc1, h2, ?_⟩⟩
    have hp3 := ow_moved hp hm fun k hk' hf => by
      rcases hf with rfl | hf
      · exact hap ⟨(hp.lt _ hk').1, hpb _ hk'⟩
      · exact apart_types hp hq tyPN k hk' hf
    obtain ⟨A, pc, rfl, hpr', l1, l2⟩ := rdPr_row (fun k => (lo ≤ k ∧ k < hi) ∨ w.heap.size ≤ k) hp3 (fun k hk' => .inl ⟨(hp.lt k hk').1, hpb k hk'⟩)
    refine nd_make (nm := nm) hpr' l1 l2 hrow (fun k hk' => ?_) (fun c hc => ?_)
    · rcases hm.foot k (.inr hk') with (hf | hf) | hf
      · subst hf; exact absurd hk' hqn'
      · exact .inl ⟨(hq.lt k hf).1, hqb k hf⟩
      · exact .inr hf
    · rcases hk' c hc with hc | ⟨nm', rfl⟩
      · obtain ⟨j, hj, rfl⟩ := kd_getD hc
        have hij := hin j hj
        refine (sole_nd ((hk j hj).kept hm fun k a1 a2 hf => ?_)).mono fun k hk' => .inl ⟨by omega, by omega⟩
        rcases hf with rfl | hf
        · exact hap ⟨by omega, by omega⟩
        · exact hqo k j hj hf ⟨a1, a2⟩
      · exact nd_leaf _ _ _
/-- A node's own properties. -/
theorem at_props {w : World} {b o lo hi : Nat} {cur : Array Value} {n : ND} {p q : Value} (h : At17 w b o cur lo hi n p q) : w.ownsRow lo 92 2 p n.ps.length (prL n.ps) ∧ p.ownBlock ≠ some b := by
  obtain ⟨harr, hc0, hc1, hc2, hs, hap⟩ := h
  cases hs with
  | mk _ _ nm ps kl _ _ lw hg hp hq hpb hqb hin hd hpo hqo hk => exact ⟨hp, fun e => hap ⟨(hp.lt _ e).1, hpb _ e⟩⟩
theorem at_shape {w : World} {b o lo hi : Nat} {cur : Array Value} {n : ND} {p q : Value} (h : At17 w b o cur lo hi n p q) : ∃ A K pc kc, p = .slice A n.ps.length pc ∧ q = .slice K n.ks.length kc ∧ w.cell? ⟨b, o, none⟩ = some (.string n.nm) ∧ w.cell? ⟨b, o + 1, none⟩ = some (.slice A n.ps.length pc) ∧ w.cell? ⟨b, o + 2, none⟩ = some (.slice K n.ks.length kc) ∧
    NdAt w (fun k => lo ≤ k ∧ k < hi) n (.slice A n.ps.length pc) (.slice K n.ks.length kc) ∧ w.frozen? ⟨b, o + 1, none⟩ = false ∧ w.frozen? ⟨b, o + 2, none⟩ = false := by
  have hn := sole_nd h.sole
  obtain ⟨A, K, pc, kc, rfl, rfl, _⟩ := nd_shape hn
  exact ⟨A, K, pc, kc, rfl, rfl, by rw [h.arr.cell]; exact h.c0, by rw [h.arr.cell]; exact h.c1, by rw [h.arr.cell]; exact h.c2, hn, h.arr.frozen _, h.arr.frozen _⟩
end Go.Proofs.YtfcclppgjfkfoaaGreatDoor
