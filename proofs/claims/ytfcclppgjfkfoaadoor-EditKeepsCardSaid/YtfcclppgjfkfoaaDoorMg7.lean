/- Trees in memory, and how a tree that came in is read. Conditions: values without a ring, as the row says. -/
import Derived.Test.YtfcclppgjfkfoaaDoorMg1
import Derived.Test.YtfcclppgjfkfoaaDoorProg
import Derived.Test.YtfcclppgjfkfoaaDoorMg2
import Derived.Test.YtfcclppgjfkfoaaDoorMg5
import Derived.WalkKit
import Derived.Deep.Slices
import Derived.ChangeArms
import Derived.Laws.OwnMore
import Derived.Deep.Onto
namespace Go.Proofs.YtfcclppgjfkfoaaDoor
open Go.RowKit

/-- A property lies at a place. -/
def PrAt (w : World) (b o : Nat) (x : PR) : Prop := w.cell? ⟨b, o, none⟩ = some (.string x.nm) ∧ w.cell? ⟨b, o + 1, none⟩ = some (.string x.vl)
/-- The slice at A, in a block of G, reads as the properties l. -/
def RdPr (w : World) (G : Nat → Prop) (A : Option Addr) (l : List PR) : Prop := l = [] ∨ ∃ b off, A = some ⟨b, off, none⟩ ∧ G b ∧ ∀ k, k < l.length → PrAt w b (off + k * 2) (l.getD k pr0)
/-- A node's name, and two slices, are a tree, all in blocks of G. -/
inductive NdAt (w : World) (G : Nat → Prop) : ND → Value → Value → Prop
  | mk (nm : ByteArray) (ps : List PR) (ks : List ND) (A K : Option Addr) (pc kc : Nat) (p q : Nat → Value)
      (hp : RdPr w G A ps) (hpc : ps.length ≤ pc) (hpm : pc ≤ maxLen) (hkc : ks.length ≤ kc) (hkm : kc ≤ maxLen)
      (hK : ks = [] ∨ ∃ b off, K = some ⟨b, off, none⟩ ∧ G b ∧ ∀ i, i < ks.length → w.cell? ⟨b, off + i * 3, none⟩ = some (.string (ks.getD i nd0).nm) ∧ w.cell? ⟨b, off + i * 3 + 1, none⟩ = some (p i) ∧ w.cell? ⟨b, off + i * 3 + 2, none⟩ = some (q i))
      (hk : ∀ i, i < ks.length → NdAt w G (ks.getD i nd0) (p i) (q i)) : NdAt w G (.mk nm ps ks) (.slice A ps.length pc) (.slice K ks.length kc)

theorem cell_kept {w w' : World} {F F' : Nat → Prop} (hm : Moved w w' F F') {b o : Nat} (hF : ¬ F b) {v : Value} (h : w.cell? ⟨b, o, none⟩ = some v) : w'.cell? ⟨b, o, none⟩ = some v := by
  have hlt : b < w.heap.size := World.block_lt_of_cell? w _ h
  rw [World.cell?_of_block (a := ⟨b, o, none⟩) (hm.block b hlt hF)]
  exact h
theorem RdPr.kept {w w' : World} {G F F' : Nat → Prop} {A : Option Addr} {l : List PR} (h : RdPr w G A l) (hm : Moved w w' F F') (hd : ∀ k, G k → ¬ F k) : RdPr w' G A l := by
  rcases h with h | ⟨b, off, rfl, hg, hc⟩
  · exact .inl h
  · exact .inr ⟨b, off, rfl, hg, fun k hk => ⟨cell_kept hm (hd b hg) (hc k hk).1, cell_kept hm (hd b hg) (hc k hk).2⟩⟩
theorem NdAt.kept {w w' : World} {G F F' : Nat → Prop} {n : ND} {v2 v3 : Value} (h : NdAt w G n v2 v3) (hm : Moved w w' F F') (hd : ∀ k, G k → ¬ F k) : NdAt w' G n v2 v3 := by
  induction h with
  | mk nm ps ks A K pc kc p q hp hpc hpm hkc hkm hK hk ih =>
    refine .mk nm ps ks A K pc kc p q (hp.kept hm hd) hpc hpm hkc hkm ?_ ih
    rcases hK with h | ⟨b, off, rfl, hg, hc⟩
    · exact .inl h
    · exact .inr ⟨b, off, rfl, hg, fun i hi => ⟨cell_kept hm (hd b hg) (hc i hi).1, cell_kept hm (hd b hg) (hc i hi).2.1, cell_kept hm (hd b hg) (hc i hi).2.2⟩⟩
theorem nd_below {w w' : World} {G : Nat → Prop} {n : ND} {v2 v3 : Value} (h : NdAt w G n v2 v3) (hb : Below w.heap.size w w') : NdAt w' G n v2 v3 := h.kept (Moved.of_below hb (fun _ => False)) (fun _ _ h => h)
theorem RdPr.below {w w' : World} {G : Nat → Prop} {A : Option Addr} {l : List PR} (h : RdPr w G A l) (hb : Below w.heap.size w w') : RdPr w' G A l := h.kept (Moved.of_below hb (fun _ => False)) (fun _ _ h => h)
theorem RdPr.mono {w : World} {G G' : Nat → Prop} {A : Option Addr} {l : List PR} (h : RdPr w G A l) (hg : ∀ k, G k → G' k) : RdPr w G' A l := by
  rcases h with h | ⟨b, off, rfl, hb, hc⟩
  · exact .inl h
  · exact .inr ⟨b, off, rfl, hg b hb, hc⟩
theorem NdAt.mono {w : World} {G G' : Nat → Prop} {n : ND} {v2 v3 : Value} (h : NdAt w G n v2 v3) (hg : ∀ k, G k → G' k) : NdAt w G' n v2 v3 := by
  induction h with
  | mk nm ps ks A K pc kc p q hp hpc hpm hkc hkm hK hk ih =>
    refine .mk nm ps ks A K pc kc p q (hp.mono hg) hpc hpm hkc hkm ?_ ih
    rcases hK with h | ⟨b, off, rfl, hb, hc⟩
    · exact .inl h
    · exact .inr ⟨b, off, rfl, hg b hb, hc⟩
theorem nd_lt {w : World} {G : Nat → Prop} {n : ND} {v2 v3 : Value} (h : NdAt w G n v2 v3) : NdAt w (fun k => k < w.heap.size) n v2 v3 := by
  induction h with
  | mk nm ps ks A K pc kc p q hp hpc hpm hkc hkm hK hk ih =>
    refine .mk nm ps ks A K pc kc p q ?_ hpc hpm hkc hkm ?_ ih
    · rcases hp with h | ⟨b, off, rfl, hb, hc⟩
      · exact .inl h
      · by_cases h0 : ps.length = 0
        · exact .inl (List.length_eq_zero_iff.1 h0)
        · exact .inr ⟨b, off, rfl, World.block_lt_of_cell? w _ (hc 0 (by omega)).1, hc⟩
    · rcases hK with h | ⟨b, off, rfl, hb, hc⟩
      · exact .inl h
      · by_cases h0 : ks.length = 0
        · exact .inl (List.length_eq_zero_iff.1 h0)
        · exact .inr ⟨b, off, rfl, World.block_lt_of_cell? w _ (hc 0 (by omega)).1, hc⟩
/-- A tree stays where one block beyond it has changed. -/
theorem nd_grown {w w' : World} {B g : Nat} {n : ND} {v2 v3 : Value} (h : NdAt w (fun k => k < B) n v2 v3) (hg : w.grownBy w' (some g)) (hB : B ≤ g) : NdAt w' (fun k => k < B) n v2 v3 :=
  h.kept (F := fun k => k = g) (F' := fun k => k = g) (Moved.grown hg (fun k hk => by injection hk with hk; exact hk.symm) (fun k hk => .inl hk)) (fun k hk e => by subst e; omega)
/-- A property of a slice. -/
theorem RdPr.at_ {w : World} {G : Nat → Prop} {A : Option Addr} {l : List PR} (h : RdPr w G A l) {k : Nat} (hk : k < l.length) : ∃ b off x, A = some ⟨b, off, none⟩ ∧ PrAt w b (off + k * 2) x ∧ Hid (l.getD k pr0 = x) := by
  rcases h with rfl | ⟨b, off, rfl, _, hc⟩
  · simp at hk
  · exact ⟨b, off, _, rfl, hc k hk, rfl⟩
/-- A tree's two slices. -/
theorem nd_shape {w : World} {G : Nat → Prop} {n : ND} {v2 v3 : Value} (h : NdAt w G n v2 v3) : ∃ A K pc kc, v2 = .slice A n.ps.length pc ∧ v3 = .slice K n.ks.length kc ∧ n.ps.length ≤ pc ∧ pc ≤ maxLen ∧ n.ks.length ≤ kc ∧ kc ≤ maxLen := by
  cases h with
  | mk nm ps ks A K pc kc p q hp hpc hpm hkc hkm hK hk => exact ⟨A, K, pc, kc, rfl, rfl, hpc, hpm, hkc, hkm⟩
theorem nd_prop {w : World} {G : Nat → Prop} {n : ND} {A : Option Addr} {l pc : Nat} {v3 : Value} (h : NdAt w G n (.slice A l pc) v3) {k : Nat} (hk : k < n.ps.length) : ∃ b off x, A = some ⟨b, off, none⟩ ∧ PrAt w b (off + k * 2) x ∧ Hid (n.ps.getD k pr0 = x) := by
  cases h with
  | mk nm ps ks A K pc kc p q hp => exact hp.at_ hk
/-- A kid of a node. -/
theorem nd_kid {w : World} {G : Nat → Prop} {n : ND} {v2 : Value} {K : Option Addr} {l kc : Nat} (h : NdAt w G n v2 (.slice K l kc)) {k : Nat} (hk : k < n.ks.length) :
    ∃ b off x y z, K = some ⟨b, off, none⟩ ∧ w.cell? ⟨b, off + k * 3, none⟩ = some (.string x.nm) ∧ w.cell? ⟨b, off + k * 3 + 1, none⟩ = some y ∧ w.cell? ⟨b, off + k * 3 + 2, none⟩ = some z ∧ NdAt w G x y z ∧ Hid (n.ks.getD k nd0 = x) := by
  cases h with
  | mk nm ps ks A K pc kc p q hp hpc hpm hkc hkm hK hk' =>
    rcases hK with rfl | ⟨b, off, rfl, _, hc⟩
    · simp [ND.ks] at hk
    · obtain ⟨h1, h2, h3⟩ := hc k hk
      exact ⟨b, off, _, _, _, rfl, h1, h2, h3, hk' k hk, rfl⟩
theorem nd_props {w : World} {G : Nat → Prop} {n : ND} {A : Option Addr} {l pc : Nat} {v3 : Value} (h : NdAt w G n (.slice A l pc) v3) : RdPr w G A n.ps ∧ l = n.ps.length := by
  cases h with
  | mk nm ps ks A K pc kc p q hp => exact ⟨hp, rfl⟩
end Go.Proofs.YtfcclppgjfkfoaaDoor

/- The document's Builder of trees in memory: what is open, the rows that it owns, and what each change of it leaves. No condition: nothing of the program stands in it but types. -/
namespace Go.Proofs.YtfcclppgjfkfoaaDoor
open Go.RowKit

/-- A kid that is closed: its tree, its two slices. -/
structure KD where
  nd : ND
  y : Value
  z : Value
def kd0 : KD := ⟨nd0, .slice none 0 0, .slice none 0 0⟩
/-- A node that is open: its name, properties, kids, and the two slices that it owns. -/
structure ON where
  nm : ByteArray
  ps : List PR
  kl : List KD
  p : Value
  q : Value
def ON.nd (x : ON) : ND := .mk x.nm x.ps (x.kl.map KD.nd)
def prl (x : PR) : List Value := [.string x.nm, .string x.vl]
def prL (l : List PR) : List Value := l.flatMap prl
def kdl (x : KD) : List Value := [.string x.nd.nm, x.y, x.z]
def kdL (l : List KD) : List Value := l.flatMap kdl
def onl (x : ON) : List Value := [.string x.nm, x.p, x.q]
def onL (l : List ON) : List Value := l.flatMap onl
theorem flat_len {α : Type} {f : α → List Value} {n : Nat} (hf : ∀ x, (f x).length = n) (l : List α) : (l.flatMap f).length = l.length * n := by
  induction l with
  | nil => simp
  | cons x l ih => rw [List.flatMap_cons, List.length_append, ih, hf, List.length_cons, Nat.add_mul, Nat.one_mul, Nat.add_comm]
theorem flat_at {α : Type} {f : α → List Value} {n : Nat} (hf : ∀ x, (f x).length = n) (d : α) (l : List α) {k j : Nat} (hk : k < l.length) (hj : j < n) : (l.flatMap f)[k * n + j]? = (f (l.getD k d))[j]? := by
  induction l generalizing k with
  | nil => simp at hk
  | cons x l ih =>
    rw [List.flatMap_cons]
    match k, hk with
    | 0, _ => rw [Nat.zero_mul, Nat.zero_add, List.getElem?_append_left (by rw [hf]; exact hj)]; rfl
    | k + 1, hk =>
      rw [List.getElem?_append_right (by rw [hf, Nat.add_mul, Nat.one_mul]; omega), hf, show (k + 1) * n + j - n = k * n + j by rw [Nat.add_mul, Nat.one_mul]; omega]
      exact ih (by simpa using hk)
theorem prL_at (l : List PR) {k j : Nat} (hk : k < l.length) (hj : j < 2) : (prL l)[k * 2 + j]? = (prl (l.getD k pr0))[j]? := flat_at (f := prl) (fun _ => rfl) pr0 l hk hj
theorem kdL_at (l : List KD) {k j : Nat} (hk : k < l.length) (hj : j < 3) : (kdL l)[k * 3 + j]? = (kdl (l.getD k kd0))[j]? := flat_at (f := kdl) (fun _ => rfl) kd0 l hk hj
def on0 : ON := ⟨ByteArray.empty, [], [], .slice none 0 0, .slice none 0 0⟩
theorem onL_at (l : List ON) {k j : Nat} (hk : k < l.length) (hj : j < 3) : (onL l)[k * 3 + j]? = (onl (l.getD k on0))[j]? := flat_at (f := onl) (fun _ => rfl) on0 l hk hj
theorem onL_len (l : List ON) : (onL l).length = l.length * 3 := flat_len (f := onl) (fun _ => rfl) l
theorem prL_app (l r : List PR) : prL (l ++ r) = prL l ++ prL r := by simp [prL]
theorem kdL_app (l r : List KD) : kdL (l ++ r) = kdL l ++ kdL r := by simp [kdL]
theorem onL_app (l r : List ON) : onL (l ++ r) = onL l ++ onL r := by simp [onL]
/-- The same block is not both slices'. -/
def Apart (v v' : Value) : Prop := ∀ k, v.ownBlock = some k → v'.ownBlock ≠ some k
theorem Apart.symm {v v' : Value} (h : Apart v v') : Apart v' v := fun k h1 h2 => h k h2 h1
theorem Apart.of_none {v v' : Value} (h : v.ownBlock = none) : Apart v v' := fun k hk => by rw [h] at hk; cases hk
theorem apart_types {w : World} {base base' e e' size size' n n' : Nat} {v v' : Value} {xs xs' : List Value} (h : w.ownsRow base e size v n xs) (h' : w.ownsRow base' e' size' v' n' xs') (hne : e ≠ e') : Apart v v' := fun k hk hk' => by
  rcases ow_ow h h' hne with h1 | h1
  · rw [h1] at hk; cases hk
  · exact h1 (hk.trans hk'.symm)
/-- A row that has changed, or is new, is apart from what the old one was apart from. -/
theorem Apart.moved {w : World} {u u' v : Value} (h : Apart u v) (hF : ∀ k, ownS u' k → ownS u k ∨ w.heap.size ≤ k) (hv : ∀ k, v.ownBlock = some k → k < w.heap.size) : Apart u' v := fun k hk hk' => by
  rcases hF k hk with h1 | h1
  · exact h k h1 hk'
  · have := hv k hk'; omega
/-- All that may change. -/
def fpO (g : Nat) (vo : Value) (L : List ON) (k : Nat) : Prop := k = g ∨ ownS vo k ∨ ∃ x ∈ L, ownS x.p k ∨ ownS x.q k
/-- An open node in memory. -/
structure OnAt (w : World) (B : Nat) (F : Nat → Prop) (x : ON) : Prop where
  p : w.ownsRow B 62 2 x.p x.ps.length (prL x.ps)
  q : w.ownsRow B 25 3 x.q x.kl.length (kdL x.kl)
  k : ∀ c ∈ x.kl, NdAt w (fun k => B ≤ k ∧ ¬ F k) c.nd c.y c.z
/-- A Builder's cells. -/
def bdC (vo : Value) (b : BD) (r2 r3 : Value) : Array Value := #[vo, .bool b.dn, .string b.rt.nm, r2, r3, .int .i64 (b.ns : Int), .int .i64 (b.pn : Int)]
theorem tyPN : 62 ≠ 25 := by decide
/-- A tree lies in blocks that are there. -/
theorem nd_and {w : World} {G : Nat → Prop} {n : ND} {v2 v3 : Value} (h : NdAt w G n v2 v3) : NdAt w (fun k => G k ∧ k < w.heap.size) n v2 v3 := by
  induction h with
  | mk nm ps ks A K pc kc p q hp hpc hpm hkc hkm hK hk ih =>
    refine .mk nm ps ks A K pc kc p q ?_ hpc hpm hkc hkm ?_ ih
    · rcases hp with h | ⟨b, off, rfl, hb, hc⟩
      · exact .inl h
      · by_cases h0 : ps.length = 0
        · exact .inl (List.length_eq_zero_iff.1 h0)
        · exact .inr ⟨b, off, rfl, ⟨hb, World.block_lt_of_cell? w _ (hc 0 (by omega)).1⟩, hc⟩
    · rcases hK with h | ⟨b, off, rfl, hb, hc⟩
      · exact .inl h
      · by_cases h0 : ks.length = 0
        · exact .inl (List.length_eq_zero_iff.1 h0)
        · exact .inr ⟨b, off, rfl, ⟨hb, World.block_lt_of_cell? w _ (hc 0 (by omega)).1⟩, hc⟩
/-- A closed tree beside what changes stays, and stays beside what may change next. -/
theorem nd_moved {w w' : World} {B : Nat} {F F' : Nat → Prop} {n : ND} {v2 v3 : Value} (h : NdAt w (fun k => B ≤ k ∧ ¬ F k) n v2 v3) (hm : Moved w w' F F') : NdAt w' (fun k => B ≤ k ∧ ¬ F' k) n v2 v3 :=
  ((nd_and h).kept hm (fun _ hk => hk.1.2)).mono fun k hk => ⟨hk.1.1, fun hf => by
    rcases hm.foot k hf with h1 | h1
    · exact hk.1.2 h1
    · have := hk.2; omega⟩
theorem ow_moved {w w' : World} {F F' : Nat → Prop} {base e size n : Nat} {v : Value} {xs : List Value} (h : w.ownsRow base e size v n xs) (hm : Moved w w' F F') (hn : ∀ k, v.ownBlock = some k → ¬ F k) : w'.ownsRow base e size v n xs := hm.row h hn
section
variable {w w' : World} {B g : Nat} {b b' : BD} {vo vo' r2 r3 : Value} {L : List ON}
theorem fp_g {L : List ON} {vo : Value} {g : Nat} : fpO g vo L g := .inl rfl
end
end Go.Proofs.YtfcclppgjfkfoaaDoor

/- What each change of the document's Builder leaves: a node is opened, a property is added, a node is closed, and becomes the root or a kid. No condition: nothing of the program stands in it but types. -/
namespace Go.Proofs.YtfcclppgjfkfoaaDoor
open Go.RowKit

theorem getD_app_lt {α : Type} {d : α} {l r : List α} {k : Nat} (hk : k < l.length) : (l ++ r).getD k d = l.getD k d := by
  rw [List.getD_eq_getElem?_getD, List.getElem?_append_left hk, ← List.getD_eq_getElem?_getD]
theorem getD_app_at {α : Type} {d x : α} {l : List α} : (l ++ [x]).getD l.length d = x := by
  rw [List.getD_eq_getElem?_getD, List.getElem?_append_right (Nat.le_refl _), Nat.sub_self]; rfl
/-- A slice's elements lie at its block, from its beginning on. -/
theorem row_form {w : World} {base e size n : Nat} {v : Value} {xs : List Value} (h : w.ownsRow base e size v n xs) : ∃ A cap, v = .slice A n cap ∧ n ≤ cap ∧ cap ≤ maxLen ∧ (n = 0 ∨ ∃ b, A = some ⟨b, 0, none⟩ ∧ v.ownBlock = some b ∧ ∀ j, j < n * size → w.cell? ⟨b, j, none⟩ = xs[j]?) := by
  rcases h.2 with ⟨rfl, rfl⟩ | ⟨b, cap, cur, rfl, hb, hg, hnc, hcm, hcs, hx⟩
  · exact ⟨none, 0, rfl, Nat.le_refl _, Nat.zero_le _, .inl rfl⟩
  · exact ⟨_, cap, rfl, hnc, hcm, .inr ⟨b, rfl, rfl, fun j hj => h.cellAt j hj⟩⟩
/-- An open node whose two slices are of G is a tree. -/
theorem nd_of_on {w : World} {B : Nat} {F : Nat → Prop} {G : Nat → Prop} {x : ON} (h : OnAt w B F x) (hG : ∀ k, B ≤ k → ¬ F k → G k) (hp : ∀ k, x.p.ownBlock = some k → G k) (hq : ∀ k, x.q.ownBlock = some k → G k) : NdAt w G x.nd x.p x.q := by
  obtain ⟨A, pc, ep, h1, h2, h3⟩ := row_form h.p
  obtain ⟨K, kc, eq_, g1, g2, g3⟩ := row_form h.q
  have hkl : (x.kl.map KD.nd).length = x.kl.length := List.length_map _
  have hget : ∀ i, i < x.kl.length → (x.kl.map KD.nd).getD i nd0 = (x.kl.getD i kd0).nd := fun i hi => by
    rw [List.getD_eq_getElem?_getD, List.getElem?_map, List.getD_eq_getElem?_getD, List.getElem?_eq_getElem hi]; rfl
  rw [ep, eq_]
  have M := @NdAt.mk w G x.nm x.ps (x.kl.map KD.nd) A K pc kc (fun i => (x.kl.getD i kd0).y) (fun i => (x.kl.getD i kd0).z)
    (by
      rcases h3 with h3 | ⟨b, rfl, hb, hc⟩
      · exact .inl (List.length_eq_zero_iff.1 h3)
      · refine .inr ⟨b, 0, rfl, hp b hb, fun k hk => ?_⟩
        refine ⟨?_, ?_⟩
        · rw [Nat.zero_add, show k * 2 = k * 2 + 0 from rfl, hc _ (by omega), prL_at x.ps hk (by omega)]; rfl
        · rw [Nat.zero_add, hc _ (by omega), prL_at x.ps hk (by omega)]; rfl)
    h1 h2 (by rw [hkl]; exact g1) g2
    (by
      rcases g3 with g3 | ⟨b, rfl, hb, hc⟩
      · exact .inl (List.length_eq_zero_iff.1 (by rw [hkl]; exact g3))
      · refine .inr ⟨b, 0, rfl, hq b hb, fun i hi => ?_⟩
        rw [hkl] at hi
        rw [hget i hi]
        refine ⟨?_, ?_, ?_⟩
        · rw [Nat.zero_add, show i * 3 = i * 3 + 0 from rfl, hc _ (by omega), kdL_at x.kl hi (by omega)]; rfl
        · rw [Nat.zero_add, hc _ (by omega), kdL_at x.kl hi (by omega)]; rfl
        · rw [Nat.zero_add, hc _ (by omega), kdL_at x.kl hi (by omega)]; rfl)
    (fun i hi => by
      rw [hkl] at hi
      rw [hget i hi]
      refine (h.k _ ?_).mono fun k hk => hG k hk.1 hk.2
      rw [List.getD_eq_getElem?_getD, List.getElem?_eq_getElem hi]
      exact List.getElem_mem hi)
  rw [hkl] at M
  exact M

section
variable {w w' : World} {B g : Nat} {b b' : BD} {vo vo' r2 r3 : Value} {L : List ON} {x y : ON}
theorem pair_cons {vo : Value} {L : List ON} (h : (vo :: L.map ON.q).Pairwise Apart) {x : ON} (hx : x ∈ L) : Apart vo x.q := (List.pairwise_cons.1 h).1 _ (List.mem_map_of_mem hx)
theorem pair_last {l : List Value} {v : Value} (h : (l ++ [v]).Pairwise Apart) {u : Value} (hu : u ∈ l) : Apart u v := (List.pairwise_append.1 h).2.2 u hu v (List.mem_singleton.2 rfl)
theorem pair_snoc {l : List Value} {v : Value} (h : l.Pairwise Apart) (hv : ∀ u ∈ l, Apart u v) : (l ++ [v]).Pairwise Apart :=
  List.pairwise_append.2 ⟨h, List.pairwise_singleton _ _, fun u hu v' hv' => by rw [List.mem_singleton.1 hv']; exact hv u hu⟩
theorem map_snoc {α β : Type} (f : α → β) (l : List α) (x : α) : (l ++ [x]).map f = l.map f ++ [f x] := by simp

/-- What may change has become less. -/
theorem fp_less {vo vo' : Value} (h : vo'.ownBlock = vo.ownBlock) {k : Nat} (hk : fpO g vo' L k) : fpO g vo (L ++ [y]) k := by
  rcases hk with hk | hk | ⟨x, hx, hk⟩
  · exact .inl hk
  · exact .inr (.inl (by unfold ownS at hk ⊢; rw [← h]; exact hk))
  · exact .inr (.inr ⟨x, List.mem_append_left _ hx, hk⟩)
end
end Go.Proofs.YtfcclppgjfkfoaaDoor

/- A slice of numbers of any kind that came in, read as a list. No condition: nothing of the program stands in it. -/
namespace Go.Proofs.YtfcclppgjfkfoaaDoor
open Go.RowKit

/-- The slice at A reads as the numbers l, of kind k. -/
def RdK (k : IntKind) (w : World) (A : Option Addr) (l : List Int) : Prop := l = [] ∨ ∃ b off, A = some ⟨b, off, none⟩ ∧ ∀ j, j < l.length → w.cell? ⟨b, off + j, none⟩ = some (.int k (l.getD j 0))
theorem RdK.at_ {k : IntKind} {w : World} {A : Option Addr} {l : List Int} (h : RdK k w A l) {j : Nat} (hj : j < l.length) : ∃ b off x, A = some ⟨b, off, none⟩ ∧ w.cell? ⟨b, off + j, none⟩ = some (.int k x) ∧ Hid (l.getD j 0 = x) := by
  rcases h with rfl | ⟨b, off, rfl, hc⟩
  · simp at hj
  · exact ⟨b, off, _, rfl, hc j hj, rfl⟩
theorem RdK.below {k : IntKind} {w w' : World} {A : Option Addr} {l : List Int} (h : RdK k w A l) (hb : Below w.heap.size w w') : RdK k w' A l := by
  rcases h with h | ⟨b, off, rfl, hc⟩
  · exact .inl h
  · exact .inr ⟨b, off, rfl, fun j hj => (World.cell?_of_block (a := ⟨b, off + j, none⟩) (hb.block b (World.block_lt_of_cell? w _ (hc j hj)))).trans (hc j hj)⟩
theorem cellK_below {w w' : World} {b o : Nat} {v : Value} (h : w.cell? ⟨b, o, none⟩ = some v) (hb : Below w.heap.size w w') : w'.cell? ⟨b, o, none⟩ = some v :=
  (World.cell?_of_block (a := ⟨b, o, none⟩) (hb.block b (World.block_lt_of_cell? w _ h))).trans h
end Go.Proofs.YtfcclppgjfkfoaaDoor
