/- The document's Builder of trees in memory: what is open, the rows that it owns, and what each change of it leaves. No condition: nothing of the program stands in it but types. -/
import Derived.Test.YtmgfnghegcfhnaaMg10
import Derived.Test.YtmgfnghegcfhnaaMg16
import Derived.Laws.OwnMore
import Derived.Deep.Onto
namespace Go.Proofs.Ytmgfnghegcfhnaa
open Go.RowKit

/-- A kid that is closed: its tree, its two slices. -/
structure KD where
  nd : ND
  y : Value
  z : Value
def kd0 : KD := ⟨nd0, .slice none 0 0, .slice none 0 0⟩
/-- A node that is open: its name, properties, kids, and the two slices that it owns. -/
structure ON where
  nm : ByteArray
  ps : List PR
  kl : List KD
  p : Value
  q : Value
def ON.nd (x : ON) : ND := .mk x.nm x.ps (x.kl.map KD.nd)
def prl (x : PR) : List Value := [.string x.nm, .string x.vl]
def prL (l : List PR) : List Value := l.flatMap prl
def kdl (x : KD) : List Value := [.string x.nd.nm, x.y, x.z]
def kdL (l : List KD) : List Value := l.flatMap kdl
def onl (x : ON) : List Value := [.string x.nm, x.p, x.q]
def onL (l : List ON) : List Value := l.flatMap onl
theorem flat_len {α : Type} {f : α → List Value} {n : Nat} (hf : ∀ x, (f x).length = n) (l : List α) : (l.flatMap f).length = l.length * n := by
  induction l with
  | nil => simp
  | cons x l ih => rw [List.flatMap_cons, List.length_append, ih, hf, List.length_cons, Nat.add_mul, Nat.one_mul, Nat.add_comm]
theorem flat_at {α : Type} {f : α → List Value} {n : Nat} (hf : ∀ x, (f x).length = n) (d : α) (l : List α) {k j : Nat} (hk : k < l.length) (hj : j < n) : (l.flatMap f)[k * n + j]? = (f (l.getD k d))[j]? := by
  induction l generalizing k with
  | nil => simp at hk
  | cons x l ih =>
    rw [List.flatMap_cons]
    match k, hk with
    | 0, _ => rw [Nat.zero_mul, Nat.zero_add, List.getElem?_append_left (by rw [hf]; exact hj)]; rfl
    | k + 1, hk =>
      rw [List.getElem?_append_right (by rw [hf, Nat.add_mul, Nat.one_mul]; omega), hf, show (k + 1) * n + j - n = k * n + j by rw [Nat.add_mul, Nat.one_mul]; omega]
      exact ih (by simpa using hk)
theorem prL_at (l : List PR) {k j : Nat} (hk : k < l.length) (hj : j < 2) : (prL l)[k * 2 + j]? = (prl (l.getD k pr0))[j]? := flat_at (f := prl) (fun _ => rfl) pr0 l hk hj
theorem kdL_at (l : List KD) {k j : Nat} (hk : k < l.length) (hj : j < 3) : (kdL l)[k * 3 + j]? = (kdl (l.getD k kd0))[j]? := flat_at (f := kdl) (fun _ => rfl) kd0 l hk hj
def on0 : ON := ⟨ByteArray.empty, [], [], .slice none 0 0, .slice none 0 0⟩
theorem onL_at (l : List ON) {k j : Nat} (hk : k < l.length) (hj : j < 3) : (onL l)[k * 3 + j]? = (onl (l.getD k on0))[j]? := flat_at (f := onl) (fun _ => rfl) on0 l hk hj
theorem onL_len (l : List ON) : (onL l).length = l.length * 3 := flat_len (f := onl) (fun _ => rfl) l
theorem prL_app (l r : List PR) : prL (l ++ r) = prL l ++ prL r := by simp [prL]
theorem kdL_app (l r : List KD) : kdL (l ++ r) = kdL l ++ kdL r := by simp [kdL]
theorem onL_app (l r : List ON) : onL (l ++ r) = onL l ++ onL r := by simp [onL]
/-- The same block is not both slices'. -/
def Apart (v v' : Value) : Prop := ∀ k, v.ownBlock = some k → v'.ownBlock ≠ some k
theorem Apart.symm {v v' : Value} (h : Apart v v') : Apart v' v := fun k h1 h2 => h k h2 h1
theorem Apart.of_none {v v' : Value} (h : v.ownBlock = none) : Apart v v' := fun k hk => by rw [h] at hk; cases hk
theorem apart_types {w : World} {base base' e e' size size' n n' : Nat} {v v' : Value} {xs xs' : List Value} (h : w.ownsRow base e size v n xs) (h' : w.ownsRow base' e' size' v' n' xs') (hne : e ≠ e') : Apart v v' := fun k hk hk' => by
  rcases ow_ow h h' hne with h1 | h1
  · rw [h1] at hk; cases hk
  · exact h1 (hk.trans hk'.symm)
/-- A row that has changed, or is new, is apart from what the old one was apart from. -/
theorem Apart.moved {w : World} {u u' v : Value} (h : Apart u v) (hF : ∀ k, ownS u' k → ownS u k ∨ w.heap.size ≤ k) (hv : ∀ k, v.ownBlock = some k → k < w.heap.size) : Apart u' v := fun k hk hk' => by
  rcases hF k hk with h1 | h1
  · exact h k h1 hk'
  · have := hv k hk'; omega
/-- All that may change. -/
def fpO (g : Nat) (vo : Value) (L : List ON) (k : Nat) : Prop := k = g ∨ ownS vo k ∨ ∃ x ∈ L, ownS x.p k ∨ ownS x.q k
/-- An open node in memory. -/
structure OnAt (w : World) (B : Nat) (F : Nat → Prop) (x : ON) : Prop where
  p : w.ownsRow B 42 2 x.p x.ps.length (prL x.ps)
  q : w.ownsRow B 29 3 x.q x.kl.length (kdL x.kl)
  k : ∀ c ∈ x.kl, NdAt w (fun k => B ≤ k ∧ ¬ F k) c.nd c.y c.z
/-- A Builder's cells. -/
def bdC (vo : Value) (b : BD) (r2 r3 : Value) : Array Value := #[vo, .bool b.dn, .string b.rt.nm, r2, r3, .int .i64 (b.ns : Int), .int .i64 (b.pn : Int)]
theorem tyPN : 42 ≠ 29 := by decide
/-- A tree lies in blocks that are there. -/
theorem nd_and {w : World} {G : Nat → Prop} {n : ND} {v2 v3 : Value} (h : NdAt w G n v2 v3) : NdAt w (fun k => G k ∧ k < w.heap.size) n v2 v3 := by
  induction h with
  | mk nm ps ks A K pc kc p q hp hpc hpm hkc hkm hK hk ih =>
    refine .mk nm ps ks A K pc kc p q ?_ hpc hpm hkc hkm ?_ ih
    · rcases hp with h | ⟨b, off, rfl, hb, hc⟩
      · exact .inl h
      · by_cases h0 : ps.length = 0
        · exact .inl (List.length_eq_zero_iff.1 h0)
        · exact .inr ⟨b, off, rfl, ⟨hb, World.block_lt_of_cell? w _ (hc 0 (by omega)).1⟩, hc⟩
    · rcases hK with h | ⟨b, off, rfl, hb, hc⟩
      · exact .inl h
      · by_cases h0 : ks.length = 0
        · exact .inl (List.length_eq_zero_iff.1 h0)
        · exact .inr ⟨b, off, rfl, ⟨hb, World.block_lt_of_cell? w _ (hc 0 (by omega)).1⟩, hc⟩
/-- A closed tree beside what changes stays, and stays beside what may change next. -/
theorem nd_moved {w w' : World} {B : Nat} {F F' : Nat → Prop} {n : ND} {v2 v3 : Value} (h : NdAt w (fun k => B ≤ k ∧ ¬ F k) n v2 v3) (hm : Moved w w' F F') : NdAt w' (fun k => B ≤ k ∧ ¬ F' k) n v2 v3 :=
  ((nd_and h).kept hm (fun _ hk => hk.1.2)).mono fun k hk => ⟨hk.1.1, fun hf => by
    rcases hm.foot k hf with h1 | h1
    · exact hk.1.2 h1
    · have := hk.2; omega⟩
theorem ow_moved {w w' : World} {F F' : Nat → Prop} {base e size n : Nat} {v : Value} {xs : List Value} (h : w.ownsRow base e size v n xs) (hm : Moved w w' F F') (hn : ∀ k, v.ownBlock = some k → ¬ F k) : w'.ownsRow base e size v n xs := hm.row h hn
section
variable {w w' : World} {B g : Nat} {b b' : BD} {vo vo' r2 r3 : Value} {L : List ON}
theorem fp_g {L : List ON} {vo : Value} {g : Nat} : fpO g vo L g := .inl rfl
end
end Go.Proofs.Ytmgfnghegcfhnaa
