/- What the document's Offsets, Few and SameInts return, and that awake() of layer 9's statements returns true. Conditions: Offsets: a slice that reads as at most 40 strings, each of which fits; SameInts: two slices that read as the same numbers. -/
import Derived.Test.YtdflflcidajenaaStF
import Derived.IntWalk
namespace Go.Proofs.Ytdflflcidajenaa
open Go.RowKit

/-- A Block of the document's that the call has made, and a slice of places beside it. -/
def Ox9 (B : Nat) (w : World) (g : Nat) (u : Value) (L : List ByteArray) (P : List Nat) : Prop :=
  ∃ lv av, RX w g lv av L ∧ (∀ k, fpX g lv av k → B ≤ k) ∧ w.ownsRow 0 3 1 u P.length (natV P) ∧ (∀ k, u.ownBlock = some k → B ≤ k ∧ ¬ fpX g lv av k)
theorem own_lt {w : World} {base e size n : Nat} {u : Value} {xs : List Value} (ho : w.ownsRow base e size u n xs) {k : Nat} (hk : u.ownBlock = some k) : k < w.heap.size := by
  obtain ⟨cur, hc⟩ := ow_type ho hk
  exact (Array.getElem?_eq_some_iff.1 hc).1
section
variable {B : Nat} {w w' : World} {g : Nat} {u u' : Value} {L : List ByteArray} {P P' : List Nat}
theorem ox9_add (h : Ox9 B w g u L P) (hB : B ≤ w.heap.size) (s : ByteArray) (hs : s.size ≤ maxLen) (hL : L.length ≤ 1073741824) :
    Calls Try.prog 24 #[.pointer (some ⟨g, 0, none⟩), .string s] w fun e w' => e = .returned (.tuple #[.int .i64 ((addV L s).1 : Int), .int .i64 ((addV L s).2 : Int)]) ∧ Ox9 B w' g u (addA L s) P ∧ Below B w w' := by
  obtain ⟨lv, av, h1, h2, h3, h4⟩ := h
  refine (radd_any g lv av L s w h1 hs hL).mono ?_
  rintro e w' ⟨he, lv', av', hb, hm⟩
  refine ⟨he, ⟨lv', av', hb, fun k hk => ?_, hm.row h3 (fun k hk => (h4 k hk).2), fun k hk => ⟨(h4 k hk).1, fun hf => ?_⟩⟩, hm.below h2 hB⟩
  · rcases hm.foot k hk with h5 | h5
    · exact h2 k h5
    · exact Nat.le_trans hB h5
  · rcases hm.foot k hf with h5 | h5
    · exact (h4 k hk).2 h5
    · have := own_lt h3 hk; omega
theorem ox9_put (h : Ox9 B w g u L P) (hB : B ≤ w.heap.size) (ho : w'.ownsRow 0 3 1 u' P'.length (natV P')) (hm : Moved w w' (ownS u) (ownS u')) : Ox9 B w' g u' L P' ∧ Below B w w' := by
  obtain ⟨lv, av, h1, h2, h3, h4⟩ := h
  refine ⟨⟨lv, av, h1.kept hm (fun k hk hu => (h4 k hu).2 hk), h2, ho, fun k hk => ?_⟩, hm.below (fun k hk => (h4 k hk).1) hB⟩
  rcases hm.foot k hk with h5 | h5
  · exact h4 k h5
  · exact ⟨Nat.le_trans hB h5, fun hf => by have := h1.lt hf; omega⟩
theorem ox9_cell (h : Ox9 B w g u L P) : w.cell? ⟨g, 2, none⟩ = some (.string ⟨(flat L).toArray⟩) := by
  obtain ⟨lv, av, h1, _⟩ := h
  exact h1.1.cell 2
theorem ox9_row (h : Ox9 B w g u L P) : w.ownsRow 0 3 1 u P.length (natV P) ∧ w.ownsRow B 3 1 u P.length (natV P) := by
  obtain ⟨lv, av, _, _, h3, h4⟩ := h
  exact ⟨h3, ow_base h3 (fun k hk => (h4 k hk).1)⟩
theorem ox9_new (w : World) : Ox9 w.heap.size (w.alloc (.cells #[.slice none 0 0, .slice none 0 0, .string ⟨#[]⟩] 57)) w.heap.size (.slice none 0 0) [] [] :=
  ⟨.slice none 0 0, .slice none 0 0, ⟨Arr.new _ _ _, World.ownsRow_nil _ _ _ _, World.ownsRow_nil _ _ _ _, okL_nil⟩, (fun k hk => by
    rcases hk with hk | hk | hk
    · exact Nat.le_of_eq hk.symm
    · cases hk
    · cases hk), World.ownsRow_nil _ _ _ _, (fun _ hk => nomatch hk)⟩
end

/-- Are there few strings, of few bytes? -/
def few9 (l : List ByteArray) : Bool := decide (l.length ≤ 40 ∧ ∀ k, k < l.length → (l.getD k ByteArray.empty).size ≤ 100)
theorem few9_len {l : List ByteArray} (h : few9 l = true) : l.length ≤ 40 := (of_decide_eq_true h).1
end Go.Proofs.Ytdflflcidajenaa
