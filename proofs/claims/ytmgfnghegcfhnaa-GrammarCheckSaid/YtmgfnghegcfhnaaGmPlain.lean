/- Names in trees, in plain words: which may be, their unit, whether a tree is as it should be. No condition: nothing of the program stands in it. -/
import Derived.Test.YtmgfnghegcfhnaaTrPlain
namespace Go.Proofs.Ytmgfnghegcfhnaa
open Go.RowKit

/-- A letter; a byte of a node's name. -/
def letC (k : Nat) : Bool := (decide (97 ≤ k) && decide (k ≤ 122)) || (decide (65 ≤ k) && decide (k ≤ 90))
def plaC (k : Nat) : Bool := letC k || (decide (48 ≤ k) && decide (k ≤ 57)) || decide (k = 44) || decide (k = 46) || decide (k = 95) || decide (k = 43) || decide (k = 45)
def prpC (k : Nat) : Bool := plaC k || decide (k = 63) || decide (k = 35)
/-- What stands behind the first sign, and whether there is one; what stands ahead of it. -/
def unitR : List UInt8 → List UInt8 × Bool
  | [] => ([], false)
  | c :: r => if c = 64 then (r, true) else unitR r
def ahead : List UInt8 → List UInt8
  | [] => []
  | c :: r => if c = 64 then [] else c :: ahead r
def headC (l : List UInt8) : Bool := match l with
  | [] => false
  | c :: _ => letC c.toNat
def nodeR (l : List UInt8) : Bool := decide (l.length ≤ 31) && (headC (ahead l) && (!((unitR l).2 && (unitR l).1.isEmpty) && (ahead l ++ (unitR l).1).all fun c => plaC c.toNat))
def prop19 (l : List UInt8) : Bool := (l.all fun c => prpC c.toNat) && (decide (1 ≤ l.length) && decide (l.length ≤ 31))
theorem unit_ahead : ∀ l : List UInt8, l = ahead l ++ (if (unitR l).2 = true then 64 :: (unitR l).1 else []) ∧ ((unitR l).2 = false → (unitR l).1 = [])
  | [] => ⟨rfl, fun _ => rfl⟩
  | c :: r => by
    by_cases h : c = 64
    · subst h
      exact ⟨rfl, fun e => by cases e⟩
    · obtain ⟨h1, h2⟩ := unit_ahead r
      have e1 : unitR (c :: r) = unitR r := if_neg h
      have e2 : ahead (c :: r) = c :: ahead r := if_neg h
      rw [e1, e2]
      exact ⟨by rw [List.cons_append, ← h1], h2⟩
theorem unit_len (l : List UInt8) : (ahead l).length + (if (unitR l).2 = true then (unitR l).1.length + 1 else 0) = l.length ∧ ((unitR l).2 = false → (unitR l).1 = []) := by
  obtain ⟨h1, h2⟩ := unit_ahead l
  refine ⟨?_, h2⟩
  have := congrArg List.length h1
  rw [List.length_append] at this
  rw [this]
  split
  · rw [List.length_cons]
  · rfl
/-- The unit, found at a place. -/
theorem unit_at : ∀ {l : List UInt8} {i : Nat}, i < l.length → (∀ j, j < i → l.getD j 0 ≠ 64) → l.getD i 0 = 64 → unitR l = (l.drop (i + 1), true) ∧ ahead l = l.take i
  | [], _, h, _, _ => absurd h (Nat.not_lt_zero _)
  | c :: r, 0, _, _, h => by
    have h : c = 64 := h
    subst h
    exact ⟨rfl, rfl⟩
  | c :: r, i + 1, hi, hj, h => by
    have hc : c ≠ 64 := hj 0 (Nat.succ_pos _)
    obtain ⟨h1, h2⟩ := unit_at (l := r) (i := i) (by simpa using hi) (fun j hj' => by have := hj (j + 1) (by omega); simpa using this) (by simpa using h)
    refine ⟨?_, ?_⟩
    · show (if c = 64 then _ else unitR r) = _
      rw [if_neg hc, h1]; rfl
    · show (if c = 64 then _ else c :: ahead r) = _
      rw [if_neg hc, h2]; rfl
theorem unit_no : ∀ {l : List UInt8}, (∀ j, j < l.length → l.getD j 0 ≠ 64) → unitR l = ([], false) ∧ ahead l = l
  | [], _ => ⟨rfl, rfl⟩
  | c :: r, h => by
    have hc : c ≠ 64 := h 0 (Nat.succ_pos _)
    obtain ⟨h1, h2⟩ := unit_no (l := r) fun j hj => by have := h (j + 1) (by simpa using hj); simpa using this
    refine ⟨?_, ?_⟩
    · show (if c = 64 then _ else unitR r) = _
      rw [if_neg hc, h1]
    · show (if c = 64 then _ else c :: ahead r) = _
      rw [if_neg hc, h2]
/-- No byte of a node's name is a slash; it has a byte. -/
theorem node_ok {l : List UInt8} (h : nodeR l = true) : l ≠ [] ∧ (∀ c ∈ l, c ≠ 47) ∧ l.length ≤ 31 := by
  unfold nodeR at h
  simp only [Bool.and_eq_true, decide_eq_true_eq] at h
  obtain ⟨h1, h2, _, h4⟩ := h
  refine ⟨?_, fun c hc e => ?_, h1⟩
  · rintro rfl; simp [ahead, headC] at h2
  · subst e
    rw [List.all_eq_true] at h4
    obtain ⟨h5, _⟩ := unit_ahead l
    rw [h5] at hc
    have hm : (47 : UInt8) ∈ ahead l ++ (unitR l).1 := by
      rcases List.mem_append.1 hc with hc | hc
      · exact List.mem_append_left _ hc
      · split at hc
        · rcases List.mem_cons.1 hc with hc | hc
          · exact absurd hc (by decide)
          · exact List.mem_append_right _ hc
        · cases hc
    have := h4 _ hm
    revert this
    decide
/-- Do two of them have the same name? -/
def twice {α : Type} (f : α → ByteArray) (d : α) (l : List α) : Bool := (List.range l.length).any fun i => (List.range i).any fun k => decide (f (l.getD i d) = f (l.getD k d))
theorem twice_yes {α : Type} {f : α → ByteArray} {d : α} {l : List α} {i k : Nat} (hi : i < l.length) (hk : k < i) (h : f (l.getD i d) = f (l.getD k d)) : twice f d l = true :=
  List.any_eq_true.2 ⟨i, List.mem_range.2 hi, List.any_eq_true.2 ⟨k, List.mem_range.2 hk, decide_eq_true h⟩⟩
theorem twice_no {α : Type} {f : α → ByteArray} {d : α} {l : List α} (h : ∀ i, i < l.length → ∀ k, k < i → f (l.getD i d) ≠ f (l.getD k d)) : twice f d l = false := by
  unfold twice
  rw [List.any_eq_false]
  intro i hi
  rw [Bool.not_eq_true, List.any_eq_false]
  intro k hk
  simpa using h i (List.mem_range.1 hi) k (List.mem_range.1 hk)
theorem twice_of {α : Type} {f : α → ByteArray} {d : α} {l : List α} (h : twice f d l = false) : ∀ i, i < l.length → ∀ k, k < i → f (l.getD i d) ≠ f (l.getD k d) := fun i hi k hk e => by
  rw [twice_yes hi hk e] at h; cases h
theorem all_yes {α : Type} {f : α → Bool} {d : α} {l : List α} (h : ∀ i, i < l.length → f (l.getD i d) = true) : l.all f = true := by
  rw [List.all_eq_true]
  intro x hx
  obtain ⟨i, hi, rfl⟩ := List.getElem_of_mem hx
  have := h i hi
  rwa [List.getD_eq_getElem?_getD, List.getElem?_eq_getElem hi] at this
theorem all_no {α : Type} {f : α → Bool} {d : α} {l : List α} {i : Nat} (hi : i < l.length) (h : f (l.getD i d) = false) : l.all f = false := by
  rw [List.all_eq_false]
  refine ⟨l[i], List.getElem_mem hi, ?_⟩
  rw [List.getD_eq_getElem?_getD, List.getElem?_eq_getElem hi] at h
  have h : f l[i] = false := h
  rw [h]; decide
/-- The first error of a node's names. -/
def here19 (n : ND) : Nat :=
  if (n.ps.all fun x => prop19 x.nm.data.toList) = false then 6 else if twice PR.nm pr0 n.ps = true then 12 else if (n.ks.all fun x => nodeR x.nm.data.toList) = false then 6 else if twice ND.nm nd0 n.ks = true then 12 else 0
structure Here19 (n : ND) (R : Nat) : Prop where
  bad1 : ∀ i, i < n.ps.length → prop19 (n.ps.getD i pr0).nm.data.toList = false → R = 6
  bad2 : (∀ i, i < n.ps.length → prop19 (n.ps.getD i pr0).nm.data.toList = true) → ∀ i, i < n.ps.length → ∀ k, k < i → (n.ps.getD i pr0).nm = (n.ps.getD k pr0).nm → R = 12
  bad3 : (∀ i, i < n.ps.length → prop19 (n.ps.getD i pr0).nm.data.toList = true) → (∀ i, i < n.ps.length → ∀ k, k < i → (n.ps.getD i pr0).nm ≠ (n.ps.getD k pr0).nm) → ∀ i, i < n.ks.length → nodeR (n.ks.getD i nd0).nm.data.toList = false → R = 6
  bad4 : (∀ i, i < n.ps.length → prop19 (n.ps.getD i pr0).nm.data.toList = true) → (∀ i, i < n.ps.length → ∀ k, k < i → (n.ps.getD i pr0).nm ≠ (n.ps.getD k pr0).nm) → (∀ i, i < n.ks.length → nodeR (n.ks.getD i nd0).nm.data.toList = true) → ∀ i, i < n.ks.length → ∀ k, k < i → (n.ks.getD i nd0).nm = (n.ks.getD k nd0).nm → R = 12
  good : (∀ i, i < n.ps.length → prop19 (n.ps.getD i pr0).nm.data.toList = true) → (∀ i, i < n.ps.length → ∀ k, k < i → (n.ps.getD i pr0).nm ≠ (n.ps.getD k pr0).nm) → (∀ i, i < n.ks.length → nodeR (n.ks.getD i nd0).nm.data.toList = true) → (∀ i, i < n.ks.length → ∀ k, k < i → (n.ks.getD i nd0).nm ≠ (n.ks.getD k nd0).nm) → R = 0
theorem here19_is (n : ND) : Here19 n (here19 n) := by
  have A1 : ∀ h : (∀ i, i < n.ps.length → prop19 (n.ps.getD i pr0).nm.data.toList = true), ¬ (n.ps.all fun x => prop19 x.nm.data.toList) = false := fun h e => by
    rw [all_yes (f := fun x : PR => prop19 x.nm.data.toList) (d := pr0) h] at e; cases e
  have A3 : ∀ h : (∀ i, i < n.ks.length → nodeR (n.ks.getD i nd0).nm.data.toList = true), ¬ (n.ks.all fun x => nodeR x.nm.data.toList) = false := fun h e => by
    rw [all_yes (f := fun x : ND => nodeR x.nm.data.toList) (d := nd0) h] at e; cases e
  have A2 : ∀ h : (∀ i, i < n.ps.length → ∀ k, k < i → (n.ps.getD i pr0).nm ≠ (n.ps.getD k pr0).nm), ¬ twice PR.nm pr0 n.ps = true := fun h e => by
    rw [twice_no h] at e; cases e
  have A4 : ∀ h : (∀ i, i < n.ks.length → ∀ k, k < i → (n.ks.getD i nd0).nm ≠ (n.ks.getD k nd0).nm), ¬ twice ND.nm nd0 n.ks = true := fun h e => by
    rw [twice_no h] at e; cases e
  unfold here19
  exact ⟨fun i hi h => if_pos (all_no (f := fun x : PR => prop19 x.nm.data.toList) hi h),
    fun h1 i hi k hk h => by rw [if_neg (A1 h1), if_pos (twice_yes hi hk h)],
    fun h1 h2 i hi h => by rw [if_neg (A1 h1), if_neg (A2 h2), if_pos (all_no (f := fun x : ND => nodeR x.nm.data.toList) hi h)],
    fun h1 h2 h3 i hi k hk h => by rw [if_neg (A1 h1), if_neg (A2 h2), if_neg (A3 h3), if_pos (twice_yes hi hk h)],
    fun h1 h2 h3 h4 => by rw [if_neg (A1 h1), if_neg (A2 h2), if_neg (A3 h3), if_neg (A4 h4)]⟩
def first19 : List ND → Nat
  | [] => 0
  | n :: r => if here19 n = 0 then first19 r else here19 n
end Go.Proofs.Ytmgfnghegcfhnaa
