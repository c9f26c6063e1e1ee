/- Names checked, in plain words: sorted and compacted they are fewer just where two are the same; a tree checked node by node. No condition: nothing of the program stands in it. -/
import Derived.Test.YtmgfnghegcfhnaaGmPlain
import Derived.Lib.RowBridge
import Derived.Lib.SlicesCompact
namespace Go.Proofs.Ytmgfnghegcfhnaa
open Go.RowKit

theorem keeps_adj {ys : List (List UInt8)} {j : Nat} (hj : j + 1 < ys.length) : Lib.keeps ys.toArray (j + 1) = decide (ys[j + 1] ≠ ys[j]) := by
  have h1 : ys.toArray[j + 1]! = ys[j + 1] := by simp [getElem!_pos, hj]
  have h2 : ys.toArray[j]! = ys[j] := by simp [getElem!_pos, show j < ys.length by omega]
  unfold Lib.keeps
  rw [Nat.add_sub_cancel, h1, h2]
  simp
theorem compact_short {ys : List (List UInt8)} (hs : ys.Pairwise (· ≤ ·)) : (Lib.compact ys).length < ys.length ↔ ¬ ys.Nodup := by
  constructor
  · intro h hN
    have hN := List.pairwise_iff_getElem.1 hN
    rw [Lib.compact_all ys (fun j hj => ?_)] at h
    · exact absurd h (Nat.lt_irrefl _)
    · match j, hj with
      | 0, _ => exact Lib.keeps_lt_one _ 0 (by omega)
      | j + 1, hj =>
        rw [keeps_adj hj]
        exact decide_eq_true (fun e => hN j (j + 1) (by omega) hj (by omega) e.symm)
  · intro h
    rcases Nat.lt_or_ge (Lib.compact ys).length ys.length with h1 | h1
    · exact h1
    · exfalso
      have h2 := Lib.compact_length_le ys
      have h3 : ((List.range ys.length).filter (Lib.keeps ys.toArray)).length = (List.range ys.length).length := by
        have h4 : (Lib.compact ys).length = ((List.range ys.length).filter (Lib.keeps ys.toArray)).length := by unfold Lib.compact Lib.compactUpTo; rw [List.length_map]
        rw [← h4, List.length_range]; omega
      have hk := List.length_filter_eq_length_iff.1 h3
      have hs := List.pairwise_iff_getElem.1 hs
      refine h (List.pairwise_iff_getElem.2 fun i j hi hj hij e => ?_)
      have hi1 : i + 1 < ys.length := by omega
      have hkeep := hk (i + 1) (List.mem_range.2 hi1)
      rw [keeps_adj hi1, decide_eq_true_eq] at hkeep
      have a1 : ys[i] ≤ ys[i + 1] := hs i (i + 1) hi hi1 (by omega)
      have a2 : ys[i + 1] ≤ ys[i] := by
        by_cases e2 : i + 1 = j
        · have : ys[i + 1] = ys[j] := by simp only [e2]
          rw [this, ← e]; exact List.le_refl _
        · have := hs (i + 1) j hi1 hj (by omega)
          rw [← e] at this; exact this
      exact hkeep (List.le_antisymm a2 a1)
theorem sorted19 (zs : List (List UInt8)) : (zs.mergeSort fun x y => decide (x ≤ y)).Pairwise (· ≤ ·) := by
  have := List.pairwise_mergeSort (le := fun x y : List UInt8 => decide (x ≤ y)) (fun a b c h1 h2 => by
    simp only [decide_eq_true_eq] at h1 h2 ⊢
    exact List.le_trans h1 h2) (fun a b => by
    simp only [Bool.or_eq_true, decide_eq_true_eq]
    exact List.le_total a b) zs
  exact this.imp fun h => by simpa using h
theorem sort_short (zs : List (List UInt8)) : (Lib.compact (zs.mergeSort fun x y => decide (x ≤ y))).length < zs.length ↔ ¬ zs.Nodup := by
  have h := compact_short (sorted19 zs)
  rw [List.length_mergeSort] at h
  rw [h, (List.mergeSort_perm zs _).nodup_iff]

/-- The first error of some names. -/
def names19 (f : List UInt8 → Bool) (N : List ByteArray) : Nat := if (N.all fun x => f x.data.toList) = false then 6 else if (Lib.compact ((N.map (·.data.toList)).mergeSort fun x y => decide (x ≤ y))).length < N.length then 12 else 0
theorem names19_bad {f : List UInt8 → Bool} {N : List ByteArray} {k : Nat} (hk : k < N.length) (h : f (N.getD k ByteArray.empty).data.toList = false) : names19 f N = 6 := if_pos (all_no (f := fun x : ByteArray => f x.data.toList) hk h)
theorem names19_all {f : List UInt8 → Bool} {N : List ByteArray} (h : ∀ k, k < N.length → f (N.getD k ByteArray.empty).data.toList = true) : names19 f N = if (Lib.compact ((N.map (·.data.toList)).mergeSort fun x y => decide (x ≤ y))).length < N.length then 12 else 0 := by
  unfold names19
  rw [if_neg (by rw [all_yes (f := fun x : ByteArray => f x.data.toList) h]; decide)]
theorem nodup_bytes (N : List ByteArray) : (N.map (·.data.toList)).Nodup ↔ N.Nodup := by
  unfold List.Nodup
  rw [List.pairwise_map]
  constructor
  · exact fun h => h.imp fun h e => h (by rw [e])
  · exact fun h => h.imp fun h e => h (ByteArray.ext (Array.ext' e))
theorem twice_nodup {α : Type} (f : α → ByteArray) (d : α) (l : List α) : twice f d l = true ↔ ¬ (l.map f).Nodup := by
  constructor
  · intro h hN
    have hN := List.pairwise_iff_getElem.1 hN
    rw [twice_no (fun i hi k hk e => ?_)] at h
    · cases h
    · refine hN k i (by rw [List.length_map]; omega) (by rw [List.length_map]; omega) hk ?_
      rw [List.getElem_map, List.getElem_map]
      rw [List.getD_eq_getElem?_getD, List.getD_eq_getElem?_getD, List.getElem?_eq_getElem hi, List.getElem?_eq_getElem (show k < l.length by omega)] at e
      exact e.symm
  · intro h
    cases ht : twice f d l with
    | true => rfl
    | false =>
      have h1 := twice_of ht
      refine absurd (List.pairwise_iff_getElem.2 fun i j hi hj hij e => ?_) h
      rw [List.length_map] at hi hj
      rw [List.getElem_map, List.getElem_map] at e
      refine h1 j hj i hij ?_
      rw [List.getD_eq_getElem?_getD, List.getD_eq_getElem?_getD, List.getElem?_eq_getElem hi, List.getElem?_eq_getElem hj]
      exact e.symm
theorem short_twice {α : Type} (f : α → ByteArray) (d : α) (l : List α) : (Lib.compact (((l.map f).map (·.data.toList)).mergeSort fun x y => decide (x ≤ y))).length < (l.map f).length ↔ twice f d l = true := by
  rw [twice_nodup, ← nodup_bytes, ← sort_short, List.length_map (f := fun x : ByteArray => x.data.toList)]
/-- The first error of a node's names, by its properties' and by its kids'. -/
theorem here19_names (n : ND) : here19 n = if names19 prop19 (n.ps.map PR.nm) = 0 then names19 nodeR (n.ks.map ND.nm) else names19 prop19 (n.ps.map PR.nm) := by
  have e1 : ((n.ps.map PR.nm).all fun x => prop19 x.data.toList) = n.ps.all fun x => prop19 x.nm.data.toList := by rw [List.all_map]; rfl
  have e2 : ((n.ks.map ND.nm).all fun x => nodeR x.data.toList) = n.ks.all fun x => nodeR x.nm.data.toList := by rw [List.all_map]; rfl
  unfold names19 here19
  simp only [e1, e2, short_twice PR.nm pr0 n.ps, short_twice ND.nm nd0 n.ks]
  cases (n.ps.all fun x => prop19 x.nm.data.toList) <;> cases twice PR.nm pr0 n.ps <;> rfl
/-- The first error of some names that is not none. -/
def orE (a b : Nat) : Nat := if a = 0 then b else a
theorem first19_append : ∀ l r : List ND, first19 (l ++ r) = orE (first19 l) (first19 r)
  | [], _ => rfl
  | n :: l, r => by
    show (if here19 n = 0 then first19 (l ++ r) else here19 n) = orE (if here19 n = 0 then first19 l else here19 n) _
    rw [first19_append l r]
    by_cases h : here19 n = 0
    · rw [if_pos h, if_pos h]
    · rw [if_neg h, if_neg h]; unfold orE; rw [if_neg h]
/-- A tree checked node by node, so many levels deep. -/
def from19 : Nat → ND → Nat
  | 0, _ => 0
  | k + 1, n => orE (here19 n) (n.ks.foldl (fun a x => orE a (from19 k x)) 0)
def fromF (k : Nat) (n : ND) (j : Nat) : Nat := (n.ks.take j).foldl (fun a x => orE a (from19 k x)) 0
theorem fromF_succ (k : Nat) (n : ND) {j : Nat} (hj : j < n.ks.length) : fromF k n (j + 1) = orE (fromF k n j) (from19 k (n.ks.getD j nd0)) := by
  unfold fromF
  rw [List.take_add_one, List.getElem?_eq_getElem hj, List.getD_eq_getElem?_getD, List.getElem?_eq_getElem hj, List.foldl_append]
  rfl
theorem fold_hit {k : Nat} : ∀ (l : List ND) (a : Nat), a ≠ 0 → l.foldl (fun a x => orE a (from19 k x)) a = a
  | [], _, _ => rfl
  | x :: l, a, h => by
    rw [List.foldl_cons, show orE a (from19 k x) = a from if_neg h]
    exact fold_hit l a h
theorem fromF_hit (k : Nat) (n : ND) {j : Nat} (hj : j < n.ks.length) (h0 : fromF k n j = 0) (h : from19 k (n.ks.getD j nd0) ≠ 0) : n.ks.foldl (fun a x => orE a (from19 k x)) 0 = from19 k (n.ks.getD j nd0) := by
  have h1 : fromF k n (j + 1) = from19 k (n.ks.getD j nd0) := by rw [fromF_succ k n hj, h0]; rfl
  have h2 : (n.ks.take (j + 1) ++ n.ks.drop (j + 1)).foldl (fun a x => orE a (from19 k x)) 0 = from19 k (n.ks.getD j nd0) := by
    rw [List.foldl_append]
    show (n.ks.drop (j + 1)).foldl _ (fromF k n (j + 1)) = _
    rw [h1, fold_hit _ _ h]
  rwa [List.take_append_drop] at h2
theorem from19_walk : ∀ (k : Nat) (path : List UInt8) (n : ND), first19 ((walkR k path n).map Prod.snd) = from19 k n
  | 0, _, _ => rfl
  | k + 1, path, n => by
    show first19 (n :: ((n.ks.flatMap fun x => walkR k (under path ++ x.nm.data.toList) x).map Prod.snd)) = _
    have h : ∀ (l : List ND) (a : Nat), orE a (first19 ((l.flatMap fun x => walkR k (under path ++ x.nm.data.toList) x).map Prod.snd)) = l.foldl (fun a x => orE a (from19 k x)) a := by
      intro l
      induction l with
      | nil => intro a; show orE a 0 = a; unfold orE; split <;> omega
      | cons x l ih =>
        intro a
        rw [List.foldl_cons, ← ih, List.flatMap_cons, List.map_append, first19_append, from19_walk k _ x]
        unfold orE
        by_cases ha : a = 0
        · rw [if_pos ha, if_pos ha]
        · rw [if_neg ha, if_neg ha, if_neg ha]
    have h0 := h n.ks 0
    show (if here19 n = 0 then _ else here19 n) = orE (here19 n) _
    rw [← h0]
    rfl
end Go.Proofs.Ytmgfnghegcfhnaa
