/- Whether a tree is as it should be, in plain words; what its nodes' names have; what package grammar must do. No condition. -/
import Derived.Test.YtmgfnghegcfhnaaMg19
import Derived.Test.YtmgfnghegcfhnaaMg21
import Derived.Test.YtmgfnghegcfhnaaMg22
import Derived.Test.YtmgfnghegcfhnaaMg23
namespace Go.Proofs.Ytmgfnghegcfhnaa
open Go.RowKit

def nodes19 (n : ND) : List ND := (walkR 8 [47] n).map Prod.snd
def check19 (n : ND) : Nat := if 8 < (countR 9 n).c then 13 else if fitsR n = false then 7 else if n.nm ≠ ByteArray.empty then 6 else first19 (nodes19 n)
theorem first_hit19 : ∀ {l : List ND} {i : Nat}, i < l.length → (∀ j, j < i → here19 (l.getD j nd0) = 0) → here19 (l.getD i nd0) ≠ 0 → first19 l = here19 (l.getD i nd0)
  | [], _, h, _, _ => absurd h (Nat.not_lt_zero _)
  | n :: r, 0, _, _, h => by
    have h : here19 n ≠ 0 := h
    show (if here19 n = 0 then first19 r else here19 n) = here19 n
    rw [if_neg h]
  | n :: r, i + 1, hi, hj, h => by
    have h0 : here19 n = 0 := hj 0 (Nat.succ_pos _)
    show (if here19 n = 0 then first19 r else here19 n) = _
    rw [if_pos h0]
    exact first_hit19 (by simpa using hi) (fun j hj' => by have := hj (j + 1) (by omega); simpa using this) (by simpa using h)
theorem first_ok19 : ∀ {l : List ND}, (∀ j, j < l.length → here19 (l.getD j nd0) = 0) → first19 l = 0
  | [], _ => rfl
  | n :: r, h => by
    have h0 : here19 n = 0 := h 0 (Nat.succ_pos _)
    show (if here19 n = 0 then first19 r else here19 n) = 0
    rw [if_pos h0]
    exact first_ok19 fun j hj => by have := h (j + 1) (by simpa using hj); simpa using this
theorem first_zero : ∀ {l : List ND}, first19 l = 0 → ∀ x ∈ l, here19 x = 0
  | [], _, _, h => absurd h List.not_mem_nil
  | n :: r, h, x, hx => by
    have h : (if here19 n = 0 then first19 r else here19 n) = 0 := h
    by_cases h0 : here19 n = 0
    · rw [if_pos h0] at h
      rcases List.mem_cons.1 hx with rfl | hx
      · exact h0
      · exact first_zero h x hx
    · rw [if_neg h0] at h; exact absurd h h0
/-- A node of the walk is as small as the tree. -/
theorem walk_low : ∀ (k j : Nat) (path : List UInt8) (n : ND), lowR j n = true → ∀ q ∈ walkR k path n, ∃ L, lowR (L + 1) q.2 = true
  | 0, _, _, _, _, _, h => absurd h List.not_mem_nil
  | k + 1, 0, _, _, h, _, _ => by cases h
  | k + 1, j + 1, path, n, h, q, hq => by
    rcases List.mem_cons.1 (show q ∈ (path, n) :: n.ks.flatMap fun x => walkR k (under path ++ x.nm.data.toList) x from hq) with rfl | hq
    · exact ⟨j, h⟩
    · obtain ⟨x, hx, hq⟩ := List.mem_flatMap.1 hq
      exact walk_low k j _ x (low_kids h x hx) q hq
theorem low_names {L : Nat} {n : ND} (h : lowR (L + 1) n = true) : (∀ i, i < n.ps.length → (n.ps.getD i pr0).nm.size ≤ 100) ∧ (∀ i, i < n.ks.length → L ≠ 0 → (n.ks.getD i nd0).nm.size ≤ 100) := by
  refine ⟨fun i hi => ?_, fun i hi hL => ?_⟩
  · have e : n.ps.getD i pr0 = n.ps[i] := by rw [List.getD_eq_getElem?_getD, List.getElem?_eq_getElem hi]; rfl
    rw [e]
    have := low_props h _ (List.getElem_mem hi)
    exact (of_decide_eq_true (show decide ((n.ps[i]).nm.size ≤ 100 ∧ (n.ps[i]).vl.size ≤ 300) = true from this)).1
  · have e : n.ks.getD i nd0 = n.ks[i] := by rw [List.getD_eq_getElem?_getD, List.getElem?_eq_getElem hi]; rfl
    rw [e]
    obtain ⟨j, rfl⟩ : ∃ j, L = j + 1 := ⟨L - 1, by omega⟩
    have h1 := low_kids h _ (List.getElem_mem hi)
    have h2 : (decide ((n.ks[i]).nm.size ≤ 100 ∧ (n.ks[i]).ps.length ≤ 300 ∧ (n.ks[i]).ks.length ≤ 80) && ((n.ks[i]).ps.all lowP && (n.ks[i]).ks.all (lowR j))) = true := h1
    rw [Bool.and_eq_true] at h2
    exact (of_decide_eq_true h2.1).1
end Go.Proofs.Ytmgfnghegcfhnaa
