/- Paths in trees, in plain words. No condition: nothing of the program stands in it. -/
import Derived.Test.YtmgfnghegcfhnaaTrPlain
import Derived.Test.YtmgfnghegcfhnaaMg31
namespace Go.Proofs.Ytmgfnghegcfhnaa
open Go.RowKit

/-- The pieces between slashes. -/
def splitS : List UInt8 → List (List UInt8)
  | [] => [[]]
  | c :: r => if c = 47 then [] :: splitS r else (c :: (splitS r).headD []) :: (splitS r).tail
/-- Names that may stand in a path. -/
def nmOk (l : List (List UInt8)) : Bool := decide (l.length ≤ 7 ∧ ∀ x ∈ l, x ≠ [])
theorem nmOk_iff {l : List (List UInt8)} : nmOk l = true ↔ l.length ≤ 7 ∧ ∀ x ∈ l, x ≠ [] := decide_eq_true_iff
/-- A path's names, and whether it is a path. -/
def partsR (p : List UInt8) : List (List UInt8) × Bool :=
  if p = [47] then ([], true) else if p.head? = some 47 ∧ nmOk (splitS (p.drop 1)) = true then (splitS (p.drop 1), true) else ([], false)
theorem split_ne : ∀ l : List UInt8, splitS l ≠ []
  | [] => by unfold splitS; simp
  | c :: r => by unfold splitS; split <;> simp
theorem split_cons {l : List UInt8} : splitS l = (splitS l).headD [] :: (splitS l).tail := by
  cases h : splitS l with
  | nil => exact absurd h (split_ne l)
  | cons x r => rfl
theorem split_seg : ∀ (x r : List UInt8), (∀ c ∈ x, c ≠ 47) → splitS (x ++ 47 :: r) = x :: splitS r
  | [], r, _ => by show splitS (47 :: r) = _; rw [splitS, if_pos rfl]
  | c :: x, r, h => by
    show splitS (c :: (x ++ 47 :: r)) = _
    rw [splitS, if_neg (h c List.mem_cons_self), split_seg x r (fun d hd => h d (List.mem_cons_of_mem _ hd))]; rfl
theorem split_last : ∀ (x : List UInt8), (∀ c ∈ x, c ≠ 47) → splitS x = [x]
  | [], _ => rfl
  | c :: x, h => by
    rw [splitS, if_neg (h c List.mem_cons_self), split_last x (fun d hd => h d (List.mem_cons_of_mem _ hd))]; rfl
/-- How far the path is read: at i, from f on no slash, O the names ahead. -/
def PtInv (p : List UInt8) (i f : Nat) (O : List (List UInt8)) : Prop :=
  O.length ≤ 7 ∧ (∀ x ∈ O, x ≠ []) ∧ ((i ≤ p.length ∧ 1 ≤ f ∧ f ≤ i ∧ (∀ j, f ≤ j → j < i → p.getD j 0 ≠ 47) ∧ O ++ splitS (p.drop f) = splitS (p.drop 1)) ∨ (i = p.length + 1 ∧ O = splitS (p.drop 1)))
/-- What stands from f to i. -/
def segR (p : List UInt8) (f i : Nat) : List UInt8 := (p.drop f).take (i - f)
theorem seg_no {p : List UInt8} {f i : Nat} (h : ∀ j, f ≤ j → j < i → p.getD j 0 ≠ 47) : ∀ c ∈ segR p f i, c ≠ 47 := fun c hc => by
  obtain ⟨k, hk, rfl⟩ := List.getElem_of_mem hc
  unfold segR at hk ⊢
  rw [List.length_take, List.length_drop] at hk
  rw [List.getElem_take, List.getElem_drop]
  have := h (f + k) (by omega) (by omega)
  rwa [List.getD_eq_getElem?_getD, List.getElem?_eq_getElem (by omega)] at this
theorem seg_len {p : List UInt8} {f i : Nat} (hi : i ≤ p.length) : (segR p f i).length = i - f := by unfold segR; rw [List.length_take, List.length_drop]; omega
theorem drop_seg {p : List UInt8} {f i : Nat} (hf : f ≤ i) : p.drop f = segR p f i ++ p.drop i := by
  unfold segR
  have := (List.take_append_drop (i - f) (p.drop f)).symm
  rwa [List.drop_drop, show f + (i - f) = i by omega] at this
theorem inv_start {p : List UInt8} (h : 1 ≤ p.length) : PtInv p 1 1 [] := ⟨Nat.zero_le _, (fun x hx => absurd hx List.not_mem_nil), .inl ⟨h, Nat.le_refl _, Nat.le_refl _, (fun j h1 h2 => by omega), rfl⟩⟩
theorem inv_on {p : List UInt8} {i f : Nat} {O : List (List UInt8)} (h : PtInv p i f O) (hi : i < p.length) (hc : p.getD i 0 ≠ 47) : PtInv p (i + 1) f O := by
  obtain ⟨h1, h2, h3 | h3⟩ := h
  · refine ⟨h1, h2, .inl ⟨by omega, h3.2.1, by omega, fun j g1 g2 => ?_, h3.2.2.2.2⟩⟩
    by_cases e : j = i
    · rw [e]; exact hc
    · exact h3.2.2.2.1 j g1 (by omega)
  · omega
theorem split_at {p : List UInt8} {i f : Nat} (hi : i ≤ p.length) (hf : f ≤ i) (hn : ∀ j, f ≤ j → j < i → p.getD j 0 ≠ 47) (he : i = p.length ∨ p.getD i 0 = 47) :
    splitS (p.drop f) = segR p f i :: (if i = p.length then [] else splitS (p.drop (i + 1))) := by
  rw [drop_seg hf]
  by_cases e : i = p.length
  · rw [if_pos e, e, List.drop_length, List.append_nil, ← e]
    exact split_last _ (seg_no hn)
  · have hlt : i < p.length := by omega
    have hc := he.resolve_left e
    rw [List.getD_eq_getElem?_getD, List.getElem?_eq_getElem hlt] at hc
    rw [if_neg e, List.drop_eq_getElem_cons hlt, show p[i] = 47 from hc]
    exact split_seg _ _ (seg_no hn)
theorem inv_seg {p : List UInt8} {i f : Nat} {O : List (List UInt8)} (h : PtInv p i f O) (hi : i ≤ p.length) (he : i = p.length ∨ p.getD i 0 = 47) (hf : i ≠ f) (h7 : O.length ≠ 7) : PtInv p (i + 1) (i + 1) (O ++ [segR p f i]) := by
  obtain ⟨h1, h2, h3 | h3⟩ := h
  · obtain ⟨_, g1, g2, g3, g4⟩ := h3
    have hs := split_at hi g2 g3 he
    refine ⟨by rw [List.length_append]; simp only [List.length_cons, List.length_nil]; omega, fun x hx => ?_, ?_⟩
    · rcases List.mem_append.1 hx with hx | hx
      · exact h2 x hx
      · rw [List.mem_singleton] at hx
        subst hx
        intro e
        have := seg_len (p := p) (f := f) hi
        rw [e] at this
        simp only [List.length_nil] at this
        omega
    · by_cases e : i = p.length
      · right
        rw [if_pos e] at hs
        rw [hs] at g4
        exact ⟨by omega, g4⟩
      · left
        rw [if_neg e] at hs
        rw [hs] at g4
        exact ⟨by omega, by omega, Nat.le_refl _, (fun j k1 k2 => by omega), by rw [List.append_assoc]; exact g4⟩
  · omega
theorem inv_bad {p : List UInt8} {i f : Nat} {O : List (List UInt8)} (h : PtInv p i f O) (hi : i ≤ p.length) (he : i = p.length ∨ p.getD i 0 = 47) (hf : i = f ∨ O.length = 7) : nmOk (splitS (p.drop 1)) = false := by
  obtain ⟨h1, h2, h3 | h3⟩ := h
  · obtain ⟨_, g1, g2, g3, g4⟩ := h3
    have hs := split_at hi g2 g3 he
    cases e : nmOk (splitS (p.drop 1)) with
    | false => rfl
    | true =>
      obtain ⟨k1, k2⟩ := nmOk_iff.1 e
      rw [← g4, hs] at k1 k2
      rcases hf with hf | hf
      · have hl := seg_len (p := p) (f := f) hi
        have : segR p f i ≠ [] := k2 _ (by simp)
        rw [hf, Nat.sub_self] at hl
        rw [hf] at this
        exact absurd (List.length_eq_zero_iff.1 hl) this
      · rw [List.length_append, List.length_cons] at k1
        omega
  · omega
theorem inv_end {p : List UInt8} {f : Nat} {O : List (List UInt8)} (h : PtInv p (p.length + 1) f O) : splitS (p.drop 1) = O ∧ nmOk (splitS (p.drop 1)) = true := by
  obtain ⟨h1, h2, h3 | h3⟩ := h
  · omega
  · exact ⟨h3.2.symm, nmOk_iff.2 (by rw [← h3.2]; exact ⟨h1, h2⟩)⟩
theorem parts_root : partsR [47] = ([], true) := if_pos rfl
theorem parts_no {p : List UInt8} (h : p.head? ≠ some 47) : partsR p = ([], false) := by
  unfold partsR
  rw [if_neg (fun e => h (by rw [e]; rfl)), if_neg (fun e => h e.1)]
theorem parts_bad {p : List UInt8} (h0 : p ≠ [47]) (h : nmOk (splitS (p.drop 1)) = false) : partsR p = ([], false) := by
  unfold partsR
  rw [if_neg h0, if_neg (fun e => by rw [h] at e; exact absurd e.2 (by decide))]
theorem parts_yes {p : List UInt8} (h0 : p ≠ [47]) (h1 : p.head? = some 47) (h : nmOk (splitS (p.drop 1)) = true) : partsR p = (splitS (p.drop 1), true) := by
  unfold partsR
  rw [if_neg h0, if_pos ⟨h1, h⟩]
theorem parts_few (p : List UInt8) : (partsR p).1.length ≤ 7 := by
  unfold partsR
  split
  · exact Nat.zero_le _
  · split
    · rename_i h; exact (nmOk_iff.1 h.2).1
    · exact Nat.zero_le _

/-- The path of names. -/
def joinB (l : List ByteArray) : List UInt8 := if l = [] then [47] else l.flatMap fun x => 47 :: x.data.toList
/-- The first kid, the first value, of a name. -/
def kidR (n : ND) (nm : ByteArray) : Option ND := n.ks.find? fun x => decide (x.nm = nm)
def valR (n : ND) (nm : ByteArray) : Option ByteArray := (n.ps.find? fun x => decide (x.nm = nm)).map PR.vl
/-- The node that is reached name by name. -/
def followR : ND → List ByteArray → Option ND
  | n, [] => some n
  | n, x :: l => match kidR n x with
    | none => none
    | some k => followR k l
def findR (n : ND) (p : List UInt8) : Option ND := if (partsR p).2 = true then followR n (baL (partsR p).1) else none
/-- A node, if there is one. -/
def orN (x : Option ND) : ND := x.getD nd0
theorem find_take {α : Type} {f : α → Bool} {d : α} : ∀ {l : List α} {k : Nat}, k < l.length → (∀ j, j < k → f (l.getD j d) = false) → f (l.getD k d) = true → l.find? f = some (l.getD k d)
  | x :: r, 0, _, _, h => by
    have h : f x = true := h
    rw [List.find?_cons, h]; rfl
  | x :: r, k + 1, hk, hj, h => by
    have h0 : f x = false := hj 0 (Nat.succ_pos _)
    rw [List.find?_cons, h0]
    exact find_take (by simpa using hk) (fun j hj' => by have := hj (j + 1) (by omega); simpa using this) (by simpa using h)
theorem find_none {α : Type} {f : α → Bool} {d : α} : ∀ {l : List α}, (∀ j, j < l.length → f (l.getD j d) = false) → l.find? f = none
  | [], _ => rfl
  | x :: r, h => by
    have h0 : f x = false := h 0 (Nat.succ_pos _)
    rw [List.find?_cons, h0]
    exact find_none (fun j hj => by have := h (j + 1) (by simpa using hj); simpa using this)
end Go.Proofs.Ytmgfnghegcfhnaa
