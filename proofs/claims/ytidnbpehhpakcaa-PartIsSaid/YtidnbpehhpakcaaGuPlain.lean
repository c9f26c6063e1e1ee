/- Locked sectors in plain words: which are locked, whether bytes touch one, what an act becomes behind a guard, and that no byte of a locked sector changes. No condition: nothing of the program stands in it. -/
import Derived.Test.YtidnbpehhpakcaaNorJ
namespace Go.Proofs.Ytidnbpehhpakcaa
open Go.RowKit

/-- Is there such a sector? -/
def isS (x : Int) : Bool := decide (0 ≤ x) && decide (x < 48)
theorem isS_true {x : Int} (h : isS x = true) : 0 ≤ x ∧ x < 48 := by unfold isS at h; simpa using h
theorem isS_false {x : Int} (h : isS x = false) : ¬ (0 ≤ x ∧ x < 48) := by intro h'; unfold isS at h; simp [h'] at h
/-- Is it locked? -/
def inK (K : List Bool) (x : Int) : Bool := isS x && K.getD x.toNat false
/-- The locks that sectors make. -/
def lkL (L : List Int) : List Bool := (List.range 48).map fun (i : Nat) => L.contains (i : Int)
theorem lkL_length (L : List Int) : (lkL L).length = 48 := by simp [lkL]
theorem lkL_getD (L : List Int) {i : Nat} (h : i < 48) : (lkL L).getD i false = L.contains (i : Int) := by
  simp [lkL, List.getD, h]
theorem lkL_get (L : List Int) {i : Nat} (h : i < (lkL L).length) : (lkL L)[i] = L.contains (i : Int) := by
  simp [lkL]
theorem lkL_nil : lkL [] = List.replicate 48 false := by decide
theorem take_snoc (L : List Int) {k : Nat} (hk : k < L.length) {x : Int} (hx : L.getD k 0 = x) : L.take (k + 1) = L.take k ++ [x] := by
  rw [List.take_succ_eq_append_getElem hk]
  subst hx
  simp [List.getD, hk]
theorem lkL_in (L : List Int) {k : Nat} (hk : k < L.length) {n : Nat} (hx : L.getD k 0 = (n : Int)) : (lkL (L.take k)).set n true = lkL (L.take (k + 1)) := by
  rw [take_snoc L hk hx]
  refine List.ext_getElem (by rw [List.length_set, lkL_length, lkL_length]) fun i h1 h2 => ?_
  rw [List.getElem_set, lkL_get, lkL_get]
  by_cases e : n = i
  · subst e; simp
  · rw [if_neg e]
    simp
    intro e'; omega
theorem lkL_out (L : List Int) {k : Nat} (hk : k < L.length) {x : Int} (hx : L.getD k 0 = x) (h : isS x = false) : lkL (L.take (k + 1)) = lkL (L.take k) := by
  rw [take_snoc L hk hx]
  refine List.ext_getElem (by rw [lkL_length, lkL_length]) fun i h1 h2 => ?_
  rw [lkL_get, lkL_get]
  have hi : i < 48 := by rw [lkL_length] at h1; exact h1
  have := isS_false h
  simp
  intro e; omega
theorem inK_lkL (L : List Int) (x : Int) : inK (lkL L) x = (isS x && L.contains x) := by
  unfold inK
  by_cases h : isS x = true
  · have hb := isS_true h
    obtain ⟨n, rfl⟩ := Int.eq_ofNat_of_zero_le hb.1
    rw [h, Int.toNat_natCast, lkL_getD L (by omega)]
  · have h' : isS x = false := by simpa using h
    rw [h']; rfl
theorem inK_nat (K : List Bool) {q : Nat} (h : q < 48) : inK K (q : Int) = K.getD q false := by
  have : isS (q : Int) = true := by unfold isS; simp; omega
  unfold inK; rw [this, Int.toNat_natCast]; rfl
/-- Are there any, and are all of them locked? -/
def allK (K : List Bool) (L : List Int) : Bool := decide (0 < L.length) && L.all (inK K)
theorem allK_one (K : List Bool) (x : Int) : allK K [x] = inK K x := by simp [allK]
theorem allK_no (K : List Bool) (L : List Int) {k : Nat} (hk : k < L.length) {x : Int} (hx : L.getD k 0 = x) (h : inK K x = false) : allK K L = false := by
  have : L.all (inK K) = false := by
    rw [List.all_eq_false]
    refine ⟨x, ?_, by simp [h]⟩
    subst hx
    rw [List.getD, List.getElem?_eq_getElem hk]
    exact List.getElem_mem hk
  unfold allK; rw [this, Bool.and_false]
theorem allK_yes (K : List Bool) (L : List Int) (h : ∀ j, j < L.length → inK K (L.getD j 0) = true) : allK K L = decide (0 < L.length) := by
  have : L.all (inK K) = true := by
    rw [List.all_eq_true]
    intro x hx
    obtain ⟨j, hj, rfl⟩ := List.getElem_of_mem hx
    have := h j hj
    rwa [List.getD, List.getElem?_eq_getElem hj] at this
  unfold allK; rw [this, Bool.and_true]
/-- Does one of n bytes from a on exist, in a locked sector? -/
def tch (K : List Bool) (a n : Int) : Bool := decide (0 ≤ a) && decide (0 < n) && (List.range 48).any fun (q : Nat) => K.getD q false && decide (a < 512 * q + 512) && decide ((512 * q : Int) < a + n)
theorem tch_iff (K : List Bool) (a n : Int) : tch K a n = true ↔ 0 ≤ a ∧ ∃ j : Nat, j < 24576 ∧ a ≤ j ∧ (j : Int) - a < n ∧ K.getD (j / 512) false = true := by
  unfold tch
  simp only [Bool.and_eq_true, decide_eq_true_eq, List.any_eq_true, List.mem_range]
  constructor
  · rintro ⟨⟨h1, h2⟩, q, hq, ⟨hK, h3⟩, h4⟩
    refine ⟨h1, ?_⟩
    by_cases h : a ≤ 512 * q
    · exact ⟨512 * q, by omega, by omega, by omega, by rw [Nat.mul_div_cancel_left _ (by decide)]; exact hK⟩
    · refine ⟨a.toNat, by omega, by omega, by omega, ?_⟩
      rw [show a.toNat / 512 = q by omega]; exact hK
  · rintro ⟨h1, j, hj, h2, h3, hK⟩
    exact ⟨⟨h1, by omega⟩, j / 512, by omega, ⟨hK, by omega⟩, by omega⟩
theorem tch_yes {K : List Bool} {a n : Int} {j : Nat} (h0 : 0 ≤ a) (hj : j < 24576) (h1 : a ≤ j) (h2 : (j : Int) - a < n) (hK : K.getD (j / 512) false = true) : tch K a n = true := (tch_iff K a n).2 ⟨h0, j, hj, h1, h2, hK⟩
theorem tch_no {K : List Bool} {a n : Int} (h : ∀ j : Nat, 0 ≤ a → j < 24576 → a ≤ j → (j : Int) - a < n → K.getD (j / 512) false = false) : tch K a n = false := by
  cases ht : tch K a n with
  | false => rfl
  | true =>
    obtain ⟨h0, j, hj, h1, h2, hK⟩ := (tch_iff K a n).1 ht
    rw [h j h0 hj h1 h2] at hK; cases hK
/-- Erase, Program, Write behind a guard. -/
def geS (K : List Bool) (c : St) (x : Int) : St × Nat := if inK K x = true then (c, 3) else erS c x
def gpS (K : List Bool) (c : St) (a : Int) (s : ByteArray) : St × Nat := if tch K a s.size = true then (c, 3) else prS c a s
def gwS (K : List Bool) (c : St) (a : Int) (s : ByteArray) : St × Nat := if tch K a s.size = true then (c, 3) else wrS c a s
/-- An act done behind a guard. -/
def doG (K : List Bool) (c : St) (x : AC) : St × ByteArray × Nat :=
  if x.kind = 1 then ((geS K c x.pl).1, ⟨#[]⟩, (geS K c x.pl).2)
  else if x.kind = 2 then ((gpS K c x.pl x.s).1, ⟨#[]⟩, (gpS K c x.pl x.s).2)
  else if x.kind = 3 then ((gwS K c x.pl x.s).1, ⟨#[]⟩, (gwS K c x.pl x.s).2)
  else if x.kind = 4 then (fuS c x.n x.s, ⟨#[]⟩, 0)
  else if x.kind = 5 then (poS c, ⟨#[]⟩, 0)
  else if x.kind = 6 then (c, rdS c x.pl x.n)
  else (c, ⟨#[]⟩, 0)
/-- Such an act is refused, or done. -/
theorem doG_or (K : List Bool) (c : St) (x : AC) : (doG K c x).1 = c ∨ ((doG K c x).1 = (doS c x).1 ∧ (x.kind = 1 → inK K x.pl = false) ∧ (x.kind = 2 ∨ x.kind = 3 → tch K x.pl x.s.size = false)) := by
  unfold doG doS
  by_cases k1 : x.kind = 1
  · rw [if_pos k1, if_pos k1]
    unfold geS
    by_cases h : inK K x.pl = true
    · rw [if_pos h]; exact .inl rfl
    · rw [if_neg h]; exact .inr ⟨rfl, fun _ => by simpa using h, fun h' => by omega⟩
  · rw [if_neg k1, if_neg k1]
    by_cases k2 : x.kind = 2
    · rw [if_pos k2, if_pos k2]
      unfold gpS
      by_cases h : tch K x.pl x.s.size = true
      · rw [if_pos h]; exact .inl rfl
      · rw [if_neg h]; exact .inr ⟨rfl, fun h' => by omega, fun _ => by simpa using h⟩
    · rw [if_neg k2, if_neg k2]
      by_cases k3 : x.kind = 3
      · rw [if_pos k3, if_pos k3]
        unfold gwS
        by_cases h : tch K x.pl x.s.size = true
        · rw [if_pos h]; exact .inl rfl
        · rw [if_neg h]; exact .inr ⟨rfl, fun h' => by omega, fun _ => by simpa using h⟩
      · rw [if_neg k3, if_neg k3]
        exact .inr ⟨rfl, fun h' => absurd h' k1, fun h' => by omega⟩
theorem doG_ops (K : List Bool) (c : St) (x : AC) : (doG K c x).1.ops ≤ c.ops + 1 + x.s.size := by
  rcases doG_or K c x with h | ⟨h, _⟩
  · rw [h]; omega
  · rw [h]; exact doS_ops c x
/-- No byte of a locked sector changes. -/
theorem doG_keeps (K : List Bool) (c : St) (x : AC) (hl : c.B.length = 24576) (j : Nat) (hj : j < 24576) (hK : K.getD (j / 512) false = true) : (doG K c x).1.B.getD j 0 = c.B.getD j 0 := by
  rcases doG_or K c x with h | ⟨h, h1, h2⟩
  · rw [h]
  · rw [h]
    by_cases hB : (doS c x).1.B = c.B
    · rw [hB]
    · rcases (doS_bits c x hB).2 with ⟨k1, q, hq, hq2, hU⟩ | ⟨k2, q, hq, hq2, hD⟩
      · have hn := h1 k1
        rw [hq, inK_nat K hq2] at hn
        refine (hU j (by omega)).1 fun hc => ?_
        rw [show j / 512 = q by omega, hn] at hK
        cases hK
      · have hn := h2 k2
        refine (hD j (by omega)).1 fun hc => ?_
        rw [hq, tch_yes (j := j) (by omega) hj (by omega) (by omega) hK] at hn
        cases hn
end Go.Proofs.Ytidnbpehhpakcaa
