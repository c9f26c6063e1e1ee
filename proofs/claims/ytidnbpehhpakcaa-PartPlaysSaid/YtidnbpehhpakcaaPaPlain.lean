/- Parts of a flash in plain words: whether they may be, which one is found, where its bytes are, what is done in it, and that no byte of another sector changes. No condition: nothing of the program stands in it. -/
import Derived.Test.YtidnbpehhpakcaaGuPlain
namespace Go.Proofs.Ytidnbpehhpakcaa
open Go.RowKit

/-- A part: its name, its first sector, how many it has. -/
structure PT where
  nm : ByteArray
  fi : Int
  mn : Int
def pt0 : PT := ⟨⟨#[]⟩, 0, 0⟩
/-- A name that may not be; sectors that may not be; two parts that may not be together. -/
def nmBad (p : PT) : Bool := decide (p.nm.size = 0) || decide (31 < p.nm.size)
def rgBad (p : PT) : Bool := decide (p.fi < 0) || decide (p.mn < 1) || decide (48 < p.fi) || decide (48 - p.fi < p.mn)
def clash (p q : PT) : Bool := decide (p.nm = q.nm) || (decide (p.fi < q.fi + q.mn) && decide (q.fi < p.fi + p.mn))
theorem nmBad_true {p : PT} (h : p.nm.size = 0 ∨ 31 < p.nm.size) : nmBad p = true := by unfold nmBad; simp only [Bool.or_eq_true, decide_eq_true_eq]; exact h
theorem nmBad_false {p : PT} (h : 0 < p.nm.size ∧ p.nm.size ≤ 31) : nmBad p = false := by unfold nmBad; simp only [Bool.or_eq_false_iff, decide_eq_false_iff_not]; omega
theorem nmBad_of {p : PT} (h : nmBad p = false) : 0 < p.nm.size ∧ p.nm.size ≤ 31 := by unfold nmBad at h; simp only [Bool.or_eq_false_iff, decide_eq_false_iff_not] at h; omega
theorem rgBad_true {p : PT} (h : ¬ (0 ≤ p.fi ∧ 1 ≤ p.mn ∧ p.fi ≤ 48 ∧ p.mn ≤ 48 - p.fi)) : rgBad p = true := by unfold rgBad; simp; omega
theorem rgBad_false {p : PT} (h : 0 ≤ p.fi ∧ 1 ≤ p.mn ∧ p.fi ≤ 48 ∧ p.mn ≤ 48 - p.fi) : rgBad p = false := by unfold rgBad; simp; omega
theorem rgBad_of {p : PT} (h : rgBad p = false) : 0 ≤ p.fi ∧ 1 ≤ p.mn ∧ p.fi ≤ 47 ∧ p.fi + p.mn ≤ 48 := by unfold rgBad at h; simp at h; omega
/-- The error of parts. -/
def ckP (L : List PT) : Nat :=
  if 16 < L.length then 1 else if L.any nmBad = true then 1 else if L.any rgBad = true then 2
  else if (List.range L.length).any (fun i => (List.range i).any fun k => clash (L.getD i pt0) (L.getD k pt0)) = true then 12 else 0
theorem any_of {f : PT → Bool} {L : List PT} {k : Nat} (hk : k < L.length) (h : f (L.getD k pt0) = true) : L.any f = true := by
  rw [List.any_eq_true]
  refine ⟨L.getD k pt0, ?_, h⟩
  rw [List.getD, List.getElem?_eq_getElem hk]
  exact List.getElem_mem hk
theorem any_no {f : PT → Bool} {L : List PT} (h : ∀ j, j < L.length → f (L.getD j pt0) = false) : L.any f = false := by
  rw [List.any_eq_false]
  intro x hx
  obtain ⟨j, hj, rfl⟩ := List.getElem_of_mem hx
  have := h j hj
  rw [List.getD, List.getElem?_eq_getElem hj] at this
  simpa using this
theorem ck_big {L : List PT} (h : 16 < L.length) : ckP L = 1 := by unfold ckP; rw [if_pos h]
theorem ck_nm {L : List PT} (h : L.length ≤ 16) {k : Nat} (hk : k < L.length) (hb : nmBad (L.getD k pt0) = true) : ckP L = 1 := by
  unfold ckP; rw [if_neg (by omega), if_pos (any_of hk hb)]
theorem ck_rg {L : List PT} (h : L.length ≤ 16) (h1 : ∀ j, j < L.length → nmBad (L.getD j pt0) = false) {k : Nat} (hk : k < L.length) (hb : rgBad (L.getD k pt0) = true) : ckP L = 2 := by
  unfold ckP; rw [if_neg (by omega), if_neg (by rw [any_no h1]; decide), if_pos (any_of hk hb)]
theorem ck_cl {L : List PT} (h : L.length ≤ 16) (h1 : ∀ j, j < L.length → nmBad (L.getD j pt0) = false) (h2 : ∀ j, j < L.length → rgBad (L.getD j pt0) = false) {i k : Nat} (hi : i < L.length) (hk : k < i)
    (hb : clash (L.getD i pt0) (L.getD k pt0) = true) : ckP L = 12 := by
  unfold ckP
  rw [if_neg (by omega), if_neg (by rw [any_no h1]; decide), if_neg (by rw [any_no h2]; decide), if_pos]
  rw [List.any_eq_true]
  refine ⟨i, List.mem_range.2 hi, ?_⟩
  rw [List.any_eq_true]
  exact ⟨k, List.mem_range.2 hk, hb⟩
theorem ck_ok {L : List PT} (h : L.length ≤ 16) (h1 : ∀ j, j < L.length → nmBad (L.getD j pt0) = false) (h2 : ∀ j, j < L.length → rgBad (L.getD j pt0) = false) (h3 : ∀ i k, i < L.length → k < i → clash (L.getD i pt0) (L.getD k pt0) = false) : ckP L = 0 := by
  unfold ckP
  rw [if_neg (by omega), if_neg (by rw [any_no h1]; decide), if_neg (by rw [any_no h2]; decide), if_neg]
  rw [Bool.not_eq_true, List.any_eq_false]
  intro i hi
  rw [Bool.not_eq_true, List.any_eq_false]
  intro k hk
  rw [h3 i k (List.mem_range.1 hi) (List.mem_range.1 hk)]
  decide
theorem ck_zero {L : List PT} (h : ckP L = 0) : L.length ≤ 16 ∧ (∀ j, j < L.length → nmBad (L.getD j pt0) = false) ∧ ∀ j, j < L.length → rgBad (L.getD j pt0) = false := by
  unfold ckP at h
  split at h
  · cases h
  · split at h
    · cases h
    · split at h
      · cases h
      · rename_i q1 q2 q3 
        refine ⟨by omega, fun j hj => ?_, fun j hj => ?_⟩
        · cases e : nmBad (L.getD j pt0) with
          | false => rfl
          | true => exact absurd (any_of hj e) q2
        · cases e : rgBad (L.getD j pt0) with
          | false => rfl
          | true => exact absurd (any_of hj e) q3
theorem ck_cases (L : List PT) : ckP L = 0 ∨ ckP L = 1 ∨ ckP L = 2 ∨ ckP L = 12 := by
  unfold ckP; split <;> (try split) <;> (try split) <;> (try split) <;> simp
/-- All parts are such that their sectors exist. -/
def Good (L : List PT) : Prop := L.length ≤ 16 ∧ ∀ j, j < L.length → rgBad (L.getD j pt0) = false
theorem good_of {L : List PT} (h : ckP L = 0) : Good L := ⟨(ck_zero h).1, (ck_zero h).2.2⟩

/-- The part with this name. -/
def fdP (L : List PT) (name : ByteArray) : Option PT := L.find? fun p => decide (p.nm = name)
theorem fd_some {L : List PT} {name : ByteArray} {k : Nat} (hk : k < L.length) (h : ∀ j, j < k → (L.getD j pt0).nm ≠ name) (hn : (L.getD k pt0).nm = name) : fdP L name = some (L.getD k pt0) := by
  unfold fdP
  rw [List.find?_eq_some_iff_append]
  refine ⟨by simpa using hn, L.take k, L.drop (k + 1), ?_, fun a ha => ?_⟩
  · rw [List.getD, List.getElem?_eq_getElem hk, Option.getD_some, ← List.drop_eq_getElem_cons hk, List.take_append_drop]
  · obtain ⟨j, hj, rfl⟩ := List.getElem_of_mem ha
    have hj' : j < k := by rw [List.length_take] at hj; omega
    have := h j hj'
    rw [List.getD, List.getElem?_eq_getElem (by omega), Option.getD_some] at this
    rw [List.getElem_take]
    simpa using this
theorem fd_none {L : List PT} {name : ByteArray} (h : ∀ j, j < L.length → (L.getD j pt0).nm ≠ name) : fdP L name = none := by
  unfold fdP
  rw [List.find?_eq_none]
  intro a ha
  obtain ⟨j, hj, rfl⟩ := List.getElem_of_mem ha
  have := h j hj
  rw [List.getD, List.getElem?_eq_getElem hj, Option.getD_some] at this
  simpa using this
theorem fd_mem {L : List PT} {name : ByteArray} {p : PT} (h : fdP L name = some p) : p.nm = name ∧ ∃ i, i < L.length ∧ L.getD i pt0 = p := by
  unfold fdP at h
  refine ⟨by simpa using List.find?_some h, ?_⟩
  obtain ⟨i, hi, he⟩ := List.getElem_of_mem (List.mem_of_find?_eq_some h)
  exact ⟨i, hi, by rw [List.getD, List.getElem?_eq_getElem hi]; exact he⟩
theorem fd_good {L : List PT} {name : ByteArray} {p : PT} (hg : Good L) (h : fdP L name = some p) : 0 ≤ p.fi ∧ 1 ≤ p.mn ∧ p.fi ≤ 47 ∧ p.fi + p.mn ≤ 48 := by
  obtain ⟨_, i, hi, rfl⟩ := fd_mem h
  exact rgBad_of (hg.2 i hi)
/-- What Find tells. -/
def fdV (L : List PT) (name : ByteArray) : PT := (fdP L name).getD pt0
def fdB (L : List PT) (name : ByteArray) : Bool := (fdP L name).isSome
theorem fdV_good {L : List PT} (hg : Good L) (name : ByteArray) : 0 ≤ (fdV L name).fi ∧ 0 ≤ (fdV L name).mn ∧ (fdV L name).fi ≤ 47 ∧ (fdV L name).fi + (fdV L name).mn ≤ 48 := by
  unfold fdV
  cases h : fdP L name with
  | none => simp [pt0]
  | some p => have := fd_good hg h; simp only [Option.getD_some]; omega
theorem fdB_false {L : List PT} {name : ByteArray} (h : fdB L name = false) : fdP L name = none := by unfold fdB at h; simpa using h
theorem fdB_true {L : List PT} {name : ByteArray} (h : fdB L name = true) : fdP L name = some (fdV L name) := by
  unfold fdB at h; unfold fdV
  cases e : fdP L name with
  | none => rw [e] at h; cases h
  | some p => rfl
/-- Where bytes of a part are, or why not. -/
def plP (L : List PT) (name : ByteArray) (a n : Int) : Int × Nat :=
  if fdB L name = false then (0, 8) else if 0 ≤ a ∧ 0 ≤ n ∧ a ≤ (fdV L name).mn * 512 ∧ n ≤ (fdV L name).mn * 512 - a then ((fdV L name).fi * 512 + a, 0) else (0, 2)
/-- Read, Write, Erase in a part. -/
def prdS (L : List PT) (c : St) (name : ByteArray) (a n : Int) : ByteArray × Nat := if (plP L name a n).2 = 0 then rdS c (plP L name a n).1 n else (⟨#[]⟩, (plP L name a n).2)
def pwS (L : List PT) (K : List Bool) (c : St) (name : ByteArray) (a : Int) (s : ByteArray) : St × Nat := if (plP L name a s.size).2 = 0 then gwS K c (plP L name a s.size).1 s else (c, (plP L name a s.size).2)
def peS (L : List PT) (K : List Bool) (c : St) (name : ByteArray) (x : Int) : St × Nat :=
  if fdB L name = false then (c, 8) else if 0 ≤ x ∧ x < (fdV L name).mn then geS K c ((fdV L name).fi + x) else (c, 2)
/-- The sectors of parts. -/
def secs1 (p : PT) (k : Nat) : List Int := (List.range k).map fun (j : Nat) => p.fi + j
def secs (L : List PT) (N : List ByteArray) : List Int := N.flatMap fun name => secs1 (fdV L name) (fdV L name).mn.toNat
theorem secs1_succ (p : PT) (k : Nat) : secs1 p (k + 1) = secs1 p k ++ [p.fi + k] := by unfold secs1; rw [List.range_succ, List.map_append]; rfl
theorem secs1_length (p : PT) (k : Nat) : (secs1 p k).length = k := by simp [secs1]
theorem secs_take (L : List PT) (N : List ByteArray) {k : Nat} (hk : k < N.length) : secs L (N.take (k + 1)) = secs L (N.take k) ++ secs1 (fdV L (N.getD k ByteArray.empty)) (fdV L (N.getD k ByteArray.empty)).mn.toNat := by
  unfold secs
  rw [List.take_succ_eq_append_getElem hk, List.flatMap_append]
  simp [List.getD, List.getElem?_eq_getElem hk]
theorem secs_length {L : List PT} (hg : Good L) (N : List ByteArray) : (secs L N).length ≤ 48 * N.length := by
  unfold secs
  induction N with
  | nil => simp
  | cons x N ih =>
    have := fdV_good hg x
    rw [List.flatMap_cons, List.length_append, secs1_length, List.length_cons]
    omega

/-- What a write or an erase behind a guard leaves as it was. -/
theorem gwS_keeps (K : List Bool) (c : St) (a : Int) (s : ByteArray) (hl : c.B.length = 24576) (j : Nat) (hj : j < 24576) (ho : ¬ (a ≤ j ∧ (j : Int) < a + s.size)) : (gwS K c a s).1.B.getD j 0 = c.B.getD j 0 := by
  have e : (gwS K c a s).1 = (doG K c ⟨3, a, 0, s⟩).1 := rfl
  rw [e]
  rcases doG_or K c ⟨3, a, 0, s⟩ with h | ⟨h, _, _⟩
  · rw [h]
  · rw [h]
    by_cases hB : (doS c ⟨3, a, 0, s⟩).1.B = c.B
    · rw [hB]
    · rcases (doS_bits c ⟨3, a, 0, s⟩ hB).2 with ⟨k1, _⟩ | ⟨_, q, hq, _, hD⟩
      · simp at k1
      · refine (hD j (by omega)).1 fun hc => ho ?_
        simp only at hq hc
        omega
theorem geS_keeps (K : List Bool) (c : St) (x : Int) (hl : c.B.length = 24576) (j : Nat) (hj : j < 24576) (ho : ((j / 512 : Nat) : Int) ≠ x) : (geS K c x).1.B.getD j 0 = c.B.getD j 0 := by
  have e : (geS K c x).1 = (doG K c ⟨1, x, 0, ⟨#[]⟩⟩).1 := rfl
  rw [e]
  rcases doG_or K c ⟨1, x, 0, ⟨#[]⟩⟩ with h | ⟨h, _, _⟩
  · rw [h]
  · rw [h]
    by_cases hB : (doS c ⟨1, x, 0, ⟨#[]⟩⟩).1.B = c.B
    · rw [hB]
    · rcases (doS_bits c ⟨1, x, 0, ⟨#[]⟩⟩ hB).2 with ⟨_, q, hq, _, hU⟩ | ⟨k2, _⟩
      · refine (hU j (by omega)).1 fun hc => ho ?_
        simp only at hq
        omega
      · simp at k2
/-- A sector that is none of the named part's. -/
def Other (L : List PT) (name : ByteArray) (k : Nat) : Prop := ∀ i, i < L.length → ¬ ((L.getD i pt0).nm = name ∧ (L.getD i pt0).fi ≤ k ∧ (k : Int) - (L.getD i pt0).fi < (L.getD i pt0).mn)
theorem other_found {L : List PT} {name : ByteArray} {k : Nat} (h : Other L name k) {p : PT} (hp : fdP L name = some p) : ¬ (p.fi ≤ k ∧ (k : Int) < p.fi + p.mn) := by
  obtain ⟨hn, i, hi, rfl⟩ := fd_mem hp
  have := h i hi
  intro h'
  exact this ⟨hn, h'.1, by omega⟩
theorem pwS_keeps {L : List PT} (hg : Good L) (K : List Bool) (c : St) (name : ByteArray) (a : Int) (s : ByteArray) (hl : c.B.length = 24576) (j : Nat) (hj : j < 24576) (ho : Other L name (j / 512)) : (pwS L K c name a s).1.B.getD j 0 = c.B.getD j 0 := by
  unfold pwS
  split
  · rename_i h0
    unfold plP at h0 ⊢
    split at h0
    · cases h0
    · rename_i hb
      have hp := fdB_true (by simpa using hb)
      split at h0
      · rename_i hin
        rw [if_neg hb, if_pos hin]
        have hfi := fd_good hg hp
        have hno := other_found ho hp
        refine gwS_keeps K c _ s hl j hj fun hc => hno ?_
        simp only at hc
        omega
      · cases h0
  · rfl
theorem peS_keeps {L : List PT} (K : List Bool) (c : St) (name : ByteArray) (x : Int) (hl : c.B.length = 24576) (j : Nat) (hj : j < 24576) (ho : Other L name (j / 512)) : (peS L K c name x).1.B.getD j 0 = c.B.getD j 0 := by
  unfold peS
  split
  · rfl
  · rename_i hb
    have hp := fdB_true (by simpa using hb)
    have hno := other_found ho hp
    split
    · exact geS_keeps K c _ hl j hj fun e => hno (by omega)
    · rfl
theorem gwS_ops (K : List Bool) (c : St) (a : Int) (s : ByteArray) : (gwS K c a s).1.ops ≤ c.ops + 1 + s.size := doG_ops K c ⟨3, a, 0, s⟩
theorem geS_ops (K : List Bool) (c : St) (x : Int) : (geS K c x).1.ops ≤ c.ops + 1 := by
  exact doG_ops K c ⟨1, x, 0, ⟨#[]⟩⟩
theorem pwS_ops (L : List PT) (K : List Bool) (c : St) (name : ByteArray) (a : Int) (s : ByteArray) : (pwS L K c name a s).1.ops ≤ c.ops + 1 + s.size := by
  unfold pwS; split
  · exact gwS_ops K c _ s
  · show c.ops ≤ _; omega
theorem peS_ops (L : List PT) (K : List Bool) (c : St) (name : ByteArray) (x : Int) : (peS L K c name x).1.ops ≤ c.ops + 1 := by
  unfold peS; split
  · exact Nat.le_succ _
  · split
    · exact geS_ops K c _
    · exact Nat.le_succ _
end Go.Proofs.Ytidnbpehhpakcaa
