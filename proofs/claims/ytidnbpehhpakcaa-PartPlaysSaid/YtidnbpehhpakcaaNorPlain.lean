/- A flash memory in plain words: its bytes, its fuse, and what each operation makes of them. No condition: nothing of the program stands in it. -/
import Derived.WalkKit
namespace Go.Proofs.Ytidnbpehhpakcaa

/-- n bytes from a on, each become what a function says of its index and of what it was. -/
def mapAt (B : List UInt8) (a n : Nat) (F : Nat → UInt8 → UInt8) : List UInt8 := B.mapIdx fun j x => if a ≤ j ∧ j < a + n then F (j - a) x else x
theorem mapAt_length (B : List UInt8) (a n : Nat) (F : Nat → UInt8 → UInt8) : (mapAt B a n F).length = B.length := List.length_mapIdx
theorem mapAt_get (B : List UInt8) (a n : Nat) (F : Nat → UInt8 → UInt8) (j : Nat) (h : j < (mapAt B a n F).length) :
    (mapAt B a n F)[j] = if a ≤ j ∧ j < a + n then F (j - a) (B[j]'(by rw [mapAt_length] at h; exact h)) else B[j]'(by rw [mapAt_length] at h; exact h) := by
  exact List.getElem_mapIdx
theorem getD_lt (l : List UInt8) {j : Nat} (h : j < l.length) : l.getD j 0 = l[j] := by simp [List.getD, h]
theorem mapAt_getD (B : List UInt8) (a n : Nat) (F : Nat → UInt8 → UInt8) (j : Nat) (h : j < B.length) :
    (mapAt B a n F).getD j 0 = if a ≤ j ∧ j < a + n then F (j - a) (B.getD j 0) else B.getD j 0 := by
  have h' : j < (mapAt B a n F).length := by rw [mapAt_length]; exact h
  rw [getD_lt _ h', getD_lt _ h, mapAt_get]
theorem mapAt_zero (B : List UInt8) (a : Nat) (F : Nat → UInt8 → UInt8) : mapAt B a 0 F = B := by
  refine List.ext_getElem (mapAt_length _ _ _ _) fun j h1 h2 => ?_
  rw [mapAt_get, if_neg (by omega)]
theorem mapAt_succ (B : List UInt8) (a k : Nat) (F : Nat → UInt8 → UInt8) (h : a + k < B.length) : (mapAt B a k F).set (a + k) (F k (B.getD (a + k) 0)) = mapAt B a (k + 1) F := by
  refine List.ext_getElem (by rw [List.length_set, mapAt_length, mapAt_length]) fun j h1 h2 => ?_
  rw [List.getElem_set]
  by_cases e : a + k = j
  · subst e
    rw [if_pos rfl, mapAt_get, if_pos (by omega), Nat.add_sub_cancel_left, getD_lt _ h]
  · rw [if_neg e, mapAt_get, mapAt_get]
    by_cases hj : a ≤ j ∧ j < a + k
    · rw [if_pos hj, if_pos (by omega)]
    · rw [if_neg hj, if_neg (by omega)]
theorem mapAt_congr (B : List UInt8) (a n : Nat) (F G : Nat → UInt8 → UInt8) (h : ∀ i x, i < n → F i x = G i x) : mapAt B a n F = mapAt B a n G := by
  refine List.ext_getElem (by rw [mapAt_length, mapAt_length]) fun j h1 h2 => ?_
  rw [mapAt_get, mapAt_get]
  by_cases hj : a ≤ j ∧ j < a + n
  · rw [if_pos hj, if_pos hj, h _ _ (by omega)]
  · rw [if_neg hj, if_neg hj]
theorem mapAt_join (B : List UInt8) (a n m : Nat) (F G H : Nat → UInt8 → UInt8) (hF : ∀ i x, i < n → F i x = H i x) (hG : ∀ i x, i < m → G i x = H (n + i) x) :
    mapAt (mapAt B a n F) (a + n) m G = mapAt B a (n + m) H := by
  refine List.ext_getElem (by rw [mapAt_length, mapAt_length, mapAt_length]) fun j h1 h2 => ?_
  rw [mapAt_get, mapAt_get, mapAt_get]
  by_cases h : a ≤ j ∧ j < a + n
  · rw [if_neg (by omega), if_pos h, if_pos (by omega), hF _ _ (by omega)]
  · by_cases h' : a + n ≤ j ∧ j < a + n + m
    · rw [if_pos h', if_neg h, if_pos (by omega), hG _ _ (by omega)]
      congr 1; omega
    · rw [if_neg h', if_neg h, if_neg (by omega)]

/-- A flash. -/
structure St where
  on : Bool
  ops : Nat
  fuse : Option (Nat × ByteArray)
  B : List UInt8
/-- The i-th byte of a string, cyclically. -/
def cyc (t : ByteArray) (i : Nat) : UInt8 := t.data.toList.getD (i % t.size) 0
/-- An operation on n bytes from a on. -/
def oper (c : St) (a n : Nat) (F : Nat → UInt8 → UInt8) (T : Nat → UInt8 → UInt8 → UInt8) : St × Nat :=
  match c.fuse with
  | none => (⟨c.on, c.ops + 1, none, mapAt c.B a n F⟩, 0)
  | some (0, t) => (⟨false, c.ops + 1, none, if t.size = 0 then c.B else mapAt c.B a n fun i x => T i x (cyc t i)⟩, 4)
  | some (k + 1, t) => (⟨c.on, c.ops + 1, some (k, t), mapAt c.B a n F⟩, 0)
def erF (_ : Nat) (_ : UInt8) : UInt8 := 255
def erT (_ : Nat) (x b : UInt8) : UInt8 := if b.toNat % 2 = 1 then 255 else x
def prF (s : ByteArray) (i : Nat) (x : UInt8) : UInt8 := x &&& s.data.toList.getD i 0
def prT (s : ByteArray) (i : Nat) (x b : UInt8) : UInt8 := x &&& (s.data.toList.getD i 0 ||| b)
def thr (a n : Int) : Bool := decide (0 ≤ a) && decide (a ≤ 24576) && decide (0 ≤ n) && decide (n ≤ 24576 - a)
theorem thr_true {a n : Int} (h : thr a n = true) : 0 ≤ a ∧ a ≤ 24576 ∧ 0 ≤ n ∧ n ≤ 24576 - a := by
  unfold thr at h; simp at h; omega
theorem thr_false {a n : Int} (h : thr a n = false) : ¬ (0 ≤ a ∧ a ≤ 24576 ∧ 0 ≤ n ∧ n ≤ 24576 - a) := by
  intro h'; unfold thr at h; simp [h'] at h
theorem thr_of {a n : Int} (h : 0 ≤ a ∧ a ≤ 24576 ∧ 0 ≤ n ∧ n ≤ 24576 - a) : thr a n = true := by
  unfold thr; simp [h]
/-- Erase, Program, Write. -/
def erS (c : St) (s : Int) : St × Nat := if c.on = false then (c, 4) else if s < 0 ∨ 48 ≤ s then (c, 2) else oper c (s.toNat * 512) 512 erF erT
def prS (c : St) (a : Int) (s : ByteArray) : St × Nat :=
  if c.on = false then (c, 4) else if s.size = 0 ∨ 32 < s.size then (c, 1) else if thr a s.size = false then (c, 2) else if 32 - a.toNat % 32 < s.size then (c, 1) else oper c a.toNat s.size (prF s) (prT s)
def wrL : Nat → St → Nat → ByteArray → St × Nat
  | 0, c, _, _ => (c, 0)
  | f + 1, c, a, s =>
    if s.size = 0 then (c, 0)
    else if (prS c a (s.extract 0 (min s.size (32 - a % 32)))).2 = 0 then wrL f (prS c a (s.extract 0 (min s.size (32 - a % 32)))).1 (a + min s.size (32 - a % 32)) (s.extract (min s.size (32 - a % 32)) s.size)
    else prS c a (s.extract 0 (min s.size (32 - a % 32)))
def wrS (c : St) (a : Int) (s : ByteArray) : St × Nat := if c.on = false then (c, 4) else if thr a s.size = false then (c, 2) else wrL s.size c a.toNat s
theorem wrL_done (f : Nat) (c : St) (a : Nat) (s : ByteArray) (h : s.size = 0) : wrL f c a s = (c, 0) := by
  cases f with
  | zero => rfl
  | succ f => unfold wrL; rw [if_pos h]
/-- Fuse, Power, Read. -/
def fuS (c : St) (n : Int) (t : ByteArray) : St := if c.on = false then c else ⟨c.on, c.ops, if n < 0 then none else some (n.toNat, t), c.B⟩
def poS (c : St) : St := ⟨true, c.ops, none, c.B⟩
def rdS (c : St) (a n : Int) : ByteArray × Nat := if c.on = false then (⟨#[]⟩, 4) else if thr a n = false then (⟨#[]⟩, 2) else (⟨((c.B.drop a.toNat).take n.toNat).toArray⟩, 0)
/-- What holds of every flash. -/
def St.ok (c : St) : Prop := c.B.length = 24576 ∧ (c.on = false → c.fuse = none) ∧ ∀ k t, c.fuse = some (k, t) → k < 9223372036854775808
theorem oper_ok {c : St} (h : c.ok) (hon : c.on = true) (a n : Nat) (F : Nat → UInt8 → UInt8) (T : Nat → UInt8 → UInt8 → UInt8) : (oper c a n F T).1.ok := by
  obtain ⟨h1, h2, h3⟩ := h
  unfold oper
  match hf : c.fuse with
  | none => exact ⟨by simpa only [mapAt_length] using h1, fun _ => rfl, fun _ _ e => by cases e⟩
  | some (0, t) => exact ⟨by show List.length (if _ then _ else _) = _; split; exact h1; rw [mapAt_length]; exact h1, fun _ => rfl, fun _ _ e => by cases e⟩
  | some (k + 1, t) =>
    refine ⟨by simpa only [mapAt_length] using h1, fun e => ?_, fun k' t' e => ?_⟩
    · simp only at e; rw [hon] at e; cases e
    · have := h3 _ _ hf
      simp only [Option.some.injEq, Prod.mk.injEq] at e
      omega
theorem oper_ops (c : St) (a n : Nat) (F : Nat → UInt8 → UInt8) (T : Nat → UInt8 → UInt8 → UInt8) : (oper c a n F T).1.ops = c.ops + 1 := by
  unfold oper; split <;> rfl
theorem erS_ok {c : St} (h : c.ok) (s : Int) : (erS c s).1.ok := by
  unfold erS
  split
  · exact h
  · split
    · exact h
    · exact oper_ok h (by simpa using ‹¬ c.on = false›) _ _ _ _
theorem erS_ops (c : St) (s : Int) : (erS c s).1.ops ≤ c.ops + 1 := by
  unfold erS
  split
  · exact Nat.le_succ _
  · split
    · exact Nat.le_succ _
    · rw [oper_ops]; exact Nat.le_refl _
theorem prS_ok {c : St} (h : c.ok) (a : Int) (s : ByteArray) : (prS c a s).1.ok := by
  unfold prS
  split
  · exact h
  · split
    · exact h
    · split
      · exact h
      · split
        · exact h
        · exact oper_ok h (by simpa using ‹¬ c.on = false›) _ _ _ _
theorem prS_ops (c : St) (a : Int) (s : ByteArray) : (prS c a s).1.ops ≤ c.ops + 1 := by
  unfold prS
  split
  · exact Nat.le_succ _
  · split
    · exact Nat.le_succ _
    · split
      · exact Nat.le_succ _
      · split
        · exact Nat.le_succ _
        · rw [oper_ops]; exact Nat.le_refl _
theorem prS_on {c : St} {a : Int} {s : ByteArray} (h : (prS c a s).2 = 0) : c.on = true ∧ (prS c a s).1.on = true := by
  unfold prS at h ⊢
  by_cases h0 : c.on = false
  · rw [if_pos h0] at h; cases h
  · have hon : c.on = true := by simpa using h0
    rw [if_neg h0] at h ⊢
    refine ⟨hon, ?_⟩
    by_cases h1 : s.size = 0 ∨ 32 < s.size
    · rw [if_pos h1] at h; cases h
    · rw [if_neg h1] at h ⊢
      by_cases h2 : thr a s.size = false
      · rw [if_pos h2] at h; cases h
      · rw [if_neg h2] at h ⊢
        by_cases h3 : 32 - a.toNat % 32 < s.size
        · rw [if_pos h3] at h; cases h
        · rw [if_neg h3] at h ⊢
          unfold oper at h ⊢
          match hf : c.fuse with
          | none => exact hon
          | some (0, t) => simp only [hf] at h; cases h
          | some (k + 1, t) => exact hon
end Go.Proofs.Ytidnbpehhpakcaa
