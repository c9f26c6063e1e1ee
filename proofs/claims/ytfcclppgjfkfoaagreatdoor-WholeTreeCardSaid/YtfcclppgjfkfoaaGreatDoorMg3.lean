/- Changing trees, in plain words. No condition: nothing of the program stands in it. -/
import Derived.Test.YtfcclppgjfkfoaaGreatDoorMg2
import Derived.Test.YtfcclppgjfkfoaaGreatDoorMg0
import Derived.Test.YtfcclppgjfkfoaaGreatDoorMg1
import Derived.WalkKit
import Derived.WalkSpells
import Derived.Laws.AppendOwn
import Derived.Lib.Hide
namespace Go.Proofs.YtfcclppgjfkfoaaGreatDoor
open Go.RowKit

/-- What is done at a node: 1 a property is set, 2 taken away, 3 a kid is added, else taken away. -/
structure CH where
  kd : Int
  nm : ByteArray
  vl : ByteArray
/-- Properties behind a change, and whether there was one of the name. -/
def propsR (c : CH) : List PR → List PR × Bool
  | [] => (if c.kd = 1 then [⟨c.nm, c.vl⟩] else [], false)
  | x :: r => if x.nm = c.nm then (if c.kd = 2 then r else ⟨x.nm, c.vl⟩ :: r, true) else (x :: (propsR c r).1, (propsR c r).2)
/-- Nodes without the first of a name. -/
def withoutR (nm : ByteArray) : List ND → List ND
  | [] => []
  | x :: r => if x.nm = nm then r else x :: withoutR nm r
/-- Nodes with another one for the first of a name. -/
def replR (nm : ByteArray) (m : ND) : List ND → List ND
  | [] => []
  | x :: r => if x.nm = nm then m :: r else x :: replR nm m r
theorem props_had {c : CH} : ∀ {l : List PR}, (propsR c l).2 = (l.find? fun x => decide (x.nm = c.nm)).isSome
  | [] => rfl
  | x :: r => by
    unfold propsR
    rw [List.find?_cons]
    by_cases h : x.nm = c.nm
    · rw [if_pos h, decide_eq_true h]; rfl
    · rw [if_neg h, decide_eq_false h]
      exact props_had (l := r)
/-- What is set is there. -/
theorem props_set {nm vl : ByteArray} : ∀ {l : List PR}, ((propsR ⟨1, nm, vl⟩ l).1.find? fun x => decide (x.nm = nm)).map PR.vl = some vl
  | [] => by
    show ((⟨nm, vl⟩ :: ([] : List PR)).find? fun x => decide (x.nm = nm)).map PR.vl = _
    rw [List.find?_cons, decide_eq_true rfl]; rfl
  | x :: r => by
    unfold propsR
    by_cases h : x.nm = nm
    · rw [if_pos h, if_neg (show ¬ ((1 : Int) = 2) by decide)]
      show ((⟨x.nm, vl⟩ :: r).find? fun x => decide (x.nm = nm)).map PR.vl = _
      rw [List.find?_cons, decide_eq_true h]; rfl
    · rw [if_neg h]
      show ((x :: (propsR ⟨1, nm, vl⟩ r).1).find? fun x => decide (x.nm = nm)).map PR.vl = _
      rw [List.find?_cons, decide_eq_false h]
      exact props_set (l := r)
/-- What was set where there was none, and is taken away, leaves what was. -/
theorem props_back {nm vl v : ByteArray} : ∀ {l : List PR}, (propsR ⟨1, nm, vl⟩ l).2 = false → propsR ⟨2, nm, v⟩ (propsR ⟨1, nm, vl⟩ l).1 = (l, true)
  | [], _ => by
    show propsR ⟨2, nm, v⟩ [⟨nm, vl⟩] = _
    unfold propsR
    rw [if_pos rfl, if_pos rfl]
  | x :: r, h => by
    unfold propsR at h
    by_cases e : x.nm = nm
    · rw [if_pos e] at h
      exact absurd h (by simp)
    · rw [if_neg e] at h
      have ih := props_back (v := v) (l := r) h
      rw [show propsR ⟨1, nm, vl⟩ (x :: r) = (x :: (propsR ⟨1, nm, vl⟩ r).1, (propsR ⟨1, nm, vl⟩ r).2) by rw [propsR, if_neg e]]
      show propsR ⟨2, nm, v⟩ (x :: (propsR ⟨1, nm, vl⟩ r).1) = _
      rw [propsR, if_neg e, ih]
/-- A kid that was added to none of its name, and is taken away, leaves what was. -/
theorem without_add {nm : ByteArray} {m : ND} (hm : m.nm = nm) : ∀ {l : List ND}, (l.find? fun x => decide (x.nm = nm)) = none → withoutR nm (l ++ [m]) = l
  | [], _ => by
    show withoutR nm [m] = []
    rw [withoutR, if_pos hm]
  | x :: r, h => by
    rw [List.find?_cons] at h
    by_cases e : x.nm = nm
    · rw [decide_eq_true e] at h
      exact absurd h (by simp)
    · rw [decide_eq_false e] at h
      show withoutR nm (x :: (r ++ [m])) = _
      rw [withoutR, if_neg e, without_add hm h]
theorem find_add {nm : ByteArray} {m : ND} (hm : m.nm = nm) : ∀ {l : List ND}, (l.find? fun x => decide (x.nm = nm)) = none → ((l ++ [m]).find? fun x => decide (x.nm = nm)) = some m
  | [], _ => by
    show ([m].find? fun x => decide (x.nm = nm)) = _
    rw [List.find?_cons, decide_eq_true hm]
  | x :: r, h => by
    rw [List.find?_cons] at h
    by_cases e : x.nm = nm
    · rw [decide_eq_true e] at h
      exact absurd h (by simp)
    · rw [decide_eq_false e] at h
      show ((x :: (r ++ [m])).find? fun x => decide (x.nm = nm)) = _
      rw [List.find?_cons, decide_eq_false e]
      exact find_add hm h
/-- Another kid of the same name is found in its place; and put back it leaves what was. -/
theorem find_repl {nm : ByteArray} {m k : ND} (hm : m.nm = nm) : ∀ {l : List ND}, (l.find? fun x => decide (x.nm = nm)) = some k → ((replR nm m l).find? fun x => decide (x.nm = nm)) = some m ∧ replR nm k (replR nm m l) = l
  | [], h => absurd h (by simp)
  | x :: r, h => by
    rw [List.find?_cons] at h
    by_cases e : x.nm = nm
    · rw [decide_eq_true e] at h
      injection (show some x = some k from h) with h
      rw [replR, if_pos e]
      refine ⟨by rw [List.find?_cons, decide_eq_true hm], ?_⟩
      rw [replR, if_pos hm, h]
    · rw [decide_eq_false e] at h
      obtain ⟨h1, h2⟩ := find_repl hm (l := r) h
      rw [replR, if_neg e]
      refine ⟨?_, ?_⟩
      · rw [List.find?_cons, decide_eq_false e]; exact h1
      · rw [replR, if_neg e, h2]
theorem repl_len {nm : ByteArray} {m : ND} : ∀ {l : List ND}, (replR nm m l).length = l.length
  | [] => rfl
  | x :: r => by
    rw [replR]
    split
    · rfl
    · rw [List.length_cons, List.length_cons, repl_len]

/-- May a kid have a name? -/
def mayKidR (s : ByteArray) : Bool := mayB s && decide ((47 : UInt8) ∉ s.data.toList)
/-- A node behind a change, and why it is not changed. -/
def hereR (n : ND) (c : CH) : ND × Nat :=
  if c.kd = 1 then (if mayB c.nm = true then (.mk n.nm (propsR c n.ps).1 n.ks, 0) else (nd0, 1))
  else if c.kd = 2 then (if (propsR c n.ps).2 = true then (.mk n.nm (propsR c n.ps).1 n.ks, 0) else (nd0, 8))
  else if c.kd = 3 then (if mayKidR c.nm = false then (nd0, 1) else if (kidR n c.nm).isSome = true then (nd0, 12) else (.mk n.nm n.ps (n.ks ++ [.mk c.nm [] []]), 0))
  else (if (kidR n c.nm).isSome = true then (.mk n.nm n.ps (withoutR c.nm n.ks), 0) else (nd0, 8))
def downR : ND → List ByteArray → CH → ND × Nat
  | n, [], c => hereR n c
  | n, x :: l, c => match kidR n x with
    | none => (nd0, 8)
    | some k => if (downR k l c).2 = 0 then (.mk n.nm n.ps (replR x (downR k l c).1 n.ks), 0) else (nd0, (downR k l c).2)
/-- A tree, unless it is too deep, or too big. -/
def fitsTo (n : ND) : ND × Nat := if 8 < (countR 9 n).c then (nd0, 13) else if fitsR n = true then (n, 0) else (nd0, 7)
/-- A change at the node of a path. -/
def doR17 (n : ND) (p : List UInt8) (c : CH) : ND × Nat :=
  if (partsR p).2 = true then (if (downR n (baL (partsR p).1) c).2 = 0 then fitsTo (downR n (baL (partsR p).1) c).1 else (nd0, (downR n (baL (partsR p).1) c).2)) else (nd0, 8)
theorem here_nm {n : ND} {c : CH} (h : (hereR n c).2 = 0) : (hereR n c).1.nm = n.nm := by
  unfold hereR at h ⊢
  split
  · split
    · rfl
    · rename_i h1 h2; rw [if_pos h1, if_neg h2] at h; exact absurd h (by simp)
  · rename_i h1
    rw [if_neg h1] at h
    split
    · split
      · rfl
      · rename_i h2 h3; rw [if_pos h2, if_neg h3] at h; exact absurd h (by simp)
    · rename_i h2
      rw [if_neg h2] at h
      split
      · rename_i h3
        rw [if_pos h3] at h
        split
        · rename_i h4; rw [if_pos h4] at h; exact absurd h (by simp)
        · rename_i h4
          rw [if_neg h4] at h
          split
          · rename_i h5; rw [if_pos h5] at h; exact absurd h (by simp)
          · rfl
      · rename_i h3
        rw [if_neg h3] at h
        split
        · rfl
        · rename_i h4; rw [if_neg h4] at h; exact absurd h (by simp)
theorem down_nm : ∀ {l : List ByteArray} {n : ND} {c : CH}, (downR n l c).2 = 0 → (downR n l c).1.nm = n.nm
  | [], _, _, h => here_nm h
  | x :: l, n, c, h => by
    unfold downR at h ⊢
    cases e : kidR n x with
    | none => rw [e] at h; exact absurd h (by simp)
    | some k =>
      rw [e] at h
      by_cases h0 : (downR k l c).2 = 0
      · simp only [if_pos h0]; rfl
      · simp only [if_neg h0] at h; exact absurd h h0
/-- What is changed at the node of names is found there; and nothing is changed where there is no such node. -/
theorem down_find : ∀ {l : List ByteArray} {n : ND} {c : CH}, (downR n l c).2 = 0 → ∃ k, followR n l = some k ∧ (hereR k c).2 = 0 ∧ followR (downR n l c).1 l = some (hereR k c).1
  | [], n, c, h => ⟨n, rfl, h, rfl⟩
  | x :: l, n, c, h => by
    unfold downR at h
    cases e : kidR n x with
    | none => rw [e] at h; exact absurd h (by simp)
    | some k =>
      rw [e] at h
      by_cases h0 : (downR k l c).2 = 0
      · obtain ⟨q, q1, q2, q3⟩ := down_find h0
        have hk : k.nm = x := by
          have := List.find?_some (show (n.ks.find? fun y => decide (y.nm = x)) = some k from e)
          simpa using this
        have hr := (find_repl (m := (downR k l c).1) ((down_nm h0).trans hk) (show (n.ks.find? fun y => decide (y.nm = x)) = some k from e)).1
        have hd : downR n (x :: l) c = (.mk n.nm n.ps (replR x (downR k l c).1 n.ks), 0) := by
          rw [downR, e]
          simp only [if_pos h0]
        refine ⟨q, ?_, q2, ?_⟩
        · rw [followR, e]; exact q1
        · rw [hd]
          show (match kidR (.mk n.nm n.ps (replR x (downR k l c).1 n.ks)) x with
            | none => none
            | some k => followR k l) = _
          rw [show kidR (.mk n.nm n.ps (replR x (downR k l c).1 n.ks)) x = some (downR k l c).1 from hr]
          exact q3
      · simp only [if_neg h0] at h; exact absurd h h0
end Go.Proofs.YtfcclppgjfkfoaaGreatDoor

/- How a list of properties, or of kids, is gone through when one of them is changed, in plain words. No condition: nothing of the program stands in it. -/
namespace Go.Proofs.YtfcclppgjfkfoaaGreatDoor
open Go.RowKit

theorem getD_zero {α : Type} (d x : α) (r : List α) : (x :: r).getD 0 d = x := rfl
theorem getD_succ {α : Type} (d x : α) (r : List α) (k : Nat) : (x :: r).getD (k + 1) d = r.getD k d := rfl
theorem props_miss {c : CH} : ∀ {l : List PR}, (∀ j, j < l.length → decide ((l.getD j pr0).nm = c.nm) = false) → propsR c l = (l ++ (if c.kd = 1 then [⟨c.nm, c.vl⟩] else []), false)
  | [], _ => rfl
  | x :: r, h => by
    have h0 : ¬ x.nm = c.nm := of_decide_eq_false (h 0 (by simp))
    have ih := props_miss (c := c) (l := r) (fun j hj => h (j + 1) (by simpa using hj))
    rw [propsR, if_neg h0, ih]; rfl
theorem props_hit {c : CH} : ∀ {l : List PR} {k : Nat}, k < l.length → (∀ j, j < k → decide ((l.getD j pr0).nm = c.nm) = false) → (l.getD k pr0).nm = c.nm →
    propsR c l = (l.take k ++ (if c.kd = 2 then [] else [⟨(l.getD k pr0).nm, c.vl⟩]) ++ l.drop (k + 1), true)
  | [], k, hk, _, _ => absurd hk (by simp)
  | x :: r, 0, _, _, h => by
    have h0 : x.nm = c.nm := h
    rw [propsR, if_pos h0]
    by_cases h2 : c.kd = 2
    · rw [if_pos h2, if_pos h2]; rfl
    · rw [if_neg h2, if_neg h2]; rfl
  | x :: r, k + 1, hk, hj, h => by
    have h0 : ¬ x.nm = c.nm := of_decide_eq_false (hj 0 (by omega))
    have ih := props_hit (c := c) (l := r) (k := k) (by simpa using hk) (fun j hj' => hj (j + 1) (by omega)) h
    rw [propsR, if_neg h0, ih]; rfl
theorem without_miss {nm : ByteArray} : ∀ {l : List ND}, (∀ j, j < l.length → decide ((l.getD j nd0).nm = nm) = false) → withoutR nm l = l
  | [], _ => rfl
  | x :: r, h => by
    have h0 : ¬ x.nm = nm := of_decide_eq_false (h 0 (by simp))
    rw [withoutR, if_neg h0, without_miss (fun j hj => h (j + 1) (by simpa using hj))]
theorem without_hit {nm : ByteArray} : ∀ {l : List ND} {k : Nat}, k < l.length → (∀ j, j < k → decide ((l.getD j nd0).nm = nm) = false) → (l.getD k nd0).nm = nm → withoutR nm l = l.take k ++ l.drop (k + 1)
  | [], k, hk, _, _ => absurd hk (by simp)
  | x :: r, 0, _, _, h => by
    have h0 : x.nm = nm := h
    rw [withoutR, if_pos h0]; rfl
  | x :: r, k + 1, hk, hj, h => by
    have h0 : ¬ x.nm = nm := of_decide_eq_false (hj 0 (by omega))
    rw [withoutR, if_neg h0, without_hit (k := k) (by simpa using hk) (fun j hj' => hj (j + 1) (by omega)) h]; rfl
theorem repl_hit {nm : ByteArray} {m : ND} : ∀ {l : List ND} {k : Nat}, k < l.length → (∀ j, j < k → decide ((l.getD j nd0).nm = nm) = false) → (l.getD k nd0).nm = nm → replR nm m l = l.take k ++ m :: l.drop (k + 1)
  | [], k, hk, _, _ => absurd hk (by simp)
  | x :: r, 0, _, _, h => by
    have h0 : x.nm = nm := h
    rw [replR, if_pos h0]; rfl
  | x :: r, k + 1, hk, hj, h => by
    have h0 : ¬ x.nm = nm := of_decide_eq_false (hj 0 (by omega))
    rw [replR, if_neg h0, repl_hit (k := k) (by simpa using hk) (fun j hj' => hj (j + 1) (by omega)) h]; rfl
theorem take_getD {α : Type} (d : α) (l : List α) {k : Nat} (hk : k < l.length) : l.take (k + 1) = l.take k ++ [l.getD k d] := by
  rw [List.take_succ_eq_append_getElem hk, List.getD_eq_getElem?_getD, List.getElem?_eq_getElem hk]; rfl
theorem drop_getD {α : Type} (d : α) (l : List α) {k : Nat} (hk : k < l.length) : l.drop k = l.getD k d :: l.drop (k + 1) := by
  rw [List.drop_eq_getElem_cons hk, List.getD_eq_getElem?_getD, List.getElem?_eq_getElem hk]; rfl
/-- How far properties have been gone through: what is kept so far, and whether the one of the name has come. -/
def PrGo (c : CH) (l : List PR) (k : Nat) (is : Bool) (O : List PR) : Prop :=
  (is = false ∧ O = l.take k ∧ ∀ j, j < k → decide ((l.getD j pr0).nm = c.nm) = false) ∨ (is = true ∧ propsR c l = (O ++ l.drop k, true))
theorem prgo_start (c : CH) (l : List PR) : PrGo c l 0 false [] := .inl ⟨rfl, rfl, fun _ h => absurd h (Nat.not_lt_zero _)⟩
theorem prgo_len {c : CH} {l : List PR} {k : Nat} {is : Bool} {O : List PR} (h : PrGo c l k is O) (hp : (propsR c l).1.length ≤ l.length + 1) : O.length ≤ l.length + 1 := by
  rcases h with ⟨_, h, _⟩ | ⟨_, h⟩
  · rw [h, List.length_take]; omega
  · rw [h, List.length_append] at hp; omega
theorem prgo_other {c : CH} {l : List PR} {k : Nat} {O : List PR} (hk : k < l.length) (h : PrGo c l k false O) (hn : ¬ (l.getD k pr0).nm = c.nm) : PrGo c l (k + 1) false (O ++ [l.getD k pr0]) := by
  rcases h with ⟨_, h, hj⟩ | ⟨h, _⟩
  · refine .inl ⟨rfl, by rw [h, take_getD pr0 l hk], fun j hj' => ?_⟩
    by_cases e : j = k
    · rw [e]; exact decide_eq_false hn
    · exact hj j (by omega)
  · cases h
theorem prgo_later {c : CH} {l : List PR} {k : Nat} {O : List PR} (hk : k < l.length) (h : PrGo c l k true O) : PrGo c l (k + 1) true (O ++ [l.getD k pr0]) := by
  rcases h with ⟨h, _⟩ | ⟨_, h⟩
  · cases h
  · refine .inr ⟨rfl, ?_⟩
    rw [h, drop_getD pr0 l hk]; simp
theorem prgo_unset {c : CH} {l : List PR} {k : Nat} {O : List PR} (hk : k < l.length) (h : PrGo c l k false O) (hn : (l.getD k pr0).nm = c.nm) (h2 : c.kd = 2) : PrGo c l (k + 1) true O := by
  rcases h with ⟨_, h, hj⟩ | ⟨h, _⟩
  · refine .inr ⟨rfl, ?_⟩
    rw [props_hit hk hj hn, if_pos h2, h, List.append_nil]
  · cases h
theorem prgo_set {c : CH} {l : List PR} {k : Nat} {O : List PR} (hk : k < l.length) (h : PrGo c l k false O) (hn : (l.getD k pr0).nm = c.nm) (h2 : ¬ c.kd = 2) : PrGo c l (k + 1) true (O ++ [⟨(l.getD k pr0).nm, c.vl⟩]) := by
  rcases h with ⟨_, h, hj⟩ | ⟨h, _⟩
  · refine .inr ⟨rfl, ?_⟩
    rw [props_hit hk hj hn, if_neg h2, h]
  · cases h
theorem prgo_end_yes {c : CH} {l O : List PR} (h : PrGo c l l.length true O) : propsR c l = (O, true) := by
  rcases h with ⟨h, _⟩ | ⟨_, h⟩
  · cases h
  · rw [h, List.drop_length, List.append_nil]
theorem prgo_end_no {c : CH} {l O : List PR} (h : PrGo c l l.length false O) : propsR c l = (O ++ (if c.kd = 1 then [⟨c.nm, c.vl⟩] else []), false) := by
  rcases h with ⟨_, h, hj⟩ | ⟨h, _⟩
  · rw [props_miss hj, h, List.take_length]
  · cases h
theorem props_len17 (c : CH) : ∀ l : List PR, (propsR c l).1.length ≤ l.length + 1
  | [] => by unfold propsR; split <;> simp
  | x :: r => by
    have ih := props_len17 c r
    unfold propsR
    split
    · split
      · show r.length ≤ _; simp; omega
      · simp
    · show ((propsR c r).1.length + 1) ≤ _; simp; omega
end Go.Proofs.YtfcclppgjfkfoaaGreatDoor

/- What the document's own FromBigs returns for every string of at most 2^40 bytes. -/
namespace Go.Proofs.YtfcclppgjfkfoaaGreatDoor
open Go.RowKit

theorem info_int : ∃ i, Tryz.prog.info? 3 = some i ∧ i.zero = some (.int .i64 0) ∧ i.size = 1 ∧ i.bytes = 8 := by
  have h : ((Tryz.prog.info? 3).map fun i => (i.zero, i.size, i.bytes)) = some (some (.int .i64 0), 1, 8) := by kernel_rfl
  obtain ⟨i, hi, he⟩ := Option.map_eq_some_iff.1 h
  simp only [Prod.mk.injEq] at he
  exact ⟨i, hi, he.1, he.2.1, he.2.2⟩

theorem extract_tail (s : ByteArray) (a : Nat) : (s.extract a s.size).data.toList = s.data.toList.drop a := by
  have e : (s.extract a s.size).data = s.data.extract a s.size := ByteArray.data_extract
  rw [e, Array.toList_extract]
  have hs : s.size = s.data.toList.length := rfl
  rw [List.extract_eq_take_drop, List.take_of_length_le (by rw [List.length_drop, ← hs]; omega)]
theorem extract_size (s : ByteArray) (a : Nat) : (s.extract a s.size).size = s.size - a := by
  rw [ByteArray.size_extract]; omega

theorem rdI_of_own {w : World} {base : Nat} {v : Value} {n : Nat} {l : List Int} (h : w.ownsRow base 3 1 v n (intVals l)) : ∃ A cap, v = .slice A l.length cap ∧ RdI w.heap.size w A l := by
  obtain ⟨hlen, hv⟩ := h
  have hn : n = l.length := by simp [intVals] at hlen; omega
  subst hn
  rcases hv with ⟨rfl, h0⟩ | ⟨g, cap, cur, rfl, hg, hc, _, _, _, ht⟩
  · exact ⟨none, 0, by rw [h0], .inl (List.length_eq_zero_iff.1 h0)⟩
  · refine ⟨_, cap, rfl, .inr ⟨g, 0, rfl, ?_, fun k hk => ?_⟩⟩
    · exact (Array.getElem?_eq_some_iff.1 hc).1
    · simp only [World.cell?, hc, Nat.zero_add]
      have h1 : (cur.toList.take (l.length * 1))[k]? = (intVals l)[k]? := by rw [ht]
      rw [List.getElem?_take, if_pos (by omega)] at h1
      simp only [intVals, List.getElem?_map, List.getElem?_eq_getElem hk, Option.map_some, Array.getElem?_toList] at h1
      simp [List.getD, List.getElem?_eq_getElem hk, h1]
end Go.Proofs.YtfcclppgjfkfoaaGreatDoor

/- A slice of strings that came in, read as a list. No condition: nothing of the program stands in it. -/
namespace Go.Proofs.YtfcclppgjfkfoaaGreatDoor
open Go.RowKit

/-- The slice at A reads as the strings l. -/
def RdT (w : World) (A : Option Addr) (l : List ByteArray) : Prop := l = [] ∨ ∃ b off, A = some ⟨b, off, none⟩ ∧ ∀ k, k < l.length → w.cell? ⟨b, off + k, none⟩ = some (.string (l.getD k ByteArray.empty))
theorem RdT.at_ {w : World} {A : Option Addr} {l : List ByteArray} (h : RdT w A l) {k : Nat} (hk : k < l.length) : ∃ b off x, A = some ⟨b, off, none⟩ ∧ w.cell? ⟨b, off + k, none⟩ = some (.string x) ∧ Hid (l.getD k ByteArray.empty = x) := by
  rcases h with rfl | ⟨b, off, rfl, hc⟩
  · simp at hk
  · exact ⟨b, off, _, rfl, hc k hk, rfl⟩
theorem RdT.below {w w' : World} {A : Option Addr} {l : List ByteArray} (h : RdT w A l) (hb : Below w.heap.size w w') : RdT w' A l := by
  rcases h with h | ⟨b, off, rfl, hc⟩
  · exact .inl h
  · refine .inr ⟨b, off, rfl, fun k hk => ?_⟩
    have hck := hc k hk
    rw [World.cell?_of_block (a := ⟨b, off + k, none⟩) (hb.block b (World.block_lt_of_cell? w _ hck))]
    exact hck
/-- Strings of a block that the call has laid. -/
theorem rdT_new (w : World) (t : TypeId) (l : List ByteArray) : RdT (w.alloc (.cells (l.map Value.string).toArray t)) (some ⟨w.heap.size, 0, none⟩) l := by
  have h := Arr.new w t (l.map Value.string).toArray
  refine .inr ⟨w.heap.size, 0, rfl, fun k hk => ?_⟩
  rw [h.cell, Nat.zero_add]
  simp [hk]
end Go.Proofs.YtfcclppgjfkfoaaGreatDoor

/- Small general laws of this seat's proofs: one element appended to a slice that the call itself made. Conditions: the slice holds fewer than 2^47 bytes. -/
namespace Go.Proofs.YtfcclppgjfkfoaaGreatDoor
open Go.RowKit

/-- t is a slice type whose elements, of type e, take one cell and so many bytes, with the zero value z. -/
def ElemIs (P : Program) (t e : TypeId) (z : Value) (bytes : Nat) : Prop :=
  P.underlying t = some (.slice e) ∧ z.cells.size = 1 ∧ ∃ i, P.info? e = some i ∧ i.zero = some z ∧ i.size = 1 ∧ i.bytes = bytes
theorem elemIs_mk {P : Program} {t e : TypeId} {z : Value} {bytes : Nat} (h0 : P.underlying t = some (.slice e)) (hz : z.cells.size = 1)
    (h : ((P.info? e).map fun i => (i.zero, i.size, i.bytes)) = some (some z, 1, bytes)) : ElemIs P t e z bytes := by
  obtain ⟨i, hi, he⟩ := Option.map_eq_some_iff.1 h
  simp only [Prod.mk.injEq] at he
  exact ⟨h0, hz, i, hi, he.1, he.2.1, he.2.2⟩
/-- 's = append(s, u)', s a slice of the call's own. -/
theorem append_one {P : Program} {ops : Array Oper} {rest : List Oper} {o : Oper} {a : Act} {Q : Exit → Act → World → Prop} {w : World} (hgd : o.guard = none) (s x : Operand) (t : TypeId)
    (ho : o.op = .call { callee := .builtin .append, args := #[s, x], argTypes := #[t, t] })
    (base : Nat) (e : TypeId) (z : Value) (bytes : Nat) (hel : Hid (ElemIs P t e z bytes)) (u : Value) (h1 : u.oneCell' = true)
    (v : Value) (n : Nat) (xs : List Value) (hs : a.eval s = v) (hown : w.ownsRow base e 1 v n xs) (hx : a.eval x = .slice (some ⟨w.heap.size, 0, none⟩) 1 1)
    (hn : (n + 1) * bytes ≤ 140737488355328) (hm : n + 1 ≤ maxLen) (hbase : base ≤ w.heap.size)
    (h : ∀ v' w', w'.ownsRow base e 1 v' (n + 1) (xs ++ [u]) → Below base w w' → wpList P ops Q rest (a.put o.dst v') w') : wpList P ops Q (o :: rest) a (w.alloc (.cells #[u] e)) := by
  obtain ⟨h0, hz, i, hi, hz0, hz1, hz2⟩ := hel.out
  refine wpList_append_own _ hgd s x t ho base e i z 1 bytes h0 hi hz0 hz1 hz2 hz (by decide) v n xs hs (hown.alloc _) ⟨w.heap.size, 0, none⟩ 1 1 [u] hx rfl ?_ ?_ hm hn (by simp; omega) ?_
  · intro j y hj
    match j, hj with
    | 0, hj => simp at hj; subst hj; simp [Addr.add]
  · intro y hy; simp at hy; subst hy; exact h1
  · intro v' w' ho' hg _
    exact h v' w' ho' (((Below.refl _ _).alloc hbase _).grown hg (by simp; omega) (fun g hg' => (hown.lt g hg').1))
end Go.Proofs.YtfcclppgjfkfoaaGreatDoor

/- Rows of the call's own beside other blocks, and what a call that changes a few blocks leaves as it was. No condition: nothing of the program stands in it. -/
namespace Go.Proofs.YtfcclppgjfkfoaaGreatDoor
open Go.RowKit

theorem sz_alloc (w : World) (o : Obj) : (w.alloc o).heap.size = w.heap.size + 1 := Array.size_push _
theorem gr_cell (w : World) (g j : Nat) (v : Value) : w.grownBy (w.setCell ⟨g, j, none⟩ v) (some g) :=
  ⟨rfl, rfl, rfl, ((Below.refl 0 w).setCell (p := ⟨g, j, none⟩) (Nat.zero_le _) v).size, fun k _ hk => heap_setCell_other w ⟨g, j, none⟩ k v (fun e => hk (by rw [e]))⟩
theorem gr_below {w w' : World} {r : Option Nat} (h : Below w.heap.size w w') : w.grownBy w' r := ⟨h.os, h.tape, h.output, h.size, fun k hk _ => h.block k hk⟩
theorem Arr.gr {w w' : World} {g t : Nat} {cs : Array Value} {r : Option Nat} (h : Arr w g t cs) (hg : w.grownBy w' r) (hr : some g ≠ r) : Arr w' g t cs := (hg.block g h.lt hr).trans h
section
variable {w w' : World} {base base' g t e e' size size' : Nat} {cs : Array Value} {v v' : Value} {n n' : Nat} {xs xs' : List Value}
theorem ow_below (h : w.ownsRow base e size v n xs) (hb : Below w.heap.size w w') : w'.ownsRow base e size v n xs :=
  h.kept (gr_below (r := none) hb) (by cases v.ownBlock with
    | none => exact .inl rfl
    | some g => exact .inr (fun e => by cases e))
/-- The block of a row is of its elements' type. -/
theorem ow_type (h : w.ownsRow base e size v n xs) {k : Nat} (hk : v.ownBlock = some k) : ∃ cur, w.heap[k]? = some (.cells cur e (0, 0)) := by
  rcases h.2 with ⟨rfl, _⟩ | ⟨g, cap, cur, rfl, _, hg, _⟩
  · cases hk
  · simp only [Value.ownBlock, Option.some.injEq] at hk
    subst hk
    exact ⟨cur, hg⟩
theorem ow_arr (hA : Arr w g t cs) (h : w.ownsRow base e size v n xs) (hne : t ≠ e) : some g ≠ v.ownBlock := by
  intro hk
  obtain ⟨cur, hg⟩ := ow_type h hk.symm
  unfold Arr at hA
  rw [hA] at hg
  injection hg with hg
  injection hg with _ h2 _
  exact hne h2
theorem ow_ow (h : w.ownsRow base e size v n xs) (h' : w.ownsRow base' e' size' v' n' xs') (hne : e ≠ e') : v.ownBlock = none ∨ v.ownBlock ≠ v'.ownBlock := by
  cases hk : v.ownBlock with
  | none => exact .inl rfl
  | some k =>
    refine .inr fun hk' => ?_
    obtain ⟨cur, hg⟩ := ow_type h hk
    obtain ⟨cur', hg'⟩ := ow_type h' hk'.symm
    rw [hg'] at hg
    injection hg with hg
    injection hg with _ h2 _
    exact hne h2.symm
theorem ow_set (hA : Arr w g t cs) (h : w.ownsRow base e size v n xs) (hne : t ≠ e) (j : Nat) (u : Value) : (w.setCell ⟨g, j, none⟩ u).ownsRow base e size v n xs :=
  h.kept (gr_cell w g j u) (by
    have := ow_arr hA h hne
    cases hk : v.ownBlock with
    | none => exact .inl rfl
    | some k => exact .inr fun e => this (by rw [hk, e]))
end
/-- Only blocks of F, and new ones, have changed; F' are the ones that may change next. -/
structure Moved (w w' : World) (F F' : Nat → Prop) : Prop where
  os : w'.os = w.os
  tape : w'.tape = w.tape
  output : w'.output = w.output
  size : w.heap.size ≤ w'.heap.size
  block : ∀ k, k < w.heap.size → ¬ F k → w'.heap[k]? = w.heap[k]?
  foot : ∀ k, F' k → F k ∨ w.heap.size ≤ k
section
variable {w w' w'' : World} {F F' F'' : Nat → Prop}
theorem Moved.refl (w : World) (F : Nat → Prop) : Moved w w F F := ⟨rfl, rfl, rfl, Nat.le_refl _, fun _ _ _ => rfl, fun _ h => .inl h⟩
theorem Moved.of_below (h : Below w.heap.size w w') (F : Nat → Prop) : Moved w w' F F := ⟨h.os, h.tape, h.output, h.size, fun k hk _ => h.block k hk, fun _ h => .inl h⟩
theorem Moved.trans (h : Moved w w' F F') (h' : Moved w' w'' F' F'') : Moved w w'' F F'' :=
  ⟨h'.os.trans h.os, h'.tape.trans h.tape, h'.output.trans h.output, Nat.le_trans h.size h'.size, fun k hk hf => (h'.block k (Nat.lt_of_lt_of_le hk h.size) (fun hf' => (h.foot k hf').elim hf (fun hle => absurd hk (by omega)))).trans (h.block k hk hf),
    fun k hk => (h'.foot k hk).elim (h.foot k) (fun hle => .inr (Nat.le_trans h.size hle))⟩
theorem Moved.below {B : Nat} (h : Moved w w' F F') (hF : ∀ k, F k → B ≤ k) (hB : B ≤ w.heap.size) : Below B w w' :=
  ⟨h.os, h.tape, h.output, h.size, fun k hk => h.block k (Nat.lt_of_lt_of_le hk hB) (fun hf => absurd (hF k hf) (by omega))⟩
theorem Moved.arr {g t : Nat} {cs : Array Value} (h : Moved w w' F F') (hA : Arr w g t cs) (hg : ¬ F g) : Arr w' g t cs := (h.block g hA.lt hg).trans hA
theorem Moved.grown {r : Option Nat} (hg : w.grownBy w' r) (hr : ∀ k, r = some k → F k) (hf : ∀ k, F' k → F k ∨ w.heap.size ≤ k) : Moved w w' F F' :=
  ⟨hg.os, hg.tape, hg.output, hg.size, fun k hk hn => hg.block k hk (fun e => hn (hr k e.symm)), hf⟩
end
end Go.Proofs.YtfcclppgjfkfoaaGreatDoor
