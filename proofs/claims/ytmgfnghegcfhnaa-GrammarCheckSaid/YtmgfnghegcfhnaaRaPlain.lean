/- A memory in plain words: spans, whether some may be loaded, what was loaded, and the byte at each place. No condition: nothing of the program stands in it. -/
import Derived.WalkKit
namespace Go.Proofs.Ytmgfnghegcfhnaa
open Go.RowKit

/-- A span: where it begins, how many bytes it has. -/
structure SP where
  p : Int
  n : Int
def sp0 : SP := ⟨0, 0⟩
def insS (x : SP) : Bool := decide (0 ≤ x.p) && decide (0 ≤ x.n) && decide (x.p ≤ 65536) && decide (x.n ≤ 65536 - x.p)
theorem insS_of {x : SP} (h : insS x = true) : 0 ≤ x.p ∧ 0 ≤ x.n ∧ x.p ≤ 65536 ∧ x.n ≤ 65536 - x.p := by unfold insS at h; simp at h; omega
theorem insS_true {x : SP} (h : 0 ≤ x.p ∧ 0 ≤ x.n ∧ x.p ≤ 65536 ∧ x.n ≤ 65536 - x.p) : insS x = true := by unfold insS; simp; omega
theorem insS_false {x : SP} (h : ¬ (0 ≤ x.p ∧ 0 ≤ x.n ∧ x.p ≤ 65536 ∧ x.n ≤ 65536 - x.p)) : insS x = false := by
  cases e : insS x with
  | false => rfl
  | true => exact absurd (insS_of e) h
/-- Do they have a byte in common? -/
def meetS (a b : SP) : Bool := decide (0 < a.n) && decide (0 < b.n) && decide (a.p < b.p + b.n) && decide (b.p < a.p + a.n)
theorem meetS_true {a b : SP} (h : 0 < a.n ∧ 0 < b.n ∧ a.p < b.p + b.n ∧ b.p < a.p + a.n) : meetS a b = true := by unfold meetS; simp; omega
theorem meetS_false {a b : SP} (h : ¬ (0 < a.n ∧ 0 < b.n ∧ a.p < b.p + b.n ∧ b.p < a.p + a.n)) : meetS a b = false := by
  cases e : meetS a b with
  | false => rfl
  | true => unfold meetS at e; simp at e; omega
theorem meetS_of {a b : SP} (h : meetS a b = true) : 0 < a.n ∧ 0 < b.n ∧ a.p < b.p + b.n ∧ b.p < a.p + a.n := by unfold meetS at h; simp at h; omega
/-- Is it one that has a byte of the loader? -/
def lowS (x : SP) : Bool := decide (0 < x.n) && decide (x.p < 4096)
/-- The error of the i-th of some spans, beside those that are loaded. -/
def er1 (K l : List SP) (i : Nat) : Nat :=
  if insS (l.getD i sp0) = false then 2 else if lowS (l.getD i sp0) = true then 3 else if K.any (meetS (l.getD i sp0)) = true then 12 else if (l.take i).any (meetS (l.getD i sp0)) = true then 12 else 0
/-- The first error. -/
def ckR (K l : List SP) : Nat := (((List.range l.length).map (er1 K l)).find? (· != 0)).getD 0
theorem ckR_first {K l : List SP} {i : Nat} (hi : i < l.length) (h : ∀ j, j < i → er1 K l j = 0) {r : Nat} (hr : er1 K l i = r) (hn : r ≠ 0) : ckR K l = r := by
  unfold ckR
  have e : ((List.range l.length).map (er1 K l)).find? (· != 0) = some r := by
    rw [List.find?_eq_some_iff_append]
    refine ⟨by simpa using hn, (List.range i).map (er1 K l), ((List.range l.length).map (er1 K l)).drop (i + 1), ?_, fun a ha => ?_⟩
    · have hl : i < ((List.range l.length).map (er1 K l)).length := by simpa using hi
      have h1 : ((List.range l.length).map (er1 K l))[i] = r := by simpa using hr
      rw [← h1, ← List.drop_eq_getElem_cons hl]
      conv => lhs; rw [← List.take_append_drop i ((List.range l.length).map (er1 K l))]
      congr 1
      rw [← List.map_take, List.take_range, Nat.min_eq_left (by omega)]
    · obtain ⟨j, hj, rfl⟩ := List.mem_map.1 ha
      rw [h j (List.mem_range.1 hj)]; rfl
  rw [e]; rfl
theorem ckR_ok {K l : List SP} (h : ∀ j, j < l.length → er1 K l j = 0) : ckR K l = 0 := by
  unfold ckR
  have e : ((List.range l.length).map (er1 K l)).find? (· != 0) = none := by
    rw [List.find?_eq_none]
    intro a ha
    obtain ⟨j, hj, rfl⟩ := List.mem_map.1 ha
    rw [h j (List.mem_range.1 hj)]; decide
  rw [e]; rfl
theorem any_sp {f : SP → Bool} {L : List SP} {k : Nat} (hk : k < L.length) (h : f (L.getD k sp0) = true) : L.any f = true := by
  rw [List.any_eq_true]
  refine ⟨L.getD k sp0, ?_, h⟩
  rw [List.getD, List.getElem?_eq_getElem hk]
  exact List.getElem_mem hk
theorem any_sp_no {f : SP → Bool} {L : List SP} (h : ∀ j, j < L.length → f (L.getD j sp0) = false) : L.any f = false := by
  rw [List.any_eq_false]
  intro x hx
  obtain ⟨j, hj, rfl⟩ := List.getElem_of_mem hx
  have := h j hj
  rw [List.getD, List.getElem?_eq_getElem hj] at this
  simpa using this
theorem take_sp (l : List SP) {i j : Nat} (h : j < i) : (l.take i).getD j sp0 = l.getD j sp0 := by
  rw [List.getD_eq_getElem?_getD, List.getD_eq_getElem?_getD, List.getElem?_take_of_lt h]
section
variable {K l : List SP} {i : Nat}
theorem er1_rng (h : insS (l.getD i sp0) = false) : er1 K l i = 2 := by unfold er1; rw [if_pos h]
theorem er1_low (h : insS (l.getD i sp0) = true) (h2 : lowS (l.getD i sp0) = true) : er1 K l i = 3 := by unfold er1; rw [if_neg (by rw [h]; decide), if_pos h2]
theorem er1_old (h : insS (l.getD i sp0) = true) (h2 : lowS (l.getD i sp0) = false) {k : Nat} (hk : k < K.length) (h3 : meetS (l.getD i sp0) (K.getD k sp0) = true) : er1 K l i = 12 := by
  unfold er1; rw [if_neg (by rw [h]; decide), if_neg (by rw [h2]; decide), if_pos (any_sp hk h3)]
theorem er1_new (h : insS (l.getD i sp0) = true) (h2 : lowS (l.getD i sp0) = false) (h3 : ∀ k, k < K.length → meetS (l.getD i sp0) (K.getD k sp0) = false) (hi : i < l.length) {k : Nat} (hk : k < i) (h4 : meetS (l.getD i sp0) (l.getD k sp0) = true) : er1 K l i = 12 := by
  unfold er1
  rw [if_neg (by rw [h]; decide), if_neg (by rw [h2]; decide), if_neg (by rw [any_sp_no h3]; decide), if_pos (any_sp (k := k) (by rw [List.length_take]; omega) (by rw [take_sp l hk]; exact h4))]
theorem er1_ok (h : insS (l.getD i sp0) = true) (h2 : lowS (l.getD i sp0) = false) (h3 : ∀ k, k < K.length → meetS (l.getD i sp0) (K.getD k sp0) = false) (h4 : ∀ k, k < i → meetS (l.getD i sp0) (l.getD k sp0) = false) : er1 K l i = 0 := by
  unfold er1
  rw [if_neg (by rw [h]; decide), if_neg (by rw [h2]; decide), if_neg (by rw [any_sp_no h3]; decide), if_neg]
  rw [any_sp_no fun j hj => by rw [List.length_take] at hj; rw [take_sp l (by omega)]; exact h4 j (by omega)]
  decide
theorem er1_ins (h : er1 K l i = 0) : insS (l.getD i sp0) = true := by
  cases e : insS (l.getD i sp0) with
  | true => rfl
  | false => rw [er1_rng e] at h; cases h
end
/-- What was loaded: where, and which bytes. -/
structure LD where
  p : Nat
  s : ByteArray
def ld0 : LD := ⟨0, ⟨#[]⟩⟩
def LD.sp (x : LD) : SP := ⟨x.p, x.s.size⟩
/-- Load. -/
def ldR (R : List LD) (a : Int) (s : ByteArray) : List LD × Nat := if ckR (R.map LD.sp) [⟨a, s.size⟩] = 0 then (R ++ [⟨a.toNat, s⟩], 0) else (R, ckR (R.map LD.sp) [⟨a, s.size⟩])
/-- The byte at a place, after the first k. -/
def byR (R : List LD) (j : Nat) : UInt8 := R.foldl (fun b x => if x.p ≤ j ∧ j < x.p + x.s.size then x.s.data.toList.getD (j - x.p) 0 else b) 0
theorem byR_snoc (R : List LD) (x : LD) (j : Nat) : byR (R ++ [x]) j = if x.p ≤ j ∧ j < x.p + x.s.size then x.s.data.toList.getD (j - x.p) 0 else byR R j := by
  unfold byR; rw [List.foldl_append]; rfl
/-- Read. -/
def rdR (R : List LD) (a n : Int) : ByteArray × Nat := if insS ⟨a, n⟩ = true then (⟨((List.range n.toNat).map fun i => byR R (a.toNat + i)).toArray⟩, 0) else (⟨#[]⟩, 2)
/-- What holds of what was loaded: all spans exist, none is of the loader's bytes, none meets another. -/
def RamOk (R : List LD) : Prop := (∀ k, k < R.length → insS (R.getD k ld0).sp = true ∧ lowS (R.getD k ld0).sp = false) ∧ ∀ i k, i < R.length → k < i → meetS (R.getD i ld0).sp (R.getD k ld0).sp = false
theorem ramOk_nil : RamOk [] := ⟨fun _ h => absurd h (Nat.not_lt_zero _), fun _ _ h => absurd h (Nat.not_lt_zero _)⟩
theorem sp_getD (R : List LD) {k : Nat} (hk : k < R.length) : (R.map LD.sp).getD k sp0 = (R.getD k ld0).sp := by
  simp [List.getD, hk]
theorem snoc_getD (R : List LD) (x : LD) (k : Nat) : (R ++ [x]).getD k ld0 = if k < R.length then R.getD k ld0 else if k = R.length then x else ld0 := by
  simp only [List.getD_eq_getElem?_getD, List.getElem?_append]
  by_cases h : k < R.length
  · rw [if_pos h, if_pos h]
  · rw [if_neg h, if_neg h]
    by_cases h2 : k = R.length
    · rw [if_pos h2]; simp [h2]
    · rw [if_neg h2, List.getElem?_eq_none (by simp; omega)]; rfl
/-- One span alone: its error. -/
theorem ck_one {K : List SP} {x : SP} (h : ckR K [x] = 0) : insS x = true ∧ lowS x = false ∧ ∀ k, k < K.length → meetS x (K.getD k sp0) = false := by
  have e : er1 K [x] 0 = 0 := by
    cases hc : er1 K [x] 0 with
    | zero => rfl
    | succ n => exact absurd h (by rw [ckR_first (K := K) (l := [x]) (i := 0) (by simp) (fun j hj => absurd hj (Nat.not_lt_zero _)) hc (by omega)]; omega)
  have h1 : insS x = true := er1_ins (l := [x]) (i := 0) e
  refine ⟨h1, ?_, fun k hk => ?_⟩
  · cases e2 : lowS x with
    | false => rfl
    | true => rw [er1_low (l := [x]) (i := 0) h1 e2] at e; cases e
  · cases e3 : meetS x (K.getD k sp0) with
    | false => rfl
    | true =>
      cases e2 : lowS x with
      | false => rw [er1_old (l := [x]) (i := 0) h1 e2 hk e3] at e; cases e
      | true => rw [er1_low (l := [x]) (i := 0) h1 e2] at e; cases e
theorem ldR_ok {R : List LD} (h : RamOk R) (a : Int) (s : ByteArray) : RamOk (ldR R a s).1 := by
  unfold ldR
  split
  · rename_i h0
    obtain ⟨h1, h2, h3⟩ := ck_one h0
    have ha : 0 ≤ a := (insS_of h1).1
    have es : (LD.mk a.toNat s).sp = ⟨a, s.size⟩ := by unfold LD.sp; simp only; rw [Int.toNat_of_nonneg ha]
    refine ⟨fun k hk => ?_, fun i k hi hk => ?_⟩
    · simp only [List.length_append, List.length_cons, List.length_nil] at hk
      rw [snoc_getD]
      by_cases hl : k < R.length
      · rw [if_pos hl]; exact h.1 k hl
      · rw [if_neg hl, if_pos (by omega), es]; exact ⟨h1, h2⟩
    · simp only [List.length_append, List.length_cons, List.length_nil] at hi
      rw [snoc_getD, snoc_getD]
      by_cases hl : i < R.length
      · rw [if_pos hl, if_pos (by omega)]; exact h.2 i k hl hk
      · rw [if_neg hl, if_pos (by omega), if_pos (by omega), es]
        have := h3 k (by rw [List.length_map]; omega)
        rwa [sp_getD R (by omega)] at this
  · exact h
end Go.Proofs.Ytmgfnghegcfhnaa
