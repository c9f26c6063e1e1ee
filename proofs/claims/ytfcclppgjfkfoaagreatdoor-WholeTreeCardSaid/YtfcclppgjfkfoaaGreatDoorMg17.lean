/- A memory in plain words: spans, whether some may be loaded, what was loaded, and the byte at each place. No condition: nothing of the program stands in it. -/
import Derived.WalkKit
import Derived.Test.YtfcclppgjfkfoaaGreatDoorMg1
import Derived.Test.YtfcclppgjfkfoaaGreatDoorMg16
import Derived.Test.YtfcclppgjfkfoaaGreatDoorMg9
namespace Go.Proofs.YtfcclppgjfkfoaaGreatDoor
open Go.RowKit

/-- A span: where it begins, how many bytes it has. -/
structure SP where
  p : Int
  n : Int
def sp0 : SP := ⟨0, 0⟩
def insS (x : SP) : Bool := decide (0 ≤ x.p) && decide (0 ≤ x.n) && decide (x.p ≤ 65536) && decide (x.n ≤ 65536 - x.p)
theorem insS_of {x : SP} (h : insS x = true) : 0 ≤ x.p ∧ 0 ≤ x.n ∧ x.p ≤ 65536 ∧ x.n ≤ 65536 - x.p := by unfold insS at h; simp at h; omega
theorem insS_true {x : SP} (h : 0 ≤ x.p ∧ 0 ≤ x.n ∧ x.p ≤ 65536 ∧ x.n ≤ 65536 - x.p) : insS x = true := by unfold insS; simp; omega
theorem insS_false {x : SP} (h : ¬ (0 ≤ x.p ∧ 0 ≤ x.n ∧ x.p ≤ 65536 ∧ x.n ≤ 65536 - x.p)) : insS x = false := by
  cases e : insS x with
  | false => rfl
  | true => exact absurd (insS_of e) h
/-- Do they have a byte in common? -/
def meetS (a b : SP) : Bool := decide (0 < a.n) && decide (0 < b.n) && decide (a.p < b.p + b.n) && decide (b.p < a.p + a.n)
theorem meetS_true {a b : SP} (h : 0 < a.n ∧ 0 < b.n ∧ a.p < b.p + b.n ∧ b.p < a.p + a.n) : meetS a b = true := by unfold meetS; simp; omega
theorem meetS_false {a b : SP} (h : ¬ (0 < a.n ∧ 0 < b.n ∧ a.p < b.p + b.n ∧ b.p < a.p + a.n)) : meetS a b = false := by
  cases e : meetS a b with
  | false => rfl
  | true => unfold meetS at e; simp at e; omega
theorem meetS_of {a b : SP} (h : meetS a b = true) : 0 < a.n ∧ 0 < b.n ∧ a.p < b.p + b.n ∧ b.p < a.p + a.n := by unfold meetS at h; simp at h; omega
/-- Is it one that has a byte of the loader? -/
def lowS (x : SP) : Bool := decide (0 < x.n) && decide (x.p < 4096)
/-- The error of the i-th of some spans, beside those that are loaded. -/
def er1 (K l : List SP) (i : Nat) : Nat :=
  if insS (l.getD i sp0) = false then 2 else if lowS (l.getD i sp0) = true then 3 else if K.any (meetS (l.getD i sp0)) = true then 12 else if (l.take i).any (meetS (l.getD i sp0)) = true then 12 else 0
/-- The first error. -/
def ckR (K l : List SP) : Nat := (((List.range l.length).map (er1 K l)).find? (· != 0)).getD 0
theorem ckR_first {K l : List SP} {i : Nat} (hi : i < l.length) (h : ∀ j, j < i → er1 K l j = 0) {r : Nat} (hr : er1 K l i = r) (hn : r ≠ 0) : ckR K l = r := by
  unfold ckR
  have e : ((List.range l.length).map (er1 K l)).find? (· != 0) = some r := by
    rw [List.find?_eq_some_iff_append]
    refine ⟨by simpa using hn, (List.range i).map (er1 K l), ((List.range l.length).map (er1 K l)).drop (i + 1), ?_, fun a ha => ?_⟩
    · have hl : i < ((List.range l.length).map (er1 K l)).length := by simpa using hi
      have h1 : ((List.range l.length).map (er1 K l))[i] = r := by simpa using hr
      rw [← h1, ← List.drop_eq_getElem_cons hl]
      conv => lhs; rw [← List.take_append_drop i ((List.range l.length).map (er1 K l))]
      congr 1
      rw [← List.map_take, List.take_range, Nat.min_eq_left (by omega)]
    · obtain ⟨j, hj, rfl⟩ := List.mem_map.1 ha
      rw [h j (List.mem_range.1 hj)]; rfl
  rw [e]; rfl
theorem ckR_ok {K l : List SP} (h : ∀ j, j < l.length → er1 K l j = 0) : ckR K l = 0 := by
  unfold ckR
  have e : ((List.range l.length).map (er1 K l)).find? (· != 0) = none := by
    rw [List.find?_eq_none]
    intro a ha
    obtain ⟨j, hj, rfl⟩ := List.mem_map.1 ha
    rw [h j (List.mem_range.1 hj)]; decide
  rw [e]; rfl
theorem any_sp {f : SP → Bool} {L : List SP} {k : Nat} (hk : k < L.length) (h : f (L.getD k sp0) = true) : L.any f = true := by
  rw [List.any_eq_true]
  refine ⟨L.getD k sp0, ?_, h⟩
  rw [List.getD, List.getElem?_eq_getElem hk]
  exact List.getElem_mem hk
theorem any_sp_no {f : SP → Bool} {L : List SP} (h : ∀ j, j < L.length → f (L.getD j sp0) = false) : L.any f = false := by
  rw [List.any_eq_false]
  intro x hx
  obtain ⟨j, hj, rfl⟩ := List.getElem_of_mem hx
  have := h j hj
  rw [List.getD, List.getElem?_eq_getElem hj] at this
  simpa using this
theorem take_sp (l : List SP) {i j : Nat} (h : j < i) : (l.take i).getD j sp0 = l.getD j sp0 := by
  rw [List.getD_eq_getElem?_getD, List.getD_eq_getElem?_getD, List.getElem?_take_of_lt h]
section
variable {K l : List SP} {i : Nat}
theorem er1_rng (h : insS (l.getD i sp0) = false) : er1 K l i = 2 := by unfold er1; rw [if_pos h]
theorem er1_low (h : insS (l.getD i sp0) = true) (h2 : lowS (l.getD i sp0) = true) : er1 K l i = 3 := by unfold er1; rw [if_neg (by rw [h]; decide), if_pos h2]
theorem er1_old (h : insS (l.getD i sp0) = true) (h2 : lowS (l.getD i sp0) = false) {k : Nat} (hk : k < K.length) (h3 : meetS (l.getD i sp0) (K.getD k sp0) = true) : er1 K l i = 12 := by
  unfold er1; rw [if_neg (by rw [h]; decide), if_neg (by rw [h2]; decide), if_pos (any_sp hk h3)]
theorem er1_new (h : insS (l.getD i sp0) = true) (h2 : lowS (l.getD i sp0) = false) (h3 : ∀ k, k < K.length → meetS (l.getD i sp0) (K.getD k sp0) = false) (hi : i < l.length) {k : Nat} (hk : k < i) (h4 : meetS (l.getD i sp0) (l.getD k sp0) = true) : er1 K l i = 12 := by
  unfold er1
  rw [if_neg (by rw [h]; decide), if_neg (by rw [h2]; decide), if_neg (by rw [any_sp_no h3]; decide), if_pos (any_sp (k := k) (by rw [List.length_take]; omega) (by rw [take_sp l hk]; exact h4))]
theorem er1_ok (h : insS (l.getD i sp0) = true) (h2 : lowS (l.getD i sp0) = false) (h3 : ∀ k, k < K.length → meetS (l.getD i sp0) (K.getD k sp0) = false) (h4 : ∀ k, k < i → meetS (l.getD i sp0) (l.getD k sp0) = false) : er1 K l i = 0 := by
  unfold er1
  rw [if_neg (by rw [h]; decide), if_neg (by rw [h2]; decide), if_neg (by rw [any_sp_no h3]; decide), if_neg]
  rw [any_sp_no fun j hj => by rw [List.length_take] at hj; rw [take_sp l (by omega)]; exact h4 j (by omega)]
  decide
theorem er1_ins (h : er1 K l i = 0) : insS (l.getD i sp0) = true := by
  cases e : insS (l.getD i sp0) with
  | true => rfl
  | false => rw [er1_rng e] at h; cases h
end
/-- What was loaded: where, and which bytes. -/
structure LD where
  p : Nat
  s : ByteArray
def ld0 : LD := ⟨0, ⟨#[]⟩⟩
def LD.sp (x : LD) : SP := ⟨x.p, x.s.size⟩
/-- Load. -/
def ldR (R : List LD) (a : Int) (s : ByteArray) : List LD × Nat := if ckR (R.map LD.sp) [⟨a, s.size⟩] = 0 then (R ++ [⟨a.toNat, s⟩], 0) else (R, ckR (R.map LD.sp) [⟨a, s.size⟩])
/-- The byte at a place, after the first k. -/
def byR (R : List LD) (j : Nat) : UInt8 := R.foldl (fun b x => if x.p ≤ j ∧ j < x.p + x.s.size then x.s.data.toList.getD (j - x.p) 0 else b) 0
theorem byR_snoc (R : List LD) (x : LD) (j : Nat) : byR (R ++ [x]) j = if x.p ≤ j ∧ j < x.p + x.s.size then x.s.data.toList.getD (j - x.p) 0 else byR R j := by
  unfold byR; rw [List.foldl_append]; rfl
/-- Read. -/
def rdR (R : List LD) (a n : Int) : ByteArray × Nat := if insS ⟨a, n⟩ = true then (⟨((List.range n.toNat).map fun i => byR R (a.toNat + i)).toArray⟩, 0) else (⟨#[]⟩, 2)
/-- What holds of what was loaded: all spans exist, none is of the loader's bytes, none meets another. -/
def RamOk (R : List LD) : Prop := (∀ k, k < R.length → insS (R.getD k ld0).sp = true ∧ lowS (R.getD k ld0).sp = false) ∧ ∀ i k, i < R.length → k < i → meetS (R.getD i ld0).sp (R.getD k ld0).sp = false
theorem ramOk_nil : RamOk [] := ⟨fun _ h => absurd h (Nat.not_lt_zero _), fun _ _ h => absurd h (Nat.not_lt_zero _)⟩
theorem sp_getD (R : List LD) {k : Nat} (hk : k < R.length) : (R.map LD.sp).getD k sp0 = (R.getD k ld0).sp := by
  simp [List.getD, hk]
theorem snoc_getD (R : List LD) (x : LD) (k : Nat) : (R ++ [x]).getD k ld0 = if k < R.length then R.getD k ld0 else if k = R.length then x else ld0 := by
  simp only [List.getD_eq_getElem?_getD, List.getElem?_append]
  by_cases h : k < R.length
  · rw [if_pos h, if_pos h]
  · rw [if_neg h, if_neg h]
    by_cases h2 : k = R.length
    · rw [if_pos h2]; simp [h2]
    · rw [if_neg h2, List.getElem?_eq_none (by simp; omega)]; rfl
/-- One span alone: its error. -/
theorem ck_one {K : List SP} {x : SP} (h : ckR K [x] = 0) : insS x = true ∧ lowS x = false ∧ ∀ k, k < K.length → meetS x (K.getD k sp0) = false := by
  have e : er1 K [x] 0 = 0 := by
    cases hc : er1 K [x] 0 with
    | zero => rfl
    | succ n => exact absurd h (by rw [ckR_first (K := K) (l := [x]) (i := 0) (by simp) (fun j hj => absurd hj (Nat.not_lt_zero _)) hc (by omega)]; omega)
  have h1 : insS x = true := er1_ins (l := [x]) (i := 0) e
  refine ⟨h1, ?_, fun k hk => ?_⟩
  · cases e2 : lowS x with
    | false => rfl
    | true => rw [er1_low (l := [x]) (i := 0) h1 e2] at e; cases e
  · cases e3 : meetS x (K.getD k sp0) with
    | false => rfl
    | true =>
      cases e2 : lowS x with
      | false => rw [er1_old (l := [x]) (i := 0) h1 e2 hk e3] at e; cases e
      | true => rw [er1_low (l := [x]) (i := 0) h1 e2] at e; cases e
theorem ldR_ok {R : List LD} (h : RamOk R) (a : Int) (s : ByteArray) : RamOk (ldR R a s).1 := by
  unfold ldR
  split
  · rename_i h0
    obtain ⟨h1, h2, h3⟩ := ck_one h0
    have ha : 0 ≤ a := (insS_of h1).1
    have es : (LD.mk a.toNat s).sp = ⟨a, s.size⟩ := by unfold LD.sp; simp only; rw [Int.toNat_of_nonneg ha]
    refine ⟨fun k hk => ?_, fun i k hi hk => ?_⟩
    · simp only [List.length_append, List.length_cons, List.length_nil] at hk
      rw [snoc_getD]
      by_cases hl : k < R.length
      · rw [if_pos hl]; exact h.1 k hl
      · rw [if_neg hl, if_pos (by omega), es]; exact ⟨h1, h2⟩
    · simp only [List.length_append, List.length_cons, List.length_nil] at hi
      rw [snoc_getD, snoc_getD]
      by_cases hl : i < R.length
      · rw [if_pos hl, if_pos (by omega)]; exact h.2 i k hl hk
      · rw [if_neg hl, if_pos (by omega), if_pos (by omega), es]
        have := h3 k (by rw [List.length_map]; omega)
        rwa [sp_getD R (by omega)] at this
  · exact h
end Go.Proofs.YtfcclppgjfkfoaaGreatDoor

/- What is read may be put, and has nothing that its kind has not. No condition: nothing of the program stands in it. -/
namespace Go.Proofs.YtfcclppgjfkfoaaGreatDoor

theorem beginR_ok {l : List UInt8} {s : ByteArray} {n : Nat} (h : beginR l = (s, n, 0)) : nodeB s = true := by
  unfold beginR at h
  split at h
  · simp only [Prod.mk.injEq] at h; omega
  · split at h
    · rename_i hn
      simp only [Prod.mk.injEq] at h
      rw [← h.1]
      exact (Bool.and_eq_true_iff.1 hn).1
    · simp only [Prod.mk.injEq] at h; omega
theorem propR_ok {l tx : List UInt8} {t : TK} {n : Nat} (h : propR l tx = (t, n, 0)) : ∃ nm x : ByteArray, t = ⟨3, nm, x⟩ ∧ mayB nm = true ∧ x.size ≤ l.length := by
  unfold propR at h
  split at h
  · simp only [Prod.mk.injEq] at h; omega
  · split at h
    · simp only [Prod.mk.injEq] at h; omega
    · split at h
      · rename_i hn
        simp only [Prod.mk.injEq] at h
        refine ⟨_, _, h.1.symm, (Bool.and_eq_true_iff.1 (Bool.and_eq_true_iff.1 hn).1).2, ?_⟩
        show (List.toArray _).size ≤ _
        rw [List.size_toArray, List.length_drop, List.length_take]; omega
      · simp only [Prod.mk.injEq] at h; omega
/-- What is read may be put, and has nothing that its kind has not. -/
theorem stepR_ok {l tx : List UInt8} {t : TK} {n : Nat} (h : stepR l tx = .tok t n) : okT t = true ∧ bare t = t ∧ t.vl.size ≤ l.length ∧ 4 ≤ l.length := by
  unfold stepR at h
  by_cases h4 : l.length < 4
  · rw [if_pos h4] at h; cases h
  rw [if_neg h4] at h
  have h4' : 4 ≤ l.length := by omega
  generalize frombig l = k at h
  by_cases h1 : k = 1
  · rw [if_pos h1] at h
    rcases hb : beginR (l.drop 4) with ⟨s, m, e⟩
    rw [hb] at h
    by_cases he : e = 0
    · subst he
      rw [if_pos rfl] at h
      injection h with h _
      subst h
      exact ⟨by unfold okT; rw [if_pos rfl]; exact beginR_ok hb, by simp [bare], Nat.zero_le _, h4'⟩
    · rw [if_neg he] at h; cases h
  rw [if_neg h1] at h
  by_cases h3 : k = 3
  · rw [if_pos h3] at h
    rcases hb : propR (l.drop 4) tx with ⟨t', m, e⟩
    rw [hb] at h
    by_cases he : e = 0
    · subst he
      rw [if_pos rfl] at h
      injection h with h _
      subst h
      obtain ⟨nm, x, rfl, hm, hx⟩ := propR_ok hb
      rw [List.length_drop] at hx
      exact ⟨by simpa [okT] using hm, by simp [bare], by show x.size ≤ _; omega, h4'⟩
    · rw [if_neg he] at h; cases h
  rw [if_neg h3] at h
  by_cases h24 : k = 2 ∨ k = 4
  · rw [if_pos h24] at h
    injection h with h _
    subst h
    exact ⟨by unfold okT; simp only; rw [if_neg h1, if_neg h3]; exact decide_eq_true h24, by unfold bare; simp only; rw [if_neg h1, if_neg h3], Nat.zero_le _, h4'⟩
  rw [if_neg h24] at h
  by_cases h9 : k = 9
  · rw [if_pos h9] at h
    split at h <;> cases h
  · rw [if_neg h9] at h; cases h
theorem readR_ok : ∀ (m : Nat) (l tx : List UInt8) (r : List TK), readR m l tx = (r, 0) → r.length < m ∧ ∀ x ∈ r, okT x = true ∧ bare x = x ∧ x.vl.size ≤ l.length
  | 0, _, _, r, h => by cases h
  | m + 1, l, tx, r, h => by
    rw [readR] at h
    split at h
    · rename_i e hs
      simp only [Prod.mk.injEq] at h
      obtain ⟨rfl, rfl⟩ := h
      exact ⟨by simp, fun x hx => by cases hx⟩
    · simp only [Prod.mk.injEq] at h
      obtain ⟨rfl, _⟩ := h
      exact ⟨by simp, fun x hx => by cases hx⟩
    · rename_i t n hs
      obtain ⟨h1, h2, h3, h4⟩ := stepR_ok hs
      split at h
      · rename_i r' hr
        simp only [Prod.mk.injEq] at h
        obtain ⟨rfl, _⟩ := h
        obtain ⟨i1, i2⟩ := readR_ok m _ tx r' hr
        refine ⟨by simp; omega, fun x hx => ?_⟩
        rcases List.mem_cons.1 hx with e | e
        · subst e; exact ⟨h1, h2, h3⟩
        · obtain ⟨j1, j2, j3⟩ := i2 x e
          rw [List.length_drop, List.length_drop] at j3
          exact ⟨j1, j2, by omega⟩
      · simp only [Prod.mk.injEq] at h
        omega
theorem readR_len : ∀ (m : Nat) (l tx : List UInt8), (readR m l tx).1.length ≤ m
  | 0, _, _ => Nat.le_refl _
  | m + 1, l, tx => by
    rw [readR]
    split
    · exact Nat.zero_le _
    · exact Nat.zero_le _
    · rename_i t n hs
      have ih := readR_len m ((l.drop 4).drop n) tx
      split
      · rename_i r hr
        rw [hr] at ih
        show (t :: r).length ≤ m + 1
        rw [List.length_cons]
        exact Nat.succ_le_succ ih
      · exact Nat.zero_le _
end Go.Proofs.YtfcclppgjfkfoaaGreatDoor

/- The bytes of a tree in plain words: the spans that are reserved, the tree, and what stands of them. No condition: nothing of the program stands in it. -/
namespace Go.Proofs.YtfcclppgjfkfoaaGreatDoor
open Go.RowKit

/-- The spans that stand at the beginning, at most so many. -/
def resvR : Nat → List UInt8 → List SP × Nat
  | 0, l => if l.length < 16 then ([], 14) else if numAt l 0 ≠ 0 ∨ numAt l 2 ≠ 0 then ([], 6) else if numAt l 1 = 0 ∧ numAt l 3 = 0 then ([], 0) else ([], 7)
  | k + 1, l => if l.length < 16 then ([], 14) else if numAt l 0 ≠ 0 ∨ numAt l 2 ≠ 0 then ([], 6) else if numAt l 1 = 0 ∧ numAt l 3 = 0 then ([], 0)
    else if (resvR k (l.drop 16)).2 = 0 then ([⟨numAt l 1, numAt l 3⟩] ++ (resvR k (l.drop 16)).1, 0) else ([], (resvR k (l.drop 16)).2)
/-- The spans that stand from a place on. -/
def resv (s : List UInt8) (a : Int) : List SP × Nat := if a < 0 then ([], 14) else resvR 16 (s.drop a.toNat)
def joinS (O : List SP) (r : List SP × Nat) : List SP × Nat := if r.2 = 0 then (O ++ r.1, 0) else ([], r.2)
theorem resvR_short (k : Nat) {l : List UInt8} (h : l.length < 16) : resvR k l = ([], 14) := by cases k <;> exact if_pos h
theorem resvR_form (k : Nat) {l : List UInt8} (h : ¬ l.length < 16) (h1 : numAt l 0 ≠ 0 ∨ numAt l 2 ≠ 0) : resvR k l = ([], 6) := by
  cases k <;> (unfold resvR; rw [if_neg h, if_pos h1])
theorem resvR_end (k : Nat) {l : List UInt8} (h : ¬ l.length < 16) (h1 : ¬ (numAt l 0 ≠ 0 ∨ numAt l 2 ≠ 0)) (h2 : numAt l 1 = 0 ∧ numAt l 3 = 0) : resvR k l = ([], 0) := by
  cases k <;> (unfold resvR; rw [if_neg h, if_neg h1, if_pos h2])
theorem resvR_big {l : List UInt8} (h : ¬ l.length < 16) (h1 : ¬ (numAt l 0 ≠ 0 ∨ numAt l 2 ≠ 0)) (h2 : ¬ (numAt l 1 = 0 ∧ numAt l 3 = 0)) : resvR 0 l = ([], 7) := by
  unfold resvR; rw [if_neg h, if_neg h1, if_neg h2]
theorem resvR_next {k : Nat} {l : List UInt8} (h : ¬ l.length < 16) (h1 : ¬ (numAt l 0 ≠ 0 ∨ numAt l 2 ≠ 0)) (h2 : ¬ (numAt l 1 = 0 ∧ numAt l 3 = 0)) : resvR (k + 1) l = joinS [⟨numAt l 1, numAt l 3⟩] (resvR k (l.drop 16)) := by
  exact (if_neg h).trans ((if_neg h1).trans (if_neg h2))
theorem joinS_join (O P : List SP) (r : List SP × Nat) : joinS O (joinS P r) = joinS (O ++ P) r := by
  unfold joinS
  by_cases h : r.2 = 0
  · rw [if_pos h, if_pos rfl, if_pos h, List.append_assoc]
  · rw [if_neg h, if_neg h, if_neg h]
theorem resvR_bad (k : Nat) : ∀ l, (resvR k l).2 ≠ 0 → (resvR k l).1 = [] := by
  induction k with
  | zero =>
    intro l h
    unfold resvR at h ⊢
    split <;> rename_i h1
    · rfl
    · rw [if_neg h1] at h
      split <;> rename_i h2
      · rfl
      · split <;> rfl
  | succ k ih =>
    intro l h
    unfold resvR at h ⊢
    split <;> rename_i h1
    · rfl
    · rw [if_neg h1] at h
      split <;> rename_i h2
      · rfl
      · rw [if_neg h2] at h
        split <;> rename_i h3
        · rfl
        · rw [if_neg h3] at h
          split <;> rename_i h4
          · rw [if_pos h4] at h; exact absurd rfl h
          · rfl
theorem joinS_nil (k : Nat) (l : List UInt8) : joinS [] (resvR k l) = resvR k l := by
  unfold joinS
  by_cases h : (resvR k l).2 = 0
  · rw [if_pos h]; exact Prod.ext rfl h.symm
  · rw [if_neg h]; exact Prod.ext (resvR_bad k l h).symm rfl
theorem resvR_len (k : Nat) : ∀ l, (resvR k l).1.length ≤ k := by
  induction k with
  | zero =>
    intro l
    unfold resvR
    repeat' split
    all_goals exact Nat.zero_le _
  | succ k ih =>
    intro l
    unfold resvR
    repeat' split
    all_goals first | exact Nat.zero_le _ | exact (by simp; exact ih _)
theorem resv_len (s : List UInt8) (a : Int) : (resv s a).1.length ≤ 16 := by
  unfold resv
  split
  · exact Nat.zero_le _
  · exact resvR_len 16 _
theorem numsB_take16 (s : List UInt8) (k : Nat) (hk : k < 4) : (numsB (s.take 16) 4).getD k 0 = numAt s k := by
  have e : (numsB (s.take 16) 4).getD k 0 = frombig ((s.take 16).drop (4 * k)) := by
    simp [numsB, List.getD_eq_getElem?_getD, List.getElem?_range hk]
  rw [e]
  unfold numAt frombig
  have g : ∀ j, j < 4 → ((s.take 16).drop (4 * k)).getD j 0 = (s.drop (4 * k)).getD j 0 := by
    intro j hj
    simp only [List.getD_eq_getElem?_getD, List.getElem?_drop, List.getElem?_take]
    rw [if_pos (by omega)]
  rw [g 0 (by omega), g 1 (by omega), g 2 (by omega), g 3 (by omega)]

/-- A tree with what is reserved, and the processor. -/
structure DT where
  rt : ND
  rs : List SP
  bo : Int
def dt0 : DT := ⟨nd0, [], 0⟩
/-- The part of bytes that a span tells. -/
def partB (s : List UInt8) (a n : Int) : List UInt8 := (partR ⟨s.toArray⟩ a n).1.data.toList
/-- The tree behind a header that is right, of its bytes. -/
def bodyD (s : List UInt8) (h : HD) : DT × Nat :=
  if (resv s h.rsv).2 ≠ 0 then (dt0, (resv s h.rsv).2)
  else if (readR 1024 (partB s h.stc h.siz) (partB s h.sgs h.txs)).2 ≠ 0 then (dt0, (readR 1024 (partB s h.stc h.siz) (partB s h.sgs h.txs)).2)
  else if (ofR (readR 1024 (partB s h.stc h.siz) (partB s h.sgs h.txs)).1).2 ≠ 0 then (dt0, (ofR (readR 1024 (partB s h.stc h.siz) (partB s h.sgs h.txs)).1).2)
  else (⟨(ofR (readR 1024 (partB s h.stc h.siz) (partB s h.sgs h.txs)).1).1, (resv s h.rsv).1, h.boo⟩, 0)
/-- The tree of bytes. -/
def treeD (s : List UInt8) : DT × Nat := if (readH s).2 ≠ 0 then (dt0, (readH s).2) else bodyD (s.take (readH s).1.tot.toNat) (readH s).1
theorem bodyD_ok {s : List UInt8} {h : HD} {T : DT} (e : bodyD s h = (T, 0)) : fitsR T.rt = true ∧ T.rs.length ≤ 16 := by
  unfold bodyD at e
  split at e
  · rename_i h1; exact absurd (congrArg Prod.snd e) h1
  split at e
  · rename_i h1; exact absurd (congrArg Prod.snd e) h1
  split at e
  · rename_i h1; exact absurd (congrArg Prod.snd e) h1
  rename_i h3
  obtain ⟨rfl, -⟩ := Prod.mk.inj e
  exact ⟨(tokens_of (Prod.ext rfl (Decidable.not_not.1 h3))).2, resv_len _ _⟩
theorem treeD_ok {s : List UInt8} {T : DT} (e : treeD s = (T, 0)) : (readH s).2 = 0 ∧ fitsR T.rt = true ∧ T.rs.length ≤ 16 := by
  unfold treeD at e
  split at e
  · rename_i h1; exact absurd (congrArg Prod.snd e) h1
  · rename_i h1
    exact ⟨Decidable.not_not.1 h1, bodyD_ok e⟩
theorem bodyD_bad {s : List UInt8} {h : HD} (e : (bodyD s h).2 ≠ 0) : (bodyD s h).1 = dt0 := by
  unfold bodyD at e ⊢
  split
  · rfl
  · rename_i h1
    rw [if_neg h1] at e
    split
    · rfl
    · rename_i h2
      rw [if_neg h2] at e
      split
      · rfl
      · rename_i h3
        rw [if_neg h3] at e
        exact absurd rfl e
theorem treeD_bad {s : List UInt8} (e : (treeD s).2 ≠ 0) : (treeD s).1 = dt0 := by
  unfold treeD at e ⊢
  split
  · rfl
  · rename_i h1
    rw [if_neg h1] at e
    exact bodyD_bad e
theorem numAt_same {s t : List UInt8} {k : Nat} (hk : k < 10) (hg : ∀ j, j < 40 → t.getD j 0 = s.getD j 0) : numAt t k = numAt s k := by
  unfold numAt frombig
  have g : ∀ j, j < 4 → (t.drop (4 * k)).getD j 0 = (s.drop (4 * k)).getD j 0 := by
    intro j hj
    have := hg (4 * k + j) (by omega)
    simpa only [List.getD_eq_getElem?_getD, List.getElem?_drop] using this
  rw [g 0 (by omega), g 1 (by omega), g 2 (by omega), g 3 (by omega)]
/-- Of other bytes that begin so, the header is the same, or there are too few. -/
theorem readH_same {s t : List UInt8} {h : HD} (hr : readH s = (h, 0)) (ht : 40 ≤ t.length) (hg : ∀ j, j < 40 → t.getD j 0 = s.getD j 0) : readH t = if (t.length : Int) < h.tot then (hd0, 14) else (h, 0) := by
  obtain ⟨h1, h2, h3, h4, h5⟩ := readH_ok hr
  have ho : hdOf t = h := by
    rw [h5]; unfold hdOf
    rw [numAt_same (by omega) hg, numAt_same (by omega) hg, numAt_same (by omega) hg, numAt_same (by omega) hg, numAt_same (by omega) hg, numAt_same (by omega) hg, numAt_same (by omega) hg]
  have n1 : numAt t 1 = h.tot := by rw [← ho]; rfl
  have hm : ¬ (numAt s 0 ≠ 3490578157 ∨ numAt s 5 < 17 ∨ 17 < numAt s 6) := by
    intro hc
    unfold readH at hr
    rw [if_neg (by omega), if_pos hc] at hr
    cases hr
  unfold readH
  rw [if_neg (by omega), numAt_same (k := 0) (by omega) hg, numAt_same (k := 5) (by omega) hg, numAt_same (k := 6) (by omega) hg, if_neg hm, n1, if_neg (by omega), ho, h1, if_neg (by simp)]
/-- The header of the first bytes alone, with whatever behind them. -/
theorem readH_more {s m : List UInt8} {h : HD} (hr : readH s = (h, 0)) : readH (s.take h.tot.toNat ++ m) = (h, 0) := by
  obtain ⟨h1, h2, h3, h4, h5⟩ := readH_ok hr
  have hm := (mayH_iff.1 h1).1
  have hl : (s.take h.tot.toNat).length = h.tot.toNat := by rw [List.length_take]; omega
  have hln : (s.take h.tot.toNat ++ m).length = h.tot.toNat + m.length := by rw [List.length_append, hl]
  have e := readH_same (t := s.take h.tot.toNat ++ m) hr (by omega) (fun j hj => by
    rw [List.getD_eq_getElem?_getD, List.getElem?_append_left (by omega), List.getElem?_take_of_lt (by omega), List.getD_eq_getElem?_getD])
  rw [e, if_neg (by omega)]
/-- With one byte less there is no header. -/
theorem readH_less {s : List UInt8} {h : HD} (hr : readH s = (h, 0)) : readH (s.take (h.tot.toNat - 1)) = (hd0, 14) := by
  obtain ⟨h1, h2, h3, h4, h5⟩ := readH_ok hr
  have hm := (mayH_iff.1 h1).1
  have hl : (s.take (h.tot.toNat - 1)).length = h.tot.toNat - 1 := by rw [List.length_take]; omega
  by_cases h40 : h.tot.toNat - 1 < 40
  · unfold readH; rw [if_pos (by omega)]
  · have e := readH_same (t := s.take (h.tot.toNat - 1)) hr (by omega) (fun j hj => by
      rw [List.getD_eq_getElem?_getD, List.getElem?_take_of_lt (by omega), List.getD_eq_getElem?_getD])
    rw [e, if_pos (by omega)]
/-- A tree is told by its first bytes alone. -/
theorem treeD_more {s m : List UInt8} {T : DT} (e : treeD s = (T, 0)) : treeD (s.take (readH s).1.tot.toNat ++ m) = (T, 0) ∧ treeD (s.take ((readH s).1.tot.toNat - 1)) = (dt0, 14) := by
  have h0 := (treeD_ok e).1
  obtain ⟨h, hh⟩ : ∃ h, readH s = (h, 0) := ⟨_, Prod.ext rfl h0⟩
  obtain ⟨h1, h2, h3, h4, h5⟩ := readH_ok hh
  have hl : (s.take h.tot.toNat).length = h.tot.toNat := by rw [List.length_take]; omega
  unfold treeD at e ⊢
  rw [hh] at e ⊢
  simp only at e ⊢
  rw [readH_more hh, readH_less hh]
  refine ⟨?_, rfl⟩
  rw [if_neg (by simp)] at e ⊢
  show bodyD ((s.take h.tot.toNat ++ m).take h.tot.toNat) h = (T, 0)
  rw [List.take_append_of_le_length (by omega), List.take_of_length_le (by omega)]
  exact e
theorem treeD_len (s : List UInt8) : (treeD s).1.rs.length ≤ 16 := by
  by_cases h : (treeD s).2 = 0
  · exact (treeD_ok (T := (treeD s).1) (Prod.ext rfl h)).2.2
  · rw [treeD_bad h]; exact Nat.zero_le _
end Go.Proofs.YtfcclppgjfkfoaaGreatDoor
