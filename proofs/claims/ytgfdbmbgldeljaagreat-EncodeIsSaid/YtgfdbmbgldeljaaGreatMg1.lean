/- The header of a tree in plain words: when it is valid, its bytes, how it is read, a part of bytes. No condition: nothing of the program stands in it. -/
import Derived.Test.YtgfdbmbgldeljaaGreatMg0
import Derived.WalkKit
namespace Go.Proofs.YtgfdbmbgldeljaaGreat
open Go.RowKit

/-- A header: how many bytes there are, where the structure, the texts and the reserved spans begin, the processor, the bytes of the texts and of the structure. -/
structure HD where
  tot : Int
  stc : Int
  sgs : Int
  rsv : Int
  boo : Int
  txs : Int
  siz : Int
  deriving DecidableEq
def hd0 : HD := ⟨0, 0, 0, 0, 0, 0, 0⟩
/-- Its cells. -/
def hdC (h : HD) : Array Value := #[.int .i64 h.tot, .int .i64 h.stc, .int .i64 h.sgs, .int .i64 h.rsv, .int .i64 h.boo, .int .i64 h.txs, .int .i64 h.siz]
/-- Valid, but for being too big. -/
def mayH (h : HD) : Bool := decide (40 ≤ h.tot ∧ 40 ≤ h.stc ∧ 40 ≤ h.sgs ∧ 40 ≤ h.rsv ∧ h.stc ≤ h.tot ∧ h.sgs ≤ h.tot ∧ h.rsv ≤ h.tot ∧ h.stc % 4 = 0 ∧ h.rsv % 8 = 0 ∧ 0 ≤ h.siz ∧ h.siz ≤ h.tot - h.stc ∧ 0 ≤ h.txs ∧ h.txs ≤ h.tot - h.sgs ∧ 0 ≤ h.boo ∧ h.boo ≤ 4294967295)
/-- Its ten numbers. -/
def listH (h : HD) : List Int := [3490578157, h.tot, h.stc, h.sgs, h.rsv, 17, 16, h.boo, h.txs, h.siz]
/-- Put. -/
def putH (h : HD) : List UInt8 × Nat := if mayH h = true ∧ h.tot ≤ 16384 then (bigs (listH h) 10, 0) else ([], 1)
/-- The number at a place. -/
def numAt (s : List UInt8) (k : Nat) : Int := frombig (s.drop (4 * k))
def hdOf (s : List UInt8) : HD := ⟨numAt s 1, numAt s 2, numAt s 3, numAt s 4, numAt s 7, numAt s 8, numAt s 9⟩
/-- Read. -/
def readH (s : List UInt8) : HD × Nat :=
  if s.length < 40 then (hd0, 14)
  else if numAt s 0 ≠ 3490578157 ∨ numAt s 5 < 17 ∨ 17 < numAt s 6 then (hd0, 6)
  else if 16384 < numAt s 1 then (hd0, 7)
  else if mayH (hdOf s) = false then (hd0, 6)
  else if (s.length : Int) < numAt s 1 then (hd0, 14)
  else (hdOf s, 0)
/-- Part. -/
def partE (n : Nat) (a b : Int) : Nat := if a < 0 ∨ b < 0 ∨ (n : Int) < a ∨ (n : Int) - a < b then 2 else 0

/-- Part's bytes and error. -/
def partR (s : ByteArray) (a b : Int) : ByteArray × Nat := if a < 0 ∨ b < 0 ∨ (s.size : Int) < a ∨ (s.size : Int) - a < b then (⟨#[]⟩, 2) else (s.extract a.toNat (a + b).toNat, 0)
theorem partR_err (s : ByteArray) (a b : Int) : (partR s a b).2 = partE s.size a b := by unfold partR partE; split <;> rfl

theorem numsB_take (s : List UInt8) (k : Nat) (hk : k < 10) : (numsB (s.take 40) 10).getD k 0 = numAt s k := by
  have e : (numsB (s.take 40) 10).getD k 0 = frombig ((s.take 40).drop (4 * k)) := by
    simp [numsB, List.getD_eq_getElem?_getD, List.getElem?_range hk]
  rw [e]
  unfold numAt frombig
  have g : ∀ j, j < 4 → ((s.take 40).drop (4 * k)).getD j 0 = (s.drop (4 * k)).getD j 0 := by
    intro j hj
    simp only [List.getD_eq_getElem?_getD, List.getElem?_drop, List.getElem?_take]
    rw [if_pos (by omega)]
  rw [g 0 (by omega), g 1 (by omega), g 2 (by omega), g 3 (by omega)]
theorem numAt_bd (s : List UInt8) (k : Nat) : 0 ≤ numAt s k ∧ numAt s k < 4294967296 := frombig_bd _
/-- What is put has forty bytes. -/
theorem putH_len {h : HD} (he : (putH h).2 = 0) : (putH h).1.length = 40 ∧ mayH h = true ∧ h.tot ≤ 16384 := by
  unfold putH at he ⊢
  split
  · rename_i hg
    exact ⟨bigs_length _ 10 (Nat.le_refl 10), hg.1, hg.2⟩
  · rename_i hg
    rw [if_neg hg] at he
    cases he
theorem mayH_iff {h : HD} : mayH h = true ↔ 40 ≤ h.tot ∧ 40 ≤ h.stc ∧ 40 ≤ h.sgs ∧ 40 ≤ h.rsv ∧ h.stc ≤ h.tot ∧ h.sgs ≤ h.tot ∧ h.rsv ≤ h.tot ∧ h.stc % 4 = 0 ∧ h.rsv % 8 = 0 ∧ 0 ≤ h.siz ∧ h.siz ≤ h.tot - h.stc ∧ 0 ≤ h.txs ∧ h.txs ≤ h.tot - h.sgs ∧ 0 ≤ h.boo ∧ h.boo ≤ 4294967295 := decide_eq_true_iff
theorem numAt_bigs (l : List Int) (r : List UInt8) : ∀ (k : Nat), k < l.length → numAt (bigs l l.length ++ r) k = l.getD k 0 % 4294967296 := by
  induction l with
  | nil => intro k hk; simp at hk
  | cons x l ih =>
    intro k hk
    have e : bigs (x :: l) (x :: l).length ++ r = big x ++ (bigs l l.length ++ r) := by
      simp [bigs]
    rw [e]
    cases k with
    | zero => exact frombig_big x _
    | succ k =>
      have h := ih k (by simpa using hk)
      unfold numAt at h ⊢
      have d : (big x ++ (bigs l l.length ++ r)).drop (4 * (k + 1)) = (bigs l l.length ++ r).drop (4 * k) := by
        rw [List.drop_append, big_length]
        have : 4 * (k + 1) - 4 = 4 * k := by omega
        rw [this, List.drop_eq_nil_of_le (by rw [big_length]; omega)]
        rfl
      rw [d, h]
      simp
/-- What is put, with enough bytes behind it, is read back. -/
theorem read_putH {h : HD} {r : List UInt8} (he : (putH h).2 = 0) (hr : h.tot ≤ (((putH h).1 ++ r).length : Int)) : readH ((putH h).1 ++ r) = (h, 0) := by
  obtain ⟨h1, h2, h3⟩ := putH_len he
  have hp : (putH h).1 = bigs (listH h) 10 := by unfold putH; rw [if_pos ⟨h2, h3⟩]
  have hl : ((putH h).1 ++ r).length = 40 + r.length := by rw [List.length_append, h1]
  rw [hl] at hr
  have hm := mayH_iff.1 h2
  have hn : ∀ k, k < 10 → numAt ((putH h).1 ++ r) k = (listH h).getD k 0 % 4294967296 := by
    intro k hk
    rw [hp]
    exact numAt_bigs (listH h) r k hk
  have n0 : numAt ((putH h).1 ++ r) 0 = 3490578157 := by rw [hn 0 (by omega)]; rfl
  have n1 : numAt ((putH h).1 ++ r) 1 = h.tot := by rw [hn 1 (by omega)]; show h.tot % _ = _; omega
  have n2 : numAt ((putH h).1 ++ r) 2 = h.stc := by rw [hn 2 (by omega)]; show h.stc % _ = _; omega
  have n3 : numAt ((putH h).1 ++ r) 3 = h.sgs := by rw [hn 3 (by omega)]; show h.sgs % _ = _; omega
  have n4 : numAt ((putH h).1 ++ r) 4 = h.rsv := by rw [hn 4 (by omega)]; show h.rsv % _ = _; omega
  have n5 : numAt ((putH h).1 ++ r) 5 = 17 := by rw [hn 5 (by omega)]; rfl
  have n6 : numAt ((putH h).1 ++ r) 6 = 16 := by rw [hn 6 (by omega)]; rfl
  have n7 : numAt ((putH h).1 ++ r) 7 = h.boo := by rw [hn 7 (by omega)]; show h.boo % _ = _; omega
  have n8 : numAt ((putH h).1 ++ r) 8 = h.txs := by rw [hn 8 (by omega)]; show h.txs % _ = _; omega
  have n9 : numAt ((putH h).1 ++ r) 9 = h.siz := by rw [hn 9 (by omega)]; show h.siz % _ = _; omega
  have ho : hdOf ((putH h).1 ++ r) = h := by unfold hdOf; rw [n1, n2, n3, n4, n7, n8, n9]
  unfold readH
  rw [hl, ho, n0, n1, n5, n6, h2, if_neg (by omega), if_neg (by omega), if_neg (by omega), if_neg (by simp), if_neg (by omega)]
/-- All that a header which was read tells is there. -/
theorem readH_ok {s : List UInt8} {h : HD} (hr : readH s = (h, 0)) : mayH h = true ∧ h.tot ≤ s.length ∧ h.tot ≤ 16384 ∧ 40 ≤ s.length ∧ h = hdOf s := by
  unfold readH at hr
  split at hr
  · cases hr
  split at hr
  · cases hr
  split at hr
  · cases hr
  split at hr
  · cases hr
  split at hr
  · cases hr
  · rename_i g1 g2 g3 g4 g5
    injection hr with e _
    subst e
    exact ⟨by simpa using g4, by show numAt s 1 ≤ _; omega, by show numAt s 1 ≤ _; omega, by omega, rfl⟩
theorem readH_bad {s : List UInt8} {h : HD} {e : Nat} (hr : readH s = (h, e)) (he : e ≠ 0) : h = hd0 := by
  unfold readH at hr
  repeat' split at hr
  all_goals first | (injection hr with a b; exact a.symm) | (injection hr with a b; exact absurd b.symm he)
/-- Both parts that a header tells are there. -/
theorem part_there {s : List UInt8} {h : HD} (hr : readH s = (h, 0)) : partE s.length h.stc h.siz = 0 ∧ partE s.length h.sgs h.txs = 0 ∧ 40 ≤ h.rsv ∧ h.rsv ≤ s.length ∧ h.tot ≤ s.length := by
  obtain ⟨h1, h2, _, _, _⟩ := readH_ok hr
  have hm := mayH_iff.1 h1
  unfold partE
  rw [if_neg (by omega), if_neg (by omega)]
  exact ⟨rfl, rfl, by omega, by omega, h2⟩
end Go.Proofs.YtgfdbmbgldeljaaGreat

/- A memory in plain words: spans, whether some may be loaded, what was loaded, and the byte at each place. No condition: nothing of the program stands in it. -/
namespace Go.Proofs.YtgfdbmbgldeljaaGreat
open Go.RowKit

/-- A span: where it begins, how many bytes it has. -/
structure SP where
  p : Int
  n : Int
def sp0 : SP := ⟨0, 0⟩
def insS (x : SP) : Bool := decide (0 ≤ x.p) && decide (0 ≤ x.n) && decide (x.p ≤ 65536) && decide (x.n ≤ 65536 - x.p)
theorem insS_of {x : SP} (h : insS x = true) : 0 ≤ x.p ∧ 0 ≤ x.n ∧ x.p ≤ 65536 ∧ x.n ≤ 65536 - x.p := by unfold insS at h; simp at h; omega
theorem insS_true {x : SP} (h : 0 ≤ x.p ∧ 0 ≤ x.n ∧ x.p ≤ 65536 ∧ x.n ≤ 65536 - x.p) : insS x = true := by unfold insS; simp; omega
theorem insS_false {x : SP} (h : ¬ (0 ≤ x.p ∧ 0 ≤ x.n ∧ x.p ≤ 65536 ∧ x.n ≤ 65536 - x.p)) : insS x = false := by
  cases e : insS x with
  | false => rfl
  | true => exact absurd (insS_of e) h
/-- Do they have a byte in common? -/
def meetS (a b : SP) : Bool := decide (0 < a.n) && decide (0 < b.n) && decide (a.p < b.p + b.n) && decide (b.p < a.p + a.n)
theorem meetS_true {a b : SP} (h : 0 < a.n ∧ 0 < b.n ∧ a.p < b.p + b.n ∧ b.p < a.p + a.n) : meetS a b = true := by unfold meetS; simp; omega
theorem meetS_false {a b : SP} (h : ¬ (0 < a.n ∧ 0 < b.n ∧ a.p < b.p + b.n ∧ b.p < a.p + a.n)) : meetS a b = false := by
  cases e : meetS a b with
  | false => rfl
  | true => unfold meetS at e; simp at e; omega
theorem meetS_of {a b : SP} (h : meetS a b = true) : 0 < a.n ∧ 0 < b.n ∧ a.p < b.p + b.n ∧ b.p < a.p + a.n := by unfold meetS at h; simp at h; omega
/-- Is it one that has a byte of the loader? -/
def lowS (x : SP) : Bool := decide (0 < x.n) && decide (x.p < 4096)
/-- The error of the i-th of some spans, beside those that are loaded. -/
def er1 (K l : List SP) (i : Nat) : Nat :=
  if insS (l.getD i sp0) = false then 2 else if lowS (l.getD i sp0) = true then 3 else if K.any (meetS (l.getD i sp0)) = true then 12 else if (l.take i).any (meetS (l.getD i sp0)) = true then 12 else 0
/-- The first error. -/
def ckR (K l : List SP) : Nat := (((List.range l.length).map (er1 K l)).find? (· != 0)).getD 0
theorem ckR_first {K l : List SP} {i : Nat} (hi : i < l.length) (h : ∀ j, j < i → er1 K l j = 0) {r : Nat} (hr : er1 K l i = r) (hn : r ≠ 0) : ckR K l = r := by
  unfold ckR
  have e : ((List.range l.length).map (er1 K l)).find? (· != 0) = some r := by
    rw [List.find?_eq_some_iff_append]
    refine ⟨by simpa using hn, (List.range i).map (er1 K l), ((List.range l.length).map (er1 K l)).drop (i + 1), ?_, fun a ha => ?_⟩
    · have hl : i < ((List.range l.length).map (er1 K l)).length := by simpa using hi
      have h1 : ((List.range l.length).map (er1 K l))[i] = r := by simpa using hr
      rw [← h1, ← List.drop_eq_getElem_cons hl]
      conv => lhs; rw [← List.take_append_drop i ((List.range l.length).map (er1 K l))]
      congr 1
      rw [← List.map_take, List.take_range, Nat.min_eq_left (by omega)]
    · obtain ⟨j, hj, rfl⟩ := List.mem_map.1 ha
      rw [h j (List.mem_range.1 hj)]; rfl
  rw [e]; rfl
theorem ckR_ok {K l : List SP} (h : ∀ j, j < l.length → er1 K l j = 0) : ckR K l = 0 := by
  unfold ckR
  have e : ((List.range l.length).map (er1 K l)).find? (· != 0) = none := by
    rw [List.find?_eq_none]
    intro a ha
    obtain ⟨j, hj, rfl⟩ := List.mem_map.1 ha
    rw [h j (List.mem_range.1 hj)]; decide
  rw [e]; rfl
theorem any_sp {f : SP → Bool} {L : List SP} {k : Nat} (hk : k < L.length) (h : f (L.getD k sp0) = true) : L.any f = true := by
  rw [List.any_eq_true]
  refine ⟨L.getD k sp0, ?_, h⟩
  rw [List.getD, List.getElem?_eq_getElem hk]
  exact List.getElem_mem hk
theorem any_sp_no {f : SP → Bool} {L : List SP} (h : ∀ j, j < L.length → f (L.getD j sp0) = false) : L.any f = false := by
  rw [List.any_eq_false]
  intro x hx
  obtain ⟨j, hj, rfl⟩ := List.getElem_of_mem hx
  have := h j hj
  rw [List.getD, List.getElem?_eq_getElem hj] at this
  simpa using this
theorem take_sp (l : List SP) {i j : Nat} (h : j < i) : (l.take i).getD j sp0 = l.getD j sp0 := by
  rw [List.getD_eq_getElem?_getD, List.getD_eq_getElem?_getD, List.getElem?_take_of_lt h]
section
variable {K l : List SP} {i : Nat}
theorem er1_rng (h : insS (l.getD i sp0) = false) : er1 K l i = 2 := by unfold er1; rw [if_pos h]
theorem er1_low (h : insS (l.getD i sp0) = true) (h2 : lowS (l.getD i sp0) = true) : er1 K l i = 3 := by unfold er1; rw [if_neg (by rw [h]; decide), if_pos h2]
theorem er1_old (h : insS (l.getD i sp0) = true) (h2 : lowS (l.getD i sp0) = false) {k : Nat} (hk : k < K.length) (h3 : meetS (l.getD i sp0) (K.getD k sp0) = true) : er1 K l i = 12 := by
  unfold er1; rw [if_neg (by rw [h]; decide), if_neg (by rw [h2]; decide), if_pos (any_sp hk h3)]
theorem er1_new (h : insS (l.getD i sp0) = true) (h2 : lowS (l.getD i sp0) = false) (h3 : ∀ k, k < K.length → meetS (l.getD i sp0) (K.getD k sp0) = false) (hi : i < l.length) {k : Nat} (hk : k < i) (h4 : meetS (l.getD i sp0) (l.getD k sp0) = true) : er1 K l i = 12 := by
  unfold er1
  rw [if_neg (by rw [h]; decide), if_neg (by rw [h2]; decide), if_neg (by rw [any_sp_no h3]; decide), if_pos (any_sp (k := k) (by rw [List.length_take]; omega) (by rw [take_sp l hk]; exact h4))]
theorem er1_ok (h : insS (l.getD i sp0) = true) (h2 : lowS (l.getD i sp0) = false) (h3 : ∀ k, k < K.length → meetS (l.getD i sp0) (K.getD k sp0) = false) (h4 : ∀ k, k < i → meetS (l.getD i sp0) (l.getD k sp0) = false) : er1 K l i = 0 := by
  unfold er1
  rw [if_neg (by rw [h]; decide), if_neg (by rw [h2]; decide), if_neg (by rw [any_sp_no h3]; decide), if_neg]
  rw [any_sp_no fun j hj => by rw [List.length_take] at hj; rw [take_sp l (by omega)]; exact h4 j (by omega)]
  decide
theorem er1_ins (h : er1 K l i = 0) : insS (l.getD i sp0) = true := by
  cases e : insS (l.getD i sp0) with
  | true => rfl
  | false => rw [er1_rng e] at h; cases h
end
/-- What was loaded: where, and which bytes. -/
structure LD where
  p : Nat
  s : ByteArray
def ld0 : LD := ⟨0, ⟨#[]⟩⟩
def LD.sp (x : LD) : SP := ⟨x.p, x.s.size⟩
/-- Load. -/
def ldR (R : List LD) (a : Int) (s : ByteArray) : List LD × Nat := if ckR (R.map LD.sp) [⟨a, s.size⟩] = 0 then (R ++ [⟨a.toNat, s⟩], 0) else (R, ckR (R.map LD.sp) [⟨a, s.size⟩])
/-- The byte at a place, after the first k. -/
def byR (R : List LD) (j : Nat) : UInt8 := R.foldl (fun b x => if x.p ≤ j ∧ j < x.p + x.s.size then x.s.data.toList.getD (j - x.p) 0 else b) 0
theorem byR_snoc (R : List LD) (x : LD) (j : Nat) : byR (R ++ [x]) j = if x.p ≤ j ∧ j < x.p + x.s.size then x.s.data.toList.getD (j - x.p) 0 else byR R j := by
  unfold byR; rw [List.foldl_append]; rfl
/-- Read. -/
def rdR (R : List LD) (a n : Int) : ByteArray × Nat := if insS ⟨a, n⟩ = true then (⟨((List.range n.toNat).map fun i => byR R (a.toNat + i)).toArray⟩, 0) else (⟨#[]⟩, 2)
/-- What holds of what was loaded: all spans exist, none is of the loader's bytes, none meets another. -/
def RamOk (R : List LD) : Prop := (∀ k, k < R.length → insS (R.getD k ld0).sp = true ∧ lowS (R.getD k ld0).sp = false) ∧ ∀ i k, i < R.length → k < i → meetS (R.getD i ld0).sp (R.getD k ld0).sp = false
theorem ramOk_nil : RamOk [] := ⟨fun _ h => absurd h (Nat.not_lt_zero _), fun _ _ h => absurd h (Nat.not_lt_zero _)⟩
theorem sp_getD (R : List LD) {k : Nat} (hk : k < R.length) : (R.map LD.sp).getD k sp0 = (R.getD k ld0).sp := by
  simp [List.getD, hk]
theorem snoc_getD (R : List LD) (x : LD) (k : Nat) : (R ++ [x]).getD k ld0 = if k < R.length then R.getD k ld0 else if k = R.length then x else ld0 := by
  simp only [List.getD_eq_getElem?_getD, List.getElem?_append]
  by_cases h : k < R.length
  · rw [if_pos h, if_pos h]
  · rw [if_neg h, if_neg h]
    by_cases h2 : k = R.length
    · rw [if_pos h2]; simp [h2]
    · rw [if_neg h2, List.getElem?_eq_none (by simp; omega)]; rfl
/-- One span alone: its error. -/
theorem ck_one {K : List SP} {x : SP} (h : ckR K [x] = 0) : insS x = true ∧ lowS x = false ∧ ∀ k, k < K.length → meetS x (K.getD k sp0) = false := by
  have e : er1 K [x] 0 = 0 := by
    cases hc : er1 K [x] 0 with
    | zero => rfl
    | succ n => exact absurd h (by rw [ckR_first (K := K) (l := [x]) (i := 0) (by simp) (fun j hj => absurd hj (Nat.not_lt_zero _)) hc (by omega)]; omega)
  have h1 : insS x = true := er1_ins (l := [x]) (i := 0) e
  refine ⟨h1, ?_, fun k hk => ?_⟩
  · cases e2 : lowS x with
    | false => rfl
    | true => rw [er1_low (l := [x]) (i := 0) h1 e2] at e; cases e
  · cases e3 : meetS x (K.getD k sp0) with
    | false => rfl
    | true =>
      cases e2 : lowS x with
      | false => rw [er1_old (l := [x]) (i := 0) h1 e2 hk e3] at e; cases e
      | true => rw [er1_low (l := [x]) (i := 0) h1 e2] at e; cases e
theorem ldR_ok {R : List LD} (h : RamOk R) (a : Int) (s : ByteArray) : RamOk (ldR R a s).1 := by
  unfold ldR
  split
  · rename_i h0
    obtain ⟨h1, h2, h3⟩ := ck_one h0
    have ha : 0 ≤ a := (insS_of h1).1
    have es : (LD.mk a.toNat s).sp = ⟨a, s.size⟩ := by unfold LD.sp; simp only; rw [Int.toNat_of_nonneg ha]
    refine ⟨fun k hk => ?_, fun i k hi hk => ?_⟩
    · simp only [List.length_append, List.length_cons, List.length_nil] at hk
      rw [snoc_getD]
      by_cases hl : k < R.length
      · rw [if_pos hl]; exact h.1 k hl
      · rw [if_neg hl, if_pos (by omega), es]; exact ⟨h1, h2⟩
    · simp only [List.length_append, List.length_cons, List.length_nil] at hi
      rw [snoc_getD, snoc_getD]
      by_cases hl : i < R.length
      · rw [if_pos hl, if_pos (by omega)]; exact h.2 i k hl hk
      · rw [if_neg hl, if_pos (by omega), if_pos (by omega), es]
        have := h3 k (by rw [List.length_map]; omega)
        rwa [sp_getD R (by omega)] at this
  · exact h
end Go.Proofs.YtgfdbmbgldeljaaGreat
