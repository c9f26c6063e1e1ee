/- A slice of numbers that came in; numbers' bytes one behind the other; what the document's own Bigs returns for every slice of at most 2^40 numbers. -/
import Derived.Test.YtmgmpjgofolkgaaMg0
namespace Go.Proofs.Ytmgmpjgofolkgaa
open Go.RowKit

/-- The slice at A reads as the numbers l, in blocks below B. -/
def RdI (B : Nat) (w : World) (A : Option Addr) (l : List Int) : Prop :=
  l = [] ∨ ∃ b off, A = some ⟨b, off, none⟩ ∧ b < B ∧ ∀ k, k < l.length → w.cell? ⟨b, off + k, none⟩ = some (.int .i64 (l.getD k 0))
theorem RdI.at_ {B : Nat} {w : World} {A : Option Addr} {l : List Int} (h : RdI B w A l) {k : Nat} (hk : k < l.length) :
    ∃ b off x, A = some ⟨b, off, none⟩ ∧ b < B ∧ w.cell? ⟨b, off + k, none⟩ = some (.int .i64 x) ∧ Hid (l.getD k 0 = x) := by
  rcases h with rfl | ⟨b, off, rfl, hb, hc⟩
  · simp at hk
  · exact ⟨b, off, _, rfl, hb, hc k hk, rfl⟩
theorem RdI.below {B : Nat} {w w' : World} {A : Option Addr} {l : List Int} (h : RdI B w A l) (hb : Below B w w') : RdI B w' A l := by
  rcases h with h | ⟨b, off, rfl, hlt, hc⟩
  · exact .inl h
  · exact .inr ⟨b, off, rfl, hlt, fun k hk => (hb.cell (p := ⟨b, off + k, none⟩) hlt).trans (hc k hk)⟩
theorem RdI.mono {B B' : Nat} {w : World} {A : Option Addr} {l : List Int} (h : RdI B w A l) (hB : B ≤ B') : RdI B' w A l := by
  rcases h with h | ⟨b, off, rfl, hlt, hc⟩
  · exact .inl h
  · exact .inr ⟨b, off, rfl, by omega, hc⟩

def bigs (l : List Int) (k : Nat) : List UInt8 := (l.take k).flatMap big
theorem bigs_zero (l : List Int) : bigs l 0 = [] := rfl
theorem bigs_succ (l : List Int) (k : Nat) (h : k < l.length) : bigs l (k + 1) = bigs l k ++ big (l.getD k 0) := by
  unfold bigs
  rw [List.take_succ_eq_append_getElem h, List.flatMap_append]
  simp [List.getD, List.getElem?_eq_getElem h]
theorem big_length (n : Int) : (big n).length = 4 := rfl
theorem bigs_length (l : List Int) : ∀ k, k ≤ l.length → (bigs l k).length = 4 * k
  | 0, _ => rfl
  | k + 1, h => by rw [bigs_succ l k (by omega), List.length_append, bigs_length l k (by omega), big_length]; omega
theorem size_mk (l : List UInt8) : (ByteArray.mk l.toArray).size = l.length := by show l.toArray.size = _; simp

end Go.Proofs.Ytmgmpjgofolkgaa

/- The header of a tree in plain words: when it is valid, its bytes, how it is read, a part of bytes. No condition: nothing of the program stands in it. -/
namespace Go.Proofs.Ytmgmpjgofolkgaa
open Go.RowKit

/-- A header: how many bytes there are, where the structure, the texts and the reserved spans begin, the processor, the bytes of the texts and of the structure. -/
structure HD where
  tot : Int
  stc : Int
  sgs : Int
  rsv : Int
  boo : Int
  txs : Int
  siz : Int
  deriving DecidableEq
def hd0 : HD := ⟨0, 0, 0, 0, 0, 0, 0⟩
/-- Its cells. -/
def hdC (h : HD) : Array Value := #[.int .i64 h.tot, .int .i64 h.stc, .int .i64 h.sgs, .int .i64 h.rsv, .int .i64 h.boo, .int .i64 h.txs, .int .i64 h.siz]
/-- Valid, but for being too big. -/
def mayH (h : HD) : Bool := decide (40 ≤ h.tot ∧ 40 ≤ h.stc ∧ 40 ≤ h.sgs ∧ 40 ≤ h.rsv ∧ h.stc ≤ h.tot ∧ h.sgs ≤ h.tot ∧ h.rsv ≤ h.tot ∧ h.stc % 4 = 0 ∧ h.rsv % 8 = 0 ∧ 0 ≤ h.siz ∧ h.siz ≤ h.tot - h.stc ∧ 0 ≤ h.txs ∧ h.txs ≤ h.tot - h.sgs ∧ 0 ≤ h.boo ∧ h.boo ≤ 4294967295)
/-- Its ten numbers. -/
def listH (h : HD) : List Int := [3490578157, h.tot, h.stc, h.sgs, h.rsv, 17, 16, h.boo, h.txs, h.siz]
/-- Put. -/
def putH (h : HD) : List UInt8 × Nat := if mayH h = true ∧ h.tot ≤ 16384 then (bigs (listH h) 10, 0) else ([], 1)
/-- The number at a place. -/
def numAt (s : List UInt8) (k : Nat) : Int := frombig (s.drop (4 * k))
def hdOf (s : List UInt8) : HD := ⟨numAt s 1, numAt s 2, numAt s 3, numAt s 4, numAt s 7, numAt s 8, numAt s 9⟩
/-- Read. -/
def readH (s : List UInt8) : HD × Nat :=
  if s.length < 40 then (hd0, 14)
  else if numAt s 0 ≠ 3490578157 ∨ numAt s 5 < 17 ∨ 17 < numAt s 6 then (hd0, 6)
  else if 16384 < numAt s 1 then (hd0, 7)
  else if mayH (hdOf s) = false then (hd0, 6)
  else if (s.length : Int) < numAt s 1 then (hd0, 14)
  else (hdOf s, 0)
/-- Part. -/
def partE (n : Nat) (a b : Int) : Nat := if a < 0 ∨ b < 0 ∨ (n : Int) < a ∨ (n : Int) - a < b then 2 else 0

/-- Part's bytes and error. -/
def partR (s : ByteArray) (a b : Int) : ByteArray × Nat := if a < 0 ∨ b < 0 ∨ (s.size : Int) < a ∨ (s.size : Int) - a < b then (⟨#[]⟩, 2) else (s.extract a.toNat (a + b).toNat, 0)
theorem partR_err (s : ByteArray) (a b : Int) : (partR s a b).2 = partE s.size a b := by unfold partR partE; split <;> rfl

theorem numsB_take (s : List UInt8) (k : Nat) (hk : k < 10) : (numsB (s.take 40) 10).getD k 0 = numAt s k := by
  have e : (numsB (s.take 40) 10).getD k 0 = frombig ((s.take 40).drop (4 * k)) := by
    simp [numsB, List.getD_eq_getElem?_getD, List.getElem?_range hk]
  rw [e]
  unfold numAt frombig
  have g : ∀ j, j < 4 → ((s.take 40).drop (4 * k)).getD j 0 = (s.drop (4 * k)).getD j 0 := by
    intro j hj
    simp only [List.getD_eq_getElem?_getD, List.getElem?_drop, List.getElem?_take]
    rw [if_pos (by omega)]
  rw [g 0 (by omega), g 1 (by omega), g 2 (by omega), g 3 (by omega)]
theorem numAt_bd (s : List UInt8) (k : Nat) : 0 ≤ numAt s k ∧ numAt s k < 4294967296 := frombig_bd _
/-- What is put has forty bytes. -/
theorem putH_len {h : HD} (he : (putH h).2 = 0) : (putH h).1.length = 40 ∧ mayH h = true ∧ h.tot ≤ 16384 := by
  unfold putH at he ⊢
  split
  · rename_i hg
    exact ⟨bigs_length _ 10 (Nat.le_refl 10), hg.1, hg.2⟩
  · rename_i hg
    rw [if_neg hg] at he
    cases he
theorem mayH_iff {h : HD} : mayH h = true ↔ 40 ≤ h.tot ∧ 40 ≤ h.stc ∧ 40 ≤ h.sgs ∧ 40 ≤ h.rsv ∧ h.stc ≤ h.tot ∧ h.sgs ≤ h.tot ∧ h.rsv ≤ h.tot ∧ h.stc % 4 = 0 ∧ h.rsv % 8 = 0 ∧ 0 ≤ h.siz ∧ h.siz ≤ h.tot - h.stc ∧ 0 ≤ h.txs ∧ h.txs ≤ h.tot - h.sgs ∧ 0 ≤ h.boo ∧ h.boo ≤ 4294967295 := decide_eq_true_iff
theorem numAt_bigs (l : List Int) (r : List UInt8) : ∀ (k : Nat), k < l.length → numAt (bigs l l.length ++ r) k = l.getD k 0 % 4294967296 := by
  induction l with
  | nil => intro k hk; simp at hk
  | cons x l ih =>
    intro k hk
    have e : bigs (x :: l) (x :: l).length ++ r = big x ++ (bigs l l.length ++ r) := by
      simp [bigs]
    rw [e]
    cases k with
    | zero => exact frombig_big x _
    | succ k =>
      have h := ih k (by simpa using hk)
      unfold numAt at h ⊢
      have d : (big x ++ (bigs l l.length ++ r)).drop (4 * (k + 1)) = (bigs l l.length ++ r).drop (4 * k) := by
        rw [List.drop_append, big_length]
        have : 4 * (k + 1) - 4 = 4 * k := by omega
        rw [this, List.drop_eq_nil_of_le (by rw [big_length]; omega)]
        rfl
      rw [d, h]
      simp
/-- What is put, with enough bytes behind it, is read back. -/
theorem read_putH {h : HD} {r : List UInt8} (he : (putH h).2 = 0) (hr : h.tot ≤ (((putH h).1 ++ r).length : Int)) : readH ((putH h).1 ++ r) = (h, 0) := by
  obtain ⟨h1, h2, h3⟩ := putH_len he
  have hp : (putH h).1 = bigs (listH h) 10 := by unfold putH; rw [if_pos ⟨h2, h3⟩]
  have hl : ((putH h).1 ++ r).length = 40 + r.length := by rw [List.length_append, h1]
  rw [hl] at hr
  have hm := mayH_iff.1 h2
  have hn : ∀ k, k < 10 → numAt ((putH h).1 ++ r) k = (listH h).getD k 0 % 4294967296 := by
    intro k hk
    rw [hp]
    exact numAt_bigs (listH h) r k hk
  have n0 : numAt ((putH h).1 ++ r) 0 = 3490578157 := by rw [hn 0 (by omega)]; rfl
  have n1 : numAt ((putH h).1 ++ r) 1 = h.tot := by rw [hn 1 (by omega)]; show h.tot % _ = _; omega
  have n2 : numAt ((putH h).1 ++ r) 2 = h.stc := by rw [hn 2 (by omega)]; show h.stc % _ = _; omega
  have n3 : numAt ((putH h).1 ++ r) 3 = h.sgs := by rw [hn 3 (by omega)]; show h.sgs % _ = _; omega
  have n4 : numAt ((putH h).1 ++ r) 4 = h.rsv := by rw [hn 4 (by omega)]; show h.rsv % _ = _; omega
  have n5 : numAt ((putH h).1 ++ r) 5 = 17 := by rw [hn 5 (by omega)]; rfl
  have n6 : numAt ((putH h).1 ++ r) 6 = 16 := by rw [hn 6 (by omega)]; rfl
  have n7 : numAt ((putH h).1 ++ r) 7 = h.boo := by rw [hn 7 (by omega)]; show h.boo % _ = _; omega
  have n8 : numAt ((putH h).1 ++ r) 8 = h.txs := by rw [hn 8 (by omega)]; show h.txs % _ = _; omega
  have n9 : numAt ((putH h).1 ++ r) 9 = h.siz := by rw [hn 9 (by omega)]; show h.siz % _ = _; omega
  have ho : hdOf ((putH h).1 ++ r) = h := by unfold hdOf; rw [n1, n2, n3, n4, n7, n8, n9]
  unfold readH
  rw [hl, ho, n0, n1, n5, n6, h2, if_neg (by omega), if_neg (by omega), if_neg (by omega), if_neg (by simp), if_neg (by omega)]
/-- All that a header which was read tells is there. -/
theorem readH_ok {s : List UInt8} {h : HD} (hr : readH s = (h, 0)) : mayH h = true ∧ h.tot ≤ s.length ∧ h.tot ≤ 16384 ∧ 40 ≤ s.length ∧ h = hdOf s := by
  unfold readH at hr
  split at hr
  · cases hr
  split at hr
  · cases hr
  split at hr
  · cases hr
  split at hr
  · cases hr
  split at hr
  · cases hr
  · rename_i g1 g2 g3 g4 g5
    injection hr with e _
    subst e
    exact ⟨by simpa using g4, by show numAt s 1 ≤ _; omega, by show numAt s 1 ≤ _; omega, by omega, rfl⟩
theorem readH_bad {s : List UInt8} {h : HD} {e : Nat} (hr : readH s = (h, e)) (he : e ≠ 0) : h = hd0 := by
  unfold readH at hr
  repeat' split at hr
  all_goals first | (injection hr with a b; exact a.symm) | (injection hr with a b; exact absurd b.symm he)
/-- Both parts that a header tells are there. -/
theorem part_there {s : List UInt8} {h : HD} (hr : readH s = (h, 0)) : partE s.length h.stc h.siz = 0 ∧ partE s.length h.sgs h.txs = 0 ∧ 40 ≤ h.rsv ∧ h.rsv ≤ s.length ∧ h.tot ≤ s.length := by
  obtain ⟨h1, h2, _, _, _⟩ := readH_ok hr
  have hm := mayH_iff.1 h1
  unfold partE
  rw [if_neg (by omega), if_neg (by omega)]
  exact ⟨rfl, rfl, by omega, by omega, h2⟩
end Go.Proofs.Ytmgmpjgofolkgaa
