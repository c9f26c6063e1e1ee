/- Plain functions and lemmas for layer 1 (big-endian bytes). No condition: nothing of the program stands in it. -/
import Derived.WalkKit
import Derived.Laws.BitsLemmas
import Derived.IntWalk
namespace Go.Proofs.Ytbkfkbacejhpeaa
open Go.RowKit

/-- The byte of a number. -/
def b8 (x : Int) : UInt8 := UInt8.ofNat x.toNat
/-- The four bytes of the lowest 32 bits. -/
def big (n : Int) : List UInt8 := [b8 (n / 16777216 % 256), b8 (n / 65536 % 256), b8 (n / 256 % 256), b8 (n % 256)]
/-- The number of the first four bytes. -/
def frombig (l : List UInt8) : Int := ((l.getD 0 0).toNat : Int) * 16777216 + ((l.getD 1 0).toNat : Int) * 65536 + ((l.getD 2 0).toNat : Int) * 256 + ((l.getD 3 0).toNat : Int)
/-- The first k numbers of bytes, four each. -/
def numsB (l : List UInt8) (k : Nat) : List Int := (List.range k).map fun i => frombig (l.drop (4 * i))
def intVals (l : List Int) : List Value := l.map (Value.int .i64)

theorem numsB_length (l : List UInt8) (k : Nat) : (numsB l k).length = k := by simp [numsB]
theorem numsB_succ (l : List UInt8) (k : Nat) : numsB l (k + 1) = numsB l k ++ [frombig (l.drop (4 * k))] := by simp [numsB, List.range_succ]
theorem intVals_numsB_succ (l : List UInt8) (k : Nat) : intVals (numsB l (k + 1)) = intVals (numsB l k) ++ [.int .i64 (frombig (l.drop (4 * k)))] := by simp [intVals, numsB_succ]
theorem byte_lt (b : UInt8) : ((b.toNat : Nat) : Int) < 256 := by have := b.toNat_lt; omega
theorem frombig_bd (l : List UInt8) : 0 ≤ frombig l ∧ frombig l < 4294967296 := by
  unfold frombig
  have h0 := byte_lt (l.getD 0 0); have h1 := byte_lt (l.getD 1 0); have h2 := byte_lt (l.getD 2 0); have h3 := byte_lt (l.getD 3 0)
  omega
theorem b8_toNat (x : Int) (h0 : 0 ≤ x) (h1 : x < 256) : ((b8 x).toNat : Int) = x := by
  unfold b8
  rw [UInt8.toNat_ofNat', Nat.mod_eq_of_lt (by omega)]
  omega
theorem frombig_big (n : Int) (r : List UInt8) : frombig (big n ++ r) = n % 4294967296 := by
  unfold frombig big
  have e0 := b8_toNat (n / 16777216 % 256) (by omega) (by omega)
  have e1 := b8_toNat (n / 65536 % 256) (by omega) (by omega)
  have e2 := b8_toNat (n / 256 % 256) (by omega) (by omega)
  have e3 := b8_toNat (n % 256) (by omega) (by omega)
  show ((b8 (n / 16777216 % 256)).toNat : Int) * 16777216 + ((b8 (n / 65536 % 256)).toNat : Int) * 65536 + ((b8 (n / 256 % 256)).toNat : Int) * 256 + ((b8 (n % 256)).toNat : Int) = _
  rw [e0, e1, e2, e3]
  omega
theorem i64_or_join (i : Nat) (x y : Int) (hx₀ : 0 ≤ x) (hx : x % 2 ^ i = 0) (hx₁ : x < 2 ^ 62) (hy₀ : 0 ≤ y) (hy : y < 2 ^ i) (hy₁ : y < 2 ^ 62) : bits .or .i64 x y = x + y :=
  bits_join .i64 62 (by decide) (fun n h0 h1 => by rw [IntKind.wrap_i64]; omega) i x y hx₀ hx hx₁ hy₀ hy hy₁
theorem w64 {n : Int} (h0 : 0 ≤ n) (h1 : n < 4611686018427387904) : wrap64 n = n := by unfold wrap64; omega
/-- Four bytes joined by shifts. -/
theorem join4 (a b c d : Int) (ha : 0 ≤ a ∧ a < 256) (hb : 0 ≤ b ∧ b < 256) (hc : 0 ≤ c ∧ c < 256) (hd : 0 ≤ d ∧ d < 256) :
    bits .or .i64 (bits .or .i64 (bits .or .i64 (wrap64 (wrap64 a * 16777216)) (wrap64 (wrap64 b * 65536))) (wrap64 (wrap64 c * 256))) (wrap64 d) = a * 16777216 + b * 65536 + c * 256 + d := by
  rw [w64 ha.1 (by omega), w64 hb.1 (by omega), w64 hc.1 (by omega), w64 hd.1 (by omega), w64 (n := a * 16777216) (by omega) (by omega), w64 (n := b * 65536) (by omega) (by omega), w64 (n := c * 256) (by omega) (by omega)]
  rw [i64_or_join 24 (a * 16777216) (b * 65536) (by omega) (by omega) (by omega) (by omega) (by omega) (by omega)]
  rw [i64_or_join 16 (a * 16777216 + b * 65536) (c * 256) (by omega) (by omega) (by omega) (by omega) (by omega) (by omega)]
  rw [i64_or_join 8 (a * 16777216 + b * 65536 + c * 256) d (by omega) (by omega) (by omega) (by omega) (by omega) (by omega)]
theorem sum4 (a b c d : Int) (ha : 0 ≤ a ∧ a < 256) (hb : 0 ≤ b ∧ b < 256) (hc : 0 ≤ c ∧ c < 256) (hd : 0 ≤ d ∧ d < 256) :
    wrap64 (wrap64 (wrap64 (wrap64 (wrap64 a * 16777216) + wrap64 (wrap64 b * 65536)) + wrap64 (wrap64 c * 256)) + wrap64 d) = a * 16777216 + b * 65536 + c * 256 + d := by
  rw [w64 ha.1 (by omega), w64 hb.1 (by omega), w64 hc.1 (by omega), w64 hd.1 (by omega), w64 (n := a * 16777216) (by omega) (by omega), w64 (n := b * 65536) (by omega) (by omega), w64 (n := c * 256) (by omega) (by omega)]
  rw [w64 (n := a * 16777216 + b * 65536) (by omega) (by omega), w64 (n := a * 16777216 + b * 65536 + c * 256) (by omega) (by omega), w64 (by omega) (by omega)]
theorem byte_in (b : UInt8) : 0 ≤ ((b.toNat : Nat) : Int) ∧ ((b.toNat : Nat) : Int) < 256 := ⟨by omega, byte_lt b⟩
theorem getD_of (s : ByteArray) (i : Nat) (h : i < s.size) : s.data.toList.getD i 0 = s[i] := by
  have h' : i < s.data.toList.length := h
  rw [List.getD_eq_getElem?_getD, List.getElem?_eq_getElem h']
  rfl
theorem frombig_at (s : ByteArray) (h0 : 0 < s.size) (h1 : 1 < s.size) (h2 : 2 < s.size) (h3 : 3 < s.size) :
    frombig s.data.toList = ((s[0].toNat : Nat) : Int) * (16777216 : Int) + ((s[1].toNat : Nat) : Int) * (65536 : Int) + ((s[2].toNat : Nat) : Int) * (256 : Int) + ((s[3].toNat : Nat) : Int) := by
  unfold frombig
  rw [getD_of s 0 h0, getD_of s 1 h1, getD_of s 2 h2, getD_of s 3 h3]
end Go.Proofs.Ytbkfkbacejhpeaa
