/- Plain functions and lemmas for layer 2 (the 32-bit checksum): steps, bytes, bursts of changed bits. No condition: nothing of the program stands in it. -/
import Derived.WalkKit
import Derived.Laws.BitsLemmas
import Derived.Laws.BitsAllLaws
namespace Go.Proofs.Ytbkfkbacejhpeaa
open Go.RowKit

/-- One step of a number. -/
def st (n : Nat) : Nat := if n % 2 = 1 then n / 2 ^^^ 3988292384 else n / 2
/-- So many steps. -/
def sts : Nat → Nat → Nat
  | 0, n => n
  | k + 1, n => st (sts k n)
/-- A byte is taken in. -/
def take1 (n : Nat) (b : UInt8) : Nat := sts 8 (n ^^^ b.toNat)
/-- Bytes are taken in. -/
def takes (n : Nat) (l : List UInt8) : Nat := l.foldl take1 n
/-- All 32 bits inverted. -/
def inv (n : Nat) : Nat := n ^^^ 4294967295
/-- The sum of bytes behind others whose sum is n. -/
def more (n : Nat) (l : List UInt8) : Nat := inv (takes (inv n) l)

theorem st_lt {n : Nat} (h : n < 4294967296) : st n < 4294967296 := by
  unfold st
  split
  · have : n / 2 ^^^ 3988292384 < 2 ^ 32 := Nat.xor_lt_two_pow (by omega) (by omega)
    omega
  · omega
theorem sts_lt {n : Nat} (k : Nat) (h : n < 4294967296) : sts k n < 4294967296 := by
  induction k with
  | zero => exact h
  | succ k ih => exact st_lt ih
theorem xor_lt32 {a b : Nat} (ha : a < 4294967296) (hb : b < 4294967296) : a ^^^ b < 4294967296 := by
  have : a ^^^ b < 2 ^ 32 := Nat.xor_lt_two_pow (by omega) (by omega)
  omega
theorem byte32 (b : UInt8) : b.toNat < 4294967296 := by have := b.toNat_lt; omega
theorem take1_lt {n : Nat} (b : UInt8) (h : n < 4294967296) : take1 n b < 4294967296 := sts_lt 8 (xor_lt32 h (byte32 b))
theorem takes_lt (l : List UInt8) : ∀ {n : Nat}, n < 4294967296 → takes n l < 4294967296 := by
  induction l with
  | nil => intro n h; exact h
  | cons b l ih => intro n h; exact ih (take1_lt b h)
theorem inv_lt {n : Nat} (h : n < 4294967296) : inv n < 4294967296 := xor_lt32 h (by omega)
theorem more_lt {n : Nat} (l : List UInt8) (h : n < 4294967296) : more n l < 4294967296 := inv_lt (takes_lt l (inv_lt h))
theorem inv_inv (n : Nat) : inv (inv n) = n := by unfold inv; rw [Nat.xor_assoc, Nat.xor_self, Nat.xor_zero]
theorem inv_inj {a b : Nat} (h : inv a = inv b) : a = b := by rw [← inv_inv a, h, inv_inv]
theorem takes_append (n : Nat) (l m : List UInt8) : takes n (l ++ m) = takes (takes n l) m := by simp [takes]
theorem takes_snoc (n : Nat) (l : List UInt8) (b : UInt8) : takes n (l ++ [b]) = take1 (takes n l) b := by simp [takes]
theorem more_nil (n : Nat) : more n [] = n := inv_inv n
theorem more_append (n : Nat) (l m : List UInt8) : more n (l ++ m) = more (more n l) m := by unfold more; rw [takes_append, inv_inv]

/- A step is linear. -/
theorem st_xor (a b : Nat) : st (a ^^^ b) = st a ^^^ st b := by
  unfold st
  rw [Nat.xor_div_two]
  have h := @Nat.xor_mod_two_eq_one a b
  by_cases ha : a % 2 = 1 <;> by_cases hb : b % 2 = 1
  · have : ¬ ((a ^^^ b) % 2 = 1) := by rw [h]; simp [ha, hb]
    rw [if_neg this, if_pos ha, if_pos hb]
    have e : a / 2 ^^^ 3988292384 ^^^ (b / 2 ^^^ 3988292384) = a / 2 ^^^ b / 2 ^^^ (3988292384 ^^^ 3988292384) := by ac_rfl
    rw [e, Nat.xor_self, Nat.xor_zero]
  · have : (a ^^^ b) % 2 = 1 := by rw [h]; simp [ha, hb]
    rw [if_pos this, if_pos ha, if_neg hb]
    ac_rfl
  · have : (a ^^^ b) % 2 = 1 := by rw [h]; simp [ha, hb]
    rw [if_pos this, if_neg ha, if_pos hb]
    ac_rfl
  · have : ¬ ((a ^^^ b) % 2 = 1) := by rw [h]; simp [ha, hb]
    rw [if_neg this, if_neg ha, if_neg hb]
theorem sts_xor (k a b : Nat) : sts k (a ^^^ b) = sts k a ^^^ sts k b := by
  induction k with
  | zero => rfl
  | succ k ih => show st _ = _; rw [ih, st_xor]; rfl
theorem st_two (m : Nat) : st (2 * m) = m := by unfold st; rw [if_neg (by omega)]; omega
theorem sts8_256 (m : Nat) : sts 8 (256 * m) = m := by
  have e : 256 * m = 2 * (2 * (2 * (2 * (2 * (2 * (2 * (2 * m))))))) := by omega
  rw [e]
  simp only [sts, st_two]
theorem split8 (n : Nat) : n = 256 * (n / 256) ^^^ n % 256 := by
  apply Nat.eq_of_testBit_eq
  intro j
  have e : 256 * (n / 256) = (n / 2 ^ 8) * 2 ^ 8 := by omega
  have e2 : n % 256 = n % 2 ^ 8 := by omega
  rw [Nat.testBit_xor, e, e2, Nat.testBit_mul_two_pow, Nat.testBit_mod_two_pow, Nat.testBit_div_two_pow]
  by_cases h : j < 8
  · simp [h, Nat.not_le.2 h]
  · have h8 : 8 ≤ j := by omega
    have e3 : j - 8 + 8 = j := by omega
    simp [h, h8]
/-- The way by entries: the upper bits move down, the lowest eight go through eight steps. -/
theorem sts8_split (n : Nat) : sts 8 n = n / 256 ^^^ sts 8 (n % 256) := by
  have h := sts_xor 8 (256 * (n / 256)) (n % 256)
  rw [← split8, sts8_256] at h
  exact h
theorem take1_entry (n : Nat) (b : UInt8) : take1 n b = n / 256 ^^^ sts 8 ((n ^^^ b.toNat) % 256) := by
  unfold take1
  rw [sts8_split]
  have e : (n ^^^ b.toNat) / 256 = n / 256 := by
    have hb : b.toNat / 2 ^ 8 = 0 := by have := b.toNat_lt; omega
    have h := @Nat.xor_div_two_pow n b.toNat 8
    rw [hb, Nat.xor_zero] at h
    exact h
  rw [e]

/- No step loses a bit. -/
theorem st_zero {n : Nat} (h : n < 4294967296) (h0 : st n = 0) : n = 0 := by
  unfold st at h0
  split at h0
  · exfalso
    have e : n / 2 = 3988292384 := by
      have := congrArg (· ^^^ 3988292384) h0
      simpa [Nat.xor_assoc] using this
    omega
  · omega
theorem sts_zero {n : Nat} (k : Nat) (h : n < 4294967296) (h0 : sts k n = 0) : n = 0 := by
  induction k with
  | zero => exact h0
  | succ k ih => exact ih (st_zero (sts_lt k h) h0)
theorem take1_xor (n d : Nat) (b : UInt8) (x : UInt8) : take1 (n ^^^ d) (b ^^^ x) = take1 n b ^^^ sts 8 (d ^^^ x.toNat) := by
  unfold take1
  rw [UInt8.toNat_xor, ← sts_xor]
  congr 1
  ac_rfl
theorem takes_xor (l : List UInt8) : ∀ n d : Nat, takes (n ^^^ d) l = takes n l ^^^ sts (8 * l.length) d := by
  induction l with
  | nil => intro n d; rfl
  | cons b l ih =>
    intro n d
    have h : take1 (n ^^^ d) b = take1 n b ^^^ sts 8 d := by
      have := take1_xor n d b 0
      simpa using this
    show takes (take1 (n ^^^ d) b) l = _
    rw [h, ih]
    have e : ∀ k m, sts k (sts m d) = sts (k + m) d := by
      intro k m
      induction k with
      | zero => rw [Nat.zero_add]; rfl
      | succ k ik => rw [Nat.succ_add]; show st _ = st _; rw [ik]
    rw [e]
    have e2 : 8 * l.length + 8 = 8 * (b :: l).length := by simp; omega
    rw [e2]
    rfl
/-- The bytes of a 32-bit number, the lowest first. -/
def b8c (x : Nat) : UInt8 := UInt8.ofNat x
theorem b8c_toNat (x : Nat) : (b8c x).toNat = x % 256 := by unfold b8c; rw [UInt8.toNat_ofNat']
def fold4 (X : Nat) : Nat := sts 8 (sts 8 (sts 8 (sts 8 (0 ^^^ (b8c X).toNat) ^^^ (b8c (X / 256)).toNat) ^^^ (b8c (X / 65536)).toNat) ^^^ (b8c (X / 16777216)).toNat)
theorem up8 (d Y : Nat) : sts 8 (d ^^^ Y) = sts 8 (d ^^^ Y % 256) ^^^ Y / 256 := by
  rw [sts_xor 8 d Y, sts_xor 8 d (Y % 256), sts8_split Y]
  ac_rfl
theorem sts_add (k m d : Nat) : sts k (sts m d) = sts (k + m) d := by
  induction k with
  | zero => rw [Nat.zero_add]; rfl
  | succ k ik => rw [Nat.succ_add]; show st _ = st _; rw [ik]
theorem fold4_eq {X : Nat} (h : X < 4294967296) : fold4 X = sts 32 X := by
  unfold fold4
  rw [b8c_toNat, b8c_toNat, b8c_toNat, b8c_toNat]
  have e1 : X / 65536 = X / 256 / 256 := by omega
  have e2 : X / 16777216 = X / 256 / 256 / 256 := by omega
  rw [e1, e2]
  have a0 := up8 0 X
  have a1 := up8 (sts 8 (0 ^^^ X % 256)) (X / 256)
  have a2 := up8 (sts 8 (sts 8 (0 ^^^ X % 256) ^^^ X / 256 % 256)) (X / 256 / 256)
  have a3 := up8 (sts 8 (sts 8 (sts 8 (0 ^^^ X % 256) ^^^ X / 256 % 256) ^^^ X / 256 / 256 % 256)) (X / 256 / 256 / 256)
  have z : X / 256 / 256 / 256 / 256 = 0 := by omega
  rw [z, Nat.xor_zero] at a3
  rw [← a3, ← a2, ← a1, ← a0, Nat.zero_xor, sts_add, sts_add, sts_add]
theorem fold4_zero {X : Nat} (h : X < 4294967296) (h0 : fold4 X = 0) : X = 0 := by
  rw [fold4_eq h] at h0
  exact sts_zero 32 h h0
theorem fold4_lt (X : Nat) : fold4 X < 4294967296 := by
  unfold fold4
  exact sts_lt 8 (xor_lt32 (sts_lt 8 (xor_lt32 (sts_lt 8 (xor_lt32 (sts_lt 8 (xor_lt32 (by omega) (byte32 _))) (byte32 _))) (byte32 _))) (byte32 _))
/-- Four bytes changed by a 32-bit number that is not 0: the register is another one behind them, and stays so. -/
theorem burst (n : Nat) (p q : List UInt8) (a b c d : UInt8) {X : Nat} (h : X < 4294967296) (h0 : X ≠ 0) :
    takes n (p ++ [a ^^^ b8c X, b ^^^ b8c (X / 256), c ^^^ b8c (X / 65536), d ^^^ b8c (X / 16777216)] ++ q) ≠ takes n (p ++ [a, b, c, d] ++ q) := by
  intro he
  rw [takes_append, takes_append, takes_append, takes_append] at he
  generalize takes n p = m at he
  have e4 : takes m [a ^^^ b8c X, b ^^^ b8c (X / 256), c ^^^ b8c (X / 65536), d ^^^ b8c (X / 16777216)] = takes m [a, b, c, d] ^^^ fold4 X := by
    show take1 (take1 (take1 (take1 m (a ^^^ b8c X)) (b ^^^ b8c (X / 256))) (c ^^^ b8c (X / 65536))) (d ^^^ b8c (X / 16777216)) = _
    have z : m = m ^^^ 0 := by rw [Nat.xor_zero]
    have s0 := take1_xor m 0 a (b8c X)
    rw [← z] at s0
    rw [s0, take1_xor, take1_xor, take1_xor]
    rfl
  rw [e4, takes_xor] at he
  have hz : sts (8 * q.length) (fold4 X) = 0 := by
    generalize takes (takes m [a, b, c, d]) q = u at he
    have := congrArg (u ^^^ ·) he
    simpa [← Nat.xor_assoc] using this
  exact h0 (fold4_zero h (sts_zero _ (fold4_lt X) hz))
theorem more_burst (n : Nat) (p q : List UInt8) (a b c d : UInt8) {X : Nat} (h : X < 4294967296) (h0 : X ≠ 0) :
    more n (p ++ [a ^^^ b8c X, b ^^^ b8c (X / 256), c ^^^ b8c (X / 65536), d ^^^ b8c (X / 16777216)] ++ q) ≠ more n (p ++ [a, b, c, d] ++ q) :=
  fun he => burst (inv n) p q a b c d h h0 (inv_inj he)

/- The machine's own operations on 64-bit numbers. -/
theorem i64_wrap_small {n : Int} (h0 : 0 ≤ n) (h1 : n < 9223372036854775808) : IntKind.i64.wrap n = n := by rw [IntKind.wrap_i64]; omega
theorem ofInt_i64 (a : Nat) (ha : a < 9223372036854775808) : (BitVec.ofInt 64 (a : Int)).toNat = a := by
  rw [BitVec.ofInt_natCast, BitVec.toNat_ofNat]; exact Nat.mod_eq_of_lt (by omega)
theorem i64_xor_nat (a b : Nat) (ha : a < 4294967296) (hb : b < 4294967296) : bits .xor .i64 (a : Int) (b : Int) = ((a ^^^ b : Nat) : Int) := by
  have hx := xor_lt32 ha hb
  show IntKind.i64.wrap ((BitVec.ofInt 64 (a : Int) ^^^ BitVec.ofInt 64 (b : Int)).toNat : Int) = _
  rw [BitVec.toNat_xor, ofInt_i64 a (by omega), ofInt_i64 b (by omega)]
  exact i64_wrap_small (by omega) (by omega)
theorem ofInt_any (n : Int) : (BitVec.ofInt 64 n).toNat = (n % 18446744073709551616).toNat := by
  rw [BitVec.toNat_ofInt]; rfl
theorem i64_and_low (n : Int) : bits .and .i64 n 255 = ((n % 256).toNat : Int) ∧ bits .and .i64 n 4294967295 = ((n % 4294967296).toNat : Int) := by
  constructor
  · show IntKind.i64.wrap ((BitVec.ofInt 64 n &&& BitVec.ofInt 64 ((255 : Nat) : Int)).toNat : Int) = _
    rw [BitVec.toNat_and, ofInt_any, ofInt_i64 255 (by omega), show (255 : Nat) = 2 ^ 8 - 1 from rfl, Nat.and_two_pow_sub_one_eq_mod]
    rw [i64_wrap_small (by omega) (by omega)]
    omega
  · show IntKind.i64.wrap ((BitVec.ofInt 64 n &&& BitVec.ofInt 64 ((4294967295 : Nat) : Int)).toNat : Int) = _
    rw [BitVec.toNat_and, ofInt_any, ofInt_i64 4294967295 (by omega), show (4294967295 : Nat) = 2 ^ 32 - 1 from rfl, Nat.and_two_pow_sub_one_eq_mod]
    rw [i64_wrap_small (by omega) (by omega)]
    omega
theorem i64_and_one (n : Nat) (h : n < 4294967296) : bits .and .i64 (n : Int) 1 = ((n % 2 : Nat) : Int) := by
  show IntKind.i64.wrap ((BitVec.ofInt 64 (n : Int) &&& BitVec.ofInt 64 ((1 : Nat) : Int)).toNat : Int) = _
  rw [BitVec.toNat_and, ofInt_i64 n (by omega), ofInt_i64 1 (by omega), show (1 : Nat) = 2 ^ 1 - 1 from rfl, Nat.and_two_pow_sub_one_eq_mod]
  exact i64_wrap_small (by omega) (by omega)
end Go.Proofs.Ytbkfkbacejhpeaa
