/- Plain lemmas on decimal digits: what strconv.Itoa writes strconv.Atoi reads back, and what the document's own loop reads. No condition: nothing of the program stands in it. -/
import Derived.Test.YtjohbbaoaffgnaaDoorNumD
import Derived.Lib.AtoiAll
import Derived.Lib.ItoaNum
namespace Go.Proofs.YtjohbbaoaffgnaaDoor
open Go.RowKit

theorem decDigits_small {u : Nat} (h : u < 10) : Lib.decDigits u = [UInt8.ofNat (48 + u)] := by rw [Lib.decDigits, dif_pos h]
theorem decDigits_big {u : Nat} (h : ¬ u < 10) : Lib.decDigits u = Lib.decDigits (u / 10) ++ [UInt8.ofNat (48 + u % 10)] := by rw [Lib.decDigits, dif_neg h]
theorem ofNat48 {d : Nat} (h : d < 10) : (UInt8.ofNat (48 + d)).toNat = 48 + d := by rw [UInt8.toNat_ofNat']; omega
theorem parse_snoc : ∀ (l : List UInt8) (acc a : Nat) (c : UInt8), Lib.parseUint10 acc l = .ok a → Lib.parseUint10 acc (l ++ [c]) = Lib.parseUint10 a [c]
  | [], acc, a, c, h => by
    simp only [Lib.parseUint10] at h
    injection h with h
    subst h
    rfl
  | x :: r, acc, a, c, h => by
    simp only [Lib.parseUint10] at h
    simp only [List.cons_append]
    rw [Lib.parseUint10]
    split at h
    · rename_i h1
      rw [if_pos h1]
      split at h
      · cases h
      · rename_i h2
        rw [if_neg h2]
        split at h
        · cases h
        · rename_i h3
          rw [if_neg h3]
          exact parse_snoc r _ a c h
    · cases h
theorem parse_dec (u : Nat) (h : u < 18446744073709551616) : Lib.parseUint10 0 (Lib.decDigits u) = .ok u := by
  by_cases hu : u < 10
  · rw [decDigits_small hu]
    simp only [Lib.parseUint10, ofNat48 hu]
    rw [if_pos (by omega), if_neg (by omega), if_neg (by omega)]
    congr 1; omega
  · have hd : u % 10 < 10 := by omega
    rw [decDigits_big hu, parse_snoc _ _ _ _ (parse_dec (u / 10) (by omega))]
    simp only [Lib.parseUint10, ofNat48 hd]
    rw [if_pos (by omega), if_neg (by omega), if_neg (by omega)]
    congr 1; omega
termination_by u
theorem decDigits_ne (u : Nat) : Lib.decDigits u ≠ [] := by
  by_cases hu : u < 10
  · rw [decDigits_small hu]; simp
  · rw [decDigits_big hu]; simp
theorem decDigits_head (u : Nat) : ∃ c r, Lib.decDigits u = c :: r ∧ 48 ≤ c.toNat ∧ c.toNat ≤ 57 := by
  by_cases hu : u < 10
  · exact ⟨_, _, decDigits_small hu, by rw [ofNat48 hu]; omega, by rw [ofNat48 hu]; omega⟩
  · obtain ⟨c, r, e, h1, h2⟩ := decDigits_head (u / 10)
    exact ⟨c, r ++ [UInt8.ofNat (48 + u % 10)], by rw [decDigits_big hu, e]; rfl, h1, h2⟩
termination_by u
/-- What Itoa writes Atoi reads. -/
theorem atoi_itoa (n : Int) (h0 : -9223372036854775808 ≤ n) (h1 : n ≤ 9223372036854775807) : Lib.atoiAll (Lib.itoa n) = .ok n := by
  unfold Lib.itoa
  by_cases hn : n < 0
  · rw [if_pos hn]
    have e45 : (45 : UInt8).toNat = 45 := rfl
    simp only [Lib.atoiAll, e45]
    rw [if_pos (Or.inr True.intro)]
    have hp := parse_dec n.natAbs (by omega)
    unfold Lib.parseMag
    rw [if_neg (decDigits_ne _), hp]
    simp only
    rw [if_neg (by simp), if_neg (by simp; omega)]
    simp
    omega
  · rw [if_neg hn]
    obtain ⟨c, r, e, hc1, hc2⟩ := decDigits_head n.toNat
    have hp := parse_dec n.toNat (by omega)
    rw [e] at hp ⊢
    simp only [Lib.atoiAll]
    rw [if_neg (by omega)]
    unfold Lib.parseMag
    rw [if_neg (by simp), hp]
    simp only
    rw [if_neg (by omega), if_neg (by omega)]
    rw [if_neg (by omega)]
    congr 1; omega
/-- The number whose digits these are. -/
def decOf (l : List UInt8) : Option Int := match Lib.atoiAll l with
  | .ok v => if Lib.itoa v = l then some v else none
  | _ => none
theorem decOf_itoa (n : Int) (h0 : -9223372036854775808 ≤ n) (h1 : n ≤ 9223372036854775807) : decOf (Lib.itoa n) = some n := by
  unfold decOf; rw [atoi_itoa n h0 h1]; simp
theorem itoa_of_decOf {l : List UInt8} {v : Int} (h : decOf l = some v) : Lib.itoa v = l ∧ -9223372036854775808 ≤ v ∧ v ≤ 9223372036854775807 := by
  unfold decOf at h
  split at h
  · rename_i u hu
    split at h
    · rename_i hi
      injection h with h
      subst h
      exact ⟨hi, Lib.atoiAll_bounds hu⟩
    · cases h
  · cases h

/-- The digits of a number, none for 0. -/
def dd (u : Nat) : List UInt8 := if u = 0 then [] else Lib.decDigits u
theorem dig_dec (d : Nat) (h : d < 10) : dig d = UInt8.ofNat (48 + d) := by
  have : ∀ d, d < 10 → dig d = UInt8.ofNat (48 + d) := by decide
  exact this d h
theorem dd_zero : dd 0 = [] := rfl
theorem dd_step (u : Nat) (h : 0 < u) : dd u = dd (u / 10) ++ [dig (u % 10)] := by
  unfold dd
  rw [if_neg (by omega)]
  by_cases hu : u < 10
  · rw [if_pos (by omega), decDigits_small hu, dig_dec _ (by omega)]
    have : u % 10 = u := by omega
    rw [this]; rfl
  · rw [if_neg (by omega), decDigits_big hu, dig_dec _ (by omega)]
theorem itoa_zero : Lib.itoa 0 = [48] := by unfold Lib.itoa; rw [if_neg (by omega)]; exact decDigits_small (by decide)
theorem itoa_pos (n : Int) (h : 0 < n) : Lib.itoa n = dd n.toNat := by
  unfold Lib.itoa dd; rw [if_neg (by omega), if_neg (by omega)]
theorem itoa_neg' (n : Int) (h : n < 0) : Lib.itoa n = 45 :: dd (-n).toNat := by
  unfold Lib.itoa dd
  have e : n.natAbs = (-n).toNat := by omega
  rw [if_pos h, if_neg (by omega), e]
theorem decDigits_len : ∀ (k u : Nat), 1 ≤ k → u < 10 ^ k → (Lib.decDigits u).length ≤ k
  | 0, _, h, _ => absurd h (by omega)
  | k + 1, u, _, h => by
    by_cases hu : u < 10
    · rw [decDigits_small hu]; simp
    · rw [decDigits_big hu, List.length_append]
      rcases Nat.eq_zero_or_pos k with rfl | hk
      · simp at h; omega
      · have := decDigits_len k (u / 10) hk (by rw [Nat.pow_succ] at h; omega)
        simp; omega
theorem itoa_len (n : Int) (h0 : -9223372036854775808 ≤ n) (h1 : n ≤ 9223372036854775807) : (Lib.itoa n).length < 21 := by
  unfold Lib.itoa
  split
  · have := decDigits_len 19 n.natAbs (by omega) (by omega); simp; omega
  · have := decDigits_len 19 n.toNat (by omega) (by omega); omega
/-- A step of the document's loop. -/
def fstep (neg : Bool) (a : Int) (c : UInt8) : Int := wrap64 (wrap64 (a * 10) + (if neg then -((c.toNat : Int) - 48) else (c.toNat : Int) - 48))
def fval (neg : Bool) (l : List UInt8) : Int := l.foldl (fstep neg) 0
theorem fval_snoc (neg : Bool) (l : List UInt8) (c : UInt8) : fval neg (l ++ [c]) = fstep neg (fval neg l) c := by simp [fval, List.foldl_append]
theorem wrap64_bd (n : Int) : -9223372036854775808 ≤ wrap64 n ∧ wrap64 n ≤ 9223372036854775807 := by unfold wrap64; omega
theorem fval_bd (neg : Bool) (l : List UInt8) : -9223372036854775808 ≤ fval neg l ∧ fval neg l ≤ 9223372036854775807 := by
  rcases List.eq_nil_or_concat l with rfl | ⟨r, c, rfl⟩
  · exact ⟨by show _ ≤ (0 : Int); omega, by show (0 : Int) ≤ _; omega⟩
  · rw [List.concat_eq_append, fval_snoc]; exact wrap64_bd _
theorem dig_nat (d : Nat) (h : d < 10) : ((dig d).toNat : Int) = 48 + d := by rw [dig_dec d h, ofNat48 h]; omega
theorem fval_dd_pos (u : Nat) (h : u ≤ 9223372036854775807) : fval false (dd u) = u := by
  rcases Nat.eq_zero_or_pos u with rfl | hu
  · rfl
  · rw [dd_step u hu, fval_snoc, fval_dd_pos (u / 10) (by omega)]
    unfold fstep
    rw [dig_nat _ (by omega)]
    simp only [Bool.false_eq_true, if_false]
    unfold wrap64
    omega
termination_by u
theorem fval_dd_neg (u : Nat) (h : u ≤ 9223372036854775808) : fval true (dd u) = -(u : Int) := by
  rcases Nat.eq_zero_or_pos u with rfl | hu
  · rfl
  · rw [dd_step u hu, fval_snoc, fval_dd_neg (u / 10) (by omega)]
    unfold fstep
    rw [dig_nat _ (by omega)]
    simp only [if_true]
    unfold wrap64
    omega
termination_by u
/-- What the document's loop reads. -/
def fOf (l : List UInt8) : Int := if l.length < 21 then (if l.head? = some 45 then fval true (l.drop 1) else fval false l) else 0
theorem fOf_bd (l : List UInt8) : -9223372036854775808 ≤ fOf l ∧ fOf l ≤ 9223372036854775807 := by
  unfold fOf
  split
  · split
    · exact fval_bd _ _
    · exact fval_bd _ _
  · omega
theorem fOf_itoa (n : Int) (h0 : -9223372036854775808 ≤ n) (h1 : n ≤ 9223372036854775807) : fOf (Lib.itoa n) = n := by
  unfold fOf
  rw [if_pos (itoa_len n h0 h1)]
  rcases Int.lt_trichotomy n 0 with h | rfl | h
  · rw [itoa_neg' n h]
    rw [if_pos (by rfl)]
    show fval true (dd _) = n
    rw [fval_dd_neg _ (by omega)]; omega
  · rw [itoa_zero, if_neg (by decide)]
    show fstep false 0 48 = 0
    have e : ((48 : UInt8).toNat : Int) = 48 := rfl
    unfold fstep
    rw [e]
    simp only [Bool.false_eq_true, if_false]
    unfold wrap64
    omega
  · rw [itoa_pos n h]
    have hd : (dd n.toNat).head? ≠ some 45 := by
      unfold dd
      rw [if_neg (by omega)]
      obtain ⟨c, r, e, hc1, hc2⟩ := decDigits_head n.toNat
      rw [e]
      intro hh
      have : c = 45 := by simpa using hh
      subst this
      exact absurd hc1 (by decide)
    rw [if_neg hd, fval_dd_pos _ (by omega)]; omega
theorem decOf_fOf (l : List UInt8) : decOf l = if Lib.itoa (fOf l) = l then some (fOf l) else none := by
  split
  · rename_i h
    have hb := fOf_bd l
    have := decOf_itoa (fOf l) hb.1 hb.2
    rwa [h] at this
  · rename_i h
    cases hd : decOf l with
    | none => rfl
    | some v =>
      obtain ⟨h1, h2, h3⟩ := itoa_of_decOf hd
      have := fOf_itoa v h2 h3
      rw [h1] at this
      rw [this] at h
      exact absurd h1 h
end Go.Proofs.YtjohbbaoaffgnaaDoor
