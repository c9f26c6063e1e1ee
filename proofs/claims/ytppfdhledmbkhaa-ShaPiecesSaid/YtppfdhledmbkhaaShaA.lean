/- What RotateLeft32, turned, shifted, choice, majority and the document's own turn return: conditions: 32-bit numbers, rotated by 1 to 31 bits, shifted by up to 31. -/
import Derived.Test.YtppfdhledmbkhaaProg
import Derived.Test.YtppfdhledmbkhaaShaPlain
import Derived.WalkKit
import Derived.WalkSpells
import Derived.Lib.Hide
import Derived.IntWalk
import Derived.Deep.QuietTactic
import Derived.BigQuiet
import Derived.Below
namespace Go.Proofs.Ytppfdhledmbkhaa
open Go.RowKit

theorem u32_not (e : Nat) (he : e < 4294967296) : bits .xor .u32 IntKind.u32.max (e : Int) = ((4294967295 - e : Nat) : Int) := by
  have h := u32_xor_nat 4294967295 e (by omega) he
  rw [show IntKind.u32.max = ((4294967295 : Nat) : Int) from rfl, h]
  congr 1
  apply Nat.eq_of_testBit_eq
  intro i
  rw [Nat.testBit_xor, tb_not he, show (4294967295 : Nat) = 2 ^ 32 - 1 from rfl, Nat.testBit_two_pow_sub_one]
  by_cases hi : i < 32
  · simp [hi]
  · have : e.testBit i = false := Nat.testBit_lt_two_pow (Nat.lt_of_lt_of_le he (show 2 ^ 32 ≤ 2 ^ i from Nat.pow_le_pow_right (by omega) (by omega)))
    simp [hi, this]
theorem cast_div (x k : Nat) : ((x / 2 ^ k : Nat) : Int) = (x : Int) / 2 ^ k := by rw [Int.natCast_ediv, Int.natCast_pow]; rfl
theorem cast_mul (x k : Nat) : ((x * 2 ^ k % 4294967296 : Nat) : Int) = (x : Int) * 2 ^ k % 4294967296 := by rw [Int.natCast_emod, Int.natCast_mul, Int.natCast_pow]; rfl
theorem rot_le (x k : Nat) (hx : x < 4294967296) : bits .or .u32 ((x : Int) / 2 ^ k) ((x : Int) * 2 ^ (32 - k) % 4294967296) = ((rot x k : Nat) : Int) := by
  have h := u32_or_nat (x / 2 ^ k) (x * 2 ^ (32 - k) % 4294967296) (div_lt32 k hx) (Nat.mod_lt _ (by omega))
  rw [cast_div, cast_mul] at h
  exact h
theorem rot_re (x k j : Nat) (hj : k + j = 32) (hx : x < 4294967296) : bits .or .u32 ((x : Int) * 2 ^ j % 4294967296) ((x : Int) / 2 ^ (32 - j)) = ((rot x k : Nat) : Int) := by
  have h := u32_or_nat (x * 2 ^ j % 4294967296) (x / 2 ^ (32 - j)) (Nat.mod_lt _ (by omega)) (div_lt32 _ hx)
  rw [cast_div, cast_mul] at h
  rw [h, Nat.or_comm, show 32 - j = k by omega, show j = 32 - k by omega]
  rfl
theorem ad_cast (a b : Nat) : ((a : Int) + (b : Int)) % 4294967296 = ((ad a b : Nat) : Int) := by unfold ad; omega
/-- The two xors of rotS, as the walk spells them; of rot3. -/
theorem rotS_cast (x i j k : Nat) (hx : x < 4294967296) : ∃ q : Nat, bits .xor .u32 ((rot x i : Nat) : Int) ((rot x j : Nat) : Int) = (q : Int) ∧ bits .xor .u32 (q : Int) ((x : Int) / 2 ^ k) = ((rotS x i j k : Nat) : Int) := by
  refine ⟨rot x i ^^^ rot x j, u32_xor_nat _ _ (rot_lt i hx) (rot_lt j hx), ?_⟩
  have e := u32_xor_nat (rot x i ^^^ rot x j) (x / 2 ^ k) (xor_lt32 (rot_lt i hx) (rot_lt j hx)) (div_lt32 k hx)
  rw [cast_div] at e
  exact e
theorem rot3_cast (x i j k : Nat) (hx : x < 4294967296) : ∃ q : Nat, bits .xor .u32 ((rot x i : Nat) : Int) ((rot x j : Nat) : Int) = (q : Int) ∧ bits .xor .u32 (q : Int) ((rot x k : Nat) : Int) = ((rot3 x i j k : Nat) : Int) :=
  ⟨rot x i ^^^ rot x j, u32_xor_nat _ _ (rot_lt i hx) (rot_lt j hx), u32_xor_nat (rot x i ^^^ rot x j) (rot x k) (xor_lt32 (rot_lt i hx) (rot_lt j hx)) (rot_lt k hx)⟩
theorem low5 : ∀ k : Nat, k < 32 → 0 < k → bits .and .u64 (IntKind.u64.wrap (-(k : Int))) 31 = ((32 - k : Nat) : Int) := by decide

set_option maxHeartbeats 400000 in
theorem choice_any (e f g : Nat) (w : World) (he : e < 4294967296) (hf : f < 4294967296) (hg : g < 4294967296) :
    Calls Try.prog 29 #[.int .u32 (e : Int), .int .u32 (f : Int), .int .u32 (g : Int)] w fun r w' => r = .returned (.int .u32 ((chs e f g : Nat) : Int)) ∧ w = w' := by
  have hs : IntKind.u32.signed = false := rfl
  have e1 := u32_not e he
  have e2 := u32_and_nat e f he hf
  have e3 := u32_and_nat (4294967295 - e) g (by omega) hg
  have e4 := u32_or_nat (e &&& f) ((4294967295 - e) &&& g) (and_lt32 he) (and_lt32 (by omega))
  have E : e &&& f ||| (4294967295 - e) &&& g = chs e f g := rfl
  rw [E] at e4
  generalize chs e f g = r at *
  generalize e &&& f = p at *
  generalize (4294967295 - e) &&& g = q at *
  generalize 4294967295 - e = m at *
  clear E
  go_enter Try.func29, Try.ntmps29
  go_wp2
  go_ret
  exact ⟨rfl, rfl⟩

set_option maxHeartbeats 400000 in
theorem majority_any (a b c : Nat) (w : World) (ha : a < 4294967296) (hb : b < 4294967296) (hc : c < 4294967296) :
    Calls Try.prog 30 #[.int .u32 (a : Int), .int .u32 (b : Int), .int .u32 (c : Int)] w fun r w' => r = .returned (.int .u32 ((maj a b c : Nat) : Int)) ∧ w = w' := by
  have e1 := u32_and_nat a b ha hb
  have e2 := u32_and_nat a c ha hc
  have e3 := u32_and_nat b c hb hc
  have e4 := u32_or_nat (a &&& b) (a &&& c) (and_lt32 ha) (and_lt32 ha)
  have e5 := u32_or_nat (a &&& b ||| a &&& c) (b &&& c) (or_lt32 (and_lt32 ha) (and_lt32 ha)) (and_lt32 hb)
  have E : a &&& b ||| a &&& c ||| b &&& c = maj a b c := rfl
  rw [E] at e5
  generalize maj a b c = r at *
  generalize a &&& b ||| a &&& c = s at *
  generalize a &&& b = p at *
  generalize a &&& c = q at *
  generalize b &&& c = t at *
  clear E
  go_enter Try.func30, Try.ntmps30
  go_wp2
  go_ret
  exact ⟨rfl, rfl⟩

set_option maxHeartbeats 400000 in
theorem rotl_any (x k : Nat) (w : World) (hx : x < 4294967296) (h0 : 0 < k) (hk : k < 32) :
    Calls Try.prog 38 #[.int .u32 (x : Int), .int .i64 (-(k : Int))] w fun r w' => r = .returned (.int .u32 ((rot x k : Nat) : Int)) ∧ w = w' := by
  have e1 := low5 k hk h0
  obtain ⟨j, hj⟩ : ∃ j, k + j = 32 := ⟨32 - k, by omega⟩
  have e2 := rot_re x k j hj hx
  rw [show 32 - k = j by omega] at e1
  have h1 : (0 : Int) ≤ j := by omega
  have h2 : (j : Int) ≤ 32 := by omega
  have h3 : j ≤ 32 := by omega
  generalize rot x k = r at *
  clear hj h0 hk
  go_enter Try.func38, Try.ntmps38
  go_wp2
  go_ret
  exact ⟨rfl, rfl⟩

theorem rotl_quiet (x k : Nat) (w : World) (n : Nat) (hx : x < 4294967296) (h0 : 0 < k) (hk : k < 32) :
    Calls Try.prog 38 #[.int .u32 (x : Int), .int .i64 (-(k : Int))] (w.drewN n) fun e w' => e = .returned (.int .u32 ((rot x k : Nat) : Int)) ∧ ∃ m, w' = w.drewN m :=
  (rotl_any x k _ hx h0 hk).mono fun _ _ ⟨he, hw⟩ => ⟨he, n, hw.symm⟩

set_option maxHeartbeats 400000 in
theorem turn_any (x k : Nat) (w : World) (hx : x < 4294967296) (h0 : 0 < k) (hk : k < 32) :
    Calls Try.prog 20 #[.int .u32 (x : Int), .int .i64 (k : Int)] w fun r w' => r = .returned (.int .u32 ((rot x k : Nat) : Int)) ∧ ∃ n, w' = w.drewN n := by
  have e2 := rot_le x k hx
  generalize rot x k = r at *
  go_enter Try.func20, Try.ntmps20
  go_wp2
  go_quiet (fail)
  go_wp2
  go_ret
  exact ⟨rfl, nq, rfl⟩

set_option maxHeartbeats 400000 in
theorem turned_any (x i j k : Nat) (w : World) (hx : x < 4294967296) (i0 : 0 < i) (i1 : i < 32) (j0 : 0 < j) (j1 : j < 32) (k0 : 0 < k) (k1 : k < 32) :
    Calls Try.prog 28 #[.int .u32 (x : Int), .int .i64 (i : Int), .int .i64 (j : Int), .int .i64 (k : Int)] w fun r w' => r = .returned (.int .u32 ((rot3 x i j k : Nat) : Int)) ∧ w = w' := by
  have c1 := Lib.hid (rotl_any x i w hx i0 i1)
  have c2 := Lib.hid (rotl_any x j w hx j0 j1)
  have c3 := Lib.hid (rotl_any x k w hx k0 k1)
  have e1 := u32_xor_nat (rot x i) (rot x j) (rot_lt i hx) (rot_lt j hx)
  have e2 := u32_xor_nat (rot x i ^^^ rot x j) (rot x k) (xor_lt32 (rot_lt i hx) (rot_lt j hx)) (rot_lt k hx)
  have E : rot x i ^^^ rot x j ^^^ rot x k = rot3 x i j k := rfl
  rw [E] at e2
  generalize rot3 x i j k = r at *
  generalize rot x i ^^^ rot x j = q at *
  clear E
  go_enter Try.func28, Try.ntmps28
  go_wp2_with fail
  refine c1.out.mono ?_
  rintro e w1 ⟨rfl, rfl⟩
  go_wp2_with fail
  refine c2.out.mono ?_
  rintro e w1 ⟨rfl, rfl⟩
  go_wp2_with fail
  refine c3.out.mono ?_
  rintro e w1 ⟨rfl, rfl⟩
  go_wp2
  go_ret
  exact ⟨rfl, rfl⟩

set_option maxHeartbeats 400000 in
theorem shifted_any (x i j k : Nat) (w : World) (hx : x < 4294967296) (i0 : 0 < i) (i1 : i < 32) (j0 : 0 < j) (j1 : j < 32) (k0 : 0 < k) (k1 : k < 32) :
    Calls Try.prog 37 #[.int .u32 (x : Int), .int .i64 (i : Int), .int .i64 (j : Int), .int .i64 (k : Int)] w fun r w' => r = .returned (.int .u32 ((rotS x i j k : Nat) : Int)) ∧ ∃ n, w' = w.drewN n := by
  have e1 := u32_xor_nat (rot x i) (rot x j) (rot_lt i hx) (rot_lt j hx)
  have e2 := u32_xor_nat (rot x i ^^^ rot x j) (x / 2 ^ k) (xor_lt32 (rot_lt i hx) (rot_lt j hx)) (div_lt32 k hx)
  have E : rot x i ^^^ rot x j ^^^ x / 2 ^ k = rotS x i j k := rfl
  rw [E] at e2
  rw [cast_div] at e2
  generalize rotS x i j k = r at *
  generalize rot x i ^^^ rot x j = q at *
  clear E
  go_enter Try.func37, Try.ntmps37
  go_wp2
  go_quiet ((go_at_call 38; exact rotl_quiet _ _ _ _ hx (by omega) (by omega)))
  go_wp2
  go_ret
  exact ⟨rfl, nq, rfl⟩
theorem turn_quiet (x k : Nat) (w : World) (n : Nat) (hx : x < 4294967296) (h0 : 0 < k) (hk : k < 32) :
    Calls Try.prog 20 #[.int .u32 (x : Int), .int .i64 (k : Int)] (w.drewN n) fun e w' => e = .returned (.int .u32 ((rot x k : Nat) : Int)) ∧ ∃ m, w' = w.drewN m :=
  Calls.quiet_of (turn_any x k _ hx h0 hk)
theorem shifted_quiet (x i j k : Nat) (w : World) (n : Nat) (hx : x < 4294967296) (i0 : 0 < i) (i1 : i < 32) (j0 : 0 < j) (j1 : j < 32) (k0 : 0 < k) (k1 : k < 32) :
    Calls Try.prog 37 #[.int .u32 (x : Int), .int .i64 (i : Int), .int .i64 (j : Int), .int .i64 (k : Int)] (w.drewN n) fun e w' => e = .returned (.int .u32 ((rotS x i j k : Nat) : Int)) ∧ ∃ m, w' = w.drewN m :=
  Calls.quiet_of (shifted_any x i j k _ hx i0 i1 j0 j1 k0 k1)
theorem turned_quiet (x i j k : Nat) (w : World) (n : Nat) (hx : x < 4294967296) (i0 : 0 < i) (i1 : i < 32) (j0 : 0 < j) (j1 : j < 32) (k0 : 0 < k) (k1 : k < 32) :
    Calls Try.prog 28 #[.int .u32 (x : Int), .int .i64 (i : Int), .int .i64 (j : Int), .int .i64 (k : Int)] (w.drewN n) fun e w' => e = .returned (.int .u32 ((rot3 x i j k : Nat) : Int)) ∧ ∃ m, w' = w.drewN m :=
  (turned_any x i j k _ hx i0 i1 j0 j1 k0 k1).mono fun _ _ ⟨he, hw⟩ => ⟨he, n, hw.symm⟩
theorem choice_quiet (e f g : Nat) (w : World) (n : Nat) (he : e < 4294967296) (hf : f < 4294967296) (hg : g < 4294967296) :
    Calls Try.prog 29 #[.int .u32 (e : Int), .int .u32 (f : Int), .int .u32 (g : Int)] (w.drewN n) fun r w' => r = .returned (.int .u32 ((chs e f g : Nat) : Int)) ∧ ∃ m, w' = w.drewN m :=
  (choice_any e f g _ he hf hg).mono fun _ _ ⟨he, hw⟩ => ⟨he, n, hw.symm⟩
end Go.Proofs.Ytppfdhledmbkhaa
