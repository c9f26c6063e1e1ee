/- A flash without a fuse, and calls of nor at one whose state is written out. No condition. -/
import Derived.Test.YtidnbpehhpakcaaNorG
namespace Go.Proofs.Ytidnbpehhpakcaa
open Go.RowKit

theorem prS_free (c : St) (hon : c.on = true) (hf : c.fuse = none) (a : Nat) (s : ByteArray) (h0 : 0 < s.size) (h32 : s.size ≤ 32 - a % 32) (ha : a + s.size ≤ 24576) :
    prS c a s = (⟨true, c.ops + 1, none, mapAt c.B a s.size (prF s)⟩, 0) := by
  unfold prS
  rw [if_neg (by rw [hon]; decide), if_neg (by omega), if_neg (by rw [thr_of (by omega)]; decide), if_neg (by rw [Int.toNat_natCast]; omega), Int.toNat_natCast]
  unfold oper
  rw [hf, hon]
theorem erS_free (c : St) (hon : c.on = true) (hf : c.fuse = none) (x : Nat) (h : x < 48) : erS c x = (⟨true, c.ops + 1, none, mapAt c.B (x * 512) 512 erF⟩, 0) := by
  unfold erS
  rw [if_neg (by rw [hon]; decide), if_neg (by omega), Int.toNat_natCast]
  unfold oper
  rw [hf, hon]
theorem erS_torn (c : St) (hon : c.on = true) (t : ByteArray) (hf : c.fuse = some (0, t)) (ht : t.size ≠ 0) (x : Nat) (h : x < 48) : erS c x = (⟨false, c.ops + 1, none, mapAt c.B (x * 512) 512 fun i x => erT i x (cyc t i)⟩, 4) := by
  unfold erS
  rw [if_neg (by rw [hon]; decide), if_neg (by omega), Int.toNat_natCast]
  unfold oper
  rw [hf]
  simp only [if_neg ht]
theorem rdS_free (c : St) (hon : c.on = true) (a n : Nat) (h : a + n ≤ 24576) : rdS c a n = (⟨((c.B.drop a).take n).toArray⟩, 0) := by
  unfold rdS
  rw [if_neg (by rw [hon]; decide), if_neg (by rw [thr_of (by omega)]; decide), Int.toNat_natCast, Int.toNat_natCast]
theorem take_getD (B : List UInt8) (a n : Nat) (h : a + n ≤ B.length) : (B.drop a).take n = (List.range n).map fun i => B.getD (a + i) 0 := by
  refine List.ext_getElem (by simp; omega) fun j h1 h2 => ?_
  have hj : j < n := by simpa using h2
  simp only [List.getElem_take, List.getElem_drop, List.getElem_map, List.getElem_range]
  rw [getD_lt _ (by omega)]
theorem st0_getD (j : Nat) (h : j < 24576) : st0.B.getD j 0 = 255 := by
  rw [getD_lt _ (by show j < (List.replicate _ _).length; rw [List.length_replicate]; exact h)]
  exact List.getElem_replicate _
section
variable (g : Nat) (W : World) (B : List UInt8) (ops : Nat)
theorem prog_st (a n : Nat) (s : ByteArray) (hW : RN W g ⟨true, ops, none, B⟩) (ho : ops < 4611686018427387904) (hn : s.size = n) (h0 : 0 < n) (h32 : n ≤ 32 - a % 32) (ha : a + n ≤ 24576) (B' : List UInt8) (hB : mapAt B a n (prF s) = B') :
    Calls Try.prog 64 #[.pointer (some ⟨g, 0, none⟩), .int .i64 (a : Int), .string s] W fun e w' => e = .returned (.int .i64 0) ∧ RN w' g ⟨true, ops + 1, none, B'⟩ ∧ W.grownBy w' (some g) := by
  subst hn
  subst hB
  have := program_any g ⟨true, ops, none, B⟩ (a : Int) s W hW ho
  rw [prS_free ⟨true, ops, none, B⟩ rfl rfl a s h0 h32 ha] at this
  exact this
theorem read_st (a n : Nat) (l : List UInt8) (hW : RN W g ⟨true, ops, none, B⟩) (h : a + n ≤ 24576) (hl : (B.drop a).take n = l) :
    Calls Try.prog 42 #[.pointer (some ⟨g, 0, none⟩), .int .i64 (a : Int), .int .i64 (n : Int)] W fun e w' => e = .returned (.tuple #[.string ⟨l.toArray⟩, .int .i64 0]) ∧ W = w' := by
  subst hl
  have := read_any g ⟨true, ops, none, B⟩ (a : Int) (n : Int) W hW
  rw [rdS_free ⟨true, ops, none, B⟩ rfl a n h] at this
  exact this
theorem tear_st (t : ByteArray) (ht : t.size ≠ 0) (hW : RN W g ⟨true, ops, some (0, t), B⟩) (ho : ops < 4611686018427387904) (B' : List UInt8) (hB : mapAt B (0 * 512) 512 (fun i x => erT i x (cyc t i)) = B') :
    Calls Try.prog 60 #[.pointer (some ⟨g, 0, none⟩), .int .i64 0] W fun e w' => e = .returned (.int .i64 4) ∧ RN w' g ⟨false, ops + 1, none, B'⟩ ∧ W.grownBy w' (some g) := by
  subst hB
  have := erase_any g ⟨true, ops, some (0, t), B⟩ ((0 : Nat) : Int) W hW ho
  rw [erS_torn ⟨true, ops, some (0, t), B⟩ rfl t rfl ht 0 (by decide)] at this
  exact this
end
end Go.Proofs.Ytidnbpehhpakcaa
