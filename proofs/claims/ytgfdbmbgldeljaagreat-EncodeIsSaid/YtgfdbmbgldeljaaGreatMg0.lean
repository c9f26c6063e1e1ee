/- Plain functions and lemmas for layer 1 (big-endian bytes). No condition: nothing of the program stands in it. -/
import Derived.WalkKit
import Derived.Laws.BitsLemmas
import Derived.IntWalk
import Derived.WalkSpells
import Derived.Lib.Hide
import Derived.Below
import Derived.Deep.Draws
import Derived.Laws.Rows
import Derived.Laws.Tables
import Derived.Laws.CopyOwn
import Derived.Test.YtgfdbmbgldeljaaGreatProg
import Derived.Laws.IdiomStrings
import Derived.Deep.QuietTactic
import Derived.BigQuiet
namespace Go.Proofs.YtgfdbmbgldeljaaGreat
open Go.RowKit

/-- The byte of a number. -/
def b8 (x : Int) : UInt8 := UInt8.ofNat x.toNat
/-- The four bytes of the lowest 32 bits. -/
def big (n : Int) : List UInt8 := [b8 (n / 16777216 % 256), b8 (n / 65536 % 256), b8 (n / 256 % 256), b8 (n % 256)]
/-- The number of the first four bytes. -/
def frombig (l : List UInt8) : Int := ((l.getD 0 0).toNat : Int) * 16777216 + ((l.getD 1 0).toNat : Int) * 65536 + ((l.getD 2 0).toNat : Int) * 256 + ((l.getD 3 0).toNat : Int)
/-- The first k numbers of bytes, four each. -/
def numsB (l : List UInt8) (k : Nat) : List Int := (List.range k).map fun i => frombig (l.drop (4 * i))
def intVals (l : List Int) : List Value := l.map (Value.int .i64)

theorem numsB_length (l : List UInt8) (k : Nat) : (numsB l k).length = k := by simp [numsB]
theorem numsB_succ (l : List UInt8) (k : Nat) : numsB l (k + 1) = numsB l k ++ [frombig (l.drop (4 * k))] := by simp [numsB, List.range_succ]
theorem intVals_numsB_succ (l : List UInt8) (k : Nat) : intVals (numsB l (k + 1)) = intVals (numsB l k) ++ [.int .i64 (frombig (l.drop (4 * k)))] := by simp [intVals, numsB_succ]
theorem byte_lt (b : UInt8) : ((b.toNat : Nat) : Int) < 256 := by have := b.toNat_lt; omega
theorem frombig_bd (l : List UInt8) : 0 ≤ frombig l ∧ frombig l < 4294967296 := by
  unfold frombig
  have h0 := byte_lt (l.getD 0 0); have h1 := byte_lt (l.getD 1 0); have h2 := byte_lt (l.getD 2 0); have h3 := byte_lt (l.getD 3 0)
  omega
theorem b8_toNat (x : Int) (h0 : 0 ≤ x) (h1 : x < 256) : ((b8 x).toNat : Int) = x := by
  unfold b8
  rw [UInt8.toNat_ofNat', Nat.mod_eq_of_lt (by omega)]
  omega
theorem frombig_big (n : Int) (r : List UInt8) : frombig (big n ++ r) = n % 4294967296 := by
  unfold frombig big
  have e0 := b8_toNat (n / 16777216 % 256) (by omega) (by omega)
  have e1 := b8_toNat (n / 65536 % 256) (by omega) (by omega)
  have e2 := b8_toNat (n / 256 % 256) (by omega) (by omega)
  have e3 := b8_toNat (n % 256) (by omega) (by omega)
  show ((b8 (n / 16777216 % 256)).toNat : Int) * 16777216 + ((b8 (n / 65536 % 256)).toNat : Int) * 65536 + ((b8 (n / 256 % 256)).toNat : Int) * 256 + ((b8 (n % 256)).toNat : Int) = _
  rw [e0, e1, e2, e3]
  omega
theorem i64_or_join (i : Nat) (x y : Int) (hx₀ : 0 ≤ x) (hx : x % 2 ^ i = 0) (hx₁ : x < 2 ^ 62) (hy₀ : 0 ≤ y) (hy : y < 2 ^ i) (hy₁ : y < 2 ^ 62) : bits .or .i64 x y = x + y :=
  bits_join .i64 62 (by decide) (fun n h0 h1 => by rw [IntKind.wrap_i64]; omega) i x y hx₀ hx hx₁ hy₀ hy hy₁
theorem w64 {n : Int} (h0 : 0 ≤ n) (h1 : n < 4611686018427387904) : wrap64 n = n := by unfold wrap64; omega
/-- Four bytes joined by shifts. -/
theorem join4 (a b c d : Int) (ha : 0 ≤ a ∧ a < 256) (hb : 0 ≤ b ∧ b < 256) (hc : 0 ≤ c ∧ c < 256) (hd : 0 ≤ d ∧ d < 256) :
    bits .or .i64 (bits .or .i64 (bits .or .i64 (wrap64 (wrap64 a * 16777216)) (wrap64 (wrap64 b * 65536))) (wrap64 (wrap64 c * 256))) (wrap64 d) = a * 16777216 + b * 65536 + c * 256 + d := by
  rw [w64 ha.1 (by omega), w64 hb.1 (by omega), w64 hc.1 (by omega), w64 hd.1 (by omega), w64 (n := a * 16777216) (by omega) (by omega), w64 (n := b * 65536) (by omega) (by omega), w64 (n := c * 256) (by omega) (by omega)]
  rw [i64_or_join 24 (a * 16777216) (b * 65536) (by omega) (by omega) (by omega) (by omega) (by omega) (by omega)]
  rw [i64_or_join 16 (a * 16777216 + b * 65536) (c * 256) (by omega) (by omega) (by omega) (by omega) (by omega) (by omega)]
  rw [i64_or_join 8 (a * 16777216 + b * 65536 + c * 256) d (by omega) (by omega) (by omega) (by omega) (by omega) (by omega)]
theorem sum4 (a b c d : Int) (ha : 0 ≤ a ∧ a < 256) (hb : 0 ≤ b ∧ b < 256) (hc : 0 ≤ c ∧ c < 256) (hd : 0 ≤ d ∧ d < 256) :
    wrap64 (wrap64 (wrap64 (wrap64 (wrap64 a * 16777216) + wrap64 (wrap64 b * 65536)) + wrap64 (wrap64 c * 256)) + wrap64 d) = a * 16777216 + b * 65536 + c * 256 + d := by
  rw [w64 ha.1 (by omega), w64 hb.1 (by omega), w64 hc.1 (by omega), w64 hd.1 (by omega), w64 (n := a * 16777216) (by omega) (by omega), w64 (n := b * 65536) (by omega) (by omega), w64 (n := c * 256) (by omega) (by omega)]
  rw [w64 (n := a * 16777216 + b * 65536) (by omega) (by omega), w64 (n := a * 16777216 + b * 65536 + c * 256) (by omega) (by omega), w64 (by omega) (by omega)]
theorem byte_in (b : UInt8) : 0 ≤ ((b.toNat : Nat) : Int) ∧ ((b.toNat : Nat) : Int) < 256 := ⟨by omega, byte_lt b⟩
theorem getD_of (s : ByteArray) (i : Nat) (h : i < s.size) : s.data.toList.getD i 0 = s[i] := by
  have h' : i < s.data.toList.length := h
  rw [List.getD_eq_getElem?_getD, List.getElem?_eq_getElem h']
  rfl
theorem frombig_at (s : ByteArray) (h0 : 0 < s.size) (h1 : 1 < s.size) (h2 : 2 < s.size) (h3 : 3 < s.size) :
    frombig s.data.toList = ((s[0].toNat : Nat) : Int) * (16777216 : Int) + ((s[1].toNat : Nat) : Int) * (65536 : Int) + ((s[2].toNat : Nat) : Int) * (256 : Int) + ((s[3].toNat : Nat) : Int) := by
  unfold frombig
  rw [getD_of s 0 h0, getD_of s 1 h1, getD_of s 2 h2, getD_of s 3 h3]
end Go.Proofs.YtgfdbmbgldeljaaGreat

/- Arrays of numbers that lie in blocks of the call's own. No condition: nothing of the program stands in it. -/
namespace Go.Proofs.YtgfdbmbgldeljaaGreat
open Go.RowKit

theorem below_drewN (w : World) (n : Nat) : Below w.heap.size w (w.drewN n) := ⟨rfl, rfl, rfl, Nat.le_refl _, fun _ _ => rfl⟩
/-- Numbers as cells. -/
def nums (k : IntKind) (l : List Nat) : Array Value := (l.map fun (n : Nat) => Value.int k (n : Int)).toArray
theorem nums_size (k : IntKind) (l : List Nat) : (nums k l).size = l.length := by simp [nums]
theorem nums_one (k : IntKind) (l : List Nat) : (nums k l).all (·.oneCell') = true := by
  unfold nums
  rw [Array.all_eq_true_iff_forall_mem]
  intro v hv
  simp at hv
  obtain ⟨n, _, rfl⟩ := hv
  rfl
theorem nums_at (k : IntKind) (l : List Nat) {j : Nat} (h : j < l.length) : (nums k l)[j]? = some (.int k ((l.getD j 0 : Nat) : Int)) := by
  simp [nums, h]
theorem nums_set (k : IntKind) (l : List Nat) (j n : Nat) : (nums k l).setIfInBounds j (.int k (n : Int)) = nums k (l.set j n) := by
  unfold nums
  apply Array.ext'
  simp [List.map_set]

/-- Block g of the world is just these cells, none of them frozen. -/
def Arr (w : World) (g : Nat) (t : TypeId) (cs : Array Value) : Prop := w.heap[g]? = some (.cells cs t (0, 0))
section
variable {w w' : World} {g : Nat} {t : TypeId} {cs : Array Value}
theorem Arr.lt (h : Arr w g t cs) : g < w.heap.size := (Array.getElem?_eq_some_iff.1 h).1
theorem Arr.new (w : World) (t : TypeId) (cs : Array Value) : Arr (w.alloc (.cells cs t)) w.heap.size t cs := by
  show (w.heap.push _)[w.heap.size]? = _
  simp
theorem Arr.alloc (h : Arr w g t cs) (o : Obj) : Arr (w.alloc o) g t cs := by
  have := h.lt
  unfold Arr at h ⊢
  show (w.heap.push _)[g]? = _
  rw [Array.getElem?_push, if_neg (by omega), h]
theorem Arr.new1 (w : World) (o : Obj) (t : TypeId) (cs : Array Value) : Arr ((w.alloc o).alloc (.cells cs t)) (w.heap.size + 1) t cs := by
  have := Arr.new (w.alloc o) t cs
  rwa [show (w.alloc o).heap.size = w.heap.size + 1 from Array.size_push _] at this
theorem Arr.new2 (w : World) (o o' : Obj) (t : TypeId) (cs : Array Value) : Arr (((w.alloc o).alloc o').alloc (.cells cs t)) (w.heap.size + 1 + 1) t cs := by
  have := Arr.new1 (w.alloc o) o' t cs
  rwa [show (w.alloc o).heap.size = w.heap.size + 1 from Array.size_push _] at this
theorem Arr.new1r (w : World) (o : Obj) (g : Nat) (r : Array Value) (t : TypeId) (cs : Array Value) : Arr (((w.alloc o).setRow g r).alloc (.cells cs t)) (w.heap.size + 1) t cs := by
  have := Arr.new ((w.alloc o).setRow g r) t cs
  rwa [size_setRow, show (w.alloc o).heap.size = w.heap.size + 1 from Array.size_push _] at this
theorem Arr.drewN (h : Arr w g t cs) (n : Nat) : Arr (w.drewN n) g t cs := h
theorem Arr.below {B : Nat} (h : Arr w g t cs) (hb : Below B w w') (hg : g < B) : Arr w' g t cs := (hb.block g hg).trans h
theorem Arr.far (h : Arr w g t cs) {g' j : Nat} (hne : g ≠ g') (v : Value) : Arr (w.setCell ⟨g', j, none⟩ v) g t cs := by
  unfold Arr at h ⊢
  simp [World.setCell, Array.getElem?_modify, h]
  intro e
  exact absurd e.symm hne
theorem Arr.put (h : Arr w g t cs) (j : Nat) (v : Value) : Arr (w.setCell ⟨g, j, none⟩ v) g t (cs.setIfInBounds j v) := by
  unfold Arr at h ⊢
  simp [World.setCell, Array.getElem?_modify, h]
theorem Arr.row (h : Arr w g t cs) (cs' : Array Value) : Arr (w.setRow g cs') g t cs' := setRow_heap w g cs cs' t _ h
theorem Arr.rowFar (h : Arr w g t cs) {g' : Nat} (hne : g ≠ g') (cs' : Array Value) : Arr (w.setRow g' cs') g t cs := (setRow_other w g' g cs' (by omega)).trans h
theorem Arr.cell (h : Arr w g t cs) (j : Nat) : w.cell? ⟨g, j, none⟩ = cs[j]? := cell_of_row w g j cs t (0, 0) h
theorem Arr.frozen (h : Arr w g t cs) (j : Nat) : w.frozen? ⟨g, j, none⟩ = false := by
  unfold Arr at h
  simp [World.frozen?, h]
end
/-- A number of an array. -/
theorem Arr.num {w : World} {g : Nat} {t : TypeId} {k : IntKind} {l : List Nat} (h : Arr w g t (nums k l)) {j : Nat} (hj : j < l.length) {x : Nat} (hx : l.getD j 0 = x) :
    w.cell? ⟨g, j, none⟩ = some (.int k (x : Int)) := by rw [h.cell, nums_at k l hj, hx]
/-- A number is put into an array. -/
theorem Arr.numPut {w : World} {g : Nat} {t : TypeId} {k : IntKind} {l : List Nat} (h : Arr w g t (nums k l)) (j n : Nat) : Arr (w.setCell ⟨g, j, none⟩ (.int k (n : Int))) g t (nums k (l.set j n)) := by
  have := h.put j (.int k (n : Int))
  rwa [nums_set] at this
theorem Arr.numNext {w : World} {g : Nat} {t : TypeId} {k : IntKind} {l l' : List Nat} (h : Arr w g t (nums k l)) (j n : Nat) (v : Int) (hv : v = (n : Int)) (hl : l.set j n = l') : Arr (w.setCell ⟨g, j, none⟩ (.int k v)) g t (nums k l') := by
  subst hv
  subst hl
  exact h.numPut j n
end Go.Proofs.YtgfdbmbgldeljaaGreat

/- What num.Big, num.FromBig, num.Up and the document's own Big, FromBig, Up return, for every argument; strings of at most 2^63 - 1 bytes. -/
namespace Go.Proofs.YtgfdbmbgldeljaaGreat
open Go.RowKit

theorem ownsRow_below {w w' : World} {base : Nat} {e : TypeId} {size : Nat} {v : Value} {n : Nat} {xs : List Value} (h : w.ownsRow base e size v n xs) (hb : Below w.heap.size w w') : w'.ownsRow base e size v n xs :=
  h.kept (row := none) ⟨hb.os, hb.tape, hb.output, hb.size, fun k hk _ => hb.block k hk⟩ (by cases hv : v.ownBlock <;> simp)

theorem conv4 (w : World) (a b c d : Int) :
    (convert 58 9 (.slice (some ⟨w.heap.size, 0, none⟩) 4 4)).run Tryz.prog (w.alloc (.cells #[.int .u8 a, .int .u8 b, .int .u8 c, .int .u8 d] 5)) =
      .ok (.string ⟨#[b8 a, b8 b, b8 c, b8 d]⟩) (w.alloc (.cells #[.int .u8 a, .int .u8 b, .int .u8 c, .int .u8 d] 5)) := by
  rw [run_convert_bytes_string _ 58 9 5 _ 4 4 Tryz.underlying58 Tryz.underlying5 Tryz.underlying9]
  have hl := run_loadCells_list (P := Tryz.prog) (w.alloc (.cells #[.int .u8 a, .int .u8 b, .int .u8 c, .int .u8 d] 5)) ⟨w.heap.size, 0, none⟩ ([a, b, c, d].map (Value.int .u8)) (fun j v hj => by
    have h4 : j < 4 := by have := (List.getElem?_eq_some_iff.1 hj).1; simpa using this
    have e : (⟨w.heap.size, 0, none⟩ : Addr).add j = ⟨w.heap.size, j, none⟩ := by unfold Addr.add; split <;> simp_all
    rw [e, World.cell?_alloc_mark, ← hj]
    match j, h4 with
    | 0, _ => rfl
    | 1, _ => rfl
    | 2, _ => rfl
    | 3, _ => rfl)
  rw [run_bytesToString _ _ 4 4 [a, b, c, d] hl]
  rfl

set_option maxHeartbeats 400000 in
theorem big_any (n : Int) (w : World) :
    Calls Tryz.prog 39 #[.int .i64 n] w fun e w' => e = .returned (.string ⟨(big n).toArray⟩) ∧ Below w.heap.size w w' := by
  have hc := conv4 w (n / 16777216 % 256) (n / 65536 % 256) (n / 256 % 256) (n % 256)
  go_enter Tryz.func39, Tryz.ntmps39
  go_wp2
  go_ret
  exact ⟨rfl, (Below.refl _ _).alloc (Nat.le_refl _) _⟩

set_option maxHeartbeats 400000 in
theorem refbig_any (n : Int) (w : World) :
    Calls Tryz.prog 47 #[.int .i64 n] w fun e w' => e = .returned (.string ⟨(big n).toArray⟩) ∧ Below w.heap.size w w' := by
  have e1 : n % 4294967296 / 16777216 = n / 16777216 % 256 := by omega
  have e2 : n % 4294967296 / 65536 % 256 = n / 65536 % 256 := by omega
  have e3 : n % 4294967296 / 256 % 256 = n / 256 % 256 := by omega
  have hc := conv4 w (n / 16777216 % 256) (n / 65536 % 256) (n / 256 % 256) (n % 256)
  rw [← e1, ← e2, ← e3] at hc
  have E : ∃ r : List UInt8, r = big n ∧ r = [b8 (n % 4294967296 / 16777216), b8 (n % 4294967296 / 65536 % 256), b8 (n % 4294967296 / 256 % 256), b8 (n % 256)] := ⟨_, rfl, by rw [e1, e2, e3]; rfl⟩
  obtain ⟨r, E1, E2⟩ := E
  rw [← E1]
  have H := Lib.hid E2
  clear e1 e2 e3 E1 E2
  go_enter Tryz.func47, Tryz.ntmps47
  go_wp2
  go_ret
  exact ⟨by rw [H.out]; rfl, (Below.refl _ _).alloc (Nat.le_refl _) _⟩

set_option maxHeartbeats 400000 in
theorem frombig_yes (s : ByteArray) (w : World) (h : 4 ≤ s.size) (hm : s.size ≤ maxLen) :
    Calls Tryz.prog 71 #[.string s] w fun e w' => e = .returned (.tuple #[.int .i64 (frombig s.data.toList), .bool true]) ∧ Below w.heap.size w w' := by
  unfold maxLen at hm
  have i0 : 0 < s.size := by omega
  have i1 : 1 < s.size := by omega
  have i2 : 2 < s.size := by omega
  have i3 : 3 < s.size := by omega
  have j1 : (1 : Int) < s.size := by omega
  have j2 : (2 : Int) < s.size := by omega
  have j3 : (3 : Int) < s.size := by omega
  have E := join4 _ _ _ _ (byte_in s[0]) (byte_in s[1]) (byte_in s[2]) (byte_in s[3])
  rw [← frombig_at s i0 i1 i2 i3] at E
  have H := Lib.hid E
  clear E
  go_enter Tryz.func71, Tryz.ntmps71
  go_wp2
  go_quiet (fail)
  go_wp2
  go_ret2
  rw [← H.out]
  exact ⟨rfl, below_drewN _ _⟩

set_option maxHeartbeats 400000 in
theorem frombig_no (s : ByteArray) (w : World) (h : s.size < 4) :
    Calls Tryz.prog 71 #[.string s] w fun e w' => e = .returned (.tuple #[.int .i64 0, .bool false]) ∧ w = w' := by
  go_enter Tryz.func71, Tryz.ntmps71
  go_wp2
  go_ret2
  exact ⟨rfl, rfl⟩

def upOf (n : Int) : Int := if n < 0 ∨ 9007199254740992 < n then n else (n + 3) / 4 * 4

set_option maxHeartbeats 400000 in
theorem up_any (n : Int) (w : World) :
    Calls Tryz.prog 42 #[.int .i64 n] w fun e w' => e = .returned (.int .i64 (upOf n)) ∧ w = w' := by
  by_cases h : n < 0 ∨ 9007199254740992 < n
  · have E : upOf n = n := if_pos h
    rw [E]
    have H := Lib.hid E
    clear E H
    rcases h with h | h
    · go_enter Tryz.func42, Tryz.ntmps42
      go_wp2
      go_ret
      exact ⟨rfl, rfl⟩
    · have h' : ¬ n < 0 := by omega
      go_enter Tryz.func42, Tryz.ntmps42
      go_wp2
      go_ret
      exact ⟨rfl, rfl⟩
  · have E : upOf n = (n + 3) / 4 * 4 := if_neg h
    rw [E]
    have h1 : 0 ≤ n := by omega
    have h2 : n ≤ 9007199254740992 := by omega
    clear E h
    go_enter Tryz.func42, Tryz.ntmps42
    go_wp2
    go_ret
    exact ⟨rfl, rfl⟩

set_option maxHeartbeats 400000 in
theorem refup_any (n : Int) (w : World) :
    Calls Tryz.prog 22 #[.int .i64 n] w fun e w' => e = .returned (.int .i64 (upOf n)) ∧ w = w' := by
  by_cases h : n < 0 ∨ 9007199254740992 < n
  · have E : upOf n = n := if_pos h
    rw [E]
    clear E
    rcases h with h | h
    · go_enter Tryz.func22, Tryz.ntmps22
      go_wp2
      go_ret
      exact ⟨rfl, rfl⟩
    · have h' : ¬ n < 0 := by omega
      go_enter Tryz.func22, Tryz.ntmps22
      go_wp2
      go_ret
      exact ⟨rfl, rfl⟩
  · have E : upOf n = (n + 3) / 4 * 4 := if_neg h
    have h1 : 0 ≤ n := by omega
    have h2 : n ≤ 9007199254740992 := by omega
    have H := Lib.hid E
    clear E h
    go_enter Tryz.func22, Tryz.ntmps22
    go_wp2
    go_loop [0] (fun v => ∃ m : Int, n ≤ m ∧ m ≤ (n + 3) / 4 * 4 ∧ v = .int .i64 m) (fun v => ((n + 3) / 4 * 4 - intOf v).toNat)
    case atStart => exact ⟨n, by omega, by omega, rfl⟩
    case round =>
      obtain ⟨m, hm1, hm2, rfl⟩ := hrel
      have b1 : 0 ≤ m := by omega
      have b2 : m ≤ 9007199254740995 := by omega
      by_cases hz : m % 4 = 0
      · have hz' : ((m % 4 : Int) != 0) = false := by simp [hz]
        have em : upOf n = m := by rw [H.out]; omega
        have HM := Lib.hid em
        have HZ := Lib.hid hz
        clear em hz H
        go_wp2
        go_ret
        exact ⟨by rw [HM.out]; rfl, rfl⟩
      · have hz' : ((m % 4 : Int) != 0) = true := by simp [hz]
        go_wp2
        go_round
        case rel => exact ⟨m + 1, by omega, by omega, rfl⟩
        case measure => simp [intOf]; omega
end Go.Proofs.YtgfdbmbgldeljaaGreat

/- A slice of numbers that came in; numbers' bytes one behind the other; what the document's own Bigs returns for every slice of at most 2^40 numbers. -/
namespace Go.Proofs.YtgfdbmbgldeljaaGreat
open Go.RowKit

/-- The slice at A reads as the numbers l, in blocks below B. -/
def RdI (B : Nat) (w : World) (A : Option Addr) (l : List Int) : Prop :=
  l = [] ∨ ∃ b off, A = some ⟨b, off, none⟩ ∧ b < B ∧ ∀ k, k < l.length → w.cell? ⟨b, off + k, none⟩ = some (.int .i64 (l.getD k 0))
theorem RdI.at_ {B : Nat} {w : World} {A : Option Addr} {l : List Int} (h : RdI B w A l) {k : Nat} (hk : k < l.length) :
    ∃ b off x, A = some ⟨b, off, none⟩ ∧ b < B ∧ w.cell? ⟨b, off + k, none⟩ = some (.int .i64 x) ∧ Hid (l.getD k 0 = x) := by
  rcases h with rfl | ⟨b, off, rfl, hb, hc⟩
  · simp at hk
  · exact ⟨b, off, _, rfl, hb, hc k hk, rfl⟩
theorem RdI.below {B : Nat} {w w' : World} {A : Option Addr} {l : List Int} (h : RdI B w A l) (hb : Below B w w') : RdI B w' A l := by
  rcases h with h | ⟨b, off, rfl, hlt, hc⟩
  · exact .inl h
  · exact .inr ⟨b, off, rfl, hlt, fun k hk => (hb.cell (p := ⟨b, off + k, none⟩) hlt).trans (hc k hk)⟩
theorem RdI.mono {B B' : Nat} {w : World} {A : Option Addr} {l : List Int} (h : RdI B w A l) (hB : B ≤ B') : RdI B' w A l := by
  rcases h with h | ⟨b, off, rfl, hlt, hc⟩
  · exact .inl h
  · exact .inr ⟨b, off, rfl, by omega, hc⟩

def bigs (l : List Int) (k : Nat) : List UInt8 := (l.take k).flatMap big
theorem bigs_zero (l : List Int) : bigs l 0 = [] := rfl
theorem bigs_succ (l : List Int) (k : Nat) (h : k < l.length) : bigs l (k + 1) = bigs l k ++ big (l.getD k 0) := by
  unfold bigs
  rw [List.take_succ_eq_append_getElem h, List.flatMap_append]
  simp [List.getD, List.getElem?_eq_getElem h]
theorem big_length (n : Int) : (big n).length = 4 := rfl
theorem bigs_length (l : List Int) : ∀ k, k ≤ l.length → (bigs l k).length = 4 * k
  | 0, _ => rfl
  | k + 1, h => by rw [bigs_succ l k (by omega), List.length_append, bigs_length l k (by omega), big_length]; omega
theorem size_mk (l : List UInt8) : (ByteArray.mk l.toArray).size = l.length := by show l.toArray.size = _; simp

set_option maxHeartbeats 800000 in
set_option maxRecDepth 100000 in
theorem refbigs_any (A : Option Addr) (cap : Nat) (l : List Int) (w : World) (hl : l.length ≤ 1099511627776) (hr : RdI w.heap.size w A l) :
    Calls Tryz.prog 28 #[.slice A l.length cap] w fun e w' => e = .returned (.string ⟨(bigs l l.length).toArray⟩) ∧ Below w.heap.size w w' := by
  go_enter Tryz.func28, Tryz.ntmps28
  go_wp2
  go_loopw [3, 4] (fun s i wr => ∃ k : Nat, k ≤ l.length ∧ i = .int .i64 k ∧ s = .string ⟨(bigs l k).toArray⟩ ∧ Below w.heap.size w wr)
    (fun _ i _ => l.length - (intOf i).toNat)
  case atStart => exact ⟨0, Nat.zero_le _, rfl, rfl, Below.refl _ _⟩
  case round =>
    obtain ⟨k, hk, rfl, rfl, hb⟩ := hrel
    have hsz := hb.size
    by_cases hlt : k < l.length
    · obtain ⟨b, off, x, rfl, hbl, hc, HX⟩ := (hr.below hb).at_ hlt
      have hadd : ∀ W, (Op.stringOp .add ⟨(bigs l k).toArray⟩ ⟨(big x).toArray⟩).run Tryz.prog W = .ok (.string ⟨(bigs l (k + 1)).toArray⟩) W := fun W => by
        rw [run_string_add_sum W _ _ (by rw [size_mk, size_mk, bigs_length l k hk, big_length]; omega), ByteArray.mk_append_mk, bigs_succ l k hlt, HX.out]
      go_wp2_with fail
      refine (refbig_any _ _).mono ?_
      rintro e w1 ⟨rfl, hb1⟩
      have hbb : Below w.heap.size w w1 := hb.trans (hb1.mono (by omega))
      have ha1 := hadd w1
      clear hb hb1 hc hadd
      go_wp2
      go_roundw
      case rel => exact ⟨k + 1, by omega, by go_num, rfl, hbb⟩
      case measure => simp [intOf]; omega
    · have hkl : k = l.length := by omega
      subst hkl
      go_wp2
      go_ret
      exact ⟨rfl, hb⟩
end Go.Proofs.YtgfdbmbgldeljaaGreat
