/- The law RecordBack: whatever comes in it returns true. Conditions: the contracts of package record; numbers of 64 and of 32 bits; strings that fit. -/
import Derived.Test.YtbkfkbacejhpeaaReC
import Derived.Test.YtbkfkbacejhpeaaRowB
import Derived.RegionTactic
import Derived.BigRegion
namespace Go.Proofs.Ytbkfkbacejhpeaa
open Go.RowKit

theorem sz_alloc20b (w : World) (o : Obj) : (w.alloc o).heap.size = w.heap.size + 1 := Array.size_push _
theorem xor_ne20 {a b : UInt8} (h : b.toNat ≠ 0) : a ≠ a ^^^ b := by
  intro e
  have e2 : a ^^^ a = a ^^^ (a ^^^ b) := congrArg (a ^^^ ·) e
  rw [← UInt8.xor_assoc, UInt8.xor_self, UInt8.zero_xor] at e2
  exact h (by rw [← e2]; rfl)
theorem mod_k (t m : Nat) (h : 0 < m) (ht : t < 65536) : ∃ k : Nat, (wrap64 (t : Int)).tmod (m : Int) = (k : Int) ∧ k < m := ⟨t % m, by rw [IntWalk.wrap64_in _ (by omega), Int.tmod_eq_emod_of_nonneg (by omega)]; exact (Int.natCast_emod t m).symm, Nat.mod_lt _ h⟩

set_option maxHeartbeats 6400000 in
set_option maxRecDepth 100000 in
theorem recordBack_small (M : RecordMust) (n : Int) (d s : ByteArray) (X : Nat) (w : World) (hn : I64 n) (_hX : X < 4294967296) (q : 496 < d.size ∨ 100 < s.size ∨ n < 0 ∨ 4294967295 < n) :
    Calls Try.prog 4 #[.agg #[.int .i64 n, .string d], .string s, .int .u32 (X : Int)] w fun e w' => e = .returned (.bool true) ∧ Below w.heap.size w w' := by
  have HAW := Lib.hid (awake20 M)
  obtain ⟨W1, hW1⟩ : ∃ W1, W1 = w.alloc (.cells #[.int .i64 n, .string d] 23) := ⟨_, rfl⟩
  obtain ⟨g3, hg3⟩ : ∃ g3, g3 = w.heap.size := ⟨_, rfl⟩
  have HB : Hid (Below w.heap.size w W1) := by rw [hW1]; exact (Below.refl _ _).alloc (Nat.le_refl _) _
  have hA3 : Arr W1 g3 23 #[.int .i64 n, .string d] := by rw [hW1, hg3]; exact Arr.new w _ _
  have HA3 := Lib.hid hA3
  have c30 : W1.cell? ⟨g3, 0, none⟩ = some (.int .i64 n) := hA3.cell 0
  have c31 : W1.cell? ⟨g3, 1, none⟩ = some (.string d) := hA3.cell 1
  clear hA3
  obtain ⟨ta, eat⟩ : ∃ a : Nat, (X : Int) % 65536 = (a : Int) := ⟨X % 65536, by omega⟩
  obtain ⟨bt, ebt⟩ : ∃ b : Nat, (X : Int) / 65536 % 256 = (b : Int) := ⟨X / 65536 % 256, by omega⟩
  by_cases q1 : 496 < d.size
  · have d1 : decide ((496 : Int) < (d.size : Int)) = true := decide_eq_true (by omega)
    clear M q q1 hn _hX
    go_enter Try.func4, Try.ntmps4
    go_upto_region 2 with fail
    change Code.wp _ _ _ _ (w.alloc (.cells #[.int .i64 n, .string d] 23))
    rw [eat, ebt, ← hW1, ← hg3]
    clear hW1 hg3 eat ebt
    go_wp2_with fail
    refine (HAW.out _).mono ?_
    rintro e w9 ⟨rfl, hb⟩
    have HBZ := Lib.hid (HB.out.trans (hb.mono HB.out.size))
    clear hb
    go_wp2
    go_ret
    exact ⟨rfl, HBZ.out⟩
  have d1 : decide ((496 : Int) < (d.size : Int)) = false := decide_eq_false (by omega)
  by_cases q2 : 100 < s.size
  · have d2 : decide ((100 : Int) < (s.size : Int)) = true := decide_eq_true (by omega)
    clear M q q1 q2 hn _hX
    go_enter Try.func4, Try.ntmps4
    go_upto_region 2 with fail
    change Code.wp _ _ _ _ (w.alloc (.cells #[.int .i64 n, .string d] 23))
    rw [eat, ebt, ← hW1, ← hg3]
    clear hW1 hg3 eat ebt
    go_wp2_with fail
    refine (HAW.out _).mono ?_
    rintro e w9 ⟨rfl, hb⟩
    have HBZ := Lib.hid (HB.out.trans (hb.mono HB.out.size))
    clear hb
    go_wp2
    go_ret
    exact ⟨rfl, HBZ.out⟩
  have d2 : decide ((100 : Int) < (s.size : Int)) = false := decide_eq_false (by omega)
  have hBO := fun W => M.body ⟨n, d⟩ W hn (by show d.size ≤ _; omega)
  have q3 : n < 0 ∨ 4294967295 < n := by omega
  have eB : body20 ⟨n, d⟩ = (⟨#[]⟩, 1) := by unfold body20; rw [if_pos q3]
  rw [eB] at hBO
  have HBO : Hid (∀ W, Calls Try.prog 7 #[.agg #[.int .i64 n, .string d]] W fun e w' => e = .returned (.tuple #[.string ⟨#[]⟩, .int .i64 1]) ∧ Below W.heap.size W w') := hBO
  by_cases q4 : n < 0
  · have d3 : decide (n < 0) = true := decide_eq_true q4
    clear M hBO q q1 q2 q3 q4 eB hn _hX
    go_enter Try.func4, Try.ntmps4
    go_upto_region 2 with fail
    change Code.wp _ _ _ _ (w.alloc (.cells #[.int .i64 n, .string d] 23))
    rw [eat, ebt, ← hW1, ← hg3]
    clear hW1 hg3 eat ebt
    go_wp2_with fail
    refine (HBO.out _).mono ?_
    rintro e w2 ⟨rfl, hb⟩
    have HA3 := Lib.hid (HA3.out.below hb HA3.out.lt)
    have HB := Lib.hid (HB.out.trans (hb.mono HB.out.size))
    have c30 : w2.cell? ⟨g3, 0, none⟩ = some (.int .i64 n) := HA3.out.cell 0
    have c31 : w2.cell? ⟨g3, 1, none⟩ = some (.string d) := HA3.out.cell 1
    clear hb HBO
    go_wp2_with fail
    refine (HAW.out _).mono ?_
    rintro e w9 ⟨rfl, hb⟩
    have HBZ := Lib.hid (HB.out.trans (hb.mono HB.out.size))
    clear hb
    go_wp2
    go_ret
    exact ⟨rfl, HBZ.out⟩
  · have d3 : decide (n < 0) = false := decide_eq_false q4
    have d4 : decide ((4294967295 : Int) < n) = true := decide_eq_true (by omega)
    clear M hBO q q1 q2 q3 q4 eB hn _hX
    go_enter Try.func4, Try.ntmps4
    go_upto_region 2 with fail
    change Code.wp _ _ _ _ (w.alloc (.cells #[.int .i64 n, .string d] 23))
    rw [eat, ebt, ← hW1, ← hg3]
    clear hW1 hg3 eat ebt
    go_wp2_with fail
    refine (HBO.out _).mono ?_
    rintro e w2 ⟨rfl, hb⟩
    have HA3 := Lib.hid (HA3.out.below hb HA3.out.lt)
    have HB := Lib.hid (HB.out.trans (hb.mono HB.out.size))
    have c30 : w2.cell? ⟨g3, 0, none⟩ = some (.int .i64 n) := HA3.out.cell 0
    have c31 : w2.cell? ⟨g3, 1, none⟩ = some (.string d) := HA3.out.cell 1
    clear hb HBO
    go_wp2_with fail
    refine (HAW.out _).mono ?_
    rintro e w9 ⟨rfl, hb⟩
    have HBZ := Lib.hid (HB.out.trans (hb.mono HB.out.size))
    clear hb
    go_wp2
    go_ret
    exact ⟨rfl, HBZ.out⟩
set_option maxHeartbeats 6400000 in
set_option maxRecDepth 100000 in
theorem recordBack_zero (M : RecordMust) (n : Int) (d s : ByteArray) (X : Nat) (w : World) (hn : I64 n) (_hX : X < 4294967296) (q3 : 0 ≤ n ∧ n ≤ 4294967295) (qd : d.size ≤ 496) (qs : s.size ≤ 100) (q5 : X / 65536 % 256 = 0) :
    Calls Try.prog 4 #[.agg #[.int .i64 n, .string d], .string s, .int .u32 (X : Int)] w fun e w' => e = .returned (.bool true) ∧ Below w.heap.size w w' := by
  have HAW := Lib.hid (awake20 M)
  obtain ⟨W1, hW1⟩ : ∃ W1, W1 = w.alloc (.cells #[.int .i64 n, .string d] 23) := ⟨_, rfl⟩
  obtain ⟨g3, hg3⟩ : ∃ g3, g3 = w.heap.size := ⟨_, rfl⟩
  have HB : Hid (Below w.heap.size w W1) := by rw [hW1]; exact (Below.refl _ _).alloc (Nat.le_refl _) _
  have hA3 : Arr W1 g3 23 #[.int .i64 n, .string d] := by rw [hW1, hg3]; exact Arr.new w _ _
  have HA3 := Lib.hid hA3
  have c30 : W1.cell? ⟨g3, 0, none⟩ = some (.int .i64 n) := hA3.cell 0
  have c31 : W1.cell? ⟨g3, 1, none⟩ = some (.string d) := hA3.cell 1
  clear hA3
  obtain ⟨ta, eat⟩ : ∃ a : Nat, (X : Int) % 65536 = (a : Int) := ⟨X % 65536, by omega⟩
  obtain ⟨bt, ebt⟩ : ∃ b : Nat, (X : Int) / 65536 % 256 = (b : Int) := ⟨X / 65536 % 256, by omega⟩
  have d1 : decide ((496 : Int) < (d.size : Int)) = false := decide_eq_false (by omega)
  have d2 : decide ((100 : Int) < (s.size : Int)) = false := decide_eq_false (by omega)
  have hBO := fun W => M.body ⟨n, d⟩ W hn (by show d.size ≤ _; omega)
  obtain ⟨BL, hBL⟩ : ∃ BL, BL = bytes20 n d.data.toList := ⟨_, rfl⟩
  have hlen : BL.length = 12 + d.size := by rw [hBL, bytes_len]; rfl
  obtain ⟨S, hS⟩ : ∃ S : ByteArray, S = ⟨BL.toArray⟩ := ⟨_, rfl⟩
  have eB : body20 ⟨n, d⟩ = (S, 0) := by
    unfold body20
    rw [if_neg (show ¬ (n < 0 ∨ 4294967295 < n) by omega), if_neg (show ¬ 496 < d.size by omega), hS, hBL]
  rw [eB] at hBO
  have HBO : Hid (∀ W, Calls Try.prog 7 #[.agg #[.int .i64 n, .string d]] W fun e w' => e = .returned (.tuple #[.string S, .int .i64 0]) ∧ Below W.heap.size W w') := hBO
  obtain ⟨L, hL⟩ : ∃ L, L = mark20 ++ BL := ⟨_, rfl⟩
  have hLl : L.length = 16 + d.size := by rw [hL, List.length_append, hlen]; show 4 + (12 + d.size) = _; omega
  obtain ⟨X1, hX1⟩ : ∃ X1 : ByteArray, X1 = ⟨L.toArray⟩ := ⟨_, rfl⟩
  have hX1s : X1.size = 16 + d.size := by rw [hX1, size_mk, hLl]
  obtain ⟨X2, hX2⟩ : ∃ X2 : ByteArray, X2 = ⟨(L ++ s.data.toList).toArray⟩ := ⟨_, rfl⟩
  have hsl : s.data.toList.length = s.size := rfl
  have a1 : ∀ W, (Op.stringOp .add ⟨#[80, 69, 78, 86]⟩ S).run Try.prog W = .ok (.string X1) W := fun W => by
    have := add20 (W := W) (a := mark20) (b := BL) (by show 4 + BL.length ≤ _; omega)
    rw [← hL, ← hX1, ← hS] at this
    exact this
  have a2 : ∀ W, (Op.stringOp .add X1 s).run Try.prog W = .ok (.string X2) W := fun W => by
    have := add20 (W := W) (a := L) (b := s.data.toList) (by omega)
    rw [← hX2, ← hX1, baA_of] at this
    exact this
  have hr2 : read20 X2.data.toList = (⟨n, d⟩, 0) := by
    have := read_back (n := n) (d := d) (by omega) (by omega) s.data.toList
    rw [← hBL, ← List.append_assoc, ← hL] at this
    rw [hX2]
    exact this
  have HR2 : Hid (∀ W, Calls Try.prog 9 #[.string X2] W fun e w' => e = .returned (.tuple #[.agg #[.int .i64 n, .string d], .int .i64 0]) ∧ Below W.heap.size W w') := fun W => by
    have h := M.read X2 W (by rw [hX2, size_mk, List.length_append]; omega)
    rw [hr2] at h
    exact h
  have eW : wrap64 (16 + (d.size : Int)) = ((X1.size : Nat) : Int) := by rw [hX1s]; unfold wrap64; omega
  have HEW := Lib.hid eW
  clear eW
  have ed : (d.toList == d.toList) = true := by simp
  have e0 : (((bt : Nat) : Int) == 0) = true := by simp; omega
  clear M hBO eB hBL hS hL hX1 hX2 hr2 hLl hlen hsl hX1s q3 q5 qd qs hn _hX
  have eW := HEW.out
  go_enter Try.func4, Try.ntmps4
  go_upto_region 2 with fail
  change Code.wp _ _ _ _ (w.alloc (.cells #[.int .i64 n, .string d] 23))
  rw [eat, ebt, ← hW1, ← hg3]
  clear hW1 hg3 eat ebt
  go_wp2_with fail
  refine (HBO.out _).mono ?_
  rintro e w2 ⟨rfl, hb⟩
  have HA3 := Lib.hid (HA3.out.below hb HA3.out.lt)
  have HB := Lib.hid (HB.out.trans (hb.mono HB.out.size))
  have c30 : w2.cell? ⟨g3, 0, none⟩ = some (.int .i64 n) := HA3.out.cell 0
  have c31 : w2.cell? ⟨g3, 1, none⟩ = some (.string d) := HA3.out.cell 1
  clear hb HBO
  go_wp2_with fail
  refine (HR2.out _).mono ?_
  rintro e wz ⟨rfl, hb⟩
  have hb2 : Below wz.heap.size wz (wz.alloc (.cells #[.int .i64 n, .string d] 23)) := (Below.refl _ _).alloc (Nat.le_refl _) _
  have hbb := hb.trans (hb2.mono hb.size)
  have HA12 := Lib.hid (Arr.new wz 23 #[.int .i64 n, .string d])
  have HA3 := Lib.hid (HA3.out.below hbb HA3.out.lt)
  have HB := Lib.hid (HB.out.trans (hbb.mono HB.out.size))
  clear hb hb2 hbb HR2 c30 c31
  go_upto_region 9 with fail
  generalize wz.alloc (.cells #[.int .i64 n, .string d] 23) = W5 at *
  generalize wz.heap.size = g12 at *
  have c30 : W5.cell? ⟨g3, 0, none⟩ = some (.int .i64 n) := HA3.out.cell 0
  have c31 : W5.cell? ⟨g3, 1, none⟩ = some (.string d) := HA3.out.cell 1
  have c120 : W5.cell? ⟨g12, 0, none⟩ = some (.int .i64 n) := HA12.out.cell 0
  have c121 : W5.cell? ⟨g12, 1, none⟩ = some (.string d) := HA12.out.cell 1
  go_wp2_with fail
  refine (HAW.out _).mono ?_
  rintro e w9 ⟨rfl, hb⟩
  have HBZ := Lib.hid (HB.out.trans (hb.mono HB.out.size))
  clear hb
  go_wp2
  go_ret
  exact ⟨rfl, HBZ.out⟩
set_option maxHeartbeats 6400000 in
set_option maxRecDepth 100000 in
theorem recordBack_bit (M : RecordMust) (n : Int) (d s : ByteArray) (X : Nat) (w : World) (hn : I64 n) (_hX : X < 4294967296) (q3 : 0 ≤ n ∧ n ≤ 4294967295) (qd : d.size ≤ 496) (qs : s.size ≤ 100) (q5 : X / 65536 % 256 ≠ 0) :
    Calls Try.prog 4 #[.agg #[.int .i64 n, .string d], .string s, .int .u32 (X : Int)] w fun e w' => e = .returned (.bool true) ∧ Below w.heap.size w w' := by
  have HAW := Lib.hid (awake20 M)
  obtain ⟨W1, hW1⟩ : ∃ W1, W1 = w.alloc (.cells #[.int .i64 n, .string d] 23) := ⟨_, rfl⟩
  obtain ⟨g3, hg3⟩ : ∃ g3, g3 = w.heap.size := ⟨_, rfl⟩
  have HB : Hid (Below w.heap.size w W1) := by rw [hW1]; exact (Below.refl _ _).alloc (Nat.le_refl _) _
  have hA3 : Arr W1 g3 23 #[.int .i64 n, .string d] := by rw [hW1, hg3]; exact Arr.new w _ _
  have HA3 := Lib.hid hA3
  have c30 : W1.cell? ⟨g3, 0, none⟩ = some (.int .i64 n) := hA3.cell 0
  have c31 : W1.cell? ⟨g3, 1, none⟩ = some (.string d) := hA3.cell 1
  clear hA3
  obtain ⟨ta, eat⟩ : ∃ a : Nat, (X : Int) % 65536 = (a : Int) := ⟨X % 65536, by omega⟩
  obtain ⟨bt, ebt⟩ : ∃ b : Nat, (X : Int) / 65536 % 256 = (b : Int) := ⟨X / 65536 % 256, by omega⟩
  have d1 : decide ((496 : Int) < (d.size : Int)) = false := decide_eq_false (by omega)
  have d2 : decide ((100 : Int) < (s.size : Int)) = false := decide_eq_false (by omega)
  have hBO := fun W => M.body ⟨n, d⟩ W hn (by show d.size ≤ _; omega)
  obtain ⟨BL, hBL⟩ : ∃ BL, BL = bytes20 n d.data.toList := ⟨_, rfl⟩
  have hlen : BL.length = 12 + d.size := by rw [hBL, bytes_len]; rfl
  obtain ⟨S, hS⟩ : ∃ S : ByteArray, S = ⟨BL.toArray⟩ := ⟨_, rfl⟩
  have eB : body20 ⟨n, d⟩ = (S, 0) := by
    unfold body20
    rw [if_neg (show ¬ (n < 0 ∨ 4294967295 < n) by omega), if_neg (show ¬ 496 < d.size by omega), hS, hBL]
  rw [eB] at hBO
  have HBO : Hid (∀ W, Calls Try.prog 7 #[.agg #[.int .i64 n, .string d]] W fun e w' => e = .returned (.tuple #[.string S, .int .i64 0]) ∧ Below W.heap.size W w') := hBO
  obtain ⟨L, hL⟩ : ∃ L, L = mark20 ++ BL := ⟨_, rfl⟩
  have hLl : L.length = 16 + d.size := by rw [hL, List.length_append, hlen]; show 4 + (12 + d.size) = _; omega
  obtain ⟨X1, hX1⟩ : ∃ X1 : ByteArray, X1 = ⟨L.toArray⟩ := ⟨_, rfl⟩
  have hX1s : X1.size = 16 + d.size := by rw [hX1, size_mk, hLl]
  obtain ⟨X2, hX2⟩ : ∃ X2 : ByteArray, X2 = ⟨(L ++ s.data.toList).toArray⟩ := ⟨_, rfl⟩
  have hsl : s.data.toList.length = s.size := rfl
  have a1 : ∀ W, (Op.stringOp .add ⟨#[80, 69, 78, 86]⟩ S).run Try.prog W = .ok (.string X1) W := fun W => by
    have := add20 (W := W) (a := mark20) (b := BL) (by show 4 + BL.length ≤ _; omega)
    rw [← hL, ← hX1, ← hS] at this
    exact this
  have a2 : ∀ W, (Op.stringOp .add X1 s).run Try.prog W = .ok (.string X2) W := fun W => by
    have := add20 (W := W) (a := L) (b := s.data.toList) (by omega)
    rw [← hX2, ← hX1, baA_of] at this
    exact this
  have hr2 : read20 X2.data.toList = (⟨n, d⟩, 0) := by
    have := read_back (n := n) (d := d) (by omega) (by omega) s.data.toList
    rw [← hBL, ← List.append_assoc, ← hL] at this
    rw [hX2]
    exact this
  have HR2 : Hid (∀ W, Calls Try.prog 9 #[.string X2] W fun e w' => e = .returned (.tuple #[.agg #[.int .i64 n, .string d], .int .i64 0]) ∧ Below W.heap.size W w') := fun W => by
    have h := M.read X2 W (by rw [hX2, size_mk, List.length_append]; omega)
    rw [hr2] at h
    exact h
  have eW : wrap64 (16 + (d.size : Int)) = ((X1.size : Nat) : Int) := by rw [hX1s]; unfold wrap64; omega
  have HEW := Lib.hid eW
  clear eW
  have ed : (d.toList == d.toList) = true := by simp
  have e0 : (((bt : Nat) : Int) == 0) = false := by simp; omega
  obtain ⟨k, hk, hkX⟩ := mod_k ta X1.size (by rw [hX1s]; exact Nat.lt_of_lt_of_le (by decide) (Nat.le_add_right 16 _)) (by omega)
  have HK := Lib.hid hk
  clear hk
  have hk0 : k < L.length := by rw [hLl, ← hX1s]; exact hkX
  have hXL : X1.data.toList = L := congrArg (fun b : ByteArray => b.data.toList) hX1
  have HXL := Lib.hid hXL
  have HK0 := Lib.hid hk0
  have HLL := Lib.hid hLl
  have HX1S := Lib.hid hX1s
  have HM := Lib.hid M
  have HXB : Hid ((bt : Int) = ((X / 65536 % 256 : Nat) : Int)) := by show (bt : Int) = _; omega
  have HNZ : Hid ((b8c (X / 65536)).toNat ≠ 0) := by rw [b8c_toNat]; exact q5
  have HQD := Lib.hid qd
  have HRB : Hid (∀ b, ¬ (8 ≤ k ∧ k < 12) → L.getD k 0 ≠ b → (read20 (L.set k b)).1 = rc0 ∧ (read20 (L.set k b)).2 ≠ 0) := fun b h1 h2 => by
    have hds : d.data.toList.length = d.size := rfl
    have := read_bit (n := n) (d := d.data.toList) (by omega) (k := k) (by omega) h1 (b := b) (by rw [← hBL, ← hL]; exact h2)
    rw [← hBL, ← hL] at this
    exact this
  clear M hBO eB hBL hS hL hX1 hX2 hr2 hLl hlen hsl hX1s hXL hk0 hkX q3 q5 _hX hn qd qs
  have eW := HEW.out
  go_enter Try.func4, Try.ntmps4
  go_upto_region 2 with fail
  change Code.wp _ _ _ _ (w.alloc (.cells #[.int .i64 n, .string d] 23))
  rw [eat, ebt, ← hW1, ← hg3]
  clear hW1 hg3 eat ebt
  go_wp2_with fail
  refine (HBO.out _).mono ?_
  rintro e w2 ⟨rfl, hb⟩
  have HA3 := Lib.hid (HA3.out.below hb HA3.out.lt)
  have HB := Lib.hid (HB.out.trans (hb.mono HB.out.size))
  have c30 : w2.cell? ⟨g3, 0, none⟩ = some (.int .i64 n) := HA3.out.cell 0
  have c31 : w2.cell? ⟨g3, 1, none⟩ = some (.string d) := HA3.out.cell 1
  clear hb HBO
  go_wp2_with fail
  refine (HR2.out _).mono ?_
  rintro e wz ⟨rfl, hb⟩
  have hb2 : Below wz.heap.size wz (wz.alloc (.cells #[.int .i64 n, .string d] 23)) := (Below.refl _ _).alloc (Nat.le_refl _) _
  have hbb := hb.trans (hb2.mono hb.size)
  have HA12 := Lib.hid (Arr.new wz 23 #[.int .i64 n, .string d])
  have HA3 := Lib.hid (HA3.out.below hbb HA3.out.lt)
  have HB := Lib.hid (HB.out.trans (hbb.mono HB.out.size))
  clear hb hb2 hbb HR2 c30 c31
  go_upto_region 9 with fail
  generalize wz.alloc (.cells #[.int .i64 n, .string d] 23) = W5 at *
  generalize wz.heap.size = g12 at *
  have c30 : W5.cell? ⟨g3, 0, none⟩ = some (.int .i64 n) := HA3.out.cell 0
  have c31 : W5.cell? ⟨g3, 1, none⟩ = some (.string d) := HA3.out.cell 1
  have c120 : W5.cell? ⟨g12, 0, none⟩ = some (.int .i64 n) := HA12.out.cell 0
  have c121 : W5.cell? ⟨g12, 1, none⟩ = some (.string d) := HA12.out.cell 1
  go_upto_region 11 with fail
  clear c30 c31 c120 c121 HA3 HA12 a1 a2 d1 d2 ed eW
  have hcv := run_bytes_of_string (P := Try.prog) W5 9 36 5 X1 Try.underlying9 Try.underlying36 Try.underlying5
  generalize grownCap W5 X1.size 0 5 = cap at hcv
  have hrow := row_new W5 X1 cap 5
  rw [HXL.out] at hrow
  have hbel := (Below.refl W5.heap.size W5).alloc (Nat.le_refl _) (.cells (bytesRow X1 cap) 5 ((bytesRow X1 cap).size, (bytesRow X1 cap).size + 1))
  have eK := HK.out
  have hz1 : (((X1.size : Nat) : Int) == 0) = false := by rw [HX1S.out]; simp; omega
  have hz2 : ((X1.size : Nat) : Int) ≠ 0 := by rw [HX1S.out]; simp; omega
  have hsz : W5.heap.size < (W5.alloc (.cells (bytesRow X1 cap) 5 ((bytesRow X1 cap).size, (bytesRow X1 cap).size + 1))).heap.size := by rw [sz_alloc20b]; exact Nat.lt_succ_self _
  generalize (.cells (bytesRow X1 cap) 5 ((bytesRow X1 cap).size, (bytesRow X1 cap).size + 1) : Obj) = O at *
  have HROW := Lib.hid hrow
  have HBL := Lib.hid hbel
  have HSZ := Lib.hid hsz
  clear hrow hbel hsz
  go_upto_region 13 with fail
  have HROW := Lib.hid (row_drew HROW.out)
  have HBL := Lib.hid HBL.out.drew
  have HSZ : Hid (W5.heap.size < (W5.alloc O).drew.heap.size) := HSZ.out
  have HWB := Lib.hid HB.out.size
  generalize (W5.alloc O).drew = W6 at *
  generalize hB : W5.heap.size = B at *
  clear hB hcv eK
  by_cases hr : 8 ≤ k ∧ k < 12
  · have dk1 : decide ((8 : Int) ≤ (k : Int)) = true := decide_eq_true (by omega)
    have dk2 : decide ((k : Int) < 12) = true := decide_eq_true (by omega)
    have HB := Lib.hid (HB.out.trans (HBL.out.mono HWB.out))
    clear hr
    go_wp2_with fail
    refine (HAW.out _).mono ?_
    rintro e w9 ⟨rfl, hb⟩
    have HBZ := Lib.hid (HB.out.trans (hb.mono HB.out.size))
    clear hb
    go_wp2
    go_ret
    exact ⟨rfl, HBZ.out⟩
  by_cases hr2 : k < 8
  · have dk1 : decide ((8 : Int) ≤ (k : Int)) = false := decide_eq_false (by omega)
    clear hr2
    obtain ⟨a0, ha0⟩ : ∃ a0, a0 = L.getD k 0 := ⟨_, rfl⟩
    obtain ⟨y, hy⟩ : ∃ y, y = a0 ^^^ b8c (X / 65536) := ⟨_, rfl⟩
    have hxor : bits .xor .u8 (a0.toNat : Int) (bt : Int) = (y.toNat : Int) := by rw [hy]; exact xorbI a0 (X / 65536) _ HXB.out
    have hrb := HRB.out y hr (by rw [← ha0, hy]; exact xor_ne20 HNZ.out)
    have hrow2 := row_set HROW.out k HK0.out y
    obtain ⟨hc1, hc2⟩ := HROW.out k HK0.out
    rw [← ha0] at hc1
    have hb2 := HBL.out.setCell (p := ⟨B, k, none⟩) (Nat.le_refl _) (.int .u8 (y.toNat : Int))
    have hsz2 : B ≤ (W6.setCell ⟨B, k, none⟩ (.int .u8 (y.toNat : Int))).heap.size := by rw [World.size_setCell]; exact Nat.le_of_lt HSZ.out
    have k1 : (k : Int) < X1.size := by rw [HX1S.out, ← HLL.out]; exact Int.ofNat_lt.mpr HK0.out
    have HR2 := Lib.hid hrow2
    have HY := Lib.hid hrb
    have HB2 := Lib.hid hb2
    have HSZ2 := Lib.hid hsz2
    clear ha0 hy hrb hrow2 hb2 hsz2 HROW HBL HSZ HRB hr
    obtain ⟨Z, hZ⟩ : ∃ Z : ByteArray, Z = ⟨(L.set k y).toArray⟩ := ⟨_, rfl⟩
    obtain ⟨ee, hee⟩ : ∃ ee, ee = (read20 (L.set k y)).2 := ⟨_, rfl⟩
    have hrz : read20 Z.data.toList = (rc0, ee) := by rw [hZ, hee, ← HY.out.1]
    have HRZ : Hid (∀ W, Calls Try.prog 9 #[.string Z] W fun e w' => e = .returned (.tuple #[.agg #[.int .i64 0, .string ⟨#[]⟩], .int .i64 (ee : Nat)]) ∧ Below W.heap.size W w') := fun W => by
      have h := HM.out.read Z W (by rw [hZ, size_mk, List.length_set, HLL.out]; exact Nat.le_trans (Nat.add_le_add_left HQD.out 16) (by decide))
      rw [hrz] at h
      exact h
    have he0 : (((ee : Nat) : Int) != 0) = true := by have h := HY.out.2; rw [← hee] at h; simp; exact h
    have HZ := Lib.hid hZ
    clear hZ hee hrz HY
    go_upto_region 16 with fail
    generalize W6.setCell ⟨B, k, none⟩ (.int .u8 (y.toNat : Int)) = W7 at *
    have hback := row_back cap HR2.out
    rw [List.length_set, HLL.out, ← HX1S.out, ← HZ.out] at hback
    have HB := Lib.hid (HB.out.trans (HB2.out.mono HWB.out))
    clear hc1 hc2 hxor k1 HR2 HB2 HZ
    go_wp2_with fail
    refine (HRZ.out _).mono ?_
    rintro e wz ⟨rfl, hb⟩
    have hb2 : Below wz.heap.size wz (wz.alloc (.cells #[.int .i64 0, .string ⟨#[]⟩] 23)) := (Below.refl _ _).alloc (Nat.le_refl _) _
    have hbb := hb.trans (hb2.mono hb.size)
    have HAY := Lib.hid (Arr.new wz 23 #[.int .i64 0, .string ⟨#[]⟩])
    have HB := Lib.hid (HB.out.trans (hbb.mono HB.out.size))
    clear hb hb2 hbb hback HRZ
    go_upto_region 17 with fail
    generalize wz.alloc (.cells #[.int .i64 0, .string ⟨#[]⟩] 23) = W8 at *
    generalize wz.heap.size = g16 at *
    have c160 : W8.cell? ⟨g16, 0, none⟩ = some (.int .i64 0) := HAY.out.cell 0
    have c161 : W8.cell? ⟨g16, 1, none⟩ = some (.string ⟨#[]⟩) := HAY.out.cell 1
    go_wp2_with fail
    refine (HAW.out _).mono ?_
    rintro e w9 ⟨rfl, hb⟩
    have HBZ := Lib.hid (HB.out.trans (hb.mono HB.out.size))
    clear hb
    go_wp2
    go_ret
    exact ⟨rfl, HBZ.out⟩
  · have dk1 : decide ((8 : Int) ≤ (k : Int)) = true := decide_eq_true (by omega)
    have dk2 : decide ((k : Int) < 12) = false := decide_eq_false (by omega)
    clear hr2
    obtain ⟨a0, ha0⟩ : ∃ a0, a0 = L.getD k 0 := ⟨_, rfl⟩
    obtain ⟨y, hy⟩ : ∃ y, y = a0 ^^^ b8c (X / 65536) := ⟨_, rfl⟩
    have hxor : bits .xor .u8 (a0.toNat : Int) (bt : Int) = (y.toNat : Int) := by rw [hy]; exact xorbI a0 (X / 65536) _ HXB.out
    have hrb := HRB.out y hr (by rw [← ha0, hy]; exact xor_ne20 HNZ.out)
    have hrow2 := row_set HROW.out k HK0.out y
    obtain ⟨hc1, hc2⟩ := HROW.out k HK0.out
    rw [← ha0] at hc1
    have hb2 := HBL.out.setCell (p := ⟨B, k, none⟩) (Nat.le_refl _) (.int .u8 (y.toNat : Int))
    have hsz2 : B ≤ (W6.setCell ⟨B, k, none⟩ (.int .u8 (y.toNat : Int))).heap.size := by rw [World.size_setCell]; exact Nat.le_of_lt HSZ.out
    have k1 : (k : Int) < X1.size := by rw [HX1S.out, ← HLL.out]; exact Int.ofNat_lt.mpr HK0.out
    have HR2 := Lib.hid hrow2
    have HY := Lib.hid hrb
    have HB2 := Lib.hid hb2
    have HSZ2 := Lib.hid hsz2
    clear ha0 hy hrb hrow2 hb2 hsz2 HROW HBL HSZ HRB hr
    obtain ⟨Z, hZ⟩ : ∃ Z : ByteArray, Z = ⟨(L.set k y).toArray⟩ := ⟨_, rfl⟩
    obtain ⟨ee, hee⟩ : ∃ ee, ee = (read20 (L.set k y)).2 := ⟨_, rfl⟩
    have hrz : read20 Z.data.toList = (rc0, ee) := by rw [hZ, hee, ← HY.out.1]
    have HRZ : Hid (∀ W, Calls Try.prog 9 #[.string Z] W fun e w' => e = .returned (.tuple #[.agg #[.int .i64 0, .string ⟨#[]⟩], .int .i64 (ee : Nat)]) ∧ Below W.heap.size W w') := fun W => by
      have h := HM.out.read Z W (by rw [hZ, size_mk, List.length_set, HLL.out]; exact Nat.le_trans (Nat.add_le_add_left HQD.out 16) (by decide))
      rw [hrz] at h
      exact h
    have he0 : (((ee : Nat) : Int) != 0) = true := by have h := HY.out.2; rw [← hee] at h; simp; exact h
    have HZ := Lib.hid hZ
    clear hZ hee hrz HY
    go_upto_region 16 with fail
    generalize W6.setCell ⟨B, k, none⟩ (.int .u8 (y.toNat : Int)) = W7 at *
    have hback := row_back cap HR2.out
    rw [List.length_set, HLL.out, ← HX1S.out, ← HZ.out] at hback
    have HB := Lib.hid (HB.out.trans (HB2.out.mono HWB.out))
    clear hc1 hc2 hxor k1 HR2 HB2 HZ
    go_wp2_with fail
    refine (HRZ.out _).mono ?_
    rintro e wz ⟨rfl, hb⟩
    have hb2 : Below wz.heap.size wz (wz.alloc (.cells #[.int .i64 0, .string ⟨#[]⟩] 23)) := (Below.refl _ _).alloc (Nat.le_refl _) _
    have hbb := hb.trans (hb2.mono hb.size)
    have HAY := Lib.hid (Arr.new wz 23 #[.int .i64 0, .string ⟨#[]⟩])
    have HB := Lib.hid (HB.out.trans (hbb.mono HB.out.size))
    clear hb hb2 hbb hback HRZ
    go_upto_region 17 with fail
    generalize wz.alloc (.cells #[.int .i64 0, .string ⟨#[]⟩] 23) = W8 at *
    generalize wz.heap.size = g16 at *
    have c160 : W8.cell? ⟨g16, 0, none⟩ = some (.int .i64 0) := HAY.out.cell 0
    have c161 : W8.cell? ⟨g16, 1, none⟩ = some (.string ⟨#[]⟩) := HAY.out.cell 1
    go_wp2_with fail
    refine (HAW.out _).mono ?_
    rintro e w9 ⟨rfl, hb⟩
    have HBZ := Lib.hid (HB.out.trans (hb.mono HB.out.size))
    clear hb
    go_wp2
    go_ret
    exact ⟨rfl, HBZ.out⟩
theorem recordBack_any (M : RecordMust) (n : Int) (d s : ByteArray) (X : Int) (w : World) (hn : I64 n) (hX : 0 ≤ X ∧ X < 4294967296) :
    Calls Try.prog 4 #[.agg #[.int .i64 n, .string d], .string s, .int .u32 X] w fun e w' => e = .returned (.bool true) ∧ Below w.heap.size w w' := by
  obtain ⟨X, rfl⟩ := Int.eq_ofNat_of_zero_le hX.1
  by_cases q : 496 < d.size ∨ 100 < s.size ∨ n < 0 ∨ 4294967295 < n
  · exact recordBack_small M n d s X w hn (by omega) q
  by_cases q5 : X / 65536 % 256 = 0
  · exact recordBack_zero M n d s X w hn (by omega) (by omega) (by omega) (by omega) q5
  · exact recordBack_bit M n d s X w hn (by omega) (by omega) (by omega) (by omega) q5
end Go.Proofs.Ytbkfkbacejhpeaa
