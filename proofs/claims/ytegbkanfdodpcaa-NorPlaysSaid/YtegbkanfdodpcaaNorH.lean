/- The law's awake(): what must come, whatever the arguments are. No condition. -/
import Derived.Test.YtegbkanfdodpcaaNorG
namespace Go.Proofs.Ytegbkanfdodpcaa
open Go.RowKit

theorem prS_free (c : St) (hon : c.on = true) (hf : c.fuse = none) (a : Nat) (s : ByteArray) (h0 : 0 < s.size) (h32 : s.size ≤ 32 - a % 32) (ha : a + s.size ≤ 24576) :
    prS c a s = (⟨true, c.ops + 1, none, mapAt c.B a s.size (prF s)⟩, 0) := by
  unfold prS
  rw [if_neg (by rw [hon]; decide), if_neg (by omega), if_neg (by rw [thr_of (by omega)]; decide), if_neg (by rw [Int.toNat_natCast]; omega), Int.toNat_natCast]
  unfold oper
  rw [hf, hon]
theorem erS_free (c : St) (hon : c.on = true) (hf : c.fuse = none) (x : Nat) (h : x < 48) : erS c x = (⟨true, c.ops + 1, none, mapAt c.B (x * 512) 512 erF⟩, 0) := by
  unfold erS
  rw [if_neg (by rw [hon]; decide), if_neg (by omega), Int.toNat_natCast]
  unfold oper
  rw [hf, hon]
theorem erS_torn (c : St) (hon : c.on = true) (t : ByteArray) (hf : c.fuse = some (0, t)) (ht : t.size ≠ 0) (x : Nat) (h : x < 48) : erS c x = (⟨false, c.ops + 1, none, mapAt c.B (x * 512) 512 fun i x => erT i x (cyc t i)⟩, 4) := by
  unfold erS
  rw [if_neg (by rw [hon]; decide), if_neg (by omega), Int.toNat_natCast]
  unfold oper
  rw [hf]
  simp only [if_neg ht]
theorem rdS_free (c : St) (hon : c.on = true) (a n : Nat) (h : a + n ≤ 24576) : rdS c a n = (⟨((c.B.drop a).take n).toArray⟩, 0) := by
  unfold rdS
  rw [if_neg (by rw [hon]; decide), if_neg (by rw [thr_of (by omega)]; decide), Int.toNat_natCast, Int.toNat_natCast]
theorem take_getD (B : List UInt8) (a n : Nat) (h : a + n ≤ B.length) : (B.drop a).take n = (List.range n).map fun i => B.getD (a + i) 0 := by
  refine List.ext_getElem (by simp; omega) fun j h1 h2 => ?_
  have hj : j < n := by simpa using h2
  simp only [List.getElem_take, List.getElem_drop, List.getElem_map, List.getElem_range]
  rw [getD_lt _ (by omega)]
theorem st0_getD (j : Nat) (h : j < 24576) : st0.B.getD j 0 = 255 := by
  rw [getD_lt _ (by show j < (List.replicate _ _).length; rw [List.length_replicate]; exact h)]
  exact List.getElem_replicate _
def s15 : ByteArray := ⟨#[15]⟩
def s243 : ByteArray := ⟨#[243]⟩
def s10 : ByteArray := ⟨#[1, 0]⟩
/-- The bytes behind both Programs, and behind the torn Erase. -/
def awB : List UInt8 := mapAt (mapAt st0.B 5 1 (prF s15)) 5 1 (prF s243)
def awC : List UInt8 := mapAt awB 0 512 fun i x => erT i x (cyc s10 i)
theorem awB_length : awB.length = 24576 := by unfold awB; rw [mapAt_length, mapAt_length]; exact List.length_replicate
theorem awC_length : awC.length = 24576 := by unfold awC; rw [mapAt_length]; exact awB_length
theorem awB_at (j : Nat) (h : j < 24576) (h5 : j ≠ 5) : awB.getD j 0 = 255 := by
  unfold awB
  have hl : st0.B.length = 24576 := List.length_replicate
  rw [mapAt_getD _ _ _ _ _ (by rw [mapAt_length, hl]; exact h), if_neg (by omega), mapAt_getD _ _ _ _ _ (by rw [hl]; exact h), if_neg (by omega), st0_getD j h]
theorem awB_5 : awB.getD 5 0 = 3 := by
  unfold awB
  have hl : st0.B.length = 24576 := List.length_replicate
  rw [mapAt_getD _ _ _ _ _ (by rw [mapAt_length, hl]; decide), if_pos (by decide), mapAt_getD _ _ _ _ _ (by rw [hl]; decide), if_pos (by decide), st0_getD 5 (by decide)]
  rfl
theorem awC_4 : awC.getD 4 0 = 255 := by
  unfold awC
  rw [mapAt_getD _ _ _ _ _ (by rw [awB_length]; decide), if_pos (by decide)]
  rfl
theorem awC_5 : awC.getD 5 0 = 3 := by
  unfold awC
  rw [mapAt_getD _ _ _ _ _ (by rw [awB_length]; decide), if_pos (by decide), awB_5]
  rfl

section
variable (g : Nat) (W : World) (B : List UInt8) (ops : Nat)
theorem prog_st (a n : Nat) (s : ByteArray) (hW : RN W g ⟨true, ops, none, B⟩) (ho : ops < 4611686018427387904) (hn : s.size = n) (h0 : 0 < n) (h32 : n ≤ 32 - a % 32) (ha : a + n ≤ 24576) (B' : List UInt8) (hB : mapAt B a n (prF s) = B') :
    Calls Try.prog 19 #[.pointer (some ⟨g, 0, none⟩), .int .i64 (a : Int), .string s] W fun e w' => e = .returned (.int .i64 0) ∧ RN w' g ⟨true, ops + 1, none, B'⟩ ∧ W.grownBy w' (some g) := by
  subst hn
  subst hB
  have := program_any g ⟨true, ops, none, B⟩ (a : Int) s W hW ho
  rw [prS_free ⟨true, ops, none, B⟩ rfl rfl a s h0 h32 ha] at this
  exact this
theorem read_st (a n : Nat) (l : List UInt8) (hW : RN W g ⟨true, ops, none, B⟩) (h : a + n ≤ 24576) (hl : (B.drop a).take n = l) :
    Calls Try.prog 18 #[.pointer (some ⟨g, 0, none⟩), .int .i64 (a : Int), .int .i64 (n : Int)] W fun e w' => e = .returned (.tuple #[.string ⟨l.toArray⟩, .int .i64 0]) ∧ W = w' := by
  subst hl
  have := read_any g ⟨true, ops, none, B⟩ (a : Int) (n : Int) W hW
  rw [rdS_free ⟨true, ops, none, B⟩ rfl a n h] at this
  exact this
theorem fuse_st (t : ByteArray) (hW : RN W g ⟨true, ops, none, B⟩) :
    Calls Try.prog 20 #[.pointer (some ⟨g, 0, none⟩), .int .i64 0, .string t] W fun e w' => e = .returned (.tuple #[]) ∧ RN w' g ⟨true, ops, some (0, t), B⟩ ∧ W.grownBy w' (some g) :=
  fuse_any g ⟨true, ops, none, B⟩ 0 t W hW (by decide)
theorem tear_st (t : ByteArray) (ht : t.size ≠ 0) (hW : RN W g ⟨true, ops, some (0, t), B⟩) (ho : ops < 4611686018427387904) (B' : List UInt8) (hB : mapAt B (0 * 512) 512 (fun i x => erT i x (cyc t i)) = B') :
    Calls Try.prog 17 #[.pointer (some ⟨g, 0, none⟩), .int .i64 0] W fun e w' => e = .returned (.int .i64 4) ∧ RN w' g ⟨false, ops + 1, none, B'⟩ ∧ W.grownBy w' (some g) := by
  subst hB
  have := erase_any g ⟨true, ops, some (0, t), B⟩ ((0 : Nat) : Int) W hW ho
  rw [erS_torn ⟨true, ops, some (0, t), B⟩ rfl t rfl ht 0 (by decide)] at this
  exact this
theorem power_st (on : Bool) (hW : RN W g ⟨on, ops, none, B⟩) :
    Calls Try.prog 21 #[.pointer (some ⟨g, 0, none⟩)] W fun e w' => e = .returned (.tuple #[]) ∧ RN w' g ⟨true, ops, none, B⟩ ∧ W.grownBy w' (some g) := power_any g _ W hW
end

set_option maxHeartbeats 1600000 in
set_option maxRecDepth 100000 in
theorem awake_any (w : World) : Calls Try.prog 7 #[] w fun e w' => e = .returned (.bool true) ∧ Below w.heap.size w w' := by
  have HN : Hid (Calls Try.prog 15 #[] w fun e w' => ∃ g, e = .returned (.pointer (some ⟨g, 0, none⟩)) ∧ w.heap.size ≤ g ∧ RN w' g ⟨true, 0, none, st0.B⟩ ∧ Below w.heap.size w w') := new_any w
  have q1 : (awB.drop 4).take 3 = [255, 3, 255] := by
    rw [take_getD _ _ _ (by rw [awB_length]; decide)]
    show [awB.getD 4 0, awB.getD 5 0, awB.getD 6 0] = _
    rw [awB_at 4 (by decide) (by decide), awB_at 6 (by decide) (by decide), awB_5]
  have q2 : (awC.drop 4).take 2 = [255, 3] := by
    rw [take_getD _ _ _ (by rw [awC_length]; decide)]
    show [awC.getD 4 0, awC.getD 5 0] = _
    rw [awC_4, awC_5]
  obtain ⟨B1, b1⟩ : ∃ B1, mapAt st0.B 5 1 (prF s15) = B1 := ⟨_, rfl⟩
  have b2 : mapAt B1 5 1 (prF s243) = awB := by rw [← b1, awB]
  have b3 : mapAt awB (0 * 512) 512 (fun i x => erT i x (cyc s10 i)) = awC := by rw [awC]
  generalize st0.B = B0 at *
  generalize awB = B2 at *
  generalize awC = B3 at *
  have HP1 : Hid (∀ W g, RN W g ⟨true, 0, none, B0⟩ → Calls Try.prog 19 #[.pointer (some ⟨g, 0, none⟩), .int .i64 5, .string ⟨#[15]⟩] W fun e w' => e = .returned (.int .i64 0) ∧ RN w' g ⟨true, 1, none, B1⟩ ∧ W.grownBy w' (some g)) :=
    fun W g hW => prog_st g W B0 0 5 1 ⟨#[15]⟩ hW (by decide) rfl (by decide) (by decide) (by decide) B1 b1
  have HP2 : Hid (∀ W g, RN W g ⟨true, 1, none, B1⟩ → Calls Try.prog 19 #[.pointer (some ⟨g, 0, none⟩), .int .i64 5, .string ⟨#[243]⟩] W fun e w' => e = .returned (.int .i64 0) ∧ RN w' g ⟨true, 2, none, B2⟩ ∧ W.grownBy w' (some g)) :=
    fun W g hW => prog_st g W B1 1 5 1 ⟨#[243]⟩ hW (by decide) rfl (by decide) (by decide) (by decide) B2 b2
  have HR1 : Hid (∀ W g, RN W g ⟨true, 2, none, B2⟩ → Calls Try.prog 18 #[.pointer (some ⟨g, 0, none⟩), .int .i64 4, .int .i64 3] W fun e w' => e = .returned (.tuple #[.string ⟨#[255, 3, 255]⟩, .int .i64 0]) ∧ W = w') :=
    fun W g hW => read_st g W B2 2 4 3 [255, 3, 255] hW (by decide) q1
  have HF : Hid (∀ W g, RN W g ⟨true, 2, none, B2⟩ → Calls Try.prog 20 #[.pointer (some ⟨g, 0, none⟩), .int .i64 0, .string ⟨#[1, 0]⟩] W fun e w' => e = .returned (.tuple #[]) ∧ RN w' g ⟨true, 2, some (0, ⟨#[1, 0]⟩), B2⟩ ∧ W.grownBy w' (some g)) :=
    fun W g hW => fuse_st g W B2 2 ⟨#[1, 0]⟩ hW
  have HE : Hid (∀ W g, RN W g ⟨true, 2, some (0, ⟨#[1, 0]⟩), B2⟩ → Calls Try.prog 17 #[.pointer (some ⟨g, 0, none⟩), .int .i64 0] W fun e w' => e = .returned (.int .i64 4) ∧ RN w' g ⟨false, 3, none, B3⟩ ∧ W.grownBy w' (some g)) :=
    fun W g hW => tear_st g W B2 2 ⟨#[1, 0]⟩ (by decide) hW (by decide) B3 b3
  have HON : Hid (∀ W g, RN W g ⟨false, 3, none, B3⟩ → Calls Try.prog 12 #[.pointer (some ⟨g, 0, none⟩)] W fun e w' => e = .returned (.bool false) ∧ W = w') := fun W g hW => on_any g _ W hW
  have HPW : Hid (∀ W g, RN W g ⟨false, 3, none, B3⟩ → Calls Try.prog 21 #[.pointer (some ⟨g, 0, none⟩)] W fun e w' => e = .returned (.tuple #[]) ∧ RN w' g ⟨true, 3, none, B3⟩ ∧ W.grownBy w' (some g)) := fun W g hW => power_st g W B3 3 false hW
  have HR2 : Hid (∀ W g, RN W g ⟨true, 3, none, B3⟩ → Calls Try.prog 18 #[.pointer (some ⟨g, 0, none⟩), .int .i64 4, .int .i64 2] W fun e w' => e = .returned (.tuple #[.string ⟨#[255, 3]⟩, .int .i64 0]) ∧ W = w') :=
    fun W g hW => read_st g W B3 3 4 2 [255, 3] hW (by decide) q2
  have HOP : Hid (∀ W g, RN W g ⟨true, 3, none, B3⟩ → Calls Try.prog 13 #[.pointer (some ⟨g, 0, none⟩)] W fun e w' => e = .returned (.int .i64 3) ∧ W = w') := fun W g hW => ops_any g _ W hW
  clear q1 q2 b1 b2 b3
  go_enter Try.func7, Try.ntmps7
  go_wp2_with fail
  refine HN.out.mono ?_
  rintro e w1 ⟨g, rfl, hg, hr, hb⟩
  have Hb := Lib.hid hb
  have H1 := Lib.hid hr
  have hz := hb.size
  clear hr hb
  go_wp2_with fail
  refine (HP1.out _ _ H1.out).mono ?_
  rintro e w2 ⟨rfl, hr, hgr⟩
  have H2 := Lib.hid hr
  have Hb2 := Lib.hid (below_grown Hb.out hgr hg hz)
  have hz2 := Hb2.out.size
  clear hr hgr Hb H1 HP1
  go_wp2_with fail
  refine (HP2.out _ _ H2.out).mono ?_
  rintro e w3 ⟨rfl, hr, hgr⟩
  have H3 := Lib.hid hr
  have Hb3 := Lib.hid (below_grown Hb2.out hgr hg hz2)
  have hz3 := Hb3.out.size
  clear hr hgr Hb2 H2 HP2
  go_wp2_with fail
  refine (HR1.out _ _ H3.out).mono ?_
  rintro e w4 ⟨rfl, rfl⟩
  go_wp2_with fail
  refine (HF.out _ _ H3.out).mono ?_
  rintro e w4 ⟨rfl, hr, hgr⟩
  have H4 := Lib.hid hr
  have Hb4 := Lib.hid (below_grown Hb3.out hgr hg hz3)
  have hz4 := Hb4.out.size
  clear hr hgr Hb3 H3 HF HR1
  go_wp2_with fail
  refine (HE.out _ _ H4.out).mono ?_
  rintro e w5 ⟨rfl, hr, hgr⟩
  have H5 := Lib.hid hr
  have Hb5 := Lib.hid (below_grown Hb4.out hgr hg hz4)
  have hz5 := Hb5.out.size
  clear hr hgr Hb4 H4 HE
  go_wp2_with fail
  refine (HON.out _ _ H5.out).mono ?_
  rintro e w6 ⟨rfl, rfl⟩
  go_wp2_with fail
  refine (HPW.out _ _ H5.out).mono ?_
  rintro e w6 ⟨rfl, hr, hgr⟩
  have H6 := Lib.hid hr
  have Hb6 := Lib.hid (below_grown Hb5.out hgr hg hz5)
  clear hr hgr Hb5 H5 HPW HON
  go_wp2_with fail
  refine (HR2.out _ _ H6.out).mono ?_
  rintro e w7 ⟨rfl, rfl⟩
  go_wp2_with fail
  refine (HOP.out _ _ H6.out).mono ?_
  rintro e w7 ⟨rfl, rfl⟩
  go_wp2
  go_ret
  exact ⟨rfl, Hb6.out⟩
end Go.Proofs.Ytegbkanfdodpcaa
