/- The program's together of layer 15: the parts of a tree behind their header. Conditions: strings of at most 2^40 bytes; a number of 64 bits. -/
import Derived.Test.YtfcclppgjfkfoaaGreatDoorMg21
import Derived.Test.YtfcclppgjfkfoaaGreatDoorMg37
import Derived.Test.YtfcclppgjfkfoaaGreatDoorMg36
namespace Go.Proofs.YtfcclppgjfkfoaaGreatDoor
open Go.RowKit

theorem rep_zero (z : Nat) : Lib.repeatL (ByteArray.mk #[0]).data.toList z = List.replicate z 0 := by
  show Lib.repeatL [0] z = _
  induction z with
  | zero => rfl
  | succ z ih => rw [List.replicate_succ, Lib.repeatL, ih]; rfl
/-- The parts of a tree together. -/
def togR (bo : Int) (r a b : ByteArray) : List UInt8 × Nat :=
  if 16384 < up4 (40 + r.size + a.size + b.size) then ([], 7)
  else if (putH (headE r.size a.size b.size bo)).2 ≠ 0 then ([], (putH (headE r.size a.size b.size bo)).2)
  else ((putH (headE r.size a.size b.size bo)).1 ++ (r.data.toList ++ (a.data.toList ++ (b.data.toList ++ List.replicate (up4 (40 + r.size + a.size + b.size) - (40 + r.size + a.size + b.size)) 0))), 0)
/-- What stands in the builder behind so many parts. -/
def catQ (a b c d e : ByteArray) : Nat → List UInt8
  | 0 => []
  | 1 => a.data.toList
  | 2 => a.data.toList ++ b.data.toList
  | 3 => a.data.toList ++ b.data.toList ++ c.data.toList
  | 4 => a.data.toList ++ b.data.toList ++ c.data.toList ++ d.data.toList
  | _ => a.data.toList ++ b.data.toList ++ c.data.toList ++ d.data.toList ++ e.data.toList

theorem catQ_len (a b c d e : ByteArray) : ∀ k, (catQ a b c d e k).length ≤ a.size + b.size + c.size + d.size + e.size := fun k => by
  have h : ∀ x : ByteArray, x.data.toList.length = x.size := fun _ => rfl
  match k with
  | 0 => exact Nat.zero_le _
  | 1 => rw [catQ, h]; omega
  | 2 => rw [catQ, List.length_append, h, h]; omega
  | 3 => rw [catQ, List.length_append, List.length_append, h, h, h]; omega
  | 4 => rw [catQ, List.length_append, List.length_append, List.length_append, h, h, h, h]; omega
  | k + 5 =>
    show (a.data.toList ++ b.data.toList ++ c.data.toList ++ d.data.toList ++ e.data.toList).length ≤ _
    rw [List.length_append, List.length_append, List.length_append, List.length_append, h, h, h, h, h]
    omega

/-- An element of an array of five strings. -/
theorem idx5 (a b c d e x : ByteArray) (k : Int) (hk : 0 ≤ k ∧ k < 5) (hx : ([.string a, .string b, .string c, .string d, .string e] : List Value)[k.toNat]? = some (.string x)) (w : World) :
    (Instr.index 123 (.agg #[.string a, .string b, .string c, .string d, .string e]) (.int .i64 k)).run Tryz.prog w = .ok (.string x) w := by
  have h0 := hk.1
  have h5 := hk.2
  simp [Instr.index, run_underlying Tryz.underlying123, asIntOf, go_sem, h0, h5]
  exact (List.getElem?_eq_some_iff.1 hx).2

set_option maxHeartbeats 3200000 in
set_option maxRecDepth 100000 in
theorem tog_any (bo : Int) (R A B : ByteArray) (w : World) (hbo : in64 bo) (hr : R.size ≤ 1099511627776) (ha : A.size ≤ 1099511627776) (hb9 : B.size ≤ 1099511627776) :
    Calls Tryz.prog 27 #[.int .i64 bo, .string R, .string A, .string B] w fun e w' => e = .returned (.tuple #[.string ⟨(togR bo R A B).1.toArray⟩, .int .i64 ((togR bo R A B).2 : Int)]) ∧ Below w.heap.size w w' := by
  obtain ⟨n0, hn0⟩ : ∃ n0 : Nat, n0 = 40 + R.size + A.size + B.size := ⟨_, rfl⟩
  obtain ⟨tot, htt⟩ : ∃ tot : Nat, tot = up4 n0 := ⟨_, rfl⟩
  have htge := up4_ge n0
  have htlt := up4_lt n0
  rw [← htt] at htge htlt
  have HUP : Hid (∀ W, Calls Tryz.prog 64 #[.int .i64 ((40 : Int) + R.size + A.size + B.size)] W fun e w' => e = .returned (.int .i64 (tot : Int)) ∧ W = w') := fun W => by
    have := up_any ((n0 : Nat) : Int) W
    rw [up_of n0 (by omega), ← htt] at this
    rw [show ((40 : Int) + R.size + A.size + B.size) = ((n0 : Nat) : Int) by omega]
    exact this
  have HE : Hid (togR bo R A B = if 16384 < tot then ([], 7) else if (putH (headE R.size A.size B.size bo)).2 ≠ 0 then ([], (putH (headE R.size A.size B.size bo)).2) else ((putH (headE R.size A.size B.size bo)).1 ++ (R.data.toList ++ (A.data.toList ++ (B.data.toList ++ List.replicate (tot - n0) 0))), 0)) := by
    unfold Hid togR
    rw [htt, hn0]
  generalize togR bo R A B = TT at *
  have HN0 := Lib.hid hn0
  have HTT := Lib.hid htt
  have HBO := Lib.hid hbo
  clear hn0 htt hbo
  have hA10 := Arr.new w 51 #[.int .i64 0, .int .i64 0, .int .i64 0, .int .i64 40, .int .i64 bo, .int .i64 (B.size : Int), .int .i64 (A.size : Int)]
  have hb : Below w.heap.size w (w.alloc (.cells #[.int .i64 0, .int .i64 0, .int .i64 0, .int .i64 40, .int .i64 bo, .int .i64 (B.size : Int), .int .i64 (A.size : Int)] 51)) := (Below.refl _ _).alloc (Nat.le_refl _) _
  have HB8 := Lib.hid hb
  clear hb
  go_enter Tryz.func27, Tryz.ntmps27
  go_upto_region 2 with fail
  generalize w.alloc (.cells #[.int .i64 0, .int .i64 0, .int .i64 0, .int .i64 40, .int .i64 bo, .int .i64 (B.size : Int), .int .i64 (A.size : Int)] 51) = W8 at *
  generalize hg10 : w.heap.size = g10 at *
  have HW7 : Hid (g10 ≤ w.heap.size) := Nat.le_of_eq hg10.symm
  have HGE := Lib.hid hg10
  clear hg10
  have q3 : W8.cell? ⟨g10, 3, none⟩ = some (.int .i64 40) := hA10.cell 3
  have q1 : W8.cell? ⟨g10, 1, none⟩ = some (.int .i64 0) := hA10.cell 1
  have f1 := hA10.frozen 1
  have hA9 : Arr (W8.setCell ⟨g10, 1, none⟩ (.int .i64 ((40 : Int) + R.size))) g10 51 #[.int .i64 0, .int .i64 ((40 : Int) + R.size), .int .i64 0, .int .i64 40, .int .i64 bo, .int .i64 (B.size : Int), .int .i64 (A.size : Int)] := hA10.put 1 _
  have HB9 := Lib.hid (HB8.out.setCell (p := ⟨g10, 1, none⟩) (Nat.le_refl _) (.int .i64 ((40 : Int) + R.size)))
  clear hA10 HB8
  go_upto_region 3 with fail
  generalize W8.setCell ⟨g10, 1, none⟩ (.int .i64 ((40 : Int) + R.size)) = W9 at *
  clear q3 q1 f1
  have q1 : W9.cell? ⟨g10, 1, none⟩ = some (.int .i64 ((40 : Int) + R.size)) := hA9.cell 1
  have q6 : W9.cell? ⟨g10, 6, none⟩ = some (.int .i64 (A.size : Int)) := hA9.cell 6
  have q2 : W9.cell? ⟨g10, 2, none⟩ = some (.int .i64 0) := hA9.cell 2
  have f2 := hA9.frozen 2
  have hA11 : Arr (W9.setCell ⟨g10, 2, none⟩ (.int .i64 ((40 : Int) + R.size + A.size))) g10 51 #[.int .i64 0, .int .i64 ((40 : Int) + R.size), .int .i64 ((40 : Int) + R.size + A.size), .int .i64 40, .int .i64 bo, .int .i64 (B.size : Int), .int .i64 (A.size : Int)] := hA9.put 2 _
  have HB11 := Lib.hid (HB9.out.setCell (p := ⟨g10, 2, none⟩) (Nat.le_refl _) (.int .i64 ((40 : Int) + R.size + A.size)))
  clear hA9 HB9
  go_upto_region 4 with fail
  generalize W9.setCell ⟨g10, 2, none⟩ (.int .i64 ((40 : Int) + R.size + A.size)) = W10 at *
  clear q1 q6 q2 f2
  have q2 : W10.cell? ⟨g10, 2, none⟩ = some (.int .i64 ((40 : Int) + R.size + A.size)) := hA11.cell 2
  have q5 : W10.cell? ⟨g10, 5, none⟩ = some (.int .i64 (B.size : Int)) := hA11.cell 5
  have q0 : W10.cell? ⟨g10, 0, none⟩ = some (.int .i64 0) := hA11.cell 0
  have f0 := hA11.frozen 0
  have hA12 : Arr (W10.setCell ⟨g10, 0, none⟩ (.int .i64 (tot : Int))) g10 51 #[.int .i64 (tot : Int), .int .i64 ((40 : Int) + R.size), .int .i64 ((40 : Int) + R.size + A.size), .int .i64 40, .int .i64 bo, .int .i64 (B.size : Int), .int .i64 (A.size : Int)] := hA11.put 0 _
  have HB12 := Lib.hid (HB11.out.setCell (p := ⟨g10, 0, none⟩) (Nat.le_refl _) (.int .i64 (tot : Int)))
  clear hA11 HB11
  go_upto_region 6 with (go_at_call 64; refine (HUP.out _).mono ?_; rintro e wu ⟨rfl, rfl⟩)
  generalize W10.setCell ⟨g10, 0, none⟩ (.int .i64 (tot : Int)) = W11 at *
  clear q2 q5 q0 f0 HUP
  have q0 : W11.cell? ⟨g10, 0, none⟩ = some (.int .i64 (tot : Int)) := hA12.cell 0
  have HA11 := Lib.hid hA12
  by_cases h : 16384 < tot
  · have HE : Hid (TT = ([], 7)) := by unfold Hid; rw [HE.out, if_pos h]
    have d1 : (16384 : Int) < (tot : Int) := by omega
    clear h hA12
    go_wp2
    go_ret2
    exact ⟨by rw [HE.out]; rfl, by rw [HGE.out]; exact HB12.out⟩
  replace HE := Lib.hid (HE.out.trans (if_neg h))
  have d1 : (tot : Int) ≤ 16384 := by omega
  have q1 : W11.cell? ⟨g10, 1, none⟩ = some (.int .i64 ((40 : Int) + R.size)) := hA12.cell 1
  have q2 : W11.cell? ⟨g10, 2, none⟩ = some (.int .i64 ((40 : Int) + R.size + A.size)) := hA12.cell 2
  have q3 : W11.cell? ⟨g10, 3, none⟩ = some (.int .i64 40) := hA12.cell 3
  have q4 : W11.cell? ⟨g10, 4, none⟩ = some (.int .i64 bo) := hA12.cell 4
  have q5 : W11.cell? ⟨g10, 5, none⟩ = some (.int .i64 (B.size : Int)) := hA12.cell 5
  have q6 : W11.cell? ⟨g10, 6, none⟩ = some (.int .i64 (A.size : Int)) := hA12.cell 6
  clear hA12
  have hbnd : R.size ≤ 16384 ∧ A.size ≤ 16384 ∧ B.size ≤ 16384 := by have := HN0.out; omega
  obtain ⟨hbr, hba, hbb⟩ := hbnd
  have HPH : Hid (∀ W, Calls Tryz.prog 65 #[.agg #[.int .i64 (tot : Int), .int .i64 ((40 : Int) + R.size), .int .i64 ((40 : Int) + R.size + A.size), .int .i64 40, .int .i64 bo, .int .i64 (B.size : Int), .int .i64 (A.size : Int)]] W fun e w' => e = .returned (.tuple #[.string ⟨(putH (headE R.size A.size B.size bo)).1.toArray⟩, .int .i64 ((putH (headE R.size A.size B.size bo)).2 : Int)]) ∧ Below W.heap.size W w') := fun W => by
    have e0 : ((up4 (40 + R.size + A.size + B.size) : Nat) : Int) = (tot : Int) := by rw [← HN0.out, ← HTT.out]
    have := hput_any (headE R.size A.size B.size bo) W (by
      have hb := HBO.out
      unfold in64 at hb
      unfold inH headE in64
      simp only
      omega)
    have e : hdC (headE R.size A.size B.size bo) = #[.int .i64 (tot : Int), .int .i64 ((40 : Int) + R.size), .int .i64 ((40 : Int) + R.size + A.size), .int .i64 40, .int .i64 bo, .int .i64 (B.size : Int), .int .i64 (A.size : Int)] := by
      rw [HTT.out, HN0.out]
      simp [hdC, headE]
    rw [← e]; exact this
  have HKL : Hid ((putH (headE R.size A.size B.size bo)).2 = 0 → (putH (headE R.size A.size B.size bo)).1.length = 40) := fun h => (putH_len h).1
  rcases hph : putH (headE R.size A.size B.size bo) with ⟨kl, gk⟩
  rw [hph] at HPH HE HKL
  simp only at HPH HE HKL
  obtain ⟨KB, hKB⟩ : ∃ KB : ByteArray, KB = ⟨kl.toArray⟩ := ⟨_, rfl⟩
  rw [← hKB] at HPH
  have HKB : Hid (KB.data.toList = kl) := by unfold Hid; rw [hKB]
  have HKZ : Hid (KB.size = kl.length) := by unfold Hid; rw [hKB, ba_size]
  clear hph hKB h
  go_wp2_with fail
  refine (HPH.out _).mono ?_
  rintro e w12 ⟨rfl, hb⟩
  clear q0 q1 q2 q3 q4 q5 q6 HPH
  have HB13 := Lib.hid (HB12.out.trans (hb.mono (Nat.le_trans HW7.out HB12.out.size)))
  have q0 : w12.cell? ⟨g10, 0, none⟩ = some (.int .i64 (tot : Int)) := (HA11.out.below hb HA11.out.lt).cell 0
  have HGL : Hid (g10 < w12.heap.size) := (HA11.out.below hb HA11.out.lt).lt
  clear hb HB12 HA11
  by_cases h : gk ≠ 0
  · have HE : Hid (TT = ([], gk)) := by unfold Hid; rw [HE.out, if_pos h]
    have d2 : ((gk : Int) != 0) = true := by simp; omega
    clear h
    go_wp2
    go_ret2
    exact ⟨by rw [HE.out]; rfl, by rw [HGE.out]; exact HB13.out⟩
  replace HE := Lib.hid (HE.out.trans (if_neg h))
  obtain rfl : gk = 0 := Decidable.not_not.1 h
  clear h
  have HK40 : Hid (KB.size ≤ 40) := by unfold Hid; rw [HKZ.out, HKL.out rfl]; exact Nat.le_refl _
  clear HKL HKZ
  obtain ⟨ZB, hZB⟩ : ∃ ZB : ByteArray, ZB = ⟨(List.replicate (tot - n0) (0 : UInt8)).toArray⟩ := ⟨_, rfl⟩
  have hnt : ((tot : Int) - ((40 : Int) + R.size + A.size + B.size)) = ((tot - n0 : Nat) : Int) := by have := HN0.out; omega
  have HRP : Hid (∀ W, Calls Tryz.prog 66 #[.string ⟨#[0]⟩, .int .i64 ((tot : Int) - ((40 : Int) + R.size + A.size + B.size))] W fun e w' => e = .returned (.string ZB) ∧ Below W.heap.size W w') := fun W => by
    have := Tryz.strings_Repeat ⟨#[0]⟩ (tot - n0) W (by omega) (by show 1 * (tot - n0) ≤ _; omega)
    rw [rep_zero, ← hZB] at this
    rw [hnt]; exact this
  have HZL : Hid (ZB.data.toList = List.replicate (tot - n0) 0) := by unfold Hid; rw [hZB]
  have HZZ : Hid (ZB.size ≤ 16384) := by unfold Hid; rw [hZB, ba_size, List.length_replicate]; omega
  have HE : Hid (TT = (catQ KB R A B ZB 5, 0)) := by
    unfold Hid
    rw [HE.out, ← HKB.out, ← HZL.out]
    simp [catQ]
  have HI0 := Lib.hid (Lib.fresh_isBuilder 103 5 w12)
  have hb : Below w12.heap.size w12 (w12.alloc (.cells #[.pointer none, .slice none 0 0] 103)) := (Below.refl _ _).alloc (Nat.le_refl _) _
  have HB14 := Lib.hid hb
  have q0' : (w12.alloc (.cells #[.pointer none, .slice none 0 0] 103)).cell? ⟨g10, 0, none⟩ = some (.int .i64 (tot : Int)) := (hb.cell (p := ⟨g10, 0, none⟩) HGL.out).trans q0
  clear hb hZB HZL HKB hnt
  go_upto_region 12 with fail
  generalize w12.alloc (.cells #[.pointer none, .slice none 0 0] 103) = W14 at *
  generalize hgb : w12.heap.size = gb at *
  clear q0
  have q0 := q0'
  clear q0'
  have h0 : (0 : Int) ≤ R.size := by omega
  have HGB := Lib.hid hgb
  clear hgb
  go_wp2_with fail
  refine (HRP.out _).mono ?_
  rintro e w15 ⟨rfl, hb⟩
  have HI1 := Lib.hid (isBuilder_below HI0.out hb)
  have HB15 := Lib.hid (HB14.out.trans (hb.mono (by have := HB14.out.size; rw [HGB.out] at this; exact this)))
  clear hb HI0 q0 HRP HB14
  go_wp2
  go_loopw [64] (fun i wr => ∃ k : Nat, k ≤ 5 ∧ i = .int .i64 k ∧ Lib.IsBuilder 103 5 gb gb (Lib.byteCells (catQ KB R A B ZB k)) wr ∧ Below gb w12 wr)
    (fun i _ => 5 - (intOf i).toNat)
  case atStart => exact ⟨0, Nat.zero_le _, rfl, HI1.out, HB15.out⟩
  case round =>
    clear HI1 HB15
    obtain ⟨k, hk, rfl, hI, hb⟩ := hrel
    have HI := Lib.hid hI
    have HB := Lib.hid hb
    have hgw : gb ≤ wr.heap.size := by have := hb.size; rw [HGB.out] at this; exact this
    clear hI hb
    have hk5 : k = 0 ∨ k = 1 ∨ k = 2 ∨ k = 3 ∨ k = 4 ∨ k = 5 := by omega
    rcases hk5 with rfl | rfl | rfl | rfl | rfl | rfl
    · as_aux_lemma =>
          have hix := fun W => idx5 KB R A B ZB KB 0 (by decide) rfl W
          go_wp2_with fail
          refine (Tryz.Builder_WriteString gb gb _ KB _ HI.out (by rw [Lib.byteCells_length]; have hq := HK40.out; have hz := HZZ.out; refine Nat.le_trans (Nat.add_le_add_right (catQ_len KB R A B ZB 0) _) ?_; omega) hgw).mono ?_
          rintro e w4 ⟨rfl, hI4, hb4⟩
          have HB4 := Lib.hid (HB.out.trans hb4)
          have HI4 := Lib.hid hI4
          clear hb4 hI4 HB HI
          go_wp2
          go_roundw
          case rel => exact ⟨1, by omega, by go_num, .inr (by rw [Lib.strCells_eq, ← Lib.byteCells_append] at HI4; exact HI4.out), HB4.out⟩
          case measure => simp [intOf]
    · as_aux_lemma =>
          have hix := fun W => idx5 KB R A B ZB R 1 (by decide) rfl W
          go_wp2_with fail
          refine (Tryz.Builder_WriteString gb gb _ R _ HI.out (by rw [Lib.byteCells_length]; have hq := HK40.out; have hz := HZZ.out; refine Nat.le_trans (Nat.add_le_add_right (catQ_len KB R A B ZB 1) _) ?_; omega) hgw).mono ?_
          rintro e w4 ⟨rfl, hI4, hb4⟩
          have HB4 := Lib.hid (HB.out.trans hb4)
          have HI4 := Lib.hid hI4
          clear hb4 hI4 HB HI
          go_wp2
          go_roundw
          case rel => exact ⟨2, by omega, by go_num, .inr (by rw [Lib.strCells_eq, ← Lib.byteCells_append] at HI4; exact HI4.out), HB4.out⟩
          case measure => simp [intOf]
    · as_aux_lemma =>
          have hix := fun W => idx5 KB R A B ZB A 2 (by decide) rfl W
          go_wp2_with fail
          refine (Tryz.Builder_WriteString gb gb _ A _ HI.out (by rw [Lib.byteCells_length]; have hq := HK40.out; have hz := HZZ.out; refine Nat.le_trans (Nat.add_le_add_right (catQ_len KB R A B ZB 2) _) ?_; omega) hgw).mono ?_
          rintro e w4 ⟨rfl, hI4, hb4⟩
          have HB4 := Lib.hid (HB.out.trans hb4)
          have HI4 := Lib.hid hI4
          clear hb4 hI4 HB HI
          go_wp2
          go_roundw
          case rel => exact ⟨3, by omega, by go_num, .inr (by rw [Lib.strCells_eq, ← Lib.byteCells_append] at HI4; exact HI4.out), HB4.out⟩
          case measure => simp [intOf]
    · as_aux_lemma =>
          have hix := fun W => idx5 KB R A B ZB B 3 (by decide) rfl W
          go_wp2_with fail
          refine (Tryz.Builder_WriteString gb gb _ B _ HI.out (by rw [Lib.byteCells_length]; have hq := HK40.out; have hz := HZZ.out; refine Nat.le_trans (Nat.add_le_add_right (catQ_len KB R A B ZB 3) _) ?_; omega) hgw).mono ?_
          rintro e w4 ⟨rfl, hI4, hb4⟩
          have HB4 := Lib.hid (HB.out.trans hb4)
          have HI4 := Lib.hid hI4
          clear hb4 hI4 HB HI
          go_wp2
          go_roundw
          case rel => exact ⟨4, by omega, by go_num, .inr (by rw [Lib.strCells_eq, ← Lib.byteCells_append] at HI4; exact HI4.out), HB4.out⟩
          case measure => simp [intOf]
    · as_aux_lemma =>
          have hix := fun W => idx5 KB R A B ZB ZB 4 (by decide) rfl W
          go_wp2_with fail
          refine (Tryz.Builder_WriteString gb gb _ ZB _ HI.out (by rw [Lib.byteCells_length]; have hq := HK40.out; have hz := HZZ.out; refine Nat.le_trans (Nat.add_le_add_right (catQ_len KB R A B ZB 4) _) ?_; omega) hgw).mono ?_
          rintro e w4 ⟨rfl, hI4, hb4⟩
          have HB4 := Lib.hid (HB.out.trans hb4)
          have HI4 := Lib.hid hI4
          clear hb4 hI4 HB HI
          go_wp2
          go_roundw
          case rel => exact ⟨5, by omega, by go_num, .inr (by rw [Lib.strCells_eq, ← Lib.byteCells_append] at HI4; exact HI4.out), HB4.out⟩
          case measure => simp [intOf]
    · go_wp2_with fail
      refine (Tryz.Builder_String_any gb gb _ _ HI.out hgw).mono ?_
      rintro e w5 ⟨rfl, hb5⟩
      have HB5 := Lib.hid (HB.out.trans hb5)
      clear hb5 HB HI
      go_wp2
      go_ret2
      exact ⟨by rw [HE.out]; rfl, by rw [HGE.out]; exact HB13.out.trans (HB5.out.mono (by have := HGL.out; omega))⟩
end Go.Proofs.YtfcclppgjfkfoaaGreatDoor
