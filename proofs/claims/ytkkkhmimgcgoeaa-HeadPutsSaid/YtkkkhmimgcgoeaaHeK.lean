/- The program's valid of layer 11. Conditions: numbers of 64 bits. -/
import Derived.Test.YtkkkhmimgcgoeaaHeJ
namespace Go.Proofs.Ytkkkhmimgcgoeaa
open Go.RowKit

def validH (h : HD) : Bool := mayH h && decide (h.tot ≤ 16384)

theorem tmod4 (x : Int) : x.tmod 4 = 0 ↔ x % 4 = 0 := by
  rw [← Int.dvd_iff_tmod_eq_zero, Int.dvd_iff_emod_eq_zero]
theorem tmod8 (x : Int) : x.tmod 8 = 0 ↔ x % 8 = 0 := by
  rw [← Int.dvd_iff_tmod_eq_zero, Int.dvd_iff_emod_eq_zero]

set_option maxHeartbeats 1600000 in
set_option maxRecDepth 100000 in
theorem valid_any (h : HD) (w : World) (hh : inH h) :
    Calls Try.prog 12 #[.agg (hdC h)] w fun e w' => e = .returned (.bool (validH h)) ∧ Below w.heap.size w w' := by
  have HR0 := Lib.hid (fun W a n (ha : in64 a) => refers_any h a n W ha hh.1)
  obtain ⟨tt, st, sg, rv, bo, tx, sz⟩ := h
  obtain ⟨h1, h2, h3, h4, h5, h6, h7⟩ := hh
  simp only at h1 h2 h3 h4 h5 h6 h7
  show Calls _ _ #[.agg #[.int .i64 tt, .int .i64 st, .int .i64 sg, .int .i64 rv, .int .i64 bo, .int .i64 tx, .int .i64 sz]] _ _
  obtain ⟨W0, hW0⟩ : ∃ W0, W0 = w.alloc (.cells #[.int .i64 tt, .int .i64 st, .int .i64 sg, .int .i64 rv, .int .i64 bo, .int .i64 tx, .int .i64 sz] 23) := ⟨_, rfl⟩
  have HA0 : Hid (Arr W0 w.heap.size 23 #[.int .i64 tt, .int .i64 st, .int .i64 sg, .int .i64 rv, .int .i64 bo, .int .i64 tx, .int .i64 sz]) := by rw [hW0]; exact Arr.new w _ _
  have HB0 : Hid (Below w.heap.size w W0) := by rw [hW0]; exact (Below.refl _ _).alloc (Nat.le_refl _) _
  have HV : validH ⟨tt, st, sg, rv, bo, tx, sz⟩ = (decide (40 ≤ tt ∧ tt ≤ 16384 ∧ st % 4 = 0 ∧ rv % 8 = 0 ∧ 0 ≤ bo ∧ bo ≤ 4294967295) && (refB tt st sz && (refB tt sg tx && refB tt rv 0))) := by
    unfold validH mayH refB
    simp only [← Bool.decide_and]
    apply decide_eq_decide.2
    omega
  rw [HV]
  clear HV
  have R1 := Lib.hid (fun W => HR0.out W st sz h2)
  have R2 := Lib.hid (fun W => HR0.out W sg tx h3)
  have R3 := Lib.hid (fun W => HR0.out W rv 0 h4)
  simp only [hdC] at R1 R2 R3
  clear HR0 h1 h2 h3 h4 h5 h6 h7
  generalize refB tt st sz = b1 at *
  generalize refB tt sg tx = b2 at *
  generalize refB tt rv 0 = b3 at *
  have c0 := HA0.out.cell 0
  have c1 := HA0.out.cell 1
  have c2 := HA0.out.cell 2
  have c3 := HA0.out.cell 3
  have c4 := HA0.out.cell 4
  have c5 := HA0.out.cell 5
  have c6 := HA0.out.cell 6
  simp only [List.getElem?_toArray, List.getElem?_cons_zero, List.getElem?_cons_succ] at c0 c1 c2 c3 c4 c5 c6
  have HT4 := Lib.hid (tmod4 st)
  have HT8 := Lib.hid (tmod8 rv)
  by_cases q1 : 40 ≤ tt
  rotate_left
  · as_aux_lemma =>
      rw [show decide (40 ≤ tt ∧ tt ≤ 16384 ∧ st % 4 = 0 ∧ rv % 8 = 0 ∧ 0 ≤ bo ∧ bo ≤ 4294967295) = false from decide_eq_false (fun h => absurd h.1 q1), Bool.false_and]
      go_enter Try.func12, Try.ntmps12
      go_upto_region 1 with fail
      rw [← hW0]
      clear hW0
      go_wp2
      go_ret
      exact ⟨rfl, HB0.out⟩
  by_cases q2 : tt ≤ 16384
  rotate_left
  · as_aux_lemma =>
      rw [show decide (40 ≤ tt ∧ tt ≤ 16384 ∧ st % 4 = 0 ∧ rv % 8 = 0 ∧ 0 ≤ bo ∧ bo ≤ 4294967295) = false from decide_eq_false (fun h => absurd h.2.1 q2), Bool.false_and]
      go_enter Try.func12, Try.ntmps12
      go_upto_region 1 with fail
      rw [← hW0]
      clear hW0
      go_wp2
      go_ret
      exact ⟨rfl, HB0.out⟩
  by_cases q3 : st.tmod 4 = 0
  rotate_left
  · as_aux_lemma =>
      rw [show decide (40 ≤ tt ∧ tt ≤ 16384 ∧ st % 4 = 0 ∧ rv % 8 = 0 ∧ 0 ≤ bo ∧ bo ≤ 4294967295) = false from decide_eq_false (fun h => absurd (HT4.out.2 h.2.2.1) q3), Bool.false_and]
      have dq : (st.tmod 4 == 0) = false := by simpa using q3
      go_enter Try.func12, Try.ntmps12
      go_upto_region 1 with fail
      rw [← hW0]
      clear hW0
      go_wp2
      go_ret
      exact ⟨rfl, HB0.out⟩
  by_cases q4 : rv.tmod 8 = 0
  rotate_left
  · as_aux_lemma =>
      rw [show decide (40 ≤ tt ∧ tt ≤ 16384 ∧ st % 4 = 0 ∧ rv % 8 = 0 ∧ 0 ≤ bo ∧ bo ≤ 4294967295) = false from decide_eq_false (fun h => absurd (HT8.out.2 h.2.2.2.1) q4), Bool.false_and]
      have dq : (rv.tmod 8 == 0) = false := by simpa using q4
      go_enter Try.func12, Try.ntmps12
      go_upto_region 1 with fail
      rw [← hW0]
      clear hW0
      go_wp2
      go_ret
      exact ⟨rfl, HB0.out⟩
  have hs4 := HT4.out.1 q3
  have hs8 := HT8.out.1 q4
  have HS4 := Lib.hid hs4
  have HS8 := Lib.hid hs8
  clear hs4 hs8 HT4 HT8
  have HDB : Hid (decide (40 ≤ tt ∧ tt ≤ 16384 ∧ st % 4 = 0 ∧ rv % 8 = 0 ∧ 0 ≤ bo ∧ bo ≤ 4294967295) = decide (0 ≤ bo ∧ bo ≤ 4294967295)) := decide_eq_decide.2 ⟨fun h => h.2.2.2.2, fun h => ⟨q1, q2, HS4.out, HS8.out, h⟩⟩
  rw [HDB.out]
  clear HDB HS4 HS8
  obtain ⟨z, hz⟩ : ∃ z : Bool, z = (decide (0 ≤ bo ∧ bo ≤ 4294967295) && (b1 && (b2 && b3))) := ⟨_, rfl⟩
  rw [← hz]
  have HZ := Lib.hid hz
  clear hz
  go_enter Try.func12, Try.ntmps12
  go_upto_region 1 with fail
  rw [← hW0]
  clear hW0
  go_wp2_with (refine wpList_load_row rfl 23 (.tmp 1) rfl w.heap.size rfl _ _ _ _ HA0.out Try.underlying23 rfl (infoH hd0) ?_)
  refine (R1.out _).mono ?_
  rintro e w1 ⟨rfl, hb1⟩
  have HA1 := Lib.hid (HA0.out.below hb1 HA0.out.lt)
  have HB1 := Lib.hid (HB0.out.trans (hb1.mono HB0.out.size))
  clear hb1 R1 c0 c1 c2 c3 c4 c5 c6
  have c0 := HA1.out.cell 0
  have c1 := HA1.out.cell 1
  have c2 := HA1.out.cell 2
  have c3 := HA1.out.cell 3
  have c4 := HA1.out.cell 4
  have c5 := HA1.out.cell 5
  have c6 := HA1.out.cell 6
  simp only [List.getElem?_toArray, List.getElem?_cons_zero, List.getElem?_cons_succ] at c0 c1 c2 c3 c4 c5 c6
  by_cases p1 : b1 = true
  rotate_left
  · as_aux_lemma =>
      obtain rfl : b1 = false := by simpa using p1
      have HZ1 : Hid (z = false) := HZ.out.trans (by simp)
      clear HZ p1
      go_wp2
      go_ret
      exact ⟨by rw [HZ1.out]; rfl, HB1.out⟩
  subst p1
  go_wp2_with (refine wpList_load_row rfl 23 (.tmp 1) rfl w.heap.size rfl _ _ _ _ HA1.out Try.underlying23 rfl (infoH hd0) ?_)
  refine (R2.out _).mono ?_
  rintro e w2 ⟨rfl, hb2⟩
  have HA2 := Lib.hid (HA1.out.below hb2 HA1.out.lt)
  have HB2 := Lib.hid (HB1.out.trans (hb2.mono HB1.out.size))
  clear hb2 R2 c0 c1 c2 c3 c4 c5 c6
  have c0 := HA2.out.cell 0
  have c1 := HA2.out.cell 1
  have c2 := HA2.out.cell 2
  have c3 := HA2.out.cell 3
  have c4 := HA2.out.cell 4
  have c5 := HA2.out.cell 5
  have c6 := HA2.out.cell 6
  simp only [List.getElem?_toArray, List.getElem?_cons_zero, List.getElem?_cons_succ] at c0 c1 c2 c3 c4 c5 c6
  by_cases p2 : b2 = true
  rotate_left
  · as_aux_lemma =>
      obtain rfl : b2 = false := by simpa using p2
      have HZ1 : Hid (z = false) := HZ.out.trans (by simp)
      clear HZ p2
      go_wp2
      go_ret
      exact ⟨by rw [HZ1.out]; rfl, HB2.out⟩
  subst p2
  go_wp2_with (refine wpList_load_row rfl 23 (.tmp 1) rfl w.heap.size rfl _ _ _ _ HA2.out Try.underlying23 rfl (infoH hd0) ?_)
  refine (R3.out _).mono ?_
  rintro e w3 ⟨rfl, hb3⟩
  have HA3 := Lib.hid (HA2.out.below hb3 HA2.out.lt)
  have HB3 := Lib.hid (HB2.out.trans (hb3.mono HB2.out.size))
  clear hb3 R3 c0 c1 c2 c3 c4 c5 c6
  have c0 := HA3.out.cell 0
  have c1 := HA3.out.cell 1
  have c2 := HA3.out.cell 2
  have c3 := HA3.out.cell 3
  have c4 := HA3.out.cell 4
  have c5 := HA3.out.cell 5
  have c6 := HA3.out.cell 6
  simp only [List.getElem?_toArray, List.getElem?_cons_zero, List.getElem?_cons_succ] at c0 c1 c2 c3 c4 c5 c6
  by_cases p3 : b3 = true
  rotate_left
  · as_aux_lemma =>
      obtain rfl : b3 = false := by simpa using p3
      have HZ1 : Hid (z = false) := HZ.out.trans (by simp)
      clear HZ p3
      go_wp2
      go_ret
      exact ⟨by rw [HZ1.out]; rfl, HB3.out⟩
  subst p3
  have HZ1 : Hid (z = decide (0 ≤ bo ∧ bo ≤ 4294967295)) := HZ.out.trans (by simp)
  clear HZ
  go_wp2
  all_goals
    go_ret
    refine ⟨congrArg (fun b => Ending.returned (.bool b)) ?_, HB3.out⟩
    rw [HZ1.out]
    first | (symm; apply decide_eq_false; omega) | (symm; apply decide_eq_true; omega) | (apply decide_eq_decide.2; omega)
end Go.Proofs.Ytkkkhmimgcgoeaa
