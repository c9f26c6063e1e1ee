/- The program's valid of layer 11. Conditions: numbers of 64 bits. -/
import Derived.Test.YtgfdbmbgldeljaaGreatMg27
import Derived.Test.YtgfdbmbgldeljaaGreatMg0
import Derived.BigQuiet
import Derived.Test.YtgfdbmbgldeljaaGreatMg15
namespace Go.Proofs.YtgfdbmbgldeljaaGreat
open Go.RowKit

def validH (h : HD) : Bool := mayH h && decide (h.tot ≤ 16384)

theorem tmod4 (x : Int) : x.tmod 4 = 0 ↔ x % 4 = 0 := by
  rw [← Int.dvd_iff_tmod_eq_zero, Int.dvd_iff_emod_eq_zero]
theorem tmod8 (x : Int) : x.tmod 8 = 0 ↔ x % 8 = 0 := by
  rw [← Int.dvd_iff_tmod_eq_zero, Int.dvd_iff_emod_eq_zero]

set_option maxHeartbeats 1600000 in
set_option maxRecDepth 100000 in
theorem valid_any (h : HD) (w : World) (hh : inH h) :
    Calls Tryz.prog 55 #[.agg (hdC h)] w fun e w' => e = .returned (.bool (validH h)) ∧ Below w.heap.size w w' := by
  have HR0 := Lib.hid (fun W a n (ha : in64 a) => refers_any h a n W ha hh.1)
  obtain ⟨tt, st, sg, rv, bo, tx, sz⟩ := h
  obtain ⟨h1, h2, h3, h4, h5, h6, h7⟩ := hh
  simp only at h1 h2 h3 h4 h5 h6 h7
  show Calls _ _ #[.agg #[.int .i64 tt, .int .i64 st, .int .i64 sg, .int .i64 rv, .int .i64 bo, .int .i64 tx, .int .i64 sz]] _ _
  obtain ⟨W0, hW0⟩ : ∃ W0, W0 = w.alloc (.cells #[.int .i64 tt, .int .i64 st, .int .i64 sg, .int .i64 rv, .int .i64 bo, .int .i64 tx, .int .i64 sz] 54) := ⟨_, rfl⟩
  have HA0 : Hid (Arr W0 w.heap.size 54 #[.int .i64 tt, .int .i64 st, .int .i64 sg, .int .i64 rv, .int .i64 bo, .int .i64 tx, .int .i64 sz]) := by rw [hW0]; exact Arr.new w _ _
  have HB0 : Hid (Below w.heap.size w W0) := by rw [hW0]; exact (Below.refl _ _).alloc (Nat.le_refl _) _
  have HV : validH ⟨tt, st, sg, rv, bo, tx, sz⟩ = (decide (40 ≤ tt ∧ tt ≤ 16384 ∧ st % 4 = 0 ∧ rv % 8 = 0 ∧ 0 ≤ bo ∧ bo ≤ 4294967295) && (refB tt st sz && (refB tt sg tx && refB tt rv 0))) := by
    unfold validH mayH refB
    simp only [← Bool.decide_and]
    apply decide_eq_decide.2
    omega
  rw [HV]
  clear HV
  have R1 := Lib.hid (fun W => HR0.out W st sz h2)
  have R2 := Lib.hid (fun W => HR0.out W sg tx h3)
  have R3 := Lib.hid (fun W => HR0.out W rv 0 h4)
  simp only [hdC] at R1 R2 R3
  clear HR0 h1 h2 h3 h4 h5 h6 h7
  generalize refB tt st sz = b1 at *
  generalize refB tt sg tx = b2 at *
  generalize refB tt rv 0 = b3 at *
  have c0 := HA0.out.cell 0
  have c1 := HA0.out.cell 1
  have c2 := HA0.out.cell 2
  have c3 := HA0.out.cell 3
  have c4 := HA0.out.cell 4
  have c5 := HA0.out.cell 5
  have c6 := HA0.out.cell 6
  simp only [List.getElem?_toArray, List.getElem?_cons_zero, List.getElem?_cons_succ] at c0 c1 c2 c3 c4 c5 c6
  have HT4 := Lib.hid (tmod4 st)
  have HT8 := Lib.hid (tmod8 rv)
  by_cases q1 : 40 ≤ tt
  rotate_left
  · as_aux_lemma =>
      rw [show decide (40 ≤ tt ∧ tt ≤ 16384 ∧ st % 4 = 0 ∧ rv % 8 = 0 ∧ 0 ≤ bo ∧ bo ≤ 4294967295) = false from decide_eq_false (fun h => absurd h.1 q1), Bool.false_and]
      go_enter Tryz.func55, Tryz.ntmps55
      go_upto_region 1 with fail
      rw [← hW0]
      clear hW0
      go_wp2
      go_ret
      exact ⟨rfl, HB0.out⟩
  by_cases q2 : tt ≤ 16384
  rotate_left
  · as_aux_lemma =>
      rw [show decide (40 ≤ tt ∧ tt ≤ 16384 ∧ st % 4 = 0 ∧ rv % 8 = 0 ∧ 0 ≤ bo ∧ bo ≤ 4294967295) = false from decide_eq_false (fun h => absurd h.2.1 q2), Bool.false_and]
      go_enter Tryz.func55, Tryz.ntmps55
      go_upto_region 1 with fail
      rw [← hW0]
      clear hW0
      go_wp2
      go_ret
      exact ⟨rfl, HB0.out⟩
  by_cases q3 : st.tmod 4 = 0
  rotate_left
  · as_aux_lemma =>
      rw [show decide (40 ≤ tt ∧ tt ≤ 16384 ∧ st % 4 = 0 ∧ rv % 8 = 0 ∧ 0 ≤ bo ∧ bo ≤ 4294967295) = false from decide_eq_false (fun h => absurd (HT4.out.2 h.2.2.1) q3), Bool.false_and]
      have dq : (st.tmod 4 == 0) = false := by simpa using q3
      go_enter Tryz.func55, Tryz.ntmps55
      go_upto_region 1 with fail
      rw [← hW0]
      clear hW0
      go_wp2
      go_ret
      exact ⟨rfl, HB0.out⟩
  by_cases q4 : rv.tmod 8 = 0
  rotate_left
  · as_aux_lemma =>
      rw [show decide (40 ≤ tt ∧ tt ≤ 16384 ∧ st % 4 = 0 ∧ rv % 8 = 0 ∧ 0 ≤ bo ∧ bo ≤ 4294967295) = false from decide_eq_false (fun h => absurd (HT8.out.2 h.2.2.2.1) q4), Bool.false_and]
      have dq : (rv.tmod 8 == 0) = false := by simpa using q4
      go_enter Tryz.func55, Tryz.ntmps55
      go_upto_region 1 with fail
      rw [← hW0]
      clear hW0
      go_wp2
      go_ret
      exact ⟨rfl, HB0.out⟩
  have hs4 := HT4.out.1 q3
  have hs8 := HT8.out.1 q4
  have HS4 := Lib.hid hs4
  have HS8 := Lib.hid hs8
  clear hs4 hs8 HT4 HT8
  have HDB : Hid (decide (40 ≤ tt ∧ tt ≤ 16384 ∧ st % 4 = 0 ∧ rv % 8 = 0 ∧ 0 ≤ bo ∧ bo ≤ 4294967295) = decide (0 ≤ bo ∧ bo ≤ 4294967295)) := decide_eq_decide.2 ⟨fun h => h.2.2.2.2, fun h => ⟨q1, q2, HS4.out, HS8.out, h⟩⟩
  rw [HDB.out]
  clear HDB HS4 HS8
  obtain ⟨z, hz⟩ : ∃ z : Bool, z = (decide (0 ≤ bo ∧ bo ≤ 4294967295) && (b1 && (b2 && b3))) := ⟨_, rfl⟩
  rw [← hz]
  have HZ := Lib.hid hz
  clear hz
  go_enter Tryz.func55, Tryz.ntmps55
  go_upto_region 1 with fail
  rw [← hW0]
  clear hW0
  go_wp2_with (refine wpList_load_row rfl 54 (.tmp 1) rfl w.heap.size rfl _ _ _ _ HA0.out Tryz.underlying54 rfl (infoH hd0) ?_)
  refine (R1.out _).mono ?_
  rintro e w1 ⟨rfl, hb1⟩
  have HA1 := Lib.hid (HA0.out.below hb1 HA0.out.lt)
  have HB1 := Lib.hid (HB0.out.trans (hb1.mono HB0.out.size))
  clear hb1 R1 c0 c1 c2 c3 c4 c5 c6
  have c0 := HA1.out.cell 0
  have c1 := HA1.out.cell 1
  have c2 := HA1.out.cell 2
  have c3 := HA1.out.cell 3
  have c4 := HA1.out.cell 4
  have c5 := HA1.out.cell 5
  have c6 := HA1.out.cell 6
  simp only [List.getElem?_toArray, List.getElem?_cons_zero, List.getElem?_cons_succ] at c0 c1 c2 c3 c4 c5 c6
  by_cases p1 : b1 = true
  rotate_left
  · as_aux_lemma =>
      obtain rfl : b1 = false := by simpa using p1
      have HZ1 : Hid (z = false) := HZ.out.trans (by simp)
      clear HZ p1
      go_wp2
      go_ret
      exact ⟨by rw [HZ1.out]; rfl, HB1.out⟩
  subst p1
  go_wp2_with (refine wpList_load_row rfl 54 (.tmp 1) rfl w.heap.size rfl _ _ _ _ HA1.out Tryz.underlying54 rfl (infoH hd0) ?_)
  refine (R2.out _).mono ?_
  rintro e w2 ⟨rfl, hb2⟩
  have HA2 := Lib.hid (HA1.out.below hb2 HA1.out.lt)
  have HB2 := Lib.hid (HB1.out.trans (hb2.mono HB1.out.size))
  clear hb2 R2 c0 c1 c2 c3 c4 c5 c6
  have c0 := HA2.out.cell 0
  have c1 := HA2.out.cell 1
  have c2 := HA2.out.cell 2
  have c3 := HA2.out.cell 3
  have c4 := HA2.out.cell 4
  have c5 := HA2.out.cell 5
  have c6 := HA2.out.cell 6
  simp only [List.getElem?_toArray, List.getElem?_cons_zero, List.getElem?_cons_succ] at c0 c1 c2 c3 c4 c5 c6
  by_cases p2 : b2 = true
  rotate_left
  · as_aux_lemma =>
      obtain rfl : b2 = false := by simpa using p2
      have HZ1 : Hid (z = false) := HZ.out.trans (by simp)
      clear HZ p2
      go_wp2
      go_ret
      exact ⟨by rw [HZ1.out]; rfl, HB2.out⟩
  subst p2
  go_wp2_with (refine wpList_load_row rfl 54 (.tmp 1) rfl w.heap.size rfl _ _ _ _ HA2.out Tryz.underlying54 rfl (infoH hd0) ?_)
  refine (R3.out _).mono ?_
  rintro e w3 ⟨rfl, hb3⟩
  have HA3 := Lib.hid (HA2.out.below hb3 HA2.out.lt)
  have HB3 := Lib.hid (HB2.out.trans (hb3.mono HB2.out.size))
  clear hb3 R3 c0 c1 c2 c3 c4 c5 c6
  have c0 := HA3.out.cell 0
  have c1 := HA3.out.cell 1
  have c2 := HA3.out.cell 2
  have c3 := HA3.out.cell 3
  have c4 := HA3.out.cell 4
  have c5 := HA3.out.cell 5
  have c6 := HA3.out.cell 6
  simp only [List.getElem?_toArray, List.getElem?_cons_zero, List.getElem?_cons_succ] at c0 c1 c2 c3 c4 c5 c6
  by_cases p3 : b3 = true
  rotate_left
  · as_aux_lemma =>
      obtain rfl : b3 = false := by simpa using p3
      have HZ1 : Hid (z = false) := HZ.out.trans (by simp)
      clear HZ p3
      go_wp2
      go_ret
      exact ⟨by rw [HZ1.out]; rfl, HB3.out⟩
  subst p3
  have HZ1 : Hid (z = decide (0 ≤ bo ∧ bo ≤ 4294967295)) := HZ.out.trans (by simp)
  clear HZ
  go_wp2
  all_goals
    go_ret
    refine ⟨congrArg (fun b => Ending.returned (.bool b)) ?_, HB3.out⟩
    rw [HZ1.out]
    first | (symm; apply decide_eq_false; omega) | (symm; apply decide_eq_true; omega) | (apply decide_eq_decide.2; omega)
end Go.Proofs.YtgfdbmbgldeljaaGreat

/- What the document's SameInts returns for two slices of the same numbers. Conditions: at most 2^40 numbers. -/
namespace Go.Proofs.YtgfdbmbgldeljaaGreat
open Go.RowKit

end Go.Proofs.YtgfdbmbgldeljaaGreat

/- What num.FromBigs returns for every string of at most 2^40 bytes, and what the document's SameInts returns for two slices of the same numbers. -/
namespace Go.Proofs.YtgfdbmbgldeljaaGreat
open Go.RowKit

set_option maxHeartbeats 800000 in
set_option maxRecDepth 100000 in
theorem frombigs_yes (s : ByteArray) (m : Nat) (w : World) (hm : s.size = 4 * m) (hl : s.size ≤ 1099511627776) :
    Calls Tryz.prog 54 #[.string s] w fun e w' => ∃ v, e = .returned (.tuple #[v, .bool true]) ∧ w'.ownsRow w.heap.size 3 1 v m (intVals (numsB s.data.toList m)) ∧ Below w.heap.size w w' := by
  obtain ⟨i0, hi, hz0, hz1, hz2⟩ := info_int
  have HI := Lib.hid hi; have HZ0 := Lib.hid hz0; have HZ1 := Lib.hid hz1; have HZ2 := Lib.hid hz2
  clear hi hz0 hz1 hz2
  have hmod : (((s.size : Int) % 4) != 0) = false := by
    have : (s.size : Int) % 4 = 0 := by omega
    simp [this]
  have HM := Lib.hid hm
  have hm1 : s.size ≤ 4 * m := by omega
  have hm2 : 4 * m ≤ s.size := by omega
  clear hm
  go_enter Tryz.func54, Tryz.ntmps54
  go_wp2
  go_loopw [4, 5] (fun v i wr => ∃ k : Nat, k ≤ m ∧ i = .int .i64 ((4 * k : Nat) : Int) ∧ wr.ownsRow w.heap.size 3 1 v k (intVals (numsB s.data.toList k)) ∧ Below w.heap.size w wr)
    (fun _ i _ => s.size - (intOf i).toNat)
  case atStart => exact ⟨0, Nat.zero_le _, rfl, World.ownsRow_nil _ _ _ _, Below.refl _ _⟩
  case round =>
    obtain ⟨k, hk, rfl, hown, hb⟩ := hrel
    have hsz := hb.size
    by_cases hlt : k < m
    · go_wp2_with fail
      refine (frombig_yes _ _ (by rw [extract_size]; omega) (by rw [extract_size]; unfold maxLen; omega)).mono ?_
      rintro e w1 ⟨rfl, hb1⟩
      have hE := extract_tail s (4 * k)
      rw [hE]
      clear hE
      have hown1 := ownsRow_below hown hb1
      have hb2 : Below w.heap.size w w1 := hb.trans (hb1.mono hsz)
      have hs1 := hb2.size
      have HS := Lib.hid (intVals_numsB_succ s.data.toList k)
      generalize frombig (s.data.toList.drop (4 * k)) = x at HS ⊢
      clear hown hb hb1
      go_wp2_with (at_builtin; refine wpList_append_own _ rfl _ _ 69 rfl w.heap.size 3 i0 (.int .i64 0) 1 8 Tryz.underlying69 HI.out HZ0.out HZ1.out HZ2.out rfl (by decide) _ _ _ rfl (hown1.alloc _) ⟨w1.heap.size, 0, none⟩ 1 1 [.int .i64 x] rfl rfl ?c1 ?c2 ?c3 ?c4 ?c5 ?_)
      case c1 =>
        intro j u hj
        match j, hj with
        | 0, hj => simp at hj; subst hj; simp [Addr.add]
      case c2 => intro u hu; simp at hu; subst hu; rfl
      case c3 => unfold maxLen; omega
      case c4 => omega
      case c5 => simp; omega
      · intro v' w2 hown' hgrow _
        have hb3 : Below w.heap.size w w2 := (hb2.alloc hs1 _).grown hgrow (by simp; omega) (fun g hg => (hown1.lt g hg).1)
        clear hown1 hgrow hb2
        go_wp2
        go_roundw
        case rel => exact ⟨k + 1, by omega, by go_num, by rw [HS.out]; exact hown', hb3⟩
        case measure => simp [intOf]; omega
    · have hkl : k = m := by omega
      subst hkl
      go_wp2
      go_ret2
      exact ⟨_, rfl, hown, hb⟩

set_option maxHeartbeats 400000 in
theorem frombigs_no (s : ByteArray) (w : World) (hm : s.size % 4 ≠ 0) (hl : s.size ≤ 1099511627776) :
    Calls Tryz.prog 54 #[.string s] w fun e w' => e = .returned (.tuple #[.slice none 0 0, .bool false]) ∧ w = w' := by
  have hmod : (((s.size : Int) % 4) != 0) = true := by
    have : ¬ (s.size : Int) % 4 = 0 := by omega
    simp [this]
  clear hm
  go_enter Tryz.func54, Tryz.ntmps54
  go_wp2
  go_ret2
  exact ⟨rfl, rfl⟩

end Go.Proofs.YtgfdbmbgldeljaaGreat
