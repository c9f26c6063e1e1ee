/- The law HeadPuts: whatever comes in it returns true. Conditions: the contracts of package head; numbers of 64 bits; a string that fits. -/
import Derived.Test.YtkkkhmimgcgoeaaHeI
namespace Go.Proofs.Ytkkkhmimgcgoeaa
open Go.RowKit

theorem infoSp : (Try.prog.info? 25).map (·.size) = some (#[.int .i64 0, .int .i64 0] : Array Value).size := by kernel_rfl

set_option maxHeartbeats 3200000 in
set_option maxRecDepth 100000 in
theorem headPuts_any (M : HeadMust) (h : HD) (s : ByteArray) (a b : Int) (w : World) (hh : inH h) (hs : s.size ≤ maxLen) (ha : in64 a) (hb : in64 b) :
    Calls Try.prog 3 #[.agg (hdC h), .string s, .agg #[.int .i64 a, .int .i64 b]] w fun e w' => e = .returned (.bool true) ∧ Below w.heap.size w w' := by
  have HAW := Lib.hid (awake11 M)
  have HPU := Lib.hid (fun W => M.put h W hh)
  have HRP := Lib.hid (fun W => rputH_any h W hh.1)
  have HPA := Lib.hid (fun W => M.part s a b W hs ha hb)
  have HRA := Lib.hid (fun W => rpart_any s a b W hs ha hb)
  generalize putH h = R at *
  generalize partR s a b = Q at *
  obtain ⟨tt, st, sg, rv, bo, tx, sz⟩ := h
  obtain ⟨r1, r2⟩ := R
  obtain ⟨p1, p2⟩ := Q
  simp only at HPU HRP HPA HRA
  generalize ByteArray.mk r1.toArray = r at *
  show Calls _ _ #[.agg #[.int .i64 tt, .int .i64 st, .int .i64 sg, .int .i64 rv, .int .i64 bo, .int .i64 tx, .int .i64 sz], .string s, .agg #[.int .i64 a, .int .i64 b]] w _
  obtain ⟨W0, hW0⟩ : ∃ W0, W0 = (w.alloc (.cells #[.int .i64 tt, .int .i64 st, .int .i64 sg, .int .i64 rv, .int .i64 bo, .int .i64 tx, .int .i64 sz] 23)).alloc (.cells #[.int .i64 a, .int .i64 b] 25) := ⟨_, rfl⟩
  have HA0 : Hid (Arr W0 w.heap.size 23 #[.int .i64 tt, .int .i64 st, .int .i64 sg, .int .i64 rv, .int .i64 bo, .int .i64 tx, .int .i64 sz]) := by rw [hW0]; exact (Arr.new w _ _).alloc _
  have HX0 : Hid (Arr W0 (w.heap.size + 1) 25 #[.int .i64 a, .int .i64 b]) := by rw [hW0]; exact Arr.new1 w _ _ _
  have HB0 : Hid (Below w.heap.size w W0) := by rw [hW0]; exact ((Below.refl _ _).alloc (Nat.le_refl _) _).alloc (by show _ ≤ (w.heap.push _).size; rw [Array.size_push]; exact Nat.le_succ _) _
  by_cases h1 : 200 < s.size
  · have d1 : decide ((200 : Int) < s.size) = true := decide_eq_true (by omega)
    clear M hs h1 HPU HRP HPA HRA
    go_enter Try.func3, Try.ntmps3
    go_upto_region 1 with fail
    rw [← hW0]
    clear hW0
    go_wp2_with fail
    refine (HAW.out _).mono ?_
    rintro e w1 ⟨rfl, hb1⟩
    have HB1 := Lib.hid (HB0.out.trans (hb1.mono HB0.out.size))
    clear hb1
    go_wp2
    go_ret
    exact ⟨rfl, HB1.out⟩
  · have d1 : decide ((200 : Int) < s.size) = false := decide_eq_false (by omega)
    clear M hs h1
    go_enter Try.func3, Try.ntmps3
    go_upto_region 1 with fail
    rw [← hW0]
    clear hW0
    go_wp2_with (first | (refine wpList_load_row rfl 23 (.tmp 3) rfl w.heap.size rfl _ _ _ _ HA0.out Try.underlying23 rfl (infoH hd0) ?_) | (refine wpList_load_row rfl 25 (.tmp 5) rfl (w.heap.size + 1) rfl _ _ _ _ HX0.out Try.underlying25 rfl infoSp ?_))
    refine (HPU.out _).mono ?_
    rintro e w1 ⟨rfl, hb1⟩
    have HA1 := Lib.hid (HA0.out.below hb1 HA0.out.lt)
    have HX1 := Lib.hid (HX0.out.below hb1 HX0.out.lt)
    have HB1 := Lib.hid (HB0.out.trans (hb1.mono HB0.out.size))
    clear hb1 HPU HA0 HX0 HB0
    go_wp2_with (first | (refine wpList_load_row rfl 23 (.tmp 3) rfl w.heap.size rfl _ _ _ _ HA1.out Try.underlying23 rfl (infoH hd0) ?_) | (refine wpList_load_row rfl 25 (.tmp 5) rfl (w.heap.size + 1) rfl _ _ _ _ HX1.out Try.underlying25 rfl infoSp ?_))
    refine (HRP.out _).mono ?_
    rintro e w2 ⟨rfl, hb2⟩
    have HA2 := Lib.hid (HA1.out.below hb2 HA1.out.lt)
    have HX2 := Lib.hid (HX1.out.below hb2 HX1.out.lt)
    have HB2 := Lib.hid (HB1.out.trans (hb2.mono HB1.out.size))
    clear hb2 HRP HA1 HX1 HB1
    go_wp2_with (first | (refine wpList_load_row rfl 23 (.tmp 3) rfl w.heap.size rfl _ _ _ _ HA2.out Try.underlying23 rfl (infoH hd0) ?_) | (refine wpList_load_row rfl 25 (.tmp 5) rfl (w.heap.size + 1) rfl _ _ _ _ HX2.out Try.underlying25 rfl infoSp ?_))
    refine (HPA.out _).mono ?_
    rintro e w3 ⟨rfl, hb3⟩
    have HA3 := Lib.hid (HA2.out.below hb3 HA2.out.lt)
    have HX3 := Lib.hid (HX2.out.below hb3 HX2.out.lt)
    have HB3 := Lib.hid (HB2.out.trans (hb3.mono HB2.out.size))
    clear hb3 HPA HA2 HX2 HB2
    go_wp2_with (first | (refine wpList_load_row rfl 23 (.tmp 3) rfl w.heap.size rfl _ _ _ _ HA3.out Try.underlying23 rfl (infoH hd0) ?_) | (refine wpList_load_row rfl 25 (.tmp 5) rfl (w.heap.size + 1) rfl _ _ _ _ HX3.out Try.underlying25 rfl infoSp ?_))
    refine (HRA.out _).mono ?_
    rintro e w4 ⟨rfl, hb4⟩
    have HA4 := Lib.hid (HA3.out.below hb4 HA3.out.lt)
    have HX4 := Lib.hid (HX3.out.below hb4 HX3.out.lt)
    have HB4 := Lib.hid (HB3.out.trans (hb4.mono HB3.out.size))
    clear hb4 HRA HA3 HX3 HB3
    go_wp2_with fail
    refine (HAW.out _).mono ?_
    rintro e w5 ⟨rfl, hb5⟩
    have HB5 := Lib.hid (HB4.out.trans (hb5.mono HB4.out.size))
    clear hb5
    go_wp2
    go_ret
    exact ⟨rfl, HB5.out⟩
end Go.Proofs.Ytkkkhmimgcgoeaa
