/- The law HeadReads: whatever comes in it returns true. Conditions: the contracts of package head; a string that fits. -/
import Derived.Test.YtkkkhmimgcgoeaaHeI
namespace Go.Proofs.Ytkkkhmimgcgoeaa
open Go.RowKit

set_option maxHeartbeats 3200000 in
set_option maxRecDepth 100000 in
theorem headReads_any (M : HeadMust) (s : ByteArray) (w : World) (hs : s.size ≤ maxLen) :
    Calls Try.prog 4 #[.string s] w fun e w' => e = .returned (.bool true) ∧ Below w.heap.size w w' := by
  have HAW := Lib.hid (awake11 M)
  by_cases h1 : 1024 < s.size
  · have d1 : decide ((1024 : Int) < s.size) = true := decide_eq_true (by omega)
    clear M hs h1
    go_enter Try.func4, Try.ntmps4
    go_wp2_with fail
    refine (HAW.out _).mono ?_
    rintro e w1 ⟨rfl, hb⟩
    go_wp2
    go_ret
    exact ⟨rfl, hb⟩
  · have d1 : decide ((1024 : Int) < s.size) = false := decide_eq_false (by omega)
    have HRE := Lib.hid (fun W => M.read s W hs)
    have HRR := Lib.hid (fun W => rreadH_any s W hs)
    generalize readH s.data.toList = R at *
    obtain ⟨⟨tt, st, sg, rv, bo, tx, sz⟩, er⟩ := R
    simp only at HRE HRR
    clear M hs h1
    go_enter Try.func4, Try.ntmps4
    go_wp2_with fail
    refine (HRE.out _).mono ?_
    rintro e w1 ⟨rfl, hb1⟩
    have hz1 := hb1.size
    have HAN := Lib.hid (Arr.new w1 23 (hdC hd0))
    have HA1 : Hid (Arr ((w1.alloc (.cells (hdC hd0) 23)).setRow w1.heap.size #[.int .i64 tt, .int .i64 st, .int .i64 sg, .int .i64 rv, .int .i64 bo, .int .i64 tx, .int .i64 sz]) w1.heap.size 23 #[.int .i64 tt, .int .i64 st, .int .i64 sg, .int .i64 rv, .int .i64 bo, .int .i64 tx, .int .i64 sz]) := HAN.out.row _
    have HB1 : Hid (Below w.heap.size w ((w1.alloc (.cells (hdC hd0) 23)).setRow w1.heap.size #[.int .i64 tt, .int .i64 st, .int .i64 sg, .int .i64 rv, .int .i64 bo, .int .i64 tx, .int .i64 sz])) := below_setRow (hb1.alloc hz1 _) hz1 _
    clear hb1
    go_wp2_with (refine wpList_store_row rfl 23 (.tmp 3) (.tmp 14) rfl w1.heap.size #[.int .i64 tt, .int .i64 st, .int .i64 sg, .int .i64 rv, .int .i64 bo, .int .i64 tx, .int .i64 sz] rfl rfl _ _ HAN.out (infoH hd0) rfl (hdC_one ⟨tt, st, sg, rv, bo, tx, sz⟩) ?_)
    refine (HRR.out _).mono ?_
    rintro e w3 ⟨rfl, hb3⟩
    have HA3 := Lib.hid (HA1.out.below hb3 HA1.out.lt)
    have HB3 := Lib.hid (HB1.out.trans (hb3.mono HB1.out.size))
    have hz3 := HB3.out.size
    clear hb3 HA1 HB1 HAN HRE HRR
    generalize w1.heap.size = g at *
    have HAM := Lib.hid (Arr.new w3 23 (hdC hd0))
    have HA4 : Hid (Arr ((w3.alloc (.cells (hdC hd0) 23)).setRow w3.heap.size #[.int .i64 tt, .int .i64 st, .int .i64 sg, .int .i64 rv, .int .i64 bo, .int .i64 tx, .int .i64 sz]) w3.heap.size 23 #[.int .i64 tt, .int .i64 st, .int .i64 sg, .int .i64 rv, .int .i64 bo, .int .i64 tx, .int .i64 sz]) := HAM.out.row _
    have HA5 : Hid (Arr ((w3.alloc (.cells (hdC hd0) 23)).setRow w3.heap.size #[.int .i64 tt, .int .i64 st, .int .i64 sg, .int .i64 rv, .int .i64 bo, .int .i64 tx, .int .i64 sz]) g 23 #[.int .i64 tt, .int .i64 st, .int .i64 sg, .int .i64 rv, .int .i64 bo, .int .i64 tx, .int .i64 sz]) := (HA3.out.alloc _).rowFar (Nat.ne_of_lt HA3.out.lt) _
    have HB4 : Hid (Below w.heap.size w ((w3.alloc (.cells (hdC hd0) 23)).setRow w3.heap.size #[.int .i64 tt, .int .i64 st, .int .i64 sg, .int .i64 rv, .int .i64 bo, .int .i64 tx, .int .i64 sz])) := below_setRow (HB3.out.alloc hz3 _) hz3 _
    go_wp2_with (first | (refine wpList_store_row rfl 23 (.tmp 5) (.tmp 19) rfl w3.heap.size #[.int .i64 tt, .int .i64 st, .int .i64 sg, .int .i64 rv, .int .i64 bo, .int .i64 tx, .int .i64 sz] rfl rfl _ _ HAM.out (infoH hd0) rfl (hdC_one ⟨tt, st, sg, rv, bo, tx, sz⟩) ?_) | (refine wpList_load_row rfl 23 (.tmp 3) rfl g rfl _ _ _ _ HA5.out Try.underlying23 rfl (infoH hd0) ?_) | (refine wpList_load_row rfl 23 (.tmp 5) rfl w3.heap.size rfl _ _ _ _ HA4.out Try.underlying23 rfl (infoH hd0) ?_))
    refine (HAW.out _).mono ?_
    rintro e w5 ⟨rfl, hb5⟩
    have HB5 := Lib.hid (HB4.out.trans (hb5.mono HB4.out.size))
    clear hb5
    go_wp2
    go_ret
    exact ⟨rfl, HB5.out⟩
end Go.Proofs.Ytkkkhmimgcgoeaa
