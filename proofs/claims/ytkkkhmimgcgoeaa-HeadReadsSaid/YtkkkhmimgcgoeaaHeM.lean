/- The program's Part of layer 11. Conditions: numbers of 64 bits; strings of at most 2^40 bytes. -/
import Derived.Test.YtkkkhmimgcgoeaaHeK
namespace Go.Proofs.Ytkkkhmimgcgoeaa
open Go.RowKit

theorem infoSpan : (Try.prog.info? 25).map (·.size) = some (#[.int .i64 0, .int .i64 0] : Array Value).size := by kernel_rfl

set_option maxHeartbeats 1600000 in
set_option maxRecDepth 100000 in
theorem hpart_any (s : ByteArray) (a b : Int) (w : World) (hs : s.size ≤ maxLen) (ha : in64 a) (_ : in64 b) :
    Calls Try.prog 8 #[.string s, .agg #[.int .i64 a, .int .i64 b]] w fun e w' => e = .returned (.tuple #[.string (partR s a b).1, .int .i64 ((partR s a b).2 : Int)]) ∧ Below w.heap.size w w' := by
  unfold maxLen at hs
  have HT := Lib.hid (fun W => there_any a b s.size W ha (by unfold in64; omega))
  obtain ⟨W0, hW0⟩ : ∃ W0, W0 = w.alloc (.cells #[.int .i64 a, .int .i64 b] 25) := ⟨_, rfl⟩
  have HA0 : Hid (Arr W0 w.heap.size 25 #[.int .i64 a, .int .i64 b]) := by rw [hW0]; exact Arr.new w _ _
  have HB0 : Hid (Below w.heap.size w W0) := by rw [hW0]; exact (Below.refl _ _).alloc (Nat.le_refl _) _
  clear ha
  by_cases hc : a < 0 ∨ b < 0 ∨ (s.size : Int) < a ∨ (s.size : Int) - a < b
  · have hP : partR s a b = (⟨#[]⟩, 2) := if_pos hc
    have hV : thereB a b s.size = false := decide_eq_false (by omega)
    rw [hP]
    rw [hV] at HT
    clear hP hV hc
    go_enter Try.func8, Try.ntmps8
    go_upto_region 1 with fail
    rw [← hW0]
    clear hW0
    go_wp2_with (refine wpList_load_row rfl 25 (.tmp 3) rfl w.heap.size rfl _ _ _ _ HA0.out Try.underlying25 rfl infoSpan ?_)
    refine (HT.out _).mono ?_
    rintro e w1 ⟨rfl, hb1⟩
    have HB1 := Lib.hid (HB0.out.trans (hb1.mono HB0.out.size))
    clear hb1 HT HA0 HB0
    go_wp2
    go_ret2
    exact ⟨rfl, HB1.out⟩
  · have hP : partR s a b = (s.extract a.toNat (a + b).toNat, 0) := if_neg hc
    have hV : thereB a b s.size = true := decide_eq_true (by omega)
    rw [hP]
    rw [hV] at HT
    have d1 : 0 ≤ a := by omega
    have d2 : 0 ≤ b := by omega
    have d3 : a ≤ s.size := by omega
    have d4 : a + b ≤ s.size := by omega
    have d5 : a ≤ a + b := by omega
    clear hP hV hc
    go_enter Try.func8, Try.ntmps8
    go_upto_region 1 with fail
    rw [← hW0]
    clear hW0
    go_wp2_with (refine wpList_load_row rfl 25 (.tmp 3) rfl w.heap.size rfl _ _ _ _ HA0.out Try.underlying25 rfl infoSpan ?_)
    refine (HT.out _).mono ?_
    rintro e w1 ⟨rfl, hb1⟩
    have HB1 := Lib.hid (HB0.out.trans (hb1.mono HB0.out.size))
    have HA1 := Lib.hid (HA0.out.below hb1 HA0.out.lt)
    have c0 := HA1.out.cell 0
    have c1 := HA1.out.cell 1
    simp only [List.getElem?_toArray, List.getElem?_cons_zero, List.getElem?_cons_succ] at c0 c1
    clear hb1 HT HA0 HB0
    go_wp2
    go_ret2
    exact ⟨rfl, HB1.out⟩
end Go.Proofs.Ytkkkhmimgcgoeaa
