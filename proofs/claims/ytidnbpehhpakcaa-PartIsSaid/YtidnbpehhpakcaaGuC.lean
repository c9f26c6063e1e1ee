/- What Erase, Program and Write of a Guard do: refuse, or do that of the flash. Conditions: what the flash does is given. -/
import Derived.Test.YtidnbpehhpakcaaGuB
import Derived.Test.YtidnbpehhpakcaaGuT
namespace Go.Proofs.Ytidnbpehhpakcaa
open Go.RowKit

theorem rdI_one (w : World) (x : Int) : RdI (w.heap.size + 1) (w.alloc (.cells #[.int .i64 x] 3)) (some ⟨w.heap.size, 0, none⟩) [x] := by
  refine .inr ⟨w.heap.size, 0, rfl, Nat.lt_succ_self _, fun k hk => ?_⟩
  obtain rfl : k = 0 := by simp at hk; omega
  exact (Arr.new w 3 #[.int .i64 x]).cell 0

set_option maxHeartbeats 1600000 in
set_option maxRecDepth 100000 in
theorem serase_any (p : Option Addr) (K : List Bool) (x : Int) (w : World) (R : Int → World → Prop) (hK : K.length = 48)
    (hc : ∀ W, Below w.heap.size w W → inK K x = false → Calls Try.prog 60 #[.pointer p, .int .i64 x] W fun e w' => ∃ r, e = .returned (.int .i64 r) ∧ R r w')
    (h3 : ∀ W, Below w.heap.size w W → inK K x = true → R 3 W) :
    Calls Try.prog 50 #[.agg (lockC p K), .int .i64 x] w fun e w' => ∃ r, e = .returned (.int .i64 r) ∧ R r w' := by
  have HC := Lib.hid hc
  have H3 := Lib.hid h3
  have HI := Lib.hid (infoS p K hK)
  have HA := Lib.hid (Arr.new w 78 (lockC p K))
  have HB := Lib.hid ((Below.refl w.heap.size w).alloc (Nat.le_refl _) (.cells (lockC p K) 78))
  have HAL : Hid (Calls Try.prog 59 #[.agg (lockC p K), .slice (some ⟨w.heap.size + 1, 0, none⟩) 1 1] ((w.alloc (.cells (lockC p K) 78)).alloc (.cells #[.int .i64 x] 3)) fun e w' => e = .returned (.bool (inK K x)) ∧ w'.cell? ⟨w.heap.size, 0, none⟩ = some (.pointer p) ∧ Below w.heap.size w w') := by
    have e0 := size_alloc w (.cells (lockC p K) 78)
    generalize w.alloc (.cells (lockC p K) 78) = W at *
    have h := all_any p K (some ⟨w.heap.size + 1, 0, none⟩) 1 [x] (W.alloc (.cells #[.int .i64 x] 3)) hK (by show 1 ≤ maxLen; decide) (by rw [size_alloc, ← e0]; exact rdI_one W x)
    rw [allK_one] at h
    refine h.mono ?_
    rintro e w' ⟨he, hb⟩
    have hb' : Below W.heap.size W w' := ((Below.refl _ _).alloc (Nat.le_refl _) _).trans (hb.mono (by rw [size_alloc]; omega))
    exact ⟨he, lock_chip (HA.out.below hb' HA.out.lt), HB.out.trans (hb'.mono (by omega))⟩
  clear hc h3 hK
  go_enter Try.func50, Try.ntmps50
  go_wp2_with (refine wpList_load_row rfl 78 (.tmp 2) rfl w.heap.size rfl _ _ _ _ (Arr.new _ _ _) Try.underlying78 rfl HI.out ?_)
  refine HAL.out.mono ?_
  rintro e w1 ⟨rfl, hcell, hb⟩
  have HB1 := Lib.hid hb
  clear hb HAL HA HB HI
  cases hi : inK K x with
  | true =>
    have HF := Lib.hid (H3.out w1 HB1.out hi)
    clear hi
    go_wp2
    go_ret
    exact ⟨3, rfl, HF.out⟩
  | false =>
    have HF := Lib.hid (HC.out w1 HB1.out hi)
    clear hi
    go_wp2_with fail
    refine HF.out.mono ?_
    rintro e w2 ⟨r, rfl, hR⟩
    have HRR := Lib.hid hR
    clear hR
    go_wp2
    go_ret
    exact ⟨r, rfl, HRR.out⟩

set_option maxHeartbeats 1600000 in
set_option maxRecDepth 100000 in
theorem swrite_any (p : Option Addr) (K : List Bool) (a : Int) (s : ByteArray) (w : World) (R : Int → World → Prop) (hK : K.length = 48)
    (hc : ∀ W, Below w.heap.size w W → tch K a s.size = false → Calls Try.prog 57 #[.pointer p, .int .i64 a, .string s] W fun e w' => ∃ r, e = .returned (.int .i64 r) ∧ R r w')
    (h3 : ∀ W, Below w.heap.size w W → tch K a s.size = true → R 3 W) :
    Calls Try.prog 47 #[.agg (lockC p K), .int .i64 a, .string s] w fun e w' => ∃ r, e = .returned (.int .i64 r) ∧ R r w' := by
  have HC := Lib.hid hc
  have H3 := Lib.hid h3
  have HI := Lib.hid (infoS p K hK)
  have HA := Lib.hid (Arr.new w 78 (lockC p K))
  have HB := Lib.hid ((Below.refl w.heap.size w).alloc (Nat.le_refl _) (.cells (lockC p K) 78))
  have HAL : Hid (Calls Try.prog 56 #[.agg (lockC p K), .int .i64 a, .int .i64 s.size] (w.alloc (.cells (lockC p K) 78)) fun e w' => e = .returned (.bool (tch K a s.size)) ∧ w'.cell? ⟨w.heap.size, 0, none⟩ = some (.pointer p) ∧ Below w.heap.size w w') := by
    have e0 := size_alloc w (.cells (lockC p K) 78)
    generalize w.alloc (.cells (lockC p K) 78) = W at *
    refine (touches_any p K a s.size W hK).mono ?_
    rintro e w' ⟨he, hb'⟩
    exact ⟨he, lock_chip (HA.out.below hb' HA.out.lt), HB.out.trans (hb'.mono (by omega))⟩
  clear hc h3 hK
  go_enter Try.func47, Try.ntmps47
  go_wp2_with (refine wpList_load_row rfl 78 (.tmp 3) rfl w.heap.size rfl _ _ _ _ (Arr.new _ _ _) Try.underlying78 rfl HI.out ?_)
  refine HAL.out.mono ?_
  rintro e w1 ⟨rfl, hcell, hb⟩
  have HB1 := Lib.hid hb
  clear hb HAL HA HB HI
  cases hi : tch K a s.size with
  | true =>
    have HF := Lib.hid (H3.out w1 HB1.out hi)
    clear hi
    go_wp2
    go_ret
    exact ⟨3, rfl, HF.out⟩
  | false =>
    have HF := Lib.hid (HC.out w1 HB1.out hi)
    clear hi
    go_wp2_with fail
    refine HF.out.mono ?_
    rintro e w2 ⟨r, rfl, hR⟩
    have HRR := Lib.hid hR
    clear hR
    go_wp2
    go_ret
    exact ⟨r, rfl, HRR.out⟩

theorem gerase_any (q p : Option Addr) (K : List Bool) (x : Int) (w : World) (R : Int → World → Prop) (h : GD w q p K)
    (hc : ∀ W, Below w.heap.size w W → inK K x = false → Calls Try.prog 60 #[.pointer p, .int .i64 x] W fun e w' => ∃ r, e = .returned (.int .i64 r) ∧ R r w')
    (h3 : ∀ W, Below w.heap.size w W → inK K x = true → R 3 W) :
    Calls Try.prog 39 #[.pointer q, .int .i64 x] w fun e w' => ∃ r, e = .returned (.int .i64 r) ∧ R r w' := by
  have HS := Lib.hid (shield_any q p K w h)
  have HE : Hid (∀ w1, Below w.heap.size w w1 → Calls Try.prog 50 #[.agg (lockC p K), .int .i64 x] w1 fun e w' => ∃ r, e = .returned (.int .i64 r) ∧ R r w') :=
    fun w1 h1 => serase_any p K x w1 R h.1 (fun W hW hi => hc W (h1.trans (hW.mono h1.size)) hi) (fun W hW hi => h3 W (h1.trans (hW.mono h1.size)) hi)
  clear h hc h3
  go_enter Try.func39, Try.ntmps39
  go_wp2_with fail
  refine HS.out.mono ?_
  rintro e w1 ⟨rfl, hb1⟩
  have HE1 := Lib.hid (HE.out w1 hb1)
  clear hb1 HE
  go_wp2_with fail
  refine HE1.out.mono ?_
  rintro e w2 ⟨r, rfl, hR⟩
  have HRR := Lib.hid hR
  clear hR
  go_wp2
  go_ret
  exact ⟨r, rfl, HRR.out⟩

theorem gwrite_any (q p : Option Addr) (K : List Bool) (a : Int) (s : ByteArray) (w : World) (R : Int → World → Prop) (h : GD w q p K)
    (hc : ∀ W, Below w.heap.size w W → tch K a s.size = false → Calls Try.prog 57 #[.pointer p, .int .i64 a, .string s] W fun e w' => ∃ r, e = .returned (.int .i64 r) ∧ R r w')
    (h3 : ∀ W, Below w.heap.size w W → tch K a s.size = true → R 3 W) :
    Calls Try.prog 37 #[.pointer q, .int .i64 a, .string s] w fun e w' => ∃ r, e = .returned (.int .i64 r) ∧ R r w' := by
  have HS := Lib.hid (shield_any q p K w h)
  have HE : Hid (∀ w1, Below w.heap.size w w1 → Calls Try.prog 47 #[.agg (lockC p K), .int .i64 a, .string s] w1 fun e w' => ∃ r, e = .returned (.int .i64 r) ∧ R r w') :=
    fun w1 h1 => swrite_any p K a s w1 R h.1 (fun W hW hi => hc W (h1.trans (hW.mono h1.size)) hi) (fun W hW hi => h3 W (h1.trans (hW.mono h1.size)) hi)
  clear h hc h3
  go_enter Try.func37, Try.ntmps37
  go_wp2_with fail
  refine HS.out.mono ?_
  rintro e w1 ⟨rfl, hb1⟩
  have HE1 := Lib.hid (HE.out w1 hb1)
  clear hb1 HE
  go_wp2_with fail
  refine HE1.out.mono ?_
  rintro e w2 ⟨r, rfl, hR⟩
  have HRR := Lib.hid hR
  clear hR
  go_wp2
  go_ret
  exact ⟨r, rfl, HRR.out⟩
end Go.Proofs.Ytidnbpehhpakcaa
