/- The law ValueIs: whatever comes in it returns true. Conditions: the contracts of package value; slices that read as numbers, as texts; a string that fits. -/
import Derived.Test.YtflhondihccjeaaDoorVlE
import Derived.Test.YtflhondihccjeaaDoorStFew
namespace Go.Proofs.YtflhondihccjeaaDoor
open Go.RowKit

set_option maxHeartbeats 3200000 in
set_option maxRecDepth 100000 in
theorem valueIs_any (M : VlMust) (A : Option Addr) (ca : Nat) (l : List Int) (T : Option Addr) (ct : Nat) (t : List ByteArray) (v : ByteArray) (w : World) (hr : RdI w.heap.size w A l) (hl : l.length ≤ maxLen) (ht : RdT w T t) (htl : t.length ≤ maxLen) (hv : v.size ≤ maxLen) :
    Calls Tryd.prog 3 #[.slice A l.length ca, .slice T t.length ct, .string v] w fun e w' => e = .returned (.bool true) ∧ Below w.heap.size w w' := by
  have HAW := Lib.hid (awake13 M)
  have HFE := Lib.hid (fun W h => rfew9_any T ct t W h htl)
  have HB : Hid (Below w.heap.size w w) := Below.refl _ _
  have HI : Hid (RdI w.heap.size w A l) := hr
  have HT := Lib.hid ht
  unfold maxLen at hl hv
  by_cases h40 : 40 < l.length
  · have d1 : decide ((40 : Int) < (l.length : Int)) = true := decide_eq_true (by omega)
    clear M hr ht h40
    go_enter Tryd.func3, Tryd.ntmps3
    go_wp2_with fail
    refine (HAW.out _).mono ?_
    rintro e w1 ⟨rfl, hb⟩
    have HB := Lib.hid (HB.out.trans (hb.mono HB.out.size))
    clear hb
    go_wp2
    go_ret
    exact ⟨rfl, HB.out⟩
  · have d1 : decide ((40 : Int) < (l.length : Int)) = false := decide_eq_false (by omega)
    cases hf : few9 t with
    | false =>
      rw [hf] at HFE
      clear M hr ht h40 hf
      go_enter Tryd.func3, Tryd.ntmps3
      go_wp2_with fail
      refine (HFE.out _ HT.out).mono ?_
      rintro e w1 ⟨rfl, rfl⟩
      go_wp2_with fail
      refine (HAW.out _).mono ?_
      rintro e w1 ⟨rfl, hb⟩
      have HB := Lib.hid (HB.out.trans (hb.mono HB.out.size))
      clear hb
      go_wp2
      go_ret
      exact ⟨rfl, HB.out⟩
    | true =>
      rw [hf] at HFE
      by_cases h200 : 200 < v.size
      · have d2 : decide ((200 : Int) < (v.size : Int)) = true := decide_eq_true (by omega)
        clear M hr ht h40 hf h200
        go_enter Tryd.func3, Tryd.ntmps3
        go_wp2_with fail
        refine (HFE.out _ HT.out).mono ?_
        rintro e w1 ⟨rfl, rfl⟩
        go_wp2_with fail
        refine (HAW.out _).mono ?_
        rintro e w1 ⟨rfl, hb⟩
        have HB := Lib.hid (HB.out.trans (hb.mono HB.out.size))
        clear hb
        go_wp2
        go_ret
        exact ⟨rfl, HB.out⟩
      · have d2 : decide ((200 : Int) < (v.size : Int)) = false := decide_eq_false (by omega)
        have hl4 : l.length ≤ 40 := by omega
        have ht4 := few9_len hf
        have hte := few9_each hf
        have hv2 : v.size ≤ 1099511627776 := by omega
        have hv3 : v.size ≤ 4000000000 := by omega
        have C1 := Lib.hid (fun W => M.asNumbers v W hv2)
        have C2 := Lib.hid (fun W => rasNumbers_any v W hv2)
        have C3 := Lib.hid (fun W => M.asNumber v W hv2)
        have C4 := Lib.hid (fun W => rasNumber_any v W hv2)
        have hnl : (asN v.data.toList).length ≤ 1099511627776 := by
          unfold asN
          split
          · rw [numsB_length]; show v.size / 4 ≤ _; omega
          · exact Nat.zero_le _
        have C5 := Lib.hid (fun B B' cb cb' W h h' => sameints_any B B' cb cb' (asN v.data.toList) W hnl h h')
        have C6 := Lib.hid (fun W => M.asTexts v W hv3)
        have C7 := Lib.hid (fun W => rasTexts_any v W hv2)
        have C8 := Lib.hid (fun W => M.asText v W hv3)
        have C9 := Lib.hid (fun W => rasText_any v W hv2)
        have HBL := Lib.hid (baL_len (asT v.data.toList))
        have htl2 : (baL (asT v.data.toList)).length ≤ 1099511627776 := by
          rw [baL_len]
          unfold asT
          split
          · exact Nat.le_trans (spl_len _ _) (by show v.size ≤ _; omega)
          · exact Nat.zero_le _
        have C10 := Lib.hid (fun B B' cb cb' W h h' => sameTexts_any B B' cb cb' (baL (asT v.data.toList)) W htl2 h h')
        rw [baL_len] at C10
        have C11 := Lib.hid (fun W h => M.numbers A ca l W h (by omega))
        have C12 := Lib.hid (fun W h => refbigs_any A ca l W (by omega) h)
        have C13 := Lib.hid (fun W h => M.texts T ct t W h (by omega) (fun k hk => Nat.le_trans (hte k hk) (by decide)))
        have C14 := Lib.hid (fun W h => rtexts_any T ct t W h (by omega) (fun k hk => Nat.le_trans (hte k hk) (by decide)))
        clear M hr ht h40 hf h200 hl4 ht4 hte hv2 hv3 hnl htl2 HBL
        generalize asN v.data.toList = NS at *
        generalize okN v.size = ok1 at *
        generalize asN1 v.data.toList = n1 at *
        generalize decide (v.size = 4) = ok2 at *
        generalize asT v.data.toList = TS at *
        generalize okV v.data.toList = ok3 at *
        generalize asT1 v.data.toList = Q at *
        obtain ⟨q1, q2⟩ := Q
        simp only at C8 C9
        generalize ByteArray.mk (bigs l l.length).toArray = S1 at *
        generalize ByteArray.mk (txtB t).toArray = S2 at *
        go_enter Tryd.func3, Tryd.ntmps3
        go_wp2_with fail
        refine (HFE.out _ HT.out).mono ?_
        rintro e w0 ⟨rfl, rfl⟩
        go_wp2_with fail
        refine (C1.out _).mono ?_
        rintro e w1 ⟨X1, c1, rfl, hx, hb⟩
        have HI := Lib.hid ((HI.out.below (hb.mono HB.out.size)))
        have HT := Lib.hid (HT.out.below hb)
        have R1 := Lib.hid hx
        clear hx
        have HB := Lib.hid (HB.out.trans (hb.mono HB.out.size))
        clear hb
        go_wp2_with fail
        refine (C2.out _).mono ?_
        rintro e w1 ⟨X2, c2, rfl, hx, hb⟩
        have HI := Lib.hid ((HI.out.below (hb.mono HB.out.size)))
        have HT := Lib.hid (HT.out.below hb)
        have R1 := Lib.hid ((R1.out.below hb).mono hb.size)
        have R2 := Lib.hid hx
        clear hx
        have HB := Lib.hid (HB.out.trans (hb.mono HB.out.size))
        clear hb
        go_wp2_with fail
        refine (C3.out _).mono ?_
        rintro e w1 ⟨rfl, hb⟩
        have HI := Lib.hid ((HI.out.below (hb.mono HB.out.size)))
        have HT := Lib.hid (HT.out.below hb)
        have R1 := Lib.hid ((R1.out.below hb).mono hb.size)
        have R2 := Lib.hid ((R2.out.below hb).mono hb.size)
        have HB := Lib.hid (HB.out.trans (hb.mono HB.out.size))
        clear hb
        go_wp2_with fail
        refine (C4.out _).mono ?_
        rintro e w1 ⟨rfl, hb⟩
        have HI := Lib.hid ((HI.out.below (hb.mono HB.out.size)))
        have HT := Lib.hid (HT.out.below hb)
        have R1 := Lib.hid ((R1.out.below hb).mono hb.size)
        have R2 := Lib.hid ((R2.out.below hb).mono hb.size)
        have HB := Lib.hid (HB.out.trans (hb.mono HB.out.size))
        clear hb
        go_wp2_with fail
        refine (C5.out _ _ _ _ _ R1.out R2.out).mono ?_
        rintro e w1 ⟨rfl, hb⟩
        have HI := Lib.hid ((HI.out.below (hb.mono HB.out.size)))
        have HT := Lib.hid (HT.out.below hb)
        have R1 := Lib.hid ((R1.out.below hb).mono hb.size)
        have R2 := Lib.hid ((R2.out.below hb).mono hb.size)
        have HB := Lib.hid (HB.out.trans (hb.mono HB.out.size))
        clear hb
        go_wp2_with fail
        refine (C6.out _).mono ?_
        rintro e w1 ⟨X3, c3, rfl, hx, hb⟩
        have HI := Lib.hid ((HI.out.below (hb.mono HB.out.size)))
        have HT := Lib.hid (HT.out.below hb)
        have R3 := Lib.hid hx
        clear hx
        have HB := Lib.hid (HB.out.trans (hb.mono HB.out.size))
        clear hb
        go_wp2_with fail
        refine (C7.out _).mono ?_
        rintro e w1 ⟨X4, c4, rfl, hx, hb⟩
        have HI := Lib.hid ((HI.out.below (hb.mono HB.out.size)))
        have HT := Lib.hid (HT.out.below hb)
        have R3 := Lib.hid (R3.out.below hb)
        have R4 := Lib.hid hx
        clear hx
        have HB := Lib.hid (HB.out.trans (hb.mono HB.out.size))
        clear hb
        go_wp2_with fail
        refine (C8.out _).mono ?_
        rintro e w1 ⟨rfl, hb⟩
        have HI := Lib.hid ((HI.out.below (hb.mono HB.out.size)))
        have HT := Lib.hid (HT.out.below hb)
        have R3 := Lib.hid (R3.out.below hb)
        have R4 := Lib.hid (R4.out.below hb)
        have HB := Lib.hid (HB.out.trans (hb.mono HB.out.size))
        clear hb
        go_wp2_with fail
        refine (C9.out _).mono ?_
        rintro e w1 ⟨rfl, hb⟩
        have HI := Lib.hid ((HI.out.below (hb.mono HB.out.size)))
        have HT := Lib.hid (HT.out.below hb)
        have R3 := Lib.hid (R3.out.below hb)
        have R4 := Lib.hid (R4.out.below hb)
        have HB := Lib.hid (HB.out.trans (hb.mono HB.out.size))
        clear hb
        go_wp2_with fail
        refine (C10.out _ _ _ _ _ R3.out R4.out).mono ?_
        rintro e w1 ⟨rfl, hb⟩
        have HI := Lib.hid ((HI.out.below (hb.mono HB.out.size)))
        have HT := Lib.hid (HT.out.below hb)
        have R3 := Lib.hid (R3.out.below hb)
        have R4 := Lib.hid (R4.out.below hb)
        have HB := Lib.hid (HB.out.trans (hb.mono HB.out.size))
        clear hb
        go_wp2_with fail
        refine (C11.out _ (HI.out.mono HB.out.size)).mono ?_
        rintro e w1 ⟨rfl, hb⟩
        have HI := Lib.hid ((HI.out.below (hb.mono HB.out.size)))
        have HT := Lib.hid (HT.out.below hb)
        have HB := Lib.hid (HB.out.trans (hb.mono HB.out.size))
        clear hb
        go_wp2_with fail
        refine (C12.out _ (HI.out.mono HB.out.size)).mono ?_
        rintro e w1 ⟨rfl, hb⟩
        have HI := Lib.hid ((HI.out.below (hb.mono HB.out.size)))
        have HT := Lib.hid (HT.out.below hb)
        have HB := Lib.hid (HB.out.trans (hb.mono HB.out.size))
        clear hb
        go_wp2_with fail
        refine (C13.out _ HT.out).mono ?_
        rintro e w1 ⟨rfl, hb⟩
        have HI := Lib.hid ((HI.out.below (hb.mono HB.out.size)))
        have HT := Lib.hid (HT.out.below hb)
        have HB := Lib.hid (HB.out.trans (hb.mono HB.out.size))
        clear hb
        go_wp2_with fail
        refine (C14.out _ HT.out).mono ?_
        rintro e w1 ⟨rfl, rfl⟩
        go_wp2_with fail
        refine (HAW.out _).mono ?_
        rintro e w1 ⟨rfl, hb⟩
        have HB := Lib.hid (HB.out.trans (hb.mono HB.out.size))
        clear hb
        go_wp2
        go_ret
        exact ⟨rfl, HB.out⟩
end Go.Proofs.YtflhondihccjeaaDoor
