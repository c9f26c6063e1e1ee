/- Package grammar keeps its contracts. Conditions: names of at most 10^6 bytes; trees of at most 12 levels and few parts. -/
import Derived.Test.YtmgfnghegcfhnaaMg42
import Derived.Test.YtmgfnghegcfhnaaMg30
import Derived.Test.YtmgfnghegcfhnaaMg43
namespace Go.Proofs.Ytmgfnghegcfhnaa
open Go.RowKit

set_option maxHeartbeats 3200000 in
set_option maxRecDepth 100000 in
theorem gcheck_any (n : ND) (v2 v3 : Value) (w : World) (hl : LowR n = true) (hN : NdAt w (fun k => k < w.heap.size) n v2 v3) :
    Calls Try.prog 14 #[.agg #[.string n.nm, v2, v3]] w fun e w' => e = .returned (.int .i64 (check19 n : Nat)) ∧ Below w.heap.size w w' := by
  obtain ⟨A, K, pc, kc, rfl, rfl, hpc, hpm, hkc, hkm⟩ := nd_shape hN
  have hsz := sz_count (sz_of_low hl)
  have HK13 : Hid (8 < (countR 9 n).c → check19 n = 13) := fun h => if_pos h
  have HK7 : Hid (¬ 8 < (countR 9 n).c → fitsR n = false → check19 n = 7) := fun h h2 => by unfold check19; rw [if_neg h, if_pos h2]
  have HK6 : Hid (¬ 8 < (countR 9 n).c → fitsR n = true → n.nm ≠ ByteArray.empty → check19 n = 6) := fun h h2 h3 => by unfold check19; rw [if_neg h, if_neg (by rw [h2]; decide), if_pos h3]
  have HKF : Hid (¬ 8 < (countR 9 n).c → fitsR n = true → n.nm = ByteArray.empty → check19 n = from19 8 n) := fun h h2 h3 => by unfold check19; rw [if_neg h, if_neg (by rw [h2]; decide), if_neg (fun e => e h3)]; exact from19_walk 8 [47] n
  generalize check19 n = R at *
  obtain ⟨W1, hW1⟩ : ∃ W1, W1 = w.alloc (.cells #[.string n.nm, .slice A n.ps.length pc, .slice K n.ks.length kc] 29) := ⟨_, rfl⟩
  obtain ⟨g1, hg1⟩ : ∃ g1, g1 = w.heap.size := ⟨_, rfl⟩
  have hB1 : Below w.heap.size w W1 := by rw [hW1]; exact (Below.refl _ _).alloc (Nat.le_refl _) _
  have HA1 : Hid (Arr W1 g1 29 #[.string n.nm, .slice A n.ps.length pc, .slice K n.ks.length kc]) := by unfold Hid; rw [hW1, hg1]; exact Arr.new w _ _
  have HB := Lib.hid hB1
  have HND : Hid (∀ W, Below W1.heap.size W1 W → NdAt W (fun b => b < w.heap.size) n (.slice A n.ps.length pc) (.slice K n.ks.length kc)) := fun W h => nd_below (nd_below hN hB1) h
  have HCT := Lib.hid (fun W h => tCount_any (fun b => b < w.heap.size) n (.slice A n.ps.length pc) (.slice K n.ks.length kc) W (by omega) (by omega) h)
  have HFT := Lib.hid (fun W h => tFits_any (fun b => b < w.heap.size) n (.slice A n.ps.length pc) (.slice K n.ks.length kc) W (by omega) (by omega) h)
  have HFM : Hid (¬ 8 < (countR 9 n).c → ∀ W, NdAt W (fun b => b < w.heap.size) n (.slice A n.ps.length pc) (.slice K n.ks.length kc) → Calls Try.prog 30 #[.agg #[.string n.nm, .slice A n.ps.length pc, .slice K n.ks.length kc]] W fun e w' => e = .returned (.int .i64 (from19 8 n : Nat)) ∧ Below W.heap.size W w') := fun h W hN => checkFrom_any 8 11 (fun b => b < w.heap.size) n _ _ W (show (countR 9 n).c ≤ 8 by omega) (low_and hl).1 hN
  have HEM : Hid (n.nm.toList.isEmpty = true → n.nm = ByteArray.empty) := fun h => by
    rw [empty19, decide_eq_true_eq] at h
    exact ByteArray.ext (Array.eq_empty_of_size_eq_zero h)
  have HEN : Hid (n.nm.toList.isEmpty = false → n.nm ≠ ByteArray.empty) := fun h e => by
    rw [e, empty19] at h; cases h
  rcases hxc : countR 9 n with ⟨ca, cb, cc⟩
  rw [hxc] at HK13 HK7 HK6 HKF HCT HFM
  simp only at HK13 HK7 HK6 HKF HFM
  have HCT : Hid (∀ W, NdAt W (fun k => k < w.heap.size) n (.slice A n.ps.length pc) (.slice K n.ks.length kc) → Calls Try.prog 28 #[.agg #[.string n.nm, .slice A n.ps.length pc, .slice K n.ks.length kc]] W fun e w' => e = .returned (.tuple #[.int .i64 (ca : Nat), .int .i64 (cb : Nat), .int .i64 (cc : Nat)]) ∧ Below W.heap.size W w') := fun W h => HCT.out W h
  clear hN hB1 hpc hpm hkc hkm hl hxc hsz
  go_enter Try.func14, Try.ntmps14
  go_upto_region 1 with fail
  change Code.wp _ _ _ _ (w.alloc (.cells #[.string n.nm, .slice A n.ps.length pc, .slice K n.ks.length kc] 29))
  rw [← hW1, ← hg1]
  clear hW1 hg1
  have HCE : Hid (∀ W, Below W1.heap.size W1 W → W.cell? ⟨g1, 0, none⟩ = some (.string n.nm) ∧ W.cell? ⟨g1, 1, none⟩ = some (.slice A n.ps.length pc) ∧ W.cell? ⟨g1, 2, none⟩ = some (.slice K n.ks.length kc)) := fun W h => by
    have k := HA1.out.below h HA1.out.lt
    exact ⟨k.cell 0, k.cell 1, k.cell 2⟩
  obtain ⟨c0, c1, c2⟩ := HCE.out W1 (Below.refl _ _)
  go_wp2_with fail
  refine (HCT.out W1 (HND.out W1 (Below.refl _ _))).mono ?_
  rintro e w2 ⟨rfl, hb⟩
  have HB2 := Lib.hid hb
  have HBW := Lib.hid (HB.out.trans (hb.mono HB.out.size))
  clear hb c0 c1 c2 HCT
  obtain ⟨c0, c1, c2⟩ := HCE.out w2 HB2.out
  by_cases h8 : 8 < cc
  · have e8 : decide ((8 : Int) < (cc : Int)) = true := decide_eq_true (by omega)
    have HV := Lib.hid (HK13.out h8)
    clear HK13 HK7 HK6 HKF HFT HFM h8
    go_wp2
    go_ret
    exact ⟨by rw [HV.out]; rfl, HBW.out⟩
  · have e8 : decide ((8 : Int) < (cc : Int)) = false := decide_eq_false (by omega)
    have HF := Lib.hid (HFT.out w2 (HND.out w2 HB2.out))
    have HK7 := Lib.hid (HK7.out h8)
    have HK6 := Lib.hid (HK6.out h8)
    have HKF := Lib.hid (HKF.out h8)
    have HFM := Lib.hid (HFM.out h8)
    clear HK13 HFT h8
    go_wp2_with fail
    refine HF.out.mono ?_
    rintro e w4 ⟨rfl, hb⟩
    have HB4 := Lib.hid (HB2.out.trans (hb.mono HB2.out.size))
    have HBW := Lib.hid (HB.out.trans (HB4.out.mono HB.out.size))
    clear c0 c1 c2 hb HF
    obtain ⟨c0, c1, c2⟩ := HCE.out w4 HB4.out
    cases hft : fitsR n with
    | false =>
      have HV := Lib.hid (HK7.out hft)
      clear HK7 HK6 HKF HFM hft
      go_wp2
      go_ret
      exact ⟨by rw [HV.out]; rfl, HBW.out⟩
    | true =>
      cases hem : n.nm.toList.isEmpty with
      | false =>
        have HV := Lib.hid (HK6.out hft (HEN.out hem))
        clear HK7 HK6 HKF HFM hft
        go_wp2
        go_ret
        exact ⟨by rw [HV.out]; rfl, HBW.out⟩
      | true =>
        have HV := Lib.hid (HKF.out hft (HEM.out hem))
        have HW := Lib.hid (HFM.out w4 (HND.out w4 HB4.out))
        clear HK7 HK6 HKF HFM hft HEM HEN
        go_wp2_with fail
        refine HW.out.mono ?_
        rintro e w5 ⟨rfl, hb5⟩
        have HBZ := Lib.hid (HBW.out.trans (hb5.mono HBW.out.size))
        clear hb5 HW
        go_wp2
        go_ret
        exact ⟨by rw [HV.out]; rfl, HBZ.out⟩

theorem grammar_must : GrammarMust where
  unit := fun s w h => gunit_any s w (by omega)
  node := fun s w h => gnode_any s w (by omega)
  prop := fun s w h => gprop_any s w (by omega)
  check := gcheck_any
end Go.Proofs.Ytmgfnghegcfhnaa
