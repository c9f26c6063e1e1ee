/- What the document's Check of layer 19 returns. Conditions: trees of at most 12 levels and few parts. -/
import Derived.Test.YtmgfnghegcfhnaaMg24
namespace Go.Proofs.Ytmgfnghegcfhnaa
open Go.RowKit

theorem spots_nodes {n : ND} {L : List SPT} (h : L.map spP = walkR 8 [47] n) : nodes19 n = L.map SPT.nd := by
  unfold nodes19
  rw [← h, List.map_map]; rfl
theorem spots_at {L : List SPT} {i : Nat} (hi : i < L.length) : (L.map SPT.nd).getD i nd0 = (L.getD i spt0).nd := by
  rw [List.getD_eq_getElem?_getD, List.getD_eq_getElem?_getD, List.getElem?_map, List.getElem?_eq_getElem hi]; rfl

set_option maxHeartbeats 3200000 in
set_option maxRecDepth 100000 in
theorem check19_any (n : ND) (v2 v3 : Value) (w : World) (hl : LowR n = true) (hN : NdAt w (fun k => k < w.heap.size) n v2 v3) :
    Calls Try.prog 15 #[.agg #[.string n.nm, v2, v3]] w fun e w' => e = .returned (.int .i64 (check19 n : Nat)) ∧ Below w.heap.size w w' := by
  obtain ⟨A, K, pc, kc, rfl, rfl, hpc, hpm, hkc, hkm⟩ := nd_shape hN
  have hsz := sz_count (sz_of_low hl)
  have HNM := nm_of_low 8 12 n (low_and hl).1
  have HK13 : Hid (8 < (countR 9 n).c → check19 n = 13) := fun h => if_pos h
  have HK7 : Hid (¬ 8 < (countR 9 n).c → fitsR n = false → check19 n = 7) := fun h h2 => by unfold check19; rw [if_neg h, if_pos h2]
  have HK6 : Hid (¬ 8 < (countR 9 n).c → fitsR n = true → n.nm ≠ ByteArray.empty → check19 n = 6) := fun h h2 h3 => by unfold check19; rw [if_neg h, if_neg (by rw [h2]; decide), if_pos h3]
  have HKF : Hid (¬ 8 < (countR 9 n).c → fitsR n = true → n.nm = ByteArray.empty → check19 n = first19 (nodes19 n)) := fun h h2 h3 => by unfold check19; rw [if_neg h, if_neg (by rw [h2]; decide), if_neg (fun e => e h3)]
  generalize check19 n = R at *
  obtain ⟨W1, hW1⟩ : ∃ W1, W1 = w.alloc (.cells #[.string n.nm, .slice A n.ps.length pc, .slice K n.ks.length kc] 29) := ⟨_, rfl⟩
  obtain ⟨g1, hg1⟩ : ∃ g1, g1 = w.heap.size := ⟨_, rfl⟩
  have hB1 : Below w.heap.size w W1 := by rw [hW1]; exact (Below.refl _ _).alloc (Nat.le_refl _) _
  have HA1 : Hid (Arr W1 g1 29 #[.string n.nm, .slice A n.ps.length pc, .slice K n.ks.length kc]) := by unfold Hid; rw [hW1, hg1]; exact Arr.new w _ _
  have HN := Lib.hid (nd_below hN hB1)
  have HB := Lib.hid hB1
  have HCT := Lib.hid (fun W h => rCount_any _ n (.slice A n.ps.length pc) (.slice K n.ks.length kc) W (by omega) (by omega) (h : NdAt W (fun k => k < w.heap.size) n _ _))
  have HFT := Lib.hid (fun W h => rFits_any _ n (.slice A n.ps.length pc) (.slice K n.ks.length kc) W (by omega) (by omega) (h : NdAt W (fun k => k < w.heap.size) n _ _))
  have HWK := Lib.hid (fun W h h' => rWalk_any w.heap.size n (.slice A n.ps.length pc) (.slice K n.ks.length kc) W HNM (by omega) h h')
  have HLW : Hid (∀ q ∈ walkR 8 [47] n, ∃ L, lowR (L + 1) q.2 = true) := walk_low 8 12 [47] n (low_and hl).1
  have HNS : Hid (∀ L : List SPT, L.map spP = walkR 8 [47] n → ∀ s ∈ L, (∀ i, i < s.nd.ps.length → (s.nd.ps.getD i pr0).nm.size ≤ 1073741824) ∧ (∀ i, i < s.nd.ks.length → (s.nd.ks.getD i nd0).nm.size ≤ 1073741824)) := fun L h s hs => by
    have hq : spP s ∈ walkR 8 [47] n := by rw [← h]; exact List.mem_map.2 ⟨s, hs, rfl⟩
    obtain ⟨j, hj⟩ := HLW.out _ hq
    have hj : lowR (j + 1) s.nd = true := hj
    obtain ⟨h1, h2⟩ := low_names hj
    refine ⟨fun i hi => Nat.le_trans (h1 i hi) (by decide), fun i hi => ?_⟩
    by_cases h0 : j = 0
    · have e : s.nd.ks.getD i nd0 = s.nd.ks[i] := by rw [List.getD_eq_getElem?_getD, List.getElem?_eq_getElem hi]; rfl
      subst h0
      have := low_kids hj _ (List.getElem_mem hi)
      cases this
    · exact Nat.le_trans (h2 i hi h0) (by decide)
  have HEM : Hid (n.nm.toList.isEmpty = true → n.nm = ByteArray.empty) := fun h => by
    rw [empty19, decide_eq_true_eq] at h
    exact ByteArray.ext (Array.eq_empty_of_size_eq_zero h)
  have HEN : Hid (n.nm.toList.isEmpty = false → n.nm ≠ ByteArray.empty) := fun h e => by
    rw [e, empty19] at h; cases h
  rcases hxc : countR 9 n with ⟨ca, cb, cc⟩
  rw [hxc] at HK13 HK7 HK6 HKF HCT hsz
  simp only at HK13 HK7 HK6 HKF hsz
  have HCT : Hid (∀ W, NdAt W (fun k => k < w.heap.size) n (.slice A n.ps.length pc) (.slice K n.ks.length kc) → Calls Try.prog 31 #[.agg #[.string n.nm, .slice A n.ps.length pc, .slice K n.ks.length kc]] W fun e w' => e = .returned (.agg #[.int .i64 (ca : Nat), .int .i64 (cb : Nat), .int .i64 (cc : Nat)]) ∧ Below W.heap.size W w') := fun W h => HCT.out W h
  have hcc : cc ≤ 9 := by
    have := depth_le 9 n
    rw [hxc] at this; exact this
  clear hN hB1 hpc hpm hkc hkm hl HNM hxc HLW
  go_enter Try.func15, Try.ntmps15
  go_upto_region 1 with fail
  change Code.wp _ _ _ _ (w.alloc (.cells #[.string n.nm, .slice A n.ps.length pc, .slice K n.ks.length kc] 29))
  rw [← hW1, ← hg1]
  clear hW1 hg1
  have HCE : Hid (∀ W, Below W1.heap.size W1 W → W.cell? ⟨g1, 0, none⟩ = some (.string n.nm) ∧ W.cell? ⟨g1, 1, none⟩ = some (.slice A n.ps.length pc) ∧ W.cell? ⟨g1, 2, none⟩ = some (.slice K n.ks.length kc)) := fun W h => by
    have k := HA1.out.below h HA1.out.lt
    exact ⟨k.cell 0, k.cell 1, k.cell 2⟩
  obtain ⟨c0, c1, c2⟩ := HCE.out W1 (Below.refl _ _)
  go_wp2_with fail
  refine (HCT.out W1 HN.out).mono ?_
  rintro e w2 ⟨rfl, hb⟩
  obtain ⟨W3, hW3⟩ : ∃ W3, W3 = w2.alloc (.cells #[.int .i64 ca, .int .i64 cb, .int .i64 cc] 53) := ⟨_, rfl⟩
  obtain ⟨g3, hg3⟩ : ∃ g3, g3 = w2.heap.size := ⟨_, rfl⟩
  have hb3 : Below W1.heap.size W1 W3 := by rw [hW3]; exact hb.trans (((Below.refl _ _).alloc (Nat.le_refl _) _).mono hb.size)
  have HA3 : Hid (Arr W3 g3 53 #[.int .i64 ca, .int .i64 cb, .int .i64 cc]) := by unfold Hid; rw [hW3, hg3]; exact Arr.new w2 _ _
  have d2 : W3.cell? ⟨g3, 2, none⟩ = some (.int .i64 cc) := HA3.out.cell 2
  have HN := Lib.hid (nd_below HN.out hb3)
  have HB3 := Lib.hid hb3
  have HBW := Lib.hid (HB.out.trans (hb3.mono HB.out.size))
  clear hb c0 c1 c2 HCT
  obtain ⟨c0, c1, c2⟩ := HCE.out W3 hb3
  clear hb3
  go_upto_region 2 with fail
  change Code.wp _ _ _ _ (w2.alloc (.cells #[.int .i64 ca, .int .i64 cb, .int .i64 cc] 53))
  rw [← hW3, ← hg3]
  clear hW3 hg3
  by_cases h8 : 8 < cc
  · have e8 : decide ((8 : Int) < (cc : Int)) = true := decide_eq_true (by omega)
    have HV := Lib.hid (HK13.out h8)
    clear HK13 HK7 HK6 HKF HFT HWK HNS h8
    go_wp2
    go_ret
    exact ⟨by rw [HV.out]; rfl, HBW.out⟩
  · have e8 : decide ((8 : Int) < (cc : Int)) = false := decide_eq_false (by omega)
    have HF := Lib.hid (HFT.out W3 HN.out)
    have HK7 := Lib.hid (HK7.out h8)
    have HK6 := Lib.hid (HK6.out h8)
    have HKF := Lib.hid (HKF.out h8)
    clear HK13 HFT h8
    go_wp2_with fail
    refine HF.out.mono ?_
    rintro e w4 ⟨rfl, hb⟩
    have hb4 : Below W1.heap.size W1 w4 := HB3.out.trans (hb.mono HB3.out.size)
    have HN := Lib.hid (nd_below HN.out hb)
    have HB4 := Lib.hid hb4
    have HBW := Lib.hid (HB.out.trans (hb4.mono HB.out.size))
    clear c0 c1 c2 hb HF d2
    obtain ⟨c0, c1, c2⟩ := HCE.out w4 hb4
    clear hb4
    cases hft : fitsR n with
    | false =>
      have HV := Lib.hid (HK7.out hft)
      clear HK7 HK6 HKF HWK HNS hft
      go_wp2
      go_ret
      exact ⟨by rw [HV.out]; rfl, HBW.out⟩
    | true =>
      cases hem : n.nm.toList.isEmpty with
      | false =>
        have HV := Lib.hid (HK6.out hft (HEN.out hem))
        clear HK7 HK6 HKF HWK HNS hft
        go_wp2
        go_ret
        exact ⟨by rw [HV.out]; rfl, HBW.out⟩
      | true =>
        have HV := Lib.hid (HKF.out hft (HEM.out hem))
        have HW := Lib.hid (HWK.out w4 HN.out HBW.out.size)
        clear HK7 HK6 HKF HWK hft HEM HEN
        go_wp2_with fail
        refine HW.out.mono ?_
        rintro e w5 ⟨v, L, rfl, ho, hmap, hnd, hb⟩
        obtain ⟨_, cx, ex, hle, hcx, _⟩ := row_form ho
        obtain ⟨AL, cl, rfl, hsp⟩ := row_rdSpt ho
        injection ex with e1 _ ex
        subst e1
        unfold maxLen at hcx
        have HLL : Hid (L.length ≤ 9223372036854775807) := by unfold Hid; omega
        have HSP := Lib.hid hsp
        have HND := Lib.hid hnd
        have HNL := Lib.hid (HNS.out L hmap)
        have HNO : Hid (nodes19 n = L.map SPT.nd) := spots_nodes hmap
        have HHIT : Hid (∀ i, i < L.length → (∀ j, j < i → here19 (L.getD j spt0).nd = 0) → here19 (L.getD i spt0).nd ≠ 0 → R = here19 (L.getD i spt0).nd) := fun i hi h1 h2 => by
          rw [HV.out, HNO.out, ← spots_at hi]
          refine first_hit19 (by rw [List.length_map]; exact hi) (fun j hj => by rw [spots_at (by omega)]; exact h1 j hj) ?_
          rw [spots_at hi]; exact h2
        have HOK : Hid ((∀ j, j < L.length → here19 (L.getD j spt0).nd = 0) → R = 0) := fun h => by
          rw [HV.out, HNO.out]
          exact first_ok19 fun j hj => by
            rw [List.length_map] at hj
            rw [spots_at hj]; exact h j hj
        have HBW := Lib.hid (HBW.out.trans (hb.mono HBW.out.size))
        clear hb ho hmap hnd hsp HW HNS ex hle hcx c0 c1 c2 HV HNO
        go_wp2
        go_loopw [5] (fun iv wr => ∃ i : Nat, i ≤ L.length ∧ iv = .int .i64 i ∧ Hid (∀ j, j < i → here19 (L.getD j spt0).nd = 0) ∧ Below w5.heap.size w5 wr) (fun iv _ => L.length - (intOf iv).toNat)
        case atStart => exact ⟨0, Nat.zero_le _, rfl, (fun j h => absurd h (Nat.not_lt_zero _)), Below.refl _ _⟩
        case round =>
          obtain ⟨i, hi, rfl, HJ, hb⟩ := hrel
          have hll := HLL.out
          by_cases hlt : i < L.length
          · have hii : (i : Int) < L.length := by omega
            obtain ⟨b, off, rfl, q0, q1, q2, q3⟩ := (HSP.out.below hb).at_ hlt
            have hmem := getD_mem (d := spt0) hlt
            have hnd5 := nd_below (HND.out _ hmem) hb
            obtain ⟨hz1, hz2⟩ := HNL.out _ hmem
            have HHI := Lib.hid (HHIT.out i hlt HJ.out)
            have HJ1 : Hid (here19 (L.getD i spt0).nd = 0 → ∀ j, j < i + 1 → here19 (L.getD j spt0).nd = 0) := fun h j hj => by
              by_cases e : j = i
              · rw [e]; exact h
              · exact HJ.out j (by omega)
            have HHE := Lib.hid (here19_any _ _ _ _ wr hnd5 hz1 hz2)
            generalize L.getD i spt0 = s at *
            have HBR := Lib.hid hb
            clear hb hmem hnd5 hz1 hz2 HJ q0
            go_wp2_with fail
            refine HHE.out.mono ?_
            rintro e w7 ⟨rfl, hb7⟩
            have HB7 := Lib.hid (HBR.out.trans (hb7.mono HBR.out.size))
            have HBZ := Lib.hid (HBW.out.trans (HB7.out.mono HBW.out.size))
            clear hb7 HHE
            by_cases h0 : here19 s.nd = 0
            · have d0 : ((here19 s.nd : Int) != 0) = false := by rw [h0]; rfl
              have HK := Lib.hid (HJ1.out h0)
              clear h0 HJ1 HHI
              go_wp2
              go_roundw
              case rel => exact ⟨i + 1, by omega, by go_num, HK.out, HB7.out⟩
              case measure => simp [intOf]; omega
            · have d0 : ((here19 s.nd : Int) != 0) = true := by simp; omega
              have HVV := Lib.hid (HHI.out h0)
              clear h0 HJ1 HHI
              go_wp2
              go_ret
              exact ⟨by rw [HVV.out]; rfl, HBZ.out⟩
          · obtain rfl : i = L.length := by omega
            have HVV := Lib.hid (HOK.out HJ.out)
            have HBZ := Lib.hid (HBW.out.trans (hb.mono HBW.out.size))
            clear HJ HHIT HOK hb
            go_wp2
            go_ret
            exact ⟨by rw [HVV.out]; rfl, HBZ.out⟩
end Go.Proofs.Ytmgfnghegcfhnaa
