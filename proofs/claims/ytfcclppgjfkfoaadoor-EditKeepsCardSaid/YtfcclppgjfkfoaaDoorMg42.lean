/- edit's fitting and changed, over any function that does a change at a node. Conditions: a tree of few parts that is read; paths of at most 10^6 bytes. -/
import Derived.Test.YtfcclppgjfkfoaaDoorMg37
import Derived.Test.YtfcclppgjfkfoaaDoorMg28
import Derived.Test.YtfcclppgjfkfoaaDoorMg38
import Derived.Test.YtfcclppgjfkfoaaDoorMg39
import Derived.Test.YtfcclppgjfkfoaaDoorMg41
namespace Go.Proofs.YtfcclppgjfkfoaaDoor
open Go.RowKit

set_option maxHeartbeats 1600000 in
set_option maxRecDepth 100000 in
theorem fitting_any (G : Nat → Prop) (n : ND) (y z : Value) (w : World) (ha : (countR 9 n).a ≤ 1099511627776) (hb : (countR 9 n).b ≤ 1099511627776) (hN : NdAt w G n y z) :
    Calls Tryd.prog 45 #[.agg #[.string n.nm, y, z]] w fun e w' => ∃ u2 u3, e = .returned (.tuple #[.agg #[.string (fitsTo n).1.nm, u2, u3], .int .i64 ((fitsTo n).2 : Nat)]) ∧ NdAt w' (OrNew G w.heap.size) (fitsTo n).1 u2 u3 ∧ Below w.heap.size w w' := by
  obtain ⟨A, K, pc, kc, rfl, rfl, hpc, hpm, hkc, hkm⟩ := nd_shape hN
  obtain ⟨W1, hW1⟩ : ∃ W1, W1 = (w.alloc (.cells #[.string n.nm, .slice A n.ps.length pc, .slice K n.ks.length kc] 25)).alloc (.cells #[.string ⟨#[]⟩, .slice none 0 0, .slice none 0 0] 25) := ⟨_, rfl⟩
  obtain ⟨g1, hg1⟩ : ∃ g1, g1 = w.heap.size := ⟨_, rfl⟩
  obtain ⟨g2, hg2⟩ : ∃ g2, g2 = w.heap.size + 1 := ⟨_, rfl⟩
  have hB1 : Below w.heap.size w W1 := by rw [hW1]; exact ((Below.refl _ _).alloc (Nat.le_refl _) _).alloc (by rw [sz_alloc]; omega) _
  have hA1 : Arr W1 g1 25 #[.string n.nm, .slice A n.ps.length pc, .slice K n.ks.length kc] := by rw [hW1, hg1]; exact (Arr.new w _ _).alloc _
  have hA2 : Arr W1 g2 25 #[.string ⟨#[]⟩, .slice none 0 0, .slice none 0 0] := by rw [hW1, hg2]; exact Arr.new1 w _ _ _
  have HN := Lib.hid (nd_below (nd_and hN) hB1)
  have HCT := Lib.hid (fun W G (h : NdAt W G n (.slice A n.ps.length pc) (.slice K n.ks.length kc)) => tCount_any G n _ _ W ha hb h)
  have HFT := Lib.hid (fun W G (h : NdAt W G n (.slice A n.ps.length pc) (.slice K n.ks.length kc)) => tFits_any G n _ _ W ha hb h)
  have HG2 : Hid (w.heap.size ≤ g2) := by unfold Hid; omega
  have HB1 := Lib.hid hB1
  have HA1 := Lib.hid hA1
  have HA2 := Lib.hid hA2
  have HE : Hid (fitsTo n = if 8 < (countR 9 n).c then (nd0, 13) else if fitsR n = true then (n, 0) else (nd0, 7)) := rfl
  obtain ⟨k0, k1, k2⟩ : W1.cell? ⟨g1, 0, none⟩ = some (.string n.nm) ∧ W1.cell? ⟨g1, 1, none⟩ = some (.slice A n.ps.length pc) ∧ W1.cell? ⟨g1, 2, none⟩ = some (.slice K n.ks.length kc) := ⟨hA1.cell 0, hA1.cell 1, hA1.cell 2⟩
  generalize fitsTo n = T at *
  generalize fitsR n = F at *
  rcases hct : countR 9 n with ⟨ca, cb, cc⟩
  rw [hct] at HCT HE
  simp only at HE
  clear hN hB1 hA1 hA2 ha hb hct hpc hkc
  go_enter Tryd.func45, Tryd.ntmps45
  go_upto_region 1 with fail
  change Code.wp _ _ _ _ ((w.alloc (.cells #[.string n.nm, .slice A n.ps.length pc, .slice K n.ks.length kc] 25)).alloc (.cells #[.string ⟨#[]⟩, .slice none 0 0, .slice none 0 0] 25))
  rw [← hW1, ← hg2, ← hg1]
  clear hW1 hg1 hg2
  go_wp2_with fail
  refine (HCT.out _ _ HN.out).mono ?_
  rintro e w2 ⟨rfl, hb⟩
  clear k0 k1 k2
  have HN := Lib.hid (nd_below HN.out hb)
  have HA1 := Lib.hid (HA1.out.below hb HA1.out.lt)
  have HA2 := Lib.hid (HA2.out.below hb HA2.out.lt)
  have HB1 := Lib.hid (HB1.out.trans (hb.mono HB1.out.size))
  clear hb HCT
  by_cases h : 8 < cc
  · have HE : Hid (T = (nd0, 13)) := by unfold Hid; rw [HE.out, if_pos h]
    have d1 : (8 : Int) < (cc : Int) := by omega
    clear h HFT HN HA1
    go_wp2_with (refine wpList_store_row rfl 25 (.tmp 2) (.tmp 16) rfl g2 #[.string ⟨#[]⟩, .slice none 0 0, .slice none 0 0] rfl rfl _ _ HA2.out (infoNd _ _ _) rfl zl_one ?_)
    exact bodyPost_ret (results_rowN rfl _ _ g2 _ #[.string ⟨#[]⟩, .slice none 0 0, .slice none 0 0] _ _ rfl (HA2.out.row _) Tryd.underlying25 rfl (infoNd _ _ _)) rfl ⟨_, _, by rw [HE.out]; rfl, by rw [HE.out]; exact nd0_at _ _, below_setRow HB1.out HG2.out _⟩
  replace HE := Lib.hid (HE.out.trans (if_neg h))
  have d1 : (cc : Int) ≤ 8 := by omega
  obtain ⟨k0, k1, k2⟩ : w2.cell? ⟨g1, 0, none⟩ = some (.string n.nm) ∧ w2.cell? ⟨g1, 1, none⟩ = some (.slice A n.ps.length pc) ∧ w2.cell? ⟨g1, 2, none⟩ = some (.slice K n.ks.length kc) := ⟨HA1.out.cell 0, HA1.out.cell 1, HA1.out.cell 2⟩
  clear h
  go_wp2_with fail
  refine (HFT.out _ _ HN.out).mono ?_
  rintro e w4 ⟨rfl, hb⟩
  have HN := Lib.hid (nd_below HN.out hb)
  have HA1 := Lib.hid (HA1.out.below hb HA1.out.lt)
  have HA2 := Lib.hid (HA2.out.below hb HA2.out.lt)
  have HB1 := Lib.hid (HB1.out.trans (hb.mono HB1.out.size))
  clear hb k0 k1 k2 HFT
  cases F with
  | false =>
    have HE : Hid (T = (nd0, 7)) := by unfold Hid; rw [HE.out]; rfl
    clear HN HA1
    go_wp2_with (refine wpList_store_row rfl 25 (.tmp 2) (.tmp 21) rfl g2 #[.string ⟨#[]⟩, .slice none 0 0, .slice none 0 0] rfl rfl _ _ HA2.out (infoNd _ _ _) rfl zl_one ?_)
    exact bodyPost_ret (results_rowN rfl _ _ g2 _ #[.string ⟨#[]⟩, .slice none 0 0, .slice none 0 0] _ _ rfl (HA2.out.row _) Tryd.underlying25 rfl (infoNd _ _ _)) rfl ⟨_, _, by rw [HE.out]; rfl, by rw [HE.out]; exact nd0_at _ _, below_setRow HB1.out HG2.out _⟩
  | true =>
    have HE : Hid (T = (n, 0)) := by unfold Hid; rw [HE.out]; rfl
    have HND : Hid (NdAt (w4.setRow g2 #[.string n.nm, .slice A n.ps.length pc, .slice K n.ks.length kc]) (OrNew G w.heap.size) n (.slice A n.ps.length pc) (.slice K n.ks.length kc)) := by
      have h6 := HG2.out
      exact (HN.out.kept (moved_setRow w4 g2 _) (fun k hk e => by omega)).mono fun k hk => .inl hk.1
    clear HN
    go_wp2_with (first | (refine wpList_load_row rfl 25 (.tmp 1) rfl g1 rfl _ #[.string n.nm, .slice A n.ps.length pc, .slice K n.ks.length kc] _ _ HA1.out Tryd.underlying25 rfl (infoNd _ _ _) ?_) | (refine wpList_store_row rfl 25 (.tmp 2) (.tmp 22) rfl g2 #[.string n.nm, .slice A n.ps.length pc, .slice K n.ks.length kc] rfl rfl _ _ HA2.out (infoNd _ _ _) rfl (nd_one _ _ _ _ _ _ _) ?_))
    exact bodyPost_ret (results_rowN rfl _ _ g2 _ #[.string n.nm, .slice A n.ps.length pc, .slice K n.ks.length kc] _ _ rfl (HA2.out.row _) Tryd.underlying25 rfl (infoNd _ _ _)) rfl ⟨_, _, by rw [HE.out]; rfl, by rw [HE.out]; exact HND.out, below_setRow HB1.out HG2.out _⟩

/-- The sizes of a tree that is copied. -/
theorem cp_sz {n : ND} (h : SzT n) : CpOk 12 n := ⟨h.1, by have := h.2; omega, by have := h.2; omega⟩
/-- A row of three cells that is known cell by cell. -/
theorem row_is {cur : Array Value} {x y z : Value} (hs : cur.size = 3) (h0 : cur[0]? = some x) (h1 : cur[1]? = some y) (h2 : cur[2]? = some z) : cur = #[x, y, z] := by
  apply Array.ext_getElem?
  intro i
  match i with
  | 0 => exact h0
  | 1 => exact h1
  | 2 => exact h2
  | k + 3 => rw [Array.getElem?_eq_none (by omega)]; rfl

set_option maxHeartbeats 3200000 in
set_option maxRecDepth 100000 in
theorem changed_any (G : Nat → Prop) (n : ND) (y z v : Value) (p : ByteArray) (c : CH) (w : World) (hs : SzT n) (hp : p.size ≤ 1000000) (hc : ChangeOk w v c) (hN : NdAt w G n y z) :
    Calls Tryd.prog 30 #[.agg #[.string n.nm, y, z], .string p, v] w (Ed G (doR17 n p.data.toList c) w) := by
  obtain ⟨A2, K, pc, kc, rfl, rfl, hpc, hpm, hkc, hkm⟩ := nd_shape hN
  obtain ⟨W1, hW1⟩ : ∃ W1, W1 = (w.alloc (.cells #[.string n.nm, .slice A2 n.ps.length pc, .slice K n.ks.length kc] 25)).alloc (.cells #[.string ⟨#[]⟩, .slice none 0 0, .slice none 0 0] 25) := ⟨_, rfl⟩
  obtain ⟨g3, hg3⟩ : ∃ g3, g3 = w.heap.size := ⟨_, rfl⟩
  obtain ⟨g6, hg6⟩ : ∃ g6, g6 = w.heap.size + 1 := ⟨_, rfl⟩
  have hB1 : Below w.heap.size w W1 := by rw [hW1]; exact ((Below.refl _ _).alloc (Nat.le_refl _) _).alloc (by rw [sz_alloc]; omega) _
  have hA3 : Arr W1 g3 25 #[.string n.nm, .slice A2 n.ps.length pc, .slice K n.ks.length kc] := by rw [hW1, hg3]; exact (Arr.new w _ _).alloc _
  have hA6 : Arr W1 g6 25 #[.string ⟨#[]⟩, .slice none 0 0, .slice none 0 0] := by rw [hW1, hg6]; exact Arr.new1 w _ _ _
  have HG3 : Hid (w.heap.size ≤ g3) := by unfold Hid; omega
  have HG6 : Hid (w.heap.size ≤ g6) := by unfold Hid; omega
  have HNE : Hid (g6 ≠ g3) := by unfold Hid; omega
  have HG31 : Hid (g3 < W1.heap.size) := hA3.lt
  have HN := Lib.hid (nd_below (nd_and hN) hB1)
  have HB1 := Lib.hid hB1
  have HA3 := Lib.hid hA3
  have HA6 := Lib.hid hA6
  have HPA := Lib.hid (pparts_any p W1 hp)
  have HCH := Lib.hid hc
  have hcz := sz_count hs
  have HCZ := Lib.hid hcz
  have HWD : Hid (∀ j, wideR 1000000 j n) := fun j => wide_mono (by decide) _ _ (wide_sz hs j)
  have HCP := Lib.hid (cp_sz hs)
  have HE : Hid (doR17 n p.data.toList c = if (partsR p.data.toList).2 = true then (if (downR n (baL (partsR p.data.toList).1) c).2 = 0 then fitsTo (downR n (baL (partsR p.data.toList).1) c).1 else (nd0, (downR n (baL (partsR p.data.toList).1) c).2)) else (nd0, 8)) := rfl
  generalize doR17 n p.data.toList c = T at *
  generalize baL (partsR p.data.toList).1 = L at *
  generalize (partsR p.data.toList).2 = ok at *
  clear hN hA3 hA6 hB1 hpc hkc hp hs hc hcz
  go_enter Tryd.func30, Tryd.ntmps30
  go_upto_region 1 with fail
  change Code.wp _ _ _ _ ((w.alloc (.cells #[.string n.nm, .slice A2 n.ps.length pc, .slice K n.ks.length kc] 25)).alloc (.cells #[.string ⟨#[]⟩, .slice none 0 0, .slice none 0 0] 25))
  rw [← hW1, ← hg6, ← hg3]
  clear hW1 hg6 hg3
  go_wp2_with fail
  refine HPA.out.mono ?_
  rintro e w2 ⟨A, cap, rfl, hrt, hfar, hb, hcap⟩
  have HFAR := Lib.hid hfar
  have HRT := Lib.hid hrt
  have HCAP := Lib.hid hcap
  have HA3 := Lib.hid (HA3.out.below hb HA3.out.lt)
  have HA6 := Lib.hid (HA6.out.below hb HA6.out.lt)
  have HN := Lib.hid (nd_below HN.out hb)
  have HB1 := Lib.hid (HB1.out.trans (hb.mono HB1.out.size))
  clear hrt hcap hb HPA
  cases ok with
  | false =>
    replace HE : Hid (T = (nd0, 8)) := HE.out
    clear HN HA3 HCH HRT HCAP HWD HCP HCZ
    go_wp2_with (refine wpList_store_row rfl 25 (.tmp 6) (.tmp 18) rfl g6 #[.string ⟨#[]⟩, .slice none 0 0, .slice none 0 0] rfl rfl _ _ HA6.out (infoNd _ _ _) rfl zl_one ?_)
    exact bodyPost_ret (results_rowN rfl _ _ g6 _ #[.string ⟨#[]⟩, .slice none 0 0, .slice none 0 0] _ _ rfl (HA6.out.row _) Tryd.underlying25 rfl (infoNd _ _ _)) rfl ⟨_, _, by rw [HE.out]; rfl, by rw [HE.out]; exact nd0_at _ _, below_setRow HB1.out HG6.out _⟩
  | true =>
    replace HE : Hid (T = if (downR n L c).2 = 0 then fitsTo (downR n L c).1 else (nd0, (downR n L c).2)) := HE.out
    have HCY := Lib.hid (tcopy_sole 12 n _ _ w2 HCP.out (nd_lt HN.out))
    clear HCP
    obtain ⟨c30, c31, c32⟩ : w2.cell? ⟨g3, 0, none⟩ = some (.string n.nm) ∧ w2.cell? ⟨g3, 1, none⟩ = some (.slice A2 n.ps.length pc) ∧ w2.cell? ⟨g3, 2, none⟩ = some (.slice K n.ks.length kc) := ⟨HA3.out.cell 0, HA3.out.cell 1, HA3.out.cell 2⟩
    go_wp2_with fail
    refine HCY.out.mono ?_
    rintro e w4 ⟨u2, u3, rfl, hsl, hb4⟩
    obtain ⟨oa, ob, oc, od, rfl, rfl, _⟩ := nd_shape (sole_nd hsl)
    have HSL := Lib.hid hsl
    have HB4 := Lib.hid hb4
    have HA34 := Lib.hid (HA3.out.below hb4 HA3.out.lt)
    clear hsl hb4 c30 c31 c32
    go_upto_region 5 with (refine wpList_store_row rfl 25 (.tmp 3) (.tmp 20) rfl g3 #[.string n.nm, .slice oa n.ps.length oc, .slice ob n.ks.length od] rfl rfl _ _ HA34.out (infoNd _ _ _) rfl (nd_one _ _ _ _ _ _ _) ?_)
    obtain ⟨W5, hW5⟩ : ∃ W5, W5 = w4.setRow g3 #[.string n.nm, .slice oa n.ps.length oc, .slice ob n.ks.length od] := ⟨_, rfl⟩
    have hz5 : W5.heap.size = w4.heap.size := by rw [hW5, size_setRow]
    have h36 := HNE.out
    have hA3l := HA3.out.lt
    have hA6l := HA6.out.lt
    have hA5 : Arr W5 g3 25 #[.string n.nm, .slice oa n.ps.length oc, .slice ob n.ks.length od] := by rw [hW5]; exact HA34.out.row _
    have hA65 : Arr W5 g6 25 #[.string ⟨#[]⟩, .slice none 0 0, .slice none 0 0] := by rw [hW5]; exact (HA6.out.below HB4.out hA6l).rowFar h36 _
    have hS5 : Sole W5 w2.heap.size w4.heap.size n (.slice oa n.ps.length oc) (.slice ob n.ks.length od) := by
      rw [hW5]
      exact HSL.out.kept (moved_setRow w4 g3 _) (fun k hk _ e => by omega)
    have hB5 : Below w.heap.size w W5 := by rw [hW5]; exact below_setRow (HB1.out.trans (HB4.out.mono HB1.out.size)) HG3.out _
    have hR5 : RdT W5 A L := by
      rcases HRT.out.below HB4.out with h | ⟨b, off, e, h⟩
      · exact .inl h
      · refine .inr ⟨b, off, e, fun k hk => ?_⟩
        rw [hW5]
        refine cell_kept (moved_setRow w4 g3 _) (fun e3 => ?_) (h k hk)
        rcases HFAR.out with h7 | ⟨b', off', e7, h7⟩
        · rw [h7] at hk; exact absurd hk (Nat.not_lt_zero _)
        · rw [e] at e7
          injection e7 with e7
          injection e7 with e7
          have := HG31.out
          omega
    have hpass := pass_any w v c HCH.out L A cap n _ _ W5 g3 0 #[.string n.nm, .slice oa n.ps.length oc, .slice ob n.ks.length od] w2.heap.size w4.heap.size hB5 ⟨hA5, rfl, rfl, rfl, hS5, fun h => by omega⟩ (HWD.out _) hR5 HCAP.out
    have HPS := Lib.hid hpass
    have HA65 := Lib.hid hA65
    have HB5 := Lib.hid hB5
    have HZ : Hid (w.heap.size ≤ w2.heap.size ∧ w2.heap.size ≤ w4.heap.size ∧ g6 < w2.heap.size ∧ W5.heap.size = w4.heap.size) := ⟨HB1.out.size, HB4.out.size, hA6l, hz5⟩
    rw [← hW5]
    clear hW5 hz5 h36 hA3l hA6l hA5 hA65 hS5 hB5 hR5 hpass HRT HCAP HA3 HA34 HA6 HSL HB4 HN HCY HCH HWD HB1
    go_wp2_with fail
    refine HPS.out.mono ?_
    rintro e w6 ⟨rfl, cur', hm, ha, hsz, hfr, hok⟩
    have hA66 := hm.arr HA65.out (fun h => by have := HZ.out; have := HNE.out; omega)
    have hB6 : Below w.heap.size w w6 := HB5.out.trans (hm.below (fun k hk => by have := HZ.out; have := HG3.out; omega) HB5.out.size)
    have HA6 := Lib.hid hA66
    have HB6 := Lib.hid hB6
    have HL66 := Lib.hid hA66.lt
    have h0c : cur'[0]? = some (.string n.nm) := by rw [hfr 0 (by decide) (by decide)]; rfl
    by_cases h0 : (downR n L c).2 = 0
    · have hdn := down_nm h0
      have hdc := down_count L n c 9 h0
      obtain ⟨p', q', e1, e2, hnd⟩ := hok h0
      replace HE : Hid (T = fitsTo (downR n L c).1) := HE.out.trans (if_pos h0)
      have d1 : ((((downR n L c).2 : Nat) : Int) != 0) = false := by rw [h0]; rfl
      have hz := HCZ.out
      rw [← hdn] at h0c
      generalize hD : (downR n L c).1 = D at *
      obtain ⟨ua, ub, uc, ud, rfl, rfl, _⟩ := nd_shape hnd
      have hrow : cur' = #[.string D.nm, .slice ua D.ps.length uc, .slice ub D.ks.length ud] := row_is hsz h0c e1 e2
      subst hrow
      have HA3 := Lib.hid ha
      have HFI := Lib.hid (fitting_any _ D _ _ w6 (by omega) (by omega) hnd)
      obtain ⟨c30, c31, c32⟩ : w6.cell? ⟨g3, 0, none⟩ = some (.string D.nm) ∧ w6.cell? ⟨g3, 1, none⟩ = some (.slice ua D.ps.length uc) ∧ w6.cell? ⟨g3, 2, none⟩ = some (.slice ub D.ks.length ud) := ⟨ha.cell 0, ha.cell 1, ha.cell 2⟩
      generalize (downR n L c).2 = en at *
      clear hm ha hfr hok hnd h0c e1 e2 hdn hdc hz hA66 hB6 HPS HA65 HB5 h0 hD hsz HCZ
      go_wp2_with fail
      refine HFI.out.mono ?_
      rintro e w7 ⟨x2, x3, rfl, hk9, hb⟩
      obtain ⟨xa, xb, xc, xd, rfl, rfl, _⟩ := nd_shape hk9
      have HA6 := Lib.hid (HA6.out.below hb HA6.out.lt)
      have HB7 := Lib.hid (HB6.out.trans (hb.mono HB6.out.size))
      rw [← HE.out] at hk9
      have HND2 : Hid (NdAt (w7.setRow g6 #[.string T.1.nm, .slice xa T.1.ps.length xc, .slice xb T.1.ks.length xd]) (OrNew G w.heap.size) T.1 (.slice xa T.1.ps.length xc) (.slice xb T.1.ks.length xd)) := by
        have h6 := HZ.out
        have h7 := HB6.out.size
        have h8 := HL66.out
        exact (hk9.kept (moved_setRow w7 g6 _) (fun k hk e => by rcases hk with (hk | hk) | hk <;> omega)).mono fun k hk => by
          rcases hk with (hk | hk) | hk
          · exact .inr (by omega)
          · exact .inr (by omega)
          · exact .inr (by omega)
      rw [HE.out] at HND2
      clear hk9 hb c30 c31 c32 HA3 HFI
      go_wp2_with (refine wpList_store_row rfl 25 (.tmp 6) (.tmp 30) rfl g6 #[.string (fitsTo D).1.nm, .slice xa (fitsTo D).1.ps.length xc, .slice xb (fitsTo D).1.ks.length xd] rfl rfl _ _ HA6.out (infoNd _ _ _) rfl (nd_one _ _ _ _ _ _ _) ?_)
      exact bodyPost_ret (results_rowN rfl _ _ g6 _ #[.string (fitsTo D).1.nm, .slice xa (fitsTo D).1.ps.length xc, .slice xb (fitsTo D).1.ks.length xd] _ _ rfl (HA6.out.row _) Tryd.underlying25 rfl (infoNd _ _ _)) rfl ⟨_, _, by rw [HE.out]; rfl, by rw [HE.out]; exact HND2.out, below_setRow HB7.out HG6.out _⟩
    · replace HE : Hid (T = (nd0, (downR n L c).2)) := HE.out.trans (if_neg h0)
      have d1 : ((((downR n L c).2 : Nat) : Int) != 0) = true := by simp; omega
      generalize (downR n L c).2 = en at *
      clear hm ha hfr hok h0c hA66 hB6 HPS HA65 HB5 h0 hsz HCZ
      go_wp2_with (refine wpList_store_row rfl 25 (.tmp 6) (.tmp 26) rfl g6 #[.string ⟨#[]⟩, .slice none 0 0, .slice none 0 0] rfl rfl _ _ HA6.out (infoNd _ _ _) rfl zl_one ?_)
      exact bodyPost_ret (results_rowN rfl _ _ g6 _ #[.string ⟨#[]⟩, .slice none 0 0, .slice none 0 0] _ _ rfl (HA6.out.row _) Tryd.underlying25 rfl (infoNd _ _ _)) rfl ⟨_, _, by rw [HE.out]; rfl, by rw [HE.out]; exact nd0_at _ _, below_setRow HB6.out HG6.out _⟩
end Go.Proofs.YtfcclppgjfkfoaaDoor
