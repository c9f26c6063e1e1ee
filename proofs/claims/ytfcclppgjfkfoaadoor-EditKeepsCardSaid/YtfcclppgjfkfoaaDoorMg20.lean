/- The document's here of layer 17: a change at a node. Conditions: a node of at most 10^6 properties and kids that is read; names of at most 2^40 bytes. -/
import Derived.Test.YtfcclppgjfkfoaaDoorMg19
namespace Go.Proofs.YtfcclppgjfkfoaaDoor
open Go.RowKit

set_option maxHeartbeats 3200000 in
set_option maxRecDepth 100000 in
theorem rhere_any (G : Nat → Prop) (n : ND) (y z : Value) (c : CH) (w : World) (hN : NdAt w G n y z) (hc : c.nm.size ≤ 1099511627776) (hl1 : n.ps.length ≤ 1000000) (hl2 : n.ks.length ≤ 1000000) :
    Calls Tryd.prog 65 #[.agg #[.string n.nm, y, z], .agg #[.int .i64 c.kd, .string c.nm, .string c.vl]] w fun e w' => ∃ u2 u3, e = .returned (.tuple #[.agg #[.string (hereR n c).1.nm, u2, u3], .int .i64 ((hereR n c).2 : Nat)]) ∧ NdAt w' (OrNew G w.heap.size) (hereR n c).1 u2 u3 ∧ Below w.heap.size w w' := by
  obtain ⟨A, K, pc, kc, rfl, rfl, hpc, hpm, hkc, hkm⟩ := nd_shape hN
  obtain ⟨kd, cn, cv⟩ := c
  simp only at hc
  obtain ⟨W1, hW1⟩ : ∃ W1, W1 = ((w.alloc (.cells #[.string n.nm, .slice A n.ps.length pc, .slice K n.ks.length kc] 25)).alloc (.cells #[.int .i64 kd, .string cn, .string cv] 27)).alloc (.cells #[.string ⟨#[]⟩, .slice none 0 0, .slice none 0 0] 25) := ⟨_, rfl⟩
  obtain ⟨g2, hg2⟩ : ∃ g2, g2 = w.heap.size := ⟨_, rfl⟩
  obtain ⟨g3, hg3⟩ : ∃ g3, g3 = w.heap.size + 1 := ⟨_, rfl⟩
  obtain ⟨g4, hg4⟩ : ∃ g4, g4 = w.heap.size + 1 + 1 := ⟨_, rfl⟩
  have hz1 : W1.heap.size = w.heap.size + 3 := by rw [hW1, sz_alloc, sz_alloc, sz_alloc]
  have hB1 : Below w.heap.size w W1 := by rw [hW1]; exact (((Below.refl _ _).alloc (Nat.le_refl _) _).alloc (by rw [sz_alloc]; omega) _).alloc (by rw [sz_alloc, sz_alloc]; omega) _
  have hA2 : Arr W1 g2 25 #[.string n.nm, .slice A n.ps.length pc, .slice K n.ks.length kc] := by rw [hW1, hg2]; exact ((Arr.new w _ _).alloc _).alloc _
  have hA3 : Arr W1 g3 27 #[.int .i64 kd, .string cn, .string cv] := by rw [hW1, hg3]; exact (Arr.new1 w _ _ _).alloc _
  have hA4 : Arr W1 g4 25 #[.string ⟨#[]⟩, .slice none 0 0, .slice none 0 0] := by rw [hW1, hg4]; have h := Arr.new ((w.alloc (.cells #[.string n.nm, .slice A n.ps.length pc, .slice K n.ks.length kc] 25)).alloc (.cells #[.int .i64 kd, .string cn, .string cv] 27)) 25 #[.string ⟨#[]⟩, .slice none 0 0, .slice none 0 0]; rw [sz_alloc, sz_alloc] at h; exact h
  have hN1 : NdAt W1 (fun k => G k ∧ k < w.heap.size) n (.slice A n.ps.length pc) (.slice K n.ks.length kc) := nd_below (nd_and hN) hB1
  obtain ⟨kx, hkx⟩ : ∃ kx, kx = orN (kidR n cn) := ⟨_, rfl⟩
  obtain ⟨kb, hkb⟩ : ∃ kb, kb = (kidR n cn).isSome := ⟨_, rfl⟩
  have HKB := Lib.hid hkb
  have hkid := rkid_any _ n _ _ cn W1 hN1
  rw [← hkx, ← hkb] at hkid
  have HKD := Lib.hid hkid
  have HMA := Lib.hid (fun W => rmay_any cn W (by unfold maxLen; exact Nat.le_trans hc (by decide)))
  have HMK := Lib.hid (fun W => rMayKid_any cn W hc)
  have c20 : W1.cell? ⟨g2, 0, none⟩ = some (.string n.nm) ∧ W1.cell? ⟨g2, 1, none⟩ = some (.slice A n.ps.length pc) ∧ W1.cell? ⟨g2, 2, none⟩ = some (.slice K n.ks.length kc) ∧ W1.cell? ⟨g3, 1, none⟩ = some (.string cn) := ⟨hA2.cell 0, hA2.cell 1, hA2.cell 2, hA3.cell 1⟩
  obtain ⟨c20, c21, c22, c31⟩ := c20
  have HG4 : Hid (w.heap.size ≤ g4) := by unfold Hid; omega
  have HG2 : Hid (w.heap.size ≤ g2) := by unfold Hid; omega
  have HNE : Hid (g4 ≠ g2) := by unfold Hid; omega
  have HL2 : Hid (g2 < W1.heap.size) := hA2.lt
  have HL4 : Hid (g4 < W1.heap.size) := hA4.lt
  have HB1 := Lib.hid hB1
  have HA2 := Lib.hid hA2
  have HA3 := Lib.hid hA3
  have HA4 := Lib.hid hA4
  have HN := Lib.hid hN1
  clear hN hA2 hA3 hA4 hB1 hN1 hkid hkx hkb hpc hkc
  go_enter Tryd.func65, Tryd.ntmps65
  go_upto_region 1 with fail
  change Code.wp _ _ _ _ (((w.alloc (.cells #[.string n.nm, .slice A n.ps.length pc, .slice K n.ks.length kc] 25)).alloc (.cells #[.int .i64 kd, .string cn, .string cv] 27)).alloc (.cells #[.string ⟨#[]⟩, .slice none 0 0, .slice none 0 0] 25))
  rw [← hW1, ← hg4, ← hg3, ← hg2]
  clear hW1 hg4 hg3 hg2 hz1
  go_wp2_with fail
  refine HKD.out.mono ?_
  rintro e w2 ⟨u2, u3, rfl, hk7, hb⟩
  obtain ⟨ua, ub, uc, ud, rfl, rfl, _⟩ := nd_shape hk7
  have HAN : Hid (Arr (w2.alloc (.cells #[.string ⟨#[]⟩, .slice none 0 0, .slice none 0 0] 25)) w2.heap.size 25 #[.string ⟨#[]⟩, .slice none 0 0, .slice none 0 0]) := Arr.new _ _ _
  obtain ⟨W2, hW2⟩ : ∃ W2, W2 = (w2.alloc (.cells #[.string ⟨#[]⟩, .slice none 0 0, .slice none 0 0] 25)).setRow w2.heap.size #[.string kx.nm, .slice ua kx.ps.length uc, .slice ub kx.ks.length ud] := ⟨_, rfl⟩
  have hb2 : Below W1.heap.size W1 W2 := by rw [hW2]; exact below_setRow (hb.alloc hb.size _) hb.size _
  have HA2 := Lib.hid (HA2.out.below hb2 HL2.out)
  have HA3 := Lib.hid (HA3.out.below hb2 HA3.out.lt)
  have HA4 := Lib.hid (HA4.out.below hb2 HL4.out)
  have HB2 := Lib.hid (HB1.out.trans (hb2.mono HB1.out.size))
  have HN := Lib.hid (nd_below HN.out hb2)
  have HS2 := Lib.hid hb2.size
  clear hb hk7 HKD c20 c21 c22 c31 hb2
  go_upto_region 2 with (refine wpList_store_row rfl 25 (.tmp 6) (.tmp 16) rfl w2.heap.size #[.string kx.nm, .slice ua kx.ps.length uc, .slice ub kx.ks.length ud] rfl rfl _ _ HAN.out (infoNd _ _ _) rfl (nd_one _ _ _ _ _ _ _) ?_)
  rw [← hW2]
  clear hW2 HAN
  have c20 : W2.cell? ⟨g2, 0, none⟩ = some (.string n.nm) ∧ W2.cell? ⟨g2, 1, none⟩ = some (.slice A n.ps.length pc) ∧ W2.cell? ⟨g2, 2, none⟩ = some (.slice K n.ks.length kc) := ⟨HA2.out.cell 0, HA2.out.cell 1, HA2.out.cell 2⟩
  obtain ⟨c20, c21, c22⟩ := c20
  have c30 : W2.cell? ⟨g3, 0, none⟩ = some (.int .i64 kd) ∧ W2.cell? ⟨g3, 1, none⟩ = some (.string cn) ∧ W2.cell? ⟨g3, 2, none⟩ = some (.string cv) := ⟨HA3.out.cell 0, HA3.out.cell 1, HA3.out.cell 2⟩
  obtain ⟨c30, c31, c32⟩ := c30
  have HPR := Lib.hid (rprops_any _ A pc n.ps ⟨kd, cn, cv⟩ W2 (nd_props HN.out).1 hl1)
  have HWO := Lib.hid (rwithout_any _ n (.slice A n.ps.length pc) K kc cn W2 HN.out hl2)
  -- what the last region finds
  have HEND : Hid (∀ (W3 : World) (j : Nat) (v : Value) (cs : Array Value), Below W2.heap.size W2 W3 → Arr W3 g2 25 #[.string n.nm, .slice A n.ps.length pc, .slice K n.ks.length kc] ∧ Arr W3 g4 25 #[.string ⟨#[]⟩, .slice none 0 0, .slice none 0 0] ∧ W3.cell? ⟨g2, j, none⟩ = (#[.string n.nm, .slice A n.ps.length pc, .slice K n.ks.length kc] : Array Value)[j]? ∧ W3.frozen? ⟨g2, j, none⟩ = false ∧
      Arr (W3.setCell ⟨g2, j, none⟩ v) g2 25 (#[.string n.nm, .slice A n.ps.length pc, .slice K n.ks.length kc].setIfInBounds j v) ∧ Arr (W3.setCell ⟨g2, j, none⟩ v) g4 25 #[.string ⟨#[]⟩, .slice none 0 0, .slice none 0 0] ∧ Below w.heap.size w ((W3.setCell ⟨g2, j, none⟩ v).setRow g4 cs) ∧ NdAt ((W3.setCell ⟨g2, j, none⟩ v).setRow g4 cs) (OrNew G w.heap.size) n (.slice A n.ps.length pc) (.slice K n.ks.length kc) ∧
      Moved W3 ((W3.setCell ⟨g2, j, none⟩ v).setRow g4 cs) (fun k => k = g2 ∨ k = g4) (fun k => k = g2 ∨ k = g4) ∧ W2.heap.size ≤ W3.heap.size) := fun W3 j v cs h3 => by
    have a2 := HA2.out.below h3 HA2.out.lt
    have a4 := HA4.out.below h3 HA4.out.lt
    have hb3 := HB2.out.trans (h3.mono HB2.out.size)
    have hm := moved_two W3 g2 g4 j v cs
    have q2 := HG2.out
    have q4 := HG4.out
    have hne : g4 ≠ g2 := HNE.out
    exact ⟨a2, a4, a2.cell j, a2.frozen j, a2.put j v, a4.gr (gr_cell W3 g2 j v) (fun e => hne (by injection e)), below_setRow (hb3.setCell (p := ⟨g2, j, none⟩) q2 v) q4 cs, nd_two (nd_below HN.out h3) hm (fun k hk hf => by rcases hf with e | e <;> omega), hm, h3.size⟩
  by_cases k1 : kd = 1
  · have d1 : (kd == 1) = true := by simpa using k1
    cases hm : mayB cn with
    | false =>
      rw [hm] at HMA
      have HE0 : Hid (hereR n ⟨kd, cn, cv⟩ = (nd0, 1)) := by unfold Hid hereR; rw [if_pos k1, hm, if_neg (by decide)]
      clear hm k1 HN HMK HPR HWO HEND
      go_wp2_with fail
      refine (HMA.out _).mono ?_
      rintro e w3 ⟨rfl, rfl⟩
      go_wp2_with (refine wpList_store_row rfl 25 (.tmp 4) (.tmp 35) rfl g4 #[.string ⟨#[]⟩, .slice none 0 0, .slice none 0 0] rfl rfl _ _ HA4.out (infoNd _ _ _) rfl zl_one ?_)
      exact bodyPost_ret (results_rowN rfl _ _ g4 _ #[.string ⟨#[]⟩, .slice none 0 0, .slice none 0 0] _ _ rfl (HA4.out.row _) Tryd.underlying25 rfl (infoNd _ _ _)) rfl ⟨_, _, by rw [HE0.out]; rfl, by rw [HE0.out]; exact nd0_at _ _, below_setRow HB2.out HG4.out _⟩
    | true =>
      rw [hm] at HMA
      have HE0 : Hid (hereR n ⟨kd, cn, cv⟩ = (.mk n.nm (propsR ⟨kd, cn, cv⟩ n.ps).1 n.ks, 0)) := by unfold Hid hereR; rw [if_pos k1, hm, if_pos rfl]
      clear hm k1 HMK HWO
      generalize propsR ⟨kd, cn, cv⟩ n.ps = T at *
      go_wp2_with fail
      refine (HMA.out _).mono ?_
      rintro e w3 ⟨rfl, rfl⟩
      go_wp2_with fail
      refine HPR.out.mono ?_
      rintro e w3 ⟨v, rfl, hv, hb3⟩
      obtain ⟨va, vc, hve, _, _, _⟩ := rdPr_row (fun _ => True) hv (fun _ _ => trivial)
      subst hve
      have HV := Lib.hid hv
      obtain ⟨a2, a4, -, f21, b2, b4, -⟩ := HEND.out w3 1 (.slice va T.1.length vc) #[] hb3
      obtain ⟨-, -, -, -, -, -, hbf, hnf, hmf, hsf⟩ := HEND.out w3 1 (.slice va T.1.length vc) #[.string n.nm, .slice va T.1.length vc, .slice K n.ks.length kc] hb3
      have p20 : w3.cell? ⟨g2, 1, none⟩ = some (.slice A n.ps.length pc) := a2.cell 1
      have HA2' : Hid (Arr (w3.setCell ⟨g2, 1, none⟩ (.slice va T.1.length vc)) g2 25 #[.string n.nm, .slice va T.1.length vc, .slice K n.ks.length kc]) := b2
      have HA4' := Lib.hid b4
      have HBF := Lib.hid hbf
      have HS2 := HS2.out
      have HND : Hid (NdAt ((w3.setCell ⟨g2, 1, none⟩ (.slice va T.1.length vc)).setRow g4 #[.string n.nm, .slice va T.1.length vc, .slice K n.ks.length kc]) (OrNew G w.heap.size) (.mk n.nm T.1 n.ks) (.slice va T.1.length vc) (.slice K n.ks.length kc)) :=
        nd_withProps hnf (hmf.row hv (fun k hk hf => by
          have h5 := (hv.lt k hk).1
          have h6 := HL2.out
          have h7 := HL4.out
          rcases hf with e | e <;> omega)) (fun k hk => .inr (Nat.le_trans HB2.out.size (hv.lt k hk).1))
      obtain ⟨W4, hW4⟩ : ∃ W4, W4 = w3.setCell ⟨g2, 1, none⟩ (.slice va T.1.length vc) := ⟨_, rfl⟩
      rw [← hW4] at HA2' HA4' HBF HND
      clear a2 a4 b2 b4 hbf hnf hmf hsf hv hb3 HV HN HEND HA2 HA4 HB2 HPR
      go_upto_region 23 with fail
      rw [← hW4]
      clear hW4
      go_wp2_with (first | (refine wpList_load_row rfl 25 (.tmp 2) rfl g2 rfl _ #[.string n.nm, .slice va T.1.length vc, .slice K n.ks.length kc] _ _ HA2'.out Tryd.underlying25 rfl (infoNd _ _ _) ?_) | (refine wpList_store_row rfl 25 (.tmp 4) (.tmp 78) rfl g4 #[.string n.nm, .slice va T.1.length vc, .slice K n.ks.length kc] rfl rfl _ _ HA4'.out (infoNd _ _ _) rfl (nd_one _ _ _ _ _ _ _) ?_))
      exact bodyPost_ret (results_rowN rfl _ _ g4 _ #[.string n.nm, .slice va T.1.length vc, .slice K n.ks.length kc] _ _ rfl (HA4'.out.row _) Tryd.underlying25 rfl (infoNd _ _ _)) rfl ⟨_, _, by rw [HE0.out]; rfl, by rw [HE0.out]; exact HND.out, HBF.out⟩
  have d1 : (kd == 1) = false := by simpa using k1
  by_cases k2 : kd = 2
  · have d2 : (kd == 2) = true := by simpa using k2
    cases hm : (propsR ⟨kd, cn, cv⟩ n.ps).2 with
    | false =>
      rw [hm] at HPR
      have HE0 : Hid (hereR n ⟨kd, cn, cv⟩ = (nd0, 8)) := by unfold Hid hereR; rw [if_neg k1, if_pos k2, hm, if_neg (by decide)]
      clear hm k1 k2 HMK HWO HMA HN HEND
      generalize propsR ⟨kd, cn, cv⟩ n.ps = T at *
      go_wp2_with fail
      refine HPR.out.mono ?_
      rintro e w3 ⟨v, rfl, hv, hb3⟩
      obtain ⟨va, vc, hve, _, _, _⟩ := rdPr_row (fun _ => True) hv (fun _ _ => trivial)
      subst hve
      have HA4 := Lib.hid (HA4.out.below hb3 HA4.out.lt)
      have HB3 := Lib.hid (HB2.out.trans (hb3.mono HB2.out.size))
      clear hv hb3
      go_wp2_with (refine wpList_store_row rfl 25 (.tmp 4) (.tmp 55) rfl g4 #[.string ⟨#[]⟩, .slice none 0 0, .slice none 0 0] rfl rfl _ _ HA4.out (infoNd _ _ _) rfl zl_one ?_)
      exact bodyPost_ret (results_rowN rfl _ _ g4 _ #[.string ⟨#[]⟩, .slice none 0 0, .slice none 0 0] _ _ rfl (HA4.out.row _) Tryd.underlying25 rfl (infoNd _ _ _)) rfl ⟨_, _, by rw [HE0.out]; rfl, by rw [HE0.out]; exact nd0_at _ _, below_setRow HB3.out HG4.out _⟩
    | true =>
      rw [hm] at HPR
      have HE0 : Hid (hereR n ⟨kd, cn, cv⟩ = (.mk n.nm (propsR ⟨kd, cn, cv⟩ n.ps).1 n.ks, 0)) := by unfold Hid hereR; rw [if_neg k1, if_pos k2, hm, if_pos rfl]
      clear hm k1 k2 HMK HWO HMA
      generalize propsR ⟨kd, cn, cv⟩ n.ps = T at *
      go_wp2_with fail
      refine HPR.out.mono ?_
      rintro e w3 ⟨v, rfl, hv, hb3⟩
      obtain ⟨va, vc, hve, _, _, _⟩ := rdPr_row (fun _ => True) hv (fun _ _ => trivial)
      subst hve
      have HV := Lib.hid hv
      obtain ⟨a2, a4, -, f21, b2, b4, -⟩ := HEND.out w3 1 (.slice va T.1.length vc) #[] hb3
      obtain ⟨-, -, -, -, -, -, hbf, hnf, hmf, hsf⟩ := HEND.out w3 1 (.slice va T.1.length vc) #[.string n.nm, .slice va T.1.length vc, .slice K n.ks.length kc] hb3
      have p20 : w3.cell? ⟨g2, 1, none⟩ = some (.slice A n.ps.length pc) := a2.cell 1
      have HA2' : Hid (Arr (w3.setCell ⟨g2, 1, none⟩ (.slice va T.1.length vc)) g2 25 #[.string n.nm, .slice va T.1.length vc, .slice K n.ks.length kc]) := b2
      have HA4' := Lib.hid b4
      have HBF := Lib.hid hbf
      have HS2 := HS2.out
      have HND : Hid (NdAt ((w3.setCell ⟨g2, 1, none⟩ (.slice va T.1.length vc)).setRow g4 #[.string n.nm, .slice va T.1.length vc, .slice K n.ks.length kc]) (OrNew G w.heap.size) (.mk n.nm T.1 n.ks) (.slice va T.1.length vc) (.slice K n.ks.length kc)) :=
        nd_withProps hnf (hmf.row hv (fun k hk hf => by
          have h5 := (hv.lt k hk).1
          have h6 := HL2.out
          have h7 := HL4.out
          rcases hf with e | e <;> omega)) (fun k hk => .inr (Nat.le_trans HB2.out.size (hv.lt k hk).1))
      obtain ⟨W4, hW4⟩ : ∃ W4, W4 = w3.setCell ⟨g2, 1, none⟩ (.slice va T.1.length vc) := ⟨_, rfl⟩
      rw [← hW4] at HA2' HA4' HBF HND
      clear a2 a4 b2 b4 hbf hnf hmf hsf hv hb3 HV HN HEND HA2 HA4 HB2 HPR
      go_upto_region 23 with fail
      rw [← hW4]
      clear hW4
      go_wp2_with (first | (refine wpList_load_row rfl 25 (.tmp 2) rfl g2 rfl _ #[.string n.nm, .slice va T.1.length vc, .slice K n.ks.length kc] _ _ HA2'.out Tryd.underlying25 rfl (infoNd _ _ _) ?_) | (refine wpList_store_row rfl 25 (.tmp 4) (.tmp 78) rfl g4 #[.string n.nm, .slice va T.1.length vc, .slice K n.ks.length kc] rfl rfl _ _ HA4'.out (infoNd _ _ _) rfl (nd_one _ _ _ _ _ _ _) ?_))
      exact bodyPost_ret (results_rowN rfl _ _ g4 _ #[.string n.nm, .slice va T.1.length vc, .slice K n.ks.length kc] _ _ rfl (HA4'.out.row _) Tryd.underlying25 rfl (infoNd _ _ _)) rfl ⟨_, _, by rw [HE0.out]; rfl, by rw [HE0.out]; exact HND.out, HBF.out⟩
  have d2 : (kd == 2) = false := by simpa using k2
  by_cases k3 : kd = 3
  · have d3 : (kd == 3) = true := by simpa using k3
    cases hm : mayKidR cn with
    | false =>
      rw [hm] at HMK
      have HE0 : Hid (hereR n ⟨kd, cn, cv⟩ = (nd0, 1)) := by unfold Hid hereR; rw [if_neg k1, if_neg k2, if_pos k3, hm, if_pos rfl]
      clear hm k1 k2 k3 HN HMA HPR HWO HEND
      go_wp2_with fail
      refine (HMK.out _).mono ?_
      rintro e w3 ⟨rfl, rfl⟩
      go_wp2_with (refine wpList_store_row rfl 25 (.tmp 4) (.tmp 64) rfl g4 #[.string ⟨#[]⟩, .slice none 0 0, .slice none 0 0] rfl rfl _ _ HA4.out (infoNd _ _ _) rfl zl_one ?_)
      exact bodyPost_ret (results_rowN rfl _ _ g4 _ #[.string ⟨#[]⟩, .slice none 0 0, .slice none 0 0] _ _ rfl (HA4.out.row _) Tryd.underlying25 rfl (infoNd _ _ _)) rfl ⟨_, _, by rw [HE0.out]; rfl, by rw [HE0.out]; exact nd0_at _ _, below_setRow HB2.out HG4.out _⟩
    | true =>
      rw [hm] at HMK
      cases kb with
      | true =>
        have HE0 : Hid (hereR n ⟨kd, cn, cv⟩ = (nd0, 12)) := by unfold Hid hereR; rw [if_neg k1, if_neg k2, if_pos k3, hm, if_neg (by decide), if_pos HKB.out.symm]
        clear hm k1 k2 k3 HN HMA HPR HWO HEND
        go_wp2_with fail
        refine (HMK.out _).mono ?_
        rintro e w3 ⟨rfl, rfl⟩
        go_wp2_with (refine wpList_store_row rfl 25 (.tmp 4) (.tmp 66) rfl g4 #[.string ⟨#[]⟩, .slice none 0 0, .slice none 0 0] rfl rfl _ _ HA4.out (infoNd _ _ _) rfl zl_one ?_)
        exact bodyPost_ret (results_rowN rfl _ _ g4 _ #[.string ⟨#[]⟩, .slice none 0 0, .slice none 0 0] _ _ rfl (HA4.out.row _) Tryd.underlying25 rfl (infoNd _ _ _)) rfl ⟨_, _, by rw [HE0.out]; rfl, by rw [HE0.out]; exact nd0_at _ _, below_setRow HB2.out HG4.out _⟩
      | false =>
        have HE0 : Hid (hereR n ⟨kd, cn, cv⟩ = (.mk n.nm n.ps (n.ks ++ [.mk cn [] []]), 0)) := by unfold Hid hereR; rw [if_neg k1, if_neg k2, if_pos k3, hm, if_neg (by decide), if_neg (by rw [← HKB.out]; decide)]
        obtain ⟨kl, hkm', hkn, hke, hkcp, hkr⟩ := nd_kids HN.out
        have HKL := Lib.hid hkm'
        have HKN := Lib.hid hkn
        have HEL := Lib.hid elemNode
        have hkz : kl.length ≤ 1000000 := by rw [← hke]; exact hl2
        have hkl3 : (kdL kl).length = kl.length * 3 := by rw [kdL, flat_len (f := kdl) (n := 3) (fun _ => rfl)]
        have HR : Hid (kl.length = 0 ∨ ∃ b off, K = some ⟨b, off, none⟩ ∧ ∀ j u, (kdL kl)[j]? = some u → W2.cell? ⟨b, off + j, none⟩ = some u) := hkr.imp (fun h => by rw [h]; rfl) id
        have HONE : Hid (∀ x ∈ kdL kl, x.oneCell' = true) := fun x hx => by
          obtain ⟨q, hq, hx⟩ := List.mem_flatMap.1 hx
          obtain ⟨ya, za, yc, zc, e1, e2, _⟩ := nd_shape (hkn q hq)
          unfold kdl at hx
          rw [e1, e2] at hx
          simp at hx
          rcases hx with rfl | rfl | rfl <;> rfl
        clear hm k1 k2 k3 HMA HPR HWO hkm' hkn hkr
        rw [hke] at c22 ⊢
        go_wp2_with fail
        refine (HMK.out _).mono ?_
        rintro e w3 ⟨rfl, rfl⟩
        go_upto_region 22 with (at_builtin; refine append_cells rfl (.tmp 67) (.tmp 69) 23 rfl 25 3 64 HEL (.slice none 0 0) 0 kl.length kc K [] (kdL kl) rfl (World.ownsRow_nil _ _ _ _) rfl hkl3 hkcp HR.out HONE.out (by unfold maxLen; omega) (by omega) ?_; intro v5 w5 ho5 hm5; have HO5 := Lib.hid ho5; have HM5 := Lib.hid hm5; clear ho5 hm5)
        have hb5 : Below W2.heap.size W2 w5 := HM5.out.below (fun k hk => by cases hk) (Nat.le_refl _)
        have hf5 : ∀ k, ownS v5 k → W2.heap.size ≤ k := fun k hk => by
          rcases HM5.out.foot k hk with h | h
          · cases h
          · exact h
        have a3 := HA3.out.below hb5 HA3.out.lt
        have p31 : w5.cell? ⟨g3, 1, none⟩ = some (.string cn) := a3.cell 1
        have HF5 := Lib.hid hf5
        have HB5 := Lib.hid hb5
        have hs5 := hb5.size
        have HO5' : Hid (w5.ownsRow 0 25 3 v5 kl.length (kdL kl)) := by
          have h := HO5.out
          rw [List.nil_append, Nat.zero_add] at h
          exact h
        have HQ : Hid (∀ (v6 : Value) (w6 : World), w6.ownsRow 0 25 3 v6 (kl.length + 1) (kdL kl ++ #[.string cn, .slice none 0 0, .slice none 0 0].toList) → Moved w5 w6 (ownS v5) (ownS v6) → ∃ va vc, v6 = .slice va (kl.length + 1) vc ∧ w6.cell? ⟨g2, 2, none⟩ = some (.slice K n.ks.length kc) ∧ w6.frozen? ⟨g2, 2, none⟩ = false ∧
            Arr (w6.setCell ⟨g2, 2, none⟩ (.slice va (kl.length + 1) vc)) g2 25 #[.string n.nm, .slice A n.ps.length pc, .slice va (kl.length + 1) vc] ∧ Arr (w6.setCell ⟨g2, 2, none⟩ (.slice va (kl.length + 1) vc)) g4 25 #[.string ⟨#[]⟩, .slice none 0 0, .slice none 0 0] ∧ Below w.heap.size w ((w6.setCell ⟨g2, 2, none⟩ (.slice va (kl.length + 1) vc)).setRow g4 #[.string n.nm, .slice A n.ps.length pc, .slice va (kl.length + 1) vc]) ∧
            NdAt ((w6.setCell ⟨g2, 2, none⟩ (.slice va (kl.length + 1) vc)).setRow g4 #[.string n.nm, .slice A n.ps.length pc, .slice va (kl.length + 1) vc]) (OrNew G w.heap.size) (.mk n.nm n.ps (n.ks ++ [.mk cn [] []])) (.slice A n.ps.length pc) (.slice va (kl.length + 1) vc)) := fun v6 w6 ho hm => by
          obtain ⟨va, vc, rfl, _⟩ := row_form ho
          have hb6 : Below W2.heap.size W2 w6 := HB5.out.trans (hm.below HF5.out HB5.out.size)
          have hf6 : ∀ k, ownS (.slice va (kl.length + 1) vc) k → W2.heap.size ≤ k := fun k hk => by
            rcases hm.foot k hk with h | h
            · exact HF5.out k h
            · exact Nat.le_trans HB5.out.size h
          obtain ⟨a2, a4, -, f22, b2, b4, -⟩ := HEND.out w6 2 (.slice va (kl.length + 1) vc) #[] hb6
          obtain ⟨-, -, -, -, -, -, hbf, hnf, hmf, hsf⟩ := HEND.out w6 2 (.slice va (kl.length + 1) vc) #[.string n.nm, .slice A n.ps.length pc, .slice va (kl.length + 1) vc] hb6
          have hle2 := HS2.out
          refine ⟨va, vc, rfl, a2.cell 2, f22, b2, b4, hbf, ?_⟩
          have hrow := hmf.row ho (fun k hk hf => by
            have h5 := hf6 k hk
            have h6 := HL2.out
            have h7 := HL4.out
            rcases hf with e | e <;> omega)
          have hrow' : ((w6.setCell ⟨g2, 2, none⟩ (.slice va (kl.length + 1) vc)).setRow g4 #[.string n.nm, .slice A n.ps.length pc, .slice va (kl.length + 1) vc]).ownsRow 0 25 3 (.slice va (kl.length + 1) vc) (kl ++ [KD.mk (.mk cn [] []) (.slice none 0 0) (.slice none 0 0)]).length (kdL (kl ++ [KD.mk (.mk cn [] []) (.slice none 0 0) (.slice none 0 0)])) := by
            rw [List.length_append, kdL_app]; exact hrow
          have h := nd_withKids hnf hrow' (fun k hk => .inr (Nat.le_trans HB2.out.size (hf6 k hk))) (fun c hc => by
            rcases List.mem_append.1 hc with h | h
            · exact nd_two (nd_below (HKN.out c h) hb6) hmf (fun k hk hf => by
                have h6 := HG2.out
                have h7 := HG4.out
                rcases hf with e | e <;> omega)
            · rw [List.mem_singleton.1 h]; exact nd_leaf _ _ _)
          have e : (kl ++ [KD.mk (.mk cn [] []) (.slice none 0 0) (.slice none 0 0)]).map KD.nd = n.ks ++ [.mk cn [] []] := by
            rw [List.map_append, HKL.out]; rfl
          rw [e] at h
          exact h
        clear HEND HKL HKN HN hb5 hf5 a3 HR HONE HO5 HM5 HA2 HA3 HA4 HB2
        go_upto_region 23 with (at_builtin; refine append_new rfl (.tmp 71) (.tmp 75) 23 rfl 25 3 64 HEL _ kl.length (kdL kl) rfl HO5'.out #[.string cn, .slice none 0 0, .slice none 0 0] rfl (nd_oneL _ _ _ _ _ _ _) w5.heap.size rfl rfl (by unfold maxLen; omega) (by omega) ?_; intro v6 w6 ho6 hm6; obtain ⟨va, vc, rfl, p22, f22, b2, b4, hbf, hnd⟩ := HQ.out v6 w6 ho6 hm6; have HA2' := Lib.hid b2; have HA4' := Lib.hid b4; have HBF := Lib.hid hbf; have HND := Lib.hid hnd; clear ho6 hm6 b2 b4 hbf hnd)
        obtain ⟨W4, hW4⟩ : ∃ W4, W4 = w6.setCell ⟨g2, 2, none⟩ (.slice va (kl.length + 1) vc) := ⟨_, rfl⟩
        rw [← hW4] at HA2' HA4' HBF HND
        rw [← hW4]
        clear hW4 HQ
        go_wp2_with (first | (refine wpList_load_row rfl 25 (.tmp 2) rfl g2 rfl _ #[.string n.nm, .slice A n.ps.length pc, .slice va (kl.length + 1) vc] _ _ HA2'.out Tryd.underlying25 rfl (infoNd _ _ _) ?_) | (refine wpList_store_row rfl 25 (.tmp 4) (.tmp 78) rfl g4 #[.string n.nm, .slice A n.ps.length pc, .slice va (kl.length + 1) vc] rfl rfl _ _ HA4'.out (infoNd _ _ _) rfl (nd_one _ _ _ _ _ _ _) ?_))
        exact bodyPost_ret (results_rowN rfl _ _ g4 _ #[.string n.nm, .slice A n.ps.length pc, .slice va (kl.length + 1) vc] _ _ rfl (HA4'.out.row _) Tryd.underlying25 rfl (infoNd _ _ _)) rfl ⟨_, _, by rw [HE0.out]; rfl, by rw [HE0.out]; exact HND.out, HBF.out⟩
  have d3 : (kd == 3) = false := by simpa using k3
  cases kb with
  | false =>
    have HE0 : Hid (hereR n ⟨kd, cn, cv⟩ = (nd0, 8)) := by unfold Hid hereR; rw [if_neg k1, if_neg k2, if_neg k3, if_neg (by rw [← HKB.out]; decide)]
    clear k1 k2 k3 HMK HWO HMA HN HEND HPR
    go_wp2_with (refine wpList_store_row rfl 25 (.tmp 4) (.tmp 22) rfl g4 #[.string ⟨#[]⟩, .slice none 0 0, .slice none 0 0] rfl rfl _ _ HA4.out (infoNd _ _ _) rfl zl_one ?_)
    exact bodyPost_ret (results_rowN rfl _ _ g4 _ #[.string ⟨#[]⟩, .slice none 0 0, .slice none 0 0] _ _ rfl (HA4.out.row _) Tryd.underlying25 rfl (infoNd _ _ _)) rfl ⟨_, _, by rw [HE0.out]; rfl, by rw [HE0.out]; exact nd0_at _ _, below_setRow HB2.out HG4.out _⟩
  | true =>
    have HE0 : Hid (hereR n ⟨kd, cn, cv⟩ = (.mk n.nm n.ps (withoutR cn n.ks), 0)) := by unfold Hid hereR; rw [if_neg k1, if_neg k2, if_neg k3, if_pos HKB.out.symm]
    clear k1 k2 k3 HMK HMA HPR
    go_wp2_with fail
    refine HWO.out.mono ?_
    rintro e w3 ⟨v, kl, rfl, hv, hkw, hkk, hb3⟩
    obtain ⟨va, vc, hve, _⟩ := row_form hv
    subst hve
    obtain ⟨a2, a4, -, f22, b2, b4, -⟩ := HEND.out w3 2 (.slice va kl.length vc) #[] hb3
    obtain ⟨-, -, -, -, -, -, hbf, hnf, hmf, hsf⟩ := HEND.out w3 2 (.slice va kl.length vc) #[.string n.nm, .slice A n.ps.length pc, .slice va kl.length vc] hb3
    have p22 : w3.cell? ⟨g2, 2, none⟩ = some (.slice K n.ks.length kc) := a2.cell 2
    have HA2' : Hid (Arr (w3.setCell ⟨g2, 2, none⟩ (.slice va kl.length vc)) g2 25 #[.string n.nm, .slice A n.ps.length pc, .slice va kl.length vc]) := b2
    have HA4' := Lib.hid b4
    have HBF := Lib.hid hbf
    have HND : Hid (NdAt ((w3.setCell ⟨g2, 2, none⟩ (.slice va kl.length vc)).setRow g4 #[.string n.nm, .slice A n.ps.length pc, .slice va kl.length vc]) (OrNew G w.heap.size) (.mk n.nm n.ps (withoutR cn n.ks)) (.slice A n.ps.length pc) (.slice va kl.length vc)) := by
      have hle2 := HS2.out
      have h := nd_withKids hnf (hmf.row hv (fun k hk hf => by
        have h5 := (hv.lt k hk).1
        have h6 := HL2.out
        have h7 := HL4.out
        rcases hf with e | e <;> omega)) (fun k hk => .inr (Nat.le_trans HB2.out.size (hv.lt k hk).1)) (fun c hc => nd_two (hkk c hc) hmf (fun k hk hf => by
          have h6 := HG2.out
          have h7 := HG4.out
          rcases hf with e | e <;> omega))
      rw [hkw] at h
      exact h
    generalize withoutR cn n.ks = T at *
    obtain ⟨W4, hW4⟩ : ∃ W4, W4 = w3.setCell ⟨g2, 2, none⟩ (.slice va kl.length vc) := ⟨_, rfl⟩
    rw [← hW4] at HA2' HA4' HBF HND
    clear a2 a4 b2 b4 hbf hnf hmf hsf hv hb3 hkk HN HEND HA2 HA4 HB2
    go_upto_region 23 with fail
    rw [← hW4]
    clear hW4
    go_wp2_with (first | (refine wpList_load_row rfl 25 (.tmp 2) rfl g2 rfl _ #[.string n.nm, .slice A n.ps.length pc, .slice va kl.length vc] _ _ HA2'.out Tryd.underlying25 rfl (infoNd _ _ _) ?_) | (refine wpList_store_row rfl 25 (.tmp 4) (.tmp 78) rfl g4 #[.string n.nm, .slice A n.ps.length pc, .slice va kl.length vc] rfl rfl _ _ HA4'.out (infoNd _ _ _) rfl (nd_one _ _ _ _ _ _ _) ?_))
    exact bodyPost_ret (results_rowN rfl _ _ g4 _ #[.string n.nm, .slice A n.ps.length pc, .slice va kl.length vc] _ _ rfl (HA4'.out.row _) Tryd.underlying25 rfl (infoNd _ _ _)) rfl ⟨_, _, by rw [HE0.out]; rfl, by rw [HE0.out]; exact HND.out, HBF.out⟩
end Go.Proofs.YtfcclppgjfkfoaaDoor
