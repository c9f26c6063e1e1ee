/- The document's down, fits and Do of layer 17. Conditions: a tree of few parts that is read; paths of at most 2^30 bytes, names of at most 2^40. -/
import Derived.Test.YtfcclppgjfkfoaaDoorMg22
import Derived.Test.YtfcclppgjfkfoaaDoorMg24
namespace Go.Proofs.YtfcclppgjfkfoaaDoor
open Go.RowKit

theorem rdown_any (c : CH) (hc : c.nm.size ≤ 1099511627776) : ∀ (L : List ByteArray) (G : Nat → Prop) (n : ND) (y z : Value) (A : Option Addr) (cap : Nat) (w : World), wideR 1000000 (L.length + 1) n → NdAt w G n y z → RdT w A L → L.length ≤ cap →
    Calls Tryd.prog 46 #[.agg #[.string n.nm, y, z], .slice A L.length cap, .agg #[.int .i64 c.kd, .string c.nm, .string c.vl]] w fun e w' => ∃ u2 u3, e = .returned (.tuple #[.agg #[.string (downR n L c).1.nm, u2, u3], .int .i64 ((downR n L c).2 : Nat)]) ∧ NdAt w' (OrNew G w.heap.size) (downR n L c).1 u2 u3 ∧ Below w.heap.size w w'
  | [], G, n, y, z, A, cap, w, hw, hN, _, _ => rdown_nil G n y z c A cap w hN hc hw.1 hw.2.1
  | s :: L, G, n, y, z, A, cap, w, hw, hN, hT, hcap =>
    rdown_cons G n y z s L c A cap w hN hT hcap hc hw.2.1 fun G x y z A cap w hx hN hT hcap => rdown_any c hc L G x y z A cap w (hw.2.2 x hx) hN hT hcap

/-- A result that was laid in a block of its own, beside a tree that stays. -/
theorem nd_row {w : World} {G : Nat → Prop} {B g : Nat} {n : ND} {y z : Value} (h : NdAt w (OrNew G B) n y z) (cs : Array Value) (hg : ∀ k, OrNew G B k → k ≠ g) : NdAt (w.setRow g cs) (OrNew G B) n y z :=
  h.kept (moved_setRow w g cs) fun k hk e => hg k hk e

set_option maxHeartbeats 1600000 in
set_option maxRecDepth 100000 in
theorem rfits17_any (G : Nat → Prop) (n : ND) (y z : Value) (w : World) (ha : (countR 9 n).a ≤ 1099511627776) (hb : (countR 9 n).b ≤ 1099511627776) (hN : NdAt w G n y z) :
    Calls Tryd.prog 47 #[.agg #[.string n.nm, y, z]] w fun e w' => ∃ u2 u3, e = .returned (.tuple #[.agg #[.string (fitsTo n).1.nm, u2, u3], .int .i64 ((fitsTo n).2 : Nat)]) ∧ NdAt w' (OrNew G w.heap.size) (fitsTo n).1 u2 u3 ∧ Below w.heap.size w w' := by
  obtain ⟨A, K, pc, kc, rfl, rfl, hpc, hpm, hkc, hkm⟩ := nd_shape hN
  obtain ⟨W1, hW1⟩ : ∃ W1, W1 = (w.alloc (.cells #[.string n.nm, .slice A n.ps.length pc, .slice K n.ks.length kc] 25)).alloc (.cells #[.string ⟨#[]⟩, .slice none 0 0, .slice none 0 0] 25) := ⟨_, rfl⟩
  obtain ⟨g1, hg1⟩ : ∃ g1, g1 = w.heap.size := ⟨_, rfl⟩
  obtain ⟨g2, hg2⟩ : ∃ g2, g2 = w.heap.size + 1 := ⟨_, rfl⟩
  have hB1 : Below w.heap.size w W1 := by rw [hW1]; exact ((Below.refl _ _).alloc (Nat.le_refl _) _).alloc (by rw [sz_alloc]; omega) _
  have hA1 : Arr W1 g1 25 #[.string n.nm, .slice A n.ps.length pc, .slice K n.ks.length kc] := by rw [hW1, hg1]; exact (Arr.new w _ _).alloc _
  have hA2 : Arr W1 g2 25 #[.string ⟨#[]⟩, .slice none 0 0, .slice none 0 0] := by rw [hW1, hg2]; exact Arr.new1 w _ _ _
  have HN := Lib.hid (nd_below (nd_and hN) hB1)
  have HCT := Lib.hid (fun W G (h : NdAt W G n (.slice A n.ps.length pc) (.slice K n.ks.length kc)) => rCount_any G n _ _ W ha hb h)
  have HFT := Lib.hid (fun W G (h : NdAt W G n (.slice A n.ps.length pc) (.slice K n.ks.length kc)) => rFits_any G n _ _ W ha hb h)
  have HG2 : Hid (w.heap.size ≤ g2) := by unfold Hid; omega
  have HB1 := Lib.hid hB1
  have HA1 := Lib.hid hA1
  have HA2 := Lib.hid hA2
  have HE : Hid (fitsTo n = if 8 < (countR 9 n).c then (nd0, 13) else if fitsR n = true then (n, 0) else (nd0, 7)) := rfl
  obtain ⟨k0, k1, k2⟩ : W1.cell? ⟨g1, 0, none⟩ = some (.string n.nm) ∧ W1.cell? ⟨g1, 1, none⟩ = some (.slice A n.ps.length pc) ∧ W1.cell? ⟨g1, 2, none⟩ = some (.slice K n.ks.length kc) := ⟨hA1.cell 0, hA1.cell 1, hA1.cell 2⟩
  generalize fitsTo n = T at *
  generalize fitsR n = F at *
  rcases hct : countR 9 n with ⟨ca, cb, cc⟩
  rw [hct] at HCT HE
  simp only at HE
  clear hN hB1 hA1 hA2 ha hb hct hpc hkc
  go_enter Tryd.func47, Tryd.ntmps47
  go_upto_region 1 with fail
  change Code.wp _ _ _ _ ((w.alloc (.cells #[.string n.nm, .slice A n.ps.length pc, .slice K n.ks.length kc] 25)).alloc (.cells #[.string ⟨#[]⟩, .slice none 0 0, .slice none 0 0] 25))
  rw [← hW1, ← hg2, ← hg1]
  clear hW1 hg1 hg2
  go_wp2_with fail
  refine (HCT.out _ _ HN.out).mono ?_
  rintro e w2 ⟨rfl, hb⟩
  clear k0 k1 k2
  have HA4 := Lib.hid (Arr.new w2 52 (c3C 0 0 0))
  have HA4r := Lib.hid (HA4.out.row (c3C ca cb cc))
  have hbw : Below w2.heap.size w2 ((w2.alloc (.cells (c3C 0 0 0) 52)).setRow w2.heap.size (c3C ca cb cc)) := below_setRow ((Below.refl _ _).alloc (Nat.le_refl _) _) (Nat.le_refl _) _
  have hb2 := hb.trans (hbw.mono hb.size)
  have HN := Lib.hid (nd_below HN.out hb2)
  have HA1 := Lib.hid (HA1.out.below hb2 HA1.out.lt)
  have HA2 := Lib.hid (HA2.out.below hb2 HA2.out.lt)
  have HB1 := Lib.hid (HB1.out.trans (hb2.mono HB1.out.size))
  clear hb hbw hb2 HCT
  go_upto_region 2 with (first
    | (refine wpList_store_row rfl 52 (.tmp 4) (.tmp 6) rfl w2.heap.size (c3C ca cb cc) rfl rfl _ _ HA4.out (info3 _ _ _) rfl (c3_one _ _ _) ?_))
  change Code.wp _ _ _ _ ((w2.alloc (.cells (c3C 0 0 0) 52)).setRow w2.heap.size (c3C ca cb cc))
  generalize (w2.alloc (.cells (c3C 0 0 0) 52)).setRow w2.heap.size (c3C ca cb cc) = W3 at *
  generalize w2.heap.size = g4 at *
  have c2 : W3.cell? ⟨g4, 2, none⟩ = some (.int .i64 cc) := HA4r.out.cell 2
  by_cases h : 8 < cc
  · have HE : Hid (T = (nd0, 13)) := by unfold Hid; rw [HE.out, if_pos h]
    have d1 : (8 : Int) < (cc : Int) := by omega
    clear h HFT HN HA1 HA4 HA4r
    go_wp2_with (refine wpList_store_row rfl 25 (.tmp 2) (.tmp 10) rfl g2 #[.string ⟨#[]⟩, .slice none 0 0, .slice none 0 0] rfl rfl _ _ HA2.out (infoNd _ _ _) rfl zl_one ?_)
    exact bodyPost_ret (results_rowN rfl _ _ g2 _ #[.string ⟨#[]⟩, .slice none 0 0, .slice none 0 0] _ _ rfl (HA2.out.row _) Tryd.underlying25 rfl (infoNd _ _ _)) rfl ⟨_, _, by rw [HE.out]; rfl, by rw [HE.out]; exact nd0_at _ _, below_setRow HB1.out HG2.out _⟩
  replace HE := Lib.hid (HE.out.trans (if_neg h))
  have d1 : (cc : Int) ≤ 8 := by omega
  obtain ⟨k0, k1, k2⟩ : W3.cell? ⟨g1, 0, none⟩ = some (.string n.nm) ∧ W3.cell? ⟨g1, 1, none⟩ = some (.slice A n.ps.length pc) ∧ W3.cell? ⟨g1, 2, none⟩ = some (.slice K n.ks.length kc) := ⟨HA1.out.cell 0, HA1.out.cell 1, HA1.out.cell 2⟩
  clear h
  go_wp2_with fail
  refine (HFT.out _ _ HN.out).mono ?_
  rintro e w4 ⟨rfl, hb⟩
  have HN := Lib.hid (nd_below HN.out hb)
  have HA1 := Lib.hid (HA1.out.below hb HA1.out.lt)
  have HA2 := Lib.hid (HA2.out.below hb HA2.out.lt)
  have HB1 := Lib.hid (HB1.out.trans (hb.mono HB1.out.size))
  clear hb c2 k0 k1 k2 HA4 HA4r HFT
  cases F with
  | false =>
    have HE : Hid (T = (nd0, 7)) := by unfold Hid; rw [HE.out]; rfl
    clear HN HA1
    go_wp2_with (refine wpList_store_row rfl 25 (.tmp 2) (.tmp 14) rfl g2 #[.string ⟨#[]⟩, .slice none 0 0, .slice none 0 0] rfl rfl _ _ HA2.out (infoNd _ _ _) rfl zl_one ?_)
    exact bodyPost_ret (results_rowN rfl _ _ g2 _ #[.string ⟨#[]⟩, .slice none 0 0, .slice none 0 0] _ _ rfl (HA2.out.row _) Tryd.underlying25 rfl (infoNd _ _ _)) rfl ⟨_, _, by rw [HE.out]; rfl, by rw [HE.out]; exact nd0_at _ _, below_setRow HB1.out HG2.out _⟩
  | true =>
    have HE : Hid (T = (n, 0)) := by unfold Hid; rw [HE.out]; rfl
    have HND : Hid (NdAt (w4.setRow g2 #[.string n.nm, .slice A n.ps.length pc, .slice K n.ks.length kc]) (OrNew G w.heap.size) n (.slice A n.ps.length pc) (.slice K n.ks.length kc)) := by
      have h6 := HG2.out
      exact (HN.out.kept (moved_setRow w4 g2 _) (fun k hk e => by omega)).mono fun k hk => .inl hk.1
    clear HN
    go_wp2_with (first | (refine wpList_load_row rfl 25 (.tmp 1) rfl g1 rfl _ #[.string n.nm, .slice A n.ps.length pc, .slice K n.ks.length kc] _ _ HA1.out Tryd.underlying25 rfl (infoNd _ _ _) ?_) | (refine wpList_store_row rfl 25 (.tmp 2) (.tmp 15) rfl g2 #[.string n.nm, .slice A n.ps.length pc, .slice K n.ks.length kc] rfl rfl _ _ HA2.out (infoNd _ _ _) rfl (nd_one _ _ _ _ _ _ _) ?_))
    exact bodyPost_ret (results_rowN rfl _ _ g2 _ #[.string n.nm, .slice A n.ps.length pc, .slice K n.ks.length kc] _ _ rfl (HA2.out.row _) Tryd.underlying25 rfl (infoNd _ _ _)) rfl ⟨_, _, by rw [HE.out]; rfl, by rw [HE.out]; exact HND.out, below_setRow HB1.out HG2.out _⟩
end Go.Proofs.YtfcclppgjfkfoaaDoor

/- The document's Do of layer 17. Conditions: a tree of few parts that is read; paths of at most 2^30 bytes, names of at most 2^40. -/
namespace Go.Proofs.YtfcclppgjfkfoaaDoor
open Go.RowKit

set_option maxHeartbeats 1600000 in
set_option maxRecDepth 100000 in
theorem rDo_any (G : Nat → Prop) (n : ND) (y z : Value) (p : ByteArray) (c : CH) (w : World) (hs : SzT n) (hp : p.size ≤ 1073741824) (hc : c.nm.size ≤ 1099511627776) (hN : NdAt w G n y z) :
    Calls Tryd.prog 23 #[.agg #[.string n.nm, y, z], .string p, .agg #[.int .i64 c.kd, .string c.nm, .string c.vl]] w fun e w' => ∃ u2 u3, e = .returned (.tuple #[.agg #[.string (doR17 n p.data.toList c).1.nm, u2, u3], .int .i64 ((doR17 n p.data.toList c).2 : Nat)]) ∧ NdAt w' (OrNew G w.heap.size) (doR17 n p.data.toList c).1 u2 u3 ∧ Below w.heap.size w w' := by
  obtain ⟨A2, K, pc, kc, rfl, rfl, hpc, hpm, hkc, hkm⟩ := nd_shape hN
  obtain ⟨kd, cn, cv⟩ := c
  simp only at hc
  obtain ⟨W1, hW1⟩ : ∃ W1, W1 = ((w.alloc (.cells #[.string n.nm, .slice A2 n.ps.length pc, .slice K n.ks.length kc] 25)).alloc (.cells #[.int .i64 kd, .string cn, .string cv] 27)).alloc (.cells #[.string ⟨#[]⟩, .slice none 0 0, .slice none 0 0] 25) := ⟨_, rfl⟩
  obtain ⟨g3, hg3⟩ : ∃ g3, g3 = w.heap.size := ⟨_, rfl⟩
  obtain ⟨g5, hg5⟩ : ∃ g5, g5 = w.heap.size + 1 := ⟨_, rfl⟩
  obtain ⟨g6, hg6⟩ : ∃ g6, g6 = w.heap.size + 1 + 1 := ⟨_, rfl⟩
  have hB1 : Below w.heap.size w W1 := by rw [hW1]; exact (((Below.refl _ _).alloc (Nat.le_refl _) _).alloc (by rw [sz_alloc]; omega) _).alloc (by rw [sz_alloc, sz_alloc]; omega) _
  have hA3 : Arr W1 g3 25 #[.string n.nm, .slice A2 n.ps.length pc, .slice K n.ks.length kc] := by rw [hW1, hg3]; exact ((Arr.new w _ _).alloc _).alloc _
  have hA5 : Arr W1 g5 27 #[.int .i64 kd, .string cn, .string cv] := by rw [hW1, hg5]; exact (Arr.new1 w _ _ _).alloc _
  have hA6 : Arr W1 g6 25 #[.string ⟨#[]⟩, .slice none 0 0, .slice none 0 0] := by rw [hW1, hg6]; have h := Arr.new ((w.alloc (.cells #[.string n.nm, .slice A2 n.ps.length pc, .slice K n.ks.length kc] 25)).alloc (.cells #[.int .i64 kd, .string cn, .string cv] 27)) 25 #[.string ⟨#[]⟩, .slice none 0 0, .slice none 0 0]; rw [sz_alloc, sz_alloc] at h; exact h
  have HG6 : Hid (w.heap.size ≤ g6) := by unfold Hid; omega
  have HN := Lib.hid (nd_below (nd_and hN) hB1)
  have HB1 := Lib.hid hB1
  have HA3 := Lib.hid hA3
  have HA5 := Lib.hid hA5
  have HA6 := Lib.hid hA6
  have HPA := Lib.hid (rparts_any p W1 hp)
  have HDO := Lib.hid (fun (G : Nat → Prop) (A : Option Addr) (cap : Nat) W (hN : NdAt W G n (.slice A2 n.ps.length pc) (.slice K n.ks.length kc)) (hT : RdT W A (baL (partsR p.data.toList).1)) h => rdown_any ⟨kd, cn, cv⟩ hc (baL (partsR p.data.toList).1) G n _ _ A cap W (wide_mono (by decide) _ _ (wide_sz hs _)) hN hT h)
  have HFI : Hid ((downR n (baL (partsR p.data.toList).1) ⟨kd, cn, cv⟩).2 = 0 → ∀ (G : Nat → Prop) y z W, NdAt W G (downR n (baL (partsR p.data.toList).1) ⟨kd, cn, cv⟩).1 y z → Calls Tryd.prog 47 #[.agg #[.string (downR n (baL (partsR p.data.toList).1) ⟨kd, cn, cv⟩).1.nm, y, z]] W fun e w' => ∃ u2 u3, e = .returned (.tuple #[.agg #[.string (fitsTo (downR n (baL (partsR p.data.toList).1) ⟨kd, cn, cv⟩).1).1.nm, u2, u3], .int .i64 ((fitsTo (downR n (baL (partsR p.data.toList).1) ⟨kd, cn, cv⟩).1).2 : Nat)]) ∧ NdAt w' (OrNew G W.heap.size) (fitsTo (downR n (baL (partsR p.data.toList).1) ⟨kd, cn, cv⟩).1).1 u2 u3 ∧ Below W.heap.size W w') := fun h0 G y z W h => by
    have hk := down_count _ n _ 9 h0
    have hz := sz_count hs
    exact rfits17_any G _ y z W (by omega) (by omega) h
  have HE : Hid (doR17 n p.data.toList ⟨kd, cn, cv⟩ = if (partsR p.data.toList).2 = true then (if (downR n (baL (partsR p.data.toList).1) ⟨kd, cn, cv⟩).2 = 0 then fitsTo (downR n (baL (partsR p.data.toList).1) ⟨kd, cn, cv⟩).1 else (nd0, (downR n (baL (partsR p.data.toList).1) ⟨kd, cn, cv⟩).2)) else (nd0, 8)) := rfl
  generalize doR17 n p.data.toList ⟨kd, cn, cv⟩ = T at *
  generalize downR n (baL (partsR p.data.toList).1) ⟨kd, cn, cv⟩ = D at *
  generalize baL (partsR p.data.toList).1 = L at *
  generalize (partsR p.data.toList).2 = ok at *
  obtain ⟨D, en⟩ := D
  simp only at HDO HFI HE
  obtain ⟨c30, c31, c32⟩ : W1.cell? ⟨g3, 0, none⟩ = some (.string n.nm) ∧ W1.cell? ⟨g3, 1, none⟩ = some (.slice A2 n.ps.length pc) ∧ W1.cell? ⟨g3, 2, none⟩ = some (.slice K n.ks.length kc) := ⟨hA3.cell 0, hA3.cell 1, hA3.cell 2⟩
  clear hN hA3 hA5 hA6 hB1 hpc hkc hp hs hc
  go_enter Tryd.func23, Tryd.ntmps23
  go_upto_region 1 with fail
  change Code.wp _ _ _ _ (((w.alloc (.cells #[.string n.nm, .slice A2 n.ps.length pc, .slice K n.ks.length kc] 25)).alloc (.cells #[.int .i64 kd, .string cn, .string cv] 27)).alloc (.cells #[.string ⟨#[]⟩, .slice none 0 0, .slice none 0 0] 25))
  rw [← hW1, ← hg6, ← hg5, ← hg3]
  clear hW1 hg6 hg5 hg3 c30 c31 c32
  go_wp2_with fail
  refine HPA.out.mono ?_
  rintro e w2 ⟨A, cap, rfl, hrt, _, hb, hcap⟩
  have HRT := Lib.hid hrt
  have HCAP := Lib.hid hcap
  have HA3 := Lib.hid (HA3.out.below hb HA3.out.lt)
  have HA5 := Lib.hid (HA5.out.below hb HA5.out.lt)
  have HA6 := Lib.hid (HA6.out.below hb HA6.out.lt)
  have HN := Lib.hid (nd_below HN.out hb)
  have HB1 := Lib.hid (HB1.out.trans (hb.mono HB1.out.size))
  clear hrt hcap hb HPA
  cases ok with
  | false =>
    replace HE : Hid (T = (nd0, 8)) := HE.out
    clear HN HA3 HA5 HDO HFI HRT HCAP
    go_wp2_with (refine wpList_store_row rfl 25 (.tmp 6) (.tmp 19) rfl g6 #[.string ⟨#[]⟩, .slice none 0 0, .slice none 0 0] rfl rfl _ _ HA6.out (infoNd _ _ _) rfl zl_one ?_)
    exact bodyPost_ret (results_rowN rfl _ _ g6 _ #[.string ⟨#[]⟩, .slice none 0 0, .slice none 0 0] _ _ rfl (HA6.out.row _) Tryd.underlying25 rfl (infoNd _ _ _)) rfl ⟨_, _, by rw [HE.out]; rfl, by rw [HE.out]; exact nd0_at _ _, below_setRow HB1.out HG6.out _⟩
  | true =>
    replace HE : Hid (T = if en = 0 then fitsTo D else (nd0, en)) := HE.out
    have HL6 := Lib.hid HA6.out.lt
    have HS2 := Lib.hid HB1.out.size
    obtain ⟨c30, c31, c32⟩ : w2.cell? ⟨g3, 0, none⟩ = some (.string n.nm) ∧ w2.cell? ⟨g3, 1, none⟩ = some (.slice A2 n.ps.length pc) ∧ w2.cell? ⟨g3, 2, none⟩ = some (.slice K n.ks.length kc) := ⟨HA3.out.cell 0, HA3.out.cell 1, HA3.out.cell 2⟩
    obtain ⟨c50, c51, c52⟩ : w2.cell? ⟨g5, 0, none⟩ = some (.int .i64 kd) ∧ w2.cell? ⟨g5, 1, none⟩ = some (.string cn) ∧ w2.cell? ⟨g5, 2, none⟩ = some (.string cv) := ⟨HA5.out.cell 0, HA5.out.cell 1, HA5.out.cell 2⟩
    go_wp2_with fail
    refine (HDO.out _ _ _ _ HN.out HRT.out HCAP.out).mono ?_
    rintro e w3 ⟨u2, u3, rfl, hk7, hb⟩
    obtain ⟨ua, ub, uc, ud, rfl, rfl, _⟩ := nd_shape hk7
    have hbn : Below w3.heap.size w3 (w3.alloc (.cells #[.string D.nm, .slice ua D.ps.length uc, .slice ub D.ks.length ud] 25)) := (Below.refl _ _).alloc (Nat.le_refl _) _
    have hb := hb.trans (hbn.mono hb.size)
    have HND := Lib.hid (nd_below hk7 hbn)
    have HAN := Lib.hid (Arr.new w3 25 #[.string D.nm, .slice ua D.ps.length uc, .slice ub D.ks.length ud])
    have HA6 := Lib.hid (HA6.out.below hb HA6.out.lt)
    have HS4 := Lib.hid hb.size
    have HB3 := Lib.hid (HB1.out.trans (hb.mono HB1.out.size))
    clear hk7 hb hbn c30 c31 c32 c50 c51 c52 HN HRT HCAP HDO HA3 HA5
    go_upto_region 5 with fail
    generalize w3.alloc (.cells #[.string D.nm, .slice ua D.ps.length uc, .slice ub D.ks.length ud] 25) = W4 at *
    generalize w3.heap.size = gn at *
    by_cases h0 : en = 0
    · subst h0
      replace HE : Hid (T = fitsTo D) := HE.out.trans (if_pos rfl)
      obtain ⟨c30, c31, c32⟩ : W4.cell? ⟨gn, 0, none⟩ = some (.string D.nm) ∧ W4.cell? ⟨gn, 1, none⟩ = some (.slice ua D.ps.length uc) ∧ W4.cell? ⟨gn, 2, none⟩ = some (.slice ub D.ks.length ud) := ⟨HAN.out.cell 0, HAN.out.cell 1, HAN.out.cell 2⟩
      go_wp2_with fail
      refine (HFI.out (by simp) _ _ _ _ HND.out).mono ?_
      rintro e w5 ⟨x2, x3, rfl, hk9, hb⟩
      obtain ⟨xa, xb, xc, xd, rfl, rfl, _⟩ := nd_shape hk9
      have HA6 := Lib.hid (HA6.out.below hb HA6.out.lt)
      have HB5 := Lib.hid (HB3.out.trans (hb.mono HB3.out.size))
      rw [← HE.out] at hk9
      have HND2 : Hid (NdAt (w5.setRow g6 #[.string T.1.nm, .slice xa T.1.ps.length xc, .slice xb T.1.ks.length xd]) (OrNew G w.heap.size) T.1 (.slice xa T.1.ps.length xc) (.slice xb T.1.ks.length xd)) := by
        have h6 := HG6.out
        have h7 := HL6.out
        have h8 := HS2.out
        have h9 := HS4.out
        exact (hk9.kept (moved_setRow w5 g6 _) (fun k hk e => by rcases hk with (hk | hk) | hk <;> omega)).mono fun k hk => by
          rcases hk with (hk | hk) | hk
          · exact .inl hk.1
          · exact .inr (Nat.le_trans h8 hk)
          · exact .inr (Nat.le_trans (Nat.le_trans h8 h9) hk)
      rw [HE.out] at HND2
      clear hk9 hb c30 c31 c32 HND HAN HFI
      go_wp2_with (refine wpList_store_row rfl 25 (.tmp 6) (.tmp 33) rfl g6 #[.string (fitsTo D).1.nm, .slice xa (fitsTo D).1.ps.length xc, .slice xb (fitsTo D).1.ks.length xd] rfl rfl _ _ HA6.out (infoNd _ _ _) rfl (nd_one _ _ _ _ _ _ _) ?_)
      exact bodyPost_ret (results_rowN rfl _ _ g6 _ #[.string (fitsTo D).1.nm, .slice xa (fitsTo D).1.ps.length xc, .slice xb (fitsTo D).1.ks.length xd] _ _ rfl (HA6.out.row _) Tryd.underlying25 rfl (infoNd _ _ _)) rfl ⟨_, _, by rw [HE.out]; rfl, by rw [HE.out]; exact HND2.out, below_setRow HB5.out HG6.out _⟩
    · replace HE : Hid (T = (nd0, en)) := HE.out.trans (if_neg h0)
      have d1 : (((en : Nat) : Int) != 0) = true := by simp; omega
      clear h0 HND HAN HFI
      go_wp2_with (refine wpList_store_row rfl 25 (.tmp 6) (.tmp 29) rfl g6 #[.string ⟨#[]⟩, .slice none 0 0, .slice none 0 0] rfl rfl _ _ HA6.out (infoNd _ _ _) rfl zl_one ?_)
      exact bodyPost_ret (results_rowN rfl _ _ g6 _ #[.string ⟨#[]⟩, .slice none 0 0, .slice none 0 0] _ _ rfl (HA6.out.row _) Tryd.underlying25 rfl (infoNd _ _ _)) rfl ⟨_, _, by rw [HE.out]; rfl, by rw [HE.out]; exact nd0_at _ _, below_setRow HB3.out HG6.out _⟩
end Go.Proofs.YtfcclppgjfkfoaaDoor
