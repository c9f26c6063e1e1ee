/- edit's Make. Conditions: a tree of few parts that is read; paths of at most 10^6 bytes. -/
import Derived.Test.YtfcclppgjfkfoaaGreatDoorMg34
import Derived.Test.YtfcclppgjfkfoaaGreatDoorMg16
import Derived.Test.YtfcclppgjfkfoaaGreatDoorMg29
namespace Go.Proofs.YtfcclppgjfkfoaaGreatDoor
open Go.RowKit

set_option maxHeartbeats 6400000 in
set_option maxRecDepth 100000 in
theorem emake_any (G : Nat → Prop) (n : ND) (y z : Value) (p : ByteArray) (w : World) (hs : SzT n) (hp : p.size ≤ 1000000) (hN : NdAt w G n y z) :
    Calls Tryz.prog 12 #[.agg #[.string n.nm, y, z], .string p] w (Ed G (makeR17 n p.data.toList) w) := by
  obtain ⟨A2, K, pc, kc, rfl, rfl, hpc, hpm, hkc, hkm⟩ := nd_shape hN
  obtain ⟨W1, hW1⟩ : ∃ W1, W1 = (w.alloc (.cells #[.string n.nm, .slice A2 n.ps.length pc, .slice K n.ks.length kc] 28)).alloc (.cells #[.string ⟨#[]⟩, .slice none 0 0, .slice none 0 0] 28) := ⟨_, rfl⟩
  obtain ⟨g2, hg2⟩ : ∃ g2, g2 = w.heap.size := ⟨_, rfl⟩
  obtain ⟨g4, hg4⟩ : ∃ g4, g4 = w.heap.size + 1 := ⟨_, rfl⟩
  have hB1 : Below w.heap.size w W1 := by rw [hW1]; exact ((Below.refl _ _).alloc (Nat.le_refl _) _).alloc (by rw [sz_alloc]; omega) _
  have hA2 : Arr W1 g2 28 #[.string n.nm, .slice A2 n.ps.length pc, .slice K n.ks.length kc] := by rw [hW1, hg2]; exact (Arr.new w _ _).alloc _
  have hA4 : Arr W1 g4 28 #[.string ⟨#[]⟩, .slice none 0 0, .slice none 0 0] := by rw [hW1, hg4]; exact Arr.new1 w _ _ _
  have HG4 : Hid (w.heap.size ≤ g4) := by unfold Hid; omega
  have HG2 : Hid (w.heap.size ≤ g2) := by unfold Hid; omega
  have HG24 : Hid (g4 ≠ g2) := by unfold Hid; omega
  have HL2 := Lib.hid hA2.lt
  have HL4 := Lib.hid hA4.lt
  have HS1 := Lib.hid hB1.size
  have HN := Lib.hid (nd_below (nd_and hN) hB1)
  have HB1 := Lib.hid hB1
  have HA2 := Lib.hid hA2
  have HA4 := Lib.hid hA4
  have HSZ := Lib.hid hs
  have HPA := Lib.hid (pparts_any p W1 hp)
  have hp' : p.data.toList.length ≤ 1000000 := hp
  have hfew := parts_few p.data.toList
  rw [← baL_len] at hfew
  have HNM := Lib.hid (fun (h : (partsR p.data.toList).2 = true) k => path_names h k)
  have HJL := Lib.hid (fun (h : (partsR p.data.toList).2 = true) k => path_join1 h k)
  have HTK := Lib.hid (fun (m : ND) (c : CH) (h : (partsR p.data.toList).2 = true) k => do_take (n := m) (c := c) h k)
  have HFT := Lib.hid (fun (m : ND) (h : (partsR p.data.toList).2 = true) k => find_take17 (n := m) h k)
  have HE : Hid (makeR17 n p.data.toList = if (partsR p.data.toList).2 = true then makeN n [] (baL (partsR p.data.toList).1) else (nd0, 8)) := rfl
  generalize makeR17 n p.data.toList = T at *
  generalize baL (partsR p.data.toList).1 = L at *
  generalize (partsR p.data.toList).2 = ok at *
  generalize hpl : p.data.toList.length = pl at *
  clear hN hA2 hA4 hB1 hpc hkc hp hpl hs
  go_enter Tryz.func12, Tryz.ntmps12
  go_upto_region 1 with fail
  change Code.wp _ _ _ _ ((w.alloc (.cells #[.string n.nm, .slice A2 n.ps.length pc, .slice K n.ks.length kc] 28)).alloc (.cells #[.string ⟨#[]⟩, .slice none 0 0, .slice none 0 0] 28))
  rw [← hW1, ← hg4, ← hg2]
  clear hW1 hg4 hg2
  go_wp2_with fail
  refine HPA.out.mono ?_
  rintro e wp ⟨A, cap, rfl, hrt, hfar, hb, hcap⟩
  have HRT := Lib.hid hrt
  have HFAR := Lib.hid hfar
  have HA2 := Lib.hid (HA2.out.below hb HA2.out.lt)
  have HA4 := Lib.hid (HA4.out.below hb HA4.out.lt)
  have HN := Lib.hid (nd_below HN.out hb)
  have HS2 := Lib.hid hb.size
  have HB1 := Lib.hid (HB1.out.trans (hb.mono HB1.out.size))
  clear hrt hfar hb HPA
  cases ok with
  | false =>
    replace HE : Hid (T = (nd0, 8)) := HE.out
    clear HN HA2 HRT HFAR hcap HNM HJL HTK HFT
    go_wp2_with (refine wpList_store_row rfl 28 (.tmp 4) (.tmp 20) rfl g4 #[.string ⟨#[]⟩, .slice none 0 0, .slice none 0 0] rfl rfl _ _ HA4.out (infoNd _ _ _) rfl zl_one ?_)
    exact bodyPost_ret (results_rowN rfl _ _ g4 _ #[.string ⟨#[]⟩, .slice none 0 0, .slice none 0 0] _ _ rfl (HA4.out.row _) Tryz.underlying28 rfl (infoNd _ _ _)) rfl ⟨_, _, by rw [HE.out]; rfl, by rw [HE.out]; exact nd0_at _ _, below_setRow HB1.out HG4.out _⟩
  | true =>
    replace HE : Hid (T = makeN n (L.take 0) (L.drop 0)) := HE.out
    replace HNM := Lib.hid (HNM.out rfl)
    replace HJL := Lib.hid (HJL.out rfl)
    replace HTK := Lib.hid (fun m c => HTK.out m c rfl)
    replace HFT := Lib.hid (fun m => HFT.out m rfl)
    have HCY := Lib.hid (tcopy_sole 12 n _ _ wp (cp_sz HSZ.out) (nd_lt HN.out))
    obtain ⟨c20, c21, c22⟩ : wp.cell? ⟨g2, 0, none⟩ = some (.string n.nm) ∧ wp.cell? ⟨g2, 1, none⟩ = some (.slice A2 n.ps.length pc) ∧ wp.cell? ⟨g2, 2, none⟩ = some (.slice K n.ks.length kc) := ⟨HA2.out.cell 0, HA2.out.cell 1, HA2.out.cell 2⟩
    go_wp2_with fail
    refine HCY.out.mono ?_
    rintro e wq ⟨u2, u3, rfl, hsl, hb4⟩
    obtain ⟨oa, ob, oc, od, rfl, rfl, _⟩ := nd_shape (sole_nd hsl)
    have HAQ2 := Lib.hid (HA2.out.below hb4 HA2.out.lt)
    obtain ⟨w2, hw2⟩ : ∃ w2, w2 = wq.setRow g2 #[.string n.nm, .slice oa n.ps.length oc, .slice ob n.ks.length od] := ⟨_, rfl⟩
    have hmv : Moved wp w2 (fun k => k = g2) (fun k => k = g2) := by rw [hw2]; exact (Moved.of_below hb4 (fun k => k = g2)).trans (moved_setRow wq g2 _)
    have HA2 : Hid (Arr w2 g2 28 #[.string n.nm, .slice oa n.ps.length oc, .slice ob n.ks.length od]) := by unfold Hid; rw [hw2]; exact HAQ2.out.row _
    have HA4 := Lib.hid (hmv.arr HA4.out (fun e => HG24.out e))
    have HNX : Hid (NdAt w2 (OrNew (fun k => G k ∧ k < w.heap.size) W1.heap.size) n (.slice oa n.ps.length oc) (.slice ob n.ks.length od)) := by
      unfold Hid
      rw [hw2]
      have h1 := HL2.out
      have h2 := HS2.out
      exact ((sole_nd hsl).kept (moved_setRow wq g2 _) (fun k hk e => by omega)).mono fun k hk => .inr (by omega)
    have HRT := Lib.hid (HRT.out.kept HFAR.out hmv (fun k hk => by rw [hk]; exact HL2.out))
    have HB1 := Lib.hid (HB1.out.trans (hmv.below (fun k hk => by rw [hk]; exact HG2.out) HB1.out.size))
    have HS2 := Lib.hid (Nat.le_trans HS2.out hmv.size)
    clear hsl hb4 c20 c21 c22 HCY hmv HN
    go_upto_region 5 with (refine wpList_store_row rfl 28 (.tmp 2) (.tmp 22) rfl g2 #[.string n.nm, .slice oa n.ps.length oc, .slice ob n.ks.length od] rfl rfl _ _ HAQ2.out (infoNd _ _ _) rfl (nd_one _ _ _ _ _ _ _) ?_)
    rw [← hw2]
    clear hw2 HAQ2
    go_wp2
    go_loopw [25] (fun iv wr => ∃ (i : Nat) (x : ND) (P Q : Option Addr) (pm qm : Nat), i ≤ L.length ∧ iv = .int .i64 i ∧ Arr wr g2 28 #[.string x.nm, .slice P x.ps.length pm, .slice Q x.ks.length qm] ∧ NdAt wr (OrNew (fun k => G k ∧ k < w.heap.size) W1.heap.size) x (.slice P x.ps.length pm) (.slice Q x.ks.length qm) ∧ Hid (T = makeN x (L.take i) (L.drop i)) ∧ Hid (SzT x) ∧ Arr wr g4 28 #[.string ⟨#[]⟩, .slice none 0 0, .slice none 0 0] ∧ Moved w2 wr (fun k => k = g2) (fun k => k = g2)) (fun iv _ => L.length - (intOf iv).toNat)
    case atStart => exact ⟨0, n, _, _, _, _, Nat.zero_le _, rfl, HA2.out, HNX.out, HE.out, HSZ.out, HA4.out, Moved.refl _ _⟩
    case round =>
      clear HE HA2 HNX HA4 HSZ
      obtain ⟨i, x, P, Q, pm, qm, hi, rfl, hA2, hN, HF, HSX, hA4, hM⟩ := hrel
      have HA2 := Lib.hid hA2
      have HA4 := Lib.hid hA4
      have HM := Lib.hid hM
      have HN := Lib.hid hN
      have HBW : Hid (Below w.heap.size w wr) := HB1.out.trans (hM.below (fun k hk => by rw [hk]; exact HG2.out) HB1.out.size)
      have HSW : Hid (W1.heap.size ≤ wr.heap.size) := Nat.le_trans HS2.out hM.size
      have HRT2 := Lib.hid (HRT.out.kept HFAR.out hM (fun k hk => by rw [hk]; exact HL2.out))
      obtain ⟨c20, c21, c22⟩ : wr.cell? ⟨g2, 0, none⟩ = some (.string x.nm) ∧ wr.cell? ⟨g2, 1, none⟩ = some (.slice P x.ps.length pm) ∧ wr.cell? ⟨g2, 2, none⟩ = some (.slice Q x.ks.length qm) := ⟨hA2.cell 0, hA2.cell 1, hA2.cell 2⟩
      clear hA2 hA4 hN hM
      by_cases hlt : i < L.length
      · obtain ⟨tb, tof, s, rfl, t0, HX⟩ := HRT2.out.at_ hlt
        have hii : (i : Int) < L.length := by omega
        have hi0 : (0 : Int) ≤ i := by omega
        have hi7 : (i : Int) ≤ 7 := by omega
        have hi7n : i ≤ 7 := by omega
        have hic : (i : Int) ≤ cap := by omega
        have hic1 : (i : Int) + 1 ≤ cap := by omega
        have hi00 : (0 : Int) ≤ (i : Int) + 1 := by omega
        have hw1 : IntKind.i64.wrap ((i : Int) + 1) = (i : Int) + 1 := IntWalk.i64_in _ (by omega)
        have hw2 : ((i : Int) + 1).toNat = i + 1 := by omega
        have hst := make_step (n := x) hlt HX.out
        have hsz : s.size ≤ 1000000 := by
          have := HNM.out i
          rw [HX.out] at this; omega
        have HJN : Hid (∀ (k : Nat) (W' : World), k ≤ L.length → Below wr.heap.size wr W' → Calls Tryz.prog 32 #[.slice (some ⟨tb, tof, none⟩) k cap] W' fun e w' => e = .returned (.string ⟨(joinB (L.take k)).toArray⟩) ∧ Below W'.heap.size W' w') := fun k W' hk h => by
          have := join_any (some ⟨tb, tof, none⟩) cap (L.take k) W' ((HRT2.out.take k).below h) (by rw [List.length_take]; omega) (by rw [List.length_take]; omega) (fun j hj => by
            rw [List.length_take] at hj
            have := HNM.out j
            rw [List.getD_eq_getElem?_getD, List.getElem?_take_of_lt (by omega), ← List.getD_eq_getElem?_getD]
            omega)
          rw [List.length_take, Nat.min_eq_left (by omega)] at this
          exact this
        have HJZ : Hid (∀ k, (⟨(joinB (L.take k)).toArray⟩ : ByteArray).size ≤ 1000000) := fun k => by
          have := HJL.out k
          show (joinB (L.take k)).toArray.size ≤ _
          rw [List.size_toArray]; omega
        obtain ⟨J1, hJ1⟩ : ∃ J1 : ByteArray, J1 = ⟨(joinB (L.take (i + 1))).toArray⟩ := ⟨_, rfl⟩
        obtain ⟨J0, hJ0⟩ : ∃ J0 : ByteArray, J0 = ⟨(joinB (L.take i)).toArray⟩ := ⟨_, rfl⟩
        obtain ⟨o, ho⟩ : ∃ o, o = followR x (L.take (i + 1)) := ⟨_, rfl⟩
        have hfd : findR x J1.data.toList = o := by rw [hJ1, ho]; exact HFT.out x (i + 1)
        obtain ⟨Y, hY⟩ : ∃ Y, Y = doN x (L.take i) ⟨3, s, ByteArray.empty⟩ := ⟨_, rfl⟩
        have hdo : doR17 x J0.data.toList ⟨3, s, ⟨#[]⟩⟩ = Y := by rw [hJ0, hY]; exact HTK.out x _ i
        have HJ1 : Hid (∀ W', Below wr.heap.size wr W' → Calls Tryz.prog 32 #[.slice (some ⟨tb, tof, none⟩) (i + 1) cap] W' fun e w' => e = .returned (.string J1) ∧ Below W'.heap.size W' w') := fun W' h => by rw [hJ1]; exact HJN.out (i + 1) W' (by omega) h
        have HJ0 : Hid (∀ W', Below wr.heap.size wr W' → Calls Tryz.prog 32 #[.slice (some ⟨tb, tof, none⟩) i cap] W' fun e w' => e = .returned (.string J0) ∧ Below W'.heap.size W' w') := fun W' h => by rw [hJ0]; exact HJN.out i W' (by omega) h
        obtain ⟨yf, hyf⟩ : ∃ yf, yf = orN o := ⟨_, rfl⟩
        obtain ⟨bo, hbo⟩ : ∃ bo, bo = o.isSome := ⟨_, rfl⟩
        have HFD : Hid (∀ W', Below wr.heap.size wr W' → Calls Tryz.prog 31 #[.agg #[.string x.nm, .slice P x.ps.length pm, .slice Q x.ks.length qm], .string J1] W' fun e w' => ∃ u2 u3, e = .returned (.tuple #[.agg #[.string yf.nm, u2, u3], .bool bo]) ∧ NdAt w' (OrNew (fun k => G k ∧ k < w.heap.size) W1.heap.size) yf u2 u3 ∧ Below W'.heap.size W' w') := fun W' h => by
          have := pfind_any pparts_any _ x _ _ J1 W' (by rw [hJ1]; exact HJZ.out (i + 1)) (nd_below HN.out h)
          rw [hfd, ← hyf, ← hbo] at this
          exact this
        have HDO : Hid (∀ (G1 : Nat → Prop) W', NdAt W' G1 x (.slice P x.ps.length pm) (.slice Q x.ks.length qm) → Calls Tryz.prog 20 #[.agg #[.string x.nm, .slice P x.ps.length pm, .slice Q x.ks.length qm], .string J0, .string s] W' (Ed G1 Y W')) := fun G1 W' h => by
          have := eadd_any G1 x _ _ J0 s W' HSX.out (by rw [hJ0]; exact HJZ.out i) hsz h
          rw [hdo] at this
          exact this
        rw [← ho, ← hY] at hst
        have HST : Hid (T = if bo = true then makeN x (L.take (i + 1)) (L.drop (i + 1)) else if Y.2 = 0 then makeN Y.1 (L.take (i + 1)) (L.drop (i + 1)) else (nd0, Y.2)) := by unfold Hid; rw [HF.out, hst, hbo]
        have HYZ : Hid (Y.2 = 0 → SzT Y.1) := fun h => by
          have h1 : doN x (L.take i) ⟨3, s, ByteArray.empty⟩ = (Y.1, 0) := by rw [← hY]; exact Prod.ext rfl h
          exact sz_of_fits (doN_ok h1).2.2
        have HKP : Hid (∀ W', Below wr.heap.size wr W' → (W'.cell? ⟨g2, 0, none⟩ = some (.string x.nm) ∧ W'.cell? ⟨g2, 1, none⟩ = some (.slice P x.ps.length pm) ∧ W'.cell? ⟨g2, 2, none⟩ = some (.slice Q x.ks.length qm) ∧ W'.cell? ⟨tb, tof + i, none⟩ = some (.string s))) := fun W' h =>
          have M := Moved.of_below h (fun _ => False)
          ⟨cell_kept M id c20, cell_kept M id c21, cell_kept M id c22, cell_kept M id t0⟩
        have hbd : Below wr.heap.size wr wr.drew := (Below.refl _ _).drew
        have hbe : Below wr.heap.size wr (wr.alloc (.cells #[.string ⟨#[]⟩, .slice none 0 0, .slice none 0 0] 28)).drew := ((Below.refl _ _).alloc (Nat.le_refl _) _).drew
        have HCE : Hid (Arr (wr.alloc (.cells #[.string ⟨#[]⟩, .slice none 0 0, .slice none 0 0] 28)).drew wr.heap.size 28 #[.string ⟨#[]⟩, .slice none 0 0, .slice none 0 0]) := Arr.new wr _ _
        have HAQ : Hid (∀ (w6 w7 : World) (ua : Option Addr) (uc : Nat) (ub : Option Addr) (ud : Nat), Below wr.heap.size wr w6 → Below w6.heap.size w6 w7 → Below wr.heap.size wr w7 ∧ Below wr.heap.size wr (w7.alloc (.cells #[.string ⟨#[]⟩, .slice none 0 0, .slice none 0 0] 28)) ∧ Below wr.heap.size wr (w7.alloc (.cells #[.string yf.nm, .slice ua yf.ps.length uc, .slice ub yf.ks.length ud] 28))) := fun w6 w7 ua uc ub ud h6 hb => by
          have h0 : Below wr.heap.size wr w7 := h6.trans (hb.mono h6.size)
          exact ⟨h0, h0.alloc h0.size _, h0.alloc h0.size _⟩
        have HBQ : Hid (∀ (w6 w7 : World) (ua : Option Addr) (uc : Nat) (ub : Option Addr) (ud : Nat), Below ((wr.alloc (.cells #[.string ⟨#[]⟩, .slice none 0 0, .slice none 0 0] 28)).drew).heap.size (wr.alloc (.cells #[.string ⟨#[]⟩, .slice none 0 0, .slice none 0 0] 28)).drew w6 → Below w6.heap.size w6 w7 → Below wr.heap.size wr w7 ∧ w7.cell? ⟨wr.heap.size, 0, none⟩ = some (.string ⟨#[]⟩) ∧ w7.cell? ⟨wr.heap.size, 1, none⟩ = some (.slice none 0 0) ∧ w7.cell? ⟨wr.heap.size, 2, none⟩ = some (.slice none 0 0) ∧ w7.frozen? ⟨wr.heap.size, 0, none⟩ = false ∧ w7.frozen? ⟨wr.heap.size, 1, none⟩ = false ∧ w7.frozen? ⟨wr.heap.size, 2, none⟩ = false ∧ Below wr.heap.size wr (((w7.setCell ⟨wr.heap.size, 0, none⟩ (.string yf.nm)).setCell ⟨wr.heap.size, 1, none⟩ (.slice ua yf.ps.length uc)).setCell ⟨wr.heap.size, 2, none⟩ (.slice ub yf.ks.length ud))) := fun w6 w7 ua uc ub ud h6 hb => by
          have h1 := h6.trans (hb.mono h6.size)
          have h0 : Below wr.heap.size wr w7 := hbe.trans (h1.mono hbe.size)
          obtain ⟨q1, q2, q3, q4, q5, q6, q7, _, _⟩ := lay_before (G := fun _ => True) (y := yf) (ua := ua) (ub := ub) (uc := uc) (ud := ud) h0 (Nat.le_refl _) (HCE.out.below h1 HCE.out.lt)
          exact ⟨h0, q1, q2, q3, q4, q5, q6, q7⟩
        have HCQ : Hid (∀ (w6 w7 : World) (ua : Option Addr) (uc : Nat) (ub : Option Addr) (ud : Nat), Below wr.heap.size wr w6 → Below (w6.alloc (.cells #[.string ⟨#[]⟩, .slice none 0 0, .slice none 0 0] 28)).heap.size (w6.alloc (.cells #[.string ⟨#[]⟩, .slice none 0 0, .slice none 0 0] 28)) w7 → Below wr.heap.size wr w7 ∧ w7.cell? ⟨w6.heap.size, 0, none⟩ = some (.string ⟨#[]⟩) ∧ w7.cell? ⟨w6.heap.size, 1, none⟩ = some (.slice none 0 0) ∧ w7.cell? ⟨w6.heap.size, 2, none⟩ = some (.slice none 0 0) ∧ w7.frozen? ⟨w6.heap.size, 0, none⟩ = false ∧ w7.frozen? ⟨w6.heap.size, 1, none⟩ = false ∧ w7.frozen? ⟨w6.heap.size, 2, none⟩ = false ∧ Below wr.heap.size wr (((w7.setCell ⟨w6.heap.size, 0, none⟩ (.string yf.nm)).setCell ⟨w6.heap.size, 1, none⟩ (.slice ua yf.ps.length uc)).setCell ⟨w6.heap.size, 2, none⟩ (.slice ub yf.ks.length ud))) := fun w6 w7 ua uc ub ud h6 hb => by
          have ha := h6.alloc h6.size (.cells #[.string ⟨#[]⟩, .slice none 0 0, .slice none 0 0] 28)
          have h0 : Below wr.heap.size wr w7 := ha.trans (hb.mono ha.size)
          have hA := Arr.new w6 28 #[.string ⟨#[]⟩, .slice none 0 0, .slice none 0 0]
          obtain ⟨q1, q2, q3, q4, q5, q6, q7, _, _⟩ := lay_before (G := fun _ => True) (y := yf) (ua := ua) (ub := ub) (uc := uc) (ud := ud) h0 h6.size (hA.below hb hA.lt)
          exact ⟨h0, q1, q2, q3, q4, q5, q6, q7⟩
        have HAL : Hid (∀ w6 : World, Below wr.heap.size wr w6 → Below wr.heap.size wr (w6.alloc (.cells #[.string ⟨#[]⟩, .slice none 0 0, .slice none 0 0] 28))) := fun w6 h6 => h6.alloc h6.size _
        clear hst hsz HJN HJZ hJ1 hJ0 ho hfd hY hdo hyf hbo HX HNM HJL HTK HFT HF HRT2
        go_upto_region 8 with fail
        go_cut [10, 11] (fun s10 s11 wx => s11 = .bool bo ∧ Below wr.heap.size wr wx)
        case first => as_aux_lemma =>
          refine wp_region_held_drew (S := fun (W' : World) => (W'.cell? ⟨g2, 0, none⟩ = some (.string x.nm) ∧ W'.cell? ⟨g2, 1, none⟩ = some (.slice P x.ps.length pm) ∧ W'.cell? ⟨g2, 2, none⟩ = some (.slice Q x.ks.length qm) ∧ W'.cell? ⟨tb, tof + i, none⟩ = some (.string s))) (by kernel_rfl) (by exact HKP.out _ hbd) (fun hHeld => ?_)
          refine takeH 0 31 rfl rfl (v := ?_) (by kernel_rfl) (by kernel_rfl) (by kernel_rfl) (fun _ _ _ h => h) (Or.inl ⟨by rfl, ?_⟩) hHeld ?_
          rotate_left 1
          · (intro w hSw; (try dsimp only at hSw); go_simp; try (with_reducible rfl))
          (try simp only [Act.put]); (try simp only [List.setIfInBounds_toArray]); (try simp only [List.set_cons_succ]); (try simp only [List.set_cons_zero])
          refine takeH 1 32 rfl rfl (v := ?_) (by kernel_rfl) (by kernel_rfl) (by kernel_rfl) (fun _ _ _ h => h) (Or.inl ⟨by rfl, ?_⟩) hHeld ?_
          rotate_left 1
          · (intro w hSw; (try dsimp only at hSw); go_simp; try (with_reducible rfl))
          (try simp only [Act.put]); (try simp only [List.setIfInBounds_toArray]); (try simp only [List.set_cons_succ]); (try simp only [List.set_cons_zero])
          refine takeH 2 33 rfl rfl (v := ?_) (by kernel_rfl) (by kernel_rfl) (by kernel_rfl) (fun _ _ _ h => h) (Or.inl ⟨by rfl, ?_⟩) hHeld ?_
          rotate_left 1
          · (intro w hSw; (try dsimp only at hSw); go_simp; try (with_reducible rfl))
          (try simp only [Act.put]); (try simp only [List.setIfInBounds_toArray]); (try simp only [List.set_cons_succ]); (try simp only [List.set_cons_zero])
          refine takeH 3 34 rfl rfl (v := ?_) (by kernel_rfl) (by kernel_rfl) (by kernel_rfl) (fun _ _ _ h => h) (Or.inl ⟨by rfl, ?_⟩) hHeld ?_
          rotate_left 1
          · (intro w hSw; (try dsimp only at hSw); go_simp; try (with_reducible rfl))
          (try simp only [Act.put]); (try simp only [List.setIfInBounds_toArray]); (try simp only [List.set_cons_succ]); (try simp only [List.set_cons_zero])
          refine takeH 4 35 rfl rfl (v := ?_) (by kernel_rfl) (by kernel_rfl) (by kernel_rfl) (fun _ _ _ h => h) (Or.inl ⟨by rfl, ?_⟩) hHeld ?_
          rotate_left 1
          · (intro w hSw; (try dsimp only at hSw); go_simp; try (with_reducible rfl))
          (try simp only [Act.put]); (try simp only [List.setIfInBounds_toArray]); (try simp only [List.set_cons_succ]); (try simp only [List.set_cons_zero])
          refine wpAnyH_ready (rs := [5, 10]) (by kernel_rfl) (by simp) (AllReadyH.cons rfl (fun K hK => ?_) (AllReadyH.cons rfl (fun K hK => ?_) AllReadyH.nil))
          · go_simp
            refine (HJ1.out _ hbd).mono ?_
            rintro e w6 ⟨rfl, hb6⟩
            have h16 := hbd.trans (hb6.mono hbd.size)
            (try dsimp only)
            refine hK.out _ _ (by exact HKP.out _ h16) (fun hHeld => ?_)
            clear hK K
            (try simp only [Act.put]); (try simp only [List.setIfInBounds_toArray]); (try simp only [List.set_cons_succ]); (try simp only [List.set_cons_zero])
            refine wpAnyH_ready (rs := [6, 10]) (by kernel_rfl) (by simp) (AllReadyH.cons rfl (fun K hK => ?_) (AllReadyH.cons rfl (fun K hK => ?_) AllReadyH.nil))
            · go_simp
              refine (HFD.out _ h16).mono ?_
              rintro e w7 ⟨u2, u3, rfl, hk7, s1⟩
              obtain ⟨ua, ub, uc, ud, rfl, rfl, _⟩ := nd_shape hk7
              obtain ⟨z1, z2, z3⟩ := HAQ.out w6 w7 ua uc ub ud h16 s1
              (try dsimp only)
              refine hK.out _ _ (by exact HKP.out _ z1) (fun hHeld => ?_)
              clear hK K
              (try simp only [Act.put]); (try simp only [List.setIfInBounds_toArray]); (try simp only [List.set_cons_succ]); (try simp only [List.set_cons_zero])
              refine takeH 7 30 rfl rfl (v := ?_) (by kernel_rfl) (by kernel_rfl) (by kernel_rfl) (fun _ _ _ h => h) (Or.inl ⟨by rfl, ?_⟩) hHeld ?_
              rotate_left 1
              · (intro w hSw; (try dsimp only at hSw); go_simp; try (with_reducible rfl))
              (try simp only [Act.put]); (try simp only [List.setIfInBounds_toArray]); (try simp only [List.set_cons_succ]); (try simp only [List.set_cons_zero])
              refine takeH 8 38 rfl rfl (v := ?_) (by kernel_rfl) (by kernel_rfl) (by kernel_rfl) (fun _ _ _ h => h) (Or.inl ⟨by rfl, ?_⟩) hHeld ?_
              rotate_left 1
              · (intro w hSw; (try dsimp only at hSw); go_simp; try (with_reducible rfl))
              (try simp only [Act.put]); (try simp only [List.setIfInBounds_toArray]); (try simp only [List.set_cons_succ]); (try simp only [List.set_cons_zero])
              refine takeH 9 39 rfl rfl (v := ?_) (by kernel_rfl) (by kernel_rfl) (by kernel_rfl) (fun _ _ _ h => h) (Or.inl ⟨by rfl, ?_⟩) hHeld ?_
              rotate_left 1
              · (intro w hSw; (try dsimp only at hSw); go_simp; try (with_reducible rfl))
              (try simp only [Act.put]); (try simp only [List.setIfInBounds_toArray]); (try simp only [List.set_cons_succ]); (try simp only [List.set_cons_zero])
              refine wpAnyH_ready (rs := [10]) (by kernel_rfl) (by simp) (AllReadyH.cons rfl (fun K hK => ?_) AllReadyH.nil)
              go_simp
              refine hK.out _ _ (by exact HKP.out _ z2) (fun hHeld => ?_)
              clear hK K
              (try simp only [Act.put]); (try simp only [List.setIfInBounds_toArray]); (try simp only [List.set_cons_succ]); (try simp only [List.set_cons_zero])
              refine wpAnyH_ready (rs := [11]) (by kernel_rfl) (by simp) (AllReadyH.cons rfl (fun K hK => ?_) AllReadyH.nil)
              go_simp
              refine hK.out _ _ (by exact HKP.out _ z3) (fun hHeld => ?_)
              clear hK K
              (try simp only [Act.put]); (try simp only [List.setIfInBounds_toArray]); (try simp only [List.set_cons_succ]); (try simp only [List.set_cons_zero])
              refine wpAnyH_ready (rs := [12]) (by kernel_rfl) (by simp) (AllReadyH.cons rfl (fun K hK => ?_) AllReadyH.nil)
              go_simp
              refine hK.out _ _ (by exact HKP.out _ z3) (fun hHeld => ?_)
              clear hK K
              (try simp only [Act.put]); (try simp only [List.setIfInBounds_toArray]); (try simp only [List.set_cons_succ]); (try simp only [List.set_cons_zero])
              refine wpAnyH_done (by kernel_rfl) ?_ _
              have HQ := Lib.hid z3
              go_wp2_with fail
              go_meet
              exact ⟨rfl, HQ.out⟩
            · go_simp
              refine hK.out _ _ (by exact HKP.out _ (HAL.out _ h16)) (fun hHeld => ?_)
              clear hK K
              (try simp only [Act.put]); (try simp only [List.setIfInBounds_toArray]); (try simp only [List.set_cons_succ]); (try simp only [List.set_cons_zero])
              refine wpAnyH_ready (rs := [6]) (by kernel_rfl) (by simp) (AllReadyH.cons rfl (fun K hK => ?_) AllReadyH.nil)
              go_simp
              refine (HFD.out _ (HAL.out _ h16)).mono ?_
              rintro e w7 ⟨u2, u3, rfl, hk7, s1⟩
              obtain ⟨ua, ub, uc, ud, rfl, rfl, _⟩ := nd_shape hk7
              obtain ⟨z1, e0, e1, e2, f0, f1, f2, z3⟩ := HCQ.out w6 w7 ua uc ub ud h16 s1
              (try dsimp only)
              refine hK.out _ _ (by exact HKP.out _ z1) (fun hHeld => ?_)
              clear hK K
              (try simp only [Act.put]); (try simp only [List.setIfInBounds_toArray]); (try simp only [List.set_cons_succ]); (try simp only [List.set_cons_zero])
              refine takeH 7 30 rfl rfl (v := ?_) (by kernel_rfl) (by kernel_rfl) (by kernel_rfl) (fun _ _ _ h => h) (Or.inl ⟨by rfl, ?_⟩) hHeld ?_
              rotate_left 1
              · (intro w hSw; (try dsimp only at hSw); go_simp; try (with_reducible rfl))
              (try simp only [Act.put]); (try simp only [List.setIfInBounds_toArray]); (try simp only [List.set_cons_succ]); (try simp only [List.set_cons_zero])
              refine takeH 8 38 rfl rfl (v := ?_) (by kernel_rfl) (by kernel_rfl) (by kernel_rfl) (fun _ _ _ h => h) (Or.inl ⟨by rfl, ?_⟩) hHeld ?_
              rotate_left 1
              · (intro w hSw; (try dsimp only at hSw); go_simp; try (with_reducible rfl))
              (try simp only [Act.put]); (try simp only [List.setIfInBounds_toArray]); (try simp only [List.set_cons_succ]); (try simp only [List.set_cons_zero])
              refine takeH 9 39 rfl rfl (v := ?_) (by kernel_rfl) (by kernel_rfl) (by kernel_rfl) (fun _ _ _ h => h) (Or.inl ⟨by rfl, ?_⟩) hHeld ?_
              rotate_left 1
              · (intro w hSw; (try dsimp only at hSw); go_simp; try (with_reducible rfl))
              (try simp only [Act.put]); (try simp only [List.setIfInBounds_toArray]); (try simp only [List.set_cons_succ]); (try simp only [List.set_cons_zero])
              refine wpAnyH_ready (rs := [11]) (by kernel_rfl) (by simp) (AllReadyH.cons rfl (fun K hK => ?_) AllReadyH.nil)
              go_simp
              refine hK.out _ _ (by exact HKP.out _ z3) (fun hHeld => ?_)
              clear hK K
              (try simp only [Act.put]); (try simp only [List.setIfInBounds_toArray]); (try simp only [List.set_cons_succ]); (try simp only [List.set_cons_zero])
              refine wpAnyH_ready (rs := [12]) (by kernel_rfl) (by simp) (AllReadyH.cons rfl (fun K hK => ?_) AllReadyH.nil)
              go_simp
              refine hK.out _ _ (by exact HKP.out _ z3) (fun hHeld => ?_)
              clear hK K
              (try simp only [Act.put]); (try simp only [List.setIfInBounds_toArray]); (try simp only [List.set_cons_succ]); (try simp only [List.set_cons_zero])
              refine wpAnyH_done (by kernel_rfl) ?_ _
              have HQ := Lib.hid z3
              go_wp2_with fail
              go_meet
              exact ⟨rfl, HQ.out⟩
          · go_simp
            refine hK.out _ _ (by exact HKP.out _ hbe) (fun hHeld => ?_)
            clear hK K
            (try simp only [Act.put]); (try simp only [List.setIfInBounds_toArray]); (try simp only [List.set_cons_succ]); (try simp only [List.set_cons_zero])
            refine wpAnyH_ready (rs := [5]) (by kernel_rfl) (by simp) (AllReadyH.cons rfl (fun K hK => ?_) AllReadyH.nil)
            go_simp
            refine (HJ1.out _ hbe).mono ?_
            rintro e w6 ⟨rfl, hb6⟩
            have h16 := hbe.trans (hb6.mono hbe.size)
            (try dsimp only)
            refine hK.out _ _ (by exact HKP.out _ h16) (fun hHeld => ?_)
            clear hK K
            (try simp only [Act.put]); (try simp only [List.setIfInBounds_toArray]); (try simp only [List.set_cons_succ]); (try simp only [List.set_cons_zero])
            refine wpAnyH_ready (rs := [6]) (by kernel_rfl) (by simp) (AllReadyH.cons rfl (fun K hK => ?_) AllReadyH.nil)
            go_simp
            refine (HFD.out _ h16).mono ?_
            rintro e w7 ⟨u2, u3, rfl, hk7, s1⟩
            obtain ⟨ua, ub, uc, ud, rfl, rfl, _⟩ := nd_shape hk7
            obtain ⟨z1, e0, e1, e2, f0, f1, f2, z3⟩ := HBQ.out w6 w7 ua uc ub ud hb6 s1
            (try dsimp only)
            refine hK.out _ _ (by exact HKP.out _ z1) (fun hHeld => ?_)
            clear hK K
            (try simp only [Act.put]); (try simp only [List.setIfInBounds_toArray]); (try simp only [List.set_cons_succ]); (try simp only [List.set_cons_zero])
            refine takeH 7 30 rfl rfl (v := ?_) (by kernel_rfl) (by kernel_rfl) (by kernel_rfl) (fun _ _ _ h => h) (Or.inl ⟨by rfl, ?_⟩) hHeld ?_
            rotate_left 1
            · (intro w hSw; (try dsimp only at hSw); go_simp; try (with_reducible rfl))
            (try simp only [Act.put]); (try simp only [List.setIfInBounds_toArray]); (try simp only [List.set_cons_succ]); (try simp only [List.set_cons_zero])
            refine takeH 8 38 rfl rfl (v := ?_) (by kernel_rfl) (by kernel_rfl) (by kernel_rfl) (fun _ _ _ h => h) (Or.inl ⟨by rfl, ?_⟩) hHeld ?_
            rotate_left 1
            · (intro w hSw; (try dsimp only at hSw); go_simp; try (with_reducible rfl))
            (try simp only [Act.put]); (try simp only [List.setIfInBounds_toArray]); (try simp only [List.set_cons_succ]); (try simp only [List.set_cons_zero])
            refine takeH 9 39 rfl rfl (v := ?_) (by kernel_rfl) (by kernel_rfl) (by kernel_rfl) (fun _ _ _ h => h) (Or.inl ⟨by rfl, ?_⟩) hHeld ?_
            rotate_left 1
            · (intro w hSw; (try dsimp only at hSw); go_simp; try (with_reducible rfl))
            (try simp only [Act.put]); (try simp only [List.setIfInBounds_toArray]); (try simp only [List.set_cons_succ]); (try simp only [List.set_cons_zero])
            refine wpAnyH_ready (rs := [11]) (by kernel_rfl) (by simp) (AllReadyH.cons rfl (fun K hK => ?_) AllReadyH.nil)
            go_simp
            refine hK.out _ _ (by exact HKP.out _ z3) (fun hHeld => ?_)
            clear hK K
            (try simp only [Act.put]); (try simp only [List.setIfInBounds_toArray]); (try simp only [List.set_cons_succ]); (try simp only [List.set_cons_zero])
            refine wpAnyH_ready (rs := [12]) (by kernel_rfl) (by simp) (AllReadyH.cons rfl (fun K hK => ?_) AllReadyH.nil)
            go_simp
            refine hK.out _ _ (by exact HKP.out _ z3) (fun hHeld => ?_)
            clear hK K
            (try simp only [Act.put]); (try simp only [List.setIfInBounds_toArray]); (try simp only [List.set_cons_succ]); (try simp only [List.set_cons_zero])
            refine wpAnyH_done (by kernel_rfl) ?_ _
            have HQ := Lib.hid z3
            go_wp2_with fail
            go_meet
            exact ⟨rfl, HQ.out⟩
        case rest => as_aux_lemma =>
          obtain ⟨rfl, R3⟩ := hcut
          have HM2 := Lib.hid (HM.out.trans (Moved.of_below R3 (fun k => k = g2)))
          have HA22 := Lib.hid (HA2.out.below R3 HA2.out.lt)
          have HA42 := Lib.hid (HA4.out.below R3 HA4.out.lt)
          have HN2 := Lib.hid (nd_below HN.out R3)
          have HBX := Lib.hid (HBW.out.trans (R3.mono HBW.out.size))
          have HSX2 : Hid (W1.heap.size ≤ wc.heap.size) := Nat.le_trans HSW.out R3.size
          have HKP2 : Hid (∀ W', Below wc.heap.size wc W' → (W'.cell? ⟨g2, 0, none⟩ = some (.string x.nm) ∧ W'.cell? ⟨g2, 1, none⟩ = some (.slice P x.ps.length pm) ∧ W'.cell? ⟨g2, 2, none⟩ = some (.slice Q x.ks.length qm) ∧ W'.cell? ⟨tb, tof + i, none⟩ = some (.string s))) := fun W' h => HKP.out W' (R3.trans (h.mono R3.size))
          have HJC : Hid (∀ W', Below wc.heap.size wc W' → Calls Tryz.prog 32 #[.slice (some ⟨tb, tof, none⟩) i cap] W' fun e w' => e = .returned (.string J0) ∧ Below W'.heap.size W' w') := fun W' h => HJ0.out W' (R3.trans (h.mono R3.size))
          clear HM HA2 HA4 HN HBW HAQ HBQ HCQ HAL HCE hbd hbe HFD HJ1 HKP HJ0 c20 c21 c22 t0
          cases bo with
          | true =>
            have HE : Hid (T = makeN x (L.take (i + 1)) (L.drop (i + 1))) := HST.out
            clear HST HYZ HDO HKP2 HJC
            go_wp2
            go_roundw
            case rel => exact ⟨i + 1, x, P, Q, pm, qm, by omega, by go_num, HA22.out, HN2.out, HE.out, HSX.out, HA42.out, HM2.out⟩
            case measure => simp [intOf]; omega
          | false =>
            replace HST : Hid (T = if Y.2 = 0 then makeN Y.1 (L.take (i + 1)) (L.drop (i + 1)) else (nd0, Y.2)) := HST.out
            have HDC : Hid (∀ W', Below wc.heap.size wc W' → Calls Tryz.prog 20 #[.agg #[.string x.nm, .slice P x.ps.length pm, .slice Q x.ks.length qm], .string J0, .string s] W' (Ed (fun k => (OrNew (fun k => G k ∧ k < w.heap.size) W1.heap.size) k ∧ k < wc.heap.size) Y W')) := fun W' h => HDO.out _ W' (nd_below (nd_and HN2.out) h)
            have hbd : Below wc.heap.size wc wc.drew := (Below.refl _ _).drew
            obtain ⟨c20, c21, c22, _⟩ := HKP2.out wc (Below.refl _ _)
            have HAQ : Hid (∀ (w6 w7 : World) (ua : Option Addr) (uc : Nat) (ub : Option Addr) (ud : Nat), Below wc.heap.size wc w6 → NdAt w7 (OrNew (fun k => (OrNew (fun k => G k ∧ k < w.heap.size) W1.heap.size) k ∧ k < wc.heap.size) w6.heap.size) Y.1 (.slice ua Y.1.ps.length uc) (.slice ub Y.1.ks.length ud) → Below w6.heap.size w6 w7 →
                w7.cell? ⟨g2, 0, none⟩ = some (.string x.nm) ∧ w7.cell? ⟨g2, 1, none⟩ = some (.slice P x.ps.length pm) ∧ w7.cell? ⟨g2, 2, none⟩ = some (.slice Q x.ks.length qm) ∧ w7.frozen? ⟨g2, 0, none⟩ = false ∧ w7.frozen? ⟨g2, 1, none⟩ = false ∧ w7.frozen? ⟨g2, 2, none⟩ = false ∧
                (Arr (((w7.setCell ⟨g2, 0, none⟩ (.string Y.1.nm)).setCell ⟨g2, 1, none⟩ (.slice ua Y.1.ps.length uc)).setCell ⟨g2, 2, none⟩ (.slice ub Y.1.ks.length ud)) g2 28 #[.string Y.1.nm, .slice ua Y.1.ps.length uc, .slice ub Y.1.ks.length ud] ∧ NdAt (((w7.setCell ⟨g2, 0, none⟩ (.string Y.1.nm)).setCell ⟨g2, 1, none⟩ (.slice ua Y.1.ps.length uc)).setCell ⟨g2, 2, none⟩ (.slice ub Y.1.ks.length ud)) (OrNew (fun k => G k ∧ k < w.heap.size) W1.heap.size) Y.1 (.slice ua Y.1.ps.length uc) (.slice ub Y.1.ks.length ud) ∧ Moved wc (((w7.setCell ⟨g2, 0, none⟩ (.string Y.1.nm)).setCell ⟨g2, 1, none⟩ (.slice ua Y.1.ps.length uc)).setCell ⟨g2, 2, none⟩ (.slice ub Y.1.ks.length ud)) (fun k => k = g2) (fun k => k = g2))) := fun w6 w7 ua uc ub ud h6 hk hb => by
              have h0 : Below wc.heap.size wc w7 := h6.trans (hb.mono h6.size)
              have hA := HA22.out.below h0 HA22.out.lt
              have h9 := HSX2.out
              have h8 := h6.size
              have h7 := HL2.out
              have h5 := HG2.out
              have M : Moved w7 (((w7.setCell ⟨g2, 0, none⟩ (.string Y.1.nm)).setCell ⟨g2, 1, none⟩ (.slice ua Y.1.ps.length uc)).setCell ⟨g2, 2, none⟩ (.slice ub Y.1.ks.length ud)) (fun k => k = g2) (fun k => k = g2) := ((Moved.grown (gr_cell w7 g2 0 _) (fun k hk => by injection hk with hk; exact hk.symm) (fun k hk => .inl hk)).trans (Moved.grown (gr_cell _ g2 1 _) (fun k hk => by injection hk with hk; exact hk.symm) (fun k hk => .inl hk))).trans (Moved.grown (gr_cell _ g2 2 _) (fun k hk => by injection hk with hk; exact hk.symm) (fun k hk => .inl hk))
              refine ⟨hA.cell 0, hA.cell 1, hA.cell 2, hA.frozen 0, hA.frozen 1, hA.frozen 2, ((hA.put 0 _).put 1 _).put 2 _, (hk.kept M (fun k hk e => ?_)).mono fun k hk => hk.elim (fun h => h.1) (fun h => .inr (by omega)), (Moved.of_below h0 _).trans M⟩
              rcases hk with ⟨hk | hk, _⟩ | hk <;> omega
            clear HDO HN2
            go_upto_region 11 with fail
            go_cut [12] (fun s12 wx => ∃ (ua : Option Addr) (uc : Nat) (ub : Option Addr) (ud : Nat), s12 = .int .i64 (Y.2 : Nat) ∧ Arr wx g2 28 #[.string Y.1.nm, .slice ua Y.1.ps.length uc, .slice ub Y.1.ks.length ud] ∧ NdAt wx (OrNew (fun k => G k ∧ k < w.heap.size) W1.heap.size) Y.1 (.slice ua Y.1.ps.length uc) (.slice ub Y.1.ks.length ud) ∧ Moved wc wx (fun k => k = g2) (fun k => k = g2))
            case first => as_aux_lemma =>
              refine wp_region_held_drew (S := fun (_ : World) => True) (by kernel_rfl) (by trivial) (fun hHeld => ?_)
              refine takeH 1 43 rfl rfl (v := ?_) (by kernel_rfl) (by kernel_rfl) (by kernel_rfl) (fun _ _ _ h => h) (Or.inl ⟨by rfl, ?_⟩) hHeld ?_
              rotate_left 1
              · (intro w hSw; (try dsimp only at hSw); go_simp; try (with_reducible rfl))
              (try simp only [Act.put]); (try simp only [List.setIfInBounds_toArray]); (try simp only [List.set_cons_succ]); (try simp only [List.set_cons_zero])
              refine takeH 2 44 rfl rfl (v := ?_) (by kernel_rfl) (by kernel_rfl) (by kernel_rfl) (fun _ _ _ h => h) (Or.inl ⟨by rfl, ?_⟩) hHeld ?_
              rotate_left 1
              · (intro w hSw; (try dsimp only at hSw); go_simp; try (with_reducible rfl))
              (try simp only [Act.put]); (try simp only [List.setIfInBounds_toArray]); (try simp only [List.set_cons_succ]); (try simp only [List.set_cons_zero])
              refine takeH 3 45 rfl rfl (v := ?_) (by kernel_rfl) (by kernel_rfl) (by kernel_rfl) (fun _ _ _ h => h) (Or.inl ⟨by rfl, ?_⟩) hHeld ?_
              rotate_left 1
              · (intro w hSw; (try dsimp only at hSw); go_simp; try (with_reducible rfl))
              (try simp only [Act.put]); (try simp only [List.setIfInBounds_toArray]); (try simp only [List.set_cons_succ]); (try simp only [List.set_cons_zero])
              refine takeH 5 47 rfl rfl (v := ?_) (by kernel_rfl) (by kernel_rfl) (by kernel_rfl) (fun _ _ _ h => h) (Or.inl ⟨by rfl, ?_⟩) hHeld ?_
              rotate_left 1
              · (intro w hSw; (try dsimp only at hSw); go_simp; try (with_reducible rfl))
              (try simp only [Act.put]); (try simp only [List.setIfInBounds_toArray]); (try simp only [List.set_cons_succ]); (try simp only [List.set_cons_zero])
              refine wpAnyH_ready (rs := [0, 4]) (by kernel_rfl) (by simp) (AllReadyH.cons rfl (fun K hK => ?_) (AllReadyH.cons rfl (fun K hK => ?_) AllReadyH.nil))
              · go_simp
                refine hK.out _ _ (by trivial) (fun hHeld => ?_)
                clear hK K
                (try simp only [Act.put]); (try simp only [List.setIfInBounds_toArray]); (try simp only [List.set_cons_succ]); (try simp only [List.set_cons_zero])
                refine wpAnyH_ready (rs := [4]) (by kernel_rfl) (by simp) (AllReadyH.cons rfl (fun K hK => ?_) AllReadyH.nil)
                go_simp
                refine (HJC.out _ hbd).mono ?_
                rintro e w6 ⟨rfl, hb6⟩
                have h16 := hbd.trans (hb6.mono hbd.size)
                obtain ⟨k0, k1, k2, _⟩ := HKP2.out _ h16
                (try dsimp only)
                refine hK.out _ _ (by trivial) (fun hHeld => ?_)
                clear hK K
                (try simp only [Act.put]); (try simp only [List.setIfInBounds_toArray]); (try simp only [List.set_cons_succ]); (try simp only [List.set_cons_zero])
                refine wpAnyH_ready (rs := [6]) (by kernel_rfl) (by simp) (AllReadyH.cons rfl (fun K hK => ?_) AllReadyH.nil)
                go_simp
                refine (HDC.out _ h16).mono ?_
                rintro e w7 ⟨u2, u3, rfl, hk7, s1⟩
                obtain ⟨ua, ub, uc, ud, rfl, rfl, _⟩ := nd_shape hk7
                obtain ⟨e0, e1, e2, f0, f1, f2, z4⟩ := HAQ.out w6 w7 ua uc ub ud h16 hk7 s1
                (try dsimp only)
                refine hK.out _ _ (by trivial) (fun hHeld => ?_)
                clear hK K
                (try simp only [Act.put]); (try simp only [List.setIfInBounds_toArray]); (try simp only [List.set_cons_succ]); (try simp only [List.set_cons_zero])
                refine takeH 7 41 rfl rfl (v := ?_) (by kernel_rfl) (by kernel_rfl) (by kernel_rfl) (fun _ _ _ h => h) (Or.inl ⟨by rfl, ?_⟩) hHeld ?_
                rotate_left 1
                · (intro w hSw; (try dsimp only at hSw); go_simp; try (with_reducible rfl))
                (try simp only [Act.put]); (try simp only [List.setIfInBounds_toArray]); (try simp only [List.set_cons_succ]); (try simp only [List.set_cons_zero])
                refine takeH 8 49 rfl rfl (v := ?_) (by kernel_rfl) (by kernel_rfl) (by kernel_rfl) (fun _ _ _ h => h) (Or.inl ⟨by rfl, ?_⟩) hHeld ?_
                rotate_left 1
                · (intro w hSw; (try dsimp only at hSw); go_simp; try (with_reducible rfl))
                (try simp only [Act.put]); (try simp only [List.setIfInBounds_toArray]); (try simp only [List.set_cons_succ]); (try simp only [List.set_cons_zero])
                refine takeH 9 50 rfl rfl (v := ?_) (by kernel_rfl) (by kernel_rfl) (by kernel_rfl) (fun _ _ _ h => h) (Or.inl ⟨by rfl, ?_⟩) hHeld ?_
                rotate_left 1
                · (intro w hSw; (try dsimp only at hSw); go_simp; try (with_reducible rfl))
                (try simp only [Act.put]); (try simp only [List.setIfInBounds_toArray]); (try simp only [List.set_cons_succ]); (try simp only [List.set_cons_zero])
                refine wpAnyH_ready (rs := [10]) (by kernel_rfl) (by simp) (AllReadyH.cons rfl (fun K hK => ?_) AllReadyH.nil)
                go_simp
                refine hK.out _ _ (by trivial) (fun hHeld => ?_)
                clear hK K
                (try simp only [Act.put]); (try simp only [List.setIfInBounds_toArray]); (try simp only [List.set_cons_succ]); (try simp only [List.set_cons_zero])
                refine wpAnyH_ready (rs := [11]) (by kernel_rfl) (by simp) (AllReadyH.cons rfl (fun K hK => ?_) AllReadyH.nil)
                go_simp
                refine hK.out _ _ (by trivial) (fun hHeld => ?_)
                clear hK K
                (try simp only [Act.put]); (try simp only [List.setIfInBounds_toArray]); (try simp only [List.set_cons_succ]); (try simp only [List.set_cons_zero])
                refine wpAnyH_done (by kernel_rfl) ?_ _
                have HQ := Lib.hid z4
                clear e0 e1 e2 f0 f1 f2 z4 hk7 s1 hHeld
                go_wp2_with fail
                go_meet
                exact ⟨_, _, _, _, rfl, HQ.out⟩
              · go_simp
                refine (HJC.out _ hbd).mono ?_
                rintro e w6 ⟨rfl, hb6⟩
                have h16 := hbd.trans (hb6.mono hbd.size)
                obtain ⟨k0, k1, k2, _⟩ := HKP2.out _ h16
                (try dsimp only)
                refine hK.out _ _ (by trivial) (fun hHeld => ?_)
                clear hK K
                (try simp only [Act.put]); (try simp only [List.setIfInBounds_toArray]); (try simp only [List.set_cons_succ]); (try simp only [List.set_cons_zero])
                refine wpAnyH_ready (rs := [0]) (by kernel_rfl) (by simp) (AllReadyH.cons rfl (fun K hK => ?_) AllReadyH.nil)
                go_simp
                refine hK.out _ _ (by trivial) (fun hHeld => ?_)
                clear hK K
                (try simp only [Act.put]); (try simp only [List.setIfInBounds_toArray]); (try simp only [List.set_cons_succ]); (try simp only [List.set_cons_zero])
                refine wpAnyH_ready (rs := [6]) (by kernel_rfl) (by simp) (AllReadyH.cons rfl (fun K hK => ?_) AllReadyH.nil)
                go_simp
                refine (HDC.out _ h16).mono ?_
                rintro e w7 ⟨u2, u3, rfl, hk7, s1⟩
                obtain ⟨ua, ub, uc, ud, rfl, rfl, _⟩ := nd_shape hk7
                obtain ⟨e0, e1, e2, f0, f1, f2, z4⟩ := HAQ.out w6 w7 ua uc ub ud h16 hk7 s1
                (try dsimp only)
                refine hK.out _ _ (by trivial) (fun hHeld => ?_)
                clear hK K
                (try simp only [Act.put]); (try simp only [List.setIfInBounds_toArray]); (try simp only [List.set_cons_succ]); (try simp only [List.set_cons_zero])
                refine takeH 7 41 rfl rfl (v := ?_) (by kernel_rfl) (by kernel_rfl) (by kernel_rfl) (fun _ _ _ h => h) (Or.inl ⟨by rfl, ?_⟩) hHeld ?_
                rotate_left 1
                · (intro w hSw; (try dsimp only at hSw); go_simp; try (with_reducible rfl))
                (try simp only [Act.put]); (try simp only [List.setIfInBounds_toArray]); (try simp only [List.set_cons_succ]); (try simp only [List.set_cons_zero])
                refine takeH 8 49 rfl rfl (v := ?_) (by kernel_rfl) (by kernel_rfl) (by kernel_rfl) (fun _ _ _ h => h) (Or.inl ⟨by rfl, ?_⟩) hHeld ?_
                rotate_left 1
                · (intro w hSw; (try dsimp only at hSw); go_simp; try (with_reducible rfl))
                (try simp only [Act.put]); (try simp only [List.setIfInBounds_toArray]); (try simp only [List.set_cons_succ]); (try simp only [List.set_cons_zero])
                refine takeH 9 50 rfl rfl (v := ?_) (by kernel_rfl) (by kernel_rfl) (by kernel_rfl) (fun _ _ _ h => h) (Or.inl ⟨by rfl, ?_⟩) hHeld ?_
                rotate_left 1
                · (intro w hSw; (try dsimp only at hSw); go_simp; try (with_reducible rfl))
                (try simp only [Act.put]); (try simp only [List.setIfInBounds_toArray]); (try simp only [List.set_cons_succ]); (try simp only [List.set_cons_zero])
                refine wpAnyH_ready (rs := [10]) (by kernel_rfl) (by simp) (AllReadyH.cons rfl (fun K hK => ?_) AllReadyH.nil)
                go_simp
                refine hK.out _ _ (by trivial) (fun hHeld => ?_)
                clear hK K
                (try simp only [Act.put]); (try simp only [List.setIfInBounds_toArray]); (try simp only [List.set_cons_succ]); (try simp only [List.set_cons_zero])
                refine wpAnyH_ready (rs := [11]) (by kernel_rfl) (by simp) (AllReadyH.cons rfl (fun K hK => ?_) AllReadyH.nil)
                go_simp
                refine hK.out _ _ (by trivial) (fun hHeld => ?_)
                clear hK K
                (try simp only [Act.put]); (try simp only [List.setIfInBounds_toArray]); (try simp only [List.set_cons_succ]); (try simp only [List.set_cons_zero])
                refine wpAnyH_done (by kernel_rfl) ?_ _
                have HQ := Lib.hid z4
                clear e0 e1 e2 f0 f1 f2 z4 hk7 s1 hHeld
                go_wp2_with fail
                go_meet
                exact ⟨_, _, _, _, rfl, HQ.out⟩
            case rest => as_aux_lemma =>
              obtain ⟨ua, uc, ub, ud, rfl, R1, R2, R4⟩ := hcut
              have R1 := Lib.hid R1
              have R2 := Lib.hid R2
              have HM3 := Lib.hid (HM2.out.trans R4)
              have HA43 := Lib.hid (R4.arr HA42.out (fun e => HG24.out e))
              have HBZ := Lib.hid (HBX.out.trans (R4.below (fun k hk => by rw [hk]; exact HG2.out) HBX.out.size))
              clear HM2 HA22 HA42 HBX HAQ hbd HDC HJC HKP2 R4 R3 c20 c21 c22
              by_cases h0 : Y.2 = 0
              · have d0 : (((Y.2 : Nat) : Int) != 0) = false := by rw [h0]; rfl
                have HE : Hid (T = makeN Y.1 (L.take (i + 1)) (L.drop (i + 1))) := HST.out.trans (if_pos h0)
                have HSY := Lib.hid (HYZ.out h0)
                clear h0 HST HYZ
                go_wp2
                go_roundw
                case rel => exact ⟨i + 1, Y.1, ua, ub, uc, ud, by omega, by go_num, R1.out, R2.out, HE.out, HSY.out, HA43.out, HM3.out⟩
                case measure => simp [intOf]; omega
              · have d0 : (((Y.2 : Nat) : Int) != 0) = true := by simp; omega
                have HE : Hid (T = (nd0, Y.2)) := HST.out.trans (if_neg h0)
                clear h0 HST HYZ
                go_wp2_with (refine wpList_store_row rfl 28 (.tmp 4) (.tmp 53) rfl g4 #[.string ⟨#[]⟩, .slice none 0 0, .slice none 0 0] rfl rfl _ _ HA43.out (infoNd _ _ _) rfl zl_one ?_)
                exact bodyPost_ret (results_rowN rfl _ _ g4 _ #[.string ⟨#[]⟩, .slice none 0 0, .slice none 0 0] _ _ rfl (HA43.out.row _) Tryz.underlying28 rfl (infoNd _ _ _)) rfl ⟨_, _, by rw [HE.out]; rfl, by rw [HE.out]; exact nd0_at _ _, below_setRow HBZ.out HG4.out _⟩
      · obtain rfl : i = L.length := by omega
        have HE : Hid (T = fitsTo x) := HF.out.trans make_end
        have HFI := Lib.hid (fitting_any _ x _ _ wr (by have := sz_count HSX.out; omega) (by have := sz_count HSX.out; omega) HN.out)
        have HL4R : Hid (g4 < wr.heap.size) := HA4.out.lt
        clear HF HM HRT2 HRT HFAR HNM HJL HTK HFT
        generalize fitsTo x = FT at *
        go_wp2_with fail
        refine HFI.out.mono ?_
        rintro e w5 ⟨u2, u3, rfl, hk9, hb⟩
        obtain ⟨xa, xb, xc, xd, rfl, rfl, _⟩ := nd_shape hk9
        have HA4 := Lib.hid (HA4.out.below hb HA4.out.lt)
        have HB5 := Lib.hid (HBW.out.trans (hb.mono HBW.out.size))
        have HND : Hid (NdAt (w5.setRow g4 #[.string FT.1.nm, .slice xa FT.1.ps.length xc, .slice xb FT.1.ks.length xd]) (OrNew G w.heap.size) FT.1 (.slice xa FT.1.ps.length xc) (.slice xb FT.1.ks.length xd)) := by
          have h5 := HG4.out
          have h6 := HL4.out
          have h7 := HL4R.out
          have h8 := HS1.out
          have h9 := HSW.out
          exact (hk9.kept (moved_setRow w5 g4 _) (fun k hk e => by rcases hk with (hk | hk) | hk <;> omega)).mono fun k hk => by
            rcases hk with (hk | hk) | hk
            · exact .inl hk.1
            · exact .inr (Nat.le_trans h8 hk)
            · exact .inr (Nat.le_trans (Nat.le_trans h8 h9) hk)
        clear hk9 hb c20 c21 c22 HFI HN HA2
        go_wp2_with (refine wpList_store_row rfl 28 (.tmp 4) (.tmp 58) rfl g4 #[.string FT.1.nm, .slice xa FT.1.ps.length xc, .slice xb FT.1.ks.length xd] rfl rfl _ _ HA4.out (infoNd _ _ _) rfl (nd_one _ _ _ _ _ _ _) ?_)
        exact bodyPost_ret (results_rowN rfl _ _ g4 _ #[.string FT.1.nm, .slice xa FT.1.ps.length xc, .slice xb FT.1.ks.length xd] _ _ rfl (HA4.out.row _) Tryz.underlying28 rfl (infoNd _ _ _)) rfl ⟨_, _, by rw [HE.out]; rfl, by rw [HE.out]; exact HND.out, below_setRow HB5.out HG4.out _⟩

theorem edit_must : EditMust where
  set G n y z p nm vl w hs hp h1 _ hN := eset_any G n y z p nm vl w hs hp h1 hN
  unset G n y z p nm w hs hp _ hN := eunset_any G n y z p nm w hs hp hN
  add G n y z p nm w hs hp h1 hN := eadd_any G n y z p nm w hs hp h1 hN
  drop G n y z p w hs hp hN := edrop_any G n y z p w hs hp hN
  make G n y z p w hs hp hN := emake_any G n y z p w hs hp hN
end Go.Proofs.YtfcclppgjfkfoaaGreatDoor
