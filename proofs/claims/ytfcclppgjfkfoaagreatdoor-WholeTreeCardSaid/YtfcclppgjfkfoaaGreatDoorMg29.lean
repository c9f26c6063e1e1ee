/- What package path's Kid and Value return, for any tree that is read. No condition on the tree. -/
import Derived.Test.YtfcclppgjfkfoaaGreatDoorMg16
import Derived.Test.YtfcclppgjfkfoaaGreatDoorMg2
import Derived.Lib.SplitLaws
import Derived.Lib.Split
import Derived.Lib.IndexBytes
import Derived.Lib.CountLaws
import Derived.Lib.SlicesS
import Derived.Lib.Join
namespace Go.Proofs.YtfcclppgjfkfoaaGreatDoor
open Go.RowKit

set_option maxHeartbeats 1600000 in
set_option maxRecDepth 100000 in
theorem kid_any (G : Nat → Prop) (n : ND) (v2 v3 : Value) (nm : ByteArray) (w : World) (hN : NdAt w G n v2 v3) :
    Calls Tryz.prog 71 #[.agg #[.string n.nm, v2, v3], .string nm] w fun e w' => ∃ u2 u3, e = .returned (.tuple #[.agg #[.string (orN (kidR n nm)).nm, u2, u3], .bool (kidR n nm).isSome]) ∧ NdAt w' G (orN (kidR n nm)) u2 u3 ∧ Below w.heap.size w w' := by
  obtain ⟨A, K, pc, kc, rfl, rfl, hpc, hpm, hkc, hkm⟩ := nd_shape hN
  unfold maxLen at hpm hkm
  have HHIT : Hid (∀ k, k < n.ks.length → (∀ j, j < k → decide ((n.ks.getD j nd0).nm = nm) = false) → decide ((n.ks.getD k nd0).nm = nm) = true → kidR n nm = some (n.ks.getD k nd0)) := fun k hk hj h => find_take (f := fun x : ND => decide (x.nm = nm)) (d := nd0) hk hj h
  have HNO : Hid ((∀ j, j < n.ks.length → decide ((n.ks.getD j nd0).nm = nm) = false) → kidR n nm = none) := fun h => find_none (f := fun x : ND => decide (x.nm = nm)) (d := nd0) h
  generalize kidR n nm = R at *
  obtain ⟨W1, hW1⟩ : ∃ W1, W1 = (w.alloc (.cells #[.string n.nm, .slice A n.ps.length pc, .slice K n.ks.length kc] 28)).alloc (.cells #[.string ⟨#[]⟩, .slice none 0 0, .slice none 0 0] 28) := ⟨_, rfl⟩
  obtain ⟨g2, hg2⟩ : ∃ g2, g2 = w.heap.size := ⟨_, rfl⟩
  obtain ⟨g4, hg4⟩ : ∃ g4, g4 = w.heap.size + 1 := ⟨_, rfl⟩
  have hB1 : Below w.heap.size w W1 := by rw [hW1]; exact ((Below.refl _ _).alloc (Nat.le_refl _) _).alloc (by rw [sz_alloc]; omega) _
  have hA2 : Arr W1 g2 28 #[.string n.nm, .slice A n.ps.length pc, .slice K n.ks.length kc] := by rw [hW1, hg2]; exact (Arr.new w _ _).alloc _
  have hA4 : Arr W1 g4 28 #[.string ⟨#[]⟩, .slice none 0 0, .slice none 0 0] := by rw [hW1, hg4]; exact Arr.new1 w _ _ _
  have HN := Lib.hid (nd_below (nd_and hN) hB1)
  have HA4 := Lib.hid hA4
  have HB := Lib.hid hB1
  have HG4 : Hid (w.heap.size ≤ g4) := by unfold Hid; omega
  have k2 : W1.cell? ⟨g2, 2, none⟩ = some (.slice K n.ks.length kc) := hA2.cell 2
  clear hN hB1 hA2 hA4
  go_enter Tryz.func71, Tryz.ntmps71
  go_upto_region 1 with fail
  change Code.wp _ _ _ _ ((w.alloc (.cells #[.string n.nm, .slice A n.ps.length pc, .slice K n.ks.length kc] 28)).alloc (.cells #[.string ⟨#[]⟩, .slice none 0 0, .slice none 0 0] 28))
  rw [← hW1, ← hg4, ← hg2]
  clear hW1 hg4 hg2
  go_wp2
  go_loopw [11] (fun iv wr => ∃ i : Nat, i ≤ n.ks.length ∧ iv = .int .i64 i ∧ Hid (∀ j, j < i → decide ((n.ks.getD j nd0).nm = nm) = false) ∧ Below W1.heap.size W1 wr) (fun iv _ => n.ks.length - (intOf iv).toNat)
  case atStart => exact ⟨0, Nat.zero_le _, rfl, (fun j h => absurd h (Nat.not_lt_zero _)), Below.refl _ _⟩
  case round =>
    obtain ⟨i, hi, rfl, HJ, hb⟩ := hrel
    have HBR := Lib.hid hb
    by_cases hlt : i < n.ks.length
    · have hii : (i : Int) < n.ks.length := by omega
      obtain ⟨b, off, x, y, z, rfl, h1, h2, h3, h4, HX⟩ := nd_kid (nd_below HN.out hb) hlt
      obtain ⟨ya, za, yc, zc, rfl, rfl, _⟩ := nd_shape h4
      obtain ⟨W2, hW2⟩ : ∃ W2, W2 = wr.alloc (.cells #[.string x.nm, .slice ya x.ps.length yc, .slice za x.ks.length zc] 28) := ⟨_, rfl⟩
      obtain ⟨g7, hg7⟩ : ∃ g7, g7 = wr.heap.size := ⟨_, rfl⟩
      have hb2 : Below wr.heap.size wr W2 := by rw [hW2]; exact (Below.refl _ _).alloc (Nat.le_refl _) _
      have hA7 : Arr W2 g7 28 #[.string x.nm, .slice ya x.ps.length yc, .slice za x.ks.length zc] := by rw [hW2, hg7]; exact Arr.new wr _ _
      have k7 : W2.cell? ⟨g7, 0, none⟩ = some (.string x.nm) := hA7.cell 0
      have hB2 : Below W1.heap.size W1 W2 := hb.trans (hb2.mono hb.size)
      have HA7 := Lib.hid hA7
      have HB2 := Lib.hid hB2
      have HA42 := Lib.hid (HA4.out.below hB2 HA4.out.lt)
      have HH := Lib.hid (nd_below h4 hb2)
      clear hb hb2 hA7 hB2 h4
      go_upto_region 4 with fail
      rw [← hW2, ← hg7]
      clear hW2 hg7 h1 h2 h3
      by_cases he : x.nm = nm
      · have d1 : (x.nm.toList == nm.toList) = true := by rw [he]; simp
        have HE : Hid (R = some x) := by
          have := HHIT.out i hlt HJ.out (by rw [HX.out]; exact decide_eq_true he)
          rw [HX.out] at this
          exact this
        have HONE : Hid ((#[.string x.nm, .slice ya x.ps.length yc, .slice za x.ks.length zc] : Array Value).all (·.oneCell') = true) := by
          unfold Hid
          rw [Array.all_eq_true_iff_forall_mem]
          intro v hv
          simp at hv
          rcases hv with rfl | rfl | rfl <;> rfl
        have HND : Hid (NdAt (W2.setRow g4 #[.string x.nm, .slice ya x.ps.length yc, .slice za x.ks.length zc]) G x (.slice ya x.ps.length yc) (.slice za x.ks.length zc)) :=
          (HH.out.kept (moved_setRow W2 g4 _) (fun k hk e => by have := hk.2; have := HG4.out; omega)).mono (fun k hk => hk.1)
        have HBF : Hid (Below w.heap.size w (W2.setRow g4 #[.string x.nm, .slice ya x.ps.length yc, .slice za x.ks.length zc])) := below_setRow (HB.out.trans (HB2.out.mono HB.out.size)) HG4.out _
        clear he HX HJ HHIT HNO HN HH HBR HB2 HA4
        go_wp2_with (first | (refine wpList_load_row rfl 28 (.tmp 7) rfl g7 rfl _ _ _ _ HA7.out Tryz.underlying28 rfl (infoNd _ _ _) ?_) | (refine wpList_store_row rfl 28 (.tmp 4) (.tmp 19) rfl g4 #[.string x.nm, .slice ya x.ps.length yc, .slice za x.ks.length zc] rfl rfl _ _ HA42.out (infoNd _ _ _) rfl HONE.out ?_))
        exact bodyPost_ret (results_rowN rfl _ _ g4 _ #[.string x.nm, .slice ya x.ps.length yc, .slice za x.ks.length zc] _ _ rfl (HA42.out.row _) Tryz.underlying28 rfl (infoNd _ _ _)) rfl ⟨_, _, by rw [HE.out]; rfl, by rw [HE.out]; exact HND.out, HBF.out⟩
      · have d1 : (x.nm.toList == nm.toList) = false := by simpa using str_ne12 he
        have HJ1 : Hid (∀ j, j < i + 1 → decide ((n.ks.getD j nd0).nm = nm) = false) := fun j hj => by
          by_cases e : j = i
          · rw [e, HX.out]; exact decide_eq_false he
          · exact HJ.out j (by omega)
        clear he HX HJ HH HA42 HA7 HBR
        go_wp2
        go_roundw
        case rel => exact ⟨i + 1, by omega, by go_num, HJ1.out, HB2.out⟩
        case measure => simp [intOf]; omega
    · obtain rfl : i = n.ks.length := by omega
      have HE : Hid (R = none) := HNO.out HJ.out
      have HA4R := Lib.hid (HA4.out.below hb HA4.out.lt)
      have HBF := Lib.hid (HB.out.trans (hb.mono HB.out.size))
      clear HJ HHIT HNO HN hb HBR HA4 HB
      go_wp2_with (refine wpList_store_row rfl 28 (.tmp 4) (.tmp 21) rfl g4 #[.string ⟨#[]⟩, .slice none 0 0, .slice none 0 0] rfl rfl _ _ HA4R.out (infoNd _ _ _) rfl zl_one ?_)
      exact bodyPost_ret (results_rowN rfl _ _ g4 _ #[.string ⟨#[]⟩, .slice none 0 0, .slice none 0 0] _ _ rfl (HA4R.out.row _) Tryz.underlying28 rfl (infoNd _ _ _)) rfl ⟨_, _, by rw [HE.out]; rfl, by rw [HE.out]; exact nd0_at _ _, below_setRow HBF.out HG4.out _⟩

end Go.Proofs.YtfcclppgjfkfoaaGreatDoor

/- What package path's Find and valueAt return, for any tree that is read, if Parts gives the names of a path. Conditions: paths of at most 10^6 bytes. -/
namespace Go.Proofs.YtfcclppgjfkfoaaGreatDoor
open Go.RowKit

/-- What Parts must give. -/
def PartsOk : Prop := ∀ (p : ByteArray) (w : World), p.size ≤ 1000000 → Calls Tryz.prog 29 #[.string p] w fun e w' => ∃ A cap, e = .returned (.tuple #[.slice A (baL (partsR p.data.toList).1).length cap, .bool (partsR p.data.toList).2]) ∧ RdT w' A (baL (partsR p.data.toList).1) ∧ TxFar w.heap.size A (baL (partsR p.data.toList).1) ∧ Below w.heap.size w w' ∧ (baL (partsR p.data.toList).1).length ≤ cap

set_option maxHeartbeats 3200000 in
set_option maxRecDepth 100000 in
theorem pfind_any (Q0 : PartsOk) (G : Nat → Prop) (n : ND) (v2 v3 : Value) (p : ByteArray) (w : World) (hp : p.size ≤ 1000000) (hN : NdAt w G n v2 v3) :
    Calls Tryz.prog 31 #[.agg #[.string n.nm, v2, v3], .string p] w fun e w' => ∃ u2 u3, e = .returned (.tuple #[.agg #[.string (orN (findR n p.data.toList)).nm, u2, u3], .bool (findR n p.data.toList).isSome]) ∧ NdAt w' G (orN (findR n p.data.toList)) u2 u3 ∧ Below w.heap.size w w' := by
  obtain ⟨A, K, pc, kc, rfl, rfl, hpc, hpm, hkc, hkm⟩ := nd_shape hN
  have HFI : Hid (findR n p.data.toList = if (partsR p.data.toList).2 = true then followR n (baL (partsR p.data.toList).1) else none) := rfl
  have hfew := parts_few p.data.toList
  rw [← baL_len] at hfew
  generalize findR n p.data.toList = R at *
  obtain ⟨W1, hW1⟩ : ∃ W1, W1 = (w.alloc (.cells #[.string n.nm, .slice A n.ps.length pc, .slice K n.ks.length kc] 28)).alloc (.cells #[.string ⟨#[]⟩, .slice none 0 0, .slice none 0 0] 28) := ⟨_, rfl⟩
  obtain ⟨g2, hg2⟩ : ∃ g2, g2 = w.heap.size := ⟨_, rfl⟩
  obtain ⟨g4, hg4⟩ : ∃ g4, g4 = w.heap.size + 1 := ⟨_, rfl⟩
  have hB1 : Below w.heap.size w W1 := by rw [hW1]; exact ((Below.refl _ _).alloc (Nat.le_refl _) _).alloc (by rw [sz_alloc]; omega) _
  have hA2 : Arr W1 g2 28 #[.string n.nm, .slice A n.ps.length pc, .slice K n.ks.length kc] := by rw [hW1, hg2]; exact (Arr.new w _ _).alloc _
  have hA4 : Arr W1 g4 28 #[.string ⟨#[]⟩, .slice none 0 0, .slice none 0 0] := by rw [hW1, hg4]; exact Arr.new1 w _ _ _
  have HN := Lib.hid (nd_below (nd_and hN) hB1)
  have HA2 := Lib.hid hA2
  have HA4 := Lib.hid hA4
  have HB := Lib.hid hB1
  have HG4 : Hid (w.heap.size ≤ g4) := by unfold Hid; omega
  have HG2 : Hid (w.heap.size ≤ g2) := by unfold Hid; omega
  have HG2L : Hid (g2 < W1.heap.size) := hA2.lt
  have hg24 : g4 ≠ g2 := by omega
  have HPT := Lib.hid (Q0 p W1 hp)
  have HONE : Hid (∀ (a : ByteArray) P pn pc Q qn qc, (#[.string a, .slice P pn pc, .slice Q qn qc] : Array Value).all (·.oneCell') = true) := fun a P pn pc Q qn qc => by
    rw [Array.all_eq_true_iff_forall_mem]
    intro v hv
    simp at hv
    rcases hv with rfl | rfl | rfl <;> rfl
  clear Q0 hN hB1 hA2 hA4 hpc hpm hkc hkm
  go_enter Tryz.func31, Tryz.ntmps31
  go_upto_region 1 with fail
  change Code.wp _ _ _ _ ((w.alloc (.cells #[.string n.nm, .slice A n.ps.length pc, .slice K n.ks.length kc] 28)).alloc (.cells #[.string ⟨#[]⟩, .slice none 0 0, .slice none 0 0] 28))
  rw [← hW1, ← hg4, ← hg2]
  clear hW1 hg4 hg2
  go_wp2_with fail
  refine HPT.out.mono ?_
  rintro e w2 ⟨A5, cap5, rfl, hrt, hfar, hb, -⟩
  have HRT := Lib.hid hrt
  have HFAR := Lib.hid hfar
  have HN := Lib.hid (nd_below HN.out hb)
  have HA2 := Lib.hid (HA2.out.below hb HA2.out.lt)
  have HA4 := Lib.hid (HA4.out.below hb HA4.out.lt)
  have HB := Lib.hid (HB.out.trans (hb.mono HB.out.size))
  clear hrt hfar hb HPT
  generalize baL (partsR p.data.toList).1 = L at *
  cases hok : (partsR p.data.toList).2 with
  | false =>
    have HE : Hid (R = none) := by unfold Hid; rw [HFI.out, hok, if_neg (by decide)]
    clear hok HFI
    go_wp2_with (refine wpList_store_row rfl 28 (.tmp 4) (.tmp 17) rfl g4 #[.string ⟨#[]⟩, .slice none 0 0, .slice none 0 0] rfl rfl _ _ HA4.out (infoNd _ _ _) rfl zl_one ?_)
    exact bodyPost_ret (results_rowN rfl _ _ g4 _ #[.string ⟨#[]⟩, .slice none 0 0, .slice none 0 0] _ _ rfl (HA4.out.row _) Tryz.underlying28 rfl (infoNd _ _ _)) rfl ⟨_, _, by rw [HE.out]; rfl, by rw [HE.out]; exact nd0_at _ _, below_setRow HB.out HG4.out _⟩
  | true =>
    have HFO : Hid (R = followR n L) := by unfold Hid; rw [HFI.out, hok, if_pos rfl]
    clear hok HFI
    go_wp2
    go_loopw [20] (fun iv wr => ∃ (i : Nat) (x : ND) (P Q : Option Addr) (pm qm : Nat), i ≤ L.length ∧ iv = .int .i64 i ∧ Arr wr g2 28 #[.string x.nm, .slice P x.ps.length pm, .slice Q x.ks.length qm] ∧ NdAt wr (fun k => G k ∧ k < w.heap.size) x (.slice P x.ps.length pm) (.slice Q x.ks.length qm) ∧ Hid (R = followR x (L.drop i)) ∧ Arr wr g4 28 #[.string ⟨#[]⟩, .slice none 0 0, .slice none 0 0] ∧ Moved w2 wr (fun k => k = g2) (fun k => k = g2)) (fun iv _ => L.length - (intOf iv).toNat)
    case atStart => exact ⟨0, n, _, _, _, _, Nat.zero_le _, rfl, HA2.out, HN.out, HFO.out, HA4.out, Moved.refl _ _⟩
    case round =>
      clear HFO HA2 HN HA4
      obtain ⟨i, x, P, Q, pm, qm, hi, rfl, hA2, hN, HF, hA4, hM⟩ := hrel
      have HA2 := Lib.hid hA2
      have HA4 := Lib.hid hA4
      have HM := Lib.hid hM
      have HBW : Hid (Below w.heap.size w wr) := HB.out.trans (hM.below (fun k hk => by rw [hk]; exact HG2.out) HB.out.size)
      by_cases hlt : i < L.length
      · have hii : (i : Int) < L.length := by omega
        have hRT := HRT.out.kept HFAR.out hM (fun k hk => by rw [hk]; exact HG2L.out)
        obtain ⟨b, off, s, rfl, h1, HX⟩ := hRT.at_ hlt
        have hst := follow_step x L hlt
        rw [HX.out] at hst
        obtain ⟨o, ho⟩ : ∃ o, o = kidR x s := ⟨_, rfl⟩
        obtain ⟨y, hy⟩ : ∃ y, y = orN o := ⟨_, rfl⟩
        obtain ⟨bo, hbo⟩ : ∃ bo, bo = o.isSome := ⟨_, rfl⟩
        have HY := Lib.hid hy
        have HBO := Lib.hid hbo
        have HKD : Hid (Calls Tryz.prog 71 #[.agg #[.string x.nm, .slice P x.ps.length pm, .slice Q x.ks.length qm], .string s] wr fun e w' => ∃ u2 u3, e = .returned (.tuple #[.agg #[.string y.nm, u2, u3], .bool bo]) ∧ NdAt w' (fun k => G k ∧ k < w.heap.size) y u2 u3 ∧ Below wr.heap.size wr w') := by
          rw [hbo, hy, ho]
          exact kid_any (fun k => G k ∧ k < w.heap.size) x _ _ s wr hN
        rw [← ho] at hst
        have HST := Lib.hid hst
        clear hy hbo ho hA2 hN hA4 hM hRT HX hst
        go_wp2_with (refine wpList_load_row rfl 28 (.tmp 2) rfl g2 rfl _ _ _ _ HA2.out Tryz.underlying28 rfl (infoNd _ _ _) ?_)
        refine HKD.out.mono ?_
        rintro e w7 ⟨u2, u3, rfl, hk7, s1⟩
        obtain ⟨ua, ub, uc, ud, rfl, rfl, _⟩ := nd_shape hk7
        have HM2 := Lib.hid (HM.out.trans (Moved.of_below s1 (fun k => k = g2)))
        have HA22 := Lib.hid (HA2.out.below s1 HA2.out.lt)
        have HA42 := Lib.hid (HA4.out.below s1 HA4.out.lt)
        have HBX := Lib.hid (HBW.out.trans (s1.mono HBW.out.size))
        have HK7 := Lib.hid hk7
        clear HKD hk7 s1 h1 HA2 HA4 HM
        cases o with
        | none =>
          have HE : Hid (R = none) := by unfold Hid; rw [HF.out, HST.out]
          obtain rfl : bo = false := HBO.out
          have HA43 : Hid (Arr (w7.setRow g2 #[.string y.nm, .slice ua y.ps.length uc, .slice ub y.ks.length ud]) g4 28 #[.string ⟨#[]⟩, .slice none 0 0, .slice none 0 0]) := (moved_setRow _ g2 _).arr HA42.out hg24
          have HB3 : Hid (Below w.heap.size w (w7.setRow g2 #[.string y.nm, .slice ua y.ps.length uc, .slice ub y.ks.length ud])) := below_setRow HBX.out HG2.out _
          clear HST HY HBO HF HK7 HA42 HBX HM2
          go_wp2_with (first | (refine wpList_store_row rfl 28 (.tmp 2) (.tmp 28) rfl g2 #[.string y.nm, .slice ua y.ps.length uc, .slice ub y.ks.length ud] rfl rfl _ _ HA22.out (infoNd _ _ _) rfl (HONE.out _ _ _ _ _ _ _) ?_) | (refine wpList_store_row rfl 28 (.tmp 4) (.tmp 32) rfl g4 #[.string ⟨#[]⟩, .slice none 0 0, .slice none 0 0] rfl rfl _ _ HA43.out (infoNd _ _ _) rfl zl_one ?_))
          exact bodyPost_ret (results_rowN rfl _ _ g4 _ #[.string ⟨#[]⟩, .slice none 0 0, .slice none 0 0] _ _ rfl (HA43.out.row _) Tryz.underlying28 rfl (infoNd _ _ _)) rfl ⟨_, _, by rw [HE.out]; rfl, by rw [HE.out]; exact nd0_at _ _, below_setRow HB3.out HG4.out _⟩
        | some k =>
          have HE : Hid (R = followR k (L.drop (i + 1))) := by unfold Hid; rw [HF.out, HST.out]
          obtain rfl : bo = true := HBO.out
          obtain rfl : y = k := HY.out
          clear HST HY HBO HF
          go_wp2_with (refine wpList_store_row rfl 28 (.tmp 2) (.tmp 28) rfl g2 #[.string y.nm, .slice ua y.ps.length uc, .slice ub y.ks.length ud] rfl rfl _ _ HA22.out (infoNd _ _ _) rfl (HONE.out _ _ _ _ _ _ _) ?_)
          go_roundw
          case rel => exact ⟨i + 1, y, ua, ub, uc, ud, by omega, by go_num, HA22.out.row _, HK7.out.kept (moved_setRow _ g2 _) (fun k hk e => by have := hk.2; have := HG2.out; omega), HE.out, (moved_setRow _ g2 _).arr HA42.out hg24, HM2.out.trans (moved_setRow _ g2 _)⟩
          case measure => simp [intOf]; omega
      · obtain rfl : i = L.length := by omega
        have HE : Hid (R = some x) := by
          unfold Hid
          rw [HF.out, List.drop_length]
          rfl
        have HN := Lib.hid hN
        clear hN hA2 hA4 hM HF
        go_wp2_with (first | (refine wpList_load_row rfl 28 (.tmp 2) rfl g2 rfl _ _ _ _ HA2.out Tryz.underlying28 rfl (infoNd _ _ _) ?_) | (refine wpList_store_row rfl 28 (.tmp 4) (.tmp 34) rfl g4 #[.string x.nm, .slice P x.ps.length pm, .slice Q x.ks.length qm] rfl rfl _ _ HA4.out (infoNd _ _ _) rfl (HONE.out _ _ _ _ _ _ _) ?_))
        exact bodyPost_ret (results_rowN rfl _ _ g4 _ #[.string x.nm, .slice P x.ps.length pm, .slice Q x.ks.length qm] _ _ rfl (HA4.out.row _) Tryz.underlying28 rfl (infoNd _ _ _)) rfl ⟨_, _, by rw [HE.out]; rfl, by rw [HE.out]; exact (HN.out.kept (moved_setRow _ g4 _) (fun k hk e => by have := hk.2; have := HG4.out; omega)).mono (fun k hk => hk.1), below_setRow HBW.out HG4.out _⟩

end Go.Proofs.YtfcclppgjfkfoaaGreatDoor

/- Bytes cut at slashes, at most seven times: what package strings' cut is, in layer 16's plain words. No condition: nothing of the program stands in it. -/
namespace Go.Proofs.YtfcclppgjfkfoaaGreatDoor

theorem cut47 : ∀ l : List UInt8, (Lib.indexByte l 47 = -1 ∧ splitS l = [l]) ∨ ∃ i : Nat, Lib.indexByte l 47 = i ∧ i < l.length ∧ splitS l = l.take i :: splitS (l.drop (i + 1))
  | [] => .inl ⟨rfl, rfl⟩
  | b :: l => by
    by_cases hb : b = 47
    · right
      refine ⟨0, ?_, Nat.succ_pos _, ?_⟩
      · unfold Lib.indexByte
        rw [if_pos (beq_iff_eq.2 hb)]; rfl
      · rw [splitS, if_pos hb]; rfl
    · have hn : ¬ (b == 47) = true := fun e => hb (beq_iff_eq.1 e)
      have hs : splitS (b :: l) = (b :: (splitS l).headD []) :: (splitS l).tail := by rw [splitS, if_neg hb]
      rcases cut47 l with ⟨h1, h2⟩ | ⟨i, h1, h2, h3⟩
      · left
        refine ⟨?_, by rw [hs, h2]; rfl⟩
        unfold Lib.indexByte
        rw [if_neg hn, h1]; rfl
      · right
        refine ⟨i + 1, ?_, Nat.succ_lt_succ h2, by rw [hs, h3]; rfl⟩
        unfold Lib.indexByte
        have hm : ¬ ((i : Int) == -1) = true := fun e => by have := beq_iff_eq.1 e; omega
        rw [if_neg hn, h1, if_neg hm]; rfl
theorem split_len47 : ∀ l : List UInt8, (splitS l).length ≤ l.length + 1
  | [] => Nat.le_refl _
  | b :: l => by
    have h := split_len47 l
    have hp : 0 < (splitS l).length := List.length_pos_iff.2 (split_ne l)
    rw [splitS]
    split
    · rw [List.length_cons, List.length_cons]; omega
    · rw [List.length_cons, List.length_tail, List.length_cons]; omega
theorem splitK_few : ∀ (k : Nat) (l : List UInt8), (Lib.splitK [47] 0 k l).length = min (k + 1) (splitS l).length ∧ ((splitS l).length ≤ k + 1 → Lib.splitK [47] 0 k l = splitS l)
  | 0, l => by
    have hp : 0 < (splitS l).length := List.length_pos_iff.2 (split_ne l)
    refine ⟨?_, fun h => ?_⟩
    · show 1 = _
      omega
    · rcases cut47 l with ⟨_, h2⟩ | ⟨i, _, _, h3⟩
      · rw [h2]; rfl
      · have hq : 0 < (splitS (l.drop (i + 1))).length := List.length_pos_iff.2 (split_ne _)
        rw [h3, List.length_cons] at h
        omega
  | k + 1, l => by
    rcases cut47 l with ⟨h1, h2⟩ | ⟨i, h1, h2, h3⟩
    · have e : Lib.splitK [47] 0 (k + 1) l = [l] := by
        unfold Lib.splitK
        rw [Lib.index_one, h1]; rfl
      rw [e, h2]
      refine ⟨?_, fun _ => rfl⟩
      show 1 = min (k + 1 + 1) 1
      omega
    · have hm : ¬ ((i : Int) == -1) = true := fun e => by have := beq_iff_eq.1 e; omega
      have e : Lib.splitK [47] 0 (k + 1) l = l.take i :: Lib.splitK [47] 0 k (l.drop (i + 1)) := by
        show (if Lib.index l [47] == -1 then _ else _) = _
        rw [Lib.index_one, h1, if_neg hm]; rfl
      obtain ⟨g1, g2⟩ := splitK_few k (l.drop (i + 1))
      rw [e, h3]
      refine ⟨?_, fun h => ?_⟩
      · rw [List.length_cons, List.length_cons, g1]; omega
      · rw [List.length_cons] at h
        rw [g2 (by omega)]
/-- The names that are cut off, and the rest. -/
def cut8 (r : List UInt8) : List (List UInt8) := Lib.splitK [47] 0 (min 8 (r.length + 1) - 1) r
theorem cut8_few {r : List UInt8} (h : (cut8 r).length ≤ 7) : cut8 r = splitS r := by
  obtain ⟨h1, h2⟩ := splitK_few (min 8 (r.length + 1) - 1) r
  have hl := split_len47 r
  unfold cut8 at h ⊢
  exact h2 (by omega)
theorem cut8_many {r : List UInt8} (h : 7 < (cut8 r).length) : nmOk (splitS r) = false := by
  obtain ⟨h1, h2⟩ := splitK_few (min 8 (r.length + 1) - 1) r
  unfold cut8 at h
  cases e : nmOk (splitS r) with
  | false => rfl
  | true => have := (nmOk_iff.1 e).1; omega
theorem cut8_len (r : List UInt8) : (cut8 r).length ≤ 8 ∧ (cut8 r).length ≤ min 8 (r.length + 1) := by
  obtain ⟨h1, _⟩ := splitK_few (min 8 (r.length + 1) - 1) r
  have hl := split_len47 r
  unfold cut8
  omega
/-- An empty name among them. -/
theorem cut8_bad {r : List UInt8} (h : (cut8 r).length ≤ 7) (hc : Lib.containsS (baL (cut8 r)) ⟨#[]⟩ = true) : nmOk (splitS r) = false := by
  cases e : nmOk (splitS r) with
  | false => rfl
  | true =>
    have h1 := (nmOk_iff.1 e).2
    rw [cut8_few h, Lib.containsS_iff] at hc
    obtain ⟨x, hx, he⟩ := List.mem_map.1 hc
    have : x = [] := by
      have := congrArg (fun z : ByteArray => z.data.toList) he
      simpa using this
    exact absurd this (h1 x hx)
theorem cut8_good {r : List UInt8} (h : (cut8 r).length ≤ 7) (hc : Lib.containsS (baL (cut8 r)) ⟨#[]⟩ = false) : nmOk (splitS r) = true := by
  rw [cut8_few h] at hc h
  refine nmOk_iff.2 ⟨h, fun x hx e => ?_⟩
  have : Lib.containsS (baL (splitS r)) ⟨#[]⟩ = true := (Lib.containsS_iff _ _).2 (List.mem_map.2 ⟨x, hx, by rw [e]⟩)
  rw [hc] at this
  cases this
theorem splitB_ba47 (k : Nat) (s : ByteArray) : Lib.splitB ⟨#[47]⟩ 0 k s = baL (Lib.splitK [47] 0 k s.data.toList) := by
  have h := Lib.splitB_data ⟨#[47]⟩ 0 k s
  have h2 : (ByteArray.mk #[47]).data.toList = [47] := rfl
  rw [h2] at h
  rw [← h]
  unfold baL
  rw [List.map_map]
  exact (List.map_id _).symm.trans (List.map_congr_left fun x _ => rfl)
theorem splitB_cut8 (s : ByteArray) : Lib.splitB ⟨#[47]⟩ 0 (min 8 (s.size + 1) - 1) s = baL (cut8 s.data.toList) := splitB_ba47 _ s
/-- Names joined by slashes, and one slash ahead. -/
theorem join47 (l : List ByteArray) : (47 :: Lib.join (l.map (·.data.toList)) [47]) = joinB l := by
  unfold joinB
  by_cases h : l = []
  · rw [if_pos h, h]; rfl
  · rw [if_neg h]
    cases l with
    | nil => exact absurd rfl h
    | cons x r =>
      rw [List.map_cons, Lib.join_cons, List.flatMap_cons]
      have e : Lib.joinTail [47] (r.map (·.data.toList)) = r.flatMap fun x => 47 :: x.data.toList := by
        unfold Lib.joinTail
        rw [List.map_map, List.flatMap_def]; rfl
      rw [e]; rfl
theorem joinB_len {b : Nat} : ∀ {l : List ByteArray}, (∀ k, k < l.length → (l.getD k ByteArray.empty).size ≤ b) → (l.flatMap fun x => 47 :: x.data.toList).length ≤ l.length * (b + 1)
  | [], _ => Nat.zero_le _
  | x :: r, h => by
    have h0 : x.data.toList.length ≤ b := h 0 (Nat.succ_pos _)
    have h1 := joinB_len (l := r) (b := b) fun k hk => h (k + 1) (Nat.succ_lt_succ hk)
    rw [List.flatMap_cons, List.length_append, List.length_cons, List.length_cons, Nat.succ_mul]
    omega
end Go.Proofs.YtfcclppgjfkfoaaGreatDoor
