/- What package path's Kid and Value return, for any tree that is read. No condition on the tree. -/
import Derived.Test.YtjphecfkjpfkeaaDoorMg32
namespace Go.Proofs.YtjphecfkjpfkeaaDoor
open Go.RowKit

set_option maxHeartbeats 1600000 in
set_option maxRecDepth 100000 in
theorem kid_any (G : Nat → Prop) (n : ND) (v2 v3 : Value) (nm : ByteArray) (w : World) (hN : NdAt w G n v2 v3) :
    Calls Tryd.prog 16 #[.agg #[.string n.nm, v2, v3], .string nm] w fun e w' => ∃ u2 u3, e = .returned (.tuple #[.agg #[.string (orN (kidR n nm)).nm, u2, u3], .bool (kidR n nm).isSome]) ∧ NdAt w' G (orN (kidR n nm)) u2 u3 ∧ Below w.heap.size w w' := by
  obtain ⟨A, K, pc, kc, rfl, rfl, hpc, hpm, hkc, hkm⟩ := nd_shape hN
  unfold maxLen at hpm hkm
  have HHIT : Hid (∀ k, k < n.ks.length → (∀ j, j < k → decide ((n.ks.getD j nd0).nm = nm) = false) → decide ((n.ks.getD k nd0).nm = nm) = true → kidR n nm = some (n.ks.getD k nd0)) := fun k hk hj h => find_take (f := fun x : ND => decide (x.nm = nm)) (d := nd0) hk hj h
  have HNO : Hid ((∀ j, j < n.ks.length → decide ((n.ks.getD j nd0).nm = nm) = false) → kidR n nm = none) := fun h => find_none (f := fun x : ND => decide (x.nm = nm)) (d := nd0) h
  generalize kidR n nm = R at *
  obtain ⟨W1, hW1⟩ : ∃ W1, W1 = (w.alloc (.cells #[.string n.nm, .slice A n.ps.length pc, .slice K n.ks.length kc] 34)).alloc (.cells #[.string ⟨#[]⟩, .slice none 0 0, .slice none 0 0] 34) := ⟨_, rfl⟩
  obtain ⟨g2, hg2⟩ : ∃ g2, g2 = w.heap.size := ⟨_, rfl⟩
  obtain ⟨g4, hg4⟩ : ∃ g4, g4 = w.heap.size + 1 := ⟨_, rfl⟩
  have hB1 : Below w.heap.size w W1 := by rw [hW1]; exact ((Below.refl _ _).alloc (Nat.le_refl _) _).alloc (by rw [sz_alloc]; omega) _
  have hA2 : Arr W1 g2 34 #[.string n.nm, .slice A n.ps.length pc, .slice K n.ks.length kc] := by rw [hW1, hg2]; exact (Arr.new w _ _).alloc _
  have hA4 : Arr W1 g4 34 #[.string ⟨#[]⟩, .slice none 0 0, .slice none 0 0] := by rw [hW1, hg4]; exact Arr.new1 w _ _ _
  have HN := Lib.hid (nd_below (nd_and hN) hB1)
  have HA4 := Lib.hid hA4
  have HB := Lib.hid hB1
  have HG4 : Hid (w.heap.size ≤ g4) := by unfold Hid; omega
  have k2 : W1.cell? ⟨g2, 2, none⟩ = some (.slice K n.ks.length kc) := hA2.cell 2
  clear hN hB1 hA2 hA4
  go_enter Tryd.func16, Tryd.ntmps16
  go_upto_region 1 with fail
  change Code.wp _ _ _ _ ((w.alloc (.cells #[.string n.nm, .slice A n.ps.length pc, .slice K n.ks.length kc] 34)).alloc (.cells #[.string ⟨#[]⟩, .slice none 0 0, .slice none 0 0] 34))
  rw [← hW1, ← hg4, ← hg2]
  clear hW1 hg4 hg2
  go_wp2
  go_loopw [11] (fun iv wr => ∃ i : Nat, i ≤ n.ks.length ∧ iv = .int .i64 i ∧ Hid (∀ j, j < i → decide ((n.ks.getD j nd0).nm = nm) = false) ∧ Below W1.heap.size W1 wr) (fun iv _ => n.ks.length - (intOf iv).toNat)
  case atStart => exact ⟨0, Nat.zero_le _, rfl, (fun j h => absurd h (Nat.not_lt_zero _)), Below.refl _ _⟩
  case round =>
    obtain ⟨i, hi, rfl, HJ, hb⟩ := hrel
    have HBR := Lib.hid hb
    by_cases hlt : i < n.ks.length
    · have hii : (i : Int) < n.ks.length := by omega
      obtain ⟨b, off, x, y, z, rfl, h1, h2, h3, h4, HX⟩ := nd_kid (nd_below HN.out hb) hlt
      obtain ⟨ya, za, yc, zc, rfl, rfl, _⟩ := nd_shape h4
      obtain ⟨W2, hW2⟩ : ∃ W2, W2 = wr.alloc (.cells #[.string x.nm, .slice ya x.ps.length yc, .slice za x.ks.length zc] 34) := ⟨_, rfl⟩
      obtain ⟨g7, hg7⟩ : ∃ g7, g7 = wr.heap.size := ⟨_, rfl⟩
      have hb2 : Below wr.heap.size wr W2 := by rw [hW2]; exact (Below.refl _ _).alloc (Nat.le_refl _) _
      have hA7 : Arr W2 g7 34 #[.string x.nm, .slice ya x.ps.length yc, .slice za x.ks.length zc] := by rw [hW2, hg7]; exact Arr.new wr _ _
      have k7 : W2.cell? ⟨g7, 0, none⟩ = some (.string x.nm) := hA7.cell 0
      have hB2 : Below W1.heap.size W1 W2 := hb.trans (hb2.mono hb.size)
      have HA7 := Lib.hid hA7
      have HB2 := Lib.hid hB2
      have HA42 := Lib.hid (HA4.out.below hB2 HA4.out.lt)
      have HH := Lib.hid (nd_below h4 hb2)
      clear hb hb2 hA7 hB2 h4
      go_upto_region 4 with fail
      rw [← hW2, ← hg7]
      clear hW2 hg7 h1 h2 h3
      by_cases he : x.nm = nm
      · have d1 : (x.nm.toList == nm.toList) = true := by rw [he]; simp
        have HE : Hid (R = some x) := by
          have := HHIT.out i hlt HJ.out (by rw [HX.out]; exact decide_eq_true he)
          rw [HX.out] at this
          exact this
        have HONE : Hid ((#[.string x.nm, .slice ya x.ps.length yc, .slice za x.ks.length zc] : Array Value).all (·.oneCell') = true) := by
          unfold Hid
          rw [Array.all_eq_true_iff_forall_mem]
          intro v hv
          simp at hv
          rcases hv with rfl | rfl | rfl <;> rfl
        have HND : Hid (NdAt (W2.setRow g4 #[.string x.nm, .slice ya x.ps.length yc, .slice za x.ks.length zc]) G x (.slice ya x.ps.length yc) (.slice za x.ks.length zc)) :=
          (HH.out.kept (moved_setRow W2 g4 _) (fun k hk e => by have := hk.2; have := HG4.out; omega)).mono (fun k hk => hk.1)
        have HBF : Hid (Below w.heap.size w (W2.setRow g4 #[.string x.nm, .slice ya x.ps.length yc, .slice za x.ks.length zc])) := below_setRow (HB.out.trans (HB2.out.mono HB.out.size)) HG4.out _
        clear he HX HJ HHIT HNO HN HH HBR HB2 HA4
        go_wp2_with (first | (refine wpList_load_row rfl 34 (.tmp 7) rfl g7 rfl _ _ _ _ HA7.out Tryd.underlying34 rfl (infoNd _ _ _) ?_) | (refine wpList_store_row rfl 34 (.tmp 4) (.tmp 19) rfl g4 #[.string x.nm, .slice ya x.ps.length yc, .slice za x.ks.length zc] rfl rfl _ _ HA42.out (infoNd _ _ _) rfl HONE.out ?_))
        exact bodyPost_ret (results_rowN rfl _ _ g4 _ #[.string x.nm, .slice ya x.ps.length yc, .slice za x.ks.length zc] _ _ rfl (HA42.out.row _) Tryd.underlying34 rfl (infoNd _ _ _)) rfl ⟨_, _, by rw [HE.out]; rfl, by rw [HE.out]; exact HND.out, HBF.out⟩
      · have d1 : (x.nm.toList == nm.toList) = false := by simpa using str_ne12 he
        have HJ1 : Hid (∀ j, j < i + 1 → decide ((n.ks.getD j nd0).nm = nm) = false) := fun j hj => by
          by_cases e : j = i
          · rw [e, HX.out]; exact decide_eq_false he
          · exact HJ.out j (by omega)
        clear he HX HJ HH HA42 HA7 HBR
        go_wp2
        go_roundw
        case rel => exact ⟨i + 1, by omega, by go_num, HJ1.out, HB2.out⟩
        case measure => simp [intOf]; omega
    · obtain rfl : i = n.ks.length := by omega
      have HE : Hid (R = none) := HNO.out HJ.out
      have HA4R := Lib.hid (HA4.out.below hb HA4.out.lt)
      have HBF := Lib.hid (HB.out.trans (hb.mono HB.out.size))
      clear HJ HHIT HNO HN hb HBR HA4 HB
      go_wp2_with (refine wpList_store_row rfl 34 (.tmp 4) (.tmp 21) rfl g4 #[.string ⟨#[]⟩, .slice none 0 0, .slice none 0 0] rfl rfl _ _ HA4R.out (infoNd _ _ _) rfl zl_one ?_)
      exact bodyPost_ret (results_rowN rfl _ _ g4 _ #[.string ⟨#[]⟩, .slice none 0 0, .slice none 0 0] _ _ rfl (HA4R.out.row _) Tryd.underlying34 rfl (infoNd _ _ _)) rfl ⟨_, _, by rw [HE.out]; rfl, by rw [HE.out]; exact nd0_at _ _, below_setRow HBF.out HG4.out _⟩

set_option maxHeartbeats 1600000 in
set_option maxRecDepth 100000 in
theorem pvalue_any (G : Nat → Prop) (n : ND) (v2 v3 : Value) (nm : ByteArray) (w : World) (hN : NdAt w G n v2 v3) :
    Calls Tryd.prog 19 #[.agg #[.string n.nm, v2, v3], .string nm] w fun e w' => e = .returned (.tuple #[.string ((valR n nm).getD ⟨#[]⟩), .bool (valR n nm).isSome]) ∧ Below w.heap.size w w' := by
  obtain ⟨A, K, pc, kc, rfl, rfl, hpc, hpm, hkc, hkm⟩ := nd_shape hN
  unfold maxLen at hpm hkm
  have HHIT : Hid (∀ k, k < n.ps.length → (∀ j, j < k → decide ((n.ps.getD j pr0).nm = nm) = false) → decide ((n.ps.getD k pr0).nm = nm) = true → valR n nm = some (n.ps.getD k pr0).vl) := fun k hk hj h => by
    unfold valR; rw [find_take (f := fun x : PR => decide (x.nm = nm)) (d := pr0) hk hj h]; rfl
  have HNO : Hid ((∀ j, j < n.ps.length → decide ((n.ps.getD j pr0).nm = nm) = false) → valR n nm = none) := fun h => by
    unfold valR; rw [find_none (f := fun x : PR => decide (x.nm = nm)) (d := pr0) h]; rfl
  generalize valR n nm = R at *
  obtain ⟨W1, hW1⟩ : ∃ W1, W1 = w.alloc (.cells #[.string n.nm, .slice A n.ps.length pc, .slice K n.ks.length kc] 34) := ⟨_, rfl⟩
  obtain ⟨g2, hg2⟩ : ∃ g2, g2 = w.heap.size := ⟨_, rfl⟩
  have hB1 : Below w.heap.size w W1 := by rw [hW1]; exact (Below.refl _ _).alloc (Nat.le_refl _) _
  have hA2 : Arr W1 g2 34 #[.string n.nm, .slice A n.ps.length pc, .slice K n.ks.length kc] := by rw [hW1, hg2]; exact Arr.new w _ _
  have HN := Lib.hid (nd_below hN hB1)
  have HB := Lib.hid hB1
  have k1 : W1.cell? ⟨g2, 1, none⟩ = some (.slice A n.ps.length pc) := hA2.cell 1
  clear hN hB1 hA2
  go_enter Tryd.func19, Tryd.ntmps19
  go_upto_region 1 with fail
  rw [← hW1, ← hg2]
  clear hW1 hg2
  go_wp2
  go_loopw [11] (fun iv wr => ∃ i : Nat, i ≤ n.ps.length ∧ iv = .int .i64 i ∧ Hid (∀ j, j < i → decide ((n.ps.getD j pr0).nm = nm) = false) ∧ Below W1.heap.size W1 wr) (fun iv _ => n.ps.length - (intOf iv).toNat)
  case atStart => exact ⟨0, Nat.zero_le _, rfl, (fun j h => absurd h (Nat.not_lt_zero _)), Below.refl _ _⟩
  case round =>
    obtain ⟨i, hi, rfl, HJ, hb⟩ := hrel
    by_cases hlt : i < n.ps.length
    · have hii : (i : Int) < n.ps.length := by omega
      obtain ⟨b, off, x, rfl, ⟨h1, h2⟩, HX⟩ := nd_prop (nd_below HN.out hb) hlt
      obtain ⟨W2, hW2⟩ : ∃ W2, W2 = wr.alloc (.cells #[.string x.nm, .string x.vl] 51) := ⟨_, rfl⟩
      obtain ⟨g7, hg7⟩ : ∃ g7, g7 = wr.heap.size := ⟨_, rfl⟩
      have hb2 : Below wr.heap.size wr W2 := by rw [hW2]; exact (Below.refl _ _).alloc (Nat.le_refl _) _
      have hA7 : Arr W2 g7 51 #[.string x.nm, .string x.vl] := by rw [hW2, hg7]; exact Arr.new wr _ _
      have k7 : W2.cell? ⟨g7, 0, none⟩ = some (.string x.nm) := hA7.cell 0
      have k8 : W2.cell? ⟨g7, 1, none⟩ = some (.string x.vl) := hA7.cell 1
      have hB2 : Below W1.heap.size W1 W2 := hb.trans (hb2.mono hb.size)
      have HB2 := Lib.hid hB2
      have HBF := Lib.hid (HB.out.trans (hB2.mono HB.out.size))
      clear hb hb2 hA7 hB2
      go_upto_region 4 with fail
      rw [← hW2, ← hg7]
      clear hW2 hg7 h1 h2
      by_cases he : x.nm = nm
      · have d1 : (x.nm.toList == nm.toList) = true := by rw [he]; simp
        have HE : Hid (R = some x.vl) := by
          have := HHIT.out i hlt HJ.out (by rw [HX.out]; exact decide_eq_true he)
          rw [HX.out] at this
          exact this
        clear he HX HJ HHIT HNO HN
        go_wp2
        go_ret2
        exact ⟨by rw [HE.out]; rfl, HBF.out⟩
      · have d1 : (x.nm.toList == nm.toList) = false := by simpa using str_ne12 he
        have HJ1 : Hid (∀ j, j < i + 1 → decide ((n.ps.getD j pr0).nm = nm) = false) := fun j hj => by
          by_cases e : j = i
          · rw [e, HX.out]; exact decide_eq_false he
          · exact HJ.out j (by omega)
        clear he HX HJ
        go_wp2
        go_roundw
        case rel => exact ⟨i + 1, by omega, by go_num, HJ1.out, HB2.out⟩
        case measure => simp [intOf]; omega
    · obtain rfl : i = n.ps.length := by omega
      have HE : Hid (R = none) := HNO.out HJ.out
      have HBF := Lib.hid (HB.out.trans (hb.mono HB.out.size))
      clear HJ HHIT HNO HN hb
      go_wp2
      go_ret2
      exact ⟨by rw [HE.out]; rfl, HBF.out⟩
end Go.Proofs.YtjphecfkjpfkeaaDoor
