/- edit's Set, Unset and Add. Conditions: a tree of few parts that is read; paths and names of at most 10^6 bytes. -/
import Derived.Test.YtfcclppgjfkfoaaGreatDoorMg30
import Derived.Test.YtfcclppgjfkfoaaGreatDoorMg32
namespace Go.Proofs.YtfcclppgjfkfoaaGreatDoor
open Go.RowKit

set_option maxHeartbeats 1600000 in
set_option maxRecDepth 100000 in
theorem eset_any (G : Nat → Prop) (n : ND) (y z : Value) (p nm vl : ByteArray) (w : World) (hs : SzT n) (hp : p.size ≤ 1000000) (hm : nm.size ≤ 1000000) (hN : NdAt w G n y z) :
    Calls Tryz.prog 18 #[.agg #[.string n.nm, y, z], .string p, .string nm, .string vl] w (Ed G (doR17 n p.data.toList ⟨1, nm, vl⟩) w) := by
  obtain ⟨A2, K, pc, kc, rfl, rfl, hpc, hpm, hkc, hkm⟩ := nd_shape hN
  obtain ⟨W1, hW1⟩ : ∃ W1, W1 = (((w.alloc (.cells #[.string n.nm, .slice A2 n.ps.length pc, .slice K n.ks.length kc] 28)).alloc (.cells #[.string nm] 9)).alloc (.cells #[.string vl] 9)).alloc (.cells #[.string ⟨#[]⟩, .slice none 0 0, .slice none 0 0] 28) := ⟨_, rfl⟩
  obtain ⟨g4, hg4⟩ : ∃ g4, g4 = w.heap.size := ⟨_, rfl⟩
  obtain ⟨g6, hg6⟩ : ∃ g6, g6 = w.heap.size + 1 := ⟨_, rfl⟩
  obtain ⟨g7, hg7⟩ : ∃ g7, g7 = w.heap.size + 1 + 1 := ⟨_, rfl⟩
  obtain ⟨g8, hg8⟩ : ∃ g8, g8 = w.heap.size + 1 + 1 + 1 := ⟨_, rfl⟩
  have hB1 : Below w.heap.size w W1 := by rw [hW1]; exact ((((Below.refl _ _).alloc (Nat.le_refl _) _).alloc (by simp only [sz_alloc]; omega) _).alloc (by simp only [sz_alloc]; omega) _).alloc (by simp only [sz_alloc]; omega) _
  have hA4 : Arr W1 g4 28 #[.string n.nm, .slice A2 n.ps.length pc, .slice K n.ks.length kc] := by rw [hW1, hg4]; exact (((Arr.new w _ _).alloc _).alloc _).alloc _
  have hA6 : Arr W1 g6 9 #[.string nm] := by rw [hW1, hg6]; exact ((Arr.new1 w _ _ _).alloc _).alloc _
  have hA7 : Arr W1 g7 9 #[.string vl] := by rw [hW1, hg7]; exact (Arr.new2 w _ _ _ _).alloc _
  have hA8 : Arr W1 g8 28 #[.string ⟨#[]⟩, .slice none 0 0, .slice none 0 0] := by
    rw [hW1, hg8]
    have h := Arr.new ((((w.alloc (.cells #[.string n.nm, .slice A2 n.ps.length pc, .slice K n.ks.length kc] 28)).alloc (.cells #[.string nm] 9)).alloc (.cells #[.string vl] 9))) 28 #[.string ⟨#[]⟩, .slice none 0 0, .slice none 0 0]
    simp only [sz_alloc] at h
    exact h
  have HG8 : Hid (w.heap.size ≤ g8) := by unfold Hid; omega
  have HL8 := Lib.hid hA8.lt
  have HB1 := Lib.hid hB1
  have HA8 := Lib.hid hA8
  have HC := Lib.hid (changed_any _ n _ _ (.func (.func 43) #[] #[.pointer (some ⟨g6, 0, none⟩), .pointer (some ⟨g7, 0, none⟩)]) p ⟨1, nm, vl⟩ W1 hs hp (set_ok W1 g6 g7 nm vl hA6 hA7 (by unfold maxLen; omega)) (nd_below (nd_and hN) hB1))
  obtain ⟨c40, c41, c42⟩ : W1.cell? ⟨g4, 0, none⟩ = some (.string n.nm) ∧ W1.cell? ⟨g4, 1, none⟩ = some (.slice A2 n.ps.length pc) ∧ W1.cell? ⟨g4, 2, none⟩ = some (.slice K n.ks.length kc) := ⟨hA4.cell 0, hA4.cell 1, hA4.cell 2⟩
  generalize doR17 n p.data.toList ⟨1, nm, vl⟩ = T at *
  clear hN hA4 hA6 hA7 hA8 hB1 hpc hkc hp hs hm
  go_enter Tryz.func18, Tryz.ntmps18
  go_upto_region 1 with fail
  change Code.wp _ _ _ _ ((((w.alloc (.cells #[.string n.nm, .slice A2 n.ps.length pc, .slice K n.ks.length kc] 28)).alloc (.cells #[.string nm] 9)).alloc (.cells #[.string vl] 9)).alloc (.cells #[.string ⟨#[]⟩, .slice none 0 0, .slice none 0 0] 28))
  rw [← hW1, ← hg8, ← hg7, ← hg6, ← hg4]
  clear hW1 hg4 hg6 hg7 hg8
  go_wp2_with fail
  refine HC.out.mono ?_
  rintro e w3 ⟨u2, u3, rfl, hk, hb⟩
  obtain ⟨ua, ub, uc, ud, rfl, rfl, _⟩ := nd_shape hk
  have HA8 := Lib.hid (HA8.out.below hb HA8.out.lt)
  have HND : Hid (NdAt (w3.setRow g8 #[.string T.1.nm, .slice ua T.1.ps.length uc, .slice ub T.1.ks.length ud]) (OrNew G w.heap.size) T.1 (.slice ua T.1.ps.length uc) (.slice ub T.1.ks.length ud)) := by
    have h5 := HG8.out
    have h6 := HL8.out
    have h7 := HB1.out.size
    exact (hk.kept (moved_setRow w3 g8 _) (fun k hk e => by rcases hk with hk | hk <;> omega)).mono fun k hk => hk.imp (fun h => h.1) (fun h => Nat.le_trans h7 h)
  have HBF := Lib.hid (below_setRow (HB1.out.trans (hb.mono HB1.out.size)) HG8.out #[.string T.1.nm, .slice ua T.1.ps.length uc, .slice ub T.1.ks.length ud])
  clear hk hb c40 c41 c42 HC
  go_wp2_with (refine wpList_store_row rfl 28 (.tmp 8) (.tmp 14) rfl g8 #[.string T.1.nm, .slice ua T.1.ps.length uc, .slice ub T.1.ks.length ud] rfl rfl _ _ HA8.out (infoNd _ _ _) rfl (nd_one _ _ _ _ _ _ _) ?_)
  exact bodyPost_ret (results_rowN rfl _ _ g8 _ #[.string T.1.nm, .slice ua T.1.ps.length uc, .slice ub T.1.ks.length ud] _ _ rfl (HA8.out.row _) Tryz.underlying28 rfl (infoNd _ _ _)) rfl ⟨_, _, rfl, HND.out, HBF.out⟩

set_option maxHeartbeats 1600000 in
set_option maxRecDepth 100000 in
theorem eunset_any (G : Nat → Prop) (n : ND) (y z : Value) (p nm : ByteArray) (w : World) (hs : SzT n) (hp : p.size ≤ 1000000) (hN : NdAt w G n y z) :
    Calls Tryz.prog 19 #[.agg #[.string n.nm, y, z], .string p, .string nm] w (Ed G (doR17 n p.data.toList ⟨2, nm, ⟨#[]⟩⟩) w) := by
  obtain ⟨A2, K, pc, kc, rfl, rfl, hpc, hpm, hkc, hkm⟩ := nd_shape hN
  obtain ⟨W1, hW1⟩ : ∃ W1, W1 = ((w.alloc (.cells #[.string n.nm, .slice A2 n.ps.length pc, .slice K n.ks.length kc] 28)).alloc (.cells #[.string nm] 9)).alloc (.cells #[.string ⟨#[]⟩, .slice none 0 0, .slice none 0 0] 28) := ⟨_, rfl⟩
  obtain ⟨g4, hg4⟩ : ∃ g4, g4 = w.heap.size := ⟨_, rfl⟩
  obtain ⟨g6, hg6⟩ : ∃ g6, g6 = w.heap.size + 1 := ⟨_, rfl⟩
  obtain ⟨g8, hg8⟩ : ∃ g8, g8 = w.heap.size + 1 + 1 := ⟨_, rfl⟩
  have hB1 : Below w.heap.size w W1 := by rw [hW1]; exact (((Below.refl _ _).alloc (Nat.le_refl _) _).alloc (by simp only [sz_alloc]; omega) _).alloc (by simp only [sz_alloc]; omega) _
  have hA4 : Arr W1 g4 28 #[.string n.nm, .slice A2 n.ps.length pc, .slice K n.ks.length kc] := by rw [hW1, hg4]; exact ((Arr.new w _ _).alloc _).alloc _
  have hA6 : Arr W1 g6 9 #[.string nm] := by rw [hW1, hg6]; exact (Arr.new1 w _ _ _).alloc _
  have hA8 : Arr W1 g8 28 #[.string ⟨#[]⟩, .slice none 0 0, .slice none 0 0] := by
    rw [hW1, hg8]
    have h := Arr.new (((w.alloc (.cells #[.string n.nm, .slice A2 n.ps.length pc, .slice K n.ks.length kc] 28)).alloc (.cells #[.string nm] 9))) 28 #[.string ⟨#[]⟩, .slice none 0 0, .slice none 0 0]
    simp only [sz_alloc] at h
    exact h
  have HG8 : Hid (w.heap.size ≤ g8) := by unfold Hid; omega
  have HL8 := Lib.hid hA8.lt
  have HB1 := Lib.hid hB1
  have HA8 := Lib.hid hA8
  have HC := Lib.hid (changed_any _ n _ _ (.func (.func 46) #[] #[.pointer (some ⟨g6, 0, none⟩)]) p ⟨2, nm, ⟨#[]⟩⟩ W1 hs hp (unset_ok W1 g6 nm (hA6.cell 0)) (nd_below (nd_and hN) hB1))
  obtain ⟨c40, c41, c42⟩ : W1.cell? ⟨g4, 0, none⟩ = some (.string n.nm) ∧ W1.cell? ⟨g4, 1, none⟩ = some (.slice A2 n.ps.length pc) ∧ W1.cell? ⟨g4, 2, none⟩ = some (.slice K n.ks.length kc) := ⟨hA4.cell 0, hA4.cell 1, hA4.cell 2⟩
  generalize doR17 n p.data.toList ⟨2, nm, ⟨#[]⟩⟩ = T at *
  clear hN hA4 hA6 hA8 hB1 hpc hkc hp hs
  go_enter Tryz.func19, Tryz.ntmps19
  go_upto_region 1 with fail
  change Code.wp _ _ _ _ (((w.alloc (.cells #[.string n.nm, .slice A2 n.ps.length pc, .slice K n.ks.length kc] 28)).alloc (.cells #[.string nm] 9)).alloc (.cells #[.string ⟨#[]⟩, .slice none 0 0, .slice none 0 0] 28))
  rw [← hW1, ← hg8, ← hg6, ← hg4]
  clear hW1 hg4 hg6 hg8
  go_wp2_with fail
  refine HC.out.mono ?_
  rintro e w3 ⟨u2, u3, rfl, hk, hb⟩
  obtain ⟨ua, ub, uc, ud, rfl, rfl, _⟩ := nd_shape hk
  have HA8 := Lib.hid (HA8.out.below hb HA8.out.lt)
  have HND : Hid (NdAt (w3.setRow g8 #[.string T.1.nm, .slice ua T.1.ps.length uc, .slice ub T.1.ks.length ud]) (OrNew G w.heap.size) T.1 (.slice ua T.1.ps.length uc) (.slice ub T.1.ks.length ud)) := by
    have h5 := HG8.out
    have h6 := HL8.out
    have h7 := HB1.out.size
    exact (hk.kept (moved_setRow w3 g8 _) (fun k hk e => by rcases hk with hk | hk <;> omega)).mono fun k hk => hk.imp (fun h => h.1) (fun h => Nat.le_trans h7 h)
  have HBF := Lib.hid (below_setRow (HB1.out.trans (hb.mono HB1.out.size)) HG8.out #[.string T.1.nm, .slice ua T.1.ps.length uc, .slice ub T.1.ks.length ud])
  clear hk hb c40 c41 c42 HC
  go_wp2_with (refine wpList_store_row rfl 28 (.tmp 6) (.tmp 12) rfl g8 #[.string T.1.nm, .slice ua T.1.ps.length uc, .slice ub T.1.ks.length ud] rfl rfl _ _ HA8.out (infoNd _ _ _) rfl (nd_one _ _ _ _ _ _ _) ?_)
  exact bodyPost_ret (results_rowN rfl _ _ g8 _ #[.string T.1.nm, .slice ua T.1.ps.length uc, .slice ub T.1.ks.length ud] _ _ rfl (HA8.out.row _) Tryz.underlying28 rfl (infoNd _ _ _)) rfl ⟨_, _, rfl, HND.out, HBF.out⟩

set_option maxHeartbeats 1600000 in
set_option maxRecDepth 100000 in
theorem eadd_any (G : Nat → Prop) (n : ND) (y z : Value) (p nm : ByteArray) (w : World) (hs : SzT n) (hp : p.size ≤ 1000000) (hm : nm.size ≤ 1000000) (hN : NdAt w G n y z) :
    Calls Tryz.prog 20 #[.agg #[.string n.nm, y, z], .string p, .string nm] w (Ed G (doR17 n p.data.toList ⟨3, nm, ⟨#[]⟩⟩) w) := by
  obtain ⟨A2, K, pc, kc, rfl, rfl, hpc, hpm, hkc, hkm⟩ := nd_shape hN
  obtain ⟨W1, hW1⟩ : ∃ W1, W1 = ((w.alloc (.cells #[.string n.nm, .slice A2 n.ps.length pc, .slice K n.ks.length kc] 28)).alloc (.cells #[.string nm] 9)).alloc (.cells #[.string ⟨#[]⟩, .slice none 0 0, .slice none 0 0] 28) := ⟨_, rfl⟩
  obtain ⟨g4, hg4⟩ : ∃ g4, g4 = w.heap.size := ⟨_, rfl⟩
  obtain ⟨g6, hg6⟩ : ∃ g6, g6 = w.heap.size + 1 := ⟨_, rfl⟩
  obtain ⟨g8, hg8⟩ : ∃ g8, g8 = w.heap.size + 1 + 1 := ⟨_, rfl⟩
  have hB1 : Below w.heap.size w W1 := by rw [hW1]; exact (((Below.refl _ _).alloc (Nat.le_refl _) _).alloc (by simp only [sz_alloc]; omega) _).alloc (by simp only [sz_alloc]; omega) _
  have hA4 : Arr W1 g4 28 #[.string n.nm, .slice A2 n.ps.length pc, .slice K n.ks.length kc] := by rw [hW1, hg4]; exact ((Arr.new w _ _).alloc _).alloc _
  have hA6 : Arr W1 g6 9 #[.string nm] := by rw [hW1, hg6]; exact (Arr.new1 w _ _ _).alloc _
  have hA8 : Arr W1 g8 28 #[.string ⟨#[]⟩, .slice none 0 0, .slice none 0 0] := by
    rw [hW1, hg8]
    have h := Arr.new (((w.alloc (.cells #[.string n.nm, .slice A2 n.ps.length pc, .slice K n.ks.length kc] 28)).alloc (.cells #[.string nm] 9))) 28 #[.string ⟨#[]⟩, .slice none 0 0, .slice none 0 0]
    simp only [sz_alloc] at h
    exact h
  have HG8 : Hid (w.heap.size ≤ g8) := by unfold Hid; omega
  have HL8 := Lib.hid hA8.lt
  have HB1 := Lib.hid hB1
  have HA8 := Lib.hid hA8
  have HC := Lib.hid (changed_any _ n _ _ (.func (.func 48) #[] #[.pointer (some ⟨g6, 0, none⟩)]) p ⟨3, nm, ⟨#[]⟩⟩ W1 hs hp (add_ok W1 g6 nm ⟨#[]⟩ hA6 (by unfold maxLen; omega)) (nd_below (nd_and hN) hB1))
  obtain ⟨c40, c41, c42⟩ : W1.cell? ⟨g4, 0, none⟩ = some (.string n.nm) ∧ W1.cell? ⟨g4, 1, none⟩ = some (.slice A2 n.ps.length pc) ∧ W1.cell? ⟨g4, 2, none⟩ = some (.slice K n.ks.length kc) := ⟨hA4.cell 0, hA4.cell 1, hA4.cell 2⟩
  generalize doR17 n p.data.toList ⟨3, nm, ⟨#[]⟩⟩ = T at *
  clear hN hA4 hA6 hA8 hB1 hpc hkc hp hs hm
  go_enter Tryz.func20, Tryz.ntmps20
  go_upto_region 1 with fail
  change Code.wp _ _ _ _ (((w.alloc (.cells #[.string n.nm, .slice A2 n.ps.length pc, .slice K n.ks.length kc] 28)).alloc (.cells #[.string nm] 9)).alloc (.cells #[.string ⟨#[]⟩, .slice none 0 0, .slice none 0 0] 28))
  rw [← hW1, ← hg8, ← hg6, ← hg4]
  clear hW1 hg4 hg6 hg8
  go_wp2_with fail
  refine HC.out.mono ?_
  rintro e w3 ⟨u2, u3, rfl, hk, hb⟩
  obtain ⟨ua, ub, uc, ud, rfl, rfl, _⟩ := nd_shape hk
  have HA8 := Lib.hid (HA8.out.below hb HA8.out.lt)
  have HND : Hid (NdAt (w3.setRow g8 #[.string T.1.nm, .slice ua T.1.ps.length uc, .slice ub T.1.ks.length ud]) (OrNew G w.heap.size) T.1 (.slice ua T.1.ps.length uc) (.slice ub T.1.ks.length ud)) := by
    have h5 := HG8.out
    have h6 := HL8.out
    have h7 := HB1.out.size
    exact (hk.kept (moved_setRow w3 g8 _) (fun k hk e => by rcases hk with hk | hk <;> omega)).mono fun k hk => hk.imp (fun h => h.1) (fun h => Nat.le_trans h7 h)
  have HBF := Lib.hid (below_setRow (HB1.out.trans (hb.mono HB1.out.size)) HG8.out #[.string T.1.nm, .slice ua T.1.ps.length uc, .slice ub T.1.ks.length ud])
  clear hk hb c40 c41 c42 HC
  go_wp2_with (refine wpList_store_row rfl 28 (.tmp 6) (.tmp 12) rfl g8 #[.string T.1.nm, .slice ua T.1.ps.length uc, .slice ub T.1.ks.length ud] rfl rfl _ _ HA8.out (infoNd _ _ _) rfl (nd_one _ _ _ _ _ _ _) ?_)
  exact bodyPost_ret (results_rowN rfl _ _ g8 _ #[.string T.1.nm, .slice ua T.1.ps.length uc, .slice ub T.1.ks.length ud] _ _ rfl (HA8.out.row _) Tryz.underlying28 rfl (infoNd _ _ _)) rfl ⟨_, _, rfl, HND.out, HBF.out⟩
end Go.Proofs.YtfcclppgjfkfoaaGreatDoor
