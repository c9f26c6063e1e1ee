/- What package grammar's propNames and kidNames return: a slice of the call's own with the names. Conditions: a tree that is read, of at most 2^40 of each. -/
import Derived.Test.YtmgfnghegcfhnaaShelf
import Derived.Test.YtmgfnghegcfhnaaMg10
import Derived.Test.YtmgfnghegcfhnaaMg5
namespace Go.Proofs.Ytmgfnghegcfhnaa
open Go.RowKit

theorem elemS : ElemIs Try.prog 56 9 (.string ⟨#[]⟩) 16 := elemIs_mk Try.underlying56 rfl (by kernel_rfl)
theorem take_next {α β : Type} (f : α → β) (l : List α) (d : α) {k : Nat} (h : k < l.length) : (l.take (k + 1)).map f = (l.take k).map f ++ [f (l.getD k d)] := by
  rw [List.take_add_one, List.getElem?_eq_getElem h, List.getD_eq_getElem?_getD, List.getElem?_eq_getElem h, List.map_append]
  rfl

set_option maxHeartbeats 3200000 in
set_option maxRecDepth 100000 in
theorem propNames_any (G : Nat → Prop) (n : ND) (v2 v3 : Value) (w : World) (hl : n.ps.length ≤ 1099511627776) (hN : NdAt w G n v2 v3) :
    Calls Try.prog 41 #[.agg #[.string n.nm, v2, v3]] w fun e w' => ∃ v, e = .returned v ∧ w'.ownsRow w.heap.size 9 1 v n.ps.length (n.ps.map fun x => Value.string x.nm) ∧ Below w.heap.size w w' := by
  obtain ⟨A, K, pc, kc, rfl, rfl, hpc, hpm, hkc, hkm⟩ := nd_shape hN
  unfold maxLen at hpm hkm
  obtain ⟨W1, hW1⟩ : ∃ W1, W1 = w.alloc (.cells #[.string n.nm, .slice A n.ps.length pc, .slice K n.ks.length kc] 29) := ⟨_, rfl⟩
  obtain ⟨g1, hg1⟩ : ∃ g1, g1 = w.heap.size := ⟨_, rfl⟩
  have hB1 : Below w.heap.size w W1 := by rw [hW1]; exact (Below.refl _ _).alloc (Nat.le_refl _) _
  have hA1 : Arr W1 g1 29 #[.string n.nm, .slice A n.ps.length pc, .slice K n.ks.length kc] := by rw [hW1, hg1]; exact Arr.new w _ _
  have HN := Lib.hid hN
  have HB1 := Lib.hid hB1
  have c1 : W1.cell? ⟨g1, 1, none⟩ = some (.slice A n.ps.length pc) := hA1.cell 1
  have c2 : W1.cell? ⟨g1, 2, none⟩ = some (.slice K n.ks.length kc) := hA1.cell 2
  have HEL := Lib.hid elemS
  have HTK : Hid (∀ k, k < n.ps.length → (n.ps.take (k + 1)).map (fun x => Value.string x.nm) = (n.ps.take k).map (fun x => Value.string x.nm) ++ [.string (n.ps.getD k pr0).nm]) := fun k h => take_next (fun x => Value.string x.nm) n.ps pr0 h
  have HTA : Hid ((n.ps.take n.ps.length).map (fun x => Value.string x.nm) = n.ps.map fun x => Value.string x.nm) := by unfold Hid; rw [List.take_length]
  clear hN hB1 hA1
  go_enter Try.func41, Try.ntmps41
  go_upto_region 1 with fail
  rw [← hW1, ← hg1]
  clear hW1 hg1
  go_wp2
  go_loopw [3, 9] (fun sv iv wr => ∃ (j : Nat) (X : List Value), j ≤ n.ps.length ∧ iv = .int .i64 j ∧ Hid (X = (n.ps.take j).map fun x => Value.string x.nm) ∧ Hid (wr.ownsRow w.heap.size 9 1 sv j X) ∧ Below w.heap.size w wr) (fun _ iv _ => n.ps.length - (intOf iv).toNat)
  case atStart =>
    refine ⟨0, [], Nat.zero_le _, rfl, rfl, ⟨rfl, .inl ⟨rfl, rfl⟩⟩, HB1.out⟩
  case round =>
    obtain ⟨j, X, hj, rfl, HX, HO, hbw⟩ := hrel
    have hzr := hbw.size
    by_cases hlt : j < n.ps.length
    · have hji : (j : Int) < n.ps.length := by omega
      have HNJ := Lib.hid (nd_below HN.out hbw)
      obtain ⟨b0, off, x, rfl, ⟨h1, h2⟩, HXE⟩ := nd_prop HNJ.out hlt
      have HSJ := Lib.hid (HTK.out j hlt)
      rw [HXE.out, ← HX.out] at HSJ
      obtain ⟨W9, hW9⟩ : ∃ W9, W9 = wr.alloc (.cells #[.string x.nm, .string x.vl] 42) := ⟨_, rfl⟩
      obtain ⟨g9, hg9⟩ : ∃ g9, g9 = wr.heap.size := ⟨_, rfl⟩
      have hA9 : Arr W9 g9 42 #[.string x.nm, .string x.vl] := by rw [hW9, hg9]; exact Arr.new wr _ _
      have hb9 : Below w.heap.size wr W9 := by rw [hW9]; exact (Below.refl _ _).alloc hzr _
      have HO9 : Hid (W9.ownsRow w.heap.size 9 1 u3 j X) := by unfold Hid; rw [hW9]; exact HO.out.alloc _
      have HZ9 : Hid (w.heap.size ≤ W9.heap.size) := Nat.le_trans hzr hb9.size
      have HBW9 := Lib.hid (hbw.trans hb9)
      have q0 : W9.cell? ⟨g9, 0, none⟩ = some (.string x.nm) := hA9.cell 0
      clear hbw hb9 hA9 HXE HO c1 c2 
      go_upto_region 5 with fail
      rw [← hW9, ← hg9]
      clear hW9 hg9
      have hz9 := HZ9.out
      go_wp2_with (at_builtin; refine append_one rfl (.tmp 13) (.tmp 16) 56 rfl w.heap.size 9 (.string ⟨#[]⟩) 16 HEL (.string x.nm) rfl u3 j X rfl HO9.out rfl (by omega) (by unfold maxLen; omega) hz9 ?_; intro u2 w2 ho2 hm2; have HO2 := Lib.hid ho2; have HM2 := Lib.hid hm2; clear ho2 hm2)
      go_roundw
      case rel => exact ⟨j + 1, X ++ [.string x.nm], by omega, by go_num, Lib.hid HSJ.out.symm, HO2, HBW9.out.trans HM2.out⟩
      case measure => simp [intOf]; omega
    · obtain rfl : j = n.ps.length := by omega
      have HXX := Lib.hid HX.out
      rw [HTA.out] at HXX
      have HBW := Lib.hid hbw
      clear hbw HTK HN c1 c2
      go_wp2
      go_ret
      exact ⟨_, rfl, by rw [← HXX.out]; exact HO.out, HBW.out⟩

set_option maxHeartbeats 3200000 in
set_option maxRecDepth 100000 in
theorem kidNames_any (G : Nat → Prop) (n : ND) (v2 v3 : Value) (w : World) (hl : n.ks.length ≤ 1099511627776) (hN : NdAt w G n v2 v3) :
    Calls Try.prog 42 #[.agg #[.string n.nm, v2, v3]] w fun e w' => ∃ v, e = .returned v ∧ w'.ownsRow w.heap.size 9 1 v n.ks.length (n.ks.map fun x => Value.string x.nm) ∧ Below w.heap.size w w' := by
  obtain ⟨A, K, pc, kc, rfl, rfl, hpc, hpm, hkc, hkm⟩ := nd_shape hN
  unfold maxLen at hpm hkm
  obtain ⟨W1, hW1⟩ : ∃ W1, W1 = w.alloc (.cells #[.string n.nm, .slice A n.ps.length pc, .slice K n.ks.length kc] 29) := ⟨_, rfl⟩
  obtain ⟨g1, hg1⟩ : ∃ g1, g1 = w.heap.size := ⟨_, rfl⟩
  have hB1 : Below w.heap.size w W1 := by rw [hW1]; exact (Below.refl _ _).alloc (Nat.le_refl _) _
  have hA1 : Arr W1 g1 29 #[.string n.nm, .slice A n.ps.length pc, .slice K n.ks.length kc] := by rw [hW1, hg1]; exact Arr.new w _ _
  have HN := Lib.hid hN
  have HB1 := Lib.hid hB1
  have c1 : W1.cell? ⟨g1, 1, none⟩ = some (.slice A n.ps.length pc) := hA1.cell 1
  have c2 : W1.cell? ⟨g1, 2, none⟩ = some (.slice K n.ks.length kc) := hA1.cell 2
  have HEL := Lib.hid elemS
  have HTK : Hid (∀ k, k < n.ks.length → (n.ks.take (k + 1)).map (fun x => Value.string x.nm) = (n.ks.take k).map (fun x => Value.string x.nm) ++ [.string (n.ks.getD k nd0).nm]) := fun k h => take_next (fun x => Value.string x.nm) n.ks nd0 h
  have HTA : Hid ((n.ks.take n.ks.length).map (fun x => Value.string x.nm) = n.ks.map fun x => Value.string x.nm) := by unfold Hid; rw [List.take_length]
  clear hN hB1 hA1
  go_enter Try.func42, Try.ntmps42
  go_upto_region 1 with fail
  rw [← hW1, ← hg1]
  clear hW1 hg1
  go_wp2
  go_loopw [3, 9] (fun sv iv wr => ∃ (j : Nat) (X : List Value), j ≤ n.ks.length ∧ iv = .int .i64 j ∧ Hid (X = (n.ks.take j).map fun x => Value.string x.nm) ∧ Hid (wr.ownsRow w.heap.size 9 1 sv j X) ∧ Below w.heap.size w wr) (fun _ iv _ => n.ks.length - (intOf iv).toNat)
  case atStart =>
    refine ⟨0, [], Nat.zero_le _, rfl, rfl, ⟨rfl, .inl ⟨rfl, rfl⟩⟩, HB1.out⟩
  case round =>
    obtain ⟨j, X, hj, rfl, HX, HO, hbw⟩ := hrel
    have hzr := hbw.size
    by_cases hlt : j < n.ks.length
    · have hji : (j : Int) < n.ks.length := by omega
      have HNJ := Lib.hid (nd_below HN.out hbw)
      obtain ⟨b0, off, x, y, z, rfl, h1, h2, h3, h4, HXE⟩ := nd_kid HNJ.out hlt
      have HSJ := Lib.hid (HTK.out j hlt)
      rw [HXE.out, ← HX.out] at HSJ
      obtain ⟨ya, za, yc, zc, rfl, rfl, _⟩ := nd_shape h4
      obtain ⟨W9, hW9⟩ : ∃ W9, W9 = wr.alloc (.cells #[.string x.nm, .slice ya x.ps.length yc, .slice za x.ks.length zc] 29) := ⟨_, rfl⟩
      obtain ⟨g9, hg9⟩ : ∃ g9, g9 = wr.heap.size := ⟨_, rfl⟩
      have hA9 : Arr W9 g9 29 #[.string x.nm, .slice ya x.ps.length yc, .slice za x.ks.length zc] := by rw [hW9, hg9]; exact Arr.new wr _ _
      have hb9 : Below w.heap.size wr W9 := by rw [hW9]; exact (Below.refl _ _).alloc hzr _
      have HO9 : Hid (W9.ownsRow w.heap.size 9 1 u3 j X) := by unfold Hid; rw [hW9]; exact HO.out.alloc _
      have HZ9 : Hid (w.heap.size ≤ W9.heap.size) := Nat.le_trans hzr hb9.size
      have HBW9 := Lib.hid (hbw.trans hb9)
      have q0 : W9.cell? ⟨g9, 0, none⟩ = some (.string x.nm) := hA9.cell 0
      clear hbw hb9 hA9 HXE HO c1 c2 h4
      go_upto_region 5 with fail
      rw [← hW9, ← hg9]
      clear hW9 hg9
      have hz9 := HZ9.out
      go_wp2_with (at_builtin; refine append_one rfl (.tmp 13) (.tmp 16) 56 rfl w.heap.size 9 (.string ⟨#[]⟩) 16 HEL (.string x.nm) rfl u3 j X rfl HO9.out rfl (by omega) (by unfold maxLen; omega) hz9 ?_; intro u2 w2 ho2 hm2; have HO2 := Lib.hid ho2; have HM2 := Lib.hid hm2; clear ho2 hm2)
      go_roundw
      case rel => exact ⟨j + 1, X ++ [.string x.nm], by omega, by go_num, Lib.hid HSJ.out.symm, HO2, HBW9.out.trans HM2.out⟩
      case measure => simp [intOf]; omega
    · obtain rfl : j = n.ks.length := by omega
      have HXX := Lib.hid HX.out
      rw [HTA.out] at HXX
      have HBW := Lib.hid hbw
      clear hbw HTK HN c1 c2
      go_wp2
      go_ret
      exact ⟨_, rfl, by rw [← HXX.out]; exact HO.out, HBW.out⟩
end Go.Proofs.Ytmgfnghegcfhnaa
