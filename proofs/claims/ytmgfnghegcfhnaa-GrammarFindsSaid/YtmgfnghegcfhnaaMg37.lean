/- The document's Join, Kid and Value of layer 16. Conditions: names of at most 10^6 bytes; a tree that is read. -/
import Derived.Test.YtmgfnghegcfhnaaMg36
import Derived.Test.YtmgfnghegcfhnaaMg29
import Derived.Test.YtmgfnghegcfhnaaMg12
import Derived.Test.YtmgfnghegcfhnaaMg17
namespace Go.Proofs.Ytmgfnghegcfhnaa
open Go.RowKit

theorem join_take (l : List ByteArray) {k : Nat} (hk : k < l.length) : (l.take (k + 1)).flatMap (fun x => 47 :: x.data.toList) = ((l.take k).flatMap (fun x => 47 :: x.data.toList) ++ [47]) ++ (l.getD k ByteArray.empty).data.toList := by
  rw [List.take_succ_eq_append_getElem hk, List.flatMap_append]
  have e : l.getD k ByteArray.empty = l[k] := by rw [List.getD_eq_getElem?_getD, List.getElem?_eq_getElem hk]; rfl
  rw [e]; simp

set_option maxHeartbeats 1600000 in
set_option maxRecDepth 100000 in
theorem rkid_any (G : Nat → Prop) (n : ND) (v2 v3 : Value) (nm : ByteArray) (w : World) (hN : NdAt w G n v2 v3) :
    Calls Try.prog 35 #[.agg #[.string n.nm, v2, v3], .string nm] w fun e w' => ∃ u2 u3, e = .returned (.tuple #[.agg #[.string (orN (kidR n nm)).nm, u2, u3], .bool (kidR n nm).isSome]) ∧ NdAt w' G (orN (kidR n nm)) u2 u3 ∧ Below w.heap.size w w' := by
  obtain ⟨A, K, pc, kc, rfl, rfl, hpc, hpm, hkc, hkm⟩ := nd_shape hN
  unfold maxLen at hpm hkm
  have HHIT : Hid (∀ k, k < n.ks.length → (∀ j, j < k → decide ((n.ks.getD j nd0).nm = nm) = false) → decide ((n.ks.getD k nd0).nm = nm) = true → kidR n nm = some (n.ks.getD k nd0)) := fun k hk hj h => find_take (f := fun x : ND => decide (x.nm = nm)) (d := nd0) hk hj h
  have HNO : Hid ((∀ j, j < n.ks.length → decide ((n.ks.getD j nd0).nm = nm) = false) → kidR n nm = none) := fun h => find_none (f := fun x : ND => decide (x.nm = nm)) (d := nd0) h
  generalize kidR n nm = R at *
  obtain ⟨W1, hW1⟩ : ∃ W1, W1 = (w.alloc (.cells #[.string n.nm, .slice A n.ps.length pc, .slice K n.ks.length kc] 29)).alloc (.cells #[.string ⟨#[]⟩, .slice none 0 0, .slice none 0 0] 29) := ⟨_, rfl⟩
  obtain ⟨g2, hg2⟩ : ∃ g2, g2 = w.heap.size := ⟨_, rfl⟩
  obtain ⟨g4, hg4⟩ : ∃ g4, g4 = w.heap.size + 1 := ⟨_, rfl⟩
  have hB1 : Below w.heap.size w W1 := by rw [hW1]; exact ((Below.refl _ _).alloc (Nat.le_refl _) _).alloc (by rw [sz_alloc]; omega) _
  have hA2 : Arr W1 g2 29 #[.string n.nm, .slice A n.ps.length pc, .slice K n.ks.length kc] := by rw [hW1, hg2]; exact (Arr.new w _ _).alloc _
  have hA4 : Arr W1 g4 29 #[.string ⟨#[]⟩, .slice none 0 0, .slice none 0 0] := by rw [hW1, hg4]; exact Arr.new1 w _ _ _
  have HN0 := Lib.hid hN
  have HN := Lib.hid (nd_below hN hB1)
  have HA4 := Lib.hid hA4
  have HB := Lib.hid hB1
  have HG4 : Hid (w.heap.size ≤ g4) := by unfold Hid; omega
  have HKP : Hid (∀ (x : ND) y z cs, NdAt w G x y z → NdAt (W1.setRow g4 cs) G x y z) := fun x y z cs h =>
    ((nd_below (nd_and h) hB1).kept (moved_setRow W1 g4 cs) (fun k hk e => by have := hk.2; omega)).mono (fun k hk => hk.1)
  have k2 : W1.cell? ⟨g2, 2, none⟩ = some (.slice K n.ks.length kc) := hA2.cell 2
  clear hN hB1 hA2 hA4
  go_enter Try.func35, Try.ntmps35
  go_upto_region 1 with fail
  change Code.wp _ _ _ _ ((w.alloc (.cells #[.string n.nm, .slice A n.ps.length pc, .slice K n.ks.length kc] 29)).alloc (.cells #[.string ⟨#[]⟩, .slice none 0 0, .slice none 0 0] 29))
  rw [← hW1, ← hg4, ← hg2]
  clear hW1 hg4 hg2
  go_wp2
  go_loop [6] (fun iv => ∃ i : Nat, i ≤ n.ks.length ∧ iv = .int .i64 i ∧ Hid (∀ j, j < i → decide ((n.ks.getD j nd0).nm = nm) = false)) (fun iv => n.ks.length - (intOf iv).toNat)
  case atStart => exact ⟨0, Nat.zero_le _, rfl, fun j h => absurd h (Nat.not_lt_zero _)⟩
  case round =>
    obtain ⟨i, hi, rfl, HJ⟩ := hrel
    by_cases hlt : i < n.ks.length
    · have hii : (i : Int) < n.ks.length := by omega
      obtain ⟨b, off, x, y, z, rfl, h1, h2, h3, h4, HX⟩ := nd_kid HN.out hlt
      by_cases he : x.nm = nm
      · have d1 : (x.nm.toList == nm.toList) = true := by rw [he]; simp
        have HE : Hid (R = some x) := by
          have := HHIT.out i hlt HJ.out (by rw [HX.out]; exact decide_eq_true he)
          rw [HX.out] at this
          exact this
        obtain ⟨ya, za, yc, zc, rfl, rfl, _⟩ := nd_shape h4
        have HONE : Hid ((#[.string x.nm, .slice ya x.ps.length yc, .slice za x.ks.length zc] : Array Value).all (·.oneCell') = true) := by
          unfold Hid
          rw [Array.all_eq_true_iff_forall_mem]
          intro v hv
          simp at hv
          rcases hv with rfl | rfl | rfl <;> rfl
        have HND : Hid (NdAt (W1.setRow g4 #[.string x.nm, .slice ya x.ps.length yc, .slice za x.ks.length zc]) G x (.slice ya x.ps.length yc) (.slice za x.ks.length zc)) := by
          obtain ⟨b1, off1, x1, y1, z1, e1, c1, c2, c3, h41, HX1⟩ := nd_kid HN0.out hlt
          have ex : x1 = x := HX1.out.symm.trans HX.out
          subst ex
          injection e1 with e1
          injection e1 with e1 e2 _
          subst e1 e2
          have M := Moved.of_below HB.out (fun _ => False)
          have q2 := cell_kept M id c2
          have q3 := cell_kept M id c3
          rw [h2] at q2
          rw [h3] at q3
          injection q2 with q2
          injection q3 with q3
          rw [q2, q3]
          exact HKP.out _ _ _ _ h41
        have HBF : Hid (Below w.heap.size w (W1.setRow g4 #[.string x.nm, .slice ya x.ps.length yc, .slice za x.ks.length zc])) := below_setRow HB.out HG4.out _
        clear he HX h4 HJ HHIT HNO HN HN0 HKP
        go_wp2_with (refine wpList_store_row rfl 29 (.tmp 4) (.tmp 26) rfl g4 #[.string x.nm, .slice ya x.ps.length yc, .slice za x.ks.length zc] rfl rfl _ _ HA4.out (infoNd _ _ _) rfl HONE.out ?_)
        exact bodyPost_ret (results_rowN rfl _ _ g4 _ #[.string x.nm, .slice ya x.ps.length yc, .slice za x.ks.length zc] _ _ rfl (HA4.out.row _) Try.underlying29 rfl (infoNd _ _ _)) rfl ⟨_, _, by rw [HE.out]; rfl, by rw [HE.out]; exact HND.out, HBF.out⟩
      · have d1 : (x.nm.toList == nm.toList) = false := by simpa using str_ne12 he
        have HJ1 : Hid (∀ j, j < i + 1 → decide ((n.ks.getD j nd0).nm = nm) = false) := fun j hj => by
          by_cases e : j = i
          · rw [e, HX.out]; exact decide_eq_false he
          · exact HJ.out j (by omega)
        clear he HX h4 HJ
        go_wp2
        go_round
        case rel => exact ⟨i + 1, by omega, by go_num, HJ1.out⟩
        case measure => simp [intOf]; omega
    · obtain rfl : i = n.ks.length := by omega
      have HE : Hid (R = none) := HNO.out HJ.out
      have HBF : Hid (Below w.heap.size w (W1.setRow g4 #[.string ⟨#[]⟩, .slice none 0 0, .slice none 0 0])) := below_setRow HB.out HG4.out _
      clear HJ HHIT HNO HN HN0 HKP
      go_wp2_with (refine wpList_store_row rfl 29 (.tmp 4) (.tmp 27) rfl g4 #[.string ⟨#[]⟩, .slice none 0 0, .slice none 0 0] rfl rfl _ _ HA4.out (infoNd _ _ _) rfl zl_one ?_)
      exact bodyPost_ret (results_rowN rfl _ _ g4 _ #[.string ⟨#[]⟩, .slice none 0 0, .slice none 0 0] _ _ rfl (HA4.out.row _) Try.underlying29 rfl (infoNd _ _ _)) rfl ⟨_, _, by rw [HE.out]; rfl, by rw [HE.out]; exact nd0_at _ _, HBF.out⟩

set_option maxHeartbeats 1600000 in
set_option maxRecDepth 100000 in
theorem rvalue_any (G : Nat → Prop) (n : ND) (v2 v3 : Value) (nm : ByteArray) (w : World) (hN : NdAt w G n v2 v3) :
    Calls Try.prog 20 #[.agg #[.string n.nm, v2, v3], .string nm] w fun e w' => e = .returned (.tuple #[.string ((valR n nm).getD ⟨#[]⟩), .bool (valR n nm).isSome]) ∧ Below w.heap.size w w' := by
  obtain ⟨A, K, pc, kc, rfl, rfl, hpc, hpm, hkc, hkm⟩ := nd_shape hN
  unfold maxLen at hpm hkm
  have HHIT : Hid (∀ k, k < n.ps.length → (∀ j, j < k → decide ((n.ps.getD j pr0).nm = nm) = false) → decide ((n.ps.getD k pr0).nm = nm) = true → valR n nm = some (n.ps.getD k pr0).vl) := fun k hk hj h => by
    unfold valR; rw [find_take (f := fun x : PR => decide (x.nm = nm)) (d := pr0) hk hj h]; rfl
  have HNO : Hid ((∀ j, j < n.ps.length → decide ((n.ps.getD j pr0).nm = nm) = false) → valR n nm = none) := fun h => by
    unfold valR; rw [find_none (f := fun x : PR => decide (x.nm = nm)) (d := pr0) h]; rfl
  generalize valR n nm = R at *
  obtain ⟨W1, hW1⟩ : ∃ W1, W1 = w.alloc (.cells #[.string n.nm, .slice A n.ps.length pc, .slice K n.ks.length kc] 29) := ⟨_, rfl⟩
  obtain ⟨g2, hg2⟩ : ∃ g2, g2 = w.heap.size := ⟨_, rfl⟩
  have hB1 : Below w.heap.size w W1 := by rw [hW1]; exact (Below.refl _ _).alloc (Nat.le_refl _) _
  have hA2 : Arr W1 g2 29 #[.string n.nm, .slice A n.ps.length pc, .slice K n.ks.length kc] := by rw [hW1, hg2]; exact Arr.new w _ _
  have HN := Lib.hid (nd_below hN hB1)
  have HB := Lib.hid hB1
  have k1 : W1.cell? ⟨g2, 1, none⟩ = some (.slice A n.ps.length pc) := hA2.cell 1
  clear hN hB1 hA2
  go_enter Try.func20, Try.ntmps20
  go_upto_region 1 with fail
  rw [← hW1, ← hg2]
  clear hW1 hg2
  go_wp2
  go_loop [6] (fun iv => ∃ i : Nat, i ≤ n.ps.length ∧ iv = .int .i64 i ∧ Hid (∀ j, j < i → decide ((n.ps.getD j pr0).nm = nm) = false)) (fun iv => n.ps.length - (intOf iv).toNat)
  case atStart => exact ⟨0, Nat.zero_le _, rfl, fun j h => absurd h (Nat.not_lt_zero _)⟩
  case round =>
    obtain ⟨i, hi, rfl, HJ⟩ := hrel
    by_cases hlt : i < n.ps.length
    · have hii : (i : Int) < n.ps.length := by omega
      obtain ⟨b, off, x, rfl, ⟨h1, h2⟩, HX⟩ := nd_prop HN.out hlt
      by_cases he : x.nm = nm
      · have d1 : (x.nm.toList == nm.toList) = true := by rw [he]; simp
        have HE : Hid (R = some x.vl) := by
          have := HHIT.out i hlt HJ.out (by rw [HX.out]; exact decide_eq_true he)
          rw [HX.out] at this
          exact this
        clear he HX HJ HHIT HNO HN
        go_wp2
        go_ret2
        exact ⟨by rw [HE.out]; rfl, HB.out⟩
      · have d1 : (x.nm.toList == nm.toList) = false := by simpa using str_ne12 he
        have HJ1 : Hid (∀ j, j < i + 1 → decide ((n.ps.getD j pr0).nm = nm) = false) := fun j hj => by
          by_cases e : j = i
          · rw [e, HX.out]; exact decide_eq_false he
          · exact HJ.out j (by omega)
        clear he HX HJ
        go_wp2
        go_round
        case rel => exact ⟨i + 1, by omega, by go_num, HJ1.out⟩
        case measure => simp [intOf]; omega
    · obtain rfl : i = n.ps.length := by omega
      have HE : Hid (R = none) := HNO.out HJ.out
      clear HJ HHIT HNO HN
      go_wp2
      go_ret2
      exact ⟨by rw [HE.out]; rfl, HB.out⟩
end Go.Proofs.Ytmgfnghegcfhnaa
