/- The document's Join, Kid and Value of layer 16. Conditions: names of at most 10^6 bytes; a tree that is read. -/
import Derived.Test.YtjphecfkjpfkeaaDoorMg16
import Derived.Test.YtjphecfkjpfkeaaDoorMg23
import Derived.Test.YtjphecfkjpfkeaaDoorMg25
import Derived.Test.YtjphecfkjpfkeaaDoorMg28
namespace Go.Proofs.YtjphecfkjpfkeaaDoor
open Go.RowKit

theorem join_take (l : List ByteArray) {k : Nat} (hk : k < l.length) : (l.take (k + 1)).flatMap (fun x => 47 :: x.data.toList) = ((l.take k).flatMap (fun x => 47 :: x.data.toList) ++ [47]) ++ (l.getD k ByteArray.empty).data.toList := by
  rw [List.take_succ_eq_append_getElem hk, List.flatMap_append]
  have e : l.getD k ByteArray.empty = l[k] := by rw [List.getD_eq_getElem?_getD, List.getElem?_eq_getElem hk]; rfl
  rw [e]; simp

set_option maxHeartbeats 1600000 in
set_option maxRecDepth 100000 in
theorem rjoin_any (A : Option Addr) (cap : Nat) (l : List ByteArray) (w : World) (hr : RdT w A l) (hl : l.length ≤ 1000) (hz : ∀ k, k < l.length → (l.getD k ByteArray.empty).size ≤ 1000000) :
    Calls Tryd.prog 12 #[.slice A l.length cap] w fun e w' => e = .returned (.string ⟨(joinB l).toArray⟩) ∧ w' = w := by
  have HR := Lib.hid hr
  have HZ := Lib.hid hz
  have HT := Lib.hid (fun k (hk : k < l.length) => join_take l hk)
  by_cases h0 : l = []
  · subst h0
    have HE : Hid (joinB [] = [47]) := if_pos rfl
    clear HR HZ HT hr hz hl
    generalize joinB [] = R at *
    go_enter Tryd.func12, Tryd.ntmps12
    go_wp2
    go_loop [3, 4] (fun s i => s = .string ⟨#[]⟩ ∧ i = .int .i64 0) (fun _ _ => 0)
    case atStart => exact ⟨rfl, rfl⟩
    case round =>
      obtain ⟨rfl, rfl⟩ := hrel
      go_wp2
      go_ret
      exact ⟨by rw [HE.out]; rfl, rfl⟩
  · have HE : Hid (joinB l = l.flatMap fun x => 47 :: x.data.toList) := if_neg h0
    have hl1 : 1 ≤ l.length := by
      have : l.length ≠ 0 := fun e => h0 (List.length_eq_zero_iff.1 e)
      omega
    have d0 : ((l.length : Int) == 0) = false := by simp; omega
    clear h0 hr hz
    generalize joinB l = R at *
    go_enter Tryd.func12, Tryd.ntmps12
    go_wp2
    go_loop [3, 4] (fun s iv => ∃ (k : Nat) (S : ByteArray), k ≤ l.length ∧ iv = .int .i64 k ∧ s = .string S ∧ Hid (S.data.toList = (l.take k).flatMap fun x => 47 :: x.data.toList) ∧ S.size ≤ k * 1000001) (fun _ iv => l.length - (intOf iv).toNat)
    case atStart => exact ⟨0, ⟨#[]⟩, Nat.zero_le _, rfl, rfl, rfl, Nat.zero_le _⟩
    case round =>
      obtain ⟨k, S, hk, rfl, rfl, HS, hsz⟩ := hrel
      by_cases hlt : k < l.length
      · have hki : (k : Int) < l.length := by omega
        obtain ⟨b, off, x, rfl, h1, HX⟩ := HR.out.at_ hlt
        have hx := HZ.out k hlt
        have ht := HT.out k hlt
        rw [HX.out] at hx ht
        obtain ⟨S1, hS1⟩ : ∃ S1 : ByteArray, S1.data.toList = S.data.toList ++ [47] := ⟨⟨(S.data.toList ++ [47]).toArray⟩, by simp⟩
        obtain ⟨S2, hS2⟩ : ∃ S2 : ByteArray, S2.data.toList = S1.data.toList ++ x.data.toList := ⟨⟨(S1.data.toList ++ x.data.toList).toArray⟩, by simp⟩
        have z1 : S1.size = S.size + 1 := by show S1.data.toList.length = _; rw [hS1, List.length_append]; rfl
        have z2 : S2.size = S1.size + x.size := by show S2.data.toList.length = _; rw [hS2, List.length_append]; rfl
        have a1 : ∀ W, (Op.stringOp .add S ⟨#[47]⟩).run Tryd.prog W = .ok (.string S1) W := fun W => add_str (by rw [hS1]) (by show S.size + 1 ≤ _; omega) W
        have a2 : ∀ W, (Op.stringOp .add S1 x).run Tryd.prog W = .ok (.string S2) W := fun W => add_str hS2 (by omega) W
        have HS2 : Hid (S2.data.toList = (l.take (k + 1)).flatMap fun x => 47 :: x.data.toList) := by unfold Hid; rw [hS2, hS1, HS.out, ht]
        have hb2 : S2.size ≤ (k + 1) * 1000001 := by omega
        clear hS1 hS2 z1 z2 ht HX
        go_wp2
        go_round
        case rel => exact ⟨k + 1, S2, by omega, by go_num, rfl, HS2.out, hb2⟩
        case measure => simp [intOf]; omega
      · obtain rfl : k = l.length := by omega
        have HSE : Hid (R = S.data.toList) := by unfold Hid; rw [HE.out, HS.out, List.take_length]
        go_wp2
        go_ret
        exact ⟨by rw [HSE.out]; show Ending.returned (.string S) = _; rw [show (⟨S.data.toList.toArray⟩ : ByteArray) = S by cases S; simp], rfl⟩

set_option maxHeartbeats 1600000 in
set_option maxRecDepth 100000 in
theorem rkid_any (G : Nat → Prop) (n : ND) (v2 v3 : Value) (nm : ByteArray) (w : World) (hN : NdAt w G n v2 v3) :
    Calls Tryd.prog 17 #[.agg #[.string n.nm, v2, v3], .string nm] w fun e w' => ∃ u2 u3, e = .returned (.tuple #[.agg #[.string (orN (kidR n nm)).nm, u2, u3], .bool (kidR n nm).isSome]) ∧ NdAt w' G (orN (kidR n nm)) u2 u3 ∧ Below w.heap.size w w' := by
  obtain ⟨A, K, pc, kc, rfl, rfl, hpc, hpm, hkc, hkm⟩ := nd_shape hN
  unfold maxLen at hpm hkm
  have HHIT : Hid (∀ k, k < n.ks.length → (∀ j, j < k → decide ((n.ks.getD j nd0).nm = nm) = false) → decide ((n.ks.getD k nd0).nm = nm) = true → kidR n nm = some (n.ks.getD k nd0)) := fun k hk hj h => find_take (f := fun x : ND => decide (x.nm = nm)) (d := nd0) hk hj h
  have HNO : Hid ((∀ j, j < n.ks.length → decide ((n.ks.getD j nd0).nm = nm) = false) → kidR n nm = none) := fun h => find_none (f := fun x : ND => decide (x.nm = nm)) (d := nd0) h
  generalize kidR n nm = R at *
  obtain ⟨W1, hW1⟩ : ∃ W1, W1 = (w.alloc (.cells #[.string n.nm, .slice A n.ps.length pc, .slice K n.ks.length kc] 34)).alloc (.cells #[.string ⟨#[]⟩, .slice none 0 0, .slice none 0 0] 34) := ⟨_, rfl⟩
  obtain ⟨g2, hg2⟩ : ∃ g2, g2 = w.heap.size := ⟨_, rfl⟩
  obtain ⟨g4, hg4⟩ : ∃ g4, g4 = w.heap.size + 1 := ⟨_, rfl⟩
  have hB1 : Below w.heap.size w W1 := by rw [hW1]; exact ((Below.refl _ _).alloc (Nat.le_refl _) _).alloc (by rw [sz_alloc]; omega) _
  have hA2 : Arr W1 g2 34 #[.string n.nm, .slice A n.ps.length pc, .slice K n.ks.length kc] := by rw [hW1, hg2]; exact (Arr.new w _ _).alloc _
  have hA4 : Arr W1 g4 34 #[.string ⟨#[]⟩, .slice none 0 0, .slice none 0 0] := by rw [hW1, hg4]; exact Arr.new1 w _ _ _
  have HN0 := Lib.hid hN
  have HN := Lib.hid (nd_below hN hB1)
  have HA4 := Lib.hid hA4
  have HB := Lib.hid hB1
  have HG4 : Hid (w.heap.size ≤ g4) := by unfold Hid; omega
  have HKP : Hid (∀ (x : ND) y z cs, NdAt w G x y z → NdAt (W1.setRow g4 cs) G x y z) := fun x y z cs h =>
    ((nd_below (nd_and h) hB1).kept (moved_setRow W1 g4 cs) (fun k hk e => by have := hk.2; omega)).mono (fun k hk => hk.1)
  have k2 : W1.cell? ⟨g2, 2, none⟩ = some (.slice K n.ks.length kc) := hA2.cell 2
  clear hN hB1 hA2 hA4
  go_enter Tryd.func17, Tryd.ntmps17
  go_upto_region 1 with fail
  change Code.wp _ _ _ _ ((w.alloc (.cells #[.string n.nm, .slice A n.ps.length pc, .slice K n.ks.length kc] 34)).alloc (.cells #[.string ⟨#[]⟩, .slice none 0 0, .slice none 0 0] 34))
  rw [← hW1, ← hg4, ← hg2]
  clear hW1 hg4 hg2
  go_wp2
  go_loop [6] (fun iv => ∃ i : Nat, i ≤ n.ks.length ∧ iv = .int .i64 i ∧ Hid (∀ j, j < i → decide ((n.ks.getD j nd0).nm = nm) = false)) (fun iv => n.ks.length - (intOf iv).toNat)
  case atStart => exact ⟨0, Nat.zero_le _, rfl, fun j h => absurd h (Nat.not_lt_zero _)⟩
  case round =>
    obtain ⟨i, hi, rfl, HJ⟩ := hrel
    by_cases hlt : i < n.ks.length
    · have hii : (i : Int) < n.ks.length := by omega
      obtain ⟨b, off, x, y, z, rfl, h1, h2, h3, h4, HX⟩ := nd_kid HN.out hlt
      by_cases he : x.nm = nm
      · have d1 : (x.nm.toList == nm.toList) = true := by rw [he]; simp
        have HE : Hid (R = some x) := by
          have := HHIT.out i hlt HJ.out (by rw [HX.out]; exact decide_eq_true he)
          rw [HX.out] at this
          exact this
        obtain ⟨ya, za, yc, zc, rfl, rfl, _⟩ := nd_shape h4
        have HONE : Hid ((#[.string x.nm, .slice ya x.ps.length yc, .slice za x.ks.length zc] : Array Value).all (·.oneCell') = true) := by
          unfold Hid
          rw [Array.all_eq_true_iff_forall_mem]
          intro v hv
          simp at hv
          rcases hv with rfl | rfl | rfl <;> rfl
        have HND : Hid (NdAt (W1.setRow g4 #[.string x.nm, .slice ya x.ps.length yc, .slice za x.ks.length zc]) G x (.slice ya x.ps.length yc) (.slice za x.ks.length zc)) := by
          obtain ⟨b1, off1, x1, y1, z1, e1, c1, c2, c3, h41, HX1⟩ := nd_kid HN0.out hlt
          have ex : x1 = x := HX1.out.symm.trans HX.out
          subst ex
          injection e1 with e1
          injection e1 with e1 e2 _
          subst e1 e2
          have M := Moved.of_below HB.out (fun _ => False)
          have q2 := cell_kept M id c2
          have q3 := cell_kept M id c3
          rw [h2] at q2
          rw [h3] at q3
          injection q2 with q2
          injection q3 with q3
          rw [q2, q3]
          exact HKP.out _ _ _ _ h41
        have HBF : Hid (Below w.heap.size w (W1.setRow g4 #[.string x.nm, .slice ya x.ps.length yc, .slice za x.ks.length zc])) := below_setRow HB.out HG4.out _
        clear he HX h4 HJ HHIT HNO HN HN0 HKP
        go_wp2_with (refine wpList_store_row rfl 34 (.tmp 4) (.tmp 26) rfl g4 #[.string x.nm, .slice ya x.ps.length yc, .slice za x.ks.length zc] rfl rfl _ _ HA4.out (infoNd _ _ _) rfl HONE.out ?_)
        exact bodyPost_ret (results_rowN rfl _ _ g4 _ #[.string x.nm, .slice ya x.ps.length yc, .slice za x.ks.length zc] _ _ rfl (HA4.out.row _) Tryd.underlying34 rfl (infoNd _ _ _)) rfl ⟨_, _, by rw [HE.out]; rfl, by rw [HE.out]; exact HND.out, HBF.out⟩
      · have d1 : (x.nm.toList == nm.toList) = false := by simpa using str_ne12 he
        have HJ1 : Hid (∀ j, j < i + 1 → decide ((n.ks.getD j nd0).nm = nm) = false) := fun j hj => by
          by_cases e : j = i
          · rw [e, HX.out]; exact decide_eq_false he
          · exact HJ.out j (by omega)
        clear he HX h4 HJ
        go_wp2
        go_round
        case rel => exact ⟨i + 1, by omega, by go_num, HJ1.out⟩
        case measure => simp [intOf]; omega
    · obtain rfl : i = n.ks.length := by omega
      have HE : Hid (R = none) := HNO.out HJ.out
      have HBF : Hid (Below w.heap.size w (W1.setRow g4 #[.string ⟨#[]⟩, .slice none 0 0, .slice none 0 0])) := below_setRow HB.out HG4.out _
      clear HJ HHIT HNO HN HN0 HKP
      go_wp2_with (refine wpList_store_row rfl 34 (.tmp 4) (.tmp 27) rfl g4 #[.string ⟨#[]⟩, .slice none 0 0, .slice none 0 0] rfl rfl _ _ HA4.out (infoNd _ _ _) rfl zl_one ?_)
      exact bodyPost_ret (results_rowN rfl _ _ g4 _ #[.string ⟨#[]⟩, .slice none 0 0, .slice none 0 0] _ _ rfl (HA4.out.row _) Tryd.underlying34 rfl (infoNd _ _ _)) rfl ⟨_, _, by rw [HE.out]; rfl, by rw [HE.out]; exact nd0_at _ _, HBF.out⟩

set_option maxHeartbeats 1600000 in
set_option maxRecDepth 100000 in
theorem rvalue_any (G : Nat → Prop) (n : ND) (v2 v3 : Value) (nm : ByteArray) (w : World) (hN : NdAt w G n v2 v3) :
    Calls Tryd.prog 20 #[.agg #[.string n.nm, v2, v3], .string nm] w fun e w' => e = .returned (.tuple #[.string ((valR n nm).getD ⟨#[]⟩), .bool (valR n nm).isSome]) ∧ Below w.heap.size w w' := by
  obtain ⟨A, K, pc, kc, rfl, rfl, hpc, hpm, hkc, hkm⟩ := nd_shape hN
  unfold maxLen at hpm hkm
  have HHIT : Hid (∀ k, k < n.ps.length → (∀ j, j < k → decide ((n.ps.getD j pr0).nm = nm) = false) → decide ((n.ps.getD k pr0).nm = nm) = true → valR n nm = some (n.ps.getD k pr0).vl) := fun k hk hj h => by
    unfold valR; rw [find_take (f := fun x : PR => decide (x.nm = nm)) (d := pr0) hk hj h]; rfl
  have HNO : Hid ((∀ j, j < n.ps.length → decide ((n.ps.getD j pr0).nm = nm) = false) → valR n nm = none) := fun h => by
    unfold valR; rw [find_none (f := fun x : PR => decide (x.nm = nm)) (d := pr0) h]; rfl
  generalize valR n nm = R at *
  obtain ⟨W1, hW1⟩ : ∃ W1, W1 = w.alloc (.cells #[.string n.nm, .slice A n.ps.length pc, .slice K n.ks.length kc] 34) := ⟨_, rfl⟩
  obtain ⟨g2, hg2⟩ : ∃ g2, g2 = w.heap.size := ⟨_, rfl⟩
  have hB1 : Below w.heap.size w W1 := by rw [hW1]; exact (Below.refl _ _).alloc (Nat.le_refl _) _
  have hA2 : Arr W1 g2 34 #[.string n.nm, .slice A n.ps.length pc, .slice K n.ks.length kc] := by rw [hW1, hg2]; exact Arr.new w _ _
  have HN := Lib.hid (nd_below hN hB1)
  have HB := Lib.hid hB1
  have k1 : W1.cell? ⟨g2, 1, none⟩ = some (.slice A n.ps.length pc) := hA2.cell 1
  clear hN hB1 hA2
  go_enter Tryd.func20, Tryd.ntmps20
  go_upto_region 1 with fail
  rw [← hW1, ← hg2]
  clear hW1 hg2
  go_wp2
  go_loop [6] (fun iv => ∃ i : Nat, i ≤ n.ps.length ∧ iv = .int .i64 i ∧ Hid (∀ j, j < i → decide ((n.ps.getD j pr0).nm = nm) = false)) (fun iv => n.ps.length - (intOf iv).toNat)
  case atStart => exact ⟨0, Nat.zero_le _, rfl, fun j h => absurd h (Nat.not_lt_zero _)⟩
  case round =>
    obtain ⟨i, hi, rfl, HJ⟩ := hrel
    by_cases hlt : i < n.ps.length
    · have hii : (i : Int) < n.ps.length := by omega
      obtain ⟨b, off, x, rfl, ⟨h1, h2⟩, HX⟩ := nd_prop HN.out hlt
      by_cases he : x.nm = nm
      · have d1 : (x.nm.toList == nm.toList) = true := by rw [he]; simp
        have HE : Hid (R = some x.vl) := by
          have := HHIT.out i hlt HJ.out (by rw [HX.out]; exact decide_eq_true he)
          rw [HX.out] at this
          exact this
        clear he HX HJ HHIT HNO HN
        go_wp2
        go_ret2
        exact ⟨by rw [HE.out]; rfl, HB.out⟩
      · have d1 : (x.nm.toList == nm.toList) = false := by simpa using str_ne12 he
        have HJ1 : Hid (∀ j, j < i + 1 → decide ((n.ps.getD j pr0).nm = nm) = false) := fun j hj => by
          by_cases e : j = i
          · rw [e, HX.out]; exact decide_eq_false he
          · exact HJ.out j (by omega)
        clear he HX HJ
        go_wp2
        go_round
        case rel => exact ⟨i + 1, by omega, by go_num, HJ1.out⟩
        case measure => simp [intOf]; omega
    · obtain rfl : i = n.ps.length := by omega
      have HE : Hid (R = none) := HNO.out HJ.out
      clear HJ HHIT HNO HN
      go_wp2
      go_ret2
      exact ⟨by rw [HE.out]; rfl, HB.out⟩
end Go.Proofs.YtjphecfkjpfkeaaDoor
