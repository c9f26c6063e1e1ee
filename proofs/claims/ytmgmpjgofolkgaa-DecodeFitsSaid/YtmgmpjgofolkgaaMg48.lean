/- The law DecodeFits: whatever comes in it returns true. Conditions: the contracts of package decode. -/
import Derived.Test.YtmgmpjgofolkgaaMg46
import Derived.Test.YtmgmpjgofolkgaaMg47
import Derived.Test.YtmgmpjgofolkgaaMg41
namespace Go.Proofs.Ytmgmpjgofolkgaa
open Go.RowKit

set_option maxHeartbeats 3200000 in
set_option maxRecDepth 100000 in
theorem decodeFits_any (M : DecMust) (s m : ByteArray) (w : World) :
    Calls Try.prog 4 #[.string s, .string m] w fun e w' => e = .returned (.bool true) ∧ Below w.heap.size w w' := by
  have HAW := Lib.hid (awake14 M)
  have HB : Hid (Below w.heap.size w w) := Below.refl _ _
  by_cases h1 : 2048 < s.size
  · have d1 : decide ((2048 : Int) < s.size) = true := decide_eq_true (by omega)
    clear M h1
    go_enter Try.func4, Try.ntmps4
    go_wp2_with fail
    refine (HAW.out _).mono ?_
    rintro e w9 ⟨rfl, hb⟩
    have HB := Lib.hid (HB.out.trans (hb.mono HB.out.size))
    clear hb
    go_wp2
    go_ret
    exact ⟨rfl, HB.out⟩
  · have d1 : decide ((2048 : Int) < s.size) = false := decide_eq_false (by omega)
    by_cases h2 : 100 < m.size
    · have d2 : decide ((100 : Int) < m.size) = true := decide_eq_true (by omega)
      clear M h1 h2
      go_enter Try.func4, Try.ntmps4
      go_wp2_with fail
      refine (HAW.out _).mono ?_
      rintro e w9 ⟨rfl, hb⟩
      have HB := Lib.hid (HB.out.trans (hb.mono HB.out.size))
      clear hb
      go_wp2
      go_ret
      exact ⟨rfl, HB.out⟩
    · have d2 : decide ((100 : Int) < m.size) = false := decide_eq_false (by omega)
      have hs2 : s.size ≤ 2048 := by omega
      have hm2 : m.size ≤ 100 := by omega
      have hlen : s.data.toList.length = s.size := rfl
      have C1 := Lib.hid (fun W => M.tree s W (by omega))
      by_cases he : (treeD s.data.toList).2 = 0
      · obtain ⟨T, hT⟩ : ∃ T, treeD s.data.toList = (T, 0) := ⟨_, Prod.ext rfl he⟩
        obtain ⟨hr, hf, hl⟩ := treeD_ok hT
        obtain ⟨hd, hh⟩ : ∃ h, readH s.data.toList = (h, 0) := ⟨_, Prod.ext rfl hr⟩
        obtain ⟨hy0, hl1, hl2, hl3, -⟩ := readH_ok hh
        have hy := (mayH_iff.1 hy0).1
        obtain ⟨t1, t2⟩ := treeD_more (m := m.data.toList) hT
        have C2 := Lib.hid (fun W => M.size s W (by omega))
        rw [hh] at C2 t1 t2
        rw [hT] at C1
        obtain ⟨k, hk⟩ : ∃ k : Nat, hd.tot = ((k + 1 : Nat) : Int) := ⟨hd.tot.toNat - 1, by omega⟩
        simp only at C2 t1 t2
        rw [hk] at C2 t1 t2 hy hl1
        rw [Int.toNat_natCast] at t1 t2
        rw [Nat.add_sub_cancel] at t2
        rw [← ext0_list] at t1 t2
        have hE : (s.extract 0 (k + 1) ++ m).data.toList = (s.extract 0 (k + 1)).data.toList ++ m.data.toList := by rw [ByteArray.data_append, Array.toList_append]
        rw [← hE] at t1
        have hz1 : (s.extract 0 (k + 1)).size ≤ 2048 := by rw [ByteArray.size_extract]; omega
        have a1 : ∀ W, (Op.stringOp .add (s.extract 0 (k + 1)) m).run Try.prog W = .ok (.string (s.extract 0 (k + 1) ++ m)) W := fun W => run_string_add_sum W _ _ (by omega)
        have C3 := Lib.hid (fun W => M.tree (s.extract 0 (k + 1) ++ m) W (by rw [ByteArray.size_append]; omega))
        have C4 := Lib.hid (fun W => M.tree (s.extract 0 k) W (by rw [ByteArray.size_extract]; omega))
        rw [t1] at C3
        rw [t2] at C4
        have C4 : Hid (∀ W, Calls Try.prog 6 #[.string (s.extract 0 k)] W fun e w' => ∃ v2 v3 A cap, e = .returned (.tuple #[.agg (dtC ⟨#[]⟩ v2 v3 (.slice A 0 cap) 0), .int .i64 14]) ∧ DtAt w' dt0 v2 v3 A ∧ Below W.heap.size W w') := C4
        have hsz := sz_count (sz_of_fits hf)
        have C5 : Hid (∀ W v2 v3, NdAt W (fun k => k < W.heap.size) T.rt v2 v3 → Calls Try.prog 14 #[.agg #[.string T.rt.nm, v2, v3]] W fun e w' => e = .returned (.bool true) ∧ Below W.heap.size W w') := fun W v2 v3 h => by
          have := rFits_any _ T.rt v2 v3 W (Nat.le_trans hsz.1 (by decide)) (Nat.le_trans hsz.2.1 (by decide)) h
          rwa [hf] at this
        have C6 := Lib.hid (fun v2 v3 u2 u3 A A' c c' W => rSameT_any T v2 v3 u2 u3 A A' c c' W (Nat.le_trans hl (by decide)))
        have q1 : IntKind.i64.wrap ((((k + 1 : Nat)) : Int) - 1) = (k : Int) := by rw [IntWalk.i64_in _ (by omega)]; omega
        have b1 : (40 : Int) ≤ ((k + 1 : Nat) : Int) := by omega
        have b2 : ((k + 1 : Nat) : Int) ≤ s.size := by omega
        have b3 : (0 : Int) ≤ ((k + 1 : Nat) : Int) := by omega
        have b4 : (k : Int) ≤ s.size := by omega
        have b5 : (0 : Int) ≤ (k : Int) := by omega
        have b6 : k ≤ s.size := by omega
        have e1 : decide (((k + 1 : Nat) : Int) < 40) = false := decide_eq_false (by omega)
        have e2 : decide ((s.size : Int) < ((k + 1 : Nat) : Int)) = false := decide_eq_false (by omega)
        have e3 : decide ((16 : Int) < (T.rs.length : Int)) = false := decide_eq_false (by omega)
        have e4 : ¬ 16 < T.rs.length := by omega
        have HL := Lib.hid hl
        clear M h1 h2 hlen he hT hr hf hl hd hh hy hy0 hl1 hl2 hl3 t1 t2 hk hE hz1 hsz hs2 hm2
        generalize hn1 : k + 1 = n at *
        clear hn1
        generalize s.extract 0 n ++ m = X at *
        go_enter Try.func4, Try.ntmps4
        go_wp2_with fail
        refine (C1.out _).mono ?_
        rintro e w1 ⟨p1, q1, T1, t1, rfl, hd, hb⟩
        obtain ⟨G1, F1, g1, f1, rfl, rfl, -⟩ := nd_shape hd.1
        have hb2 : Below w1.heap.size w1 ((w1.alloc (.cells (dtC T.rt.nm (.slice G1 T.rt.ps.length g1) (.slice F1 T.rt.ks.length f1) (.slice T1 T.rs.length t1) T.bo) 29))) := (Below.refl _ _).alloc (Nat.le_refl _) _
        have DD1 := Lib.hid (hd.below hb2)
        have AA1 := Lib.hid (Arr.new w1 29 (dtC T.rt.nm (.slice G1 T.rt.ps.length g1) (.slice F1 T.rt.ks.length f1) (.slice T1 T.rs.length t1) T.bo))
        have HB := Lib.hid (HB.out.trans (hb.mono HB.out.size))
        have HB := Lib.hid (HB.out.trans (hb2.mono HB.out.size))
        clear hb hd hb2
        go_upto_region 4 with fail
        generalize (w1.alloc (.cells (dtC T.rt.nm (.slice G1 T.rt.ps.length g1) (.slice F1 T.rt.ks.length f1) (.slice T1 T.rs.length t1) T.bo) 29)) = W1 at *
        generalize w1.heap.size = h1 at *
        go_wp2_with fail
        refine (C2.out _).mono ?_
        rintro e w2 ⟨rfl, hb⟩
        have DD1 := Lib.hid (DD1.out.below hb)
        have AA1 := Lib.hid (AA1.out.below hb AA1.out.lt)
        have HB := Lib.hid (HB.out.trans (hb.mono HB.out.size))
        clear hb C2
        obtain ⟨k0, k1, k2, k3, k4⟩ := dt_cells AA1.out
        go_wp2_with fail
        refine (C5.out _ _ _ DD1.out.1).mono ?_
        rintro e w3 ⟨rfl, hb⟩
        have DD1 := Lib.hid (DD1.out.below hb)
        have AA1 := Lib.hid (AA1.out.below hb AA1.out.lt)
        have HB := Lib.hid (HB.out.trans (hb.mono HB.out.size))
        clear hb C5 k0 k1 k2 k3 k4
        obtain ⟨-, -, -, k3, k4⟩ := dt_cells AA1.out
        go_wp2_with fail
        clear k3 k4
        refine (C3.out _).mono ?_
        rintro e w1 ⟨p2, q2, T2, t2, rfl, hd, hb⟩
        obtain ⟨G2, F2, g2, f2, rfl, rfl, -⟩ := nd_shape hd.1
        have hb2 : Below w1.heap.size w1 ((w1.alloc (.cells (dtC T.rt.nm (.slice G2 T.rt.ps.length g2) (.slice F2 T.rt.ks.length f2) (.slice T2 T.rs.length t2) T.bo) 29))) := (Below.refl _ _).alloc (Nat.le_refl _) _
        have DD2 := Lib.hid (hd.below hb2)
        have AA2 := Lib.hid (Arr.new w1 29 (dtC T.rt.nm (.slice G2 T.rt.ps.length g2) (.slice F2 T.rt.ks.length f2) (.slice T2 T.rs.length t2) T.bo))
        have DD1 := Lib.hid (DD1.out.below hb)
        have DD1 := Lib.hid (DD1.out.below hb2)
        have AA1 := Lib.hid (AA1.out.below hb AA1.out.lt)
        have AA1 := Lib.hid (AA1.out.below hb2 AA1.out.lt)
        have HB := Lib.hid (HB.out.trans (hb.mono HB.out.size))
        have HB := Lib.hid (HB.out.trans (hb2.mono HB.out.size))
        clear hb hd hb2
        go_upto_region 10 with fail
        generalize (w1.alloc (.cells (dtC T.rt.nm (.slice G2 T.rt.ps.length g2) (.slice F2 T.rt.ks.length f2) (.slice T2 T.rs.length t2) T.bo) 29)) = W2 at *
        generalize w1.heap.size = h2 at *
        clear C3
        go_wp2_with fail
        refine (C4.out _).mono ?_
        rintro e w1 ⟨p3, q3, T3, t3, rfl, hd, hb⟩
        obtain ⟨G3, F3, g3, f3, h2, h3, -⟩ := nd_shape hd.1
        replace h2 : p3 = .slice G3 0 g3 := h2
        replace h3 : q3 = .slice F3 0 f3 := h3
        subst h2 h3
        have hb2 : Below w1.heap.size w1 ((w1.alloc (.cells (dtC ⟨#[]⟩ (.slice G3 0 g3) (.slice F3 0 f3) (.slice T3 0 t3) 0) 29))) := (Below.refl _ _).alloc (Nat.le_refl _) _
        have DD3 := Lib.hid (hd.below hb2)
        have AA3 := Lib.hid (Arr.new w1 29 (dtC ⟨#[]⟩ (.slice G3 0 g3) (.slice F3 0 f3) (.slice T3 0 t3) 0))
        have DD1 := Lib.hid (DD1.out.below hb)
        have DD1 := Lib.hid (DD1.out.below hb2)
        have DD2 := Lib.hid (DD2.out.below hb)
        have DD2 := Lib.hid (DD2.out.below hb2)
        have AA1 := Lib.hid (AA1.out.below hb AA1.out.lt)
        have AA1 := Lib.hid (AA1.out.below hb2 AA1.out.lt)
        have AA2 := Lib.hid (AA2.out.below hb AA2.out.lt)
        have AA2 := Lib.hid (AA2.out.below hb2 AA2.out.lt)
        have HB := Lib.hid (HB.out.trans (hb.mono HB.out.size))
        have HB := Lib.hid (HB.out.trans (hb2.mono HB.out.size))
        clear hb hd hb2
        go_upto_region 11 with fail
        generalize (w1.alloc (.cells (dtC ⟨#[]⟩ (.slice G3 0 g3) (.slice F3 0 f3) (.slice T3 0 t3) 0) 29)) = W3 at *
        generalize w1.heap.size = h3 at *
        clear C4
        obtain ⟨k0, k1, k2, k3, k4⟩ := dt_cells AA1.out
        obtain ⟨l0, l1, l2, l3, l4⟩ := dt_cells AA2.out
        go_wp2_with (first | (refine wpList_load_row rfl 29 (.tmp 5) rfl h1 rfl _ _ _ _ AA1.out Try.underlying29 rfl (infoDt T.rt.nm (.slice G1 T.rt.ps.length g1) (.slice F1 T.rt.ks.length f1) (.slice T1 T.rs.length t1) T.bo) ?_) | (refine wpList_load_row rfl 29 (.tmp 9) rfl h2 rfl _ _ _ _ AA2.out Try.underlying29 rfl (infoDt T.rt.nm (.slice G2 T.rt.ps.length g2) (.slice F2 T.rt.ks.length f2) (.slice T2 T.rs.length t2) T.bo) ?_))
        refine (C6.out _ _ _ _ _ _ _ _ _ DD2.out DD1.out).mono ?_
        rintro e w6 ⟨rfl, hb⟩
        have HB := Lib.hid (HB.out.trans (hb.mono HB.out.size))
        clear hb k0 k1 k2 k3 k4 l0 l1 l2 l3 l4 C6 AA1 AA2 DD1 DD2
        go_wp2_with fail
        refine (HAW.out _).mono ?_
        rintro e w9 ⟨rfl, hb⟩
        have HB := Lib.hid (HB.out.trans (hb.mono HB.out.size))
        clear hb
        go_wp2
        go_ret
        exact ⟨rfl, HB.out⟩
      · have hz := treeD_bad he
        have C6 : Hid (∀ W v2 v3 A c, DtAt W dt0 v2 v3 A → Calls Try.prog 12 #[.agg (dtC ⟨#[]⟩ v2 v3 (.slice A 0 c) 0), .agg (dtC ⟨#[]⟩ (.slice none 0 0) (.slice none 0 0) (.slice none 0 0) 0)] W fun e w' => e = .returned (.bool true) ∧ Below W.heap.size W w') := fun W v2 v3 A c h =>
          rSameT_any dt0 v2 v3 (.slice none 0 0) (.slice none 0 0) A none c 0 W (by decide) h (dtAt_zero W)
        generalize treeD s.data.toList = D at *
        obtain ⟨T, er⟩ := D
        simp only at hz he C1
        subst hz
        have C2 : Hid (∀ W, Calls Try.prog 6 #[.string s] W fun e w' => ∃ v2 v3 A cap, e = .returned (.tuple #[.agg (dtC ⟨#[]⟩ v2 v3 (.slice A 0 cap) 0), .int .i64 (er : Int)]) ∧ DtAt w' dt0 v2 v3 A ∧ Below W.heap.size W w') := C1
        have e1 : ((er : Int) != 0) = true := by simp; omega
        clear M h1 h2 hlen he hs2 hm2 C1
        go_enter Try.func4, Try.ntmps4
        go_wp2_with fail
        refine (C2.out _).mono ?_
        rintro e w1 ⟨p4, q4, T4, t4, rfl, hd, hb⟩
        obtain ⟨G4, F4, g4, f4, h2, h3, -⟩ := nd_shape hd.1
        replace h2 : p4 = .slice G4 0 g4 := h2
        replace h3 : q4 = .slice F4 0 f4 := h3
        subst h2 h3
        have hb2 : Below w1.heap.size w1 ((w1.alloc (.cells (dtC ⟨#[]⟩ (.slice G4 0 g4) (.slice F4 0 f4) (.slice T4 0 t4) 0) 29))) := (Below.refl _ _).alloc (Nat.le_refl _) _
        have DD4 := Lib.hid (hd.below hb2)
        have AA4 := Lib.hid (Arr.new w1 29 (dtC ⟨#[]⟩ (.slice G4 0 g4) (.slice F4 0 f4) (.slice T4 0 t4) 0))
        have HB := Lib.hid (HB.out.trans (hb.mono HB.out.size))
        have HB := Lib.hid (HB.out.trans (hb2.mono HB.out.size))
        clear hb hd hb2
        go_upto_region 4 with fail
        generalize (w1.alloc (.cells (dtC ⟨#[]⟩ (.slice G4 0 g4) (.slice F4 0 f4) (.slice T4 0 t4) 0) 29)) = W4 at *
        generalize w1.heap.size = h4 at *
        clear C2
        obtain ⟨k0, k1, k2, k3, k4⟩ := dt_cells AA4.out
        go_wp2_with (refine wpList_load_row rfl 29 (.tmp 5) rfl h4 rfl _ _ _ _ AA4.out Try.underlying29 rfl (infoDt ⟨#[]⟩ (.slice G4 0 g4) (.slice F4 0 f4) (.slice T4 0 t4) 0) ?_)
        refine (C6.out _ _ _ _ _ DD4.out).mono ?_
        rintro e w6 ⟨rfl, hb⟩
        have HB := Lib.hid (HB.out.trans (hb.mono HB.out.size))
        clear hb k0 k1 k2 k3 k4 C6 AA4 DD4
        go_wp2_with fail
        refine (HAW.out _).mono ?_
        rintro e w9 ⟨rfl, hb⟩
        have HB := Lib.hid (HB.out.trans (hb.mono HB.out.size))
        clear hb
        go_wp2
        go_ret
        exact ⟨rfl, HB.out⟩
end Go.Proofs.Ytmgmpjgofolkgaa
