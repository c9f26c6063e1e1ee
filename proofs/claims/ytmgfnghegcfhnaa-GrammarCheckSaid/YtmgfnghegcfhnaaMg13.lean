/- What the document's count, Count and Fits of trees return. Conditions: a tree that is read, of at most 2^40 nodes and properties. -/
import Derived.Test.YtmgfnghegcfhnaaMg12
import Derived.Laws.ResultCell
namespace Go.Proofs.Ytmgfnghegcfhnaa
open Go.RowKit

/-- The counts behind j kids. -/
def ctF (k : Nat) (n : ND) (j : Nat) : CT := (n.ks.take j).foldl (fun x y => ctAdd x (countR k y)) ⟨1, n.ps.length, 0⟩
theorem ctF_succ (k : Nat) (n : ND) {j : Nat} (hj : j < n.ks.length) : ctF k n (j + 1) = ctAdd (ctF k n j) (countR k (n.ks.getD j nd0)) := by
  unfold ctF
  rw [List.take_succ_eq_append_getElem hj, List.foldl_append]
  have e : n.ks.getD j nd0 = n.ks[j] := by rw [List.getD_eq_getElem?_getD, List.getElem?_eq_getElem hj]; rfl
  rw [e]; rfl
theorem countR_eq (k : Nat) (n : ND) : countR (k + 1) n = ⟨(ctF k n n.ks.length).a, (ctF k n n.ks.length).b, (ctF k n n.ks.length).c + 1⟩ := by
  unfold ctF; rw [List.take_length]; rfl
theorem ctF_mono (k : Nat) (n : ND) : ∀ (d j : Nat), j + d ≤ n.ks.length → (ctF k n j).a ≤ (ctF k n (j + d)).a ∧ (ctF k n j).b ≤ (ctF k n (j + d)).b ∧ (ctF k n j).c ≤ (ctF k n (j + d)).c
  | 0, _, _ => ⟨Nat.le_refl _, Nat.le_refl _, Nat.le_refl _⟩
  | d + 1, j, h => by
    have ih := ctF_mono k n d j (by omega)
    rw [show j + (d + 1) = j + d + 1 by omega, ctF_succ k n (show j + d < n.ks.length by omega)]
    simp only [ctAdd]
    omega
theorem ctF_le (k : Nat) (n : ND) {j : Nat} (hj : j ≤ n.ks.length) : (ctF k n j).a ≤ (countR (k + 1) n).a ∧ (ctF k n j).b ≤ (countR (k + 1) n).b ∧ (ctF k n j).c + 1 ≤ (countR (k + 1) n).c := by
  have h := ctF_mono k n (n.ks.length - j) j (by omega)
  rw [show j + (n.ks.length - j) = n.ks.length by omega] at h
  rw [countR_eq]
  simp only; omega
theorem kid_le (k : Nat) (n : ND) {j : Nat} (hj : j < n.ks.length) : (countR k (n.ks.getD j nd0)).a ≤ (countR (k + 1) n).a ∧ (countR k (n.ks.getD j nd0)).b ≤ (countR (k + 1) n).b ∧ (countR k (n.ks.getD j nd0)).c + 1 ≤ (countR (k + 1) n).c := by
  have h := ctF_le k n (j := j + 1) (by omega)
  rw [ctF_succ k n hj] at h
  simp only [ctAdd] at h
  omega
theorem depth_le : ∀ (k : Nat) (n : ND), (countR k n).c ≤ k
  | 0, _ => Nat.le_refl _
  | k + 1, n => by
    rw [countR_eq]
    show (ctF k n n.ks.length).c + 1 ≤ k + 1
    have : ∀ j, j ≤ n.ks.length → (ctF k n j).c ≤ k := by
      intro j
      induction j with
      | zero => intro _; exact Nat.zero_le _
      | succ j ih =>
        intro hj
        rw [ctF_succ k n (by omega)]
        have h1 := ih (by omega)
        have h2 := depth_le k (n.ks.getD j nd0)
        simp only [ctAdd]; omega
    have := this _ (Nat.le_refl _)
    omega
theorem props_le (k : Nat) (n : ND) : n.ps.length ≤ (countR (k + 1) n).b := (ctF_le k n (Nat.zero_le _)).2.1

/-- Three numbers as cells, and as a value. -/
def c3C (a b c : Nat) : Array Value := #[.int .i64 a, .int .i64 b, .int .i64 c]
def c3V (x : CT) : Value := .agg #[.int .i64 x.a, .int .i64 x.b, .int .i64 x.c]
theorem info3 (a b c : Nat) : (Try.prog.info? 53).map (·.size) = some (c3C a b c).size := by show _ = some 3; kernel_rfl
theorem c3_one (a b c : Nat) : (c3C a b c).all (·.oneCell') = true := by
  rw [Array.all_eq_true_iff_forall_mem]
  intro v hv
  simp [c3C] at hv
  rcases hv with rfl | rfl | rfl <;> rfl

set_option maxHeartbeats 3200000 in
set_option maxRecDepth 100000 in
theorem rcount_any : ∀ (k : Nat) (G : Nat → Prop) (n : ND) (v2 v3 : Value) (w : World), k ≤ 20 → (countR k n).a ≤ 1099511627776 → (countR k n).b ≤ 1099511627776 → NdAt w G n v2 v3 →
    Calls Try.prog 43 #[.agg #[.string n.nm, v2, v3], .int .i64 (k : Int)] w fun e w' => e = .returned (c3V (countR k n)) ∧ Below w.heap.size w w'
  | 0, _, n, v2, v3, w, _, _, _, _ => by
    have HA4 : Hid (Arr ((w.alloc (.cells #[.string n.nm, v2, v3] 29)).alloc (.cells (c3C 0 0 0) 53)) (w.heap.size + 1) 53 (c3C 0 0 0)) := Arr.new1 w _ _ _
    have HB : Hid (Below w.heap.size w ((w.alloc (.cells #[.string n.nm, v2, v3] 29)).alloc (.cells (c3C 0 0 0) 53))) := ((Below.refl _ _).alloc (Nat.le_refl _) _).alloc (by rw [sz_alloc]; omega) _
    go_enter Try.func43, Try.ntmps43
    go_wp2_with (refine wpList_store_row rfl 53 (.tmp 4) (.tmp 10) rfl (w.heap.size + 1) (c3C 0 0 0) rfl rfl _ _ HA4.out (info3 _ _ _) rfl (c3_one _ _ _) ?_)
    exact bodyPost_ret (v := c3V ⟨0, 0, 0⟩) (results_cell_row rfl _ _ (w.heap.size + 1) _ (c3C 0 0 0) _ _ rfl (HA4.out.row _) Try.underlying53 rfl (info3 _ _ _)) rfl ⟨rfl, below_setRow HB.out (Nat.le_succ _) _⟩
  | k + 1, _, n, v2, v3, w, hk20, ha, hb, hN0 => by
    have hN := nd_lt hN0
    clear hN0
    have HIH := Lib.hid (fun x y z W h1 h2 h => rcount_any k (fun b => b < w.heap.size) x y z W (by omega) h1 h2 h)
    have e1 : (k : Int) = ((k + 1 : Nat) : Int) - 1 := by omega
    rw [e1] at HIH
    obtain ⟨A, K, pc, kc, rfl, rfl, hpc, hpm, hkc, hkm⟩ := nd_shape hN
    unfold maxLen at hpm hkm
    have HKL := Lib.hid (fun j (hj : j < n.ks.length) => kid_le k n hj)
    have HFL := Lib.hid (fun j (hj : j ≤ n.ks.length) => ctF_le k n hj)
    have HDL := Lib.hid (depth_le (k + 1) n)
    have hpb := props_le k n
    have HSU := Lib.hid (fun j (hj : j < n.ks.length) => ctF_succ k n hj)
    have HRE := Lib.hid (countR_eq k n)
    have HF0 : Hid (ctF k n 0 = ⟨1, n.ps.length, 0⟩) := rfl
    generalize countR (k + 1) n = R at *
    clear e1
    have d0 : (((k + 1 : Nat) : Int) == 0) = false := by simp; omega
    obtain ⟨KK, hKK⟩ : ∃ KK : Nat, KK = k + 1 := ⟨_, rfl⟩
    rw [← hKK] at HIH d0 hk20 HDL ⊢
    obtain ⟨W1, hW1⟩ : ∃ W1, W1 = (w.alloc (.cells #[.string n.nm, .slice A n.ps.length pc, .slice K n.ks.length kc] 29)).alloc (.cells (c3C 0 0 0) 53) := ⟨_, rfl⟩
    obtain ⟨g8, hg8⟩ : ∃ g8, g8 = w.heap.size := ⟨_, rfl⟩
    obtain ⟨g4, hg4⟩ : ∃ g4, g4 = w.heap.size + 1 := ⟨_, rfl⟩
    have hB1 : Below w.heap.size w W1 := by rw [hW1]; exact ((Below.refl _ _).alloc (Nat.le_refl _) _).alloc (by rw [sz_alloc]; omega) _
    have hA8 : Arr W1 g8 29 #[.string n.nm, .slice A n.ps.length pc, .slice K n.ks.length kc] := by rw [hW1, hg8]; exact (Arr.new w _ _).alloc _
    have hA4 : Arr W1 g4 53 (c3C 0 0 0) := by rw [hW1, hg4]; exact Arr.new1 w _ _ _
    have hN1 := nd_below hN hB1
    have hz1 := hB1.size
    have k1 : W1.cell? ⟨g8, 1, none⟩ = some (.slice A n.ps.length pc) := hA8.cell 1
    have HA50 := Lib.hid (Arr.new W1 53 (c3C 0 0 0))
    have HA5 := Lib.hid (HA50.out.row (c3C 1 n.ps.length 0))
    have hbw : Below W1.heap.size W1 ((W1.alloc (.cells (c3C 0 0 0) 53)).setRow W1.heap.size (c3C 1 n.ps.length 0)) := below_setRow ((Below.refl _ _).alloc (Nat.le_refl _) _) (Nat.le_refl _) _
    have HA8 := Lib.hid (hA8.below hbw hA8.lt)
    have HA4 := Lib.hid (hA4.below hbw hA4.lt)
    have h48 : g4 < W1.heap.size ∧ g8 < W1.heap.size ∧ w.heap.size ≤ g4 := ⟨hA4.lt, hA8.lt, by omega⟩
    have HN2 := Lib.hid (nd_below hN1 hbw)
    have HB2 := Lib.hid (hB1.trans (hbw.mono hz1))
    have hz2 := HB2.out.size
    clear hN hN1 hB1 hA8 hA4 hbw hKK
    go_enter Try.func43, Try.ntmps43
    go_upto_region 1 with fail
    change Code.wp _ _ _ _ ((w.alloc (.cells #[.string n.nm, .slice A n.ps.length pc, .slice K n.ks.length kc] 29)).alloc (.cells (c3C 0 0 0) 53))
    rw [← hW1, ← hg4, ← hg8]
    clear hW1 hg4 hg8
    go_upto_region 4 with (first
      | (refine wpList_store_row rfl 53 (.tmp 5) (.tmp 14) rfl W1.heap.size (c3C 1 n.ps.length 0) rfl rfl _ _ HA50.out (info3 _ _ _) rfl (c3_one _ _ _) ?_))
    change Code.wp _ _ _ _ ((W1.alloc (.cells (c3C 0 0 0) 53)).setRow W1.heap.size (c3C 1 n.ps.length 0))
    generalize (W1.alloc (.cells (c3C 0 0 0) 53)).setRow W1.heap.size (c3C 1 n.ps.length 0) = W2 at *
    obtain ⟨g5, hg5⟩ : ∃ g5, g5 = W1.heap.size := ⟨_, rfl⟩
    rw [← hg5] at HA5 h48
    rw [← hg5]
    have hg5b : w.heap.size ≤ g5 := by omega
    have hz2' : g5 < W2.heap.size := HA5.out.lt
    clear HA50 hg5 k1
    go_wp2
    go_loopw [6] (fun i wr => ∃ j : Nat, j ≤ n.ks.length ∧ i = .int .i64 j ∧ Arr wr g5 53 (c3C (ctF k n j).a (ctF k n j).b (ctF k n j).c) ∧ W2.grownBy wr (some g5)) (fun i _ => n.ks.length - (intOf i).toNat)
    case atStart => exact ⟨0, Nat.zero_le _, rfl, HA5.out, gr_below (Below.refl _ _)⟩
    case round =>
      clear HA5
      obtain ⟨j, hj, rfl, hA5, hgr⟩ := hrel
      have HA5 := Lib.hid hA5
      have HGR := Lib.hid hgr
      have hzr := hgr.size
      have HA8r := Lib.hid (HA8.out.gr hgr (fun e => by have := Option.some.inj e; omega))
      have k2 : wr.cell? ⟨g8, 2, none⟩ = some (.slice K n.ks.length kc) := HA8r.out.cell 2
      have hfl := HFL.out j hj
      by_cases hlt : j < n.ks.length
      · have hji : (j : Int) < n.ks.length := by omega
        obtain ⟨b0, off, x, y, z, rfl, h1, h2, h3, h4, HX⟩ := nd_kid (nd_grown HN2.out hgr hg5b) hlt
        have hkl := HKL.out j hlt
        have hsu := HSU.out j hlt
        rw [HX.out] at hkl hsu
        have HSJ := Lib.hid hsu
        have HC := Lib.hid (HIH.out x y z wr (by omega) (by omega) h4)
        clear hgr hA5 h4 HX hsu
        rcases hxc : countR k x with ⟨a', b', c'⟩
        rcases hfc : ctF k n j with ⟨a, b, c⟩
        rw [hxc] at HC hkl HSJ
        rw [hfc] at HA5 hfl HSJ
        simp only at hkl hfl
        clear hxc hfc
        go_wp2_with fail
        refine HC.out.mono ?_
        rintro e w3 ⟨rfl, hb3⟩
        have HA53 := Lib.hid (HA5.out.below hb3 HA5.out.lt)
        have HGR3 := Lib.hid (World.grownBy.trans HGR.out (gr_below (r := some g5) hb3))
        have hz3 := hb3.size
        have HA70 := Lib.hid (Arr.new w3 53 (c3C 0 0 0))
        have HA7 := Lib.hid (HA70.out.row (c3C a' b' c'))
        have hbw : Below w3.heap.size w3 ((w3.alloc (.cells (c3C 0 0 0) 53)).setRow w3.heap.size (c3C a' b' c')) := below_setRow ((Below.refl _ _).alloc (Nat.le_refl _) _) (Nat.le_refl _) _
        have HA54 := Lib.hid (HA53.out.below hbw HA53.out.lt)
        have HGR4 := Lib.hid (World.grownBy.trans HGR3.out (gr_below (r := some g5) hbw))
        have hg57 : g5 < w3.heap.size := HA53.out.lt
        clear hb3 hbw HC HGR HGR3 HA5 HA53 HIH
        go_upto_region 8 with (first
          | (refine wpList_store_row rfl 53 (.tmp 7) (.tmp 29) rfl w3.heap.size (c3C a' b' c') rfl rfl _ _ HA70.out (info3 _ _ _) rfl (c3_one _ _ _) ?_))
        change Code.wp _ _ _ _ ((w3.alloc (.cells (c3C 0 0 0) 53)).setRow w3.heap.size (c3C a' b' c'))
        generalize (w3.alloc (.cells (c3C 0 0 0) 53)).setRow w3.heap.size (c3C a' b' c') = w4 at *
        generalize w3.heap.size = g7 at *
        have k50 : w4.cell? ⟨g5, 0, none⟩ = some (.int .i64 a) := HA54.out.cell 0
        have k70 : w4.cell? ⟨g7, 0, none⟩ = some (.int .i64 a') := HA7.out.cell 0
        have f50 := HA54.out.frozen 0
        have hne : g7 ≠ g5 := by omega
        have HA55 : Hid (Arr (w4.setCell ⟨g5, 0, none⟩ (.int .i64 ((a : Int) + (a' : Int)))) g5 53 #[.int .i64 ((a : Int) + (a' : Int)), .int .i64 b, .int .i64 c]) := HA54.out.put 0 _
        have HA75 := Lib.hid (HA7.out.far hne (.int .i64 ((a : Int) + (a' : Int))) (j := 0))
        have HGR5 := Lib.hid (World.grownBy.trans HGR4.out (gr_cell w4 g5 0 (.int .i64 ((a : Int) + (a' : Int)))))
        go_upto_region 9 with fail
        generalize w4.setCell ⟨g5, 0, none⟩ (.int .i64 ((a : Int) + (a' : Int))) = w5 at *
        have k51 : w5.cell? ⟨g5, 1, none⟩ = some (.int .i64 b) := HA55.out.cell 1
        have k71 : w5.cell? ⟨g7, 1, none⟩ = some (.int .i64 b') := HA75.out.cell 1
        have f51 := HA55.out.frozen 1
        have HA56 : Hid (Arr (w5.setCell ⟨g5, 1, none⟩ (.int .i64 ((b : Int) + (b' : Int)))) g5 53 #[.int .i64 ((a : Int) + (a' : Int)), .int .i64 ((b : Int) + (b' : Int)), .int .i64 c]) := HA55.out.put 1 _
        have HA76 := Lib.hid (HA75.out.far hne (.int .i64 ((b : Int) + (b' : Int))) (j := 1))
        have HGR6 := Lib.hid (World.grownBy.trans HGR5.out (gr_cell w5 g5 1 (.int .i64 ((b : Int) + (b' : Int)))))
        clear k50 k70 f50 HA54 HA7 HGR4 HA55 HA75 HGR5
        go_upto_region 10 with fail
        generalize w5.setCell ⟨g5, 1, none⟩ (.int .i64 ((b : Int) + (b' : Int))) = w6 at *
        have k52 : w6.cell? ⟨g5, 2, none⟩ = some (.int .i64 c) := HA56.out.cell 2
        have k72 : w6.cell? ⟨g7, 2, none⟩ = some (.int .i64 c') := HA76.out.cell 2
        have f52 := HA56.out.frozen 2
        clear k51 k71 f51
        by_cases hcc : c < c'
        · have HA57 : Hid (Arr (w6.setCell ⟨g5, 2, none⟩ (.int .i64 c')) g5 53 #[.int .i64 ((a : Int) + (a' : Int)), .int .i64 ((b : Int) + (b' : Int)), .int .i64 c']) := HA56.out.put 2 _
          have HGR7 := Lib.hid (World.grownBy.trans HGR6.out (gr_cell w6 g5 2 (.int .i64 c')))
          have HE : Hid (c3C (ctF k n (j + 1)).a (ctF k n (j + 1)).b (ctF k n (j + 1)).c = #[.int .i64 ((a : Int) + (a' : Int)), .int .i64 ((b : Int) + (b' : Int)), .int .i64 c']) := by
            unfold Hid; rw [HSJ.out]; simp only [ctAdd, c3C]; rw [show max c c' = c' by omega]; simp
          have hcc' : (c : Int) < c' := by omega
          clear HA56 HA76 HGR6
          go_wp2
          go_roundw
          case rel =>
            try rw [show max (c : Int) (c' : Int) = (c' : Int) by omega]
            exact ⟨j + 1, by omega, by go_num, by rw [HE.out]; exact HA57.out, HGR7.out⟩
          case measure => simp [intOf]; omega
        · have HA57 : Hid (Arr (w6.setCell ⟨g5, 2, none⟩ (.int .i64 c)) g5 53 #[.int .i64 ((a : Int) + (a' : Int)), .int .i64 ((b : Int) + (b' : Int)), .int .i64 c]) := HA56.out.put 2 _
          have HGR7 := Lib.hid (World.grownBy.trans HGR6.out (gr_cell w6 g5 2 (.int .i64 c)))
          have HE : Hid (c3C (ctF k n (j + 1)).a (ctF k n (j + 1)).b (ctF k n (j + 1)).c = #[.int .i64 ((a : Int) + (a' : Int)), .int .i64 ((b : Int) + (b' : Int)), .int .i64 c]) := by
            unfold Hid; rw [HSJ.out]; simp only [ctAdd, c3C]; rw [show max c c' = c by omega]; simp
          have hcc' : (c' : Int) ≤ c := by omega
          clear HA56 HA76 HGR6
          go_wp2
          go_roundw
          case rel =>
            try rw [show max (c : Int) (c' : Int) = (c : Int) by omega]
            exact ⟨j + 1, by omega, by go_num, by rw [HE.out]; exact HA57.out, HGR7.out⟩
          case measure => simp [intOf]; omega
      · obtain rfl : j = n.ks.length := by omega
        have hdl := HDL.out
        have hre := HRE.out
        rcases hfc : ctF k n n.ks.length with ⟨a, b, c⟩
        rw [hfc] at HA5 hre hfl
        simp only at hre hfl
        have HRR := Lib.hid hre
        clear hfc hre hA5
        have k52 : wr.cell? ⟨g5, 2, none⟩ = some (.int .i64 c) := HA5.out.cell 2
        have f52 := HA5.out.frozen 2
        have HA6 : Hid (Arr (wr.setCell ⟨g5, 2, none⟩ (.int .i64 ((c : Int) + 1))) g5 53 #[.int .i64 a, .int .i64 b, .int .i64 ((c : Int) + 1)]) := HA5.out.put 2 _
        have hA4r := HA4.out.gr hgr (fun e => by have := Option.some.inj e; omega)
        have HA4r := Lib.hid (hA4r.far (show g4 ≠ g5 by omega) (.int .i64 ((c : Int) + 1)) (j := 2))
        have HB3 := Lib.hid (HB2.out.grown (World.grownBy.trans hgr (gr_cell wr g5 2 (.int .i64 ((c : Int) + 1)))) hz2 (fun k hk => by injection hk with hk; omega))
        clear hgr hA4r
        go_upto_region 12 with fail
        generalize wr.setCell ⟨g5, 2, none⟩ (.int .i64 ((c : Int) + 1)) = w6 at *
        have hg4w : w.heap.size ≤ g4 := h48.2.2
        go_wp2_with (first
          | (refine wpList_load_row rfl 53 (.tmp 5) rfl g5 rfl _ #[.int .i64 a, .int .i64 b, .int .i64 ((c : Int) + 1)] _ _ HA6.out Try.underlying53 rfl (by show _ = some 3; kernel_rfl) ?_)
          | (refine wpList_store_row rfl 53 (.tmp 4) (.tmp 52) rfl g4 (c3C a b (c + 1)) rfl rfl _ _ HA4r.out (info3 _ _ _) rfl (c3_one _ _ _) ?_))
        rw [HRR.out]
        exact bodyPost_ret (v := c3V ⟨a, b, c + 1⟩) (results_cell_row rfl _ _ g4 _ (c3C a b (c + 1)) _ _ rfl (HA4r.out.row _) Try.underlying53 rfl (info3 _ _ _)) rfl ⟨rfl, below_setRow HB3.out hg4w _⟩
end Go.Proofs.Ytmgfnghegcfhnaa
