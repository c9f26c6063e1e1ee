/- What Join of package reserve returns. Condition: at most 1000 spans. -/
import Derived.Test.YtgfblcfleohdjaaRsM
namespace Go.Proofs.Ytgfblcfleohdjaa
open Go.RowKit

set_option maxHeartbeats 6400000 in
set_option maxRecDepth 100000 in
theorem join18_any (A : Option Addr) (cap : Nat) (l : List SP) (w : World) (hr : RdSp w A l) (hl : l.length ≤ 1000) :
    Calls Try.prog 13 #[.slice A l.length cap] w fun e w' => ∃ (v : Value) (J : List SP), e = .returned v ∧ w'.ownsRow w.heap.size 24 2 v J.length (spD J) ∧ JoinOk l J ∧ Below w.heap.size w w' ∧ J.length ≤ 1000 := by
  have HIN := Lib.hid (inOrder_any A cap l w hr hl)
  have HEL := Lib.hid elemSpD
  clear hr
  go_enter Try.func13, Try.ntmps13
  go_wp2_with fail
  refine HIN.out.mono ?_
  rintro e w1 ⟨B, cS, S, rfl, hrd, hperm, hris, hb⟩
  have HR := Lib.hid hrd
  have HPM := Lib.hid hperm
  have HRI := Lib.hid hris
  have HB := Lib.hid hb
  have HFU : Hid (∀ x ∈ S, fulS x = true) := fun x hx => (List.mem_filter.1 (hperm.mem_iff.1 hx)).2
  have HSL : Hid (S.length ≤ 1000) := by have := hperm.length_eq; have h2 := List.length_filter_le fulS l; unfold Hid; omega
  have HM0 := Lib.hid (minv_start S)
  clear hrd hb HIN hperm hris
  go_wp2
  go_loopw [3, 10] (fun jv iv wr => ∃ (k : Nat) (J : List SP), k ≤ S.length ∧ iv = .int .i64 k ∧ Hid (MInv S J k) ∧ wr.ownsRow w1.heap.size 24 2 jv J.length (spD J) ∧ Below w1.heap.size w1 wr) (fun _ iv _ => S.length - (intOf iv).toNat)
  case atStart => exact ⟨0, [], Nat.zero_le _, rfl, HM0.out, World.ownsRow_nil _ _ _ _, Below.refl _ _⟩
  case round =>
    obtain ⟨k, J, hk, rfl, HI, hown, hb⟩ := hrel
    have HOWN := Lib.hid hown
    have HB1 := Lib.hid hb
    have HSZ := Lib.hid hb.size
    have hsl := HSL.out
    clear hown HM0
    by_cases hlt : k < S.length
    · have hki : (k : Int) < S.length := by omega
      have hk0 : (0 : Int) ≤ (k : Int) := by omega
      obtain ⟨b, off, y, rfl, ⟨h1, h2⟩, HX⟩ := (HR.out.below hb).at_ hlt
      have hy0 := fulS_of (HFU.out _ (spMem hlt))
      rw [HX.out] at hy0
      obtain ⟨y1, y2, y3, y4⟩ := hy0
      have hfew := HI.out.few
      have HNEW : Hid ((∀ x ∈ J, x.p + x.n < y.p) → MInv S (J ++ [y]) (k + 1)) := fun h => by
        have := minv_new HFU.out HRI.out HI.out hlt (by rw [HX.out]; exact h)
        rwa [HX.out] at this
      have HMORE : Hid (∀ I z, J = I ++ [z] → y.p ≤ z.p + z.n → ∀ e, e = max (z.p + z.n) (y.p + y.n) → MInv S (I ++ [⟨z.p, e - z.p⟩]) (k + 1)) := fun I z hJ h e he => by
        have hi := HI.out
        rw [hJ] at hi
        exact minv_more HFU.out hi hlt (by rw [HX.out]; exact h) e (by rw [HX.out]; exact he)
      obtain ⟨W2, hW2⟩ : ∃ W2, W2 = wr.alloc (.cells #[.int .i64 y.p, .int .i64 y.n] 24) := ⟨_, rfl⟩
      obtain ⟨g5, hg5⟩ : ∃ g5, g5 = wr.heap.size := ⟨_, rfl⟩
      have hB2 : Below wr.heap.size wr W2 := by rw [hW2]; exact (Below.refl _ _).alloc (Nat.le_refl _) _
      have HA5 : Hid (Arr W2 g5 24 #[.int .i64 y.p, .int .i64 y.n]) := by rw [hW2, hg5]; exact Arr.new wr _ _
      have HO2 := Lib.hid (ow_below HOWN.out hB2)
      have HB2 : Hid (Below w1.heap.size w1 W2) := hb.trans (hB2.mono hb.size)
      have HSZ2 : Hid (w1.heap.size ≤ W2.heap.size) := HB2.out.size
      have HG5 : Hid (∀ g v, wr.ownsRow w1.heap.size 24 2 v J.length (spD J) → v.ownBlock = some g → g ≠ g5) := fun g v h e => by have := (h.lt g e).2; omega
      have hbd : Below W2.heap.size W2 W2.drew := (Below.refl _ _).drew
      have HEX : Hid (∀ W, Below W2.heap.size W2 W → Calls Try.prog 25 #[.agg #[.int .i64 y.p, .int .i64 y.n]] W fun e w' => e = .returned (.int .i64 (y.p + y.n)) ∧ Below W2.heap.size W2 w') := fun W h => (end_any y W (by omega)).mono fun _ _ ⟨g1, g2⟩ => ⟨g1, h.trans (g2.mono h.size)⟩
      have HC5 : Hid (∀ W, Below W2.heap.size W2 W → W.cell? ⟨g5, 0, none⟩ = some (.int .i64 y.p) ∧ W.cell? ⟨g5, 1, none⟩ = some (.int .i64 y.n)) := fun W h => ⟨(HA5.out.below h HA5.out.lt).cell 0, (HA5.out.below h HA5.out.lt).cell 1⟩
      have HY : Hid (S.getD k sp0 = y) := HX.out
      clear HX hB2
      rcases last_cases J with hJ | ⟨I, z, hJ⟩
      · subst hJ
        obtain ⟨A3, c3, rfl, hc3⟩ := slice_ofN HO2.out
        have HOJ : Hid (∀ (v : Value) (w' : World), w'.ownsRow w1.heap.size 24 2 v (([] : List SP).length + 1) (spD [] ++ [.int .i64 y.p, .int .i64 y.n]) → w'.ownsRow w1.heap.size 24 2 v ([] ++ [y]).length (spD ([] ++ [y]))) := fun v w' h => h
        have HN := Lib.hid (HNEW.out (fun x h => absurd h List.not_mem_nil))
        have HKP : Hid (∀ W, Below W2.heap.size W2 W → Below W2.heap.size W2 W) := fun W h => h
        clear HNEW HMORE HI hb
        go_upto_region 5 with fail
        rw [← hW2, ← hg5]
        clear hW2 hg5 h1 h2
        go_upto_region 6 with fail
        refine wp_region_held_drew (S := fun w' => Below W2.heap.size W2 w') (by kernel_rfl) (by first | exact HKP.out _ hbd | exact HKP.out _ (by assumption)) (fun hHeld => ?_)
        refine takeH 0 17 rfl rfl (v := ?_) (by kernel_rfl) (by kernel_rfl) (by kernel_rfl) (fun _ _ _ h => h) (Or.inl ⟨by rfl, ?_⟩) hHeld ?_
        rotate_left 1
        · (intro w hSw; (try dsimp only at hSw); go_simp; try (with_reducible rfl))
        (try simp only [Act.put]); (try simp only [List.setIfInBounds_toArray]); (try simp only [List.set_cons_succ]); (try simp only [List.set_cons_zero])
        refine takeH 1 18 rfl rfl (v := ?_) (by kernel_rfl) (by kernel_rfl) (by kernel_rfl) (fun _ _ _ h => h) (Or.inl ⟨by rfl, ?_⟩) hHeld ?_
        rotate_left 1
        · (intro w hSw; (try dsimp only at hSw); go_simp; try (with_reducible rfl))
        (try simp only [Act.put]); (try simp only [List.setIfInBounds_toArray]); (try simp only [List.set_cons_succ]); (try simp only [List.set_cons_zero])
        refine takeH 2 19 rfl rfl (v := ?_) (by kernel_rfl) (by kernel_rfl) (by kernel_rfl) (fun _ _ _ h => h) (Or.inl ⟨by rfl, ?_⟩) hHeld ?_
        rotate_left 1
        · (intro w hSw; (try dsimp only at hSw); go_simp; try (with_reducible rfl))
        (try simp only [Act.put]); (try simp only [List.setIfInBounds_toArray]); (try simp only [List.set_cons_succ]); (try simp only [List.set_cons_zero])
        refine takeH 3 20 rfl rfl (v := undef) (by kernel_rfl) (by kernel_rfl) (by kernel_rfl) (fun _ _ _ h => h) (Or.inr ⟨by rfl, rfl⟩) hHeld ?_
        (try simp only [Act.put]); (try simp only [List.setIfInBounds_toArray]); (try simp only [List.set_cons_succ]); (try simp only [List.set_cons_zero])
        refine takeH 4 21 rfl rfl (v := undef) (by kernel_rfl) (by kernel_rfl) (by kernel_rfl) (fun _ _ _ h => h) (Or.inr ⟨by rfl, rfl⟩) hHeld ?_
        (try simp only [Act.put]); (try simp only [List.setIfInBounds_toArray]); (try simp only [List.set_cons_succ]); (try simp only [List.set_cons_zero])
        refine takeH 5 22 rfl rfl (v := undef) (by kernel_rfl) (by kernel_rfl) (by kernel_rfl) (fun _ _ _ h => h) (Or.inr ⟨by rfl, rfl⟩) hHeld ?_
        (try simp only [Act.put]); (try simp only [List.setIfInBounds_toArray]); (try simp only [List.set_cons_succ]); (try simp only [List.set_cons_zero])
        refine takeH 6 23 rfl rfl (v := undef) (by kernel_rfl) (by kernel_rfl) (by kernel_rfl) (fun _ _ _ h => h) (Or.inr ⟨by rfl, rfl⟩) hHeld ?_
        (try simp only [Act.put]); (try simp only [List.setIfInBounds_toArray]); (try simp only [List.set_cons_succ]); (try simp only [List.set_cons_zero])
        refine takeH 7 24 rfl rfl (v := undef) (by kernel_rfl) (by kernel_rfl) (by kernel_rfl) (fun _ _ _ h => h) (Or.inr ⟨by rfl, rfl⟩) hHeld ?_
        (try simp only [Act.put]); (try simp only [List.setIfInBounds_toArray]); (try simp only [List.set_cons_succ]); (try simp only [List.set_cons_zero])
        refine takeH 8 25 rfl rfl (v := undef) (by kernel_rfl) (by kernel_rfl) (by kernel_rfl) (fun _ _ _ h => h) (Or.inr ⟨by rfl, rfl⟩) hHeld ?_
        (try simp only [Act.put]); (try simp only [List.setIfInBounds_toArray]); (try simp only [List.set_cons_succ]); (try simp only [List.set_cons_zero])
        refine takeH 9 26 rfl rfl (v := undef) (by kernel_rfl) (by kernel_rfl) (by kernel_rfl) (fun _ _ _ h => h) (Or.inr ⟨by rfl, rfl⟩) hHeld ?_
        (try simp only [Act.put]); (try simp only [List.setIfInBounds_toArray]); (try simp only [List.set_cons_succ]); (try simp only [List.set_cons_zero])
        refine takeH 10 27 rfl rfl (v := undef) (by kernel_rfl) (by kernel_rfl) (by kernel_rfl) (fun _ _ _ h => h) (Or.inr ⟨by rfl, rfl⟩) hHeld ?_
        (try simp only [Act.put]); (try simp only [List.setIfInBounds_toArray]); (try simp only [List.set_cons_succ]); (try simp only [List.set_cons_zero])
        refine takeH 11 28 rfl rfl (v := ?_) (by kernel_rfl) (by kernel_rfl) (by kernel_rfl) (fun _ _ _ h => h) (Or.inl ⟨by rfl, ?_⟩) hHeld ?_
        rotate_left 1
        · (intro w hSw; (try dsimp only at hSw); go_simp; try (with_reducible rfl))
        (try simp only [Act.put]); (try simp only [List.setIfInBounds_toArray]); (try simp only [List.set_cons_succ]); (try simp only [List.set_cons_zero])
        refine wpAnyH_done (by kernel_rfl) ?_ _
        obtain ⟨wx, hwx⟩ : ∃ wx, wx = W2.drew := ⟨_, rfl⟩
        have HBW : Hid (Below W2.heap.size W2 wx) := by rw [hwx]; exact hbd
        try rw [← hwx]
        clear hwx
        have HBB : Hid (Below w1.heap.size w1 wx) := HB2.out.trans (HBW.out.mono HSZ2.out)
        have HSZW : Hid (w1.heap.size ≤ wx.heap.size) := HBB.out.size
        have HONE : Hid (∀ u ∈ (#[.int .i64 y.p, .int .i64 y.n] : Array Value).toList, u.oneCell' = true) := fun u hu => spD_cells [y] u hu
        obtain ⟨d0, d1⟩ := HC5.out wx HBW.out
        go_wp2_with (at_builtin; refine append_newB rfl (.tmp 29) (.tmp 31) 22 rfl 24 2 16 HEL w1.heap.size (.slice A3 0 c3) 0 (spD ([] : List SP)) rfl (ow_below HO2.out HBW.out) #[.int .i64 y.p, .int .i64 y.n] rfl HONE.out _ rfl rfl (by unfold maxLen; omega) (by omega) HSZW.out ?_; intro v5 w5 ho5 hm5; have HO5 := Lib.hid (HOJ.out v5 w5 ho5); have HM5 : Hid (Below w1.heap.size w1 w5) := (HBB.out.alloc HSZW.out _).grown hm5 (by rw [sz_alloc]; have := HSZW.out; omega) (fun g hg => (HO2.out.lt g hg).1); clear ho5 hm5)
        go_roundw
        case rel => exact ⟨k + 1, [] ++ [y], by omega, by go_num, HN.out, HO5.out, HM5.out⟩
        case measure => simp [intOf]; omega
      · obtain ⟨m, hm⟩ : ∃ m, m = I.length := ⟨_, rfl⟩
        obtain ⟨M, hMm⟩ : ∃ M, M = m + 1 := ⟨_, rfl⟩
        have hJl : J.length = M := by rw [hMm, hJ, hm, List.length_append]; rfl
        have HZ : Hid (0 ≤ z.p ∧ z.p + z.n ≤ 8589934590 ∧ 0 < z.n) := by
          have hz : z ∈ J := by rw [hJ]; exact List.mem_append_right _ (List.mem_singleton.2 rfl)
          have := HI.out.big z hz
          have := (rise_mem HI.out.rise z hz).2
          unfold Hid; omega
        obtain ⟨z1, z2, z3⟩ := HZ.out
        have HENDS : Hid (z.p + z.n < y.p → ∀ x ∈ J, x.p + x.n < y.p) := fun h x hx => by
          have hri := HI.out.rise
          rw [hJ] at hx hri
          rcases List.mem_append.1 hx with hx | hx
          · have := rise_ends hri x hx; omega
          · rw [List.mem_singleton.1 hx]; exact h
        obtain ⟨A3, c3, rfl, hc3⟩ := slice_ofN HO2.out
        obtain ⟨g3, rfl, hne⟩ : ∃ g3, A3 = some ⟨g3, 0, none⟩ ∧ g3 ≠ g5 := by
          rcases HOWN.out.2 with ⟨_, hz⟩ | ⟨g0, cap', cur, e1, _⟩
          · omega
          · injection e1 with e1 _ _
            exact ⟨g0, e1, HG5.out g0 _ HOWN.out (by rw [e1]; rfl)⟩
        rw [hJl] at hc3 HO2 hfew HOWN HG5 ⊢
        have HEZ : Hid (∀ W, Below W2.heap.size W2 W → Calls Try.prog 25 #[.agg #[.int .i64 z.p, .int .i64 z.n]] W fun e w' => e = .returned (.int .i64 (z.p + z.n)) ∧ Below W2.heap.size W2 w') := fun W h => (end_any z W (by omega)).mono fun _ _ ⟨g1, g2⟩ => ⟨g1, h.trans (g2.mono h.size)⟩
        have HC3 : Hid (∀ W, Below W2.heap.size W2 W → W.cell? ⟨g3, m * 2, none⟩ = some (.int .i64 z.p) ∧ W.cell? ⟨g3, m * 2 + 1, none⟩ = some (.int .i64 z.n)) := fun W h => by
          have ho := ow_below HO2.out h
          have hs := spD_last I z
          rw [← hJ, ← hm] at hs
          exact ⟨(ho.cellAt _ (by omega)).trans hs.1, (ho.cellAt _ (by omega)).trans hs.2⟩
        have HKP : Hid (∀ W, Below W2.heap.size W2 W → W.cell? ⟨g5, 0, none⟩ = some (.int .i64 y.p) ∧ W.cell? ⟨g5, 1, none⟩ = some (.int .i64 y.n) ∧ W.cell? ⟨g3, m * 2, none⟩ = some (.int .i64 z.p) ∧ W.cell? ⟨g3, m * 2 + 1, none⟩ = some (.int .i64 z.n) ∧ Below W2.heap.size W2 W) := fun W h => ⟨(HC5.out W h).1, (HC5.out W h).2, (HC3.out W h).1, (HC3.out W h).2, h⟩
        have HOJ : Hid (∀ (v : Value) (w' : World), w'.ownsRow w1.heap.size 24 2 v (M + 1) (spD J ++ [.int .i64 y.p, .int .i64 y.n]) → w'.ownsRow w1.heap.size 24 2 v (J ++ [y]).length (spD (J ++ [y]))) := fun v w' h => by
          rw [spD_app, List.length_append, hJl]; exact h
        have HOK : Hid (∀ W e, Below W2.heap.size W2 W → (W.setCell ⟨g3, m * 2 + 1, none⟩ (.int .i64 e)).ownsRow w1.heap.size 24 2 (.slice (some ⟨g3, 0, none⟩) M c3) (I ++ [(⟨z.p, e⟩ : SP)]).length (spD (I ++ [⟨z.p, e⟩]))) := fun W e h => by
          have := own_set (j := m * 2 + 1) (ow_below HO2.out h) (.int .i64 e)
          rw [hJ, hm, spD_lastSet, ← hm] at this
          rw [List.length_append, ← hm, show m + [(⟨z.p, e⟩ : SP)].length = M from hMm.symm]
          exact this
        have HBK : Hid (∀ W e, Below W2.heap.size W2 W → Below w1.heap.size w1 (W.setCell ⟨g3, m * 2 + 1, none⟩ (.int .i64 e))) := fun W e h => (HB2.out.trans (h.mono HSZ2.out)).trans (own_below (gr_cell W g3 _ _) (HO2.out.lt g3 rfl).1 (Nat.le_trans HSZ2.out h.size))
        have HFZ : Hid (∀ W, Below W2.heap.size W2 W → W.frozen? ⟨g3, m * 2 + 1, none⟩ = false) := fun W h => (ow_below HO2.out h).frozenAt _
        have HMZ := Lib.hid (HMORE.out I z hJ)
        have HSC : Hid (∀ W e, Below W2.heap.size W2 W → (W.setCell ⟨g3, m * 2 + 1, none⟩ (.int .i64 e)).cell? ⟨g5, 0, none⟩ = some (.int .i64 y.p) ∧ (W.setCell ⟨g3, m * 2 + 1, none⟩ (.int .i64 e)).cell? ⟨g5, 1, none⟩ = some (.int .i64 y.n) ∧ (W.setCell ⟨g3, m * 2 + 1, none⟩ (.int .i64 e)).cell? ⟨g3, m * 2, none⟩ = some (.int .i64 z.p)) := fun W e h => by
          have ha := (HA5.out.below h HA5.out.lt).far (j := m * 2 + 1) (Ne.symm hne) (.int .i64 e)
          have ho := HOK.out W e h
          have hlen : (I ++ [(⟨z.p, e⟩ : SP)]).length = M := by rw [hMm, List.length_append, hm]; rfl
          rw [hlen] at ho
          have hs := (spD_last I ⟨z.p, e⟩).1
          rw [← hm] at hs
          exact ⟨ha.cell 0, ha.cell 1, (ho.cellAt _ (by omega)).trans hs⟩
        have hmi : (m : Int) < (M : Int) := by omega
        have hm0 : (0 : Int) ≤ (m : Int) := by omega
        have hmn : ¬ ((m : Int) < 0) := by omega
        have hm1 : decide ((m : Int) < 0) = false := decide_eq_false (by omega)
        have hwm : IntKind.i64.wrap ((M : Int) - 1) = (m : Int) := by rw [IntWalk.i64_in _ (by omega)]; omega
        clear hJ hm hJl HMORE HI hb HZ HOWN HG5 hMm
        go_upto_region 5 with fail
        rw [← hW2, ← hg5]
        clear hW2 hg5 h1 h2
        go_upto_region 6 with fail
        by_cases q : z.p + z.n < y.p
        · have dq : decide (z.p + z.n < y.p) = true := decide_eq_true q
          have HN := Lib.hid (HNEW.out (HENDS.out q))
          clear HNEW HENDS HMZ
          refine wp_region_held_drew (S := fun w' => w'.cell? ⟨g5, 0, none⟩ = some (.int .i64 y.p) ∧ w'.cell? ⟨g5, 1, none⟩ = some (.int .i64 y.n) ∧ w'.cell? ⟨g3, m * 2, none⟩ = some (.int .i64 z.p) ∧ w'.cell? ⟨g3, m * 2 + 1, none⟩ = some (.int .i64 z.n) ∧ Below W2.heap.size W2 w') (by kernel_rfl) (by first | exact HKP.out _ hbd | exact HKP.out _ (by assumption)) (fun hHeld => ?_)
          refine takeH 0 17 rfl rfl (v := ?_) (by kernel_rfl) (by kernel_rfl) (by kernel_rfl) (fun _ _ _ h => h) (Or.inl ⟨by rfl, ?_⟩) hHeld ?_
          rotate_left 1
          · (intro w hSw; (try dsimp only at hSw); go_simp; try (with_reducible rfl))
          (try simp only [Act.put]); (try simp only [List.setIfInBounds_toArray]); (try simp only [List.set_cons_succ]); (try simp only [List.set_cons_zero])
          refine takeH 1 18 rfl rfl (v := ?_) (by kernel_rfl) (by kernel_rfl) (by kernel_rfl) (fun _ _ _ h => h) (Or.inl ⟨by rfl, ?_⟩) hHeld ?_
          rotate_left 1
          · (intro w hSw; (try dsimp only at hSw); go_simp; try (with_reducible rfl))
          (try simp only [Act.put]); (try simp only [List.setIfInBounds_toArray]); (try simp only [List.set_cons_succ]); (try simp only [List.set_cons_zero])
          refine takeH 2 19 rfl rfl (v := ?_) (by kernel_rfl) (by kernel_rfl) (by kernel_rfl) (fun _ _ _ h => h) (Or.inl ⟨by rfl, ?_⟩) hHeld ?_
          rotate_left 1
          · (intro w hSw; (try dsimp only at hSw); go_simp; try (with_reducible rfl))
          (try simp only [Act.put]); (try simp only [List.setIfInBounds_toArray]); (try simp only [List.set_cons_succ]); (try simp only [List.set_cons_zero])
          refine takeH 3 20 rfl rfl (v := ?_) (by kernel_rfl) (by kernel_rfl) (by kernel_rfl) (fun _ _ _ h => h) (Or.inl ⟨by rfl, ?_⟩) hHeld ?_
          rotate_left 1
          · (intro w hSw; (try dsimp only at hSw); go_simp; try (with_reducible rfl))
          (try simp only [Act.put]); (try simp only [List.setIfInBounds_toArray]); (try simp only [List.set_cons_succ]); (try simp only [List.set_cons_zero])
          refine takeH 4 21 rfl rfl (v := ?_) (by kernel_rfl) (by kernel_rfl) (by kernel_rfl) (fun _ _ _ h => h) (Or.inl ⟨by rfl, ?_⟩) hHeld ?_
          rotate_left 1
          · (intro w hSw; (try dsimp only at hSw); go_simp; try (with_reducible rfl))
          (try simp only [Act.put]); (try simp only [List.setIfInBounds_toArray]); (try simp only [List.set_cons_succ]); (try simp only [List.set_cons_zero])
          refine takeH 5 22 rfl rfl (v := ?_) (by kernel_rfl) (by kernel_rfl) (by kernel_rfl) (fun _ _ _ h => h) (Or.inl ⟨by rfl, ?_⟩) hHeld ?_
          rotate_left 1
          · (intro w hSw; (try dsimp only at hSw); go_simp; try (with_reducible rfl))
          (try simp only [Act.put]); (try simp only [List.setIfInBounds_toArray]); (try simp only [List.set_cons_succ]); (try simp only [List.set_cons_zero])
          refine takeH 6 23 rfl rfl (v := ?_) (by kernel_rfl) (by kernel_rfl) (by kernel_rfl) (fun _ _ _ h => h) (Or.inl ⟨by rfl, ?_⟩) hHeld ?_
          rotate_left 1
          · (intro w hSw; (try dsimp only at hSw); go_simp; try (with_reducible rfl))
          (try simp only [Act.put]); (try simp only [List.setIfInBounds_toArray]); (try simp only [List.set_cons_succ]); (try simp only [List.set_cons_zero])
          refine takeH 8 25 rfl rfl (v := ?_) (by kernel_rfl) (by kernel_rfl) (by kernel_rfl) (fun _ _ _ h => h) (Or.inl ⟨by rfl, ?_⟩) hHeld ?_
          rotate_left 1
          · (intro w hSw; (try dsimp only at hSw); go_simp; try (with_reducible rfl))
          (try simp only [Act.put]); (try simp only [List.setIfInBounds_toArray]); (try simp only [List.set_cons_succ]); (try simp only [List.set_cons_zero])
          refine takeH 9 26 rfl rfl (v := ?_) (by kernel_rfl) (by kernel_rfl) (by kernel_rfl) (fun _ _ _ h => h) (Or.inl ⟨by rfl, ?_⟩) hHeld ?_
          rotate_left 1
          · (intro w hSw; (try dsimp only at hSw); go_simp; try (with_reducible rfl))
          (try simp only [Act.put]); (try simp only [List.setIfInBounds_toArray]); (try simp only [List.set_cons_succ]); (try simp only [List.set_cons_zero])
          refine wpAnyH_ready (rs := [7]) (by kernel_rfl) (by simp) (AllReadyH.cons rfl (fun K hK => ?_) AllReadyH.nil)
          go_simp
          refine (HEZ.out _ (by first | exact hbd | assumption)).mono ?_
          rintro e w7 ⟨rfl, s1⟩
          (try dsimp only)
          refine hK.out _ _ (by first | exact HKP.out _ hbd | exact HKP.out _ (by assumption)) (fun hHeld => ?_)
          clear hK K
          (try simp only [Act.put]); (try simp only [List.setIfInBounds_toArray]); (try simp only [List.set_cons_succ]); (try simp only [List.set_cons_zero])
          refine takeH 10 27 rfl rfl (v := ?_) (by kernel_rfl) (by kernel_rfl) (by kernel_rfl) (fun _ _ _ h => h) (Or.inl ⟨by rfl, ?_⟩) hHeld ?_
          rotate_left 1
          · (intro w hSw; (try dsimp only at hSw); go_simp; try (with_reducible rfl))
          (try simp only [Act.put]); (try simp only [List.setIfInBounds_toArray]); (try simp only [List.set_cons_succ]); (try simp only [List.set_cons_zero])
          refine takeH 11 28 rfl rfl (v := ?_) (by kernel_rfl) (by kernel_rfl) (by kernel_rfl) (fun _ _ _ h => h) (Or.inl ⟨by rfl, ?_⟩) hHeld ?_
          rotate_left 1
          · (intro w hSw; (try dsimp only at hSw); go_simp; try (with_reducible rfl))
          (try simp only [Act.put]); (try simp only [List.setIfInBounds_toArray]); (try simp only [List.set_cons_succ]); (try simp only [List.set_cons_zero])
          refine wpAnyH_done (by kernel_rfl) ?_ _
          obtain ⟨wx, hwx⟩ : ∃ wx, wx = w7 := ⟨_, rfl⟩
          have HBW : Hid (Below W2.heap.size W2 wx) := by rw [hwx]; exact s1
          rw [← hwx]
          clear hwx
          have HBB : Hid (Below w1.heap.size w1 wx) := HB2.out.trans (HBW.out.mono HSZ2.out)
          have HSZW : Hid (w1.heap.size ≤ wx.heap.size) := HBB.out.size
          have HONE : Hid (∀ u ∈ (#[.int .i64 y.p, .int .i64 y.n] : Array Value).toList, u.oneCell' = true) := fun u hu => spD_cells [y] u hu
          obtain ⟨d0, d1⟩ := HC5.out wx HBW.out
          go_wp2_with (at_builtin; refine append_newB rfl (.tmp 29) (.tmp 31) 22 rfl 24 2 16 HEL w1.heap.size (.slice (some ⟨g3, 0, none⟩) M c3) M (spD J) rfl (ow_below HO2.out HBW.out) #[.int .i64 y.p, .int .i64 y.n] rfl HONE.out _ rfl rfl (by unfold maxLen; omega) (by omega) HSZW.out ?_; intro v5 w5 ho5 hm5; have HO5 := Lib.hid (HOJ.out v5 w5 ho5); have HM5 : Hid (Below w1.heap.size w1 w5) := (HBB.out.alloc HSZW.out _).grown hm5 (by rw [sz_alloc]; have := HSZW.out; omega) (fun g hg => (HO2.out.lt g hg).1); clear ho5 hm5)
          go_roundw
          case rel => exact ⟨k + 1, J ++ [y], by omega, by go_num, HN.out, HO5.out, HM5.out⟩
          case measure => simp [intOf]; omega
        · have dq : decide (z.p + z.n < y.p) = false := decide_eq_false q
          have HN := Lib.hid (HMZ.out (by omega) _ rfl)
          have hwe : IntKind.i64.wrap (max (z.p + z.n) (y.p + y.n) - z.p) = max (z.p + z.n) (y.p + y.n) - z.p := IntWalk.i64_in _ (by omega)
          clear HNEW HENDS HMZ
          refine wp_region_held_drew (S := fun w' => w'.cell? ⟨g5, 0, none⟩ = some (.int .i64 y.p) ∧ w'.cell? ⟨g5, 1, none⟩ = some (.int .i64 y.n) ∧ w'.cell? ⟨g3, m * 2, none⟩ = some (.int .i64 z.p) ∧ w'.cell? ⟨g3, m * 2 + 1, none⟩ = some (.int .i64 z.n) ∧ Below W2.heap.size W2 w') (by kernel_rfl) (by first | exact HKP.out _ hbd | exact HKP.out _ (by assumption)) (fun hHeld => ?_)
          refine takeH 0 17 rfl rfl (v := ?_) (by kernel_rfl) (by kernel_rfl) (by kernel_rfl) (fun _ _ _ h => h) (Or.inl ⟨by rfl, ?_⟩) hHeld ?_
          rotate_left 1
          · (intro w hSw; (try dsimp only at hSw); go_simp; try (with_reducible rfl))
          (try simp only [Act.put]); (try simp only [List.setIfInBounds_toArray]); (try simp only [List.set_cons_succ]); (try simp only [List.set_cons_zero])
          refine takeH 1 18 rfl rfl (v := ?_) (by kernel_rfl) (by kernel_rfl) (by kernel_rfl) (fun _ _ _ h => h) (Or.inl ⟨by rfl, ?_⟩) hHeld ?_
          rotate_left 1
          · (intro w hSw; (try dsimp only at hSw); go_simp; try (with_reducible rfl))
          (try simp only [Act.put]); (try simp only [List.setIfInBounds_toArray]); (try simp only [List.set_cons_succ]); (try simp only [List.set_cons_zero])
          refine takeH 2 19 rfl rfl (v := ?_) (by kernel_rfl) (by kernel_rfl) (by kernel_rfl) (fun _ _ _ h => h) (Or.inl ⟨by rfl, ?_⟩) hHeld ?_
          rotate_left 1
          · (intro w hSw; (try dsimp only at hSw); go_simp; try (with_reducible rfl))
          (try simp only [Act.put]); (try simp only [List.setIfInBounds_toArray]); (try simp only [List.set_cons_succ]); (try simp only [List.set_cons_zero])
          refine takeH 3 20 rfl rfl (v := ?_) (by kernel_rfl) (by kernel_rfl) (by kernel_rfl) (fun _ _ _ h => h) (Or.inl ⟨by rfl, ?_⟩) hHeld ?_
          rotate_left 1
          · (intro w hSw; (try dsimp only at hSw); go_simp; try (with_reducible rfl))
          (try simp only [Act.put]); (try simp only [List.setIfInBounds_toArray]); (try simp only [List.set_cons_succ]); (try simp only [List.set_cons_zero])
          refine takeH 4 21 rfl rfl (v := ?_) (by kernel_rfl) (by kernel_rfl) (by kernel_rfl) (fun _ _ _ h => h) (Or.inl ⟨by rfl, ?_⟩) hHeld ?_
          rotate_left 1
          · (intro w hSw; (try dsimp only at hSw); go_simp; try (with_reducible rfl))
          (try simp only [Act.put]); (try simp only [List.setIfInBounds_toArray]); (try simp only [List.set_cons_succ]); (try simp only [List.set_cons_zero])
          refine takeH 5 22 rfl rfl (v := ?_) (by kernel_rfl) (by kernel_rfl) (by kernel_rfl) (fun _ _ _ h => h) (Or.inl ⟨by rfl, ?_⟩) hHeld ?_
          rotate_left 1
          · (intro w hSw; (try dsimp only at hSw); go_simp; try (with_reducible rfl))
          (try simp only [Act.put]); (try simp only [List.setIfInBounds_toArray]); (try simp only [List.set_cons_succ]); (try simp only [List.set_cons_zero])
          refine takeH 6 23 rfl rfl (v := ?_) (by kernel_rfl) (by kernel_rfl) (by kernel_rfl) (fun _ _ _ h => h) (Or.inl ⟨by rfl, ?_⟩) hHeld ?_
          rotate_left 1
          · (intro w hSw; (try dsimp only at hSw); go_simp; try (with_reducible rfl))
          (try simp only [Act.put]); (try simp only [List.setIfInBounds_toArray]); (try simp only [List.set_cons_succ]); (try simp only [List.set_cons_zero])
          refine takeH 8 25 rfl rfl (v := ?_) (by kernel_rfl) (by kernel_rfl) (by kernel_rfl) (fun _ _ _ h => h) (Or.inl ⟨by rfl, ?_⟩) hHeld ?_
          rotate_left 1
          · (intro w hSw; (try dsimp only at hSw); go_simp; try (with_reducible rfl))
          (try simp only [Act.put]); (try simp only [List.setIfInBounds_toArray]); (try simp only [List.set_cons_succ]); (try simp only [List.set_cons_zero])
          refine takeH 9 26 rfl rfl (v := ?_) (by kernel_rfl) (by kernel_rfl) (by kernel_rfl) (fun _ _ _ h => h) (Or.inl ⟨by rfl, ?_⟩) hHeld ?_
          rotate_left 1
          · (intro w hSw; (try dsimp only at hSw); go_simp; try (with_reducible rfl))
          (try simp only [Act.put]); (try simp only [List.setIfInBounds_toArray]); (try simp only [List.set_cons_succ]); (try simp only [List.set_cons_zero])
          refine wpAnyH_ready (rs := [7]) (by kernel_rfl) (by simp) (AllReadyH.cons rfl (fun K hK => ?_) AllReadyH.nil)
          go_simp
          refine (HEZ.out _ (by first | exact hbd | assumption)).mono ?_
          rintro e w7 ⟨rfl, s1⟩
          (try dsimp only)
          refine hK.out _ _ (by first | exact HKP.out _ hbd | exact HKP.out _ (by assumption)) (fun hHeld => ?_)
          clear hK K
          (try simp only [Act.put]); (try simp only [List.setIfInBounds_toArray]); (try simp only [List.set_cons_succ]); (try simp only [List.set_cons_zero])
          refine takeH 10 27 rfl rfl (v := ?_) (by kernel_rfl) (by kernel_rfl) (by kernel_rfl) (fun _ _ _ h => h) (Or.inl ⟨by rfl, ?_⟩) hHeld ?_
          rotate_left 1
          · (intro w hSw; (try dsimp only at hSw); go_simp; try (with_reducible rfl))
          (try simp only [Act.put]); (try simp only [List.setIfInBounds_toArray]); (try simp only [List.set_cons_succ]); (try simp only [List.set_cons_zero])
          refine takeH 11 28 rfl rfl (v := ?_) (by kernel_rfl) (by kernel_rfl) (by kernel_rfl) (fun _ _ _ h => h) (Or.inl ⟨by rfl, ?_⟩) hHeld ?_
          rotate_left 1
          · (intro w hSw; (try dsimp only at hSw); go_simp; try (with_reducible rfl))
          (try simp only [Act.put]); (try simp only [List.setIfInBounds_toArray]); (try simp only [List.set_cons_succ]); (try simp only [List.set_cons_zero])
          refine wpAnyH_done (by kernel_rfl) ?_ _
          go_upto_region 8 with fail
          obtain ⟨f0, f1⟩ := HC3.out _ (s1.drew : Below W2.heap.size W2 w7.drew)
          refine wp_region_held_drew (S := fun w' => w'.cell? ⟨g5, 0, none⟩ = some (.int .i64 y.p) ∧ w'.cell? ⟨g5, 1, none⟩ = some (.int .i64 y.n) ∧ w'.cell? ⟨g3, m * 2, none⟩ = some (.int .i64 z.p)) (by kernel_rfl) (by exact ⟨(HKP.out _ (s1.drew)).1, (HKP.out _ (s1.drew)).2.1, (HKP.out _ (s1.drew)).2.2.1⟩) (fun hHeld => ?_)
          refine takeH 0 33 rfl rfl (v := ?_) (by kernel_rfl) (by kernel_rfl) (by kernel_rfl) (fun _ _ _ h => h) (Or.inl ⟨by rfl, ?_⟩) hHeld ?_
          rotate_left 1
          · (intro w hSw; (try dsimp only at hSw); go_simp; try (with_reducible rfl))
          (try simp only [Act.put]); (try simp only [List.setIfInBounds_toArray]); (try simp only [List.set_cons_succ]); (try simp only [List.set_cons_zero])
          refine takeH 1 34 rfl rfl (v := ?_) (by kernel_rfl) (by kernel_rfl) (by kernel_rfl) (fun _ _ _ h => h) (Or.inl ⟨by rfl, ?_⟩) hHeld ?_
          rotate_left 1
          · (intro w hSw; (try dsimp only at hSw); go_simp; try (with_reducible rfl))
          (try simp only [Act.put]); (try simp only [List.setIfInBounds_toArray]); (try simp only [List.set_cons_succ]); (try simp only [List.set_cons_zero])
          refine takeH 2 35 rfl rfl (v := ?_) (by kernel_rfl) (by kernel_rfl) (by kernel_rfl) (fun _ _ _ h => h) (Or.inl ⟨by rfl, ?_⟩) hHeld ?_
          rotate_left 1
          · (intro w hSw; (try dsimp only at hSw); go_simp; try (with_reducible rfl))
          (try simp only [Act.put]); (try simp only [List.setIfInBounds_toArray]); (try simp only [List.set_cons_succ]); (try simp only [List.set_cons_zero])
          refine takeH 3 36 rfl rfl (v := ?_) (by kernel_rfl) (by kernel_rfl) (by kernel_rfl) (fun _ _ _ h => h) (Or.inl ⟨by rfl, ?_⟩) hHeld ?_
          rotate_left 1
          · (intro w hSw; (try dsimp only at hSw); go_simp; try (with_reducible rfl))
          (try simp only [Act.put]); (try simp only [List.setIfInBounds_toArray]); (try simp only [List.set_cons_succ]); (try simp only [List.set_cons_zero])
          refine takeH 4 37 rfl rfl (v := ?_) (by kernel_rfl) (by kernel_rfl) (by kernel_rfl) (fun _ _ _ h => h) (Or.inl ⟨by rfl, ?_⟩) hHeld ?_
          rotate_left 1
          · (intro w hSw; (try dsimp only at hSw); go_simp; try (with_reducible rfl))
          (try simp only [Act.put]); (try simp only [List.setIfInBounds_toArray]); (try simp only [List.set_cons_succ]); (try simp only [List.set_cons_zero])
          refine takeH 7 40 rfl rfl (v := ?_) (by kernel_rfl) (by kernel_rfl) (by kernel_rfl) (fun _ _ _ h => h) (Or.inl ⟨by rfl, ?_⟩) hHeld ?_
          rotate_left 1
          · (intro w hSw; (try dsimp only at hSw); go_simp; try (with_reducible rfl))
          (try simp only [Act.put]); (try simp only [List.setIfInBounds_toArray]); (try simp only [List.set_cons_succ]); (try simp only [List.set_cons_zero])
          refine takeH 10 43 rfl rfl (v := ?_) (by kernel_rfl) (by kernel_rfl) (by kernel_rfl) (fun _ _ _ h => h) (Or.inl ⟨by rfl, ?_⟩) hHeld ?_
          rotate_left 1
          · (intro w hSw; (try dsimp only at hSw); go_simp; try (with_reducible rfl))
          (try simp only [Act.put]); (try simp only [List.setIfInBounds_toArray]); (try simp only [List.set_cons_succ]); (try simp only [List.set_cons_zero])
          refine takeH 11 44 rfl rfl (v := ?_) (by kernel_rfl) (by kernel_rfl) (by kernel_rfl) (fun _ _ _ h => h) (Or.inl ⟨by rfl, ?_⟩) hHeld ?_
          rotate_left 1
          · (intro w hSw; (try dsimp only at hSw); go_simp; try (with_reducible rfl))
          (try simp only [Act.put]); (try simp only [List.setIfInBounds_toArray]); (try simp only [List.set_cons_succ]); (try simp only [List.set_cons_zero])
          refine takeH 12 45 rfl rfl (v := ?_) (by kernel_rfl) (by kernel_rfl) (by kernel_rfl) (fun _ _ _ h => h) (Or.inl ⟨by rfl, ?_⟩) hHeld ?_
          rotate_left 1
          · (intro w hSw; (try dsimp only at hSw); go_simp; try (with_reducible rfl))
          (try simp only [Act.put]); (try simp only [List.setIfInBounds_toArray]); (try simp only [List.set_cons_succ]); (try simp only [List.set_cons_zero])
          refine takeH 13 46 rfl rfl (v := ?_) (by kernel_rfl) (by kernel_rfl) (by kernel_rfl) (fun _ _ _ h => h) (Or.inl ⟨by rfl, ?_⟩) hHeld ?_
          rotate_left 1
          · (intro w hSw; (try dsimp only at hSw); go_simp; try (with_reducible rfl))
          (try simp only [Act.put]); (try simp only [List.setIfInBounds_toArray]); (try simp only [List.set_cons_succ]); (try simp only [List.set_cons_zero])
          refine takeH 14 47 rfl rfl (v := ?_) (by kernel_rfl) (by kernel_rfl) (by kernel_rfl) (fun _ _ _ h => h) (Or.inl ⟨by rfl, ?_⟩) hHeld ?_
          rotate_left 1
          · (intro w hSw; (try dsimp only at hSw); go_simp; try (with_reducible rfl))
          (try simp only [Act.put]); (try simp only [List.setIfInBounds_toArray]); (try simp only [List.set_cons_succ]); (try simp only [List.set_cons_zero])
          refine wpAnyH_ready (rs := [5]) (by kernel_rfl) (by simp) (AllReadyH.cons rfl (fun K hK => ?_) AllReadyH.nil)
          go_simp
          refine hK.out _ _ (by exact ⟨(HKP.out _ (s1.drew)).1, (HKP.out _ (s1.drew)).2.1, (HKP.out _ (s1.drew)).2.2.1⟩) (fun hHeld => ?_)
          clear hK K
          (try simp only [Act.put]); (try simp only [List.setIfInBounds_toArray]); (try simp only [List.set_cons_succ]); (try simp only [List.set_cons_zero])
          refine wpAnyH_ready (rs := [6]) (by kernel_rfl) (by simp) (AllReadyH.cons rfl (fun K hK => ?_) AllReadyH.nil)
          go_simp
          refine (HEZ.out _ (s1.drew)).mono ?_
          rintro e8 w8 ⟨rfl, s2⟩
          (try dsimp only)
          refine hK.out _ _ (by exact ⟨(HKP.out _ s2).1, (HKP.out _ s2).2.1, (HKP.out _ s2).2.2.1⟩) (fun hHeld => ?_)
          clear hK K
          (try simp only [Act.put]); (try simp only [List.setIfInBounds_toArray]); (try simp only [List.set_cons_succ]); (try simp only [List.set_cons_zero])
          refine wpAnyH_ready (rs := [8]) (by kernel_rfl) (by simp) (AllReadyH.cons rfl (fun K hK => ?_) AllReadyH.nil)
          go_simp
          refine (HEX.out _ s2).mono ?_
          rintro e9 w9 ⟨rfl, s3⟩
          (try dsimp only)
          refine hK.out _ _ (by exact ⟨(HKP.out _ s3).1, (HKP.out _ s3).2.1, (HKP.out _ s3).2.2.1⟩) (fun hHeld => ?_)
          clear hK K
          (try simp only [Act.put]); (try simp only [List.setIfInBounds_toArray]); (try simp only [List.set_cons_succ]); (try simp only [List.set_cons_zero])
          refine takeH 9 42 rfl rfl (v := ?_) (by kernel_rfl) (by kernel_rfl) (by kernel_rfl) (fun _ _ _ h => h) (Or.inl ⟨by rfl, ?_⟩) hHeld ?_
          rotate_left 1
          · (intro w hSw; (try dsimp only at hSw); go_simp; try (with_reducible rfl))
          (try simp only [Act.put]); (try simp only [List.setIfInBounds_toArray]); (try simp only [List.set_cons_succ]); (try simp only [List.set_cons_zero])
          refine takeH 15 48 rfl rfl (v := ?_) (by kernel_rfl) (by kernel_rfl) (by kernel_rfl) (fun _ _ _ h => h) (Or.inl ⟨by rfl, ?_⟩) hHeld ?_
          rotate_left 1
          · (intro w hSw; (try dsimp only at hSw); go_simp; try (with_reducible rfl))
          (try simp only [Act.put]); (try simp only [List.setIfInBounds_toArray]); (try simp only [List.set_cons_succ]); (try simp only [List.set_cons_zero])
          refine takeH 16 49 rfl rfl (v := ?_) (by kernel_rfl) (by kernel_rfl) (by kernel_rfl) (fun _ _ _ h => h) (Or.inl ⟨by rfl, ?_⟩) hHeld ?_
          rotate_left 1
          · (intro w hSw; (try dsimp only at hSw); go_simp; try (with_reducible rfl))
          (try simp only [Act.put]); (try simp only [List.setIfInBounds_toArray]); (try simp only [List.set_cons_succ]); (try simp only [List.set_cons_zero])
          refine takeH 17 50 rfl rfl (v := ?_) (by kernel_rfl) (by kernel_rfl) (by kernel_rfl) (fun _ _ _ h => h) (Or.inl ⟨by rfl, ?_⟩) hHeld ?_
          rotate_left 1
          · (intro w hSw; (try dsimp only at hSw); go_simp; try (with_reducible rfl))
          (try simp only [Act.put]); (try simp only [List.setIfInBounds_toArray]); (try simp only [List.set_cons_succ]); (try simp only [List.set_cons_zero])
          refine wpAnyH_ready (rs := [18]) (by kernel_rfl) (by simp) (AllReadyH.cons rfl (fun K hK => ?_) AllReadyH.nil)
          obtain ⟨f2, f3⟩ := HC3.out _ s3
          have f4 := HFZ.out _ s3
          go_simp
          refine hK.out _ _ (by exact HSC.out _ _ s3) (fun hHeld => ?_)
          clear hK K
          (try simp only [Act.put]); (try simp only [List.setIfInBounds_toArray]); (try simp only [List.set_cons_succ]); (try simp only [List.set_cons_zero])
          refine wpAnyH_done (by kernel_rfl) ?_ _
          go_wp2_with fail
          go_roundw
          case rel => exact ⟨k + 1, _, by omega, by go_num, HN.out, HOK.out _ _ s3, HBK.out _ _ s3⟩
          case measure => simp [intOf]; omega
    · obtain rfl : k = S.length := by omega
      have hend := minv_end HPM.out HI.out
      have HJL : Hid (J.length ≤ 1000) := Nat.le_trans HI.out.few HSL.out
      have HEND := Lib.hid hend
      have HBE : Hid (Below w.heap.size w wr) := HB.out.trans (hb.mono HB.out.size)
      have HOE : Hid (∀ v, wr.ownsRow w1.heap.size 24 2 v J.length (spD J) → wr.ownsRow w.heap.size 24 2 v J.length (spD J)) := fun v h => ow_base h fun g hg => Nat.le_trans HB.out.size (h.lt g hg).1
      clear HI hend hb
      go_wp2
      go_ret
      exact ⟨_, J, rfl, HOE.out _ HOWN.out, HEND.out, HBE.out, HJL.out⟩
end Go.Proofs.Ytgfblcfleohdjaa
