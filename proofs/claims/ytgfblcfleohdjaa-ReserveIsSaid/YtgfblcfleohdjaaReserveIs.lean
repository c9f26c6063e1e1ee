/- The law ReserveIs: whatever comes in it returns true. Conditions: the contracts of package reserve; a slice that reads as spans; numbers of 64 bits. -/
import Derived.Test.YtgfblcfleohdjaaRsE
namespace Go.Proofs.Ytgfblcfleohdjaa
open Go.RowKit

set_option maxHeartbeats 6400000 in
set_option maxRecDepth 100000 in
theorem reserveIs_any (M : ReserveMust) (A : Option Addr) (cap : Nat) (l : List SP) (x : SP) (a : Int) (w : World) (hr : RdSp w A l) (hl : l.length ≤ maxLen) (hc : l.length ≤ cap) (hcm : cap ≤ maxLen) (hs : ∀ y ∈ l, w64S y) (hx : w64S x) (ha1 : -9223372036854775808 ≤ a) (ha2 : a ≤ 9223372036854775807) :
    Calls Try.prog 3 #[.slice A l.length cap, .agg #[.int .i64 x.p, .int .i64 x.n], .int .i64 a] w fun e w' => e = .returned (.bool true) ∧ Below w.heap.size w w' := by
  have HAW := Lib.hid (awake18 M)
  obtain ⟨W1, hW1⟩ : ∃ W1, W1 = w.alloc (.cells #[.int .i64 x.p, .int .i64 x.n] 24) := ⟨_, rfl⟩
  obtain ⟨g4, hg4⟩ : ∃ g4, g4 = w.heap.size := ⟨_, rfl⟩
  have hB1 : Below w.heap.size w W1 := by rw [hW1]; exact (Below.refl _ _).alloc (Nat.le_refl _) _
  have hA4 : Arr W1 g4 24 #[.int .i64 x.p, .int .i64 x.n] := by rw [hW1, hg4]; exact Arr.new w _ _
  have HR := Lib.hid (hr.below hB1)
  have HB := Lib.hid hB1
  have HCE : Hid (∀ W, Below W1.heap.size W1 W → W.cell? ⟨g4, 0, none⟩ = some (.int .i64 x.p) ∧ W.cell? ⟨g4, 1, none⟩ = some (.int .i64 x.n)) := fun W h => ⟨(hA4.below h hA4.lt).cell 0, (hA4.below h hA4.lt).cell 1⟩
  by_cases h20 : 20 < l.length
  · have d1 : decide ((20 : Int) < (l.length : Int)) = true := decide_eq_true (by omega)
    have HAW1 := Lib.hid (HAW.out W1)
    clear M hr hB1 hA4 HAW HCE hs hx ha1 ha2
    go_enter Try.func3, Try.ntmps3
    go_upto_region 1 with fail
    rw [← hW1]
    clear hW1
    go_wp2_with fail
    refine HAW1.out.mono ?_
    rintro e w2 ⟨rfl, hb⟩
    have HB := Lib.hid (HB.out.trans (hb.mono HB.out.size))
    clear hb
    go_wp2
    go_ret
    exact ⟨rfl, HB.out⟩
  · have d1 : decide ((20 : Int) < (l.length : Int)) = false := decide_eq_false (by omega)
    have h1000 : l.length ≤ 1000 := by omega
    have h40 : l.length ≤ 1099511627776 := by omega
    have HQA := Lib.hid (fun W h => M.add x A cap l W h hc hcm h1000 hx hs)
    have HQB := Lib.hid (fun W h => radd18_any x A cap l W h hl hc hcm)
    have HQM := Lib.hid (fun W h => M.meets x A cap l W h hc hcm h1000 hx hs)
    have HQN := Lib.hid (fun W h => rmeets18_any x A cap l W h hl)
    have HQH := Lib.hid (fun W h => M.has A cap l a W h hc hcm h1000 ha1 ha2 hs)
    have HQG := Lib.hid (fun W h => rhas18_any A cap l a W h hl)
    have HQJ := Lib.hid (fun W h => M.join A cap l W h hc hcm h1000 hs)
    have HQK := Lib.hid (fun W h => rjoin18_any A cap l W h h40)
    have HQF := Lib.hid (fun W h => M.free A cap l W h hc hcm h1000 hs)
    have HQE := Lib.hid (fun W h => rfree18_any A cap l W h h40)
    have hal : (addL l x).1.length ≤ maxLen := by
      have := (posL_le l x.p)
      unfold addL maxLen
      split
      · exact Nat.zero_le _
      · split
        · exact Nat.zero_le _
        · split
          · exact Nat.zero_le _
          · show (l.take _ ++ x :: l.drop _).length ≤ _
            rw [List.length_append, List.length_take, List.length_cons, List.length_drop]; omega
    generalize metL x l = mt at *
    generalize hasL l a = ht at *
    generalize (addL l x).1 = AL at *
    generalize ((addL l x).2 : Int) = AE at *
    have dm : (mt == mt) = true := by simp
    have dh : (ht == ht) = true := by simp
    have de : (AE == AE) = true := by simp
    obtain ⟨c0, c1⟩ := HCE.out W1 (Below.refl _ _)
    clear M hr hB1 hA4 hs hx ha1 ha2 h1000 h40 h20 hl hc hcm
    go_enter Try.func3, Try.ntmps3
    go_upto_region 1 with fail
    rw [← hW1, ← hg4]
    clear hW1 hg4
    go_wp2_with fail
    refine (HQA.out W1 HR.out).mono ?_
    rintro e w2 ⟨B1, p1, rfl, hr1, hb, _, _⟩
    have HB2 := Lib.hid hb
    have HR1 := Lib.hid hr1
    have HR2 := Lib.hid (HR.out.below hb)
    obtain ⟨c0, c1⟩ := HCE.out w2 hb
    clear hb hr1 HQA
    go_wp2_with fail
    refine (HQB.out w2 HR2.out).mono ?_
    rintro e wb ⟨B2, p2, rfl, hr2, hb⟩
    have HB3 := Lib.hid (HB2.out.trans (hb.mono HB2.out.size))
    have HR3 := Lib.hid (HR2.out.below hb)
    have HS : Hid (∀ W, Below wb.heap.size wb W → Calls Try.prog 8 #[.slice B1 AL.length p1, .slice B2 AL.length p2] W fun e w' => e = .returned (.bool true) ∧ Below wb.heap.size wb w') := fun W h => (sameSp_any B1 B2 p1 p2 AL W hal ((HR1.out.below hb).below h) (hr2.below h)).mono fun _ _ ⟨g1, g2⟩ => ⟨g1, h.trans (g2.mono h.size)⟩
    have HBB := Lib.hid (HB.out.trans (HB3.out.mono HB.out.size))
    have HKP : Hid (∀ W, Below wb.heap.size wb W → W.cell? ⟨g4, 0, none⟩ = some (.int .i64 x.p) ∧ W.cell? ⟨g4, 1, none⟩ = some (.int .i64 x.n) ∧ Below wb.heap.size wb W) := fun W h => by
      obtain ⟨k1, k2⟩ := HCE.out W (HB3.out.trans (h.mono HB3.out.size))
      exact ⟨k1, k2, h⟩
    have HRW : Hid (∀ W, Below wb.heap.size wb W → RdSp W A l) := fun W h => HR3.out.below h
    have hbd : Below wb.heap.size wb wb.drew := (Below.refl _ _).drew
    clear hb hr2 HQB HR1 HR2 HR3 HB2 c0 c1 HR HB hal HCE
    go_upto_region 5 with fail
    refine wp_region_held_drew (S := fun W' => W'.cell? ⟨g4, 0, none⟩ = some (.int .i64 x.p) ∧ W'.cell? ⟨g4, 1, none⟩ = some (.int .i64 x.n) ∧ Below wb.heap.size wb W') (by kernel_rfl) (by exact HKP.out _ hbd) (fun hHeld => ?_)
    refine takeH 0 27 rfl rfl (v := ?_) (by kernel_rfl) (by kernel_rfl) (by kernel_rfl) (fun _ _ _ h => h) (Or.inl ⟨by rfl, ?_⟩) hHeld ?_
    rotate_left 1
    · (intro w hSw; (try dsimp only at hSw); go_simp; try (with_reducible rfl))
    (try simp only [Act.put]); (try simp only [List.setIfInBounds_toArray]); (try simp only [List.set_cons_succ]); (try simp only [List.set_cons_zero])
    refine takeH 1 28 rfl rfl (v := ?_) (by kernel_rfl) (by kernel_rfl) (by kernel_rfl) (fun _ _ _ h => h) (Or.inl ⟨by rfl, ?_⟩) hHeld ?_
    rotate_left 1
    · (intro w hSw; (try dsimp only at hSw); go_simp; try (with_reducible rfl))
    (try simp only [Act.put]); (try simp only [List.setIfInBounds_toArray]); (try simp only [List.set_cons_succ]); (try simp only [List.set_cons_zero])
    refine wpAnyH_ready (rs := [2]) (by kernel_rfl) (by simp) (AllReadyH.cons rfl (fun K hK => ?_) AllReadyH.nil)
    go_simp
    refine (HS.out _ hbd).mono ?_
    rintro e w2 ⟨rfl, s2⟩
    (try dsimp only)
    refine hK.out _ _ (by exact HKP.out _ s2) (fun hHeld => ?_)
    clear hK K
    (try simp only [Act.put]); (try simp only [List.setIfInBounds_toArray]); (try simp only [List.set_cons_succ]); (try simp only [List.set_cons_zero])
    refine takeH 3 30 rfl rfl (v := ?_) (by kernel_rfl) (by kernel_rfl) (by kernel_rfl) (fun _ _ _ h => h) (Or.inl ⟨by rfl, ?_⟩) hHeld ?_
    rotate_left 1
    · (intro w hSw; (try dsimp only at hSw); go_simp; try (with_reducible rfl))
    (try simp only [Act.put]); (try simp only [List.setIfInBounds_toArray]); (try simp only [List.set_cons_succ]); (try simp only [List.set_cons_zero])
    refine takeH 4 31 rfl rfl (v := ?_) (by kernel_rfl) (by kernel_rfl) (by kernel_rfl) (fun _ _ _ h => h) (Or.inl ⟨by rfl, ?_⟩) hHeld ?_
    rotate_left 1
    · (intro w hSw; (try dsimp only at hSw); go_simp; try (with_reducible rfl))
    (try simp only [Act.put]); (try simp only [List.setIfInBounds_toArray]); (try simp only [List.set_cons_succ]); (try simp only [List.set_cons_zero])
    refine takeH 5 32 rfl rfl (v := ?_) (by kernel_rfl) (by kernel_rfl) (by kernel_rfl) (fun _ _ _ h => h) (Or.inl ⟨by rfl, ?_⟩) hHeld ?_
    rotate_left 1
    · (intro w hSw; (try dsimp only at hSw); go_simp; try (with_reducible rfl))
    (try simp only [Act.put]); (try simp only [List.setIfInBounds_toArray]); (try simp only [List.set_cons_succ]); (try simp only [List.set_cons_zero])
    refine takeH 6 33 rfl rfl (v := ?_) (by kernel_rfl) (by kernel_rfl) (by kernel_rfl) (fun _ _ _ h => h) (Or.inl ⟨by rfl, ?_⟩) hHeld ?_
    rotate_left 1
    · (intro w hSw; (try dsimp only at hSw); go_simp; try (with_reducible rfl))
    (try simp only [Act.put]); (try simp only [List.setIfInBounds_toArray]); (try simp only [List.set_cons_succ]); (try simp only [List.set_cons_zero])
    refine takeH 7 34 rfl rfl (v := ?_) (by kernel_rfl) (by kernel_rfl) (by kernel_rfl) (fun _ _ _ h => h) (Or.inl ⟨by rfl, ?_⟩) hHeld ?_
    rotate_left 1
    · (intro w hSw; (try dsimp only at hSw); go_simp; try (with_reducible rfl))
    (try simp only [Act.put]); (try simp only [List.setIfInBounds_toArray]); (try simp only [List.set_cons_succ]); (try simp only [List.set_cons_zero])
    refine takeH 8 35 rfl rfl (v := ?_) (by kernel_rfl) (by kernel_rfl) (by kernel_rfl) (fun _ _ _ h => h) (Or.inl ⟨by rfl, ?_⟩) hHeld ?_
    rotate_left 1
    · (intro w hSw; (try dsimp only at hSw); go_simp; try (with_reducible rfl))
    (try simp only [Act.put]); (try simp only [List.setIfInBounds_toArray]); (try simp only [List.set_cons_succ]); (try simp only [List.set_cons_zero])
    refine takeH 9 36 rfl rfl (v := ?_) (by kernel_rfl) (by kernel_rfl) (by kernel_rfl) (fun _ _ _ h => h) (Or.inl ⟨by rfl, ?_⟩) hHeld ?_
    rotate_left 1
    · (intro w hSw; (try dsimp only at hSw); go_simp; try (with_reducible rfl))
    (try simp only [Act.put]); (try simp only [List.setIfInBounds_toArray]); (try simp only [List.set_cons_succ]); (try simp only [List.set_cons_zero])
    refine takeH 10 37 rfl rfl (v := ?_) (by kernel_rfl) (by kernel_rfl) (by kernel_rfl) (fun _ _ _ h => h) (Or.inl ⟨by rfl, ?_⟩) hHeld ?_
    rotate_left 1
    · (intro w hSw; (try dsimp only at hSw); go_simp; try (with_reducible rfl))
    (try simp only [Act.put]); (try simp only [List.setIfInBounds_toArray]); (try simp only [List.set_cons_succ]); (try simp only [List.set_cons_zero])
    refine takeH 12 39 rfl rfl (v := ?_) (by kernel_rfl) (by kernel_rfl) (by kernel_rfl) (fun _ _ _ h => h) (Or.inl ⟨by rfl, ?_⟩) hHeld ?_
    rotate_left 1
    · (intro w hSw; (try dsimp only at hSw); go_simp; try (with_reducible rfl))
    (try simp only [Act.put]); (try simp only [List.setIfInBounds_toArray]); (try simp only [List.set_cons_succ]); (try simp only [List.set_cons_zero])
    refine takeH 13 40 rfl rfl (v := ?_) (by kernel_rfl) (by kernel_rfl) (by kernel_rfl) (fun _ _ _ h => h) (Or.inl ⟨by rfl, ?_⟩) hHeld ?_
    rotate_left 1
    · (intro w hSw; (try dsimp only at hSw); go_simp; try (with_reducible rfl))
    (try simp only [Act.put]); (try simp only [List.setIfInBounds_toArray]); (try simp only [List.set_cons_succ]); (try simp only [List.set_cons_zero])
    refine wpAnyH_ready (rs := [11]) (by kernel_rfl) (by simp) (AllReadyH.cons rfl (fun K hK => ?_) AllReadyH.nil)
    go_simp
    refine (HQM.out _ (HRW.out _ s2)).mono ?_
    rintro e w11 ⟨rfl, hb11⟩
    have s11 : Below wb.heap.size wb w11 := s2.trans (hb11.mono s2.size)
    (try dsimp only)
    refine hK.out _ _ (by exact HKP.out _ s11) (fun hHeld => ?_)
    clear hK K
    (try simp only [Act.put]); (try simp only [List.setIfInBounds_toArray]); (try simp only [List.set_cons_succ]); (try simp only [List.set_cons_zero])
    refine wpAnyH_ready (rs := [14]) (by kernel_rfl) (by simp) (AllReadyH.cons rfl (fun K hK => ?_) AllReadyH.nil)
    go_simp
    refine (HQN.out _ (HRW.out _ s11)).mono ?_
    rintro e w14 ⟨rfl, hb14⟩
    have s14 : Below wb.heap.size wb w14 := s11.trans (hb14.mono s11.size)
    (try dsimp only)
    refine hK.out _ _ (by exact HKP.out _ s14) (fun hHeld => ?_)
    clear hK K
    (try simp only [Act.put]); (try simp only [List.setIfInBounds_toArray]); (try simp only [List.set_cons_succ]); (try simp only [List.set_cons_zero])
    refine takeH 15 42 rfl rfl (v := ?_) (by kernel_rfl) (by kernel_rfl) (by kernel_rfl) (fun _ _ _ h => h) (Or.inl ⟨by rfl, ?_⟩) hHeld ?_
    rotate_left 1
    · (intro w hSw; (try dsimp only at hSw); go_simp; try (with_reducible rfl))
    (try simp only [Act.put]); (try simp only [List.setIfInBounds_toArray]); (try simp only [List.set_cons_succ]); (try simp only [List.set_cons_zero])
    refine takeH 16 43 rfl rfl (v := ?_) (by kernel_rfl) (by kernel_rfl) (by kernel_rfl) (fun _ _ _ h => h) (Or.inl ⟨by rfl, ?_⟩) hHeld ?_
    rotate_left 1
    · (intro w hSw; (try dsimp only at hSw); go_simp; try (with_reducible rfl))
    (try simp only [Act.put]); (try simp only [List.setIfInBounds_toArray]); (try simp only [List.set_cons_succ]); (try simp only [List.set_cons_zero])
    refine takeH 17 44 rfl rfl (v := ?_) (by kernel_rfl) (by kernel_rfl) (by kernel_rfl) (fun _ _ _ h => h) (Or.inl ⟨by rfl, ?_⟩) hHeld ?_
    rotate_left 1
    · (intro w hSw; (try dsimp only at hSw); go_simp; try (with_reducible rfl))
    (try simp only [Act.put]); (try simp only [List.setIfInBounds_toArray]); (try simp only [List.set_cons_succ]); (try simp only [List.set_cons_zero])
    refine takeH 18 45 rfl rfl (v := ?_) (by kernel_rfl) (by kernel_rfl) (by kernel_rfl) (fun _ _ _ h => h) (Or.inl ⟨by rfl, ?_⟩) hHeld ?_
    rotate_left 1
    · (intro w hSw; (try dsimp only at hSw); go_simp; try (with_reducible rfl))
    (try simp only [Act.put]); (try simp only [List.setIfInBounds_toArray]); (try simp only [List.set_cons_succ]); (try simp only [List.set_cons_zero])
    refine takeH 19 46 rfl rfl (v := ?_) (by kernel_rfl) (by kernel_rfl) (by kernel_rfl) (fun _ _ _ h => h) (Or.inl ⟨by rfl, ?_⟩) hHeld ?_
    rotate_left 1
    · (intro w hSw; (try dsimp only at hSw); go_simp; try (with_reducible rfl))
    (try simp only [Act.put]); (try simp only [List.setIfInBounds_toArray]); (try simp only [List.set_cons_succ]); (try simp only [List.set_cons_zero])
    refine takeH 21 48 rfl rfl (v := ?_) (by kernel_rfl) (by kernel_rfl) (by kernel_rfl) (fun _ _ _ h => h) (Or.inl ⟨by rfl, ?_⟩) hHeld ?_
    rotate_left 1
    · (intro w hSw; (try dsimp only at hSw); go_simp; try (with_reducible rfl))
    (try simp only [Act.put]); (try simp only [List.setIfInBounds_toArray]); (try simp only [List.set_cons_succ]); (try simp only [List.set_cons_zero])
    refine takeH 22 49 rfl rfl (v := ?_) (by kernel_rfl) (by kernel_rfl) (by kernel_rfl) (fun _ _ _ h => h) (Or.inl ⟨by rfl, ?_⟩) hHeld ?_
    rotate_left 1
    · (intro w hSw; (try dsimp only at hSw); go_simp; try (with_reducible rfl))
    (try simp only [Act.put]); (try simp only [List.setIfInBounds_toArray]); (try simp only [List.set_cons_succ]); (try simp only [List.set_cons_zero])
    refine wpAnyH_ready (rs := [20]) (by kernel_rfl) (by simp) (AllReadyH.cons rfl (fun K hK => ?_) AllReadyH.nil)
    go_simp
    refine (HQH.out _ (HRW.out _ s14)).mono ?_
    rintro e w20 ⟨rfl, hb20⟩
    have s20 : Below wb.heap.size wb w20 := s14.trans (hb20.mono s14.size)
    (try dsimp only)
    refine hK.out _ _ (by exact HKP.out _ s20) (fun hHeld => ?_)
    clear hK K
    (try simp only [Act.put]); (try simp only [List.setIfInBounds_toArray]); (try simp only [List.set_cons_succ]); (try simp only [List.set_cons_zero])
    refine wpAnyH_ready (rs := [23]) (by kernel_rfl) (by simp) (AllReadyH.cons rfl (fun K hK => ?_) AllReadyH.nil)
    go_simp
    refine (HQG.out _ (HRW.out _ s20)).mono ?_
    rintro e w23 ⟨rfl, hb23⟩
    have s23 : Below wb.heap.size wb w23 := s20.trans (hb23.mono s20.size)
    (try dsimp only)
    refine hK.out _ _ (by exact HKP.out _ s23) (fun hHeld => ?_)
    clear hK K
    (try simp only [Act.put]); (try simp only [List.setIfInBounds_toArray]); (try simp only [List.set_cons_succ]); (try simp only [List.set_cons_zero])
    refine takeH 24 51 rfl rfl (v := ?_) (by kernel_rfl) (by kernel_rfl) (by kernel_rfl) (fun _ _ _ h => h) (Or.inl ⟨by rfl, ?_⟩) hHeld ?_
    rotate_left 1
    · (intro w hSw; (try dsimp only at hSw); go_simp; try (with_reducible rfl))
    (try simp only [Act.put]); (try simp only [List.setIfInBounds_toArray]); (try simp only [List.set_cons_succ]); (try simp only [List.set_cons_zero])
    refine takeH 25 52 rfl rfl (v := ?_) (by kernel_rfl) (by kernel_rfl) (by kernel_rfl) (fun _ _ _ h => h) (Or.inl ⟨by rfl, ?_⟩) hHeld ?_
    rotate_left 1
    · (intro w hSw; (try dsimp only at hSw); go_simp; try (with_reducible rfl))
    (try simp only [Act.put]); (try simp only [List.setIfInBounds_toArray]); (try simp only [List.set_cons_succ]); (try simp only [List.set_cons_zero])
    refine takeH 26 53 rfl rfl (v := ?_) (by kernel_rfl) (by kernel_rfl) (by kernel_rfl) (fun _ _ _ h => h) (Or.inl ⟨by rfl, ?_⟩) hHeld ?_
    rotate_left 1
    · (intro w hSw; (try dsimp only at hSw); go_simp; try (with_reducible rfl))
    (try simp only [Act.put]); (try simp only [List.setIfInBounds_toArray]); (try simp only [List.set_cons_succ]); (try simp only [List.set_cons_zero])
    refine takeH 27 54 rfl rfl (v := ?_) (by kernel_rfl) (by kernel_rfl) (by kernel_rfl) (fun _ _ _ h => h) (Or.inl ⟨by rfl, ?_⟩) hHeld ?_
    rotate_left 1
    · (intro w hSw; (try dsimp only at hSw); go_simp; try (with_reducible rfl))
    (try simp only [Act.put]); (try simp only [List.setIfInBounds_toArray]); (try simp only [List.set_cons_succ]); (try simp only [List.set_cons_zero])
    refine takeH 29 56 rfl rfl (v := ?_) (by kernel_rfl) (by kernel_rfl) (by kernel_rfl) (fun _ _ _ h => h) (Or.inl ⟨by rfl, ?_⟩) hHeld ?_
    rotate_left 1
    · (intro w hSw; (try dsimp only at hSw); go_simp; try (with_reducible rfl))
    (try simp only [Act.put]); (try simp only [List.setIfInBounds_toArray]); (try simp only [List.set_cons_succ]); (try simp only [List.set_cons_zero])
    refine wpAnyH_ready (rs := [28]) (by kernel_rfl) (by simp) (AllReadyH.cons rfl (fun K hK => ?_) AllReadyH.nil)
    go_simp
    refine (HQJ.out _ (HRW.out _ s23)).mono ?_
    rintro e w28 ⟨B28, p28, J28, rfl, hr28, hj28, hb28, hl28, hm28⟩
    have s28 : Below wb.heap.size wb w28 := s23.trans (hb28.mono s23.size)
    (try dsimp only)
    refine hK.out _ _ (by exact HKP.out _ s28) (fun hHeld => ?_)
    clear hK K
    (try simp only [Act.put]); (try simp only [List.setIfInBounds_toArray]); (try simp only [List.set_cons_succ]); (try simp only [List.set_cons_zero])
    refine wpAnyH_ready (rs := [30]) (by kernel_rfl) (by simp) (AllReadyH.cons rfl (fun K hK => ?_) AllReadyH.nil)
    go_simp
    refine (HQK.out _ (HRW.out _ s28)).mono ?_
    rintro e w30 ⟨B30, p30, J30, rfl, hr30, hj30, hb30, _⟩
    have s30 : Below wb.heap.size wb w30 := s28.trans (hb30.mono s28.size)
    obtain rfl := join_one hj28 hj30
    (try dsimp only)
    refine hK.out _ _ (by exact HKP.out _ s30) (fun hHeld => ?_)
    clear hK K
    (try simp only [Act.put]); (try simp only [List.setIfInBounds_toArray]); (try simp only [List.set_cons_succ]); (try simp only [List.set_cons_zero])
    refine wpAnyH_ready (rs := [31]) (by kernel_rfl) (by simp) (AllReadyH.cons rfl (fun K hK => ?_) AllReadyH.nil)
    go_simp
    refine (sameSp_any B28 B30 p28 p30 J28 w30 (Nat.le_trans hl28 hm28) (hr28.below hb30) hr30).mono ?_
    rintro e w31 ⟨rfl, hb31⟩
    have s31 : Below wb.heap.size wb w31 := s30.trans (hb31.mono s30.size)
    (try dsimp only)
    refine hK.out _ _ (by exact HKP.out _ s31) (fun hHeld => ?_)
    clear hK K
    (try simp only [Act.put]); (try simp only [List.setIfInBounds_toArray]); (try simp only [List.set_cons_succ]); (try simp only [List.set_cons_zero])
    refine takeH 32 59 rfl rfl (v := ?_) (by kernel_rfl) (by kernel_rfl) (by kernel_rfl) (fun _ _ _ h => h) (Or.inl ⟨by rfl, ?_⟩) hHeld ?_
    rotate_left 1
    · (intro w hSw; (try dsimp only at hSw); go_simp; try (with_reducible rfl))
    (try simp only [Act.put]); (try simp only [List.setIfInBounds_toArray]); (try simp only [List.set_cons_succ]); (try simp only [List.set_cons_zero])
    refine takeH 33 60 rfl rfl (v := ?_) (by kernel_rfl) (by kernel_rfl) (by kernel_rfl) (fun _ _ _ h => h) (Or.inl ⟨by rfl, ?_⟩) hHeld ?_
    rotate_left 1
    · (intro w hSw; (try dsimp only at hSw); go_simp; try (with_reducible rfl))
    (try simp only [Act.put]); (try simp only [List.setIfInBounds_toArray]); (try simp only [List.set_cons_succ]); (try simp only [List.set_cons_zero])
    refine takeH 34 61 rfl rfl (v := ?_) (by kernel_rfl) (by kernel_rfl) (by kernel_rfl) (fun _ _ _ h => h) (Or.inl ⟨by rfl, ?_⟩) hHeld ?_
    rotate_left 1
    · (intro w hSw; (try dsimp only at hSw); go_simp; try (with_reducible rfl))
    (try simp only [Act.put]); (try simp only [List.setIfInBounds_toArray]); (try simp only [List.set_cons_succ]); (try simp only [List.set_cons_zero])
    refine takeH 36 63 rfl rfl (v := ?_) (by kernel_rfl) (by kernel_rfl) (by kernel_rfl) (fun _ _ _ h => h) (Or.inl ⟨by rfl, ?_⟩) hHeld ?_
    rotate_left 1
    · (intro w hSw; (try dsimp only at hSw); go_simp; try (with_reducible rfl))
    (try simp only [Act.put]); (try simp only [List.setIfInBounds_toArray]); (try simp only [List.set_cons_succ]); (try simp only [List.set_cons_zero])
    refine wpAnyH_ready (rs := [35]) (by kernel_rfl) (by simp) (AllReadyH.cons rfl (fun K hK => ?_) AllReadyH.nil)
    go_simp
    refine (HQF.out _ (HRW.out _ s31)).mono ?_
    rintro e w35 ⟨B35, p35, J35, rfl, hr35, hj35, hb35, hl35, hm35⟩
    have s35 : Below wb.heap.size wb w35 := s31.trans (hb35.mono s31.size)
    (try dsimp only)
    refine hK.out _ _ (by exact HKP.out _ s35) (fun hHeld => ?_)
    clear hK K
    (try simp only [Act.put]); (try simp only [List.setIfInBounds_toArray]); (try simp only [List.set_cons_succ]); (try simp only [List.set_cons_zero])
    refine wpAnyH_ready (rs := [37]) (by kernel_rfl) (by simp) (AllReadyH.cons rfl (fun K hK => ?_) AllReadyH.nil)
    go_simp
    refine (HQE.out _ (HRW.out _ s35)).mono ?_
    rintro e w37 ⟨B37, p37, J37, rfl, hr37, hj37, hb37⟩
    have s37 : Below wb.heap.size wb w37 := s35.trans (hb37.mono s35.size)
    obtain rfl := free_one hj35 hj37
    (try dsimp only)
    refine hK.out _ _ (by exact HKP.out _ s37) (fun hHeld => ?_)
    clear hK K
    (try simp only [Act.put]); (try simp only [List.setIfInBounds_toArray]); (try simp only [List.set_cons_succ]); (try simp only [List.set_cons_zero])
    refine wpAnyH_ready (rs := [38]) (by kernel_rfl) (by simp) (AllReadyH.cons rfl (fun K hK => ?_) AllReadyH.nil)
    go_simp
    refine (sameSp_any B35 B37 p35 p37 J35 w37 (Nat.le_trans hl35 hm35) (hr35.below hb37) hr37).mono ?_
    rintro e w38 ⟨rfl, hb38⟩
    have s38 : Below wb.heap.size wb w38 := s37.trans (hb38.mono s37.size)
    (try dsimp only)
    refine hK.out _ _ (by exact HKP.out _ s38) (fun hHeld => ?_)
    clear hK K
    (try simp only [Act.put]); (try simp only [List.setIfInBounds_toArray]); (try simp only [List.set_cons_succ]); (try simp only [List.set_cons_zero])
    refine takeH 39 66 rfl rfl (v := ?_) (by kernel_rfl) (by kernel_rfl) (by kernel_rfl) (fun _ _ _ h => h) (Or.inl ⟨by rfl, ?_⟩) hHeld ?_
    rotate_left 1
    · (intro w hSw; (try dsimp only at hSw); go_simp; try (with_reducible rfl))
    (try simp only [Act.put]); (try simp only [List.setIfInBounds_toArray]); (try simp only [List.set_cons_succ]); (try simp only [List.set_cons_zero])
    refine takeH 40 67 rfl rfl (v := ?_) (by kernel_rfl) (by kernel_rfl) (by kernel_rfl) (fun _ _ _ h => h) (Or.inl ⟨by rfl, ?_⟩) hHeld ?_
    rotate_left 1
    · (intro w hSw; (try dsimp only at hSw); go_simp; try (with_reducible rfl))
    (try simp only [Act.put]); (try simp only [List.setIfInBounds_toArray]); (try simp only [List.set_cons_succ]); (try simp only [List.set_cons_zero])
    refine wpAnyH_ready (rs := [41]) (by kernel_rfl) (by simp) (AllReadyH.cons rfl (fun K hK => ?_) AllReadyH.nil)
    go_simp
    refine (HAW.out _).mono ?_
    rintro e w41 ⟨rfl, hb41⟩
    have s41 : Below wb.heap.size wb w41 := s38.trans (hb41.mono s38.size)
    (try dsimp only)
    refine hK.out _ _ (by exact HKP.out _ s41) (fun hHeld => ?_)
    clear hK K
    (try simp only [Act.put]); (try simp only [List.setIfInBounds_toArray]); (try simp only [List.set_cons_succ]); (try simp only [List.set_cons_zero])
    refine takeH 42 69 rfl rfl (v := ?_) (by kernel_rfl) (by kernel_rfl) (by kernel_rfl) (fun _ _ _ h => h) (Or.inl ⟨by rfl, ?_⟩) hHeld ?_
    rotate_left 1
    · (intro w hSw; (try dsimp only at hSw); go_simp; try (with_reducible rfl))
    (try simp only [Act.put]); (try simp only [List.setIfInBounds_toArray]); (try simp only [List.set_cons_succ]); (try simp only [List.set_cons_zero])
    refine takeH 43 6 rfl rfl (v := ?_) (by kernel_rfl) (by kernel_rfl) (by kernel_rfl) (fun _ _ _ h => h) (Or.inl ⟨by rfl, ?_⟩) hHeld ?_
    rotate_left 1
    · (intro w hSw; (try dsimp only at hSw); go_simp; try (with_reducible rfl))
    (try simp only [Act.put]); (try simp only [List.setIfInBounds_toArray]); (try simp only [List.set_cons_succ]); (try simp only [List.set_cons_zero])
    refine wpAnyH_done (by kernel_rfl) ?_ _
    have HBZ := Lib.hid (HBB.out.trans (s41.mono HBB.out.size))
    clear HKP HRW HS
    go_wp2_with fail
    go_ret
    exact ⟨rfl, HBZ.out⟩
end Go.Proofs.Ytgfblcfleohdjaa
