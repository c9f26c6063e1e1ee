/- What the document's Add of layer 18 returns. Conditions: a list whose length is at most its capacity. -/
import Derived.Test.YtgfblcfleohdjaaRsA
import Derived.Test.YtgfblcfleohdjaaSpD
namespace Go.Proofs.Ytgfblcfleohdjaa
open Go.RowKit

theorem add_bad {l : List SP} {x : SP} (h : mayS x = false ∨ x.n = 0) : addL l x = ([], 1) := if_pos h
theorem add_big {l : List SP} {x : SP} (h : ¬ (mayS x = false ∨ x.n = 0)) (h2 : 16 ≤ l.length) : addL l x = ([], 7) := by unfold addL; rw [if_neg h, if_pos h2]
theorem add_met {l : List SP} {x : SP} (h : ¬ (mayS x = false ∨ x.n = 0)) (h2 : ¬ 16 ≤ l.length) (h3 : metL x l = true) : addL l x = ([], 12) := by unfold addL; rw [if_neg h, if_neg h2, if_pos h3]
theorem add_ok {l : List SP} {x : SP} (h : ¬ (mayS x = false ∨ x.n = 0)) (h2 : ¬ 16 ≤ l.length) (h3 : metL x l = false) : addL l x = (l.take (posL l x.p) ++ x :: l.drop (posL l x.p), 0) := by
  unfold addL; rw [if_neg h, if_neg h2, if_neg (by rw [h3]; decide)]

set_option maxHeartbeats 3200000 in
set_option maxRecDepth 100000 in
theorem radd18_any (x : SP) (A : Option Addr) (cap : Nat) (l : List SP) (w : World) (hr : RdSp w A l) (hl : l.length ≤ maxLen) (hc : l.length ≤ cap) (hcm : cap ≤ maxLen) :
    Calls Try.prog 7 #[.slice A l.length cap, .agg #[.int .i64 x.p, .int .i64 x.n]] w fun e w' => ∃ B c, e = .returned (.tuple #[.slice B (addL l x).1.length c, .int .i64 ((addL l x).2 : Int)]) ∧ RdSp w' B (addL l x).1 ∧ Below w.heap.size w w' := by
  have HBAD := Lib.hid (add_bad (l := l) (x := x))
  have HBIG := Lib.hid (add_big (l := l) (x := x))
  have HMET := Lib.hid (add_met (l := l) (x := x))
  have HOK := Lib.hid (add_ok (l := l) (x := x))
  have HPOS := Lib.hid (fun k => posL_end (p := x.p) (l := l) (k := k))
  have HRM := Lib.hid (fun W => rmeets18_any x A cap l W)
  generalize addL l x = R at *
  generalize posL l x.p = PK at *
  generalize hml : metL x l = ml at *
  unfold maxLen at hl hcm HRM
  obtain ⟨W1, hW1⟩ : ∃ W1, W1 = w.alloc (.cells #[.int .i64 x.p, .int .i64 x.n] 24) := ⟨_, rfl⟩
  obtain ⟨g3, hg3⟩ : ∃ g3, g3 = w.heap.size := ⟨_, rfl⟩
  have hB1 : Below w.heap.size w W1 := by rw [hW1]; exact (Below.refl _ _).alloc (Nat.le_refl _) _
  have hA3 : Arr W1 g3 24 #[.int .i64 x.p, .int .i64 x.n] := by rw [hW1, hg3]; exact Arr.new w _ _
  have HR := Lib.hid (hr.below hB1)
  have HA3 := Lib.hid hA3
  have HB := Lib.hid hB1
  have HMX := Lib.hid (may_any x W1)
  have HCE : Hid (∀ W, Below W1.heap.size W1 W → W.cell? ⟨g3, 0, none⟩ = some (.int .i64 x.p) ∧ W.cell? ⟨g3, 1, none⟩ = some (.int .i64 x.n)) := fun W h => ⟨(hA3.below h hA3.lt).cell 0, (hA3.below h hA3.lt).cell 1⟩
  obtain ⟨c0, c1⟩ := HCE.out W1 (Below.refl _ _)
  clear hr hB1 hA3
  go_enter Try.func7, Try.ntmps7
  go_upto_region 1 with fail
  rw [← hW1, ← hg3]
  clear hW1 hg3
  go_wp2_with fail
  refine HMX.out.mono ?_
  rintro e w2 ⟨rfl, hb⟩
  have HB2 := Lib.hid hb
  have HBW : Hid (Below w.heap.size w w2) := HB.out.trans (hb.mono HB.out.size)
  obtain ⟨c0, c1⟩ := HCE.out w2 hb
  clear hb HMX
  cases hmx : mayS x with
  | false =>
    have HE : Hid (R = ([], 1)) := HBAD.out (.inl hmx)
    clear HBAD HBIG HMET HOK HPOS HRM
    go_wp2
    go_ret2
    exact ⟨none, 0, by rw [HE.out]; rfl, .inl (by rw [HE.out]), HBW.out⟩
  | true =>
    by_cases hn : x.n = 0
    · have HE : Hid (R = ([], 1)) := HBAD.out (.inr hn)
      have d1 : (x.n == 0) = true := by rw [hn]; rfl
      clear HBAD HBIG HMET HOK HPOS HRM
      go_wp2
      go_ret2
      exact ⟨none, 0, by rw [HE.out]; rfl, .inl (by rw [HE.out]), HBW.out⟩
    · have d1 : (x.n == 0) = false := by simpa using hn
      have hok : ¬ (mayS x = false ∨ x.n = 0) := fun h => by
        rcases h with h | h
        · rw [hmx] at h; cases h
        · exact hn h
      by_cases h16 : 16 ≤ l.length
      · have HE : Hid (R = ([], 7)) := HBIG.out hok h16
        have d2 : decide ((16 : Int) ≤ (l.length : Int)) = true := decide_eq_true (by omega)
        clear HBAD HBIG HMET HOK HPOS HRM hok hmx hn
        go_wp2
        go_ret2
        exact ⟨none, 0, by rw [HE.out]; rfl, .inl (by rw [HE.out]), HBW.out⟩
      · have d2 : decide ((16 : Int) ≤ (l.length : Int)) = false := decide_eq_false (by omega)
        have HM3 := Lib.hid (HRM.out w2 (HR.out.below HB2.out) hl)
        clear HRM
        cases ml with
        | true =>
          have HE : Hid (R = ([], 12)) := HMET.out hok h16 rfl
          clear HBAD HBIG HMET HOK HPOS hok hmx hn hml
          go_wp2_with fail
          refine HM3.out.mono ?_
          rintro e w3 ⟨rfl, hb⟩
          have HBX := Lib.hid (HBW.out.trans (hb.mono HBW.out.size))
          clear hb
          go_wp2
          go_ret2
          exact ⟨none, 0, by rw [HE.out]; rfl, .inl (by rw [HE.out]), HBX.out⟩
        | false =>
          have HE : Hid (R = (l.take PK ++ x :: l.drop PK, 0)) := HOK.out hok h16 rfl
          have hl16 : l.length < 16 := by omega
          clear HBAD HBIG HMET HOK hok hmx hn hml h16 hl
          go_wp2_with fail
          refine HM3.out.mono ?_
          rintro e w3 ⟨rfl, hb⟩
          have HB3 : Hid (Below W1.heap.size W1 w3) := HB2.out.trans (hb.mono HB2.out.size)
          have HBX := Lib.hid (HBW.out.trans (hb.mono HBW.out.size))
          clear hb HM3 c0 c1 HBW
          go_wp2
          go_loopw [6] (fun kv wr => ∃ k : Nat, k ≤ l.length ∧ kv = .int .i64 k ∧ Hid (∀ j, j < k → (l.getD j sp0).p ≤ x.p) ∧ Below w3.heap.size w3 wr) (fun kv _ => l.length - (intOf kv).toNat)
          case atStart => exact ⟨0, Nat.zero_le _, rfl, (fun j h => absurd h (Nat.not_lt_zero _)), Below.refl _ _⟩
          case round =>
            obtain ⟨k, hk, rfl, HJ, hb⟩ := hrel
            have HB4 : Hid (Below W1.heap.size W1 wr) := HB3.out.trans (hb.mono HB3.out.size)
            have HBR := Lib.hid (HBX.out.trans (hb.mono HBX.out.size))
            obtain ⟨c0, c1⟩ := HCE.out wr HB4.out
            have hbd : Below wr.heap.size wr wr.drew := (Below.refl _ _).drew
            have HBD := Lib.hid (HBR.out.trans (hbd.mono HBR.out.size))
            have HB5 := Lib.hid (HB4.out.trans (hbd.mono HB4.out.size))
            have HB6 := Lib.hid (hb.trans (hbd.mono hb.size))
            have HRR := Lib.hid (HR.out.below HB5.out)
            by_cases hlt : k < l.length
            · have hki : (k : Int) < l.length := by omega
              have hk0 : (0 : Int) ≤ (k : Int) := by omega
              have dl : decide ((k : Int) < (l.length : Int)) = true := decide_eq_true hki
              obtain ⟨b, off, y, rfl, ⟨h1, h2⟩, HX⟩ := (HR.out.below HB4.out).at_ hlt
              have HKP : Hid (∀ W, Below wr.heap.size wr W → W.cell? ⟨b, off + k * 2, none⟩ = some (.int .i64 y.p) ∧ W.cell? ⟨g3, 0, none⟩ = some (.int .i64 x.p) ∧ Below wr.heap.size wr W) := fun W hW => ⟨cell_below h1 hW, cell_below c0 hW, hW⟩
              by_cases hp : y.p ≤ x.p
              · have dp : decide (y.p ≤ x.p) = true := decide_eq_true hp
                have HJ1 : Hid (∀ j, j < k + 1 → (l.getD j sp0).p ≤ x.p) := fun j hj => by
                  by_cases e : j = k
                  · rw [e, HX.out]; exact hp
                  · exact HJ.out j (by omega)
                clear hb HX HJ hp h1 h2 c0 c1
                go_upto_region 8 with fail
                refine wp_region_held_drew (S := fun w' => w'.cell? ⟨b, off + k * 2, none⟩ = some (.int .i64 y.p) ∧ w'.cell? ⟨g3, 0, none⟩ = some (.int .i64 x.p) ∧ Below wr.heap.size wr w') (by kernel_rfl) (by exact HKP.out _ hbd) (fun hHeld => ?_)
                refine takeH 0 25 rfl rfl (v := ?_) (by kernel_rfl) (by kernel_rfl) (by kernel_rfl) (fun _ _ _ h => h) (Or.inl ⟨by rfl, ?_⟩) hHeld ?_
                rotate_left 1
                · (intro w hSw; (try dsimp only at hSw); go_simp; try (with_reducible rfl))
                (try simp only [Act.put]); (try simp only [List.setIfInBounds_toArray]); (try simp only [List.set_cons_succ]); (try simp only [List.set_cons_zero])
                refine takeH 1 26 rfl rfl (v := ?_) (by kernel_rfl) (by kernel_rfl) (by kernel_rfl) (fun _ _ _ h => h) (Or.inl ⟨by rfl, ?_⟩) hHeld ?_
                rotate_left 1
                · (intro w hSw; (try dsimp only at hSw); go_simp; try (with_reducible rfl))
                (try simp only [Act.put]); (try simp only [List.setIfInBounds_toArray]); (try simp only [List.set_cons_succ]); (try simp only [List.set_cons_zero])
                refine takeH 2 27 rfl rfl (v := ?_) (by kernel_rfl) (by kernel_rfl) (by kernel_rfl) (fun _ _ _ h => h) (Or.inl ⟨by rfl, ?_⟩) hHeld ?_
                rotate_left 1
                · (intro w hSw; (try dsimp only at hSw); go_simp; try (with_reducible rfl))
                (try simp only [Act.put]); (try simp only [List.setIfInBounds_toArray]); (try simp only [List.set_cons_succ]); (try simp only [List.set_cons_zero])
                refine takeH 3 28 rfl rfl (v := ?_) (by kernel_rfl) (by kernel_rfl) (by kernel_rfl) (fun _ _ _ h => h) (Or.inl ⟨by rfl, ?_⟩) hHeld ?_
                rotate_left 1
                · (intro w hSw; (try dsimp only at hSw); go_simp; try (with_reducible rfl))
                (try simp only [Act.put]); (try simp only [List.setIfInBounds_toArray]); (try simp only [List.set_cons_succ]); (try simp only [List.set_cons_zero])
                refine takeH 4 29 rfl rfl (v := ?_) (by kernel_rfl) (by kernel_rfl) (by kernel_rfl) (fun _ _ _ h => h) (Or.inl ⟨by rfl, ?_⟩) hHeld ?_
                rotate_left 1
                · (intro w hSw; (try dsimp only at hSw); go_simp; try (with_reducible rfl))
                (try simp only [Act.put]); (try simp only [List.setIfInBounds_toArray]); (try simp only [List.set_cons_succ]); (try simp only [List.set_cons_zero])
                refine takeH 5 30 rfl rfl (v := ?_) (by kernel_rfl) (by kernel_rfl) (by kernel_rfl) (fun _ _ _ h => h) (Or.inl ⟨by rfl, ?_⟩) hHeld ?_
                rotate_left 1
                · (intro w hSw; (try dsimp only at hSw); go_simp; try (with_reducible rfl))
                (try simp only [Act.put]); (try simp only [List.setIfInBounds_toArray]); (try simp only [List.set_cons_succ]); (try simp only [List.set_cons_zero])
                refine takeH 6 31 rfl rfl (v := ?_) (by kernel_rfl) (by kernel_rfl) (by kernel_rfl) (fun _ _ _ h => h) (Or.inl ⟨by rfl, ?_⟩) hHeld ?_
                rotate_left 1
                · (intro w hSw; (try dsimp only at hSw); go_simp; try (with_reducible rfl))
                (try simp only [Act.put]); (try simp only [List.setIfInBounds_toArray]); (try simp only [List.set_cons_succ]); (try simp only [List.set_cons_zero])
                refine takeH 7 32 rfl rfl (v := ?_) (by kernel_rfl) (by kernel_rfl) (by kernel_rfl) (fun _ _ _ h => h) (Or.inl ⟨by rfl, ?_⟩) hHeld ?_
                rotate_left 1
                · (intro w hSw; (try dsimp only at hSw); go_simp; try (with_reducible rfl))
                (try simp only [Act.put]); (try simp only [List.setIfInBounds_toArray]); (try simp only [List.set_cons_succ]); (try simp only [List.set_cons_zero])
                refine takeH 8 33 rfl rfl (v := ?_) (by kernel_rfl) (by kernel_rfl) (by kernel_rfl) (fun _ _ _ h => h) (Or.inl ⟨by rfl, ?_⟩) hHeld ?_
                rotate_left 1
                · (intro w hSw; (try dsimp only at hSw); go_simp; try (with_reducible rfl))
                (try simp only [Act.put]); (try simp only [List.setIfInBounds_toArray]); (try simp only [List.set_cons_succ]); (try simp only [List.set_cons_zero])
                refine takeH 9 34 rfl rfl (v := ?_) (by kernel_rfl) (by kernel_rfl) (by kernel_rfl) (fun _ _ _ h => h) (Or.inl ⟨by rfl, ?_⟩) hHeld ?_
                rotate_left 1
                · (intro w hSw; (try dsimp only at hSw); go_simp; try (with_reducible rfl))
                (try simp only [Act.put]); (try simp only [List.setIfInBounds_toArray]); (try simp only [List.set_cons_succ]); (try simp only [List.set_cons_zero])
                refine takeH 10 35 rfl rfl (v := ?_) (by kernel_rfl) (by kernel_rfl) (by kernel_rfl) (fun _ _ _ h => h) (Or.inl ⟨by rfl, ?_⟩) hHeld ?_
                rotate_left 1
                · (intro w hSw; (try dsimp only at hSw); go_simp; try (with_reducible rfl))
                (try simp only [Act.put]); (try simp only [List.setIfInBounds_toArray]); (try simp only [List.set_cons_succ]); (try simp only [List.set_cons_zero])
                refine takeH 11 36 rfl rfl (v := ?_) (by kernel_rfl) (by kernel_rfl) (by kernel_rfl) (fun _ _ _ h => h) (Or.inl ⟨by rfl, ?_⟩) hHeld ?_
                rotate_left 1
                · (intro w hSw; (try dsimp only at hSw); go_simp; try (with_reducible rfl))
                (try simp only [Act.put]); (try simp only [List.setIfInBounds_toArray]); (try simp only [List.set_cons_succ]); (try simp only [List.set_cons_zero])
                refine takeH 12 37 rfl rfl (v := ?_) (by kernel_rfl) (by kernel_rfl) (by kernel_rfl) (fun _ _ _ h => h) (Or.inl ⟨by rfl, ?_⟩) hHeld ?_
                rotate_left 1
                · (intro w hSw; (try dsimp only at hSw); go_simp; try (with_reducible rfl))
                (try simp only [Act.put]); (try simp only [List.setIfInBounds_toArray]); (try simp only [List.set_cons_succ]); (try simp only [List.set_cons_zero])
                refine takeH 13 38 rfl rfl (v := ?_) (by kernel_rfl) (by kernel_rfl) (by kernel_rfl) (fun _ _ _ h => h) (Or.inl ⟨by rfl, ?_⟩) hHeld ?_
                rotate_left 1
                · (intro w hSw; (try dsimp only at hSw); go_simp; try (with_reducible rfl))
                (try simp only [Act.put]); (try simp only [List.setIfInBounds_toArray]); (try simp only [List.set_cons_succ]); (try simp only [List.set_cons_zero])
                refine wpAnyH_done (by kernel_rfl) ?_ _
                go_wp2_with fail
                go_roundw
                case rel => exact ⟨k + 1, by omega, by go_num, HJ1.out, HB6.out⟩
                case measure => simp [intOf]; omega
              · have dp : decide (y.p ≤ x.p) = false := decide_eq_false hp
                have HPE : Hid (PK = k) := HPOS.out k hk HJ.out (.inr (by rw [HX.out]; omega))
                have hPK : PK = k := HPE.out
                clear hb HX HJ hp h1 h2 c0 c1 HPOS HPE
                go_upto_region 8 with fail
                refine wp_region_held_drew (S := fun w' => w'.cell? ⟨b, off + k * 2, none⟩ = some (.int .i64 y.p) ∧ w'.cell? ⟨g3, 0, none⟩ = some (.int .i64 x.p) ∧ Below wr.heap.size wr w') (by kernel_rfl) (by exact HKP.out _ hbd) (fun hHeld => ?_)
                refine takeH 0 25 rfl rfl (v := ?_) (by kernel_rfl) (by kernel_rfl) (by kernel_rfl) (fun _ _ _ h => h) (Or.inl ⟨by rfl, ?_⟩) hHeld ?_
                rotate_left 1
                · (intro w hSw; (try dsimp only at hSw); go_simp; try (with_reducible rfl))
                (try simp only [Act.put]); (try simp only [List.setIfInBounds_toArray]); (try simp only [List.set_cons_succ]); (try simp only [List.set_cons_zero])
                refine takeH 1 26 rfl rfl (v := ?_) (by kernel_rfl) (by kernel_rfl) (by kernel_rfl) (fun _ _ _ h => h) (Or.inl ⟨by rfl, ?_⟩) hHeld ?_
                rotate_left 1
                · (intro w hSw; (try dsimp only at hSw); go_simp; try (with_reducible rfl))
                (try simp only [Act.put]); (try simp only [List.setIfInBounds_toArray]); (try simp only [List.set_cons_succ]); (try simp only [List.set_cons_zero])
                refine takeH 2 27 rfl rfl (v := ?_) (by kernel_rfl) (by kernel_rfl) (by kernel_rfl) (fun _ _ _ h => h) (Or.inl ⟨by rfl, ?_⟩) hHeld ?_
                rotate_left 1
                · (intro w hSw; (try dsimp only at hSw); go_simp; try (with_reducible rfl))
                (try simp only [Act.put]); (try simp only [List.setIfInBounds_toArray]); (try simp only [List.set_cons_succ]); (try simp only [List.set_cons_zero])
                refine takeH 3 28 rfl rfl (v := ?_) (by kernel_rfl) (by kernel_rfl) (by kernel_rfl) (fun _ _ _ h => h) (Or.inl ⟨by rfl, ?_⟩) hHeld ?_
                rotate_left 1
                · (intro w hSw; (try dsimp only at hSw); go_simp; try (with_reducible rfl))
                (try simp only [Act.put]); (try simp only [List.setIfInBounds_toArray]); (try simp only [List.set_cons_succ]); (try simp only [List.set_cons_zero])
                refine takeH 4 29 rfl rfl (v := ?_) (by kernel_rfl) (by kernel_rfl) (by kernel_rfl) (fun _ _ _ h => h) (Or.inl ⟨by rfl, ?_⟩) hHeld ?_
                rotate_left 1
                · (intro w hSw; (try dsimp only at hSw); go_simp; try (with_reducible rfl))
                (try simp only [Act.put]); (try simp only [List.setIfInBounds_toArray]); (try simp only [List.set_cons_succ]); (try simp only [List.set_cons_zero])
                refine takeH 5 30 rfl rfl (v := ?_) (by kernel_rfl) (by kernel_rfl) (by kernel_rfl) (fun _ _ _ h => h) (Or.inl ⟨by rfl, ?_⟩) hHeld ?_
                rotate_left 1
                · (intro w hSw; (try dsimp only at hSw); go_simp; try (with_reducible rfl))
                (try simp only [Act.put]); (try simp only [List.setIfInBounds_toArray]); (try simp only [List.set_cons_succ]); (try simp only [List.set_cons_zero])
                refine takeH 6 31 rfl rfl (v := ?_) (by kernel_rfl) (by kernel_rfl) (by kernel_rfl) (fun _ _ _ h => h) (Or.inl ⟨by rfl, ?_⟩) hHeld ?_
                rotate_left 1
                · (intro w hSw; (try dsimp only at hSw); go_simp; try (with_reducible rfl))
                (try simp only [Act.put]); (try simp only [List.setIfInBounds_toArray]); (try simp only [List.set_cons_succ]); (try simp only [List.set_cons_zero])
                refine takeH 7 32 rfl rfl (v := ?_) (by kernel_rfl) (by kernel_rfl) (by kernel_rfl) (fun _ _ _ h => h) (Or.inl ⟨by rfl, ?_⟩) hHeld ?_
                rotate_left 1
                · (intro w hSw; (try dsimp only at hSw); go_simp; try (with_reducible rfl))
                (try simp only [Act.put]); (try simp only [List.setIfInBounds_toArray]); (try simp only [List.set_cons_succ]); (try simp only [List.set_cons_zero])
                refine takeH 8 33 rfl rfl (v := ?_) (by kernel_rfl) (by kernel_rfl) (by kernel_rfl) (fun _ _ _ h => h) (Or.inl ⟨by rfl, ?_⟩) hHeld ?_
                rotate_left 1
                · (intro w hSw; (try dsimp only at hSw); go_simp; try (with_reducible rfl))
                (try simp only [Act.put]); (try simp only [List.setIfInBounds_toArray]); (try simp only [List.set_cons_succ]); (try simp only [List.set_cons_zero])
                refine takeH 9 34 rfl rfl (v := ?_) (by kernel_rfl) (by kernel_rfl) (by kernel_rfl) (fun _ _ _ h => h) (Or.inl ⟨by rfl, ?_⟩) hHeld ?_
                rotate_left 1
                · (intro w hSw; (try dsimp only at hSw); go_simp; try (with_reducible rfl))
                (try simp only [Act.put]); (try simp only [List.setIfInBounds_toArray]); (try simp only [List.set_cons_succ]); (try simp only [List.set_cons_zero])
                refine takeH 10 35 rfl rfl (v := ?_) (by kernel_rfl) (by kernel_rfl) (by kernel_rfl) (fun _ _ _ h => h) (Or.inl ⟨by rfl, ?_⟩) hHeld ?_
                rotate_left 1
                · (intro w hSw; (try dsimp only at hSw); go_simp; try (with_reducible rfl))
                (try simp only [Act.put]); (try simp only [List.setIfInBounds_toArray]); (try simp only [List.set_cons_succ]); (try simp only [List.set_cons_zero])
                refine takeH 11 36 rfl rfl (v := ?_) (by kernel_rfl) (by kernel_rfl) (by kernel_rfl) (fun _ _ _ h => h) (Or.inl ⟨by rfl, ?_⟩) hHeld ?_
                rotate_left 1
                · (intro w hSw; (try dsimp only at hSw); go_simp; try (with_reducible rfl))
                (try simp only [Act.put]); (try simp only [List.setIfInBounds_toArray]); (try simp only [List.set_cons_succ]); (try simp only [List.set_cons_zero])
                refine takeH 12 37 rfl rfl (v := ?_) (by kernel_rfl) (by kernel_rfl) (by kernel_rfl) (fun _ _ _ h => h) (Or.inl ⟨by rfl, ?_⟩) hHeld ?_
                rotate_left 1
                · (intro w hSw; (try dsimp only at hSw); go_simp; try (with_reducible rfl))
                (try simp only [Act.put]); (try simp only [List.setIfInBounds_toArray]); (try simp only [List.set_cons_succ]); (try simp only [List.set_cons_zero])
                refine takeH 13 38 rfl rfl (v := ?_) (by kernel_rfl) (by kernel_rfl) (by kernel_rfl) (fun _ _ _ h => h) (Or.inl ⟨by rfl, ?_⟩) hHeld ?_
                rotate_left 1
                · (intro w hSw; (try dsimp only at hSw); go_simp; try (with_reducible rfl))
                (try simp only [Act.put]); (try simp only [List.setIfInBounds_toArray]); (try simp only [List.set_cons_succ]); (try simp only [List.set_cons_zero])
                refine wpAnyH_done (by kernel_rfl) ?_ _
                clear HKP hbd hHeld
                subst hPK
                have HEL := Lib.hid elemSpD
                have HY1 : Hid ((spD (l.take PK)).length = PK * 2) := by unfold Hid; rw [spD_length, List.length_take]; omega
                have HY2 : Hid ((spD (l.drop PK)).length = (l.length - PK) * 2) := by unfold Hid; rw [spD_length, List.length_drop]
                have HR1 := Lib.hid (spD_take HRR.out (k := PK) (by omega))
                have HFIN : Hid (∀ (v : Value) (w' : World), w'.ownsRow 0 24 2 v (PK + 1 + (l.length - PK)) (spD (l.take PK) ++ [.int .i64 x.p, .int .i64 x.n] ++ spD (l.drop PK)) → ∃ B c, v = .slice B (l.take PK ++ x :: l.drop PK).length c ∧ RdSp w' B (l.take PK ++ x :: l.drop PK)) := fun v w' h => by
                  have e1 : spD (l.take PK) ++ [.int .i64 x.p, .int .i64 x.n] ++ spD (l.drop PK) = spD (l.take PK ++ x :: l.drop PK) := by rw [spD_two, List.append_assoc]; rfl
                  have e2 : PK + 1 + (l.length - PK) = (l.take PK ++ x :: l.drop PK).length := by rw [List.length_append, List.length_take, List.length_cons, List.length_drop]; omega
                  rw [e1, e2] at h
                  obtain ⟨B, c, h1, h2, _⟩ := own_spD h
                  exact ⟨B, c, h1, h2⟩
                generalize wr.drew = W4 at *
                have hPc : (PK : Int) ≤ cap := by omega
                have hPl : (PK : Int) ≤ l.length := by omega
                go_wp2_with (first | (at_builtin; refine append_read rfl (.tmp 41) (.tmp 44) 22 rfl 24 2 16 HEL (.slice none 0 0) 0 PK [] (spD (l.take PK)) rfl (World.ownsRow_nil _ _ _ _) (some ⟨b, off, none⟩) cap rfl HY1.out HR1.out (spD_cells _) (by unfold maxLen; omega) (by omega) ?_; intro v5 w5 ho5 hm5; simp only [List.nil_append, Nat.zero_add] at ho5; have HO5 := Lib.hid ho5; have hb5 : Below W4.heap.size W4 w5 := hm5.below (fun k hk => by cases hk) (Nat.le_refl _); have HB7 := Lib.hid hb5; obtain ⟨c0, c1⟩ := HCE.out w5 (HB5.out.trans (hb5.mono HB5.out.size)); have HM5 := Lib.hid hm5; clear ho5 hm5 hb5) | (at_builtin; refine append_new rfl (.tmp 46) (.tmp 48) 22 rfl 24 2 16 HEL v5 PK (spD (l.take PK)) rfl HO5.out #[.int .i64 x.p, .int .i64 x.n] rfl (fun u hu => spD_cells [x] u hu) w5.heap.size rfl rfl (by unfold maxLen; omega) (by omega) ?_; intro v6 w6 ho6 hm6; have HO6 : Hid (w6.ownsRow 0 24 2 v6 (PK + 1) (spD (l.take PK) ++ [.int .i64 x.p, .int .i64 x.n])) := Lib.hid ho6; have hm7 := HM5.out.trans hm6; have hb6 : Below W4.heap.size W4 w6 := hm7.below (fun k hk => by cases hk) (Nat.le_refl _); have HB8 := Lib.hid hb6; have HM6 := Lib.hid hm7; clear ho6 hm6 hb6 hm7) | (at_builtin; refine append_read rfl (.tmp 50) (.tmp 53) 22 rfl 24 2 16 HEL v6 (PK + 1) (l.length - PK) (spD (l.take PK) ++ [.int .i64 x.p, .int .i64 x.n]) (spD (l.drop PK)) rfl HO6.out _ _ rfl HY2.out (.inr ⟨b, off + PK * 2, rfl, spD_drop (HRR.out.below HB8.out) PK⟩) (spD_cells _) (by unfold maxLen; omega) (by omega) ?_; intro v7 w7 ho7 hm7; have HO7 : Hid (w7.ownsRow 0 24 2 v7 (PK + 1 + (l.length - PK)) (spD (l.take PK) ++ [.int .i64 x.p, .int .i64 x.n] ++ spD (l.drop PK))) := (by first | exact Lib.hid ho7 | (rw [Nat.sub_self]; exact Lib.hid ho7)); have hm8 := HM6.out.trans hm7; have HB9 : Hid (Below W4.heap.size W4 w7) := hm8.below (fun k hk => by cases hk) (Nat.le_refl _); clear ho7 hm7 hm8))
                all_goals (obtain ⟨B, c, rfl, hrd⟩ := HFIN.out _ _ HO7.out)
                all_goals (go_ret2)
                all_goals (first | exact ⟨B, c, by rw [HE.out]; rfl, by rw [HE.out]; exact hrd, HBD.out.trans (HB9.out.mono HBD.out.size)⟩ | exact ⟨B, ⟨c, by rw [HE.out]; rfl⟩, by rw [HE.out]; exact hrd, HBD.out.trans (HB9.out.mono HBD.out.size)⟩)
            · obtain rfl : k = l.length := by omega
              have dl : decide ((l.length : Int) < (l.length : Int)) = false := decide_eq_false (by omega)
              have HPE : Hid (PK = l.length) := HPOS.out l.length hk HJ.out (.inl rfl)
              have hPK : PK = l.length := HPE.out
              clear hb HJ c0 c1 HPOS HPE
              go_upto_region 8 with fail
              refine wp_region_held_drew (S := fun w' => Below wr.heap.size wr w') (by kernel_rfl) (by exact hbd) (fun hHeld => ?_)
              refine takeH 0 25 rfl rfl (v := ?_) (by kernel_rfl) (by kernel_rfl) (by kernel_rfl) (fun _ _ _ h => h) (Or.inl ⟨by rfl, ?_⟩) hHeld ?_
              rotate_left 1
              · (intro w hSw; (try dsimp only at hSw); go_simp; try (with_reducible rfl))
              (try simp only [Act.put]); (try simp only [List.setIfInBounds_toArray]); (try simp only [List.set_cons_succ]); (try simp only [List.set_cons_zero])
              refine takeH 1 26 rfl rfl (v := ?_) (by kernel_rfl) (by kernel_rfl) (by kernel_rfl) (fun _ _ _ h => h) (Or.inl ⟨by rfl, ?_⟩) hHeld ?_
              rotate_left 1
              · (intro w hSw; (try dsimp only at hSw); go_simp; try (with_reducible rfl))
              (try simp only [Act.put]); (try simp only [List.setIfInBounds_toArray]); (try simp only [List.set_cons_succ]); (try simp only [List.set_cons_zero])
              refine takeH 2 27 rfl rfl (v := ?_) (by kernel_rfl) (by kernel_rfl) (by kernel_rfl) (fun _ _ _ h => h) (Or.inl ⟨by rfl, ?_⟩) hHeld ?_
              rotate_left 1
              · (intro w hSw; (try dsimp only at hSw); go_simp; try (with_reducible rfl))
              (try simp only [Act.put]); (try simp only [List.setIfInBounds_toArray]); (try simp only [List.set_cons_succ]); (try simp only [List.set_cons_zero])
              refine takeH 3 28 rfl rfl (v := ?_) (by kernel_rfl) (by kernel_rfl) (by kernel_rfl) (fun _ _ _ h => h) (Or.inl ⟨by rfl, ?_⟩) hHeld ?_
              rotate_left 1
              · (intro w hSw; (try dsimp only at hSw); go_simp; try (with_reducible rfl))
              (try simp only [Act.put]); (try simp only [List.setIfInBounds_toArray]); (try simp only [List.set_cons_succ]); (try simp only [List.set_cons_zero])
              refine takeH 4 29 rfl rfl (v := ?_) (by kernel_rfl) (by kernel_rfl) (by kernel_rfl) (fun _ _ _ h => h) (Or.inl ⟨by rfl, ?_⟩) hHeld ?_
              rotate_left 1
              · (intro w hSw; (try dsimp only at hSw); go_simp; try (with_reducible rfl))
              (try simp only [Act.put]); (try simp only [List.setIfInBounds_toArray]); (try simp only [List.set_cons_succ]); (try simp only [List.set_cons_zero])
              refine takeH 5 30 rfl rfl (v := undef) (by kernel_rfl) (by kernel_rfl) (by kernel_rfl) (fun _ _ _ h => h) (Or.inr ⟨by rfl, rfl⟩) hHeld ?_
              (try simp only [Act.put]); (try simp only [List.setIfInBounds_toArray]); (try simp only [List.set_cons_succ]); (try simp only [List.set_cons_zero])
              refine takeH 6 31 rfl rfl (v := undef) (by kernel_rfl) (by kernel_rfl) (by kernel_rfl) (fun _ _ _ h => h) (Or.inr ⟨by rfl, rfl⟩) hHeld ?_
              (try simp only [Act.put]); (try simp only [List.setIfInBounds_toArray]); (try simp only [List.set_cons_succ]); (try simp only [List.set_cons_zero])
              refine takeH 7 32 rfl rfl (v := undef) (by kernel_rfl) (by kernel_rfl) (by kernel_rfl) (fun _ _ _ h => h) (Or.inr ⟨by rfl, rfl⟩) hHeld ?_
              (try simp only [Act.put]); (try simp only [List.setIfInBounds_toArray]); (try simp only [List.set_cons_succ]); (try simp only [List.set_cons_zero])
              refine takeH 8 33 rfl rfl (v := undef) (by kernel_rfl) (by kernel_rfl) (by kernel_rfl) (fun _ _ _ h => h) (Or.inr ⟨by rfl, rfl⟩) hHeld ?_
              (try simp only [Act.put]); (try simp only [List.setIfInBounds_toArray]); (try simp only [List.set_cons_succ]); (try simp only [List.set_cons_zero])
              refine takeH 9 34 rfl rfl (v := undef) (by kernel_rfl) (by kernel_rfl) (by kernel_rfl) (fun _ _ _ h => h) (Or.inr ⟨by rfl, rfl⟩) hHeld ?_
              (try simp only [Act.put]); (try simp only [List.setIfInBounds_toArray]); (try simp only [List.set_cons_succ]); (try simp only [List.set_cons_zero])
              refine takeH 10 35 rfl rfl (v := undef) (by kernel_rfl) (by kernel_rfl) (by kernel_rfl) (fun _ _ _ h => h) (Or.inr ⟨by rfl, rfl⟩) hHeld ?_
              (try simp only [Act.put]); (try simp only [List.setIfInBounds_toArray]); (try simp only [List.set_cons_succ]); (try simp only [List.set_cons_zero])
              refine takeH 11 36 rfl rfl (v := undef) (by kernel_rfl) (by kernel_rfl) (by kernel_rfl) (fun _ _ _ h => h) (Or.inr ⟨by rfl, rfl⟩) hHeld ?_
              (try simp only [Act.put]); (try simp only [List.setIfInBounds_toArray]); (try simp only [List.set_cons_succ]); (try simp only [List.set_cons_zero])
              refine takeH 12 37 rfl rfl (v := undef) (by kernel_rfl) (by kernel_rfl) (by kernel_rfl) (fun _ _ _ h => h) (Or.inr ⟨by rfl, rfl⟩) hHeld ?_
              (try simp only [Act.put]); (try simp only [List.setIfInBounds_toArray]); (try simp only [List.set_cons_succ]); (try simp only [List.set_cons_zero])
              refine takeH 13 38 rfl rfl (v := ?_) (by kernel_rfl) (by kernel_rfl) (by kernel_rfl) (fun _ _ _ h => h) (Or.inl ⟨by rfl, ?_⟩) hHeld ?_
              rotate_left 1
              · (intro w hSw; (try dsimp only at hSw); go_simp; try (with_reducible rfl))
              (try simp only [Act.put]); (try simp only [List.setIfInBounds_toArray]); (try simp only [List.set_cons_succ]); (try simp only [List.set_cons_zero])
              refine wpAnyH_done (by kernel_rfl) ?_ _
              clear hbd hHeld
              subst hPK
              have HEL := Lib.hid elemSpD
              have HY3 : Hid ((spD (l.drop l.length)).length = 0 * 2) := by unfold Hid; rw [spD_length, List.length_drop]; omega
              have HY1 : Hid ((spD (l.take l.length)).length = l.length * 2) := by unfold Hid; rw [spD_length, List.length_take]; omega
              have HY2 : Hid ((spD (l.drop l.length)).length = (l.length - l.length) * 2) := by unfold Hid; rw [spD_length, List.length_drop]
              have HR1 := Lib.hid (spD_take HRR.out (k := l.length) (by omega))
              have HFIN : Hid (∀ (v : Value) (w' : World), w'.ownsRow 0 24 2 v (l.length + 1 + (l.length - l.length)) (spD (l.take l.length) ++ [.int .i64 x.p, .int .i64 x.n] ++ spD (l.drop l.length)) → ∃ B c, v = .slice B (l.take l.length ++ x :: l.drop l.length).length c ∧ RdSp w' B (l.take l.length ++ x :: l.drop l.length)) := fun v w' h => by
                have e1 : spD (l.take l.length) ++ [.int .i64 x.p, .int .i64 x.n] ++ spD (l.drop l.length) = spD (l.take l.length ++ x :: l.drop l.length) := by rw [spD_two, List.append_assoc]; rfl
                have e2 : l.length + 1 + (l.length - l.length) = (l.take l.length ++ x :: l.drop l.length).length := by rw [List.length_append, List.length_take, List.length_cons, List.length_drop]; omega
                rw [e1, e2] at h
                obtain ⟨B, c, h1, h2, _⟩ := own_spD h
                exact ⟨B, c, h1, h2⟩
              generalize wr.drew = W4 at *
              have hPc : (l.length : Int) ≤ cap := by omega
              have hPl : (l.length : Int) ≤ l.length := by omega
              go_wp2_with (first | (at_builtin; refine append_read rfl (.tmp 41) (.tmp 44) 22 rfl 24 2 16 HEL (.slice none 0 0) 0 l.length [] (spD (l.take l.length)) rfl (World.ownsRow_nil _ _ _ _) (A) cap rfl HY1.out HR1.out (spD_cells _) (by unfold maxLen; omega) (by omega) ?_; intro v5 w5 ho5 hm5; simp only [List.nil_append, Nat.zero_add] at ho5; have HO5 := Lib.hid ho5; have hb5 : Below W4.heap.size W4 w5 := hm5.below (fun k hk => by cases hk) (Nat.le_refl _); have HB7 := Lib.hid hb5; obtain ⟨c0, c1⟩ := HCE.out w5 (HB5.out.trans (hb5.mono HB5.out.size)); have HM5 := Lib.hid hm5; clear ho5 hm5 hb5) | (at_builtin; refine append_new rfl (.tmp 46) (.tmp 48) 22 rfl 24 2 16 HEL v5 l.length (spD (l.take l.length)) rfl HO5.out #[.int .i64 x.p, .int .i64 x.n] rfl (fun u hu => spD_cells [x] u hu) w5.heap.size rfl rfl (by unfold maxLen; omega) (by omega) ?_; intro v6 w6 ho6 hm6; have HO6 : Hid (w6.ownsRow 0 24 2 v6 (l.length + 1) (spD (l.take l.length) ++ [.int .i64 x.p, .int .i64 x.n])) := Lib.hid ho6; have hm7 := HM5.out.trans hm6; have hb6 : Below W4.heap.size W4 w6 := hm7.below (fun k hk => by cases hk) (Nat.le_refl _); have HB8 := Lib.hid hb6; have HM6 := Lib.hid hm7; clear ho6 hm6 hb6 hm7) | (at_builtin; refine append_read rfl (.tmp 50) (.tmp 53) 22 rfl 24 2 16 HEL v6 (l.length + 1) (l.length - l.length) (spD (l.take l.length) ++ [.int .i64 x.p, .int .i64 x.n]) (spD (l.drop l.length)) rfl HO6.out _ _ rfl HY2.out (.inl (by omega)) (spD_cells _) (by unfold maxLen; omega) (by omega) ?_; intro v7 w7 ho7 hm7; have HO7 : Hid (w7.ownsRow 0 24 2 v7 (l.length + 1 + (l.length - l.length)) (spD (l.take l.length) ++ [.int .i64 x.p, .int .i64 x.n] ++ spD (l.drop l.length))) := (by first | exact Lib.hid ho7 | (rw [Nat.sub_self]; exact Lib.hid ho7)); have hm8 := HM6.out.trans hm7; have HB9 : Hid (Below W4.heap.size W4 w7) := hm8.below (fun k hk => by cases hk) (Nat.le_refl _); clear ho7 hm7 hm8) | (at_builtin; refine append_read rfl (.tmp 50) (.tmp 53) 22 rfl 24 2 16 HEL v6 (l.length + 1) 0 (spD (l.take l.length) ++ [.int .i64 x.p, .int .i64 x.n]) (spD (l.drop l.length)) rfl HO6.out _ _ rfl HY3.out (.inl (by omega)) (spD_cells _) (by unfold maxLen; omega) (by omega) ?_; intro v7 w7 ho7 hm7; have HO7 : Hid (w7.ownsRow 0 24 2 v7 (l.length + 1 + (l.length - l.length)) (spD (l.take l.length) ++ [.int .i64 x.p, .int .i64 x.n] ++ spD (l.drop l.length))) := (by first | exact Lib.hid ho7 | (rw [Nat.sub_self]; exact Lib.hid ho7)); have hm8 := HM6.out.trans hm7; have HB9 : Hid (Below W4.heap.size W4 w7) := hm8.below (fun k hk => by cases hk) (Nat.le_refl _); clear ho7 hm7 hm8))
              all_goals (obtain ⟨B, c, rfl, hrd⟩ := HFIN.out _ _ HO7.out)
              all_goals (go_ret2)
              all_goals (first | exact ⟨B, c, by rw [HE.out]; rfl, by rw [HE.out]; exact hrd, HBD.out.trans (HB9.out.mono HBD.out.size)⟩ | exact ⟨B, ⟨c, by rw [HE.out]; rfl⟩, by rw [HE.out]; exact hrd, HBD.out.trans (HB9.out.mono HBD.out.size)⟩)
end Go.Proofs.Ytgfblcfleohdjaa
