/- What the document's Check of spans returns. Conditions: slices that read as spans; those that are loaded exist. -/
import Derived.Test.YtecfdcibjmakeaaRaM
import Derived.Deep.RegionHeld3
import Derived.Deep.DeepCutAuto
namespace Go.Proofs.Ytecfdcibjmakeaa
open Go.RowKit

theorem step_sp {P : Nat → Prop} {k : Nat} (h : ∀ j, j < k → P j) (hk : P k) : ∀ j, j < k + 1 → P j := fun j hj => by
  by_cases e : j = k
  · subst e; exact hk
  · exact h j (by omega)
theorem cell_below {w w' : World} {b o : Nat} {v : Value} (h : w.cell? ⟨b, o, none⟩ = some v) (hb : Below w.heap.size w w') : w'.cell? ⟨b, o, none⟩ = some v :=
  (World.cell?_of_block (a := ⟨b, o, none⟩) (hb.block b (World.block_lt_of_cell? w _ h))).trans h

set_option maxHeartbeats 3200000 in
set_option maxRecDepth 100000 in
theorem rck_any (g : Nat) (AL : Option Addr) (capL : Nat) (K : List SP) (A : Option Addr) (cap : Nat) (l : List SP) (w : World) (h0 : w.cell? ⟨g, 0, none⟩ = some (.slice AL K.length capL)) (hK : RdSp w AL K) (hin : ∀ k, k < K.length → insS (K.getD k sp0) = true) (hl : RdSp w A l) (hKl : K.length ≤ maxLen) (hll : l.length ≤ maxLen) :
    Calls Try.prog 15 #[.pointer (some ⟨g, 0, none⟩), .slice A l.length cap] w fun e w' => e = .returned (.int .i64 (ckR K l : Int)) ∧ Below w.heap.size w w' := by
  have hK2 : K.length ≤ 9223372036854775807 := by unfold maxLen at hKl; omega
  have hl2 : l.length ≤ 9223372036854775807 := by unfold maxLen at hll; omega
  have H0 := Lib.hid h0
  have HK := Lib.hid hK
  have HIN := Lib.hid hin
  have HL := Lib.hid hl
  clear h0 hK hin hl hKl hll
  go_enter Try.func15, Try.ntmps15
  go_wp2
  go_loopw [5] (fun v wr => ∃ i : Nat, i ≤ l.length ∧ v = .int .i64 i ∧ (∀ j, j < i → er1 K l j = 0) ∧ Below w.heap.size w wr) (fun v _ => l.length - (intOf v).toNat)
  case atStart => exact ⟨0, Nat.zero_le _, rfl, fun _ h => absurd h (Nat.not_lt_zero _), Below.refl _ _⟩
  case round =>
    obtain ⟨i, hi, rfl, hall, hb⟩ := hrel
    have HALL := Lib.hid hall
    have HB := Lib.hid hb
    have hz := hb.size
    clear hall hb
    by_cases hlt : i < l.length
    · have hii : (i : Int) < l.length := by omega
      obtain ⟨b, off, x, rfl, hsp, HX⟩ := (HL.out.below HB.out).at_ hlt
      have HSP := Lib.hid hsp
      have HFI : Hid (∀ r, er1 K l i = r → r ≠ 0 → ckR K l = r) := fun r h1 h2 => ckR_first hlt HALL.out h1 h2
      obtain ⟨p, n⟩ := x
      obtain ⟨c1, c2⟩ := hsp
      simp only at c1 c2
      have HI := Lib.hid (inside_any ⟨p, n⟩ wr)
      unfold spV at HI
      simp only at HI
      cases hins : insS ⟨p, n⟩ with
      | false =>
        rw [hins] at HI
        have HN := Lib.hid (HFI.out 2 (er1_rng (by rw [HX.out]; exact hins)) (by decide))
        clear hins
        go_wp2_with fail
        refine HI.out.mono ?_
        rintro e w1 ⟨rfl, hb1⟩
        have HB1 := Lib.hid (HB.out.trans (hb1.mono hz))
        clear hb1
        go_wp2
        go_ret
        exact ⟨by rw [HN.out]; rfl, HB1.out⟩
      | true =>
        rw [hins] at HI
        have HINS := Lib.hid hins
        have hb0 := insS_of hins
        simp only at hb0
        obtain ⟨b1, b2, b3, b4⟩ := hb0
        clear hins
        go_wp2_with fail
        refine HI.out.mono ?_
        rintro e w1 ⟨rfl, hb1⟩
        have HB1 := Lib.hid (HB.out.trans (hb1.mono hz))
        have hz1 := HB1.out.size
        have HSP1 := Lib.hid (HSP.out.below hb1)
        clear hb1 c1 c2 HI HB HSP
        obtain ⟨c1, c2⟩ := HSP1.out
        simp only at c1 c2
        cases hlow : lowS ⟨p, n⟩ with
        | true =>
          have HN := Lib.hid (HFI.out 3 (er1_low (by rw [HX.out]; exact HINS.out) (by rw [HX.out]; exact hlow)) (by decide))
          have hq : 0 < n ∧ p < 4096 := by unfold lowS at hlow; simpa using hlow
          have d1 : decide (0 < n) = true := decide_eq_true hq.1
          have d2 : decide (p < 4096) = true := decide_eq_true hq.2
          clear hlow hq
          go_wp2
          go_ret
          exact ⟨by rw [HN.out]; rfl, HB1.out⟩
        | false =>
          have HLOW := Lib.hid hlow
          have HM : Hid (∀ y W, insS y = true → Calls Try.prog 16 #[.agg #[.int .i64 p, .int .i64 n], .agg #[.int .i64 y.p, .int .i64 y.n]] W fun e w' => e = .returned (.bool (meetS ⟨p, n⟩ y)) ∧ Below W.heap.size W w') := fun y W hy => meet_any ⟨p, n⟩ y W HINS.out hy
          have HSPW : Hid (∀ W, Below w1.heap.size w1 W → SpAt W b (off + i * 2) ⟨p, n⟩) := fun W hW => HSP1.out.below hW
          have hwhat : decide (0 < n) = false ∨ (decide (0 < n) = true ∧ decide (p < 4096) = false) := by
            unfold lowS at hlow
            simp only at hlow
            cases e1 : decide (0 < n) with
            | false => exact .inl rfl
            | true => rw [e1] at hlow; exact .inr ⟨rfl, hlow⟩
          clear hlow
          go_upto_region 6 with fail
          go_cut [33] (fun s33 wx => s33 = .bool false ∧ wx = w1)
          case first => as_aux_lemma =>
            rcases hwhat with d1 | ⟨d1, d2⟩
            · go_wp2_with fail
              go_meet
              exact ⟨rfl, rfl⟩
            · go_wp2_with fail
              go_meet
              exact ⟨rfl, rfl⟩
          case rest => as_aux_lemma =>
            obtain ⟨rfl, rfl⟩ := hcut
            clear hwhat c1 c2
            go_wp2
            go_loopw [6] (fun v wr => ∃ k : Nat, k ≤ K.length ∧ v = .int .i64 k ∧ (∀ j, j < k → meetS ⟨p, n⟩ (K.getD j sp0) = false) ∧ Below wc.heap.size wc wr) (fun v _ => K.length - (intOf v).toNat)
            case atStart => exact ⟨0, Nat.zero_le _, rfl, fun _ h => absurd h (Nat.not_lt_zero _), Below.refl _ _⟩
            case round =>
              obtain ⟨k, hk, rfl, hin, hb⟩ := hrel
              have HIN2 := Lib.hid hin
              have HB2 := Lib.hid hb
              have HBW := Lib.hid (HB1.out.trans (hb.mono hz1))
              have hz2 := HBW.out.size
              have g0 : wr.cell? ⟨g, 0, none⟩ = some (.slice AL K.length capL) := cell_below H0.out HBW.out
              clear hin hb
              by_cases hlk : k < K.length
              · have hkk : (k : Int) < K.length := by omega
                obtain ⟨b', off', y, rfl, ⟨e1, e2⟩, HY⟩ := (HK.out.below HBW.out).at_ hlk
                have hyi : insS y = true := by rw [← HY.out]; exact HIN.out k hlk
                have HQ0 := Lib.hid (fun W => HM.out y W hyi)
                have HOLD : Hid (meetS ⟨p, n⟩ y = true → ckR K l = 12) := fun h => HFI.out 12 (er1_old (by rw [HX.out]; exact HINS.out) (by rw [HX.out]; exact HLOW.out) hlk (by rw [HX.out, HY.out]; exact h)) (by decide)
                have HNXT : Hid (meetS ⟨p, n⟩ y = false → ∀ j, j < k + 1 → meetS ⟨p, n⟩ (K.getD j sp0) = false) := fun h => step_sp HIN2.out (by rw [HY.out]; exact h)
                generalize meetS ⟨p, n⟩ y = mt at HQ0 HOLD HNXT
                obtain ⟨p', n'⟩ := y
                simp only at e1 e2 HQ0
                obtain ⟨c1, c2⟩ := HSPW.out wr HB2.out
                simp only at c1 c2
                have HKP : Hid (∀ W, Below wr.heap.size wr W → W.cell? ⟨b, off + i * 2, none⟩ = some (.int .i64 p) ∧ W.cell? ⟨b, off + i * 2 + 1, none⟩ = some (.int .i64 n) ∧ W.cell? ⟨g, 0, none⟩ = some (.slice (some ⟨b', off', none⟩) K.length capL) ∧ W.cell? ⟨b', off' + k * 2, none⟩ = some (.int .i64 p') ∧ W.cell? ⟨b', off' + k * 2 + 1, none⟩ = some (.int .i64 n') ∧ Below wr.heap.size wr W) :=
                  fun W hW => ⟨cell_below c1 hW, cell_below c2 hW, cell_below g0 hW, cell_below e1 hW, cell_below e2 hW, hW⟩
                have HQ : Hid (∀ W, Below wr.heap.size wr W → Calls Try.prog 16 #[.agg #[.int .i64 p, .int .i64 n], .agg #[.int .i64 p', .int .i64 n']] W fun e w' => e = .returned (.bool mt) ∧ w'.cell? ⟨b, off + i * 2, none⟩ = some (.int .i64 p) ∧ w'.cell? ⟨b, off + i * 2 + 1, none⟩ = some (.int .i64 n) ∧ w'.cell? ⟨g, 0, none⟩ = some (.slice (some ⟨b', off', none⟩) K.length capL) ∧ w'.cell? ⟨b', off' + k * 2, none⟩ = some (.int .i64 p') ∧ w'.cell? ⟨b', off' + k * 2 + 1, none⟩ = some (.int .i64 n') ∧ Below wr.heap.size wr w') :=
                  fun W hW => (HQ0.out W).mono fun e w' ⟨h1, h2⟩ => ⟨h1, HKP.out _ (hW.trans (h2.mono hW.size))⟩
                have hbd : Below wr.heap.size wr wr.drew := (Below.refl _ _).drew
                clear HQ0 c1 c2 e1 e2 hyi
                go_upto_region 11 with fail
                clear g0
                go_cut [54] (fun s54 wx => s54 = .bool mt ∧ Below wr.heap.size wr wx)
                case first => as_aux_lemma =>
                  go_region_held3 (fun w' => w'.cell? ⟨b, off + i * 2, none⟩ = some (.int .i64 p) ∧ w'.cell? ⟨b, off + i * 2 + 1, none⟩ = some (.int .i64 n) ∧ w'.cell? ⟨g, 0, none⟩ = some (.slice (some ⟨b', off', none⟩) K.length capL) ∧ w'.cell? ⟨b', off' + k * 2, none⟩ = some (.int .i64 p') ∧ w'.cell? ⟨b', off' + k * 2 + 1, none⟩ = some (.int .i64 n') ∧ Below wr.heap.size wr w') (exact HKP.out _ (by assumption))
                    (first | (go_at_call 16; refine (HQ.out _ (by assumption)).mono ?_; rintro e w7 ⟨rfl, s1, s2, s3, s4, s5, s6⟩))
                  all_goals (go_wp2_with fail; go_meet; exact ⟨rfl, by assumption⟩)
                case rest => as_aux_lemma =>
                  obtain ⟨rfl, hbc⟩ := hcut
                  have HBX := Lib.hid (HBW.out.trans (hbc.mono hz2))
                  have HBX2 := Lib.hid (HB2.out.trans (hbc.mono HB2.out.size))
                  clear hbc hbd HQ HKP
                  cases mt with
                  | true =>
                    have HN := Lib.hid (HOLD.out rfl)
                    go_wp2
                    go_ret
                    exact ⟨by rw [HN.out]; rfl, HBX.out⟩
                  | false =>
                    have HN := Lib.hid (HNXT.out rfl)
                    go_wp2
                    go_roundw
                    case rel => exact ⟨k + 1, by omega, by go_num, HN.out, HBX2.out⟩
                    case measure => simp [intOf]; omega
              · obtain rfl : k = K.length := by omega
                have HOLD := Lib.hid HIN2.out
                clear HIN2 hlk hk
                go_wp2
                go_loopw [7] (fun v wq => ∃ k : Nat, k ≤ i ∧ v = .int .i64 k ∧ (∀ j, j < k → meetS ⟨p, n⟩ (l.getD j sp0) = false) ∧ Below wc.heap.size wc wq) (fun v _ => i - (intOf v).toNat)
                case atStart => exact ⟨0, Nat.zero_le _, rfl, fun _ h => absurd h (Nat.not_lt_zero _), HB2.out⟩
                case round =>
                  clear g0 HB2 HBW hz2
                  obtain ⟨k, hk, rfl, hin, hb⟩ := hrel
                  have HIN2 := Lib.hid hin
                  have HB2 := Lib.hid hb
                  have HBW := Lib.hid (HB1.out.trans (hb.mono hz1))
                  have hz2 := HBW.out.size
                  clear hin hb
                  by_cases hlk : k < i
                  · have hkk : (k : Int) < i := by omega
                    have hkl : (k : Int) < l.length := by omega
                    have hkL : k < l.length := by omega
                    obtain ⟨b', off', y, hbo, ⟨e1, e2⟩, HY⟩ := (HL.out.below HBW.out).at_ hkL
                    obtain ⟨rfl, rfl⟩ : b = b' ∧ off = off' := by injection hbo with hbo; injection hbo with q1 q2; exact ⟨q1, q2⟩
                    clear hbo
                    have hyi : insS y = true := by rw [← HY.out]; exact er1_ins (HALL.out k hlk)
                    have HQ0 := Lib.hid (fun W => HM.out y W hyi)
                    have HNEW : Hid (meetS ⟨p, n⟩ y = true → ckR K l = 12) := fun h => HFI.out 12 (er1_new (by rw [HX.out]; exact HINS.out) (by rw [HX.out]; exact HLOW.out) (by rw [HX.out]; exact HOLD.out) hlt hlk (by rw [HX.out, HY.out]; exact h)) (by decide)
                    have HNXT : Hid (meetS ⟨p, n⟩ y = false → ∀ j, j < k + 1 → meetS ⟨p, n⟩ (l.getD j sp0) = false) := fun h => step_sp HIN2.out (by rw [HY.out]; exact h)
                    generalize meetS ⟨p, n⟩ y = mt at HQ0 HNEW HNXT
                    obtain ⟨p', n'⟩ := y
                    simp only at e1 e2 HQ0
                    obtain ⟨c1, c2⟩ := HSPW.out wr HB2.out
                    simp only at c1 c2
                    have HKP : Hid (∀ W, Below wr.heap.size wr W → W.cell? ⟨b, off + i * 2, none⟩ = some (.int .i64 p) ∧ W.cell? ⟨b, off + i * 2 + 1, none⟩ = some (.int .i64 n) ∧ W.cell? ⟨b, off + k * 2, none⟩ = some (.int .i64 p') ∧ W.cell? ⟨b, off + k * 2 + 1, none⟩ = some (.int .i64 n') ∧ Below wr.heap.size wr W) :=
                      fun W hW => ⟨cell_below c1 hW, cell_below c2 hW, cell_below e1 hW, cell_below e2 hW, hW⟩
                    have HQ : Hid (∀ W, Below wr.heap.size wr W → Calls Try.prog 16 #[.agg #[.int .i64 p, .int .i64 n], .agg #[.int .i64 p', .int .i64 n']] W fun e w' => e = .returned (.bool mt) ∧ w'.cell? ⟨b, off + i * 2, none⟩ = some (.int .i64 p) ∧ w'.cell? ⟨b, off + i * 2 + 1, none⟩ = some (.int .i64 n) ∧ w'.cell? ⟨b, off + k * 2, none⟩ = some (.int .i64 p') ∧ w'.cell? ⟨b, off + k * 2 + 1, none⟩ = some (.int .i64 n') ∧ Below wr.heap.size wr w') :=
                      fun W hW => (HQ0.out W).mono fun e w' ⟨h1, h2⟩ => ⟨h1, HKP.out _ (hW.trans (h2.mono hW.size))⟩
                    have hbd : Below wr.heap.size wr wr.drew := (Below.refl _ _).drew
                    clear HQ0 c1 c2 e1 e2 hyi
                    go_upto_region 16 with fail
                    go_cut [68] (fun s68 wx => s68 = .bool mt ∧ Below wr.heap.size wr wx)
                    case first => as_aux_lemma =>
                      go_region_held3 (fun w' => w'.cell? ⟨b, off + i * 2, none⟩ = some (.int .i64 p) ∧ w'.cell? ⟨b, off + i * 2 + 1, none⟩ = some (.int .i64 n) ∧ w'.cell? ⟨b, off + k * 2, none⟩ = some (.int .i64 p') ∧ w'.cell? ⟨b, off + k * 2 + 1, none⟩ = some (.int .i64 n') ∧ Below wr.heap.size wr w') (exact HKP.out _ (by assumption))
                        (first | (go_at_call 16; refine (HQ.out _ (by assumption)).mono ?_; rintro e w7 ⟨rfl, s1, s2, s3, s4, s5⟩))
                      all_goals (go_wp2_with fail; go_meet; exact ⟨rfl, by assumption⟩)
                    case rest => as_aux_lemma =>
                      obtain ⟨rfl, hbc⟩ := hcut
                      have HBX := Lib.hid (HBW.out.trans (hbc.mono hz2))
                      have HBX2 := Lib.hid (HB2.out.trans (hbc.mono HB2.out.size))
                      clear hbc hbd HQ HKP
                      cases mt with
                      | true =>
                        have HN := Lib.hid (HNEW.out rfl)
                        go_wp2
                        go_ret
                        exact ⟨by rw [HN.out]; rfl, HBX.out⟩
                      | false =>
                        have HN := Lib.hid (HNXT.out rfl)
                        go_wp2
                        go_roundw
                        case rel => exact ⟨k + 1, by omega, by go_num, HN.out, HBX2.out⟩
                        case measure => simp [intOf]; omega
                  · obtain rfl : k = i := by omega
                    have HN : Hid (∀ j, j < k + 1 → er1 K l j = 0) := step_sp HALL.out (er1_ok (by rw [HX.out]; exact HINS.out) (by rw [HX.out]; exact HLOW.out) (by rw [HX.out]; exact HOLD.out) (by rw [HX.out]; exact HIN2.out))
                    go_wp2
                    go_roundw
                    case rel => exact ⟨k + 1, by omega, by go_num, HN.out, HBW.out⟩
                    case measure => simp [intOf]; omega
    · obtain rfl : i = l.length := by omega
      have HN := Lib.hid (ckR_ok HALL.out)
      go_wp2
      go_ret
      exact ⟨by rw [HN.out]; rfl, HB.out⟩
end Go.Proofs.Ytecfdcibjmakeaa
