/- The law DogBarks: whatever comes in it returns true. Conditions: a slice that reads as numbers of 8 bits. -/
import Derived.Test.YteooafoamnfjbaaDoC
import Derived.Deep.RegionHeld3
import Derived.Deep.DeepCutAuto
import Derived.IntWalk
namespace Go.Proofs.Yteooafoamnfjbaa
open Go.RowKit

/-- Behind S ticks: how often the one that is never kicked barked. -/
def bS (S n : Int) : Int := if n ≤ S then 1 else 0
theorem bS_next {n S t : Int} (ht : 0 ≤ t) : bS S n + (if (decide (¬ n ≤ S ∧ n ≤ S + t)) = true then 1 else 0) = bS (S + t) n := by
  unfold bS; simp only [decide_eq_true_eq]; split <;> split <;> split <;> omega
theorem bS_zero {n : Int} (h : 1 ≤ n) : bS 0 n = 0 := by unfold bS; rw [if_neg (by omega)]

set_option maxHeartbeats 6400000 in
set_option maxRecDepth 100000 in
theorem dogBarks_any (n0 : Int) (A : Option Addr) (cap : Nat) (L : List Int) (w : World) (hn1 : 0 ≤ n0) (hn2 : n0 ≤ 255) (hr : RdK .u8 w A L) (hl : L.length ≤ maxLen) (hf : ∀ k, k < L.length → 0 ≤ L.getD k 0 ∧ L.getD k 0 ≤ 255) :
    Calls Try.prog 4 #[.int .u8 n0, .slice A L.length cap] w fun e w' => e = .returned (.bool true) ∧ Below w.heap.size w w' := by
  have HAW := Lib.hid awake8
  have hl2 : L.length ≤ 9223372036854775807 := by unfold maxLen at hl; omega
  have HR := Lib.hid hr
  have HFT := Lib.hid hf
  clear hr hf hl
  obtain ⟨n, hn, HN⟩ : ∃ n, (1 ≤ n ∧ n ≤ 255) ∧ Hid ((n0 ≤ 1 ∧ n = 1) ∨ (1 < n0 ∧ n = n0)) := by
    by_cases h : n0 ≤ 1
    · exact ⟨1, by omega, .inl ⟨h, rfl⟩⟩
    · exact ⟨n0, by omega, .inr ⟨by omega, rfl⟩⟩
  obtain ⟨hn3, hn4⟩ := hn
  have HW : Hid (∀ W, W = (w.alloc (.cells #[.int .i64 0, .int .i64 0] 26)).alloc (.cells #[.int .i64 0, .int .i64 0] 26) → Bk8 w W w.heap.size (w.heap.size + 1) dg0 dg0) := by
    rintro W rfl
    exact ⟨(Arr.new w _ _).alloc _, Arr.new1 w _ _ _, dg0_ok, dg0_ok, by omega, Nat.le_refl _, Nat.le_succ _, ((Below.refl _ _).alloc (Nat.le_refl _) _).alloc (by rw [sz_alloc]; omega) _⟩
  go_enter Try.func4, Try.ntmps4
  go_upto_region 1 with fail
  go_cut [5] (fun s5 wx => s5 = .int .i64 n ∧ wx = w)
  case first => as_aux_lemma =>
    rcases HN.out with ⟨h1, rfl⟩ | ⟨h1, rfl⟩
    · clear HW HR HFT
      go_wp2
      go_meet
      exact ⟨rfl, rfl⟩
    · clear HW HR HFT
      go_wp2
      go_meet
      exact ⟨rfl, rfl⟩
  case rest => as_aux_lemma =>
    obtain ⟨rfl, hwc⟩ := hcut
    have hwc := hwc.symm
    subst hwc
    clear HN hn1 hn2
    by_cases h30 : 30 < L.length
    · have d0 : decide ((30 : Int) < L.length) = true := decide_eq_true (by omega)
      clear h30
      go_wp2_with fail
      refine (HAW.out _).mono ?_
      rintro e w1 ⟨rfl, hb⟩
      go_wp2
      go_ret
      exact ⟨rfl, hb⟩
    have d0 : decide ((30 : Int) < L.length) = false := decide_eq_false (by omega)
    have HL3 : Hid (L.length ≤ 30) := by unfold Hid; omega
    clear h30
    go_wp2_with fail
    have H0 := Lib.hid (HW.out _ rfl)
    clear HW
    refine (bk8_arm H0.out n (by omega)).mono ?_
    rintro e w1 ⟨rfl, h1⟩
    rw [arD_pos hn3] at h1
    have H1 := Lib.hid h1
    clear H0 h1
    generalize w.heap.size + 1 = ge at *
    obtain ⟨gd, hgd⟩ : ∃ gd, w.heap.size = gd := ⟨_, rfl⟩
    simp only [hgd]
    rw [hgd] at H1
    clear hgd
    go_wp2_with fail
    refine (bk8_arme H1.out n (by omega)).mono ?_
    rintro e w2 ⟨rfl, h2⟩
    rw [arD_pos hn3] at h2
    have H2 : Hid (Bk8 w w2 gd ge (dS false n) (eS 0 n)) := by rw [eS_zero hn3]; exact h2
    clear H1 h2
    go_wp2
    go_loopw [8, 9, 10, 11] (fun v8 v9 v10 v11 wr => ∃ (i : Nat) (S : Int) (s : Bool), i ≤ L.length ∧ v11 = .int .i64 i ∧ v8 = .int .i64 S ∧ v9 = .int .i64 (bS S n) ∧ v10 = .bool s ∧ 0 ≤ S ∧ S ≤ 255 * i ∧ Bk8 w wr gd ge (dS s n) (eS S n)) (fun _ _ _ v11 _ => L.length - (intOf v11).toNat)
    case atStart => exact ⟨0, 0, false, Nat.zero_le _, rfl, rfl, by rw [bS_zero hn3], rfl, Int.le_refl _, by simp, H2.out⟩
    case round =>
      clear H2
      obtain ⟨i, S, s, hi, rfl, rfl, rfl, rfl, hS1, hS2, hbk⟩ := hrel
      have HK := Lib.hid hbk
      have HB := Lib.hid hbk.bel
      have hz := hbk.bel.size
      clear hbk
      by_cases hlt : i < L.length
      · have hii : (i : Int) < L.length := by omega
        obtain ⟨b, off, t, rfl, hc, HX⟩ := HR.out.at_ hlt
        have hft := HFT.out i hlt
        rw [HX.out] at hft
        obtain ⟨ht1, ht2⟩ := hft
        have h30 := HL3.out
        clear HX
        have HC := Lib.hid hc
        clear hc
        have HTE := Lib.hid (tick_e (n := n) (S := S) ht1)
        have hb1 : bS S n < 2 := by unfold bS; split <;> omega
        have hb0 : 0 ≤ bS S n := by unfold bS; split <;> omega
        have hbb := Lib.hid (bS_next (n := n) (S := S) ht1)
        have hst : S + t ≤ 255 * (i + 1 : Nat) := by push_cast; omega
        have hst0 : 0 ≤ S + t := by omega
        have hst9 : S + t ≤ 9223372036854775807 := by omega
        generalize decide (¬ n ≤ S ∧ n ≤ S + t) = bk at *
        generalize bS S n = bb at *
        obtain ⟨sx, d1, kx, htk, hki, hsx⟩ : ∃ (sx : Bool) (d1 : DG) (kx : Bool), tiD (dS s n) t = (d1, kx) ∧ kiD d1 = dS sx n ∧ Hid ((s = true ∧ kx = false ∧ sx = true) ∨ (s = false ∧ n ≤ t ∧ kx = true ∧ sx = true) ∨ (s = false ∧ ¬ n ≤ t ∧ kx = false ∧ sx = false)) := by
          cases s with
          | true => exact ⟨true, dg0, false, tick_slept n t, rfl, .inl ⟨rfl, rfl, rfl⟩⟩
          | false =>
            by_cases q : n ≤ t
            · exact ⟨true, dg0, true, tick_bark hn3 q, rfl, .inr (.inl ⟨rfl, q, rfl, rfl⟩)⟩
            · obtain ⟨d', h1, h2⟩ := tick_not (n := n) (t := t) q
              exact ⟨false, d', false, h1, h2, .inr (.inr ⟨rfl, q, rfl, rfl⟩)⟩
        have HKI := Lib.hid hki
        have HQ1 : Hid (∀ W1, Bk8 w W1 gd ge (dS s n) (eS S n) → Calls Try.prog 10 #[.pointer (some ⟨gd, 0, none⟩), .int .i64 t] W1 fun r w' => r = .returned (.bool kx) ∧ Bk8 w w' gd ge d1 (eS S n) ∧ w'.cell? ⟨b, off + i, none⟩ = some (.int .u8 t)) :=
          fun W1 h1 => (bk8_tick h1 t (by omega) htk).mono fun _ _ ⟨h2, h3⟩ => ⟨h2, h3, cellK_below HC.out h3.bel⟩
        have HQ2 : Hid (∀ W1, Bk8 w W1 gd ge (dS sx n) (eS S n) → Calls Try.prog 10 #[.pointer (some ⟨ge, 0, none⟩), .int .i64 t] W1 fun r w' => r = .returned (.bool bk) ∧ Bk8 w w' gd ge (dS sx n) (eS (S + t) n)) :=
          fun W1 h1 => bk8_ticke h1 t (by omega) HTE.out
        have c0 := cellK_below HC.out HB.out
        clear htk hki HTE HB
        have HHS : Hid (S + t ≤ 255 * (i + 1 : Nat)) := hst
        clear hst
        go_upto_region 11 with fail
        go_cut [53] (fun s53 wx => s53 = .bool false ∧ Bk8 w wx gd ge d1 (eS S n))
        case first => as_aux_lemma =>
          rcases hsx.out with ⟨rfl, rfl, rfl⟩ | ⟨rfl, q, rfl, rfl⟩ | ⟨rfl, q, rfl, rfl⟩
          · (go_wp2_with fail; refine (HQ1.out _ HK.out).mono ?_; rintro e w7 ⟨rfl, h7, c2⟩; clear HQ1 HQ2 HK)
            (have H7 := Lib.hid h7; clear h7; go_wp2_with fail; go_meet; exact ⟨rfl, H7.out⟩)
          · have dq : decide (n ≤ t) = true := decide_eq_true q
            clear q
            (go_wp2_with fail; refine (HQ1.out _ HK.out).mono ?_; rintro e w7 ⟨rfl, h7, c2⟩; clear HQ1 HQ2 HK)
            (have H7 := Lib.hid h7; clear h7; go_wp2_with fail; go_meet; exact ⟨rfl, H7.out⟩)
          · have dq : decide (n ≤ t) = false := decide_eq_false q
            clear q
            (go_wp2_with fail; refine (HQ1.out _ HK.out).mono ?_; rintro e w7 ⟨rfl, h7, c2⟩; clear HQ1 HQ2 HK)
            (have H7 := Lib.hid h7; clear h7; go_wp2_with fail; go_meet; exact ⟨rfl, H7.out⟩)
        case rest => as_aux_lemma =>
          obtain ⟨rfl, h1⟩ := hcut
          have H1 := Lib.hid h1
          have c1 := cellK_below HC.out h1.bel
          clear h1 c0 HQ1 HK
          go_upto_region 13 with fail
          go_cut [10] (fun s10 wx => s10 = .bool sx ∧ Bk8 w wx gd ge d1 (eS S n))
          case first => as_aux_lemma =>
            rcases hsx.out with ⟨rfl, rfl, rfl⟩ | ⟨rfl, q, rfl, rfl⟩ | ⟨rfl, q, rfl, rfl⟩
            · go_wp2
              go_meet
              exact ⟨rfl, H1.out⟩
            · have dq : decide (n ≤ t) = true := decide_eq_true q
              clear q
              go_wp2
              go_meet
              exact ⟨rfl, H1.out⟩
            · have dq : decide (n ≤ t) = false := decide_eq_false q
              clear q
              go_wp2
              go_meet
              exact ⟨rfl, H1.out⟩
          case rest => as_aux_lemma =>
            obtain ⟨rfl, h1⟩ := hcut
            have H1 := Lib.hid h1
            clear h1 c1 hsx
            go_wp2_with fail
            refine (bk8_kick H1.out).mono ?_
            rintro e w4 ⟨rfl, h4⟩
            rw [HKI.out] at h4
            have H4 := Lib.hid h4
            have c4 := cellK_below HC.out h4.bel
            clear h4 H1 HKI
            have wl : IntKind.i64.wrap (S + t) = S + t := IntWalk.i64_in _ (by omega)
            go_wp2_with fail
            refine (HQ2.out _ H4.out).mono ?_
            rintro e w5 ⟨rfl, h5⟩
            have H5 := Lib.hid h5
            clear h5 H4 c4 HQ2
            cases bk with
            | true =>
              have HBB : Hid (bb + 1 = bS (S + t) n) := hbb.out
              clear hbb
              go_wp2
              go_roundw
              case rel => exact ⟨i + 1, S + t, sx, by omega, by go_num, rfl, by rw [← HBB.out], rfl, hst0, HHS.out, H5.out⟩
              case measure => simp [intOf]; omega
            | false =>
              have HBB : Hid (bb + 0 = bS (S + t) n) := hbb.out
              clear hbb
              go_wp2
              go_roundw
              case rel => exact ⟨i + 1, S + t, sx, by omega, by go_num, rfl, by rw [← HBB.out, Int.add_zero], rfl, hst0, HHS.out, H5.out⟩
              case measure => simp [intOf]; omega
      · obtain rfl : i = L.length := by omega
        by_cases q : n ≤ S
        · have e1 : bS S n = 1 := by unfold bS; rw [if_pos q]
          have d1 : decide (n ≤ S) = true := decide_eq_true q
          rw [e1]
          clear q e1 HK
          go_wp2_with fail
          refine (HAW.out _).mono ?_
          rintro e w7 ⟨rfl, hb7⟩
          have HB7 := Lib.hid (HB.out.trans (hb7.mono hz))
          clear hb7
          go_wp2
          go_ret
          exact ⟨rfl, HB7.out⟩
        · have e1 : bS S n = 0 := by unfold bS; rw [if_neg q]
          have d1 : decide (n ≤ S) = false := decide_eq_false q
          rw [e1]
          clear q e1 HK
          go_wp2_with fail
          refine (HAW.out _).mono ?_
          rintro e w7 ⟨rfl, hb7⟩
          have HB7 := Lib.hid (HB.out.trans (hb7.mono hz))
          clear hb7
          go_wp2
          go_ret
          exact ⟨rfl, HB7.out⟩
end Go.Proofs.Yteooafoamnfjbaa
