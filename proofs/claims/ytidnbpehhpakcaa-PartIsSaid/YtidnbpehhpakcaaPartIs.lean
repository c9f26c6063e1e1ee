/- The law PartIs: whatever comes in it returns true. Conditions: the contracts of package part; slices that read as parts, with numbers of 64 bits, and as names. -/
import Derived.Test.YtidnbpehhpakcaaPaW
import Derived.Deep.RegionHeld3
import Derived.Deep.DeepCutAuto
import Derived.IntWalk
namespace Go.Proofs.Ytidnbpehhpakcaa
open Go.RowKit

/-- The numbers of parts are of 64 bits. -/
def Fits (L : List PT) : Prop := ∀ k, k < L.length → (L.getD k pt0).fi < 9223372036854775808 ∧ -9223372036854775808 ≤ (L.getD k pt0).fi ∧ (L.getD k pt0).mn < 9223372036854775808 ∧ -9223372036854775808 ≤ (L.getD k pt0).mn

set_option maxHeartbeats 3200000 in
set_option maxRecDepth 100000 in
theorem partIs_any {TB : World → Option Addr → List PT → Prop} (H : PartOK TB) (A : Option Addr) (cap : Nat) (L : List PT) (A' : Option Addr) (cap' : Nat) (N : List ByteArray) (w : World) (hr : RdP w A L) (hcp : Hid (L.length ≤ cap)) (hl : L.length ≤ maxLen) (hf : Fits L) (hN : RdN w A' N) (hn : N.length ≤ maxLen) :
    Calls Try.prog 3 #[.slice A L.length cap, .slice A' N.length cap'] w fun e w' => e = .returned (.bool true) ∧ Below w.heap.size w w' := by
  have HAW := Lib.hid (awake6 H)
  have HFEW := Lib.hid (rfew_any A cap L w hr hl)
  have hn2 : N.length ≤ 9223372036854775807 := by unfold maxLen at hn; omega
  have HR := Lib.hid hr
  have HRN := Lib.hid hN
  have HFT := Lib.hid hf
  have HL := Lib.hid hl
  have HH := Lib.hid H
  clear hr hN hf hl hn H
  go_enter Try.func3, Try.ntmps3
  go_wp2_with fail
  refine HFEW.out.mono ?_
  rintro e w1 ⟨⟨b, rfl, hfew⟩, rfl⟩
  clear HFEW
  cases b with
  | false =>
    clear hfew
    go_wp2_with fail
    refine (HAW.out _).mono ?_
    rintro e w1 ⟨rfl, hb⟩
    go_wp2
    go_ret
    exact ⟨rfl, hb⟩
  | true =>
    obtain ⟨h20, _⟩ := hfew rfl
    clear hfew
    by_cases hn20 : 20 < N.length
    · have d0 : decide ((20 : Int) < N.length) = true := decide_eq_true (by omega)
      clear hn20
      go_wp2_with fail
      refine (HAW.out _).mono ?_
      rintro e w1 ⟨rfl, hb⟩
      go_wp2
      go_ret
      exact ⟨rfl, hb⟩
    · have d0 : decide ((20 : Int) < N.length) = false := decide_eq_false (by omega)
      have HN20 : Hid (N.length ≤ 20) := by unfold Hid; omega
      have HNEW := Lib.hid (HH.out.new A cap L w HR.out hcp h20 HFT.out)
      have HGD : Hid (ckP L = 0 → Good L) := good_of
      have HCK := Lib.hid (fun W hW => rcheck_any A cap L W hW HL.out)
      generalize ckP L = r at HNEW HCK HGD
      clear hn20
      go_wp2_with fail
      refine HNEW.out.mono ?_
      rintro e w1 ⟨q, rfl, hq0, hT, hb1⟩
      have HB1 := Lib.hid hb1
      have HQ0 := Lib.hid hq0
      have HT1 := Lib.hid hT
      have hz1 := hb1.size
      clear hb1 hq0 hT HNEW
      go_wp2_with fail
      refine (HCK.out _ (HR.out.below HB1.out)).mono ?_
      rintro e w2 ⟨rfl, hb2⟩
      have HB12 := Lib.hid hb2
      have HB2 := Lib.hid (HB1.out.trans (hb2.mono hz1))
      have hz2 := HB2.out.size
      clear hb2 HCK
      have d1 : ((r : Int) != (r : Int)) = false := by simp
      have d1' : ((r : Int) == (r : Int)) = true := by simp
      by_cases hr0 : r = 0
      · subst hr0
        have HT2 := Lib.hid (HH.out.below _ _ _ _ (HT1.out rfl) HB12.out)
        have HG := Lib.hid (HGD.out rfl)
        clear HT1 HGD HB1 HB12 HQ0 d1 d1'
        go_wp2
        go_loopw [7] (fun i wr => ∃ k : Nat, k ≤ N.length ∧ i = .int .i64 k ∧ TB wr q L ∧ Below w.heap.size w wr) (fun i _ => N.length - (intOf i).toNat)
        case atStart => exact ⟨0, Nat.zero_le _, rfl, HT2.out, HB2.out⟩
        case round =>
          obtain ⟨k, hk, rfl, hT, hb⟩ := hrel
          have HT := Lib.hid hT
          have HB := Lib.hid hb
          have hz := hb.size
          clear hT hb
          by_cases hlt : k < N.length
          · have hki : (k : Int) < N.length := by omega
            obtain ⟨b, off, x, rfl, hc, HX⟩ := (HRN.out.below HB.out).at_ hlt
            have hbl : b < wr.heap.size := World.block_lt_of_cell? wr _ hc
            have HF1 := Lib.hid (HH.out.find wr q L x HT.out HG.out)
            have HF2 := Lib.hid (fun W hW => rfind_any A cap L x W hW HL.out)
            have HSZ := Lib.hid (fun W hW => HH.out.size W q L x hW HG.out)
            have hv := fdV_good HG.out x
            generalize fdV L x = p at *
            generalize fdB L x = fb at *
            obtain ⟨nm, fi, mn⟩ := p
            simp only at hv HSZ
            simp only [ptV] at HF1 HF2
            obtain ⟨v1, v2, v3, v4⟩ := hv
            clear HX
            go_wp2_with fail
            refine HF1.out.mono ?_
            rintro e w3 ⟨rfl, hb3⟩
            have hc3 : w3.cell? ⟨b, off + k, none⟩ = some (.string x) := (World.cell?_of_block (a := ⟨b, off + k, none⟩) (hb3.block b hbl)).trans hc
            have hbl3 : b < w3.heap.size := Nat.lt_of_lt_of_le hbl hb3.size
            have hbn3 : b ≠ w3.heap.size := by omega
            have HB3 := Lib.hid (HB.out.trans (hb3.mono hz))
            have HT3 := Lib.hid (HH.out.below _ _ _ _ HT.out hb3)
            have hz3 := HB3.out.size
            clear hb3 hc HF1 HT HB
            go_wp2_with fail
            have HB4 := Lib.hid ((Below.refl w3.heap.size w3).alloc (Nat.le_refl _) (.cells #[.string nm, .int .i64 fi, .int .i64 mn] 33))
            refine (HF2.out _ (HR.out.below (HB3.out.trans (HB4.out.mono hz3)))).mono ?_
            rintro e w5 ⟨rfl, hb5⟩
            have hz5 := hb5.size
            rw [size_alloc] at hz5
            have HA5 : Hid (Arr w5 w3.heap.size 33 (ptC ⟨nm, fi, mn⟩)) := (Arr.new w3 33 (ptC ⟨nm, fi, mn⟩)).below hb5 (by rw [size_alloc]; omega)
            have HB35 : Hid (Below w3.heap.size w3 w5) := HB4.out.trans (hb5.mono (by rw [size_alloc]; omega))
            have HT5 := Lib.hid (HH.out.below _ _ _ _ HT3.out HB35.out)
            have HBW5 := Lib.hid (HB3.out.trans (HB35.out.mono hz3))
            have hc5 : w5.cell? ⟨b, off + k, none⟩ = some (.string x) := (World.cell?_of_block (a := ⟨b, off + k, none⟩) (HB35.out.block b hbl3)).trans hc3
            clear hb5 HB4 HF2 HB35 HT3 HB3 hc3
            generalize w3.heap.size = g8 at *
            have HB56 := Lib.hid ((Below.refl w5.heap.size w5).alloc (Nat.le_refl _) (.cells #[.string nm, .int .i64 fi, .int .i64 mn] 33))
            have HA6 : Hid (Arr (w5.alloc (.cells #[.string nm, .int .i64 fi, .int .i64 mn] 33)) w5.heap.size 33 (ptC ⟨nm, fi, mn⟩)) := Arr.new w5 33 (ptC ⟨nm, fi, mn⟩)
            have HA8 := Lib.hid (HA5.out.alloc (.cells #[.string nm, .int .i64 fi, .int .i64 mn] 33))
            have HT6 := Lib.hid (HH.out.below _ _ _ _ HT5.out HB56.out)
            have HBW6 := Lib.hid (HBW5.out.trans (HB56.out.mono HBW5.out.size))
            have hc6 : (w5.alloc (.cells #[.string nm, .int .i64 fi, .int .i64 mn] 33)).cell? ⟨b, off + k, none⟩ = some (.string x) := (World.cell?_of_block (a := ⟨b, off + k, none⟩) (HB56.out.block b (by omega))).trans hc5
            go_upto_region 13 with fail
            clear HT5 HBW5 HB56 HA5 hc5
            generalize w5.alloc (.cells #[.string nm, .int .i64 fi, .int .i64 mn] 33) = W6 at *
            generalize w5.heap.size = g10 at *
            have HKP : Hid (∀ W, Below W6.heap.size W6 W → (W.cell? ⟨g8, 0, none⟩ = some (.string nm) ∧ W.cell? ⟨g8, 1, none⟩ = some (.int .i64 fi) ∧ W.cell? ⟨g8, 2, none⟩ = some (.int .i64 mn) ∧ W.cell? ⟨g10, 0, none⟩ = some (.string nm) ∧ W.cell? ⟨g10, 1, none⟩ = some (.int .i64 fi) ∧ W.cell? ⟨g10, 2, none⟩ = some (.int .i64 mn) ∧ W.cell? ⟨b, off + k, none⟩ = some (.string x) ∧ Below W6.heap.size W6 W)) := by
              intro W hW
              have a8 := HA8.out.below hW HA8.out.lt
              have a6 := HA6.out.below hW HA6.out.lt
              exact ⟨a8.cell 0, a8.cell 1, a8.cell 2, a6.cell 0, a6.cell 1, a6.cell 2, (World.cell?_of_block (a := ⟨b, off + k, none⟩) (hW.block b (World.block_lt_of_cell? W6 _ hc6))).trans hc6, hW⟩
            have HQ : Hid (∀ W, Below W6.heap.size W6 W → Calls Try.prog 13 #[.pointer q, .string x] W fun e w' => e = .returned (.int .i64 (mn * 512)) ∧ w'.cell? ⟨g8, 0, none⟩ = some (.string nm) ∧ w'.cell? ⟨g8, 1, none⟩ = some (.int .i64 fi) ∧ w'.cell? ⟨g8, 2, none⟩ = some (.int .i64 mn) ∧ w'.cell? ⟨g10, 0, none⟩ = some (.string nm) ∧ w'.cell? ⟨g10, 1, none⟩ = some (.int .i64 fi) ∧ w'.cell? ⟨g10, 2, none⟩ = some (.int .i64 mn) ∧ w'.cell? ⟨b, off + k, none⟩ = some (.string x) ∧ Below W6.heap.size W6 w') := by
              intro W hW
              exact (HSZ.out W (HH.out.below _ _ _ _ HT6.out hW)).mono fun e w' ⟨h1, h2⟩ => ⟨h1, HKP.out _ (hW.trans (h2.mono hW.size))⟩
            have hbd : Below W6.heap.size W6 W6.drew := (Below.refl _ _).drew
            have m1 : IntKind.i64.wrap (mn * 512) = mn * 512 := IntWalk.i64_in _ (by omega)
            have m2 : (mn * 512 != mn * 512) = false := by simp
            clear hc6 HA6 HA8
            go_cut [90] (fun s90 wx => s90 = .bool false ∧ Below W6.heap.size W6 wx)
            case first => as_aux_lemma =>
              go_region_held3 (fun w' => w'.cell? ⟨g8, 0, none⟩ = some (.string nm) ∧ w'.cell? ⟨g8, 1, none⟩ = some (.int .i64 fi) ∧ w'.cell? ⟨g8, 2, none⟩ = some (.int .i64 mn) ∧ w'.cell? ⟨g10, 0, none⟩ = some (.string nm) ∧ w'.cell? ⟨g10, 1, none⟩ = some (.int .i64 fi) ∧ w'.cell? ⟨g10, 2, none⟩ = some (.int .i64 mn) ∧ w'.cell? ⟨b, off + k, none⟩ = some (.string x) ∧ Below W6.heap.size W6 w') (exact HKP.out _ (by assumption))
                (first | (go_at_call 13; refine (HQ.out _ (by assumption)).mono ?_; rintro e w7 ⟨rfl, s1, s2, s3, s4, s5, s6, s7, s8⟩))
              all_goals (go_wp2_with fail; go_meet; exact ⟨by first | rfl | (rw [m1, m2]), by assumption⟩)
            case rest => as_aux_lemma =>
              obtain ⟨rfl, hbc⟩ := hcut
              have HT9 := Lib.hid (HH.out.below _ _ _ _ HT6.out hbc)
              have HB9 := Lib.hid (HBW6.out.trans (hbc.mono HBW6.out.size))
              clear hbc hbd HQ HKP HT6 HBW6
              go_wp2
              go_roundw
              case rel => exact ⟨k + 1, by omega, by go_num, HT9.out, HB9.out⟩
              case measure => simp [intOf]; omega
          · have HAL := Lib.hid (HH.out.all wr q L HT.out HG.out)
            obtain rfl : k = N.length := by omega
            go_wp2_with fail
            refine HAL.out.mono ?_
            rintro e w3 ⟨A3, cap3, rfl, hP3, hb3⟩
            have HP3 := Lib.hid hP3
            have HT3 := Lib.hid (HH.out.below _ _ _ _ HT.out hb3)
            have HB3 := Lib.hid (HB.out.trans (hb3.mono hz))
            have hz3 := HB3.out.size
            clear hP3 hb3 HAL HT HB
            go_wp2_with fail
            refine (rsame_any A3 A cap3 cap L w3 HL.out HP3.out (HR.out.below HB3.out)).mono ?_
            rintro e w4 ⟨rfl, hb4⟩
            have HT4 := Lib.hid (HH.out.below _ _ _ _ HT3.out hb4)
            have HB4 := Lib.hid (HB3.out.trans (hb4.mono hz3))
            have hz4 := HB4.out.size
            have HSE := Lib.hid (HH.out.sectors w4 q L A' cap' N HT4.out HG.out (HRN.out.below HB4.out) HN20.out)
            clear hb4 HP3 HT3 HB3
            go_wp2_with fail
            refine HSE.out.mono ?_
            rintro e w5 ⟨A5, cap5, rfl, hI5, hb5⟩
            have HI5 := Lib.hid hI5
            have HB5 := Lib.hid (HB4.out.trans (hb5.mono hz4))
            have hz5 := HB5.out.size
            have HRS := Lib.hid (rsectors_any A cap L A' cap' N w5 (HR.out.below HB5.out) HL.out HG.out (HRN.out.below HB5.out) HN20.out)
            have HLE : Hid ((secs L N).length ≤ 1099511627776) := by
              unfold Hid
              have := secs_length HG.out N
              have := HN20.out
              omega
            generalize secs L N = S at *
            clear hI5 hb5 HSE HT4 HB4
            go_wp2_with fail
            refine HRS.out.mono ?_
            rintro e w6 ⟨v, rfl, hown, hb6⟩
            obtain ⟨A6, cap6, rfl, hI6⟩ := rdI_own hown
            have HB6 := Lib.hid (HB5.out.trans (hb6.mono hz5))
            have hz6 := HB6.out.size
            have HSI := Lib.hid (sameInts_any A5 A6 cap5 cap6 S w6 HLE.out ((HI5.out.below hb6).mono hb6.size) hI6)
            clear hown hI6 hb6 HRS HI5 HB5
            go_wp2_with fail
            refine HSI.out.mono ?_
            rintro e w7 ⟨rfl, hb7⟩
            have HB7 := Lib.hid (HB6.out.trans (hb7.mono hz6))
            have hz7 := HB7.out.size
            clear hb7 HSI HB6
            go_wp2_with fail
            refine (HAW.out _).mono ?_
            rintro e w8 ⟨rfl, hb8⟩
            have HB8 := Lib.hid (HB7.out.trans (hb8.mono hz7))
            clear hb8
            go_wp2
            go_ret
            exact ⟨rfl, HB8.out⟩
      · have d2 : ((r : Int) != 0) = true := by simp; omega
        have d2' : ((r : Int) == 0) = false := by simp; omega
        obtain rfl := HQ0.out hr0
        have HAN := Lib.hid HH.out.allNil
        clear HQ0 HT1 HB1 HGD hr0
        go_wp2_with fail
        refine (HAN.out _).mono ?_
        rintro e w3 ⟨⟨A3, cap3, rfl⟩, hb3⟩
        have HB3 := Lib.hid (HB2.out.trans (hb3.mono hz2))
        have hz3 := HB3.out.size
        clear hb3
        go_wp2_with fail
        refine (HAW.out _).mono ?_
        rintro e w4 ⟨rfl, hb4⟩
        have HB4 := Lib.hid (HB3.out.trans (hb4.mono hz3))
        clear hb4
        go_wp2
        go_ret
        exact ⟨rfl, HB4.out⟩
end Go.Proofs.Ytidnbpehhpakcaa
