/- The law PartPlays: whatever comes in it returns true. Conditions: the contracts of package part; slices that read as parts and as acts, numbers of 64 bits. -/
import Derived.Test.YtidnbpehhpakcaaPaL
import Derived.Test.YtidnbpehhpakcaaPartIs
import Derived.Deep.RegionHeld3
import Derived.Deep.DeepCutAuto
namespace Go.Proofs.Ytidnbpehhpakcaa
open Go.RowKit

/-- The numbers of acts are of 64 bits. -/
def FitsA (M : List PA) : Prop := ∀ k, k < M.length → ((M.getD k pa0).pl < 9223372036854775808 ∧ -9223372036854775808 ≤ (M.getD k pa0).pl) ∧ (M.getD k pa0).n < 9223372036854775808 ∧ -9223372036854775808 ≤ (M.getD k pa0).n
theorem ld_nil : ldS ⟨#[]⟩ = st0 := rfl

set_option maxHeartbeats 6400000 in
set_option maxRecDepth 100000 in
theorem partPlays_any {TB : World → Option Addr → List PT → Prop} (H : PartOK TB) (A : Option Addr) (cap : Nat) (L : List PT) (A' : Option Addr) (cap' : Nat) (M : List PA) (x : Int) (w : World) (hr : RdP w A L) (hcp : Hid (L.length ≤ cap)) (hl : L.length ≤ maxLen) (hf : Fits L) (hM : RdQ w A' M) (hm : M.length ≤ maxLen) (hfm : FitsA M) :
    Calls Try.prog 4 #[.slice A L.length cap, .slice A' M.length cap', .int .i64 x] w fun e w' => e = .returned (.bool true) ∧ Below w.heap.size w w' := by
  have HAW := Lib.hid (awake6 H)
  have HFEW := Lib.hid (rfew_any A cap L w hr hl)
  have HCK := Lib.hid (rcheck_any A cap L w hr hl)
  have hm2 : M.length ≤ 9223372036854775807 := by unfold maxLen at hm; omega
  have HR := Lib.hid hr
  have HRM := Lib.hid hM
  have HFT := Lib.hid hf
  have HFM := Lib.hid hfm
  have HL := Lib.hid hl
  have HH := Lib.hid H
  clear hr hM hf hl hm H hfm
  go_enter Try.func4, Try.ntmps4
  go_wp2_with fail
  refine HFEW.out.mono ?_
  rintro e w1 ⟨⟨b, rfl, hfew⟩, rfl⟩
  clear HFEW
  cases b with
  | false =>
    clear hfew
    go_wp2_with fail
    refine (HAW.out _).mono ?_
    rintro e w1 ⟨rfl, hb⟩
    go_wp2
    go_ret
    exact ⟨rfl, hb⟩
  | true =>
    obtain ⟨h20, _⟩ := hfew rfl
    clear hfew
    have HNEW := Lib.hid (fun W hW => HH.out.new A cap L W hW hcp h20 HFT.out)
    have HGD : Hid (ckP L = 0 → Good L) := good_of
    generalize ckP L = r at HNEW HCK HGD
    go_wp2_with fail
    refine HCK.out.mono ?_
    rintro e w1 ⟨rfl, hb1⟩
    have HB1 := Lib.hid hb1
    have hz1 := hb1.size
    clear hb1 HCK
    by_cases hr0 : r = 0
    · subst hr0
      have HG := Lib.hid (HGD.out rfl)
      clear HGD
      by_cases hm12 : 12 < M.length
      · have d0 : decide ((12 : Int) < M.length) = true := decide_eq_true (by omega)
        clear hm12
        go_wp2_with fail
        refine (HAW.out _).mono ?_
        rintro e w2 ⟨rfl, hb⟩
        go_wp2
        go_ret
        exact ⟨rfl, HB1.out.trans (hb.mono hz1)⟩
      · have d0 : decide ((12 : Int) < M.length) = false := decide_eq_false (by omega)
        go_wp2_with fail
        refine (HNEW.out _ (HR.out.below HB1.out)).mono ?_
        rintro e w2 ⟨q, rfl, _, hT, hb2⟩
        have HT2 := Lib.hid (hT (by first | rfl | trivial))
        have HB2 := Lib.hid (HB1.out.trans (hb2.mono hz1))
        have hz2 := HB2.out.size
        clear hT hb2 HB1 HNEW
        have HNO := Lib.hid (new_any w2)
        have HL2 : Hid (∀ W, Calls Try.prog 20 #[.string ⟨#[]⟩] W fun e w' => ∃ g, e = .returned (.pointer (some ⟨g, 0, none⟩)) ∧ W.heap.size ≤ g ∧ RR w' g st0 ∧ Below W.heap.size W w') := fun W => refload_any ⟨#[]⟩ W (by decide)
        have HOP : Hid (st0.ops ≤ 0) := Nat.le_refl _
        generalize st0 = s0 at *
        go_wp2_with fail
        refine HNO.out.mono ?_
        rintro e w3 ⟨gc, rfl, hgc, hr3, hb3⟩
        have H3 := Lib.hid hr3
        have HT3 := Lib.hid (HH.out.below _ _ _ _ HT2.out hb3)
        have HB3 := Lib.hid (HB2.out.trans (hb3.mono hz2))
        have hz3 := HB3.out.size
        have hlt3 := hr3.lt
        have hgcw : w.heap.size ≤ gc := by omega
        clear hr3 hb3 HT2 HB2 HNO
        have HGN : Hid (∀ p W, Calls Try.prog 19 #[.pointer p, .slice (some ⟨W.heap.size, 0, none⟩) 1 1] (W.alloc (.cells #[.int .i64 x] 3)) fun e w' => ∃ g, e = .returned (.pointer (some ⟨g, 0, none⟩)) ∧ W.heap.size ≤ g ∧ Arr w' g 80 (lockC p (lkL [x])) ∧ Below W.heap.size W w') :=
          fun p W => gnew_lit [x] (by show 1 ≤ maxLen; decide) p W
        have HK : Hid ((lkL [x]).length = 48) := lkL_length _
        obtain ⟨K, hKe⟩ : ∃ K, lkL [x] = K := ⟨_, rfl⟩
        rw [hKe] at HGN HK
        have HKE := Lib.hid hKe
        clear hKe
        go_wp2_with fail
        refine (HGN.out _ _).mono ?_
        rintro e w4 ⟨gg, rfl, hgg, hA4, hb4⟩
        have H4 : Hid (Tri TB w4 q L gg gc K s0) := ⟨HH.out.below _ _ _ _ HT3.out hb4, ⟨⟨HK.out, .inr ⟨gg, rfl, hA4⟩⟩, H3.out.below hb4 hlt3, by omega⟩⟩
        have HB4 := Lib.hid (HB3.out.trans (hb4.mono hz3))
        have hz4 := HB4.out.size
        have hglt : gg < w4.heap.size := hA4.lt
        have hgg2 : gc < gg := by omega
        clear hA4 hb4 HT3 H3 HB3 HGN
        go_wp2_with fail
        refine (HL2.out _).mono ?_
        rintro e w5 ⟨gx, rfl, hgx, hx5, hb5⟩
        have H5 := Lib.hid (H4.out.below HH.out hb5)
        have HX5 := Lib.hid hx5
        have HB5 := Lib.hid (HB4.out.trans (hb5.mono hz4))
        have hz5 := HB5.out.size
        have hxlt : gx < w5.heap.size := hx5.lt
        have hgx2 : gg < gx := by omega
        clear hx5 hb5 H4 HB4 HL2
        have HBa := Lib.hid ((Below.refl w5.heap.size w5).alloc (Nat.le_refl _) (.cells #[.int .i64 x] 3))
        have HBb := Lib.hid (HBa.out.alloc HBa.out.size (.cells #[.pointer (some ⟨gx, 0, none⟩), .slice (some ⟨w5.heap.size, 0, none⟩) 1 1] 53))
        have HAL : Hid (Al6 TB ((w5.alloc (.cells #[.int .i64 x] 3)).alloc (.cells #[.pointer (some ⟨gx, 0, none⟩), .slice (some ⟨w5.heap.size, 0, none⟩) 1 1] 53)) q L gg gc gx w5.heap.size (w5.heap.size + 1) K s0 s0 x) :=
          ⟨H5.out.below HH.out HBb.out, HX5.out.below HBb.out HX5.out.lt, Arr.new1 _ _ _ _, (Arr.new _ _ _).alloc _⟩
        have HB6 := Lib.hid (HB5.out.trans (HBb.out.mono hz5))
        clear HBa HBb H5 HX5 HB5
        have hbl2 : gx < w5.heap.size := hxlt
        go_wp2
        generalize (w5.alloc (.cells #[.int .i64 x] 3)).alloc (.cells #[.pointer (some ⟨gx, 0, none⟩), .slice (some ⟨w5.heap.size, 0, none⟩) 1 1] 53) = w6 at *
        generalize w5.heap.size = bl at *
        obtain ⟨gr, hgr⟩ : ∃ gr, bl + 1 = gr := ⟨_, rfl⟩
        rw [hgr] at HAL
        rw [hgr]
        have hglo : gc < gg ∧ gg < gx ∧ gx < bl ∧ bl < gr := ⟨hgg2, hgx2, hbl2, by omega⟩
        have HO := Lib.hid hglo
        clear hglo hgr hbl2 hgg2 hgx2 hxlt hglt hgg hgx hz4 hz5 hlt3 hz3 hz2 hgc hz1
        go_loopw [12] (fun i wr => ∃ (k : Nat) (c : St), k ≤ M.length ∧ i = .int .i64 k ∧ c.ops ≤ 201 * k ∧ Al6 TB wr q L gg gc gx bl gr K c c x ∧ Below w.heap.size w wr) (fun i _ => M.length - (intOf i).toNat)
        case atStart => exact ⟨0, s0, Nat.zero_le _, rfl, HOP.out, HAL.out, HB6.out⟩
        case round =>
          clear HAL HB6 HOP
          obtain ⟨k, c, hk, rfl, hops, hA, hb⟩ := hrel
          have HA := Lib.hid hA
          have HB := Lib.hid hb
          have hz := hb.size
          have hgrl : gr < wr.heap.size := hA.2.2.1.lt
          clear hA hb
          by_cases hlt : k < M.length
          · have hki : (k : Int) < M.length := by omega
            obtain ⟨b, off, a, rfl, ⟨c0, c1, c2, c3, c4⟩, HX⟩ := (HRM.out.below HB.out).at_ hlt
            have hbl : b < wr.heap.size := World.block_lt_of_cell? wr _ c0
            have hfa := HFM.out k hlt
            rw [HX.out] at hfa
            obtain ⟨kd, nm, pl, n, sx⟩ := a
            simp only at c0 c1 c2 c3 c4 hfa
            obtain ⟨hpl, hnn⟩ := hfa
            have HBa := Lib.hid ((Below.refl wr.heap.size wr).alloc (Nat.le_refl _) (.cells (paC ⟨kd, nm, pl, n, sx⟩) 55))
            have HBW := Lib.hid (HB.out.trans (HBa.out.mono hz))
            have HC : Hid (Ac6 TB w (wr.alloc (.cells (paC ⟨kd, nm, pl, n, sx⟩) 55)) A q L gg gc gx bl gr K c c x wr.heap.size ⟨kd, nm, pl, n, sx⟩) :=
              ⟨HA.out.below HH.out HBa.out, Arr.new _ _ _, HR.out.below HBW.out, HBW.out⟩
            clear HX HBa HBW HA HB
            go_upto_region 13 with fail
            change Code.wp _ _ _ _ (wr.alloc (.cells (paC ⟨kd, nm, pl, n, sx⟩) 55))
            clear c0 c1 c2 c3 c4 hbl
            generalize wr.alloc (.cells (paC ⟨kd, nm, pl, n, sx⟩) 55) = W at *
            generalize wr.heap.size = g at *
            have HO2 : Hid (gr < g ∧ w.heap.size ≤ gc) := ⟨hgrl, hgcw⟩
            have c0 : W.cell? ⟨g, 0, none⟩ = some (.int .i64 kd) := HC.out.2.1.cell 0
            have c4 : W.cell? ⟨g, 4, none⟩ = some (.string sx) := HC.out.2.1.cell 4
            by_cases hs : 200 < sx.size
            · have d0 : decide ((200 : Int) < sx.size) = true := decide_eq_true (by omega)
              have HBC := Lib.hid HC.out.2.2.2
              have hzc := HBC.out.size
              clear hs
              go_wp2_with fail
              refine (HAW.out _).mono ?_
              rintro e w7 ⟨rfl, hb7⟩
              have HB7 := Lib.hid (HBC.out.trans (hb7.mono hzc))
              clear hb7
              go_wp2
              go_ret
              exact ⟨rfl, HB7.out⟩
            have d0 : decide ((200 : Int) < sx.size) = false := decide_eq_false (by omega)
            by_cases k1 : kd = 1
            · have e1 : (kd == 1) = true := by simpa using k1
              have HQ1 := Lib.hid (ac6_read HH.out HG.out HC.out hpl hnn)
              have HQ2 := Lib.hid (fun W2 (h2 : Ac6 TB w W2 A q L gg gc gx bl gr K c c x g ⟨kd, nm, pl, n, sx⟩) => ac6_rread HH.out HG.out HL.out cap h2 hpl.1)
              simp only at HQ1 HQ2
              generalize prdS L c nm pl n = z at *
              obtain ⟨S0, r0⟩ := z
              simp only at HQ1 HQ2
              obtain ⟨c1, c2, c3, _⟩ := HC.out.cells
              simp only at c1 c2 c3
              clear k1 hs
              go_wp2_with fail
              refine HQ1.out.mono ?_
              rintro e w7 ⟨rfl, h7⟩
              have H7 := Lib.hid h7
              clear h7 HQ1 HC c0 c1 c2 c3 c4
              obtain ⟨c1, c2, c3, _⟩ := H7.out.cells
              simp only at c1 c2 c3
              go_wp2_with fail
              refine (HQ2.out _ H7.out).mono ?_
              rintro e w8 ⟨rfl, h8⟩
              have H8 := Lib.hid h8.1
              have HB8 := Lib.hid h8.2.2.2
              clear h8 HQ2 H7 c1 c2 c3
              go_wp2
              go_roundw
              case rel => exact ⟨k + 1, c, by omega, by go_num, by omega, H8.out, HB8.out⟩
              case measure => simp [intOf]; omega
            · have e1 : (kd == 1) = false := by simpa using k1
              by_cases k2 : kd = 2
              · have e2 : (kd == 2) = true := by simpa using k2
                have HOX := Lib.hid (pwS_ops L K c nm pl sx)
                have HQ1 : Hid (∀ W1, Ac6 TB w W1 A q L gg gc gx bl gr K c c x g ⟨kd, nm, pl, n, sx⟩ → _) := fun W1 h1 => ac6_write HH.out HG.out HR.out h1 hpl (by simp only; omega) HO.out HO2.out
                have HQ2 : Hid (∀ W1, Ac6 TB w W1 A q L gg gc gx bl gr K (pwS L K c nm pl sx).1 c x g ⟨kd, nm, pl, n, sx⟩ → _) := fun W1 h1 => ac6_rwrite HH.out HG.out HL.out HR.out cap h1 HKE.out hpl.1 (by simp only; omega) (by simp only; omega) HO.out HO2.out
                simp only at HQ1 HQ2
                generalize pwS L K c nm pl sx = z at *
                obtain ⟨cn, rn⟩ := z
                simp only at HQ1 HQ2 HOX
                have hopn : cn.ops ≤ 201 * (k + 1) := by have := HOX.out; omega
                have HKP : Hid (∀ (W1 : World) (c1 c2 : St), Ac6 TB w W1 A q L gg gc gx bl gr K c1 c2 x g ⟨kd, nm, pl, n, sx⟩ → W1.cell? ⟨g, 1, none⟩ = some (.string nm) ∧ W1.cell? ⟨g, 2, none⟩ = some (.int .i64 pl) ∧ W1.cell? ⟨g, 4, none⟩ = some (.string sx)) := fun W1 c1 c2 h1 => ⟨h1.cells.1, h1.cells.2.1, h1.cells.2.2.2⟩
                have h0 : Ac6 TB w W.drew A q L gg gc gx bl gr K c c x g ⟨kd, nm, pl, n, sx⟩ := HC.out.below HH.out (Below.refl _ _).drew
                have d9 : ((rn : Int) != (rn : Int)) = false := by simp
                clear k1 k2 hs HOX
                go_upto_region 22 with fail
                clear c0 c4
                go_cut [120] (fun s120 wx => s120 = .bool false ∧ Ac6 TB w wx A q L gg gc gx bl gr K cn cn x g ⟨kd, nm, pl, n, sx⟩)
                case first => as_aux_lemma =>
                  go_region_held3 (fun w' => w'.cell? ⟨g, 1, none⟩ = some (.string nm) ∧ w'.cell? ⟨g, 2, none⟩ = some (.int .i64 pl) ∧ w'.cell? ⟨g, 4, none⟩ = some (.string sx)) (first | exact HKP.out _ _ _ h0 | exact HKP.out _ _ _ (by assumption))
                    (first | (go_at_call 23; refine (HQ1.out _ h0).mono ?_; rintro e w7 ⟨rfl, h7⟩) | (go_at_call 24; refine (HQ2.out _ (by assumption)).mono ?_; rintro e w8 ⟨rfl, h8⟩))
                  all_goals (go_wp2_with fail; go_meet; exact ⟨by first | rfl | rw [d9], by assumption⟩)
                case rest => as_aux_lemma =>
                  obtain ⟨rfl, hbc⟩ := hcut
                  have H8 := Lib.hid hbc.1
                  have HB8 := Lib.hid hbc.2.2.2
                  clear hbc h0 HQ1 HQ2 HKP HC
                  go_wp2
                  go_roundw
                  case rel => exact ⟨k + 1, cn, by omega, by go_num, hopn, H8.out, HB8.out⟩
                  case measure => simp [intOf]; omega
              · have e2 : (kd == 2) = false := by simpa using k2
                by_cases k3 : kd = 3
                · have e3 : (kd == 3) = true := by simpa using k3
                  have HOX := Lib.hid (peS_ops L K c nm pl)
                  have HQ1 : Hid (∀ W1, Ac6 TB w W1 A q L gg gc gx bl gr K c c x g ⟨kd, nm, pl, n, sx⟩ → _) := fun W1 h1 => ac6_erase HH.out HG.out HR.out h1 hpl (by omega) HO.out HO2.out
                  have HQ2 : Hid (∀ W1, Ac6 TB w W1 A q L gg gc gx bl gr K (peS L K c nm pl).1 c x g ⟨kd, nm, pl, n, sx⟩ → _) := fun W1 h1 => ac6_rerase HH.out HG.out HL.out HR.out cap h1 HKE.out (by omega) HO.out HO2.out
                  simp only at HQ1 HQ2
                  generalize peS L K c nm pl = z at *
                  obtain ⟨cn, rn⟩ := z
                  simp only at HQ1 HQ2 HOX
                  have hopn : cn.ops ≤ 201 * (k + 1) := by have := HOX.out; omega
                  have HKP : Hid (∀ (W1 : World) (c1 c2 : St), Ac6 TB w W1 A q L gg gc gx bl gr K c1 c2 x g ⟨kd, nm, pl, n, sx⟩ → W1.cell? ⟨g, 1, none⟩ = some (.string nm) ∧ W1.cell? ⟨g, 2, none⟩ = some (.int .i64 pl)) := fun W1 c1 c2 h1 => ⟨h1.cells.1, h1.cells.2.1⟩
                  have h0 : Ac6 TB w W.drew A q L gg gc gx bl gr K c c x g ⟨kd, nm, pl, n, sx⟩ := HC.out.below HH.out (Below.refl _ _).drew
                  have d9 : ((rn : Int) != (rn : Int)) = false := by simp
                  clear k1 k2 k3 hs HOX
                  go_upto_region 25 with fail
                  clear c0 c4
                  go_cut [137] (fun s137 wx => s137 = .bool false ∧ Ac6 TB w wx A q L gg gc gx bl gr K cn cn x g ⟨kd, nm, pl, n, sx⟩)
                  case first => as_aux_lemma =>
                    go_region_held3 (fun w' => w'.cell? ⟨g, 1, none⟩ = some (.string nm) ∧ w'.cell? ⟨g, 2, none⟩ = some (.int .i64 pl)) (first | exact HKP.out _ _ _ h0 | exact HKP.out _ _ _ (by assumption))
                      (first | (go_at_call 25; refine (HQ1.out _ h0).mono ?_; rintro e w7 ⟨rfl, h7⟩) | (go_at_call 26; refine (HQ2.out _ (by assumption)).mono ?_; rintro e w8 ⟨rfl, h8⟩))
                    all_goals (go_wp2_with fail; go_meet; exact ⟨by first | rfl | rw [d9], by assumption⟩)
                  case rest => as_aux_lemma =>
                    obtain ⟨rfl, hbc⟩ := hcut
                    have H8 := Lib.hid hbc.1
                    have HB8 := Lib.hid hbc.2.2.2
                    clear hbc h0 HQ1 HQ2 HKP HC
                    go_wp2
                    go_roundw
                    case rel => exact ⟨k + 1, cn, by omega, by go_num, hopn, H8.out, HB8.out⟩
                    case measure => simp [intOf]; omega
                · have e3 : (kd == 3) = false := by simpa using k3
                  have H8 := Lib.hid HC.out.1
                  have HB8 := Lib.hid HC.out.2.2.2
                  clear k1 k2 k3 hs HC
                  go_wp2
                  go_roundw
                  case rel => exact ⟨k + 1, c, by omega, by go_num, by omega, H8.out, HB8.out⟩
                  case measure => simp [intOf]; omega
          · obtain rfl : k = M.length := by omega
            obtain ⟨NB, hNB⟩ : ∃ NB : ByteArray, ⟨c.B.toArray⟩ = NB := ⟨_, rfl⟩
            have hxx : wr.cell? ⟨gx, 0, none⟩ = some (.string NB) := by
              obtain ⟨_, ⟨_, _, _, hAx, _⟩, _, _⟩ := HA.out
              rw [← hNB]; exact ref_B hAx
            have hgr0 : wr.cell? ⟨gr, 0, none⟩ = some (.pointer (some ⟨gx, 0, none⟩)) := HA.out.2.2.1.cell 0
            have HKP : Hid (∀ W, Below wr.heap.size wr W → W.cell? ⟨gr, 0, none⟩ = some (.pointer (some ⟨gx, 0, none⟩)) ∧ W.cell? ⟨gx, 0, none⟩ = some (.string NB) ∧ Below wr.heap.size wr W) := by
              intro W hW
              exact ⟨(World.cell?_of_block (a := ⟨gr, 0, none⟩) (hW.block gr (World.block_lt_of_cell? wr _ hgr0))).trans hgr0, (World.cell?_of_block (a := ⟨gx, 0, none⟩) (hW.block gx (World.block_lt_of_cell? wr _ hxx))).trans hxx, hW⟩
            have HQ1 : Hid (∀ W, Below wr.heap.size wr W → Calls Try.prog 27 #[.pointer (some ⟨gc, 0, none⟩)] W fun e w' => e = .returned (.string NB) ∧ w'.cell? ⟨gr, 0, none⟩ = some (.pointer (some ⟨gx, 0, none⟩)) ∧ w'.cell? ⟨gx, 0, none⟩ = some (.string NB) ∧ Below wr.heap.size wr w') := by
              intro W hW
              have h1 := bytes_any gc c W (HA.out.below HH.out hW).1.2.2.1
              rw [hNB] at h1
              exact h1.mono fun e w' ⟨h2, h3⟩ => ⟨h2, HKP.out _ (h3 ▸ hW)⟩
            have HQ2 : Hid (∀ W, Below wr.heap.size wr W → Calls Try.prog 7 #[] W fun e w' => e = .returned (.bool true) ∧ w'.cell? ⟨gr, 0, none⟩ = some (.pointer (some ⟨gx, 0, none⟩)) ∧ w'.cell? ⟨gx, 0, none⟩ = some (.string NB) ∧ Below wr.heap.size wr w') := by
              intro W hW
              exact (HAW.out W).mono fun e w' ⟨h2, h3⟩ => ⟨h2, HKP.out _ (hW.trans (h3.mono hW.size))⟩
            have hbd : Below wr.heap.size wr wr.drew := (Below.refl _ _).drew
            clear hNB hxx hgr0 hgrl
            go_wp2
            go_region_held3 (fun w' => w'.cell? ⟨gr, 0, none⟩ = some (.pointer (some ⟨gx, 0, none⟩)) ∧ w'.cell? ⟨gx, 0, none⟩ = some (.string NB) ∧ Below wr.heap.size wr w') (exact HKP.out _ (by assumption))
              (first | (go_at_call 27; refine (HQ1.out _ (by assumption)).mono ?_; rintro e w7 ⟨rfl, s1, s2, s3⟩) | (go_at_call 7; refine (HQ2.out _ (by assumption)).mono ?_; rintro e w8 ⟨rfl, t1, t2, t3⟩))
            have HB9 := Lib.hid (HB.out.trans (t3.mono hz))
            clear s1 s2 s3 t1 t2 t3 HQ1 HQ2 HKP hbd
            go_wp2
            go_ret
            exact ⟨rfl, HB9.out⟩
    · have d2 : ((r : Int) != 0) = true := by simp; omega
      have d2' : ((r : Int) == 0) = false := by simp; omega
      clear hr0 HGD HNEW
      go_wp2_with fail
      refine (HAW.out _).mono ?_
      rintro e w2 ⟨rfl, hb⟩
      go_wp2
      go_ret
      exact ⟨rfl, HB1.out.trans (hb.mono hz1)⟩
end Go.Proofs.Ytidnbpehhpakcaa
