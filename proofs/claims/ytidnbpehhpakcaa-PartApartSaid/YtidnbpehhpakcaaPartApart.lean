/- The law PartApart: whatever comes in it returns true. Conditions: the contracts of package part; slices that read as parts and as acts, numbers of 64 bits. -/
import Derived.Test.YtidnbpehhpakcaaPartPlays
namespace Go.Proofs.Ytidnbpehhpakcaa
open Go.RowKit

/-- A stretch of bytes that are the same, one by one, is the same. -/
theorem stretch_eq (B B' : List UInt8) (a b : Nat) (hl : B.length = B'.length) (hb : b ≤ B.length) (h : ∀ j, a ≤ j → j < b → B.getD j 0 = B'.getD j 0) :
    (ByteArray.mk B.toArray).extract a b = (ByteArray.mk B'.toArray).extract a b := by
  apply ByteArray.ext
  rw [ByteArray.data_extract, ByteArray.data_extract]
  apply Array.ext'
  simp only [List.extract_toArray]
  refine List.ext_getElem ?_ fun j h1 h2 => ?_
  · simp [List.extract_eq_take_drop, hl]
  · simp only [List.extract_eq_take_drop, List.getElem_take, List.getElem_drop]
    simp [List.extract_eq_take_drop] at h1 h2
    have := h (a + j) (by omega) (by omega)
    rwa [getD_lt _ (by omega), getD_lt _ (by omega)] at this
theorem list_size (l : List UInt8) : (ByteArray.mk l.toArray).size = l.length := by show l.toArray.size = _; simp
/-- Whether a sector is one of a part with this name, among the first i. -/
def ownB (L : List PT) (name : ByteArray) (k : Nat) (i : Nat) : Bool := (List.range i).any fun j => decide ((L.getD j pt0).nm = name) && decide ((L.getD j pt0).fi ≤ k) && decide ((k : Int) - (L.getD j pt0).fi < (L.getD j pt0).mn)
theorem ownB_succ (L : List PT) (name : ByteArray) (k i : Nat) : ownB L name k (i + 1) = (ownB L name k i || (decide ((L.getD i pt0).nm = name) && decide ((L.getD i pt0).fi ≤ k) && decide ((k : Int) - (L.getD i pt0).fi < (L.getD i pt0).mn))) := by
  unfold ownB; rw [List.range_succ, List.any_append]; simp
theorem ownB_other {L : List PT} {name : ByteArray} {k : Nat} (h : ownB L name k L.length = false) : Other L name k := by
  intro i hi hc
  unfold ownB at h
  rw [List.any_eq_false] at h
  have := h i (List.mem_range.2 hi)
  rw [decide_eq_true hc.1, decide_eq_true hc.2.1, decide_eq_true hc.2.2] at this
  exact this rfl

set_option maxHeartbeats 6400000 in
set_option maxRecDepth 100000 in
theorem partApart_any {TB : World → Option Addr → List PT → Prop} (H : PartOK TB) (A : Option Addr) (cap : Nat) (L : List PT) (name : ByteArray) (A' : Option Addr) (cap' : Nat) (M : List PA) (w : World) (hr : RdP w A L) (hcp : Hid (L.length ≤ cap)) (hl : L.length ≤ maxLen) (hf : Fits L) (hM : RdQ w A' M) (hm : M.length ≤ maxLen) (hfm : FitsA M) :
    Calls Try.prog 5 #[.slice A L.length cap, .string name, .slice A' M.length cap'] w fun e w' => e = .returned (.bool true) ∧ Below w.heap.size w w' := by
  have HAW := Lib.hid (awake6 H)
  have HFEW := Lib.hid (rfew_any A cap L w hr hl)
  have HCK := Lib.hid (rcheck_any A cap L w hr hl)
  have hm2 : M.length ≤ 9223372036854775807 := by unfold maxLen at hm; omega
  have hl2 : L.length ≤ 9223372036854775807 := by unfold maxLen at hl; omega
  have HR := Lib.hid hr
  have HRM := Lib.hid hM
  have HFT := Lib.hid hf
  have HFM := Lib.hid hfm
  have HH := Lib.hid H
  clear hr hM hf hl hm H hfm
  go_enter Try.func5, Try.ntmps5
  go_wp2_with fail
  refine HFEW.out.mono ?_
  rintro e w1 ⟨⟨b, rfl, hfew⟩, rfl⟩
  clear HFEW
  cases b with
  | false =>
    clear hfew
    go_wp2_with fail
    refine (HAW.out _).mono ?_
    rintro e w1 ⟨rfl, hb⟩
    go_wp2
    go_ret
    exact ⟨rfl, hb⟩
  | true =>
    obtain ⟨h20, _⟩ := hfew rfl
    clear hfew
    have HNEW := Lib.hid (fun W hW => HH.out.new A cap L W hW hcp h20 HFT.out)
    have HGD : Hid (ckP L = 0 → Good L) := good_of
    generalize ckP L = r at HNEW HCK HGD
    go_wp2_with fail
    refine HCK.out.mono ?_
    rintro e w1 ⟨rfl, hb1⟩
    have HB1 := Lib.hid hb1
    have hz1 := hb1.size
    clear hb1 HCK
    by_cases hr0 : r = 0
    · subst hr0
      have HG := Lib.hid (HGD.out rfl)
      clear HGD
      by_cases hm12 : 12 < M.length
      · have d0 : decide ((12 : Int) < M.length) = true := decide_eq_true (by omega)
        clear hm12
        go_wp2_with fail
        refine (HAW.out _).mono ?_
        rintro e w2 ⟨rfl, hb⟩
        go_wp2
        go_ret
        exact ⟨rfl, HB1.out.trans (hb.mono hz1)⟩
      · have d0 : decide ((12 : Int) < M.length) = false := decide_eq_false (by omega)
        by_cases hn100 : 100 < name.size
        · have d1 : decide ((100 : Int) < name.size) = true := decide_eq_true (by omega)
          clear hm12 hn100
          go_wp2_with fail
          refine (HAW.out _).mono ?_
          rintro e w2 ⟨rfl, hb⟩
          go_wp2
          go_ret
          exact ⟨rfl, HB1.out.trans (hb.mono hz1)⟩
        have d1 : decide ((100 : Int) < name.size) = false := decide_eq_false (by omega)
        clear hn100
        go_wp2_with fail
        refine (HNEW.out _ (HR.out.below HB1.out)).mono ?_
        rintro e w2 ⟨q, rfl, _, hT, hb2⟩
        have HT2 := Lib.hid (hT (by first | rfl | trivial))
        have HB2 := Lib.hid (HB1.out.trans (hb2.mono hz1))
        have hz2 := HB2.out.size
        clear hT hb2 HB1 HNEW
        have HNO := Lib.hid (new_any w2)
        have HOP : Hid (st0.ops ≤ 0) := Nat.le_refl _
        generalize st0 = s0 at *
        go_wp2_with fail
        refine HNO.out.mono ?_
        rintro e w3 ⟨gc, rfl, hgc, hr3, hb3⟩
        have H3 := Lib.hid hr3
        have HT3 := Lib.hid (HH.out.below _ _ _ _ HT2.out hb3)
        have HB3 := Lib.hid (HB2.out.trans (hb3.mono hz2))
        have hz3 := HB3.out.size
        have hlt3 := hr3.lt
        have hgcw : w.heap.size ≤ gc := by omega
        clear hr3 hb3 HT2 HB2 HNO
        have HGN : Hid (∀ p W, Calls Try.prog 19 #[.pointer p, .slice none 0 0] W fun e w' => ∃ g, e = .returned (.pointer (some ⟨g, 0, none⟩)) ∧ W.heap.size ≤ g ∧ Arr w' g 80 (lockC p (lkL [])) ∧ Below W.heap.size W w') :=
          fun p W => gnew_any p none 0 [] W (by decide) (.inl rfl)
        have HK : Hid ((lkL []).length = 48) := lkL_length _
        generalize lkL [] = K at *
        go_wp2_with fail
        refine (HGN.out _ _).mono ?_
        rintro e w4 ⟨gg, rfl, hgg, hA4, hb4⟩
        have H4 : Hid (Tri TB w4 q L gg gc K s0) := ⟨HH.out.below _ _ _ _ HT3.out hb4, ⟨⟨HK.out, .inr ⟨gg, rfl, hA4⟩⟩, H3.out.below hb4 hlt3, by omega⟩⟩
        have HB4 := Lib.hid (HB3.out.trans (hb4.mono hz3))
        clear hA4 hb4 HT3 H3 HB3 HGN hgg hlt3 hz3 hz2 hgc hz1
        go_wp2
        go_loopw [11] (fun i wr => ∃ (k : Nat) (c : St), k ≤ L.length ∧ i = .int .i64 k ∧ c.ops ≤ 201 * k ∧ Tri TB wr q L gg gc K c ∧ Below w.heap.size w wr) (fun i _ => L.length - (intOf i).toNat)
        case atStart => exact ⟨0, s0, Nat.zero_le _, rfl, HOP.out, H4.out, HB4.out⟩
        case round =>
          clear H4 HB4 HOP
          obtain ⟨k, c, hk, rfl, hops, hA, hb⟩ := hrel
          have HA := Lib.hid hA
          have HB := Lib.hid hb
          have hz := hb.size
          clear hA hb
          by_cases hlt : k < L.length
          · have hki : (k : Int) < L.length := by omega
            obtain ⟨b, off, p, rfl, ⟨c0, c1, c2⟩, HX⟩ := (HR.out.below HB.out).at_ hlt
            obtain ⟨nm, fi, mn⟩ := p
            simp only at c0
            have HW := Lib.hid (HH.out.write wr q L gg gc K c nm 0 ⟨#[115, 111, 109, 101, 32, 98, 121, 116, 101, 115, 32, 111, 102, 32, 105, 116]⟩ HA.out.1 HG.out HA.out.2 (by decide) (by decide) (by show c.ops + 16 < 2305843009213693952; omega))
            have HOX := Lib.hid (pwS_ops L K c nm 0 ⟨#[115, 111, 109, 101, 32, 98, 121, 116, 101, 115, 32, 111, 102, 32, 105, 116]⟩)
            generalize pwS L K c nm 0 ⟨#[115, 111, 109, 101, 32, 98, 121, 116, 101, 115, 32, 111, 102, 32, 105, 116]⟩ = z at *
            have hopn : z.1.ops ≤ 201 * (k + 1) := by
              have h1 := HOX.out
              have h2 : (ByteArray.mk #[115, 111, 109, 101, 32, 98, 121, 116, 101, 115, 32, 111, 102, 32, 105, 116]).size = 16 := rfl
              omega
            clear HOX c1 c2
            go_wp2_with fail
            refine HW.out.mono ?_
            rintro e w5 ⟨rfl, hN5, hg5⟩
            have H5 := Lib.hid (HA.out.next HH.out hN5 hg5)
            have HB5 := Lib.hid (below_grown HB.out hg5 hgcw hz)
            clear hN5 hg5 HA HB HW
            go_wp2
            go_roundw
            case rel => exact ⟨k + 1, z.1, by omega, by go_num, hopn, H5.out, HB5.out⟩
            case measure => simp [intOf]; omega
          · obtain rfl : k = L.length := by omega
            have hops2 : c.ops ≤ 4020 := by omega
            have HBY := Lib.hid (bytes_any gc c wr HA.out.2.2.1)
            have HCB : Hid (c.B.length = 24576) := HA.out.2.2.1.1.1
            obtain ⟨V, hV⟩ : ∃ V : ByteArray, ⟨c.B.toArray⟩ = V := ⟨_, rfl⟩
            rw [hV] at HBY
            have hVs : V.size = 24576 := by rw [← hV, list_size]; exact HCB.out
            have HV := Lib.hid hV
            clear hV hlt hk hops
            go_wp2_with fail
            refine HBY.out.mono ?_
            rintro e w5 ⟨rfl, rfl⟩
            clear HBY
            go_wp2
            go_loopw [13] (fun i wq => ∃ (k : Nat) (d : St), k ≤ M.length ∧ i = .int .i64 k ∧ d.ops ≤ 4020 + 201 * k ∧ Tri TB wq q L gg gc K d ∧ (∀ j, j < 24576 → Other L name (j / 512) → d.B.getD j 0 = c.B.getD j 0) ∧ Below w.heap.size w wq) (fun i _ => M.length - (intOf i).toNat)
            case atStart => exact ⟨0, c, Nat.zero_le _, rfl, hops2, HA.out, fun _ _ _ => rfl, HB.out⟩
            case round =>
              clear HA HB hz
              obtain ⟨k, d, hk, rfl, hops, hA, hsm, hb⟩ := hrel
              have HA := Lib.hid hA
              have HB := Lib.hid hb
              have HSM := Lib.hid hsm
              have HDB : Hid (d.B.length = 24576) := hA.2.2.1.1.1
              have hz := hb.size
              clear hA hb hsm
              by_cases hlt : k < M.length
              · have hki : (k : Int) < M.length := by omega
                obtain ⟨b, off, a, rfl, ⟨c0, c1, c2, c3, c4⟩, HX⟩ := (HRM.out.below HB.out).at_ hlt
                have hbl : b < wr.heap.size := World.block_lt_of_cell? wr _ c0
                have hfa := HFM.out k hlt
                rw [HX.out] at hfa
                obtain ⟨kd, nm, pl, n, sx⟩ := a
                simp only at c0 c1 c2 c3 c4 hfa
                obtain ⟨hpl, hnn⟩ := hfa
                have HBa := Lib.hid ((Below.refl wr.heap.size wr).alloc (Nat.le_refl _) (.cells (paC ⟨kd, nm, pl, n, sx⟩) 55))
                have HBW := Lib.hid (HB.out.trans (HBa.out.mono hz))
                have HAW2 := Lib.hid (HA.out.below HH.out HBa.out)
                have HAr : Hid (Arr (wr.alloc (.cells (paC ⟨kd, nm, pl, n, sx⟩) 55)) wr.heap.size 55 (paC ⟨kd, nm, pl, n, sx⟩)) := Arr.new _ _ _
                have hzW := HBW.out.size
                clear HX HBa HA HB
                go_upto_region 17 with fail
                change Code.wp _ _ _ _ (wr.alloc (.cells (paC ⟨kd, nm, pl, n, sx⟩) 55))
                clear c0 c1 c2 c3 c4 hbl
                generalize wr.alloc (.cells (paC ⟨kd, nm, pl, n, sx⟩) 55) = W at *
                generalize wr.heap.size = g at *
                have c0 : W.cell? ⟨g, 0, none⟩ = some (.int .i64 kd) := HAr.out.cell 0
                have c2 : W.cell? ⟨g, 2, none⟩ = some (.int .i64 pl) := HAr.out.cell 2
                have c4 : W.cell? ⟨g, 4, none⟩ = some (.string sx) := HAr.out.cell 4
                by_cases hs : 200 < sx.size
                · have e0 : decide ((200 : Int) < sx.size) = true := decide_eq_true (by omega)
                  clear hs
                  go_wp2_with fail
                  refine (HAW.out _).mono ?_
                  rintro e w7 ⟨rfl, hb7⟩
                  have HB7 := Lib.hid (HBW.out.trans (hb7.mono hzW))
                  clear hb7
                  go_wp2
                  go_ret
                  exact ⟨rfl, HB7.out⟩
                have e0 : decide ((200 : Int) < sx.size) = false := decide_eq_false (by omega)
                by_cases k2 : kd = 2
                · have e2 : (kd == 2) = true := by simpa using k2
                  have HOX := Lib.hid (pwS_ops L K d name pl sx)
                  have HKE := Lib.hid (fun j hj => pwS_keeps HG.out K d name pl sx HDB.out j hj)
                  have HW := Lib.hid (HH.out.write W q L gg gc K d name pl sx HAW2.out.1 HG.out HAW2.out.2 hpl.1 hpl.2 (by omega))
                  generalize pwS L K d name pl sx = z at *
                  have hopn : z.1.ops ≤ 4020 + 201 * (k + 1) := by have := HOX.out; omega
                  clear k2 hs HOX
                  go_wp2_with fail
                  refine HW.out.mono ?_
                  rintro e w7 ⟨rfl, hN7, hg7⟩
                  have H7 := Lib.hid (HAW2.out.next HH.out hN7 hg7)
                  have HB7 := Lib.hid (below_grown HBW.out hg7 hgcw hzW)
                  have HS7 : Hid (∀ j, j < 24576 → Other L name (j / 512) → z.1.B.getD j 0 = c.B.getD j 0) := fun j h1 h2 => (HKE.out j h1 h2).trans (HSM.out j h1 h2)
                  clear hN7 hg7 HAW2 HBW HW HKE HSM c0 c2 c4
                  go_wp2
                  go_roundw
                  case rel => exact ⟨k + 1, z.1, by omega, by go_num, hopn, H7.out, HS7.out, HB7.out⟩
                  case measure => simp [intOf]; omega
                · have e2 : (kd == 2) = false := by simpa using k2
                  have HOX := Lib.hid (peS_ops L K d name pl)
                  have HKE := Lib.hid (fun j hj => peS_keeps (L := L) K d name pl HDB.out j hj)
                  have HW := Lib.hid (HH.out.erase W q L gg gc K d name pl HAW2.out.1 HG.out HAW2.out.2 hpl.1 hpl.2 (by omega))
                  generalize peS L K d name pl = z at *
                  have hopn : z.1.ops ≤ 4020 + 201 * (k + 1) := by have := HOX.out; omega
                  clear k2 hs HOX
                  go_wp2_with fail
                  refine HW.out.mono ?_
                  rintro e w7 ⟨rfl, hN7, hg7⟩
                  have H7 := Lib.hid (HAW2.out.next HH.out hN7 hg7)
                  have HB7 := Lib.hid (below_grown HBW.out hg7 hgcw hzW)
                  have HS7 : Hid (∀ j, j < 24576 → Other L name (j / 512) → z.1.B.getD j 0 = c.B.getD j 0) := fun j h1 h2 => (HKE.out j h1 h2).trans (HSM.out j h1 h2)
                  clear hN7 hg7 HAW2 HBW HW HKE HSM c0 c2 c4
                  go_wp2
                  go_roundw
                  case rel => exact ⟨k + 1, z.1, by omega, by go_num, hopn, H7.out, HS7.out, HB7.out⟩
                  case measure => simp [intOf]; omega
              · obtain rfl : k = M.length := by omega
                have HBY := Lib.hid (bytes_any gc d wr HA.out.2.2.1)
                obtain ⟨N, hN⟩ : ∃ N : ByteArray, ⟨d.B.toArray⟩ = N := ⟨_, rfl⟩
                rw [hN] at HBY
                have hNs : N.size = 24576 := by rw [← hN, list_size]; exact HDB.out
                have HN := Lib.hid hN
                have HEQ : Hid (∀ k, k < 48 → Other L name k → N.extract (k * 512) ((k + 1) * 512) = V.extract (k * 512) ((k + 1) * 512)) := by
                  intro k hk ho
                  rw [← HN.out, ← HV.out]
                  refine stretch_eq _ _ _ _ (HDB.out.trans HCB.out.symm) (by rw [HDB.out]; omega) fun j h1 h2 => HSM.out j (by omega) (by rw [show j / 512 = k by omega]; exact ho)
                clear hN HA HSM hops hlt hk
                go_wp2_with fail
                refine HBY.out.mono ?_
                rintro e w7 ⟨rfl, rfl⟩
                clear HBY
                have hVi : (V.size : Int) = 24576 := by omega
                have hNi : (N.size : Int) = 24576 := by omega
                go_wp2
                go_loopw [16] (fun i wq => ∃ k : Nat, k ≤ 48 ∧ i = .int .i64 k ∧ Below w.heap.size w wq) (fun i _ => 48 - (intOf i).toNat)
                case atStart => exact ⟨0, Nat.zero_le _, rfl, HB.out⟩
                case round =>
                  clear HB hz
                  obtain ⟨k, hk, rfl, hb⟩ := hrel
                  have HB := Lib.hid hb
                  have hz := hb.size
                  clear hb
                  by_cases hlt : k < 48
                  · have hki : (k : Int) < 48 := by omega
                    go_wp2
                    go_loopw [17, 18] (fun o i wq => ∃ j : Nat, j ≤ L.length ∧ i = .int .i64 j ∧ o = .bool (ownB L name k j) ∧ Below w.heap.size w wq) (fun _ i _ => L.length - (intOf i).toNat)
                    case atStart => exact ⟨0, Nat.zero_le _, rfl, rfl, HB.out⟩
                    case round =>
                      clear HB hz
                      obtain ⟨j, hj, rfl, rfl, hb⟩ := hrel
                      have HB := Lib.hid hb
                      have hz := hb.size
                      have HBQ : Hid (∀ n, Below w.heap.size w (wr.drewN n)) := fun n => HB.out.trans ((below_drewN _ _).mono hz)
                      clear hb
                      by_cases hjl : j < L.length
                      · have hji : (j : Int) < L.length := by omega
                        obtain ⟨b, off, p, rfl, ⟨c0, c1, c2⟩, HX⟩ := (HR.out.below HB.out).at_ hjl
                        have hgp := rgBad_of (HG.out.2 j hjl)
                        have HS := Lib.hid (ownB_succ L name k j)
                        rw [HX.out] at hgp HS
                        obtain ⟨nm, fi, mn⟩ := p
                        simp only at c0 c1 c2 hgp HS
                        obtain ⟨p1, p2, p3, p4⟩ := hgp
                        clear HX HB
                        cases ho : ownB L name k j with
                        | true =>
                          have HN : Hid (ownB L name k (j + 1) = true) := by unfold Hid; rw [HS.out, ho]; rfl
                          clear ho HS
                          go_wp2
                          go_quiet (fail)
                          go_wp2
                          go_roundw
                          case rel => exact ⟨j + 1, by omega, by go_num, by rw [HN.out], HBQ.out _⟩
                          case measure => simp [intOf]; omega
                        | false =>
                          by_cases q1 : nm = name
                          · have e1 : (nm.toList == name.toList) = true := by rw [bytes_eq]; exact decide_eq_true q1
                            by_cases q2 : fi ≤ k
                            · have e2 : decide (fi ≤ (k : Int)) = true := decide_eq_true q2
                              by_cases q3 : (k : Int) - fi < mn
                              · have e3 : decide ((k : Int) - fi < mn) = true := decide_eq_true q3
                                have HN : Hid (ownB L name k (j + 1) = true) := by unfold Hid; rw [HS.out, ho, decide_eq_true q1, e2, e3]; rfl
                                clear ho HS q1 q2 q3
                                go_wp2
                                go_quiet (fail)
                                go_wp2
                                go_roundw
                                case rel => exact ⟨j + 1, by omega, by go_num, by rw [HN.out], HBQ.out _⟩
                                case measure => simp [intOf]; omega
                              · have e3 : decide ((k : Int) - fi < mn) = false := decide_eq_false q3
                                have HN : Hid (ownB L name k (j + 1) = false) := by unfold Hid; rw [HS.out, ho, decide_eq_true q1, e2, e3]; rfl
                                clear ho HS q1 q2 q3
                                go_wp2
                                go_quiet (fail)
                                go_wp2
                                go_roundw
                                case rel => exact ⟨j + 1, by omega, by go_num, by rw [HN.out], HBQ.out _⟩
                                case measure => simp [intOf]; omega
                            · have e2 : decide (fi ≤ (k : Int)) = false := decide_eq_false q2
                              have HN : Hid (ownB L name k (j + 1) = false) := by unfold Hid; rw [HS.out, ho, decide_eq_true q1, e2]; rfl
                              clear ho HS q1 q2
                              go_wp2
                              go_quiet (fail)
                              go_wp2
                              go_roundw
                              case rel => exact ⟨j + 1, by omega, by go_num, by rw [HN.out], HBQ.out _⟩
                              case measure => simp [intOf]; omega
                          · have e1 : (nm.toList == name.toList) = false := by rw [bytes_eq]; exact decide_eq_false q1
                            have HN : Hid (ownB L name k (j + 1) = false) := by unfold Hid; rw [HS.out, ho, decide_eq_false q1]; rfl
                            clear ho HS q1
                            go_wp2
                            go_quiet (fail)
                            go_wp2
                            go_roundw
                            case rel => exact ⟨j + 1, by omega, by go_num, by rw [HN.out], HBQ.out _⟩
                            case measure => simp [intOf]; omega
                      · obtain rfl : j = L.length := by omega
                        cases ho : ownB L name k L.length with
                        | true =>
                          clear ho
                          go_wp2
                          go_quiet (fail)
                          go_wp2
                          go_roundw
                          case rel => exact ⟨k + 1, by omega, by go_num, HBQ.out _⟩
                          case measure => simp [intOf]; omega
                        | false =>
                          have hex := HEQ.out k hlt (ownB_other ho)
                          have m2 : IntKind.i64.wrap ((k : Int) + 1) = (k : Int) + 1 := IntWalk.i64_in _ (by omega)
                          have m4 : ((k : Int) * 512) = ((k * 512 : Nat) : Int) := by omega
                          have m5 : (((k : Int) + 1) * 512) = (((k + 1) * 512 : Nat) : Int) := by omega
                          obtain ⟨a1, ha1⟩ : ∃ a1, k * 512 = a1 := ⟨_, rfl⟩
                          obtain ⟨a2, ha2⟩ : ∃ a2, (k + 1) * 512 = a2 := ⟨_, rfl⟩
                          have hle : a1 ≤ a2 := by omega
                          have hle2 : a2 ≤ 24576 := by omega
                          have hlei : (a1 : Int) ≤ a2 := by omega
                          have hle2i : (a2 : Int) ≤ 24576 := by omega
                          rw [ha1] at m4 hex
                          rw [ha2] at m5 hex
                          have m1 : IntKind.i64.wrap (a1 : Int) = (a1 : Int) := IntWalk.i64_in _ (by omega)
                          have m3 : IntKind.i64.wrap (a2 : Int) = (a2 : Int) := IntWalk.i64_in _ (by omega)
                          obtain ⟨X, hx2⟩ : ∃ X, V.extract a1 a2 = X := ⟨_, rfl⟩
                          rw [hx2] at hex
                          clear ha1 ha2 ho
                          go_wp2
                          go_quiet (fail)
                          clear m1 m2 m3 m4 m5 hex hx2
                          go_wp2
                          go_roundw
                          case rel => exact ⟨k + 1, by omega, by go_num, HBQ.out _⟩
                          case measure => simp [intOf]; omega
                  · obtain rfl : k = 48 := by omega
                    go_wp2_with fail
                    refine (HAW.out _).mono ?_
                    rintro e w8 ⟨rfl, hb8⟩
                    have HB8 := Lib.hid (HB.out.trans (hb8.mono hz))
                    clear hb8
                    go_wp2
                    go_ret
                    exact ⟨rfl, HB8.out⟩
    · have d2 : ((r : Int) != 0) = true := by simp; omega
      have d2' : ((r : Int) == 0) = false := by simp; omega
      clear hr0 HGD HNEW
      go_wp2_with fail
      refine (HAW.out _).mono ?_
      rintro e w2 ⟨rfl, hb⟩
      go_wp2
      go_ret
      exact ⟨rfl, HB1.out.trans (hb.mono hz1)⟩
end Go.Proofs.Ytidnbpehhpakcaa
