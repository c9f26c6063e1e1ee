/- The walk of NorPlays: it returns true at every string and every slice of acts. Conditions: what every slice of the machine keeps: at most 2^63 - 1 elements, numbers of 64 bits. -/
import Derived.Test.YtegbkanfdodpcaaNorT
import Derived.Test.YtegbkanfdodpcaaNorJ
import Derived.Deep.RegionHeld3
namespace Go.Proofs.Ytegbkanfdodpcaa
open Go.RowKit

theorem AcAt.below {w w' : World} {b o B : Nat} {x : AC} (h : AcAt w b o x) (hb : Below B w w') (hB : b < B) : AcAt w' b o x := by
  obtain ⟨h1, h2, h3, h4⟩ := h
  have e : ∀ j, w'.cell? ⟨b, j, none⟩ = w.cell? ⟨b, j, none⟩ := fun j => World.cell?_of_block (a := ⟨b, j, none⟩) (hb.block b hB)
  exact ⟨by rw [e]; exact h1, by rw [e]; exact h2, by rw [e]; exact h3, by rw [e]; exact h4⟩
theorem AcAt.lt {w : World} {b o : Nat} {x : AC} (h : AcAt w b o x) : b < w.heap.size := World.block_lt_of_cell? w _ h.1
/-- The pointers to two Chips that nobody made. -/
def nbC (z : Nat) : Array Value := #[.pointer none, .pointer (some ⟨z, 0, none⟩)]

set_option maxHeartbeats 6400000 in
set_option maxRecDepth 100000 in
theorem norPlays_any (s : ByteArray) (A : Option Addr) (cap : Nat) (L : List AC) (w : World) (hr : RdA w A L) (hl : L.length ≤ maxLen) (hn : ∀ k, k < L.length → (L.getD k ac0).n < 9223372036854775808 ∧ -9223372036854775808 ≤ (L.getD k ac0).pl ∧ (L.getD k ac0).pl < 9223372036854775808) :
    Calls Try.prog 3 #[.string s, .slice A L.length cap] w fun e w' => e = .returned (.bool true) ∧ Below w.heap.size w w' := by
  have HAW := Lib.hid awake_any
  have HFEW := Lib.hid (few_any A cap L w hr hl)
  have hl2 : L.length ≤ 9223372036854775807 := by unfold maxLen at hl; omega
  by_cases hs : 300 < s.size
  · have hd : decide ((300 : Int) < s.size) = true := decide_eq_true (by omega)
    clear hs hr hn hl
    go_enter Try.func3, Try.ntmps3
    go_wp2_with fail
    refine (HAW.out _).mono ?_
    rintro e w1 ⟨rfl, hb⟩
    go_wp2
    go_ret
    exact ⟨rfl, hb⟩
  · have hd : decide ((300 : Int) < s.size) = false := decide_eq_false (by omega)
    have HL := Lib.hid (load_any s w (by omega))
    have HL2 := Lib.hid (fun W => refload_any s W (by omega))
    have HR := Lib.hid hr
    have HNN := Lib.hid hn
    clear hs hr hn hl
    go_enter Try.func3, Try.ntmps3
    go_wp2_with fail
    refine HFEW.out.mono ?_
    rintro e w1 ⟨⟨b, rfl, hfew⟩, rfl⟩
    cases b with
    | false =>
      clear hfew
      go_wp2_with fail
      refine (HAW.out _).mono ?_
      rintro e w1 ⟨rfl, hb⟩
      go_wp2
      go_ret
      exact ⟨rfl, hb⟩
    | true =>
      obtain ⟨h24, hsz⟩ := hfew rfl
      have HSZ := Lib.hid hsz
      clear hfew hsz HFEW
      go_wp2_with fail
      refine HL.out.mono ?_
      rintro e w1 ⟨g, rfl, hg, hr1, hb1⟩
      have H1 := Lib.hid hr1
      have HB1 := Lib.hid hb1
      have hgl := hr1.lt
      clear hr1 hb1 HL
      go_wp2_with fail
      refine (HL2.out _).mono ?_
      rintro e w2 ⟨gx, rfl, hgx, hx2, hb2⟩
      have H2 := Lib.hid (H1.out.below hb2 hgl)
      have HX := Lib.hid hx2
      have HB2 := Lib.hid (HB1.out.trans (hb2.mono HB1.out.size))
      have hgxl := hx2.lt
      have hz1 := HB1.out.size
      have hz2 := hb2.size
      clear hx2 hb2 H1 HB1 HL2
      have hzz := zeroChip
      obtain ⟨c0, hc0⟩ : ∃ c0, c0 = chip0 := ⟨_, rfl⟩
      rw [← hc0] at hzz
      have HC0 := Lib.hid hc0
      obtain ⟨gz, hgz⟩ : ∃ gz, w2.heap.size = gz := ⟨_, rfl⟩
      have HW3 : Hid (∀ W, W = (w2.alloc (.cells c0 31)).alloc (.cells #[.pointer none, .pointer (some ⟨gz, 0, none⟩)] 25) →
          RN W g (ldS s) ∧ RR W gx (ldS s) ∧ Arr W gz 31 chip0 ∧ Arr W (gz + 1) 25 (nbC gz) ∧ Below w.heap.size w W) := by
        rintro W rfl
        refine ⟨(H2.out.alloc _).alloc _, (HX.out.alloc _).alloc _, ?_, ?_, (HB2.out.alloc HB2.out.size _).alloc (by rw [size_alloc]; have := HB2.out.size; omega) _⟩
        · rw [← hgz, ← hc0]; exact (Arr.new w2 _ _).alloc _
        · exact arr_new_at _ _ _ _ (by rw [size_alloc, hgz])
      clear hc0 H2 HX HB2
      go_wp2
      have HS := Lib.hid (HW3.out _ rfl)
      clear HW3
      have hgg : g ≠ gx ∧ g < gz ∧ gx < gz ∧ w.heap.size ≤ gx ∧ w.heap.size ≤ gz := by omega
      go_loopw [8] (fun i wr => ∃ (k : Nat) (c : St), k ≤ L.length ∧ i = .int .i64 k ∧ c.ops ≤ 201 * k ∧ RN wr g c ∧ RR wr gx c ∧ Arr wr gz 31 chip0 ∧ Arr wr (gz + 1) 25 (nbC gz) ∧ Below w.heap.size w wr) (fun i _ => L.length - (intOf i).toNat)
      case atStart =>
        obtain ⟨p1, p2, p3, p4, p5⟩ := HS.out
        exact ⟨0, ldS s, Nat.zero_le _, rfl, Nat.le_refl _, p1, p2, p3, p4, p5⟩
      case round =>
        clear HS hzz
        obtain ⟨k, c, hk, rfl, hops, hN, hX, hZ, hP, hb⟩ := hrel
        have HN := Lib.hid hN
        have HX := Lib.hid hX
        have HZ := Lib.hid hZ
        have HP := Lib.hid hP
        have HB := Lib.hid hb
        have hzw := hb.size
        have hlw := hP.lt
        clear hN hX hZ hP hb
        by_cases hlt : k < L.length
        · have hki : (k : Int) < L.length := by omega
          obtain ⟨b, off, x, rfl, hAc, HXX⟩ := HR.out.at_ hlt
          have hblt := hAc.lt
          have HAC := Lib.hid hAc
          obtain ⟨c1, c2, c3, c4⟩ := hAc.below HB.out hblt
          have hxs := HSZ.out k hlt
          have hxn := HNN.out k hlt
          rw [HXX.out] at hxs hxn
          obtain ⟨hxn, hxp1, hxp2⟩ := hxn
          have HOX := Lib.hid (doS_ops c x)
          have HDO := Lib.hid (do_any g c x wr HN.out (by omega) hxn)
          have HWA := Lib.hid (fun W (hW : RR W gx c) => wants_any gx c x W hW (by omega) hxn hxp1 hxs)
          have HNB := Lib.hid (fun p W (hW : Nob W p) => nob_do p x W hW)
          generalize doS c x = d at HOX HDO HWA
          obtain ⟨c', r, er⟩ := d
          obtain ⟨kd, pl, n, sx⟩ := x
          simp only [acV] at HDO HWA HNB c1 c2 c3 c4 HOX hxs hxn hxp1 hxp2
          obtain ⟨ne, hne⟩ : ∃ ne, nbE kd = ne := ⟨_, rfl⟩
          rw [hne] at HNB
          have HNE : Hid ((((ne : Int) == 0) = false) ∨ (((ne : Int) == 0) = true ∧ decide (kd < 4) = true ∧ decide (0 < kd) = false ∧ (kd == 6) = false) ∨ (((ne : Int) == 0) = true ∧ decide (kd < 4) = false ∧ (kd == 6) = false)) := by
            unfold Hid
            rw [← hne]
            unfold nbE
            by_cases q : kd = 1 ∨ kd = 2 ∨ kd = 3 ∨ kd = 6
            · rw [if_pos q]; exact .inl rfl
            · rw [if_neg q]
              right
              have q6 : (kd == 6) = false := by simp; omega
              by_cases q4 : kd < 4
              · exact .inl ⟨rfl, decide_eq_true q4, decide_eq_false (by omega), q6⟩
              · exact .inr ⟨rfl, decide_eq_false q4, q6⟩
          clear HXX hAc hne
          go_wp2_with fail
          refine HDO.out.mono ?_
          rintro e w3 ⟨rfl, hN3, hg3⟩
          have HN3 := Lib.hid hN3
          have HX3 := Lib.hid (HX.out.grown hg3 (by omega))
          have HZ3 := Lib.hid (HZ.out.grown hg3 (fun e => by injection e with e; omega))
          have HP3 := Lib.hid (HP.out.grown hg3 (fun e => by injection e with e; omega))
          have HB3 := Lib.hid (below_grown HB.out hg3 hg hzw)
          have hz3 := HB3.out.size
          clear hN3 hg3 c1 c2 c3 c4 HDO HN HX HZ HP HB hzw hlw
          obtain ⟨c1, c2, c3, c4⟩ := HAC.out.below HB3.out hblt
          go_wp2_with fail
          refine (HWA.out _ HX3.out).mono ?_
          rintro e w4 ⟨rfl, hX4, hg4⟩
          have HX4 := Lib.hid hX4
          have HN4 := Lib.hid (HN3.out.grown hg4 (by omega))
          have HZ4 := Lib.hid (HZ3.out.grown hg4 (fun e => by injection e with e; omega))
          have HP4 := Lib.hid (HP3.out.grown hg4 (fun e => by injection e with e; omega))
          have HB4 := Lib.hid (below_grown HB3.out hg4 (by omega) hz3)
          have hz4 := HB4.out.size
          clear hX4 hg4 c1 c2 c3 c4 HWA HN3 HX3 HZ3 HP3 HB3 hz3
          have hopn : c'.ops ≤ 201 * (k + 1) := by have := HOX.out; omega
          have HQ1 : Hid (∀ m, Calls Try.prog 12 #[.pointer (some ⟨g, 0, none⟩)] (w4.drewN m) fun e w' => e = .returned (.bool c'.on) ∧ ∃ m, w' = w4.drewN m) :=
            fun m => (on_any g c' (w4.drewN m) (HN4.out.below (below_drewN _ _) HN4.out.lt)).mono fun _ _ ⟨h1, h2⟩ => ⟨h1, m, h2.symm⟩
          have HQ2 : Hid (∀ m, Calls Try.prog 13 #[.pointer (some ⟨g, 0, none⟩)] (w4.drewN m) fun e w' => e = .returned (.int .i64 c'.ops) ∧ ∃ m, w' = w4.drewN m) :=
            fun m => (ops_any g c' (w4.drewN m) (HN4.out.below (below_drewN _ _) HN4.out.lt)).mono fun _ _ ⟨h1, h2⟩ => ⟨h1, m, h2.symm⟩
          have HQ3 : Hid (∀ m, Calls Try.prog 14 #[.pointer (some ⟨g, 0, none⟩)] (w4.drewN m) fun e w' => e = .returned (.string ⟨c'.B.toArray⟩) ∧ ∃ m, w' = w4.drewN m) :=
            fun m => (bytes_any g c' (w4.drewN m) (HN4.out.below (below_drewN _ _) HN4.out.lt)).mono fun _ _ ⟨h1, h2⟩ => ⟨h1, m, h2.symm⟩
          obtain ⟨_, fu, tn, hAx, _⟩ := id HX4.out
          have x0 := ref_B hAx
          have x1 := ref_on hAx
          have x4 := ref_ops hAx
          clear hAx HOX
          generalize (⟨c'.B.toArray⟩ : ByteArray) = NB at HQ3 x0
          generalize c'.on = on' at HQ1 x1
          generalize hop' : ((c'.ops : Nat) : Int) = op' at HQ2 x4
          clear hop'
          go_wp2
          go_quiet ((first | (go_at_call 12; exact HQ1.out _) | (go_at_call 13; exact HQ2.out _) | (go_at_call 14; exact HQ3.out _)))
          have HX5 := Lib.hid (HX4.out.below (below_drewN w4 nq) HX4.out.lt)
          have HN5 := Lib.hid (HN4.out.below (below_drewN w4 nq) HN4.out.lt)
          have HZ5 := Lib.hid (HZ4.out.below (below_drewN w4 nq) HZ4.out.lt)
          have HP5 := Lib.hid (HP4.out.below (below_drewN w4 nq) HP4.out.lt)
          have HB5 := Lib.hid (HB4.out.trans ((below_drewN w4 nq).mono hz4))
          generalize w4.drewN nq = w5 at *
          clear HX4 HN4 HZ4 HP4 HB4 hz4 x0 x1 x4 HQ1 HQ2 HQ3
          go_wp2
          go_loopw [13] (fun i wq => ∃ j : Nat, j ≤ 2 ∧ i = .int .i64 j ∧ Below w5.heap.size w5 wq) (fun i _ => 2 - (intOf i).toNat)
          case atStart => exact ⟨0, Nat.zero_le _, rfl, Below.refl _ _⟩
          case round =>
            obtain ⟨j, hj, rfl, hbq⟩ := hrel
            have HBQ := Lib.hid hbq
            have HPq := Lib.hid (HP5.out.below hbq HP5.out.lt)
            have HZq := Lib.hid (HZ5.out.below hbq HZ5.out.lt)
            have HBw := Lib.hid (HB5.out.trans (hbq.mono HB5.out.size))
            have hzq := hbq.size
            clear hbq
            by_cases hj2 : j < 2
            · have hji : (j : Int) < 2 := by omega
              obtain ⟨p, hpc, hpn⟩ : ∃ p, wr.cell? ⟨gz + 1, j, none⟩ = some (.pointer p) ∧ Nob wr p := by
                match j, hj2 with
                | 0, _ => exact ⟨none, HPq.out.cell 0, .inl rfl⟩
                | 1, _ => exact ⟨some ⟨gz, 0, none⟩, HPq.out.cell 1, .inr ⟨gz, rfl, HZq.out⟩⟩
              have HPN := Lib.hid hpn
              obtain ⟨c1, c2, c3, c4⟩ := HAC.out.below HBw.out hblt
              have hpl1 : gz + 1 < wr.heap.size := HPq.out.lt
              have hbl2 : b < wr.heap.size := Nat.lt_of_lt_of_le hblt HBw.out.size
              have HD2 : Hid (∀ W, Below wr.heap.size wr W → Calls Try.prog 10 #[.pointer p, .agg #[.int .i64 kd, .int .i64 pl, .int .i64 n, .string sx]] W fun e w' => e = .returned (.tuple #[.string ⟨#[]⟩, .int .i64 (ne : Int)]) ∧
                  w'.cell? ⟨gz + 1, j, none⟩ = some (.pointer p) ∧ w'.cell? ⟨b, off + k * 4, none⟩ = some (.int .i64 kd) ∧ w'.cell? ⟨b, off + k * 4 + 1, none⟩ = some (.int .i64 pl) ∧ w'.cell? ⟨b, off + k * 4 + 2, none⟩ = some (.int .i64 n) ∧ w'.cell? ⟨b, off + k * 4 + 3, none⟩ = some (.string sx) ∧ Below wr.heap.size wr w') := by
                intro W hW
                refine (HNB.out p W (HPN.out.below hW)).mono ?_
                rintro e w' ⟨he, hb'⟩
                have hbb := hW.trans (hb'.mono hW.size)
                have e1 : ∀ i, w'.cell? ⟨b, i, none⟩ = wr.cell? ⟨b, i, none⟩ := fun i => World.cell?_of_block (a := ⟨b, i, none⟩) (hbb.block b hbl2)
                exact ⟨he, (World.cell?_of_block (a := ⟨gz + 1, j, none⟩) (hbb.block _ hpl1)).trans hpc, (e1 _).trans c1, (e1 _).trans c2, (e1 _).trans c3, (e1 _).trans c4, hbb⟩
              have hbd : Below wr.heap.size wr wr.drew := (Below.refl _ _).drew
              clear hpn HZq HPq
              go_wp2
              go_region_held3 (fun w' => w'.cell? ⟨gz + 1, j, none⟩ = some (.pointer p) ∧ w'.cell? ⟨b, off + k * 4, none⟩ = some (.int .i64 kd) ∧ w'.cell? ⟨b, off + k * 4 + 1, none⟩ = some (.int .i64 pl) ∧ w'.cell? ⟨b, off + k * 4 + 2, none⟩ = some (.int .i64 n) ∧ w'.cell? ⟨b, off + k * 4 + 3, none⟩ = some (.string sx) ∧ Below wr.heap.size wr w') (go_keep)
                (first | (go_at_call 10; refine (HD2.out _ (by assumption)).mono ?_; rintro e w6 ⟨rfl, s1, s2, s3, s4, s5, s6⟩))
              have HN6 := Lib.hid (HPN.out.below s6)
              have HB6 := Lib.hid (HBQ.out.trans (s6.mono hzq))
              clear hbd HD2 HBw HBQ HPN c2 c3 c4 s6
              rcases HNE.out with q1 | ⟨q1, q2, q3, q4⟩ | ⟨q1, q2, q4⟩
              all_goals
                go_wp2_with fail
                refine (nob_on p _ HN6.out).mono ?_
                rintro e w7 ⟨rfl, rfl⟩
                go_wp2_with fail
                refine (nob_bytes p _ HN6.out).mono ?_
                rintro e w7 ⟨rfl, rfl⟩
                go_wp2_with fail
                refine (nob_ops p _ HN6.out).mono ?_
                rintro e w7 ⟨rfl, rfl⟩
                go_wp2
                go_roundw
                case rel => exact ⟨j + 1, by omega, by go_num, HB6.out⟩
                case measure => simp [intOf]; omega
            · obtain rfl : j = 2 := by omega
              have HN6 := Lib.hid (HN5.out.below HBQ.out HN5.out.lt)
              have HX6 := Lib.hid (HX5.out.below HBQ.out HX5.out.lt)
              go_wp2
              go_roundw
              case rel => exact ⟨k + 1, c', by omega, by go_num, hopn, HN6.out, HX6.out, HZq.out, HPq.out, HBw.out⟩
              case measure => simp [intOf]; omega
        · have HNW := Lib.hid new_any
          have HLW : Hid (∀ W, Calls Try.prog 9 #[.string ⟨#[]⟩] W fun e w' => ∃ g, e = .returned (.pointer (some ⟨g, 0, none⟩)) ∧ W.heap.size ≤ g ∧ RR w' g (ldS ⟨#[]⟩) ∧ Below W.heap.size W w') := fun W => refload_any ⟨#[]⟩ W (by decide)
          have HEQ : Hid ((ldS ⟨#[]⟩).B = st0.B) := rfl
          clear HN HX HZ HP hlw
          go_wp2_with fail
          refine (HNW.out _).mono ?_
          rintro e w3 ⟨g1, rfl, hg1, hr1, hb1⟩
          have HB3 := Lib.hid (HB.out.trans (hb1.mono hzw))
          have HBY := Lib.hid (bytes_any g1 st0 w3 hr1)
          have hz3 := HB3.out.size
          clear hr1 hb1 HNW
          generalize hb0 : (⟨st0.B.toArray⟩ : ByteArray) = B0 at HBY
          have HB0 := Lib.hid hb0
          clear hb0
          go_wp2_with fail
          refine HBY.out.mono ?_
          rintro e w4 ⟨rfl, rfl⟩
          go_wp2_with fail
          refine (HLW.out _).mono ?_
          rintro e w4 ⟨g2, rfl, hg2, hr2, hb2⟩
          have HB4 := Lib.hid (HB3.out.trans (hb2.mono hz3))
          obtain ⟨_, _, _, hA2, _⟩ := hr2
          have hc2 := ref_B hA2
          rw [HEQ.out, HB0.out] at hc2
          have hz4 := HB4.out.size
          clear hA2 hb2 HLW HBY
          go_wp2_with fail
          refine (HAW.out _).mono ?_
          rintro e w5 ⟨rfl, hb5⟩
          have HB5 := Lib.hid (HB4.out.trans (hb5.mono hz4))
          clear hb5
          go_wp2
          go_ret
          exact ⟨rfl, HB5.out⟩
end Go.Proofs.Ytegbkanfdodpcaa
