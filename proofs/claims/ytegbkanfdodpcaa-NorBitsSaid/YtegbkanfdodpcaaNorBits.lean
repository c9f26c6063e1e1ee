/- The walk of NorBits: it returns true at every string and every slice of acts. Conditions: what every slice of the machine keeps: at most 2^63 - 1 elements, numbers of 64 bits. -/
import Derived.Test.YtegbkanfdodpcaaNorJ
namespace Go.Proofs.Ytegbkanfdodpcaa
open Go.RowKit

theorem at_arr (B : List UInt8) (j : Nat) (h : j < (⟨B.toArray⟩ : ByteArray).size) : B.getD j 0 = (⟨B.toArray⟩ : ByteArray)[j] := by
  have := bs_get h
  simpa using this
theorem arr_size (B : List UInt8) : (⟨B.toArray⟩ : ByteArray).size = B.length := by show B.toArray.size = _; simp
theorem arr_inj {B B' : List UInt8} (h : (⟨B.toArray⟩ : ByteArray) = ⟨B'.toArray⟩) : B = B' := by
  injection h with h
  have := congrArg Array.toList h
  simpa using this
theorem bne_no {x y : UInt8} (h : x = y) : ((x.toNat : Int) != (y.toNat : Int)) = false := by rw [h]; simp
theorem str_ne {a b : ByteArray} (h : a ≠ b) : (a.toList == b.toList) = false := by
  rw [ByteArray.toList_eq, ByteArray.toList_eq]
  simp only [beq_eq_false_iff_ne, ne_eq]
  intro e
  apply h
  cases a; cases b
  simp only [ByteArray.mk.injEq]
  exact Array.ext' e

set_option maxHeartbeats 3200000 in
set_option maxRecDepth 100000 in
theorem norBits_any (s : ByteArray) (A : Option Addr) (cap : Nat) (L : List AC) (w : World) (hr : RdA w A L) (hl : L.length ≤ maxLen) (hn : ∀ k, k < L.length → (L.getD k ac0).n < 9223372036854775808 ∧ -9223372036854775808 ≤ (L.getD k ac0).pl ∧ (L.getD k ac0).pl < 9223372036854775808) :
    Calls Try.prog 4 #[.string s, .slice A L.length cap] w fun e w' => e = .returned (.bool true) ∧ Below w.heap.size w w' := by
  have HAW := Lib.hid awake_any
  have HFEW := Lib.hid (few_any A cap L w hr hl)
  have hl2 : L.length ≤ 9223372036854775807 := by unfold maxLen at hl; omega
  by_cases hs : 300 < s.size
  · have hd : decide ((300 : Int) < s.size) = true := decide_eq_true (by omega)
    clear hs hr hn hl
    go_enter Try.func4, Try.ntmps4
    go_wp2_with fail
    refine (HAW.out _).mono ?_
    rintro e w1 ⟨rfl, hb⟩
    go_wp2
    go_ret
    exact ⟨rfl, hb⟩
  · have hd : decide ((300 : Int) < s.size) = false := decide_eq_false (by omega)
    have HL := Lib.hid (load_any s w (by omega))
    have HR := Lib.hid hr
    have HNN := Lib.hid hn
    clear hs hr hn hl
    go_enter Try.func4, Try.ntmps4
    go_wp2_with fail
    refine HFEW.out.mono ?_
    rintro e w1 ⟨⟨b, rfl, hfew⟩, rfl⟩
    cases b with
    | false =>
      clear hfew
      go_wp2_with fail
      refine (HAW.out _).mono ?_
      rintro e w1 ⟨rfl, hb⟩
      go_wp2
      go_ret
      exact ⟨rfl, hb⟩
    | true =>
      obtain ⟨h24, hsz⟩ := hfew rfl
      have HSZ := Lib.hid hsz
      clear hfew hsz HFEW
      go_wp2_with fail
      refine HL.out.mono ?_
      rintro e w1 ⟨g, rfl, hg, hr1, hb1⟩
      have H1 := Lib.hid hr1
      have HB1 := Lib.hid hb1
      have HR1 := Lib.hid (HR.out.below hb1)
      clear hr1 hb1 HL
      go_wp2
      go_loopw [6] (fun i wr => ∃ (k : Nat) (c : St), k ≤ L.length ∧ i = .int .i64 k ∧ RN wr g c ∧ c.ops ≤ 201 * k ∧ Below w.heap.size w wr) (fun i _ => L.length - (intOf i).toNat)
      case atStart => exact ⟨0, ldS s, Nat.zero_le _, rfl, H1.out, Nat.le_refl _, HB1.out⟩
      case round =>
        clear H1 HB1 HR1
        obtain ⟨k, c, hk, rfl, hN, hops, hb⟩ := hrel
        have HN := Lib.hid hN
        have HB := Lib.hid hb
        have hok := hN.1
        have hgl := hN.lt
        have hz := hb.size
        have HRr := Lib.hid (HR.out.below hb)
        clear hN hb
        by_cases hlt : k < L.length
        · have hki : (k : Int) < L.length := by omega
          obtain ⟨b, off, x, rfl, ⟨c1, c2, c3, c4⟩, HX⟩ := HRr.out.at_ hlt
          have hxs := HSZ.out k hlt
          have hxn := HNN.out k hlt
          rw [HX.out] at hxs hxn
          obtain ⟨hxn, hxp1, hxp2⟩ := hxn
          have hblt : b < wr.heap.size := World.block_lt_of_cell? wr _ c1
          have HBX := Lib.hid (doS_bits c x)
          have HOX := Lib.hid (doS_ops c x)
          have HDO := Lib.hid (fun W (hW : RN W g c) => do_any g c x W hW (by omega) hxn)
          generalize doS c x = d at HBX HOX HDO
          obtain ⟨c', r, er⟩ := d
          obtain ⟨kd, pl, n, sx⟩ := x
          simp only [acV] at HDO c1 c2 c3 c4 HBX HOX hxs hxn hxp1 hxp2
          have HN1 := Lib.hid (HN.out.alloc (.cells #[.int .i64 kd, .int .i64 pl, .int .i64 n, .string sx] 37))
          have HA1 := Lib.hid (Arr.new wr 37 #[.int .i64 kd, .int .i64 pl, .int .i64 n, .string sx])
          have HB2 := Lib.hid (HB.out.alloc hz (.cells #[.int .i64 kd, .int .i64 pl, .int .i64 n, .string sx] 37))
          clear HX HRr
          obtain ⟨V, hV⟩ : ∃ V : ByteArray, ⟨c.B.toArray⟩ = V := ⟨_, rfl⟩
          obtain ⟨N, hNe⟩ : ∃ N : ByteArray, ⟨c'.B.toArray⟩ = N := ⟨_, rfl⟩
          have hVs : V.size = 24576 := by rw [← hV, arr_size]; exact hok.1
          have HBY := Lib.hid (fun W (hW : RN W g c) => bytes_any g c W hW)
          have HBY2 := Lib.hid (fun W (hW : RN W g c') => bytes_any g c' W hW)
          have HON := Lib.hid (fun W (hW : RN W g c) => on_any g c W hW)
          rw [hV] at HBY
          rw [hNe] at HBY2
          have HNV : Hid (N = V ∨ (N ≠ V ∧ c.on = true ∧ ((kd = 1 ∧ ∃ q : Nat, pl = q ∧ q < 48 ∧ ∀ j (h1 : j < N.size) (h2 : j < V.size), (¬ (q * 512 ≤ j ∧ j < q * 512 + 512) → N[j] = V[j]) ∧ N[j] &&& V[j] = V[j]) ∨
              ((kd = 2 ∨ kd = 3) ∧ ∃ q : Nat, pl = q ∧ q ≤ 24576 ∧ ∀ j (h1 : j < N.size) (h2 : j < V.size), (¬ (q ≤ j ∧ j < q + sx.size) → N[j] = V[j]) ∧ N[j] &&& V[j] = N[j])))) := by
            by_cases e : N = V
            · exact .inl e
            · right
              refine ⟨e, ?_⟩
              obtain ⟨p1, p2⟩ := HBX.out (fun e' => e (by rw [← hV, ← hNe, e']))
              refine ⟨p1, ?_⟩
              subst hV hNe
              rcases p2 with ⟨p3, q, p4, p5, p6⟩ | ⟨p3, q, p4, p5, p6⟩
              · refine .inl ⟨p3, q, p4, p5, fun j h1 h2 => ?_⟩
                have := p6 j (by rw [← arr_size]; exact h2)
                rw [at_arr _ _ h1, at_arr _ _ h2] at this
                exact this
              · refine .inr ⟨p3, q, p4, p5, fun j h1 h2 => ?_⟩
                have := p6 j (by rw [← arr_size]; exact h2)
                rw [at_arr _ _ h1, at_arr _ _ h2] at this
                exact this
          have HNS : Hid (∀ W, RN W g c' → N.size = 24576) := by
            intro W hW
            rw [← hNe, arr_size]; exact hW.1.1
          clear hV hNe HBX
          go_wp2_with fail
          generalize wr.alloc (.cells #[.int .i64 kd, .int .i64 pl, .int .i64 n, .string sx] 37) = W1 at *
          obtain ⟨ha, hha⟩ : ∃ ha, wr.heap.size = ha := ⟨_, rfl⟩
          rw [hha] at HA1
          simp only [hha] at *
          have d1 : W1.cell? ⟨ha, 0, none⟩ = some (.int .i64 kd) := HA1.out.cell 0
          have d2 : W1.cell? ⟨ha, 1, none⟩ = some (.int .i64 pl) := HA1.out.cell 1
          have d3 : W1.cell? ⟨ha, 2, none⟩ = some (.int .i64 n) := HA1.out.cell 2
          have d4 : W1.cell? ⟨ha, 3, none⟩ = some (.string sx) := HA1.out.cell 3
          refine (HBY.out _ HN1.out).mono ?_
          rintro e w2 ⟨rfl, rfl⟩
          go_wp2_with fail
          refine (HON.out _ HN1.out).mono ?_
          rintro e w2 ⟨rfl, rfl⟩
          go_wp2_with fail
          refine (HDO.out _ HN1.out).mono ?_
          rintro e w2 ⟨rfl, hN2, hg2⟩
          have HN2 := Lib.hid hN2
          have HA2 := Lib.hid (HA1.out.grown hg2 (fun e => by injection e with e; omega))
          have HB3 := Lib.hid (below_grown HB2.out hg2 hg HB2.out.size)
          have hNs := HNS.out _ hN2
          clear c1 c2 c3 c4 hblt hgl hz
          clear hN2 hg2 d1 d2 d3 d4 HA1 HN1 HDO HBY HON HNS
          go_wp2_with fail
          refine (HBY2.out _ HN2.out).mono ?_
          rintro e w3 ⟨rfl, rfl⟩
          have d1 : w2.cell? ⟨ha, 0, none⟩ = some (.int .i64 kd) := HA2.out.cell 0
          have hVI : (V.size : Int) = 24576 := by omega
          have hNI : (N.size : Int) = 24576 := by omega
          have hopn : c'.ops ≤ 201 * (k + 1) := by have := HOX.out; omega
          clear HBY2 HOX
          rcases HNV.out with rfl | ⟨hne, hon, hcase⟩
          · clear HNV
            have hcs : (c.on = false) ∨ (c.on = true ∧ decide (kd < 1) = true) ∨ (c.on = true ∧ decide (kd < 1) = false ∧ decide (3 < kd) = true) ∨ (c.on = true ∧ decide (kd < 1) = false ∧ decide (3 < kd) = false) := by
              cases c.on
              · exact .inl rfl
              · by_cases h1 : kd < 1
                · exact .inr (.inl ⟨rfl, decide_eq_true h1⟩)
                · by_cases h3 : 3 < kd
                  · exact .inr (.inr (.inl ⟨rfl, decide_eq_false h1, decide_eq_true h3⟩))
                  · exact .inr (.inr (.inr ⟨rfl, decide_eq_false h1, decide_eq_false h3⟩))
            generalize c.on = on at *
            rcases hcs with rfl | ⟨rfl, q1⟩ | ⟨rfl, q1, q2⟩ | ⟨rfl, q1, q2⟩
            all_goals
              go_wp2
              go_loopw [11] (fun i wq => i = .int .i64 0 ∧ wq = w2) (fun _ _ => 0)
              case atStart => exact ⟨rfl, rfl⟩
              case round =>
                obtain ⟨rfl, rfl⟩ := hrel
                go_wp2
                go_roundw
                case rel => exact ⟨k + 1, c', by omega, by go_num, HN2.out, hopn, HB3.out⟩
                case measure => simp [intOf]; omega
          · clear HNV
            have hsne := str_ne hne
            have hpl2 : w2.cell? ⟨ha, 1, none⟩ = some (.int .i64 pl) := HA2.out.cell 1
            have hps2 : w2.cell? ⟨ha, 3, none⟩ = some (.string sx) := HA2.out.cell 3
            rw [hon]
            clear hon hne
            rcases hcase with ⟨hkd, q, rfl, hq, hbits⟩ | ⟨hkd, q, rfl, hq, hbits⟩
            · have HBT := Lib.hid hbits
              clear hbits
              have hkd1 : (kd == 1) = true := by rw [hkd]; rfl
              have hkd2 : (kd != 1) = false := by rw [hkd]; rfl
              have hkd3 : decide (kd < 1) = false := by rw [hkd]; rfl
              have hkd4 : decide (3 < kd) = false := by rw [hkd]; rfl
              clear hkd
              go_wp2
              go_loopw [11] (fun i wq => ∃ j : Nat, j ≤ 24576 ∧ i = .int .i64 j ∧ Below w2.heap.size w2 wq) (fun i _ => 24576 - (intOf i).toNat)
              case atStart => exact ⟨0, Nat.zero_le _, rfl, Below.refl _ _⟩
              case round =>
                obtain ⟨j, hj, rfl, hbq⟩ := hrel
                have HBQ := Lib.hid hbq
                have HAq := Lib.hid (HA2.out.below hbq HA2.out.lt)
                have z0 : wr.cell? ⟨ha, 0, none⟩ = some (.int .i64 kd) := HAq.out.cell 0
                have z1 : wr.cell? ⟨ha, 1, none⟩ = some (.int .i64 (q : Int)) := HAq.out.cell 1
                have z3 : wr.cell? ⟨ha, 3, none⟩ = some (.string sx) := HAq.out.cell 3
                clear hbq HAq
                by_cases hjl : j < 24576
                · have hj1 : j < N.size := by omega
                  have hj2 : j < V.size := by omega
                  have i1 : (j : Int) < N.size := by omega
                  have i2 : (j : Int) < V.size := by omega
                  have i3 : (j : Int) < 24576 := by omega
                  obtain ⟨t1, t2⟩ := HBT.out j hj1 hj2
                  have T1 := Lib.hid t1
                  have hand : bits .and .u8 (N[j].toNat : Int) (V[j].toNat : Int) = (V[j].toNat : Int) := by rw [b_and, t2]
                  clear t1 t2
                  obtain ⟨jq, hjq⟩ : ∃ jq, j / 512 = jq := ⟨_, rfl⟩
                  have hdiv : (j : Int) / 512 = (jq : Int) := by omega
                  by_cases hin : jq = q
                  · have hb1 : ((jq : Int) == q) = true := by simp; omega
                    clear T1 hin hjq
                    go_wp2
                    go_quiet (fail)
                    have HB5 := Lib.hid (HBQ.out.trans ((below_drewN wr nq).mono HBQ.out.size))
                    go_wp2
                    go_roundw
                    case rel => exact ⟨j + 1, by omega, by go_num, HB5.out⟩
                    case measure => simp [intOf]; omega
                  · have hb1 : ((jq : Int) == q) = false := by simp; omega
                    have hb2 := bne_no (T1.out (by omega))
                    clear T1 hin hjq
                    go_wp2
                    go_quiet (fail)
                    have HB5 := Lib.hid (HBQ.out.trans ((below_drewN wr nq).mono HBQ.out.size))
                    go_wp2
                    go_roundw
                    case rel => exact ⟨j + 1, by omega, by go_num, HB5.out⟩
                    case measure => simp [intOf]; omega
                · obtain rfl : j = 24576 := by omega
                  have HN4 := Lib.hid (HN2.out.below HBQ.out HN2.out.lt)
                  have HB4 := Lib.hid (HB3.out.trans (HBQ.out.mono HB3.out.size))
                  go_wp2
                  go_roundw
                  case rel => exact ⟨k + 1, c', by omega, by go_num, HN4.out, hopn, HB4.out⟩
                  case measure => simp [intOf]; omega
            · have HBT := Lib.hid hbits
              clear hbits
              have hkd1 : (kd == 1) = false := by rcases hkd with rfl | rfl <;> rfl
              have hkd2 : (kd != 1) = true := by rcases hkd with rfl | rfl <;> rfl
              have hkd3 : decide (kd < 1) = false := by rcases hkd with rfl | rfl <;> rfl
              have hkd4 : decide (3 < kd) = false := by rcases hkd with rfl | rfl <;> rfl
              clear hkd
              go_wp2
              go_loopw [11] (fun i wq => ∃ j : Nat, j ≤ 24576 ∧ i = .int .i64 j ∧ Below w2.heap.size w2 wq) (fun i _ => 24576 - (intOf i).toNat)
              case atStart => exact ⟨0, Nat.zero_le _, rfl, Below.refl _ _⟩
              case round =>
                obtain ⟨j, hj, rfl, hbq⟩ := hrel
                have HBQ := Lib.hid hbq
                have HAq := Lib.hid (HA2.out.below hbq HA2.out.lt)
                have z0 : wr.cell? ⟨ha, 0, none⟩ = some (.int .i64 kd) := HAq.out.cell 0
                have z1 : wr.cell? ⟨ha, 1, none⟩ = some (.int .i64 (q : Int)) := HAq.out.cell 1
                have z3 : wr.cell? ⟨ha, 3, none⟩ = some (.string sx) := HAq.out.cell 3
                clear hbq HAq
                by_cases hjl : j < 24576
                · have hj1 : j < N.size := by omega
                  have hj2 : j < V.size := by omega
                  have i1 : (j : Int) < N.size := by omega
                  have i2 : (j : Int) < V.size := by omega
                  have i3 : (j : Int) < 24576 := by omega
                  obtain ⟨t1, t2⟩ := HBT.out j hj1 hj2
                  have T1 := Lib.hid t1
                  have hand : bits .and .u8 (N[j].toNat : Int) (V[j].toNat : Int) = (N[j].toNat : Int) := by rw [b_and, t2]
                  clear t1 t2
                  by_cases hge : q ≤ j
                  · have hd1 : decide ((q : Int) ≤ j) = true := decide_eq_true (by omega)
                    by_cases hin : j < q + sx.size
                    · have hd2 : decide ((j : Int) - q < sx.size) = true := decide_eq_true (by omega)
                      clear T1 hin
                      go_wp2
                      go_quiet (fail)
                      have HB5 := Lib.hid (HBQ.out.trans ((below_drewN wr nq).mono HBQ.out.size))
                      go_wp2
                      go_roundw
                      case rel => exact ⟨j + 1, by omega, by go_num, HB5.out⟩
                      case measure => simp [intOf]; omega
                    · have hd2 : decide ((j : Int) - q < sx.size) = false := decide_eq_false (by omega)
                      have hb2 := bne_no (T1.out (by omega))
                      clear T1 hin
                      go_wp2
                      go_quiet (fail)
                      have HB5 := Lib.hid (HBQ.out.trans ((below_drewN wr nq).mono HBQ.out.size))
                      go_wp2
                      go_roundw
                      case rel => exact ⟨j + 1, by omega, by go_num, HB5.out⟩
                      case measure => simp [intOf]; omega
                  · have hd1 : decide ((q : Int) ≤ j) = false := decide_eq_false (by omega)
                    have hb2 := bne_no (T1.out (by omega))
                    clear T1
                    go_wp2
                    go_quiet (fail)
                    have HB5 := Lib.hid (HBQ.out.trans ((below_drewN wr nq).mono HBQ.out.size))
                    go_wp2
                    go_roundw
                    case rel => exact ⟨j + 1, by omega, by go_num, HB5.out⟩
                    case measure => simp [intOf]; omega
                · obtain rfl : j = 24576 := by omega
                  have HN4 := Lib.hid (HN2.out.below HBQ.out HN2.out.lt)
                  have HB4 := Lib.hid (HB3.out.trans (HBQ.out.mono HB3.out.size))
                  go_wp2
                  go_roundw
                  case rel => exact ⟨k + 1, c', by omega, by go_num, HN4.out, hopn, HB4.out⟩
                  case measure => simp [intOf]; omega
        · go_wp2_with fail
          refine (HAW.out _).mono ?_
          rintro e w1 ⟨rfl, hb⟩
          have HB2 := Lib.hid (HB.out.trans (hb.mono hz))
          clear hb
          go_wp2
          go_ret
          exact ⟨rfl, HB2.out⟩
end Go.Proofs.Ytegbkanfdodpcaa
