/- The walk of EditIs. Conditions: the contracts of package edit; a tree in memory, strings of Go's lengths. -/
import Derived.Test.YtfcclppgjfkfoaaDoorMg29
import Derived.Test.YtfcclppgjfkfoaaDoorMg30
namespace Go.Proofs.YtfcclppgjfkfoaaDoor
open Go.RowKit

theorem eqTk (x : TK) (W : World) : (Op.equalIn 10000 36 (tkV x) (tkV x)).run Tryd.prog W = .ok true W := by
  have u3 := Tryd.underlying3
  have a3 := Tryd.isAgg3
  have z3 := Tryd.sizeOf3
  have u9 := Tryd.underlying9
  have a9 := Tryd.isAgg9
  have z9 := Tryd.sizeOf9
  have hS : Tryd.prog.underlying 36 = some (.struct (Tryd.prog.fieldsOf 36)) := by kernel_rfl
  have hp : Tryd.prog.stoodInHeld 36 = false := by kernel_rfl
  unfold tkV
  rw [show (10000 : Nat) = 9999 + 1 from rfl, run_equalIn_agg W 9999 36 _ _ hS hp]
  simp only [Program.fieldsOf, Tryd.underlying36]
  go_simp

set_option maxHeartbeats 3200000 in
set_option maxRecDepth 100000 in
theorem editIs_any (M : EditMust) (n : ND) (y z : Value) (p : ByteArray) (c : CH) (w : World) (hN : NdAt w (fun k => k < w.heap.size) n y z) (hp : p.size ≤ maxLen) (h1 : c.nm.size ≤ maxLen) (h2 : c.vl.size ≤ maxLen) :
    Calls Tryd.prog 3 #[.agg #[.string n.nm, y, z], .string p, .agg #[.int .i64 c.kd, .string c.nm, .string c.vl]] w fun e w' => e = .returned (.bool true) ∧ Below w.heap.size w w' := by
  have HAW := Lib.hid (awake17 M)
  obtain ⟨A2, K, pc, kc, rfl, rfl, hpc, hpm, hkc, hkm⟩ := nd_shape hN
  have HFW := Lib.hid (fun W => few_any17 c W h1 h2)
  obtain ⟨kd, cn, cv⟩ := c
  simp only at h1 h2 HFW
  unfold maxLen at hp h1 h2
  obtain ⟨W1, hW1⟩ : ∃ W1, W1 = (w.alloc (.cells #[.string n.nm, .slice A2 n.ps.length pc, .slice K n.ks.length kc] 25)).alloc (.cells #[.int .i64 kd, .string cn, .string cv] 27) := ⟨_, rfl⟩
  obtain ⟨g3, hg3⟩ : ∃ g3, g3 = w.heap.size := ⟨_, rfl⟩
  obtain ⟨g5, hg5⟩ : ∃ g5, g5 = w.heap.size + 1 := ⟨_, rfl⟩
  have hB1 : Below w.heap.size w W1 := by rw [hW1]; exact ((Below.refl _ _).alloc (Nat.le_refl _) _).alloc (by rw [sz_alloc]; omega) _
  have hA3 : Arr W1 g3 25 #[.string n.nm, .slice A2 n.ps.length pc, .slice K n.ks.length kc] := by rw [hW1, hg3]; exact (Arr.new w _ _).alloc _
  have hA5 : Arr W1 g5 27 #[.int .i64 kd, .string cn, .string cv] := by rw [hW1, hg5]; exact Arr.new1 w _ _ _
  have HN := Lib.hid (nd_below hN hB1)
  have HLO := Lib.hid (rLow_any _ n _ _ W1 HN.out)
  have HB := Lib.hid hB1
  have HA3 := Lib.hid hA3
  have HA5 := Lib.hid hA5
  obtain ⟨c30, c31, c32⟩ : W1.cell? ⟨g3, 0, none⟩ = some (.string n.nm) ∧ W1.cell? ⟨g3, 1, none⟩ = some (.slice A2 n.ps.length pc) ∧ W1.cell? ⟨g3, 2, none⟩ = some (.slice K n.ks.length kc) := ⟨hA3.cell 0, hA3.cell 1, hA3.cell 2⟩
  clear hN hB1 hA3 hA5 hpc hkc
  cases hl : LowR n with
  | false =>
    rw [hl] at HLO
    clear hl M
    go_enter Tryd.func3, Tryd.ntmps3
    go_upto_region 1 with fail
    change Code.wp _ _ _ _ ((w.alloc (.cells #[.string n.nm, .slice A2 n.ps.length pc, .slice K n.ks.length kc] 25)).alloc (.cells #[.int .i64 kd, .string cn, .string cv] 27))
    rw [← hW1, ← hg5, ← hg3]
    clear hW1 hg5 hg3
    go_wp2_with fail
    refine HLO.out.mono ?_
    rintro e w2 ⟨rfl, hb⟩
    have HA3 := Lib.hid (HA3.out.below hb HA3.out.lt)
    have HA5 := Lib.hid (HA5.out.below hb HA5.out.lt)
    have HN := Lib.hid (nd_below HN.out hb)
    have HB := Lib.hid (HB.out.trans (hb.mono HB.out.size))
    clear hb
    clear c30 c31 c32 HA3 HA5 HN HLO
    go_wp2_with fail
    refine (HAW.out _).mono ?_
    rintro e w9 ⟨rfl, hb⟩
    have HB := Lib.hid (HB.out.trans (hb.mono HB.out.size))
    clear hb
    go_wp2
    go_ret
    exact ⟨rfl, HB.out⟩
  | true =>
    rw [hl] at HLO
    by_cases h200 : 200 < p.size
    · have d1 : decide ((200 : Int) < (p.size : Int)) = true := decide_eq_true (by omega)
      clear hl M h200
      go_enter Tryd.func3, Tryd.ntmps3
      go_upto_region 1 with fail
      change Code.wp _ _ _ _ ((w.alloc (.cells #[.string n.nm, .slice A2 n.ps.length pc, .slice K n.ks.length kc] 25)).alloc (.cells #[.int .i64 kd, .string cn, .string cv] 27))
      rw [← hW1, ← hg5, ← hg3]
      clear hW1 hg5 hg3
      go_wp2_with fail
      refine HLO.out.mono ?_
      rintro e w2 ⟨rfl, hb⟩
      have HA3 := Lib.hid (HA3.out.below hb HA3.out.lt)
      have HA5 := Lib.hid (HA5.out.below hb HA5.out.lt)
      have HN := Lib.hid (nd_below HN.out hb)
      have HB := Lib.hid (HB.out.trans (hb.mono HB.out.size))
      clear hb
      clear c30 c31 c32 HA3 HA5 HN HLO
      go_wp2_with fail
      refine (HAW.out _).mono ?_
      rintro e w9 ⟨rfl, hb⟩
      have HB := Lib.hid (HB.out.trans (hb.mono HB.out.size))
      clear hb
      go_wp2
      go_ret
      exact ⟨rfl, HB.out⟩
    · have d1 : decide ((200 : Int) < (p.size : Int)) = false := decide_eq_false (by omega)
      have hp200 : p.size ≤ 200 := by omega
      cases hf : (decide (cn.size ≤ 100) && decide (cv.size ≤ 300)) with
      | false =>
        rw [hf] at HFW
        clear hl M h200 hf
        go_enter Tryd.func3, Tryd.ntmps3
        go_upto_region 1 with fail
        change Code.wp _ _ _ _ ((w.alloc (.cells #[.string n.nm, .slice A2 n.ps.length pc, .slice K n.ks.length kc] 25)).alloc (.cells #[.int .i64 kd, .string cn, .string cv] 27))
        rw [← hW1, ← hg5, ← hg3]
        clear hW1 hg5 hg3
        go_wp2_with fail
        refine HLO.out.mono ?_
        rintro e w2 ⟨rfl, hb⟩
        have HA3 := Lib.hid (HA3.out.below hb HA3.out.lt)
        have HA5 := Lib.hid (HA5.out.below hb HA5.out.lt)
        have HN := Lib.hid (nd_below HN.out hb)
        have HB := Lib.hid (HB.out.trans (hb.mono HB.out.size))
        clear hb
        obtain ⟨c50, c51, c52⟩ : w2.cell? ⟨g5, 0, none⟩ = some (.int .i64 kd) ∧ w2.cell? ⟨g5, 1, none⟩ = some (.string cn) ∧ w2.cell? ⟨g5, 2, none⟩ = some (.string cv) := ⟨HA5.out.cell 0, HA5.out.cell 1, HA5.out.cell 2⟩
        go_wp2_with fail
        refine (HFW.out _).mono ?_
        rintro e w3 ⟨rfl, hb⟩
        have HA3 := Lib.hid (HA3.out.below hb HA3.out.lt)
        have HA5 := Lib.hid (HA5.out.below hb HA5.out.lt)
        have HN := Lib.hid (nd_below HN.out hb)
        have HB := Lib.hid (HB.out.trans (hb.mono HB.out.size))
        clear hb c50 c51 c52
        clear c30 c31 c32 HA3 HA5 HN HLO HFW
        go_wp2_with fail
        refine (HAW.out _).mono ?_
        rintro e w9 ⟨rfl, hb⟩
        have HB := Lib.hid (HB.out.trans (hb.mono HB.out.size))
        clear hb
        go_wp2
        go_ret
        exact ⟨rfl, HB.out⟩
      | true =>
        rw [hf] at HFW
        rw [Bool.and_eq_true] at hf
        have hcn := of_decide_eq_true hf.1
        have hcv := of_decide_eq_true hf.2
        have HDO := Lib.hid (fun (G : Nat → Prop) W (h : NdAt W G n (.slice A2 n.ps.length pc) (.slice K n.ks.length kc)) => do_any17 M G n _ _ p ⟨kd, cn, cv⟩ W hl (by omega) (by show cn.size ≤ _; omega) (by show cv.size ≤ _; omega) h)
        have HWA := Lib.hid (fun (G : Nat → Prop) W (h : NdAt W G n (.slice A2 n.ps.length pc) (.slice K n.ks.length kc)) => wants_any17 G n _ _ p ⟨kd, cn, cv⟩ W hl (by omega) (by show cn.size ≤ _; omega) (by show cv.size ≤ _; omega) h)
        have HTK := Lib.hid (fun (G : Nat → Prop) W (h : NdAt W G n (.slice A2 n.ps.length pc) (.slice K n.ks.length kc)) => rTokens_any G n _ _ W (by have := (sz_count (sz_of_low hl)).2.2.2; omega) h)
        have hTL := (sz_count (sz_of_low hl)).2.2.2
        generalize editR n p.data.toList ⟨kd, cn, cv⟩ = T at *
        generalize tokR 8 n = TL at *
        clear hl M h200 hf hcn hcv
        go_enter Tryd.func3, Tryd.ntmps3
        go_upto_region 1 with fail
        change Code.wp _ _ _ _ ((w.alloc (.cells #[.string n.nm, .slice A2 n.ps.length pc, .slice K n.ks.length kc] 25)).alloc (.cells #[.int .i64 kd, .string cn, .string cv] 27))
        rw [← hW1, ← hg5, ← hg3]
        clear hW1 hg5 hg3
        go_wp2_with fail
        refine HLO.out.mono ?_
        rintro e w2 ⟨rfl, hb⟩
        have HA3 := Lib.hid (HA3.out.below hb HA3.out.lt)
        have HA5 := Lib.hid (HA5.out.below hb HA5.out.lt)
        have HN := Lib.hid (nd_below HN.out hb)
        have HB := Lib.hid (HB.out.trans (hb.mono HB.out.size))
        clear hb
        obtain ⟨c50, c51, c52⟩ : w2.cell? ⟨g5, 0, none⟩ = some (.int .i64 kd) ∧ w2.cell? ⟨g5, 1, none⟩ = some (.string cn) ∧ w2.cell? ⟨g5, 2, none⟩ = some (.string cv) := ⟨HA5.out.cell 0, HA5.out.cell 1, HA5.out.cell 2⟩
        go_wp2_with fail
        refine (HFW.out _).mono ?_
        rintro e w3 ⟨rfl, hb⟩
        have HA3 := Lib.hid (HA3.out.below hb HA3.out.lt)
        have HA5 := Lib.hid (HA5.out.below hb HA5.out.lt)
        have HN := Lib.hid (nd_below HN.out hb)
        have HB := Lib.hid (HB.out.trans (hb.mono HB.out.size))
        clear hb c50 c51 c52
        clear HLO HFW
        obtain ⟨c30, c31, c32⟩ : w3.cell? ⟨g3, 0, none⟩ = some (.string n.nm) ∧ w3.cell? ⟨g3, 1, none⟩ = some (.slice A2 n.ps.length pc) ∧ w3.cell? ⟨g3, 2, none⟩ = some (.slice K n.ks.length kc) := ⟨HA3.out.cell 0, HA3.out.cell 1, HA3.out.cell 2⟩
        go_wp2_with fail
        refine (HTK.out _ _ HN.out).mono ?_
        rintro e w4 ⟨tv, rfl, ho, hb⟩
        obtain ⟨A7, cap7, rfl, hr7⟩ := row_rdTk ho
        have HR7 := Lib.hid hr7
        have HA3 := Lib.hid (HA3.out.below hb HA3.out.lt)
        have HA5 := Lib.hid (HA5.out.below hb HA5.out.lt)
        have HN := Lib.hid (nd_below HN.out hb)
        have HB := Lib.hid (HB.out.trans (hb.mono HB.out.size))
        clear hb ho hr7 c30 c31 c32
        obtain ⟨c30, c31, c32⟩ : w4.cell? ⟨g3, 0, none⟩ = some (.string n.nm) ∧ w4.cell? ⟨g3, 1, none⟩ = some (.slice A2 n.ps.length pc) ∧ w4.cell? ⟨g3, 2, none⟩ = some (.slice K n.ks.length kc) := ⟨HA3.out.cell 0, HA3.out.cell 1, HA3.out.cell 2⟩
        obtain ⟨c50, c51, c52⟩ : w4.cell? ⟨g5, 0, none⟩ = some (.int .i64 kd) ∧ w4.cell? ⟨g5, 1, none⟩ = some (.string cn) ∧ w4.cell? ⟨g5, 2, none⟩ = some (.string cv) := ⟨HA5.out.cell 0, HA5.out.cell 1, HA5.out.cell 2⟩
        go_wp2_with fail
        refine (HDO.out _ _ HN.out).mono ?_
        rintro e w5 ⟨u2, u3, rfl, hk, hb⟩
        obtain ⟨ua, ub, uc, ud, rfl, rfl, _⟩ := nd_shape hk
        have hbn : Below w5.heap.size w5 (w5.alloc (.cells #[.string T.1.nm, .slice ua T.1.ps.length uc, .slice ub T.1.ks.length ud] 25)) := (Below.refl _ _).alloc (Nat.le_refl _) _
        have hb := hb.trans (hbn.mono hb.size)
        have HNA := Lib.hid (nd_below hk hbn)
        have HAA := Lib.hid (Arr.new w5 25 #[.string T.1.nm, .slice ua T.1.ps.length uc, .slice ub T.1.ks.length ud])
        have HR7 := Lib.hid (HR7.out.below hb)
        have HA3 := Lib.hid (HA3.out.below hb HA3.out.lt)
        have HA5 := Lib.hid (HA5.out.below hb HA5.out.lt)
        have HN := Lib.hid (nd_below HN.out hb)
        have HB := Lib.hid (HB.out.trans (hb.mono HB.out.size))
        clear hb hbn hk c30 c31 c32 c50 c51 c52 HDO
        go_upto_region 5 with fail
        generalize w5.alloc (.cells #[.string T.1.nm, .slice ua T.1.ps.length uc, .slice ub T.1.ks.length ud] 25) = W5 at *
        generalize w5.heap.size = gA at *
        obtain ⟨c30, c31, c32⟩ : W5.cell? ⟨g3, 0, none⟩ = some (.string n.nm) ∧ W5.cell? ⟨g3, 1, none⟩ = some (.slice A2 n.ps.length pc) ∧ W5.cell? ⟨g3, 2, none⟩ = some (.slice K n.ks.length kc) := ⟨HA3.out.cell 0, HA3.out.cell 1, HA3.out.cell 2⟩
        obtain ⟨c50, c51, c52⟩ : W5.cell? ⟨g5, 0, none⟩ = some (.int .i64 kd) ∧ W5.cell? ⟨g5, 1, none⟩ = some (.string cn) ∧ W5.cell? ⟨g5, 2, none⟩ = some (.string cv) := ⟨HA5.out.cell 0, HA5.out.cell 1, HA5.out.cell 2⟩
        go_wp2_with fail
        refine (HWA.out _ _ HN.out).mono ?_
        rintro e w6 ⟨u2, u3, rfl, hk, hb⟩
        obtain ⟨xa, xb, xc, xd, rfl, rfl, _⟩ := nd_shape hk
        have hbn : Below w6.heap.size w6 (w6.alloc (.cells #[.string T.1.nm, .slice xa T.1.ps.length xc, .slice xb T.1.ks.length xd] 25)) := (Below.refl _ _).alloc (Nat.le_refl _) _
        have hb := hb.trans (hbn.mono hb.size)
        have HNB := Lib.hid (nd_below hk hbn)
        have HAB := Lib.hid (Arr.new w6 25 #[.string T.1.nm, .slice xa T.1.ps.length xc, .slice xb T.1.ks.length xd])
        have HR7 := Lib.hid (HR7.out.below hb)
        have HNA := Lib.hid (nd_below HNA.out hb)
        have HAA := Lib.hid (HAA.out.below hb HAA.out.lt)
        have HA3 := Lib.hid (HA3.out.below hb HA3.out.lt)
        have HA5 := Lib.hid (HA5.out.below hb HA5.out.lt)
        have HN := Lib.hid (nd_below HN.out hb)
        have HB := Lib.hid (HB.out.trans (hb.mono HB.out.size))
        clear hb hbn hk c30 c31 c32 c50 c51 c52 HWA HA5
        go_upto_region 6 with fail
        generalize w6.alloc (.cells #[.string T.1.nm, .slice xa T.1.ps.length xc, .slice xb T.1.ks.length xd] 25) = W6 at *
        generalize w6.heap.size = gB at *
        obtain ⟨c30, c31, c32⟩ : W6.cell? ⟨g3, 0, none⟩ = some (.string n.nm) ∧ W6.cell? ⟨g3, 1, none⟩ = some (.slice A2 n.ps.length pc) ∧ W6.cell? ⟨g3, 2, none⟩ = some (.slice K n.ks.length kc) := ⟨HA3.out.cell 0, HA3.out.cell 1, HA3.out.cell 2⟩
        go_wp2_with fail
        refine (HTK.out _ _ HN.out).mono ?_
        rintro e w7 ⟨tv, rfl, ho, hb⟩
        obtain ⟨A12, cap12, rfl, hr12⟩ := row_rdTk ho
        have HR12 := Lib.hid hr12
        have HR7 := Lib.hid (HR7.out.below hb)
        have HNA := Lib.hid (nd_below HNA.out hb)
        have HAA := Lib.hid (HAA.out.below hb HAA.out.lt)
        have HNB := Lib.hid (nd_below HNB.out hb)
        have HAB := Lib.hid (HAB.out.below hb HAB.out.lt)
        have HB := Lib.hid (HB.out.trans (hb.mono HB.out.size))
        clear hb ho hr12 c30 c31 c32 HA3 HN HTK
        have d7 : ((TL.length : Int) != (TL.length : Int)) = false := by simp
        go_wp2
        clear d7
        go_loopw [13] (fun iv wr => ∃ i : Nat, i ≤ TL.length ∧ iv = .int .i64 i ∧ Below w7.heap.size w7 wr) (fun iv _ => TL.length - (intOf iv).toNat)
        case atStart => exact ⟨0, Nat.zero_le _, rfl, Below.refl _ _⟩
        case round =>
          obtain ⟨i, hi, rfl, hb⟩ := hrel
          have HBR := Lib.hid hb
          clear hb
          by_cases hlt : i < TL.length
          · have hii : (i : Int) < TL.length := by omega
            have hi0 : (0 : Int) ≤ i := by omega
            obtain ⟨b7, o7, x, rfl, ⟨s0, s1, s2⟩, HX⟩ := (HR7.out.below HBR.out).at_ hlt
            obtain ⟨b8, o8, x2, rfl, ⟨r0, r1, r2⟩, HX2⟩ := (HR12.out.below HBR.out).at_ hlt
            obtain rfl : x = x2 := HX.out.symm.trans HX2.out
            obtain ⟨kx, nx, vx⟩ := x
            simp only at s0 s1 s2 r0 r1 r2
            have he := fun W => eqTk ⟨kx, nx, vx⟩ W
            simp only [tkV] at he
            clear HX HX2 HR7 HR12
            go_wp2
            go_quiet (fail)
            have HBQ : Hid (Below w7.heap.size w7 (wr.drewN nq)) := HBR.out.trans ((below_drewN _ _).mono HBR.out.size)
            go_wp2
            go_roundw
            case rel => exact ⟨i + 1, by omega, by go_num, HBQ.out⟩
            case measure => simp [intOf]; omega
          · obtain rfl : i = TL.length := by omega
            have hb := HBR.out
            have HNA := Lib.hid (nd_below HNA.out hb)
            have HNB := Lib.hid (nd_below HNB.out hb)
            have HAA := Lib.hid (HAA.out.below hb HAA.out.lt)
            have HAB := Lib.hid (HAB.out.below hb HAB.out.lt)
            have HB := Lib.hid (HB.out.trans (hb.mono HB.out.size))
            have HSA := Lib.hid (rSame_any _ _ T.1 T.1 _ _ _ _ wr HNA.out HNB.out)
            rw [sameR_refl] at HSA
            obtain ⟨a0, a1, a2⟩ : wr.cell? ⟨gA, 0, none⟩ = some (.string T.1.nm) ∧ wr.cell? ⟨gA, 1, none⟩ = some (.slice ua T.1.ps.length uc) ∧ wr.cell? ⟨gA, 2, none⟩ = some (.slice ub T.1.ks.length ud) := ⟨HAA.out.cell 0, HAA.out.cell 1, HAA.out.cell 2⟩
            obtain ⟨b0, b1, b2⟩ : wr.cell? ⟨gB, 0, none⟩ = some (.string T.1.nm) ∧ wr.cell? ⟨gB, 1, none⟩ = some (.slice xa T.1.ps.length xc) ∧ wr.cell? ⟨gB, 2, none⟩ = some (.slice xb T.1.ks.length xd) := ⟨HAB.out.cell 0, HAB.out.cell 1, HAB.out.cell 2⟩
            have de : (((T.2 : Nat) : Int) == ((T.2 : Nat) : Int)) = true := by simp
            clear hb HR7 HR12 HNA HNB HAA HAB
            go_wp2_with fail
            refine HSA.out.mono ?_
            rintro e w8 ⟨rfl, hb⟩
            have HB := Lib.hid (HB.out.trans (hb.mono HB.out.size))
            clear hb HSA a0 a1 a2 b0 b1 b2
            go_wp2_with fail
            refine (HAW.out _).mono ?_
            rintro e w9 ⟨rfl, hb⟩
            have HB := Lib.hid (HB.out.trans (hb.mono HB.out.size))
            clear hb
            go_wp2
            go_ret
            exact ⟨rfl, HB.out⟩
end Go.Proofs.YtfcclppgjfkfoaaDoor
