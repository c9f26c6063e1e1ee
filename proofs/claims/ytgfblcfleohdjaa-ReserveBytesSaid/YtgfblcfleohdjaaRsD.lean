/- What the document's Free of layer 18 returns. Condition: fewer than 2^40 spans. -/
import Derived.Test.YtgfblcfleohdjaaRsC
namespace Go.Proofs.Ytgfblcfleohdjaa
open Go.RowKit

/-- A bound of what is joined. -/
theorem join_few : ∀ {l J : List SP}, JoinOk l J → ∀ x ∈ J, x.p + x.n ≤ 8589934590 := fun h x hx => (join_in h x hx).2.2

set_option maxHeartbeats 6400000 in
set_option maxRecDepth 100000 in
theorem rfree18_any (A : Option Addr) (cap : Nat) (l : List SP) (w : World) (hr : RdSp w A l) (hl : l.length ≤ 1099511627776) :
    Calls Try.prog 16 #[.slice A l.length cap] w fun e w' => ∃ B c F, e = .returned (.slice B F.length c) ∧ RdSp w' B F ∧ FreeOk l F ∧ Below w.heap.size w w' := by
  have HJN := Lib.hid (rjoin18_any A cap l w hr hl)
  have HEL := Lib.hid elemSpD
  clear hr
  go_enter Try.func16, Try.ntmps16
  go_wp2_with fail
  refine HJN.out.mono ?_
  rintro e w1 ⟨B, cj, J, rfl, hrd, hjo, hb, hjl⟩
  have HR := Lib.hid hrd
  have HJO := Lib.hid hjo
  have HB := Lib.hid hb
  have HIN := Lib.hid (join_in hjo)
  have HJL : Hid (J.length ≤ 1099511627776) := Nat.le_trans hjl hl
  have HF0 := Lib.hid (finv_start J)
  clear hrd hb HJN hjl
  go_wp2
  go_loopw [3, 4, 6] (fun ov cv iv wr => ∃ (i : Nat) (c : Int) (O : List SP), i ≤ J.length ∧ iv = .int .i64 i ∧ cv = .int .i64 c ∧ Hid (FInv J O i c) ∧ wr.ownsRow w1.heap.size 24 2 ov O.length (spD O) ∧ Below w1.heap.size w1 wr) (fun _ _ iv _ => J.length - (intOf iv).toNat)
  case atStart => exact ⟨0, 4096, [], Nat.zero_le _, rfl, rfl, HF0.out, World.ownsRow_nil _ _ _ _, Below.refl _ _⟩
  case round =>
    obtain ⟨i, c, O, hi, rfl, rfl, HI, hown, hb⟩ := hrel
    have HOWN := Lib.hid hown
    have HB1 := Lib.hid hb
    have hc1 := HI.out.low
    have hc2 := HI.out.big
    have hjl := HJL.out
    have hol : O.length ≤ 1099511627776 := by have := HI.out.few; omega
    have HSZ := Lib.hid hb.size
    clear hown HF0
    by_cases hlt : i < J.length
    · have hii : (i : Int) < J.length := by omega
      have hi0 : (0 : Int) ≤ (i : Int) := by omega
      obtain ⟨b, off, y, rfl, ⟨h1, h2⟩, HX⟩ := (HR.out.below hb).at_ hlt
      have hy := HIN.out _ (spMem hlt)
      have hst := finv_step hjo.1 (join_few hjo) HI.out hlt
      rw [HX.out] at hst hy
      have hmx : max c (y.p + y.n) = if c < y.p + y.n then y.p + y.n else c := by split <;> omega
      rw [hmx] at hst
      obtain ⟨y1, y2, y3⟩ := hy
      have hw1 : IntKind.i64.wrap (y.p + y.n) = y.p + y.n := IntWalk.i64_in _ (by omega)
      have HB0 : Hid (b < w1.heap.size) := by
        rcases HR.out with h | ⟨b', off', e, hc⟩
        · rw [h] at hlt; exact absurd hlt (Nat.not_lt_zero _)
        · injection e with e
          injection e with e1 e2 _
          subst e1 e2
          exact World.block_lt_of_cell? _ _ (hc i hlt).1
      obtain ⟨A9, c9, rfl, hc9⟩ := slice_ofN HOWN.out
      clear HX HI hb
      by_cases q1 : c < y.p
      · have d1 : decide (c < y.p) = true := decide_eq_true q1
        by_cases q2 : c < 65536
        · have d2 : decide (c < 65536) = true := decide_eq_true q2
          rw [if_pos ⟨q1, q2⟩] at hst
          have HKP : Hid (∀ W, Below w1.heap.size wr W → W.cell? ⟨b, off + i * 2, none⟩ = some (.int .i64 y.p) ∧ W.cell? ⟨b, off + i * 2 + 1, none⟩ = some (.int .i64 y.n)) := fun W hW => by
            have e : ∀ j, W.cell? ⟨b, j, none⟩ = wr.cell? ⟨b, j, none⟩ := fun j => World.cell?_of_block (a := ⟨b, j, none⟩) (hW.block b HB0.out)
            exact ⟨(e _).trans h1, (e _).trans h2⟩
          by_cases q3 : y.p ≤ 65536
          · skip
            have hm : min y.p 65536 = y.p := by omega
            have hw2 : IntKind.i64.wrap (y.p - c) = y.p - c := IntWalk.i64_in _ (by omega)
            rw [hm] at hst
            have HO2 : Hid (∀ (v : Value) (w' : World), w'.ownsRow w1.heap.size 24 2 v (O.length + 1) (spD O ++ [.int .i64 c, .int .i64 (y.p - c)]) → w'.ownsRow w1.heap.size 24 2 v (O ++ [(⟨c, y.p - c⟩ : SP)]).length (spD (O ++ [(⟨c, y.p - c⟩ : SP)]))) := fun v w' h => by
              rw [spD_app, List.length_append]; exact h
            generalize O ++ [(⟨c, y.p - c⟩ : SP)] = O2 at *
            have HST := Lib.hid hst
            have HONE : Hid (∀ u ∈ (#[.int .i64 c, .int .i64 (y.p - c)] : Array Value).toList, u.oneCell' = true) := fun u hu => spD_cells [⟨c, y.p - c⟩] u hu
            clear hst hmx hm
            go_upto_region 9 with (at_builtin; refine append_newB rfl (.tmp 26) (.tmp 37) 22 rfl 24 2 16 HEL w1.heap.size (.slice A9 O.length c9) O.length (spD O) rfl HOWN.out #[.int .i64 c, .int .i64 (y.p - c)] rfl HONE.out wr.heap.size rfl rfl (by unfold maxLen; omega) (by omega) HSZ.out ?_; intro v5 w5 ho5 hm5; have HO5 := Lib.hid (HO2.out v5 w5 ho5); have HM5 : Hid (Below w1.heap.size w1 w5) := (HB1.out.alloc HSZ.out _).grown hm5 (by rw [sz_alloc]; have := HSZ.out; omega) (fun g hg => (HOWN.out.lt g hg).1); have HM5w : Hid (Below w1.heap.size wr w5) := ((Below.refl _ _).alloc HSZ.out _).grown hm5 (by rw [sz_alloc]; have := HSZ.out; omega) (fun g hg => (HOWN.out.lt g hg).1); clear ho5 hm5)
            obtain ⟨h1, h2⟩ := HKP.out w5 HM5w.out
            go_quiet (fail)
            go_wp2
            go_roundw
            case rel => exact ⟨i + 1, _, O2, by omega, by go_num, rfl, HST.out, HO5.out, HM5.out.trans ((below_drewN _ _).mono HM5.out.size)⟩
            case measure => simp [intOf]; omega
          · have q4 : 65536 < y.p := by omega
            have hm : min y.p 65536 = 65536 := by omega
            have hw2 : IntKind.i64.wrap (65536 - c) = 65536 - c := IntWalk.i64_in _ (by omega)
            rw [hm] at hst
            have HO2 : Hid (∀ (v : Value) (w' : World), w'.ownsRow w1.heap.size 24 2 v (O.length + 1) (spD O ++ [.int .i64 c, .int .i64 (65536 - c)]) → w'.ownsRow w1.heap.size 24 2 v (O ++ [(⟨c, 65536 - c⟩ : SP)]).length (spD (O ++ [(⟨c, 65536 - c⟩ : SP)]))) := fun v w' h => by
              rw [spD_app, List.length_append]; exact h
            generalize O ++ [(⟨c, 65536 - c⟩ : SP)] = O2 at *
            have HST := Lib.hid hst
            have HONE : Hid (∀ u ∈ (#[.int .i64 c, .int .i64 (65536 - c)] : Array Value).toList, u.oneCell' = true) := fun u hu => spD_cells [⟨c, 65536 - c⟩] u hu
            clear hst hmx hm
            go_upto_region 9 with (at_builtin; refine append_newB rfl (.tmp 26) (.tmp 37) 22 rfl 24 2 16 HEL w1.heap.size (.slice A9 O.length c9) O.length (spD O) rfl HOWN.out #[.int .i64 c, .int .i64 (65536 - c)] rfl HONE.out wr.heap.size rfl rfl (by unfold maxLen; omega) (by omega) HSZ.out ?_; intro v5 w5 ho5 hm5; have HO5 := Lib.hid (HO2.out v5 w5 ho5); have HM5 : Hid (Below w1.heap.size w1 w5) := (HB1.out.alloc HSZ.out _).grown hm5 (by rw [sz_alloc]; have := HSZ.out; omega) (fun g hg => (HOWN.out.lt g hg).1); have HM5w : Hid (Below w1.heap.size wr w5) := ((Below.refl _ _).alloc HSZ.out _).grown hm5 (by rw [sz_alloc]; have := HSZ.out; omega) (fun g hg => (HOWN.out.lt g hg).1); clear ho5 hm5)
            obtain ⟨h1, h2⟩ := HKP.out w5 HM5w.out
            go_quiet (fail)
            go_wp2
            go_roundw
            case rel => exact ⟨i + 1, _, O2, by omega, by go_num, rfl, HST.out, HO5.out, HM5.out.trans ((below_drewN _ _).mono HM5.out.size)⟩
            case measure => simp [intOf]; omega
        · have d2 : decide (c < 65536) = false := decide_eq_false q2
          rw [if_neg (fun h => q2 h.2)] at hst
          have HST := Lib.hid hst
          clear hst hmx
          go_wp2_with fail
          go_quiet (fail)
          go_wp2
          go_roundw
          case rel => exact ⟨i + 1, _, O, by omega, by go_num, rfl, HST.out, HOWN.out, HB1.out.trans ((below_drewN _ _).mono HB1.out.size)⟩
          case measure => simp [intOf]; omega
      · have d1 : decide (c < y.p) = false := decide_eq_false q1
        rw [if_neg (fun h => q1 h.1)] at hst
        have HST := Lib.hid hst
        clear hst hmx
        go_wp2_with fail
        go_quiet (fail)
        go_wp2
        go_roundw
        case rel => exact ⟨i + 1, _, O, by omega, by go_num, rfl, HST.out, HOWN.out, HB1.out.trans ((below_drewN _ _).mono HB1.out.size)⟩
        case measure => simp [intOf]; omega
    · obtain rfl : i = J.length := by omega
      have hend := finv_end hjo HI.out
      obtain ⟨A9, c9, rfl, hc9⟩ := slice_ofN HOWN.out
      clear HI
      by_cases q2 : c < 65536
      · have d2 : decide (c < 65536) = true := decide_eq_true q2
        rw [if_pos q2] at hend
        have hw2 : IntKind.i64.wrap (65536 - c) = 65536 - c := IntWalk.i64_in _ (by omega)
        have HO2 : Hid (∀ (v : Value) (w' : World), w'.ownsRow w1.heap.size 24 2 v (O.length + 1) (spD O ++ [.int .i64 c, .int .i64 (65536 - c)]) → w'.ownsRow w1.heap.size 24 2 v (O ++ [(⟨c, 65536 - c⟩ : SP)]).length (spD (O ++ [(⟨c, 65536 - c⟩ : SP)]))) := fun v w' h => by
          rw [spD_app, List.length_append]; exact h
        generalize O ++ [(⟨c, 65536 - c⟩ : SP)] = O2 at *
        have HEND := Lib.hid hend
        have HONE : Hid (∀ u ∈ (#[.int .i64 c, .int .i64 (65536 - c)] : Array Value).toList, u.oneCell' = true) := fun u hu => spD_cells [⟨c, 65536 - c⟩] u hu
        clear hend
        go_wp2_with (at_builtin; refine append_newB rfl (.tmp 54) (.tmp 59) 22 rfl 24 2 16 HEL w1.heap.size (.slice A9 O.length c9) O.length (spD O) rfl HOWN.out #[.int .i64 c, .int .i64 (65536 - c)] rfl HONE.out wr.heap.size rfl rfl (by unfold maxLen; omega) (by omega) HSZ.out ?_; intro v5 w5 ho5 hm5; have HO5 := Lib.hid (HO2.out v5 w5 ho5); have HM5 : Hid (Below w1.heap.size w1 w5) := (HB1.out.alloc HSZ.out _).grown hm5 (by rw [sz_alloc]; have := HSZ.out; omega) (fun g hg => (HOWN.out.lt g hg).1); clear ho5 hm5)
        obtain ⟨B2, c2, rfl, hrd2, _⟩ := own_spD HO5.out
        go_ret
        exact ⟨B2, c2, O2, rfl, hrd2, HEND.out, HB.out.trans (HM5.out.mono HB.out.size)⟩
      · have d2 : decide (c < 65536) = false := decide_eq_false q2
        rw [if_neg q2] at hend
        have HEND := Lib.hid hend
        obtain ⟨B2, c2, e2, hrd2, _⟩ := own_spD HOWN.out
        injection e2 with e2 _ e3
        subst e2 e3
        have HRD2 := Lib.hid hrd2
        have HBX := Lib.hid (HB.out.trans (HB1.out.mono HB.out.size))
        clear hend hrd2
        go_wp2
        go_ret
        exact ⟨_, _, O, rfl, HRD2.out, HEND.out, HBX.out⟩
end Go.Proofs.Ytgfblcfleohdjaa
