/- What nor's Write does. Condition: fewer than 2^60 operations and bytes. -/
import Derived.Test.YtidnbpehhpakcaaNorE
namespace Go.Proofs.Ytidnbpehhpakcaa
open Go.RowKit

/-- How many bytes a string has. -/
def ssz : Value → Nat
  | .string s => s.size
  | _ => 0

set_option maxHeartbeats 1600000 in
set_option maxRecDepth 100000 in
theorem write_any (g : Nat) (c : St) (a : Int) (s : ByteArray) (w : World) (h : RN w g c) (ho : c.ops + s.size < 4611686018427387904) : Calls Try.prog 57 #[.pointer (some ⟨g, 0, none⟩), .int .i64 a, .string s] w fun e w' =>
    e = .returned (.int .i64 ((wrS c a s).2 : Int)) ∧ RN w' g (wrS c a s).1 ∧ w.grownBy w' (some g) := by
  have HON := Lib.hid (on_any g c w h)
  have HTH := Lib.hid (there_any a s.size)
  have HH := Lib.hid h
  clear h
  by_cases hon : c.on = false
  · have HR : Hid (wrS c a s = (c, 4)) := by unfold Hid wrS; rw [if_pos hon]
    rw [HR.out]
    rw [hon] at HON
    clear hon
    go_enter Try.func57, Try.ntmps57
    go_wp2_with fail
    refine HON.out.mono ?_
    rintro e w1 ⟨rfl, rfl⟩
    go_wp2
    go_ret
    exact ⟨rfl, HH.out, grown_refl _ _⟩
  · have hon2 : c.on = true := by simpa using hon
    rw [hon2] at HON
    by_cases ht : thr a s.size = false
    · have HR : Hid (wrS c a s = (c, 2)) := by unfold Hid wrS; rw [if_neg hon, if_pos ht]
      rw [HR.out]
      rw [ht] at HTH
      clear hon ht
      go_enter Try.func57, Try.ntmps57
      go_wp2_with fail
      refine HON.out.mono ?_
      rintro e w1 ⟨rfl, rfl⟩
      go_wp2_with fail
      refine (HTH.out _).mono ?_
      rintro e w1 ⟨rfl, rfl⟩
      go_wp2
      go_ret
      exact ⟨rfl, HH.out, grown_refl _ _⟩
    · have ht2 : thr a s.size = true := by simpa using ht
      have hb := thr_true ht2
      obtain ⟨x, rfl⟩ := Int.eq_ofNat_of_zero_le hb.1
      have hx : x + s.size ≤ 24576 := by omega
      have HR : Hid (wrS c (x : Int) s = wrL s.size c x s) := by unfold Hid wrS; rw [if_neg hon, if_neg ht, Int.toNat_natCast]
      rw [HR.out]
      rw [ht2] at HTH
      clear hon ht hb ht2 HR
      generalize hres : wrL s.size c x s = res
      have HRES := Lib.hid hres
      clear hres
      go_enter Try.func57, Try.ntmps57
      go_wp2_with fail
      refine HON.out.mono ?_
      rintro e w1 ⟨rfl, rfl⟩
      go_wp2_with fail
      refine (HTH.out _).mono ?_
      rintro e w1 ⟨rfl, rfl⟩
      clear HON HTH
      go_wp2
      go_loopw [1, 2] (fun p q wr => ∃ (d : St) (y : Nat) (t : ByteArray) (f : Nat), p = .int .i64 y ∧ q = .string t ∧ RN wr g d ∧ wrL f d y t = res ∧ t.size ≤ f ∧ y + t.size ≤ 24576 ∧ d.ops + t.size ≤ c.ops + s.size ∧ w.grownBy wr (some g)) (fun _ q _ => ssz q)
      case atStart => exact ⟨c, x, s, s.size, rfl, rfl, HH.out, HRES.out, Nat.le_refl _, hx, Nat.le_refl _, grown_refl _ _⟩
      case round =>
        clear HH HRES
        obtain ⟨d, y, t, f, rfl, rfl, hN, hwl, hf, hy, hdo, hg⟩ := hrel
        have HN := Lib.hid hN
        have HWL := Lib.hid hwl
        clear hN hwl
        by_cases h0 : 0 < t.size
        · obtain ⟨f, rfl⟩ : ∃ f', f = f' + 1 := ⟨f - 1, by omega⟩
          obtain ⟨r, hr⟩ : ∃ r, 32 - y % 32 = r := ⟨_, rfl⟩
          have hr0 : 0 < r := by omega
          have hr32 : r ≤ 32 := by omega
          have HRM := Lib.hid (fun W => room_any y W r hr)
          by_cases hrt : r < t.size
          · obtain ⟨q, hq⟩ : ∃ q, prS d y (t.extract 0 r) = q := ⟨_, rfl⟩
            have hp := program_any g d (y : Int) (t.extract 0 r) wr HN.out (by omega)
            rw [hq] at hp
            have HP := Lib.hid hp
            have HW2 : Hid (res = if q.2 = 0 then wrL f q.1 (y + r) (t.extract r t.size) else q) := by
              have := HWL.out
              unfold wrL at this
              rw [if_neg (by omega), hr, show min t.size r = r by omega, hq] at this
              exact this.symm
            have HOP := Lib.hid (prS_ops d (y : Int) (t.extract 0 r))
            rw [hq] at HOP
            have HZ : Hid ((t.extract r t.size).size = t.size - r) := by unfold Hid; rw [ByteArray.size_extract]; omega
            have hrI : (r : Int) < t.size := by omega
            clear hr HWL hq hp
            by_cases hq0 : q.2 = 0
            · have HW3 : Hid (wrL f q.1 (y + r) (t.extract r t.size) = res) := by rw [HW2.out, if_pos hq0]; exact rfl
              rw [hq0] at HP
              clear hq0 HW2
              go_wp2_with fail
              refine (HRM.out _).mono ?_
              rintro e w1 ⟨rfl, rfl⟩
              go_wp2_with fail
              refine HP.out.mono ?_
              rintro e w1 ⟨rfl, hN1, hg1⟩
              have HN1 := Lib.hid hN1
              have HG1 := Lib.hid (grown_trans hg hg1)
              clear hN1 hg1 HP HRM
              go_wp2
              go_quiet (fail)
              have HN2 := Lib.hid (HN1.out.below (below_drewN _ nq) HN1.out.lt)
              have HG2 := Lib.hid (grown_trans HG1.out (grown_below (below_drewN _ nq)))
              go_wp2
              go_roundw
              case rel => exact ⟨q.1, y + r, _, f, by go_num, rfl, HN2.out, HW3.out, by rw [HZ.out]; omega, by rw [HZ.out]; omega, by rw [HZ.out]; have := HOP.out; omega, HG2.out⟩
              case measure => show (t.extract r t.size).size < t.size; rw [HZ.out]; omega
            · have HW3 : Hid (res = q) := by rw [HW2.out, if_neg hq0]; exact rfl
              have hqb : ((q.2 : Int) == 0) = false := beq0_false hq0
              have hqn : ((q.2 : Int) != 0) = true := by simp only [bne, hqb]; rfl
              clear hq0 HW2
              obtain ⟨q1, q2⟩ := q
              go_wp2_with fail
              refine (HRM.out _).mono ?_
              rintro e w1 ⟨rfl, rfl⟩
              go_wp2_with fail
              refine HP.out.mono ?_
              rintro e w1 ⟨rfl, hN1, hg1⟩
              have HN1 := Lib.hid hN1
              have HG1 := Lib.hid (grown_trans hg hg1)
              clear hN1 hg1 HP HRM
              go_wp2
              go_ret
              exact ⟨by rw [HW3.out]; rfl, by rw [HW3.out]; exact HN1.out, HG1.out⟩
          · obtain ⟨q, hq⟩ : ∃ q, prS d y t = q := ⟨_, rfl⟩
            have hp := program_any g d (y : Int) t wr HN.out (by omega)
            rw [hq] at hp
            have HP := Lib.hid hp
            have HW2 : Hid (res = if q.2 = 0 then wrL f q.1 (y + t.size) (t.extract t.size t.size) else q) := by
              have := HWL.out
              unfold wrL at this
              rw [if_neg (by omega), hr, show min t.size r = t.size by omega, ByteArray.extract_zero_size, hq] at this
              exact this.symm
            have HOP := Lib.hid (prS_ops d (y : Int) t)
            rw [hq] at HOP
            clear hr HWL hq hp
            by_cases hq0 : q.2 = 0
            · have HW3 : Hid ((q.1, 0) = res) := by
                rw [HW2.out, if_pos hq0, wrL_done _ _ _ _ (by rw [ByteArray.size_extract]; omega)]; exact rfl
              rw [hq0] at HP
              clear hq0 HW2
              go_wp2_with fail
              refine (HRM.out _).mono ?_
              rintro e w1 ⟨rfl, rfl⟩
              go_wp2_with fail
              refine HP.out.mono ?_
              rintro e w1 ⟨rfl, hN1, hg1⟩
              have HN1 := Lib.hid hN1
              have HG1 := Lib.hid (grown_trans hg hg1)
              clear hN1 hg1 HP HRM
              go_wp2
              go_quiet (fail)
              have HN2 := Lib.hid (HN1.out.below (below_drewN _ nq) HN1.out.lt)
              have HG2 := Lib.hid (grown_trans HG1.out (grown_below (below_drewN _ nq)))
              go_wp2
              go_roundw
              case rel => exact ⟨q.1, y + t.size, _, f, congrArg (Value.int .i64) (by omega), rfl, HN2.out, by rw [wrL_done _ _ _ _ (by simp)]; exact HW3.out, by simp, by simp; omega, by have := HOP.out; simp; omega, HG2.out⟩
              case measure => exact h0
            · have HW3 : Hid (res = q) := by rw [HW2.out, if_neg hq0]; exact rfl
              have hqb : ((q.2 : Int) == 0) = false := beq0_false hq0
              have hqn : ((q.2 : Int) != 0) = true := by simp only [bne, hqb]; rfl
              clear hq0 HW2
              obtain ⟨q1, q2⟩ := q
              go_wp2_with fail
              refine (HRM.out _).mono ?_
              rintro e w1 ⟨rfl, rfl⟩
              go_wp2_with fail
              refine HP.out.mono ?_
              rintro e w1 ⟨rfl, hN1, hg1⟩
              have HN1 := Lib.hid hN1
              have HG1 := Lib.hid (grown_trans hg hg1)
              clear hN1 hg1 HP HRM
              go_wp2
              go_ret
              exact ⟨by rw [HW3.out]; rfl, by rw [HW3.out]; exact HN1.out, HG1.out⟩
        · have HW3 : Hid ((d, 0) = res) := by rw [← HWL.out, wrL_done _ _ _ _ (by omega)]; exact rfl
          have hd0 : decide ((0 : Int) < t.size) = false := decide_eq_false (by omega)
          clear HWL
          go_wp2
          go_ret
          exact ⟨by rw [← HW3.out]; rfl, by rw [← HW3.out]; exact HN.out, hg⟩
end Go.Proofs.Ytidnbpehhpakcaa
