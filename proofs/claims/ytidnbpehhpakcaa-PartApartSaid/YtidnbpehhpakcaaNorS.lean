/- What the document's Program and Write, and the law's wants, do. Conditions: fewer than 2^61 operations and bytes; numbers of 64 bits. -/
import Derived.Test.YtidnbpehhpakcaaNorR
namespace Go.Proofs.Ytidnbpehhpakcaa
open Go.RowKit

theorem or255 (x : UInt8) : x ||| 255 = 255 := by
  apply UInt8.toNat_inj.1
  rw [UInt8.toNat_or]
  have h := x.toNat_lt
  have : ∀ y : Fin 256, y.val ||| 255 = 255 := by decide +kernel
  exact this ⟨x.toNat, by omega⟩
theorem and255 (x : UInt8) : x &&& 255 = x := by
  apply UInt8.toNat_inj.1
  rw [UInt8.toNat_and]
  have h := x.toNat_lt
  have : ∀ y : Fin 256, y.val &&& 255 = y.val := by decide +kernel
  exact this ⟨x.toNat, by omega⟩

set_option maxHeartbeats 1600000 in
set_option maxRecDepth 100000 in
theorem refprogram_any (g : Nat) (c : St) (a : Int) (s : ByteArray) (w : World) (h : RR w g c) (ho : c.ops < 4611686018427387904) (ha : -9223372036854775808 ≤ a) : Calls Try.prog 58 #[.pointer (some ⟨g, 0, none⟩), .int .i64 a, .string s] w fun e w' =>
    e = .returned (.int .i64 ((prS c a s).2 : Int)) ∧ RR w' g (prS c a s).1 ∧ w.grownBy w' (some g) := by
  have HH := Lib.hid h
  obtain ⟨hok, fu, t, hA, _⟩ := id h
  have k0 := ref_B hA
  have k1 := ref_on hA
  have hz : (⟨c.B.toArray⟩ : ByteArray).size = 24576 := by rw [arr_size']; exact hok.1
  by_cases hon : c.on = false
  · have HR : Hid (prS c a s = (c, 4)) := by unfold Hid prS; rw [if_pos hon]
    rw [HR.out]
    rw [hon] at k1
    clear h hA hon hok k0 hz
    go_enter Try.func58, Try.ntmps58
    go_wp2
    go_ret
    exact ⟨rfl, HH.out, grown_refl _ _⟩
  · have hon2 : c.on = true := by simpa using hon
    rw [hon2] at k1
    by_cases hs0 : s.size = 0
    · have HR : Hid (prS c a s = (c, 1)) := by unfold Hid prS; rw [if_neg hon, if_pos (.inl hs0)]
      rw [HR.out]
      obtain rfl : s = ⟨#[]⟩ := by
        have : s.data = #[] := Array.eq_empty_of_size_eq_zero hs0
        cases s; simp_all
      clear h hA hon hok k0 hz hs0 hon2
      go_enter Try.func58, Try.ntmps58
      go_wp2
      go_ret
      exact ⟨rfl, HH.out, grown_refl _ _⟩
    · have hse := str_nonempty hs0
      by_cases hs1 : 32 < s.size
      · have HR : Hid (prS c a s = (c, 1)) := by unfold Hid prS; rw [if_neg hon, if_pos (.inr hs1)]
        rw [HR.out]
        have d0 : decide ((32 : Int) < s.size) = true := decide_eq_true (by omega)
        have d0' : decide (32 < s.size) = true := decide_eq_true (by omega)
        clear h hA hon hok k0 hz hs0 hon2
        go_enter Try.func58, Try.ntmps58
        go_wp2
        go_ret
        exact ⟨rfl, HH.out, grown_refl _ _⟩
      · have hs2 : ¬ (s.size = 0 ∨ 32 < s.size) := by omega
        obtain ⟨n, hn⟩ : ∃ n, s.size = n := ⟨_, rfl⟩
        have hnI : (s.size : Int) = n := by omega
        have d0 : decide ((32 : Int) < n) = false := decide_eq_false (by omega)
        by_cases ht : thr a s.size = false
        · have HR : Hid (prS c a s = (c, 2)) := by unfold Hid prS; rw [if_neg hon, if_neg hs2, if_pos ht]
          rw [HR.out]
          have hf := thr_false ht
          generalize (⟨c.B.toArray⟩ : ByteArray) = S at *
          clear h hA hon hok hon2 ht
          by_cases q1 : a < 0
          · have d1 : decide (a < 0) = true := decide_eq_true q1
            clear hf
            go_enter Try.func58, Try.ntmps58
            go_wp2
            go_ret
            exact ⟨rfl, HH.out, grown_refl _ _⟩
          · have d1 : decide (a < 0) = false := decide_eq_false q1
            by_cases q3 : 24576 < a
            · have d3 : decide ((24576 : Int) < a) = true := decide_eq_true (by omega)
              clear hf
              go_enter Try.func58, Try.ntmps58
              go_wp2
              go_ret
              exact ⟨rfl, HH.out, grown_refl _ _⟩
            · have d3 : decide ((24576 : Int) < a) = false := decide_eq_false (by omega)
              have d4 : decide ((24576 : Int) - a < n) = true := decide_eq_true (by omega)
              clear hf
              go_enter Try.func58, Try.ntmps58
              go_wp2
              go_ret
              exact ⟨rfl, HH.out, grown_refl _ _⟩
        · have ht2 : thr a s.size = true := by simpa using ht
          have hb := thr_true ht2
          obtain ⟨y, rfl⟩ := Int.eq_ofNat_of_zero_le hb.1
          by_cases hrs : 32 - y % 32 < s.size
          · have HR : Hid (prS c (y : Int) s = (c, 1)) := by unfold Hid prS; rw [if_neg hon, if_neg hs2, if_neg ht, if_pos (by rw [Int.toNat_natCast]; exact hrs)]
            rw [HR.out]
            obtain ⟨p, hp⟩ : ∃ p, y / 32 = p := ⟨_, rfl⟩
            obtain ⟨p2, hp2⟩ : ∃ p2, (y + n - 1) / 32 = p2 := ⟨_, rfl⟩
            have hdv1 : (y : Int) / 32 = (p : Int) := by omega
            have hdv2 : ((y : Int) + n - 1) / 32 = (p2 : Int) := by omega
            have hpp : ((p : Int) != p2) = true := by simp; omega
            have hpp2 : ((p : Int) == p2) = false := by simp; omega
            have d1 : decide ((y : Int) < 0) = false := decide_eq_false (by omega)
            have d2 : decide ((24576 : Int) < y) = false := decide_eq_false (by omega)
            have d3 : decide ((24576 : Int) - y < n) = false := decide_eq_false (by omega)
            have hy1 : y ≤ 24576 := by omega
            have hn1 : n ≤ 32 := by omega
            have hn0 : 0 < n := by omega
            generalize (⟨c.B.toArray⟩ : ByteArray) = S at *
            clear h hA hon hok hon2 ht ht2 hb hp hp2 hrs
            go_enter Try.func58, Try.ntmps58
            go_wp2
            go_ret
            exact ⟨rfl, HH.out, grown_refl _ _⟩
          · have HR : prS c (y : Int) s = oper c y s.size (prF s) (prT s) := by unfold prS; rw [if_neg hon, if_neg hs2, if_neg ht, if_neg (by rw [Int.toNat_natCast]; exact hrs), Int.toNat_natCast]
            rw [HR]
            rw [hon2] at hA
            refine ref_oper g c y s.size (prF s) (prT s) (prG s) w h hon2 ho (fun t i x _ => ?_) (fun t i x _ ht => ?_) (fun t i x _ ht => ?_) (fun B on fu' t' ops torn hB hbl => refprogram_core g B on fu' t' ops torn y s w _ _ _ _ hA hz hbl (by omega) (by omega) (by omega) (by omega) hB)
            · unfold prG keepP prF; rw [if_pos rfl, UInt8.or_zero]
            · unfold prG keepP; rw [if_neg (by decide), if_pos ht, or255, and255]
            · unfold prG keepP prT; rw [if_neg (by decide), if_neg ht]

set_option maxHeartbeats 1600000 in
set_option maxRecDepth 100000 in
theorem refwrite_any (g : Nat) (c : St) (a : Int) (s : ByteArray) (w : World) (h : RR w g c) (ho : c.ops + s.size < 4611686018427387904) (ha : -9223372036854775808 ≤ a) (hss : s.size ≤ 200) : Calls Try.prog 49 #[.pointer (some ⟨g, 0, none⟩), .int .i64 a, .string s] w fun e w' =>
    e = .returned (.int .i64 ((wrS c a s).2 : Int)) ∧ RR w' g (wrS c a s).1 ∧ w.grownBy w' (some g) := by
  have HH := Lib.hid h
  obtain ⟨hok, fu, t, hA, _⟩ := id h
  have k0 := ref_B hA
  have k1 := ref_on hA
  have hz : (⟨c.B.toArray⟩ : ByteArray).size = 24576 := by rw [arr_size']; exact hok.1
  clear hA
  by_cases hon : c.on = false
  · have HR : Hid (wrS c a s = (c, 4)) := by unfold Hid wrS; rw [if_pos hon]
    rw [HR.out]
    rw [hon] at k1
    clear h hon hok k0 hz
    go_enter Try.func49, Try.ntmps49
    go_wp2
    go_ret
    exact ⟨rfl, HH.out, grown_refl _ _⟩
  · have hon2 : c.on = true := by simpa using hon
    rw [hon2] at k1
    obtain ⟨n, hn⟩ : ∃ n, s.size = n := ⟨_, rfl⟩
    by_cases ht : thr a s.size = false
    · have HR : Hid (wrS c a s = (c, 2)) := by unfold Hid wrS; rw [if_neg hon, if_pos ht]
      rw [HR.out]
      have hf := thr_false ht
      generalize (⟨c.B.toArray⟩ : ByteArray) = S at *
      clear h hon hok hon2 ht
      by_cases q1 : a < 0
      · have d1 : decide (a < 0) = true := decide_eq_true q1
        clear hf
        go_enter Try.func49, Try.ntmps49
        go_wp2
        go_ret
        exact ⟨rfl, HH.out, grown_refl _ _⟩
      · have d1 : decide (a < 0) = false := decide_eq_false q1
        by_cases q3 : 24576 < a
        · have d3 : decide ((24576 : Int) < a) = true := decide_eq_true (by omega)
          clear hf
          go_enter Try.func49, Try.ntmps49
          go_wp2
          go_ret
          exact ⟨rfl, HH.out, grown_refl _ _⟩
        · have d3 : decide ((24576 : Int) < a) = false := decide_eq_false (by omega)
          have d4 : decide ((24576 : Int) - a < n) = true := decide_eq_true (by omega)
          clear hf
          go_enter Try.func49, Try.ntmps49
          go_wp2
          go_ret
          exact ⟨rfl, HH.out, grown_refl _ _⟩
    · have ht2 : thr a s.size = true := by simpa using ht
      have hb := thr_true ht2
      obtain ⟨x, rfl⟩ := Int.eq_ofNat_of_zero_le hb.1
      have hx : x + s.size ≤ 24576 := by omega
      have HR : Hid (wrS c (x : Int) s = wrL s.size c x s) := by unfold Hid wrS; rw [if_neg hon, if_neg ht, Int.toNat_natCast]
      rw [HR.out]
      have d1 : decide ((x : Int) < 0) = false := decide_eq_false (by omega)
      have d2 : decide ((24576 : Int) < x) = false := decide_eq_false (by omega)
      have d3 : decide ((24576 : Int) - x < n) = false := decide_eq_false (by omega)
      have hx1 : x ≤ 24576 := by omega
      generalize (⟨c.B.toArray⟩ : ByteArray) = S at *
      clear hon ht hb ht2 HR h hok hon2
      generalize hres : wrL s.size c x s = res
      have HRES := Lib.hid hres
      clear hres
      have hn2 : n ≤ 200 := by omega
      go_enter Try.func49, Try.ntmps49
      go_wp2
      go_loopw [1, 2] (fun p q wr => ∃ (d : St) (y : Nat) (t : ByteArray) (f : Nat), p = .int .i64 y ∧ q = .string t ∧ RR wr g d ∧ wrL f d y t = res ∧ t.size ≤ f ∧ y + t.size ≤ 24576 ∧ d.ops + t.size ≤ c.ops + s.size ∧ w.grownBy wr (some g)) (fun _ q _ => ssz q)
      case atStart => exact ⟨c, x, s, s.size, rfl, rfl, HH.out, HRES.out, Nat.le_refl _, by omega, Nat.le_refl _, grown_refl _ _⟩
      case round =>
        clear HH HRES d1 d2 d3 k0 k1
        obtain ⟨d, y, t, f, rfl, rfl, hN, hwl, hf, hy, hdo, hg⟩ := hrel
        have HN := Lib.hid hN
        have HWL := Lib.hid hwl
        clear hN hwl
        by_cases h0 : 0 < t.size
        · obtain ⟨f, rfl⟩ : ∃ f', f = f' + 1 := ⟨f - 1, by omega⟩
          obtain ⟨r, hr⟩ : ∃ r, 32 - y % 32 = r := ⟨_, rfl⟩
          have hr0 : 0 < r := by omega
          have hr32 : r ≤ 32 := by omega
          obtain ⟨m, hm⟩ : ∃ m, y % 32 = m := ⟨_, rfl⟩
          have hmI : (y : Int) % 32 = (m : Int) := by omega
          have hrI : (32 : Int) - m = (r : Int) := by omega
          have hm32 : m < 32 := by omega
          by_cases hrt : r < t.size
          · obtain ⟨q, hq⟩ : ∃ q, prS d y (t.extract 0 r) = q := ⟨_, rfl⟩
            have hp := refprogram_any g d (y : Int) (t.extract 0 r) wr HN.out (by omega) (by omega)
            rw [hq] at hp
            have HP := Lib.hid hp
            have HW2 : Hid (res = if q.2 = 0 then wrL f q.1 (y + r) (t.extract r t.size) else q) := by
              have := HWL.out
              unfold wrL at this
              rw [if_neg (by omega), hr, show min t.size r = r by omega, hq] at this
              exact this.symm
            have HOP := Lib.hid (prS_ops d (y : Int) (t.extract 0 r))
            rw [hq] at HOP
            have HZ : Hid ((t.extract r t.size).size = t.size - r) := by unfold Hid; rw [ByteArray.size_extract]; omega
            have hrtI : (r : Int) < t.size := by omega
            clear hr HWL hq hp hm
            by_cases hq0 : q.2 = 0
            · have HW3 : Hid (wrL f q.1 (y + r) (t.extract r t.size) = res) := by rw [HW2.out, if_pos hq0]; exact rfl
              rw [hq0] at HP
              clear hq0 HW2
              go_wp2_with fail
              refine HP.out.mono ?_
              rintro e w1 ⟨rfl, hN1, hg1⟩
              have HN1 := Lib.hid hN1
              have HG1 := Lib.hid (grown_trans hg hg1)
              clear hN1 hg1 HP
              go_wp2
              go_roundw
              case rel => exact ⟨q.1, y + r, _, f, by go_num, rfl, HN1.out, HW3.out, by rw [HZ.out]; omega, by rw [HZ.out]; omega, by rw [HZ.out]; have := HOP.out; omega, HG1.out⟩
              case measure => show (t.extract r t.size).size < t.size; rw [HZ.out]; omega
            · have HW3 : Hid (res = q) := by rw [HW2.out, if_neg hq0]; exact rfl
              have hqb : ((q.2 : Int) == 0) = false := beq0_false hq0
              have hqn : ((q.2 : Int) != 0) = true := by simp only [bne, hqb]; rfl
              clear hq0 HW2
              obtain ⟨q1, q2⟩ := q
              go_wp2_with fail
              refine HP.out.mono ?_
              rintro e w1 ⟨rfl, hN1, hg1⟩
              have HN1 := Lib.hid hN1
              have HG1 := Lib.hid (grown_trans hg hg1)
              clear hN1 hg1 HP
              go_wp2
              go_ret
              exact ⟨by rw [HW3.out]; rfl, by rw [HW3.out]; exact HN1.out, HG1.out⟩
          · obtain ⟨q, hq⟩ : ∃ q, prS d y t = q := ⟨_, rfl⟩
            have hp := refprogram_any g d (y : Int) t wr HN.out (by omega) (by omega)
            rw [hq] at hp
            have HP := Lib.hid hp
            have HW2 : Hid (res = if q.2 = 0 then wrL f q.1 (y + t.size) (t.extract t.size t.size) else q) := by
              have := HWL.out
              unfold wrL at this
              rw [if_neg (by omega), hr, show min t.size r = t.size by omega, ByteArray.extract_zero_size, hq] at this
              exact this.symm
            have HOP := Lib.hid (prS_ops d (y : Int) t)
            rw [hq] at HOP
            clear hr HWL hq hp hm
            by_cases hq0 : q.2 = 0
            · have HW3 : Hid ((q.1, 0) = res) := by
                rw [HW2.out, if_pos hq0, wrL_done _ _ _ _ (by rw [ByteArray.size_extract]; omega)]; exact rfl
              rw [hq0] at HP
              clear hq0 HW2
              go_wp2_with fail
              refine HP.out.mono ?_
              rintro e w1 ⟨rfl, hN1, hg1⟩
              have HN1 := Lib.hid hN1
              have HG1 := Lib.hid (grown_trans hg hg1)
              clear hN1 hg1 HP
              go_wp2
              go_roundw
              case rel => exact ⟨q.1, y + t.size, _, f, congrArg (Value.int .i64) (by omega), rfl, HN1.out, by rw [wrL_done _ _ _ _ (by simp)]; exact HW3.out, by simp, by simp; omega, by have := HOP.out; simp; omega, HG1.out⟩
              case measure => exact h0
            · have HW3 : Hid (res = q) := by rw [HW2.out, if_neg hq0]; exact rfl
              have hqb : ((q.2 : Int) == 0) = false := beq0_false hq0
              have hqn : ((q.2 : Int) != 0) = true := by simp only [bne, hqb]; rfl
              clear hq0 HW2
              obtain ⟨q1, q2⟩ := q
              go_wp2_with fail
              refine HP.out.mono ?_
              rintro e w1 ⟨rfl, hN1, hg1⟩
              have HN1 := Lib.hid hN1
              have HG1 := Lib.hid (grown_trans hg hg1)
              clear hN1 hg1 HP
              go_wp2
              go_ret
              exact ⟨by rw [HW3.out]; rfl, by rw [HW3.out]; exact HN1.out, HG1.out⟩
        · have HW3 : Hid ((d, 0) = res) := by rw [← HWL.out, wrL_done _ _ _ _ (by omega)]; exact rfl
          have hd0 : decide ((0 : Int) < t.size) = false := decide_eq_false (by omega)
          clear HWL
          go_wp2
          go_ret
          exact ⟨by rw [← HW3.out]; rfl, by rw [← HW3.out]; exact HN.out, hg⟩
end Go.Proofs.Ytidnbpehhpakcaa
