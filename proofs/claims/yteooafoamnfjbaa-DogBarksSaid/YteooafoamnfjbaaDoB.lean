/- The document's watchdog in memory; acts; what the document's Do and the law's do make of it, and that the law's awake is true. Conditions: numbers such as can be. -/
import Derived.Test.YteooafoamnfjbaaDoA
import Derived.Test.YteooafoamnfjbaaOwn
import Derived.StillTailTactics
import Derived.IntWalk
namespace Go.Proofs.Yteooafoamnfjbaa
open Go.RowKit

/-- An act as a value. -/
def daV (x : DA) : Value := .agg #[.int .i64 x.kind, .int .i64 x.n]
/-- Block g is the document's watchdog: as many ticks are left; and it knows what the last Arm said as long as it does not sleep. -/
def DX (w : World) (g : Nat) (d : DG) : Prop := ∃ m : Int, Arr w g 29 #[.int .i64 d.l, .int .i64 m] ∧ (d.l ≠ 0 → m = d.a)
theorem DX.c0 {w : World} {g : Nat} {d : DG} (h : DX w g d) : w.cell? ⟨g, 0, none⟩ = some (.int .i64 d.l) := by obtain ⟨m, h, _⟩ := h; exact h.cell 0

theorem dx_of {W : World} {g : Nat} {l m : Int} (h : Arr W g 29 #[.int .i64 l, .int .i64 m]) {d : DG} (hl : d.l = l) (hm : l ≠ 0 → m = d.a) : DX W g d := ⟨m, by rw [hl]; exact h, by rw [hl]; exact hm⟩
theorem arD_max (n : Int) (h : 0 ≤ n) : (arD n).l = n ∧ (n ≠ 0 → n = (arD n).a) := by
  unfold arD
  split
  · simp only [dg0]; omega
  · exact ⟨rfl, fun _ => rfl⟩
theorem arD_min (n : Int) (h : n < 0) : (arD n).l = 0 := by
  unfold arD
  rw [if_pos (by omega)]; rfl

set_option maxHeartbeats 1600000 in
set_option maxRecDepth 100000 in
theorem rdo_any (g : Nat) (d : DG) (x : DA) (w : World) (h : DX w g d) (hok : d.ok) (hx : x.n < 9223372036854775808 ∧ -9223372036854775808 ≤ x.n) :
    Calls Try.prog 7 #[.pointer (some ⟨g, 0, none⟩), daV x] w fun e w' => e = .returned (.bool (doD d x).2) ∧ DX w' g (doD d x).1 ∧ w.grownBy w' (some g) := by
  obtain ⟨m, hA, hm⟩ := h
  obtain ⟨kd, n⟩ := x
  obtain ⟨a, l⟩ := d
  obtain ⟨k1, k2, k3, k4⟩ := hok
  simp only at hx hA hm k1 k2 k3 k4
  unfold daV
  simp only
  have hlt := hA.lt
  have hne : g ≠ w.heap.size := by omega
  have hA1 := Lib.hid (hA.alloc (.cells #[.int .i64 kd, .int .i64 n] 32))
  have hN := Lib.hid (Arr.new w 32 #[.int .i64 kd, .int .i64 n])
  have hg := Lib.hid (grown_alloc w (.cells #[.int .i64 kd, .int .i64 n] 32) (some g))
  have c0 : (w.alloc (.cells #[.int .i64 kd, .int .i64 n] 32)).cell? ⟨g, 0, none⟩ = some (.int .i64 l) := hA1.out.cell 0
  have c1 : (w.alloc (.cells #[.int .i64 kd, .int .i64 n] 32)).cell? ⟨g, 1, none⟩ = some (.int .i64 m) := hA1.out.cell 1
  have f0 := hA1.out.frozen 0
  have f1 := hA1.out.frozen 1
  have HM := Lib.hid hm
  obtain ⟨hx1, hx2⟩ := hx
  clear hA hm hlt
  by_cases q1 : kd = 1
  · have HD : Hid (doD ⟨a, l⟩ ⟨kd, n⟩ = (arD n, false)) := by unfold Hid doD; simp only; rw [if_pos q1]
    have e1 : (kd == 1) = true := by simpa using q1
    rw [HD.out]
    clear q1
    by_cases r1 : n < 0
    · have HP : Hid (DX (((w.alloc (.cells #[.int .i64 kd, .int .i64 n] 32)).setCell ⟨g, 1, none⟩ (.int .i64 0)).setCell ⟨g, 0, none⟩ (.int .i64 0)) g (arD n) ∧ w.grownBy (((w.alloc (.cells #[.int .i64 kd, .int .i64 n] 32)).setCell ⟨g, 1, none⟩ (.int .i64 0)).setCell ⟨g, 0, none⟩ (.int .i64 0)) (some g)) :=
        ⟨dx_of (l := 0) (m := 0) ((hA1.out.put 1 (.int .i64 0)).put 0 (.int .i64 0)) (arD_min n r1) (fun h => absurd rfl h), grown_put (grown_put hg.out 1 _) 0 _⟩
      go_enter Try.func7, Try.ntmps7
      go_wp2
      go_ret
      exact ⟨rfl, HP.out⟩
    · have r2 : 0 ≤ n := by omega
      have HP : Hid (DX (((w.alloc (.cells #[.int .i64 kd, .int .i64 n] 32)).setCell ⟨g, 1, none⟩ (.int .i64 n)).setCell ⟨g, 0, none⟩ (.int .i64 n)) g (arD n) ∧ w.grownBy (((w.alloc (.cells #[.int .i64 kd, .int .i64 n] 32)).setCell ⟨g, 1, none⟩ (.int .i64 n)).setCell ⟨g, 0, none⟩ (.int .i64 n)) (some g)) :=
        ⟨dx_of (l := n) (m := n) ((hA1.out.put 1 (.int .i64 n)).put 0 (.int .i64 n)) (arD_max n r2).1 (arD_max n r2).2, grown_put (grown_put hg.out 1 _) 0 _⟩
      clear r1
      go_enter Try.func7, Try.ntmps7
      go_wp2
      go_ret
      exact ⟨rfl, HP.out⟩
  · have e1 : (kd == 1) = false := by simpa using q1
    by_cases q2 : kd = 2
    · have HD : Hid (doD ⟨a, l⟩ ⟨kd, n⟩ = (⟨a, a⟩, false)) := by unfold Hid doD; simp only; rw [if_neg q1, if_pos q2]; rfl
      have e2 : (kd == 2) = true := by simpa using q2
      rw [HD.out]
      clear q1 q2
      by_cases r1 : 0 < l
      · have d1 : decide (0 < l) = true := decide_eq_true r1
        have hma := HM.out (by omega)
        have HP : Hid (DX ((w.alloc (.cells #[.int .i64 kd, .int .i64 n] 32)).setCell ⟨g, 0, none⟩ (.int .i64 m)) g ⟨a, a⟩ ∧ w.grownBy ((w.alloc (.cells #[.int .i64 kd, .int .i64 n] 32)).setCell ⟨g, 0, none⟩ (.int .i64 m)) (some g)) :=
          ⟨dx_of (l := m) (m := m) (hA1.out.put 0 (.int .i64 m)) hma.symm (fun _ => hma), grown_put hg.out 0 _⟩
        clear r1 hma
        go_enter Try.func7, Try.ntmps7
        go_wp2
        go_ret
        exact ⟨rfl, HP.out⟩
      · have d1 : decide (0 < l) = false := decide_eq_false r1
        have hl0 : l = 0 := by omega
        have HP : Hid (DX (w.alloc (.cells #[.int .i64 kd, .int .i64 n] 32)) g ⟨a, a⟩) := dx_of hA1.out (by rw [hl0]; exact k4 hl0) (fun h => absurd hl0 h)
        clear r1 hl0
        go_enter Try.func7, Try.ntmps7
        go_wp2
        go_ret
        exact ⟨rfl, HP.out, hg.out⟩
    · have e2 : (kd == 2) = false := by simpa using q2
      by_cases q3 : kd = 3
      · have HD : Hid (doD ⟨a, l⟩ ⟨kd, n⟩ = (dg0, false)) := by unfold Hid doD; simp only; rw [if_neg q1, if_neg q2, if_pos q3]
        have e3 : (kd == 3) = true := by simpa using q3
        rw [HD.out]
        have HP : Hid (DX ((w.alloc (.cells #[.int .i64 kd, .int .i64 n] 32)).setCell ⟨g, 0, none⟩ (.int .i64 0)) g dg0 ∧ w.grownBy ((w.alloc (.cells #[.int .i64 kd, .int .i64 n] 32)).setCell ⟨g, 0, none⟩ (.int .i64 0)) (some g)) :=
          ⟨dx_of (l := 0) (m := m) (hA1.out.put 0 (.int .i64 0)) rfl (fun h => absurd rfl h), grown_put hg.out 0 _⟩
        clear q1 q2 q3
        go_enter Try.func7, Try.ntmps7
        go_wp2
        go_ret
        exact ⟨rfl, HP.out⟩
      · have e3 : (kd == 3) = false := by simpa using q3
        by_cases q4 : kd = 4
        · have HD : Hid (doD ⟨a, l⟩ ⟨kd, n⟩ = tiD ⟨a, l⟩ n) := by unfold Hid doD; simp only; rw [if_neg q1, if_neg q2, if_neg q3, if_pos q4]
          have e4 : (kd == 4) = true := by simpa using q4
          rw [HD.out]
          clear q1 q2 q3 q4
          by_cases r1 : 0 < l
          · have d1 : decide (0 < l) = true := decide_eq_true r1
            by_cases r2 : l ≤ n
            · have d2 : decide (l ≤ n) = true := decide_eq_true r2
              have HT : Hid (tiD ⟨a, l⟩ n = (dg0, true)) := by unfold Hid tiD; simp only; rw [if_neg (by omega), if_pos r2]
              rw [HT.out]
              clear r1 r2
              go_enter Try.func7, Try.ntmps7
              go_wp2
              go_quiet (fail)
              have hAW2 := Lib.hid (hA1.out.drewN nq)
              have hNW2 := Lib.hid (hN.out.drewN nq)
              have hgW2 := Lib.hid (grown_trans hg.out (grown_below (r := some g) (below_drewN (w.alloc (.cells #[.int .i64 kd, .int .i64 n] 32)) nq)))
              clear c0 c1 f0 f1 hA1 hN hg
              generalize ((w.alloc (.cells #[.int .i64 kd, .int .i64 n] 32))).drewN nq = W2 at *
              have c0 : W2.cell? ⟨g, 0, none⟩ = some (.int .i64 l) := hAW2.out.cell 0
              have c1 : W2.cell? ⟨g, 1, none⟩ = some (.int .i64 m) := hAW2.out.cell 1
              have f0 := hAW2.out.frozen 0
              have z1 : W2.cell? ⟨w.heap.size, 1, none⟩ = some (.int .i64 n) := hNW2.out.cell 1
              have HP : Hid (DX (W2.setCell ⟨g, 0, none⟩ (.int .i64 0)) g dg0 ∧ w.grownBy (W2.setCell ⟨g, 0, none⟩ (.int .i64 0)) (some g)) :=
                ⟨dx_of (l := 0) (m := m) (hAW2.out.put 0 (.int .i64 0)) rfl (fun h => absurd rfl h), grown_put hgW2.out 0 _⟩
              go_wp2
              go_ret
              exact ⟨rfl, HP.out⟩
            · have d2 : decide (l ≤ n) = false := decide_eq_false r2
              by_cases r3 : 0 < n
              · have d3 : decide (0 < n) = true := decide_eq_true r3
                have HT : Hid (tiD ⟨a, l⟩ n = (⟨a, l - n⟩, false)) := by unfold Hid tiD; simp only; rw [if_neg (by omega), if_neg r2]
                rw [HT.out]
                have hl0 : Hid (l ≠ 0) := by unfold Hid; omega
                have h4 : -9223372036854775808 ≤ l - n := by omega
                have h5 : l - n < 9223372036854775808 := by omega
                clear r1 r2 r3
                go_enter Try.func7, Try.ntmps7
                go_wp2
                go_quiet (fail)
                have hAW2 := Lib.hid (hA1.out.drewN nq)
                have hNW2 := Lib.hid (hN.out.drewN nq)
                have hgW2 := Lib.hid (grown_trans hg.out (grown_below (r := some g) (below_drewN (w.alloc (.cells #[.int .i64 kd, .int .i64 n] 32)) nq)))
                clear c0 c1 f0 f1 hA1 hN hg
                generalize ((w.alloc (.cells #[.int .i64 kd, .int .i64 n] 32))).drewN nq = W2 at *
                have c0 : W2.cell? ⟨g, 0, none⟩ = some (.int .i64 l) := hAW2.out.cell 0
                have c1 : W2.cell? ⟨g, 1, none⟩ = some (.int .i64 m) := hAW2.out.cell 1
                have f0 := hAW2.out.frozen 0
                have z1 : W2.cell? ⟨w.heap.size, 1, none⟩ = some (.int .i64 n) := hNW2.out.cell 1
                go_wp2
                have wl : IntKind.i64.wrap (l - n) = l - n := IntWalk.i64_in _ (by omega)
                go_still_tail 10, (by kernel_rfl)
                have HP : Hid (DX (W2.setCell ⟨g, 0, none⟩ (.int .i64 (l - n))) g ⟨a, l - n⟩ ∧ w.grownBy (W2.setCell ⟨g, 0, none⟩ (.int .i64 (l - n))) (some g)) :=
                  ⟨dx_of (l := l - n) (m := m) (hAW2.out.put 0 (.int .i64 (l - n))) rfl (fun _ => HM.out hl0.out), grown_put hgW2.out 0 _⟩
                go_wp2
                go_ret
                exact ⟨rfl, HP.out.1, grown_trans HP.out.2 (grown_below (Below.refl _ _).drew)⟩
              · have d3 : decide (0 < n) = false := decide_eq_false r3
                have HT : Hid (tiD ⟨a, l⟩ n = (⟨a, l⟩, false)) := by unfold Hid tiD; simp only; rw [if_pos (by omega)]
                rw [HT.out]
                clear r1 r2 r3
                go_enter Try.func7, Try.ntmps7
                go_wp2
                go_quiet (fail)
                have hAW2 := Lib.hid (hA1.out.drewN nq)
                have hNW2 := Lib.hid (hN.out.drewN nq)
                have hgW2 := Lib.hid (grown_trans hg.out (grown_below (r := some g) (below_drewN (w.alloc (.cells #[.int .i64 kd, .int .i64 n] 32)) nq)))
                clear c0 c1 f0 f1 hA1 hN hg
                generalize ((w.alloc (.cells #[.int .i64 kd, .int .i64 n] 32))).drewN nq = W2 at *
                have c0 : W2.cell? ⟨g, 0, none⟩ = some (.int .i64 l) := hAW2.out.cell 0
                have c1 : W2.cell? ⟨g, 1, none⟩ = some (.int .i64 m) := hAW2.out.cell 1
                have f0 := hAW2.out.frozen 0
                have z1 : W2.cell? ⟨w.heap.size, 1, none⟩ = some (.int .i64 n) := hNW2.out.cell 1
                have HP : Hid (DX W2 g ⟨a, l⟩) := dx_of hAW2.out rfl HM.out
                go_wp2
                go_ret
                exact ⟨rfl, HP.out, hgW2.out⟩
          · have d1 : decide (0 < l) = false := decide_eq_false r1
            have HT : Hid (tiD ⟨a, l⟩ n = (⟨a, l⟩, false)) := by unfold Hid tiD; simp only; rw [if_pos (by omega)]
            rw [HT.out]
            clear r1
            go_enter Try.func7, Try.ntmps7
            go_wp2
            go_quiet (fail)
            have hAW2 := Lib.hid (hA1.out.drewN nq)
            have hNW2 := Lib.hid (hN.out.drewN nq)
            have hgW2 := Lib.hid (grown_trans hg.out (grown_below (r := some g) (below_drewN (w.alloc (.cells #[.int .i64 kd, .int .i64 n] 32)) nq)))
            clear c0 c1 f0 f1 hA1 hN hg
            generalize ((w.alloc (.cells #[.int .i64 kd, .int .i64 n] 32))).drewN nq = W2 at *
            have c0 : W2.cell? ⟨g, 0, none⟩ = some (.int .i64 l) := hAW2.out.cell 0
            have c1 : W2.cell? ⟨g, 1, none⟩ = some (.int .i64 m) := hAW2.out.cell 1
            have f0 := hAW2.out.frozen 0
            have z1 : W2.cell? ⟨w.heap.size, 1, none⟩ = some (.int .i64 n) := hNW2.out.cell 1
            have HP : Hid (DX W2 g ⟨a, l⟩) := dx_of hAW2.out rfl HM.out
            go_wp2
            go_ret
            exact ⟨rfl, HP.out, hgW2.out⟩
        · have HD : Hid (doD ⟨a, l⟩ ⟨kd, n⟩ = (⟨a, l⟩, false)) := by unfold Hid doD; simp only; rw [if_neg q1, if_neg q2, if_neg q3, if_neg q4]
          have e4 : (kd == 4) = false := by simpa using q4
          rw [HD.out]
          have HP : Hid (DX (w.alloc (.cells #[.int .i64 kd, .int .i64 n] 32)) g ⟨a, l⟩) := dx_of hA1.out rfl HM.out
          clear q1 q2 q3 q4
          go_enter Try.func7, Try.ntmps7
          go_wp2
          go_ret
          exact ⟨rfl, HP.out, hg.out⟩

set_option maxHeartbeats 1600000 in
set_option maxRecDepth 100000 in
theorem ldo_any (g : Nat) (d : DG) (x : DA) (w : World) (h : DM w g d) (hok : d.ok) (hx : x.n < 9223372036854775808) :
    Calls Try.prog 6 #[.pointer (some ⟨g, 0, none⟩), daV x] w fun e w' => e = .returned (.bool (doD d x).2) ∧ DM w' g (doD d x).1 ∧ w.grownBy w' (some g) := by
  obtain ⟨kd, n⟩ := x
  simp only at hx
  unfold daV
  simp only
  have hA1 : DM (w.alloc (.cells #[.int .i64 kd, .int .i64 n] 32)) g d := Arr.alloc h _
  have hg := Lib.hid (grown_alloc w (.cells #[.int .i64 kd, .int .i64 n] 32) (some g))
  have H1 := Lib.hid (darm_any g d n _ hA1)
  have H2 := Lib.hid (dkick_any g d _ hA1)
  have H3 := Lib.hid (doff_any g d _ hA1)
  have H4 := Lib.hid (dtick_any g d n _ hA1 hok hx)
  have HA := Lib.hid hA1
  clear h hA1 hx hok
  by_cases q1 : kd = 1
  · have HD : Hid (doD d ⟨kd, n⟩ = (arD n, false)) := by unfold Hid doD; simp only; rw [if_pos q1]
    have e1 : (kd == 1) = true := by simpa using q1
    rw [HD.out]
    clear q1
    go_enter Try.func6, Try.ntmps6
    go_wp2_with fail
    refine H1.out.mono ?_
    rintro e w1 ⟨rfl, h1, h2⟩
    have HP := Lib.hid (And.intro h1 (grown_trans hg.out h2))
    clear h1 h2 H1 H2 H3 H4
    go_wp2
    go_ret
    exact ⟨rfl, HP.out⟩
  · have e1 : (kd == 1) = false := by simpa using q1
    by_cases q2 : kd = 2
    · have HD : Hid (doD d ⟨kd, n⟩ = (kiD d, false)) := by unfold Hid doD; simp only; rw [if_neg q1, if_pos q2]
      have e2 : (kd == 2) = true := by simpa using q2
      rw [HD.out]
      clear q1 q2
      go_enter Try.func6, Try.ntmps6
      go_wp2_with fail
      refine H2.out.mono ?_
      rintro e w1 ⟨rfl, h1, h2⟩
      have HP := Lib.hid (And.intro h1 (grown_trans hg.out h2))
      clear h1 h2 H1 H2 H3 H4
      go_wp2
      go_ret
      exact ⟨rfl, HP.out⟩
    · have e2 : (kd == 2) = false := by simpa using q2
      by_cases q3 : kd = 3
      · have HD : Hid (doD d ⟨kd, n⟩ = (dg0, false)) := by unfold Hid doD; simp only; rw [if_neg q1, if_neg q2, if_pos q3]
        have e3 : (kd == 3) = true := by simpa using q3
        rw [HD.out]
        clear q1 q2 q3
        go_enter Try.func6, Try.ntmps6
        go_wp2_with fail
        refine H3.out.mono ?_
        rintro e w1 ⟨rfl, h1, h2⟩
        have HP := Lib.hid (And.intro h1 (grown_trans hg.out h2))
        clear h1 h2 H1 H2 H3 H4
        go_wp2
        go_ret
        exact ⟨rfl, HP.out⟩
      · have e3 : (kd == 3) = false := by simpa using q3
        by_cases q4 : kd = 4
        · have HD : Hid (doD d ⟨kd, n⟩ = tiD d n) := by unfold Hid doD; simp only; rw [if_neg q1, if_neg q2, if_neg q3, if_pos q4]
          have e4 : (kd == 4) = true := by simpa using q4
          rw [HD.out]
          clear q1 q2 q3 q4
          go_enter Try.func6, Try.ntmps6
          go_wp2_with fail
          refine H4.out.mono ?_
          rintro e w1 ⟨rfl, h1, h2⟩
          have HP := Lib.hid (And.intro h1 (grown_trans hg.out h2))
          clear h1 h2 H1 H2 H3 H4
          go_wp2
          go_ret
          exact ⟨rfl, HP.out⟩
        · have HD : Hid (doD d ⟨kd, n⟩ = (d, false)) := by unfold Hid doD; simp only; rw [if_neg q1, if_neg q2, if_neg q3, if_neg q4]
          have e4 : (kd == 4) = false := by simpa using q4
          rw [HD.out]
          clear q1 q2 q3 q4 H1 H2 H3 H4
          go_enter Try.func6, Try.ntmps6
          go_wp2
          go_ret
          exact ⟨rfl, HA.out, hg.out⟩

set_option maxHeartbeats 1600000 in
set_option maxRecDepth 100000 in
theorem ldo_nil (x : DA) (w : World) : Calls Try.prog 6 #[.pointer none, daV x] w fun e w' => e = .returned (.bool false) ∧ Below w.heap.size w w' := by
  obtain ⟨kd, n⟩ := x
  unfold daV
  simp only
  have HB := Lib.hid ((Below.refl w.heap.size w).alloc (Nat.le_refl _) (.cells #[.int .i64 kd, .int .i64 n] 32))
  by_cases q1 : kd = 1
  · have e1 : (kd == 1) = true := by simpa using q1
    clear q1
    go_enter Try.func6, Try.ntmps6
    go_wp2_with fail
    refine (darm_nil _ _).mono ?_
    rintro e w1 ⟨rfl, rfl⟩
    go_wp2
    go_ret
    exact ⟨rfl, HB.out⟩
  · have e1 : (kd == 1) = false := by simpa using q1
    by_cases q2 : kd = 2
    · have e2 : (kd == 2) = true := by simpa using q2
      clear q1 q2
      go_enter Try.func6, Try.ntmps6
      go_wp2_with fail
      refine (dkick_nil _).mono ?_
      rintro e w1 ⟨rfl, rfl⟩
      go_wp2
      go_ret
      exact ⟨rfl, HB.out⟩
    · have e2 : (kd == 2) = false := by simpa using q2
      by_cases q3 : kd = 3
      · have e3 : (kd == 3) = true := by simpa using q3
        clear q1 q2 q3
        go_enter Try.func6, Try.ntmps6
        go_wp2_with fail
        refine (doff_nil _).mono ?_
        rintro e w1 ⟨rfl, rfl⟩
        go_wp2
        go_ret
        exact ⟨rfl, HB.out⟩
      · have e3 : (kd == 3) = false := by simpa using q3
        by_cases q4 : kd = 4
        · have e4 : (kd == 4) = true := by simpa using q4
          clear q1 q2 q3 q4
          go_enter Try.func6, Try.ntmps6
          go_wp2_with fail
          refine (dtick_nil _ _).mono ?_
          rintro e w1 ⟨rfl, rfl⟩
          go_wp2
          go_ret
          exact ⟨rfl, HB.out⟩
        · have e4 : (kd == 4) = false := by simpa using q4
          clear q1 q2 q3 q4
          go_enter Try.func6, Try.ntmps6
          go_wp2
          go_ret
          exact ⟨rfl, HB.out⟩

/-- A dog of the call's own, behind a call that changed nothing else of it. -/
def Ow8 (B : Nat) (w W : World) (g : Nat) (d : DG) : Prop := DM W g d ∧ B ≤ g ∧ Below B w W
theorem Ow8.step {B g : Nat} {w W W' : World} {d d' : DG} (h : Ow8 B w W g d) (h1 : DM W' g d') (h2 : W.grownBy W' (some g)) : Ow8 B w W' g d' :=
  ⟨h1, h.2.1, below_grown h.2.2 h2 h.2.1 (by have := Arr.lt h.1; have := h.2.1; omega)⟩
theorem ow8_tick {B g : Nat} {w W : World} {d : DG} (h : Ow8 B w W g d) (hok : d.ok) (n : Int) (hn : n < 9223372036854775808) {d' : DG} {b : Bool} (ht : tiD d n = (d', b)) :
    Calls Try.prog 10 #[.pointer (some ⟨g, 0, none⟩), .int .i64 n] W fun e w' => e = .returned (.bool b) ∧ Ow8 B w w' g d' := by
  have := dtick_any g d n W h.1 hok hn
  rw [ht] at this
  exact this.mono fun _ _ ⟨h1, h2, h3⟩ => ⟨h1, h.step h2 h3⟩

set_option maxHeartbeats 1600000 in
set_option maxRecDepth 100000 in
theorem awake8 (w : World) : Calls Try.prog 5 #[] w fun e w' => e = .returned (.bool true) ∧ Below w.heap.size w w' := by
  have H0 : Hid (Ow8 w.heap.size w (w.alloc (.cells #[.int .i64 0, .int .i64 0] 26)) w.heap.size dg0) := ⟨Arr.new w _ _, Nat.le_refl _, (Below.refl _ _).alloc (Nat.le_refl _) _⟩
  go_enter Try.func5, Try.ntmps5
  go_wp2_with fail
  refine (darm_any _ _ 3 _ H0.out.1).mono ?_
  rintro e w1 ⟨rfl, h1, h2⟩
  have H1 : Hid (Ow8 w.heap.size w w1 w.heap.size ⟨3, 3⟩) := H0.out.step h1 h2
  clear H0 h1 h2
  go_wp2_with fail
  refine (ow8_tick H1.out (by unfold DG.ok; simp) 2 (by decide) (d' := ⟨3, 1⟩) (b := false) rfl).mono ?_
  rintro e w2 ⟨rfl, h1⟩
  have H2 := Lib.hid h1
  clear H1 h1
  go_wp2_with fail
  refine (dkick_any _ _ _ H2.out.1).mono ?_
  rintro e w3 ⟨rfl, h1, h2⟩
  have H3 : Hid (Ow8 w.heap.size w w3 w.heap.size ⟨3, 3⟩) := H2.out.step h1 h2
  clear H2 h1 h2
  go_wp2_with fail
  refine (ow8_tick H3.out (by unfold DG.ok; simp) 2 (by decide) (d' := ⟨3, 1⟩) (b := false) rfl).mono ?_
  rintro e w4 ⟨rfl, h1⟩
  have H4 := Lib.hid h1
  clear H3 h1
  go_wp2_with fail
  refine (dleft_any _ _ _ H4.out.1).mono ?_
  rintro e w5 ⟨rfl, rfl⟩
  go_wp2_with fail
  refine (ow8_tick H4.out (by unfold DG.ok; simp) 1 (by decide) (d' := dg0) (b := true) rfl).mono ?_
  rintro e w6 ⟨rfl, h1⟩
  have H6 := Lib.hid h1
  clear H4 h1
  go_wp2_with fail
  refine (dleft_any _ _ _ H6.out.1).mono ?_
  rintro e w7 ⟨rfl, rfl⟩
  go_wp2_with fail
  refine (ow8_tick H6.out dg0_ok 9 (by decide) (d' := dg0) (b := false) rfl).mono ?_
  rintro e w8 ⟨rfl, h1⟩
  have HB := Lib.hid h1.2.2
  clear H6 h1
  go_wp2
  go_ret
  exact ⟨rfl, HB.out⟩
end Go.Proofs.Yteooafoamnfjbaa
