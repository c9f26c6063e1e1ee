/- A watchdog in memory, and what package dog's calls make of it; a nil one sleeps. Conditions: the two numbers are such as can be. -/
import Derived.Test.YteooafoamnfjbaaDoPlain
import Derived.Test.YteooafoamnfjbaaChecked
import Derived.Test.YteooafoamnfjbaaArr
import Derived.Test.YteooafoamnfjbaaMem
import Derived.Deep.QuietTactic
namespace Go.Proofs.Yteooafoamnfjbaa
open Go.RowKit

/-- Block g is a Dog with these numbers. -/
def DM (w : World) (g : Nat) (d : DG) : Prop := Arr w g 26 #[.int .i64 d.a, .int .i64 d.l]
theorem DM.c0 {w : World} {g : Nat} {d : DG} (h : DM w g d) : w.cell? ⟨g, 0, none⟩ = some (.int .i64 d.a) := h.cell 0
theorem DM.c1 {w : World} {g : Nat} {d : DG} (h : DM w g d) : w.cell? ⟨g, 1, none⟩ = some (.int .i64 d.l) := h.cell 1

set_option maxHeartbeats 800000 in
theorem dleft_any (g : Nat) (d : DG) (w : World) (h : DM w g d) :
    Calls Try.prog 8 #[.pointer (some ⟨g, 0, none⟩)] w fun e w' => e = .returned (.int .i64 d.l) ∧ w = w' := by
  have c1 := h.c1
  clear h
  go_enter Try.func8, Try.ntmps8
  go_wp2
  go_ret
  exact ⟨rfl, rfl⟩
set_option maxHeartbeats 800000 in
theorem dleft_nil (w : World) : Calls Try.prog 8 #[.pointer none] w fun e w' => e = .returned (.int .i64 0) ∧ w = w' := by
  go_enter Try.func8, Try.ntmps8
  go_wp2
  go_ret
  exact ⟨rfl, rfl⟩

/-- Both numbers are stored. -/
theorem DM.put {w : World} {g : Nat} {d : DG} (h : DM w g d) (a l : Int) : DM ((w.setCell ⟨g, 0, none⟩ (.int .i64 a)).setCell ⟨g, 1, none⟩ (.int .i64 l)) g ⟨a, l⟩ ∧ w.grownBy ((w.setCell ⟨g, 0, none⟩ (.int .i64 a)).setCell ⟨g, 1, none⟩ (.int .i64 l)) (some g) :=
  ⟨(Arr.put h 0 (.int .i64 a)).put 1 (.int .i64 l), grown_put (grown_cell w g 0 _) 1 _⟩
theorem DM.put1 {w : World} {g : Nat} {d : DG} (h : DM w g d) (l : Int) : DM (w.setCell ⟨g, 1, none⟩ (.int .i64 l)) g ⟨d.a, l⟩ ∧ w.grownBy (w.setCell ⟨g, 1, none⟩ (.int .i64 l)) (some g) :=
  ⟨Arr.put h 1 (.int .i64 l), grown_cell w g 1 _⟩

set_option maxHeartbeats 800000 in
theorem doff_any (g : Nat) (d : DG) (w : World) (h : DM w g d) :
    Calls Try.prog 12 #[.pointer (some ⟨g, 0, none⟩)] w fun e w' => e = .returned (.tuple #[]) ∧ DM w' g dg0 ∧ w.grownBy w' (some g) := by
  have HP := Lib.hid (h.put 0 0)
  have c0 := h.c0
  have c1 := h.c1
  have f0 := Arr.frozen h 0
  have f1 := Arr.frozen h 1
  clear h
  go_enter Try.func12, Try.ntmps12
  go_wp2
  go_end0
  exact ⟨rfl, HP.out⟩
set_option maxHeartbeats 800000 in
theorem doff_nil (w : World) : Calls Try.prog 12 #[.pointer none] w fun e w' => e = .returned (.tuple #[]) ∧ w = w' := by
  go_enter Try.func12, Try.ntmps12
  go_wp2
  go_end0
  exact ⟨rfl, rfl⟩

set_option maxHeartbeats 800000 in
theorem dkick_any (g : Nat) (d : DG) (w : World) (h : DM w g d) :
    Calls Try.prog 11 #[.pointer (some ⟨g, 0, none⟩)] w fun e w' => e = .returned (.tuple #[]) ∧ DM w' g (kiD d) ∧ w.grownBy w' (some g) := by
  have HP := Lib.hid (h.put1 d.a)
  have c0 := h.c0
  have c1 := h.c1
  have f1 := Arr.frozen h 1
  clear h
  go_enter Try.func11, Try.ntmps11
  go_wp2
  go_end0
  exact ⟨rfl, HP.out⟩
set_option maxHeartbeats 800000 in
theorem dkick_nil (w : World) : Calls Try.prog 11 #[.pointer none] w fun e w' => e = .returned (.tuple #[]) ∧ w = w' := by
  go_enter Try.func11, Try.ntmps11
  go_wp2
  go_end0
  exact ⟨rfl, rfl⟩

set_option maxHeartbeats 800000 in
theorem darm_any (g : Nat) (d : DG) (n : Int) (w : World) (h : DM w g d) :
    Calls Try.prog 9 #[.pointer (some ⟨g, 0, none⟩), .int .i64 n] w fun e w' => e = .returned (.tuple #[]) ∧ DM w' g (arD n) ∧ w.grownBy w' (some g) := by
  by_cases hn : n < 1
  · have HO := Lib.hid (doff_any g d w h)
    have HA : Hid (arD n = dg0) := by unfold Hid arD; rw [if_pos hn]
    have d1 : decide (n < 1) = true := decide_eq_true hn
    clear h
    rw [HA.out]
    go_enter Try.func9, Try.ntmps9
    go_wp2_with fail
    refine HO.out.mono ?_
    rintro e w1 ⟨rfl, h1⟩
    have H1 := Lib.hid h1
    clear h1
    go_wp2
    go_end0
    exact ⟨rfl, H1.out⟩
  · have HA : Hid (arD n = ⟨n, n⟩) := by unfold Hid arD; rw [if_neg hn]
    have d1 : decide (n < 1) = false := decide_eq_false hn
    have HP := Lib.hid (h.put n n)
    have c0 := h.c0
    have c1 := h.c1
    have f0 := Arr.frozen h 0
    have f1 := Arr.frozen h 1
    clear h hn
    rw [HA.out]
    go_enter Try.func9, Try.ntmps9
    go_wp2
    go_end0
    exact ⟨rfl, HP.out⟩
set_option maxHeartbeats 800000 in
theorem darm_nil (n : Int) (w : World) : Calls Try.prog 9 #[.pointer none, .int .i64 n] w fun e w' => e = .returned (.tuple #[]) ∧ w = w' := by
  go_enter Try.func9, Try.ntmps9
  go_wp2
  go_end0
  exact ⟨rfl, rfl⟩

set_option maxHeartbeats 800000 in
theorem dtick_any (g : Nat) (d : DG) (n : Int) (w : World) (h : DM w g d) (hok : d.ok) (hn2 : n < 9223372036854775808) :
    Calls Try.prog 10 #[.pointer (some ⟨g, 0, none⟩), .int .i64 n] w fun e w' => e = .returned (.bool (tiD d n).2) ∧ DM w' g (tiD d n).1 ∧ w.grownBy w' (some g) := by
  have HL := Lib.hid (dleft_any g d w h)
  have HH := Lib.hid h
  have HO := Lib.hid (doff_any g d w h)
  have HP := Lib.hid (h.put1 (d.l - n))
  have c1 := h.c1
  have f1 := Arr.frozen h 1
  have hk := hok
  unfold DG.ok at hk
  clear h hok
  obtain ⟨a, l⟩ := d
  simp only at hk HL HO HP c1
  obtain ⟨k1, k2, k3, k4⟩ := hk
  clear k4
  by_cases q1 : l = 0
  · have HT : Hid (tiD ⟨a, l⟩ n = (⟨a, l⟩, false)) := by unfold Hid tiD; rw [if_pos (.inl q1)]
    have d1 : (l == 0) = true := by simpa using q1
    rw [HT.out]
    clear HO HP c1 f1 q1
    go_enter Try.func10, Try.ntmps10
    go_wp2_with fail
    refine HL.out.mono ?_
    rintro e w1 ⟨rfl, rfl⟩
    go_wp2
    go_ret
    exact ⟨rfl, HH.out, grown_refl _ _⟩
  · have d1 : (l == 0) = false := by simpa using q1
    by_cases q2 : n < 1
    · have HT : Hid (tiD ⟨a, l⟩ n = (⟨a, l⟩, false)) := by unfold Hid tiD; rw [if_pos (.inr q2)]
      have d2 : decide (n < 1) = true := decide_eq_true q2
      rw [HT.out]
      clear HO HP c1 f1 q1 q2
      go_enter Try.func10, Try.ntmps10
      go_wp2_with fail
      refine HL.out.mono ?_
      rintro e w1 ⟨rfl, rfl⟩
      go_wp2
      go_ret
      exact ⟨rfl, HH.out, grown_refl _ _⟩
    · have d2 : decide (n < 1) = false := decide_eq_false q2
      by_cases q3 : l ≤ n
      · have HT : Hid (tiD ⟨a, l⟩ n = (dg0, true)) := by unfold Hid tiD; rw [if_neg (by rintro (h | h); exact q1 h; exact q2 h), if_pos q3]
        have d3 : decide (l ≤ n) = true := decide_eq_true q3
        rw [HT.out]
        clear HP c1 f1 q1 q2 q3
        go_enter Try.func10, Try.ntmps10
        go_wp2_with fail
        refine HL.out.mono ?_
        rintro e w1 ⟨rfl, rfl⟩
        go_wp2_with fail
        refine HO.out.mono ?_
        rintro e w1 ⟨rfl, h1⟩
        have H1 := Lib.hid h1
        clear h1
        go_wp2
        go_ret
        exact ⟨rfl, H1.out⟩
      · have HT : Hid (tiD ⟨a, l⟩ n = (⟨a, l - n⟩, false)) := by unfold Hid tiD; rw [if_neg (by rintro (h | h); exact q1 h; exact q2 h), if_neg q3]
        have d3 : decide (l ≤ n) = false := decide_eq_false q3
        rw [HT.out]
        have h4 : -9223372036854775808 ≤ l - n := by omega
        have h5 : l - n < 9223372036854775808 := by omega
        clear HO q1 q3
        go_enter Try.func10, Try.ntmps10
        go_wp2_with fail
        refine HL.out.mono ?_
        rintro e w1 ⟨rfl, rfl⟩
        go_wp2
        go_ret
        exact ⟨rfl, HP.out⟩
set_option maxHeartbeats 800000 in
theorem dtick_nil (n : Int) (w : World) : Calls Try.prog 10 #[.pointer none, .int .i64 n] w fun e w' => e = .returned (.bool false) ∧ w = w' := by
  have HL := Lib.hid (dleft_nil w)
  go_enter Try.func10, Try.ntmps10
  go_wp2_with fail
  refine HL.out.mono ?_
  rintro e w1 ⟨rfl, rfl⟩
  go_wp2
  go_ret
  exact ⟨rfl, rfl⟩
end Go.Proofs.Yteooafoamnfjbaa
