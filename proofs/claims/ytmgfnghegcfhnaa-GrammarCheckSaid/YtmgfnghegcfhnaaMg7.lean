/- What the document's letter, plain, Unit, Prop and Node of layer 19 return. Conditions: strings of at most 2^40 bytes. -/
import Derived.Test.YtmgfnghegcfhnaaGmPlain
import Derived.Test.YtmgfnghegcfhnaaChecked
import Derived.Test.YtmgfnghegcfhnaaMg5
import Derived.Test.YtmgfnghegcfhnaaMg6
import Derived.IntWalk
namespace Go.Proofs.Ytmgfnghegcfhnaa
open Go.RowKit

set_option maxHeartbeats 800000 in
theorem letter_any (k : Nat) (w : World) : Calls Try.prog 24 #[.int .u8 (k : Nat)] w fun e w' => e = .returned (.bool (letC k)) ∧ w' = w := by
  by_cases q1 : 97 ≤ k
  · have d1 : decide ((97 : Int) ≤ (k : Int)) = true := decide_eq_true (by omega)
    have n1 : decide (97 ≤ k) = true := decide_eq_true q1
    by_cases q2 : k ≤ 122
    · have d2 : decide ((k : Int) ≤ (122 : Int)) = true := decide_eq_true (by omega)
      have n2 : decide (k ≤ 122) = true := decide_eq_true q2
      have HN : Hid (letC k = true) := by unfold Hid letC; simp [n1, n2]
      clear q1 q2
      go_enter Try.func24, Try.ntmps24
      go_wp2
      go_ret
      exact ⟨by rw [HN.out]; rfl, rfl⟩
    · have d2 : decide ((k : Int) ≤ (122 : Int)) = false := decide_eq_false (by omega)
      have n2 : decide (k ≤ 122) = false := decide_eq_false q2
      by_cases q3 : 65 ≤ k
      · have d3 : decide ((65 : Int) ≤ (k : Int)) = true := decide_eq_true (by omega)
        have n3 : decide (65 ≤ k) = true := decide_eq_true q3
        by_cases q4 : k ≤ 90
        · have d4 : decide ((k : Int) ≤ (90 : Int)) = true := decide_eq_true (by omega)
          have n4 : decide (k ≤ 90) = true := decide_eq_true q4
          have HN : Hid (letC k = true) := by unfold Hid letC; simp [n1, n2, n3, n4]
          clear q1 q2 q3 q4
          go_enter Try.func24, Try.ntmps24
          go_wp2
          go_ret
          exact ⟨by rw [HN.out]; rfl, rfl⟩
        · have d4 : decide ((k : Int) ≤ (90 : Int)) = false := decide_eq_false (by omega)
          have n4 : decide (k ≤ 90) = false := decide_eq_false q4
          have HN : Hid (letC k = false) := by unfold Hid letC; simp [n1, n2, n3, n4]
          clear q1 q2 q3 q4
          go_enter Try.func24, Try.ntmps24
          go_wp2
          go_ret
          exact ⟨by rw [HN.out]; rfl, rfl⟩
      · have d3 : decide ((65 : Int) ≤ (k : Int)) = false := decide_eq_false (by omega)
        have n3 : decide (65 ≤ k) = false := decide_eq_false q3
        have HN : Hid (letC k = false) := by unfold Hid letC; simp [n1, n2, n3]
        clear q1 q2 q3
        go_enter Try.func24, Try.ntmps24
        go_wp2
        go_ret
        exact ⟨by rw [HN.out]; rfl, rfl⟩
  · have d1 : decide ((97 : Int) ≤ (k : Int)) = false := decide_eq_false (by omega)
    have n1 : decide (97 ≤ k) = false := decide_eq_false q1
    by_cases q3 : 65 ≤ k
    · have d3 : decide ((65 : Int) ≤ (k : Int)) = true := decide_eq_true (by omega)
      have n3 : decide (65 ≤ k) = true := decide_eq_true q3
      by_cases q4 : k ≤ 90
      · have d4 : decide ((k : Int) ≤ (90 : Int)) = true := decide_eq_true (by omega)
        have n4 : decide (k ≤ 90) = true := decide_eq_true q4
        have HN : Hid (letC k = true) := by unfold Hid letC; simp [n1, n3, n4]
        clear q1 q3 q4
        go_enter Try.func24, Try.ntmps24
        go_wp2
        go_ret
        exact ⟨by rw [HN.out]; rfl, rfl⟩
      · have d4 : decide ((k : Int) ≤ (90 : Int)) = false := decide_eq_false (by omega)
        have n4 : decide (k ≤ 90) = false := decide_eq_false q4
        have HN : Hid (letC k = false) := by unfold Hid letC; simp [n1, n3, n4]
        clear q1 q3 q4
        go_enter Try.func24, Try.ntmps24
        go_wp2
        go_ret
        exact ⟨by rw [HN.out]; rfl, rfl⟩
    · have d3 : decide ((65 : Int) ≤ (k : Int)) = false := decide_eq_false (by omega)
      have n3 : decide (65 ≤ k) = false := decide_eq_false q3
      have HN : Hid (letC k = false) := by unfold Hid letC; simp [n1, n3]
      clear q1 q3
      go_enter Try.func24, Try.ntmps24
      go_wp2
      go_ret
      exact ⟨by rw [HN.out]; rfl, rfl⟩

set_option maxHeartbeats 3200000 in
theorem gplain_any (k : Nat) (w : World) : Calls Try.prog 25 #[.int .u8 (k : Nat)] w fun e w' => e = .returned (.bool (plaC k)) ∧ w' = w := by
  have HL := Lib.hid (letter_any k w)
  cases hl : letC k with
  | true =>
    rw [hl] at HL
    have HN : Hid (plaC k = true) := by unfold Hid plaC; simp [hl]
    go_enter Try.func25, Try.ntmps25
    go_wp2_with fail
    refine HL.out.mono ?_
    rintro e w1 ⟨rfl, rfl⟩
    go_wp2
    go_ret
    exact ⟨by rw [HN.out]; rfl, rfl⟩
  | false =>
    rw [hl] at HL
    by_cases q1 : 48 ≤ k
    · have d1 : decide ((48 : Int) ≤ (k : Int)) = true := decide_eq_true (by omega)
      have n1 : decide (48 ≤ k) = true := decide_eq_true q1
      by_cases q2 : k ≤ 57
      · have d2 : decide ((k : Int) ≤ 57) = true := decide_eq_true (by omega)
        have n2 : decide (k ≤ 57) = true := decide_eq_true q2
        have HN : Hid (plaC k = true) := by unfold Hid plaC; simp [hl, n1, n2]
        clear q1 q2
        go_enter Try.func25, Try.ntmps25
        go_wp2_with fail
        refine HL.out.mono ?_
        rintro e w1 ⟨rfl, rfl⟩
        go_wp2
        go_ret
        exact ⟨by rw [HN.out]; rfl, rfl⟩
      · have d2 : decide ((k : Int) ≤ 57) = false := decide_eq_false (by omega)
        have n2 : decide (k ≤ 57) = false := decide_eq_false q2
        by_cases q3 : k = 44
        · have d3 : ((k : Int) == 44) = true := by rw [q3]; rfl
          have n3 : decide (k = 44) = true := decide_eq_true q3
          have HN : Hid (plaC k = true) := by unfold Hid plaC; simp [hl, n1, n2, n3]
          clear q1 q2 q3
          go_enter Try.func25, Try.ntmps25
          go_wp2_with fail
          refine HL.out.mono ?_
          rintro e w1 ⟨rfl, rfl⟩
          go_wp2
          go_ret
          exact ⟨by rw [HN.out]; rfl, rfl⟩
        · have d3 : ((k : Int) == 44) = false := by simp; omega
          have n3 : decide (k = 44) = false := decide_eq_false q3
          by_cases q4 : k = 46
          · have d4 : ((k : Int) == 46) = true := by rw [q4]; rfl
            have n4 : decide (k = 46) = true := decide_eq_true q4
            have HN : Hid (plaC k = true) := by unfold Hid plaC; simp [hl, n1, n2, n3, n4]
            clear q1 q2 q3 q4
            go_enter Try.func25, Try.ntmps25
            go_wp2_with fail
            refine HL.out.mono ?_
            rintro e w1 ⟨rfl, rfl⟩
            go_wp2
            go_ret
            exact ⟨by rw [HN.out]; rfl, rfl⟩
          · have d4 : ((k : Int) == 46) = false := by simp; omega
            have n4 : decide (k = 46) = false := decide_eq_false q4
            by_cases q5 : k = 95
            · have d5 : ((k : Int) == 95) = true := by rw [q5]; rfl
              have n5 : decide (k = 95) = true := decide_eq_true q5
              have HN : Hid (plaC k = true) := by unfold Hid plaC; simp [hl, n1, n2, n3, n4, n5]
              clear q1 q2 q3 q4 q5
              go_enter Try.func25, Try.ntmps25
              go_wp2_with fail
              refine HL.out.mono ?_
              rintro e w1 ⟨rfl, rfl⟩
              go_wp2
              go_ret
              exact ⟨by rw [HN.out]; rfl, rfl⟩
            · have d5 : ((k : Int) == 95) = false := by simp; omega
              have n5 : decide (k = 95) = false := decide_eq_false q5
              by_cases q6 : k = 43
              · have d6 : ((k : Int) == 43) = true := by rw [q6]; rfl
                have n6 : decide (k = 43) = true := decide_eq_true q6
                have HN : Hid (plaC k = true) := by unfold Hid plaC; simp [hl, n1, n2, n3, n4, n5, n6]
                clear q1 q2 q3 q4 q5 q6
                go_enter Try.func25, Try.ntmps25
                go_wp2_with fail
                refine HL.out.mono ?_
                rintro e w1 ⟨rfl, rfl⟩
                go_wp2
                go_ret
                exact ⟨by rw [HN.out]; rfl, rfl⟩
              · have d6 : ((k : Int) == 43) = false := by simp; omega
                have n6 : decide (k = 43) = false := decide_eq_false q6
                by_cases q7 : k = 45
                · have d7 : ((k : Int) == 45) = true := by rw [q7]; rfl
                  have n7 : decide (k = 45) = true := decide_eq_true q7
                  have HN : Hid (plaC k = true) := by unfold Hid plaC; simp [hl, n1, n2, n3, n4, n5, n6, n7]
                  clear q1 q2 q3 q4 q5 q6 q7
                  go_enter Try.func25, Try.ntmps25
                  go_wp2_with fail
                  refine HL.out.mono ?_
                  rintro e w1 ⟨rfl, rfl⟩
                  go_wp2
                  go_ret
                  exact ⟨by rw [HN.out]; rfl, rfl⟩
                · have d7 : ((k : Int) == 45) = false := by simp; omega
                  have n7 : decide (k = 45) = false := decide_eq_false q7
                  have HN : Hid (plaC k = false) := by unfold Hid plaC; simp [hl, n1, n2, n3, n4, n5, n6, n7]
                  clear q1 q2 q3 q4 q5 q6 q7
                  go_enter Try.func25, Try.ntmps25
                  go_wp2_with fail
                  refine HL.out.mono ?_
                  rintro e w1 ⟨rfl, rfl⟩
                  go_wp2
                  go_ret
                  exact ⟨by rw [HN.out]; rfl, rfl⟩
    · have d1 : decide ((48 : Int) ≤ (k : Int)) = false := decide_eq_false (by omega)
      have n1 : decide (48 ≤ k) = false := decide_eq_false q1
      by_cases q3 : k = 44
      · have d3 : ((k : Int) == 44) = true := by rw [q3]; rfl
        have n3 : decide (k = 44) = true := decide_eq_true q3
        have HN : Hid (plaC k = true) := by unfold Hid plaC; simp [hl, n1, n3]
        clear q1 q3
        go_enter Try.func25, Try.ntmps25
        go_wp2_with fail
        refine HL.out.mono ?_
        rintro e w1 ⟨rfl, rfl⟩
        go_wp2
        go_ret
        exact ⟨by rw [HN.out]; rfl, rfl⟩
      · have d3 : ((k : Int) == 44) = false := by simp; omega
        have n3 : decide (k = 44) = false := decide_eq_false q3
        by_cases q4 : k = 46
        · have d4 : ((k : Int) == 46) = true := by rw [q4]; rfl
          have n4 : decide (k = 46) = true := decide_eq_true q4
          have HN : Hid (plaC k = true) := by unfold Hid plaC; simp [hl, n1, n3, n4]
          clear q1 q3 q4
          go_enter Try.func25, Try.ntmps25
          go_wp2_with fail
          refine HL.out.mono ?_
          rintro e w1 ⟨rfl, rfl⟩
          go_wp2
          go_ret
          exact ⟨by rw [HN.out]; rfl, rfl⟩
        · have d4 : ((k : Int) == 46) = false := by simp; omega
          have n4 : decide (k = 46) = false := decide_eq_false q4
          by_cases q5 : k = 95
          · have d5 : ((k : Int) == 95) = true := by rw [q5]; rfl
            have n5 : decide (k = 95) = true := decide_eq_true q5
            have HN : Hid (plaC k = true) := by unfold Hid plaC; simp [hl, n1, n3, n4, n5]
            clear q1 q3 q4 q5
            go_enter Try.func25, Try.ntmps25
            go_wp2_with fail
            refine HL.out.mono ?_
            rintro e w1 ⟨rfl, rfl⟩
            go_wp2
            go_ret
            exact ⟨by rw [HN.out]; rfl, rfl⟩
          · have d5 : ((k : Int) == 95) = false := by simp; omega
            have n5 : decide (k = 95) = false := decide_eq_false q5
            by_cases q6 : k = 43
            · have d6 : ((k : Int) == 43) = true := by rw [q6]; rfl
              have n6 : decide (k = 43) = true := decide_eq_true q6
              have HN : Hid (plaC k = true) := by unfold Hid plaC; simp [hl, n1, n3, n4, n5, n6]
              clear q1 q3 q4 q5 q6
              go_enter Try.func25, Try.ntmps25
              go_wp2_with fail
              refine HL.out.mono ?_
              rintro e w1 ⟨rfl, rfl⟩
              go_wp2
              go_ret
              exact ⟨by rw [HN.out]; rfl, rfl⟩
            · have d6 : ((k : Int) == 43) = false := by simp; omega
              have n6 : decide (k = 43) = false := decide_eq_false q6
              by_cases q7 : k = 45
              · have d7 : ((k : Int) == 45) = true := by rw [q7]; rfl
                have n7 : decide (k = 45) = true := decide_eq_true q7
                have HN : Hid (plaC k = true) := by unfold Hid plaC; simp [hl, n1, n3, n4, n5, n6, n7]
                clear q1 q3 q4 q5 q6 q7
                go_enter Try.func25, Try.ntmps25
                go_wp2_with fail
                refine HL.out.mono ?_
                rintro e w1 ⟨rfl, rfl⟩
                go_wp2
                go_ret
                exact ⟨by rw [HN.out]; rfl, rfl⟩
              · have d7 : ((k : Int) == 45) = false := by simp; omega
                have n7 : decide (k = 45) = false := decide_eq_false q7
                have HN : Hid (plaC k = false) := by unfold Hid plaC; simp [hl, n1, n3, n4, n5, n6, n7]
                clear q1 q3 q4 q5 q6 q7
                go_enter Try.func25, Try.ntmps25
                go_wp2_with fail
                refine HL.out.mono ?_
                rintro e w1 ⟨rfl, rfl⟩
                go_wp2
                go_ret
                exact ⟨by rw [HN.out]; rfl, rfl⟩
end Go.Proofs.Ytmgfnghegcfhnaa
