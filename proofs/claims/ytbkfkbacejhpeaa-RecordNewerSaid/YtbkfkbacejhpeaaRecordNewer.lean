/- The law RecordNewer: whatever comes in it returns true. Conditions: the contracts of package record; two numbers of 32 bits. -/
import Derived.Test.YtbkfkbacejhpeaaReC
namespace Go.Proofs.Ytbkfkbacejhpeaa
open Go.RowKit

set_option maxHeartbeats 1600000 in
set_option maxRecDepth 100000 in
theorem recordNewer_any (M : RecordMust) (a m : Int) (w : World) (ha : 0 ≤ a ∧ a < 4294967296) (hm : 0 ≤ m ∧ m < 4294967296) :
    Calls Try.prog 5 #[.int .u32 a, .int .u32 m] w fun e w' => e = .returned (.bool true) ∧ Below w.heap.size w w' := by
  have HAW := Lib.hid (awake20 M)
  obtain ⟨b, hb⟩ : ∃ b, b = (a + m) % 4294967296 := ⟨_, rfl⟩
  have hb0 : 0 ≤ b ∧ b < 4294967296 := by omega
  have e1 : IntKind.u32.wrap (a + m) = b := by rw [IntKind.wrap_u32, hb]
  have e2 : IntKind.i64.wrap a = a := IntWalk.i64_in _ (by omega)
  have e3 : IntKind.i64.wrap b = b := IntWalk.i64_in _ (by omega)
  have hn : 0 ≤ next20 a ∧ next20 a < 4294967296 := by unfold next20; omega
  have i64 : ∀ x : Int, 0 ≤ x ∧ x < 4294967296 → I64 x := fun x h => ⟨by omega, by omega⟩
  have HSA : Hid (∀ W, Calls Try.prog 11 #[.int .i64 a, .int .i64 a] W fun e w' => e = .returned (.bool false) ∧ Below W.heap.size W w') := fun W => by
    have h := M.newer a a W (i64 a ha) (i64 a ha)
    rw [newer_same] at h
    exact h
  have HNX : Hid (∀ W, Calls Try.prog 13 #[.int .i64 a] W fun e w' => e = .returned (.int .i64 (next20 a)) ∧ Below W.heap.size W w') := fun W => M.next a W (i64 a ha)
  have HNN : Hid (∀ W, Calls Try.prog 11 #[.int .i64 (next20 a), .int .i64 a] W fun e w' => e = .returned (.bool true) ∧ Below W.heap.size W w') := fun W => by
    have h := M.newer (next20 a) a W (i64 _ hn) (i64 a ha)
    rw [newer_next] at h
    exact h
  have HLA : Hid (1 ≤ m ∧ m < 2147483648 → newer20 b a = true ∧ newer20 a b = false) := fun h => newer_later ⟨m, by omega, h.1, h.2⟩
  have HBA : Hid (∀ W, Calls Try.prog 11 #[.int .i64 b, .int .i64 a] W fun e w' => e = .returned (.bool (newer20 b a)) ∧ Below W.heap.size W w') := fun W => M.newer b a W (i64 b hb0) (i64 a ha)
  have HAB : Hid (∀ W, Calls Try.prog 11 #[.int .i64 a, .int .i64 b] W fun e w' => e = .returned (.bool (newer20 a b)) ∧ Below W.heap.size W w') := fun W => M.newer a b W (i64 a ha) (i64 b hb0)
  generalize next20 a = nx at *
  generalize newer20 b a = n1 at *
  generalize newer20 a b = n2 at *
  have HB : Hid (Below w.heap.size w w) := Below.refl _ _
  clear M hb hb0 hn i64 ha
  by_cases q1 : 0 < m
  · have d1 : decide (0 < m) = true := decide_eq_true q1
    by_cases q2 : m < 2147483648
    · have d2 : decide (m < 2147483648) = true := decide_eq_true q2
      obtain ⟨rfl, rfl⟩ := HLA.out ⟨by omega, q2⟩
      clear q1 q2 HLA hm
      go_enter Try.func5, Try.ntmps5
      go_wp2_with fail
      refine (HBA.out _).mono ?_
      rintro e w1 ⟨rfl, hb⟩
      have HB := Lib.hid (HB.out.trans (hb.mono HB.out.size))
      clear hb
      go_wp2_with fail
      refine (HAB.out _).mono ?_
      rintro e w1 ⟨rfl, hb⟩
      have HB := Lib.hid (HB.out.trans (hb.mono HB.out.size))
      clear hb
      go_wp2_with fail
      refine (HSA.out _).mono ?_
      rintro e w1 ⟨rfl, hb⟩
      have HB := Lib.hid (HB.out.trans (hb.mono HB.out.size))
      clear hb
      go_wp2_with fail
      refine (HNX.out _).mono ?_
      rintro e w1 ⟨rfl, hb⟩
      have HB := Lib.hid (HB.out.trans (hb.mono HB.out.size))
      clear hb
      go_wp2_with fail
      refine (HNN.out _).mono ?_
      rintro e w1 ⟨rfl, hb⟩
      have HB := Lib.hid (HB.out.trans (hb.mono HB.out.size))
      clear hb
      go_wp2_with fail
      refine (HAW.out _).mono ?_
      rintro e w1 ⟨rfl, hb⟩
      have HB := Lib.hid (HB.out.trans (hb.mono HB.out.size))
      clear hb
      go_wp2
      go_ret
      exact ⟨rfl, HB.out⟩
    · have d2 : decide (m < 2147483648) = false := decide_eq_false q2
      clear q1 q2 HLA hm HBA HAB
      go_enter Try.func5, Try.ntmps5
      go_wp2_with fail
      refine (HSA.out _).mono ?_
      rintro e w1 ⟨rfl, hb⟩
      have HB := Lib.hid (HB.out.trans (hb.mono HB.out.size))
      clear hb
      go_wp2_with fail
      refine (HNX.out _).mono ?_
      rintro e w1 ⟨rfl, hb⟩
      have HB := Lib.hid (HB.out.trans (hb.mono HB.out.size))
      clear hb
      go_wp2_with fail
      refine (HNN.out _).mono ?_
      rintro e w1 ⟨rfl, hb⟩
      have HB := Lib.hid (HB.out.trans (hb.mono HB.out.size))
      clear hb
      go_wp2_with fail
      refine (HAW.out _).mono ?_
      rintro e w1 ⟨rfl, hb⟩
      have HB := Lib.hid (HB.out.trans (hb.mono HB.out.size))
      clear hb
      go_wp2
      go_ret
      exact ⟨rfl, HB.out⟩
  · have d1 : decide (0 < m) = false := decide_eq_false q1
    clear q1 HLA hm HBA HAB
    go_enter Try.func5, Try.ntmps5
    go_wp2_with fail
    refine (HSA.out _).mono ?_
    rintro e w1 ⟨rfl, hb⟩
    have HB := Lib.hid (HB.out.trans (hb.mono HB.out.size))
    clear hb
    go_wp2_with fail
    refine (HNX.out _).mono ?_
    rintro e w1 ⟨rfl, hb⟩
    have HB := Lib.hid (HB.out.trans (hb.mono HB.out.size))
    clear hb
    go_wp2_with fail
    refine (HNN.out _).mono ?_
    rintro e w1 ⟨rfl, hb⟩
    have HB := Lib.hid (HB.out.trans (hb.mono HB.out.size))
    clear hb
    go_wp2_with fail
    refine (HAW.out _).mono ?_
    rintro e w1 ⟨rfl, hb⟩
    have HB := Lib.hid (HB.out.trans (hb.mono HB.out.size))
    clear hb
    go_wp2
    go_ret
    exact ⟨rfl, HB.out⟩
end Go.Proofs.Ytbkfkbacejhpeaa
