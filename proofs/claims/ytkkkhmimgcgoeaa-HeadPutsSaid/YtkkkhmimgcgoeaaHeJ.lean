/- The program's own tests of layer 11: there, refers, valid; Part. Conditions: numbers of 64 bits; strings of at most 2^40 bytes. -/
import Derived.Test.YtkkkhmimgcgoeaaHeI
namespace Go.Proofs.Ytkkkhmimgcgoeaa
open Go.RowKit

/-- A span is within so many bytes. -/
def thereB (a n t : Int) : Bool := decide (0 ≤ a ∧ a ≤ t ∧ 0 ≤ n ∧ n ≤ t - a)
def refB (tot at_ n : Int) : Bool := decide (40 ≤ at_ ∧ at_ ≤ tot ∧ 0 ≤ n ∧ n ≤ tot - at_)

set_option maxHeartbeats 1600000 in
set_option maxRecDepth 100000 in
theorem there_any (a n t : Int) (w : World) (ha : in64 a) (ht : in64 t) :
    Calls Try.prog 16 #[.agg #[.int .i64 a, .int .i64 n], .int .i64 t] w fun e w' => e = .returned (.bool (thereB a n t)) ∧ Below w.heap.size w w' := by
  have HA : Hid (in64 a ∧ in64 t) := ⟨ha, ht⟩
  clear ha ht
  go_enter Try.func16, Try.ntmps16
  go_wp2
  all_goals
    go_ret
    refine ⟨congrArg (fun b => Ending.returned (.bool b)) ?_, (Below.refl _ _).alloc (Nat.le_refl _) _⟩
    obtain ⟨⟨t1, t2⟩, t3, t4⟩ := HA.out
    unfold thereB
    try simp only [wrap64] at *
    first | (symm; apply decide_eq_false; omega) | (symm; apply decide_eq_true; omega) | (apply decide_eq_decide.2; omega)

set_option maxHeartbeats 1600000 in
set_option maxRecDepth 100000 in
theorem refers_any (h : HD) (a n : Int) (w : World) (ha : in64 a) (ht : in64 h.tot) :
    Calls Try.prog 19 #[.agg (hdC h), .int .i64 a, .int .i64 n] w fun e w' => e = .returned (.bool (refB h.tot a n)) ∧ Below w.heap.size w w' := by
  obtain ⟨tt, st, sg, rv, bo, tx, sz⟩ := h
  show Calls _ _ #[.agg #[.int .i64 tt, .int .i64 st, .int .i64 sg, .int .i64 rv, .int .i64 bo, .int .i64 tx, .int .i64 sz], _, _] _ (fun e w' => e = .returned (.bool (refB tt a n)) ∧ _)
  have HT := Lib.hid (fun W => there_any a n tt W ha ht)
  clear ha ht
  by_cases hg : 40 ≤ a
  · have hR : refB tt a n = thereB a n tt := by
      unfold refB thereB
      apply decide_eq_decide.2
      omega
    rw [hR]
    generalize thereB a n tt = b at *
    clear hR
    go_enter Try.func19, Try.ntmps19
    go_wp2_with fail
    refine (HT.out _).mono ?_
    rintro e w1 ⟨rfl, hb⟩
    go_wp2
    go_ret
    exact ⟨rfl, ((Below.refl _ _).alloc (Nat.le_refl _) _).trans (hb.mono (by show _ ≤ (w.heap.push _).size; rw [Array.size_push]; exact Nat.le_succ _))⟩
  · have hR : refB tt a n = false := decide_eq_false (by omega)
    rw [hR]
    clear hR HT
    go_enter Try.func19, Try.ntmps19
    go_wp2
    go_ret
    exact ⟨rfl, (Below.refl _ _).alloc (Nat.le_refl _) _⟩
end Go.Proofs.Ytkkkhmimgcgoeaa
