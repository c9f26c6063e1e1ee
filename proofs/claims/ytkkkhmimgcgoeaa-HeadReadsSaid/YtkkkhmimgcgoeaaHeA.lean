/- The document's answers for layer 11: whether a header is valid, Put, Read, Part. Conditions: numbers of 64 bits; strings of at most 2^40 bytes. -/
import Derived.Test.YtkkkhmimgcgoeaaHePlain
import Derived.Test.YtkkkhmimgcgoeaaNumS
import Derived.ChangeArms
namespace Go.Proofs.Ytkkkhmimgcgoeaa
open Go.RowKit

/-- Numbers of 64 bits. -/
def in64 (x : Int) : Prop := -9223372036854775808 ≤ x ∧ x < 9223372036854775808

set_option maxHeartbeats 1600000 in
set_option maxRecDepth 100000 in
theorem rmay_any (h : HD) (w : World) (ht : in64 h.tot) :
    Calls Try.prog 14 #[.agg (hdC h)] w fun e w' => e = .returned (.bool (mayH h)) ∧ Below w.heap.size w w' := by
  obtain ⟨to, st, sg, rv, bo, tx, sz⟩ := h
  show Calls _ _ #[.agg #[.int .i64 to, .int .i64 st, .int .i64 sg, .int .i64 rv, .int .i64 bo, .int .i64 tx, .int .i64 sz]] _ _
  have HT : Hid (in64 to) := ht
  clear ht
  go_enter Try.func14, Try.ntmps14
  go_wp2
  all_goals
    go_ret
    refine ⟨congrArg (fun b => Ending.returned (.bool b)) ?_, (Below.refl _ _).alloc (Nat.le_refl _) _⟩
    obtain ⟨t1, t2⟩ := HT.out
    unfold mayH
    simp only [wrap64, bne_eq_false_iff_eq, bne_iff_ne, ne_eq] at *
    first | (symm; apply decide_eq_false; omega) | (symm; apply decide_eq_true; omega) | (apply decide_eq_decide.2; omega)
end Go.Proofs.Ytkkkhmimgcgoeaa
