/- What the document's count, Count and Fits of trees return. Conditions: a tree that is read, of at most 2^40 nodes and properties. -/
import Derived.Test.YtjphecfkjpfkeaaDoorMg25
import Derived.Laws.ResultCell
namespace Go.Proofs.YtjphecfkjpfkeaaDoor
open Go.RowKit

/-- The counts behind j kids. -/
def ctF (k : Nat) (n : ND) (j : Nat) : CT := (n.ks.take j).foldl (fun x y => ctAdd x (countR k y)) ⟨1, n.ps.length, 0⟩
theorem ctF_succ (k : Nat) (n : ND) {j : Nat} (hj : j < n.ks.length) : ctF k n (j + 1) = ctAdd (ctF k n j) (countR k (n.ks.getD j nd0)) := by
  unfold ctF
  rw [List.take_succ_eq_append_getElem hj, List.foldl_append]
  have e : n.ks.getD j nd0 = n.ks[j] := by rw [List.getD_eq_getElem?_getD, List.getElem?_eq_getElem hj]; rfl
  rw [e]; rfl
theorem countR_eq (k : Nat) (n : ND) : countR (k + 1) n = ⟨(ctF k n n.ks.length).a, (ctF k n n.ks.length).b, (ctF k n n.ks.length).c + 1⟩ := by
  unfold ctF; rw [List.take_length]; rfl
theorem ctF_mono (k : Nat) (n : ND) : ∀ (d j : Nat), j + d ≤ n.ks.length → (ctF k n j).a ≤ (ctF k n (j + d)).a ∧ (ctF k n j).b ≤ (ctF k n (j + d)).b ∧ (ctF k n j).c ≤ (ctF k n (j + d)).c
  | 0, _, _ => ⟨Nat.le_refl _, Nat.le_refl _, Nat.le_refl _⟩
  | d + 1, j, h => by
    have ih := ctF_mono k n d j (by omega)
    rw [show j + (d + 1) = j + d + 1 by omega, ctF_succ k n (show j + d < n.ks.length by omega)]
    simp only [ctAdd]
    omega
theorem ctF_le (k : Nat) (n : ND) {j : Nat} (hj : j ≤ n.ks.length) : (ctF k n j).a ≤ (countR (k + 1) n).a ∧ (ctF k n j).b ≤ (countR (k + 1) n).b ∧ (ctF k n j).c + 1 ≤ (countR (k + 1) n).c := by
  have h := ctF_mono k n (n.ks.length - j) j (by omega)
  rw [show j + (n.ks.length - j) = n.ks.length by omega] at h
  rw [countR_eq]
  simp only; omega
theorem kid_le (k : Nat) (n : ND) {j : Nat} (hj : j < n.ks.length) : (countR k (n.ks.getD j nd0)).a ≤ (countR (k + 1) n).a ∧ (countR k (n.ks.getD j nd0)).b ≤ (countR (k + 1) n).b ∧ (countR k (n.ks.getD j nd0)).c + 1 ≤ (countR (k + 1) n).c := by
  have h := ctF_le k n (j := j + 1) (by omega)
  rw [ctF_succ k n hj] at h
  simp only [ctAdd] at h
  omega
theorem depth_le : ∀ (k : Nat) (n : ND), (countR k n).c ≤ k
  | 0, _ => Nat.le_refl _
  | k + 1, n => by
    rw [countR_eq]
    show (ctF k n n.ks.length).c + 1 ≤ k + 1
    have : ∀ j, j ≤ n.ks.length → (ctF k n j).c ≤ k := by
      intro j
      induction j with
      | zero => intro _; exact Nat.zero_le _
      | succ j ih =>
        intro hj
        rw [ctF_succ k n (by omega)]
        have h1 := ih (by omega)
        have h2 := depth_le k (n.ks.getD j nd0)
        simp only [ctAdd]; omega
    have := this _ (Nat.le_refl _)
    omega
theorem props_le (k : Nat) (n : ND) : n.ps.length ≤ (countR (k + 1) n).b := (ctF_le k n (Nat.zero_le _)).2.1

/-- Three numbers as cells, and as a value. -/
def c3C (a b c : Nat) : Array Value := #[.int .i64 a, .int .i64 b, .int .i64 c]
def c3V (x : CT) : Value := .agg #[.int .i64 x.a, .int .i64 x.b, .int .i64 x.c]
theorem c3_one (a b c : Nat) : (c3C a b c).all (·.oneCell') = true := by
  rw [Array.all_eq_true_iff_forall_mem]
  intro v hv
  simp [c3C] at hv
  rcases hv with rfl | rfl | rfl <;> rfl

end Go.Proofs.YtjphecfkjpfkeaaDoor
