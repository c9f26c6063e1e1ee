/- The document's memory, and what its Load does. Conditions: at most 100 spans are loaded, and they exist; numbers of 64 bits; at most 2^40 bytes. -/
import Derived.Test.YtecfdcibjmakeaaRaC
import Derived.Test.YtecfdcibjmakeaaOwn
import Derived.Deep.AppendLies
namespace Go.Proofs.Ytecfdcibjmakeaa
open Go.RowKit

/-- Loaded spans, and their bytes, as values. -/
def spsV (R : List LD) : List Value := R.flatMap fun x => [.int .i64 (x.p : Int), .int .i64 (x.s.size : Int)]
def strsV (R : List LD) : List Value := R.map fun x => .string x.s
theorem spsV_length (R : List LD) : (spsV R).length = R.length * 2 := by
  unfold spsV
  induction R with
  | nil => rfl
  | cons x R ih => rw [List.flatMap_cons, List.length_append, ih, List.length_cons]; simp only [List.length_cons, List.length_nil]; omega
theorem spsV_get (R : List LD) {k : Nat} (hk : k < R.length) : (spsV R)[k * 2]? = some (.int .i64 ((R.getD k ld0).p : Int)) ∧ (spsV R)[k * 2 + 1]? = some (.int .i64 ((R.getD k ld0).s.size : Int)) := by
  induction R generalizing k with
  | nil => cases hk
  | cons x R ih =>
    match k, hk with
    | 0, _ => exact ⟨rfl, rfl⟩
    | k + 1, hk =>
      have h := ih (k := k) (by simpa using hk)
      have e : spsV (x :: R) = .int .i64 (x.p : Int) :: .int .i64 (x.s.size : Int) :: spsV R := rfl
      rw [e, show (k + 1) * 2 = k * 2 + 1 + 1 by omega, show k * 2 + 1 + 1 + 1 = (k * 2 + 1) + 1 + 1 by omega]
      simpa using h
/-- Block g is the document's memory in which R is loaded; vL, vS are its two lists. -/
def DR (w : World) (g : Nat) (vL vS : Value) (R : List LD) : Prop :=
  Arr w g 30 #[vL, vS] ∧ w.ownsRow 0 47 2 vL R.length (spsV R) ∧ w.ownsRow 0 9 1 vS R.length (strsV R)
/-- The blocks that it has. -/
def fpD (g : Nat) (vL vS : Value) (k : Nat) : Prop := k = g ∨ vL.ownBlock = some k ∨ vS.ownBlock = some k
section
variable {w w' : World} {g : Nat} {vL vS : Value} {R : List LD}
theorem DR.below (h : DR w g vL vS R) (hb : Below w.heap.size w w') : DR w' g vL vS R := ⟨h.1.below hb h.1.lt, ow_below h.2.1 hb, ow_below h.2.2 hb⟩
theorem ow_block {base e size : Nat} {v : Value} {n : Nat} {xs : List Value} (h : w.ownsRow base e size v n xs) {k : Nat} (hk : v.ownBlock = some k) : k < w.heap.size := by
  obtain ⟨cur, hg⟩ := ow_type h hk
  exact (Array.getElem?_eq_some_iff.1 hg).1
theorem DR.lt (h : DR w g vL vS R) {k : Nat} (hk : fpD g vL vS k) : k < w.heap.size := by
  rcases hk with rfl | hk | hk
  · exact h.1.lt
  · exact ow_block h.2.1 hk
  · exact ow_block h.2.2 hk
/-- Its spans, as a slice. -/
theorem DR.spans (h : DR w g vL vS R) : ∃ A cap, vL = .slice A (R.map LD.sp).length cap ∧ RdSp w A (R.map LD.sp) := by
  rcases h.2.1.2 with ⟨rfl, hz⟩ | ⟨b, cap, cur, rfl, _, hg, _, _, _, hx⟩
  · have hR : R = [] := List.length_eq_zero_iff.1 hz
    subst hR
    exact ⟨none, 0, rfl, .inl rfl⟩
  · refine ⟨_, cap, by rw [List.length_map], .inr ⟨b, 0, rfl, fun k hk => ?_⟩⟩
    rw [List.length_map] at hk
    rw [sp_getD R hk]
    obtain ⟨h1, h2⟩ := spsV_get R hk
    have e : ∀ j, j < R.length * 2 → cur[j]? = (spsV R)[j]? := fun j hj => by
      rw [← hx, List.getElem?_take_of_lt hj, Array.getElem?_toList]
    refine ⟨?_, ?_⟩
    · rw [Nat.zero_add, cell_of_row w b _ cur _ (0, 0) hg, e _ (by omega), h1]; rfl
    · rw [Nat.zero_add, cell_of_row w b _ cur _ (0, 0) hg, e _ (by omega), h2]; rfl
theorem DR.strs (h : DR w g vL vS R) : ∃ A cap, vS = .slice A R.length cap ∧ (R = [] ∨ ∃ b off, A = some ⟨b, off, none⟩ ∧ ∀ k, k < R.length → w.cell? ⟨b, off + k, none⟩ = some (.string (R.getD k ld0).s)) := by
  rcases h.2.2.2 with ⟨rfl, hz⟩ | ⟨b, cap, cur, rfl, _, hg, _, _, _, hx⟩
  · have hR : R = [] := List.length_eq_zero_iff.1 hz
    subst hR
    exact ⟨none, 0, rfl, .inl rfl⟩
  · refine ⟨_, cap, rfl, .inr ⟨b, 0, rfl, fun k hk => ?_⟩⟩
    have e : cur[k]? = (strsV R)[k]? := by
      rw [← hx, List.getElem?_take_of_lt (by omega), Array.getElem?_toList]
    rw [Nat.zero_add, cell_of_row w b _ cur _ (0, 0) hg, e]
    simp [strsV, List.getD, hk]
end
theorem elemSpan : Try.prog.underlying 23 = some (.slice 47) ∧ ∃ i, Try.prog.info? 47 = some i ∧ i.zero = some (.agg #[.int .i64 0, .int .i64 0]) ∧ i.size = 2 ∧ i.bytes = 16 := by
  have h : ((Try.prog.info? 47).map fun i => (i.zero, i.size, i.bytes)) = some (some (.agg #[.int .i64 0, .int .i64 0]), 2, 16) := by kernel_rfl
  obtain ⟨i, hi, he⟩ := Option.map_eq_some_iff.1 h
  simp only [Prod.mk.injEq] at he
  exact ⟨Try.underlying23, i, hi, he.1, he.2.1, he.2.2⟩
theorem elemStr : ElemIs Try.prog 28 9 (.string ⟨#[]⟩) 16 := elemIs_mk Try.underlying28 rfl (by kernel_rfl)
theorem tyne : (30 : Nat) ≠ 47 ∧ (30 : Nat) ≠ 9 ∧ (47 : Nat) ≠ 9 := by decide
end Go.Proofs.Ytecfdcibjmakeaa
