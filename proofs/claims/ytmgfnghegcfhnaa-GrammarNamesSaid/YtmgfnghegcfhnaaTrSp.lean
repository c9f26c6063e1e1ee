/- A slice that reads as spots. No condition. -/
import Derived.Test.YtmgfnghegcfhnaaTrF
import Derived.Test.YtmgfnghegcfhnaaTrH
namespace Go.Proofs.Ytmgfnghegcfhnaa
open Go.RowKit

/-- The slice at A reads as spots. -/
def RdSpt (w : World) (A : Option Addr) (L : List SPT) : Prop := L = [] ∨ ∃ b off, A = some ⟨b, off, none⟩ ∧ ∀ k, k < L.length → ∀ j, j < 4 → w.cell? ⟨b, off + k * 4 + j, none⟩ = (spl (L.getD k ⟨ByteArray.empty, nd0, undef, undef⟩))[j]?
def spt0 : SPT := ⟨ByteArray.empty, nd0, undef, undef⟩
theorem row_rdSpt {w : World} {base : Nat} {v : Value} {L : List SPT} (h : w.ownsRow base 38 4 v L.length (spL L)) : ∃ A cap, v = .slice A L.length cap ∧ RdSpt w A L := by
  obtain ⟨A, cap, rfl, _, _, hx⟩ := row_form h
  refine ⟨A, cap, rfl, ?_⟩
  rcases hx with hx | ⟨b, rfl, _, hc⟩
  · exact .inl (List.length_eq_zero_iff.1 hx)
  · refine .inr ⟨b, 0, rfl, fun k hk j hj => ?_⟩
    rw [Nat.zero_add, hc _ (by omega)]
    exact flat_at (f := spl) (fun _ => rfl) _ L hk hj
theorem RdSpt.below {w w' : World} {A : Option Addr} {L : List SPT} (h : RdSpt w A L) (hb : Below w.heap.size w w') : RdSpt w' A L := by
  rcases h with h | ⟨b, off, rfl, hc⟩
  · exact .inl h
  · refine .inr ⟨b, off, rfl, fun k hk j hj => ?_⟩
    have e := hc k hk j hj
    obtain ⟨v, hv⟩ : ∃ v, (spl (L.getD k ⟨ByteArray.empty, nd0, undef, undef⟩))[j]? = some v := ⟨_, List.getElem?_eq_getElem (show j < 4 from hj)⟩
    rw [hv] at e ⊢
    exact (hb.cell (p := ⟨b, off + k * 4 + j, none⟩) (World.block_lt_of_cell? w _ e)).trans e
theorem RdSpt.at_ {w : World} {A : Option Addr} {L : List SPT} (h : RdSpt w A L) {k : Nat} (hk : k < L.length) : ∃ b off, A = some ⟨b, off, none⟩ ∧ w.cell? ⟨b, off + k * 4, none⟩ = some (.string (L.getD k spt0).pa) ∧ w.cell? ⟨b, off + k * 4 + 1, none⟩ = some (.string (L.getD k spt0).nd.nm) ∧ w.cell? ⟨b, off + k * 4 + 2, none⟩ = some (L.getD k spt0).y ∧ w.cell? ⟨b, off + k * 4 + 3, none⟩ = some (L.getD k spt0).z := by
  rcases h with rfl | ⟨b, off, rfl, hc⟩
  · simp at hk
  · exact ⟨b, off, rfl, hc k hk 0 (by omega), hc k hk 1 (by omega), hc k hk 2 (by omega), hc k hk 3 (by omega)⟩
/-- The same nodes with the same paths. -/
theorem sp_same {L L2 : List SPT} (h : L.map spP = L2.map spP) : L.length = L2.length ∧ ∀ k, k < L.length → (L.getD k spt0).pa = (L2.getD k spt0).pa ∧ (L.getD k spt0).nd = (L2.getD k spt0).nd := by
  have hl : L.length = L2.length := by have := congrArg List.length h; rwa [List.length_map, List.length_map] at this
  refine ⟨hl, fun k hk => ?_⟩
  have e := congrArg (fun l => l[k]?) h
  simp only [List.getElem?_map] at e
  rw [List.getElem?_eq_getElem hk, List.getElem?_eq_getElem (by omega : k < L2.length)] at e
  have e1 : L.getD k spt0 = L[k] := by rw [List.getD_eq_getElem?_getD, List.getElem?_eq_getElem hk]; rfl
  have e2 : L2.getD k spt0 = L2[k] := by rw [List.getD_eq_getElem?_getD, List.getElem?_eq_getElem (by omega : k < L2.length)]; rfl
  rw [e1, e2]
  simp only [Option.map_some, Option.some.injEq, spP, Prod.mk.injEq] at e
  exact ⟨ByteArray.ext (Array.ext' e.1), e.2⟩
end Go.Proofs.Ytmgfnghegcfhnaa
