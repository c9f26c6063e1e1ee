/- Rows of cells that are stored into one after the other, and an element taken out of a slice of one's own. No condition: nothing of the program stands in it. -/
import Derived.Test.YtgfblcfleohdjaaAppM
import Derived.Deep.RegionLaw
import Derived.Lib.SliceRun
import Derived.Lib.Walk
import Derived.Lib.SlBuf
namespace Go.Proofs.Ytgfblcfleohdjaa
open Go.RowKit

theorem arr_setCells : ∀ (vs : List Value) (o : Nat) {w : World} {g t : Nat} {cur : Array Value}, Arr w g t cur → o + vs.length ≤ cur.size → ∃ cur', Arr (w.setCells g o vs) g t cur' ∧ cur'.size = cur.size ∧ ∀ j, cur'[j]? = if o ≤ j ∧ j < o + vs.length then vs[j - o]? else cur[j]?
  | [], o, w, g, t, cur, h, _ => ⟨cur, h, rfl, fun j => by rw [if_neg (by simp only [List.length_nil]; omega)]⟩
  | v :: r, o, w, g, t, cur, h, hl => by
    simp only [List.length_cons] at hl
    obtain ⟨c2, h1, h2, h3⟩ := arr_setCells r (o + 1) (h.put o v) (by rw [Array.size_setIfInBounds]; omega)
    rw [Array.size_setIfInBounds] at h2
    refine ⟨c2, h1, h2, fun j => ?_⟩
    rw [h3 j, Array.getElem?_setIfInBounds]
    simp only [List.length_cons]
    by_cases e : o = j
    · subst e
      rw [if_neg (by omega), if_pos rfl, if_pos (by omega), if_pos (by omega), Nat.sub_self]; rfl
    · rw [if_neg e]
      by_cases e1 : o + 1 ≤ j ∧ j < o + 1 + r.length
      · rw [if_pos e1, if_pos (by omega), show j - o = (j - (o + 1)) + 1 by omega, List.getElem?_cons_succ]
      · rw [if_neg e1, if_neg (by omega)]
theorem gr_cells : ∀ (vs : List Value) (o : Nat) (w : World) (g : Nat), w.grownBy (w.setCells g o vs) (some g)
  | [], _, _, _ => gr_below (Below.refl _ _)
  | v :: r, o, w, g => World.grownBy.trans (gr_cell w g o v) (gr_cells r (o + 1) _ g)
/-- 'clear(s)', s a slice of n > 0 elements of any size. -/
theorem run_clear_any {P : Program} (w : World) (t e ty : TypeId) (z : Value) (ht : P.underlying t = some (.slice e)) (hv : ∀ w, (zeroValue e).run P w = .ok z w) (b o n c : Nat) (hn : 0 < n) (vs : List Value) (hz : (Builtin.zeroCells z.cells n).toList = vs) (h1 : ∀ v ∈ vs, v.oneCell' = true)
    (hc : ∀ j, j < vs.length → (w.cell? ⟨b, o + j, none⟩).isSome = true) (hf : ∀ j, j < vs.length → w.frozen? ⟨b, o + j, none⟩ = false) :
    (Builtin.clear_ #[t] ty #[.slice (some ⟨b, o, none⟩) n c]).run P w = .ok (.tuple #[]) (w.setCells b o vs) := by
  have hst := run_storeCells_cells (P := P) b o vs 0 w (by simpa using hc) (by simpa using hf) h1
  simp only [Nat.add_zero] at hst
  obtain ⟨m, rfl⟩ : ∃ m, n = m + 1 := ⟨n - 1, by omega⟩
  simp [Builtin.clear_, run_underlying ht, hv, hz, hst]
/-- An element is taken out: what is behind it is stored in its place, and the last place is cleared. -/
theorem own_del {w : World} {B e size n i g cap : Nat} {xs zs : List Value} (h : w.ownsRow B e size (.slice (some ⟨g, 0, none⟩) n cap) n xs) (hi : i < n) (hs : 0 < size) (hz : zs.length = size) :
    ((w.setCells g (i * size) (xs.drop ((i + 1) * size))).setCells g ((n - 1) * size) zs).ownsRow B e size (.slice (some ⟨g, 0, none⟩) (n - 1) cap) (n - 1) (xs.take (i * size) ++ xs.drop ((i + 1) * size)) := by
  have hxl := h.1
  rcases h.2 with ⟨h1, _⟩ | ⟨g', cap', cur, h1, hb, hg, hnc, hcm, hcs, htk⟩
  · cases h1
  injection h1 with h1 _ h1c
  injection h1 with h1
  injection h1 with h1
  subst h1
  subst h1c
  have hin : i * size + size ≤ n * size := by
    have := Nat.mul_le_mul_right size (show i + 1 ≤ n from hi)
    rwa [Nat.add_mul, Nat.one_mul] at this
  have hn1 : (n - 1) * size + size = n * size := by
    have : n = (n - 1) + 1 := by omega
    conv => rhs; rw [this, Nat.add_mul, Nat.one_mul]
  have hncs : n * size ≤ cap * size := Nat.mul_le_mul_right size hnc
  have hi1 : (i + 1) * size = i * size + size := by rw [Nat.add_mul, Nat.one_mul]
  have hdl : (xs.drop ((i + 1) * size)).length = n * size - (i * size + size) := by rw [List.length_drop, hxl, hi1]
  obtain ⟨c1, a1, s1, p1⟩ := arr_setCells (xs.drop ((i + 1) * size)) (i * size) (show Arr w g e cur from hg) (by rw [hdl, hcs]; omega)
  obtain ⟨c2, a2, s2, p2⟩ := arr_setCells zs ((n - 1) * size) a1 (by rw [s1, hcs, hz]; omega)
  have hcur : ∀ j, j < n * size → cur[j]? = xs[j]? := fun j hj => by
    rw [← htk, List.getElem?_take_of_lt hj, Array.getElem?_toList]
  refine ⟨by rw [List.length_append, List.length_take, hdl, hxl]; omega, .inr ⟨g, cap, c2, rfl, hb, a2, by omega, hcm, by rw [s2, s1, hcs], ?_⟩⟩
  apply List.ext_getElem?
  intro j
  by_cases hj : j < (n - 1) * size
  · rw [List.getElem?_take_of_lt hj, Array.getElem?_toList, p2 j, if_neg (by omega), p1 j]
    by_cases hji : j < i * size
    · rw [if_neg (by omega), hcur j (by omega), List.getElem?_append_left (by rw [List.length_take, hxl]; omega), List.getElem?_take_of_lt hji]
    · rw [if_pos (by rw [hdl]; omega), List.getElem?_append_right (by rw [List.length_take]; omega), List.length_take, hxl, Nat.min_eq_left (by omega)]
  · rw [List.getElem?_eq_none (by rw [List.length_take]; omega), List.getElem?_eq_none (by rw [List.length_append, List.length_take, hdl, hxl]; omega)]
theorem own_del_moved (w : World) (g o o' n n' cap cap' : Nat) (vs us : List Value) : Moved w ((w.setCells g o vs).setCells g o' us) (ownS (.slice (some ⟨g, 0, none⟩) n cap)) (ownS (.slice (some ⟨g, 0, none⟩) n' cap')) :=
  Moved.of_grown (World.grownBy.trans (gr_cells vs o w g) (gr_cells us o' _ g)) (.inl rfl)
/-- A cell of a slice of one's own is stored into. -/
theorem own_set {w : World} {B e size n g cap j : Nat} {xs : List Value} (h : w.ownsRow B e size (.slice (some ⟨g, 0, none⟩) n cap) n xs) (v : Value) :
    (w.setCell ⟨g, j, none⟩ v).ownsRow B e size (.slice (some ⟨g, 0, none⟩) n cap) n (xs.set j v) := by
  have hxl := h.1
  rcases h.2 with ⟨h1, _⟩ | ⟨g', cap', cur, h1, hb, hg, hnc, hcm, hcs, htk⟩
  · cases h1
  injection h1 with h1 _ h1c
  injection h1 with h1
  injection h1 with h1
  subst h1
  subst h1c
  refine ⟨by rw [List.length_set, hxl], .inr ⟨g, cap, cur.setIfInBounds j v, rfl, hb, (show Arr w g e cur from hg).put j v, hnc, hcm, by rw [Array.size_setIfInBounds, hcs], ?_⟩⟩
  rw [Array.toList_setIfInBounds, List.take_set, htk]
end Go.Proofs.Ytgfblcfleohdjaa
