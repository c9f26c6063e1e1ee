/- What package tree does is what its contracts say. Conditions: none beyond those of the contracts. -/
import Derived.Test.YtjddclkfakphlaaTpA
import Derived.Test.YtjddclkfakphlaaTpB
import Derived.Test.YtjddclkfakphlaaTpC
import Derived.Test.YtjddclkfakphlaaTpD
import Derived.Test.YtjddclkfakphlaaTpE
import Derived.Test.YtjddclkfakphlaaTpJ
namespace Go.Proofs.Ytjddclkfakphlaa
open Go.RowKit

theorem tree_must : TreeMust where
  tokens G n v2 v3 w hs hN := by
    have hc := sz_count hs
    refine (tTokens_any G n v2 v3 w (by omega) hN).mono ?_
    rintro e w' ⟨v, rfl, ho, hb⟩
    obtain ⟨A, cap, rfl, hr⟩ := row_rdTk ho
    obtain ⟨A2, cap2, e2, h1, h2, _⟩ := row_form ho
    injection e2 with _ _ e2
    subst e2
    exact ⟨A, cap, rfl, hr, h1, h2, hb⟩
  of A cap l w hr _ _ hc hm := by
    refine (tOf_any A cap l w hr hc hm).mono ?_
    rintro e w' ⟨v2, v3, rfl, hn, hb⟩
    exact ⟨v2, v3, rfl, nd_lt hn, hb⟩
  count G n v2 v3 w hs hN := by
    have hc := sz_count hs
    exact tCount_any G n v2 v3 w (by omega) (by omega) hN
  fits G n v2 v3 w hs hN := by
    have hc := sz_count hs
    exact tFits_any G n v2 v3 w (by omega) (by omega) hN
  same G G' m n v2 v3 u2 u3 w hm _ hM hN := tsame_any 12 20 G G' m n v2 v3 u2 u3 w (by decide) hm hM hN
  copy G n v2 v3 w hs hN := by
    refine (tcopy_any 12 n v2 v3 w ⟨hs.1, by have := hs.2; omega, by have := hs.2; omega⟩ (nd_lt hN)).mono ?_
    rintro e w' ⟨u2, u3, rfl, hn, hb⟩
    exact ⟨u2, u3, rfl, nd_lt hn, hb⟩
  walk G n v2 v3 w hl hN := by
    have hc := sz_count (sz_of_low hl)
    exact tWalk_any G n v2 v3 w (nm_of_low 8 12 n (low_and hl).1) (by omega) hN
end Go.Proofs.Ytjddclkfakphlaa
