/- What the document's Count and Fits of trees return. Conditions: a tree that is read, of at most 2^40 nodes and properties. -/
import Derived.Test.YtmgfnghegcfhnaaMg13
namespace Go.Proofs.Ytmgfnghegcfhnaa
open Go.RowKit

set_option maxHeartbeats 1600000 in
set_option maxRecDepth 100000 in
theorem rCount_any (G : Nat → Prop) (n : ND) (v2 v3 : Value) (w : World) (ha : (countR 9 n).a ≤ 1099511627776) (hb : (countR 9 n).b ≤ 1099511627776) (hN : NdAt w G n v2 v3) :
    Calls Try.prog 31 #[.agg #[.string n.nm, v2, v3]] w fun e w' => e = .returned (c3V (countR 9 n)) ∧ Below w.heap.size w w' := by
  obtain ⟨W1, hW1⟩ : ∃ W1, W1 = (w.alloc (.cells #[.string n.nm, v2, v3] 29)).alloc (.cells (c3C 0 0 0) 53) := ⟨_, rfl⟩
  obtain ⟨g8, hg8⟩ : ∃ g8, g8 = w.heap.size := ⟨_, rfl⟩
  obtain ⟨g4, hg4⟩ : ∃ g4, g4 = w.heap.size + 1 := ⟨_, rfl⟩
  have hB1 : Below w.heap.size w W1 := by rw [hW1]; exact ((Below.refl _ _).alloc (Nat.le_refl _) _).alloc (by rw [sz_alloc]; omega) _
  have hA8 : Arr W1 g8 29 #[.string n.nm, v2, v3] := by rw [hW1, hg8]; exact (Arr.new w _ _).alloc _
  have hA4 : Arr W1 g4 53 (c3C 0 0 0) := by rw [hW1, hg4]; exact Arr.new1 w _ _ _
  have HB1 := Lib.hid hB1
  have HA4 := Lib.hid hA4
  have hz1 := hB1.size
  have hg4w : w.heap.size ≤ g4 := by omega
  have k0 : W1.cell? ⟨g8, 0, none⟩ = some (.string n.nm) := hA8.cell 0
  have k1 : W1.cell? ⟨g8, 1, none⟩ = some v2 := hA8.cell 1
  have k2 : W1.cell? ⟨g8, 2, none⟩ = some v3 := hA8.cell 2
  have HC := Lib.hid (rcount_any 9 G n v2 v3 W1 (by omega) ha hb (nd_below hN hB1))
  rcases hxc : countR 9 n with ⟨a, b, c⟩
  rw [hxc] at HC
  clear hN hB1 hA8 hA4 ha hb hxc
  go_enter Try.func31, Try.ntmps31
  go_upto_region 1 with fail
  change Code.wp _ _ _ _ ((w.alloc (.cells #[.string n.nm, v2, v3] 29)).alloc (.cells (c3C 0 0 0) 53))
  rw [← hW1, ← hg4, ← hg8]
  clear hW1 hg4 hg8
  go_wp2_with fail
  refine HC.out.mono ?_
  rintro e w3 ⟨rfl, hb3⟩
  have HB3 := Lib.hid (HB1.out.trans (hb3.mono hz1))
  have HA43 := Lib.hid (HA4.out.below hb3 HA4.out.lt)
  clear hb3 HC
  go_wp2_with (refine wpList_store_row rfl 53 (.tmp 2) (.tmp 4) rfl g4 (c3C a b c) rfl rfl _ _ HA43.out (info3 _ _ _) rfl (c3_one _ _ _) ?_)
  exact bodyPost_ret (v := c3V ⟨a, b, c⟩) (results_cell_row rfl _ _ g4 _ (c3C a b c) _ _ rfl (HA43.out.row _) Try.underlying53 rfl (info3 _ _ _)) rfl ⟨rfl, below_setRow HB3.out hg4w _⟩

theorem fit_bool (a b c : Nat) : decide (a ≤ 64 ∧ b ≤ 256 ∧ c ≤ 8) = (decide ((a : Int) ≤ 64) && (decide ((b : Int) ≤ 256) && decide ((c : Int) ≤ 8))) := by
  by_cases h1 : a ≤ 64 <;> by_cases h2 : b ≤ 256 <;> by_cases h3 : c ≤ 8
  all_goals
    have e1 : ((a : Int) ≤ 64) = (a ≤ 64) := by apply propext; omega
    have e2 : ((b : Int) ≤ 256) = (b ≤ 256) := by apply propext; omega
    have e3 : ((c : Int) ≤ 8) = (c ≤ 8) := by apply propext; omega
    simp only [e1, e2, e3, h1, h2, h3]; decide
set_option maxHeartbeats 1600000 in
set_option maxRecDepth 100000 in
theorem rFits_any (G : Nat → Prop) (n : ND) (v2 v3 : Value) (w : World) (ha : (countR 9 n).a ≤ 1099511627776) (hb : (countR 9 n).b ≤ 1099511627776) (hN : NdAt w G n v2 v3) :
    Calls Try.prog 16 #[.agg #[.string n.nm, v2, v3]] w fun e w' => e = .returned (.bool (fitsR n)) ∧ Below w.heap.size w w' := by
  obtain ⟨W1, hW1⟩ : ∃ W1, W1 = w.alloc (.cells #[.string n.nm, v2, v3] 29) := ⟨_, rfl⟩
  obtain ⟨g8, hg8⟩ : ∃ g8, g8 = w.heap.size := ⟨_, rfl⟩
  have hB1 : Below w.heap.size w W1 := by rw [hW1]; exact (Below.refl _ _).alloc (Nat.le_refl _) _
  have hA8 : Arr W1 g8 29 #[.string n.nm, v2, v3] := by rw [hW1, hg8]; exact Arr.new w _ _
  have HB1 := Lib.hid hB1
  have hz1 := hB1.size
  have k0 : W1.cell? ⟨g8, 0, none⟩ = some (.string n.nm) := hA8.cell 0
  have k1 : W1.cell? ⟨g8, 1, none⟩ = some v2 := hA8.cell 1
  have k2 : W1.cell? ⟨g8, 2, none⟩ = some v3 := hA8.cell 2
  have HC := Lib.hid (rCount_any G n v2 v3 W1 ha hb (nd_below hN hB1))
  have HE : Hid (fitsR n = (decide (((countR 9 n).a : Int) ≤ 64) && (decide (((countR 9 n).b : Int) ≤ 256) && decide (((countR 9 n).c : Int) ≤ 8)))) := fit_bool _ _ _
  generalize fitsR n = R at *
  rcases hxc : countR 9 n with ⟨a, b, c⟩
  rw [hxc] at HC HE
  clear hN hB1 hA8 ha hb hxc
  go_enter Try.func16, Try.ntmps16
  go_upto_region 1 with fail
  rw [← hW1, ← hg8]
  clear hW1 hg8
  go_wp2_with fail
  refine HC.out.mono ?_
  rintro e w3 ⟨rfl, hb3⟩
  have HB3 := Lib.hid (HB1.out.trans (hb3.mono hz1))
  have hz3 := HB3.out.size
  have HA70 := Lib.hid (Arr.new w3 53 (c3C 0 0 0))
  have HA7 := Lib.hid (HA70.out.row (c3C a b c))
  have HB4 : Hid (Below w.heap.size w ((w3.alloc (.cells (c3C 0 0 0) 53)).setRow w3.heap.size (c3C a b c))) := below_setRow (HB3.out.alloc hz3 _) hz3 _
  clear hb3 HC
  go_upto_region 2 with (first
    | (refine wpList_store_row rfl 53 (.tmp 3) (.tmp 5) rfl w3.heap.size (c3C a b c) rfl rfl _ _ HA70.out (info3 _ _ _) rfl (c3_one _ _ _) ?_))
  change Code.wp _ _ _ _ ((w3.alloc (.cells (c3C 0 0 0) 53)).setRow w3.heap.size (c3C a b c))
  generalize (w3.alloc (.cells (c3C 0 0 0) 53)).setRow w3.heap.size (c3C a b c) = w4 at *
  generalize w3.heap.size = g7 at *
  have k70 : w4.cell? ⟨g7, 0, none⟩ = some (.int .i64 a) := HA7.out.cell 0
  have k71 : w4.cell? ⟨g7, 1, none⟩ = some (.int .i64 b) := HA7.out.cell 1
  have k72 : w4.cell? ⟨g7, 2, none⟩ = some (.int .i64 c) := HA7.out.cell 2
  cases d1 : decide ((a : Int) ≤ 64) with
  | false =>
    rw [d1] at HE
    go_wp2
    go_ret
    exact ⟨by rw [HE.out]; rfl, HB4.out⟩
  | true =>
    rw [d1] at HE
    cases d2 : decide ((b : Int) ≤ 256) with
    | false =>
      rw [d2] at HE
      go_wp2
      go_ret
      exact ⟨by rw [HE.out]; rfl, HB4.out⟩
    | true =>
      rw [d2] at HE
      cases d3 : decide ((c : Int) ≤ 8) with
      | false =>
        rw [d3] at HE
        go_wp2
        go_ret
        exact ⟨by rw [HE.out]; rfl, HB4.out⟩
      | true =>
        rw [d3] at HE
        go_wp2
        go_ret
        exact ⟨by rw [HE.out]; rfl, HB4.out⟩
end Go.Proofs.Ytmgfnghegcfhnaa
