/- The program's pair of layer 14: one reserved span, or why there is none. Conditions: strings of at most 2^40 bytes. -/
import Derived.Test.YtgfdbmbgldeljaaMg15
import Derived.Test.YtgfdbmbgldeljaaMg26
import Derived.Test.YtgfdbmbgldeljaaMg25
import Derived.Laws.StructEq
namespace Go.Proofs.Ytgfdbmbgldeljaa
open Go.RowKit

/-- What stands at a place: a span, or why there is none. -/
def pairD (l : List UInt8) (a : Int) : SP × Nat :=
  if a < 0 then (sp0, 14) else if (l.drop a.toNat).length < 16 then (sp0, 14)
  else if numAt (l.drop a.toNat) 0 ≠ 0 ∨ numAt (l.drop a.toNat) 2 ≠ 0 then (sp0, 6) else (⟨numAt (l.drop a.toNat) 1, numAt (l.drop a.toNat) 3⟩, 0)
theorem pair_short {l : List UInt8} {a : Int} (h : a < 0 ∨ (l.length : Int) < a + 16) : pairD l a = (sp0, 14) := by
  unfold pairD
  split
  · rfl
  · exact if_pos (by rw [List.length_drop]; omega)
theorem pair_form {l : List UInt8} {x : Nat} (hx : x + 16 ≤ l.length) (h : numAt (l.drop x) 0 ≠ 0 ∨ numAt (l.drop x) 2 ≠ 0) : pairD l (x : Int) = (sp0, 6) :=
  (if_neg (by omega)).trans ((if_neg (by rw [List.length_drop]; omega)).trans (if_pos h))
theorem pair_there {l : List UInt8} {x : Nat} (hx : x + 16 ≤ l.length) (h : ¬ (numAt (l.drop x) 0 ≠ 0 ∨ numAt (l.drop x) 2 ≠ 0)) : pairD l (x : Int) = (⟨numAt (l.drop x) 1, numAt (l.drop x) 3⟩, 0) :=
  (if_neg (by omega)).trans ((if_neg (by rw [List.length_drop]; omega)).trans (if_neg h))
theorem pair_cases (l : List UInt8) (a : Int) :
    (pairD l a = (sp0, 14) ∧ ∀ k, resvI k l a = ([], 14)) ∨ (pairD l a = (sp0, 6) ∧ ∀ k, resvI k l a = ([], 6)) ∨
    ∃ p q : Int, pairD l a = (⟨p, q⟩, 0) ∧ 0 ≤ a ∧ a + 16 ≤ l.length ∧ ((p = 0 ∧ q = 0) → ∀ k, resvI k l a = ([], 0)) ∧ (¬ (p = 0 ∧ q = 0) → resvI 0 l a = ([], 7) ∧ ∀ k, resvI (k + 1) l a = joinS [⟨p, q⟩] (resvI k l (a + 16))) := by
  by_cases h0 : a < 0 ∨ (l.length : Int) < a + 16
  · refine .inl ⟨pair_short h0, fun k => ?_⟩
    unfold resvI
    split
    · rfl
    · exact resvR_short k (by rw [List.length_drop]; omega)
  · obtain ⟨x, rfl⟩ : ∃ x : Nat, a = (x : Int) := ⟨a.toNat, by omega⟩
    have hx : x + 16 ≤ l.length := by omega
    have hl : ¬ (l.drop x).length < 16 := by rw [List.length_drop]; omega
    have e : ∀ k, resvI k l (x : Int) = resvR k (l.drop x) := fun k => if_neg (by omega)
    by_cases h1 : numAt (l.drop x) 0 ≠ 0 ∨ numAt (l.drop x) 2 ≠ 0
    · exact .inr (.inl ⟨pair_form hx h1, fun k => (e k).trans (resvR_form k hl h1)⟩)
    · refine .inr (.inr ⟨_, _, pair_there hx h1, by omega, by omega, fun h k => (e k).trans (resvR_end k hl h1 h), fun h => ⟨(e 0).trans (resvR_big hl h1 h), fun k => ?_⟩⟩)
      rw [e, resvR_next hl h1 h, List.drop_drop]
      congr 1

/-- Four numbers of a place, of the program's reader. -/
theorem dfour (s : ByteArray) (k : Nat) (hk : k + 16 ≤ s.size) (W : World) :
    Calls Try.prog 37 #[.string (s.extract k (k + 16))] W fun e w' => ∃ (b off cap : Nat), e = .returned (.tuple #[.slice (some ⟨b, off, none⟩) 4 cap, .bool true]) ∧ (∀ j, j < 4 → w'.cell? ⟨b, off + j, none⟩ = some (.int .i64 (numAt (s.data.toList.drop k) j))) ∧ Below W.heap.size W w' := by
  refine (frombigs_yes (s.extract k (k + 16)) 4 W (by rw [ByteArray.size_extract]; omega) (by rw [ByteArray.size_extract]; omega)).mono ?_
  rintro e w' ⟨v, rfl, hown, hb⟩
  rw [extk_list s k 16] at hown
  obtain ⟨A, cap, rfl, hr⟩ := rdI_of_own hown
  rcases hr with h | ⟨b, off, rfl, _, hc⟩
  · exact absurd (congrArg List.length h) (by rw [numsB_length]; decide)
  · refine ⟨b, off, cap, by rw [numsB_length], fun j hj => ?_, hb⟩
    rw [hc j (by rw [numsB_length]; exact hj), numsB_take16 _ _ hj]

theorem sp_one (a b : Int) : (#[.int .i64 a, .int .i64 b] : Array Value).all (·.oneCell') = true := by
  rw [Array.all_eq_true_iff_forall_mem]
  intro v hv
  simp at hv
  rcases hv with rfl | rfl <;> rfl

set_option maxHeartbeats 1600000 in
set_option maxRecDepth 100000 in
theorem dpair_any (s : ByteArray) (a : Int) (w : World) (hs : s.size ≤ 1099511627776) (ha : -9223372036854775808 ≤ a ∧ a ≤ 9223372036854775807) :
    Calls Try.prog 39 #[.string s, .int .i64 a] w fun e w' => e = .returned (.tuple #[.agg #[.int .i64 (pairD s.data.toList a).1.p, .int .i64 (pairD s.data.toList a).1.n], .int .i64 ((pairD s.data.toList a).2 : Int)]) ∧ Below w.heap.size w w' := by
  have hsz : s.data.toList.length = s.size := rfl
  have HT0 := Lib.hid (Arr.new w 44 #[.int .i64 0, .int .i64 0])
  have HB0 := Lib.hid ((Below.refl w.heap.size w).alloc (Nat.le_refl _) (.cells #[.int .i64 0, .int .i64 0] 44))
  have hgl : w.heap.size < (w.alloc (.cells #[.int .i64 0, .int .i64 0] 44)).heap.size := by rw [sz_alloc]; omega
  by_cases h0 : a < 0 ∨ (s.size : Int) < a + 16
  · have HE : Hid (pairD s.data.toList a = (sp0, 14)) := pair_short (by rw [hsz]; exact h0)
    have HP : Hid (∀ W, Calls Try.prog 40 #[.string s, .agg #[.int .i64 a, .int .i64 16]] W fun e w' => e = .returned (.tuple #[.string ⟨#[]⟩, .int .i64 2]) ∧ Below W.heap.size W w') := fun W => by
      have := hpart_any s a 16 W (by unfold maxLen; omega) (by unfold in64; omega) (by unfold in64; omega)
      rwa [show partR s a 16 = (⟨#[]⟩, 2) from if_pos (by omega)] at this
    generalize pairD s.data.toList a = R at *
    obtain rfl := HE.out
    clear h0 hsz HE ha
    go_enter Try.func39, Try.ntmps39
    go_wp2_with fail
    refine (HP.out _).mono ?_
    rintro e w1 ⟨rfl, hb1⟩
    have HT1 := Lib.hid (HT0.out.below hb1 HT0.out.lt)
    have HB1 := Lib.hid (HB0.out.trans (hb1.mono HB0.out.size))
    clear hb1 HT0 HB0 HP
    go_wp2_with (refine wpList_store_row rfl 44 (.tmp 4) (.tmp 19) rfl w.heap.size #[.int .i64 0, .int .i64 0] rfl rfl _ _ HT1.out infoSpan rfl (sp_one _ _) ?_)
    exact bodyPost_ret (results_rowH rfl _ _ w.heap.size _ #[.int .i64 0, .int .i64 0] _ _ rfl (HT1.out.row _) Try.underlying44 rfl infoSpan) rfl ⟨rfl, below_setRow HB1.out (Nat.le_refl _) _⟩
  · obtain ⟨x, rfl⟩ : ∃ x : Nat, a = (x : Int) := ⟨a.toNat, by omega⟩
    have hx : x + 16 ≤ s.size := by omega
    have HP : Hid (∀ W, Calls Try.prog 40 #[.string s, .agg #[.int .i64 (x : Int), .int .i64 16]] W fun e w' => e = .returned (.tuple #[.string (s.extract x (x + 16)), .int .i64 0]) ∧ Below W.heap.size W w') := fun W => by
      have := hpart_any s x 16 W (by unfold maxLen; omega) (by unfold in64; omega) (by unfold in64; omega)
      rwa [show partR s (x : Int) 16 = (s.extract x (x + 16), 0) from if_neg (by omega)] at this
    have HF := Lib.hid (dfour s x hx)
    have HPF : Hid (numAt (s.data.toList.drop x) 0 ≠ 0 ∨ numAt (s.data.toList.drop x) 2 ≠ 0 → pairD s.data.toList (x : Int) = (sp0, 6)) := fun h => pair_form (by rw [hsz]; exact hx) h
    have HPT : Hid (¬ (numAt (s.data.toList.drop x) 0 ≠ 0 ∨ numAt (s.data.toList.drop x) 2 ≠ 0) → pairD s.data.toList (x : Int) = (⟨numAt (s.data.toList.drop x) 1, numAt (s.data.toList.drop x) 3⟩, 0)) := fun h => pair_there (by rw [hsz]; exact hx) h
    generalize pairD s.data.toList (x : Int) = R at *
    generalize s.data.toList.drop x = y at *
    generalize s.extract x (x + 16) = z at *
    clear h0 hsz hx ha
    go_enter Try.func39, Try.ntmps39
    go_wp2_with fail
    refine (HP.out _).mono ?_
    rintro e w1 ⟨rfl, hb1⟩
    have HT1 := Lib.hid (HT0.out.below hb1 HT0.out.lt)
    have HB1 := Lib.hid (HB0.out.trans (hb1.mono HB0.out.size))
    clear hb1 HT0 HB0 HP
    go_wp2_with fail
    refine (HF.out _).mono ?_
    rintro e w2 ⟨b, off, cap, rfl, hc, hb2⟩
    have HT2 := Lib.hid (HT1.out.below hb2 HT1.out.lt)
    have HB2 := Lib.hid (HB1.out.trans (hb2.mono HB1.out.size))
    have p0 := hc 0 (by omega)
    have p1 := hc 1 (by omega)
    have p2 := hc 2 (by omega)
    have p3 := hc 3 (by omega)
    rw [Nat.add_zero] at p0
    clear hb2 hc HT1 HB1 HF
    generalize numAt y = nn at *
    by_cases g0 : nn 0 = 0
    · have f0 : (nn 0 != 0) = false := by rw [g0]; rfl
      by_cases g2 : nn 2 = 0
      · have f2 : (nn 2 != 0) = false := by rw [g2]; rfl
        obtain rfl := HPT.out (by rw [g0, g2]; simp)
        clear HPF HPT g0 g2
        have k0 : w2.cell? ⟨w.heap.size, 0, none⟩ = some (.int .i64 0) := HT2.out.cell 0
        have k1 : w2.cell? ⟨w.heap.size, 1, none⟩ = some (.int .i64 0) := HT2.out.cell 1
        have r0 := HT2.out.frozen 0
        have r1 := HT2.out.frozen 1
        have HT3 : Hid (Arr ((w2.setCell ⟨w.heap.size, 0, none⟩ (.int .i64 (nn 1))).setCell ⟨w.heap.size, 1, none⟩ (.int .i64 (nn 3))).drew w.heap.size 44 #[.int .i64 (nn 1), .int .i64 (nn 3)]) := (HT2.out.put 0 _).put 1 _
        have HB3 : Hid (Below w.heap.size w ((w2.setCell ⟨w.heap.size, 0, none⟩ (.int .i64 (nn 1))).setCell ⟨w.heap.size, 1, none⟩ (.int .i64 (nn 3))).drew) := ((HB2.out.setCell (p := ⟨w.heap.size, 0, none⟩) (by simp) _).setCell (p := ⟨w.heap.size, 1, none⟩) (by simp) _).drew
        clear HT2 HB2
        go_upto_region 7 with fail
        go_region
        go_wp2
        exact bodyPost_ret (results_rowH rfl _ _ w.heap.size _ #[.int .i64 (nn 1), .int .i64 (nn 3)] _ _ rfl HT3.out Try.underlying44 rfl infoSpan) rfl ⟨rfl, HB3.out⟩
      · have f2 : (nn 2 != 0) = true := by simpa using g2
        obtain rfl := HPF.out (.inr g2)
        clear HPF HPT g0 g2
        go_wp2_with (refine wpList_store_row rfl 44 (.tmp 4) (.tmp 35) rfl w.heap.size #[.int .i64 0, .int .i64 0] rfl rfl _ _ HT2.out infoSpan rfl (sp_one _ _) ?_)
        exact bodyPost_ret (results_rowH rfl _ _ w.heap.size _ #[.int .i64 0, .int .i64 0] _ _ rfl (HT2.out.row _) Try.underlying44 rfl infoSpan) rfl ⟨rfl, below_setRow HB2.out (Nat.le_refl _) _⟩
    · have f0 : (nn 0 != 0) = true := by simpa using g0
      obtain rfl := HPF.out (.inl g0)
      clear HPF HPT g0
      go_wp2_with (refine wpList_store_row rfl 44 (.tmp 4) (.tmp 35) rfl w.heap.size #[.int .i64 0, .int .i64 0] rfl rfl _ _ HT2.out infoSpan rfl (sp_one _ _) ?_)
      exact bodyPost_ret (results_rowH rfl _ _ w.heap.size _ #[.int .i64 0, .int .i64 0] _ _ rfl (HT2.out.row _) Try.underlying44 rfl infoSpan) rfl ⟨rfl, below_setRow HB2.out (Nat.le_refl _) _⟩
end Go.Proofs.Ytgfdbmbgldeljaa
