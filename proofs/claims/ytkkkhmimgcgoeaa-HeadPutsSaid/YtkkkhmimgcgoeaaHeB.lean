/- The document's Put and Part of layer 11. Conditions: numbers of 64 bits; strings of at most 2^40 bytes. -/
import Derived.Test.YtkkkhmimgcgoeaaHeA
namespace Go.Proofs.Ytkkkhmimgcgoeaa
open Go.RowKit

set_option maxHeartbeats 1600000 in
set_option maxRecDepth 100000 in
theorem rpart_any (s : ByteArray) (a b : Int) (w : World) (hs : s.size ≤ maxLen) (ha : in64 a) (hb : in64 b) :
    Calls Try.prog 9 #[.string s, .agg #[.int .i64 a, .int .i64 b]] w fun e w' => e = .returned (.tuple #[.string (partR s a b).1, .int .i64 ((partR s a b).2 : Int)]) ∧ Below w.heap.size w w' := by
  unfold maxLen at hs
  have HA : Hid (in64 a ∧ in64 b) := ⟨ha, hb⟩
  clear ha hb
  go_enter Try.func9, Try.ntmps9
  go_wp2
  all_goals
    go_ret2
    unfold partR
    first
      | (rw [if_pos (by omega)]; exact ⟨rfl, (Below.refl _ _).alloc (Nat.le_refl _) _⟩)
      | (rw [if_neg (by omega)]; exact ⟨rfl, (Below.refl _ _).alloc (Nat.le_refl _) _⟩)

set_option maxHeartbeats 1600000 in
set_option maxRecDepth 100000 in
theorem rputH_any (h : HD) (w : World) (ht : in64 h.tot) :
    Calls Try.prog 7 #[.agg (hdC h)] w fun e w' => e = .returned (.tuple #[.string ⟨(putH h).1.toArray⟩, .int .i64 ((putH h).2 : Int)]) ∧ Below w.heap.size w w' := by
  obtain ⟨to, st, sg, rv, bo, tx, sz⟩ := h
  show Calls _ _ #[.agg #[.int .i64 to, .int .i64 st, .int .i64 sg, .int .i64 rv, .int .i64 bo, .int .i64 tx, .int .i64 sz]] _ _
  have HM : Hid (∀ W, Calls Try.prog 14 #[.agg #[.int .i64 to, .int .i64 st, .int .i64 sg, .int .i64 rv, .int .i64 bo, .int .i64 tx, .int .i64 sz]] W fun e w' => e = .returned (.bool (mayH ⟨to, st, sg, rv, bo, tx, sz⟩)) ∧ Below W.heap.size W w') := fun W => rmay_any ⟨to, st, sg, rv, bo, tx, sz⟩ W ht
  obtain ⟨g, hg⟩ : ∃ g, g = w.heap.size := ⟨_, rfl⟩
  have hA0 := Arr.new w 23 #[.int .i64 to, .int .i64 st, .int .i64 sg, .int .i64 rv, .int .i64 bo, .int .i64 tx, .int .i64 sz]
  have HE : Hid (∀ W1, Below (g + 1) (w.alloc (.cells #[.int .i64 to, .int .i64 st, .int .i64 sg, .int .i64 rv, .int .i64 bo, .int .i64 tx, .int .i64 sz] 23)) W1 → Arr W1 g 23 #[.int .i64 to, .int .i64 st, .int .i64 sg, .int .i64 rv, .int .i64 bo, .int .i64 tx, .int .i64 sz] ∧ Below w.heap.size w W1) := by
    intro W1 h
    rw [hg] at h ⊢
    exact ⟨hA0.below h (Nat.lt_succ_self _), ((Below.refl _ _).alloc (Nat.le_refl _) _).trans (h.mono (Nat.le_succ _))⟩
  have HZ : Hid ((w.alloc (.cells #[.int .i64 to, .int .i64 st, .int .i64 sg, .int .i64 rv, .int .i64 bo, .int .i64 tx, .int .i64 sz] 23)).heap.size = g + 1) := by rw [hg]; exact Array.size_push _
  clear hA0
  cases hm : mayH ⟨to, st, sg, rv, bo, tx, sz⟩ with
  | false =>
    have HP : putH ⟨to, st, sg, rv, bo, tx, sz⟩ = ([], 1) := by unfold putH; rw [hm]; rfl
    rw [HP]
    rw [hm] at HM
    clear hm HP
    go_enter Try.func7, Try.ntmps7
    go_wp2_with fail
    refine (HM.out _).mono ?_
    rintro e w1 ⟨rfl, hb1⟩
    rw [HZ.out] at hb1
    obtain ⟨hA1, hb2⟩ := HE.out _ hb1
    have HA := Lib.hid hA1
    have HB := Lib.hid hb2
    have c0 := hA1.cell 0
    have c1 := hA1.cell 1
    have c2 := hA1.cell 2
    have c3 := hA1.cell 3
    have c4 := hA1.cell 4
    have c5 := hA1.cell 5
    have c6 := hA1.cell 6
    simp only [List.getElem?_toArray, List.getElem?_cons_zero, List.getElem?_cons_succ] at c0 c1 c2 c3 c4 c5 c6
    rw [hg] at c0 c1 c2 c3 c4 c5 c6
    clear hA1 hb2 hb1 HE HZ HM
    go_wp2
    go_ret2
    exact ⟨rfl, HB.out⟩
  | true =>
    rw [hm] at HM
    by_cases hb : 16384 < to
    · have HP : putH ⟨to, st, sg, rv, bo, tx, sz⟩ = ([], 1) := by unfold putH; rw [hm]; exact if_neg (fun h => absurd h.2 (by show ¬ to ≤ 16384; omega))
      rw [HP]
      clear hm HP
      go_enter Try.func7, Try.ntmps7
      go_wp2_with fail
      refine (HM.out _).mono ?_
      rintro e w1 ⟨rfl, hb1⟩
      rw [HZ.out] at hb1
      obtain ⟨hA1, hb2⟩ := HE.out _ hb1
      have HA := Lib.hid hA1
      have HB := Lib.hid hb2
      have c0 := hA1.cell 0
      have c1 := hA1.cell 1
      have c2 := hA1.cell 2
      have c3 := hA1.cell 3
      have c4 := hA1.cell 4
      have c5 := hA1.cell 5
      have c6 := hA1.cell 6
      simp only [List.getElem?_toArray, List.getElem?_cons_zero, List.getElem?_cons_succ] at c0 c1 c2 c3 c4 c5 c6
      rw [hg] at c0 c1 c2 c3 c4 c5 c6
      clear hA1 hb2 hb1 HE HZ HM
      go_wp2
      go_ret2
      exact ⟨rfl, HB.out⟩
    · have HP : putH ⟨to, st, sg, rv, bo, tx, sz⟩ = (bigs (listH ⟨to, st, sg, rv, bo, tx, sz⟩) 10, 0) := by unfold putH; rw [hm]; exact if_pos ⟨rfl, by show to ≤ 16384; omega⟩
      have hb' : to ≤ 16384 := by omega
      rw [HP]
      obtain ⟨BS, hBS⟩ : ∃ BS : ByteArray, BS = ⟨(bigs (listH ⟨to, st, sg, rv, bo, tx, sz⟩) 10).toArray⟩ := ⟨_, rfl⟩
      show Calls _ _ _ _ (fun e w' => e = .returned (.tuple #[.string ⟨(bigs (listH ⟨to, st, sg, rv, bo, tx, sz⟩) 10).toArray⟩, .int .i64 0]) ∧ _)
      rw [← hBS]
      clear hm HP hb
      have HBI : Hid (∀ W' b, Arr W' b 3 #[.int .i64 3490578157, .int .i64 to, .int .i64 st, .int .i64 sg, .int .i64 rv, .int .i64 17, .int .i64 16, .int .i64 bo, .int .i64 tx, .int .i64 sz] → Calls Try.prog 15 #[.slice (some ⟨b, 0, none⟩) 10 10] W' fun e w' => e = .returned (.string BS) ∧ Below W'.heap.size W' w') := fun W' b hA => by
        rw [hBS]
        refine refbigs_any (some ⟨b, 0, none⟩) 10 (listH ⟨to, st, sg, rv, bo, tx, sz⟩) W' (by show (10 : Nat) ≤ 1099511627776; decide) (.inr ⟨b, 0, rfl, hA.lt, fun j hj => ?_⟩)
        rw [Nat.zero_add, hA.cell]
        match j, hj with
        | 0, _ => rfl
        | 1, _ => rfl
        | 2, _ => rfl
        | 3, _ => rfl
        | 4, _ => rfl
        | 5, _ => rfl
        | 6, _ => rfl
        | 7, _ => rfl
        | 8, _ => rfl
        | 9, _ => rfl
      clear hBS
      go_enter Try.func7, Try.ntmps7
      go_wp2_with fail
      refine (HM.out _).mono ?_
      rintro e w1 ⟨rfl, hb1⟩
      rw [HZ.out] at hb1
      obtain ⟨hA1, hb2⟩ := HE.out _ hb1
      have HA := Lib.hid hA1
      have HB := Lib.hid hb2
      have c0 := hA1.cell 0
      have c1 := hA1.cell 1
      have c2 := hA1.cell 2
      have c3 := hA1.cell 3
      have c4 := hA1.cell 4
      have c5 := hA1.cell 5
      have c6 := hA1.cell 6
      simp only [List.getElem?_toArray, List.getElem?_cons_zero, List.getElem?_cons_succ] at c0 c1 c2 c3 c4 c5 c6
      rw [hg] at c0 c1 c2 c3 c4 c5 c6
      clear hA1 hb2 hb1 HE HZ HM
      go_wp2_with fail
      refine (HBI.out _ _ (Arr.new _ _ _)).mono ?_
      rintro e w2 ⟨rfl, hb3⟩
      have hz1 := HB.out.size
      have HB2 := Lib.hid ((HB.out.alloc hz1 _).trans (hb3.mono (by show _ ≤ (w1.heap.push _).size; rw [Array.size_push]; omega)))
      clear hb3
      go_wp2
      go_ret2
      exact ⟨rfl, HB2.out⟩
end Go.Proofs.Ytkkkhmimgcgoeaa
