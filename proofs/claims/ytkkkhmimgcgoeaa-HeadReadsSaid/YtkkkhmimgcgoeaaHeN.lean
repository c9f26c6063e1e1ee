/- The program's Put of layer 11; head_must: what the laws' walks of layer 11 lean on holds of package head. Conditions: numbers of 64 bits; strings of at most 2^40 bytes. -/
import Derived.Test.YtkkkhmimgcgoeaaHeL
import Derived.Test.YtkkkhmimgcgoeaaHeM
namespace Go.Proofs.Ytkkkhmimgcgoeaa
open Go.RowKit

set_option maxHeartbeats 1600000 in
set_option maxRecDepth 100000 in
theorem hput_any (h : HD) (w : World) (hh : inH h) :
    Calls Try.prog 6 #[.agg (hdC h)] w fun e w' => e = .returned (.tuple #[.string ⟨(putH h).1.toArray⟩, .int .i64 ((putH h).2 : Int)]) ∧ Below w.heap.size w w' := by
  have HM := Lib.hid (fun W => valid_any h W hh)
  clear hh
  obtain ⟨tt, st, sg, rv, bo, tx, sz⟩ := h
  show Calls _ _ #[.agg #[.int .i64 tt, .int .i64 st, .int .i64 sg, .int .i64 rv, .int .i64 bo, .int .i64 tx, .int .i64 sz]] _ _
  obtain ⟨W0, hW0⟩ : ∃ W0, W0 = w.alloc (.cells #[.int .i64 tt, .int .i64 st, .int .i64 sg, .int .i64 rv, .int .i64 bo, .int .i64 tx, .int .i64 sz] 23) := ⟨_, rfl⟩
  have HA0 : Hid (Arr W0 w.heap.size 23 #[.int .i64 tt, .int .i64 st, .int .i64 sg, .int .i64 rv, .int .i64 bo, .int .i64 tx, .int .i64 sz]) := by rw [hW0]; exact Arr.new w _ _
  have HB0 : Hid (Below w.heap.size w W0) := by rw [hW0]; exact (Below.refl _ _).alloc (Nat.le_refl _) _
  cases hv : validH ⟨tt, st, sg, rv, bo, tx, sz⟩ with
  | false =>
    have HP : putH ⟨tt, st, sg, rv, bo, tx, sz⟩ = ([], 1) := by
      unfold putH
      refine if_neg fun hg => ?_
      unfold validH at hv
      rw [hg.1, decide_eq_true hg.2] at hv
      cases hv
    rw [HP]
    rw [hv] at HM
    clear hv HP
    go_enter Try.func6, Try.ntmps6
    go_upto_region 1 with fail
    rw [← hW0]
    clear hW0
    go_wp2_with (refine wpList_load_row rfl 23 (.tmp 1) rfl w.heap.size rfl _ _ _ _ HA0.out Try.underlying23 rfl (infoH hd0) ?_)
    refine (HM.out _).mono ?_
    rintro e w1 ⟨rfl, hb1⟩
    have HB1 := Lib.hid (HB0.out.trans (hb1.mono HB0.out.size))
    clear hb1 HM HA0 HB0
    go_wp2
    go_ret2
    exact ⟨rfl, HB1.out⟩
  | true =>
    have HP : putH ⟨tt, st, sg, rv, bo, tx, sz⟩ = (bigs (listH ⟨tt, st, sg, rv, bo, tx, sz⟩) 10, 0) := by
      unfold putH
      unfold validH at hv
      rw [Bool.and_eq_true] at hv
      exact if_pos ⟨hv.1, of_decide_eq_true hv.2⟩
    rw [HP]
    rw [hv] at HM
    obtain ⟨BS, hBS⟩ : ∃ BS : ByteArray, BS = ⟨(bigs (listH ⟨tt, st, sg, rv, bo, tx, sz⟩) 10).toArray⟩ := ⟨_, rfl⟩
    show Calls _ _ _ _ (fun e w' => e = .returned (.tuple #[.string ⟨(bigs (listH ⟨tt, st, sg, rv, bo, tx, sz⟩) 10).toArray⟩, .int .i64 0]) ∧ _)
    rw [← hBS]
    clear hv HP
    have HBI : Hid (∀ W' b, Arr W' b 3 #[.int .i64 3490578157, .int .i64 tt, .int .i64 st, .int .i64 sg, .int .i64 rv, .int .i64 17, .int .i64 16, .int .i64 bo, .int .i64 tx, .int .i64 sz] → Calls Try.prog 13 #[.slice (some ⟨b, 0, none⟩) 10 10] W' fun e w' => e = .returned (.string BS) ∧ Below W'.heap.size W' w') := fun W' b hA => by
      rw [hBS]
      refine bigs_any (some ⟨b, 0, none⟩) 10 (listH ⟨tt, st, sg, rv, bo, tx, sz⟩) W' (by show (10 : Nat) ≤ 1099511627776; decide) (.inr ⟨b, 0, rfl, hA.lt, fun j hj => ?_⟩)
      rw [Nat.zero_add, hA.cell]
      match j, hj with
      | 0, _ => rfl
      | 1, _ => rfl
      | 2, _ => rfl
      | 3, _ => rfl
      | 4, _ => rfl
      | 5, _ => rfl
      | 6, _ => rfl
      | 7, _ => rfl
      | 8, _ => rfl
      | 9, _ => rfl
    clear hBS
    go_enter Try.func6, Try.ntmps6
    go_upto_region 1 with fail
    rw [← hW0]
    clear hW0
    go_wp2_with (refine wpList_load_row rfl 23 (.tmp 1) rfl w.heap.size rfl _ _ _ _ HA0.out Try.underlying23 rfl (infoH hd0) ?_)
    refine (HM.out _).mono ?_
    rintro e w1 ⟨rfl, hb1⟩
    have HB1 := Lib.hid (HB0.out.trans (hb1.mono HB0.out.size))
    have HA1 := Lib.hid (HA0.out.below hb1 HA0.out.lt)
    have c0 := HA1.out.cell 0
    have c1 := HA1.out.cell 1
    have c2 := HA1.out.cell 2
    have c3 := HA1.out.cell 3
    have c4 := HA1.out.cell 4
    have c5 := HA1.out.cell 5
    have c6 := HA1.out.cell 6
    simp only [List.getElem?_toArray, List.getElem?_cons_zero, List.getElem?_cons_succ] at c0 c1 c2 c3 c4 c5 c6
    clear hb1 HM HA0 HB0 HA1
    go_wp2_with fail
    refine (HBI.out _ _ (Arr.new _ _ _)).mono ?_
    rintro e w2 ⟨rfl, hb3⟩
    have hz1 := HB1.out.size
    have HB2 := Lib.hid ((HB1.out.alloc hz1 _).trans (hb3.mono (by show _ ≤ (w1.heap.push _).size; rw [Array.size_push]; omega)))
    clear hb3
    go_wp2
    go_ret2
    exact ⟨rfl, HB2.out⟩

theorem head_must : HeadMust where
  put := hput_any
  read := hread_any
  part := hpart_any
end Go.Proofs.Ytkkkhmimgcgoeaa
