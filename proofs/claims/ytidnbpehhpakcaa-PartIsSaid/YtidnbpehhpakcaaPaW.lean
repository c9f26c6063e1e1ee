/- The awake() of layer 6's statements: what must come, whatever the arguments are. Conditions: the contracts of package part. -/
import Derived.Test.YtidnbpehhpakcaaPaI
namespace Go.Proofs.Ytidnbpehhpakcaa
open Go.RowKit

/-- The parts that it lays. -/
def p6a : PT := ⟨⟨#[97]⟩, 4, 2⟩
def p6b : PT := ⟨⟨#[98]⟩, 6, 1⟩
def p6c : PT := ⟨⟨#[98]⟩, 5, 1⟩
def l6 : List PT := [p6a, p6b]
theorem l6_ok : ckP l6 = 0 := by decide
theorem l6_no : ckP [p6a, p6c] = 12 := by decide
theorem l6_find : fdV l6 ⟨#[97]⟩ = p6a ∧ fdB l6 ⟨#[97]⟩ = true ∧ fdV l6 ⟨#[98]⟩ = p6b ∧ fdB l6 ⟨#[98]⟩ = true ∧ fdB l6 ⟨#[99]⟩ = false := ⟨rfl, rfl, rfl, rfl, rfl⟩
def p6D : List UInt8 := mapAt st0.B 3071 1 (prF ⟨#[120]⟩)
theorem p6D_take : (p6D.drop 3071).take 1 = [120] := by
  have hl : st0.B.length = 24576 := List.length_replicate
  rw [take_getD _ _ _ (by unfold p6D; rw [mapAt_length, hl]; decide)]
  show [p6D.getD 3071 0] = _
  unfold p6D
  rw [mapAt_getD _ _ _ _ _ (by rw [hl]; decide), if_pos (by decide), st0_getD 3071 (by decide)]
  rfl
theorem l6_bounds (x y : PT) (hx : x.fi < 9223372036854775808 ∧ -9223372036854775808 ≤ x.fi ∧ x.mn < 9223372036854775808 ∧ -9223372036854775808 ≤ x.mn) (hy : y.fi < 9223372036854775808 ∧ -9223372036854775808 ≤ y.fi ∧ y.mn < 9223372036854775808 ∧ -9223372036854775808 ≤ y.mn) :
    ∀ k, k < [x, y].length → ([x, y].getD k pt0).fi < 9223372036854775808 ∧ -9223372036854775808 ≤ ([x, y].getD k pt0).fi ∧ ([x, y].getD k pt0).mn < 9223372036854775808 ∧ -9223372036854775808 ≤ ([x, y].getD k pt0).mn := by
  intro k hk
  match k, hk with
  | 0, _ => exact hx
  | 1, _ => exact hy
theorem below_two {B : Nat} {w w' : World} (o : Obj) (h : Below (w.alloc o).heap.size (w.alloc o) w') (hB : B ≤ w.heap.size) : Below B w w' :=
  ((Below.refl _ _).alloc hB o).trans (h.mono (by rw [size_alloc]; omega))

set_option maxHeartbeats 1600000 in
set_option maxRecDepth 100000 in
theorem awake6 {TB : World → Option Addr → List PT → Prop} (H : PartOK TB) (w : World) : Calls Try.prog 7 #[] w fun e w' => e = .returned (.bool true) ∧ Below w.heap.size w w' := by
  have hg6 : Good l6 := good_of l6_ok
  have HN1 : Hid (∀ W : World, Calls Try.prog 8 #[.slice (some ⟨W.heap.size, 0, none⟩) 2 2] (W.alloc (.cells #[.string ⟨#[97]⟩, .int .i64 4, .int .i64 2, .string ⟨#[98]⟩, .int .i64 6, .int .i64 1] 33)) fun e w' => ∃ q, e = .returned (.tuple #[.pointer q, .int .i64 0]) ∧ TB w' q l6 ∧ Below W.heap.size W w') := by
    intro W
    refine (H.new _ 2 l6 _ (rdP_two W p6a p6b) (Lib.hid (by decide)) (by decide) (l6_bounds _ _ (by decide) (by decide))).mono ?_
    rintro e w' ⟨q, he, _, hT, hb⟩
    rw [l6_ok] at he
    exact ⟨q, he, hT l6_ok, below_two _ hb (Nat.le_refl _)⟩
  have HN2 : Hid (∀ W : World, Calls Try.prog 8 #[.slice (some ⟨W.heap.size, 0, none⟩) 2 2] (W.alloc (.cells #[.string ⟨#[97]⟩, .int .i64 4, .int .i64 2, .string ⟨#[98]⟩, .int .i64 5, .int .i64 1] 33)) fun e w' => ∃ q, e = .returned (.tuple #[.pointer q, .int .i64 12]) ∧ Below W.heap.size W w') := by
    intro W
    refine (H.new _ 2 [p6a, p6c] _ (rdP_two W p6a p6c) (Lib.hid (by decide)) (by decide) (l6_bounds _ _ (by decide) (by decide))).mono ?_
    rintro e w' ⟨q, he, _, _, hb⟩
    rw [l6_no] at he
    exact ⟨q, he, below_two _ hb (Nat.le_refl _)⟩
  have HNO : Hid (∀ W, Calls Try.prog 18 #[] W fun e w' => ∃ g, e = .returned (.pointer (some ⟨g, 0, none⟩)) ∧ W.heap.size ≤ g ∧ RN w' g ⟨true, 0, none, st0.B⟩ ∧ Below W.heap.size W w') := new_any
  have HGN : Hid (∀ p W, Calls Try.prog 19 #[.pointer p, .slice none 0 0] W fun e w' => ∃ g, e = .returned (.pointer (some ⟨g, 0, none⟩)) ∧ W.heap.size ≤ g ∧ Arr w' g 80 (lockC p (lkL [])) ∧ Below W.heap.size W w') :=
    fun p W => gnew_any p none 0 [] W (by decide) (.inl rfl)
  have hK : (lkL []).length = 48 := lkL_length _
  have t1 : ∀ a n, tch (lkL []) a n = false := by rw [lkL_nil]; exact tch_zero
  have i1 : ∀ x, inK (lkL []) x = false := by rw [lkL_nil]; exact inK_zero
  have hd : mapAt st0.B 3071 1 (prF ⟨#[120]⟩) = p6D := rfl
  have hdt := p6D_take
  generalize lkL [] = K at *
  generalize st0.B = B0 at *
  generalize p6D = B1 at *
  obtain ⟨f1, f2, f3, f4, f5⟩ := l6_find
  have HW1 : Hid (∀ W q gg gc, Tri TB W q l6 gg gc K ⟨true, 0, none, B0⟩ → Calls Try.prog 23 #[.pointer q, .pointer (some ⟨gg, 0, none⟩), .string ⟨#[97]⟩, .int .i64 1023, .string ⟨#[120]⟩] W fun e w' => e = .returned (.int .i64 0) ∧ Tri TB w' q l6 gg gc K ⟨true, 1, none, B1⟩ ∧ W.grownBy w' (some gc)) := by
    intro W q gg gc h
    have h2 := H.write W q l6 gg gc K ⟨true, 0, none, B0⟩ ⟨#[97]⟩ 1023 ⟨#[120]⟩ h.1 hg6 h.2 (by decide) (by decide) (by show 0 + 1 < 2305843009213693952; decide)
    have hp : plP l6 ⟨#[97]⟩ 1023 ((ByteArray.mk #[120]).size : Int) = (3071, 0) := pl_in f2 f1 (by decide)
    have e : pwS l6 K ⟨true, 0, none, B0⟩ ⟨#[97]⟩ 1023 ⟨#[120]⟩ = (⟨true, 1, none, B1⟩, 0) := by
      rw [pw_yes hp]
      unfold gwS
      rw [if_neg (by rw [t1]; decide)]
      have := wrS_free ⟨true, 0, none, B0⟩ rfl rfl 3071 ⟨#[120]⟩ (by decide) (by decide) (by decide)
      rw [← hd]
      exact this
    rw [e] at h2
    exact h2.mono fun e w' ⟨h3, h4, h5⟩ => ⟨h3, h.next H h4 h5, h5⟩
  have HRD : Hid (∀ W q gg gc, Tri TB W q l6 gg gc K ⟨true, 1, none, B1⟩ → Calls Try.prog 28 #[.pointer (some ⟨gg, 0, none⟩), .int .i64 3071, .int .i64 1] W fun e w' => e = .returned (.tuple #[.string ⟨#[120]⟩, .int .i64 0]) ∧ Tri TB w' q l6 gg gc K ⟨true, 1, none, B1⟩ ∧ Below W.heap.size W w') := by
    intro W q gg gc h
    have h2 := gread_rn (some ⟨gg, 0, none⟩) gc K ⟨true, 1, none, B1⟩ 3071 1 W h.2.1 h.2.2.1
    have e := rdS_free ⟨true, 1, none, B1⟩ rfl 3071 1 (by decide)
    rw [show ((⟨true, 1, none, B1⟩ : St).B.drop 3071).take 1 = [120] from hdt] at e
    rw [show rdS ⟨true, 1, none, B1⟩ 3071 1 = (⟨#[120]⟩, 0) from e] at h2
    exact h2.mono fun e w' ⟨h3, h4⟩ => ⟨h3, h.below H h4, h4⟩
  have HSZ : Hid (∀ W q gg gc, Tri TB W q l6 gg gc K ⟨true, 1, none, B1⟩ → Calls Try.prog 13 #[.pointer q, .string ⟨#[97]⟩] W fun e w' => e = .returned (.int .i64 1024) ∧ Tri TB w' q l6 gg gc K ⟨true, 1, none, B1⟩ ∧ Below W.heap.size W w') := by
    intro W q gg gc h
    have h2 := H.size W q l6 ⟨#[97]⟩ h.1 hg6
    rw [f1] at h2
    exact h2.mono fun e w' ⟨h3, h4⟩ => ⟨h3, h.below H h4, h4⟩
  have HSE : Hid (∀ W q gg gc, Tri TB W q l6 gg gc K ⟨true, 1, none, B1⟩ → Calls Try.prog 16 #[.pointer q, .slice (some ⟨W.heap.size, 0, none⟩) 2 2] (W.alloc (.cells #[.string ⟨#[98]⟩, .string ⟨#[97]⟩] 9)) fun e w' => (∃ A cap, e = .returned (.slice A 3 cap) ∧ RdI w'.heap.size w' A [6, 4, 5]) ∧ Tri TB w' q l6 gg gc K ⟨true, 1, none, B1⟩ ∧ Below W.heap.size W w') := by
    intro W q gg gc h
    have hA := h.below H ((Below.refl _ _).alloc (Nat.le_refl _) (.cells #[.string ⟨#[98]⟩, .string ⟨#[97]⟩] 9))
    have h2 := H.sectors _ q l6 _ 2 [⟨#[98]⟩, ⟨#[97]⟩] hA.1 hg6 (rdN_two W ⟨#[98]⟩ ⟨#[97]⟩) (by decide)
    have e : secs l6 [⟨#[98]⟩, ⟨#[97]⟩] = [6, 4, 5] := by
      show secs1 _ _ ++ (secs1 _ _ ++ []) = _
      rw [f1, f3]
      decide
    rw [e] at h2
    refine h2.mono ?_
    rintro e w' ⟨A, cap, h3, h4, h5⟩
    exact ⟨⟨A, cap, h3, h4⟩, hA.below H h5, below_two _ h5 (Nat.le_refl _)⟩
  have HSI : Hid (∀ (W : World) A cap, RdI W.heap.size W A [6, 4, 5] → Calls Try.prog 15 #[.slice A 3 cap, .slice (some ⟨W.heap.size, 0, none⟩) 3 3] (W.alloc (.cells #[.int .i64 6, .int .i64 4, .int .i64 5] 3)) fun e w' => e = .returned (.bool true) ∧ Below W.heap.size W w') := by
    intro W A cap h
    have h1 : RdI (W.alloc (.cells #[.int .i64 6, .int .i64 4, .int .i64 5] 3)).heap.size (W.alloc (.cells #[.int .i64 6, .int .i64 4, .int .i64 5] 3)) A [6, 4, 5] := (h.below ((Below.refl _ _).alloc (Nat.le_refl _) _)).mono (by rw [size_alloc]; omega)
    have h2 := sameInts_any A (some ⟨W.heap.size, 0, none⟩) cap 3 [6, 4, 5] _ (by decide) h1 (by rw [size_alloc]; exact rdI_new W [6, 4, 5])
    exact h2.mono fun e w' ⟨h3, h4⟩ => ⟨h3, below_two _ h4 (Nat.le_refl _)⟩
  have HER : Hid (∀ W q gg gc, Tri TB W q l6 gg gc K ⟨true, 1, none, B1⟩ → Calls Try.prog 25 #[.pointer q, .pointer (some ⟨gg, 0, none⟩), .string ⟨#[98]⟩, .int .i64 1] W fun e w' => e = .returned (.int .i64 2) ∧ Tri TB w' q l6 gg gc K ⟨true, 1, none, B1⟩ ∧ W.grownBy w' (some gc)) := by
    intro W q gg gc h
    have h2 := H.erase W q l6 gg gc K ⟨true, 1, none, B1⟩ ⟨#[98]⟩ 1 h.1 hg6 h.2 (by decide) (by decide) (by show 1 < 2305843009213693952; decide)
    rw [pe_out f4 f3 (by decide)] at h2
    exact h2.mono fun e w' ⟨h3, h4, h5⟩ => ⟨h3, h.next H h4 h5, h5⟩
  have HW2 : Hid (∀ W q gg gc, Tri TB W q l6 gg gc K ⟨true, 1, none, B1⟩ → Calls Try.prog 23 #[.pointer q, .pointer (some ⟨gg, 0, none⟩), .string ⟨#[99]⟩, .int .i64 0, .string ⟨#[]⟩] W fun e w' => e = .returned (.int .i64 8) ∧ W.grownBy w' (some gc)) := by
    intro W q gg gc h
    have h2 := H.write W q l6 gg gc K ⟨true, 1, none, B1⟩ ⟨#[99]⟩ 0 ⟨#[]⟩ h.1 hg6 h.2 (by decide) (by decide) (by show 1 + 0 < 2305843009213693952; decide)
    rw [pw_no (pl_none f5 _ _) (by decide)] at h2
    exact h2.mono fun e w' ⟨h3, h4, h5⟩ => ⟨h3, h5⟩
  have HK := Lib.hid hK
  have HBL := Lib.hid H
  clear t1 i1 hd hdt f1 f2 f3 f4 f5 hg6 hK H
  go_enter Try.func7, Try.ntmps7
  go_wp2_with fail
  refine (HN1.out _).mono ?_
  rintro e w1 ⟨q, rfl, hT, hb1⟩
  have HT1 := Lib.hid hT
  have HB1 := Lib.hid hb1
  have hz1 := hb1.size
  clear hT hb1 HN1
  go_wp2_with fail
  refine (HN2.out _).mono ?_
  rintro e w2 ⟨q2, rfl, hb2⟩
  have HT2 := Lib.hid (HBL.out.below _ _ _ _ HT1.out hb2)
  have HB2 := Lib.hid (HB1.out.trans (hb2.mono hz1))
  have hz2 := HB2.out.size
  clear hb2 HT1 HB1 HN2
  go_wp2_with fail
  refine (HNO.out _).mono ?_
  rintro e w3 ⟨gc, rfl, hgc, hr3, hb3⟩
  have HT3 := Lib.hid (HBL.out.below _ _ _ _ HT2.out hb3)
  have H3 := Lib.hid hr3
  have HB3 := Lib.hid (HB2.out.trans (hb3.mono hz2))
  have hz3 := HB3.out.size
  have hlt := hr3.lt
  have hgc2 : w.heap.size ≤ gc := by omega
  clear hr3 hb3 HT2 HB2 HNO
  go_wp2_with fail
  refine (HGN.out _ _).mono ?_
  rintro e w4 ⟨gg, rfl, hgg, hA4, hb4⟩
  have H4 : Hid (Tri TB w4 q l6 gg gc K ⟨true, 0, none, B0⟩) := ⟨HBL.out.below _ _ _ _ HT3.out hb4, ⟨⟨HK.out, .inr ⟨gg, rfl, hA4⟩⟩, H3.out.below hb4 hlt, by omega⟩⟩
  have HB4 := Lib.hid (HB3.out.trans (hb4.mono hz3))
  have hz4 := HB4.out.size
  clear hA4 hb4 HT3 H3 HB3 HGN
  go_wp2_with fail
  refine (HW1.out _ _ _ _ H4.out).mono ?_
  rintro e w5 ⟨rfl, hT, hg⟩
  have H5 := Lib.hid hT
  have HB5 := Lib.hid (below_grown HB4.out hg hgc2 hz4)
  have hz5 := HB5.out.size
  clear hT hg H4 HB4
  go_wp2_with fail
  refine (HRD.out _ _ _ _ H5.out).mono ?_
  rintro e w6 ⟨rfl, hT, hg⟩
  have H6 := Lib.hid hT
  have HB6 := Lib.hid (HB5.out.trans (hg.mono hz5))
  have hz6 := HB6.out.size
  clear hT hg H5 HB5
  go_wp2_with fail
  refine (HSZ.out _ _ _ _ H6.out).mono ?_
  rintro e w7 ⟨rfl, hT, hg⟩
  have H7 := Lib.hid hT
  have HB7 := Lib.hid (HB6.out.trans (hg.mono hz6))
  have hz7 := HB7.out.size
  clear hT hg H6 HB6
  go_wp2_with fail
  refine (HSE.out _ _ _ _ H7.out).mono ?_
  rintro e w8 ⟨⟨A, cap, rfl, hI⟩, hT, hg⟩
  have H8 := Lib.hid hT
  have HI8 := Lib.hid hI
  have HB8 := Lib.hid (HB7.out.trans (hg.mono hz7))
  have hz8 := HB8.out.size
  clear hT hg hI H7 HB7
  go_wp2_with fail
  refine (HSI.out _ _ _ HI8.out).mono ?_
  rintro e w9 ⟨rfl, hg⟩
  have H9 := Lib.hid (H8.out.below HBL.out hg)
  have HB9 := Lib.hid (HB8.out.trans (hg.mono hz8))
  have hz9 := HB9.out.size
  clear hg H8 HB8 HI8
  go_wp2_with fail
  refine (HER.out _ _ _ _ H9.out).mono ?_
  rintro e w10 ⟨rfl, hT, hg⟩
  have H10 := Lib.hid hT
  have HB10 := Lib.hid (below_grown HB9.out hg hgc2 hz9)
  have hz10 := HB10.out.size
  clear hT hg H9 HB9
  go_wp2_with fail
  refine (HW2.out _ _ _ _ H10.out).mono ?_
  rintro e w11 ⟨rfl, hg⟩
  have HB11 := Lib.hid (below_grown HB10.out hg hgc2 hz10)
  clear hg H10 HB10
  go_wp2
  go_ret
  exact ⟨rfl, HB11.out⟩
end Go.Proofs.Ytidnbpehhpakcaa
