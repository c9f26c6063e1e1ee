/- The law's awake(): what must come, whatever the arguments are. No condition. -/
import Derived.Test.YtmfmkhbpaeckoaaGuD
namespace Go.Proofs.Ytmfmkhbpaeckoaa
open Go.RowKit

/-- A slice of numbers that the call has just laid. -/
theorem rdI_new (w : World) (l : List Int) : RdI (w.heap.size + 1) (w.alloc (.cells (l.map (Value.int .i64)).toArray 3)) (some ⟨w.heap.size, 0, none⟩) l := by
  refine .inr ⟨w.heap.size, 0, rfl, Nat.lt_succ_self _, fun k hk => ?_⟩
  rw [Nat.zero_add, (Arr.new w 3 _).cell k]
  simp [List.getD, hk]
theorem gnew_lit (l : List Int) (hl : l.length ≤ maxLen) (p : Option Addr) (W : World) :
    Calls Try.prog 8 #[.pointer p, .slice (some ⟨W.heap.size, 0, none⟩) l.length l.length] (W.alloc (.cells (l.map (Value.int .i64)).toArray 3)) fun e w' => ∃ g, e = .returned (.pointer (some ⟨g, 0, none⟩)) ∧ W.heap.size ≤ g ∧ Arr w' g 39 (lockC p (lkL l)) ∧ Below W.heap.size W w' := by
  refine (gnew_any p _ _ l _ hl (by rw [size_alloc]; exact rdI_new W l)).mono ?_
  rintro e w' ⟨g, he, hg, hA, hb⟩
  rw [size_alloc] at hg hb
  exact ⟨g, he, by omega, hA, ((Below.refl _ _).alloc (Nat.le_refl _) _).trans (hb.mono (by omega))⟩
theorem glocked_lit (l : List Int) (hl : l.length ≤ maxLen) (q p : Option Addr) (K : List Bool) (W : World) (h : GD W q p K) (b : Bool) (hb : allK K l = b) :
    Calls Try.prog 15 #[.pointer q, .slice (some ⟨W.heap.size, 0, none⟩) l.length l.length] (W.alloc (.cells (l.map (Value.int .i64)).toArray 3)) fun e w' => e = .returned (.bool b) ∧ Below W.heap.size W w' := by
  subst hb
  refine (glocked_any q p K _ _ l _ (h.alloc _) hl (by rw [size_alloc]; exact rdI_new W l)).mono ?_
  rintro e w' ⟨he, hb⟩
  rw [size_alloc] at hb
  exact ⟨he, ((Below.refl _ _).alloc (Nat.le_refl _) _).trans (hb.mono (by omega))⟩
theorem glocked_nil (q p : Option Addr) (K : List Bool) (W : World) (h : GD W q p K) :
    Calls Try.prog 15 #[.pointer q, .slice none 0 0] W fun e w' => e = .returned (.bool false) ∧ Below W.heap.size W w' :=
  glocked_any q p K none 0 [] W h (by decide) (.inl rfl)
theorem gon_rn (q : Option Addr) (gc : Nat) (K : List Bool) (c : St) (w : World) (hG : GD w q (some ⟨gc, 0, none⟩) K) (hN : RN w gc c) :
    Calls Try.prog 13 #[.pointer q] w fun e w' => e = .returned (.bool c.on) ∧ Below w.heap.size w w' :=
  gon_any q _ K _ w hG fun W hW => on_any gc c W (hN.below hW hN.lt)
theorem gops_rn (q : Option Addr) (gc : Nat) (K : List Bool) (c : St) (w : World) (hG : GD w q (some ⟨gc, 0, none⟩) K) (hN : RN w gc c) :
    Calls Try.prog 14 #[.pointer q] w fun e w' => e = .returned (.int .i64 c.ops) ∧ Below w.heap.size w w' :=
  gops_any q _ K _ w hG fun W hW => ops_any gc c W (hN.below hW hN.lt)
/-- A flash and its guard. -/
def Two (w : World) (gg gc : Nat) (K : List Bool) (c : St) : Prop := GD w (some ⟨gg, 0, none⟩) (some ⟨gc, 0, none⟩) K ∧ RN w gc c ∧ gg ≠ gc
theorem Two.below {w w' : World} {gg gc : Nat} {K : List Bool} {c : St} (h : Two w gg gc K c) (hb : Below w.heap.size w w') : Two w' gg gc K c := ⟨h.1.below hb, h.2.1.below hb h.2.1.lt, h.2.2⟩
theorem Two.next {w w' : World} {gg gc : Nat} {K : List Bool} {c c' : St} (h : Two w gg gc K c) (hN : RN w' gc c') (hg : w.grownBy w' (some gc)) : Two w' gg gc K c' :=
  ⟨h.1.grown hg (fun e => h.2.2 (by injection e with e; injection e)), hN, h.2.2⟩

def awK : List Bool := lkL [0, 3, 99]
def awD : List UInt8 := mapAt st0.B 512 1 (prF ⟨#[120]⟩)
theorem awD_take : (awD.drop 512).take 1 = [120] := by
  have hl : st0.B.length = 24576 := List.length_replicate
  rw [take_getD _ _ _ (by unfold awD; rw [mapAt_length, hl]; decide)]
  show [awD.getD 512 0] = _
  unfold awD
  rw [mapAt_getD _ _ _ _ _ (by rw [hl]; decide), if_pos (by decide), st0_getD 512 (by decide)]
  rfl
set_option maxHeartbeats 1600000 in
set_option maxRecDepth 100000 in
theorem awake_any (w : World) : Calls Try.prog 6 #[] w fun e w' => e = .returned (.bool true) ∧ Below w.heap.size w w' := by
  have HN : Hid (Calls Try.prog 17 #[] w fun e w' => ∃ g, e = .returned (.pointer (some ⟨g, 0, none⟩)) ∧ w.heap.size ≤ g ∧ RN w' g ⟨true, 0, none, st0.B⟩ ∧ Below w.heap.size w w') := new_any w
  have i1 : inK awK 0 = true := by decide
  have i2 : tch awK 510 3 = true := by decide
  have i3 : tch awK 512 1 = false := by decide
  have l1 : allK awK [0, 3] = true := by decide
  have l2 : allK awK [0, 1] = false := by decide
  have l3 : allK awK [99] = false := by decide
  have hd : mapAt st0.B 512 1 (prF ⟨#[120]⟩) = awD := rfl
  have hdt := awD_take
  have hk : lkL [0, 3, 99] = awK := rfl
  generalize st0.B = B0 at *
  generalize awD = B1 at *
  have HG : Hid (∀ p W, Calls Try.prog 8 #[.pointer p, .slice (some ⟨W.heap.size, 0, none⟩) 3 3] (W.alloc (.cells #[.int .i64 0, .int .i64 3, .int .i64 99] 3)) fun e w' => ∃ g, e = .returned (.pointer (some ⟨g, 0, none⟩)) ∧ W.heap.size ≤ g ∧ Arr w' g 39 (lockC p awK) ∧ Below W.heap.size W w') :=
    fun p W => gnew_lit [0, 3, 99] (by decide) p W
  have HK : Hid (awK.length = 48) := lkL_length _
  clear hk
  generalize awK = K at *
  have HE : Hid (∀ W gg gc, Two W gg gc K ⟨true, 0, none, B0⟩ → Calls Try.prog 18 #[.pointer (some ⟨gg, 0, none⟩), .int .i64 0] W fun e w' => e = .returned (.int .i64 3) ∧ Two w' gg gc K ⟨true, 0, none, B0⟩ ∧ W.grownBy w' (some gc)) := by
    intro W gg gc h
    have := gerase_rn (some ⟨gg, 0, none⟩) gc K ⟨true, 0, none, B0⟩ 0 W h.1 h.2.1 (by show 0 < 4611686018427387904; decide)
    unfold geS at this
    rw [if_pos i1] at this
    exact this.mono fun e w' ⟨h1, h2, h3⟩ => ⟨h1, h.next h2 h3, h3⟩
  have HW : Hid (∀ W gg gc, Two W gg gc K ⟨true, 0, none, B0⟩ → Calls Try.prog 19 #[.pointer (some ⟨gg, 0, none⟩), .int .i64 510, .string ⟨#[97, 98, 99]⟩] W fun e w' => e = .returned (.int .i64 3) ∧ Two w' gg gc K ⟨true, 0, none, B0⟩ ∧ W.grownBy w' (some gc)) := by
    intro W gg gc h
    have := gwrite_rn (some ⟨gg, 0, none⟩) gc K ⟨true, 0, none, B0⟩ 510 ⟨#[97, 98, 99]⟩ W h.1 h.2.1 (by show 0 + 3 < 4611686018427387904; decide)
    unfold gwS at this
    rw [if_pos (show tch K 510 ((ByteArray.mk #[97, 98, 99]).size : Int) = true from i2)] at this
    exact this.mono fun e w' ⟨h1, h2, h3⟩ => ⟨h1, h.next h2 h3, h3⟩
  have HP : Hid (∀ W gg gc, Two W gg gc K ⟨true, 0, none, B0⟩ → Calls Try.prog 20 #[.pointer (some ⟨gg, 0, none⟩), .int .i64 512, .string ⟨#[120]⟩] W fun e w' => e = .returned (.int .i64 0) ∧ Two w' gg gc K ⟨true, 1, none, B1⟩ ∧ W.grownBy w' (some gc)) := by
    intro W gg gc h
    have := gprogram_rn (some ⟨gg, 0, none⟩) gc K ⟨true, 0, none, B0⟩ 512 ⟨#[120]⟩ W h.1 h.2.1 (by show 0 < 4611686018427387904; decide)
    have e : gpS K ⟨true, 0, none, B0⟩ 512 ⟨#[120]⟩ = (⟨true, 1, none, B1⟩, 0) := by
      unfold gpS
      rw [if_neg (by rw [show ((ByteArray.mk #[120]).size : Int) = 1 from rfl, i3]; decide)]
      have := prS_free ⟨true, 0, none, B0⟩ rfl rfl 512 ⟨#[120]⟩ (by decide) (by decide) (by decide)
      rw [← hd]
      exact this
    rw [e] at this
    exact this.mono fun e w' ⟨h1, h2, h3⟩ => ⟨h1, h.next h2 h3, h3⟩
  have HR : Hid (∀ W gg gc, Two W gg gc K ⟨true, 1, none, B1⟩ → Calls Try.prog 21 #[.pointer (some ⟨gg, 0, none⟩), .int .i64 512, .int .i64 1] W fun e w' => e = .returned (.tuple #[.string ⟨#[120]⟩, .int .i64 0]) ∧ Two w' gg gc K ⟨true, 1, none, B1⟩ ∧ Below W.heap.size W w') := by
    intro W gg gc h
    have := gread_rn (some ⟨gg, 0, none⟩) gc K ⟨true, 1, none, B1⟩ 512 1 W h.1 h.2.1
    have e := rdS_free ⟨true, 1, none, B1⟩ rfl 512 1 (by decide)
    rw [show ((⟨true, 1, none, B1⟩ : St).B.drop 512).take 1 = [120] from hdt] at e
    rw [show rdS ⟨true, 1, none, B1⟩ 512 1 = (⟨#[120]⟩, 0) from e] at this
    exact this.mono fun e w' ⟨h1, h2⟩ => ⟨h1, h.below h2, h2⟩
  have HL1 : Hid (∀ W gg gc, Two W gg gc K ⟨true, 1, none, B1⟩ → Calls Try.prog 15 #[.pointer (some ⟨gg, 0, none⟩), .slice (some ⟨W.heap.size, 0, none⟩) 2 2] (W.alloc (.cells #[.int .i64 0, .int .i64 3] 3)) fun e w' => e = .returned (.bool true) ∧ Two w' gg gc K ⟨true, 1, none, B1⟩ ∧ Below W.heap.size W w') :=
    fun W gg gc h => (glocked_lit [0, 3] (by decide) _ _ K W h.1 true l1).mono fun e w' ⟨h1, h2⟩ => ⟨h1, h.below h2, h2⟩
  have HL2 : Hid (∀ W gg gc, Two W gg gc K ⟨true, 1, none, B1⟩ → Calls Try.prog 15 #[.pointer (some ⟨gg, 0, none⟩), .slice (some ⟨W.heap.size, 0, none⟩) 2 2] (W.alloc (.cells #[.int .i64 0, .int .i64 1] 3)) fun e w' => e = .returned (.bool false) ∧ Two w' gg gc K ⟨true, 1, none, B1⟩ ∧ Below W.heap.size W w') :=
    fun W gg gc h => (glocked_lit [0, 1] (by decide) _ _ K W h.1 false l2).mono fun e w' ⟨h1, h2⟩ => ⟨h1, h.below h2, h2⟩
  have HL3 : Hid (∀ W gg gc, Two W gg gc K ⟨true, 1, none, B1⟩ → Calls Try.prog 15 #[.pointer (some ⟨gg, 0, none⟩), .slice none 0 0] W fun e w' => e = .returned (.bool false) ∧ Two w' gg gc K ⟨true, 1, none, B1⟩ ∧ Below W.heap.size W w') :=
    fun W gg gc h => (glocked_nil _ _ K W h.1).mono fun e w' ⟨h1, h2⟩ => ⟨h1, h.below h2, h2⟩
  have HL4 : Hid (∀ W gg gc, Two W gg gc K ⟨true, 1, none, B1⟩ → Calls Try.prog 15 #[.pointer (some ⟨gg, 0, none⟩), .slice (some ⟨W.heap.size, 0, none⟩) 1 1] (W.alloc (.cells #[.int .i64 99] 3)) fun e w' => e = .returned (.bool false) ∧ Two w' gg gc K ⟨true, 1, none, B1⟩ ∧ Below W.heap.size W w') :=
    fun W gg gc h => (glocked_lit [99] (by decide) _ _ K W h.1 false l3).mono fun e w' ⟨h1, h2⟩ => ⟨h1, h.below h2, h2⟩
  have HON : Hid (∀ W gg gc, Two W gg gc K ⟨true, 1, none, B1⟩ → Calls Try.prog 13 #[.pointer (some ⟨gg, 0, none⟩)] W fun e w' => e = .returned (.bool true) ∧ Two w' gg gc K ⟨true, 1, none, B1⟩ ∧ Below W.heap.size W w') :=
    fun W gg gc h => (gon_rn _ gc K _ W h.1 h.2.1).mono fun e w' ⟨h1, h2⟩ => ⟨h1, h.below h2, h2⟩
  have HOP : Hid (∀ W gg gc, Two W gg gc K ⟨true, 1, none, B1⟩ → Calls Try.prog 14 #[.pointer (some ⟨gg, 0, none⟩)] W fun e w' => e = .returned (.int .i64 1) ∧ Two w' gg gc K ⟨true, 1, none, B1⟩ ∧ Below W.heap.size W w') :=
    fun W gg gc h => (gops_rn _ gc K _ W h.1 h.2.1).mono fun e w' ⟨h1, h2⟩ => ⟨h1, h.below h2, h2⟩
  clear i1 i2 i3 l1 l2 l3 hd hdt
  go_enter Try.func6, Try.ntmps6
  go_wp2_with fail
  refine HN.out.mono ?_
  rintro e w1 ⟨gc, rfl, hgc, hr1, hb1⟩
  have H1 := Lib.hid hr1
  have HB1 := Lib.hid hb1
  have hz1 := hb1.size
  have hlt := hr1.lt
  clear hr1 hb1 HN
  go_wp2_with fail
  refine (HG.out _ _).mono ?_
  rintro e w2 ⟨gg, rfl, hgg, hA2, hb2⟩
  have H2 : Hid (Two w2 gg gc K ⟨true, 0, none, B0⟩) := ⟨⟨HK.out, .inr ⟨gg, rfl, hA2⟩⟩, H1.out.below hb2 hlt, by omega⟩
  have HB2 := Lib.hid (HB1.out.trans (hb2.mono hz1))
  have hz2 := HB2.out.size
  clear hA2 hb2 H1 HB1 HG
  go_wp2_with fail
  refine (HE.out _ _ _ H2.out).mono ?_
  rintro e w3 ⟨rfl, hT, hg⟩
  have H3 := Lib.hid hT
  have HB3 := Lib.hid (below_grown HB2.out hg hgc hz2)
  have hz3 := HB3.out.size
  clear hT hg H2 HB2
  go_wp2_with fail
  refine (HW.out _ _ _ H3.out).mono ?_
  rintro e w4 ⟨rfl, hT, hg⟩
  have H4 := Lib.hid hT
  have HB4 := Lib.hid (below_grown HB3.out hg hgc hz3)
  have hz4 := HB4.out.size
  clear hT hg H3 HB3
  go_wp2_with fail
  refine (HP.out _ _ _ H4.out).mono ?_
  rintro e w5 ⟨rfl, hT, hg⟩
  have H5 := Lib.hid hT
  have HB5 := Lib.hid (below_grown HB4.out hg hgc hz4)
  have hz5 := HB5.out.size
  clear hT hg H4 HB4
  go_wp2_with fail
  refine (HR.out _ _ _ H5.out).mono ?_
  rintro e w6 ⟨rfl, hT, hg⟩
  have H6 := Lib.hid hT
  have HB6 := Lib.hid (HB5.out.trans (hg.mono hz5))
  have hz6 := HB6.out.size
  clear hT hg H5 HB5
  go_wp2_with fail
  refine (HL1.out _ _ _ H6.out).mono ?_
  rintro e w7 ⟨rfl, hT, hg⟩
  have H7 := Lib.hid hT
  have HB7 := Lib.hid (HB6.out.trans (hg.mono hz6))
  have hz7 := HB7.out.size
  clear hT hg H6 HB6
  go_wp2_with fail
  refine (HL2.out _ _ _ H7.out).mono ?_
  rintro e w8 ⟨rfl, hT, hg⟩
  have H8 := Lib.hid hT
  have HB8 := Lib.hid (HB7.out.trans (hg.mono hz7))
  have hz8 := HB8.out.size
  clear hT hg H7 HB7
  go_wp2_with fail
  refine (HL3.out _ _ _ H8.out).mono ?_
  rintro e w9 ⟨rfl, hT, hg⟩
  have H9 := Lib.hid hT
  have HB9 := Lib.hid (HB8.out.trans (hg.mono hz8))
  have hz9 := HB9.out.size
  clear hT hg H8 HB8
  go_wp2_with fail
  refine (HL4.out _ _ _ H9.out).mono ?_
  rintro e w10 ⟨rfl, hT, hg⟩
  have H10 := Lib.hid hT
  have HB10 := Lib.hid (HB9.out.trans (hg.mono hz9))
  have hz10 := HB10.out.size
  clear hT hg H9 HB9
  go_wp2_with fail
  refine (HON.out _ _ _ H10.out).mono ?_
  rintro e w11 ⟨rfl, hT, hg⟩
  have H11 := Lib.hid hT
  have HB11 := Lib.hid (HB10.out.trans (hg.mono hz10))
  have hz11 := HB11.out.size
  clear hT hg H10 HB10
  go_wp2_with fail
  refine (HOP.out _ _ _ H11.out).mono ?_
  rintro e w12 ⟨rfl, hT, hg⟩
  have HB12 := Lib.hid (HB11.out.trans (hg.mono hz11))
  clear hT hg H11 HB11
  go_wp2
  go_ret
  exact ⟨rfl, HB12.out⟩
end Go.Proofs.Ytmfmkhbpaeckoaa
