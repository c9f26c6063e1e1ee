/- What package ram must do, said over any form that its Ram may have: the laws' walks lean on nothing else of it; and the awake() of layer 7's statements. Conditions: those contracts. -/
import Derived.Test.YtecfdcibjmakeaaRaE
namespace Go.Proofs.Ytecfdcibjmakeaa
open Go.RowKit

/-- RB w q F R: the pointer q is a memory in which R is loaded; F are the blocks that it has. -/
structure RamMust (RB : World → Option Addr → (Nat → Prop) → List LD → Prop) : Prop where
  below : ∀ (w w' : World) (q : Option Addr) (F : Nat → Prop) (R : List LD), RB w q F R → Below w.heap.size w w' → RB w' q F R
  lt : ∀ (w : World) (q : Option Addr) (F : Nat → Prop) (R : List LD) (k : Nat), RB w q F R → F k → k < w.heap.size
  kept : ∀ (w w' : World) (q : Option Addr) (F G G' : Nat → Prop) (R : List LD), RB w q F R → Moved w w' G G' → (∀ k, F k → ¬ G k) → RB w' q F R
  new : ∀ (w : World), Calls Try.prog 6 #[] w fun e w' => ∃ q F, e = .returned (.pointer q) ∧ RB w' q F [] ∧ (∀ k, F k → w.heap.size ≤ k) ∧ Below w.heap.size w w'
  load : ∀ (w : World) (q : Option Addr) (F : Nat → Prop) (R : List LD) (a : Int) (s : ByteArray), RB w q F R → RamOk R → R.length ≤ 100 → a < 9223372036854775808 → -9223372036854775808 ≤ a → s.size ≤ 200 →
    Calls Try.prog 7 #[.pointer q, .int .i64 a, .string s] w fun e w' => e = .returned (.int .i64 ((ldR R a s).2 : Int)) ∧ ∃ F', RB w' q F' (ldR R a s).1 ∧ Moved w w' F F'
  check : ∀ (w : World) (q : Option Addr) (F : Nat → Prop) (R : List LD) (A : Option Addr) (cap : Nat) (l : List SP), RB w q F R → RamOk R → R.length ≤ 100 → RdSp w A l → l.length ≤ 20 → l.length ≤ cap → cap ≤ maxLen → (∀ k, k < l.length → (l.getD k sp0).p < 9223372036854775808 ∧ -9223372036854775808 ≤ (l.getD k sp0).p ∧ (l.getD k sp0).n < 9223372036854775808 ∧ -9223372036854775808 ≤ (l.getD k sp0).n) →
    Calls Try.prog 14 #[.pointer q, .slice A l.length cap] w fun e w' => e = .returned (.int .i64 (ckR (R.map LD.sp) l : Int)) ∧ Below w.heap.size w w'
  read : ∀ (w : World) (q : Option Addr) (F : Nat → Prop) (R : List LD) (a n : Int), RB w q F R → RamOk R → R.length ≤ 100 → a < 9223372036854775808 → -9223372036854775808 ≤ a → n < 9223372036854775808 → -9223372036854775808 ≤ n →
    Calls Try.prog 9 #[.pointer q, .int .i64 a, .int .i64 n] w fun e w' => e = .returned (.tuple #[.string (rdR R a n).1, .int .i64 ((rdR R a n).2 : Int)]) ∧ Below w.heap.size w w'
  spans : ∀ (w : World) (q : Option Addr) (F : Nat → Prop) (R : List LD), RB w q F R → RamOk R → R.length ≤ 100 →
    Calls Try.prog 13 #[.pointer q] w fun e w' => ∃ A cap, e = .returned (.slice A (R.map LD.sp).length cap) ∧ RdSp w' A (R.map LD.sp) ∧ Below w.heap.size w w'

def r7 : List LD := [⟨4096, ⟨#[97, 98]⟩⟩]
theorem r7_a : ldR [] 4096 ⟨#[97, 98]⟩ = (r7, 0) := rfl
theorem r7_b : ldR r7 4097 ⟨#[99]⟩ = (r7, 12) := rfl
theorem r7_c : ldR r7 4095 ⟨#[99]⟩ = (r7, 3) := rfl
theorem r7_d : rdR r7 4096 3 = (⟨#[97, 98, 0]⟩, 0) := rfl
theorem r7_e : ckR (r7.map LD.sp) [⟨5000, 4⟩, ⟨5003, 1⟩] = 12 := rfl
theorem r7_f : r7.map LD.sp = [⟨4096, 2⟩] := rfl
theorem r7_ok : RamOk r7 := by
  have := ldR_ok ramOk_nil 4096 ⟨#[97, 98]⟩
  rwa [r7_a] at this
theorem rdSp_two (w : World) (x y : SP) : RdSp (w.alloc (.cells #[.int .i64 x.p, .int .i64 x.n, .int .i64 y.p, .int .i64 y.n] 47)) (some ⟨w.heap.size, 0, none⟩) [x, y] := by
  have h := Arr.new w 47 #[.int .i64 x.p, .int .i64 x.n, .int .i64 y.p, .int .i64 y.n]
  refine .inr ⟨w.heap.size, 0, rfl, fun k hk => ?_⟩
  match k, hk with
  | 0, _ => exact ⟨h.cell 0, h.cell 1⟩
  | 1, _ => exact ⟨h.cell 2, h.cell 3⟩
theorem below_al {B : Nat} {w w' : World} (o : Obj) (h : Below (w.alloc o).heap.size (w.alloc o) w') (hB : B ≤ w.heap.size) : Below B w w' :=
  ((Below.refl _ _).alloc hB o).trans (h.mono (by rw [sz_alloc]; omega))
/-- A memory whose blocks are all new since the size B. -/
def Rb (RB : World → Option Addr → (Nat → Prop) → List LD → Prop) (B : Nat) (w : World) (q : Option Addr) (R : List LD) : Prop := ∃ F, RB w q F R ∧ (∀ k, F k → B ≤ k) ∧ B ≤ w.heap.size
section
variable {RB : World → Option Addr → (Nat → Prop) → List LD → Prop} {B : Nat} {w w' : World} {q : Option Addr} {R : List LD}
theorem Rb.below (H : RamMust RB) (h : Rb RB B w q R) (hb : Below w.heap.size w w') : Rb RB B w' q R := by
  obtain ⟨F, h1, h2, h3⟩ := h
  exact ⟨F, H.below _ _ _ _ _ h1 hb, h2, Nat.le_trans h3 hb.size⟩
theorem rb_load (H : RamMust RB) (h : Rb RB B w q R) (hok : RamOk R) (hR : R.length ≤ 100) (a : Int) (s : ByteArray) (h1 : a < 9223372036854775808) (h2 : -9223372036854775808 ≤ a) (h3 : s.size ≤ 200) :
    Calls Try.prog 7 #[.pointer q, .int .i64 a, .string s] w fun e w' => e = .returned (.int .i64 ((ldR R a s).2 : Int)) ∧ Rb RB B w' q (ldR R a s).1 ∧ Below B w w' := by
  obtain ⟨F, g1, g2, g3⟩ := h
  refine (H.load w q F R a s g1 hok hR h1 h2 h3).mono ?_
  rintro e w' ⟨he, F', hF', hm⟩
  refine ⟨he, ⟨F', hF', fun k hk => ?_, Nat.le_trans g3 hm.size⟩, hm.below g2 g3⟩
  rcases hm.foot k hk with h4 | h4
  · exact g2 k h4
  · exact Nat.le_trans g3 h4
end

set_option maxHeartbeats 1600000 in
set_option maxRecDepth 100000 in
theorem awake7 {RB : World → Option Addr → (Nat → Prop) → List LD → Prop} (H : RamMust RB) (w : World) : Calls Try.prog 5 #[] w fun e w' => e = .returned (.bool true) ∧ Below w.heap.size w w' := by
  have HNEW := Lib.hid (H.new w)
  generalize hB : w.heap.size = B at HNEW
  have HA : Hid (∀ W q, Rb RB B W q [] → Calls Try.prog 7 #[.pointer q, .int .i64 4096, .string ⟨#[97, 98]⟩] W fun e w' => e = .returned (.int .i64 0) ∧ Rb RB B w' q r7 ∧ Below B W w') := by
    intro W q h
    have h1 := rb_load H h ramOk_nil (by decide) 4096 ⟨#[97, 98]⟩ (by decide) (by decide) (by decide)
    rwa [r7_a] at h1
  have HBb : Hid (∀ W q, Rb RB B W q r7 → Calls Try.prog 7 #[.pointer q, .int .i64 4097, .string ⟨#[99]⟩] W fun e w' => e = .returned (.int .i64 12) ∧ Rb RB B w' q r7 ∧ Below B W w') := by
    intro W q h
    have h1 := rb_load H h r7_ok (by decide) 4097 ⟨#[99]⟩ (by decide) (by decide) (by decide)
    rwa [r7_b] at h1
  have HCc : Hid (∀ W q, Rb RB B W q r7 → Calls Try.prog 7 #[.pointer q, .int .i64 4095, .string ⟨#[99]⟩] W fun e w' => e = .returned (.int .i64 3) ∧ Rb RB B w' q r7 ∧ Below B W w') := by
    intro W q h
    have h1 := rb_load H h r7_ok (by decide) 4095 ⟨#[99]⟩ (by decide) (by decide) (by decide)
    rwa [r7_c] at h1
  have HRD : Hid (∀ W q, Rb RB B W q r7 → Calls Try.prog 9 #[.pointer q, .int .i64 4096, .int .i64 3] W fun e w' => e = .returned (.tuple #[.string ⟨#[97, 98, 0]⟩, .int .i64 0]) ∧ Rb RB B w' q r7 ∧ Below B W w') := by
    intro W q h
    obtain ⟨F, g1, g2, g3⟩ := h
    have h1 := H.read W q F r7 4096 3 g1 r7_ok (by decide) (by decide) (by decide) (by decide) (by decide)
    rw [r7_d] at h1
    exact h1.mono fun _ _ ⟨h2, h3⟩ => ⟨h2, Rb.below H ⟨F, g1, g2, g3⟩ h3, h3.mono g3⟩
  have HCK : Hid (∀ W q, Rb RB B W q r7 → Calls Try.prog 14 #[.pointer q, .slice (some ⟨W.heap.size, 0, none⟩) 2 2] (W.alloc (.cells #[.int .i64 5000, .int .i64 4, .int .i64 5003, .int .i64 1] 47)) fun e w' => e = .returned (.int .i64 12) ∧ Rb RB B w' q r7 ∧ Below B W w') := by
    intro W q h
    have hA := Rb.below H h ((Below.refl _ _).alloc (Nat.le_refl _) (.cells #[.int .i64 5000, .int .i64 4, .int .i64 5003, .int .i64 1] 47))
    obtain ⟨F, g1, g2, g3⟩ := hA
    have h1 := H.check _ q F r7 _ 2 [⟨5000, 4⟩, ⟨5003, 1⟩] g1 r7_ok (by decide) (rdSp_two W ⟨5000, 4⟩ ⟨5003, 1⟩) (by decide) (by decide) (by unfold maxLen; decide) (by
      intro k hk
      match k, hk with
      | 0, _ => decide
      | 1, _ => decide)
    rw [r7_e] at h1
    exact h1.mono fun _ _ ⟨h2, h3⟩ => ⟨h2, Rb.below H ⟨F, g1, g2, g3⟩ h3, below_al _ h3 h.choose_spec.2.2⟩
  have HSP : Hid (∀ W q, Rb RB B W q r7 → Calls Try.prog 13 #[.pointer q] W fun e w' => (∃ A cap, e = .returned (.slice A 1 cap) ∧ RdSp w' A [⟨4096, 2⟩]) ∧ B ≤ w'.heap.size ∧ Below B W w') := by
    intro W q h
    obtain ⟨F, g1, g2, g3⟩ := h
    have h1 := H.spans W q F r7 g1 r7_ok (by decide)
    rw [r7_f] at h1
    exact h1.mono fun _ _ ⟨A, cap, h2, h3, h4⟩ => ⟨⟨A, cap, h2, h3⟩, Nat.le_trans g3 h4.size, h4.mono g3⟩
  have HSM : Hid (∀ (W : World) A cap, RdSp W A [⟨4096, 2⟩] → Calls Try.prog 12 #[.slice A 1 cap, .slice (some ⟨W.heap.size, 0, none⟩) 1 1] (W.alloc (.cells #[.int .i64 4096, .int .i64 2] 47)) fun e w' => e = .returned (.bool true) ∧ Below W.heap.size W w') := by
    intro W A cap h
    have h1 := h.below ((Below.refl W.heap.size W).alloc (Nat.le_refl _) (.cells #[.int .i64 4096, .int .i64 2] 47))
    exact (sameSp_any A _ cap 1 [⟨4096, 2⟩] _ (by show 1 ≤ maxLen; decide) h1 (rdSp_one W ⟨4096, 2⟩)).mono fun _ _ ⟨h2, h3⟩ => ⟨h2, below_al _ h3 (Nat.le_refl _)⟩
  have HW : Hid (w.heap.size = B) := hB
  clear hB H
  go_enter Try.func5, Try.ntmps5
  go_wp2_with fail
  refine HNEW.out.mono ?_
  rintro e w1 ⟨q, F, rfl, hr1, hF1, hb1⟩
  have H1 : Hid (Rb RB B w1 q []) := ⟨F, hr1, hF1, by have := hb1.size; rw [HW.out] at this; exact this⟩
  have HB1 : Hid (Below B w w1) := hb1
  clear hr1 hF1 hb1 HNEW
  go_wp2_with fail
  refine (HA.out _ _ H1.out).mono ?_
  rintro e w2 ⟨rfl, hT, hg⟩
  have H2 := Lib.hid hT
  have HB2 := Lib.hid (HB1.out.trans hg)
  clear hT hg H1 HB1
  go_wp2_with fail
  refine (HBb.out _ _ H2.out).mono ?_
  rintro e w3 ⟨rfl, hT, hg⟩
  have H3 := Lib.hid hT
  have HB3 := Lib.hid (HB2.out.trans hg)
  clear hT hg H2 HB2
  go_wp2_with fail
  refine (HCc.out _ _ H3.out).mono ?_
  rintro e w4 ⟨rfl, hT, hg⟩
  have H4 := Lib.hid hT
  have HB4 := Lib.hid (HB3.out.trans hg)
  clear hT hg H3 HB3
  go_wp2_with fail
  refine (HRD.out _ _ H4.out).mono ?_
  rintro e w5 ⟨rfl, hT, hg⟩
  have H5 := Lib.hid hT
  have HB5 := Lib.hid (HB4.out.trans hg)
  clear hT hg H4 HB4
  go_wp2_with fail
  refine (HCK.out _ _ H5.out).mono ?_
  rintro e w6 ⟨rfl, hT, hg⟩
  have H6 := Lib.hid hT
  have HB6 := Lib.hid (HB5.out.trans hg)
  clear hT hg H5 HB5
  go_wp2_with fail
  refine (HSP.out _ _ H6.out).mono ?_
  rintro e w7 ⟨⟨A, cap, rfl, hS⟩, hz, hg⟩
  have HS7 := Lib.hid hS
  have HB7 := Lib.hid (HB6.out.trans hg)
  have HZ7 := Lib.hid hz
  clear hS hg hz H6 HB6
  go_wp2_with fail
  refine (HSM.out _ _ _ HS7.out).mono ?_
  rintro e w8 ⟨rfl, hg⟩
  have HB8 := Lib.hid (HB7.out.trans (hg.mono HZ7.out))
  clear hg HB7
  go_wp2
  go_ret
  exact ⟨rfl, HB8.out⟩
end Go.Proofs.Ytecfdcibjmakeaa
