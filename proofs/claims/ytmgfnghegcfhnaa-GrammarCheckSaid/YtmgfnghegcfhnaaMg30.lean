/- What package grammar must do, said over nothing of its code; and the awake() of layer 19's statements. Conditions: those contracts. -/
import Derived.Test.YtmgfnghegcfhnaaMg25
import Derived.Test.YtmgfnghegcfhnaaMg29
namespace Go.Proofs.Ytmgfnghegcfhnaa
open Go.RowKit

structure GrammarMust : Prop where
  unit : ∀ (s : ByteArray) (w : World), s.size ≤ 1000000 → Calls Try.prog 7 #[.string s] w fun e w' => e = .returned (.tuple #[.string ⟨(unitR s.data.toList).1.toArray⟩, .bool (unitR s.data.toList).2]) ∧ Below w.heap.size w w'
  node : ∀ (s : ByteArray) (w : World), s.size ≤ 1000000 → Calls Try.prog 9 #[.string s] w fun e w' => e = .returned (.bool (nodeR s.data.toList)) ∧ Below w.heap.size w w'
  prop : ∀ (s : ByteArray) (w : World), s.size ≤ 1000000 → Calls Try.prog 11 #[.string s] w fun e w' => e = .returned (.bool (prop19 s.data.toList)) ∧ Below w.heap.size w w'
  check : ∀ (n : ND) (v2 v3 : Value) (w : World), LowR n = true → NdAt w (fun k => k < w.heap.size) n v2 v3 → Calls Try.prog 14 #[.agg #[.string n.nm, v2, v3]] w fun e w' => e = .returned (.int .i64 (check19 n : Nat)) ∧ Below w.heap.size w w'

def k19 : ND := .mk ⟨#[97]⟩ [] []
def n19 : ND := .mk ⟨#[]⟩ [] [k19, k19]
theorem low19 : LowR n19 = true := by decide +kernel
theorem low190 : LowR nd0 = true := by decide +kernel
theorem chk19 : check19 n19 = 12 := by decide +kernel
theorem chk190 : check19 nd0 = 0 := by decide +kernel

set_option maxHeartbeats 3200000 in
set_option maxRecDepth 100000 in
theorem awake19 (M : GrammarMust) (w : World) : Calls Try.prog 6 #[] w fun e w' => e = .returned (.bool true) ∧ Below w.heap.size w w' := by
  have HU : Hid (∀ W, Calls Try.prog 7 #[.string ⟨#[99, 112, 117, 64, 48]⟩] W fun e w' => e = .returned (.tuple #[.string ⟨#[48]⟩, .bool true]) ∧ Below W.heap.size W w') := fun W => M.unit ⟨#[99, 112, 117, 64, 48]⟩ W (by decide)
  have hn : ∀ (s : ByteArray) (b : Bool), s.size ≤ 1000000 → nodeR s.data.toList = b → Hid (∀ W, Calls Try.prog 9 #[.string s] W fun e w' => e = .returned (.bool b) ∧ Below W.heap.size W w') := fun s b h e W => by have := M.node s W h; rwa [e] at this
  have hp : ∀ (s : ByteArray) (b : Bool), s.size ≤ 1000000 → prop19 s.data.toList = b → Hid (∀ W, Calls Try.prog 11 #[.string s] W fun e w' => e = .returned (.bool b) ∧ Below W.heap.size W w') := fun s b h e W => by have := M.prop s W h; rwa [e] at this
  have H1 := hn ⟨#[99, 112, 117, 64, 48]⟩ true (by decide) (by decide +kernel)
  have H2 := hn ⟨#[64, 48]⟩ false (by decide) (by decide +kernel)
  have H3 := hn ⟨#[48, 97]⟩ false (by decide) (by decide +kernel)
  have H4 := hp ⟨#[35, 99, 101, 108, 108, 115]⟩ true (by decide) (by decide +kernel)
  have H5 := hp ⟨#[97, 32, 98]⟩ false (by decide) (by decide +kernel)
  have HC1 : Hid (∀ W b, Arr W b 29 #[.string ⟨#[97]⟩, .slice none 0 0, .slice none 0 0, .string ⟨#[97]⟩, .slice none 0 0, .slice none 0 0] → Calls Try.prog 14 #[.agg #[.string ⟨#[]⟩, .slice none 0 0, .slice (some ⟨b, 0, none⟩) 2 2]] W fun e w' => e = .returned (.int .i64 12) ∧ Below W.heap.size W w') := fun W b h => by
    have hN : NdAt W (fun k => k < W.heap.size) n19 (.slice none 0 0) (.slice (some ⟨b, 0, none⟩) 2 2) := by
      refine @NdAt.mk W _ ⟨#[]⟩ [] [k19, k19] none (some ⟨b, 0, none⟩) 0 2 (fun _ => .slice none 0 0) (fun _ => .slice none 0 0) (.inl rfl) (Nat.le_refl _) (Nat.zero_le _) (Nat.le_refl _) (by decide) (.inr ⟨_, 0, rfl, h.lt, fun i hi => ?_⟩) (fun i hi => ?_)
      · match i, hi with
        | 0, _ => exact ⟨h.cell 0, h.cell 1, h.cell 2⟩
        | 1, _ => exact ⟨h.cell 3, h.cell 4, h.cell 5⟩
      · match i, hi with
        | 0, _ => exact @NdAt.mk W _ ⟨#[97]⟩ [] [] none none 0 0 (fun _ => undef) (fun _ => undef) (.inl rfl) (Nat.le_refl _) (Nat.zero_le _) (Nat.le_refl _) (Nat.zero_le _) (.inl rfl) (fun _ hi => absurd hi (Nat.not_lt_zero _))
        | 1, _ => exact @NdAt.mk W _ ⟨#[97]⟩ [] [] none none 0 0 (fun _ => undef) (fun _ => undef) (.inl rfl) (Nat.le_refl _) (Nat.zero_le _) (Nat.le_refl _) (Nat.zero_le _) (.inl rfl) (fun _ hi => absurd hi (Nat.not_lt_zero _))
    have := M.check n19 _ _ W low19 hN
    rw [chk19] at this
    exact this
  have HC0 : Hid (∀ W, Calls Try.prog 14 #[.agg #[.string ⟨#[]⟩, .slice none 0 0, .slice none 0 0]] W fun e w' => e = .returned (.int .i64 0) ∧ Below W.heap.size W w') := fun W => by
    have := M.check nd0 _ _ W low190 (nd0_at W _)
    rw [chk190] at this
    exact this
  have HB : Hid (Below w.heap.size w w) := Below.refl _ _
  clear M hn hp
  go_enter Try.func6, Try.ntmps6
  go_wp2_with fail
  refine (HU.out _).mono ?_
  rintro e w1 ⟨rfl, hb⟩
  have HB := Lib.hid (HB.out.trans (hb.mono HB.out.size))
  clear hb
  go_wp2_with fail
  refine (H1.out _).mono ?_
  rintro e w1 ⟨rfl, hb⟩
  have HB := Lib.hid (HB.out.trans (hb.mono HB.out.size))
  clear hb
  go_wp2_with fail
  refine (H2.out _).mono ?_
  rintro e w1 ⟨rfl, hb⟩
  have HB := Lib.hid (HB.out.trans (hb.mono HB.out.size))
  clear hb
  go_wp2_with fail
  refine (H3.out _).mono ?_
  rintro e w1 ⟨rfl, hb⟩
  have HB := Lib.hid (HB.out.trans (hb.mono HB.out.size))
  clear hb
  go_wp2_with fail
  refine (H4.out _).mono ?_
  rintro e w1 ⟨rfl, hb⟩
  have HB := Lib.hid (HB.out.trans (hb.mono HB.out.size))
  clear hb
  go_wp2_with fail
  refine (H5.out _).mono ?_
  rintro e w1 ⟨rfl, hb⟩
  have HB := Lib.hid (HB.out.trans (hb.mono HB.out.size))
  clear hb
  go_wp2_with fail
  refine (HC1.out _ _ (Arr.new _ _ _)).mono ?_
  rintro e w1 ⟨rfl, hb⟩
  have HB := Lib.hid ((HB.out.alloc HB.out.size _).trans (hb.mono (by rw [sz_alloc]; have := HB.out.size; omega)))
  clear hb
  go_wp2_with fail
  refine (HC0.out _).mono ?_
  rintro e w1 ⟨rfl, hb⟩
  have HB := Lib.hid (HB.out.trans (hb.mono HB.out.size))
  clear hb
  go_wp2
  go_ret
  exact ⟨rfl, HB.out⟩
end Go.Proofs.Ytmgfnghegcfhnaa
