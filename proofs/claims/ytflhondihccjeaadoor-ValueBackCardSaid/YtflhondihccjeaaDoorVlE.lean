/- What package value must do, said over nothing of its code; and the awake() of layer 13's statements. Conditions: those contracts. -/
import Derived.Test.YtflhondihccjeaaDoorVlD
import Derived.Test.YtflhondihccjeaaDoorNumT
namespace Go.Proofs.YtflhondihccjeaaDoor
open Go.RowKit

/-- The contracts of package value. -/
structure VlMust : Prop where
  numbers : ∀ (A : Option Addr) (cap : Nat) (l : List Int) (w : World), RdI w.heap.size w A l → l.length ≤ 1000 → Calls Tryd.prog 17 #[.slice A l.length cap] w fun e w' => e = .returned (.string ⟨(bigs l l.length).toArray⟩) ∧ Below w.heap.size w w'
  texts : ∀ (A : Option Addr) (cap : Nat) (l : List ByteArray) (w : World), RdT w A l → l.length ≤ 1000 → (∀ k, k < l.length → (l.getD k ByteArray.empty).size ≤ 1000000) → Calls Tryd.prog 19 #[.slice A l.length cap] w fun e w' => e = .returned (.string ⟨(txtB l).toArray⟩) ∧ Below w.heap.size w w'
  asNumbers : ∀ (v : ByteArray) (w : World), v.size ≤ 1099511627776 → Calls Tryd.prog 7 #[.string v] w fun e w' => ∃ A cap, e = .returned (.tuple #[.slice A (asN v.data.toList).length cap, .bool (okN v.size)]) ∧ RdI w'.heap.size w' A (asN v.data.toList) ∧ Below w.heap.size w w'
  asNumber : ∀ (v : ByteArray) (w : World), v.size ≤ 1099511627776 → Calls Tryd.prog 9 #[.string v] w fun e w' => e = .returned (.tuple #[.int .i64 (asN1 v.data.toList), .bool (decide (v.size = 4))]) ∧ Below w.heap.size w w'
  asTexts : ∀ (v : ByteArray) (w : World), v.size ≤ 4000000000 → Calls Tryd.prog 12 #[.string v] w fun e w' => ∃ A cap, e = .returned (.tuple #[.slice A (asT v.data.toList).length cap, .bool (okV v.data.toList)]) ∧ RdT w' A (baL (asT v.data.toList)) ∧ Below w.heap.size w w'
  asText : ∀ (v : ByteArray) (w : World), v.size ≤ 4000000000 → Calls Tryd.prog 14 #[.string v] w fun e w' => e = .returned (.tuple #[.string (asT1 v.data.toList).1, .bool (asT1 v.data.toList).2]) ∧ Below w.heap.size w w'

theorem num13 : (⟨(bigs [7] 1).toArray⟩ : ByteArray) = ⟨#[0, 0, 0, 7]⟩ := by rfl
theorem txt13 : (⟨(txtB [⟨#[97]⟩, ⟨#[98]⟩]).toArray⟩ : ByteArray) = ⟨#[97, 0, 98, 0]⟩ := by rfl
theorem ast13 : asT [97, 0, 98, 0] = [[97], [98]] := by decide +kernel
theorem asx13 : asT1 [120, 0] = (⟨#[120]⟩, true) := by
  have h1 : okV [120, 0] = true := by decide +kernel
  have h2 : asT [120, 0] = [[120]] := by decide +kernel
  unfold asT1
  rw [h1, h2]; rfl

set_option maxHeartbeats 1600000 in
set_option maxRecDepth 100000 in
theorem awake13 (M : VlMust) (w : World) : Calls Tryd.prog 6 #[] w fun e w' => e = .returned (.bool true) ∧ Below w.heap.size w w' := by
  have HN : Hid (∀ W b, Arr W b 3 #[.int .i64 7] → Calls Tryd.prog 17 #[.slice (some ⟨b, 0, none⟩) 1 1] W fun e w' => e = .returned (.string ⟨#[0, 0, 0, 7]⟩) ∧ Below W.heap.size W w') := fun W b h => by
    have := M.numbers (some ⟨b, 0, none⟩) 1 [7] W (.inr ⟨b, 0, rfl, h.lt, fun k hk => by
      match k, hk with
      | 0, _ => exact h.cell 0⟩) (by decide)
    exact this
  have HN1 : Hid (∀ W, Calls Tryd.prog 9 #[.string ⟨#[0, 0, 0, 7]⟩] W fun e w' => e = .returned (.tuple #[.int .i64 7, .bool true]) ∧ Below W.heap.size W w') := fun W => M.asNumber ⟨#[0, 0, 0, 7]⟩ W (by decide)
  have HT : Hid (∀ W b, Arr W b 9 #[.string ⟨#[97]⟩, .string ⟨#[98]⟩] → Calls Tryd.prog 19 #[.slice (some ⟨b, 0, none⟩) 2 2] W fun e w' => e = .returned (.string ⟨#[97, 0, 98, 0]⟩) ∧ Below W.heap.size W w') := fun W b h => by
    have := M.texts (some ⟨b, 0, none⟩) 2 [⟨#[97]⟩, ⟨#[98]⟩] W (.inr ⟨b, 0, rfl, fun k hk => by
      match k, hk with
      | 0, _ => exact h.cell 0
      | 1, _ => exact h.cell 1⟩) (by decide) (fun k hk => by
      match k, hk with
      | 0, _ => decide
      | 1, _ => decide)
    exact this
  have HT2 : Hid (∀ W, Calls Tryd.prog 12 #[.string ⟨#[97, 0, 98, 0]⟩] W fun e w' => ∃ A cap, e = .returned (.tuple #[.slice A 2 cap, .bool true]) ∧ RdT w' A [⟨#[97]⟩, ⟨#[98]⟩] ∧ Below W.heap.size W w') := fun W => by
    have := M.asTexts ⟨#[97, 0, 98, 0]⟩ W (by decide)
    rw [show (ByteArray.mk #[97, 0, 98, 0]).data.toList = [97, 0, 98, 0] from rfl, ast13, show okV [97, 0, 98, 0] = true by decide +kernel] at this
    exact this
  have HX : Hid (∀ W, Calls Tryd.prog 14 #[.string ⟨#[120, 0]⟩] W fun e w' => e = .returned (.tuple #[.string ⟨#[120]⟩, .bool true]) ∧ Below W.heap.size W w') := fun W => by
    have := M.asText ⟨#[120, 0]⟩ W (by decide)
    rw [show (ByteArray.mk #[120, 0]).data.toList = [120, 0] from rfl, asx13] at this
    exact this
  have HS : Hid (∀ W b A cap, Arr W b 9 #[.string ⟨#[97]⟩, .string ⟨#[98]⟩] → RdT W A [⟨#[97]⟩, ⟨#[98]⟩] → Calls Tryd.prog 16 #[.slice A 2 cap, .slice (some ⟨b, 0, none⟩) 2 2] W fun e w' => e = .returned (.bool true) ∧ Below W.heap.size W w') := fun W b A cap h hr =>
    sameTexts_any A (some ⟨b, 0, none⟩) cap 2 [⟨#[97]⟩, ⟨#[98]⟩] W (by decide) hr (.inr ⟨b, 0, rfl, fun k hk => by
      match k, hk with
      | 0, _ => exact h.cell 0
      | 1, _ => exact h.cell 1⟩)
  clear M
  go_enter Tryd.func6, Tryd.ntmps6
  go_wp2_with fail
  refine (HN.out _ _ (Arr.new _ _ _)).mono ?_
  rintro e w1 ⟨rfl, hb⟩
  have HB : Hid (Below w.heap.size w w1) := ((Below.refl _ _).alloc (Nat.le_refl _) _).trans (hb.mono (by rw [sz_alloc]; omega))
  clear hb
  go_wp2_with fail
  refine (HN1.out _).mono ?_
  rintro e w2 ⟨rfl, hb⟩
  have HB := Lib.hid (HB.out.trans (hb.mono HB.out.size))
  clear hb
  go_wp2_with fail
  refine (HT.out _ _ (Arr.new _ _ _)).mono ?_
  rintro e w3 ⟨rfl, hb⟩
  have hz := HB.out.size
  have HB := Lib.hid ((HB.out.alloc hz _).trans (hb.mono (by rw [sz_alloc]; omega)))
  clear hb hz
  go_wp2_with fail
  refine (HT2.out _).mono ?_
  rintro e w4 ⟨A, cap, rfl, hr, hb⟩
  have HB := Lib.hid (HB.out.trans (hb.mono HB.out.size))
  have HR := Lib.hid hr
  clear hb hr
  go_wp2_with fail
  refine (HX.out _).mono ?_
  rintro e w5 ⟨rfl, hb⟩
  have HB := Lib.hid (HB.out.trans (hb.mono HB.out.size))
  have HR := Lib.hid (HR.out.below hb)
  have hba : Below w5.heap.size w5 (w5.alloc (.cells #[.string ⟨#[97]⟩, .string ⟨#[98]⟩] 9)) := (Below.refl _ _).alloc (Nat.le_refl _) _
  have HR := Lib.hid (HR.out.below hba)
  have HB2 := Lib.hid (HB.out.trans (hba.mono HB.out.size))
  clear hb hba
  go_wp2_with fail
  refine (HS.out _ _ _ _ (Arr.new _ _ _) HR.out).mono ?_
  rintro e w6 ⟨rfl, hb⟩
  have HB := Lib.hid (HB2.out.trans (hb.mono HB2.out.size))
  clear hb
  go_wp2
  go_ret
  exact ⟨rfl, HB.out⟩
end Go.Proofs.YtflhondihccjeaaDoor
