/- What package path must do (PathMust), and the law's awake of layer 16 over it. Conditions: paths and names of at most 10^6 bytes; trees of at most 12 levels and few parts. -/
import Derived.Test.YtjphecfkjpfkeaaDoorMg31
import Derived.Test.YtjphecfkjpfkeaaDoorMg15
namespace Go.Proofs.YtjphecfkjpfkeaaDoor
open Go.RowKit

structure PathMust : Prop where
  parts : ∀ (p : ByteArray) (w : World), p.size ≤ 1000000 → Calls Tryd.prog 8 #[.string p] w fun e w' => ∃ A cap, e = .returned (.tuple #[.slice A (baL (partsR p.data.toList).1).length cap, .bool (partsR p.data.toList).2]) ∧ RdT w' A (baL (partsR p.data.toList).1) ∧ Below w.heap.size w w' ∧ (baL (partsR p.data.toList).1).length ≤ cap
  join : ∀ (A : Option Addr) (cap : Nat) (l : List ByteArray) (w : World), RdT w A l → l.length ≤ cap → l.length ≤ 1000 → (∀ k, k < l.length → (l.getD k ByteArray.empty).size ≤ 1000000) → Calls Tryd.prog 11 #[.slice A l.length cap] w fun e w' => e = .returned (.string ⟨(joinB l).toArray⟩) ∧ Below w.heap.size w w'
  find : ∀ (G : Nat → Prop) (n : ND) (v2 v3 : Value) (p : ByteArray) (w : World), LowR n = true → p.size ≤ 1000000 → NdAt w G n v2 v3 → Calls Tryd.prog 14 #[.agg #[.string n.nm, v2, v3], .string p] w fun e w' => ∃ u2 u3, e = .returned (.tuple #[.agg #[.string (orN (findR n p.data.toList)).nm, u2, u3], .bool (findR n p.data.toList).isSome]) ∧ NdAt w' (fun b => G b ∨ w.heap.size ≤ b) (orN (findR n p.data.toList)) u2 u3 ∧ Below w.heap.size w w'
  kid : ∀ (G : Nat → Prop) (n : ND) (v2 v3 : Value) (nm : ByteArray) (w : World), LowR n = true → nm.size ≤ 1000000 → NdAt w G n v2 v3 → Calls Tryd.prog 16 #[.agg #[.string n.nm, v2, v3], .string nm] w fun e w' => ∃ u2 u3, e = .returned (.tuple #[.agg #[.string (orN (kidR n nm)).nm, u2, u3], .bool (kidR n nm).isSome]) ∧ NdAt w' (fun b => G b ∨ w.heap.size ≤ b) (orN (kidR n nm)) u2 u3 ∧ Below w.heap.size w w'
  value : ∀ (G : Nat → Prop) (n : ND) (v2 v3 : Value) (nm : ByteArray) (w : World), nm.size ≤ 1000000 → NdAt w G n v2 v3 → Calls Tryd.prog 19 #[.agg #[.string n.nm, v2, v3], .string nm] w fun e w' => e = .returned (.tuple #[.string ((valR n nm).getD ⟨#[]⟩), .bool (valR n nm).isSome]) ∧ Below w.heap.size w w'
  text : ∀ (G : Nat → Prop) (n : ND) (v2 v3 : Value) (p nm : ByteArray) (w : World), LowR n = true → p.size ≤ 1000000 → nm.size ≤ 1000000 → NdAt w G n v2 v3 → Calls Tryd.prog 21 #[.agg #[.string n.nm, v2, v3], .string p, .string nm] w fun e w' => e = .returned (.tuple #[.string (textR n p.data.toList nm).1, .bool (textR n p.data.toList nm).2]) ∧ Below w.heap.size w w'
  number : ∀ (G : Nat → Prop) (n : ND) (v2 v3 : Value) (p nm : ByteArray) (w : World), LowR n = true → p.size ≤ 1000000 → nm.size ≤ 1000000 → NdAt w G n v2 v3 → Calls Tryd.prog 23 #[.agg #[.string n.nm, v2, v3], .string p, .string nm] w fun e w' => e = .returned (.tuple #[.int .i64 (numR n p.data.toList nm).1, .bool (numR n p.data.toList nm).2]) ∧ Below w.heap.size w w'

/-- The tree that awake() takes. -/
def k16 : ND := .mk ⟨#[97]⟩ [⟨⟨#[120]⟩, ⟨#[116, 0]⟩⟩, ⟨⟨#[121]⟩, ⟨#[0, 0, 0, 7]⟩⟩] []
def n16 : ND := .mk ⟨#[]⟩ [] [k16]
theorem low16 : LowR n16 = true := by decide +kernel
theorem parts16 : partsR [47, 97, 47, 98] = ([[97], [98]], true) := by decide +kernel
theorem parts16a : partsR [47, 97] = ([[97]], true) := by decide +kernel
theorem parts16b : partsR [47, 98] = ([[98]], true) := by decide +kernel
theorem find16 : findR n16 [47, 97] = some k16 := by
  unfold findR
  rw [parts16a]; rfl
theorem find16b : findR n16 [47, 98] = none := by
  unfold findR
  rw [parts16b]; rfl
theorem text16 : textR n16 [47, 97] ⟨#[120]⟩ = (⟨#[116]⟩, true) := by
  have h0 : atR n16 [47, 97] ⟨#[120]⟩ = some ⟨#[116, 0]⟩ := by
    unfold atR
    rw [find16]; rfl
  have h1 : okV [116, 0] = true := by decide +kernel
  have h2 : asT [116, 0] = [[116]] := by decide +kernel
  unfold textR
  rw [h0]
  show asT1 [116, 0] = _
  unfold asT1
  rw [h1, h2]; rfl
theorem num16 : numR n16 [47, 97] ⟨#[121]⟩ = (7, true) := by
  have h0 : atR n16 [47, 97] ⟨#[121]⟩ = some ⟨#[0, 0, 0, 7]⟩ := by
    unfold atR
    rw [find16]; rfl
  unfold numR
  rw [h0]; rfl
theorem join16 : joinB [⟨#[97]⟩, ⟨#[98]⟩] = [47, 97, 47, 98] := by rfl

set_option maxHeartbeats 3200000 in
set_option maxRecDepth 100000 in
theorem awake16 (M : PathMust) (w : World) : Calls Tryd.prog 7 #[] w fun e w' => e = .returned (.bool true) ∧ Below w.heap.size w w' := by
  obtain ⟨W1, hW1⟩ : ∃ W1, W1 = ((w.alloc (.cells #[.string ⟨#[120]⟩, .string ⟨#[116, 0]⟩, .string ⟨#[121]⟩, .string ⟨#[0, 0, 0, 7]⟩] 51)).alloc (.cells #[.string ⟨#[97]⟩, .slice (some ⟨w.heap.size, 0, none⟩) 2 2, .slice none 0 0] 34)).alloc (.cells #[.string ⟨#[]⟩, .slice none 0 0, .slice (some ⟨w.heap.size + 1, 0, none⟩) 1 1] 34) := ⟨_, rfl⟩
  have hP : Arr W1 w.heap.size 51 #[.string ⟨#[120]⟩, .string ⟨#[116, 0]⟩, .string ⟨#[121]⟩, .string ⟨#[0, 0, 0, 7]⟩] := by rw [hW1]; exact ((Arr.new w _ _).alloc _).alloc _
  have hK : Arr W1 (w.heap.size + 1) 34 #[.string ⟨#[97]⟩, .slice (some ⟨w.heap.size, 0, none⟩) 2 2, .slice none 0 0] := by rw [hW1]; exact (Arr.new1 w _ _ _).alloc _
  have hV : Arr W1 (w.heap.size + 1 + 1) 34 #[.string ⟨#[]⟩, .slice none 0 0, .slice (some ⟨w.heap.size + 1, 0, none⟩) 1 1] := by rw [hW1]; exact Arr.new2 w _ _ _ _
  have hB1 : Below w.heap.size w W1 := by
    rw [hW1]
    exact (((Below.refl _ _).alloc (Nat.le_refl _) _).alloc (by rw [sz_alloc]; omega) _).alloc (by rw [sz_alloc, sz_alloc]; omega) _
  have hN : NdAt W1 (fun k => k < W1.heap.size) n16 (.slice none 0 0) (.slice (some ⟨w.heap.size + 1, 0, none⟩) 1 1) := by
    refine @NdAt.mk W1 _ ⟨#[]⟩ [] [k16] none (some ⟨w.heap.size + 1, 0, none⟩) 0 1 (fun _ => .slice (some ⟨w.heap.size, 0, none⟩) 2 2) (fun _ => .slice none 0 0) (.inl rfl) (Nat.le_refl _) (Nat.zero_le _) (Nat.le_refl _) (by decide) (.inr ⟨_, 0, rfl, hK.lt, fun i hi => ?_⟩) (fun i hi => ?_)
    · match i, hi with
      | 0, _ => exact ⟨hK.cell 0, hK.cell 1, hK.cell 2⟩
    · match i, hi with
      | 0, _ =>
        refine @NdAt.mk W1 _ ⟨#[97]⟩ [⟨⟨#[120]⟩, ⟨#[116, 0]⟩⟩, ⟨⟨#[121]⟩, ⟨#[0, 0, 0, 7]⟩⟩] [] (some ⟨w.heap.size, 0, none⟩) none 2 0 (fun _ => undef) (fun _ => undef) (.inr ⟨_, 0, rfl, hP.lt, fun k hk => ?_⟩) (Nat.le_refl _) (by decide) (Nat.le_refl _) (Nat.zero_le _) (.inl rfl) (fun _ hi => absurd hi (Nat.not_lt_zero _))
        match k, hk with
        | 0, _ => exact ⟨hP.cell 0, hP.cell 1⟩
        | 1, _ => exact ⟨hP.cell 2, hP.cell 3⟩
  have HPA : Hid (∀ W, Calls Tryd.prog 8 #[.string ⟨#[47, 97, 47, 98]⟩] W fun e w' => ∃ A cap, e = .returned (.tuple #[.slice A 2 cap, .bool true]) ∧ RdT w' A [⟨#[97]⟩, ⟨#[98]⟩] ∧ Below W.heap.size W w') := fun W => by
    have := M.parts ⟨#[47, 97, 47, 98]⟩ W (by decide)
    rw [show (ByteArray.mk #[47, 97, 47, 98]).data.toList = [47, 97, 47, 98] from rfl, parts16] at this
    exact this.mono fun e w' ⟨A, cap, h1, h2, h3, _⟩ => ⟨A, cap, h1, h2, h3⟩
  have HFI : Hid (∀ W (G : Nat → Prop), NdAt W G n16 (.slice none 0 0) (.slice (some ⟨w.heap.size + 1, 0, none⟩) 1 1) → Calls Tryd.prog 14 #[.agg #[.string ⟨#[]⟩, .slice none 0 0, .slice (some ⟨w.heap.size + 1, 0, none⟩) 1 1], .string ⟨#[47, 97]⟩] W fun e w' => ∃ u2 u3, e = .returned (.tuple #[.agg #[.string ⟨#[97]⟩, u2, u3], .bool true]) ∧ NdAt w' (fun b => G b ∨ W.heap.size ≤ b) k16 u2 u3 ∧ Below W.heap.size W w') := fun W G h => by
    have := M.find G n16 (.slice none 0 0) (.slice (some ⟨w.heap.size + 1, 0, none⟩) 1 1) ⟨#[47, 97]⟩ W low16 (by decide) h
    rw [show (ByteArray.mk #[47, 97]).data.toList = [47, 97] from rfl, find16] at this
    exact this
  have HFN : Hid (∀ W (G : Nat → Prop), NdAt W G n16 (.slice none 0 0) (.slice (some ⟨w.heap.size + 1, 0, none⟩) 1 1) → Calls Tryd.prog 14 #[.agg #[.string ⟨#[]⟩, .slice none 0 0, .slice (some ⟨w.heap.size + 1, 0, none⟩) 1 1], .string ⟨#[47, 98]⟩] W fun e w' => ∃ u2 u3, e = .returned (.tuple #[.agg #[.string ⟨#[]⟩, u2, u3], .bool false]) ∧ NdAt w' (fun b => G b ∨ W.heap.size ≤ b) nd0 u2 u3 ∧ Below W.heap.size W w') := fun W G h => by
    have := M.find G n16 (.slice none 0 0) (.slice (some ⟨w.heap.size + 1, 0, none⟩) 1 1) ⟨#[47, 98]⟩ W low16 (by decide) h
    rw [show (ByteArray.mk #[47, 98]).data.toList = [47, 98] from rfl, find16b] at this
    exact this
  have HTX : Hid (∀ W (G : Nat → Prop), NdAt W G n16 (.slice none 0 0) (.slice (some ⟨w.heap.size + 1, 0, none⟩) 1 1) → Calls Tryd.prog 21 #[.agg #[.string ⟨#[]⟩, .slice none 0 0, .slice (some ⟨w.heap.size + 1, 0, none⟩) 1 1], .string ⟨#[47, 97]⟩, .string ⟨#[120]⟩] W fun e w' => e = .returned (.tuple #[.string ⟨#[116]⟩, .bool true]) ∧ Below W.heap.size W w') := fun W G h => by
    have := M.text G n16 (.slice none 0 0) (.slice (some ⟨w.heap.size + 1, 0, none⟩) 1 1) ⟨#[47, 97]⟩ ⟨#[120]⟩ W low16 (by decide) (by decide) h
    rw [show (ByteArray.mk #[47, 97]).data.toList = [47, 97] from rfl, text16] at this
    exact this
  have HNU : Hid (∀ W (G : Nat → Prop), NdAt W G n16 (.slice none 0 0) (.slice (some ⟨w.heap.size + 1, 0, none⟩) 1 1) → Calls Tryd.prog 23 #[.agg #[.string ⟨#[]⟩, .slice none 0 0, .slice (some ⟨w.heap.size + 1, 0, none⟩) 1 1], .string ⟨#[47, 97]⟩, .string ⟨#[121]⟩] W fun e w' => e = .returned (.tuple #[.int .i64 7, .bool true]) ∧ Below W.heap.size W w') := fun W G h => by
    have := M.number G n16 (.slice none 0 0) (.slice (some ⟨w.heap.size + 1, 0, none⟩) 1 1) ⟨#[47, 97]⟩ ⟨#[121]⟩ W low16 (by decide) (by decide) h
    rw [show (ByteArray.mk #[47, 97]).data.toList = [47, 97] from rfl, num16] at this
    exact this
  have HS : Hid (∀ W b A cap, Arr W b 9 #[.string ⟨#[97]⟩, .string ⟨#[98]⟩] → RdT W A [⟨#[97]⟩, ⟨#[98]⟩] → Calls Tryd.prog 10 #[.slice A 2 cap, .slice (some ⟨b, 0, none⟩) 2 2] W fun e w' => e = .returned (.bool true) ∧ Below W.heap.size W w') := fun W b A cap h hr =>
    sameTexts_any A (some ⟨b, 0, none⟩) cap 2 [⟨#[97]⟩, ⟨#[98]⟩] W (by decide) hr (.inr ⟨b, 0, rfl, fun k hk => by
      match k, hk with
      | 0, _ => exact h.cell 0
      | 1, _ => exact h.cell 1⟩)
  have HJ : Hid (∀ W b, Arr W b 9 #[.string ⟨#[97]⟩, .string ⟨#[98]⟩] → Calls Tryd.prog 11 #[.slice (some ⟨b, 0, none⟩) 2 2] W fun e w' => e = .returned (.string ⟨#[47, 97, 47, 98]⟩) ∧ Below W.heap.size W w') := fun W b h => by
    have := M.join (some ⟨b, 0, none⟩) 2 [⟨#[97]⟩, ⟨#[98]⟩] W (.inr ⟨b, 0, rfl, fun k hk => by
      match k, hk with
      | 0, _ => exact h.cell 0
      | 1, _ => exact h.cell 1⟩) (Nat.le_refl _) (by decide) (fun k hk => by
      match k, hk with
      | 0, _ => decide
      | 1, _ => decide)
    exact this
  have HJ0 : Hid (∀ W, Calls Tryd.prog 11 #[.slice none 0 0] W fun e w' => e = .returned (.string ⟨#[47]⟩) ∧ Below W.heap.size W w') := fun W => M.join none 0 [] W (.inl rfl) (Nat.le_refl _) (by decide) (fun k hk => absurd hk (Nat.not_lt_zero _))
  have HN := Lib.hid hN
  have HV := Lib.hid hV
  have HB := Lib.hid hB1
  clear M hP hK hN hV hB1
  go_enter Tryd.func7, Tryd.ntmps7
  go_upto_region 2 with fail
  rw [← hW1]
  clear hW1
  generalize w.heap.size + 1 + 1 = g1 at *
  have c0 := HV.out.cell 0
  have c1 := HV.out.cell 1
  have c2 := HV.out.cell 2
  simp only [List.getElem?_toArray, List.getElem?_cons_zero, List.getElem?_cons_succ] at c0 c1 c2
  go_wp2_with fail
  refine (HPA.out _).mono ?_
  rintro e wz ⟨A, cap, rfl, hr, hb⟩
  clear c0 c1 c2
  have HN := Lib.hid (nd_below HN.out hb)
  have HV := Lib.hid (HV.out.below hb HV.out.lt)
  have HB := Lib.hid (HB.out.trans (hb.mono HB.out.size))
  have HR := Lib.hid hr
  clear hr hb
  have c0 := HV.out.cell 0
  have c1 := HV.out.cell 1
  have c2 := HV.out.cell 2
  simp only [List.getElem?_toArray, List.getElem?_cons_zero, List.getElem?_cons_succ] at c0 c1 c2
  go_wp2_with fail
  refine (HFI.out _ _ HN.out).mono ?_
  rintro e wz ⟨u2, u3, rfl, hn, hb⟩
  clear c0 c1 c2
  have HN := Lib.hid (nd_below HN.out hb)
  have HV := Lib.hid (HV.out.below hb HV.out.lt)
  have HR := Lib.hid (HR.out.below hb)
  have HB := Lib.hid (HB.out.trans (hb.mono HB.out.size))
  obtain ⟨ua, ub, uc, ud, q2, q3, _⟩ := nd_shape hn
  have q2 : u2 = .slice ua 2 uc := q2
  have q3 : u3 = .slice ub 0 ud := q3
  subst q2 q3
  clear hb hn
  have hb : Below wz.heap.size wz (wz.alloc (.cells #[.string ⟨#[97]⟩, .slice ua 2 uc, .slice ub 0 ud] 34)) := (Below.refl _ _).alloc (Nat.le_refl _) _
  have hk4 : Arr (wz.alloc (.cells #[.string ⟨#[97]⟩, .slice ua 2 uc, .slice ub 0 ud] 34)) wz.heap.size 34 #[.string ⟨#[97]⟩, .slice ua 2 uc, .slice ub 0 ud] := Arr.new wz _ _
  have HN := Lib.hid (nd_below HN.out hb)
  have HV := Lib.hid (HV.out.below hb HV.out.lt)
  have HR := Lib.hid (HR.out.below hb)
  have HB := Lib.hid (HB.out.trans (hb.mono HB.out.size))
  have HK4 := Lib.hid hk4
  clear hk4
  clear hb
  go_upto_region 4 with fail
  generalize wz.alloc (.cells #[.string ⟨#[97]⟩, .slice ua 2 uc, .slice ub 0 ud] 34) = wy at *
  generalize wz.heap.size = g4 at *
  have c0 := HV.out.cell 0
  have c1 := HV.out.cell 1
  have c2 := HV.out.cell 2
  simp only [List.getElem?_toArray, List.getElem?_cons_zero, List.getElem?_cons_succ] at c0 c1 c2
  have m1 := HK4.out.cell 1
  simp only [List.getElem?_toArray, List.getElem?_cons_zero, List.getElem?_cons_succ] at m1
  go_wp2_with fail
  refine (HTX.out _ _ HN.out).mono ?_
  rintro e wz ⟨rfl, hb⟩
  clear c0 c1 c2 m1
  have HN := Lib.hid (nd_below HN.out hb)
  have HV := Lib.hid (HV.out.below hb HV.out.lt)
  have HR := Lib.hid (HR.out.below hb)
  have HK4 := Lib.hid (HK4.out.below hb HK4.out.lt)
  have HB := Lib.hid (HB.out.trans (hb.mono HB.out.size))
  clear hb
  have c0 := HV.out.cell 0
  have c1 := HV.out.cell 1
  have c2 := HV.out.cell 2
  simp only [List.getElem?_toArray, List.getElem?_cons_zero, List.getElem?_cons_succ] at c0 c1 c2
  have m1 := HK4.out.cell 1
  simp only [List.getElem?_toArray, List.getElem?_cons_zero, List.getElem?_cons_succ] at m1
  go_wp2_with fail
  refine (HNU.out _ _ HN.out).mono ?_
  rintro e wz ⟨rfl, hb⟩
  clear c0 c1 c2 m1
  have HN := Lib.hid (nd_below HN.out hb)
  have HV := Lib.hid (HV.out.below hb HV.out.lt)
  have HR := Lib.hid (HR.out.below hb)
  have HK4 := Lib.hid (HK4.out.below hb HK4.out.lt)
  have HB := Lib.hid (HB.out.trans (hb.mono HB.out.size))
  clear hb
  have c0 := HV.out.cell 0
  have c1 := HV.out.cell 1
  have c2 := HV.out.cell 2
  simp only [List.getElem?_toArray, List.getElem?_cons_zero, List.getElem?_cons_succ] at c0 c1 c2
  have m1 := HK4.out.cell 1
  simp only [List.getElem?_toArray, List.getElem?_cons_zero, List.getElem?_cons_succ] at m1
  go_wp2_with fail
  refine (HFN.out _ _ HN.out).mono ?_
  rintro e wz ⟨u2, u3, rfl, hn, hb⟩
  clear c0 c1 c2 m1
  have HN := Lib.hid (nd_below HN.out hb)
  have HV := Lib.hid (HV.out.below hb HV.out.lt)
  have HR := Lib.hid (HR.out.below hb)
  have HK4 := Lib.hid (HK4.out.below hb HK4.out.lt)
  have HB := Lib.hid (HB.out.trans (hb.mono HB.out.size))
  obtain ⟨ua, ub, uc, ud, q2, q3, _⟩ := nd_shape hn
  have q2 : u2 = .slice ua 0 uc := q2
  have q3 : u3 = .slice ub 0 ud := q3
  subst q2 q3
  clear hb hn
  have hb : Below wz.heap.size wz (wz.alloc (.cells #[.string ⟨#[]⟩, .slice ua 0 uc, .slice ub 0 ud] 34)) := (Below.refl _ _).alloc (Nat.le_refl _) _
  have HN := Lib.hid (nd_below HN.out hb)
  have HV := Lib.hid (HV.out.below hb HV.out.lt)
  have HR := Lib.hid (HR.out.below hb)
  have HK4 := Lib.hid (HK4.out.below hb HK4.out.lt)
  have HB := Lib.hid (HB.out.trans (hb.mono HB.out.size))
  clear hb
  go_upto_region 7 with fail
  generalize wz.alloc (.cells #[.string ⟨#[]⟩, .slice ua 0 uc, .slice ub 0 ud] 34) = wy at *
  generalize wz.heap.size = g7 at *
  clear HN HV
  have hba : Below wy.heap.size wy (wy.alloc (.cells #[.string ⟨#[97]⟩, .string ⟨#[98]⟩] 9)) := (Below.refl _ _).alloc (Nat.le_refl _) _
  have HK4 := Lib.hid (HK4.out.below hba HK4.out.lt)
  have HR := Lib.hid (HR.out.below hba)
  have HB := Lib.hid (HB.out.trans (hba.mono HB.out.size))
  clear hba
  have m1 := HK4.out.cell 1
  simp only [List.getElem?_toArray, List.getElem?_cons_zero, List.getElem?_cons_succ] at m1
  go_wp2_with fail
  refine (HS.out _ _ _ _ (Arr.new _ _ _) HR.out).mono ?_
  rintro e w7 ⟨rfl, hb⟩
  clear m1
  have HR := Lib.hid (HR.out.below hb)
  have HK4 := Lib.hid (HK4.out.below hb HK4.out.lt)
  have HB := Lib.hid (HB.out.trans (hb.mono HB.out.size))
  clear hb
  have m1 := HK4.out.cell 1
  simp only [List.getElem?_toArray, List.getElem?_cons_zero, List.getElem?_cons_succ] at m1
  have hba : Below w7.heap.size w7 (w7.alloc (.cells #[.string ⟨#[97]⟩, .string ⟨#[98]⟩] 9)) := (Below.refl _ _).alloc (Nat.le_refl _) _
  have HK4 := Lib.hid (HK4.out.below hba HK4.out.lt)
  have HR := Lib.hid (HR.out.below hba)
  have HB := Lib.hid (HB.out.trans (hba.mono HB.out.size))
  clear hba
  go_wp2_with fail
  refine (HJ.out _ _ (Arr.new _ _ _)).mono ?_
  rintro e w8 ⟨rfl, hb⟩
  clear m1
  have HR := Lib.hid (HR.out.below hb)
  have HK4 := Lib.hid (HK4.out.below hb HK4.out.lt)
  have HB := Lib.hid (HB.out.trans (hb.mono HB.out.size))
  clear hb
  have m1 := HK4.out.cell 1
  simp only [List.getElem?_toArray, List.getElem?_cons_zero, List.getElem?_cons_succ] at m1
  go_wp2_with fail
  refine (HJ0.out _).mono ?_
  rintro e w9 ⟨rfl, hb⟩
  clear m1
  have HR := Lib.hid (HR.out.below hb)
  have HK4 := Lib.hid (HK4.out.below hb HK4.out.lt)
  have HB := Lib.hid (HB.out.trans (hb.mono HB.out.size))
  clear hb
  go_wp2
  go_ret
  exact ⟨rfl, HB.out⟩
end Go.Proofs.YtjphecfkjpfkeaaDoor
