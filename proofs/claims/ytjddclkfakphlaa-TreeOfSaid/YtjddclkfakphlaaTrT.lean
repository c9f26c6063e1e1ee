/- What package tree must do, said over nothing of its code; and the awake() of layer 12's statements. Conditions: those contracts. -/
import Derived.Test.YtjddclkfakphlaaTrS
import Derived.Test.YtjddclkfakphlaaTrB
import Derived.Test.YtjddclkfakphlaaTrR
namespace Go.Proofs.Ytjddclkfakphlaa
open Go.RowKit

/-- The slice at A reads as spots. -/
def RdSpt (w : World) (A : Option Addr) (L : List SPT) : Prop := L = [] ∨ ∃ b off, A = some ⟨b, off, none⟩ ∧ ∀ k, k < L.length → ∀ j, j < 4 → w.cell? ⟨b, off + k * 4 + j, none⟩ = (spl (L.getD k ⟨ByteArray.empty, nd0, undef, undef⟩))[j]?
/-- The contracts of package tree. -/
structure TreeMust : Prop where
  tokens : ∀ (G : Nat → Prop) (n : ND) (v2 v3 : Value) (w : World), SzT n → NdAt w G n v2 v3 → Calls Try.prog 10 #[.agg #[.string n.nm, v2, v3]] w fun e w' => ∃ A cap, e = .returned (.slice A (tokR 8 n).length cap) ∧ RdTk w' A (tokR 8 n) ∧ (tokR 8 n).length ≤ cap ∧ cap ≤ maxLen ∧ Below w.heap.size w w'
  of : ∀ (A : Option Addr) (cap : Nat) (l : List TK) (w : World), RdTk w A l → KdOk l → l.length ≤ 1000 → l.length ≤ cap → cap ≤ maxLen → Calls Try.prog 21 #[.slice A l.length cap] w fun e w' => ∃ v2 v3, e = .returned (.tuple #[.agg #[.string (ofR l).1.nm, v2, v3], .int .i64 ((ofR l).2 : Int)]) ∧ NdAt w' (fun k => k < w'.heap.size) (ofR l).1 v2 v3 ∧ Below w.heap.size w w'
  count : ∀ (G : Nat → Prop) (n : ND) (v2 v3 : Value) (w : World), SzT n → NdAt w G n v2 v3 → Calls Try.prog 8 #[.agg #[.string n.nm, v2, v3]] w fun e w' => e = .returned (.tuple #[.int .i64 ((countR 9 n).a : Int), .int .i64 ((countR 9 n).b : Int), .int .i64 ((countR 9 n).c : Int)]) ∧ Below w.heap.size w w'
  fits : ∀ (G : Nat → Prop) (n : ND) (v2 v3 : Value) (w : World), SzT n → NdAt w G n v2 v3 → Calls Try.prog 13 #[.agg #[.string n.nm, v2, v3]] w fun e w' => e = .returned (.bool (fitsR n)) ∧ Below w.heap.size w w'
  same : ∀ (G G' : Nat → Prop) (m n : ND) (v2 v3 u2 u3 : Value) (w : World), lowR 12 m = true → lowR 12 n = true → NdAt w G m v2 v3 → NdAt w G' n u2 u3 → Calls Try.prog 15 #[.agg #[.string m.nm, v2, v3], .agg #[.string n.nm, u2, u3]] w fun e w' => e = .returned (.bool (sameR 20 m n)) ∧ Below w.heap.size w w'
  copy : ∀ (G : Nat → Prop) (n : ND) (v2 v3 : Value) (w : World), SzT n → NdAt w G n v2 v3 → Calls Try.prog 17 #[.agg #[.string n.nm, v2, v3]] w fun e w' => ∃ u2 u3, e = .returned (.agg #[.string n.nm, u2, u3]) ∧ NdAt w' (fun k => k < w'.heap.size) n u2 u3 ∧ Below w.heap.size w w'
  walk : ∀ (G : Nat → Prop) (n : ND) (v2 v3 : Value) (w : World), LowR n = true → NdAt w G n v2 v3 → Calls Try.prog 18 #[.agg #[.string n.nm, v2, v3]] w fun e w' => ∃ A cap L, e = .returned (.slice A L.length cap) ∧ RdSpt w' A L ∧ L.map spP = walkR 8 [47] n ∧ (∀ s ∈ L, NdAt w' (fun k => k < w'.heap.size) s.nd s.y s.z) ∧ Below w.heap.size w w'

/-- The tree that awake() takes. -/
def n12 : ND := .mk ⟨#[]⟩ [⟨⟨#[97]⟩, ⟨#[120]⟩⟩] [.mk ⟨#[98]⟩ [] []]
theorem low12 : LowR n12 = true := by decide +kernel
theorem fits12 : fitsR n12 = true := by decide +kernel
theorem of12 : ofR (tokR 8 n12) = (n12, 0) := of_tokens n12 fits12
theorem len12 : (tokR 8 n12).length = 5 := by rfl
theorem count12 : countR 9 n12 = ⟨2, 1, 2⟩ := by rfl
theorem nil12 : ofR [] = (nd0, 6) := by rfl
theorem lown12 : lowR 12 n12 = true := (low_and low12).1
theorem lown0 : lowR 12 nd0 = true := by decide +kernel
theorem same12 : sameR 20 n12 nd0 = false := by decide +kernel
theorem sm12 : sameR 20 n12 n12 = true := sameR_refl 20 n12

theorem arr_nd {w : World} {g : Nat} {a : ByteArray} {v2 v3 : Value} {t : TypeId} (h : Arr w g t #[.string a, v2, v3]) : w.cell? ⟨g, 0, none⟩ = some (.string a) ∧ w.cell? ⟨g, 1, none⟩ = some v2 ∧ w.cell? ⟨g, 2, none⟩ = some v3 := ⟨h.cell 0, h.cell 1, h.cell 2⟩

set_option maxHeartbeats 1600000 in
set_option maxRecDepth 100000 in
theorem awake12 (M : TreeMust) (w : World) : Calls Try.prog 7 #[] w fun e w' => e = .returned (.bool true) ∧ Below w.heap.size w w' := by
  obtain ⟨W1, hW1⟩ : ∃ W1, W1 = ((w.alloc (.cells #[.string ⟨#[97]⟩, .string ⟨#[120]⟩] 52)).alloc (.cells #[.string ⟨#[98]⟩, .slice none 0 0, .slice none 0 0] 25)).alloc (.cells #[.string ⟨#[]⟩, .slice (some ⟨w.heap.size, 0, none⟩) 1 1, .slice (some ⟨w.heap.size + 1, 0, none⟩) 1 1] 25) := ⟨_, rfl⟩
  have hP : Arr W1 w.heap.size 52 #[.string ⟨#[97]⟩, .string ⟨#[120]⟩] := by rw [hW1]; exact ((Arr.new w _ _).alloc _).alloc _
  have hK : Arr W1 (w.heap.size + 1) 25 #[.string ⟨#[98]⟩, .slice none 0 0, .slice none 0 0] := by rw [hW1]; exact (Arr.new1 w _ _ _).alloc _
  have hV : Arr W1 (w.heap.size + 1 + 1) 25 #[.string ⟨#[]⟩, .slice (some ⟨w.heap.size, 0, none⟩) 1 1, .slice (some ⟨w.heap.size + 1, 0, none⟩) 1 1] := by rw [hW1]; exact Arr.new2 w _ _ _ _
  have hB1 : Below w.heap.size w W1 := by
    rw [hW1]
    exact (((Below.refl _ _).alloc (Nat.le_refl _) _).alloc (by rw [sz_alloc]; omega) _).alloc (by rw [sz_alloc, sz_alloc]; omega) _
  have hN : NdAt W1 (fun k => k < W1.heap.size) n12 (.slice (some ⟨w.heap.size, 0, none⟩) 1 1) (.slice (some ⟨w.heap.size + 1, 0, none⟩) 1 1) := by
    refine @NdAt.mk W1 _ ⟨#[]⟩ [⟨⟨#[97]⟩, ⟨#[120]⟩⟩] [.mk ⟨#[98]⟩ [] []] (some ⟨w.heap.size, 0, none⟩) (some ⟨w.heap.size + 1, 0, none⟩) 1 1 (fun _ => .slice none 0 0) (fun _ => .slice none 0 0) (.inr ⟨_, 0, rfl, hP.lt, fun k hk => ?_⟩) (Nat.le_refl _) (by decide) (Nat.le_refl _) (by decide) (.inr ⟨_, 0, rfl, hK.lt, fun i hi => ?_⟩) (fun i hi => ?_)
    · match k, hk with
      | 0, _ => exact ⟨hP.cell 0, hP.cell 1⟩
    · match i, hi with
      | 0, _ => exact ⟨hK.cell 0, hK.cell 1, hK.cell 2⟩
    · match i, hi with
      | 0, _ => exact @NdAt.mk W1 _ ⟨#[98]⟩ [] [] none none 0 0 (fun _ => undef) (fun _ => undef) (.inl rfl) (Nat.le_refl _) (Nat.zero_le _) (Nat.le_refl _) (Nat.zero_le _) (.inl rfl) (fun _ hi => absurd hi (Nat.not_lt_zero _))
  have HTOK : Hid (∀ W (G : Nat → Prop), NdAt W G n12 (.slice (some ⟨w.heap.size, 0, none⟩) 1 1) (.slice (some ⟨w.heap.size + 1, 0, none⟩) 1 1) → Calls Try.prog 10 #[.agg #[.string ⟨#[]⟩, .slice (some ⟨w.heap.size, 0, none⟩) 1 1, .slice (some ⟨w.heap.size + 1, 0, none⟩) 1 1]] W fun e w' => ∃ A cap, e = .returned (.slice A 5 cap) ∧ RdTk w' A (tokR 8 n12) ∧ 5 ≤ cap ∧ cap ≤ maxLen ∧ Below W.heap.size W w') := fun W G h => M.tokens G n12 (.slice (some ⟨w.heap.size, 0, none⟩) 1 1) (.slice (some ⟨w.heap.size + 1, 0, none⟩) 1 1) W (sz_of_low low12) h
  have HOF : Hid (∀ W A cap, RdTk W A (tokR 8 n12) → 5 ≤ cap → cap ≤ maxLen → Calls Try.prog 21 #[.slice A 5 cap] W fun e w' => ∃ v2 v3, e = .returned (.tuple #[.agg #[.string ⟨#[]⟩, v2, v3], .int .i64 0]) ∧ NdAt w' (fun k => k < w'.heap.size) n12 v2 v3 ∧ Below W.heap.size W w') := fun W A cap h h1 h2 => by
    have := M.of A cap (tokR 8 n12) W h (kdOk_tok 8 n12) (by rw [len12]; decide) (by rw [len12]; exact h1) h2
    rw [of12] at this
    exact this
  have HCNT : Hid (∀ W (G : Nat → Prop), NdAt W G n12 (.slice (some ⟨w.heap.size, 0, none⟩) 1 1) (.slice (some ⟨w.heap.size + 1, 0, none⟩) 1 1) → Calls Try.prog 8 #[.agg #[.string ⟨#[]⟩, .slice (some ⟨w.heap.size, 0, none⟩) 1 1, .slice (some ⟨w.heap.size + 1, 0, none⟩) 1 1]] W fun e w' => e = .returned (.tuple #[.int .i64 2, .int .i64 1, .int .i64 2]) ∧ Below W.heap.size W w') := fun W G h => M.count G n12 (.slice (some ⟨w.heap.size, 0, none⟩) 1 1) (.slice (some ⟨w.heap.size + 1, 0, none⟩) 1 1) W (sz_of_low low12) h
  have HOF0 : Hid (∀ W, Calls Try.prog 21 #[.slice none 0 0] W fun e w' => ∃ v2 v3, e = .returned (.tuple #[.agg #[.string ⟨#[]⟩, v2, v3], .int .i64 6]) ∧ NdAt w' (fun k => k < w'.heap.size) nd0 v2 v3 ∧ Below W.heap.size W w') := fun W => by
    have := M.of none 0 [] W (.inl rfl) (fun x hx => absurd hx List.not_mem_nil) (by decide) (Nat.le_refl _) (Nat.zero_le _)
    rw [nil12] at this
    exact this
  have HSA : Hid (∀ W (G' G : Nat → Prop) m2 m3, NdAt W G' n12 m2 m3 → NdAt W G n12 (.slice (some ⟨w.heap.size, 0, none⟩) 1 1) (.slice (some ⟨w.heap.size + 1, 0, none⟩) 1 1) → Calls Try.prog 15 #[.agg #[.string ⟨#[]⟩, m2, m3], .agg #[.string ⟨#[]⟩, .slice (some ⟨w.heap.size, 0, none⟩) 1 1, .slice (some ⟨w.heap.size + 1, 0, none⟩) 1 1]] W fun e w' => e = .returned (.bool true) ∧ Below W.heap.size W w') := fun W G' G m2 m3 h1 h2 => by
    have := M.same G' G n12 n12 m2 m3 (.slice (some ⟨w.heap.size, 0, none⟩) 1 1) (.slice (some ⟨w.heap.size + 1, 0, none⟩) 1 1) W lown12 lown12 h1 h2
    rw [sm12] at this
    exact this
  have HFT : Hid (∀ W (G : Nat → Prop), NdAt W G n12 (.slice (some ⟨w.heap.size, 0, none⟩) 1 1) (.slice (some ⟨w.heap.size + 1, 0, none⟩) 1 1) → Calls Try.prog 13 #[.agg #[.string ⟨#[]⟩, .slice (some ⟨w.heap.size, 0, none⟩) 1 1, .slice (some ⟨w.heap.size + 1, 0, none⟩) 1 1]] W fun e w' => e = .returned (.bool true) ∧ Below W.heap.size W w') := fun W G h => by
    have := M.fits G n12 (.slice (some ⟨w.heap.size, 0, none⟩) 1 1) (.slice (some ⟨w.heap.size + 1, 0, none⟩) 1 1) W (sz_of_low low12) h
    rw [fits12] at this
    exact this
  have HS0 : Hid (∀ W (G : Nat → Prop), NdAt W G n12 (.slice (some ⟨w.heap.size, 0, none⟩) 1 1) (.slice (some ⟨w.heap.size + 1, 0, none⟩) 1 1) → Calls Try.prog 15 #[.agg #[.string ⟨#[]⟩, .slice (some ⟨w.heap.size, 0, none⟩) 1 1, .slice (some ⟨w.heap.size + 1, 0, none⟩) 1 1], .agg #[.string ⟨#[]⟩, .slice none 0 0, .slice none 0 0]] W fun e w' => e = .returned (.bool false) ∧ Below W.heap.size W w') := fun W G h => by
    have := M.same G (fun _ => True) n12 nd0 (.slice (some ⟨w.heap.size, 0, none⟩) 1 1) (.slice (some ⟨w.heap.size + 1, 0, none⟩) 1 1) (.slice none 0 0) (.slice none 0 0) W lown12 lown0 h (nd0_at _ _)
    rw [same12] at this
    exact this
  have HN := Lib.hid hN
  have HV := Lib.hid hV
  have HB := Lib.hid hB1
  clear M hP hK hN hV hB1
  generalize tokR 8 n12 = T at *
  go_enter Try.func7, Try.ntmps7
  go_upto_region 2 with fail
  rw [← hW1]
  clear hW1
  generalize w.heap.size + 1 + 1 = g2 at *
  have c0 := HV.out.cell 0
  have c1 := HV.out.cell 1
  have c2 := HV.out.cell 2
  simp only [List.getElem?_toArray, List.getElem?_cons_zero, List.getElem?_cons_succ] at c0 c1 c2
  go_wp2_with fail
  refine (HTOK.out _ _ HN.out).mono ?_
  rintro e w1 ⟨A, cap, rfl, hr, hc1, hc2, hb⟩
  clear c0 c1 c2
  have HR := Lib.hid hr
  clear hr
  have HN := Lib.hid (nd_below HN.out hb)
  have HV := Lib.hid (HV.out.below hb HV.out.lt)
  have HB := Lib.hid (HB.out.trans (hb.mono HB.out.size))
  clear hb
  have c0 := HV.out.cell 0
  have c1 := HV.out.cell 1
  have c2 := HV.out.cell 2
  simp only [List.getElem?_toArray, List.getElem?_cons_zero, List.getElem?_cons_succ] at c0 c1 c2
  go_wp2_with fail
  refine (HOF.out _ _ _ HR.out hc1 hc2).mono ?_
  rintro e w2 ⟨v2, v3, rfl, hm, hb⟩
  clear c0 c1 c2
  obtain ⟨a2, a3, d2, d3, rfl, rfl, _⟩ := nd_shape hm
  have HMM := Lib.hid hm
  clear hm HR
  have HN := Lib.hid (nd_below HN.out hb)
  have HV := Lib.hid (HV.out.below hb HV.out.lt)
  have HB := Lib.hid (HB.out.trans (hb.mono HB.out.size))
  clear hb
  go_upto_region 4 with fail
  have hm3 := Arr.new w2 25 #[.string ⟨#[]⟩, .slice a2 n12.ps.length d2, .slice a3 n12.ks.length d3]
  have hb : Below w2.heap.size w2 (w2.alloc (.cells #[.string ⟨#[]⟩, .slice a2 n12.ps.length d2, .slice a3 n12.ks.length d3] 25)) := (Below.refl _ _).alloc (Nat.le_refl _) _
  have HN := Lib.hid (nd_below HN.out hb)
  have HV := Lib.hid (HV.out.below hb HV.out.lt)
  have HB := Lib.hid (HB.out.trans (hb.mono HB.out.size))
  have HMM := Lib.hid (nd_below HMM.out hb)
  have HA3 := Lib.hid hm3
  clear hb hm3
  generalize w2.alloc (.cells #[.string ⟨#[]⟩, .slice a2 n12.ps.length d2, .slice a3 n12.ks.length d3] 25) = W3 at *
  generalize w2.heap.size = g3 at *
  have c0 := HV.out.cell 0
  have c1 := HV.out.cell 1
  have c2 := HV.out.cell 2
  simp only [List.getElem?_toArray, List.getElem?_cons_zero, List.getElem?_cons_succ] at c0 c1 c2
  go_wp2_with fail
  refine (HCNT.out _ _ HN.out).mono ?_
  rintro e w4 ⟨rfl, hb⟩
  clear c0 c1 c2
  have HN := Lib.hid (nd_below HN.out hb)
  have HV := Lib.hid (HV.out.below hb HV.out.lt)
  have HB := Lib.hid (HB.out.trans (hb.mono HB.out.size))
  have HMM := Lib.hid (nd_below HMM.out hb)
  have HA3 := Lib.hid (HA3.out.below hb HA3.out.lt)
  clear hb
  go_wp2_with fail
  refine (HOF0.out _).mono ?_
  rintro e w5 ⟨z2, z3, rfl, hz, hb⟩
  obtain ⟨b2, b3, e2, e3, rfl, rfl, _⟩ := nd_shape hz
  clear hz
  have HN := Lib.hid (nd_below HN.out hb)
  have HV := Lib.hid (HV.out.below hb HV.out.lt)
  have HB := Lib.hid (HB.out.trans (hb.mono HB.out.size))
  have HMM := Lib.hid (nd_below HMM.out hb)
  have HA3 := Lib.hid (HA3.out.below hb HA3.out.lt)
  clear hb
  go_upto_region 6 with fail
  have hb : Below w5.heap.size w5 (w5.alloc (.cells #[.string ⟨#[]⟩, .slice b2 nd0.ps.length e2, .slice b3 nd0.ks.length e3] 25)) := (Below.refl _ _).alloc (Nat.le_refl _) _
  have HN := Lib.hid (nd_below HN.out hb)
  have HV := Lib.hid (HV.out.below hb HV.out.lt)
  have HB := Lib.hid (HB.out.trans (hb.mono HB.out.size))
  have HMM := Lib.hid (nd_below HMM.out hb)
  have HA3 := Lib.hid (HA3.out.below hb HA3.out.lt)
  clear hb
  generalize w5.alloc (.cells #[.string ⟨#[]⟩, .slice b2 nd0.ps.length e2, .slice b3 nd0.ks.length e3] 25) = W6 at *
  generalize w5.heap.size = g5 at *
  have c0 := HV.out.cell 0
  have c1 := HV.out.cell 1
  have c2 := HV.out.cell 2
  simp only [List.getElem?_toArray, List.getElem?_cons_zero, List.getElem?_cons_succ] at c0 c1 c2
  have m0 := HA3.out.cell 0
  have m1 := HA3.out.cell 1
  have m2 := HA3.out.cell 2
  simp only [List.getElem?_toArray, List.getElem?_cons_zero, List.getElem?_cons_succ] at m0 m1 m2
  go_wp2_with fail
  refine (HSA.out _ _ _ _ _ HMM.out HN.out).mono ?_
  rintro e w7 ⟨rfl, hb⟩
  clear c0 c1 c2 m0 m1 m2
  have HN := Lib.hid (nd_below HN.out hb)
  have HV := Lib.hid (HV.out.below hb HV.out.lt)
  have HB := Lib.hid (HB.out.trans (hb.mono HB.out.size))
  have HMM := Lib.hid (nd_below HMM.out hb)
  have HA3 := Lib.hid (HA3.out.below hb HA3.out.lt)
  clear hb
  have c0 := HV.out.cell 0
  have c1 := HV.out.cell 1
  have c2 := HV.out.cell 2
  simp only [List.getElem?_toArray, List.getElem?_cons_zero, List.getElem?_cons_succ] at c0 c1 c2
  have m0 := HA3.out.cell 0
  have m1 := HA3.out.cell 1
  have m2 := HA3.out.cell 2
  simp only [List.getElem?_toArray, List.getElem?_cons_zero, List.getElem?_cons_succ] at m0 m1 m2
  go_wp2_with fail
  refine (HFT.out _ _ HN.out).mono ?_
  rintro e w8 ⟨rfl, hb⟩
  clear c0 c1 c2 m0 m1 m2
  have HN := Lib.hid (nd_below HN.out hb)
  have HV := Lib.hid (HV.out.below hb HV.out.lt)
  have HB := Lib.hid (HB.out.trans (hb.mono HB.out.size))
  have HMM := Lib.hid (nd_below HMM.out hb)
  have HA3 := Lib.hid (HA3.out.below hb HA3.out.lt)
  clear hb
  have c0 := HV.out.cell 0
  have c1 := HV.out.cell 1
  have c2 := HV.out.cell 2
  simp only [List.getElem?_toArray, List.getElem?_cons_zero, List.getElem?_cons_succ] at c0 c1 c2
  have m0 := HA3.out.cell 0
  have m1 := HA3.out.cell 1
  have m2 := HA3.out.cell 2
  simp only [List.getElem?_toArray, List.getElem?_cons_zero, List.getElem?_cons_succ] at m0 m1 m2
  go_wp2_with fail
  refine (HS0.out _ _ HN.out).mono ?_
  rintro e w9 ⟨rfl, hb⟩
  clear c0 c1 c2 m0 m1 m2
  have HN := Lib.hid (nd_below HN.out hb)
  have HV := Lib.hid (HV.out.below hb HV.out.lt)
  have HB := Lib.hid (HB.out.trans (hb.mono HB.out.size))
  have HMM := Lib.hid (nd_below HMM.out hb)
  have HA3 := Lib.hid (HA3.out.below hb HA3.out.lt)
  clear hb
  go_wp2
  go_ret
  exact ⟨rfl, HB.out⟩
end Go.Proofs.Ytjddclkfakphlaa
