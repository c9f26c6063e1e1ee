/- What the document's Take does with a TokBegin that it takes. Conditions: a Builder in memory. -/
import Derived.Test.YtmgmpjgofolkgaaMg20
import Derived.Test.YtmgmpjgofolkgaaMg9
import Derived.Deep.RegionLaw
import Derived.Deep.RegionHeld3
namespace Go.Proofs.Ytmgmpjgofolkgaa
open Go.RowKit

theorem elemNode : ElemN Try.prog 24 26 3 64 := elemN_mk (z := .agg #[.string ByteArray.empty, .slice none 0 0, .slice none 0 0]) Try.underlying24 (by kernel_rfl) rfl (by decide)
def zeroN : Array Value := #[.string ⟨#[]⟩, .slice none 0 0, .slice none 0 0]
theorem zeroN_one : ∀ u ∈ zeroN.toList, u.oneCell' = true := by
  intro u hu
  simp [zeroN] at hu
  rcases hu with rfl | rfl <;> rfl
set_option maxHeartbeats 1600000 in
set_option maxRecDepth 100000 in
theorem btake_begin (B g : Nat) (op : List ND) (dn : Bool) (rt : ND) (ns pn : Nat) (vo : Value) (L : List ON) (r2 r3 : Value) (kd : Int) (nm vl : ByteArray) (w : World) (h : BX w B g ⟨op, dn, rt, ns, pn⟩ vo L r2 r3) (hk : kd = 1) (hd : dn = false) (hl : L.length < 8) (hn : ns < 64) :
    Calls Try.prog 34 #[.pointer (some ⟨g, 0, none⟩), .agg #[.int .i64 kd, .string nm, .string vl]] w fun e w' => e = .returned (.int .i64 0) ∧ ∃ vo' L' r2' r3', BX w' B g ⟨op ++ [.mk nm [] []], dn, rt, ns + 1, pn⟩ vo' L' r2' r3' ∧ Moved w w' (fpO g vo L) (fpO g vo' L') := by
  subst hd
  subst hk
  obtain ⟨W1, hW1⟩ : ∃ W1, W1 = w.alloc (.cells #[.int .i64 1, .string nm, .string vl] 70) := ⟨_, rfl⟩
  have hb1 : Below w.heap.size w W1 := by rw [hW1]; exact (Below.refl _ _).alloc (Nat.le_refl _) _
  have hT : Arr W1 w.heap.size 70 (tkC ⟨1, nm, vl⟩) := by rw [hW1]; exact Arr.new w _ _
  have hX := h.below hb1
  have hM1 : Moved w W1 (fpO g vo L) (fpO g vo L) := Moved.of_below hb1 _
  obtain ⟨A, cap, rfl, hcap, hcm, _⟩ := row_form h.row
  unfold maxLen at hcm
  have c0 : W1.cell? ⟨g, 0, none⟩ = some (.slice A L.length cap) := hX.arr.cell 0
  have c1 : W1.cell? ⟨g, 1, none⟩ = some (.bool false) := hX.arr.cell 1
  have c5 : W1.cell? ⟨g, 5, none⟩ = some (.int .i64 (ns : Int)) := hX.arr.cell 5
  have c6 : W1.cell? ⟨g, 6, none⟩ = some (.int .i64 (pn : Int)) := hX.arr.cell 6
  have t0 : W1.cell? ⟨w.heap.size, 0, none⟩ = some (.int .i64 1) := hT.cell 0
  have t1 : W1.cell? ⟨w.heap.size, 1, none⟩ = some (.string nm) := hT.cell 1
  have t2 : W1.cell? ⟨w.heap.size, 2, none⟩ = some (.string vl) := hT.cell 2
  have f0 := hX.arr.frozen 0
  have f1 := hX.arr.frozen 1
  have f5 := hX.arr.frozen 5
  have f6 := hX.arr.frozen 6
  have HX := Lib.hid hX
  have HM := Lib.hid hM1
  have HT := Lib.hid hT
  have hgl := hX.arr.lt
  have htl := hT.lt
  clear h hb1 hX hM1 hT
  have d0 : ((L.length : Int) == 8) = false := by simp; omega
  have d1 : ((ns : Int) == 64) = false := by simp; omega
  have hA2 : Arr (W1.setCell ⟨g, 5, none⟩ (.int .i64 ((ns : Int) + 1))) g 77 (bdC (.slice A L.length cap) ⟨op, false, rt, ns + 1, pn⟩ r2 r3) := HX.out.arr.put 5 _
  have hX2 := HX.out.cells (b' := ⟨op, false, rt, ns + 1, pn⟩) hA2 (gr_cell W1 g 5 _) rfl rfl
  have hne : w.heap.size ≠ g := fun e => by
    have h1 := HX.out.arr
    have h2 := HT.out
    rw [e] at h2
    unfold Arr at h1 h2
    rw [h1] at h2
    injection h2 with h2
    injection h2 with _ h2 _
    exact absurd h2 (by decide)
  have hT2 : Arr (W1.setCell ⟨g, 5, none⟩ (.int .i64 ((ns : Int) + 1))) w.heap.size 70 (tkC ⟨1, nm, vl⟩) := HT.out.far hne _
  have HX2 := Lib.hid hX2.1
  have HM2 := Lib.hid (HM.out.trans hX2.2)
  have HT2 := Lib.hid hT2
  clear hA2 hX2 hT2 HX HM HT
  go_enter Try.func34, Try.ntmps34
  go_upto_region 1 with fail
  rw [← hW1]
  clear hW1
  go_upto_region 22 with fail
  clear c0 c1 c5 c6 t0 t1 t2 f0 f1 f5 f6 hgl htl d0 d1
  generalize W1.setCell ⟨g, 5, none⟩ (.int .i64 ((ns : Int) + 1)) = W2 at *
  generalize w.heap.size = h8 at *
  have c0 : W2.cell? ⟨g, 0, none⟩ = some (.slice A L.length cap) := HX2.out.arr.cell 0
  have t1 : W2.cell? ⟨h8, 1, none⟩ = some (.string nm) := HT2.out.cell 1
  have hgl := HX2.out.arr.lt
  have htl := HT2.out.lt
  have HEL := Lib.hid elemNode
  have hba : Below W2.heap.size W2 (W2.alloc (.cells zeroN 26)).drew := ((Below.refl _ _).alloc (Nat.le_refl _) _).drew
  have HROW := Lib.hid (ow_below HX2.out.row hba)
  have HNEW : Hid (Arr (W2.alloc (.cells zeroN 26)).drew W2.heap.size 26 zeroN) := Arr.new W2 _ _
  have HBS : Hid (B ≤ (W2.alloc (.cells zeroN 26)).drew.heap.size) := by
    have := HX2.out.gB
    have := hba.size
    show _ ≤ _
    omega
  have TA : Hid ((W2.alloc (.cells zeroN 26)).drew.cell? ⟨h8, 1, none⟩ = some (.string nm)) := (HT2.out.below hba HT2.out.lt).cell 1
  have HXA := Lib.hid (HX2.out.below hba)
  have HTA := Lib.hid (HT2.out.below hba HT2.out.lt)
  have HF5 : Hid (∀ g5 cap5 w5, w5.ownsRow B 26 3 (.slice (some ⟨g5, 0, none⟩) (L.length + 1) cap5) (L.length + 1) (onL L ++ zeroN.toList) → (W2.alloc (.cells zeroN 26)).drew.grownBy w5 (Value.slice A L.length cap).ownBlock →
      Arr w5 g 77 (bdC (.slice A L.length cap) ⟨op, false, rt, ns + 1, pn⟩ r2 r3) ∧ w5.cell? ⟨h8, 1, none⟩ = some (.string nm) ∧ g5 ≠ g ∧ g5 ≠ h8 ∧ w5.cell? ⟨g5, L.length * 3, none⟩ = some (.string ⟨#[]⟩) ∧ w5.cell? ⟨g5, L.length * 3 + 1, none⟩ = some (.slice none 0 0) ∧ w5.cell? ⟨g5, L.length * 3 + 2, none⟩ = some (.slice none 0 0) ∧ (∀ j, w5.frozen? ⟨g5, j, none⟩ = false)) := by
    intro g5 cap5 w5 q1 q2
    have hA5 := HXA.out.arr.gr q2 (ow_arr HXA.out.arr HXA.out.row tyneT.1)
    have hT5 := HTA.out.gr q2 (ow_arr HTA.out HXA.out.row (by decide))
    have e : ∀ j, j < 3 → w5.cell? ⟨g5, L.length * 3 + j, none⟩ = zeroN.toList[j]? := fun j hj => by
      rw [q1.cellAt _ (by omega), List.getElem?_append_right (by rw [onL_len]; omega), onL_len, Nat.add_sub_cancel_left]
    refine ⟨hA5, hT5.cell 1, ?_, ?_, e 0 (by omega), e 1 (by omega), e 2 (by omega), fun j => q1.frozenAt j⟩
    · rintro rfl
      exact ow_arr hA5 q1 tyneT.1 rfl
    · rintro rfl
      exact ow_arr hT5 q1 (by decide) rfl
  have HFI : Hid (∀ g5 cap5 w5 wz, w5.ownsRow B 26 3 (.slice (some ⟨g5, 0, none⟩) (L.length + 1) cap5) (L.length + 1) (onL L ++ zeroN.toList) → (W2.alloc (.cells zeroN 26)).drew.grownBy w5 (Value.slice A L.length cap).ownBlock → ((Value.slice A L.length cap).ownBlock = some g5 ∨ g5 = (W2.alloc (.cells zeroN 26)).drew.heap.size) → g5 ≠ g →
      (wz = (((w5.setCell ⟨g5, L.length * 3, none⟩ (.string nm)).setCell ⟨g5, L.length * 3 + 1, none⟩ (.slice none 0 0)).setCell ⟨g5, L.length * 3 + 2, none⟩ (.slice none 0 0)).setCell ⟨g, 0, none⟩ (.slice (some ⟨g5, 0, none⟩) (L.length + 1) cap5) ∨ wz = (((w5.setCell ⟨g, 0, none⟩ (.slice (some ⟨g5, 0, none⟩) (L.length + 1) cap5)).setCell ⟨g5, L.length * 3, none⟩ (.string nm)).setCell ⟨g5, L.length * 3 + 1, none⟩ (.slice none 0 0)).setCell ⟨g5, L.length * 3 + 2, none⟩ (.slice none 0 0)) →
      ∃ vo' L' r2' r3', BX wz B g ⟨op ++ [.mk nm [] []], false, rt, ns + 1, pn⟩ vo' L' r2' r3' ∧ Moved w wz (fpO g (.slice A L.length cap) L) (fpO g vo' L')) := by
    intro g5 cap5 w5 wz q1 q2 q3 hgg hz
    have hA5 := HXA.out.arr.gr q2 (ow_arr HXA.out.arr HXA.out.row tyneT.1)
    have hs3 : (((onL L ++ zeroN.toList).set (L.length * 3) (.string nm)).set (L.length * 3 + 1) (.slice none 0 0)).set (L.length * 3 + 2) (.slice none 0 0) = onL (L ++ [⟨nm, [], [], .slice none 0 0, .slice none 0 0⟩]) := by
      rw [onL_app]
      exact set_three (onL L) _ _ _ _ _ _ _ (by rw [onL_len])
    have hfo := ownS_lies (n := L.length + 1) (cap := cap5) q3
    have m0 : Moved W2 (W2.alloc (.cells zeroN 26)).drew (fun k => k = g ∨ ownS (.slice A L.length cap) k) (fun k => k = g ∨ ownS (.slice A L.length cap) k) := Moved.of_below hba _
    have m1 : Moved (W2.alloc (.cells zeroN 26)).drew w5 (fun k => k = g ∨ ownS (.slice A L.length cap) k) (fun k => k = g ∨ ownS (.slice (some ⟨g5, 0, none⟩) (L.length + 1) cap5) k) := Moved.grown q2 (fun k hk => .inr hk) (fun k hk => by
      rcases hk with hk | hk
      · exact .inl (.inl hk)
      · exact (hfo k hk).imp .inr id)
    have mg : ∀ (x y : World) (r : Nat), x.grownBy y (some r) → (r = g ∨ r = g5) → Moved x y (fun k => k = g ∨ ownS (.slice (some ⟨g5, 0, none⟩) (L.length + 1) cap5) k) (fun k => k = g ∨ ownS (.slice (some ⟨g5, 0, none⟩) (L.length + 1) cap5) k) := fun x y r hg hr => Moved.grown hg (fun k hk => by
      injection hk with hk
      subst hk
      rcases hr with hr | hr
      · exact .inl hr
      · right; rw [hr]; rfl) (fun k hk => .inl hk)
    have fin : ∀ W', Arr W' g 77 (bdC (.slice (some ⟨g5, 0, none⟩) (L.length + 1) cap5) ⟨op ++ [.mk nm [] []], false, rt, ns + 1, pn⟩ r2 r3) → W'.ownsRow B 26 3 (.slice (some ⟨g5, 0, none⟩) (L.length + 1) cap5) (L.length + 1) (onL (L ++ [⟨nm, [], [], .slice none 0 0, .slice none 0 0⟩])) →
        Moved w5 W' (fun k => k = g ∨ ownS (.slice (some ⟨g5, 0, none⟩) (L.length + 1) cap5) k) (fun k => k = g ∨ ownS (.slice (some ⟨g5, 0, none⟩) (L.length + 1) cap5) k) → ∃ vo' L' r2' r3', BX W' B g ⟨op ++ [.mk nm [] []], false, rt, ns + 1, pn⟩ vo' L' r2' r3' ∧ Moved w W' (fpO g (.slice A L.length cap) L) (fpO g vo' L') := by
      intro W' hA hr hm
      have hb := bx_begin HX2.out nm (b' := ⟨op ++ [.mk nm [] []], false, rt, ns + 1, pn⟩) hA rfl rfl hr (m0.trans (m1.trans hm)) (fun k hk => (hfo k hk).imp id fun h => Nat.le_trans hba.size h)
      exact ⟨_, _, _, _, hb.1, HM2.out.trans hb.2⟩
    rcases hz with rfl | rfl
    · have hr := row_three q1 (L.length * 3) (.string nm) (.slice none 0 0) (.slice none 0 0) hs3
      refine fin _ ((((hA5.far hgg.symm _).far hgg.symm _).far hgg.symm _).put 0 _) (ow_set (((hA5.far hgg.symm _).far hgg.symm _).far hgg.symm _) hr.1 tyneT.1 _ _) ((mg _ _ _ hr.2 (.inr rfl)).trans (mg _ _ _ (gr_cell _ g 0 _) (.inl rfl)))
    · have hr := row_three (ow_set hA5 q1 tyneT.1 0 (.slice (some ⟨g5, 0, none⟩) (L.length + 1) cap5)) (L.length * 3) (.string nm) (.slice none 0 0) (.slice none 0 0) hs3
      refine fin _ ((((hA5.put 0 _).far hgg.symm _).far hgg.symm _).far hgg.symm _) hr.1 ((mg _ _ _ (gr_cell _ g 0 _) (.inl rfl)).trans (mg _ _ _ hr.2 (.inr rfl)))
  clear HXA HTA HX2 HM2 HT2 hba
  have hi1 : (L.length : Int) < (L.length : Int) + 1 := by omega
  have hi2 : (L.length : Int) < ((L.length + 1 : Nat) : Int) := by omega
  go_region_law (first | (refine step_append_at (by rfl) _ _ _ (by rfl) 26 3 64 HEL B (.slice A L.length cap) L.length (onL L) (by rfl) HROW.out W2.heap.size zeroN HNEW.out rfl zeroN_one (by rfl) (by unfold maxLen; omega) (by omega) HBS.out ?_; intro g5 cap5 w5 q1 q2 q3 q4; obtain ⟨y1, y2, y3, y4, y5, y6, y7, y8⟩ := HF5.out g5 cap5 w5 q1 q2; have y9 : w5.cell? ⟨g, 0, none⟩ = some (.slice A L.length cap) := y1.cell 0; have y10 := y1.frozen 0; have y11 := y1.lt; have f5 := y8 (L.length * 3); have f6 := y8 (L.length * 3 + 1); have f7 := y8 (L.length * 3 + 2); have y1 := Lib.hid y1; have y8 := Lib.hid y8))
  all_goals (
    have HE := Lib.hid (fun wz => HFI.out g5 cap5 w5 wz q1 q2 q3 y3)
    clear y1 y2 y3 y4 y5 y6 y7 y8 y9 y10 y11 f5 f6 f7 q1 q2 q3 q4 HF5 HFI HROW HNEW HBS TA HEL c0 t1 hgl htl
    go_wp2
    go_ret
    refine ⟨rfl, HE.out _ ?_⟩
    first | exact .inl rfl | exact .inr rfl)
end Go.Proofs.Ytmgmpjgofolkgaa

/- Small general laws for a region that draws its order, walked by hand: what is known of the world may become more on the way. No condition: nothing of the program stands in it. -/
namespace Go.Proofs.Ytmgmpjgofolkgaa

/-- A stronger condition on the world may be taken from here on. -/
theorem wpAnyH_more {P : Program} {md : Region.Mode} {ops : Array Oper} {Q : Exit → Act → World → Prop} {S S' : World → Prop} (hS : ∀ w, S' w → S w) :
    ∀ {fuel : Nat} {listed : Array Bool} {a : Act} {w : World}, wpAnyH P md ops Q S' fuel listed a w → wpAnyH P md ops Q S fuel listed a w
  | 0, _, _, _, h => h
  | _ + 1, _, _, _, h => ⟨h.1, fun i hi => wpOp_mono (fun _ _ h' => ⟨hS _ h'.1, wpAnyH_more hS h'.2⟩) (h.2 i hi)⟩
/-- Operation i, which writes slot d, is taken first. -/
theorem takeH {P : Program} {md : Region.Mode} {ops : Array Oper} {Q : Exit → Act → World → Prop} {S : World → Prop} (i : Nat) (d : Tmp) {oi : Oper} {v : Value} {fuel : Nat} {listed : Array Bool} {a : Act} {w : World} (hi : ops[i]? = some oi) (hd : oi.dst = some d)
    (hs : Region.noSelect ops = true) (hf : Region.free md ops listed i = true) (hr : (Region.ready md ops listed).contains i = true)
    (hQ : ∀ c a w, Q (.panic c) (a.put (some d) v) w → Q (.panic c) a w) (hy : YieldsIf P ops S oi v a) (hS : S w)
    (h : wpAnyH P md ops Q S fuel (listed.setIfInBounds i true) (a.put (some d) v) w) : wpAnyH P md ops Q S (fuel + 1) listed a w :=
  wpAnyH_take hi hs hf hr (by rw [hd]; exact hQ) hy hS (by rw [hd]; exact h)
/-- It is shown of the world at hand, and handed on. -/
theorem wpAnyH_from {P : Program} {md : Region.Mode} {ops : Array Oper} {Q : Exit → Act → World → Prop} {S S' : World → Prop} {fuel : Nat} {listed : Array Bool} {a : Act} {w : World} (hS : ∀ w, S' w → S w) (h : S' w)
    (k : S' w → wpAnyH P md ops Q S' fuel listed a w) : wpAnyH P md ops Q S fuel listed a w := wpAnyH_more hS (k h)
end Go.Proofs.Ytmgmpjgofolkgaa
