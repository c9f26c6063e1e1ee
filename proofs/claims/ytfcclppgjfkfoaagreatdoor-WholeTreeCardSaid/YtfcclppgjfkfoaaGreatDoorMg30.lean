/- What package path's Parts and Join return. Conditions: paths of at most 10^6 bytes; at most 1000 names of at most 10^6 bytes. -/
import Derived.Test.YtfcclppgjfkfoaaGreatDoorMg29
import Derived.Test.YtfcclppgjfkfoaaGreatDoorShelf
import Derived.Test.YtfcclppgjfkfoaaGreatDoorMg27
import Derived.Test.YtfcclppgjfkfoaaGreatDoorMg16
import Derived.Test.YtfcclppgjfkfoaaGreatDoorMg28
namespace Go.Proofs.YtfcclppgjfkfoaaGreatDoor
open Go.RowKit

/-- strings.SplitN at a slash, eight pieces at most. -/
theorem gen47 (x : ByteArray) (w : World) (hs : x.size < 4294967281) :
    Calls Tryz.prog 98 #[.string x, .string ⟨#[47]⟩, .int .i64 0, .int .i64 8] w fun e w' =>
      e = .returned (.slice (some ⟨w.heap.size, 0, none⟩) (baL (cut8 x.data.toList)).length (min 8 (x.size + 1))) ∧ w' = w.alloc (.cells (Lib.cellsOf (baL (cut8 x.data.toList)) (min 8 (x.size + 1))) 9) := by
  have c := Any.strings_genSplit_core Tryz.lays221 (by kernel_rfl) x ⟨#[47]⟩ 0 8 (min 8 (x.size + 1)) w hs (by decide) (Nat.zero_le _)
    (fun y c _ => (Tryz.strings_Index_one y 47 _).mono fun e w' ⟨he, hw⟩ => ⟨by rw [he]; exact congrArg (fun z => Ending.returned (Value.int .i64 z)) (Lib.index_one _ _).symm, hw⟩)
    ((Tryz.strings_Count_one x 47 w).mono fun e w' ⟨he, hw⟩ => ⟨by rw [he]; exact congrArg (fun z : Nat => Ending.returned (Value.int .i64 z)) (Lib.count_one _ _).symm, hw⟩)
    (by decide) (by decide) (by rw [if_neg (by decide)]; omega)
  rw [splitB_cut8] at c
  exact c
theorem split47 (x : ByteArray) (w : World) (hs : x.size < 4294967281) :
    Calls Tryz.prog 69 #[.string x, .string ⟨#[47]⟩, .int .i64 8] w fun e w' =>
      e = .returned (.slice (some ⟨w.heap.size, 0, none⟩) (baL (cut8 x.data.toList)).length (min 8 (x.size + 1))) ∧ w' = w.alloc (.cells (Lib.cellsOf (baL (cut8 x.data.toList)) (min 8 (x.size + 1))) 9) := by
  have HC := Lib.hid (gen47 x w hs)
  generalize (baL (cut8 x.data.toList)).length = n at *
  generalize min 8 (x.size + 1) = m at *
  generalize Lib.cellsOf (baL (cut8 x.data.toList)) m = cs at *
  go_enter Tryz.func69, Tryz.ntmps69
  go_wp2_with fail
  refine HC.out.mono ?_
  rintro e w1 ⟨rfl, rfl⟩
  go_wp2
  go_ret
  exact ⟨rfl, rfl⟩
theorem rdT_cells (w : World) (t : TypeId) (l : List ByteArray) (N : Nat) : RdT (w.alloc (.cells (Lib.cellsOf l N) t)) (some ⟨w.heap.size, 0, none⟩) l := by
  have h := Arr.new w t (Lib.cellsOf l N)
  refine .inr ⟨_, 0, rfl, fun k hk => ?_⟩
  rw [h.cell, Nat.zero_add]
  unfold Lib.cellsOf
  rw [List.getElem?_toArray, List.getElem?_append_left (by rw [List.length_map]; exact hk), List.getElem?_map, List.getElem?_eq_getElem hk, List.getD_eq_getElem?_getD, List.getElem?_eq_getElem hk]
  rfl

set_option maxHeartbeats 1600000 in
set_option maxRecDepth 100000 in
theorem pparts_any : PartsOk := by
  intro p w hp
  obtain ⟨R, hR⟩ : ∃ R : Value → World → Prop, R = fun x w' => ∃ A cap, x = .tuple #[.slice A (baL (partsR p.data.toList).1).length cap, .bool (partsR p.data.toList).2] ∧ RdT w' A (baL (partsR p.data.toList).1) ∧ TxFar w.heap.size A (baL (partsR p.data.toList).1) ∧ Below w.heap.size w w' ∧ (baL (partsR p.data.toList).1).length ≤ cap := ⟨_, rfl⟩
  suffices H : Calls Tryz.prog 29 #[.string p] w fun e w' => ∃ x, e = .returned x ∧ R x w' by
    refine H.mono ?_
    rintro e w' ⟨x, rfl, hx⟩
    rw [hR] at hx
    obtain ⟨A, cap, rfl, h⟩ := hx
    exact ⟨A, cap, rfl, h⟩
  have HR := Lib.hid hR
  clear hR
  by_cases h47 : p = ⟨#[47]⟩
  · have d1 : (p.toList == [47]) = true := by rw [h47, ByteArray.toList_eq]; decide
    have HE : Hid (R (.tuple #[.slice none 0 0, .bool true]) w) := by
      unfold Hid
      rw [HR.out, h47, show (ByteArray.mk #[47]).data.toList = [47] from rfl, parts_root]
      exact ⟨none, 0, rfl, .inl rfl, .inl rfl, Below.refl _ _, Nat.le_refl _⟩
    clear h47 HR
    go_enter Tryz.func29, Tryz.ntmps29
    go_wp2
    go_ret2
    exact ⟨_, rfl, HE.out⟩
  have hl47 : p.data.toList ≠ [47] := fun e => h47 (ba_eq_list e)
  have d1 : (p.toList == [47]) = false := by rw [ByteArray.toList_eq]; simpa using hl47
  obtain ⟨x, hx⟩ : ∃ x : ByteArray, x = ⟨(Lib.trimPrefix p.data.toList [47]).toArray⟩ := ⟨_, rfl⟩
  have hc := Tryz.strings_CutPrefix p ⟨#[47]⟩ w
  rw [show (ByteArray.mk #[47]).data.toList = [47] from rfl, ← hx] at hc
  cases hb : Lib.hasPrefix p.data.toList [47] with
  | false =>
    have HE : Hid (R (.tuple #[.slice none 0 0, .bool false]) w) := by
      unfold Hid
      have hn : p.data.toList.head? ≠ some 47 := fun e => by
        cases hl : p.data.toList with
        | nil => rw [hl] at e; cases e
        | cons b l =>
          rw [hl] at e hb
          injection e with e
          subst e
          simp [Lib.hasPrefix, List.isPrefixOf] at hb
      rw [HR.out, parts_no hn]
      exact ⟨none, 0, rfl, .inl rfl, .inl rfl, Below.refl _ _, Nat.le_refl _⟩
    rw [hb] at hc
    have HC := Lib.hid hc
    clear h47 HR hl47 hx hc hb
    go_enter Tryz.func29, Tryz.ntmps29
    go_wp2_with fail
    refine HC.out.mono ?_
    rintro e w1 ⟨rfl, rfl⟩
    go_wp2
    go_ret2
    exact ⟨_, rfl, HE.out⟩
  | true =>
    have hhead : p.data.toList.head? = some 47 := by
      cases hl : p.data.toList with
      | nil => rw [hl] at hb; cases hb
      | cons b l =>
        rw [hl] at hb
        simp [Lib.hasPrefix, List.isPrefixOf] at hb
        rw [hb]; rfl
    have hxd : x.data.toList = p.data.toList.drop 1 := by
      rw [hx]
      unfold Lib.trimPrefix
      rw [if_pos hb]; rfl
    have hxs : x.size < 4294967281 := by
      have h1 : x.size = x.data.toList.length := rfl
      have h2 : p.size = p.data.toList.length := rfl
      rw [hxd, List.length_drop] at h1
      omega
    have hs := split47 x w hxs
    have HYES : Hid (nmOk (splitS x.data.toList) = true → partsR p.data.toList = (splitS x.data.toList, true)) := fun h => by rw [hxd] at h ⊢; exact parts_yes hl47 hhead h
    have HNO : Hid (nmOk (splitS x.data.toList) = false → ∀ w', Below w.heap.size w w' → R (.tuple #[.slice none 0 0, .bool false]) w') := fun h w' hb => by
      rw [hxd] at h
      rw [HR.out, parts_bad hl47 h]
      exact ⟨none, 0, rfl, .inl rfl, .inl rfl, hb, Nat.le_refl _⟩
    obtain ⟨W1, hW1⟩ : ∃ W1, W1 = w.alloc (.cells (Lib.cellsOf (baL (cut8 x.data.toList)) (min 8 (x.size + 1))) 9) := ⟨_, rfl⟩
    have hrd : RdT W1 (some ⟨w.heap.size, 0, none⟩) (baL (cut8 x.data.toList)) := by rw [hW1]; exact rdT_cells _ _ _ _
    have HB1 : Hid (Below w.heap.size w W1) := by unfold Hid; rw [hW1]; exact (Below.refl _ _).alloc (Nat.le_refl _) _
    have hln := baL_len (cut8 x.data.toList)
    have h8 := (cut8_len x.data.toList).1
    have h9 : (cut8 x.data.toList).length ≤ min 8 (x.size + 1) := (cut8_len x.data.toList).2
    rw [hb] at hc
    rw [← hW1] at hs
    have HC := Lib.hid hc
    have HS := Lib.hid hs
    by_cases h7 : 7 < (cut8 x.data.toList).length
    · have HE : Hid (R (.tuple #[.slice none 0 0, .bool false]) W1) := HNO.out (cut8_many h7) _ HB1.out
      have d2 : decide ((7 : Int) < ((baL (cut8 x.data.toList)).length : Int)) = true := decide_eq_true (by omega)
      generalize (baL (cut8 x.data.toList)).length = n at *
      generalize min 8 (x.size + 1) = m at *
      clear h47 HR hl47 hx hc hb hhead hxd hxs hs HYES HNO hW1 hrd hln h8 h9 h7
      go_enter Tryz.func29, Tryz.ntmps29
      go_wp2_with fail
      refine HC.out.mono ?_
      rintro e w1 ⟨rfl, rfl⟩
      go_wp2_with fail
      refine HS.out.mono ?_
      rintro e w1 ⟨rfl, rfl⟩
      go_wp2
      go_ret2
      exact ⟨_, rfl, HE.out⟩
    · have d2 : decide ((7 : Int) < ((baL (cut8 x.data.toList)).length : Int)) = false := decide_eq_false (by omega)
      have HCN : Hid (Calls Tryz.prog 70 #[.slice (some ⟨w.heap.size, 0, none⟩) (baL (cut8 x.data.toList)).length (min 8 (x.size + 1)), .string ⟨#[]⟩] W1 fun e w' => e = .returned (.bool (Lib.containsS (baL (cut8 x.data.toList)) ⟨#[]⟩)) ∧ w' = W1) := by
        rcases hrd with he | ⟨b, off, e, hcell⟩
        · exact absurd (congrArg List.length he) (by
            rw [baL_len]
            have := (splitK_few (min 8 (x.data.toList.length + 1) - 1) x.data.toList).1
            have hq : 0 < (splitS x.data.toList).length := List.length_pos_iff.2 (split_ne _)
            unfold cut8
            show ¬ _ = 0
            omega)
        · injection e with e
          injection e with e1 e2 _
          subst e1 e2
          have := Tryz.slices_Contains_string w.heap.size 0 (baL (cut8 x.data.toList)).length (min 8 (x.size + 1)) (baL (cut8 x.data.toList)) ⟨#[]⟩ W1 (Nat.le_refl _) (by omega) hcell
          rw [List.take_length] at this
          exact this
      have HRD := Lib.hid hrd
      cases hbo : Lib.containsS (baL (cut8 x.data.toList)) ⟨#[]⟩ with
      | true =>
        have HE : Hid (R (.tuple #[.slice none 0 0, .bool false]) W1) := HNO.out (cut8_bad (by omega) hbo) _ HB1.out
        rw [hbo] at HCN
        generalize (baL (cut8 x.data.toList)).length = n at *
        generalize min 8 (x.size + 1) = m at *
        clear h47 HR hl47 hx hc hb hhead hxd hxs hs HYES HNO hW1 hrd hln h8 h9 h7 hbo
        go_enter Tryz.func29, Tryz.ntmps29
        go_wp2_with fail
        refine HC.out.mono ?_
        rintro e w1 ⟨rfl, rfl⟩
        go_wp2_with fail
        refine HS.out.mono ?_
        rintro e w1 ⟨rfl, rfl⟩
        go_wp2_with fail
        refine HCN.out.mono ?_
        rintro e w1 ⟨rfl, rfl⟩
        go_wp2
        go_ret2
        exact ⟨_, rfl, HE.out⟩
      | false =>
        have HE : Hid (R (.tuple #[.slice (some ⟨w.heap.size, 0, none⟩) (baL (cut8 x.data.toList)).length (min 8 (x.size + 1)), .bool true]) W1) := by
          unfold Hid
          have hy := HYES.out (cut8_good (by omega) hbo)
          rw [← cut8_few (by omega)] at hy
          rw [HR.out, hy]
          exact ⟨_, _, rfl, HRD.out, .inr ⟨_, _, rfl, Nat.le_refl _⟩, HB1.out, by show (baL (cut8 x.data.toList)).length ≤ _; omega⟩
        rw [hbo] at HCN
        generalize (baL (cut8 x.data.toList)).length = n at *
        generalize min 8 (x.size + 1) = m at *
        clear h47 HR hl47 hx hc hb hhead hxd hxs hs HYES HNO hW1 hrd hln h8 h9 h7 hbo HRD
        go_enter Tryz.func29, Tryz.ntmps29
        go_wp2_with fail
        refine HC.out.mono ?_
        rintro e w1 ⟨rfl, rfl⟩
        go_wp2_with fail
        refine HS.out.mono ?_
        rintro e w1 ⟨rfl, rfl⟩
        go_wp2_with fail
        refine HCN.out.mono ?_
        rintro e w1 ⟨rfl, rfl⟩
        go_wp2
        go_ret2
        exact ⟨_, rfl, HE.out⟩

set_option maxHeartbeats 1600000 in
set_option maxRecDepth 100000 in
theorem join_any (A : Option Addr) (cap : Nat) (l : List ByteArray) (w : World) (hr : RdT w A l) (hc : l.length ≤ cap) (hl : l.length ≤ 1000) (hz : ∀ k, k < l.length → (l.getD k ByteArray.empty).size ≤ 1000000) :
    Calls Tryz.prog 32 #[.slice A l.length cap] w fun e w' => e = .returned (.string ⟨(joinB l).toArray⟩) ∧ Below w.heap.size w w' := by
  have hj := join47 l
  have hlen : (Lib.join (l.map (·.data.toList)) [47]).length ≤ 1000 * 1000001 := by
    by_cases h0 : l = []
    · rw [h0]; exact Nat.zero_le _
    · have h1 := joinB_len hz
      have h2 : joinB l = l.flatMap fun x => 47 :: x.data.toList := if_neg h0
      have h3 : (joinB l).length = (Lib.join (l.map (·.data.toList)) [47]).length + 1 := by rw [← hj]; rfl
      rw [← h2] at h1
      have h4 : l.length * (1000000 + 1) ≤ 1000 * 1000001 := Nat.mul_le_mul_right _ hl
      omega
  obtain ⟨x, hx⟩ : ∃ x : ByteArray, x = ⟨(Lib.join (l.map (·.data.toList)) [47]).toArray⟩ := ⟨_, rfl⟩
  obtain ⟨y, hy⟩ : ∃ y : ByteArray, y = ⟨(joinB l).toArray⟩ := ⟨_, rfl⟩
  have HJ : Hid (Calls Tryz.prog 72 #[.slice A l.length cap, .string ⟨#[47]⟩] w fun e w' => e = .returned (.string x) ∧ Below w.heap.size w w') := by
    rcases hr with rfl | ⟨b, off, rfl, hcell⟩
    · refine (Tryz.strings_Join_none A cap ⟨#[47]⟩ w).mono ?_
      rintro e w' ⟨rfl, rfl⟩
      exact ⟨by rw [hx]; rfl, Below.refl _ _⟩
    · rw [hx]
      by_cases h0 : l.length = 0
      · have := List.length_eq_zero_iff.1 h0
        subst this
        refine (Tryz.strings_Join_none _ cap ⟨#[47]⟩ w).mono ?_
        rintro e w' ⟨rfl, rfl⟩
        exact ⟨rfl, Below.refl _ _⟩
      · exact Tryz.strings_Join b off cap l ⟨#[47]⟩ w (fun j x h => by
          have hj : j < l.length := by
            rcases Nat.lt_or_ge j l.length with h' | h'
            · exact h'
            · rw [List.getElem?_eq_none h'] at h; cases h
          rw [hcell j hj, List.getD_eq_getElem?_getD, h]; rfl) (World.block_lt_of_cell? _ _ (hcell 0 (by omega))) (by omega) hc (by
            show (Lib.join (l.map (·.data.toList)) [47]).length ≤ _
            omega)
  have hxs : x.size ≤ 1000 * 1000001 := by
    have : x.size = (Lib.join (l.map (·.data.toList)) [47]).length := by rw [hx]; exact List.size_toArray
    omega
  have hyd : y.data.toList = (⟨#[47]⟩ : ByteArray).data.toList ++ x.data.toList := by rw [hy, hx, ← hj]; rfl
  have a1 : ∀ W, (Op.stringOp .add ⟨#[47]⟩ x).run Tryz.prog W = .ok (.string y) W := fun W => add_str hyd (by show 1 + x.size ≤ _; omega) W
  rw [← hy]
  clear hr hc hl hz hj hlen hx hy hyd hxs
  go_enter Tryz.func32, Tryz.ntmps32
  go_wp2_with fail
  refine HJ.out.mono ?_
  rintro e w1 ⟨rfl, hb⟩
  go_wp2
  go_ret
  exact ⟨rfl, hb⟩
end Go.Proofs.YtfcclppgjfkfoaaGreatDoor

/- edit's fitting and changed, over any function that does a change at a node. Conditions: a tree of few parts that is read; paths of at most 10^6 bytes. -/
namespace Go.Proofs.YtfcclppgjfkfoaaGreatDoor
open Go.RowKit

set_option maxHeartbeats 1600000 in
set_option maxRecDepth 100000 in
theorem fitting_any (G : Nat → Prop) (n : ND) (y z : Value) (w : World) (ha : (countR 9 n).a ≤ 1099511627776) (hb : (countR 9 n).b ≤ 1099511627776) (hN : NdAt w G n y z) :
    Calls Tryz.prog 33 #[.agg #[.string n.nm, y, z]] w fun e w' => ∃ u2 u3, e = .returned (.tuple #[.agg #[.string (fitsTo n).1.nm, u2, u3], .int .i64 ((fitsTo n).2 : Nat)]) ∧ NdAt w' (OrNew G w.heap.size) (fitsTo n).1 u2 u3 ∧ Below w.heap.size w w' := by
  obtain ⟨A, K, pc, kc, rfl, rfl, hpc, hpm, hkc, hkm⟩ := nd_shape hN
  obtain ⟨W1, hW1⟩ : ∃ W1, W1 = (w.alloc (.cells #[.string n.nm, .slice A n.ps.length pc, .slice K n.ks.length kc] 28)).alloc (.cells #[.string ⟨#[]⟩, .slice none 0 0, .slice none 0 0] 28) := ⟨_, rfl⟩
  obtain ⟨g1, hg1⟩ : ∃ g1, g1 = w.heap.size := ⟨_, rfl⟩
  obtain ⟨g2, hg2⟩ : ∃ g2, g2 = w.heap.size + 1 := ⟨_, rfl⟩
  have hB1 : Below w.heap.size w W1 := by rw [hW1]; exact ((Below.refl _ _).alloc (Nat.le_refl _) _).alloc (by rw [sz_alloc]; omega) _
  have hA1 : Arr W1 g1 28 #[.string n.nm, .slice A n.ps.length pc, .slice K n.ks.length kc] := by rw [hW1, hg1]; exact (Arr.new w _ _).alloc _
  have hA2 : Arr W1 g2 28 #[.string ⟨#[]⟩, .slice none 0 0, .slice none 0 0] := by rw [hW1, hg2]; exact Arr.new1 w _ _ _
  have HN := Lib.hid (nd_below (nd_and hN) hB1)
  have HCT := Lib.hid (fun W G (h : NdAt W G n (.slice A n.ps.length pc) (.slice K n.ks.length kc)) => tCount_any G n _ _ W ha hb h)
  have HFT := Lib.hid (fun W G (h : NdAt W G n (.slice A n.ps.length pc) (.slice K n.ks.length kc)) => tFits_any G n _ _ W ha hb h)
  have HG2 : Hid (w.heap.size ≤ g2) := by unfold Hid; omega
  have HB1 := Lib.hid hB1
  have HA1 := Lib.hid hA1
  have HA2 := Lib.hid hA2
  have HE : Hid (fitsTo n = if 8 < (countR 9 n).c then (nd0, 13) else if fitsR n = true then (n, 0) else (nd0, 7)) := rfl
  obtain ⟨k0, k1, k2⟩ : W1.cell? ⟨g1, 0, none⟩ = some (.string n.nm) ∧ W1.cell? ⟨g1, 1, none⟩ = some (.slice A n.ps.length pc) ∧ W1.cell? ⟨g1, 2, none⟩ = some (.slice K n.ks.length kc) := ⟨hA1.cell 0, hA1.cell 1, hA1.cell 2⟩
  generalize fitsTo n = T at *
  generalize fitsR n = F at *
  rcases hct : countR 9 n with ⟨ca, cb, cc⟩
  rw [hct] at HCT HE
  simp only at HE
  clear hN hB1 hA1 hA2 ha hb hct hpc hkc
  go_enter Tryz.func33, Tryz.ntmps33
  go_upto_region 1 with fail
  change Code.wp _ _ _ _ ((w.alloc (.cells #[.string n.nm, .slice A n.ps.length pc, .slice K n.ks.length kc] 28)).alloc (.cells #[.string ⟨#[]⟩, .slice none 0 0, .slice none 0 0] 28))
  rw [← hW1, ← hg2, ← hg1]
  clear hW1 hg1 hg2
  go_wp2_with fail
  refine (HCT.out _ _ HN.out).mono ?_
  rintro e w2 ⟨rfl, hb⟩
  clear k0 k1 k2
  have HN := Lib.hid (nd_below HN.out hb)
  have HA1 := Lib.hid (HA1.out.below hb HA1.out.lt)
  have HA2 := Lib.hid (HA2.out.below hb HA2.out.lt)
  have HB1 := Lib.hid (HB1.out.trans (hb.mono HB1.out.size))
  clear hb HCT
  by_cases h : 8 < cc
  · have HE : Hid (T = (nd0, 13)) := by unfold Hid; rw [HE.out, if_pos h]
    have d1 : (8 : Int) < (cc : Int) := by omega
    clear h HFT HN HA1
    go_wp2_with (refine wpList_store_row rfl 28 (.tmp 2) (.tmp 16) rfl g2 #[.string ⟨#[]⟩, .slice none 0 0, .slice none 0 0] rfl rfl _ _ HA2.out (infoNd _ _ _) rfl zl_one ?_)
    exact bodyPost_ret (results_rowN rfl _ _ g2 _ #[.string ⟨#[]⟩, .slice none 0 0, .slice none 0 0] _ _ rfl (HA2.out.row _) Tryz.underlying28 rfl (infoNd _ _ _)) rfl ⟨_, _, by rw [HE.out]; rfl, by rw [HE.out]; exact nd0_at _ _, below_setRow HB1.out HG2.out _⟩
  replace HE := Lib.hid (HE.out.trans (if_neg h))
  have d1 : (cc : Int) ≤ 8 := by omega
  obtain ⟨k0, k1, k2⟩ : w2.cell? ⟨g1, 0, none⟩ = some (.string n.nm) ∧ w2.cell? ⟨g1, 1, none⟩ = some (.slice A n.ps.length pc) ∧ w2.cell? ⟨g1, 2, none⟩ = some (.slice K n.ks.length kc) := ⟨HA1.out.cell 0, HA1.out.cell 1, HA1.out.cell 2⟩
  clear h
  go_wp2_with fail
  refine (HFT.out _ _ HN.out).mono ?_
  rintro e w4 ⟨rfl, hb⟩
  have HN := Lib.hid (nd_below HN.out hb)
  have HA1 := Lib.hid (HA1.out.below hb HA1.out.lt)
  have HA2 := Lib.hid (HA2.out.below hb HA2.out.lt)
  have HB1 := Lib.hid (HB1.out.trans (hb.mono HB1.out.size))
  clear hb k0 k1 k2 HFT
  cases F with
  | false =>
    have HE : Hid (T = (nd0, 7)) := by unfold Hid; rw [HE.out]; rfl
    clear HN HA1
    go_wp2_with (refine wpList_store_row rfl 28 (.tmp 2) (.tmp 21) rfl g2 #[.string ⟨#[]⟩, .slice none 0 0, .slice none 0 0] rfl rfl _ _ HA2.out (infoNd _ _ _) rfl zl_one ?_)
    exact bodyPost_ret (results_rowN rfl _ _ g2 _ #[.string ⟨#[]⟩, .slice none 0 0, .slice none 0 0] _ _ rfl (HA2.out.row _) Tryz.underlying28 rfl (infoNd _ _ _)) rfl ⟨_, _, by rw [HE.out]; rfl, by rw [HE.out]; exact nd0_at _ _, below_setRow HB1.out HG2.out _⟩
  | true =>
    have HE : Hid (T = (n, 0)) := by unfold Hid; rw [HE.out]; rfl
    have HND : Hid (NdAt (w4.setRow g2 #[.string n.nm, .slice A n.ps.length pc, .slice K n.ks.length kc]) (OrNew G w.heap.size) n (.slice A n.ps.length pc) (.slice K n.ks.length kc)) := by
      have h6 := HG2.out
      exact (HN.out.kept (moved_setRow w4 g2 _) (fun k hk e => by omega)).mono fun k hk => .inl hk.1
    clear HN
    go_wp2_with (first | (refine wpList_load_row rfl 28 (.tmp 1) rfl g1 rfl _ #[.string n.nm, .slice A n.ps.length pc, .slice K n.ks.length kc] _ _ HA1.out Tryz.underlying28 rfl (infoNd _ _ _) ?_) | (refine wpList_store_row rfl 28 (.tmp 2) (.tmp 22) rfl g2 #[.string n.nm, .slice A n.ps.length pc, .slice K n.ks.length kc] rfl rfl _ _ HA2.out (infoNd _ _ _) rfl (nd_one _ _ _ _ _ _ _) ?_))
    exact bodyPost_ret (results_rowN rfl _ _ g2 _ #[.string n.nm, .slice A n.ps.length pc, .slice K n.ks.length kc] _ _ rfl (HA2.out.row _) Tryz.underlying28 rfl (infoNd _ _ _)) rfl ⟨_, _, by rw [HE.out]; rfl, by rw [HE.out]; exact HND.out, below_setRow HB1.out HG2.out _⟩

/-- The sizes of a tree that is copied. -/
theorem cp_sz {n : ND} (h : SzT n) : CpOk 12 n := ⟨h.1, by have := h.2; omega, by have := h.2; omega⟩
/-- A row of three cells that is known cell by cell. -/
theorem row_is {cur : Array Value} {x y z : Value} (hs : cur.size = 3) (h0 : cur[0]? = some x) (h1 : cur[1]? = some y) (h2 : cur[2]? = some z) : cur = #[x, y, z] := by
  apply Array.ext_getElem?
  intro i
  match i with
  | 0 => exact h0
  | 1 => exact h1
  | 2 => exact h2
  | k + 3 => rw [Array.getElem?_eq_none (by omega)]; rfl

set_option maxHeartbeats 3200000 in
set_option maxRecDepth 100000 in
theorem changed_any (G : Nat → Prop) (n : ND) (y z v : Value) (p : ByteArray) (c : CH) (w : World) (hs : SzT n) (hp : p.size ≤ 1000000) (hc : ChangeOk w v c) (hN : NdAt w G n y z) :
    Calls Tryz.prog 42 #[.agg #[.string n.nm, y, z], .string p, v] w (Ed G (doR17 n p.data.toList c) w) := by
  obtain ⟨A2, K, pc, kc, rfl, rfl, hpc, hpm, hkc, hkm⟩ := nd_shape hN
  obtain ⟨W1, hW1⟩ : ∃ W1, W1 = (w.alloc (.cells #[.string n.nm, .slice A2 n.ps.length pc, .slice K n.ks.length kc] 28)).alloc (.cells #[.string ⟨#[]⟩, .slice none 0 0, .slice none 0 0] 28) := ⟨_, rfl⟩
  obtain ⟨g3, hg3⟩ : ∃ g3, g3 = w.heap.size := ⟨_, rfl⟩
  obtain ⟨g6, hg6⟩ : ∃ g6, g6 = w.heap.size + 1 := ⟨_, rfl⟩
  have hB1 : Below w.heap.size w W1 := by rw [hW1]; exact ((Below.refl _ _).alloc (Nat.le_refl _) _).alloc (by rw [sz_alloc]; omega) _
  have hA3 : Arr W1 g3 28 #[.string n.nm, .slice A2 n.ps.length pc, .slice K n.ks.length kc] := by rw [hW1, hg3]; exact (Arr.new w _ _).alloc _
  have hA6 : Arr W1 g6 28 #[.string ⟨#[]⟩, .slice none 0 0, .slice none 0 0] := by rw [hW1, hg6]; exact Arr.new1 w _ _ _
  have HG3 : Hid (w.heap.size ≤ g3) := by unfold Hid; omega
  have HG6 : Hid (w.heap.size ≤ g6) := by unfold Hid; omega
  have HNE : Hid (g6 ≠ g3) := by unfold Hid; omega
  have HG31 : Hid (g3 < W1.heap.size) := hA3.lt
  have HN := Lib.hid (nd_below (nd_and hN) hB1)
  have HB1 := Lib.hid hB1
  have HA3 := Lib.hid hA3
  have HA6 := Lib.hid hA6
  have HPA := Lib.hid (pparts_any p W1 hp)
  have HCH := Lib.hid hc
  have hcz := sz_count hs
  have HCZ := Lib.hid hcz
  have HWD : Hid (∀ j, wideR 1000000 j n) := fun j => wide_mono (by decide) _ _ (wide_sz hs j)
  have HCP := Lib.hid (cp_sz hs)
  have HE : Hid (doR17 n p.data.toList c = if (partsR p.data.toList).2 = true then (if (downR n (baL (partsR p.data.toList).1) c).2 = 0 then fitsTo (downR n (baL (partsR p.data.toList).1) c).1 else (nd0, (downR n (baL (partsR p.data.toList).1) c).2)) else (nd0, 8)) := rfl
  generalize doR17 n p.data.toList c = T at *
  generalize baL (partsR p.data.toList).1 = L at *
  generalize (partsR p.data.toList).2 = ok at *
  clear hN hA3 hA6 hB1 hpc hkc hp hs hc hcz
  go_enter Tryz.func42, Tryz.ntmps42
  go_upto_region 1 with fail
  change Code.wp _ _ _ _ ((w.alloc (.cells #[.string n.nm, .slice A2 n.ps.length pc, .slice K n.ks.length kc] 28)).alloc (.cells #[.string ⟨#[]⟩, .slice none 0 0, .slice none 0 0] 28))
  rw [← hW1, ← hg6, ← hg3]
  clear hW1 hg6 hg3
  go_wp2_with fail
  refine HPA.out.mono ?_
  rintro e w2 ⟨A, cap, rfl, hrt, hfar, hb, hcap⟩
  have HFAR := Lib.hid hfar
  have HRT := Lib.hid hrt
  have HCAP := Lib.hid hcap
  have HA3 := Lib.hid (HA3.out.below hb HA3.out.lt)
  have HA6 := Lib.hid (HA6.out.below hb HA6.out.lt)
  have HN := Lib.hid (nd_below HN.out hb)
  have HB1 := Lib.hid (HB1.out.trans (hb.mono HB1.out.size))
  clear hrt hcap hb HPA
  cases ok with
  | false =>
    replace HE : Hid (T = (nd0, 8)) := HE.out
    clear HN HA3 HCH HRT HCAP HWD HCP HCZ
    go_wp2_with (refine wpList_store_row rfl 28 (.tmp 6) (.tmp 18) rfl g6 #[.string ⟨#[]⟩, .slice none 0 0, .slice none 0 0] rfl rfl _ _ HA6.out (infoNd _ _ _) rfl zl_one ?_)
    exact bodyPost_ret (results_rowN rfl _ _ g6 _ #[.string ⟨#[]⟩, .slice none 0 0, .slice none 0 0] _ _ rfl (HA6.out.row _) Tryz.underlying28 rfl (infoNd _ _ _)) rfl ⟨_, _, by rw [HE.out]; rfl, by rw [HE.out]; exact nd0_at _ _, below_setRow HB1.out HG6.out _⟩
  | true =>
    replace HE : Hid (T = if (downR n L c).2 = 0 then fitsTo (downR n L c).1 else (nd0, (downR n L c).2)) := HE.out
    have HCY := Lib.hid (tcopy_sole 12 n _ _ w2 HCP.out (nd_lt HN.out))
    clear HCP
    obtain ⟨c30, c31, c32⟩ : w2.cell? ⟨g3, 0, none⟩ = some (.string n.nm) ∧ w2.cell? ⟨g3, 1, none⟩ = some (.slice A2 n.ps.length pc) ∧ w2.cell? ⟨g3, 2, none⟩ = some (.slice K n.ks.length kc) := ⟨HA3.out.cell 0, HA3.out.cell 1, HA3.out.cell 2⟩
    go_wp2_with fail
    refine HCY.out.mono ?_
    rintro e w4 ⟨u2, u3, rfl, hsl, hb4⟩
    obtain ⟨oa, ob, oc, od, rfl, rfl, _⟩ := nd_shape (sole_nd hsl)
    have HSL := Lib.hid hsl
    have HB4 := Lib.hid hb4
    have HA34 := Lib.hid (HA3.out.below hb4 HA3.out.lt)
    clear hsl hb4 c30 c31 c32
    go_upto_region 5 with (refine wpList_store_row rfl 28 (.tmp 3) (.tmp 20) rfl g3 #[.string n.nm, .slice oa n.ps.length oc, .slice ob n.ks.length od] rfl rfl _ _ HA34.out (infoNd _ _ _) rfl (nd_one _ _ _ _ _ _ _) ?_)
    obtain ⟨W5, hW5⟩ : ∃ W5, W5 = w4.setRow g3 #[.string n.nm, .slice oa n.ps.length oc, .slice ob n.ks.length od] := ⟨_, rfl⟩
    have hz5 : W5.heap.size = w4.heap.size := by rw [hW5, size_setRow]
    have h36 := HNE.out
    have hA3l := HA3.out.lt
    have hA6l := HA6.out.lt
    have hA5 : Arr W5 g3 28 #[.string n.nm, .slice oa n.ps.length oc, .slice ob n.ks.length od] := by rw [hW5]; exact HA34.out.row _
    have hA65 : Arr W5 g6 28 #[.string ⟨#[]⟩, .slice none 0 0, .slice none 0 0] := by rw [hW5]; exact (HA6.out.below HB4.out hA6l).rowFar h36 _
    have hS5 : Sole W5 w2.heap.size w4.heap.size n (.slice oa n.ps.length oc) (.slice ob n.ks.length od) := by
      rw [hW5]
      exact HSL.out.kept (moved_setRow w4 g3 _) (fun k hk _ e => by omega)
    have hB5 : Below w.heap.size w W5 := by rw [hW5]; exact below_setRow (HB1.out.trans (HB4.out.mono HB1.out.size)) HG3.out _
    have hR5 : RdT W5 A L := by
      rcases HRT.out.below HB4.out with h | ⟨b, off, e, h⟩
      · exact .inl h
      · refine .inr ⟨b, off, e, fun k hk => ?_⟩
        rw [hW5]
        refine cell_kept (moved_setRow w4 g3 _) (fun e3 => ?_) (h k hk)
        rcases HFAR.out with h7 | ⟨b', off', e7, h7⟩
        · rw [h7] at hk; exact absurd hk (Nat.not_lt_zero _)
        · rw [e] at e7
          injection e7 with e7
          injection e7 with e7
          have := HG31.out
          omega
    have hpass := pass_any w v c HCH.out L A cap n _ _ W5 g3 0 #[.string n.nm, .slice oa n.ps.length oc, .slice ob n.ks.length od] w2.heap.size w4.heap.size hB5 ⟨hA5, rfl, rfl, rfl, hS5, fun h => by omega⟩ (HWD.out _) hR5 HCAP.out
    have HPS := Lib.hid hpass
    have HA65 := Lib.hid hA65
    have HB5 := Lib.hid hB5
    have HZ : Hid (w.heap.size ≤ w2.heap.size ∧ w2.heap.size ≤ w4.heap.size ∧ g6 < w2.heap.size ∧ W5.heap.size = w4.heap.size) := ⟨HB1.out.size, HB4.out.size, hA6l, hz5⟩
    rw [← hW5]
    clear hW5 hz5 h36 hA3l hA6l hA5 hA65 hS5 hB5 hR5 hpass HRT HCAP HA3 HA34 HA6 HSL HB4 HN HCY HCH HWD HB1
    go_wp2_with fail
    refine HPS.out.mono ?_
    rintro e w6 ⟨rfl, cur', hm, ha, hsz, hfr, hok⟩
    have hA66 := hm.arr HA65.out (fun h => by have := HZ.out; have := HNE.out; omega)
    have hB6 : Below w.heap.size w w6 := HB5.out.trans (hm.below (fun k hk => by have := HZ.out; have := HG3.out; omega) HB5.out.size)
    have HA6 := Lib.hid hA66
    have HB6 := Lib.hid hB6
    have HL66 := Lib.hid hA66.lt
    have h0c : cur'[0]? = some (.string n.nm) := by rw [hfr 0 (by decide) (by decide)]; rfl
    by_cases h0 : (downR n L c).2 = 0
    · have hdn := down_nm h0
      have hdc := down_count L n c 9 h0
      obtain ⟨p', q', e1, e2, hnd⟩ := hok h0
      replace HE : Hid (T = fitsTo (downR n L c).1) := HE.out.trans (if_pos h0)
      have d1 : ((((downR n L c).2 : Nat) : Int) != 0) = false := by rw [h0]; rfl
      have hz := HCZ.out
      rw [← hdn] at h0c
      generalize hD : (downR n L c).1 = D at *
      obtain ⟨ua, ub, uc, ud, rfl, rfl, _⟩ := nd_shape hnd
      have hrow : cur' = #[.string D.nm, .slice ua D.ps.length uc, .slice ub D.ks.length ud] := row_is hsz h0c e1 e2
      subst hrow
      have HA3 := Lib.hid ha
      have HFI := Lib.hid (fitting_any _ D _ _ w6 (by omega) (by omega) hnd)
      obtain ⟨c30, c31, c32⟩ : w6.cell? ⟨g3, 0, none⟩ = some (.string D.nm) ∧ w6.cell? ⟨g3, 1, none⟩ = some (.slice ua D.ps.length uc) ∧ w6.cell? ⟨g3, 2, none⟩ = some (.slice ub D.ks.length ud) := ⟨ha.cell 0, ha.cell 1, ha.cell 2⟩
      generalize (downR n L c).2 = en at *
      clear hm ha hfr hok hnd h0c e1 e2 hdn hdc hz hA66 hB6 HPS HA65 HB5 h0 hD hsz HCZ
      go_wp2_with fail
      refine HFI.out.mono ?_
      rintro e w7 ⟨x2, x3, rfl, hk9, hb⟩
      obtain ⟨xa, xb, xc, xd, rfl, rfl, _⟩ := nd_shape hk9
      have HA6 := Lib.hid (HA6.out.below hb HA6.out.lt)
      have HB7 := Lib.hid (HB6.out.trans (hb.mono HB6.out.size))
      rw [← HE.out] at hk9
      have HND2 : Hid (NdAt (w7.setRow g6 #[.string T.1.nm, .slice xa T.1.ps.length xc, .slice xb T.1.ks.length xd]) (OrNew G w.heap.size) T.1 (.slice xa T.1.ps.length xc) (.slice xb T.1.ks.length xd)) := by
        have h6 := HZ.out
        have h7 := HB6.out.size
        have h8 := HL66.out
        exact (hk9.kept (moved_setRow w7 g6 _) (fun k hk e => by rcases hk with (hk | hk) | hk <;> omega)).mono fun k hk => by
          rcases hk with (hk | hk) | hk
          · exact .inr (by omega)
          · exact .inr (by omega)
          · exact .inr (by omega)
      rw [HE.out] at HND2
      clear hk9 hb c30 c31 c32 HA3 HFI
      go_wp2_with (refine wpList_store_row rfl 28 (.tmp 6) (.tmp 30) rfl g6 #[.string (fitsTo D).1.nm, .slice xa (fitsTo D).1.ps.length xc, .slice xb (fitsTo D).1.ks.length xd] rfl rfl _ _ HA6.out (infoNd _ _ _) rfl (nd_one _ _ _ _ _ _ _) ?_)
      exact bodyPost_ret (results_rowN rfl _ _ g6 _ #[.string (fitsTo D).1.nm, .slice xa (fitsTo D).1.ps.length xc, .slice xb (fitsTo D).1.ks.length xd] _ _ rfl (HA6.out.row _) Tryz.underlying28 rfl (infoNd _ _ _)) rfl ⟨_, _, by rw [HE.out]; rfl, by rw [HE.out]; exact HND2.out, below_setRow HB7.out HG6.out _⟩
    · replace HE : Hid (T = (nd0, (downR n L c).2)) := HE.out.trans (if_neg h0)
      have d1 : ((((downR n L c).2 : Nat) : Int) != 0) = true := by simp; omega
      generalize (downR n L c).2 = en at *
      clear hm ha hfr hok h0c hA66 hB6 HPS HA65 HB5 h0 hsz HCZ
      go_wp2_with (refine wpList_store_row rfl 28 (.tmp 6) (.tmp 26) rfl g6 #[.string ⟨#[]⟩, .slice none 0 0, .slice none 0 0] rfl rfl _ _ HA6.out (infoNd _ _ _) rfl zl_one ?_)
      exact bodyPost_ret (results_rowN rfl _ _ g6 _ #[.string ⟨#[]⟩, .slice none 0 0, .slice none 0 0] _ _ rfl (HA6.out.row _) Tryz.underlying28 rfl (infoNd _ _ _)) rfl ⟨_, _, by rw [HE.out]; rfl, by rw [HE.out]; exact nd0_at _ _, below_setRow HB6.out HG6.out _⟩
end Go.Proofs.YtfcclppgjfkfoaaGreatDoor
