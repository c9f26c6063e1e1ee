/- What package path's Parts and Join return. Conditions: paths of at most 10^6 bytes; at most 1000 names of at most 10^6 bytes. -/
import Derived.Test.YtjphecfkjpfkeaaDoorMg38
import Derived.Test.YtjphecfkjpfkeaaDoorPtS
import Derived.Test.YtjphecfkjpfkeaaDoorShelf
namespace Go.Proofs.YtjphecfkjpfkeaaDoor
open Go.RowKit

/-- strings.SplitN at a slash, eight pieces at most. -/
theorem gen47 (x : ByteArray) (w : World) (hs : x.size < 4294967281) :
    Calls Tryd.prog 41 #[.string x, .string ⟨#[47]⟩, .int .i64 0, .int .i64 8] w fun e w' =>
      e = .returned (.slice (some ⟨w.heap.size, 0, none⟩) (baL (cut8 x.data.toList)).length (min 8 (x.size + 1))) ∧ w' = w.alloc (.cells (Lib.cellsOf (baL (cut8 x.data.toList)) (min 8 (x.size + 1))) 9) := by
  have c := Any.strings_genSplit_core Tryd.lays221 (by kernel_rfl) x ⟨#[47]⟩ 0 8 (min 8 (x.size + 1)) w hs (by decide) (Nat.zero_le _)
    (fun y c _ => (Tryd.strings_Index_one y 47 _).mono fun e w' ⟨he, hw⟩ => ⟨by rw [he]; exact congrArg (fun z => Ending.returned (Value.int .i64 z)) (Lib.index_one _ _).symm, hw⟩)
    ((Tryd.strings_Count_one x 47 w).mono fun e w' ⟨he, hw⟩ => ⟨by rw [he]; exact congrArg (fun z : Nat => Ending.returned (Value.int .i64 z)) (Lib.count_one _ _).symm, hw⟩)
    (by decide) (by decide) (by rw [if_neg (by decide)]; omega)
  rw [splitB_cut8] at c
  exact c
theorem split47 (x : ByteArray) (w : World) (hs : x.size < 4294967281) :
    Calls Tryd.prog 27 #[.string x, .string ⟨#[47]⟩, .int .i64 8] w fun e w' =>
      e = .returned (.slice (some ⟨w.heap.size, 0, none⟩) (baL (cut8 x.data.toList)).length (min 8 (x.size + 1))) ∧ w' = w.alloc (.cells (Lib.cellsOf (baL (cut8 x.data.toList)) (min 8 (x.size + 1))) 9) := by
  have HC := Lib.hid (gen47 x w hs)
  generalize (baL (cut8 x.data.toList)).length = n at *
  generalize min 8 (x.size + 1) = m at *
  generalize Lib.cellsOf (baL (cut8 x.data.toList)) m = cs at *
  go_enter Tryd.func27, Tryd.ntmps27
  go_wp2_with fail
  refine HC.out.mono ?_
  rintro e w1 ⟨rfl, rfl⟩
  go_wp2
  go_ret
  exact ⟨rfl, rfl⟩
theorem rdT_cells (w : World) (t : TypeId) (l : List ByteArray) (N : Nat) : RdT (w.alloc (.cells (Lib.cellsOf l N) t)) (some ⟨w.heap.size, 0, none⟩) l := by
  have h := Arr.new w t (Lib.cellsOf l N)
  refine .inr ⟨_, 0, rfl, fun k hk => ?_⟩
  rw [h.cell, Nat.zero_add]
  unfold Lib.cellsOf
  rw [List.getElem?_toArray, List.getElem?_append_left (by rw [List.length_map]; exact hk), List.getElem?_map, List.getElem?_eq_getElem hk, List.getD_eq_getElem?_getD, List.getElem?_eq_getElem hk]
  rfl

set_option maxHeartbeats 1600000 in
set_option maxRecDepth 100000 in
theorem parts_any : PartsOk := by
  intro p w hp
  obtain ⟨R, hR⟩ : ∃ R : Value → World → Prop, R = fun x w' => ∃ A cap, x = .tuple #[.slice A (baL (partsR p.data.toList).1).length cap, .bool (partsR p.data.toList).2] ∧ RdT w' A (baL (partsR p.data.toList).1) ∧ TxFar w.heap.size A (baL (partsR p.data.toList).1) ∧ Below w.heap.size w w' ∧ (baL (partsR p.data.toList).1).length ≤ cap := ⟨_, rfl⟩
  suffices H : Calls Tryd.prog 8 #[.string p] w fun e w' => ∃ x, e = .returned x ∧ R x w' by
    refine H.mono ?_
    rintro e w' ⟨x, rfl, hx⟩
    rw [hR] at hx
    obtain ⟨A, cap, rfl, h⟩ := hx
    exact ⟨A, cap, rfl, h⟩
  have HR := Lib.hid hR
  clear hR
  by_cases h47 : p = ⟨#[47]⟩
  · have d1 : (p.toList == [47]) = true := by rw [h47, ByteArray.toList_eq]; decide
    have HE : Hid (R (.tuple #[.slice none 0 0, .bool true]) w) := by
      unfold Hid
      rw [HR.out, h47, show (ByteArray.mk #[47]).data.toList = [47] from rfl, parts_root]
      exact ⟨none, 0, rfl, .inl rfl, .inl rfl, Below.refl _ _, Nat.le_refl _⟩
    clear h47 HR
    go_enter Tryd.func8, Tryd.ntmps8
    go_wp2
    go_ret2
    exact ⟨_, rfl, HE.out⟩
  have hl47 : p.data.toList ≠ [47] := fun e => h47 (ba_eq_list e)
  have d1 : (p.toList == [47]) = false := by rw [ByteArray.toList_eq]; simpa using hl47
  obtain ⟨x, hx⟩ : ∃ x : ByteArray, x = ⟨(Lib.trimPrefix p.data.toList [47]).toArray⟩ := ⟨_, rfl⟩
  have hc := Tryd.strings_CutPrefix p ⟨#[47]⟩ w
  rw [show (ByteArray.mk #[47]).data.toList = [47] from rfl, ← hx] at hc
  cases hb : Lib.hasPrefix p.data.toList [47] with
  | false =>
    have HE : Hid (R (.tuple #[.slice none 0 0, .bool false]) w) := by
      unfold Hid
      have hn : p.data.toList.head? ≠ some 47 := fun e => by
        cases hl : p.data.toList with
        | nil => rw [hl] at e; cases e
        | cons b l =>
          rw [hl] at e hb
          injection e with e
          subst e
          simp [Lib.hasPrefix, List.isPrefixOf] at hb
      rw [HR.out, parts_no hn]
      exact ⟨none, 0, rfl, .inl rfl, .inl rfl, Below.refl _ _, Nat.le_refl _⟩
    rw [hb] at hc
    have HC := Lib.hid hc
    clear h47 HR hl47 hx hc hb
    go_enter Tryd.func8, Tryd.ntmps8
    go_wp2_with fail
    refine HC.out.mono ?_
    rintro e w1 ⟨rfl, rfl⟩
    go_wp2
    go_ret2
    exact ⟨_, rfl, HE.out⟩
  | true =>
    have hhead : p.data.toList.head? = some 47 := by
      cases hl : p.data.toList with
      | nil => rw [hl] at hb; cases hb
      | cons b l =>
        rw [hl] at hb
        simp [Lib.hasPrefix, List.isPrefixOf] at hb
        rw [hb]; rfl
    have hxd : x.data.toList = p.data.toList.drop 1 := by
      rw [hx]
      unfold Lib.trimPrefix
      rw [if_pos hb]; rfl
    have hxs : x.size < 4294967281 := by
      have h1 : x.size = x.data.toList.length := rfl
      have h2 : p.size = p.data.toList.length := rfl
      rw [hxd, List.length_drop] at h1
      omega
    have hs := split47 x w hxs
    have HYES : Hid (nmOk (splitS x.data.toList) = true → partsR p.data.toList = (splitS x.data.toList, true)) := fun h => by rw [hxd] at h ⊢; exact parts_yes hl47 hhead h
    have HNO : Hid (nmOk (splitS x.data.toList) = false → ∀ w', Below w.heap.size w w' → R (.tuple #[.slice none 0 0, .bool false]) w') := fun h w' hb => by
      rw [hxd] at h
      rw [HR.out, parts_bad hl47 h]
      exact ⟨none, 0, rfl, .inl rfl, .inl rfl, hb, Nat.le_refl _⟩
    obtain ⟨W1, hW1⟩ : ∃ W1, W1 = w.alloc (.cells (Lib.cellsOf (baL (cut8 x.data.toList)) (min 8 (x.size + 1))) 9) := ⟨_, rfl⟩
    have hrd : RdT W1 (some ⟨w.heap.size, 0, none⟩) (baL (cut8 x.data.toList)) := by rw [hW1]; exact rdT_cells _ _ _ _
    have HB1 : Hid (Below w.heap.size w W1) := by unfold Hid; rw [hW1]; exact (Below.refl _ _).alloc (Nat.le_refl _) _
    have hln := baL_len (cut8 x.data.toList)
    have h8 := (cut8_len x.data.toList).1
    have h9 : (cut8 x.data.toList).length ≤ min 8 (x.size + 1) := (cut8_len x.data.toList).2
    rw [hb] at hc
    rw [← hW1] at hs
    have HC := Lib.hid hc
    have HS := Lib.hid hs
    by_cases h7 : 7 < (cut8 x.data.toList).length
    · have HE : Hid (R (.tuple #[.slice none 0 0, .bool false]) W1) := HNO.out (cut8_many h7) _ HB1.out
      have d2 : decide ((7 : Int) < ((baL (cut8 x.data.toList)).length : Int)) = true := decide_eq_true (by omega)
      generalize (baL (cut8 x.data.toList)).length = n at *
      generalize min 8 (x.size + 1) = m at *
      clear h47 HR hl47 hx hc hb hhead hxd hxs hs HYES HNO hW1 hrd hln h8 h9 h7
      go_enter Tryd.func8, Tryd.ntmps8
      go_wp2_with fail
      refine HC.out.mono ?_
      rintro e w1 ⟨rfl, rfl⟩
      go_wp2_with fail
      refine HS.out.mono ?_
      rintro e w1 ⟨rfl, rfl⟩
      go_wp2
      go_ret2
      exact ⟨_, rfl, HE.out⟩
    · have d2 : decide ((7 : Int) < ((baL (cut8 x.data.toList)).length : Int)) = false := decide_eq_false (by omega)
      have HCN : Hid (Calls Tryd.prog 28 #[.slice (some ⟨w.heap.size, 0, none⟩) (baL (cut8 x.data.toList)).length (min 8 (x.size + 1)), .string ⟨#[]⟩] W1 fun e w' => e = .returned (.bool (Lib.containsS (baL (cut8 x.data.toList)) ⟨#[]⟩)) ∧ w' = W1) := by
        rcases hrd with he | ⟨b, off, e, hcell⟩
        · exact absurd (congrArg List.length he) (by
            rw [baL_len]
            have := (splitK_few (min 8 (x.data.toList.length + 1) - 1) x.data.toList).1
            have hq : 0 < (splitS x.data.toList).length := List.length_pos_iff.2 (split_ne _)
            unfold cut8
            show ¬ _ = 0
            omega)
        · injection e with e
          injection e with e1 e2 _
          subst e1 e2
          have := Tryd.slices_Contains_string w.heap.size 0 (baL (cut8 x.data.toList)).length (min 8 (x.size + 1)) (baL (cut8 x.data.toList)) ⟨#[]⟩ W1 (Nat.le_refl _) (by omega) hcell
          rw [List.take_length] at this
          exact this
      have HRD := Lib.hid hrd
      cases hbo : Lib.containsS (baL (cut8 x.data.toList)) ⟨#[]⟩ with
      | true =>
        have HE : Hid (R (.tuple #[.slice none 0 0, .bool false]) W1) := HNO.out (cut8_bad (by omega) hbo) _ HB1.out
        rw [hbo] at HCN
        generalize (baL (cut8 x.data.toList)).length = n at *
        generalize min 8 (x.size + 1) = m at *
        clear h47 HR hl47 hx hc hb hhead hxd hxs hs HYES HNO hW1 hrd hln h8 h9 h7 hbo
        go_enter Tryd.func8, Tryd.ntmps8
        go_wp2_with fail
        refine HC.out.mono ?_
        rintro e w1 ⟨rfl, rfl⟩
        go_wp2_with fail
        refine HS.out.mono ?_
        rintro e w1 ⟨rfl, rfl⟩
        go_wp2_with fail
        refine HCN.out.mono ?_
        rintro e w1 ⟨rfl, rfl⟩
        go_wp2
        go_ret2
        exact ⟨_, rfl, HE.out⟩
      | false =>
        have HE : Hid (R (.tuple #[.slice (some ⟨w.heap.size, 0, none⟩) (baL (cut8 x.data.toList)).length (min 8 (x.size + 1)), .bool true]) W1) := by
          unfold Hid
          have hy := HYES.out (cut8_good (by omega) hbo)
          rw [← cut8_few (by omega)] at hy
          rw [HR.out, hy]
          exact ⟨_, _, rfl, HRD.out, .inr ⟨_, _, rfl, Nat.le_refl _⟩, HB1.out, by show (baL (cut8 x.data.toList)).length ≤ _; omega⟩
        rw [hbo] at HCN
        generalize (baL (cut8 x.data.toList)).length = n at *
        generalize min 8 (x.size + 1) = m at *
        clear h47 HR hl47 hx hc hb hhead hxd hxs hs HYES HNO hW1 hrd hln h8 h9 h7 hbo HRD
        go_enter Tryd.func8, Tryd.ntmps8
        go_wp2_with fail
        refine HC.out.mono ?_
        rintro e w1 ⟨rfl, rfl⟩
        go_wp2_with fail
        refine HS.out.mono ?_
        rintro e w1 ⟨rfl, rfl⟩
        go_wp2_with fail
        refine HCN.out.mono ?_
        rintro e w1 ⟨rfl, rfl⟩
        go_wp2
        go_ret2
        exact ⟨_, rfl, HE.out⟩

set_option maxHeartbeats 1600000 in
set_option maxRecDepth 100000 in
theorem join_any (A : Option Addr) (cap : Nat) (l : List ByteArray) (w : World) (hr : RdT w A l) (hc : l.length ≤ cap) (hl : l.length ≤ 1000) (hz : ∀ k, k < l.length → (l.getD k ByteArray.empty).size ≤ 1000000) :
    Calls Tryd.prog 11 #[.slice A l.length cap] w fun e w' => e = .returned (.string ⟨(joinB l).toArray⟩) ∧ Below w.heap.size w w' := by
  have hj := join47 l
  have hlen : (Lib.join (l.map (·.data.toList)) [47]).length ≤ 1000 * 1000001 := by
    by_cases h0 : l = []
    · rw [h0]; exact Nat.zero_le _
    · have h1 := joinB_len hz
      have h2 : joinB l = l.flatMap fun x => 47 :: x.data.toList := if_neg h0
      have h3 : (joinB l).length = (Lib.join (l.map (·.data.toList)) [47]).length + 1 := by rw [← hj]; rfl
      rw [← h2] at h1
      have h4 : l.length * (1000000 + 1) ≤ 1000 * 1000001 := Nat.mul_le_mul_right _ hl
      omega
  obtain ⟨x, hx⟩ : ∃ x : ByteArray, x = ⟨(Lib.join (l.map (·.data.toList)) [47]).toArray⟩ := ⟨_, rfl⟩
  obtain ⟨y, hy⟩ : ∃ y : ByteArray, y = ⟨(joinB l).toArray⟩ := ⟨_, rfl⟩
  have HJ : Hid (Calls Tryd.prog 29 #[.slice A l.length cap, .string ⟨#[47]⟩] w fun e w' => e = .returned (.string x) ∧ Below w.heap.size w w') := by
    rcases hr with rfl | ⟨b, off, rfl, hcell⟩
    · refine (Tryd.strings_Join_none A cap ⟨#[47]⟩ w).mono ?_
      rintro e w' ⟨rfl, rfl⟩
      exact ⟨by rw [hx]; rfl, Below.refl _ _⟩
    · rw [hx]
      by_cases h0 : l.length = 0
      · have := List.length_eq_zero_iff.1 h0
        subst this
        refine (Tryd.strings_Join_none _ cap ⟨#[47]⟩ w).mono ?_
        rintro e w' ⟨rfl, rfl⟩
        exact ⟨rfl, Below.refl _ _⟩
      · exact Tryd.strings_Join b off cap l ⟨#[47]⟩ w (fun j x h => by
          have hj : j < l.length := by
            rcases Nat.lt_or_ge j l.length with h' | h'
            · exact h'
            · rw [List.getElem?_eq_none h'] at h; cases h
          rw [hcell j hj, List.getD_eq_getElem?_getD, h]; rfl) (World.block_lt_of_cell? _ _ (hcell 0 (by omega))) (by omega) hc (by
            show (Lib.join (l.map (·.data.toList)) [47]).length ≤ _
            omega)
  have hxs : x.size ≤ 1000 * 1000001 := by
    have : x.size = (Lib.join (l.map (·.data.toList)) [47]).length := by rw [hx]; exact List.size_toArray
    omega
  have hyd : y.data.toList = (⟨#[47]⟩ : ByteArray).data.toList ++ x.data.toList := by rw [hy, hx, ← hj]; rfl
  have a1 : ∀ W, (Op.stringOp .add ⟨#[47]⟩ x).run Tryd.prog W = .ok (.string y) W := fun W => add_str hyd (by show 1 + x.size ≤ _; omega) W
  rw [← hy]
  clear hr hc hl hz hj hlen hx hy hyd hxs
  go_enter Tryd.func11, Tryd.ntmps11
  go_wp2_with fail
  refine HJ.out.mono ?_
  rintro e w1 ⟨rfl, hb⟩
  go_wp2
  go_ret
  exact ⟨rfl, hb⟩
end Go.Proofs.YtjphecfkjpfkeaaDoor
