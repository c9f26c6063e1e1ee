/- Bytes cut at slashes, at most seven times: what package strings' cut is, in layer 16's plain words. No condition: nothing of the program stands in it. -/
import Derived.Test.YtfcclppgjfkfoaaDoorMg3
import Derived.Lib.SplitLaws
import Derived.Lib.Split
import Derived.Lib.IndexBytes
import Derived.Lib.CountLaws
import Derived.Lib.SlicesS
import Derived.Lib.Join
import Derived.Test.YtfcclppgjfkfoaaDoorMg40
import Derived.Test.YtfcclppgjfkfoaaDoorShelf
namespace Go.Proofs.YtfcclppgjfkfoaaDoor

theorem cut47 : ∀ l : List UInt8, (Lib.indexByte l 47 = -1 ∧ splitS l = [l]) ∨ ∃ i : Nat, Lib.indexByte l 47 = i ∧ i < l.length ∧ splitS l = l.take i :: splitS (l.drop (i + 1))
  | [] => .inl ⟨rfl, rfl⟩
  | b :: l => by
    by_cases hb : b = 47
    · right
      refine ⟨0, ?_, Nat.succ_pos _, ?_⟩
      · unfold Lib.indexByte
        rw [if_pos (beq_iff_eq.2 hb)]; rfl
      · rw [splitS, if_pos hb]; rfl
    · have hn : ¬ (b == 47) = true := fun e => hb (beq_iff_eq.1 e)
      have hs : splitS (b :: l) = (b :: (splitS l).headD []) :: (splitS l).tail := by rw [splitS, if_neg hb]
      rcases cut47 l with ⟨h1, h2⟩ | ⟨i, h1, h2, h3⟩
      · left
        refine ⟨?_, by rw [hs, h2]; rfl⟩
        unfold Lib.indexByte
        rw [if_neg hn, h1]; rfl
      · right
        refine ⟨i + 1, ?_, Nat.succ_lt_succ h2, by rw [hs, h3]; rfl⟩
        unfold Lib.indexByte
        have hm : ¬ ((i : Int) == -1) = true := fun e => by have := beq_iff_eq.1 e; omega
        rw [if_neg hn, h1, if_neg hm]; rfl
theorem split_len47 : ∀ l : List UInt8, (splitS l).length ≤ l.length + 1
  | [] => Nat.le_refl _
  | b :: l => by
    have h := split_len47 l
    have hp : 0 < (splitS l).length := List.length_pos_iff.2 (split_ne l)
    rw [splitS]
    split
    · rw [List.length_cons, List.length_cons]; omega
    · rw [List.length_cons, List.length_tail, List.length_cons]; omega
theorem splitK_few : ∀ (k : Nat) (l : List UInt8), (Lib.splitK [47] 0 k l).length = min (k + 1) (splitS l).length ∧ ((splitS l).length ≤ k + 1 → Lib.splitK [47] 0 k l = splitS l)
  | 0, l => by
    have hp : 0 < (splitS l).length := List.length_pos_iff.2 (split_ne l)
    refine ⟨?_, fun h => ?_⟩
    · show 1 = _
      omega
    · rcases cut47 l with ⟨_, h2⟩ | ⟨i, _, _, h3⟩
      · rw [h2]; rfl
      · have hq : 0 < (splitS (l.drop (i + 1))).length := List.length_pos_iff.2 (split_ne _)
        rw [h3, List.length_cons] at h
        omega
  | k + 1, l => by
    rcases cut47 l with ⟨h1, h2⟩ | ⟨i, h1, h2, h3⟩
    · have e : Lib.splitK [47] 0 (k + 1) l = [l] := by
        unfold Lib.splitK
        rw [Lib.index_one, h1]; rfl
      rw [e, h2]
      refine ⟨?_, fun _ => rfl⟩
      show 1 = min (k + 1 + 1) 1
      omega
    · have hm : ¬ ((i : Int) == -1) = true := fun e => by have := beq_iff_eq.1 e; omega
      have e : Lib.splitK [47] 0 (k + 1) l = l.take i :: Lib.splitK [47] 0 k (l.drop (i + 1)) := by
        show (if Lib.index l [47] == -1 then _ else _) = _
        rw [Lib.index_one, h1, if_neg hm]; rfl
      obtain ⟨g1, g2⟩ := splitK_few k (l.drop (i + 1))
      rw [e, h3]
      refine ⟨?_, fun h => ?_⟩
      · rw [List.length_cons, List.length_cons, g1]; omega
      · rw [List.length_cons] at h
        rw [g2 (by omega)]
/-- The names that are cut off, and the rest. -/
def cut8 (r : List UInt8) : List (List UInt8) := Lib.splitK [47] 0 (min 8 (r.length + 1) - 1) r
theorem cut8_few {r : List UInt8} (h : (cut8 r).length ≤ 7) : cut8 r = splitS r := by
  obtain ⟨h1, h2⟩ := splitK_few (min 8 (r.length + 1) - 1) r
  have hl := split_len47 r
  unfold cut8 at h ⊢
  exact h2 (by omega)
theorem cut8_many {r : List UInt8} (h : 7 < (cut8 r).length) : nmOk (splitS r) = false := by
  obtain ⟨h1, h2⟩ := splitK_few (min 8 (r.length + 1) - 1) r
  unfold cut8 at h
  cases e : nmOk (splitS r) with
  | false => rfl
  | true => have := (nmOk_iff.1 e).1; omega
theorem cut8_len (r : List UInt8) : (cut8 r).length ≤ 8 ∧ (cut8 r).length ≤ min 8 (r.length + 1) := by
  obtain ⟨h1, _⟩ := splitK_few (min 8 (r.length + 1) - 1) r
  have hl := split_len47 r
  unfold cut8
  omega
/-- An empty name among them. -/
theorem cut8_bad {r : List UInt8} (h : (cut8 r).length ≤ 7) (hc : Lib.containsS (baL (cut8 r)) ⟨#[]⟩ = true) : nmOk (splitS r) = false := by
  cases e : nmOk (splitS r) with
  | false => rfl
  | true =>
    have h1 := (nmOk_iff.1 e).2
    rw [cut8_few h, Lib.containsS_iff] at hc
    obtain ⟨x, hx, he⟩ := List.mem_map.1 hc
    have : x = [] := by
      have := congrArg (fun z : ByteArray => z.data.toList) he
      simpa using this
    exact absurd this (h1 x hx)
theorem cut8_good {r : List UInt8} (h : (cut8 r).length ≤ 7) (hc : Lib.containsS (baL (cut8 r)) ⟨#[]⟩ = false) : nmOk (splitS r) = true := by
  rw [cut8_few h] at hc h
  refine nmOk_iff.2 ⟨h, fun x hx e => ?_⟩
  have : Lib.containsS (baL (splitS r)) ⟨#[]⟩ = true := (Lib.containsS_iff _ _).2 (List.mem_map.2 ⟨x, hx, by rw [e]⟩)
  rw [hc] at this
  cases this
theorem splitB_ba47 (k : Nat) (s : ByteArray) : Lib.splitB ⟨#[47]⟩ 0 k s = baL (Lib.splitK [47] 0 k s.data.toList) := by
  have h := Lib.splitB_data ⟨#[47]⟩ 0 k s
  have h2 : (ByteArray.mk #[47]).data.toList = [47] := rfl
  rw [h2] at h
  rw [← h]
  unfold baL
  rw [List.map_map]
  exact (List.map_id _).symm.trans (List.map_congr_left fun x _ => rfl)
theorem splitB_cut8 (s : ByteArray) : Lib.splitB ⟨#[47]⟩ 0 (min 8 (s.size + 1) - 1) s = baL (cut8 s.data.toList) := splitB_ba47 _ s
/-- Names joined by slashes, and one slash ahead. -/
theorem join47 (l : List ByteArray) : (47 :: Lib.join (l.map (·.data.toList)) [47]) = joinB l := by
  unfold joinB
  by_cases h : l = []
  · rw [if_pos h, h]; rfl
  · rw [if_neg h]
    cases l with
    | nil => exact absurd rfl h
    | cons x r =>
      rw [List.map_cons, Lib.join_cons, List.flatMap_cons]
      have e : Lib.joinTail [47] (r.map (·.data.toList)) = r.flatMap fun x => 47 :: x.data.toList := by
        unfold Lib.joinTail
        rw [List.map_map, List.flatMap_def]; rfl
      rw [e]; rfl
theorem joinB_len {b : Nat} : ∀ {l : List ByteArray}, (∀ k, k < l.length → (l.getD k ByteArray.empty).size ≤ b) → (l.flatMap fun x => 47 :: x.data.toList).length ≤ l.length * (b + 1)
  | [], _ => Nat.zero_le _
  | x :: r, h => by
    have h0 : x.data.toList.length ≤ b := h 0 (Nat.succ_pos _)
    have h1 := joinB_len (l := r) (b := b) fun k hk => h (k + 1) (Nat.succ_lt_succ hk)
    rw [List.flatMap_cons, List.length_append, List.length_cons, List.length_cons, Nat.succ_mul]
    omega
end Go.Proofs.YtfcclppgjfkfoaaDoor

/- What package path's Parts and Join return. Conditions: paths of at most 10^6 bytes; at most 1000 names of at most 10^6 bytes. -/
namespace Go.Proofs.YtfcclppgjfkfoaaDoor
open Go.RowKit

/-- strings.SplitN at a slash, eight pieces at most. -/
theorem gen47 (x : ByteArray) (w : World) (hs : x.size < 4294967281) :
    Calls Tryd.prog 70 #[.string x, .string ⟨#[47]⟩, .int .i64 0, .int .i64 8] w fun e w' =>
      e = .returned (.slice (some ⟨w.heap.size, 0, none⟩) (baL (cut8 x.data.toList)).length (min 8 (x.size + 1))) ∧ w' = w.alloc (.cells (Lib.cellsOf (baL (cut8 x.data.toList)) (min 8 (x.size + 1))) 9) := by
  have c := Any.strings_genSplit_core Tryd.lays221 (by kernel_rfl) x ⟨#[47]⟩ 0 8 (min 8 (x.size + 1)) w hs (by decide) (Nat.zero_le _)
    (fun y c _ => (Tryd.strings_Index_one y 47 _).mono fun e w' ⟨he, hw⟩ => ⟨by rw [he]; exact congrArg (fun z => Ending.returned (Value.int .i64 z)) (Lib.index_one _ _).symm, hw⟩)
    ((Tryd.strings_Count_one x 47 w).mono fun e w' ⟨he, hw⟩ => ⟨by rw [he]; exact congrArg (fun z : Nat => Ending.returned (Value.int .i64 z)) (Lib.count_one _ _).symm, hw⟩)
    (by decide) (by decide) (by rw [if_neg (by decide)]; omega)
  rw [splitB_cut8] at c
  exact c
theorem split47 (x : ByteArray) (w : World) (hs : x.size < 4294967281) :
    Calls Tryd.prog 59 #[.string x, .string ⟨#[47]⟩, .int .i64 8] w fun e w' =>
      e = .returned (.slice (some ⟨w.heap.size, 0, none⟩) (baL (cut8 x.data.toList)).length (min 8 (x.size + 1))) ∧ w' = w.alloc (.cells (Lib.cellsOf (baL (cut8 x.data.toList)) (min 8 (x.size + 1))) 9) := by
  have HC := Lib.hid (gen47 x w hs)
  generalize (baL (cut8 x.data.toList)).length = n at *
  generalize min 8 (x.size + 1) = m at *
  generalize Lib.cellsOf (baL (cut8 x.data.toList)) m = cs at *
  go_enter Tryd.func59, Tryd.ntmps59
  go_wp2_with fail
  refine HC.out.mono ?_
  rintro e w1 ⟨rfl, rfl⟩
  go_wp2
  go_ret
  exact ⟨rfl, rfl⟩
theorem rdT_cells (w : World) (t : TypeId) (l : List ByteArray) (N : Nat) : RdT (w.alloc (.cells (Lib.cellsOf l N) t)) (some ⟨w.heap.size, 0, none⟩) l := by
  have h := Arr.new w t (Lib.cellsOf l N)
  refine .inr ⟨_, 0, rfl, fun k hk => ?_⟩
  rw [h.cell, Nat.zero_add]
  unfold Lib.cellsOf
  rw [List.getElem?_toArray, List.getElem?_append_left (by rw [List.length_map]; exact hk), List.getElem?_map, List.getElem?_eq_getElem hk, List.getD_eq_getElem?_getD, List.getElem?_eq_getElem hk]
  rfl

set_option maxHeartbeats 1600000 in
set_option maxRecDepth 100000 in
theorem pparts_any : PartsOk := by
  intro p w hp
  obtain ⟨R, hR⟩ : ∃ R : Value → World → Prop, R = fun x w' => ∃ A cap, x = .tuple #[.slice A (baL (partsR p.data.toList).1).length cap, .bool (partsR p.data.toList).2] ∧ RdT w' A (baL (partsR p.data.toList).1) ∧ TxFar w.heap.size A (baL (partsR p.data.toList).1) ∧ Below w.heap.size w w' ∧ (baL (partsR p.data.toList).1).length ≤ cap := ⟨_, rfl⟩
  suffices H : Calls Tryd.prog 39 #[.string p] w fun e w' => ∃ x, e = .returned x ∧ R x w' by
    refine H.mono ?_
    rintro e w' ⟨x, rfl, hx⟩
    rw [hR] at hx
    obtain ⟨A, cap, rfl, h⟩ := hx
    exact ⟨A, cap, rfl, h⟩
  have HR := Lib.hid hR
  clear hR
  by_cases h47 : p = ⟨#[47]⟩
  · have d1 : (p.toList == [47]) = true := by rw [h47, ByteArray.toList_eq]; decide
    have HE : Hid (R (.tuple #[.slice none 0 0, .bool true]) w) := by
      unfold Hid
      rw [HR.out, h47, show (ByteArray.mk #[47]).data.toList = [47] from rfl, parts_root]
      exact ⟨none, 0, rfl, .inl rfl, .inl rfl, Below.refl _ _, Nat.le_refl _⟩
    clear h47 HR
    go_enter Tryd.func39, Tryd.ntmps39
    go_wp2
    go_ret2
    exact ⟨_, rfl, HE.out⟩
  have hl47 : p.data.toList ≠ [47] := fun e => h47 (ba_eq_list e)
  have d1 : (p.toList == [47]) = false := by rw [ByteArray.toList_eq]; simpa using hl47
  obtain ⟨x, hx⟩ : ∃ x : ByteArray, x = ⟨(Lib.trimPrefix p.data.toList [47]).toArray⟩ := ⟨_, rfl⟩
  have hc := Tryd.strings_CutPrefix p ⟨#[47]⟩ w
  rw [show (ByteArray.mk #[47]).data.toList = [47] from rfl, ← hx] at hc
  cases hb : Lib.hasPrefix p.data.toList [47] with
  | false =>
    have HE : Hid (R (.tuple #[.slice none 0 0, .bool false]) w) := by
      unfold Hid
      have hn : p.data.toList.head? ≠ some 47 := fun e => by
        cases hl : p.data.toList with
        | nil => rw [hl] at e; cases e
        | cons b l =>
          rw [hl] at e hb
          injection e with e
          subst e
          simp [Lib.hasPrefix, List.isPrefixOf] at hb
      rw [HR.out, parts_no hn]
      exact ⟨none, 0, rfl, .inl rfl, .inl rfl, Below.refl _ _, Nat.le_refl _⟩
    rw [hb] at hc
    have HC := Lib.hid hc
    clear h47 HR hl47 hx hc hb
    go_enter Tryd.func39, Tryd.ntmps39
    go_wp2_with fail
    refine HC.out.mono ?_
    rintro e w1 ⟨rfl, rfl⟩
    go_wp2
    go_ret2
    exact ⟨_, rfl, HE.out⟩
  | true =>
    have hhead : p.data.toList.head? = some 47 := by
      cases hl : p.data.toList with
      | nil => rw [hl] at hb; cases hb
      | cons b l =>
        rw [hl] at hb
        simp [Lib.hasPrefix, List.isPrefixOf] at hb
        rw [hb]; rfl
    have hxd : x.data.toList = p.data.toList.drop 1 := by
      rw [hx]
      unfold Lib.trimPrefix
      rw [if_pos hb]; rfl
    have hxs : x.size < 4294967281 := by
      have h1 : x.size = x.data.toList.length := rfl
      have h2 : p.size = p.data.toList.length := rfl
      rw [hxd, List.length_drop] at h1
      omega
    have hs := split47 x w hxs
    have HYES : Hid (nmOk (splitS x.data.toList) = true → partsR p.data.toList = (splitS x.data.toList, true)) := fun h => by rw [hxd] at h ⊢; exact parts_yes hl47 hhead h
    have HNO : Hid (nmOk (splitS x.data.toList) = false → ∀ w', Below w.heap.size w w' → R (.tuple #[.slice none 0 0, .bool false]) w') := fun h w' hb => by
      rw [hxd] at h
      rw [HR.out, parts_bad hl47 h]
      exact ⟨none, 0, rfl, .inl rfl, .inl rfl, hb, Nat.le_refl _⟩
    obtain ⟨W1, hW1⟩ : ∃ W1, W1 = w.alloc (.cells (Lib.cellsOf (baL (cut8 x.data.toList)) (min 8 (x.size + 1))) 9) := ⟨_, rfl⟩
    have hrd : RdT W1 (some ⟨w.heap.size, 0, none⟩) (baL (cut8 x.data.toList)) := by rw [hW1]; exact rdT_cells _ _ _ _
    have HB1 : Hid (Below w.heap.size w W1) := by unfold Hid; rw [hW1]; exact (Below.refl _ _).alloc (Nat.le_refl _) _
    have hln := baL_len (cut8 x.data.toList)
    have h8 := (cut8_len x.data.toList).1
    have h9 : (cut8 x.data.toList).length ≤ min 8 (x.size + 1) := (cut8_len x.data.toList).2
    rw [hb] at hc
    rw [← hW1] at hs
    have HC := Lib.hid hc
    have HS := Lib.hid hs
    by_cases h7 : 7 < (cut8 x.data.toList).length
    · have HE : Hid (R (.tuple #[.slice none 0 0, .bool false]) W1) := HNO.out (cut8_many h7) _ HB1.out
      have d2 : decide ((7 : Int) < ((baL (cut8 x.data.toList)).length : Int)) = true := decide_eq_true (by omega)
      generalize (baL (cut8 x.data.toList)).length = n at *
      generalize min 8 (x.size + 1) = m at *
      clear h47 HR hl47 hx hc hb hhead hxd hxs hs HYES HNO hW1 hrd hln h8 h9 h7
      go_enter Tryd.func39, Tryd.ntmps39
      go_wp2_with fail
      refine HC.out.mono ?_
      rintro e w1 ⟨rfl, rfl⟩
      go_wp2_with fail
      refine HS.out.mono ?_
      rintro e w1 ⟨rfl, rfl⟩
      go_wp2
      go_ret2
      exact ⟨_, rfl, HE.out⟩
    · have d2 : decide ((7 : Int) < ((baL (cut8 x.data.toList)).length : Int)) = false := decide_eq_false (by omega)
      have HCN : Hid (Calls Tryd.prog 60 #[.slice (some ⟨w.heap.size, 0, none⟩) (baL (cut8 x.data.toList)).length (min 8 (x.size + 1)), .string ⟨#[]⟩] W1 fun e w' => e = .returned (.bool (Lib.containsS (baL (cut8 x.data.toList)) ⟨#[]⟩)) ∧ w' = W1) := by
        rcases hrd with he | ⟨b, off, e, hcell⟩
        · exact absurd (congrArg List.length he) (by
            rw [baL_len]
            have := (splitK_few (min 8 (x.data.toList.length + 1) - 1) x.data.toList).1
            have hq : 0 < (splitS x.data.toList).length := List.length_pos_iff.2 (split_ne _)
            unfold cut8
            show ¬ _ = 0
            omega)
        · injection e with e
          injection e with e1 e2 _
          subst e1 e2
          have := Tryd.slices_Contains_string w.heap.size 0 (baL (cut8 x.data.toList)).length (min 8 (x.size + 1)) (baL (cut8 x.data.toList)) ⟨#[]⟩ W1 (Nat.le_refl _) (by omega) hcell
          rw [List.take_length] at this
          exact this
      have HRD := Lib.hid hrd
      cases hbo : Lib.containsS (baL (cut8 x.data.toList)) ⟨#[]⟩ with
      | true =>
        have HE : Hid (R (.tuple #[.slice none 0 0, .bool false]) W1) := HNO.out (cut8_bad (by omega) hbo) _ HB1.out
        rw [hbo] at HCN
        generalize (baL (cut8 x.data.toList)).length = n at *
        generalize min 8 (x.size + 1) = m at *
        clear h47 HR hl47 hx hc hb hhead hxd hxs hs HYES HNO hW1 hrd hln h8 h9 h7 hbo
        go_enter Tryd.func39, Tryd.ntmps39
        go_wp2_with fail
        refine HC.out.mono ?_
        rintro e w1 ⟨rfl, rfl⟩
        go_wp2_with fail
        refine HS.out.mono ?_
        rintro e w1 ⟨rfl, rfl⟩
        go_wp2_with fail
        refine HCN.out.mono ?_
        rintro e w1 ⟨rfl, rfl⟩
        go_wp2
        go_ret2
        exact ⟨_, rfl, HE.out⟩
      | false =>
        have HE : Hid (R (.tuple #[.slice (some ⟨w.heap.size, 0, none⟩) (baL (cut8 x.data.toList)).length (min 8 (x.size + 1)), .bool true]) W1) := by
          unfold Hid
          have hy := HYES.out (cut8_good (by omega) hbo)
          rw [← cut8_few (by omega)] at hy
          rw [HR.out, hy]
          exact ⟨_, _, rfl, HRD.out, .inr ⟨_, _, rfl, Nat.le_refl _⟩, HB1.out, by show (baL (cut8 x.data.toList)).length ≤ _; omega⟩
        rw [hbo] at HCN
        generalize (baL (cut8 x.data.toList)).length = n at *
        generalize min 8 (x.size + 1) = m at *
        clear h47 HR hl47 hx hc hb hhead hxd hxs hs HYES HNO hW1 hrd hln h8 h9 h7 hbo HRD
        go_enter Tryd.func39, Tryd.ntmps39
        go_wp2_with fail
        refine HC.out.mono ?_
        rintro e w1 ⟨rfl, rfl⟩
        go_wp2_with fail
        refine HS.out.mono ?_
        rintro e w1 ⟨rfl, rfl⟩
        go_wp2_with fail
        refine HCN.out.mono ?_
        rintro e w1 ⟨rfl, rfl⟩
        go_wp2
        go_ret2
        exact ⟨_, rfl, HE.out⟩

set_option maxHeartbeats 1600000 in
set_option maxRecDepth 100000 in
theorem join_any (A : Option Addr) (cap : Nat) (l : List ByteArray) (w : World) (hr : RdT w A l) (hc : l.length ≤ cap) (hl : l.length ≤ 1000) (hz : ∀ k, k < l.length → (l.getD k ByteArray.empty).size ≤ 1000000) :
    Calls Tryd.prog 40 #[.slice A l.length cap] w fun e w' => e = .returned (.string ⟨(joinB l).toArray⟩) ∧ Below w.heap.size w w' := by
  have hj := join47 l
  have hlen : (Lib.join (l.map (·.data.toList)) [47]).length ≤ 1000 * 1000001 := by
    by_cases h0 : l = []
    · rw [h0]; exact Nat.zero_le _
    · have h1 := joinB_len hz
      have h2 : joinB l = l.flatMap fun x => 47 :: x.data.toList := if_neg h0
      have h3 : (joinB l).length = (Lib.join (l.map (·.data.toList)) [47]).length + 1 := by rw [← hj]; rfl
      rw [← h2] at h1
      have h4 : l.length * (1000000 + 1) ≤ 1000 * 1000001 := Nat.mul_le_mul_right _ hl
      omega
  obtain ⟨x, hx⟩ : ∃ x : ByteArray, x = ⟨(Lib.join (l.map (·.data.toList)) [47]).toArray⟩ := ⟨_, rfl⟩
  obtain ⟨y, hy⟩ : ∃ y : ByteArray, y = ⟨(joinB l).toArray⟩ := ⟨_, rfl⟩
  have HJ : Hid (Calls Tryd.prog 61 #[.slice A l.length cap, .string ⟨#[47]⟩] w fun e w' => e = .returned (.string x) ∧ Below w.heap.size w w') := by
    rcases hr with rfl | ⟨b, off, rfl, hcell⟩
    · refine (Tryd.strings_Join_none A cap ⟨#[47]⟩ w).mono ?_
      rintro e w' ⟨rfl, rfl⟩
      exact ⟨by rw [hx]; rfl, Below.refl _ _⟩
    · rw [hx]
      by_cases h0 : l.length = 0
      · have := List.length_eq_zero_iff.1 h0
        subst this
        refine (Tryd.strings_Join_none _ cap ⟨#[47]⟩ w).mono ?_
        rintro e w' ⟨rfl, rfl⟩
        exact ⟨rfl, Below.refl _ _⟩
      · exact Tryd.strings_Join b off cap l ⟨#[47]⟩ w (fun j x h => by
          have hj : j < l.length := by
            rcases Nat.lt_or_ge j l.length with h' | h'
            · exact h'
            · rw [List.getElem?_eq_none h'] at h; cases h
          rw [hcell j hj, List.getD_eq_getElem?_getD, h]; rfl) (World.block_lt_of_cell? _ _ (hcell 0 (by omega))) (by omega) hc (by
            show (Lib.join (l.map (·.data.toList)) [47]).length ≤ _
            omega)
  have hxs : x.size ≤ 1000 * 1000001 := by
    have : x.size = (Lib.join (l.map (·.data.toList)) [47]).length := by rw [hx]; exact List.size_toArray
    omega
  have hyd : y.data.toList = (⟨#[47]⟩ : ByteArray).data.toList ++ x.data.toList := by rw [hy, hx, ← hj]; rfl
  have a1 : ∀ W, (Op.stringOp .add ⟨#[47]⟩ x).run Tryd.prog W = .ok (.string y) W := fun W => add_str hyd (by show 1 + x.size ≤ _; omega) W
  rw [← hy]
  clear hr hc hl hz hj hlen hx hy hyd hxs
  go_enter Tryd.func40, Tryd.ntmps40
  go_wp2_with fail
  refine HJ.out.mono ?_
  rintro e w1 ⟨rfl, hb⟩
  go_wp2
  go_ret
  exact ⟨rfl, hb⟩
end Go.Proofs.YtfcclppgjfkfoaaDoor
