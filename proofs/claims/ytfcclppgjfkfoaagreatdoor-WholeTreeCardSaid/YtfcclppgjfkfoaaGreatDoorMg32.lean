/- The functions that edit's Set and Add pass down. Conditions: a node of one's own of at most 10^6 properties and kids; names of at most 10^6 bytes. -/
import Derived.Test.YtfcclppgjfkfoaaGreatDoorMg31
import Derived.Test.YtfcclppgjfkfoaaGreatDoorMg6
import Derived.Test.YtfcclppgjfkfoaaGreatDoorShelf
namespace Go.Proofs.YtfcclppgjfkfoaaGreatDoor
open Go.RowKit

theorem idx_mem (c : UInt8) : ∀ l : List UInt8, decide (0 ≤ Lib.indexByte l c) = decide (c ∈ l)
  | [] => rfl
  | x :: r => by
    have ih := idx_mem c r
    unfold Lib.indexByte
    by_cases h : x = c
    · subst h; simp
    · have h' : ¬ c = x := fun e => h e.symm
      have e1 : decide (c ∈ x :: r) = decide (c ∈ r) := by simp [h']
      rw [e1, ← ih]
      rw [if_neg (by simpa using h)]
      have hge := Lib.indexByte_ge r c
      by_cases h0 : Lib.indexByte r c = -1
      · rw [if_pos (by rw [h0]; rfl), h0]
      · rw [if_neg (by simpa using h0), decide_eq_true (show (0 : Int) ≤ Lib.indexByte r c + 1 by omega), decide_eq_true (show (0 : Int) ≤ Lib.indexByte r c by omega)]
theorem prL_set (l : List PR) (k : Nat) (v : ByteArray) (hk : k < l.length) : (prL l).set (k * 2 + 1) (.string v) = prL (l.set k ⟨(l.getD k pr0).nm, v⟩) := by
  induction l generalizing k with
  | nil => simp at hk
  | cons x l ih =>
    match k, hk with
    | 0, _ => rfl
    | k + 1, hk =>
      have h := ih k (by simpa using hk)
      show (prl x ++ prL l).set ((k + 1) * 2 + 1) (.string v) = prl x ++ prL (l.set k ⟨(l.getD k pr0).nm, v⟩)
      rw [← h, List.set_append_right _ _ (by show 2 ≤ _; omega)]
      rw [show (k + 1) * 2 + 1 - (prl x).length = k * 2 + 1 by show (k + 1) * 2 + 1 - 2 = _; omega]

set_option maxHeartbeats 3200000 in
set_option maxRecDepth 100000 in
theorem set_ok (w0 : World) (bn bv : Nat) (nm vl : ByteArray) (h1 : Arr w0 bn 9 #[.string nm]) (h2 : Arr w0 bv 9 #[.string vl]) (hs : nm.size ≤ maxLen) :
    ChangeOk w0 (.func (.func 43) #[] #[.pointer (some ⟨bn, 0, none⟩), .pointer (some ⟨bv, 0, none⟩)]) ⟨1, nm, vl⟩ := by
  refine ⟨_, _, rfl, Tryz.call43, fun w b o cur lo hi n p q hb hA hl1 _ => ?_⟩
  obtain ⟨A, K, pc, kc, rfl, rfl, _, _, _, _, _, _⟩ := at_shape hA
  have hn1 := h1.below hb h1.lt
  have hn2 := h2.below hb h2.lt
  have cn : w.cell? ⟨bn, 0, none⟩ = some (.string nm) := hn1.cell 0
  have HAL := Lib.hid (allowed_any nm w hs)
  have HA := Lib.hid hA
  have HN1 := Lib.hid hn1
  have HN2 := Lib.hid hn2
  have HH : Hid (hereR n ⟨1, nm, vl⟩ = if mayB nm = true then (.mk n.nm (propsR ⟨1, nm, vl⟩ n.ps).1 n.ks, 0) else (nd0, 1)) := by
    unfold Hid hereR
    rw [if_pos rfl]
  generalize mayB nm = may at *
  clear hA hn1 hn2 h1 h2 hb hs
  cases may with
  | false =>
    replace HH : Hid (hereR n ⟨1, nm, vl⟩ = (nd0, 1)) := HH.out
    go_enter Tryz.func43, Tryz.ntmps43
    go_wp2_with fail
    refine HAL.out.mono ?_
    rintro e w1 ⟨rfl, hb1⟩
    have HF : Hid (Post17 w w1 b o cur lo hi (nd0, 1)) := post_no HA.out hb1 (by decide)
    clear hb1 HAL cn
    go_wp2
    go_ret
    exact ⟨by rw [HH.out]; rfl, by rw [HH.out]; exact HF.out⟩
  | true =>
    replace HH : Hid (hereR n ⟨1, nm, vl⟩ = (.mk n.nm (propsR ⟨1, nm, vl⟩ n.ps).1 n.ks, 0)) := HH.out
    go_enter Tryz.func43, Tryz.ntmps43
    go_wp2_with fail
    refine HAL.out.mono ?_
    rintro e w1 ⟨rfl, hb1⟩
    have HA1 := Lib.hid (HA.out.below hb1)
    have HN1 := Lib.hid (HN1.out.below hb1 HN1.out.lt)
    have HN2 := Lib.hid (HN2.out.below hb1 HN2.out.lt)
    have cn1 : w1.cell? ⟨bn, 0, none⟩ = some (.string nm) := HN1.out.cell 0
    have c1 : w1.cell? ⟨b, o + 1, none⟩ = some (.slice A n.ps.length pc) := by rw [HA1.out.arr.cell]; exact HA1.out.c1
    have HPC := Lib.hid (property_any _ A pc n.ps b o nm w1 (nd_props (sole_nd HA1.out.sole)).1 (by omega) c1)
    have HB1 := Lib.hid hb1
    clear HAL cn hb1 c1
    go_wp2_with fail
    refine HPC.out.mono ?_
    rintro e w2 ⟨⟨r, rfl, hr⟩, hb2⟩
    have HA2 := Lib.hid (HA1.out.below hb2)
    have HN1 := Lib.hid (HN1.out.below hb2 HN1.out.lt)
    have HN2 := Lib.hid (HN2.out.below hb2 HN2.out.lt)
    have HB2 := Lib.hid (HB1.out.trans (hb2.mono HB1.out.size))
    clear HA HA1 HB1 hb2 HPC cn1
    rcases hr with ⟨rfl, hno⟩ | ⟨k, rfl, hk, hy, hlt⟩
    · have HE : Hid (hereR n ⟨1, nm, vl⟩ = (.mk n.nm (n.ps ++ [⟨nm, vl⟩]) n.ks, 0)) := by
        unfold Hid
        rw [HH.out, props_miss (c := ⟨1, nm, vl⟩) hno]; rfl
      have HEL := Lib.hid elemProp
      have hba : Below w2.heap.size w2 (w2.alloc (.cells #[.string nm, .string vl] 92)).drew := ((Below.refl _ _).alloc (Nat.le_refl _) _).drew
      have HAA := Lib.hid (HA2.out.below hba)
      have HN1A := Lib.hid (HN1.out.below hba HN1.out.lt)
      have HN2A := Lib.hid (HN2.out.below hba HN2.out.lt)
      have HBA := Lib.hid (HB2.out.trans (hba.mono HB2.out.size))
      have HNEW : Hid (Arr (w2.alloc (.cells #[.string nm, .string vl] 92)).drew w2.heap.size 92 #[.string nm, .string vl]) := Arr.new w2 _ _
      have HROW : Hid ((w2.alloc (.cells #[.string nm, .string vl] 92)).drew.ownsRow 0 92 2 (.slice A n.ps.length pc) n.ps.length (prL n.ps)) := ow_base (at_props HAA.out).1 (fun _ _ => Nat.zero_le _)
      have HPO : Hid (∀ u ∈ (#[.string nm, .string vl] : Array Value).toList, u.oneCell' = true) := fun u hu => by
        simp at hu
        rcases hu with rfl | rfl <;> rfl
      have p1 : w2.cell? ⟨b, o + 1, none⟩ = some (.slice A n.ps.length pc) := by rw [HA2.out.arr.cell]; exact HA2.out.c1
      have pA : (w2.alloc (.cells #[.string nm, .string vl] 92)).drew.cell? ⟨b, o + 1, none⟩ = some (.slice A n.ps.length pc) := by rw [HAA.out.arr.cell]; exact HAA.out.c1
      have hbn : b ≠ bn := fun e => by
        have h1 := HA2.out.arr
        have h2 := HN1.out
        rw [← e] at h2
        have h3 : (some (Obj.cells cur 28 (0, 0)) : Option Obj) = some (Obj.cells #[.string nm] 9 (0, 0)) := h1.symm.trans h2
        injection h3 with h3
        injection h3 with _ h3 _
        exact absurd h3 (by decide)
      have hbv : b ≠ bv := fun e => by
        have h1 := HA2.out.arr
        have h2 := HN2.out
        rw [← e] at h2
        have h3 : (some (Obj.cells cur 28 (0, 0)) : Option Obj) = some (Obj.cells #[.string vl] 9 (0, 0)) := h1.symm.trans h2
        injection h3 with h3
        injection h3 with _ h3 _
        exact absurd h3 (by decide)
      have HS0 : Hid (w2.drew.cell? ⟨bn, 0, none⟩ = some (.string nm) ∧ w2.drew.cell? ⟨bv, 0, none⟩ = some (.string vl)) := ⟨HN1.out.cell 0, HN2.out.cell 0⟩
      have HSA : Hid ((w2.alloc (.cells #[.string nm, .string vl] 92)).drew.cell? ⟨bn, 0, none⟩ = some (.string nm) ∧ (w2.alloc (.cells #[.string nm, .string vl] 92)).drew.cell? ⟨bv, 0, none⟩ = some (.string vl)) := ⟨HN1A.out.cell 0, HN2A.out.cell 0⟩
      have HS7 : Hid (∀ (w' : World) v, (w'.cell? ⟨bn, 0, none⟩ = some (.string nm) ∧ w'.cell? ⟨bv, 0, none⟩ = some (.string vl)) → ((w'.setCell ⟨b, o + 1, none⟩ v).cell? ⟨bn, 0, none⟩ = some (.string nm) ∧ (w'.setCell ⟨b, o + 1, none⟩ v).cell? ⟨bv, 0, none⟩ = some (.string vl))) := fun w' v ⟨e1, e2⟩ => ⟨(World.cell?_setCell_far _ _ _ _ hbn).trans e1, (World.cell?_setCell_far _ _ _ _ hbv).trans e2⟩
      have HF5 : Hid (∀ g5 cap5 w5, w5.ownsRow 0 92 2 (.slice (some ⟨g5, 0, none⟩) (n.ps.length + 1) cap5) (n.ps.length + 1) (prL n.ps ++ (#[.string nm, .string vl] : Array Value).toList) → (w2.alloc (.cells #[.string nm, .string vl] 92)).drew.grownBy w5 (Value.ownBlock (.slice A n.ps.length pc)) → (Value.ownBlock (.slice A n.ps.length pc) = some g5 ∨ g5 = (w2.alloc (.cells #[.string nm, .string vl] 92)).drew.heap.size) →
          (w5.cell? ⟨bn, 0, none⟩ = some (.string nm) ∧ w5.cell? ⟨bv, 0, none⟩ = some (.string vl)) ∧ w5.cell? ⟨b, o + 1, none⟩ = some (.slice A n.ps.length pc) ∧ w5.frozen? ⟨b, o + 1, none⟩ = false ∧ Post17 w (w5.setCell ⟨b, o + 1, none⟩ (.slice (some ⟨g5, 0, none⟩) (n.ps.length + 1) cap5)) b o cur lo hi (.mk n.nm (n.ps ++ [⟨nm, vl⟩]) n.ks, 0)) := by
        intro g5 cap5 w5 q1 q2 q3
        have hm : Moved (w2.alloc (.cells #[.string nm, .string vl] 92)).drew w5 (ownS (.slice A n.ps.length pc)) (ownS (.slice (some ⟨g5, 0, none⟩) (n.ps.length + 1) cap5)) := Moved.of_grown q2 (by
          rcases q3 with h | h
          · exact .inl h.symm
          · exact .inr ⟨g5, rfl, by omega⟩)
        obtain ⟨s1, s2, s3⟩ := store_props (ps' := n.ps ++ [⟨nm, vl⟩]) HAA.out hm (by rw [List.length_append, prL_app]; exact q1)
        exact ⟨⟨(HN1A.out.gr q2 (ow_arr HN1A.out HROW.out (by decide))).cell 0, (HN2A.out.gr q2 (ow_arr HN2A.out HROW.out (by decide))).cell 0⟩, s1, s2, s3.later HBA.out⟩
      have cn2 : w2.cell? ⟨bn, 0, none⟩ = some (.string nm) := HN1.out.cell 0
      have cv2 : w2.cell? ⟨bv, 0, none⟩ = some (.string vl) := HN2.out.cell 0
      clear HAA HN1A HN2A HBA hba hno HH HA2 HN1 HN2 HB2 hbn hbv
      go_upto_region 5 with fail
      clear cn2 cv2
      refine wp_region_held_drew (S := fun (w' : World) => (w'.cell? ⟨bn, 0, none⟩ = some (.string nm) ∧ w'.cell? ⟨bv, 0, none⟩ = some (.string vl))) (by kernel_rfl) (by (first | exact HS0.out | exact HSA.out | assumption | exact HS7.out _ _ (by assumption))) (fun hHeld => ?_)
      refine takeH 0 14 rfl rfl (v := ?_) (by kernel_rfl) (by kernel_rfl) (by kernel_rfl) (fun _ _ _ h => h) (Or.inl ⟨by rfl, ?_⟩) hHeld ?_
      rotate_left 1
      · (intro w hSw; (try dsimp only at hSw); go_simp; try (with_reducible rfl))
      (try simp only [Act.put]); (try simp only [List.setIfInBounds_toArray]); (try simp only [List.set_cons_succ]); (try simp only [List.set_cons_zero])
      refine takeH 1 15 rfl rfl (v := ?_) (by kernel_rfl) (by kernel_rfl) (by kernel_rfl) (fun _ _ _ h => h) (Or.inl ⟨by rfl, ?_⟩) hHeld ?_
      rotate_left 1
      · (intro w hSw; (try dsimp only at hSw); go_simp; try (with_reducible rfl))
      (try simp only [Act.put]); (try simp only [List.setIfInBounds_toArray]); (try simp only [List.set_cons_succ]); (try simp only [List.set_cons_zero])
      refine takeH 2 16 rfl rfl (v := ?_) (by kernel_rfl) (by kernel_rfl) (by kernel_rfl) (fun _ _ _ h => h) (Or.inl ⟨by rfl, ?_⟩) hHeld ?_
      rotate_left 1
      · (intro w hSw; (try dsimp only at hSw); go_simp; try (with_reducible rfl))
      (try simp only [Act.put]); (try simp only [List.setIfInBounds_toArray]); (try simp only [List.set_cons_succ]); (try simp only [List.set_cons_zero])
      refine takeH 3 17 rfl rfl (v := ?_) (by kernel_rfl) (by kernel_rfl) (by kernel_rfl) (fun _ _ _ h => h) (Or.inl ⟨by rfl, ?_⟩) hHeld ?_
      rotate_left 1
      · (intro w hSw; (try dsimp only at hSw); go_simp; try (with_reducible rfl))
      (try simp only [Act.put]); (try simp only [List.setIfInBounds_toArray]); (try simp only [List.set_cons_succ]); (try simp only [List.set_cons_zero])
      refine takeH 5 19 rfl rfl (v := ?_) (by kernel_rfl) (by kernel_rfl) (by kernel_rfl) (fun _ _ _ h => h) (Or.inl ⟨by rfl, ?_⟩) hHeld ?_
      rotate_left 1
      · (intro w hSw; (try dsimp only at hSw); go_simp; try (with_reducible rfl))
      (try simp only [Act.put]); (try simp only [List.setIfInBounds_toArray]); (try simp only [List.set_cons_succ]); (try simp only [List.set_cons_zero])
      refine takeH 6 20 rfl rfl (v := ?_) (by kernel_rfl) (by kernel_rfl) (by kernel_rfl) (fun _ _ _ h => h) (Or.inl ⟨by rfl, ?_⟩) hHeld ?_
      rotate_left 1
      · (intro w hSw; (try dsimp only at hSw); go_simp; try (with_reducible rfl))
      (try simp only [Act.put]); (try simp only [List.setIfInBounds_toArray]); (try simp only [List.set_cons_succ]); (try simp only [List.set_cons_zero])
      refine takeH 7 21 rfl rfl (v := ?_) (by kernel_rfl) (by kernel_rfl) (by kernel_rfl) (fun _ _ _ h => h) (Or.inl ⟨by rfl, ?_⟩) hHeld ?_
      rotate_left 1
      · (intro w hSw; (try dsimp only at hSw); go_simp; try (with_reducible rfl))
      (try simp only [Act.put]); (try simp only [List.setIfInBounds_toArray]); (try simp only [List.set_cons_succ]); (try simp only [List.set_cons_zero])
      refine wpAnyH_ready (rs := [4, 8]) (by kernel_rfl) (by simp) (AllReadyH.cons rfl (fun K hK => ?_) (AllReadyH.cons rfl (fun K hK => ?_) AllReadyH.nil))
      · go_simp
        refine hK.out _ _ (by (first | exact HS0.out | exact HSA.out | assumption | exact HS7.out _ _ (by assumption))) (fun hHeld => ?_)
        clear hK K
        (try simp only [Act.put]); (try simp only [List.setIfInBounds_toArray]); (try simp only [List.set_cons_succ]); (try simp only [List.set_cons_zero])
        refine wpAnyH_ready (rs := [8]) (by kernel_rfl) (by simp) (AllReadyH.cons rfl (fun K hK => ?_) AllReadyH.nil)
        go_simp
        refine hK.out _ _ (by (first | exact HS0.out | exact HSA.out | assumption | exact HS7.out _ _ (by assumption))) (fun hHeld => ?_)
        clear hK K
        (try simp only [Act.put]); (try simp only [List.setIfInBounds_toArray]); (try simp only [List.set_cons_succ]); (try simp only [List.set_cons_zero])
        refine wpAnyH_ready (rs := [9]) (by kernel_rfl) (by simp) (AllReadyH.cons rfl (fun K hK => ?_) AllReadyH.nil)
        refine step_append_at (by rfl) _ _ _ (by rfl) 92 2 32 HEL 0 (.slice A n.ps.length pc) n.ps.length (prL n.ps) (by rfl) HROW.out w2.heap.size #[.string nm, .string vl] HNEW.out rfl HPO.out (by rfl) (by unfold maxLen; omega) (by omega) (Nat.zero_le _) ?_
        intro g5 cap5 w5 q1 q2 q3 q4
        obtain ⟨hs5, y1, y2, y3⟩ := HF5.out g5 cap5 w5 q1 q2 q3
        (try dsimp only)
        refine hK.out _ _ (by (first | exact HS0.out | exact HSA.out | assumption | exact HS7.out _ _ (by assumption))) (fun hHeld => ?_)
        clear hK K
        (try simp only [Act.put]); (try simp only [List.setIfInBounds_toArray]); (try simp only [List.set_cons_succ]); (try simp only [List.set_cons_zero])
        refine takeH 10 24 rfl rfl (v := ?_) (by kernel_rfl) (by kernel_rfl) (by kernel_rfl) (fun _ _ _ h => h) (Or.inl ⟨by rfl, ?_⟩) hHeld ?_
        rotate_left 1
        · (intro w hSw; (try dsimp only at hSw); go_simp; try (with_reducible rfl))
        (try simp only [Act.put]); (try simp only [List.setIfInBounds_toArray]); (try simp only [List.set_cons_succ]); (try simp only [List.set_cons_zero])
        refine takeH 11 25 rfl rfl (v := ?_) (by kernel_rfl) (by kernel_rfl) (by kernel_rfl) (fun _ _ _ h => h) (Or.inl ⟨by rfl, ?_⟩) hHeld ?_
        rotate_left 1
        · (intro w hSw; (try dsimp only at hSw); go_simp; try (with_reducible rfl))
        (try simp only [Act.put]); (try simp only [List.setIfInBounds_toArray]); (try simp only [List.set_cons_succ]); (try simp only [List.set_cons_zero])
        refine wpAnyH_ready (rs := [12]) (by kernel_rfl) (by simp) (AllReadyH.cons rfl (fun K hK => ?_) AllReadyH.nil)
        go_simp
        refine hK.out _ _ (by (first | exact HS0.out | exact HSA.out | assumption | exact HS7.out _ _ (by assumption))) (fun hHeld => ?_)
        clear hK K
        (try simp only [Act.put]); (try simp only [List.setIfInBounds_toArray]); (try simp only [List.set_cons_succ]); (try simp only [List.set_cons_zero])
        refine wpAnyH_done (by kernel_rfl) ?_ _
        have HZ := Lib.hid y3
        clear y1 y2 y3 hs5 q1 q2 q3 q4 HF5 HNEW HROW HS0 HS7 hHeld HSA HPO HEL p1 pA
        go_wp2
        go_ret
        exact ⟨by rw [HE.out]; rfl, by rw [HE.out]; exact HZ.out⟩
      · go_simp
        refine hK.out _ _ (by (first | exact HS0.out | exact HSA.out | assumption | exact HS7.out _ _ (by assumption))) (fun hHeld => ?_)
        clear hK K
        (try simp only [Act.put]); (try simp only [List.setIfInBounds_toArray]); (try simp only [List.set_cons_succ]); (try simp only [List.set_cons_zero])
        refine wpAnyH_ready (rs := [4]) (by kernel_rfl) (by simp) (AllReadyH.cons rfl (fun K hK => ?_) AllReadyH.nil)
        go_simp
        refine hK.out _ _ (by (first | exact HS0.out | exact HSA.out | assumption | exact HS7.out _ _ (by assumption))) (fun hHeld => ?_)
        clear hK K
        (try simp only [Act.put]); (try simp only [List.setIfInBounds_toArray]); (try simp only [List.set_cons_succ]); (try simp only [List.set_cons_zero])
        refine wpAnyH_ready (rs := [9]) (by kernel_rfl) (by simp) (AllReadyH.cons rfl (fun K hK => ?_) AllReadyH.nil)
        refine step_append_at (by rfl) _ _ _ (by rfl) 92 2 32 HEL 0 (.slice A n.ps.length pc) n.ps.length (prL n.ps) (by rfl) HROW.out w2.heap.size #[.string nm, .string vl] HNEW.out rfl HPO.out (by rfl) (by unfold maxLen; omega) (by omega) (Nat.zero_le _) ?_
        intro g5 cap5 w5 q1 q2 q3 q4
        obtain ⟨hs5, y1, y2, y3⟩ := HF5.out g5 cap5 w5 q1 q2 q3
        (try dsimp only)
        refine hK.out _ _ (by (first | exact HS0.out | exact HSA.out | assumption | exact HS7.out _ _ (by assumption))) (fun hHeld => ?_)
        clear hK K
        (try simp only [Act.put]); (try simp only [List.setIfInBounds_toArray]); (try simp only [List.set_cons_succ]); (try simp only [List.set_cons_zero])
        refine takeH 10 24 rfl rfl (v := ?_) (by kernel_rfl) (by kernel_rfl) (by kernel_rfl) (fun _ _ _ h => h) (Or.inl ⟨by rfl, ?_⟩) hHeld ?_
        rotate_left 1
        · (intro w hSw; (try dsimp only at hSw); go_simp; try (with_reducible rfl))
        (try simp only [Act.put]); (try simp only [List.setIfInBounds_toArray]); (try simp only [List.set_cons_succ]); (try simp only [List.set_cons_zero])
        refine takeH 11 25 rfl rfl (v := ?_) (by kernel_rfl) (by kernel_rfl) (by kernel_rfl) (fun _ _ _ h => h) (Or.inl ⟨by rfl, ?_⟩) hHeld ?_
        rotate_left 1
        · (intro w hSw; (try dsimp only at hSw); go_simp; try (with_reducible rfl))
        (try simp only [Act.put]); (try simp only [List.setIfInBounds_toArray]); (try simp only [List.set_cons_succ]); (try simp only [List.set_cons_zero])
        refine wpAnyH_ready (rs := [12]) (by kernel_rfl) (by simp) (AllReadyH.cons rfl (fun K hK => ?_) AllReadyH.nil)
        go_simp
        refine hK.out _ _ (by (first | exact HS0.out | exact HSA.out | assumption | exact HS7.out _ _ (by assumption))) (fun hHeld => ?_)
        clear hK K
        (try simp only [Act.put]); (try simp only [List.setIfInBounds_toArray]); (try simp only [List.set_cons_succ]); (try simp only [List.set_cons_zero])
        refine wpAnyH_done (by kernel_rfl) ?_ _
        have HZ := Lib.hid y3
        clear y1 y2 y3 hs5 q1 q2 q3 q4 HF5 HNEW HROW HS0 HS7 hHeld HSA HPO HEL p1 pA
        go_wp2
        go_ret
        exact ⟨by rw [HE.out]; rfl, by rw [HE.out]; exact HZ.out⟩
    · have HE : Hid (hereR n ⟨1, nm, vl⟩ = (.mk n.nm (n.ps.set k ⟨(n.ps.getD k pr0).nm, vl⟩) n.ks, 0)) := by
        unfold Hid
        rw [HH.out, props_hit (c := ⟨1, nm, vl⟩) hk hlt (of_decide_eq_true hy), List.set_eq_take_append_cons_drop, if_pos hk]
        simp
      obtain ⟨g, rfl⟩ : ∃ g, A = some ⟨g, 0, none⟩ := by
        obtain ⟨A', pc', e, _, _, h0⟩ := row_form (at_props HA2.out).1
        injection e with e
        rcases h0 with h0 | ⟨g, h0, _⟩
        · omega
        · exact ⟨g, e.trans h0⟩
      have HAD := Lib.hid (HA2.out.below ((Below.refl w2.heap.size w2).drew))
      have HBD := Lib.hid (HB2.out.trans ((Below.refl w2.heap.size w2).drew.mono HB2.out.size))
      have HND := Lib.hid (HN2.out.below ((Below.refl w2.heap.size w2).drew) HN2.out.lt)
      have hrow := (at_props HAD.out).1
      have d0 : decide ((k : Int) < 0) = false := decide_eq_false (by omega)
      have hki : (k : Int) < (n.ps.length : Int) := by omega
      have hpl : k * 2 + 1 < (prL n.ps).length := by rw [prL_len]; omega
      have p1 : w2.drew.cell? ⟨g, k * 2 + 1, none⟩ = some (.string (n.ps.getD k pr0).vl) := by
        rw [hrow.cellAt _ (by rw [← prL_len]; exact hpl), prL_at n.ps hk (by omega)]; rfl
      have f1 : w2.drew.frozen? ⟨g, k * 2 + 1, none⟩ = false := hrow.frozenAt _
      have hgb : g ≠ b := fun e => (at_props HAD.out).2 (by rw [← e]; rfl)
      have hgv : g ≠ bv := fun e => ow_arr HND.out hrow (by decide) (by rw [← e]; rfl)
      have HS0 : Hid (w2.drew.cell? ⟨b, o + 1, none⟩ = some (.slice (some ⟨g, 0, none⟩) n.ps.length pc) ∧ w2.drew.cell? ⟨bv, 0, none⟩ = some (.string vl)) := ⟨by rw [HAD.out.arr.cell]; exact HAD.out.c1, HND.out.cell 0⟩
      have HS7 : Hid (∀ (w' : World) v, (w'.cell? ⟨b, o + 1, none⟩ = some (.slice (some ⟨g, 0, none⟩) n.ps.length pc) ∧ w'.cell? ⟨bv, 0, none⟩ = some (.string vl)) → ((w'.setCell ⟨g, k * 2 + 1, none⟩ v).cell? ⟨b, o + 1, none⟩ = some (.slice (some ⟨g, 0, none⟩) n.ps.length pc) ∧ (w'.setCell ⟨g, k * 2 + 1, none⟩ v).cell? ⟨bv, 0, none⟩ = some (.string vl))) := fun w' v ⟨e1, e2⟩ => ⟨(World.cell?_setCell_far _ _ _ _ hgb).trans e1, (World.cell?_setCell_far _ _ _ _ hgv).trans e2⟩
      have HF : Hid (Post17 w (w2.drew.setCell ⟨g, k * 2 + 1, none⟩ (.string vl)) b o cur lo hi (.mk n.nm (n.ps.set k ⟨(n.ps.getD k pr0).nm, vl⟩) n.ks, 0)) := by
        have hr2 := own_set hrow (j := k * 2 + 1) (.string vl)
        rw [prL_set n.ps k vl hk] at hr2
        have hm : Moved w2.drew (w2.drew.setCell ⟨g, k * 2 + 1, none⟩ (.string vl)) (ownS (.slice (some ⟨g, 0, none⟩) n.ps.length pc)) (ownS (.slice (some ⟨g, 0, none⟩) n.ps.length pc)) := Moved.of_grown (gr_cell w2.drew g (k * 2 + 1) _) (.inl rfl)
        have ha := hm.arr HAD.out.arr (at_props HAD.out).2
        refine Post17.later HBD.out (post_props HAD.out (hm.inside (fun _ h => .inr h) (fun k' hk' => hk'.elim (fun h => .inl (.inl h)) (fun h => .inl (.inr h)))) ha rfl (fun _ _ => rfl) HAD.out.c1 (B := lo) (by rw [List.length_set]; exact hr2))
      clear hrow hy hlt HH HA2 HN1 HN2 HB2 hpl HAD HBD HND hgb hgv
      go_upto_region 6 with fail
      refine wp_region_held_drew (S := fun (w' : World) => (w'.cell? ⟨b, o + 1, none⟩ = some (.slice (some ⟨g, 0, none⟩) n.ps.length pc) ∧ w'.cell? ⟨bv, 0, none⟩ = some (.string vl))) (by kernel_rfl) (by (first | exact HS0.out | assumption | exact HS7.out _ _ (by assumption))) (fun hHeld => ?_)
      refine takeH 0 26 rfl rfl (v := ?_) (by kernel_rfl) (by kernel_rfl) (by kernel_rfl) (fun _ _ _ h => h) (Or.inl ⟨by rfl, ?_⟩) hHeld ?_
      rotate_left 1
      · (intro w hSw; (try dsimp only at hSw); go_simp; try (with_reducible rfl))
      (try simp only [Act.put]); (try simp only [List.setIfInBounds_toArray]); (try simp only [List.set_cons_succ]); (try simp only [List.set_cons_zero])
      refine takeH 1 27 rfl rfl (v := ?_) (by kernel_rfl) (by kernel_rfl) (by kernel_rfl) (fun _ _ _ h => h) (Or.inl ⟨by rfl, ?_⟩) hHeld ?_
      rotate_left 1
      · (intro w hSw; (try dsimp only at hSw); go_simp; try (with_reducible rfl))
      (try simp only [Act.put]); (try simp only [List.setIfInBounds_toArray]); (try simp only [List.set_cons_succ]); (try simp only [List.set_cons_zero])
      refine takeH 2 28 rfl rfl (v := ?_) (by kernel_rfl) (by kernel_rfl) (by kernel_rfl) (fun _ _ _ h => h) (Or.inl ⟨by rfl, ?_⟩) hHeld ?_
      rotate_left 1
      · (intro w hSw; (try dsimp only at hSw); go_simp; try (with_reducible rfl))
      (try simp only [Act.put]); (try simp only [List.setIfInBounds_toArray]); (try simp only [List.set_cons_succ]); (try simp only [List.set_cons_zero])
      refine takeH 3 29 rfl rfl (v := ?_) (by kernel_rfl) (by kernel_rfl) (by kernel_rfl) (fun _ _ _ h => h) (Or.inl ⟨by rfl, ?_⟩) hHeld ?_
      rotate_left 1
      · (intro w hSw; (try dsimp only at hSw); go_simp; try (with_reducible rfl))
      (try simp only [Act.put]); (try simp only [List.setIfInBounds_toArray]); (try simp only [List.set_cons_succ]); (try simp only [List.set_cons_zero])
      refine takeH 4 30 rfl rfl (v := ?_) (by kernel_rfl) (by kernel_rfl) (by kernel_rfl) (fun _ _ _ h => h) (Or.inl ⟨by rfl, ?_⟩) hHeld ?_
      rotate_left 1
      · (intro w hSw; (try dsimp only at hSw); go_simp; try (with_reducible rfl))
      (try simp only [Act.put]); (try simp only [List.setIfInBounds_toArray]); (try simp only [List.set_cons_succ]); (try simp only [List.set_cons_zero])
      refine takeH 5 31 rfl rfl (v := ?_) (by kernel_rfl) (by kernel_rfl) (by kernel_rfl) (fun _ _ _ h => h) (Or.inl ⟨by rfl, ?_⟩) hHeld ?_
      rotate_left 1
      · (intro w hSw; (try dsimp only at hSw); go_simp; try (with_reducible rfl))
      (try simp only [Act.put]); (try simp only [List.setIfInBounds_toArray]); (try simp only [List.set_cons_succ]); (try simp only [List.set_cons_zero])
      refine takeH 6 32 rfl rfl (v := ?_) (by kernel_rfl) (by kernel_rfl) (by kernel_rfl) (fun _ _ _ h => h) (Or.inl ⟨by rfl, ?_⟩) hHeld ?_
      rotate_left 1
      · (intro w hSw; (try dsimp only at hSw); go_simp; try (with_reducible rfl))
      (try simp only [Act.put]); (try simp only [List.setIfInBounds_toArray]); (try simp only [List.set_cons_succ]); (try simp only [List.set_cons_zero])
      refine takeH 7 33 rfl rfl (v := ?_) (by kernel_rfl) (by kernel_rfl) (by kernel_rfl) (fun _ _ _ h => h) (Or.inl ⟨by rfl, ?_⟩) hHeld ?_
      rotate_left 1
      · (intro w hSw; (try dsimp only at hSw); go_simp; try (with_reducible rfl))
      (try simp only [Act.put]); (try simp only [List.setIfInBounds_toArray]); (try simp only [List.set_cons_succ]); (try simp only [List.set_cons_zero])
      refine wpAnyH_ready (rs := [8]) (by kernel_rfl) (by simp) (AllReadyH.cons rfl (fun K hK => ?_) AllReadyH.nil)
      go_simp
      refine hK.out _ _ (by (first | exact HS0.out | assumption | exact HS7.out _ _ (by assumption))) (fun hHeld => ?_)
      clear hK K
      (try simp only [Act.put]); (try simp only [List.setIfInBounds_toArray]); (try simp only [List.set_cons_succ]); (try simp only [List.set_cons_zero])
      refine wpAnyH_done (by kernel_rfl) ?_ _
      clear hHeld HS0 HS7 p1 f1
      go_wp2
      go_ret
      exact ⟨by rw [HE.out]; rfl, by rw [HE.out]; exact HF.out⟩

set_option maxHeartbeats 3200000 in
set_option maxRecDepth 100000 in
theorem add_ok (w0 : World) (bn : Nat) (nm vl : ByteArray) (h1 : Arr w0 bn 9 #[.string nm]) (hs : nm.size ≤ maxLen) :
    ChangeOk w0 (.func (.func 48) #[] #[.pointer (some ⟨bn, 0, none⟩)]) ⟨3, nm, vl⟩ := by
  refine ⟨_, _, rfl, Tryz.call48, fun w b o cur lo hi n p q hb hA _ hl2 => ?_⟩
  obtain ⟨A, K0, pc, kc, rfl, rfl, _, _, _, _, _, _⟩ := at_shape hA
  have hn1 := h1.below hb h1.lt
  have cn : w.cell? ⟨bn, 0, none⟩ = some (.string nm) := hn1.cell 0
  have HAL := Lib.hid (allowed_any nm w hs)
  have HA := Lib.hid hA
  have HN1 := Lib.hid hn1
  have HH : Hid (hereR n ⟨3, nm, vl⟩ = if mayKidR nm = false then (nd0, 1) else if (kidR n nm).isSome = true then (nd0, 12) else (.mk n.nm n.ps (n.ks ++ [.mk nm [] []]), 0)) := by
    unfold Hid hereR
    rw [if_neg (show ¬ ((3 : Int) = 1) by decide), if_neg (show ¬ ((3 : Int) = 2) by decide), if_pos rfl]
  have HMK : Hid (mayKidR nm = (mayB nm && !decide ((47 : UInt8) ∈ nm.data.toList))) := by
    unfold Hid mayKidR
    rw [← decide_not]
  have HIX : Hid (decide (0 ≤ Lib.indexByte nm.data.toList 47) = decide ((47 : UInt8) ∈ nm.data.toList)) := idx_mem 47 _
  generalize mayKidR nm = mk at *
  generalize mayB nm = may at *
  clear hA hn1 h1 hb hs
  cases may with
  | false =>
    replace HH : Hid (hereR n ⟨3, nm, vl⟩ = (nd0, 1)) := HH.out.trans (if_pos HMK.out)
    go_enter Tryz.func48, Tryz.ntmps48
    go_wp2_with fail
    refine HAL.out.mono ?_
    rintro e w1 ⟨rfl, hb1⟩
    have HF : Hid (Post17 w w1 b o cur lo hi (nd0, 1)) := post_no HA.out hb1 (by decide)
    clear hb1 HAL cn
    go_wp2
    go_ret
    exact ⟨by rw [HH.out]; rfl, by rw [HH.out]; exact HF.out⟩
  | true =>
    have HCO := Lib.hid (fun W => Tryz.strings_Contains_one nm 47 W)
    go_enter Tryz.func48, Tryz.ntmps48
    go_wp2_with fail
    refine HAL.out.mono ?_
    rintro e w1 ⟨rfl, hb1⟩
    have HA1 := Lib.hid (HA.out.below hb1)
    have HN1 := Lib.hid (HN1.out.below hb1 HN1.out.lt)
    have cn1 : w1.cell? ⟨bn, 0, none⟩ = some (.string nm) := HN1.out.cell 0
    have HB1 := Lib.hid hb1
    clear HAL cn hb1
    go_wp2_with fail
    refine (HCO.out w1).mono ?_
    rintro e w1' ⟨rfl, rfl⟩
    rw [HIX.out]
    cases hc : decide ((47 : UInt8) ∈ nm.data.toList) with
    | true =>
      rw [hc] at HMK
      replace HH : Hid (hereR n ⟨3, nm, vl⟩ = (nd0, 1)) := HH.out.trans (if_pos HMK.out)
      have HF : Hid (Post17 w w1' b o cur lo hi (nd0, 1)) := post_no HA.out HB1.out (by decide)
      clear HCO cn1 hc HIX
      go_wp2
      go_ret
      exact ⟨by rw [HH.out]; rfl, by rw [HH.out]; exact HF.out⟩
    | false =>
      rw [hc] at HMK
      replace HH : Hid (hereR n ⟨3, nm, vl⟩ = if (kidR n nm).isSome = true then (nd0, 12) else (.mk n.nm n.ps (n.ks ++ [.mk nm [] []]), 0)) := HH.out.trans (if_neg (by rw [HMK.out]; decide))
      have c2 : w1'.cell? ⟨b, o + 2, none⟩ = some (.slice K0 n.ks.length kc) := by rw [HA1.out.arr.cell]; exact HA1.out.c2
      have HPC := Lib.hid (child_any _ n _ K0 kc b o nm w1' (sole_nd HA1.out.sole) (by omega) c2)
      clear c2 HCO hc HIX HMK
      go_wp2_with fail
      refine HPC.out.mono ?_
      rintro e w2 ⟨⟨r, rfl, hr⟩, hb2⟩
      have HA2 := Lib.hid (HA1.out.below hb2)
      have HN1 := Lib.hid (HN1.out.below hb2 HN1.out.lt)
      have HB2 := Lib.hid (HB1.out.trans (hb2.mono HB1.out.size))
      clear HA1 HB1 hb2 HPC cn1
      rcases ix_kid hr with ⟨rfl, hno⟩ | ⟨i, rfl, hi', hyes, _, _, hwo⟩
      · have HE0 : Hid (hereR n ⟨3, nm, vl⟩ = (.mk n.nm n.ps (n.ks ++ [.mk nm [] []]), 0)) := by
          unfold Hid
          rw [HH.out, hno]; rfl
        have HEL := Lib.hid elemNode
        have hba : Below w2.heap.size w2 (w2.alloc (.cells #[.string ⟨#[]⟩, .slice none 0 0, .slice none 0 0] 28)).drew := ((Below.refl _ _).alloc (Nat.le_refl _) _).drew
        have HAA := Lib.hid (HA2.out.below hba)
        have HN1A := Lib.hid (HN1.out.below hba HN1.out.lt)
        have HBA := Lib.hid (HB2.out.trans (hba.mono HB2.out.size))
        obtain ⟨kl, e1, e2, e3, e4, e5⟩ := post_kids HAA.out
        have hkl : n.ks.length = kl.length := by rw [← e1, List.length_map]
        have HKL := Lib.hid e1
        have HP5 := Lib.hid e5
        rw [hkl] at e2 hl2
        have HNEW : Hid (Arr (w2.alloc (.cells #[.string ⟨#[]⟩, .slice none 0 0, .slice none 0 0] 28)).drew w2.heap.size 28 #[.string ⟨#[]⟩, .slice none 0 0, .slice none 0 0]) := Arr.new w2 _ _
        have HROW : Hid ((w2.alloc (.cells #[.string ⟨#[]⟩, .slice none 0 0, .slice none 0 0] 28)).drew.ownsRow 0 28 3 (.slice K0 kl.length kc) kl.length (kdL kl)) := by
          exact ow_base e2 (fun _ _ => Nat.zero_le _)
        have k2 : w2.cell? ⟨b, o + 2, none⟩ = some (.slice K0 kl.length kc) := by rw [← hkl, HA2.out.arr.cell]; exact HA2.out.c2
        have kA : (w2.alloc (.cells #[.string ⟨#[]⟩, .slice none 0 0, .slice none 0 0] 28)).drew.cell? ⟨b, o + 2, none⟩ = some (.slice K0 kl.length kc) := by rw [← hkl, HAA.out.arr.cell]; exact HAA.out.c2
        have hbn : b ≠ bn := fun e => by
          have h1 := HA2.out.arr
          have h2 := HN1.out
          rw [← e] at h2
          have h3 : (some (Obj.cells cur 28 (0, 0)) : Option Obj) = some (Obj.cells #[.string nm] 9 (0, 0)) := h1.symm.trans h2
          injection h3 with h3
          injection h3 with _ h3 _
          exact absurd h3 (by decide)
        have HS0 : Hid (w2.drew.cell? ⟨bn, 0, none⟩ = some (.string nm)) := HN1.out.cell 0
        have HSA : Hid ((w2.alloc (.cells #[.string ⟨#[]⟩, .slice none 0 0, .slice none 0 0] 28)).drew.cell? ⟨bn, 0, none⟩ = some (.string nm)) := HN1A.out.cell 0
        have HS7 : Hid (∀ (w' : World) v, (w'.cell? ⟨bn, 0, none⟩ = some (.string nm)) → ((w'.setCell ⟨b, o + 2, none⟩ v).cell? ⟨bn, 0, none⟩ = some (.string nm))) := fun w' v e1 => (World.cell?_setCell_far _ _ _ _ hbn).trans e1
        have HS8 : Hid (∀ (w' : World) g5 a b' c u v y, g5 ≠ bn → (w'.cell? ⟨bn, 0, none⟩ = some (.string nm)) → ((((w'.setCell ⟨g5, a, none⟩ u).setCell ⟨g5, b', none⟩ v).setCell ⟨g5, c, none⟩ y).cell? ⟨bn, 0, none⟩ = some (.string nm))) := fun w' g5 a b' c u v y hne e1 =>
          (World.cell?_setCell_far _ _ _ _ hne).trans ((World.cell?_setCell_far _ _ _ _ hne).trans ((World.cell?_setCell_far _ _ _ _ hne).trans e1))
        have HF5 : Hid (∀ g5 cap5 w5, w5.ownsRow 0 28 3 (.slice (some ⟨g5, 0, none⟩) (kl.length + 1) cap5) (kl.length + 1) (kdL kl ++ (#[.string ⟨#[]⟩, .slice none 0 0, .slice none 0 0] : Array Value).toList) → (w2.alloc (.cells #[.string ⟨#[]⟩, .slice none 0 0, .slice none 0 0] 28)).drew.grownBy w5 (Value.ownBlock (.slice K0 kl.length kc)) → (Value.ownBlock (.slice K0 kl.length kc) = some g5 ∨ g5 = (w2.alloc (.cells #[.string ⟨#[]⟩, .slice none 0 0, .slice none 0 0] 28)).drew.heap.size) →
            (w5.cell? ⟨bn, 0, none⟩ = some (.string nm)) ∧ w5.cell? ⟨b, o + 2, none⟩ = some (.slice K0 kl.length kc) ∧ w5.frozen? ⟨b, o + 2, none⟩ = false ∧ g5 ≠ b ∧ g5 ≠ bn ∧
            w5.cell? ⟨g5, kl.length * 3, none⟩ = some (.string ⟨#[]⟩) ∧ w5.cell? ⟨g5, kl.length * 3 + 1, none⟩ = some (.slice none 0 0) ∧ w5.cell? ⟨g5, kl.length * 3 + 2, none⟩ = some (.slice none 0 0) ∧ w5.frozen? ⟨g5, kl.length * 3, none⟩ = false ∧ w5.frozen? ⟨g5, kl.length * 3 + 1, none⟩ = false ∧ w5.frozen? ⟨g5, kl.length * 3 + 2, none⟩ = false ∧
            ∀ wz, (wz = ((((w5).setCell ⟨g5, kl.length * 3, none⟩ (.string nm)).setCell ⟨g5, kl.length * 3 + 1, none⟩ (.slice none 0 0)).setCell ⟨g5, kl.length * 3 + 2, none⟩ (.slice none 0 0)).setCell ⟨b, o + 2, none⟩ (.slice (some ⟨g5, 0, none⟩) (kl.length + 1) cap5) ∨ wz = (((w5.setCell ⟨b, o + 2, none⟩ (.slice (some ⟨g5, 0, none⟩) (kl.length + 1) cap5)).setCell ⟨g5, kl.length * 3, none⟩ (.string nm)).setCell ⟨g5, kl.length * 3 + 1, none⟩ (.slice none 0 0)).setCell ⟨g5, kl.length * 3 + 2, none⟩ (.slice none 0 0)) → Post17 w wz b o cur lo hi (.mk n.nm n.ps (n.ks ++ [.mk nm [] []]), 0)) := by
          intro g5 cap5 w5 q1 q2 q3
          have hsep : Value.ownBlock (.slice K0 kl.length kc) ≠ some b := by rw [hkl] at e4; exact e4
          have hA5 := HAA.out.arr.gr q2 (fun e => hsep e.symm)
          have hN5 := HN1A.out.gr q2 (ow_arr HN1A.out HROW.out (by decide))
          have hlb := HAA.out.arr.lt
          have hg5 : g5 ≠ b := by
            rintro rfl
            rcases q3 with h | h
            · exact hsep h
            · omega
          have hg5n : g5 ≠ bn := by
            rintro rfl
            exact ow_arr hN5 q1 (by decide) rfl
          have hkl0 : (kdL kl).length = kl.length * 3 := flat_len (f := kdl) (fun _ => rfl) kl
          have e : ∀ j, j < 3 → w5.cell? ⟨g5, kl.length * 3 + j, none⟩ = (#[.string ⟨#[]⟩, .slice none 0 0, .slice none 0 0] : Array Value).toList[j]? := fun j hj => by
            rw [q1.cellAt _ (by omega), List.getElem?_append_right (by rw [hkl0]; omega), hkl0, Nat.add_sub_cancel_left]
          have hclt : o + 2 < cur.size := (Array.getElem?_eq_some_iff.1 HAA.out.c2).1
          refine ⟨hN5.cell 0, by rw [hA5.cell, ← hkl]; exact HAA.out.c2, hA5.frozen _, hg5, hg5n, e 0 (by omega), e 1 (by omega), e 2 (by omega), q1.frozenAt _, q1.frozenAt _, q1.frozenAt _, fun wz hz => ?_⟩
          have hs3 : (((kdL kl ++ (#[.string ⟨#[]⟩, .slice none 0 0, .slice none 0 0] : Array Value).toList).set (kl.length * 3) (.string nm)).set (kl.length * 3 + 1) (.slice none 0 0)).set (kl.length * 3 + 2) (.slice none 0 0) = kdL (kl ++ [(⟨.mk nm [] [], .slice none 0 0, .slice none 0 0⟩ : KD)]) := by
            rw [kdL_app]
            exact set_three (kdL kl) _ _ _ _ _ _ _ hkl0.symm
          have mq : ∀ (x y : World) (b' : Nat), x.grownBy y (some b') → (b' = b ∨ b' = g5) → Moved x y (fun k => k = b ∨ ownS (.slice (some ⟨g5, 0, none⟩) (kl.length + 1) cap5) k) (fun k => k = b ∨ ownS (.slice (some ⟨g5, 0, none⟩) (kl.length + 1) cap5) k) := fun x y b' hg hb => Moved.grown hg (fun k hk => by
            injection hk with hk
            subst hk
            rcases hb with hb | hb
            · exact .inl hb
            · right; rw [hb]; rfl) (fun k hk => .inl hk)
          have m1 : Moved (w2.alloc (.cells #[.string ⟨#[]⟩, .slice none 0 0, .slice none 0 0] 28)).drew w5 (fun k => k = b ∨ ownS (.slice K0 kl.length kc) k) (fun k => k = b ∨ ownS (.slice (some ⟨g5, 0, none⟩) (kl.length + 1) cap5) k) := Moved.grown q2 (fun k hk => .inr hk) (fun k hk => by
            rcases hk with hk | hk
            · exact .inl (.inl hk)
            · exact (ownS_lies (n := kl.length + 1) (cap := cap5) q3 k hk).imp .inr id)
          have fin : ∀ W', Arr W' b 28 (cur.setIfInBounds (o + 2) (.slice (some ⟨g5, 0, none⟩) (kl.length + 1) cap5)) → W'.ownsRow 0 28 3 (.slice (some ⟨g5, 0, none⟩) (kl.length + 1) cap5) (kl.length + 1) (kdL (kl ++ [(⟨.mk nm [] [], .slice none 0 0, .slice none 0 0⟩ : KD)])) → Moved w5 W' (fun k => k = b ∨ ownS (.slice (some ⟨g5, 0, none⟩) (kl.length + 1) cap5) k) (fun k => k = b ∨ ownS (.slice (some ⟨g5, 0, none⟩) (kl.length + 1) cap5) k) → Post17 w W' b o cur lo hi (.mk n.nm n.ps (n.ks ++ [.mk nm [] []]), 0) := by
            intro W' hA hq hm
            have h := HP5.out W' (kl ++ [(⟨.mk nm [] [], .slice none 0 0, .slice none 0 0⟩ : KD)]) (.slice (some ⟨g5, 0, none⟩) (kl.length + 1) cap5) (cur.setIfInBounds (o + 2) (.slice (some ⟨g5, 0, none⟩) (kl.length + 1) cap5)) 0 (by rw [hkl]; exact m1.trans hm) hA (by rw [Array.size_setIfInBounds]) (fun j hj => by rw [Array.getElem?_setIfInBounds, if_neg (fun e => hj e.symm)]) (by rw [Array.getElem?_setIfInBounds, if_pos rfl, if_pos hclt]) (fun e => hg5 (by injection e)) (by rw [List.length_append]; exact hq) (fun c hc => by
              rcases List.mem_append.1 hc with hc | hc
              · exact .inl hc
              · exact .inr ⟨nm, List.mem_singleton.1 hc⟩)
            rw [List.map_append, HKL.out] at h
            exact h.later HBA.out
          rcases hz with rfl | rfl
          · have hr := row_three q1 (kl.length * 3) (.string nm) (.slice none 0 0) (.slice none 0 0) hs3
            refine fin _ ((((hA5.far hg5.symm _).far hg5.symm _).far hg5.symm _).put (o + 2) _) (hr.1.kept (gr_cell _ b (o + 2) _) (.inr fun e => hg5 (by injection e))) ((mq _ _ _ hr.2 (.inr rfl)).trans (mq _ _ _ (gr_cell _ b (o + 2) _) (.inl rfl)))
          · have hr := row_three (q1.kept (w' := w5.setCell ⟨b, o + 2, none⟩ (.slice (some ⟨g5, 0, none⟩) (kl.length + 1) cap5)) (gr_cell w5 b (o + 2) _) (.inr fun e => hg5 (by injection e))) (kl.length * 3) (.string nm) (.slice none 0 0) (.slice none 0 0) hs3
            refine fin _ ((((hA5.put (o + 2) _).far hg5.symm _).far hg5.symm _).far hg5.symm _) hr.1 ((mq _ _ _ (gr_cell _ b (o + 2) _) (.inl rfl)).trans (mq _ _ _ hr.2 (.inr rfl)))
        have cn2 : w2.cell? ⟨bn, 0, none⟩ = some (.string nm) := HN1.out.cell 0
        have hi1 : (kl.length : Int) < (kl.length : Int) + 1 := by omega
        clear HAA HN1A HBA hba hno HH HA2 HN1 HB2 hbn e1 e2 e3 e4 e5 HP5 HKL hr
        go_upto_region 5 with fail
        clear cn2
        refine wp_region_held_drew (S := fun (w' : World) => (w'.cell? ⟨bn, 0, none⟩ = some (.string nm))) (by kernel_rfl) (by exact HS0.out) (fun hHeld => ?_)
        refine takeH 0 17 rfl rfl (v := ?_) (by kernel_rfl) (by kernel_rfl) (by kernel_rfl) (fun _ _ _ h => h) (Or.inl ⟨by rfl, ?_⟩) hHeld ?_
        rotate_left 1
        · (intro w hSw; (try dsimp only at hSw); go_simp; try (with_reducible rfl))
        (try simp only [Act.put]); (try simp only [List.setIfInBounds_toArray]); (try simp only [List.set_cons_succ]); (try simp only [List.set_cons_zero])
        refine takeH 1 18 rfl rfl (v := ?_) (by kernel_rfl) (by kernel_rfl) (by kernel_rfl) (fun _ _ _ h => h) (Or.inl ⟨by rfl, ?_⟩) hHeld ?_
        rotate_left 1
        · (intro w hSw; (try dsimp only at hSw); go_simp; try (with_reducible rfl))
        (try simp only [Act.put]); (try simp only [List.setIfInBounds_toArray]); (try simp only [List.set_cons_succ]); (try simp only [List.set_cons_zero])
        refine takeH 2 19 rfl rfl (v := ?_) (by kernel_rfl) (by kernel_rfl) (by kernel_rfl) (fun _ _ _ h => h) (Or.inl ⟨by rfl, ?_⟩) hHeld ?_
        rotate_left 1
        · (intro w hSw; (try dsimp only at hSw); go_simp; try (with_reducible rfl))
        (try simp only [Act.put]); (try simp only [List.setIfInBounds_toArray]); (try simp only [List.set_cons_succ]); (try simp only [List.set_cons_zero])
        refine takeH 4 21 rfl rfl (v := ?_) (by kernel_rfl) (by kernel_rfl) (by kernel_rfl) (fun _ _ _ h => h) (Or.inl ⟨by rfl, ?_⟩) hHeld ?_
        rotate_left 1
        · (intro w hSw; (try dsimp only at hSw); go_simp; try (with_reducible rfl))
        (try simp only [Act.put]); (try simp only [List.setIfInBounds_toArray]); (try simp only [List.set_cons_succ]); (try simp only [List.set_cons_zero])
        refine takeH 5 22 rfl rfl (v := ?_) (by kernel_rfl) (by kernel_rfl) (by kernel_rfl) (fun _ _ _ h => h) (Or.inl ⟨by rfl, ?_⟩) hHeld ?_
        rotate_left 1
        · (intro w hSw; (try dsimp only at hSw); go_simp; try (with_reducible rfl))
        (try simp only [Act.put]); (try simp only [List.setIfInBounds_toArray]); (try simp only [List.set_cons_succ]); (try simp only [List.set_cons_zero])
        refine wpAnyH_ready (rs := [3, 7]) (by kernel_rfl) (by simp) (AllReadyH.cons rfl (fun K hK => ?_) (AllReadyH.cons rfl (fun K hK => ?_) AllReadyH.nil))
        · go_simp
          refine hK.out _ _ (by exact hHeld) (fun hHeld => ?_)
          clear hK K
          (try simp only [Act.put]); (try simp only [List.setIfInBounds_toArray]); (try simp only [List.set_cons_succ]); (try simp only [List.set_cons_zero])
          refine takeH 6 23 rfl rfl (v := ?_) (by kernel_rfl) (by kernel_rfl) (by kernel_rfl) (fun _ _ _ h => h) (Or.inl ⟨by rfl, ?_⟩) hHeld ?_
          rotate_left 1
          · (intro w hSw; (try dsimp only at hSw); go_simp; try (with_reducible rfl))
          (try simp only [Act.put]); (try simp only [List.setIfInBounds_toArray]); (try simp only [List.set_cons_succ]); (try simp only [List.set_cons_zero])
          refine wpAnyH_ready (rs := [7]) (by kernel_rfl) (by simp) (AllReadyH.cons rfl (fun K hK => ?_) AllReadyH.nil)
          go_simp
          refine hK.out _ _ (by exact HSA.out) (fun hHeld => ?_)
          clear hK K
          (try simp only [Act.put]); (try simp only [List.setIfInBounds_toArray]); (try simp only [List.set_cons_succ]); (try simp only [List.set_cons_zero])
          refine wpAnyH_ready (rs := [8]) (by kernel_rfl) (by simp) (AllReadyH.cons rfl (fun K hK => ?_) AllReadyH.nil)
          refine step_append_at (by rfl) _ _ _ (by rfl) 28 3 64 HEL 0 (.slice K0 kl.length kc) kl.length (kdL kl) (by rfl) HROW.out w2.heap.size #[.string ⟨#[]⟩, .slice none 0 0, .slice none 0 0] HNEW.out rfl zeroN_one (by rfl) (by unfold maxLen; omega) (by omega) (Nat.zero_le _) ?_
          intro g5 cap5 w5 q1 q2 q3 q4
          obtain ⟨hs5, y1, y2, y4, y5, z0, z1, z2, z3, z4, z5, y6⟩ := HF5.out g5 cap5 w5 q1 q2 q3
          (try dsimp only)
          refine hK.out _ _ (by exact hs5) (fun hHeld => ?_)
          clear hK K
          (try simp only [Act.put]); (try simp only [List.setIfInBounds_toArray]); (try simp only [List.set_cons_succ]); (try simp only [List.set_cons_zero])
          refine takeH 9 26 rfl rfl (v := ?_) (by kernel_rfl) (by kernel_rfl) (by kernel_rfl) (fun _ _ _ h => h) (Or.inl ⟨by rfl, ?_⟩) hHeld ?_
          rotate_left 1
          · (intro w hSw; (try dsimp only at hSw); go_simp; try (with_reducible rfl))
          (try simp only [Act.put]); (try simp only [List.setIfInBounds_toArray]); (try simp only [List.set_cons_succ]); (try simp only [List.set_cons_zero])
          refine takeH 11 27 rfl rfl (v := ?_) (by kernel_rfl) (by kernel_rfl) (by kernel_rfl) (fun _ _ _ h => h) (Or.inl ⟨by rfl, ?_⟩) hHeld ?_
          rotate_left 1
          · (intro w hSw; (try dsimp only at hSw); go_simp; try (with_reducible rfl))
          (try simp only [Act.put]); (try simp only [List.setIfInBounds_toArray]); (try simp only [List.set_cons_succ]); (try simp only [List.set_cons_zero])
          refine takeH 12 28 rfl rfl (v := ?_) (by kernel_rfl) (by kernel_rfl) (by kernel_rfl) (fun _ _ _ h => h) (Or.inl ⟨by rfl, ?_⟩) hHeld ?_
          rotate_left 1
          · (intro w hSw; (try dsimp only at hSw); go_simp; try (with_reducible rfl))
          (try simp only [Act.put]); (try simp only [List.setIfInBounds_toArray]); (try simp only [List.set_cons_succ]); (try simp only [List.set_cons_zero])
          refine wpAnyH_ready (rs := [10, 13]) (by kernel_rfl) (by simp) (AllReadyH.cons rfl (fun K hK => ?_) (AllReadyH.cons rfl (fun K hK => ?_) AllReadyH.nil))
          · go_simp
            refine hK.out _ _ (by exact HS8.out _ _ _ _ _ _ _ _ y5 hHeld) (fun hHeld => ?_)
            clear hK K
            (try simp only [Act.put]); (try simp only [List.setIfInBounds_toArray]); (try simp only [List.set_cons_succ]); (try simp only [List.set_cons_zero])
            refine wpAnyH_ready (rs := [13]) (by kernel_rfl) (by simp) (AllReadyH.cons rfl (fun K hK => ?_) AllReadyH.nil)
            go_simp
            refine hK.out _ _ (by exact HS7.out _ _ hHeld) (fun hHeld => ?_)
            clear hK K
            (try simp only [Act.put]); (try simp only [List.setIfInBounds_toArray]); (try simp only [List.set_cons_succ]); (try simp only [List.set_cons_zero])
            refine wpAnyH_done (by kernel_rfl) ?_ _
            have HE := Lib.hid y6
            clear y1 y2 y4 y5 y6 z0 z1 z2 z3 z4 z5 hs5 q1 q2 q3 q4 HF5 HNEW HROW HS0 HS7 HS8 hHeld HSA HEL k2 kA
            go_wp2
            go_ret
            exact ⟨by rw [HE0.out]; rfl, by rw [HE0.out]; first | exact HE.out _ (.inl rfl) | exact HE.out _ (.inr rfl)⟩
          · go_simp
            refine hK.out _ _ (by exact HS7.out _ _ hHeld) (fun hHeld => ?_)
            clear hK K
            (try simp only [Act.put]); (try simp only [List.setIfInBounds_toArray]); (try simp only [List.set_cons_succ]); (try simp only [List.set_cons_zero])
            refine wpAnyH_ready (rs := [10]) (by kernel_rfl) (by simp) (AllReadyH.cons rfl (fun K hK => ?_) AllReadyH.nil)
            go_simp
            refine hK.out _ _ (by exact HS8.out _ _ _ _ _ _ _ _ y5 hHeld) (fun hHeld => ?_)
            clear hK K
            (try simp only [Act.put]); (try simp only [List.setIfInBounds_toArray]); (try simp only [List.set_cons_succ]); (try simp only [List.set_cons_zero])
            refine wpAnyH_done (by kernel_rfl) ?_ _
            have HE := Lib.hid y6
            clear y1 y2 y4 y5 y6 z0 z1 z2 z3 z4 z5 hs5 q1 q2 q3 q4 HF5 HNEW HROW HS0 HS7 HS8 hHeld HSA HEL k2 kA
            go_wp2
            go_ret
            exact ⟨by rw [HE0.out]; rfl, by rw [HE0.out]; first | exact HE.out _ (.inl rfl) | exact HE.out _ (.inr rfl)⟩
        · go_simp
          refine hK.out _ _ (by exact HSA.out) (fun hHeld => ?_)
          clear hK K
          (try simp only [Act.put]); (try simp only [List.setIfInBounds_toArray]); (try simp only [List.set_cons_succ]); (try simp only [List.set_cons_zero])
          refine wpAnyH_ready (rs := [3]) (by kernel_rfl) (by simp) (AllReadyH.cons rfl (fun K hK => ?_) AllReadyH.nil)
          go_simp
          refine hK.out _ _ (by exact hHeld) (fun hHeld => ?_)
          clear hK K
          (try simp only [Act.put]); (try simp only [List.setIfInBounds_toArray]); (try simp only [List.set_cons_succ]); (try simp only [List.set_cons_zero])
          refine takeH 6 23 rfl rfl (v := ?_) (by kernel_rfl) (by kernel_rfl) (by kernel_rfl) (fun _ _ _ h => h) (Or.inl ⟨by rfl, ?_⟩) hHeld ?_
          rotate_left 1
          · (intro w hSw; (try dsimp only at hSw); go_simp; try (with_reducible rfl))
          (try simp only [Act.put]); (try simp only [List.setIfInBounds_toArray]); (try simp only [List.set_cons_succ]); (try simp only [List.set_cons_zero])
          refine wpAnyH_ready (rs := [8]) (by kernel_rfl) (by simp) (AllReadyH.cons rfl (fun K hK => ?_) AllReadyH.nil)
          refine step_append_at (by rfl) _ _ _ (by rfl) 28 3 64 HEL 0 (.slice K0 kl.length kc) kl.length (kdL kl) (by rfl) HROW.out w2.heap.size #[.string ⟨#[]⟩, .slice none 0 0, .slice none 0 0] HNEW.out rfl zeroN_one (by rfl) (by unfold maxLen; omega) (by omega) (Nat.zero_le _) ?_
          intro g5 cap5 w5 q1 q2 q3 q4
          obtain ⟨hs5, y1, y2, y4, y5, z0, z1, z2, z3, z4, z5, y6⟩ := HF5.out g5 cap5 w5 q1 q2 q3
          (try dsimp only)
          refine hK.out _ _ (by exact hs5) (fun hHeld => ?_)
          clear hK K
          (try simp only [Act.put]); (try simp only [List.setIfInBounds_toArray]); (try simp only [List.set_cons_succ]); (try simp only [List.set_cons_zero])
          refine takeH 9 26 rfl rfl (v := ?_) (by kernel_rfl) (by kernel_rfl) (by kernel_rfl) (fun _ _ _ h => h) (Or.inl ⟨by rfl, ?_⟩) hHeld ?_
          rotate_left 1
          · (intro w hSw; (try dsimp only at hSw); go_simp; try (with_reducible rfl))
          (try simp only [Act.put]); (try simp only [List.setIfInBounds_toArray]); (try simp only [List.set_cons_succ]); (try simp only [List.set_cons_zero])
          refine takeH 11 27 rfl rfl (v := ?_) (by kernel_rfl) (by kernel_rfl) (by kernel_rfl) (fun _ _ _ h => h) (Or.inl ⟨by rfl, ?_⟩) hHeld ?_
          rotate_left 1
          · (intro w hSw; (try dsimp only at hSw); go_simp; try (with_reducible rfl))
          (try simp only [Act.put]); (try simp only [List.setIfInBounds_toArray]); (try simp only [List.set_cons_succ]); (try simp only [List.set_cons_zero])
          refine takeH 12 28 rfl rfl (v := ?_) (by kernel_rfl) (by kernel_rfl) (by kernel_rfl) (fun _ _ _ h => h) (Or.inl ⟨by rfl, ?_⟩) hHeld ?_
          rotate_left 1
          · (intro w hSw; (try dsimp only at hSw); go_simp; try (with_reducible rfl))
          (try simp only [Act.put]); (try simp only [List.setIfInBounds_toArray]); (try simp only [List.set_cons_succ]); (try simp only [List.set_cons_zero])
          refine wpAnyH_ready (rs := [10, 13]) (by kernel_rfl) (by simp) (AllReadyH.cons rfl (fun K hK => ?_) (AllReadyH.cons rfl (fun K hK => ?_) AllReadyH.nil))
          · go_simp
            refine hK.out _ _ (by exact HS8.out _ _ _ _ _ _ _ _ y5 hHeld) (fun hHeld => ?_)
            clear hK K
            (try simp only [Act.put]); (try simp only [List.setIfInBounds_toArray]); (try simp only [List.set_cons_succ]); (try simp only [List.set_cons_zero])
            refine wpAnyH_ready (rs := [13]) (by kernel_rfl) (by simp) (AllReadyH.cons rfl (fun K hK => ?_) AllReadyH.nil)
            go_simp
            refine hK.out _ _ (by exact HS7.out _ _ hHeld) (fun hHeld => ?_)
            clear hK K
            (try simp only [Act.put]); (try simp only [List.setIfInBounds_toArray]); (try simp only [List.set_cons_succ]); (try simp only [List.set_cons_zero])
            refine wpAnyH_done (by kernel_rfl) ?_ _
            have HE := Lib.hid y6
            clear y1 y2 y4 y5 y6 z0 z1 z2 z3 z4 z5 hs5 q1 q2 q3 q4 HF5 HNEW HROW HS0 HS7 HS8 hHeld HSA HEL k2 kA
            go_wp2
            go_ret
            exact ⟨by rw [HE0.out]; rfl, by rw [HE0.out]; first | exact HE.out _ (.inl rfl) | exact HE.out _ (.inr rfl)⟩
          · go_simp
            refine hK.out _ _ (by exact HS7.out _ _ hHeld) (fun hHeld => ?_)
            clear hK K
            (try simp only [Act.put]); (try simp only [List.setIfInBounds_toArray]); (try simp only [List.set_cons_succ]); (try simp only [List.set_cons_zero])
            refine wpAnyH_ready (rs := [10]) (by kernel_rfl) (by simp) (AllReadyH.cons rfl (fun K hK => ?_) AllReadyH.nil)
            go_simp
            refine hK.out _ _ (by exact HS8.out _ _ _ _ _ _ _ _ y5 hHeld) (fun hHeld => ?_)
            clear hK K
            (try simp only [Act.put]); (try simp only [List.setIfInBounds_toArray]); (try simp only [List.set_cons_succ]); (try simp only [List.set_cons_zero])
            refine wpAnyH_done (by kernel_rfl) ?_ _
            have HE := Lib.hid y6
            clear y1 y2 y4 y5 y6 z0 z1 z2 z3 z4 z5 hs5 q1 q2 q3 q4 HF5 HNEW HROW HS0 HS7 HS8 hHeld HSA HEL k2 kA
            go_wp2
            go_ret
            exact ⟨by rw [HE0.out]; rfl, by rw [HE0.out]; first | exact HE.out _ (.inl rfl) | exact HE.out _ (.inr rfl)⟩
      · have HE : Hid (hereR n ⟨3, nm, vl⟩ = (nd0, 12)) := by
          unfold Hid
          rw [HH.out, hyes]; rfl
        have HF : Hid (Post17 w w2 b o cur lo hi (nd0, 12)) := post_no HA.out HB2.out (by decide)
        have d0 : decide (0 ≤ (i : Int)) = true := decide_eq_true (by omega)
        clear hyes hwo hr
        go_wp2
        go_ret
        exact ⟨by rw [HE.out]; rfl, by rw [HE.out]; exact HF.out⟩
end Go.Proofs.YtfcclppgjfkfoaaGreatDoor
