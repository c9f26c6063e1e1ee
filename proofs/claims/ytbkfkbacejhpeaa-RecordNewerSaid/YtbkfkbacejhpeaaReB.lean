/- The document's Read of layer 20. Conditions: a string of at most 2^30 bytes. -/
import Derived.Test.YtbkfkbacejhpeaaReA
import Derived.Test.YtbkfkbacejhpeaaResN
import Derived.Deep.WholeRow
namespace Go.Proofs.Ytbkfkbacejhpeaa
open Go.RowKit

theorem infoRec (a b : Value) : (Try.prog.info? 23).map (·.size) = some (#[a, b] : Array Value).size := by show _ = some 2; kernel_rfl
theorem rec_one (n : Int) (s : ByteArray) : (#[.int .i64 n, .string s] : Array Value).all (·.oneCell') = true := by
  rw [Array.all_eq_true_iff_forall_mem]
  intro v hv
  simp at hv
  rcases hv with rfl | rfl <;> rfl
theorem ext_list (s : ByteArray) (a b : Nat) : (s.extract a b).data.toList = (s.data.toList.drop a).take (b - a) := by
  rw [ByteArray.data_extract, Array.toList_extract, List.extract_eq_take_drop]

set_option maxHeartbeats 3200000 in
set_option maxRecDepth 100000 in
theorem rread_any (s : ByteArray) (w : World) (hs : s.size ≤ 1073741824) :
    Calls Try.prog 10 #[.string s] w fun e w' => e = .returned (.tuple #[.agg #[.int .i64 (read20 s.data.toList).1.sr, .string (read20 s.data.toList).1.da], .int .i64 ((read20 s.data.toList).2 : Nat)]) ∧ Below w.heap.size w w' := by
  obtain ⟨W1, hW1⟩ : ∃ W1, W1 = w.alloc (.cells #[.int .i64 0, .string ⟨#[]⟩] 23) := ⟨_, rfl⟩
  obtain ⟨g2, hg2⟩ : ∃ g2, g2 = w.heap.size := ⟨_, rfl⟩
  have hB1 : Below w.heap.size w W1 := by rw [hW1]; exact (Below.refl _ _).alloc (Nat.le_refl _) _
  have hA1 : Arr W1 g2 23 #[.int .i64 0, .string ⟨#[]⟩] := by rw [hW1, hg2]; exact Arr.new w _ _
  have HG2 : Hid (w.heap.size ≤ g2) := by unfold Hid; omega
  have HA1 := Lib.hid hA1
  have HB1 := Lib.hid hB1
  clear hA1 hB1
  go_enter Try.func10, Try.ntmps10
  go_upto_region 1 with fail
  rw [← hW1, ← hg2]
  clear hW1 hg2
  by_cases q1 : s.size < 16
  · have d1 : decide ((s.size : Int) < 16) = true := decide_eq_true (by omega)
    have HE : Hid (read20 s.data.toList = (rc0, 14)) := by unfold Hid read20; rw [if_pos (by exact q1)]
    clear q1
    go_wp2_with (refine wpList_store_row rfl 23 (.tmp 2) (.tmp 13) rfl g2 #[.int .i64 0, .string ⟨#[]⟩] rfl rfl _ _ HA1.out (infoRec _ _) rfl (rec_one _ _) ?_)
    exact bodyPost_ret (results_rowN rfl _ _ g2 _ #[.int .i64 0, .string ⟨#[]⟩] _ _ rfl (HA1.out.row _) Try.underlying23 rfl (infoRec _ _)) rfl ⟨by rw [HE.out]; rfl, below_setRow HB1.out HG2.out _⟩
  have d1 : decide ((s.size : Int) < 16) = false := decide_eq_false (by omega)
  have HQ1 : Hid (16 ≤ s.size) := by unfold Hid; omega
  have hsz4 : (4 : Int) ≤ s.size := by omega
  have hsz8 : (8 : Int) ≤ s.size := by omega
  have hsz12 : (12 : Int) ≤ s.size := by omega
  have hsz16 : (16 : Int) ≤ s.size := by omega
  have HE : Hid (read20 s.data.toList = if (s.extract 0 4).data.toList ≠ mark20 then (rc0, 6)
      else if 496 < frombig (s.data.toList.drop 8) then (rc0, 7) else if (s.size : Int) - 16 < frombig (s.data.toList.drop 8) then (rc0, 14)
      else if (more 0 ((s.data.toList.drop 4).take 8 ++ (s.data.toList.drop 16).take (frombig (s.data.toList.drop 8)).toNat) : Int) ≠ frombig (s.data.toList.drop 12) then (rc0, 9)
      else (⟨frombig (s.data.toList.drop 4), ⟨((s.data.toList.drop 16).take (frombig (s.data.toList.drop 8)).toNat).toArray⟩⟩, 0)) := by
    unfold Hid read20
    rw [if_neg (show ¬ s.data.toList.length < 16 by exact q1), ext_list]
    rfl
  have HF : Hid (∀ a, a + 4 ≤ s.size → ∀ W, Calls Try.prog 22 #[.string (s.extract a s.size)] W fun e w' => e = .returned (.tuple #[.int .i64 (frombig (s.data.toList.drop a)), .bool true]) ∧ Below W.heap.size W w') := fun a ha W => by
    have h := reffrombig_yes (s.extract a s.size) W (by rw [extract_size]; omega) (by rw [extract_size]; unfold maxLen; omega)
    rw [extract_tail] at h
    exact h
  have HF4 := Lib.hid (HF.out 4 (by omega))
  have HF8 := Lib.hid (HF.out 8 (by omega))
  have HF12 := Lib.hid (HF.out 12 (by omega))
  clear q1 HF
  by_cases q2 : (s.extract 0 4).data.toList = mark20
  · have d2 : ((s.extract 0 4).toList == [80, 69, 78, 86]) = true := by rw [ByteArray.toList_eq, q2]; decide
    replace HE := Lib.hid (HE.out.trans (if_neg (not_not_intro q2)))
    have fb := frombig_bd (s.data.toList.drop 8)
    obtain ⟨fa, hfa⟩ : ∃ fa, fa = frombig (s.data.toList.drop 4) := ⟨_, rfl⟩
    obtain ⟨fn, hfn⟩ : ∃ fn, fn = frombig (s.data.toList.drop 8) := ⟨_, rfl⟩
    obtain ⟨fs, hfs⟩ : ∃ fs, fs = frombig (s.data.toList.drop 12) := ⟨_, rfl⟩
    rw [← hfa, ← hfn, ← hfs] at HE
    rw [← hfa] at HF4
    rw [← hfn] at HF8 fb
    rw [← hfs] at HF12
    clear q2 hfa hfn hfs
    go_wp2_with fail
    refine (HF4.out _).mono ?_
    rintro e w2 ⟨rfl, hb⟩
    have HA1 := Lib.hid (HA1.out.below hb HA1.out.lt)
    have HB1 := Lib.hid (HB1.out.trans (hb.mono HB1.out.size))
    clear hb HF4
    go_wp2_with fail
    refine (HF8.out _).mono ?_
    rintro e w3 ⟨rfl, hb⟩
    have HA1 := Lib.hid (HA1.out.below hb HA1.out.lt)
    have HB1 := Lib.hid (HB1.out.trans (hb.mono HB1.out.size))
    clear hb HF8
    go_wp2_with fail
    refine (HF12.out _).mono ?_
    rintro e w4 ⟨rfl, hb⟩
    have HA1 := Lib.hid (HA1.out.below hb HA1.out.lt)
    have HB1 := Lib.hid (HB1.out.trans (hb.mono HB1.out.size))
    clear hb HF12
    by_cases q3 : 496 < fn
    · have d3 : decide (496 < fn) = true := decide_eq_true q3
      replace HE : Hid (read20 s.data.toList = (rc0, 7)) := HE.out.trans (if_pos q3)
      clear q3
      go_wp2_with (refine wpList_store_row rfl 23 (.tmp 2) (.tmp 39) rfl g2 #[.int .i64 0, .string ⟨#[]⟩] rfl rfl _ _ HA1.out (infoRec _ _) rfl (rec_one _ _) ?_)
      exact bodyPost_ret (results_rowN rfl _ _ g2 _ #[.int .i64 0, .string ⟨#[]⟩] _ _ rfl (HA1.out.row _) Try.underlying23 rfl (infoRec _ _)) rfl ⟨by rw [HE.out]; rfl, below_setRow HB1.out HG2.out _⟩
    have d3 : decide (496 < fn) = false := decide_eq_false q3
    replace HE := Lib.hid (HE.out.trans (if_neg q3))
    have hw16 : IntKind.i64.wrap ((s.size : Int) - 16) = (s.size : Int) - 16 := IntWalk.i64_in _ (by omega)
    by_cases q4 : (s.size : Int) - 16 < fn
    · have d4 : decide ((s.size : Int) - 16 < fn) = true := decide_eq_true q4
      replace HE : Hid (read20 s.data.toList = (rc0, 14)) := HE.out.trans (if_pos q4)
      clear q3 q4
      go_wp2_with (refine wpList_store_row rfl 23 (.tmp 2) (.tmp 46) rfl g2 #[.int .i64 0, .string ⟨#[]⟩] rfl rfl _ _ HA1.out (infoRec _ _) rfl (rec_one _ _) ?_)
      exact bodyPost_ret (results_rowN rfl _ _ g2 _ #[.int .i64 0, .string ⟨#[]⟩] _ _ rfl (HA1.out.row _) Try.underlying23 rfl (infoRec _ _)) rfl ⟨by rw [HE.out]; rfl, below_setRow HB1.out HG2.out _⟩
    have d4 : decide ((s.size : Int) - 16 < fn) = false := decide_eq_false q4
    replace HE := Lib.hid (HE.out.trans (if_neg q4))
    obtain ⟨k, rfl⟩ : ∃ k : Nat, fn = (k : Int) := ⟨fn.toNat, by omega⟩
    rw [Int.toNat_natCast] at HE
    have hk1 : IntKind.i64.wrap (16 + (k : Int)) = 16 + (k : Int) := IntWalk.i64_in _ (by omega)
    have hk2 : 16 + (k : Int) ≤ s.size := by omega
    have hk3 : (16 : Int) ≤ 16 + (k : Int) := by omega
    have hk4 : (16 + (k : Int)).toNat = 16 + k := by omega
    have hks : 16 + k ≤ s.size := by omega
    have hDl : (s.extract 16 (16 + k)).data.toList = (s.data.toList.drop 16).take k := by rw [ext_list, Nat.add_sub_cancel_left]
    have hDz : (s.extract 16 (16 + k)).size ≤ 1073741824 := by rw [ByteArray.size_extract]; omega
    have hHl : (s.extract 4 12).data.toList = (s.data.toList.drop 4).take 8 := ext_list s 4 12
    have hHz : (s.extract 4 12).size = 8 := by rw [ByteArray.size_extract]; omega
    have hDA : (⟨((s.data.toList.drop 16).take k).toArray⟩ : ByteArray) = s.extract 16 (16 + k) := by rw [← hDl]
    obtain ⟨S2, hS2⟩ : ∃ S2 : ByteArray, S2 = ⟨((s.extract 4 12).data.toList ++ (s.extract 16 (16 + k)).data.toList).toArray⟩ := ⟨_, rfl⟩
    have a1 : ∀ W, (Op.stringOp .add (s.extract 4 12) (s.extract 16 (16 + k))).run Try.prog W = .ok (.string S2) W := fun W => by
      have := add20 (W := W) (a := (s.extract 4 12).data.toList) (b := (s.extract 16 (16 + k)).data.toList) (by show (s.extract 4 12).size + (s.extract 16 (16 + k)).size ≤ _; omega)
      rw [baA_of, baA_of, ← hS2] at this
      exact this
    have hS2l : S2.data.toList = (s.data.toList.drop 4).take 8 ++ (s.data.toList.drop 16).take k := by rw [hS2, ← hHl, ← hDl]
    have HSM : Hid (∀ W, Calls Try.prog 19 #[.string S2] W fun e w' => e = .returned (.int .i64 ((more 0 S2.data.toList : Nat) : Int)) ∧ W = w') := fun W => refsum_any S2 W (by rw [hS2, size_mk, List.length_append]; show (s.extract 4 12).size + (s.extract 16 (16 + k)).size ≤ 9223372036854775807; omega)
    rw [← hS2l, hDA] at HE
    generalize more 0 S2.data.toList = sm at *
    clear hDl hDz hHl hHz hDA hS2 hS2l q3 q4
    have hbd : Below w4.heap.size w4 w4.drew := (Below.refl _ _).drew
    have HA2 := Lib.hid (HA1.out.below hbd HA1.out.lt)
    have HB2 := Lib.hid (HB1.out.trans (hbd.mono HB1.out.size))
    clear HA1 HB1 hbd
    by_cases q5 : (sm : Int) = fs
    · have d5 : ((sm : Int) == fs) = true := by simpa using q5
      replace HE := Lib.hid (HE.out.trans (if_neg (not_not_intro q5)))
      clear q5
      go_upto_region 12 with fail
      refine wp_region_held_drew (S := fun (_ : World) => True) (by kernel_rfl) (by trivial) (fun hHeld => ?_)
      refine takeH 0 48 rfl rfl (v := ?_) (by kernel_rfl) (by kernel_rfl) (by kernel_rfl) (fun _ _ _ h => h) (Or.inl ⟨by rfl, ?_⟩) hHeld ?_
      rotate_left 1
      · (intro w hSw; (try dsimp only at hSw); go_simp; try (with_reducible rfl))
      (try simp only [Act.put]); (try simp only [List.setIfInBounds_toArray]); (try simp only [List.set_cons_succ]); (try simp only [List.set_cons_zero])
      refine takeH 1 49 rfl rfl (v := ?_) (by kernel_rfl) (by kernel_rfl) (by kernel_rfl) (fun _ _ _ h => h) (Or.inl ⟨by rfl, ?_⟩) hHeld ?_
      rotate_left 1
      · (intro w hSw; (try dsimp only at hSw); go_simp; try (with_reducible rfl))
      (try simp only [Act.put]); (try simp only [List.setIfInBounds_toArray]); (try simp only [List.set_cons_succ]); (try simp only [List.set_cons_zero])
      refine takeH 2 50 rfl rfl (v := ?_) (by kernel_rfl) (by kernel_rfl) (by kernel_rfl) (fun _ _ _ h => h) (Or.inl ⟨by rfl, ?_⟩) hHeld ?_
      rotate_left 1
      · (intro w hSw; (try dsimp only at hSw); go_simp; try (with_reducible rfl))
      (try simp only [Act.put]); (try simp only [List.setIfInBounds_toArray]); (try simp only [List.set_cons_succ]); (try simp only [List.set_cons_zero])
      refine takeH 3 51 rfl rfl (v := ?_) (by kernel_rfl) (by kernel_rfl) (by kernel_rfl) (fun _ _ _ h => h) (Or.inl ⟨by rfl, ?_⟩) hHeld ?_
      rotate_left 1
      · (intro w hSw; (try dsimp only at hSw); go_simp; try (with_reducible rfl))
      (try simp only [Act.put]); (try simp only [List.setIfInBounds_toArray]); (try simp only [List.set_cons_succ]); (try simp only [List.set_cons_zero])
      refine takeH 4 52 rfl rfl (v := ?_) (by kernel_rfl) (by kernel_rfl) (by kernel_rfl) (fun _ _ _ h => h) (Or.inl ⟨by rfl, ?_⟩) hHeld ?_
      rotate_left 1
      · (intro w hSw; (try dsimp only at hSw); go_simp; try (with_reducible rfl))
      (try simp only [Act.put]); (try simp only [List.setIfInBounds_toArray]); (try simp only [List.set_cons_succ]); (try simp only [List.set_cons_zero])
      refine takeH 5 53 rfl rfl (v := ?_) (by kernel_rfl) (by kernel_rfl) (by kernel_rfl) (fun _ _ _ h => h) (Or.inl ⟨by rfl, ?_⟩) hHeld ?_
      rotate_left 1
      · (intro w hSw; (try dsimp only at hSw); go_simp; try (with_reducible rfl))
      (try simp only [Act.put]); (try simp only [List.setIfInBounds_toArray]); (try simp only [List.set_cons_succ]); (try simp only [List.set_cons_zero])
      refine takeH 6 54 rfl rfl (v := ?_) (by kernel_rfl) (by kernel_rfl) (by kernel_rfl) (fun _ _ _ h => h) (Or.inl ⟨by rfl, ?_⟩) hHeld ?_
      rotate_left 1
      · (intro w hSw; (try dsimp only at hSw); go_simp; try (with_reducible rfl))
      (try simp only [Act.put]); (try simp only [List.setIfInBounds_toArray]); (try simp only [List.set_cons_succ]); (try simp only [List.set_cons_zero])
      refine takeH 8 56 rfl rfl (v := ?_) (by kernel_rfl) (by kernel_rfl) (by kernel_rfl) (fun _ _ _ h => h) (Or.inl ⟨by rfl, ?_⟩) hHeld ?_
      rotate_left 1
      · (intro w hSw; (try dsimp only at hSw); go_simp; try (with_reducible rfl))
      (try simp only [Act.put]); (try simp only [List.setIfInBounds_toArray]); (try simp only [List.set_cons_succ]); (try simp only [List.set_cons_zero])
      refine wpAnyH_ready (rs := [7]) (by kernel_rfl) (by simp) (AllReadyH.cons rfl (fun K hK => ?_) AllReadyH.nil)
      go_simp
      refine (HSM.out _).mono ?_
      rintro e w5 ⟨rfl, rfl⟩
      (try dsimp only)
      refine hK.out _ _ (by trivial) (fun hHeld => ?_)
      clear hK K
      (try simp only [Act.put]); (try simp only [List.setIfInBounds_toArray]); (try simp only [List.set_cons_succ]); (try simp only [List.set_cons_zero])
      refine takeH 9 57 rfl rfl (v := ?_) (by kernel_rfl) (by kernel_rfl) (by kernel_rfl) (fun _ _ _ h => h) (Or.inl ⟨by rfl, ?_⟩) hHeld ?_
      rotate_left 1
      · (intro w hSw; (try dsimp only at hSw); go_simp; try (with_reducible rfl))
      (try simp only [Act.put]); (try simp only [List.setIfInBounds_toArray]); (try simp only [List.set_cons_succ]); (try simp only [List.set_cons_zero])
      refine wpAnyH_ready (rs := [10]) (by kernel_rfl) (by simp) (AllReadyH.cons rfl (fun K hK => ?_) AllReadyH.nil)
      go_simp
      refine hK.out _ _ (by trivial) (fun hHeld => ?_)
      clear hK K
      (try simp only [Act.put]); (try simp only [List.setIfInBounds_toArray]); (try simp only [List.set_cons_succ]); (try simp only [List.set_cons_zero])
      refine wpAnyH_done (by kernel_rfl) ?_ _
      go_wp2_with (refine wpList_store_row rfl 23 (.tmp 2) (.tmp 64) rfl g2 #[.int .i64 fa, .string (s.extract 16 (16 + k))] rfl rfl _ _ HA2.out (infoRec _ _) rfl (rec_one _ _) ?_)
      exact bodyPost_ret (results_rowN rfl _ _ g2 _ #[.int .i64 fa, .string (s.extract 16 (16 + k))] _ _ rfl (HA2.out.row _) Try.underlying23 rfl (infoRec _ _)) rfl ⟨by rw [HE.out]; rfl, below_setRow HB2.out HG2.out _⟩
    · have d5 : ((sm : Int) == fs) = false := by simpa using q5
      have d6 : ((sm : Int) != fs) = true := by simpa using q5
      replace HE : Hid (read20 s.data.toList = (rc0, 9)) := HE.out.trans (if_pos q5)
      clear q5
      go_upto_region 12 with fail
      refine wp_region_held_drew (S := fun (_ : World) => True) (by kernel_rfl) (by trivial) (fun hHeld => ?_)
      refine takeH 0 48 rfl rfl (v := ?_) (by kernel_rfl) (by kernel_rfl) (by kernel_rfl) (fun _ _ _ h => h) (Or.inl ⟨by rfl, ?_⟩) hHeld ?_
      rotate_left 1
      · (intro w hSw; (try dsimp only at hSw); go_simp; try (with_reducible rfl))
      (try simp only [Act.put]); (try simp only [List.setIfInBounds_toArray]); (try simp only [List.set_cons_succ]); (try simp only [List.set_cons_zero])
      refine takeH 1 49 rfl rfl (v := ?_) (by kernel_rfl) (by kernel_rfl) (by kernel_rfl) (fun _ _ _ h => h) (Or.inl ⟨by rfl, ?_⟩) hHeld ?_
      rotate_left 1
      · (intro w hSw; (try dsimp only at hSw); go_simp; try (with_reducible rfl))
      (try simp only [Act.put]); (try simp only [List.setIfInBounds_toArray]); (try simp only [List.set_cons_succ]); (try simp only [List.set_cons_zero])
      refine takeH 2 50 rfl rfl (v := ?_) (by kernel_rfl) (by kernel_rfl) (by kernel_rfl) (fun _ _ _ h => h) (Or.inl ⟨by rfl, ?_⟩) hHeld ?_
      rotate_left 1
      · (intro w hSw; (try dsimp only at hSw); go_simp; try (with_reducible rfl))
      (try simp only [Act.put]); (try simp only [List.setIfInBounds_toArray]); (try simp only [List.set_cons_succ]); (try simp only [List.set_cons_zero])
      refine takeH 3 51 rfl rfl (v := ?_) (by kernel_rfl) (by kernel_rfl) (by kernel_rfl) (fun _ _ _ h => h) (Or.inl ⟨by rfl, ?_⟩) hHeld ?_
      rotate_left 1
      · (intro w hSw; (try dsimp only at hSw); go_simp; try (with_reducible rfl))
      (try simp only [Act.put]); (try simp only [List.setIfInBounds_toArray]); (try simp only [List.set_cons_succ]); (try simp only [List.set_cons_zero])
      refine takeH 4 52 rfl rfl (v := ?_) (by kernel_rfl) (by kernel_rfl) (by kernel_rfl) (fun _ _ _ h => h) (Or.inl ⟨by rfl, ?_⟩) hHeld ?_
      rotate_left 1
      · (intro w hSw; (try dsimp only at hSw); go_simp; try (with_reducible rfl))
      (try simp only [Act.put]); (try simp only [List.setIfInBounds_toArray]); (try simp only [List.set_cons_succ]); (try simp only [List.set_cons_zero])
      refine takeH 5 53 rfl rfl (v := ?_) (by kernel_rfl) (by kernel_rfl) (by kernel_rfl) (fun _ _ _ h => h) (Or.inl ⟨by rfl, ?_⟩) hHeld ?_
      rotate_left 1
      · (intro w hSw; (try dsimp only at hSw); go_simp; try (with_reducible rfl))
      (try simp only [Act.put]); (try simp only [List.setIfInBounds_toArray]); (try simp only [List.set_cons_succ]); (try simp only [List.set_cons_zero])
      refine takeH 6 54 rfl rfl (v := ?_) (by kernel_rfl) (by kernel_rfl) (by kernel_rfl) (fun _ _ _ h => h) (Or.inl ⟨by rfl, ?_⟩) hHeld ?_
      rotate_left 1
      · (intro w hSw; (try dsimp only at hSw); go_simp; try (with_reducible rfl))
      (try simp only [Act.put]); (try simp only [List.setIfInBounds_toArray]); (try simp only [List.set_cons_succ]); (try simp only [List.set_cons_zero])
      refine takeH 8 56 rfl rfl (v := ?_) (by kernel_rfl) (by kernel_rfl) (by kernel_rfl) (fun _ _ _ h => h) (Or.inl ⟨by rfl, ?_⟩) hHeld ?_
      rotate_left 1
      · (intro w hSw; (try dsimp only at hSw); go_simp; try (with_reducible rfl))
      (try simp only [Act.put]); (try simp only [List.setIfInBounds_toArray]); (try simp only [List.set_cons_succ]); (try simp only [List.set_cons_zero])
      refine wpAnyH_ready (rs := [7]) (by kernel_rfl) (by simp) (AllReadyH.cons rfl (fun K hK => ?_) AllReadyH.nil)
      go_simp
      refine (HSM.out _).mono ?_
      rintro e w5 ⟨rfl, rfl⟩
      (try dsimp only)
      refine hK.out _ _ (by trivial) (fun hHeld => ?_)
      clear hK K
      (try simp only [Act.put]); (try simp only [List.setIfInBounds_toArray]); (try simp only [List.set_cons_succ]); (try simp only [List.set_cons_zero])
      refine takeH 9 57 rfl rfl (v := ?_) (by kernel_rfl) (by kernel_rfl) (by kernel_rfl) (fun _ _ _ h => h) (Or.inl ⟨by rfl, ?_⟩) hHeld ?_
      rotate_left 1
      · (intro w hSw; (try dsimp only at hSw); go_simp; try (with_reducible rfl))
      (try simp only [Act.put]); (try simp only [List.setIfInBounds_toArray]); (try simp only [List.set_cons_succ]); (try simp only [List.set_cons_zero])
      refine wpAnyH_ready (rs := [10]) (by kernel_rfl) (by simp) (AllReadyH.cons rfl (fun K hK => ?_) AllReadyH.nil)
      go_simp
      refine hK.out _ _ (by trivial) (fun hHeld => ?_)
      clear hK K
      (try simp only [Act.put]); (try simp only [List.setIfInBounds_toArray]); (try simp only [List.set_cons_succ]); (try simp only [List.set_cons_zero])
      refine wpAnyH_done (by kernel_rfl) ?_ _
      go_wp2_with (refine wpList_store_row rfl 23 (.tmp 2) (.tmp 58) rfl g2 #[.int .i64 0, .string ⟨#[]⟩] rfl rfl _ _ HA2.out (infoRec _ _) rfl (rec_one _ _) ?_)
      exact bodyPost_ret (results_rowN rfl _ _ g2 _ #[.int .i64 0, .string ⟨#[]⟩] _ _ rfl (HA2.out.row _) Try.underlying23 rfl (infoRec _ _)) rfl ⟨by rw [HE.out]; rfl, below_setRow HB2.out HG2.out _⟩
  · have d2 : ((s.extract 0 4).toList == [80, 69, 78, 86]) = false := by rw [ByteArray.toList_eq]; simpa [mark20] using q2
    replace HE : Hid (read20 s.data.toList = (rc0, 6)) := HE.out.trans (if_pos q2)
    clear q2 HF4 HF8 HF12
    go_wp2_with (refine wpList_store_row rfl 23 (.tmp 2) (.tmp 17) rfl g2 #[.int .i64 0, .string ⟨#[]⟩] rfl rfl _ _ HA1.out (infoRec _ _) rfl (rec_one _ _) ?_)
    exact bodyPost_ret (results_rowN rfl _ _ g2 _ #[.int .i64 0, .string ⟨#[]⟩] _ _ rfl (HA1.out.row _) Try.underlying23 rfl (infoRec _ _)) rfl ⟨by rw [HE.out]; rfl, below_setRow HB1.out HG2.out _⟩
end Go.Proofs.Ytbkfkbacejhpeaa
