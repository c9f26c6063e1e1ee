/- What package record's Read returns; package record keeps its contracts. Conditions: a string of at most 2^30 bytes. -/
import Derived.Test.YtbkfkbacejhpeaaReY
import Derived.Test.YtbkfkbacejhpeaaNumC
import Derived.Test.YtbkfkbacejhpeaaReB
import Derived.Deep.QuietTactic
namespace Go.Proofs.Ytbkfkbacejhpeaa
open Go.RowKit

theorem frombig_take (l : List UInt8) {k : Nat} (h : 4 ≤ k) : frombig (l.take k) = frombig l := by
  unfold frombig
  simp only [List.getD_eq_getElem?_getD]
  rw [List.getElem?_take_of_lt (by omega), List.getElem?_take_of_lt (by omega), List.getElem?_take_of_lt (by omega), List.getElem?_take_of_lt (by omega)]
theorem big_at (l : List UInt8) (h : 4 ≤ l.length) : big (frombig l) = l.take 4 := by
  rw [← frombig_take l (Nat.le_refl 4)]
  exact big_frombig (by rw [List.length_take]; omega)
theorem head_of {l : List UInt8} (h : 16 ≤ l.length) {k : Nat} (hk : frombig (l.drop 8) = (k : Int)) : head20 (frombig (l.drop 4)) k = (l.drop 4).take 8 := by
  unfold head20
  rw [← hk, big_at _ (by rw [List.length_drop]; omega), big_at _ (by rw [List.length_drop]; omega)]
  rw [show (8 : Nat) = 4 + 4 from rfl, List.take_add, List.drop_drop]
theorem three_of {w : World} {base : Nat} {v : Value} {a b c : Int} (h : w.ownsRow base 3 1 v 3 [.int .i64 a, .int .i64 b, .int .i64 c]) :
    ∃ g cap, v = .slice (some ⟨g, 0, none⟩) 3 cap ∧ w.cell? ⟨g, 0, none⟩ = some (.int .i64 a) ∧ w.cell? ⟨g, 1, none⟩ = some (.int .i64 b) ∧ w.cell? ⟨g, 2, none⟩ = some (.int .i64 c) := by
  rcases h.2 with ⟨_, hz⟩ | ⟨g, cap, cur, rfl, hb, hg, _, _, _, hx⟩
  · cases hz
  · have at_ : ∀ (k : Nat) (u : Value), k < 3 → ([.int .i64 a, .int .i64 b, .int .i64 c] : List Value)[k]? = some u → w.cell? ⟨g, k, none⟩ = some u := fun k u hk hu => by
      rw [cell_of_row w g k cur _ (0, 0) hg, ← Array.getElem?_toList]
      have e : (cur.toList.take (3 * 1))[k]? = ([.int .i64 a, .int .i64 b, .int .i64 c] : List Value)[k]? := by rw [hx]
      rw [List.getElem?_take_of_lt (by omega), hu] at e
      exact e
    exact ⟨g, cap, rfl, at_ 0 _ (by omega) rfl, at_ 1 _ (by omega) rfl, at_ 2 _ (by omega) rfl⟩

set_option maxHeartbeats 3200000 in
set_option maxRecDepth 100000 in
theorem read_any (s : ByteArray) (w : World) (hs : s.size ≤ 1073741824) :
    Calls Try.prog 9 #[.string s] w fun e w' => e = .returned (.tuple #[.agg #[.int .i64 (read20 s.data.toList).1.sr, .string (read20 s.data.toList).1.da], .int .i64 ((read20 s.data.toList).2 : Nat)]) ∧ Below w.heap.size w w' := by
  obtain ⟨W1, hW1⟩ : ∃ W1, W1 = w.alloc (.cells #[.int .i64 0, .string ⟨#[]⟩] 23) := ⟨_, rfl⟩
  obtain ⟨g2, hg2⟩ : ∃ g2, g2 = w.heap.size := ⟨_, rfl⟩
  have hB1 : Below w.heap.size w W1 := by rw [hW1]; exact (Below.refl _ _).alloc (Nat.le_refl _) _
  have hA1 : Arr W1 g2 23 #[.int .i64 0, .string ⟨#[]⟩] := by rw [hW1, hg2]; exact Arr.new w _ _
  have HG2 : Hid (w.heap.size ≤ g2) := by unfold Hid; omega
  have HA1 := Lib.hid hA1
  have HB1 := Lib.hid hB1
  clear hA1 hB1
  go_enter Try.func9, Try.ntmps9
  go_upto_region 1 with fail
  rw [← hW1, ← hg2]
  clear hW1 hg2
  by_cases q1 : s.size < 16
  · have d1 : decide ((s.size : Int) < 16) = true := decide_eq_true (by omega)
    have HE : Hid (read20 s.data.toList = (rc0, 14)) := by unfold Hid read20; rw [if_pos (by exact q1)]
    clear q1
    go_wp2_with (refine wpList_store_row rfl 23 (.tmp 2) (.tmp 15) rfl g2 #[.int .i64 0, .string ⟨#[]⟩] rfl rfl _ _ HA1.out (infoRec _ _) rfl (rec_one _ _) ?_)
    exact bodyPost_ret (results_rowN rfl _ _ g2 _ #[.int .i64 0, .string ⟨#[]⟩] _ _ rfl (HA1.out.row _) Try.underlying23 rfl (infoRec _ _)) rfl ⟨by rw [HE.out]; rfl, below_setRow HB1.out HG2.out _⟩
  have d1 : decide ((s.size : Int) < 16) = false := decide_eq_false (by omega)
  have hl16 : 16 ≤ s.data.toList.length := by show 16 ≤ s.size; omega
  have HE : Hid (read20 s.data.toList = if s.data.toList.take 4 ≠ mark20 then (rc0, 6)
      else if 496 < frombig (s.data.toList.drop 8) then (rc0, 7) else if (s.size : Int) - 16 < frombig (s.data.toList.drop 8) then (rc0, 14)
      else if (more 0 ((s.data.toList.drop 4).take 8 ++ (s.data.toList.drop 16).take (frombig (s.data.toList.drop 8)).toNat) : Int) ≠ frombig (s.data.toList.drop 12) then (rc0, 9)
      else (⟨frombig (s.data.toList.drop 4), ⟨((s.data.toList.drop 16).take (frombig (s.data.toList.drop 8)).toNat).toArray⟩⟩, 0)) := by
    unfold Hid read20
    rw [if_neg (show ¬ s.data.toList.length < 16 by omega)]
    rfl
  have hpre : Lib.hasPrefix s.data.toList [80, 69, 78, 86] = decide (s.data.toList.take 4 = mark20) := by
    rw [Bool.eq_iff_iff, decide_eq_true_iff]
    unfold Lib.hasPrefix
    rw [List.isPrefixOf_iff_prefix, List.prefix_iff_eq_take]
    exact ⟨fun h => h.symm, fun h => h.symm⟩
  by_cases q2 : s.data.toList.take 4 = mark20
  · replace HE := Lib.hid (HE.out.trans (if_neg (not_not_intro q2)))
    obtain ⟨B, hB⟩ : ∃ B : ByteArray, B = ⟨(s.data.toList.drop 4).toArray⟩ := ⟨_, rfl⟩
    have hBl : B.data.toList = s.data.toList.drop 4 := by rw [hB]
    have hBz : B.size = s.size - 4 := by rw [hB, size_mk, List.length_drop]; rfl
    have HCP : Hid (∀ W, Calls Try.prog 20 #[.string s, .string ⟨#[80, 69, 78, 86]⟩] W fun e w' => e = .returned (.tuple #[.string B, .bool true]) ∧ w' = W) := fun W => by
      have h := Try.strings_CutPrefix s ⟨#[80, 69, 78, 86]⟩ W
      have e1 : Lib.hasPrefix s.data.toList (ByteArray.mk #[80, 69, 78, 86]).data.toList = true := by show Lib.hasPrefix s.data.toList [80, 69, 78, 86] = true; rw [hpre, q2]; exact decide_eq_true rfl
      have e2 : Lib.trimPrefix s.data.toList (ByteArray.mk #[80, 69, 78, 86]).data.toList = s.data.toList.drop 4 := by unfold Lib.trimPrefix; rw [e1]; rfl
      rw [e1, e2, ← hB] at h
      exact h
    have hlB : 12 ≤ B.data.toList.length := by rw [hBl, List.length_drop]; omega
    have fb := frombig_bd (s.data.toList.drop 8)
    obtain ⟨k, hk⟩ : ∃ k : Nat, frombig (s.data.toList.drop 8) = (k : Int) := ⟨_, (Int.toNat_of_nonneg fb.1).symm⟩
    have hhd := head_of hl16 hk
    have HFB : Hid (∀ W, Calls Try.prog 21 #[.string (B.extract 0 12)] W fun e w' => ∃ g cap, e = .returned (.tuple #[.slice (some ⟨g, 0, none⟩) 3 cap, .bool true]) ∧ w'.cell? ⟨g, 0, none⟩ = some (.int .i64 (frombig (s.data.toList.drop 4))) ∧ w'.cell? ⟨g, 1, none⟩ = some (.int .i64 (k : Int)) ∧ w'.cell? ⟨g, 2, none⟩ = some (.int .i64 (frombig (s.data.toList.drop 12))) ∧ Below W.heap.size W w') := fun W => by
      refine (frombigs_yes (B.extract 0 12) 3 W (by rw [ByteArray.size_extract]; omega) (by rw [ByteArray.size_extract]; omega)).mono ?_
      rintro e w' ⟨v, rfl, ho, hb⟩
      have hx : (B.extract 0 12).data.toList = (s.data.toList.drop 4).take 12 := by rw [ext_list, hBl, List.drop_zero]
      have hn : intVals (numsB (B.extract 0 12).data.toList 3) = [.int .i64 (frombig (s.data.toList.drop 4)), .int .i64 (k : Int), .int .i64 (frombig (s.data.toList.drop 12))] := by
        rw [hx]
        show [Value.int .i64 (frombig (((s.data.toList.drop 4).take 12).drop 0)), .int .i64 (frombig (((s.data.toList.drop 4).take 12).drop 4)), .int .i64 (frombig (((s.data.toList.drop 4).take 12).drop 8))] = _
        rw [List.drop_zero, List.drop_take, List.drop_take, List.drop_drop, List.drop_drop, frombig_take _ (by omega), frombig_take _ (by omega), frombig_take _ (by omega), ← hk]
      rw [hn] at ho
      obtain ⟨g, cap, rfl, h0, h1, h2⟩ := three_of ho
      exact ⟨g, cap, rfl, h0, h1, h2, hb⟩
    have HDL : Hid ((B.extract 12 B.size).data.toList = s.data.toList.drop 16) := by
      unfold Hid
      rw [ext_list, hBl, List.drop_drop]
      exact List.take_of_length_le (by rw [List.length_drop]; show s.size - 16 ≤ B.size - 12; omega)
    have HDZ : Hid ((B.extract 12 B.size).size = s.size - 16) := by unfold Hid; rw [ByteArray.size_extract]; omega
    obtain ⟨fa, hfa⟩ : ∃ fa, fa = frombig (s.data.toList.drop 4) := ⟨_, rfl⟩
    obtain ⟨fs, hfs⟩ : ∃ fs, fs = frombig (s.data.toList.drop 12) := ⟨_, rfl⟩
    rw [← hfa, ← hfs, hk, Int.toNat_natCast, ← hhd, ← hfa] at HE
    rw [← hfa, ← hfs] at HFB
    have hB12 : (12 : Int) ≤ B.size := by omega
    have HS16 : Hid (16 ≤ s.size) := by unfold Hid; omega
    clear hpre q2 hB hBl hBz hlB hk hhd hfa hfs fb hl16 q1
    go_wp2_with fail
    refine (HCP.out _).mono ?_
    rintro e w2 ⟨rfl, rfl⟩
    go_wp2_with fail
    refine (HFB.out _).mono ?_
    rintro e w3 ⟨g, cap, rfl, c0, c1, c2, hb⟩
    have HA1 := Lib.hid (HA1.out.below hb HA1.out.lt)
    have HB1 := Lib.hid (HB1.out.trans (hb.mono HB1.out.size))
    clear hb HFB HCP
    have b0 : (0 : Int) < (3 : Nat) := by decide
    have b1 : (1 : Int) < (3 : Nat) := by decide
    have b2 : (2 : Int) < (3 : Nat) := by decide
    go_upto_region 7 with fail
    go_quiet (fail)
    clear c0 c1 c2
    have hbd : Below w3.heap.size w3 (w3.drewN nq) := below_drewN w3 nq
    generalize w3.drewN nq = w9 at hbd ⊢
    have HA1 := Lib.hid (HA1.out.below hbd HA1.out.lt)
    have HB1 := Lib.hid (HB1.out.trans (hbd.mono HB1.out.size))
    clear hbd
    go_upto_region 9 with fail
    generalize B.extract 12 B.size = D at *
    have HDI : Hid ((D.size : Int) = (s.size : Int) - 16) := by
      have h1 := HDZ.out; have h2 := HS16.out
      unfold Hid; omega
    rw [← HDI.out, ← HDL.out] at HE
    clear HDL HDZ hB12
    by_cases q3 : 496 < (k : Int)
    · have d3 : decide (496 < (k : Int)) = true := decide_eq_true q3
      have f3 : decide (496 < k) = true := decide_eq_true (by omega)
      replace HE : Hid (read20 s.data.toList = (rc0, 7)) := HE.out.trans (if_pos q3)
      clear q3
      go_wp2_with (refine wpList_store_row rfl 23 (.tmp 2) (.tmp 44) rfl g2 #[.int .i64 0, .string ⟨#[]⟩] rfl rfl _ _ HA1.out (infoRec _ _) rfl (rec_one _ _) ?_)
      exact bodyPost_ret (results_rowN rfl _ _ g2 _ #[.int .i64 0, .string ⟨#[]⟩] _ _ rfl (HA1.out.row _) Try.underlying23 rfl (infoRec _ _)) rfl ⟨by rw [HE.out]; rfl, below_setRow HB1.out HG2.out _⟩
    have d3 : decide (496 < (k : Int)) = false := decide_eq_false q3
    have f3 : decide (496 < k) = false := decide_eq_false (by omega)
    replace HE := Lib.hid (HE.out.trans (if_neg q3))
    by_cases q4 : (D.size : Int) < (k : Int)
    · have d4 : decide ((D.size : Int) < (k : Int)) = true := decide_eq_true q4
      have f4 : decide (D.size < k) = true := decide_eq_true (by omega)
      replace HE : Hid (read20 s.data.toList = (rc0, 14)) := HE.out.trans (if_pos q4)
      clear q3 q4
      go_wp2_with (refine wpList_store_row rfl 23 (.tmp 2) (.tmp 50) rfl g2 #[.int .i64 0, .string ⟨#[]⟩] rfl rfl _ _ HA1.out (infoRec _ _) rfl (rec_one _ _) ?_)
      exact bodyPost_ret (results_rowN rfl _ _ g2 _ #[.int .i64 0, .string ⟨#[]⟩] _ _ rfl (HA1.out.row _) Try.underlying23 rfl (infoRec _ _)) rfl ⟨by rw [HE.out]; rfl, below_setRow HB1.out HG2.out _⟩
    have d4 : decide ((D.size : Int) < (k : Int)) = false := decide_eq_false q4
    have f4 : decide (D.size < k) = false := decide_eq_false (by omega)
    replace HE := Lib.hid (HE.out.trans (if_neg q4))
    have hkD : (k : Int) ≤ D.size := by omega
    have hkz : (D.extract 0 k).size = k := by rw [ByteArray.size_extract]; omega
    have HCS : Hid (∀ W, Calls Try.prog 16 #[.int .i64 fa, .string (D.extract 0 k)] W fun e w' => e = .returned (.int .i64 ((more 0 (head20 fa k ++ D.data.toList.take k) : Nat) : Int)) ∧ Below W.heap.size W w') := fun W => by
      have h := checksum_any fa (D.extract 0 k) W (by omega)
      have e : sum20 fa (D.extract 0 k).data.toList = more 0 (head20 fa k ++ D.data.toList.take k) := by
        unfold sum20
        rw [show (D.extract 0 k).data.toList.length = (D.extract 0 k).size from rfl, hkz, ext_list, List.drop_zero, Nat.sub_zero]
      rw [e] at h
      exact h
    have hDA : (⟨(D.data.toList.take k).toArray⟩ : ByteArray) = D.extract 0 k := by
      have e : (D.extract 0 k).data.toList = D.data.toList.take k := by rw [ext_list, List.drop_zero, Nat.sub_zero]
      rw [← e]
    rw [hDA] at HE
    generalize more 0 (head20 fa k ++ D.data.toList.take k) = sm at *
    have hk0 : (0 : Int) ≤ (k : Int) := by omega
    clear hDA hkz q3 q4 HDI
    by_cases q5 : (sm : Int) = fs
    · have d5 : (fs == (sm : Int)) = true := by simpa using q5.symm
      have d6 : (fs != (sm : Int)) = false := by simpa using q5.symm
      replace HE := Lib.hid (HE.out.trans (if_neg (not_not_intro q5)))
      clear q5
      go_wp2_with fail
      refine (HCS.out _).mono ?_
      rintro e w4 ⟨rfl, hb⟩
      have HA1 := Lib.hid (HA1.out.below hb HA1.out.lt)
      have HB1 := Lib.hid (HB1.out.trans (hb.mono HB1.out.size))
      clear hb HCS
      go_wp2_with (refine wpList_store_row rfl 23 (.tmp 2) (.tmp 64) rfl g2 #[.int .i64 fa, .string (D.extract 0 k)] rfl rfl _ _ HA1.out (infoRec _ _) rfl (rec_one _ _) ?_)
      exact bodyPost_ret (results_rowN rfl _ _ g2 _ #[.int .i64 fa, .string (D.extract 0 k)] _ _ rfl (HA1.out.row _) Try.underlying23 rfl (infoRec _ _)) rfl ⟨by rw [HE.out]; rfl, below_setRow HB1.out HG2.out _⟩
    · have d5 : (fs == (sm : Int)) = false := by simpa using fun h => q5 h.symm
      have d6 : (fs != (sm : Int)) = true := by simpa using fun h => q5 h.symm
      replace HE : Hid (read20 s.data.toList = (rc0, 9)) := HE.out.trans (if_pos q5)
      clear q5
      go_wp2_with fail
      refine (HCS.out _).mono ?_
      rintro e w4 ⟨rfl, hb⟩
      have HA1 := Lib.hid (HA1.out.below hb HA1.out.lt)
      have HB1 := Lib.hid (HB1.out.trans (hb.mono HB1.out.size))
      clear hb HCS
      go_wp2_with (refine wpList_store_row rfl 23 (.tmp 2) (.tmp 59) rfl g2 #[.int .i64 0, .string ⟨#[]⟩] rfl rfl _ _ HA1.out (infoRec _ _) rfl (rec_one _ _) ?_)
      exact bodyPost_ret (results_rowN rfl _ _ g2 _ #[.int .i64 0, .string ⟨#[]⟩] _ _ rfl (HA1.out.row _) Try.underlying23 rfl (infoRec _ _)) rfl ⟨by rw [HE.out]; rfl, below_setRow HB1.out HG2.out _⟩
  · replace HE := Lib.hid (HE.out.trans (if_pos q2))
    have HCP : Hid (∀ W, Calls Try.prog 20 #[.string s, .string ⟨#[80, 69, 78, 86]⟩] W fun e w' => e = .returned (.tuple #[.string s, .bool false]) ∧ w' = W) := fun W => by
      have h := Try.strings_CutPrefix s ⟨#[80, 69, 78, 86]⟩ W
      have e1 : Lib.hasPrefix s.data.toList (ByteArray.mk #[80, 69, 78, 86]).data.toList = false := by show Lib.hasPrefix s.data.toList [80, 69, 78, 86] = false; rw [hpre]; exact decide_eq_false q2
      have e2 : Lib.trimPrefix s.data.toList (ByteArray.mk #[80, 69, 78, 86]).data.toList = s.data.toList := by unfold Lib.trimPrefix; rw [e1]; rfl
      rw [e1, e2, baA_of] at h
      exact h
    clear hpre q2 hl16 q1
    go_wp2_with fail
    refine (HCP.out _).mono ?_
    rintro e w2 ⟨rfl, rfl⟩
    go_wp2_with (refine wpList_store_row rfl 23 (.tmp 2) (.tmp 23) rfl g2 #[.int .i64 0, .string ⟨#[]⟩] rfl rfl _ _ HA1.out (infoRec _ _) rfl (rec_one _ _) ?_)
    exact bodyPost_ret (results_rowN rfl _ _ g2 _ #[.int .i64 0, .string ⟨#[]⟩] _ _ rfl (HA1.out.row _) Try.underlying23 rfl (infoRec _ _)) rfl ⟨by rw [HE.out]; rfl, below_setRow HB1.out HG2.out _⟩

theorem record_must : RecordMust where
  body := fun r w _ h => body_any r w (by omega)
  read := fun s w h => read_any s w (by omega)
  newer := fun a b w _ _ => newer_any a b w
  next := fun n w _ => next_any n w
end Go.Proofs.Ytbkfkbacejhpeaa
