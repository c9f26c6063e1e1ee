/- What num.FromBigs returns for every string of at most 2^40 bytes, and what the document's SameInts returns for two slices of the same numbers. -/
import Derived.Test.YtfcclppgjfkfoaaGreatDoorMg2
import Derived.Test.YtfcclppgjfkfoaaGreatDoorMg3
import Derived.Test.YtfcclppgjfkfoaaGreatDoorMg36
namespace Go.Proofs.YtfcclppgjfkfoaaGreatDoor
open Go.RowKit

set_option maxHeartbeats 800000 in
set_option maxRecDepth 100000 in
theorem frombigs_yes (s : ByteArray) (m : Nat) (w : World) (hm : s.size = 4 * m) (hl : s.size ≤ 1099511627776) :
    Calls Tryz.prog 36 #[.string s] w fun e w' => ∃ v, e = .returned (.tuple #[v, .bool true]) ∧ w'.ownsRow w.heap.size 3 1 v m (intVals (numsB s.data.toList m)) ∧ Below w.heap.size w w' := by
  obtain ⟨i0, hi, hz0, hz1, hz2⟩ := info_int
  have HI := Lib.hid hi; have HZ0 := Lib.hid hz0; have HZ1 := Lib.hid hz1; have HZ2 := Lib.hid hz2
  clear hi hz0 hz1 hz2
  have hmod : (((s.size : Int) % 4) != 0) = false := by
    have : (s.size : Int) % 4 = 0 := by omega
    simp [this]
  have HM := Lib.hid hm
  have hm1 : s.size ≤ 4 * m := by omega
  have hm2 : 4 * m ≤ s.size := by omega
  clear hm
  go_enter Tryz.func36, Tryz.ntmps36
  go_wp2
  go_loopw [4, 5] (fun v i wr => ∃ k : Nat, k ≤ m ∧ i = .int .i64 ((4 * k : Nat) : Int) ∧ wr.ownsRow w.heap.size 3 1 v k (intVals (numsB s.data.toList k)) ∧ Below w.heap.size w wr)
    (fun _ i _ => s.size - (intOf i).toNat)
  case atStart => exact ⟨0, Nat.zero_le _, rfl, World.ownsRow_nil _ _ _ _, Below.refl _ _⟩
  case round =>
    obtain ⟨k, hk, rfl, hown, hb⟩ := hrel
    have hsz := hb.size
    by_cases hlt : k < m
    · go_wp2_with fail
      refine (frombig_yes _ _ (by rw [extract_size]; omega) (by rw [extract_size]; unfold maxLen; omega)).mono ?_
      rintro e w1 ⟨rfl, hb1⟩
      have hE := extract_tail s (4 * k)
      rw [hE]
      clear hE
      have hown1 := ownsRow_below hown hb1
      have hb2 : Below w.heap.size w w1 := hb.trans (hb1.mono hsz)
      have hs1 := hb2.size
      have HS := Lib.hid (intVals_numsB_succ s.data.toList k)
      generalize frombig (s.data.toList.drop (4 * k)) = x at HS ⊢
      clear hown hb hb1
      go_wp2_with (at_builtin; refine wpList_append_own _ rfl _ _ 75 rfl w.heap.size 3 i0 (.int .i64 0) 1 8 Tryz.underlying75 HI.out HZ0.out HZ1.out HZ2.out rfl (by decide) _ _ _ rfl (hown1.alloc _) ⟨w1.heap.size, 0, none⟩ 1 1 [.int .i64 x] rfl rfl ?c1 ?c2 ?c3 ?c4 ?c5 ?_)
      case c1 =>
        intro j u hj
        match j, hj with
        | 0, hj => simp at hj; subst hj; simp [Addr.add]
      case c2 => intro u hu; simp at hu; subst hu; rfl
      case c3 => unfold maxLen; omega
      case c4 => omega
      case c5 => simp; omega
      · intro v' w2 hown' hgrow _
        have hb3 : Below w.heap.size w w2 := (hb2.alloc hs1 _).grown hgrow (by simp; omega) (fun g hg => (hown1.lt g hg).1)
        clear hown1 hgrow hb2
        go_wp2
        go_roundw
        case rel => exact ⟨k + 1, by omega, by go_num, by rw [HS.out]; exact hown', hb3⟩
        case measure => simp [intOf]; omega
    · have hkl : k = m := by omega
      subst hkl
      go_wp2
      go_ret2
      exact ⟨_, rfl, hown, hb⟩

set_option maxHeartbeats 400000 in
theorem frombigs_no (s : ByteArray) (w : World) (hm : s.size % 4 ≠ 0) (hl : s.size ≤ 1099511627776) :
    Calls Tryz.prog 36 #[.string s] w fun e w' => e = .returned (.tuple #[.slice none 0 0, .bool false]) ∧ w = w' := by
  have hmod : (((s.size : Int) % 4) != 0) = true := by
    have : ¬ (s.size : Int) % 4 = 0 := by omega
    simp [this]
  clear hm
  go_enter Tryz.func36, Tryz.ntmps36
  go_wp2
  go_ret2
  exact ⟨rfl, rfl⟩

end Go.Proofs.YtfcclppgjfkfoaaGreatDoor

/- The program's Read of layer 11. Conditions: strings of at most 2^40 bytes. -/
namespace Go.Proofs.YtfcclppgjfkfoaaGreatDoor
open Go.RowKit

theorem in64_of32 {x : Int} (h : 0 ≤ x ∧ x < 4294967296) : in64 x := by unfold in64; omega

set_option maxHeartbeats 3200000 in
set_option maxRecDepth 100000 in
theorem hread_any (s : ByteArray) (w : World) (hs : s.size ≤ maxLen) :
    Calls Tryz.prog 14 #[.string s] w fun e w' => e = .returned (.tuple #[.agg (hdC (readH s.data.toList).1), .int .i64 ((readH s.data.toList).2 : Int)]) ∧ Below w.heap.size w w' := by
  have HB := Lib.hid ((Below.refl w.heap.size w).alloc (Nat.le_refl _) (.cells (hdC hd0) 51))
  have HA := Lib.hid (Arr.new w 51 (hdC hd0))
  have hlen : s.data.toList.length = s.size := rfl
  by_cases h40 : s.size < 40
  · have HP : readH s.data.toList = (hd0, 14) := if_pos h40
    have hR := Lib.hid HP
    generalize readH s.data.toList = R at *
    have d0 : decide ((s.size : Int) < 40) = true := decide_eq_true (by omega)
    clear HP hs hlen h40
    go_enter Tryz.func14, Tryz.ntmps14
    go_wp2_with (refine wpList_store_row rfl 51 (.tmp 2) (.tmp 10) rfl w.heap.size (hdC hd0) rfl rfl _ _ HA.out (infoH _) rfl (hdC_one _) ?_)
    rw [hR.out]
    exact bodyPost_ret (results_rowH rfl _ _ w.heap.size _ (hdC hd0) _ _ rfl (HA.out.row _) Tryz.underlying51 rfl (infoH _)) rfl ⟨rfl, below_setRow HB.out (Nat.le_refl _) _⟩
  · have HR : Hid (readH s.data.toList = if numAt s.data.toList 0 ≠ 3490578157 ∨ numAt s.data.toList 5 < 17 ∨ 17 < numAt s.data.toList 6 then (hd0, 6)
        else if 16384 < numAt s.data.toList 1 then (hd0, 7)
        else if mayH (hdOf s.data.toList) = false then (hd0, 6)
        else if (s.size : Int) < numAt s.data.toList 1 then (hd0, 14)
        else (hdOf s.data.toList, 0)) := if_neg h40
    have HFB : Hid (∀ W : World, Calls Tryz.prog 36 #[.string (s.extract 0 40)] W fun e w' => ∃ (b off cap : Nat), e = .returned (.tuple #[.slice (some ⟨b, off, none⟩) 10 cap, .bool true]) ∧ (∀ k, k < 10 → w'.cell? ⟨b, off + k, none⟩ = some (.int .i64 (numAt s.data.toList k))) ∧ Below W.heap.size W w') := fun W => by
      refine (frombigs_yes (s.extract 0 40) 10 W (by rw [ByteArray.size_extract]; omega) (by rw [ByteArray.size_extract]; omega)).mono ?_
      rintro e w' ⟨v, rfl, hown, hb⟩
      rw [ext0_list] at hown
      obtain ⟨A, cap, rfl, hr⟩ := rdI_of_own hown
      rcases hr with h | ⟨b, off, rfl, _, hc⟩
      · exact absurd (congrArg List.length h) (by rw [numsB_length]; decide)
      · refine ⟨b, off, cap, by rw [numsB_length], fun k hk => ?_, hb⟩
        rw [hc k (by rw [numsB_length]; exact hk), numsB_take _ _ hk]
    have HN := Lib.hid (numAt_bd s.data.toList)
    have HD0 : Hid (hdOf s.data.toList = ⟨numAt s.data.toList 1, numAt s.data.toList 2, numAt s.data.toList 3, numAt s.data.toList 4, numAt s.data.toList 7, numAt s.data.toList 8, numAt s.data.toList 9⟩) := rfl
    generalize hdOf s.data.toList = H at *
    generalize readH s.data.toList = R at *
    generalize numAt s.data.toList = n at *
    have d0 : decide ((s.size : Int) < 40) = false := decide_eq_false (by omega)
    have c40 : (40 : Int) ≤ s.size := by omega
    have HS := Lib.hid hs
    clear hlen h40 hs
    go_enter Tryz.func14, Tryz.ntmps14
    go_wp2_with fail
    refine (HFB.out _).mono ?_
    rintro e w1 ⟨b, off, cap, rfl, hc, hb1⟩
    have HA1 := Lib.hid (HA.out.below hb1 HA.out.lt)
    have HB1 := Lib.hid (HB.out.trans (hb1.mono HB.out.size))
    have HC1 := Lib.hid hc
    have q0 := hc 0 (by omega)
    have q1 := hc 1 (by omega)
    have q2 := hc 2 (by omega)
    have q3 := hc 3 (by omega)
    have q4 := hc 4 (by omega)
    have q7 := hc 7 (by omega)
    have q8 := hc 8 (by omega)
    have q9 := hc 9 (by omega)
    clear hb1 hc HFB
    have HKP : Hid (∀ W', Below w1.heap.size w1 W' → W'.cell? ⟨b, off + 1, none⟩ = some (.int .i64 (n 1)) ∧ W'.cell? ⟨b, off + 2, none⟩ = some (.int .i64 (n 2)) ∧ W'.cell? ⟨b, off + 3, none⟩ = some (.int .i64 (n 3)) ∧ W'.cell? ⟨b, off + 4, none⟩ = some (.int .i64 (n 4)) ∧ W'.cell? ⟨b, off + 7, none⟩ = some (.int .i64 (n 7)) ∧ W'.cell? ⟨b, off + 8, none⟩ = some (.int .i64 (n 8)) ∧ W'.cell? ⟨b, off + 9, none⟩ = some (.int .i64 (n 9)) ∧ Below w1.heap.size w1 W') := fun W' h =>
      have hc : ∀ k, k < 10 → W'.cell? ⟨b, off + k, none⟩ = some (.int .i64 (n k)) := fun k hk => (h.cell (p := ⟨b, off + k, none⟩) (World.block_lt_of_cell? w1 _ (HC1.out k hk))).trans (HC1.out k hk)
      ⟨hc 1 (by omega), hc 2 (by omega), hc 3 (by omega), hc 4 (by omega), hc 7 (by omega), hc 8 (by omega), hc 9 (by omega), h⟩
    have hbe : Below w1.heap.size w1 (w1.alloc (.cells #[.int .i64 (n 1), .int .i64 (n 2), .int .i64 (n 3), .int .i64 (n 4), .int .i64 (n 7), .int .i64 (n 8), .int .i64 (n 9)] 51)).drew := ((Below.refl _ _).alloc (Nat.le_refl _) _).drew
    have hae : Arr (w1.alloc (.cells #[.int .i64 (n 1), .int .i64 (n 2), .int .i64 (n 3), .int .i64 (n 4), .int .i64 (n 7), .int .i64 (n 8), .int .i64 (n 9)] 51)).drew w1.heap.size 51 (hdC ⟨n 1, n 2, n 3, n 4, n 7, n 8, n 9⟩) := Arr.new w1 _ _
    go_upto_region 5 with fail
    go_region_held3 (fun w' => w'.cell? ⟨b, off + 1, none⟩ = some (.int .i64 (n 1)) ∧ w'.cell? ⟨b, off + 2, none⟩ = some (.int .i64 (n 2)) ∧ w'.cell? ⟨b, off + 3, none⟩ = some (.int .i64 (n 3)) ∧ w'.cell? ⟨b, off + 4, none⟩ = some (.int .i64 (n 4)) ∧ w'.cell? ⟨b, off + 7, none⟩ = some (.int .i64 (n 7)) ∧ w'.cell? ⟨b, off + 8, none⟩ = some (.int .i64 (n 8)) ∧ w'.cell? ⟨b, off + 9, none⟩ = some (.int .i64 (n 9)) ∧ Below w1.heap.size w1 w') (exact HKP.out _ (by first | assumption | exact (Below.refl _ _).drew | exact ((Below.refl _ _).alloc (Nat.le_refl _) _).drew | exact (Below.refl _ _).drew.alloc (Nat.le_refl _) _ | exact (Below.refl _ _).drew.drew)) (fail)
    change Exit.then _ _ _ _ (w1.alloc (.cells #[.int .i64 (n 1), .int .i64 (n 2), .int .i64 (n 3), .int .i64 (n 4), .int .i64 (n 7), .int .i64 (n 8), .int .i64 (n 9)] 51)).drew
    have HAT := Lib.hid hae
    have HBW := Lib.hid hbe
    clear hae hbe HKP q1 q2 q3 q4 q7 q8 q9
    generalize (w1.alloc (.cells #[.int .i64 (n 1), .int .i64 (n 2), .int .i64 (n 3), .int .i64 (n 4), .int .i64 (n 7), .int .i64 (n 8), .int .i64 (n 9)] 51)).drew = W at *
    have HC2 : Hid (∀ (k : Nat), k < 10 → W.cell? ⟨b, off + k, none⟩ = some (.int .i64 (n k))) := fun k hk =>
      (HBW.out.cell (p := ⟨b, off + k, none⟩) (World.block_lt_of_cell? w1 _ (HC1.out k hk))).trans (HC1.out k hk)
    have HA2 := Lib.hid (HA1.out.below HBW.out HA1.out.lt)
    have HB2 := Lib.hid (HB1.out.trans (HBW.out.mono HB1.out.size))
    have hgl := HAT.out.lt
    generalize w1.heap.size = g at *
    clear q0
    have q0 := HC2.out 0 (by omega)
    rw [Nat.add_zero] at q0
    have q5 := HC2.out 5 (by omega)
    have q6 := HC2.out 6 (by omega)
    have c0 : W.cell? ⟨g, 0, none⟩ = some (.int .i64 (n 1)) := HAT.out.cell 0
    clear HBW HA1 HB1 HC1 HC2
    have hn1 := (HN.out 1).2
    have hn1' := (HN.out 1).1
    obtain rfl := HD0.out
    have HNI : Hid (inH ⟨n 1, n 2, n 3, n 4, n 7, n 8, n 9⟩) := by
      have b := fun k => in64_of32 (HN.out k)
      exact ⟨b 1, b 2, b 3, b 4, b 7, b 8, b 9⟩
    clear HD0 HN
    have HVM : Hid (¬ 16384 < n 1 → validH ⟨n 1, n 2, n 3, n 4, n 7, n 8, n 9⟩ = mayH ⟨n 1, n 2, n 3, n 4, n 7, n 8, n 9⟩) := fun h => by unfold validH; rw [decide_eq_true (by show n 1 ≤ 16384; omega), Bool.and_true]
    have HMY := Lib.hid (fun W => valid_any ⟨n 1, n 2, n 3, n 4, n 7, n 8, n 9⟩ W HNI.out)
    clear HNI
    generalize n 0 = n0 at *
    generalize n 5 = n5 at *
    generalize n 6 = n6 at *
    generalize hH : (HD.mk (n 1) (n 2) (n 3) (n 4) (n 7) (n 8) (n 9)) = H at *
    have HH1 : Hid (hdC H = #[.int .i64 (n 1), .int .i64 (n 2), .int .i64 (n 3), .int .i64 (n 4), .int .i64 (n 7), .int .i64 (n 8), .int .i64 (n 9)]) := by rw [← hH]; rfl
    clear hH
    generalize n 1 = n1 at *
    by_cases hA : n0 ≠ 3490578157 ∨ n5 < 17 ∨ 17 < n6
    · by_cases h0 : n0 = 3490578157
      · have dA0 : (n0 != 3490578157) = false := by simp [h0]
        by_cases h5 : n5 < 17
        · as_aux_lemma =>
          have hR := Lib.hid (HR.out.trans (if_pos hA))
          clear HR hA h0 HMY HH1
          go_wp2_with (refine wpList_store_row rfl 51 (.tmp 2) (.tmp 56) rfl w.heap.size (hdC hd0) rfl rfl _ _ HA2.out (infoH _) rfl (hdC_one _) ?_)
          rw [hR.out]; exact bodyPost_ret (results_rowH rfl _ _ w.heap.size _ (hdC hd0) _ _ rfl (HA2.out.row _) Tryz.underlying51 rfl (infoH _)) rfl ⟨rfl, below_setRow HB2.out (Nat.le_refl _) _⟩
        · have h6 : 17 < n6 := by
            rcases hA with h | h | h
            · exact absurd h0 h
            · exact absurd h h5
            · exact h
          as_aux_lemma =>
            have hR := Lib.hid (HR.out.trans (if_pos hA))
            clear HR hA h0 HMY HH1
            go_wp2_with (refine wpList_store_row rfl 51 (.tmp 2) (.tmp 56) rfl w.heap.size (hdC hd0) rfl rfl _ _ HA2.out (infoH _) rfl (hdC_one _) ?_)
            rw [hR.out]; exact bodyPost_ret (results_rowH rfl _ _ w.heap.size _ (hdC hd0) _ _ rfl (HA2.out.row _) Tryz.underlying51 rfl (infoH _)) rfl ⟨rfl, below_setRow HB2.out (Nat.le_refl _) _⟩
      · have dA0 : (n0 != 3490578157) = true := by simpa using h0
        as_aux_lemma =>
          have hR := Lib.hid (HR.out.trans (if_pos hA))
          clear HR hA h0 HMY HH1
          go_wp2_with (refine wpList_store_row rfl 51 (.tmp 2) (.tmp 56) rfl w.heap.size (hdC hd0) rfl rfl _ _ HA2.out (infoH _) rfl (hdC_one _) ?_)
          rw [hR.out]; exact bodyPost_ret (results_rowH rfl _ _ w.heap.size _ (hdC hd0) _ _ rfl (HA2.out.row _) Tryz.underlying51 rfl (infoH _)) rfl ⟨rfl, below_setRow HB2.out (Nat.le_refl _) _⟩
    · have HR1 := Lib.hid (HR.out.trans (if_neg hA))
      have dA0 : (n0 != 3490578157) = false := by simpa using fun h => hA (.inl h)
      have dA1 : ¬ n5 < 17 := fun h => hA (.inr (.inl h))
      have dA2 : ¬ 17 < n6 := fun h => hA (.inr (.inr h))
      clear HR hA
      by_cases hB : 16384 < n1
      · as_aux_lemma =>
          have hR := Lib.hid (HR1.out.trans (if_pos hB))
          clear HR1 HMY HH1
          go_wp2_with (refine wpList_store_row rfl 51 (.tmp 2) (.tmp 61) rfl w.heap.size (hdC hd0) rfl rfl _ _ HA2.out (infoH _) rfl (hdC_one _) ?_)
          rw [hR.out]; exact bodyPost_ret (results_rowH rfl _ _ w.heap.size _ (hdC hd0) _ _ rfl (HA2.out.row _) Tryz.underlying51 rfl (infoH _)) rfl ⟨rfl, below_setRow HB2.out (Nat.le_refl _) _⟩
      · as_aux_lemma =>
          have HR2 := Lib.hid (HR1.out.trans (if_neg hB))
          rw [HVM.out hB] at HMY
          clear HVM
          clear HR1
          go_wp2_with (refine wpList_load_row rfl 51 (.tmp 6) rfl g rfl _ _ _ _ HAT.out Tryz.underlying51 rfl (infoH _) ?_)
          refine (HMY.out _).mono ?_
          rintro e w3 ⟨rfl, hb3⟩
          have HA3 := Lib.hid (HA2.out.below hb3 HA2.out.lt)
          have HT3 := Lib.hid (HAT.out.below hb3 HAT.out.lt)
          have HB3 := Lib.hid (HB2.out.trans (hb3.mono HB2.out.size))
          have c3 : w3.cell? ⟨g, 0, none⟩ = some (.int .i64 n1) := by have := HT3.out.cell 0; rw [this, HH1.out]; rfl
          clear hb3 HA2 HAT HB2 c0 q0 q5 q6 HMY HH1
          cases hm : mayH H with
          | false =>
            have hR := Lib.hid (HR2.out.trans (if_pos hm))
            clear HR2 hm
            go_wp2_with (refine wpList_store_row rfl 51 (.tmp 2) (.tmp 66) rfl w.heap.size (hdC hd0) rfl rfl _ _ HA3.out (infoH _) rfl (hdC_one _) ?_)
            rw [hR.out]; exact bodyPost_ret (results_rowH rfl _ _ w.heap.size _ (hdC hd0) _ _ rfl (HA3.out.row _) Tryz.underlying51 rfl (infoH _)) rfl ⟨rfl, below_setRow HB3.out (Nat.le_refl _) _⟩
          | true =>
            have HR3 := Lib.hid (HR2.out.trans (if_neg (by rw [hm]; decide)))
            clear HR2 hm
            by_cases hD : (s.size : Int) < n1
            · as_aux_lemma =>
                have hR := Lib.hid (HR3.out.trans (if_pos hD))
                clear HR3
                go_wp2_with (refine wpList_store_row rfl 51 (.tmp 2) (.tmp 73) rfl w.heap.size (hdC hd0) rfl rfl _ _ HA3.out (infoH _) rfl (hdC_one _) ?_)
                rw [hR.out]; exact bodyPost_ret (results_rowH rfl _ _ w.heap.size _ (hdC hd0) _ _ rfl (HA3.out.row _) Tryz.underlying51 rfl (infoH _)) rfl ⟨rfl, below_setRow HB3.out (Nat.le_refl _) _⟩
            · as_aux_lemma =>
                have hR := Lib.hid (HR3.out.trans (if_neg hD))
                clear HR3
                go_wp2_with (first | (refine wpList_load_row rfl 51 (.tmp 6) rfl g rfl _ _ _ _ HT3.out Tryz.underlying51 rfl (infoH _) ?_) | (refine wpList_store_row rfl 51 (.tmp 2) (.tmp 74) rfl w.heap.size (hdC H) rfl rfl _ _ HA3.out (infoH _) rfl (hdC_one _) ?_))
                rw [hR.out]; exact bodyPost_ret (results_rowH rfl _ _ w.heap.size _ (hdC H) _ _ rfl (HA3.out.row _) Tryz.underlying51 rfl (infoH _)) rfl ⟨rfl, below_setRow HB3.out (Nat.le_refl _) _⟩
end Go.Proofs.YtfcclppgjfkfoaaGreatDoor

/- The program's Part of layer 11. Conditions: numbers of 64 bits; strings of at most 2^40 bytes. -/
namespace Go.Proofs.YtfcclppgjfkfoaaGreatDoor
open Go.RowKit

theorem infoSpan : (Tryz.prog.info? 80).map (·.size) = some (#[.int .i64 0, .int .i64 0] : Array Value).size := by kernel_rfl

set_option maxHeartbeats 1600000 in
set_option maxRecDepth 100000 in
theorem hpart_any (s : ByteArray) (a b : Int) (w : World) (hs : s.size ≤ maxLen) (ha : in64 a) (_ : in64 b) :
    Calls Tryz.prog 39 #[.string s, .agg #[.int .i64 a, .int .i64 b]] w fun e w' => e = .returned (.tuple #[.string (partR s a b).1, .int .i64 ((partR s a b).2 : Int)]) ∧ Below w.heap.size w w' := by
  unfold maxLen at hs
  have HT := Lib.hid (fun W => there_any a b s.size W ha (by unfold in64; omega))
  obtain ⟨W0, hW0⟩ : ∃ W0, W0 = w.alloc (.cells #[.int .i64 a, .int .i64 b] 80) := ⟨_, rfl⟩
  have HA0 : Hid (Arr W0 w.heap.size 80 #[.int .i64 a, .int .i64 b]) := by rw [hW0]; exact Arr.new w _ _
  have HB0 : Hid (Below w.heap.size w W0) := by rw [hW0]; exact (Below.refl _ _).alloc (Nat.le_refl _) _
  clear ha
  by_cases hc : a < 0 ∨ b < 0 ∨ (s.size : Int) < a ∨ (s.size : Int) - a < b
  · have hP : partR s a b = (⟨#[]⟩, 2) := if_pos hc
    have hV : thereHB a b s.size = false := decide_eq_false (by omega)
    rw [hP]
    rw [hV] at HT
    clear hP hV hc
    go_enter Tryz.func39, Tryz.ntmps39
    go_upto_region 1 with fail
    rw [← hW0]
    clear hW0
    go_wp2_with (refine wpList_load_row rfl 80 (.tmp 3) rfl w.heap.size rfl _ _ _ _ HA0.out Tryz.underlying80 rfl infoSpan ?_)
    refine (HT.out _).mono ?_
    rintro e w1 ⟨rfl, hb1⟩
    have HB1 := Lib.hid (HB0.out.trans (hb1.mono HB0.out.size))
    clear hb1 HT HA0 HB0
    go_wp2
    go_ret2
    exact ⟨rfl, HB1.out⟩
  · have hP : partR s a b = (s.extract a.toNat (a + b).toNat, 0) := if_neg hc
    have hV : thereHB a b s.size = true := decide_eq_true (by omega)
    rw [hP]
    rw [hV] at HT
    have d1 : 0 ≤ a := by omega
    have d2 : 0 ≤ b := by omega
    have d3 : a ≤ s.size := by omega
    have d4 : a + b ≤ s.size := by omega
    have d5 : a ≤ a + b := by omega
    clear hP hV hc
    go_enter Tryz.func39, Tryz.ntmps39
    go_upto_region 1 with fail
    rw [← hW0]
    clear hW0
    go_wp2_with (refine wpList_load_row rfl 80 (.tmp 3) rfl w.heap.size rfl _ _ _ _ HA0.out Tryz.underlying80 rfl infoSpan ?_)
    refine (HT.out _).mono ?_
    rintro e w1 ⟨rfl, hb1⟩
    have HB1 := Lib.hid (HB0.out.trans (hb1.mono HB0.out.size))
    have HA1 := Lib.hid (HA0.out.below hb1 HA0.out.lt)
    have c0 := HA1.out.cell 0
    have c1 := HA1.out.cell 1
    simp only [List.getElem?_toArray, List.getElem?_cons_zero, List.getElem?_cons_succ] at c0 c1
    clear hb1 HT HA0 HB0
    go_wp2
    go_ret2
    exact ⟨rfl, HB1.out⟩
end Go.Proofs.YtfcclppgjfkfoaaGreatDoor

/- The program's Put of layer 11; head_must: what the laws' walks of layer 11 lean on holds of package head. Conditions: numbers of 64 bits; strings of at most 2^40 bytes. -/
namespace Go.Proofs.YtfcclppgjfkfoaaGreatDoor
open Go.RowKit

set_option maxHeartbeats 1600000 in
set_option maxRecDepth 100000 in
theorem hput_any (h : HD) (w : World) (hh : inH h) :
    Calls Tryz.prog 65 #[.agg (hdC h)] w fun e w' => e = .returned (.tuple #[.string ⟨(putH h).1.toArray⟩, .int .i64 ((putH h).2 : Int)]) ∧ Below w.heap.size w w' := by
  have HM := Lib.hid (fun W => valid_any h W hh)
  clear hh
  obtain ⟨tt, st, sg, rv, bo, tx, sz⟩ := h
  show Calls _ _ #[.agg #[.int .i64 tt, .int .i64 st, .int .i64 sg, .int .i64 rv, .int .i64 bo, .int .i64 tx, .int .i64 sz]] _ _
  obtain ⟨W0, hW0⟩ : ∃ W0, W0 = w.alloc (.cells #[.int .i64 tt, .int .i64 st, .int .i64 sg, .int .i64 rv, .int .i64 bo, .int .i64 tx, .int .i64 sz] 51) := ⟨_, rfl⟩
  have HA0 : Hid (Arr W0 w.heap.size 51 #[.int .i64 tt, .int .i64 st, .int .i64 sg, .int .i64 rv, .int .i64 bo, .int .i64 tx, .int .i64 sz]) := by rw [hW0]; exact Arr.new w _ _
  have HB0 : Hid (Below w.heap.size w W0) := by rw [hW0]; exact (Below.refl _ _).alloc (Nat.le_refl _) _
  cases hv : validH ⟨tt, st, sg, rv, bo, tx, sz⟩ with
  | false =>
    have HP : putH ⟨tt, st, sg, rv, bo, tx, sz⟩ = ([], 1) := by
      unfold putH
      refine if_neg fun hg => ?_
      unfold validH at hv
      rw [hg.1, decide_eq_true hg.2] at hv
      cases hv
    rw [HP]
    rw [hv] at HM
    clear hv HP
    go_enter Tryz.func65, Tryz.ntmps65
    go_upto_region 1 with fail
    rw [← hW0]
    clear hW0
    go_wp2_with (refine wpList_load_row rfl 51 (.tmp 1) rfl w.heap.size rfl _ _ _ _ HA0.out Tryz.underlying51 rfl (infoH hd0) ?_)
    refine (HM.out _).mono ?_
    rintro e w1 ⟨rfl, hb1⟩
    have HB1 := Lib.hid (HB0.out.trans (hb1.mono HB0.out.size))
    clear hb1 HM HA0 HB0
    go_wp2
    go_ret2
    exact ⟨rfl, HB1.out⟩
  | true =>
    have HP : putH ⟨tt, st, sg, rv, bo, tx, sz⟩ = (bigs (listH ⟨tt, st, sg, rv, bo, tx, sz⟩) 10, 0) := by
      unfold putH
      unfold validH at hv
      rw [Bool.and_eq_true] at hv
      exact if_pos ⟨hv.1, of_decide_eq_true hv.2⟩
    rw [HP]
    rw [hv] at HM
    obtain ⟨BS, hBS⟩ : ∃ BS : ByteArray, BS = ⟨(bigs (listH ⟨tt, st, sg, rv, bo, tx, sz⟩) 10).toArray⟩ := ⟨_, rfl⟩
    show Calls _ _ _ _ (fun e w' => e = .returned (.tuple #[.string ⟨(bigs (listH ⟨tt, st, sg, rv, bo, tx, sz⟩) 10).toArray⟩, .int .i64 0]) ∧ _)
    rw [← hBS]
    clear hv HP
    have HBI : Hid (∀ W' b, Arr W' b 3 #[.int .i64 3490578157, .int .i64 tt, .int .i64 st, .int .i64 sg, .int .i64 rv, .int .i64 17, .int .i64 16, .int .i64 bo, .int .i64 tx, .int .i64 sz] → Calls Tryz.prog 90 #[.slice (some ⟨b, 0, none⟩) 10 10] W' fun e w' => e = .returned (.string BS) ∧ Below W'.heap.size W' w') := fun W' b hA => by
      rw [hBS]
      refine bigs_any (some ⟨b, 0, none⟩) 10 (listH ⟨tt, st, sg, rv, bo, tx, sz⟩) W' (by show (10 : Nat) ≤ 1099511627776; decide) (.inr ⟨b, 0, rfl, hA.lt, fun j hj => ?_⟩)
      rw [Nat.zero_add, hA.cell]
      match j, hj with
      | 0, _ => rfl
      | 1, _ => rfl
      | 2, _ => rfl
      | 3, _ => rfl
      | 4, _ => rfl
      | 5, _ => rfl
      | 6, _ => rfl
      | 7, _ => rfl
      | 8, _ => rfl
      | 9, _ => rfl
    clear hBS
    go_enter Tryz.func65, Tryz.ntmps65
    go_upto_region 1 with fail
    rw [← hW0]
    clear hW0
    go_wp2_with (refine wpList_load_row rfl 51 (.tmp 1) rfl w.heap.size rfl _ _ _ _ HA0.out Tryz.underlying51 rfl (infoH hd0) ?_)
    refine (HM.out _).mono ?_
    rintro e w1 ⟨rfl, hb1⟩
    have HB1 := Lib.hid (HB0.out.trans (hb1.mono HB0.out.size))
    have HA1 := Lib.hid (HA0.out.below hb1 HA0.out.lt)
    have c0 := HA1.out.cell 0
    have c1 := HA1.out.cell 1
    have c2 := HA1.out.cell 2
    have c3 := HA1.out.cell 3
    have c4 := HA1.out.cell 4
    have c5 := HA1.out.cell 5
    have c6 := HA1.out.cell 6
    simp only [List.getElem?_toArray, List.getElem?_cons_zero, List.getElem?_cons_succ] at c0 c1 c2 c3 c4 c5 c6
    clear hb1 HM HA0 HB0 HA1
    go_wp2_with fail
    refine (HBI.out _ _ (Arr.new _ _ _)).mono ?_
    rintro e w2 ⟨rfl, hb3⟩
    have hz1 := HB1.out.size
    have HB2 := Lib.hid ((HB1.out.alloc hz1 _).trans (hb3.mono (by show _ ≤ (w1.heap.push _).size; rw [Array.size_push]; omega)))
    clear hb3
    go_wp2
    go_ret2
    exact ⟨rfl, HB2.out⟩

theorem head_must : HeadMust where
  put := hput_any
  read := hread_any
  part := hpart_any
end Go.Proofs.YtfcclppgjfkfoaaGreatDoor
