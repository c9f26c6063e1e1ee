/- What the document's Load does. Conditions: at most 100 spans are loaded, and they exist; a string of at most 2^40 bytes. -/
import Derived.Test.YtecfdcibjmakeaaRaD
import Derived.Deep.RegionLaw
import Derived.Deep.DeepCutAuto
namespace Go.Proofs.Ytecfdcibjmakeaa
open Go.RowKit

theorem rdSp_one (w : World) (x : SP) : RdSp (w.alloc (.cells (spC x) 47)) (some ⟨w.heap.size, 0, none⟩) [x] := by
  have h := Arr.new w 47 (spC x)
  refine .inr ⟨w.heap.size, 0, rfl, fun k hk => ?_⟩
  match k, hk with
  | 0, _ => exact ⟨h.cell 0, h.cell 1⟩

set_option maxHeartbeats 3200000 in
set_option maxRecDepth 100000 in
theorem rload_any (g : Nat) (vL vS : Value) (R : List LD) (a : Int) (s : ByteArray) (w : World) (h : DR w g vL vS R) (hok : RamOk R) (hR : R.length ≤ 100) :
    Calls Try.prog 8 #[.pointer (some ⟨g, 0, none⟩), .int .i64 a, .string s] w fun e w' => e = .returned (.int .i64 ((ldR R a s).2 : Int)) ∧ ∃ vL' vS', DR w' g vL' vS' (ldR R a s).1 ∧ Moved w w' (fpD g vL vS) (fpD g vL' vS') := by
  have H := Lib.hid h
  have hlt := h.1.lt
  obtain ⟨AL, capL, hvL, hrd⟩ := h.spans
  have HRD := Lib.hid hrd
  have HVL := Lib.hid hvL
  have HIN : Hid (∀ k, k < (R.map LD.sp).length → insS ((R.map LD.sp).getD k sp0) = true) := by
    intro k hk
    rw [List.length_map] at hk
    rw [sp_getD R hk]; exact (hok.1 k hk).1
  have HLN : Hid ((R.map LD.sp).length ≤ maxLen) := by unfold Hid maxLen; rw [List.length_map]; omega
  have HCK : Hid (∀ (W : World) (b : Nat), W.heap.size = b → Below w.heap.size w W → Calls Try.prog 15 #[.pointer (some ⟨g, 0, none⟩), .slice (some ⟨b, 0, none⟩) 1 1] (W.alloc (.cells #[.int .i64 a, .int .i64 (s.size : Int)] 47)) fun e w' => e = .returned (.int .i64 (ckR (R.map LD.sp) [⟨a, s.size⟩] : Int)) ∧ Below W.heap.size W w') := by
    rintro W b rfl hW
    have hWa := (Below.refl W.heap.size W).alloc (Nat.le_refl _) (.cells #[.int .i64 a, .int .i64 (s.size : Int)] 47)
    have hb2 : Below w.heap.size w (W.alloc (.cells #[.int .i64 a, .int .i64 (s.size : Int)] 47)) := hW.trans (hWa.mono hW.size)
    have hc : (W.alloc (.cells #[.int .i64 a, .int .i64 (s.size : Int)] 47)).cell? ⟨g, 0, none⟩ = some (.slice AL (R.map LD.sp).length capL) := by
      rw [← HVL.out]; exact (H.out.below hb2).1.cell 0
    refine (rck_any g AL capL (R.map LD.sp) (some ⟨W.heap.size, 0, none⟩) 1 [⟨a, s.size⟩] _ hc (HRD.out.below hb2) HIN.out (rdSp_one W ⟨a, s.size⟩) HLN.out (by show 1 ≤ maxLen; decide)).mono ?_
    rintro e w' ⟨h1, h2⟩
    exact ⟨h1, hWa.trans (h2.mono hWa.size)⟩
  have HNO : Hid (ckR (R.map LD.sp) [⟨a, s.size⟩] ≠ 0 → ldR R a s = (R, ckR (R.map LD.sp) [⟨a, s.size⟩])) := fun h => by unfold ldR; rw [if_neg h]
  have HYE : Hid (ckR (R.map LD.sp) [⟨a, s.size⟩] = 0 → ldR R a s = (R ++ [⟨a.toNat, s⟩], 0) ∧ ((a.toNat : Nat) : Int) = a) := fun h => ⟨by unfold ldR; rw [if_pos h], Int.toNat_of_nonneg (insS_of (ck_one h).1).1⟩
  have HBa : Hid (Below w.heap.size w (w.alloc (.cells #[.int .i64 a, .int .i64 (s.size : Int)] 47))) := (Below.refl _ _).alloc (Nat.le_refl _) _
  clear h hok hvL hrd HIN HRD HLN
  generalize ckR (R.map LD.sp) [⟨a, s.size⟩] = r at *
  by_cases hr0 : r = 0
  · subst hr0
    have hye := HYE.out rfl
    rw [hye.1]
    have HA0 := Lib.hid hye.2
    clear hye HNO HYE
    go_enter Try.func8, Try.ntmps8
    go_wp2_with fail
    refine (HCK.out _ _ (sz_alloc _ _) HBa.out).mono ?_
    rintro e w1 ⟨rfl, hb1⟩
    have HB1 : Hid (Below w.heap.size w w1) := HBa.out.trans (hb1.mono HBa.out.size)
    have HX1 : Hid (Arr w1 w.heap.size 47 #[.int .i64 a, .int .i64 (s.size : Int)]) := (Arr.new w 47 #[.int .i64 a, .int .i64 (s.size : Int)]).below hb1 (Arr.new w _ _).lt
    have H1 := Lib.hid (H.out.below HB1.out)
    have hz1 := HB1.out.size
    have HMW : Hid (Moved w w1 (fpD g vL vS) (fpD g vL vS)) := Moved.of_below HB1.out _
    clear hb1 HCK HBa
    generalize w.heap.size = g7 at *
    have c0 : w1.cell? ⟨g, 0, none⟩ = some vL := H1.out.1.cell 0
    have f0 := H1.out.1.frozen 0
    have x0 : w1.cell? ⟨g7, 0, none⟩ = some (.int .i64 a) := HX1.out.cell 0
    have x1 : w1.cell? ⟨g7, 1, none⟩ = some (.int .i64 (s.size : Int)) := HX1.out.cell 1
    have hgl : g < w1.heap.size := H1.out.1.lt
    have hgn : g ≠ w1.heap.size := by omega
    have hxl : g7 < w1.heap.size := HX1.out.lt
    have hxn : g7 ≠ w1.heap.size := by omega
    have HBA : Hid (Below w1.heap.size w1 (w1.alloc (.cells #[.int .i64 a, .int .i64 (s.size : Int)] 47)).drew) := by
      have h1 := (Below.refl w1.heap.size w1).alloc (Nat.le_refl _) (.cells #[.int .i64 a, .int .i64 (s.size : Int)] 47)
      exact h1.trans ((Below.refl _ _).drew.mono h1.size)
    have HNW : Hid (∀ j u, [Value.int .i64 a, Value.int .i64 (s.size : Int)][j]? = some u → (w1.alloc (.cells #[.int .i64 a, .int .i64 (s.size : Int)] 47)).drew.cell? ((⟨w1.heap.size, 0, none⟩ : Addr).add j) = some u) :=
      World.news_of_block (cs := #[.int .i64 a, .int .i64 (s.size : Int)]) (heap_alloc_new w1 (.cells #[.int .i64 a, .int .i64 (s.size : Int)] 47))
    have HON : Hid (∀ u ∈ [Value.int .i64 a, Value.int .i64 (s.size : Int)], u.oneCell' = true) := by
      intro u hu
      simp at hu
      rcases hu with rfl | rfl <;> rfl
    obtain ⟨hu, i0, hi, hz0, hz1', hz2⟩ := elemSpan
    have HU := Lib.hid hu
    have HI := Lib.hid hi
    have HZ0 := Lib.hid hz0
    have HZ1 := Lib.hid hz1'
    have HZ2 := Lib.hid hz2
    have HAD := Lib.hid (H1.out.below HBA.out)
    have HKP : Hid (∀ w5, (w1.alloc (.cells #[.int .i64 a, .int .i64 (s.size : Int)] 47)).drew.grownBy w5 vL.ownBlock → w5.cell? ⟨g, 0, none⟩ = some vL ∧ w5.frozen? ⟨g, 0, none⟩ = false) := by
      intro w5 hg
      have hA5 := HAD.out.1.gr hg (ow_arr HAD.out.1 HAD.out.2.1 tyne.1)
      exact ⟨hA5.cell 0, hA5.frozen 0⟩
    have HFI : Hid (∀ (g' cap' : Nat) (w5 : World), w5.ownsRow 0 47 2 (.slice (some ⟨g', 0, none⟩) (R.length + 1) cap') (R.length + 1) (spsV R ++ [.int .i64 a, .int .i64 (s.size : Int)]) → (w1.alloc (.cells #[.int .i64 a, .int .i64 (s.size : Int)] 47)).drew.grownBy w5 vL.ownBlock → (vL.ownBlock = some g' ∨ g' = w1.heap.size + 1) →
        Arr (w5.setCell ⟨g, 0, none⟩ (.slice (some ⟨g', 0, none⟩) (R.length + 1) cap')) g 30 #[.slice (some ⟨g', 0, none⟩) (R.length + 1) cap', vS] ∧ (w5.setCell ⟨g, 0, none⟩ (.slice (some ⟨g', 0, none⟩) (R.length + 1) cap')).ownsRow 0 47 2 (.slice (some ⟨g', 0, none⟩) (R.length + 1) cap') (R.length + 1) (spsV R ++ [.int .i64 a, .int .i64 (s.size : Int)])
          ∧ (w5.setCell ⟨g, 0, none⟩ (.slice (some ⟨g', 0, none⟩) (R.length + 1) cap')).ownsRow 0 9 1 vS R.length (strsV R) ∧ Moved w1 (w5.setCell ⟨g, 0, none⟩ (.slice (some ⟨g', 0, none⟩) (R.length + 1) cap')) (fpD g vL vS) (fpD g (.slice (some ⟨g', 0, none⟩) (R.length + 1) cap') vS)) := by
      intro g' cap' w5 hown hg hat
      have hA5 := HAD.out.1.gr hg (ow_arr HAD.out.1 HAD.out.2.1 tyne.1)
      have hS5 := HAD.out.2.2.kept hg (ow_ow HAD.out.2.2 HAD.out.2.1 (Ne.symm tyne.2.2))
      refine ⟨hA5.put 0 _, ow_set hA5 hown tyne.1 _ _, ow_set hA5 hS5 tyne.2.1 _ _, ?_⟩
      have m1 : Moved w1 _ (fpD g vL vS) (fpD g vL vS) := Moved.of_below HBA.out _
      have m2 : Moved _ w5 (fpD g vL vS) (fpD g (.slice (some ⟨g', 0, none⟩) (R.length + 1) cap') vS) := Moved.grown hg (fun k hk => .inr (.inl hk)) (fun k hk => by
        rcases hk with rfl | hk | hk
        · exact .inl (.inl rfl)
        · simp only [Value.ownBlock, Option.some.injEq] at hk
          subst hk
          rcases hat with h1 | h1
          · exact .inl (.inr (.inl h1))
          · refine .inr ?_
            show (w1.alloc _).heap.size ≤ g'
            rw [sz_alloc]; omega
        · exact .inl (.inr (.inr hk)))
      have m3 : Moved w5 (w5.setCell ⟨g, 0, none⟩ (.slice (some ⟨g', 0, none⟩) (R.length + 1) cap')) (fpD g (.slice (some ⟨g', 0, none⟩) (R.length + 1) cap') vS) (fpD g (.slice (some ⟨g', 0, none⟩) (R.length + 1) cap') vS) := Moved.grown (gr_cell _ _ _ _) (fun k hk => .inl (by injection hk with hk; exact hk.symm)) (fun k hk => .inl hk)
      exact (m1.trans m2).trans m3
    clear hu hi hz0 hz1' hz2
    go_upto_region 5 with fail
    go_cut [27] (fun s27 wx => Arr wx g 30 #[s27, vS] ∧ wx.ownsRow 0 47 2 s27 (R.length + 1) (spsV R ++ [.int .i64 a, .int .i64 (s.size : Int)]) ∧ wx.ownsRow 0 9 1 vS R.length (strsV R) ∧ Moved w1 wx (fpD g vL vS) (fpD g s27 vS))
    case first =>
      go_region_law (first | (refine step_append_lies _ (by rfl) _ _ _ (by rfl) 0 47 i0 (.agg #[.int .i64 0, .int .i64 0]) 2 16 HU.out HI.out HZ0.out HZ1.out HZ2.out rfl (by decide) vL R.length (spsV R) (by rfl) HAD.out.2.1 ⟨w1.heap.size, 0, none⟩ 1 1 [.int .i64 a, .int .i64 (s.size : Int)] (by rfl) rfl HNW.out HON.out (by decide) (by unfold maxLen; omega) (by omega) (Nat.zero_le _) _ rfl ?_; intro g' cap' w5 hown5 hgrow hat hlt5; obtain ⟨y0, y1⟩ := HKP.out _ hgrow))
      all_goals (go_wp2_with fail; go_meet; exact HFI.out _ _ _ hown5 hgrow (hat.imp id (fun e => e.trans (sz_alloc _ _))))
    case rest => as_aux_lemma =>
      obtain ⟨hA2, hL2, hS2, hM2⟩ := hcut
      have HA2 := Lib.hid hA2
      have HL2 := Lib.hid hL2
      have HS2 := Lib.hid hS2
      have HM2 := Lib.hid hM2
      have y1 : wc.cell? ⟨g, 1, none⟩ = some vS := hA2.cell 1
      have f1 := hA2.frozen 1
      have hgc : g < wc.heap.size := hA2.lt
      have hgcn : g ≠ wc.heap.size := by omega
      clear hA2 hL2 hS2 hM2 HFI HKP HAD HBA HNW HON c0 f0 x0 x1 HU HI HZ0 HZ1 HZ2 hxl hxn hgl hgn
      have HNW : Hid (∀ j u, [Value.string s][j]? = some u → (wc.alloc (.cells #[.string s] 9)).cell? ((⟨wc.heap.size, 0, none⟩ : Addr).add j) = some u) :=
        World.news_of_block (cs := #[.string s]) (heap_alloc_new wc (.cells #[.string s] 9))
      have HON : Hid (∀ u ∈ [Value.string s], u.oneCell' = true) := by
        intro u hu
        simp at hu
        subst hu; rfl
      obtain ⟨hu, hz, i0, hi, hz0, hz1', hz2⟩ := elemStr
      have HU := Lib.hid hu
      have HI := Lib.hid hi
      have HZ0 := Lib.hid hz0
      have HZ1 := Lib.hid hz1'
      have HZ2 := Lib.hid hz2
      have hba : Below wc.heap.size wc (wc.alloc (.cells #[.string s] 9)) := (Below.refl _ _).alloc (Nat.le_refl _) _
      have HSA := Lib.hid (ow_below HS2.out hba)
      have HLA := Lib.hid (ow_below HL2.out hba)
      have HAA := Lib.hid (HA2.out.below hba HA2.out.lt)
      have HBA := Lib.hid hba
      clear hu hz hi hz0 hz1' hz2 hba HS2 HL2 HA2
      go_wp2_with (at_builtin; refine wpList_append_lies _ rfl _ _ _ rfl 0 9 i0 (.string ⟨#[]⟩) 1 16 HU.out HI.out HZ0.out HZ1.out HZ2.out rfl (by decide) vS R.length (strsV R) rfl HSA.out ⟨wc.heap.size, 0, none⟩ 1 1 [.string s] rfl rfl HNW.out HON.out (by decide) (by unfold maxLen; omega) (by omega) (Nat.zero_le _) _ rfl ?_; intro g' cap' w5 hown5 hgrow hat hlt5; have hA5 := HAA.out.gr hgrow (ow_arr HAA.out HSA.out tyne.2.1); have y2 : w5.cell? ⟨g, 1, none⟩ = some vS := hA5.cell 1; have f2 := hA5.frozen 1; have HA5 := Lib.hid hA5; have HO5 := Lib.hid hown5; have HG5 := Lib.hid hgrow; have HAT := Lib.hid hat; clear hA5 hown5 hgrow hat)
      go_ret
      refine ⟨rfl, u27, .slice (some ⟨g', 0, none⟩) (R.length + 1) cap', ?_, ?_⟩
      · have hL5 := HLA.out.kept HG5.out (ow_ow HLA.out HSA.out tyne.2.2)
        have e1 : (R ++ [LD.mk a.toNat s]).length = R.length + 1 := by simp
        have e2 : spsV (R ++ [LD.mk a.toNat s]) = spsV R ++ [.int .i64 a, .int .i64 (s.size : Int)] := by
          unfold spsV
          rw [List.flatMap_append]
          show _ ++ ([Value.int .i64 ((a.toNat : Nat) : Int), Value.int .i64 (s.size : Int)] ++ []) = _
          rw [HA0.out]; rfl
        have e3 : strsV (R ++ [LD.mk a.toNat s]) = strsV R ++ [.string s] := by unfold strsV; rw [List.map_append]; rfl
        refine ⟨HA5.out.put 1 _, ?_, ?_⟩
        · rw [e1, e2]; exact ow_set HA5.out hL5 tyne.1 _ _
        · rw [e1, e3]; exact ow_set HA5.out HO5.out tyne.2.1 _ _
      · refine HMW.out.trans (HM2.out.trans ((Moved.of_below HBA.out _).trans (Moved.trans (F' := fpD g u27 (.slice (some ⟨g', 0, none⟩) (R.length + 1) cap')) (Moved.grown HG5.out (fun k hk => .inr (.inr hk)) (fun k hk => ?_)) (Moved.grown (gr_cell _ _ _ _) (fun k hk => .inl (by injection hk with hk; exact hk.symm)) (fun k hk => .inl hk)))))
        rcases hk with rfl | hk | hk
        · exact .inl (.inl rfl)
        · exact .inl (.inr (.inl hk))
        · simp only [Value.ownBlock, Option.some.injEq] at hk
          subst hk
          rcases HAT.out with h1 | h1
          · exact .inl (.inr (.inr h1))
          · exact .inr (Nat.le_of_eq h1.symm)
  · have d1 : ((r : Int) != 0) = true := by simp; omega
    have d2 : ((r : Int) == 0) = false := by simp; omega
    rw [HNO.out hr0]
    clear hr0 HNO HYE
    go_enter Try.func8, Try.ntmps8
    go_wp2_with fail
    refine (HCK.out _ _ (sz_alloc _ _) HBa.out).mono ?_
    rintro e w1 ⟨rfl, hb1⟩
    have HB1 : Hid (Below w.heap.size w w1) := HBa.out.trans (hb1.mono HBa.out.size)
    clear hb1
    go_wp2
    go_ret
    exact ⟨rfl, vL, vS, H.out.below HB1.out, Moved.of_below HB1.out _⟩
end Go.Proofs.Ytecfdcibjmakeaa
