/- What package ram's Load does; what all of package ram does with a Ram that nobody made; package ram does what it must. Conditions: a Ram in which at most 100 spans are loaded, and they exist; a string of at most 200 bytes. -/
import Derived.Test.YtecfdcibjmakeaaRaV
import Derived.Deep.RegionLaw
import Derived.Deep.AppendLies
namespace Go.Proofs.Ytecfdcibjmakeaa
open Go.RowKit

theorem mslice_from (g x : Nat) (hx : x < 65536) (W : World) : (Instr.sliceAt 31 (.pointer (some ⟨g, 1, none⟩)) (some (.int .i64 (x : Int))) none none).run Try.prog W = .ok (.slice (some ⟨g, 1 + x, none⟩) (65536 - x) (65536 - x)) W := by
  have h1 : ¬ (65536 = x) := by omega
  have h2 : (x : Int) ≤ 65536 := by omega
  simp [Instr.sliceAt, run_underlying Try.underlying31, Instr.sureAddr, Instr.sliceBounds, Try.sizeOf5, Addr.add, h1, h2, go_sem]
theorem mslice_last (g : Nat) (W : World) : (Instr.sliceAt 31 (.pointer (some ⟨g, 1, none⟩)) (some (.int .i64 ((65536 : Nat) : Int))) none none).run Try.prog W = .ok (.slice (some ⟨g, 1, none⟩) 0 0) W := by
  simp [Instr.sliceAt, run_underlying Try.underlying31, Instr.sureAddr, Instr.sliceBounds, Try.sizeOf5, go_sem]
/-- Bytes are stored. -/
theorem mcopy {w : World} {g : Nat} {v : Value} {B : List UInt8} {R : List LD} {x : Nat} {s : ByteArray} (hB : MB B R) (hA : Arr w g 33 (ramC true B v)) (hx : x + s.size ≤ 65536) :
    ∃ o len cp w2 B2, (Instr.sliceAt 31 (.pointer (some ⟨g, 1, none⟩)) (some (.int .i64 (x : Int))) none none).run Try.prog w = .ok (.slice (some ⟨g, o, none⟩) len cp) w ∧
      (Builtin.copy_ #[50, 9] 3 #[.slice (some ⟨g, o, none⟩) len cp, .string s]).run Try.prog w = .ok (goInt s.size) w2 ∧ MB B2 (R ++ [⟨x, s⟩]) ∧ Arr w2 g 33 (ramC true B2 v) ∧ w.grownBy w2 (some g) := by
  have hsl : s.data.toList.length = s.size := rfl
  have hst : s.data.toList.take s.size = s.data.toList := List.take_of_length_le (Nat.le_refl _)
  have hz := ramC_size true B v
  rw [hB.1] at hz
  have hcp := ramC_copied true B s.data.toList v x (by rw [hsl, hB.1]; exact hx)
  by_cases he : x < 65536
  · refine ⟨1 + x, _, _, _, _, mslice_from g x he w, run_copy_str (P := Try.prog) w 50 9 3 5 g (1 + x) (65536 - x) (65536 - x) s s.size (by omega) _ _ Try.underlying50 (by kernel_rfl) hA (by omega), mb_put hB hx, ?_, grown_row _ _ _⟩
    rw [hst, ← hcp, hsl]
    exact hA.row _
  · obtain rfl : x = 65536 := by omega
    have hs0 : s.size = 0 := by omega
    refine ⟨1, _, _, _, _, mslice_last g w, run_copy_str (P := Try.prog) w 50 9 3 5 g 1 0 0 s s.size (by omega) _ _ Try.underlying50 (by kernel_rfl) hA (by omega), mb_put hB hx, ?_, grown_row _ _ _⟩
    have e0 : s.data.toList = [] := List.length_eq_zero_iff.1 (by rw [hsl]; exact hs0)
    have e1 : B.take 65536 ++ s.data.toList ++ B.drop (65536 + s.data.toList.length) = B := by
      rw [e0, List.append_nil, List.length_nil, Nat.add_zero, List.take_append_drop]
    rw [hst, e1, hs0, e0]
    have e2 : ((ramC true B v).toList.take 1 ++ Lib.byteCells [] ++ (ramC true B v).toList.drop (1 + 0)).toArray = ramC true B v := by
      have : Lib.byteCells [] = [] := rfl
      rw [this, List.append_nil, List.take_append_drop]
    rw [e2]
    exact hA.row _

set_option maxHeartbeats 3200000 in
set_option maxRecDepth 100000 in
theorem mload_any (g : Nat) (v : Value) (R : List LD) (a : Int) (s : ByteArray) (w : World) (h : RMX w g v R) (hok : RamOk R) (hR : R.length ≤ 100) :
    Calls Try.prog 7 #[.pointer (some ⟨g, 0, none⟩), .int .i64 a, .string s] w fun e w' => e = .returned (.int .i64 ((ldR R a s).2 : Int)) ∧ ∃ v', RMX w' g v' (ldR R a s).1 ∧ Moved w w' (fpM g v) (fpM g v') := by
  have H := Lib.hid h
  have hlt := h.lt
  have HCK : Hid (∀ (W : World) (b : Nat), W.heap.size = b → Below w.heap.size w W → Calls Try.prog 14 #[.pointer (some ⟨g, 0, none⟩), .slice (some ⟨b, 0, none⟩) 1 1] (W.alloc (.cells #[.int .i64 a, .int .i64 (s.size : Int)] 47)) fun e w' => e = .returned (.int .i64 (ckR (R.map LD.sp) [⟨a, s.size⟩] : Int)) ∧ Below W.heap.size W w') := by
    rintro W b rfl hW
    have hWa := (Below.refl W.heap.size W).alloc (Nat.le_refl _) (.cells #[.int .i64 a, .int .i64 (s.size : Int)] 47)
    have hb2 : Below w.heap.size w (W.alloc (.cells #[.int .i64 a, .int .i64 (s.size : Int)] 47)) := hW.trans (hWa.mono hW.size)
    refine (mcheck_any g v R (some ⟨W.heap.size, 0, none⟩) 1 [⟨a, s.size⟩] _ (h.below hb2) hok hR (rdSp_one W ⟨a, s.size⟩) (by show 1 ≤ 20; decide) (by show 1 ≤ 1; decide) (by unfold maxLen; decide)).mono ?_
    rintro e w' ⟨h1, h2⟩
    exact ⟨h1, hWa.trans (h2.mono hWa.size)⟩
  have HNO : Hid (ckR (R.map LD.sp) [⟨a, s.size⟩] ≠ 0 → ldR R a s = (R, ckR (R.map LD.sp) [⟨a, s.size⟩])) := fun h => by unfold ldR; rw [if_neg h]
  have HYE : Hid (ckR (R.map LD.sp) [⟨a, s.size⟩] = 0 → ∃ x : Nat, a = (x : Int) ∧ x + s.size ≤ 65536 ∧ ldR R a s = (R ++ [⟨x, s⟩], 0)) := fun h => by
    have h1 := insS_of (ck_one h).1
    simp only at h1
    refine ⟨a.toNat, (Int.toNat_of_nonneg h1.1).symm, by omega, ?_⟩
    unfold ldR
    rw [if_pos h]
  have HBa : Hid (Below w.heap.size w (w.alloc (.cells #[.int .i64 a, .int .i64 (s.size : Int)] 47))) := (Below.refl _ _).alloc (Nat.le_refl _) _
  clear h hok
  generalize ckR (R.map LD.sp) [⟨a, s.size⟩] = r at *
  by_cases hr0 : r = 0
  · subst hr0
    obtain ⟨x, rfl, hx, hld⟩ := HYE.out rfl
    rw [hld]
    clear hld HNO HYE
    go_enter Try.func7, Try.ntmps7
    go_wp2_with fail
    refine (HCK.out _ _ (sz_alloc _ _) HBa.out).mono ?_
    rintro e w1 ⟨rfl, hb1⟩
    have HB1 : Hid (Below w.heap.size w w1) := HBa.out.trans (hb1.mono HBa.out.size)
    have HX1 : Hid (Arr w1 w.heap.size 47 #[.int .i64 (x : Int), .int .i64 (s.size : Int)]) := (Arr.new w 47 #[.int .i64 (x : Int), .int .i64 (s.size : Int)]).below hb1 (Arr.new w _ _).lt
    have H1 := Lib.hid (H.out.below HB1.out)
    obtain ⟨B, hB, hA, hown⟩ := H1.out
    obtain ⟨o, len, cp, w2, B2, hsl, hcp, hB2, hA2, hg2⟩ := mcopy hB hA hx
    have HB2 := Lib.hid hB2
    have HA2 := Lib.hid hA2
    have HX2 := Lib.hid (HX1.out.grown hg2 (fun e => by injection e with e; omega))
    have HO2 := Lib.hid (hown.kept hg2 (by
      have := ow_arr hA hown tyneM
      cases hk : v.ownBlock with
      | none => exact .inl rfl
      | some k => exact .inr fun e => this (by rw [hk, e])))
    have HMW : Hid (Moved w w2 (fpM g v) (fpM g v)) := (Moved.of_below HB1.out _).trans (Moved.grown hg2 (fun k hk => .inl (by injection hk with hk; exact hk.symm)) (fun k hk => .inl hk))
    clear hb1 HCK HBa hB hA hown hB2 hA2 hg2 H1 HX1 HB1 H
    generalize w.heap.size = g7 at *
    have c0 : w2.cell? ⟨g, 65537, none⟩ = some v := ram_spans HA2.out HB2.out.1
    have f0 := HA2.out.frozen 65537
    have x0 : w2.cell? ⟨g7, 0, none⟩ = some (.int .i64 (x : Int)) := HX2.out.cell 0
    have x1 : w2.cell? ⟨g7, 1, none⟩ = some (.int .i64 (s.size : Int)) := HX2.out.cell 1
    have hgl : g < w2.heap.size := HA2.out.lt
    have hgn : g ≠ w2.heap.size := by omega
    have hxl : g7 < w2.heap.size := HX2.out.lt
    have hxn : g7 ≠ w2.heap.size := by omega
    have hba : Below w2.heap.size w2 (w2.alloc (.cells #[.int .i64 (x : Int), .int .i64 (s.size : Int)] 47)).drew := by
      have h1 := (Below.refl w2.heap.size w2).alloc (Nat.le_refl _) (.cells #[.int .i64 (x : Int), .int .i64 (s.size : Int)] 47)
      exact h1.trans ((Below.refl _ _).drew.mono h1.size)
    have HBA := Lib.hid hba
    have HNW : Hid (∀ j u, [Value.int .i64 (x : Int), Value.int .i64 (s.size : Int)][j]? = some u → (w2.alloc (.cells #[.int .i64 (x : Int), .int .i64 (s.size : Int)] 47)).drew.cell? ((⟨w2.heap.size, 0, none⟩ : Addr).add j) = some u) :=
      World.news_of_block (cs := #[.int .i64 (x : Int), .int .i64 (s.size : Int)]) (heap_alloc_new w2 (.cells #[.int .i64 (x : Int), .int .i64 (s.size : Int)] 47))
    have HON : Hid (∀ u ∈ [Value.int .i64 (x : Int), Value.int .i64 (s.size : Int)], u.oneCell' = true) := by
      intro u hu
      simp at hu
      rcases hu with rfl | rfl <;> rfl
    obtain ⟨hu, i0, hi, hz0, hz1', hz2⟩ := elemSpan
    have HU := Lib.hid hu
    have HI := Lib.hid hi
    have HZ0 := Lib.hid hz0
    have HZ1 := Lib.hid hz1'
    have HZ2 := Lib.hid hz2
    have HAD := Lib.hid (HA2.out.below hba HA2.out.lt)
    have HOD := Lib.hid (ow_below HO2.out hba)
    have HKP : Hid (∀ w5, (w2.alloc (.cells #[.int .i64 (x : Int), .int .i64 (s.size : Int)] 47)).drew.grownBy w5 v.ownBlock → w5.cell? ⟨g, 65537, none⟩ = some v ∧ w5.frozen? ⟨g, 65537, none⟩ = false) := by
      intro w5 hg
      have hA5 := HAD.out.gr hg (ow_arr HAD.out HOD.out tyneM)
      exact ⟨ram_spans hA5 HB2.out.1, hA5.frozen 65537⟩
    have HFI : Hid (∀ (g' cap' : Nat) (w5 : World), w5.ownsRow 0 47 2 (.slice (some ⟨g', 0, none⟩) (R.length + 1) cap') (R.length + 1) (spsV R ++ [.int .i64 (x : Int), .int .i64 (s.size : Int)]) → (w2.alloc (.cells #[.int .i64 (x : Int), .int .i64 (s.size : Int)] 47)).drew.grownBy w5 v.ownBlock → (v.ownBlock = some g' ∨ g' = w2.heap.size + 1) →
        RMX (w5.setCell ⟨g, 65537, none⟩ (.slice (some ⟨g', 0, none⟩) (R.length + 1) cap')) g (.slice (some ⟨g', 0, none⟩) (R.length + 1) cap') (R ++ [⟨x, s⟩]) ∧ Moved w2 (w5.setCell ⟨g, 65537, none⟩ (.slice (some ⟨g', 0, none⟩) (R.length + 1) cap')) (fpM g v) (fpM g (.slice (some ⟨g', 0, none⟩) (R.length + 1) cap'))) := by
      intro g' cap' w5 hown hg hat
      have hA5 := HAD.out.gr hg (ow_arr HAD.out HOD.out tyneM)
      have e1 : (R ++ [LD.mk x s]).length = R.length + 1 := by simp
      have e2 : spsV (R ++ [LD.mk x s]) = spsV R ++ [.int .i64 (x : Int), .int .i64 (s.size : Int)] := by
        unfold spsV
        rw [List.flatMap_append]
        rfl
      refine ⟨⟨B2, HB2.out, ram_setSpans hA5 HB2.out.1 _, ?_⟩, ?_⟩
      · rw [e1, e2]; exact ow_set hA5 hown tyneM _ _
      have m1 : Moved w2 _ (fpM g v) (fpM g v) := Moved.of_below HBA.out _
      have m2 : Moved _ w5 (fpM g v) (fpM g (.slice (some ⟨g', 0, none⟩) (R.length + 1) cap')) := Moved.grown hg (fun k hk => .inr hk) (fun k hk => by
        rcases hk with rfl | hk
        · exact .inl (.inl rfl)
        · simp only [Value.ownBlock, Option.some.injEq] at hk
          subst hk
          rcases hat with h1 | h1
          · exact .inl (.inr h1)
          · refine .inr ?_
            show (w2.alloc _).heap.size ≤ g'
            rw [sz_alloc]; omega)
      have m3 : Moved w5 (w5.setCell ⟨g, 65537, none⟩ (.slice (some ⟨g', 0, none⟩) (R.length + 1) cap')) (fpM g (.slice (some ⟨g', 0, none⟩) (R.length + 1) cap')) (fpM g (.slice (some ⟨g', 0, none⟩) (R.length + 1) cap')) := Moved.grown (gr_cell _ _ _ _) (fun k hk => .inl (by injection hk with hk; exact hk.symm)) (fun k hk => .inl hk)
      exact (m1.trans m2).trans m3
    clear hu hi hz0 hz1' hz2 hba
    go_upto_region 6 with (at_builtin; refine copy_str rfl _ _ _ _ rfl _ _ rfl rfl hcp ?_)
    go_cut [34] (fun s34 wx => RMX wx g s34 (R ++ [⟨x, s⟩]) ∧ Moved w2 wx (fpM g v) (fpM g s34))
    case first => as_aux_lemma =>
      go_region_law (first | (refine step_append_lies _ (by rfl) _ _ _ (by rfl) 0 47 i0 (.agg #[.int .i64 0, .int .i64 0]) 2 16 HU.out HI.out HZ0.out HZ1.out HZ2.out rfl (by decide) v R.length (spsV R) (by rfl) HOD.out ⟨w2.heap.size, 0, none⟩ 1 1 [.int .i64 (x : Int), .int .i64 (s.size : Int)] (by rfl) rfl HNW.out HON.out (by decide) (by unfold maxLen; omega) (by omega) (Nat.zero_le _) _ rfl ?_; intro g' cap' w5 hown5 hgrow hat hlt5; obtain ⟨y0, y1⟩ := HKP.out _ hgrow))
      all_goals (go_wp2_with fail; go_meet; exact HFI.out _ _ _ hown5 hgrow (hat.imp id (fun e => e.trans (sz_alloc _ _))))
    case rest => as_aux_lemma =>
      obtain ⟨hr2, hM2⟩ := hcut
      have HR2 := Lib.hid hr2
      have HM2 := Lib.hid (HMW.out.trans hM2)
      clear hr2 hM2
      go_wp2
      go_ret
      exact ⟨rfl, _, HR2.out, HM2.out⟩
  · have d1 : ((r : Int) != 0) = true := by simp; omega
    have d2 : ((r : Int) == 0) = false := by simp; omega
    rw [HNO.out hr0]
    clear hr0 HNO HYE
    go_enter Try.func7, Try.ntmps7
    go_wp2_with fail
    refine (HCK.out _ _ (sz_alloc _ _) HBa.out).mono ?_
    rintro e w1 ⟨rfl, hb1⟩
    have HB1 : Hid (Below w.heap.size w w1) := HBa.out.trans (hb1.mono HBa.out.size)
    clear hb1
    go_wp2
    go_ret
    exact ⟨rfl, v, H.out.below HB1.out, Moved.of_below HB1.out _⟩

/-- Package ram does what it must. -/
theorem ram_must : RamMust RMB where
  below := fun w w' q F R ⟨g, v, hq, hF, h⟩ hb => ⟨g, v, hq, hF, h.below hb⟩
  lt := fun w q F R k ⟨g, v, hq, hF, h⟩ hk => by subst hF; exact h.foot hk
  kept := fun w w' q F G G' R ⟨g, v, hq, hF, h⟩ hm hn => by subst hF; exact ⟨g, v, hq, rfl, h.kept hm hn⟩
  new := fun w => (mnew_any w).mono fun _ _ ⟨h1, h2, h3⟩ => ⟨_, _, h1, ⟨_, _, rfl, rfl, h2⟩, (fun k hk => by
    rcases hk with rfl | hk
    · exact Nat.le_refl _
    · cases hk), h3⟩
  load := fun w q F R a s ⟨g, v, hq, hF, h⟩ hok hR h1 h2 h3 => by
    subst hq hF
    exact (mload_any g v R a s w h hok hR).mono fun _ _ ⟨h4, v', h5, h6⟩ => ⟨h4, _, ⟨g, v', rfl, rfl, h5⟩, h6⟩
  check := fun w q F R A cap l ⟨g, v, hq, hF, h⟩ hok hR hr hl hc hm _ => by
    subst hq
    exact mcheck_any g v R A cap l w h hok hR hr hl hc hm
  read := fun w q F R a n ⟨g, v, hq, hF, h⟩ _ _ _ _ _ _ => by
    subst hq
    exact (mread_any g v R a n w h).mono fun _ _ ⟨h1, h2⟩ => ⟨h1, by rw [← h2]; exact Below.refl _ _⟩
  spans := fun w q F R ⟨g, v, hq, hF, h⟩ _ hR => by
    subst hq
    exact mspans_any g v R w h hR
theorem mclear_must (w : World) (q : Option Addr) (F : Nat → Prop) (R : List LD) (h : RMB w q F R) :
    Calls Try.prog 11 #[.pointer q] w fun e w' => e = .returned (.tuple #[]) ∧ ∃ F', RMB w' q F' [] ∧ Moved w w' F F' := by
  obtain ⟨g, v, rfl, rfl, h⟩ := h
  refine (mclear_any g v R w h).mono ?_
  rintro e w' ⟨h1, h2, h3⟩
  refine ⟨h1, _, ⟨g, _, rfl, rfl, h2⟩, Moved.grown h3 (fun k hk => .inl (by injection hk with hk; exact hk.symm)) (fun k hk => ?_)⟩
  rcases hk with rfl | hk
  · exact .inl (.inl rfl)
  · cases hk

/-- A Ram that nobody made: a nil one, or a zero one. -/
def Nob7 (w : World) (p : Option Addr) : Prop := p = none ∨ ∃ g, p = some ⟨g, 0, none⟩ ∧ w.cell? ⟨g, 0, none⟩ = some (.bool false)
theorem Nob7.below {w w' : World} {p : Option Addr} (h : Nob7 w p) (hb : Below w.heap.size w w') : Nob7 w' p := by
  rcases h with h | ⟨g, h, hc⟩
  · exact .inl h
  · exact .inr ⟨g, h, cell_below hc hb⟩
theorem nob7_usable (p : Option Addr) (w : World) (h : Nob7 w p) : Calls Try.prog 17 #[.pointer p] w fun e w' => e = .returned (.bool false) ∧ w = w' := by
  rcases h with rfl | ⟨g, rfl, hc⟩
  · exact musable_nil w
  · exact musable_any g false w hc
theorem nob7_clear (p : Option Addr) (w : World) (h : Nob7 w p) : Calls Try.prog 11 #[.pointer p] w fun e w' => e = .returned (.tuple #[]) ∧ w = w' := by
  have HU := Lib.hid (nob7_usable p w h)
  clear h
  go_enter Try.func11, Try.ntmps11
  go_wp2_with fail
  refine HU.out.mono ?_
  rintro e w1 ⟨rfl, rfl⟩
  go_wp2
  exact bodyPost_ret (v := .tuple #[]) (results_none rfl _ _ _) rfl ⟨rfl, rfl⟩
theorem nob7_read (p : Option Addr) (a n : Int) (w : World) (h : Nob7 w p) : Calls Try.prog 9 #[.pointer p, .int .i64 a, .int .i64 n] w fun e w' => e = .returned (.tuple #[.string ⟨#[]⟩, .int .i64 2]) ∧ w = w' := by
  have HU := Lib.hid (nob7_usable p w h)
  clear h
  go_enter Try.func9, Try.ntmps9
  go_wp2_with fail
  refine HU.out.mono ?_
  rintro e w1 ⟨rfl, rfl⟩
  go_wp2
  go_ret2
  exact ⟨rfl, rfl⟩
theorem nob7_spans (p : Option Addr) (w : World) (h : Nob7 w p) : Calls Try.prog 13 #[.pointer p] w fun e w' => e = .returned (.slice none 0 0) ∧ w = w' := by
  have HU := Lib.hid (nob7_usable p w h)
  clear h
  go_enter Try.func13, Try.ntmps13
  go_wp2_with fail
  refine HU.out.mono ?_
  rintro e w1 ⟨rfl, rfl⟩
  go_wp2
  go_ret
  exact ⟨rfl, rfl⟩
theorem nob7_check (p : Option Addr) (u : Value) (w : World) (h : Nob7 w p) : Calls Try.prog 14 #[.pointer p, u] w fun e w' => e = .returned (.int .i64 2) ∧ w = w' := by
  have HU := Lib.hid (nob7_usable p w h)
  clear h
  go_enter Try.func14, Try.ntmps14
  go_wp2_with fail
  refine HU.out.mono ?_
  rintro e w1 ⟨rfl, rfl⟩
  go_wp2
  go_ret
  exact ⟨rfl, rfl⟩
theorem nob7_load (p : Option Addr) (a : Int) (s : ByteArray) (w : World) (h : Nob7 w p) : Calls Try.prog 7 #[.pointer p, .int .i64 a, .string s] w fun e w' => e = .returned (.int .i64 2) ∧ Below w.heap.size w w' := by
  have hb1 := (Below.refl w.heap.size w).alloc (Nat.le_refl _) (.cells #[.int .i64 a, .int .i64 (s.size : Int)] 47)
  have hb2 := hb1.alloc hb1.size (.cells #[.int .i64 a, .int .i64 (s.size : Int)] 47)
  have HB := Lib.hid hb2
  have HC := Lib.hid (fun u => nob7_check p u _ (h.below hb2))
  clear h hb1 hb2
  go_enter Try.func7, Try.ntmps7
  go_wp2_with fail
  refine (HC.out _).mono ?_
  rintro e w1 ⟨rfl, rfl⟩
  go_wp2
  go_ret
  exact ⟨rfl, HB.out⟩
end Go.Proofs.Ytecfdcibjmakeaa
