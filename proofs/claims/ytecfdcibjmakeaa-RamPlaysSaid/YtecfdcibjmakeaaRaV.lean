/- What package ram's Check, Read, Spans, Clear and New do, and what all of them do with a Ram that nobody made. Conditions: a Ram in which at most 100 spans are loaded, and they exist; a slice of at most 20 spans, no longer than its capacity. -/
import Derived.Test.YtecfdcibjmakeaaRaU
namespace Go.Proofs.Ytecfdcibjmakeaa
open Go.RowKit

theorem rdSp_take {w : World} {A : Option Addr} {l : List SP} (h : RdSp w A l) (k : Nat) : RdSp w A (l.take k) := by
  rcases h with rfl | ⟨b, off, rfl, hc⟩
  · exact .inl (by simp)
  · refine .inr ⟨b, off, rfl, fun j hj => ?_⟩
    rw [List.length_take] at hj
    rw [take_sp l (by omega)]
    exact hc j (by omega)

set_option maxHeartbeats 3200000 in
set_option maxRecDepth 100000 in
theorem mcheck_any (g : Nat) (v : Value) (R : List LD) (A : Option Addr) (cap : Nat) (l : List SP) (w : World) (h : RMX w g v R) (hok : RamOk R) (hR : R.length ≤ 100) (hr : RdSp w A l) (hl : l.length ≤ 20) (hcp : l.length ≤ cap) (hcm : cap ≤ maxLen) :
    Calls Try.prog 14 #[.pointer (some ⟨g, 0, none⟩), .slice A l.length cap] w fun e w' => e = .returned (.int .i64 (ckR (R.map LD.sp) l : Int)) ∧ Below w.heap.size w w' := by
  have HU : Hid (Calls Try.prog 17 #[.pointer (some ⟨g, 0, none⟩)] w fun e w' => e = .returned (.bool true) ∧ w = w') := by
    obtain ⟨B, _, hA, _⟩ := h
    exact musable_any g true w (ram_made hA)
  have HR := Lib.hid hr
  have HCM : Hid (cap ≤ maxLen) := hcm
  have HFA : Hid (∀ k W, k < l.length → Below w.heap.size w W → (∀ j, j < k → er1 (R.map LD.sp) l j = 0) → Calls Try.prog 21 #[.pointer (some ⟨g, 0, none⟩), spV (l.getD k sp0), .slice A k cap] W fun e w' => e = .returned (.int .i64 (er1 (R.map LD.sp) l k : Int)) ∧ Below W.heap.size W w') := by
    intro k W hk hW hall
    have hlen : (l.take k).length = k := by rw [List.length_take]; omega
    have := mfault_any g v R (l.getD k sp0) A cap (l.take k) W (h.below hW) hok hR (rdSp_take (hr.below hW) k) (by omega) (fun j hj => by rw [take_sp l (by omega)]; exact er1_ins (hall j (by omega)))
    rwa [ft_er1, hlen] at this
  have hcap : l.length ≤ cap := hcp
  have hcx : cap ≤ 9223372036854775807 := by unfold maxLen at hcm; omega
  clear h hok hR hr hcm hcp
  go_enter Try.func14, Try.ntmps14
  go_wp2_with fail
  refine HU.out.mono ?_
  rintro e w1 ⟨rfl, rfl⟩
  clear HU
  go_wp2
  go_loopw [13] (fun i wr => ∃ k : Nat, k ≤ l.length ∧ i = .int .i64 k ∧ (∀ j, j < k → er1 (R.map LD.sp) l j = 0) ∧ Below w.heap.size w wr) (fun i _ => l.length - (intOf i).toNat)
  case atStart => exact ⟨0, Nat.zero_le _, rfl, fun _ h => absurd h (Nat.not_lt_zero _), Below.refl _ _⟩
  case round =>
    obtain ⟨k, hk, rfl, hall, hb⟩ := hrel
    have HALL := Lib.hid hall
    have HB := Lib.hid hb
    have hsz := hb.size
    clear hall hb
    by_cases hlt : k < l.length
    · have hki : (k : Int) < l.length := by omega
      have hkc : k ≤ cap := by omega
      have hkci : (k : Int) ≤ cap := by omega
      obtain ⟨b, off, x, rfl, hpt, HX⟩ := (HR.out.below HB.out).at_ hlt
      have HF : Hid (∀ W, Below w.heap.size w W → Calls Try.prog 21 #[.pointer (some ⟨g, 0, none⟩), spV x, .slice (some ⟨b, off, none⟩) k cap] W fun e w' => e = .returned (.int .i64 (er1 (R.map LD.sp) l k : Int)) ∧ Below W.heap.size W w') := by
        intro W hW
        rw [← HX.out]
        exact HFA.out k W hlt hW HALL.out
      have HNZ : Hid (er1 (R.map LD.sp) l k ≠ 0 → ckR (R.map LD.sp) l = er1 (R.map LD.sp) l k) := fun h => ckR_first hlt HALL.out rfl h
      have HZ : Hid (er1 (R.map LD.sp) l k = 0 → ∀ j, j < k + 1 → er1 (R.map LD.sp) l j = 0) := fun h j hj => by
        by_cases e : j = k
        · subst e; exact h
        · exact HALL.out j (by omega)
      generalize er1 (R.map LD.sp) l k = er at *
      obtain ⟨p, n⟩ := x
      obtain ⟨c0, c1⟩ := hpt
      simp only at c0 c1
      simp only [spV] at HF
      clear HX
      have hbl : b < wr.heap.size := World.block_lt_of_cell? wr _ c0
      have hbn : b ≠ wr.heap.size := by omega
      have hba := (Below.refl wr.heap.size wr).alloc (Nat.le_refl _) (.cells #[.int .i64 p, .int .i64 n] 47)
      have HBa := Lib.hid (HB.out.trans (hba.mono hsz))
      have hA := Arr.new wr 47 #[.int .i64 p, .int .i64 n]
      have x0 : (wr.alloc (.cells #[.int .i64 p, .int .i64 n] 47)).cell? ⟨wr.heap.size, 0, none⟩ = some (.int .i64 p) := hA.cell 0
      have x1 : (wr.alloc (.cells #[.int .i64 p, .int .i64 n] 47)).cell? ⟨wr.heap.size, 1, none⟩ = some (.int .i64 n) := hA.cell 1
      clear hba hA
      go_upto_region 6 with fail
      generalize wr.alloc (.cells #[.int .i64 p, .int .i64 n] 47) = W at *
      generalize wr.heap.size = g6 at *
      clear c0 c1 hbl hbn
      have HKP : Hid (∀ W', Below W.heap.size W W' → W'.cell? ⟨g6, 0, none⟩ = some (.int .i64 p) ∧ W'.cell? ⟨g6, 1, none⟩ = some (.int .i64 n) ∧ Below W.heap.size W W') := fun W' hW => ⟨cell_below x0 hW, cell_below x1 hW, hW⟩
      have HQ : Hid (∀ W', Below W.heap.size W W' → Calls Try.prog 21 #[.pointer (some ⟨g, 0, none⟩), .agg #[.int .i64 p, .int .i64 n], .slice (some ⟨b, off, none⟩) k cap] W' fun e w' => e = .returned (.int .i64 (er : Int)) ∧ w'.cell? ⟨g6, 0, none⟩ = some (.int .i64 p) ∧ w'.cell? ⟨g6, 1, none⟩ = some (.int .i64 n) ∧ Below W.heap.size W w') :=
        fun W' hW => (HF.out W' (HBa.out.trans (hW.mono HBa.out.size))).mono fun _ _ ⟨h1, h2⟩ => ⟨h1, HKP.out _ (hW.trans (h2.mono hW.size))⟩
      have hbd : Below W.heap.size W W.drew := (Below.refl _ _).drew
      clear HF
      go_cut [7] (fun s7 wx => s7 = .int .i64 (er : Int) ∧ Below W.heap.size W wx)
      case first => as_aux_lemma =>
        first | (go_region_held3 (fun w' => w'.cell? ⟨g6, 0, none⟩ = some (.int .i64 p) ∧ w'.cell? ⟨g6, 1, none⟩ = some (.int .i64 n) ∧ Below W.heap.size W w') (exact HKP.out _ (by assumption)) (first | (go_at_call 21; refine (HQ.out _ (by assumption)).mono ?_; rintro e w7 ⟨rfl, s1, s2, s3⟩))) | fail
        all_goals (go_wp2_with fail; go_meet; exact ⟨rfl, by assumption⟩)
      case rest => as_aux_lemma =>
        obtain ⟨rfl, hbc⟩ := hcut
        have HBc := Lib.hid (HBa.out.trans (hbc.mono HBa.out.size))
        clear hbc hbd HQ HKP x0 x1 HBa
        by_cases he : er = 0
        · subst he
          have HN := Lib.hid (HZ.out rfl)
          clear HZ HNZ
          go_wp2
          go_roundw
          case rel => exact ⟨k + 1, by omega, by go_num, HN.out, HBc.out⟩
          case measure => simp [intOf]; omega
        · have HN := Lib.hid (HNZ.out he)
          have d1 : ((er : Int) != 0) = true := by simp; omega
          have d2 : ((er : Int) == 0) = false := by simp; omega
          clear HZ HNZ he
          go_wp2
          go_ret
          exact ⟨by rw [HN.out]; rfl, HBc.out⟩
    · obtain rfl : k = l.length := by omega
      have HN := Lib.hid (ckR_ok HALL.out)
      go_wp2
      go_ret
      exact ⟨by rw [HN.out]; rfl, HB.out⟩

theorem mslice_mid (g x y : Nat) (hx : x < 65536) (h : x + y ≤ 65536) (W : World) : (Instr.sliceAt 31 (.pointer (some ⟨g, 1, none⟩)) (some (.int .i64 (x : Int))) (some (.int .i64 ((x : Int) + y))) none).run Try.prog W = .ok (.slice (some ⟨g, 1 + x, none⟩) y (65536 - x)) W := by
  have h1 : ¬ (65536 = x) := by omega
  have h2 : (x : Int) + y ≤ 65536 := by omega
  have h3 : ((x : Int) + y).toNat = x + y := by omega
  have h4 : (0 : Int) ≤ (x : Int) + y := by omega
  simp [Instr.sliceAt, run_underlying Try.underlying31, Instr.sureAddr, Instr.sliceBounds, Try.sizeOf5, Addr.add, h1, h2, h3, h4, go_sem]
theorem mslice_end (g : Nat) (W : World) : (Instr.sliceAt 31 (.pointer (some ⟨g, 1, none⟩)) (some (.int .i64 ((65536 : Nat) : Int))) (some (.int .i64 (((65536 : Nat) : Int) + (0 : Nat)))) none).run Try.prog W = .ok (.slice (some ⟨g, 1, none⟩) 0 0) W := by
  simp [Instr.sliceAt, run_underlying Try.underlying31, Instr.sureAddr, Instr.sliceBounds, Try.sizeOf5, go_sem]

set_option maxHeartbeats 800000 in
set_option maxRecDepth 100000 in
theorem mread_any (g : Nat) (v : Value) (R : List LD) (a n : Int) (w : World) (h : RMX w g v R) :
    Calls Try.prog 9 #[.pointer (some ⟨g, 0, none⟩), .int .i64 a, .int .i64 n] w fun e w' => e = .returned (.tuple #[.string (rdR R a n).1, .int .i64 ((rdR R a n).2 : Int)]) ∧ w = w' := by
  obtain ⟨B, hB, hA, _⟩ := h
  have HU := Lib.hid (musable_any g true w (ram_made hA))
  have HT := Lib.hid (mthere_any a n w)
  cases hin : insS ⟨a, n⟩ with
  | false =>
    have HR : Hid (rdR R a n = (⟨#[]⟩, 2)) := by unfold Hid rdR; rw [if_neg (by rw [hin]; decide)]
    rw [hin] at HT
    rw [HR.out]
    clear hin hA hB
    go_enter Try.func9, Try.ntmps9
    go_wp2_with fail
    refine HU.out.mono ?_
    rintro e w1 ⟨rfl, rfl⟩
    go_wp2_with fail
    refine HT.out.mono ?_
    rintro e w1 ⟨rfl, rfl⟩
    go_wp2
    go_ret2
    exact ⟨rfl, rfl⟩
  | true =>
    rw [hin] at HT
    have hb := insS_of hin
    simp only at hb
    obtain ⟨b1, b2, b3, b4⟩ := hb
    obtain ⟨x, rfl⟩ := Int.eq_ofNat_of_zero_le b1
    obtain ⟨y, rfl⟩ := Int.eq_ofNat_of_zero_le b2
    have hx : x ≤ 65536 := by omega
    have hy : x + y ≤ 65536 := by omega
    have HR : Hid (rdR R (x : Int) (y : Int) = (⟨((B.drop x).take y).toArray⟩, 0)) := by
      unfold Hid rdR
      rw [if_pos hin, Int.toNat_natCast, Int.toNat_natCast, mb_read hB hy]
    obtain ⟨o, cp, hsl, hs⟩ : ∃ o cp, (Instr.sliceAt 31 (.pointer (some ⟨g, 1, none⟩)) (some (.int .i64 (x : Int))) (some (.int .i64 ((x : Int) + y))) none).run Try.prog w = .ok (.slice (some ⟨g, o, none⟩) y cp) w ∧
        (convert 50 9 (.slice (some ⟨g, o, none⟩) y cp)).run Try.prog w = .ok (.string ⟨((B.drop x).take y).toArray⟩) w := by
      by_cases he : x < 65536
      · exact ⟨1 + x, _, mslice_mid g x y he hy w, ram_string hA x y _ (by have := hB.1; omega)⟩
      · obtain rfl : x = 65536 := by omega
        obtain rfl : y = 0 := by omega
        exact ⟨1, 0, mslice_end g w, by have := ram_string hA 0 0 0 (by omega); rwa [List.take_zero] at this ⊢⟩
    rw [HR.out]
    generalize ((B.drop x).take y).toArray = bs at *
    clear hin b1 b2 b3 b4 hB hA HR
    go_enter Try.func9, Try.ntmps9
    go_wp2_with fail
    refine HU.out.mono ?_
    rintro e w1 ⟨rfl, rfl⟩
    go_wp2_with fail
    refine HT.out.mono ?_
    rintro e w1 ⟨rfl, rfl⟩
    go_wp2
    go_ret2
    exact ⟨rfl, rfl⟩

set_option maxHeartbeats 800000 in
set_option maxRecDepth 100000 in
theorem mspans_any (g : Nat) (v : Value) (R : List LD) (w : World) (h : RMX w g v R) (hR : R.length ≤ 100) :
    Calls Try.prog 13 #[.pointer (some ⟨g, 0, none⟩)] w fun e w' => ∃ A cap, e = .returned (.slice A (R.map LD.sp).length cap) ∧ RdSp w' A (R.map LD.sp) ∧ Below w.heap.size w w' := by
  obtain ⟨B, hB, hA, hown⟩ := h
  have HU := Lib.hid (musable_any g true w (ram_made hA))
  obtain ⟨AL, capL, rfl, hsp⟩ := own_spans hown
  have cs := ram_spans hA hB.1
  have HC := Lib.hid (cloneSp_any AL capL (R.map LD.sp) w hsp (by rw [List.length_map]; omega))
  clear hA hB hown hsp hR
  generalize R.map LD.sp = K at *
  go_enter Try.func13, Try.ntmps13
  go_wp2_with fail
  refine HU.out.mono ?_
  rintro e w1 ⟨rfl, rfl⟩
  go_wp2_with fail
  refine HC.out.mono ?_
  rintro e w1 ⟨A', cap', rfl, hP, hb⟩
  have HP := Lib.hid hP
  clear hP
  go_wp2
  go_ret
  exact ⟨_, _, rfl, HP.out, hb⟩

set_option maxHeartbeats 800000 in
set_option maxRecDepth 100000 in
theorem mclear_any (g : Nat) (v : Value) (R : List LD) (w : World) (h : RMX w g v R) :
    Calls Try.prog 11 #[.pointer (some ⟨g, 0, none⟩)] w fun e w' => e = .returned (.tuple #[]) ∧ RMX w' g (.slice none 0 0) [] ∧ w.grownBy w' (some g) := by
  obtain ⟨B, hB, hA, hown⟩ := h
  have HU := Lib.hid (musable_any g true w (ram_made hA))
  obtain ⟨n, hn⟩ : ∃ n, n = 65536 := ⟨_, rfl⟩
  have hz : ∀ w, (zeroValue 5).run Try.prog w = .ok (.int .u8 0) w := fun w => by go_simp
  have hBn : B.length = n := by rw [hB.1, hn]
  have hrun := run_clear_row (P := Try.prog) w 50 5 0 (.int .u8 0) Try.underlying50 hz rfl rfl g 1 n n (by omega) (ramC true B v) 33 hA (by rw [ramC_size]; omega)
  have hrep : List.replicate n (Value.int .u8 0) = Lib.byteCells (List.replicate n 0) := by unfold Lib.byteCells; rw [List.map_replicate]; rfl
  have hcop := ramC_copied true B (List.replicate n 0) v 0 (by rw [List.length_replicate]; omega)
  have hd : B.drop n = [] := List.drop_of_length_le (by omega)
  rw [List.length_replicate, Nat.add_zero, Nat.zero_add, List.take_zero, List.nil_append, hd, List.append_nil] at hcop
  rw [hrep, hcop] at hrun
  have hA1 := hA.row (ramC true (List.replicate n 0) v)
  have hg1 := grown_row w g (ramC true (List.replicate n 0) v)
  generalize w.setRow g (ramC true (List.replicate n 0) v) = w1 at *
  have hMB := mb_zero n hn
  have cs := ram_spans hA1 (by rw [List.length_replicate, hn])
  have fs := hA1.frozen 65537
  have HG : Hid (RMX (w1.setCell ⟨g, 65537, none⟩ (.slice none 0 0)) g (.slice none 0 0) [] ∧ w.grownBy (w1.setCell ⟨g, 65537, none⟩ (.slice none 0 0)) (some g)) :=
    ⟨⟨List.replicate n 0, hMB, ram_setSpans hA1 (by rw [List.length_replicate, hn]) _, World.ownsRow_nil _ _ _ _⟩, grown_put hg1 _ _⟩
  have hrun2 : ∀ ty, (Builtin.clear_ #[50] ty #[.slice (some ⟨g, 1, none⟩) 65536 65536]).run Try.prog w = .ok (.tuple #[]) w1 := fun ty => by rw [← hn]; exact hrun
  clear hA hB hown hBn hrep hcop hd hA1 hg1 hMB hrun hz hn
  go_enter Try.func11, Try.ntmps11
  go_wp2_with fail
  refine HU.out.mono ?_
  rintro e w1 ⟨rfl, rfl⟩
  go_wp2
  go_end0
  exact ⟨rfl, HG.out⟩

set_option maxHeartbeats 800000 in
set_option maxRecDepth 100000 in
theorem mnew_any (w : World) : Calls Try.prog 6 #[] w fun e w' => e = .returned (.pointer (some ⟨w.heap.size, 0, none⟩)) ∧ RMX w' w.heap.size (.slice none 0 0) [] ∧ Below w.heap.size w w' := by
  have HB : Hid (∀ o, Below w.heap.size w (w.alloc o)) := fun o => (Below.refl _ _).alloc (Nat.le_refl _) o
  have h0 : ram0.size = 65538 := by unfold ram0; rw [ramC_size, List.length_replicate]
  have e1 := ramC_made false true (List.replicate 65536 0) (.slice none 0 0)
  rw [show ramC false (List.replicate 65536 0) (.slice none 0 0) = ram0 from rfl] at e1
  obtain ⟨c1, hc1⟩ : ∃ c1, ramC true (List.replicate 65536 0) (.slice none 0 0) = c1 := ⟨_, rfl⟩
  have HA : Hid (RMX (w.alloc (.cells c1 33)) w.heap.size (.slice none 0 0) []) := by
    rw [← hc1]
    exact ⟨List.replicate 65536 0, mb_zero 65536 rfl, Arr.new w _ _, World.ownsRow_nil _ _ _ _⟩
  rw [hc1] at e1
  have hzz := zeroRam
  generalize ram0 = c0 at *
  have hne : ¬ (c0 = #[]) := fun e => by rw [e] at h0; cases h0
  clear hc1
  go_enter Try.func6, Try.ntmps6
  go_wp2
  go_ret
  exact ⟨rfl, HA.out, HB.out _⟩
end Go.Proofs.Ytecfdcibjmakeaa
