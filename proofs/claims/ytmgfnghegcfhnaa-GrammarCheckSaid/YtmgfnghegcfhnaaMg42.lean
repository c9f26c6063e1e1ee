/- What package grammar's checkFrom returns. Conditions: a tree of at most eight levels whose nodes are small. -/
import Derived.Test.YtmgfnghegcfhnaaMg38
import Derived.Test.YtmgfnghegcfhnaaMg41
import Derived.Test.YtmgfnghegcfhnaaMg24
namespace Go.Proofs.Ytmgfnghegcfhnaa
open Go.RowKit

theorem low_lens {L : Nat} {n : ND} (h : lowR (L + 1) n = true) : n.ps.length ≤ 300 ∧ n.ks.length ≤ 80 ∧ ∀ i, i < n.ks.length → (n.ks.getD i nd0).nm.size ≤ 100 := by
  have h1 : (decide (n.nm.size ≤ 100 ∧ n.ps.length ≤ 300 ∧ n.ks.length ≤ 80) && (n.ps.all lowP && n.ks.all (lowR L))) = true := h
  rw [Bool.and_eq_true] at h1
  have h2 := of_decide_eq_true h1.1
  refine ⟨h2.2.1, h2.2.2, fun i hi => ?_⟩
  by_cases h0 : L = 0
  · subst h0
    have := low_kids h _ (getD_mem (d := nd0) hi)
    cases this
  · exact (low_names h).2 i hi h0
theorem map_getD {α : Type} (f : α → ByteArray) (d : α) (l : List α) {k : Nat} (hk : k < (l.map f).length) : (l.map f).getD k ByteArray.empty = f (l.getD k d) := by
  rw [List.length_map] at hk
  rw [List.getD_eq_getElem?_getD, List.getD_eq_getElem?_getD, List.getElem?_map, List.getElem?_eq_getElem hk]
  rfl

set_option maxHeartbeats 3200000 in
set_option maxRecDepth 100000 in
theorem checkFrom_any : ∀ (k L : Nat) (G : Nat → Prop) (n : ND) (v2 v3 : Value) (w : World), (countR (k + 1) n).c ≤ k → lowR (L + 1) n = true → NdAt w G n v2 v3 →
    Calls Try.prog 30 #[.agg #[.string n.nm, v2, v3]] w fun e w' => e = .returned (.int .i64 (from19 k n : Nat)) ∧ Below w.heap.size w w'
  | 0, _, _, n, _, _, _, hd, _, _ => by
    rw [countR_eq] at hd
    exact absurd hd (by simp)
  | k + 1, L, _, n, v2, v3, w, hd, hlow, hN0 => by
    have hN := nd_lt hN0
    clear hN0
    obtain ⟨hl1, hl2, hl3⟩ := low_lens hlow
    have hl4 := (low_names hlow).1
    have HIH : Hid (∀ (j : Nat) (y z : Value) (W : World), j < n.ks.length → NdAt W (fun b => b < w.heap.size) (n.ks.getD j nd0) y z → Calls Try.prog 30 #[.agg #[.string (n.ks.getD j nd0).nm, y, z]] W fun e w' => e = .returned (.int .i64 (from19 k (n.ks.getD j nd0) : Nat)) ∧ Below W.heap.size W w') := fun j y z W hj h => by
      obtain ⟨L', rfl⟩ : ∃ L', L = L' + 1 := by
        have := low_kids hlow _ (getD_mem (d := nd0) hj)
        cases L with
        | zero => cases this
        | succ L' => exact ⟨L', rfl⟩
      exact checkFrom_any k L' (fun b => b < w.heap.size) (n.ks.getD j nd0) y z W (by have := (kid_le (k + 1) n hj).2.2; omega) (low_kids hlow _ (getD_mem hj)) h
    have HHE : Hid (∀ a b, names19 prop19 (n.ps.map PR.nm) = a → names19 nodeR (n.ks.map ND.nm) = b → from19 (k + 1) n = orE (orE a b) (n.ks.foldl (fun a x => orE a (from19 k x)) 0)) := fun a b ha hb => by
      show orE (here19 n) _ = _
      rw [here19_names, ha, hb]
      unfold orE
      by_cases h : a = 0
      · rw [if_pos h]
      · rw [if_neg h]
    have HHIT : Hid (∀ j, j < n.ks.length → fromF k n j = 0 → from19 k (n.ks.getD j nd0) ≠ 0 → n.ks.foldl (fun a x => orE a (from19 k x)) 0 = from19 k (n.ks.getD j nd0)) := fun j hj => fromF_hit k n hj
    have HNX : Hid (∀ j, j < n.ks.length → fromF k n j = 0 → from19 k (n.ks.getD j nd0) = 0 → fromF k n (j + 1) = 0) := fun j hj h1 h2 => by rw [fromF_succ k n hj, h1, h2]; rfl
    have HEN : Hid (fromF k n n.ks.length = n.ks.foldl (fun a x => orE a (from19 k x)) 0) := by unfold Hid fromF; rw [List.take_length]
    have HPN := Lib.hid (fun W h => propNames_any (fun b => b < w.heap.size) n v2 v3 W (by omega) (h : NdAt W _ n v2 v3))
    have HKN := Lib.hid (fun W h => kidNames_any (fun b => b < w.heap.size) n v2 v3 W (by omega) (h : NdAt W _ n v2 v3))
    have HC1 : Hid (∀ (B : Nat) (v : Value) (W : World), B ≤ W.heap.size → W.ownsRow B 9 1 v n.ps.length (n.ps.map fun x => Value.string x.nm) → Calls Try.prog 40 #[v, .func (.func 11) #[] #[]] W fun e w' => e = .returned (.int .i64 (names19 prop19 (n.ps.map PR.nm) : Nat)) ∧ Below B W w') := fun B v W hB ho => by
      refine checkNames_any 11 (enters_of Try.func11 (by kernel_rfl) rfl) prop19 B v (n.ps.map PR.nm) W ?_ hB (by rw [List.length_map]; omega) (fun i hi => ?_) (fun s W h => gprop_any s W h)
      · rw [List.length_map, List.map_map]; exact ho
      · rw [map_getD PR.nm pr0 n.ps hi]
        rw [List.length_map] at hi
        have := hl4 i hi; omega
    have HC2 : Hid (∀ (B : Nat) (v : Value) (W : World), B ≤ W.heap.size → W.ownsRow B 9 1 v n.ks.length (n.ks.map fun x => Value.string x.nm) → Calls Try.prog 40 #[v, .func (.func 9) #[] #[]] W fun e w' => e = .returned (.int .i64 (names19 nodeR (n.ks.map ND.nm) : Nat)) ∧ Below B W w') := fun B v W hB ho => by
      refine checkNames_any 9 (enters_of Try.func9 (by kernel_rfl) rfl) nodeR B v (n.ks.map ND.nm) W ?_ hB (by rw [List.length_map]; omega) (fun i hi => ?_) (fun s W h => gnode_any s W h)
      · rw [List.length_map, List.map_map]; exact ho
      · rw [map_getD ND.nm nd0 n.ks hi]
        rw [List.length_map] at hi
        have := hl3 i hi; omega
    have HF0 : Hid (fromF k n 0 = 0) := rfl
    generalize names19 prop19 (n.ps.map PR.nm) = a at *
    generalize names19 nodeR (n.ks.map ND.nm) = b at *
    have HFR := Lib.hid (HHE.out a b rfl rfl)
    clear HHE
    generalize n.ks.foldl (fun a x => orE a (from19 k x)) 0 = c at *
    generalize from19 (k + 1) n = R at *
    obtain ⟨A, K, pc, kc, rfl, rfl, hpc, hpm, hkc, hkm⟩ := nd_shape hN
    unfold maxLen at hpm hkm
    obtain ⟨W1, hW1⟩ : ∃ W1, W1 = w.alloc (.cells #[.string n.nm, .slice A n.ps.length pc, .slice K n.ks.length kc] 29) := ⟨_, rfl⟩
    obtain ⟨g8, hg8⟩ : ∃ g8, g8 = w.heap.size := ⟨_, rfl⟩
    have hB1 : Below w.heap.size w W1 := by rw [hW1]; exact (Below.refl _ _).alloc (Nat.le_refl _) _
    have hA8 : Arr W1 g8 29 #[.string n.nm, .slice A n.ps.length pc, .slice K n.ks.length kc] := by rw [hW1, hg8]; exact Arr.new w _ _
    have HCE : Hid (∀ W, Below W1.heap.size W1 W → W.cell? ⟨g8, 0, none⟩ = some (.string n.nm) ∧ W.cell? ⟨g8, 1, none⟩ = some (.slice A n.ps.length pc) ∧ W.cell? ⟨g8, 2, none⟩ = some (.slice K n.ks.length kc)) := fun W h => by
      have q := hA8.below h hA8.lt
      exact ⟨q.cell 0, q.cell 1, q.cell 2⟩
    have HND : Hid (∀ W, Below W1.heap.size W1 W → NdAt W (fun b => b < w.heap.size) n (.slice A n.ps.length pc) (.slice K n.ks.length kc)) := fun W h => nd_below (nd_below hN hB1) h
    have HB1 := Lib.hid hB1
    obtain ⟨c0, c1, c2⟩ := HCE.out W1 (Below.refl _ _)
    have HP := Lib.hid (HPN.out W1 (HND.out W1 (Below.refl _ _)))
    clear hN hB1 hA8 hlow hl3 hl4 HPN hd
    go_enter Try.func30, Try.ntmps30
    go_upto_region 1 with fail
    rw [← hW1, ← hg8]
    clear hW1 hg8
    go_wp2_with fail
    refine HP.out.mono ?_
    rintro e w2 ⟨v, rfl, ho, hb2⟩
    have HQ := Lib.hid (HC1.out W1.heap.size v w2 hb2.size ho)
    have HB2 := Lib.hid hb2
    clear ho hb2 HP HC1 c0 c1 c2
    go_wp2_with fail
    refine HQ.out.mono ?_
    rintro e w3 ⟨rfl, hb3⟩
    have HB3 := Lib.hid (HB2.out.trans hb3)
    clear hb3 HQ HB2
    by_cases ha : a = 0
    · have da : ((a : Int) != 0) = false := by rw [ha]; rfl
      have HFR : Hid (R = orE b c) := by unfold Hid; rw [HFR.out, ha]; rfl
      have HP := Lib.hid (HKN.out w3 (HND.out w3 HB3.out))
      obtain ⟨c0, c1, c2⟩ := HCE.out w3 HB3.out
      clear ha HKN
      go_wp2_with fail
      refine HP.out.mono ?_
      rintro e w4 ⟨v, rfl, ho, hb4⟩
      have HQ := Lib.hid (HC2.out w3.heap.size v w4 hb4.size ho)
      have HB4 := Lib.hid hb4
      clear ho hb4 HP HC2 c0 c1 c2
      go_wp2_with fail
      refine HQ.out.mono ?_
      rintro e w5 ⟨rfl, hb5⟩
      have HB5 := Lib.hid (HB3.out.trans ((HB4.out.trans hb5).mono HB3.out.size))
      clear hb5 HQ HB4 HB3
      by_cases hb : b = 0
      · have db : ((b : Int) != 0) = false := by rw [hb]; rfl
        have HFR : Hid (R = c) := by unfold Hid; rw [HFR.out, hb]; rfl
        obtain ⟨c0, c1, c2⟩ := HCE.out w5 HB5.out
        clear hb
        go_wp2
        go_loopw [23] (fun iv wr => ∃ j : Nat, j ≤ n.ks.length ∧ iv = .int .i64 j ∧ Hid (fromF k n j = 0) ∧ Below W1.heap.size W1 wr) (fun iv _ => n.ks.length - (intOf iv).toNat)
        case atStart => exact ⟨0, Nat.zero_le _, rfl, HF0.out, HB5.out⟩
        case round =>
          clear c0 c1 c2 HF0
          obtain ⟨j, hj, rfl, HJ, hbr⟩ := hrel
          have HBR := Lib.hid hbr
          by_cases hlt : j < n.ks.length
          · have hji : (j : Int) < n.ks.length := by omega
            obtain ⟨b0, off, x, y, z, rfl, h1, h2, h3, h4, HX⟩ := nd_kid (HND.out wr hbr) hlt
            obtain ⟨ya, za, yc, zc, rfl, rfl, _⟩ := nd_shape h4
            obtain ⟨W9, hW9⟩ : ∃ W9, W9 = wr.alloc (.cells #[.string x.nm, .slice ya x.ps.length yc, .slice za x.ks.length zc] 29) := ⟨_, rfl⟩
            obtain ⟨g9, hg9⟩ : ∃ g9, g9 = wr.heap.size := ⟨_, rfl⟩
            have hA9 : Arr W9 g9 29 #[.string x.nm, .slice ya x.ps.length yc, .slice za x.ks.length zc] := by rw [hW9, hg9]; exact Arr.new wr _ _
            have hb9 : Below wr.heap.size wr W9 := by rw [hW9]; exact (Below.refl _ _).alloc (Nat.le_refl _) _
            have hih := HIH.out j (.slice ya x.ps.length yc) (.slice za x.ks.length zc) W9 hlt
            have hhit := HHIT.out j hlt HJ.out
            have hnx := HNX.out j hlt HJ.out
            rw [HX.out] at hih hhit hnx
            have HC := Lib.hid (hih (nd_below h4 hb9))
            have HBR9 := Lib.hid (hbr.trans (hb9.mono hbr.size))
            have q0 := hA9.cell 0
            have q1 := hA9.cell 1
            have q2 := hA9.cell 2
            simp only [List.getElem?_toArray, List.getElem?_cons_zero, List.getElem?_cons_succ] at q0 q1 q2
            generalize from19 k x = r at *
            clear hbr h4 HX hA9 hb9 hih HJ
            go_upto_region 10 with fail
            rw [← hW9, ← hg9]
            clear hW9 hg9
            go_wp2_with fail
            refine HC.out.mono ?_
            rintro e w6 ⟨rfl, hb6⟩
            have HB6 := Lib.hid (HBR9.out.trans (hb6.mono HBR9.out.size))
            clear hb6 HC
            by_cases hr : r = 0
            · have dr : ((r : Int) != 0) = false := by rw [hr]; rfl
              have HK := Lib.hid (hnx hr)
              clear hr hhit hnx
              go_wp2
              go_roundw
              case rel => exact ⟨j + 1, by omega, by go_num, HK.out, HB6.out⟩
              case measure => simp [intOf]; omega
            · have dr : ((r : Int) != 0) = true := by simp; omega
              have HV : Hid (R = r) := by unfold Hid; rw [HFR.out, hhit hr]
              have HBZ := Lib.hid (HB1.out.trans (HB6.out.mono HB1.out.size))
              clear hr hhit hnx
              go_wp2
              go_ret
              exact ⟨by rw [HV.out]; rfl, HBZ.out⟩
          · obtain rfl : j = n.ks.length := by omega
            have HV : Hid (R = 0) := by unfold Hid; rw [HFR.out, ← HEN.out, HJ.out]
            have HBZ := Lib.hid (HB1.out.trans (hbr.mono HB1.out.size))
            clear HJ hbr HHIT HNX HEN
            go_wp2
            go_ret
            exact ⟨by rw [HV.out]; rfl, HBZ.out⟩
      · have db : ((b : Int) != 0) = true := by simp; omega
        have HV : Hid (R = b) := by unfold Hid; rw [HFR.out]; exact if_neg hb
        have HBZ := Lib.hid (HB1.out.trans (HB5.out.mono HB1.out.size))
        clear hb
        go_wp2
        go_ret
        exact ⟨by rw [HV.out]; rfl, HBZ.out⟩
    · have da : ((a : Int) != 0) = true := by simp; omega
      have HV : Hid (R = a) := by unfold Hid; rw [HFR.out]; unfold orE; rw [if_neg ha, if_neg ha]
      have HBZ := Lib.hid (HB1.out.trans (HB3.out.mono HB1.out.size))
      clear ha
      go_wp2
      go_ret
      exact ⟨by rw [HV.out]; rfl, HBZ.out⟩
end Go.Proofs.Ytmgfnghegcfhnaa
