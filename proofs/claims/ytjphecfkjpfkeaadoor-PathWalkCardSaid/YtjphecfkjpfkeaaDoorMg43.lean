/- The law PathFind: whatever comes in it returns true. Conditions: the contracts of package path; a tree that is read, strings that fit. -/
import Derived.Test.YtjphecfkjpfkeaaDoorMg32
import Derived.Test.YtjphecfkjpfkeaaDoorMg34
namespace Go.Proofs.YtjphecfkjpfkeaaDoor
open Go.RowKit

/-- What is found in a low tree is low, and its values are short. -/
theorem low_follow : ∀ (l : List ByteArray) (L : Nat) (n k : ND), lowR (L + 1 + l.length) n = true → followR n l = some k → lowR (L + 1) k = true
  | [], L, n, k, h, hf => by
    injection (show some n = some k from hf) with e
    rw [← e]; exact h
  | x :: l, L, n, k, h, hf => by
    have hf : (match kidR n x with
      | none => none
      | some k => followR k l) = some k := hf
    cases hk : kidR n x with
    | none => rw [hk] at hf; exact absurd hf (by simp)
    | some y =>
      rw [hk] at hf
      exact low_follow l L y k (low_kids (k := L + 1 + l.length) h y (List.mem_of_find?_eq_some hk)) hf
theorem low_more16 : ∀ (d : Nat) (n k : ND) (l : List ByteArray), l.length + d = 7 → lowR 12 n = true → followR n l = some k → ∃ L, lowR (L + 1) k = true := fun d n k l h1 h2 h3 =>
  ⟨4 + d, low_follow l (4 + d) n k (by rw [show 4 + d + 1 + l.length = 12 by omega]; exact h2) h3⟩
theorem low_find {n k : ND} {p : List UInt8} (h : LowR n = true) (hf : findR n p = some k) : ∃ L, lowR (L + 1) k = true := by
  unfold findR at hf
  split at hf
  · have hp := parts_few p
    rw [← baL_len] at hp
    exact low_more16 (7 - (baL (partsR p).1).length) n k _ (by omega) (low_and h).1 hf
  · exact absurd hf (by simp)
theorem low_at300 {n : ND} {p : List UInt8} {nm v : ByteArray} (h : LowR n = true) (ha : atR n p nm = some v) : v.size ≤ 300 := by
  unfold atR at ha
  cases hf : findR n p with
  | none => rw [hf] at ha; exact absurd ha (by simp)
  | some k =>
    rw [hf] at ha
    obtain ⟨L, hL⟩ := low_find h hf
    have ha : valR k nm = some v := ha
    unfold valR at ha
    cases hx : k.ps.find? fun x : PR => decide (x.nm = nm) with
    | none => rw [hx] at ha; exact absurd ha (by simp)
    | some x =>
      rw [hx] at ha
      injection (show some x.vl = some v from ha) with e
      have := low_props hL x (List.mem_of_find?_eq_some hx)
      have := (of_decide_eq_true (show decide (x.nm.size ≤ 100 ∧ x.vl.size ≤ 300) = true from this)).2
      rw [← e]; omega
theorem low_at {n : ND} {p : List UInt8} {nm v : ByteArray} (h : LowR n = true) (ha : atR n p nm = some v) : v.size ≤ 1099511627776 := Nat.le_trans (low_at300 h ha) (by decide)

set_option maxHeartbeats 6400000 in
set_option maxRecDepth 100000 in
theorem pathFind_any (M : PathMust) (n : ND) (v2 v3 : Value) (p nm : ByteArray) (w : World) (hN : NdAt w (fun k => k < w.heap.size) n v2 v3) (hp : p.size ≤ maxLen) (hm : nm.size ≤ maxLen) :
    Calls Tryd.prog 4 #[.agg #[.string n.nm, v2, v3], .string p, .string nm] w fun e w' => e = .returned (.bool true) ∧ Below w.heap.size w w' := by
  have HAW := Lib.hid (awake16 M)
  obtain ⟨A, K, pc, kc, rfl, rfl, hpc, hpm, hkc, hkm⟩ := nd_shape hN
  unfold maxLen at hp hm
  obtain ⟨W1, hW1⟩ : ∃ W1, W1 = w.alloc (.cells #[.string n.nm, .slice A n.ps.length pc, .slice K n.ks.length kc] 34) := ⟨_, rfl⟩
  obtain ⟨g3, hg3⟩ : ∃ g3, g3 = w.heap.size := ⟨_, rfl⟩
  have hB1 : Below w.heap.size w W1 := by rw [hW1]; exact (Below.refl _ _).alloc (Nat.le_refl _) _
  have HA3 : Hid (Arr W1 g3 34 #[.string n.nm, .slice A n.ps.length pc, .slice K n.ks.length kc]) := by unfold Hid; rw [hW1, hg3]; exact Arr.new w _ _
  have HN3 := Lib.hid (nd_below hN hB1)
  have HLOW := Lib.hid (fun W G h => rLow_any G n (.slice A n.ps.length pc) (.slice K n.ks.length kc) W h)
  have HB := Lib.hid hB1
  clear hN hB1 hpc hpm hkc hkm
  cases hl : LowR n with
  | false =>
    rw [hl] at HLOW
    clear M hl
    go_enter Tryd.func4, Tryd.ntmps4
    go_upto_region 1 with fail
    change Code.wp _ _ _ _ (w.alloc (.cells #[.string n.nm, .slice A n.ps.length pc, .slice K n.ks.length kc] 34))
    rw [← hW1, ← hg3]
    clear hW1 hg3
    go_wp2_with (refine wpList_load_row rfl 34 (.tmp 3) rfl g3 rfl _ _ _ _ HA3.out Tryd.underlying34 rfl (infoNd _ _ _) ?_)
    refine (HLOW.out _ _ HN3.out).mono ?_
    rintro e w2 ⟨rfl, hb⟩
    have HB := Lib.hid (HB.out.trans (hb.mono HB.out.size))
    clear hb
    go_wp2_with fail
    refine (HAW.out _).mono ?_
    rintro e w3 ⟨rfl, hb⟩
    have HB := Lib.hid (HB.out.trans (hb.mono HB.out.size))
    clear hb
    go_wp2
    go_ret
    exact ⟨rfl, HB.out⟩
  | true =>
    rw [hl] at HLOW
    by_cases h200 : 200 < p.size
    · have d1 : decide ((200 : Int) < (p.size : Int)) = true := decide_eq_true (by omega)
      clear M hl h200
      go_enter Tryd.func4, Tryd.ntmps4
      go_upto_region 1 with fail
      change Code.wp _ _ _ _ (w.alloc (.cells #[.string n.nm, .slice A n.ps.length pc, .slice K n.ks.length kc] 34))
      rw [← hW1, ← hg3]
      clear hW1 hg3
      go_wp2_with (refine wpList_load_row rfl 34 (.tmp 3) rfl g3 rfl _ _ _ _ HA3.out Tryd.underlying34 rfl (infoNd _ _ _) ?_)
      refine (HLOW.out _ _ HN3.out).mono ?_
      rintro e w2 ⟨rfl, hb⟩
      have HB := Lib.hid (HB.out.trans (hb.mono HB.out.size))
      clear hb
      go_wp2_with fail
      refine (HAW.out _).mono ?_
      rintro e w3 ⟨rfl, hb⟩
      have HB := Lib.hid (HB.out.trans (hb.mono HB.out.size))
      clear hb
      go_wp2
      go_ret
      exact ⟨rfl, HB.out⟩
    · have d1 : decide ((200 : Int) < (p.size : Int)) = false := decide_eq_false (by omega)
      by_cases hn200 : 200 < nm.size
      · have d2 : decide ((200 : Int) < (nm.size : Int)) = true := decide_eq_true (by omega)
        clear M hl h200 hn200
        go_enter Tryd.func4, Tryd.ntmps4
        go_upto_region 1 with fail
        change Code.wp _ _ _ _ (w.alloc (.cells #[.string n.nm, .slice A n.ps.length pc, .slice K n.ks.length kc] 34))
        rw [← hW1, ← hg3]
        clear hW1 hg3
        go_wp2_with (refine wpList_load_row rfl 34 (.tmp 3) rfl g3 rfl _ _ _ _ HA3.out Tryd.underlying34 rfl (infoNd _ _ _) ?_)
        refine (HLOW.out _ _ HN3.out).mono ?_
        rintro e w2 ⟨rfl, hb⟩
        have HB := Lib.hid (HB.out.trans (hb.mono HB.out.size))
        clear hb
        go_wp2_with fail
        refine (HAW.out _).mono ?_
        rintro e w3 ⟨rfl, hb⟩
        have HB := Lib.hid (HB.out.trans (hb.mono HB.out.size))
        clear hb
        go_wp2
        go_ret
        exact ⟨rfl, HB.out⟩
      · have d2 : decide ((200 : Int) < (nm.size : Int)) = false := decide_eq_false (by omega)
        have HFI := Lib.hid (fun W G h => M.find G n (.slice A n.ps.length pc) (.slice K n.ks.length kc) p W hl (by omega) h)
        have HRF := Lib.hid (fun W G h => rfind_any G n (.slice A n.ps.length pc) (.slice K n.ks.length kc) p W (by omega) h)
        have HKI := Lib.hid (fun W G h => M.kid G n (.slice A n.ps.length pc) (.slice K n.ks.length kc) nm W hl (by omega) h)
        have HRK := Lib.hid (fun W G h => rkid_any G n (.slice A n.ps.length pc) (.slice K n.ks.length kc) nm W h)
        have HTX := Lib.hid (fun W G h => M.text G n (.slice A n.ps.length pc) (.slice K n.ks.length kc) p nm W hl (by omega) (by omega) h)
        have HRT := Lib.hid (fun W G h => rtext16_any G n (.slice A n.ps.length pc) (.slice K n.ks.length kc) p nm W (by omega) h (fun v hv => low_at hl hv))
        have HNU := Lib.hid (fun W G h => M.number G n (.slice A n.ps.length pc) (.slice K n.ks.length kc) p nm W hl (by omega) (by omega) h)
        have HRN := Lib.hid (fun W G h => rnumber16_any G n (.slice A n.ps.length pc) (.slice K n.ks.length kc) p nm W (by omega) h (fun v hv => low_at hl hv))
        generalize orN (findR n p.data.toList) = x at *
        generalize (findR n p.data.toList).isSome = bx at *
        generalize orN (kidR n nm) = y at *
        generalize (kidR n nm).isSome = bz at *
        generalize (textR n p.data.toList nm).1 = tx at *
        generalize (textR n p.data.toList nm).2 = bt at *
        generalize (numR n p.data.toList nm).1 = nu at *
        generalize (numR n p.data.toList nm).2 = bn at *
        have HVA := Lib.hid (fun W G v2 v3 h => M.value G x v2 v3 nm W (by omega) h)
        have HRV := Lib.hid (fun W G v2 v3 h => rvalue_any G x v2 v3 nm W h)
        generalize (valR x nm).getD ⟨#[]⟩ = va at *
        generalize (valR x nm).isSome = bv at *
        have HSX := Lib.hid (sameR_refl 20 x)
        have HSY := Lib.hid (sameR_refl 20 y)
        have n_bx : (bx != bx) = false := by simp
        have n_bz : (bz != bz) = false := by simp
        have e_bv : (bv == bv) = true := by simp
        have e_bt : (bt == bt) = true := by simp
        have e_bn : (bn == bn) = true := by simp
        have e_va : (va.toList == va.toList) = true := by simp
        have e_tx : (tx.toList == tx.toList) = true := by simp
        have e_nu : (nu == nu) = true := by simp
        clear M hl h200 hn200
        go_enter Tryd.func4, Tryd.ntmps4
        go_upto_region 1 with fail
        change Code.wp _ _ _ _ (w.alloc (.cells #[.string n.nm, .slice A n.ps.length pc, .slice K n.ks.length kc] 34))
        rw [← hW1, ← hg3]
        clear hW1 hg3
        go_wp2_with (first | (refine wpList_load_row rfl 34 (.tmp 3) rfl g3 rfl _ _ _ _ HA3.out Tryd.underlying34 rfl (infoNd _ _ _) ?_))
        refine (HLOW.out _ _ HN3.out).mono ?_
        rintro e wz ⟨rfl, hb⟩
        have HA3 := Lib.hid (HA3.out.below hb HA3.out.lt)
        have HN3 := Lib.hid (nd_below HN3.out hb)
        have HB := Lib.hid (HB.out.trans (hb.mono HB.out.size))
        clear hb
        go_wp2_with (first | (refine wpList_load_row rfl 34 (.tmp 3) rfl g3 rfl _ _ _ _ HA3.out Tryd.underlying34 rfl (infoNd _ _ _) ?_))
        refine (HFI.out _ _ HN3.out).mono ?_
        rintro e wz ⟨u2, u3, rfl, hn, hb⟩
        have HA3 := Lib.hid (HA3.out.below hb HA3.out.lt)
        have HN3 := Lib.hid (nd_below HN3.out hb)
        have HB := Lib.hid (HB.out.trans (hb.mono HB.out.size))
        obtain ⟨u7a, u7b, u7c, u7d, rfl, rfl, _⟩ := nd_shape hn
        clear hb
        have hb : Below wz.heap.size wz (wz.alloc (.cells #[.string x.nm, .slice u7a x.ps.length u7c, .slice u7b x.ks.length u7d] 34)) := (Below.refl _ _).alloc (Nat.le_refl _) _
        have hk4 : Arr (wz.alloc (.cells #[.string x.nm, .slice u7a x.ps.length u7c, .slice u7b x.ks.length u7d] 34)) wz.heap.size 34 #[.string x.nm, .slice u7a x.ps.length u7c, .slice u7b x.ks.length u7d] := Arr.new wz _ _
        have HA3 := Lib.hid (HA3.out.below hb HA3.out.lt)
        have HN3 := Lib.hid (nd_below HN3.out hb)
        have HB := Lib.hid (HB.out.trans (hb.mono HB.out.size))
        have HN7 := Lib.hid (nd_below hn hb)
        have HA7 := Lib.hid hk4
        clear hb hk4 hn
        go_upto_region 4 with fail
        generalize wz.alloc (.cells #[.string x.nm, .slice u7a x.ps.length u7c, .slice u7b x.ks.length u7d] 34) = wy at *
        generalize wz.heap.size = g7 at *
        go_wp2_with (first | (refine wpList_load_row rfl 34 (.tmp 3) rfl g3 rfl _ _ _ _ HA3.out Tryd.underlying34 rfl (infoNd _ _ _) ?_) | (refine wpList_load_row rfl 34 (.tmp 7) rfl g7 rfl _ _ _ _ HA7.out Tryd.underlying34 rfl (infoNd _ _ _) ?_))
        refine (HRF.out _ _ HN3.out).mono ?_
        rintro e wz ⟨u2, u3, rfl, hn, hb⟩
        have HA3 := Lib.hid (HA3.out.below hb HA3.out.lt)
        have HN3 := Lib.hid (nd_below HN3.out hb)
        have HA7 := Lib.hid (HA7.out.below hb HA7.out.lt)
        have HN7 := Lib.hid (nd_below HN7.out hb)
        have HB := Lib.hid (HB.out.trans (hb.mono HB.out.size))
        obtain ⟨u9a, u9b, u9c, u9d, rfl, rfl, _⟩ := nd_shape hn
        clear hb
        have hb : Below wz.heap.size wz (wz.alloc (.cells #[.string x.nm, .slice u9a x.ps.length u9c, .slice u9b x.ks.length u9d] 34)) := (Below.refl _ _).alloc (Nat.le_refl _) _
        have hk4 : Arr (wz.alloc (.cells #[.string x.nm, .slice u9a x.ps.length u9c, .slice u9b x.ks.length u9d] 34)) wz.heap.size 34 #[.string x.nm, .slice u9a x.ps.length u9c, .slice u9b x.ks.length u9d] := Arr.new wz _ _
        have HA3 := Lib.hid (HA3.out.below hb HA3.out.lt)
        have HN3 := Lib.hid (nd_below HN3.out hb)
        have HA7 := Lib.hid (HA7.out.below hb HA7.out.lt)
        have HN7 := Lib.hid (nd_below HN7.out hb)
        have HB := Lib.hid (HB.out.trans (hb.mono HB.out.size))
        have HN9 := Lib.hid (nd_below hn hb)
        have HA9 := Lib.hid hk4
        clear hb hk4 hn
        go_upto_region 5 with fail
        generalize wz.alloc (.cells #[.string x.nm, .slice u9a x.ps.length u9c, .slice u9b x.ks.length u9d] 34) = wy at *
        generalize wz.heap.size = g9 at *
        go_wp2_with (first | (refine wpList_load_row rfl 34 (.tmp 3) rfl g3 rfl _ _ _ _ HA3.out Tryd.underlying34 rfl (infoNd _ _ _) ?_) | (refine wpList_load_row rfl 34 (.tmp 7) rfl g7 rfl _ _ _ _ HA7.out Tryd.underlying34 rfl (infoNd _ _ _) ?_) | (refine wpList_load_row rfl 34 (.tmp 9) rfl g9 rfl _ _ _ _ HA9.out Tryd.underlying34 rfl (infoNd _ _ _) ?_))
        refine (HKI.out _ _ HN3.out).mono ?_
        rintro e wz ⟨u2, u3, rfl, hn, hb⟩
        have HA3 := Lib.hid (HA3.out.below hb HA3.out.lt)
        have HN3 := Lib.hid (nd_below HN3.out hb)
        have HA7 := Lib.hid (HA7.out.below hb HA7.out.lt)
        have HN7 := Lib.hid (nd_below HN7.out hb)
        have HA9 := Lib.hid (HA9.out.below hb HA9.out.lt)
        have HN9 := Lib.hid (nd_below HN9.out hb)
        have HB := Lib.hid (HB.out.trans (hb.mono HB.out.size))
        obtain ⟨u11a, u11b, u11c, u11d, rfl, rfl, _⟩ := nd_shape hn
        clear hb
        have hb : Below wz.heap.size wz (wz.alloc (.cells #[.string y.nm, .slice u11a y.ps.length u11c, .slice u11b y.ks.length u11d] 34)) := (Below.refl _ _).alloc (Nat.le_refl _) _
        have hk4 : Arr (wz.alloc (.cells #[.string y.nm, .slice u11a y.ps.length u11c, .slice u11b y.ks.length u11d] 34)) wz.heap.size 34 #[.string y.nm, .slice u11a y.ps.length u11c, .slice u11b y.ks.length u11d] := Arr.new wz _ _
        have HA3 := Lib.hid (HA3.out.below hb HA3.out.lt)
        have HN3 := Lib.hid (nd_below HN3.out hb)
        have HA7 := Lib.hid (HA7.out.below hb HA7.out.lt)
        have HN7 := Lib.hid (nd_below HN7.out hb)
        have HA9 := Lib.hid (HA9.out.below hb HA9.out.lt)
        have HN9 := Lib.hid (nd_below HN9.out hb)
        have HB := Lib.hid (HB.out.trans (hb.mono HB.out.size))
        have HN11 := Lib.hid (nd_below hn hb)
        have HA11 := Lib.hid hk4
        clear hb hk4 hn
        go_upto_region 6 with fail
        generalize wz.alloc (.cells #[.string y.nm, .slice u11a y.ps.length u11c, .slice u11b y.ks.length u11d] 34) = wy at *
        generalize wz.heap.size = g11 at *
        go_wp2_with (first | (refine wpList_load_row rfl 34 (.tmp 3) rfl g3 rfl _ _ _ _ HA3.out Tryd.underlying34 rfl (infoNd _ _ _) ?_) | (refine wpList_load_row rfl 34 (.tmp 7) rfl g7 rfl _ _ _ _ HA7.out Tryd.underlying34 rfl (infoNd _ _ _) ?_) | (refine wpList_load_row rfl 34 (.tmp 9) rfl g9 rfl _ _ _ _ HA9.out Tryd.underlying34 rfl (infoNd _ _ _) ?_) | (refine wpList_load_row rfl 34 (.tmp 11) rfl g11 rfl _ _ _ _ HA11.out Tryd.underlying34 rfl (infoNd _ _ _) ?_))
        refine (HRK.out _ _ HN3.out).mono ?_
        rintro e wz ⟨u2, u3, rfl, hn, hb⟩
        have HA3 := Lib.hid (HA3.out.below hb HA3.out.lt)
        have HN3 := Lib.hid (nd_below HN3.out hb)
        have HA7 := Lib.hid (HA7.out.below hb HA7.out.lt)
        have HN7 := Lib.hid (nd_below HN7.out hb)
        have HA9 := Lib.hid (HA9.out.below hb HA9.out.lt)
        have HN9 := Lib.hid (nd_below HN9.out hb)
        have HA11 := Lib.hid (HA11.out.below hb HA11.out.lt)
        have HN11 := Lib.hid (nd_below HN11.out hb)
        have HB := Lib.hid (HB.out.trans (hb.mono HB.out.size))
        obtain ⟨u13a, u13b, u13c, u13d, rfl, rfl, _⟩ := nd_shape hn
        clear hb
        have hb : Below wz.heap.size wz (wz.alloc (.cells #[.string y.nm, .slice u13a y.ps.length u13c, .slice u13b y.ks.length u13d] 34)) := (Below.refl _ _).alloc (Nat.le_refl _) _
        have hk4 : Arr (wz.alloc (.cells #[.string y.nm, .slice u13a y.ps.length u13c, .slice u13b y.ks.length u13d] 34)) wz.heap.size 34 #[.string y.nm, .slice u13a y.ps.length u13c, .slice u13b y.ks.length u13d] := Arr.new wz _ _
        have HA3 := Lib.hid (HA3.out.below hb HA3.out.lt)
        have HN3 := Lib.hid (nd_below HN3.out hb)
        have HA7 := Lib.hid (HA7.out.below hb HA7.out.lt)
        have HN7 := Lib.hid (nd_below HN7.out hb)
        have HA9 := Lib.hid (HA9.out.below hb HA9.out.lt)
        have HN9 := Lib.hid (nd_below HN9.out hb)
        have HA11 := Lib.hid (HA11.out.below hb HA11.out.lt)
        have HN11 := Lib.hid (nd_below HN11.out hb)
        have HB := Lib.hid (HB.out.trans (hb.mono HB.out.size))
        have HN13 := Lib.hid (nd_below hn hb)
        have HA13 := Lib.hid hk4
        clear hb hk4 hn
        go_upto_region 7 with fail
        generalize wz.alloc (.cells #[.string y.nm, .slice u13a y.ps.length u13c, .slice u13b y.ks.length u13d] 34) = wy at *
        generalize wz.heap.size = g13 at *
        go_wp2_with (first | (refine wpList_load_row rfl 34 (.tmp 3) rfl g3 rfl _ _ _ _ HA3.out Tryd.underlying34 rfl (infoNd _ _ _) ?_) | (refine wpList_load_row rfl 34 (.tmp 7) rfl g7 rfl _ _ _ _ HA7.out Tryd.underlying34 rfl (infoNd _ _ _) ?_) | (refine wpList_load_row rfl 34 (.tmp 9) rfl g9 rfl _ _ _ _ HA9.out Tryd.underlying34 rfl (infoNd _ _ _) ?_) | (refine wpList_load_row rfl 34 (.tmp 11) rfl g11 rfl _ _ _ _ HA11.out Tryd.underlying34 rfl (infoNd _ _ _) ?_) | (refine wpList_load_row rfl 34 (.tmp 13) rfl g13 rfl _ _ _ _ HA13.out Tryd.underlying34 rfl (infoNd _ _ _) ?_))
        refine (rSame_any _ _ _ _ _ _ _ _ _ HN7.out HN9.out).mono ?_
        rintro e wz ⟨rfl, hb⟩
        rw [HSX.out]
        have HA3 := Lib.hid (HA3.out.below hb HA3.out.lt)
        have HN3 := Lib.hid (nd_below HN3.out hb)
        have HA7 := Lib.hid (HA7.out.below hb HA7.out.lt)
        have HN7 := Lib.hid (nd_below HN7.out hb)
        have HA9 := Lib.hid (HA9.out.below hb HA9.out.lt)
        have HN9 := Lib.hid (nd_below HN9.out hb)
        have HA11 := Lib.hid (HA11.out.below hb HA11.out.lt)
        have HN11 := Lib.hid (nd_below HN11.out hb)
        have HA13 := Lib.hid (HA13.out.below hb HA13.out.lt)
        have HN13 := Lib.hid (nd_below HN13.out hb)
        have HB := Lib.hid (HB.out.trans (hb.mono HB.out.size))
        clear hb
        have c0 := HA11.out.cell 0
        have c1 := HA11.out.cell 1
        have c2 := HA11.out.cell 2
        have m0 := HA13.out.cell 0
        have m1 := HA13.out.cell 1
        have m2 := HA13.out.cell 2
        simp only [List.getElem?_toArray, List.getElem?_cons_zero, List.getElem?_cons_succ] at c0 c1 c2 m0 m1 m2
        go_wp2_with (first | (refine wpList_load_row rfl 34 (.tmp 3) rfl g3 rfl _ _ _ _ HA3.out Tryd.underlying34 rfl (infoNd _ _ _) ?_) | (refine wpList_load_row rfl 34 (.tmp 7) rfl g7 rfl _ _ _ _ HA7.out Tryd.underlying34 rfl (infoNd _ _ _) ?_) | (refine wpList_load_row rfl 34 (.tmp 9) rfl g9 rfl _ _ _ _ HA9.out Tryd.underlying34 rfl (infoNd _ _ _) ?_) | (refine wpList_load_row rfl 34 (.tmp 11) rfl g11 rfl _ _ _ _ HA11.out Tryd.underlying34 rfl (infoNd _ _ _) ?_) | (refine wpList_load_row rfl 34 (.tmp 13) rfl g13 rfl _ _ _ _ HA13.out Tryd.underlying34 rfl (infoNd _ _ _) ?_))
        refine (rSame_any _ _ _ _ _ _ _ _ _ HN11.out HN13.out).mono ?_
        rintro e wz ⟨rfl, hb⟩
        rw [HSY.out]
        clear c0 c1 c2 m0 m1 m2
        have HA3 := Lib.hid (HA3.out.below hb HA3.out.lt)
        have HN3 := Lib.hid (nd_below HN3.out hb)
        have HA7 := Lib.hid (HA7.out.below hb HA7.out.lt)
        have HN7 := Lib.hid (nd_below HN7.out hb)
        have HA9 := Lib.hid (HA9.out.below hb HA9.out.lt)
        have HN9 := Lib.hid (nd_below HN9.out hb)
        have HA11 := Lib.hid (HA11.out.below hb HA11.out.lt)
        have HN11 := Lib.hid (nd_below HN11.out hb)
        have HA13 := Lib.hid (HA13.out.below hb HA13.out.lt)
        have HN13 := Lib.hid (nd_below HN13.out hb)
        have HB := Lib.hid (HB.out.trans (hb.mono HB.out.size))
        clear hb
        go_wp2_with (first | (refine wpList_load_row rfl 34 (.tmp 3) rfl g3 rfl _ _ _ _ HA3.out Tryd.underlying34 rfl (infoNd _ _ _) ?_) | (refine wpList_load_row rfl 34 (.tmp 7) rfl g7 rfl _ _ _ _ HA7.out Tryd.underlying34 rfl (infoNd _ _ _) ?_) | (refine wpList_load_row rfl 34 (.tmp 9) rfl g9 rfl _ _ _ _ HA9.out Tryd.underlying34 rfl (infoNd _ _ _) ?_) | (refine wpList_load_row rfl 34 (.tmp 11) rfl g11 rfl _ _ _ _ HA11.out Tryd.underlying34 rfl (infoNd _ _ _) ?_) | (refine wpList_load_row rfl 34 (.tmp 13) rfl g13 rfl _ _ _ _ HA13.out Tryd.underlying34 rfl (infoNd _ _ _) ?_))
        refine (HVA.out _ _ _ _ HN7.out).mono ?_
        rintro e wz ⟨rfl, hb⟩
        have HA3 := Lib.hid (HA3.out.below hb HA3.out.lt)
        have HN3 := Lib.hid (nd_below HN3.out hb)
        have HA7 := Lib.hid (HA7.out.below hb HA7.out.lt)
        have HN7 := Lib.hid (nd_below HN7.out hb)
        have HA9 := Lib.hid (HA9.out.below hb HA9.out.lt)
        have HN9 := Lib.hid (nd_below HN9.out hb)
        have HA11 := Lib.hid (HA11.out.below hb HA11.out.lt)
        have HN11 := Lib.hid (nd_below HN11.out hb)
        have HA13 := Lib.hid (HA13.out.below hb HA13.out.lt)
        have HN13 := Lib.hid (nd_below HN13.out hb)
        have HB := Lib.hid (HB.out.trans (hb.mono HB.out.size))
        clear hb
        go_wp2_with (first | (refine wpList_load_row rfl 34 (.tmp 3) rfl g3 rfl _ _ _ _ HA3.out Tryd.underlying34 rfl (infoNd _ _ _) ?_) | (refine wpList_load_row rfl 34 (.tmp 7) rfl g7 rfl _ _ _ _ HA7.out Tryd.underlying34 rfl (infoNd _ _ _) ?_) | (refine wpList_load_row rfl 34 (.tmp 9) rfl g9 rfl _ _ _ _ HA9.out Tryd.underlying34 rfl (infoNd _ _ _) ?_) | (refine wpList_load_row rfl 34 (.tmp 11) rfl g11 rfl _ _ _ _ HA11.out Tryd.underlying34 rfl (infoNd _ _ _) ?_) | (refine wpList_load_row rfl 34 (.tmp 13) rfl g13 rfl _ _ _ _ HA13.out Tryd.underlying34 rfl (infoNd _ _ _) ?_))
        refine (HRV.out _ _ _ _ HN9.out).mono ?_
        rintro e wz ⟨rfl, hb⟩
        have HA3 := Lib.hid (HA3.out.below hb HA3.out.lt)
        have HN3 := Lib.hid (nd_below HN3.out hb)
        have HA7 := Lib.hid (HA7.out.below hb HA7.out.lt)
        have HN7 := Lib.hid (nd_below HN7.out hb)
        have HA9 := Lib.hid (HA9.out.below hb HA9.out.lt)
        have HN9 := Lib.hid (nd_below HN9.out hb)
        have HA11 := Lib.hid (HA11.out.below hb HA11.out.lt)
        have HN11 := Lib.hid (nd_below HN11.out hb)
        have HA13 := Lib.hid (HA13.out.below hb HA13.out.lt)
        have HN13 := Lib.hid (nd_below HN13.out hb)
        have HB := Lib.hid (HB.out.trans (hb.mono HB.out.size))
        clear hb
        go_wp2_with (first | (refine wpList_load_row rfl 34 (.tmp 3) rfl g3 rfl _ _ _ _ HA3.out Tryd.underlying34 rfl (infoNd _ _ _) ?_) | (refine wpList_load_row rfl 34 (.tmp 7) rfl g7 rfl _ _ _ _ HA7.out Tryd.underlying34 rfl (infoNd _ _ _) ?_) | (refine wpList_load_row rfl 34 (.tmp 9) rfl g9 rfl _ _ _ _ HA9.out Tryd.underlying34 rfl (infoNd _ _ _) ?_) | (refine wpList_load_row rfl 34 (.tmp 11) rfl g11 rfl _ _ _ _ HA11.out Tryd.underlying34 rfl (infoNd _ _ _) ?_) | (refine wpList_load_row rfl 34 (.tmp 13) rfl g13 rfl _ _ _ _ HA13.out Tryd.underlying34 rfl (infoNd _ _ _) ?_))
        refine (HTX.out _ _ HN3.out).mono ?_
        rintro e wz ⟨rfl, hb⟩
        have HA3 := Lib.hid (HA3.out.below hb HA3.out.lt)
        have HN3 := Lib.hid (nd_below HN3.out hb)
        have HA7 := Lib.hid (HA7.out.below hb HA7.out.lt)
        have HN7 := Lib.hid (nd_below HN7.out hb)
        have HA9 := Lib.hid (HA9.out.below hb HA9.out.lt)
        have HN9 := Lib.hid (nd_below HN9.out hb)
        have HA11 := Lib.hid (HA11.out.below hb HA11.out.lt)
        have HN11 := Lib.hid (nd_below HN11.out hb)
        have HA13 := Lib.hid (HA13.out.below hb HA13.out.lt)
        have HN13 := Lib.hid (nd_below HN13.out hb)
        have HB := Lib.hid (HB.out.trans (hb.mono HB.out.size))
        clear hb
        go_wp2_with (first | (refine wpList_load_row rfl 34 (.tmp 3) rfl g3 rfl _ _ _ _ HA3.out Tryd.underlying34 rfl (infoNd _ _ _) ?_) | (refine wpList_load_row rfl 34 (.tmp 7) rfl g7 rfl _ _ _ _ HA7.out Tryd.underlying34 rfl (infoNd _ _ _) ?_) | (refine wpList_load_row rfl 34 (.tmp 9) rfl g9 rfl _ _ _ _ HA9.out Tryd.underlying34 rfl (infoNd _ _ _) ?_) | (refine wpList_load_row rfl 34 (.tmp 11) rfl g11 rfl _ _ _ _ HA11.out Tryd.underlying34 rfl (infoNd _ _ _) ?_) | (refine wpList_load_row rfl 34 (.tmp 13) rfl g13 rfl _ _ _ _ HA13.out Tryd.underlying34 rfl (infoNd _ _ _) ?_))
        refine (HRT.out _ _ HN3.out).mono ?_
        rintro e wz ⟨rfl, hb⟩
        have HA3 := Lib.hid (HA3.out.below hb HA3.out.lt)
        have HN3 := Lib.hid (nd_below HN3.out hb)
        have HA7 := Lib.hid (HA7.out.below hb HA7.out.lt)
        have HN7 := Lib.hid (nd_below HN7.out hb)
        have HA9 := Lib.hid (HA9.out.below hb HA9.out.lt)
        have HN9 := Lib.hid (nd_below HN9.out hb)
        have HA11 := Lib.hid (HA11.out.below hb HA11.out.lt)
        have HN11 := Lib.hid (nd_below HN11.out hb)
        have HA13 := Lib.hid (HA13.out.below hb HA13.out.lt)
        have HN13 := Lib.hid (nd_below HN13.out hb)
        have HB := Lib.hid (HB.out.trans (hb.mono HB.out.size))
        clear hb
        go_wp2_with (first | (refine wpList_load_row rfl 34 (.tmp 3) rfl g3 rfl _ _ _ _ HA3.out Tryd.underlying34 rfl (infoNd _ _ _) ?_) | (refine wpList_load_row rfl 34 (.tmp 7) rfl g7 rfl _ _ _ _ HA7.out Tryd.underlying34 rfl (infoNd _ _ _) ?_) | (refine wpList_load_row rfl 34 (.tmp 9) rfl g9 rfl _ _ _ _ HA9.out Tryd.underlying34 rfl (infoNd _ _ _) ?_) | (refine wpList_load_row rfl 34 (.tmp 11) rfl g11 rfl _ _ _ _ HA11.out Tryd.underlying34 rfl (infoNd _ _ _) ?_) | (refine wpList_load_row rfl 34 (.tmp 13) rfl g13 rfl _ _ _ _ HA13.out Tryd.underlying34 rfl (infoNd _ _ _) ?_))
        refine (HNU.out _ _ HN3.out).mono ?_
        rintro e wz ⟨rfl, hb⟩
        have HA3 := Lib.hid (HA3.out.below hb HA3.out.lt)
        have HN3 := Lib.hid (nd_below HN3.out hb)
        have HA7 := Lib.hid (HA7.out.below hb HA7.out.lt)
        have HN7 := Lib.hid (nd_below HN7.out hb)
        have HA9 := Lib.hid (HA9.out.below hb HA9.out.lt)
        have HN9 := Lib.hid (nd_below HN9.out hb)
        have HA11 := Lib.hid (HA11.out.below hb HA11.out.lt)
        have HN11 := Lib.hid (nd_below HN11.out hb)
        have HA13 := Lib.hid (HA13.out.below hb HA13.out.lt)
        have HN13 := Lib.hid (nd_below HN13.out hb)
        have HB := Lib.hid (HB.out.trans (hb.mono HB.out.size))
        clear hb
        go_wp2_with (first | (refine wpList_load_row rfl 34 (.tmp 3) rfl g3 rfl _ _ _ _ HA3.out Tryd.underlying34 rfl (infoNd _ _ _) ?_) | (refine wpList_load_row rfl 34 (.tmp 7) rfl g7 rfl _ _ _ _ HA7.out Tryd.underlying34 rfl (infoNd _ _ _) ?_) | (refine wpList_load_row rfl 34 (.tmp 9) rfl g9 rfl _ _ _ _ HA9.out Tryd.underlying34 rfl (infoNd _ _ _) ?_) | (refine wpList_load_row rfl 34 (.tmp 11) rfl g11 rfl _ _ _ _ HA11.out Tryd.underlying34 rfl (infoNd _ _ _) ?_) | (refine wpList_load_row rfl 34 (.tmp 13) rfl g13 rfl _ _ _ _ HA13.out Tryd.underlying34 rfl (infoNd _ _ _) ?_))
        refine (HRN.out _ _ HN3.out).mono ?_
        rintro e wz ⟨rfl, hb⟩
        have HA3 := Lib.hid (HA3.out.below hb HA3.out.lt)
        have HN3 := Lib.hid (nd_below HN3.out hb)
        have HA7 := Lib.hid (HA7.out.below hb HA7.out.lt)
        have HN7 := Lib.hid (nd_below HN7.out hb)
        have HA9 := Lib.hid (HA9.out.below hb HA9.out.lt)
        have HN9 := Lib.hid (nd_below HN9.out hb)
        have HA11 := Lib.hid (HA11.out.below hb HA11.out.lt)
        have HN11 := Lib.hid (nd_below HN11.out hb)
        have HA13 := Lib.hid (HA13.out.below hb HA13.out.lt)
        have HN13 := Lib.hid (nd_below HN13.out hb)
        have HB := Lib.hid (HB.out.trans (hb.mono HB.out.size))
        clear hb
        go_wp2_with (first | (refine wpList_load_row rfl 34 (.tmp 3) rfl g3 rfl _ _ _ _ HA3.out Tryd.underlying34 rfl (infoNd _ _ _) ?_) | (refine wpList_load_row rfl 34 (.tmp 7) rfl g7 rfl _ _ _ _ HA7.out Tryd.underlying34 rfl (infoNd _ _ _) ?_) | (refine wpList_load_row rfl 34 (.tmp 9) rfl g9 rfl _ _ _ _ HA9.out Tryd.underlying34 rfl (infoNd _ _ _) ?_) | (refine wpList_load_row rfl 34 (.tmp 11) rfl g11 rfl _ _ _ _ HA11.out Tryd.underlying34 rfl (infoNd _ _ _) ?_) | (refine wpList_load_row rfl 34 (.tmp 13) rfl g13 rfl _ _ _ _ HA13.out Tryd.underlying34 rfl (infoNd _ _ _) ?_))
        refine (HAW.out _).mono ?_
        rintro e wz ⟨rfl, hb⟩
        have HB := Lib.hid (HB.out.trans (hb.mono HB.out.size))
        clear hb
        go_wp2
        go_ret
        exact ⟨rfl, HB.out⟩
end Go.Proofs.YtjphecfkjpfkeaaDoor
