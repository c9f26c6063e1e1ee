/- The walk of EditKeeps. Conditions: the contracts of package edit; a tree in memory, strings of Go's lengths. -/
import Derived.Test.YtfcclppgjfkfoaaDoorMg29
import Derived.Test.YtfcclppgjfkfoaaDoorMg30
namespace Go.Proofs.YtfcclppgjfkfoaaDoor
open Go.RowKit

/-- The path of a kid, as the law writes it. -/
theorem under_is {p : List UInt8} {l : List (List UInt8)} (hp : partsR p = (l, true)) (x : List UInt8) : under p ++ x = if p = [47] then p ++ x else p ++ [47] ++ x := by
  obtain ⟨_, hl⟩ := parts_ok hp
  have hj := join_parts hp
  have e := under_path (x := x) hl
  rw [hj] at e
  by_cases h : p = [47]
  · rw [if_pos h, h]; rfl
  · have hne : l ≠ [] := fun h0 => h (by rw [← hj, h0, path_nil])
    rw [if_neg h, e, path_ne (by simp), List.flatMap_append]
    rw [path_ne hne] at hj
    rw [hj]
    simp
/-- What EditKeeps says, in plain words. -/
theorem keeps_set {n m : ND} {P : List UInt8} {nm vl : ByteArray} (hl : LowR n = true) (hn : fitsR n = true) (h1 : nm.size ≤ 100) (h2 : vl.size ≤ 300) (h : doR17 n P ⟨1, nm, vl⟩ = (m, 0)) :
    ∃ x y b, findR n P = some x ∧ findR m P = some y ∧ valR y nm = some vl ∧ m.ks.length = n.ks.length ∧ doR17 m P ⟨2, nm, ⟨#[]⟩⟩ = (b, 0) ∧ (valR x nm = none → b = n) ∧ LowR m = true := by
  obtain ⟨x, y, q1, q2, q3, q4, q5⟩ := keep_set hn h
  obtain ⟨b, q6, q7⟩ := q5 ⟨#[]⟩
  exact ⟨x, y, b, q1, q2, q3, q4, q6, q7, (low_do hl h1 h2 h).1⟩
theorem keeps_add {n o : ND} {P : List UInt8} {nm : ByteArray} (hl : LowR n = true) (hn : fitsR n = true) (h1 : nm.size ≤ 100) (h : doR17 n P ⟨3, nm, ⟨#[]⟩⟩ = (o, 0)) :
    ∃ k, (∀ x, under P ++ x = if P = [47] then P ++ x else P ++ [47] ++ x) ∧ findR o (under P ++ nm.data.toList) = some k ∧ dropR17 o (under P ++ nm.data.toList) = (n, 0) ∧ LowR o = true := by
  obtain ⟨l, q1, q2, q3, q4⟩ := keep_add hn h
  exact ⟨_, fun x => under_is q1 x, q3, drop_add hn h, (low_do hl h1 (by show (0 : Nat) ≤ 300; decide) h).1⟩

set_option maxHeartbeats 6400000 in
set_option maxRecDepth 100000 in
theorem editKeeps_any (M : EditMust) (n : ND) (y z : Value) (p nm vl : ByteArray) (w : World) (hN : NdAt w (fun k => k < w.heap.size) n y z) (hp : p.size ≤ maxLen) (h1 : nm.size ≤ maxLen) (h2 : vl.size ≤ maxLen) :
    Calls Tryd.prog 4 #[.agg #[.string n.nm, y, z], .agg #[.string p, .string nm, .string vl]] w fun e w' => e = .returned (.bool true) ∧ Below w.heap.size w w' := by
  have HAW := Lib.hid (awake17 M)
  obtain ⟨Na, Nb, Nc, Nd, rfl, rfl, hpc, hpm, hkc, hkm⟩ := nd_shape hN
  unfold maxLen at hp h1 h2
  obtain ⟨W1, hW1⟩ : ∃ W1, W1 = (w.alloc (.cells #[.string n.nm, .slice Na n.ps.length Nc, .slice Nb n.ks.length Nd] 25)).alloc (.cells #[.string p, .string nm, .string vl] 39) := ⟨_, rfl⟩
  obtain ⟨N, hg2⟩ : ∃ N, N = w.heap.size := ⟨_, rfl⟩
  obtain ⟨g3, hg3⟩ : ∃ g3, g3 = w.heap.size + 1 := ⟨_, rfl⟩
  have hB1 : Below w.heap.size w W1 := by rw [hW1]; exact ((Below.refl _ _).alloc (Nat.le_refl _) _).alloc (by rw [sz_alloc]; omega) _
  have HAN : Hid (Arr W1 N 25 #[.string n.nm, .slice Na n.ps.length Nc, .slice Nb n.ks.length Nd]) := by unfold Hid; rw [hW1, hg2]; exact (Arr.new w _ _).alloc _
  have hA3 : Arr W1 g3 39 #[.string p, .string nm, .string vl] := by rw [hW1, hg3]; exact Arr.new1 w _ _ _
  obtain ⟨s0, s1, s2⟩ : W1.cell? ⟨g3, 0, none⟩ = some (.string p) ∧ W1.cell? ⟨g3, 1, none⟩ = some (.string nm) ∧ W1.cell? ⟨g3, 2, none⟩ = some (.string vl) := ⟨hA3.cell 0, hA3.cell 1, hA3.cell 2⟩
  have HNN := Lib.hid (nd_below hN hB1)
  have HB := Lib.hid hB1
  have HLO := Lib.hid (fun W G (h : NdAt W G n (.slice Na n.ps.length Nc) (.slice Nb n.ks.length Nd)) => rLow_any G n _ _ W h)
  clear hN hB1 hA3 hpc hkc
  cases hl : LowR n with
  | false =>
    rw [hl] at HLO
    clear hl M
    go_enter Tryd.func4, Tryd.ntmps4
    go_upto_region 1 with fail
    change Code.wp _ _ _ _ ((w.alloc (.cells #[.string n.nm, .slice Na n.ps.length Nc, .slice Nb n.ks.length Nd] 25)).alloc (.cells #[.string p, .string nm, .string vl] 39))
    rw [← hW1, ← hg3, ← hg2]
    clear hW1 hg3 hg2
    go_quiet (fail)
    have hb : Below W1.heap.size W1 (W1.drewN nq) := below_drewN _ _
    have HNN := Lib.hid (nd_below HNN.out hb)
    have HAN := Lib.hid (HAN.out.below hb HAN.out.lt)
    have HB := Lib.hid (HB.out.trans (hb.mono HB.out.size))
    clear hb s0 s1 s2
    generalize W1.drewN nq = W2 at *
    obtain ⟨N0, N1, N2⟩ : W2.cell? ⟨N, 0, none⟩ = some (.string n.nm) ∧ W2.cell? ⟨N, 1, none⟩ = some (.slice Na n.ps.length Nc) ∧ W2.cell? ⟨N, 2, none⟩ = some (.slice Nb n.ks.length Nd) := ⟨HAN.out.cell 0, HAN.out.cell 1, HAN.out.cell 2⟩
    go_wp2_with fail
    refine (HLO.out _ _ HNN.out).mono ?_
    rintro e w3 ⟨rfl, hb⟩
    have HNN := Lib.hid (nd_below HNN.out hb)
    have HAN := Lib.hid (HAN.out.below hb HAN.out.lt)
    have HB := Lib.hid (HB.out.trans (hb.mono HB.out.size))
    clear hb HLO N0 N1 N2
    go_wp2_with fail
    refine (HAW.out _).mono ?_
    rintro e w9 ⟨rfl, hb⟩
    have HB := Lib.hid (HB.out.trans (hb.mono HB.out.size))
    clear hb
    go_wp2
    go_ret
    exact ⟨rfl, HB.out⟩
  | true =>
    rw [hl] at HLO
    have HFI := Lib.hid (fun W G (h : NdAt W G n (.slice Na n.ps.length Nc) (.slice Nb n.ks.length Nd)) => rFits_any G n _ _ W (by have := sz_count (sz_of_low hl); omega) (by have := sz_count (sz_of_low hl); omega) h)
    cases hf : fitsR n with
    | false =>
      rw [hf] at HFI
      clear hl hf M
      go_enter Tryd.func4, Tryd.ntmps4
      go_upto_region 1 with fail
      change Code.wp _ _ _ _ ((w.alloc (.cells #[.string n.nm, .slice Na n.ps.length Nc, .slice Nb n.ks.length Nd] 25)).alloc (.cells #[.string p, .string nm, .string vl] 39))
      rw [← hW1, ← hg3, ← hg2]
      clear hW1 hg3 hg2
      go_quiet (fail)
      have hb : Below W1.heap.size W1 (W1.drewN nq) := below_drewN _ _
      have HNN := Lib.hid (nd_below HNN.out hb)
      have HAN := Lib.hid (HAN.out.below hb HAN.out.lt)
      have HB := Lib.hid (HB.out.trans (hb.mono HB.out.size))
      clear hb s0 s1 s2
      generalize W1.drewN nq = W2 at *
      obtain ⟨N0, N1, N2⟩ : W2.cell? ⟨N, 0, none⟩ = some (.string n.nm) ∧ W2.cell? ⟨N, 1, none⟩ = some (.slice Na n.ps.length Nc) ∧ W2.cell? ⟨N, 2, none⟩ = some (.slice Nb n.ks.length Nd) := ⟨HAN.out.cell 0, HAN.out.cell 1, HAN.out.cell 2⟩
      go_wp2_with fail
      refine (HLO.out _ _ HNN.out).mono ?_
      rintro e w3 ⟨rfl, hb⟩
      have HNN := Lib.hid (nd_below HNN.out hb)
      have HAN := Lib.hid (HAN.out.below hb HAN.out.lt)
      have HB := Lib.hid (HB.out.trans (hb.mono HB.out.size))
      clear hb HLO N0 N1 N2
      obtain ⟨N0, N1, N2⟩ : w3.cell? ⟨N, 0, none⟩ = some (.string n.nm) ∧ w3.cell? ⟨N, 1, none⟩ = some (.slice Na n.ps.length Nc) ∧ w3.cell? ⟨N, 2, none⟩ = some (.slice Nb n.ks.length Nd) := ⟨HAN.out.cell 0, HAN.out.cell 1, HAN.out.cell 2⟩
      go_wp2_with fail
      refine (HFI.out _ _ HNN.out).mono ?_
      rintro e w4 ⟨rfl, hb⟩
      have HNN := Lib.hid (nd_below HNN.out hb)
      have HAN := Lib.hid (HAN.out.below hb HAN.out.lt)
      have HB := Lib.hid (HB.out.trans (hb.mono HB.out.size))
      clear hb HFI N0 N1 N2
      go_wp2_with fail
      refine (HAW.out _).mono ?_
      rintro e w9 ⟨rfl, hb⟩
      have HB := Lib.hid (HB.out.trans (hb.mono HB.out.size))
      clear hb
      go_wp2
      go_ret
      exact ⟨rfl, HB.out⟩
    | true =>
      rw [hf] at HFI
      by_cases c1 : 200 < p.size
      · have d1 : decide ((200 : Int) < (p.size : Int)) = true := decide_eq_true (by omega)
        clear hl hf M c1
        go_enter Tryd.func4, Tryd.ntmps4
        go_upto_region 1 with fail
        change Code.wp _ _ _ _ ((w.alloc (.cells #[.string n.nm, .slice Na n.ps.length Nc, .slice Nb n.ks.length Nd] 25)).alloc (.cells #[.string p, .string nm, .string vl] 39))
        rw [← hW1, ← hg3, ← hg2]
        clear hW1 hg3 hg2
        go_quiet (fail)
        have hb : Below W1.heap.size W1 (W1.drewN nq) := below_drewN _ _
        have HNN := Lib.hid (nd_below HNN.out hb)
        have HAN := Lib.hid (HAN.out.below hb HAN.out.lt)
        have HB := Lib.hid (HB.out.trans (hb.mono HB.out.size))
        clear hb s0 s1 s2
        generalize W1.drewN nq = W2 at *
        obtain ⟨N0, N1, N2⟩ : W2.cell? ⟨N, 0, none⟩ = some (.string n.nm) ∧ W2.cell? ⟨N, 1, none⟩ = some (.slice Na n.ps.length Nc) ∧ W2.cell? ⟨N, 2, none⟩ = some (.slice Nb n.ks.length Nd) := ⟨HAN.out.cell 0, HAN.out.cell 1, HAN.out.cell 2⟩
        go_wp2_with fail
        refine (HLO.out _ _ HNN.out).mono ?_
        rintro e w3 ⟨rfl, hb⟩
        have HNN := Lib.hid (nd_below HNN.out hb)
        have HAN := Lib.hid (HAN.out.below hb HAN.out.lt)
        have HB := Lib.hid (HB.out.trans (hb.mono HB.out.size))
        clear hb HLO N0 N1 N2
        obtain ⟨N0, N1, N2⟩ : w3.cell? ⟨N, 0, none⟩ = some (.string n.nm) ∧ w3.cell? ⟨N, 1, none⟩ = some (.slice Na n.ps.length Nc) ∧ w3.cell? ⟨N, 2, none⟩ = some (.slice Nb n.ks.length Nd) := ⟨HAN.out.cell 0, HAN.out.cell 1, HAN.out.cell 2⟩
        go_wp2_with fail
        refine (HFI.out _ _ HNN.out).mono ?_
        rintro e w4 ⟨rfl, hb⟩
        have HNN := Lib.hid (nd_below HNN.out hb)
        have HAN := Lib.hid (HAN.out.below hb HAN.out.lt)
        have HB := Lib.hid (HB.out.trans (hb.mono HB.out.size))
        clear hb HFI N0 N1 N2
        go_wp2_with fail
        refine (HAW.out _).mono ?_
        rintro e w9 ⟨rfl, hb⟩
        have HB := Lib.hid (HB.out.trans (hb.mono HB.out.size))
        clear hb
        go_wp2
        go_ret
        exact ⟨rfl, HB.out⟩
      have d1 : decide ((200 : Int) < (p.size : Int)) = false := decide_eq_false (by omega)
      by_cases c2 : 100 < nm.size
      · have d2 : decide ((100 : Int) < (nm.size : Int)) = true := decide_eq_true (by omega)
        clear hl hf M c1 c2
        go_enter Tryd.func4, Tryd.ntmps4
        go_upto_region 1 with fail
        change Code.wp _ _ _ _ ((w.alloc (.cells #[.string n.nm, .slice Na n.ps.length Nc, .slice Nb n.ks.length Nd] 25)).alloc (.cells #[.string p, .string nm, .string vl] 39))
        rw [← hW1, ← hg3, ← hg2]
        clear hW1 hg3 hg2
        go_quiet (fail)
        have hb : Below W1.heap.size W1 (W1.drewN nq) := below_drewN _ _
        have HNN := Lib.hid (nd_below HNN.out hb)
        have HAN := Lib.hid (HAN.out.below hb HAN.out.lt)
        have HB := Lib.hid (HB.out.trans (hb.mono HB.out.size))
        clear hb s0 s1 s2
        generalize W1.drewN nq = W2 at *
        obtain ⟨N0, N1, N2⟩ : W2.cell? ⟨N, 0, none⟩ = some (.string n.nm) ∧ W2.cell? ⟨N, 1, none⟩ = some (.slice Na n.ps.length Nc) ∧ W2.cell? ⟨N, 2, none⟩ = some (.slice Nb n.ks.length Nd) := ⟨HAN.out.cell 0, HAN.out.cell 1, HAN.out.cell 2⟩
        go_wp2_with fail
        refine (HLO.out _ _ HNN.out).mono ?_
        rintro e w3 ⟨rfl, hb⟩
        have HNN := Lib.hid (nd_below HNN.out hb)
        have HAN := Lib.hid (HAN.out.below hb HAN.out.lt)
        have HB := Lib.hid (HB.out.trans (hb.mono HB.out.size))
        clear hb HLO N0 N1 N2
        obtain ⟨N0, N1, N2⟩ : w3.cell? ⟨N, 0, none⟩ = some (.string n.nm) ∧ w3.cell? ⟨N, 1, none⟩ = some (.slice Na n.ps.length Nc) ∧ w3.cell? ⟨N, 2, none⟩ = some (.slice Nb n.ks.length Nd) := ⟨HAN.out.cell 0, HAN.out.cell 1, HAN.out.cell 2⟩
        go_wp2_with fail
        refine (HFI.out _ _ HNN.out).mono ?_
        rintro e w4 ⟨rfl, hb⟩
        have HNN := Lib.hid (nd_below HNN.out hb)
        have HAN := Lib.hid (HAN.out.below hb HAN.out.lt)
        have HB := Lib.hid (HB.out.trans (hb.mono HB.out.size))
        clear hb HFI N0 N1 N2
        go_wp2_with fail
        refine (HAW.out _).mono ?_
        rintro e w9 ⟨rfl, hb⟩
        have HB := Lib.hid (HB.out.trans (hb.mono HB.out.size))
        clear hb
        go_wp2
        go_ret
        exact ⟨rfl, HB.out⟩
      have d2 : decide ((100 : Int) < (nm.size : Int)) = false := decide_eq_false (by omega)
      by_cases c3 : 300 < vl.size
      · have d3 : decide ((300 : Int) < (vl.size : Int)) = true := decide_eq_true (by omega)
        clear hl hf M c1 c2 c3
        go_enter Tryd.func4, Tryd.ntmps4
        go_upto_region 1 with fail
        change Code.wp _ _ _ _ ((w.alloc (.cells #[.string n.nm, .slice Na n.ps.length Nc, .slice Nb n.ks.length Nd] 25)).alloc (.cells #[.string p, .string nm, .string vl] 39))
        rw [← hW1, ← hg3, ← hg2]
        clear hW1 hg3 hg2
        go_quiet (fail)
        have hb : Below W1.heap.size W1 (W1.drewN nq) := below_drewN _ _
        have HNN := Lib.hid (nd_below HNN.out hb)
        have HAN := Lib.hid (HAN.out.below hb HAN.out.lt)
        have HB := Lib.hid (HB.out.trans (hb.mono HB.out.size))
        clear hb s0 s1 s2
        generalize W1.drewN nq = W2 at *
        obtain ⟨N0, N1, N2⟩ : W2.cell? ⟨N, 0, none⟩ = some (.string n.nm) ∧ W2.cell? ⟨N, 1, none⟩ = some (.slice Na n.ps.length Nc) ∧ W2.cell? ⟨N, 2, none⟩ = some (.slice Nb n.ks.length Nd) := ⟨HAN.out.cell 0, HAN.out.cell 1, HAN.out.cell 2⟩
        go_wp2_with fail
        refine (HLO.out _ _ HNN.out).mono ?_
        rintro e w3 ⟨rfl, hb⟩
        have HNN := Lib.hid (nd_below HNN.out hb)
        have HAN := Lib.hid (HAN.out.below hb HAN.out.lt)
        have HB := Lib.hid (HB.out.trans (hb.mono HB.out.size))
        clear hb HLO N0 N1 N2
        obtain ⟨N0, N1, N2⟩ : w3.cell? ⟨N, 0, none⟩ = some (.string n.nm) ∧ w3.cell? ⟨N, 1, none⟩ = some (.slice Na n.ps.length Nc) ∧ w3.cell? ⟨N, 2, none⟩ = some (.slice Nb n.ks.length Nd) := ⟨HAN.out.cell 0, HAN.out.cell 1, HAN.out.cell 2⟩
        go_wp2_with fail
        refine (HFI.out _ _ HNN.out).mono ?_
        rintro e w4 ⟨rfl, hb⟩
        have HNN := Lib.hid (nd_below HNN.out hb)
        have HAN := Lib.hid (HAN.out.below hb HAN.out.lt)
        have HB := Lib.hid (HB.out.trans (hb.mono HB.out.size))
        clear hb HFI N0 N1 N2
        go_wp2_with fail
        refine (HAW.out _).mono ?_
        rintro e w9 ⟨rfl, hb⟩
        have HB := Lib.hid (HB.out.trans (hb.mono HB.out.size))
        clear hb
        go_wp2
        go_ret
        exact ⟨rfl, HB.out⟩
      have d3 : decide ((300 : Int) < (vl.size : Int)) = false := decide_eq_false (by omega)
      have hp2 : p.size ≤ 200 := by omega
      have hm2 : nm.size ≤ 100 := by omega
      have hv2 : vl.size ≤ 300 := by omega
      clear hp h1 h2 c1 c2 c3
      have HFD := Lib.hid (fun W G (h : NdAt W G n (.slice Na n.ps.length Nc) (.slice Nb n.ks.length Nd)) => rfind_any G n _ _ p W (by omega) h)
      have HST := Lib.hid (fun W G (h : NdAt W G n (.slice Na n.ps.length Nc) (.slice Nb n.ks.length Nd)) => M.set G n _ _ p nm vl W (sz_of_low hl) (by omega) (by omega) (by omega) h)
      have HAD := Lib.hid (fun W G (h : NdAt W G n (.slice Na n.ps.length Nc) (.slice Nb n.ks.length Nd)) => M.add G n _ _ p nm W (sz_of_low hl) (by omega) (by omega) h)
      have HS1 : Hid (∀ m, doR17 n p.data.toList ⟨1, nm, vl⟩ = (m, 0) → ∃ x y b, findR n p.data.toList = some x ∧ findR m p.data.toList = some y ∧ valR y nm = some vl ∧ m.ks.length = n.ks.length ∧ doR17 m p.data.toList ⟨2, nm, ⟨#[]⟩⟩ = (b, 0) ∧ (valR x nm = none → b = n) ∧ LowR m = true) := fun m h => keeps_set hl hf hm2 hv2 h
      have HS8 : Hid (∀ x, findR n p.data.toList = some x → (doR17 n p.data.toList ⟨1, nm, vl⟩).2 ≠ 8) := fun x h => set_some h
      have HS3 : Hid (∀ o, doR17 n p.data.toList ⟨3, nm, ⟨#[]⟩⟩ = (o, 0) → ∃ k, (∀ x, under p.data.toList ++ x = if p.data.toList = [47] then p.data.toList ++ x else p.data.toList ++ [47] ++ x) ∧ findR o (under p.data.toList ++ nm.data.toList) = some k ∧ dropR17 o (under p.data.toList ++ nm.data.toList) = (n, 0) ∧ LowR o = true) := fun o h => keeps_add hl hf hm2 h
      obtain ⟨m, e1, hT1⟩ : ∃ m e1, doR17 n p.data.toList ⟨1, nm, vl⟩ = (m, e1) := ⟨_, _, rfl⟩
      obtain ⟨o, e3, hT3⟩ : ∃ o e3, doR17 n p.data.toList ⟨3, nm, ⟨#[]⟩⟩ = (o, e3) := ⟨_, _, rfl⟩
      obtain ⟨xo, hxo⟩ : ∃ xo, findR n p.data.toList = xo := ⟨_, rfl⟩
      rw [hT1] at HST HS8
      rw [hT3] at HAD HS3
      rw [hxo] at HFD HS1 HS8
      have HS1 := Lib.hid (HS1.out m)
      have HS3 := Lib.hid (HS3.out o)
      rw [hT1] at HS1
      clear hT1 hT3 hxo hl hf
      obtain ⟨x, hx⟩ : ∃ x, x = orN xo := ⟨_, rfl⟩
      obtain ⟨bo, hbo⟩ : ∃ bo, bo = xo.isSome := ⟨_, rfl⟩
      have HS8 : Hid (bo = true → e1 ≠ 8) := fun h => by
        cases xo with
        | none => rw [hbo] at h; cases h
        | some q => exact HS8.out q rfl
      have HS1 : Hid (e1 = 0 → ∃ y b, bo = true ∧ findR m p.data.toList = some y ∧ valR y nm = some vl ∧ m.ks.length = n.ks.length ∧ doR17 m p.data.toList ⟨2, nm, ⟨#[]⟩⟩ = (b, 0) ∧ (valR x nm = none → b = n) ∧ LowR m = true) := fun h => by
        obtain ⟨x', y, b, q1, q2, q3, q4, q5, q6, q7⟩ := HS1.out (by rw [h])
        refine ⟨y, b, by rw [hbo, q1]; rfl, q2, q3, q4, q5, ?_, q7⟩
        rw [hx, q1]; exact q6
      rw [← hx, ← hbo] at HFD
      clear hx hbo
      go_enter Tryd.func4, Tryd.ntmps4
      go_upto_region 1 with fail
      change Code.wp _ _ _ _ ((w.alloc (.cells #[.string n.nm, .slice Na n.ps.length Nc, .slice Nb n.ks.length Nd] 25)).alloc (.cells #[.string p, .string nm, .string vl] 39))
      rw [← hW1, ← hg3, ← hg2]
      clear hW1 hg3 hg2
      go_quiet (fail)
      have hb : Below W1.heap.size W1 (W1.drewN nq) := below_drewN _ _
      have HNN := Lib.hid (nd_below HNN.out hb)
      have HAN := Lib.hid (HAN.out.below hb HAN.out.lt)
      have HB := Lib.hid (HB.out.trans (hb.mono HB.out.size))
      clear hb s0 s1 s2
      generalize W1.drewN nq = W2 at *
      obtain ⟨N0, N1, N2⟩ : W2.cell? ⟨N, 0, none⟩ = some (.string n.nm) ∧ W2.cell? ⟨N, 1, none⟩ = some (.slice Na n.ps.length Nc) ∧ W2.cell? ⟨N, 2, none⟩ = some (.slice Nb n.ks.length Nd) := ⟨HAN.out.cell 0, HAN.out.cell 1, HAN.out.cell 2⟩
      go_wp2_with fail
      refine (HLO.out _ _ HNN.out).mono ?_
      rintro e w3 ⟨rfl, hb⟩
      have HNN := Lib.hid (nd_below HNN.out hb)
      have HAN := Lib.hid (HAN.out.below hb HAN.out.lt)
      have HB := Lib.hid (HB.out.trans (hb.mono HB.out.size))
      clear hb HLO N0 N1 N2
      obtain ⟨N0, N1, N2⟩ : w3.cell? ⟨N, 0, none⟩ = some (.string n.nm) ∧ w3.cell? ⟨N, 1, none⟩ = some (.slice Na n.ps.length Nc) ∧ w3.cell? ⟨N, 2, none⟩ = some (.slice Nb n.ks.length Nd) := ⟨HAN.out.cell 0, HAN.out.cell 1, HAN.out.cell 2⟩
      go_wp2_with fail
      refine (HFI.out _ _ HNN.out).mono ?_
      rintro e w4 ⟨rfl, hb⟩
      have HNN := Lib.hid (nd_below HNN.out hb)
      have HAN := Lib.hid (HAN.out.below hb HAN.out.lt)
      have HB := Lib.hid (HB.out.trans (hb.mono HB.out.size))
      clear hb HFI N0 N1 N2
      obtain ⟨N0, N1, N2⟩ : w4.cell? ⟨N, 0, none⟩ = some (.string n.nm) ∧ w4.cell? ⟨N, 1, none⟩ = some (.slice Na n.ps.length Nc) ∧ w4.cell? ⟨N, 2, none⟩ = some (.slice Nb n.ks.length Nd) := ⟨HAN.out.cell 0, HAN.out.cell 1, HAN.out.cell 2⟩
      go_wp2_with fail
      refine (HFD.out _ _ HNN.out).mono ?_
      rintro e w5 ⟨u2, u3, rfl, hk, hb⟩
      obtain ⟨Xa, Xb, Xc, Xd, rfl, rfl, _⟩ := nd_shape hk
      have hbn : Below w5.heap.size w5 (w5.alloc (.cells #[.string x.nm, .slice Xa x.ps.length Xc, .slice Xb x.ks.length Xd] 25)) := (Below.refl _ _).alloc (Nat.le_refl _) _
      have hb := hb.trans (hbn.mono hb.size)
      have HNN := Lib.hid (nd_below HNN.out hb)
      have HAN := Lib.hid (HAN.out.below hb HAN.out.lt)
      have HB := Lib.hid (HB.out.trans (hb.mono HB.out.size))
      have HNX := Lib.hid (nd_below hk hbn)
      have HAX := Lib.hid (Arr.new w5 25 #[.string x.nm, .slice Xa x.ps.length Xc, .slice Xb x.ks.length Xd])
      clear hb hbn hk N0 N1 N2 HFD
      go_upto_region 5 with fail
      generalize w5.alloc (.cells #[.string x.nm, .slice Xa x.ps.length Xc, .slice Xb x.ks.length Xd] 25) = W5 at *
      generalize w5.heap.size = X at *
      obtain ⟨N0, N1, N2⟩ : W5.cell? ⟨N, 0, none⟩ = some (.string n.nm) ∧ W5.cell? ⟨N, 1, none⟩ = some (.slice Na n.ps.length Nc) ∧ W5.cell? ⟨N, 2, none⟩ = some (.slice Nb n.ks.length Nd) := ⟨HAN.out.cell 0, HAN.out.cell 1, HAN.out.cell 2⟩
      go_wp2_with fail
      refine (HST.out _ _ HNN.out).mono ?_
      rintro e w6 ⟨u2, u3, rfl, hk, hb⟩
      obtain ⟨Qa, Qb, Qc, Qd, rfl, rfl, _⟩ := nd_shape hk
      have hbn : Below w6.heap.size w6 (w6.alloc (.cells #[.string m.nm, .slice Qa m.ps.length Qc, .slice Qb m.ks.length Qd] 25)) := (Below.refl _ _).alloc (Nat.le_refl _) _
      have hb := hb.trans (hbn.mono hb.size)
      have HNN := Lib.hid (nd_below HNN.out hb)
      have HAN := Lib.hid (HAN.out.below hb HAN.out.lt)
      have HNX := Lib.hid (nd_below HNX.out hb)
      have HAX := Lib.hid (HAX.out.below hb HAX.out.lt)
      have HB := Lib.hid (HB.out.trans (hb.mono HB.out.size))
      have HNQ := Lib.hid (nd_below hk hbn)
      have HAQ := Lib.hid (Arr.new w6 25 #[.string m.nm, .slice Qa m.ps.length Qc, .slice Qb m.ks.length Qd])
      clear hb hbn hk N0 N1 N2 HST
      go_upto_region 6 with fail
      generalize w6.alloc (.cells #[.string m.nm, .slice Qa m.ps.length Qc, .slice Qb m.ks.length Qd] 25) = W6 at *
      generalize w6.heap.size = Q at *
      by_cases h0 : e1 = 0
      · obtain ⟨yy, b, rfl, q2, q3, q4, q5, q6, q7⟩ := HS1.out h0
        subst h0
        have HFM : Hid (∀ W G y z, NdAt W G m y z → Calls Tryd.prog 13 #[.agg #[.string m.nm, y, z], .string p] W fun e w' => ∃ u2 u3, e = .returned (.tuple #[.agg #[.string yy.nm, u2, u3], .bool true]) ∧ NdAt w' G yy u2 u3 ∧ Below W.heap.size W w') := fun W G y z h => by
          have := rfind_any G m y z p W (by omega) h
          rw [q2] at this
          exact this
        have HVY : Hid (∀ W G y z, NdAt W G yy y z → Calls Tryd.prog 15 #[.agg #[.string yy.nm, y, z], .string nm] W fun e w' => e = .returned (.tuple #[.string vl, .bool true]) ∧ Below W.heap.size W w') := fun W G y z h => by
          have := rvalue_any G yy y z nm W h
          rw [q3] at this
          exact this
        have HVX := Lib.hid (fun W G y z (h : NdAt W G x y z) => rvalue_any G x y z nm W h)
        have HUN := Lib.hid (fun W G y z (h : NdAt W G m y z) => M.unset G m y z p nm W (sz_of_low q7) (by omega) (by omega) h)
        rw [q5] at HUN
        have dk : ((m.ks.length : Int) != (n.ks.length : Int)) = false := by rw [q4]; simp
        have HBN : Hid (valR x nm = none → b = n) := q6
        obtain ⟨vo, hvo⟩ : ∃ vo, valR x nm = vo := ⟨_, rfl⟩
        rw [hvo] at HVX HBN
        clear q2 q3 q4 q5 q6 q7 hvo HS1 HS8
        obtain ⟨Q0, Q1, Q2⟩ : W6.cell? ⟨Q, 0, none⟩ = some (.string m.nm) ∧ W6.cell? ⟨Q, 1, none⟩ = some (.slice Qa m.ps.length Qc) ∧ W6.cell? ⟨Q, 2, none⟩ = some (.slice Qb m.ks.length Qd) := ⟨HAQ.out.cell 0, HAQ.out.cell 1, HAQ.out.cell 2⟩
        go_wp2_with fail
        refine (HFM.out _ _ _ _ HNQ.out).mono ?_
        rintro e w7 ⟨u2, u3, rfl, hk, hb⟩
        obtain ⟨Ya, Yb, Yc, Yd, rfl, rfl, _⟩ := nd_shape hk
        have hbn : Below w7.heap.size w7 (w7.alloc (.cells #[.string yy.nm, .slice Ya yy.ps.length Yc, .slice Yb yy.ks.length Yd] 25)) := (Below.refl _ _).alloc (Nat.le_refl _) _
        have hb := hb.trans (hbn.mono hb.size)
        have HNN := Lib.hid (nd_below HNN.out hb)
        have HAN := Lib.hid (HAN.out.below hb HAN.out.lt)
        have HNX := Lib.hid (nd_below HNX.out hb)
        have HAX := Lib.hid (HAX.out.below hb HAX.out.lt)
        have HNQ := Lib.hid (nd_below HNQ.out hb)
        have HAQ := Lib.hid (HAQ.out.below hb HAQ.out.lt)
        have HB := Lib.hid (HB.out.trans (hb.mono HB.out.size))
        have HNY := Lib.hid (nd_below hk hbn)
        have HAY := Lib.hid (Arr.new w7 25 #[.string yy.nm, .slice Ya yy.ps.length Yc, .slice Yb yy.ks.length Yd])
        clear hb hbn hk Q0 Q1 Q2 HFM
        go_upto_region 8 with fail
        generalize w7.alloc (.cells #[.string yy.nm, .slice Ya yy.ps.length Yc, .slice Yb yy.ks.length Yd] 25) = W7 at *
        generalize w7.heap.size = Y at *
        obtain ⟨Y0, Y1, Y2⟩ : W7.cell? ⟨Y, 0, none⟩ = some (.string yy.nm) ∧ W7.cell? ⟨Y, 1, none⟩ = some (.slice Ya yy.ps.length Yc) ∧ W7.cell? ⟨Y, 2, none⟩ = some (.slice Yb yy.ks.length Yd) := ⟨HAY.out.cell 0, HAY.out.cell 1, HAY.out.cell 2⟩
        go_wp2_with fail
        refine (HVY.out _ _ _ _ HNY.out).mono ?_
        rintro e w8 ⟨rfl, hb⟩
        have HNN := Lib.hid (nd_below HNN.out hb)
        have HAN := Lib.hid (HAN.out.below hb HAN.out.lt)
        have HNX := Lib.hid (nd_below HNX.out hb)
        have HAX := Lib.hid (HAX.out.below hb HAX.out.lt)
        have HNQ := Lib.hid (nd_below HNQ.out hb)
        have HAQ := Lib.hid (HAQ.out.below hb HAQ.out.lt)
        have HNY := Lib.hid (nd_below HNY.out hb)
        have HAY := Lib.hid (HAY.out.below hb HAY.out.lt)
        have HB := Lib.hid (HB.out.trans (hb.mono HB.out.size))
        clear hb Y0 Y1 Y2
        obtain ⟨X0, X1, X2⟩ : w8.cell? ⟨X, 0, none⟩ = some (.string x.nm) ∧ w8.cell? ⟨X, 1, none⟩ = some (.slice Xa x.ps.length Xc) ∧ w8.cell? ⟨X, 2, none⟩ = some (.slice Xb x.ks.length Xd) := ⟨HAX.out.cell 0, HAX.out.cell 1, HAX.out.cell 2⟩
        go_wp2_with fail
        refine (HVX.out _ _ _ _ HNX.out).mono ?_
        rintro e w9 ⟨rfl, hb⟩
        have HNN := Lib.hid (nd_below HNN.out hb)
        have HAN := Lib.hid (HAN.out.below hb HAN.out.lt)
        have HNX := Lib.hid (nd_below HNX.out hb)
        have HAX := Lib.hid (HAX.out.below hb HAX.out.lt)
        have HNQ := Lib.hid (nd_below HNQ.out hb)
        have HAQ := Lib.hid (HAQ.out.below hb HAQ.out.lt)
        have HB := Lib.hid (HB.out.trans (hb.mono HB.out.size))
        clear hb X0 X1 X2
        clear HVY HVX HNX HAX HNY HAY
        obtain ⟨Q0, Q1, Q2⟩ : w9.cell? ⟨Q, 0, none⟩ = some (.string m.nm) ∧ w9.cell? ⟨Q, 1, none⟩ = some (.slice Qa m.ps.length Qc) ∧ w9.cell? ⟨Q, 2, none⟩ = some (.slice Qb m.ks.length Qd) := ⟨HAQ.out.cell 0, HAQ.out.cell 1, HAQ.out.cell 2⟩
        go_wp2_with fail
        refine (HUN.out _ _ _ _ HNQ.out).mono ?_
        rintro e w10 ⟨u2, u3, rfl, hk, hb⟩
        obtain ⟨Ba, Bb, Bc, Bd, rfl, rfl, _⟩ := nd_shape hk
        have hbn : Below w10.heap.size w10 (w10.alloc (.cells #[.string b.nm, .slice Ba b.ps.length Bc, .slice Bb b.ks.length Bd] 25)) := (Below.refl _ _).alloc (Nat.le_refl _) _
        have hb := hb.trans (hbn.mono hb.size)
        have HNN := Lib.hid (nd_below HNN.out hb)
        have HAN := Lib.hid (HAN.out.below hb HAN.out.lt)
        have HNQ := Lib.hid (nd_below HNQ.out hb)
        have HAQ := Lib.hid (HAQ.out.below hb HAQ.out.lt)
        have HB := Lib.hid (HB.out.trans (hb.mono HB.out.size))
        have HNB := Lib.hid (nd_below hk hbn)
        have HAB := Lib.hid (Arr.new w10 25 #[.string b.nm, .slice Ba b.ps.length Bc, .slice Bb b.ks.length Bd])
        clear hb hbn hk Q0 Q1 Q2 HUN
        go_upto_region 11 with fail
        generalize w10.alloc (.cells #[.string b.nm, .slice Ba b.ps.length Bc, .slice Bb b.ks.length Bd] 25) = W10 at *
        generalize w10.heap.size = B at *
        have dv : (vl.toList == vl.toList) = true := by simp
        cases vo with
        | some vx =>
          have HEND := Lib.hid True.intro
          obtain ⟨Q0, Q1, Q2⟩ : W10.cell? ⟨Q, 0, none⟩ = some (.string m.nm) ∧ W10.cell? ⟨Q, 1, none⟩ = some (.slice Qa m.ps.length Qc) ∧ W10.cell? ⟨Q, 2, none⟩ = some (.slice Qb m.ks.length Qd) := ⟨HAQ.out.cell 0, HAQ.out.cell 1, HAQ.out.cell 2⟩
          obtain ⟨N0, N1, N2⟩ : W10.cell? ⟨N, 0, none⟩ = some (.string n.nm) ∧ W10.cell? ⟨N, 1, none⟩ = some (.slice Na n.ps.length Nc) ∧ W10.cell? ⟨N, 2, none⟩ = some (.slice Nb n.ks.length Nd) := ⟨HAN.out.cell 0, HAN.out.cell 1, HAN.out.cell 2⟩
          obtain ⟨B0, B1, B2⟩ : W10.cell? ⟨B, 0, none⟩ = some (.string b.nm) ∧ W10.cell? ⟨B, 1, none⟩ = some (.slice Ba b.ps.length Bc) ∧ W10.cell? ⟨B, 2, none⟩ = some (.slice Bb b.ks.length Bd) := ⟨HAB.out.cell 0, HAB.out.cell 1, HAB.out.cell 2⟩
          clear HBN
          go_upto_region 13 with fail
          clear dk dv Q0 Q1 Q2 N0 N1 N2 B0 B1 B2 HNQ HAQ HNB HAB
          obtain ⟨N0, N1, N2⟩ : W10.cell? ⟨N, 0, none⟩ = some (.string n.nm) ∧ W10.cell? ⟨N, 1, none⟩ = some (.slice Na n.ps.length Nc) ∧ W10.cell? ⟨N, 2, none⟩ = some (.slice Nb n.ks.length Nd) := ⟨HAN.out.cell 0, HAN.out.cell 1, HAN.out.cell 2⟩
          go_wp2_with fail
          refine (HAD.out _ _ HNN.out).mono ?_
          rintro e v1 ⟨u2, u3, rfl, hk, hb⟩
          obtain ⟨Oa, Ob, Oc, Od, rfl, rfl, _⟩ := nd_shape hk
          have hbn : Below v1.heap.size v1 (v1.alloc (.cells #[.string o.nm, .slice Oa o.ps.length Oc, .slice Ob o.ks.length Od] 25)) := (Below.refl _ _).alloc (Nat.le_refl _) _
          have hb := hb.trans (hbn.mono hb.size)
          have HNN := Lib.hid (nd_below HNN.out hb)
          have HAN := Lib.hid (HAN.out.below hb HAN.out.lt)
          have HB := Lib.hid (HB.out.trans (hb.mono HB.out.size))
          have HNO := Lib.hid (nd_below hk hbn)
          have HAO := Lib.hid (Arr.new v1 25 #[.string o.nm, .slice Oa o.ps.length Oc, .slice Ob o.ks.length Od])
          clear hb hbn hk N0 N1 N2 HAD
          go_upto_region 14 with fail
          generalize v1.alloc (.cells #[.string o.nm, .slice Oa o.ps.length Oc, .slice Ob o.ks.length Od] 25) = V1 at *
          generalize v1.heap.size = O at *
          by_cases h3 : e3 = 0
          · obtain ⟨k, hu, k2, k3, k4⟩ := HS3.out (by rw [h3])
            subst h3
            obtain ⟨P2, hP2⟩ : ∃ P2 : ByteArray, P2.data.toList = under p.data.toList ++ nm.data.toList := ⟨⟨(under p.data.toList ++ nm.data.toList).toArray⟩, by simp⟩
            rw [← hP2] at k2 k3
            have hP2l := hu nm.data.toList
            rw [← hP2] at hP2l
            have hP2z : P2.size ≤ 400 := by
              show P2.data.toList.length ≤ 400
              rw [hP2l]
              have z1 : p.data.toList.length = p.size := rfl
              have z2 : nm.data.toList.length = nm.size := rfl
              split
              · rw [List.length_append]; omega
              · rw [List.length_append, List.length_append, List.length_singleton]; omega
            obtain ⟨S1, hS1⟩ : ∃ S1 : ByteArray, S1.data.toList = p.data.toList ++ [47] := ⟨⟨(p.data.toList ++ [47]).toArray⟩, by simp⟩
            obtain ⟨S2, hS2⟩ : ∃ S2 : ByteArray, S2.data.toList = S1.data.toList ++ nm.data.toList := ⟨⟨(S1.data.toList ++ nm.data.toList).toArray⟩, by simp⟩
            have z1 : S1.size = p.size + 1 := by show S1.data.toList.length = _; rw [hS1, List.length_append]; rfl
            have a1 : ∀ W, (Op.stringOp .add p ⟨#[47]⟩).run Tryd.prog W = .ok (.string S1) W := fun W => add_str (by rw [hS1]) (by show p.size + 1 ≤ _; omega) W
            have a2 : ∀ W, (Op.stringOp .add S1 nm).run Tryd.prog W = .ok (.string S2) W := fun W => add_str hS2 (by omega) W
            have HFO : Hid (∀ W G y z, NdAt W G o y z → Calls Tryd.prog 13 #[.agg #[.string o.nm, y, z], .string P2] W fun e w' => ∃ u2 u3, e = .returned (.tuple #[.agg #[.string k.nm, u2, u3], .bool true]) ∧ NdAt w' G k u2 u3 ∧ Below W.heap.size W w') := fun W G y z h => by
              have := rfind_any G o y z P2 W (by omega) h
              rw [k2] at this
              exact this
            have HDR := Lib.hid (fun W G y z (h : NdAt W G o y z) => M.drop G o y z P2 W (sz_of_low k4) (by omega) h)
            rw [k3] at HDR
            have HSN := Lib.hid (fun W G G' u v u' v' (h : NdAt W G n u v) (h' : NdAt W G' n u' v') => rSame_any G G' n n u v u' v' W h h')
            rw [sameR_refl] at HSN
            by_cases hs : p = ⟨#[47]⟩
            · have ds : (p.toList == [47]) = true := by rw [hs, ByteArray.toList_eq]; decide
              have a3 : ∀ W, (Op.stringOp .add p nm).run Tryd.prog W = .ok (.string P2) W := fun W => add_str (by rw [hP2l, if_pos (by rw [hs])]) (by omega) W
              clear hs hu k2 k3 k4 HS3 hS1 hS2 hP2 hP2l hP2z z1
              go_upto_region 19 with fail
              clear a1 a2 ds a3
              obtain ⟨O0, O1, O2⟩ : V1.cell? ⟨O, 0, none⟩ = some (.string o.nm) ∧ V1.cell? ⟨O, 1, none⟩ = some (.slice Oa o.ps.length Oc) ∧ V1.cell? ⟨O, 2, none⟩ = some (.slice Ob o.ks.length Od) := ⟨HAO.out.cell 0, HAO.out.cell 1, HAO.out.cell 2⟩
              go_wp2_with fail
              refine (HFO.out _ _ _ _ HNO.out).mono ?_
              rintro e v2 ⟨u2, u3, rfl, hk, hb⟩
              obtain ⟨Ka, Kb, Kc, Kd, rfl, rfl, _⟩ := nd_shape hk
              have hbn : Below v2.heap.size v2 (v2.alloc (.cells #[.string k.nm, .slice Ka k.ps.length Kc, .slice Kb k.ks.length Kd] 25)) := (Below.refl _ _).alloc (Nat.le_refl _) _
              have hb := hb.trans (hbn.mono hb.size)
              have HNN := Lib.hid (nd_below HNN.out hb)
              have HAN := Lib.hid (HAN.out.below hb HAN.out.lt)
              have HNO := Lib.hid (nd_below HNO.out hb)
              have HAO := Lib.hid (HAO.out.below hb HAO.out.lt)
              have HB := Lib.hid (HB.out.trans (hb.mono HB.out.size))
              have HNK := Lib.hid (nd_below hk hbn)
              have HAK := Lib.hid (Arr.new v2 25 #[.string k.nm, .slice Ka k.ps.length Kc, .slice Kb k.ks.length Kd])
              clear hb hbn hk O0 O1 O2 HFO
              go_upto_region 20 with fail
              generalize v2.alloc (.cells #[.string k.nm, .slice Ka k.ps.length Kc, .slice Kb k.ks.length Kd] 25) = V2 at *
              generalize v2.heap.size = K at *
              obtain ⟨O0, O1, O2⟩ : V2.cell? ⟨O, 0, none⟩ = some (.string o.nm) ∧ V2.cell? ⟨O, 1, none⟩ = some (.slice Oa o.ps.length Oc) ∧ V2.cell? ⟨O, 2, none⟩ = some (.slice Ob o.ks.length Od) := ⟨HAO.out.cell 0, HAO.out.cell 1, HAO.out.cell 2⟩
              go_wp2_with fail
              refine (HDR.out _ _ _ _ HNO.out).mono ?_
              rintro e v3 ⟨u2, u3, rfl, hk, hb⟩
              obtain ⟨Da, Db, Dc, Dd, rfl, rfl, _⟩ := nd_shape hk
              have hbn : Below v3.heap.size v3 (v3.alloc (.cells #[.string n.nm, .slice Da n.ps.length Dc, .slice Db n.ks.length Dd] 25)) := (Below.refl _ _).alloc (Nat.le_refl _) _
              have hb := hb.trans (hbn.mono hb.size)
              have HNN := Lib.hid (nd_below HNN.out hb)
              have HAN := Lib.hid (HAN.out.below hb HAN.out.lt)
              have HB := Lib.hid (HB.out.trans (hb.mono HB.out.size))
              have HND := Lib.hid (nd_below hk hbn)
              have HAD := Lib.hid (Arr.new v3 25 #[.string n.nm, .slice Da n.ps.length Dc, .slice Db n.ks.length Dd])
              clear hb hbn hk O0 O1 O2 HDR HNK HAK HNO HAO
              go_upto_region 21 with fail
              generalize v3.alloc (.cells #[.string n.nm, .slice Da n.ps.length Dc, .slice Db n.ks.length Dd] 25) = V3 at *
              generalize v3.heap.size = D at *
              obtain ⟨D0, D1, D2⟩ : V3.cell? ⟨D, 0, none⟩ = some (.string n.nm) ∧ V3.cell? ⟨D, 1, none⟩ = some (.slice Da n.ps.length Dc) ∧ V3.cell? ⟨D, 2, none⟩ = some (.slice Db n.ks.length Dd) := ⟨HAD.out.cell 0, HAD.out.cell 1, HAD.out.cell 2⟩
              obtain ⟨N0, N1, N2⟩ : V3.cell? ⟨N, 0, none⟩ = some (.string n.nm) ∧ V3.cell? ⟨N, 1, none⟩ = some (.slice Na n.ps.length Nc) ∧ V3.cell? ⟨N, 2, none⟩ = some (.slice Nb n.ks.length Nd) := ⟨HAN.out.cell 0, HAN.out.cell 1, HAN.out.cell 2⟩
              go_wp2_with fail
              refine (HSN.out _ _ _ _ _ _ _ HND.out HNN.out).mono ?_
              rintro e v4 ⟨rfl, hb⟩
              have HB := Lib.hid (HB.out.trans (hb.mono HB.out.size))
              clear hb HSN HND HAD HNN HAN D0 D1 D2 N0 N1 N2
              go_wp2_with fail
              refine (HAW.out _).mono ?_
              rintro e w9 ⟨rfl, hb⟩
              have HB := Lib.hid (HB.out.trans (hb.mono HB.out.size))
              clear hb
              go_wp2
              go_ret
              exact ⟨rfl, HB.out⟩
            · have hs2 : p.data.toList ≠ [47] := fun e => hs (ba_eq_list e)
              have ds : (p.toList == [47]) = false := by rw [ByteArray.toList_eq]; simpa using hs2
              obtain rfl : P2 = S2 := by
                  have e : P2.data.toList = S2.data.toList := by rw [hP2l, if_neg hs2, hS2, hS1]
                  exact ba_eq_list e
              clear hs hs2 hu k2 k3 k4 HS3 hS1 hS2 hP2 hP2l hP2z z1
              go_upto_region 19 with fail
              clear a1 a2 ds
              obtain ⟨O0, O1, O2⟩ : V1.cell? ⟨O, 0, none⟩ = some (.string o.nm) ∧ V1.cell? ⟨O, 1, none⟩ = some (.slice Oa o.ps.length Oc) ∧ V1.cell? ⟨O, 2, none⟩ = some (.slice Ob o.ks.length Od) := ⟨HAO.out.cell 0, HAO.out.cell 1, HAO.out.cell 2⟩
              go_wp2_with fail
              refine (HFO.out _ _ _ _ HNO.out).mono ?_
              rintro e v2 ⟨u2, u3, rfl, hk, hb⟩
              obtain ⟨Ka, Kb, Kc, Kd, rfl, rfl, _⟩ := nd_shape hk
              have hbn : Below v2.heap.size v2 (v2.alloc (.cells #[.string k.nm, .slice Ka k.ps.length Kc, .slice Kb k.ks.length Kd] 25)) := (Below.refl _ _).alloc (Nat.le_refl _) _
              have hb := hb.trans (hbn.mono hb.size)
              have HNN := Lib.hid (nd_below HNN.out hb)
              have HAN := Lib.hid (HAN.out.below hb HAN.out.lt)
              have HNO := Lib.hid (nd_below HNO.out hb)
              have HAO := Lib.hid (HAO.out.below hb HAO.out.lt)
              have HB := Lib.hid (HB.out.trans (hb.mono HB.out.size))
              have HNK := Lib.hid (nd_below hk hbn)
              have HAK := Lib.hid (Arr.new v2 25 #[.string k.nm, .slice Ka k.ps.length Kc, .slice Kb k.ks.length Kd])
              clear hb hbn hk O0 O1 O2 HFO
              go_upto_region 20 with fail
              generalize v2.alloc (.cells #[.string k.nm, .slice Ka k.ps.length Kc, .slice Kb k.ks.length Kd] 25) = V2 at *
              generalize v2.heap.size = K at *
              obtain ⟨O0, O1, O2⟩ : V2.cell? ⟨O, 0, none⟩ = some (.string o.nm) ∧ V2.cell? ⟨O, 1, none⟩ = some (.slice Oa o.ps.length Oc) ∧ V2.cell? ⟨O, 2, none⟩ = some (.slice Ob o.ks.length Od) := ⟨HAO.out.cell 0, HAO.out.cell 1, HAO.out.cell 2⟩
              go_wp2_with fail
              refine (HDR.out _ _ _ _ HNO.out).mono ?_
              rintro e v3 ⟨u2, u3, rfl, hk, hb⟩
              obtain ⟨Da, Db, Dc, Dd, rfl, rfl, _⟩ := nd_shape hk
              have hbn : Below v3.heap.size v3 (v3.alloc (.cells #[.string n.nm, .slice Da n.ps.length Dc, .slice Db n.ks.length Dd] 25)) := (Below.refl _ _).alloc (Nat.le_refl _) _
              have hb := hb.trans (hbn.mono hb.size)
              have HNN := Lib.hid (nd_below HNN.out hb)
              have HAN := Lib.hid (HAN.out.below hb HAN.out.lt)
              have HB := Lib.hid (HB.out.trans (hb.mono HB.out.size))
              have HND := Lib.hid (nd_below hk hbn)
              have HAD := Lib.hid (Arr.new v3 25 #[.string n.nm, .slice Da n.ps.length Dc, .slice Db n.ks.length Dd])
              clear hb hbn hk O0 O1 O2 HDR HNK HAK HNO HAO
              go_upto_region 21 with fail
              generalize v3.alloc (.cells #[.string n.nm, .slice Da n.ps.length Dc, .slice Db n.ks.length Dd] 25) = V3 at *
              generalize v3.heap.size = D at *
              obtain ⟨D0, D1, D2⟩ : V3.cell? ⟨D, 0, none⟩ = some (.string n.nm) ∧ V3.cell? ⟨D, 1, none⟩ = some (.slice Da n.ps.length Dc) ∧ V3.cell? ⟨D, 2, none⟩ = some (.slice Db n.ks.length Dd) := ⟨HAD.out.cell 0, HAD.out.cell 1, HAD.out.cell 2⟩
              obtain ⟨N0, N1, N2⟩ : V3.cell? ⟨N, 0, none⟩ = some (.string n.nm) ∧ V3.cell? ⟨N, 1, none⟩ = some (.slice Na n.ps.length Nc) ∧ V3.cell? ⟨N, 2, none⟩ = some (.slice Nb n.ks.length Nd) := ⟨HAN.out.cell 0, HAN.out.cell 1, HAN.out.cell 2⟩
              go_wp2_with fail
              refine (HSN.out _ _ _ _ _ _ _ HND.out HNN.out).mono ?_
              rintro e v4 ⟨rfl, hb⟩
              have HB := Lib.hid (HB.out.trans (hb.mono HB.out.size))
              clear hb HSN HND HAD HNN HAN D0 D1 D2 N0 N1 N2
              go_wp2_with fail
              refine (HAW.out _).mono ?_
              rintro e w9 ⟨rfl, hb⟩
              have HB := Lib.hid (HB.out.trans (hb.mono HB.out.size))
              clear hb
              go_wp2
              go_ret
              exact ⟨rfl, HB.out⟩
          · have dg : (((e3 : Nat) : Int) != 0) = true := by simp; omega
            clear h3 HS3 HNN HAN HNO HAO
            go_wp2_with fail
            refine (HAW.out _).mono ?_
            rintro e w9 ⟨rfl, hb⟩
            have HB := Lib.hid (HB.out.trans (hb.mono HB.out.size))
            clear hb
            go_wp2
            go_ret
            exact ⟨rfl, HB.out⟩
        | none =>
          obtain rfl : n = b := (HBN.out rfl).symm
          obtain ⟨Q0, Q1, Q2⟩ : W10.cell? ⟨Q, 0, none⟩ = some (.string m.nm) ∧ W10.cell? ⟨Q, 1, none⟩ = some (.slice Qa m.ps.length Qc) ∧ W10.cell? ⟨Q, 2, none⟩ = some (.slice Qb m.ks.length Qd) := ⟨HAQ.out.cell 0, HAQ.out.cell 1, HAQ.out.cell 2⟩
          obtain ⟨N0, N1, N2⟩ : W10.cell? ⟨N, 0, none⟩ = some (.string n.nm) ∧ W10.cell? ⟨N, 1, none⟩ = some (.slice Na n.ps.length Nc) ∧ W10.cell? ⟨N, 2, none⟩ = some (.slice Nb n.ks.length Nd) := ⟨HAN.out.cell 0, HAN.out.cell 1, HAN.out.cell 2⟩
          obtain ⟨B0, B1, B2⟩ : W10.cell? ⟨B, 0, none⟩ = some (.string n.nm) ∧ W10.cell? ⟨B, 1, none⟩ = some (.slice Ba n.ps.length Bc) ∧ W10.cell? ⟨B, 2, none⟩ = some (.slice Bb n.ks.length Bd) := ⟨HAB.out.cell 0, HAB.out.cell 1, HAB.out.cell 2⟩
          clear HBN
          have HSM := Lib.hid (fun W G G' u v u' v' (h : NdAt W G n u v) (h' : NdAt W G' n u' v') => rSame_any G G' n n u v u' v' W h h')
          rw [sameR_refl] at HSM
          go_wp2_with fail
          refine (HSM.out _ _ _ _ _ _ _ HNB.out HNN.out).mono ?_
          rintro e w8 ⟨rfl, hb⟩
          have HNN := Lib.hid (nd_below HNN.out hb)
          have HAN := Lib.hid (HAN.out.below hb HAN.out.lt)
          have HB := Lib.hid (HB.out.trans (hb.mono HB.out.size))
          clear hb HSM N0 N1 N2 Q0 Q1 Q2 B0 B1 B2
          go_upto_region 13 with fail
          clear dk dv HNQ HAQ HNB HAB
          obtain ⟨N0, N1, N2⟩ : w8.cell? ⟨N, 0, none⟩ = some (.string n.nm) ∧ w8.cell? ⟨N, 1, none⟩ = some (.slice Na n.ps.length Nc) ∧ w8.cell? ⟨N, 2, none⟩ = some (.slice Nb n.ks.length Nd) := ⟨HAN.out.cell 0, HAN.out.cell 1, HAN.out.cell 2⟩
          go_wp2_with fail
          refine (HAD.out _ _ HNN.out).mono ?_
          rintro e v1 ⟨u2, u3, rfl, hk, hb⟩
          obtain ⟨Oa, Ob, Oc, Od, rfl, rfl, _⟩ := nd_shape hk
          have hbn : Below v1.heap.size v1 (v1.alloc (.cells #[.string o.nm, .slice Oa o.ps.length Oc, .slice Ob o.ks.length Od] 25)) := (Below.refl _ _).alloc (Nat.le_refl _) _
          have hb := hb.trans (hbn.mono hb.size)
          have HNN := Lib.hid (nd_below HNN.out hb)
          have HAN := Lib.hid (HAN.out.below hb HAN.out.lt)
          have HB := Lib.hid (HB.out.trans (hb.mono HB.out.size))
          have HNO := Lib.hid (nd_below hk hbn)
          have HAO := Lib.hid (Arr.new v1 25 #[.string o.nm, .slice Oa o.ps.length Oc, .slice Ob o.ks.length Od])
          clear hb hbn hk N0 N1 N2 HAD
          go_upto_region 14 with fail
          generalize v1.alloc (.cells #[.string o.nm, .slice Oa o.ps.length Oc, .slice Ob o.ks.length Od] 25) = V1 at *
          generalize v1.heap.size = O at *
          by_cases h3 : e3 = 0
          · obtain ⟨k, hu, k2, k3, k4⟩ := HS3.out (by rw [h3])
            subst h3
            obtain ⟨P2, hP2⟩ : ∃ P2 : ByteArray, P2.data.toList = under p.data.toList ++ nm.data.toList := ⟨⟨(under p.data.toList ++ nm.data.toList).toArray⟩, by simp⟩
            rw [← hP2] at k2 k3
            have hP2l := hu nm.data.toList
            rw [← hP2] at hP2l
            have hP2z : P2.size ≤ 400 := by
              show P2.data.toList.length ≤ 400
              rw [hP2l]
              have z1 : p.data.toList.length = p.size := rfl
              have z2 : nm.data.toList.length = nm.size := rfl
              split
              · rw [List.length_append]; omega
              · rw [List.length_append, List.length_append, List.length_singleton]; omega
            obtain ⟨S1, hS1⟩ : ∃ S1 : ByteArray, S1.data.toList = p.data.toList ++ [47] := ⟨⟨(p.data.toList ++ [47]).toArray⟩, by simp⟩
            obtain ⟨S2, hS2⟩ : ∃ S2 : ByteArray, S2.data.toList = S1.data.toList ++ nm.data.toList := ⟨⟨(S1.data.toList ++ nm.data.toList).toArray⟩, by simp⟩
            have z1 : S1.size = p.size + 1 := by show S1.data.toList.length = _; rw [hS1, List.length_append]; rfl
            have a1 : ∀ W, (Op.stringOp .add p ⟨#[47]⟩).run Tryd.prog W = .ok (.string S1) W := fun W => add_str (by rw [hS1]) (by show p.size + 1 ≤ _; omega) W
            have a2 : ∀ W, (Op.stringOp .add S1 nm).run Tryd.prog W = .ok (.string S2) W := fun W => add_str hS2 (by omega) W
            have HFO : Hid (∀ W G y z, NdAt W G o y z → Calls Tryd.prog 13 #[.agg #[.string o.nm, y, z], .string P2] W fun e w' => ∃ u2 u3, e = .returned (.tuple #[.agg #[.string k.nm, u2, u3], .bool true]) ∧ NdAt w' G k u2 u3 ∧ Below W.heap.size W w') := fun W G y z h => by
              have := rfind_any G o y z P2 W (by omega) h
              rw [k2] at this
              exact this
            have HDR := Lib.hid (fun W G y z (h : NdAt W G o y z) => M.drop G o y z P2 W (sz_of_low k4) (by omega) h)
            rw [k3] at HDR
            have HSN := Lib.hid (fun W G G' u v u' v' (h : NdAt W G n u v) (h' : NdAt W G' n u' v') => rSame_any G G' n n u v u' v' W h h')
            rw [sameR_refl] at HSN
            by_cases hs : p = ⟨#[47]⟩
            · have ds : (p.toList == [47]) = true := by rw [hs, ByteArray.toList_eq]; decide
              have a3 : ∀ W, (Op.stringOp .add p nm).run Tryd.prog W = .ok (.string P2) W := fun W => add_str (by rw [hP2l, if_pos (by rw [hs])]) (by omega) W
              clear hs hu k2 k3 k4 HS3 hS1 hS2 hP2 hP2l hP2z z1
              go_upto_region 19 with fail
              clear a1 a2 ds a3
              obtain ⟨O0, O1, O2⟩ : V1.cell? ⟨O, 0, none⟩ = some (.string o.nm) ∧ V1.cell? ⟨O, 1, none⟩ = some (.slice Oa o.ps.length Oc) ∧ V1.cell? ⟨O, 2, none⟩ = some (.slice Ob o.ks.length Od) := ⟨HAO.out.cell 0, HAO.out.cell 1, HAO.out.cell 2⟩
              go_wp2_with fail
              refine (HFO.out _ _ _ _ HNO.out).mono ?_
              rintro e v2 ⟨u2, u3, rfl, hk, hb⟩
              obtain ⟨Ka, Kb, Kc, Kd, rfl, rfl, _⟩ := nd_shape hk
              have hbn : Below v2.heap.size v2 (v2.alloc (.cells #[.string k.nm, .slice Ka k.ps.length Kc, .slice Kb k.ks.length Kd] 25)) := (Below.refl _ _).alloc (Nat.le_refl _) _
              have hb := hb.trans (hbn.mono hb.size)
              have HNN := Lib.hid (nd_below HNN.out hb)
              have HAN := Lib.hid (HAN.out.below hb HAN.out.lt)
              have HNO := Lib.hid (nd_below HNO.out hb)
              have HAO := Lib.hid (HAO.out.below hb HAO.out.lt)
              have HB := Lib.hid (HB.out.trans (hb.mono HB.out.size))
              have HNK := Lib.hid (nd_below hk hbn)
              have HAK := Lib.hid (Arr.new v2 25 #[.string k.nm, .slice Ka k.ps.length Kc, .slice Kb k.ks.length Kd])
              clear hb hbn hk O0 O1 O2 HFO
              go_upto_region 20 with fail
              generalize v2.alloc (.cells #[.string k.nm, .slice Ka k.ps.length Kc, .slice Kb k.ks.length Kd] 25) = V2 at *
              generalize v2.heap.size = K at *
              obtain ⟨O0, O1, O2⟩ : V2.cell? ⟨O, 0, none⟩ = some (.string o.nm) ∧ V2.cell? ⟨O, 1, none⟩ = some (.slice Oa o.ps.length Oc) ∧ V2.cell? ⟨O, 2, none⟩ = some (.slice Ob o.ks.length Od) := ⟨HAO.out.cell 0, HAO.out.cell 1, HAO.out.cell 2⟩
              go_wp2_with fail
              refine (HDR.out _ _ _ _ HNO.out).mono ?_
              rintro e v3 ⟨u2, u3, rfl, hk, hb⟩
              obtain ⟨Da, Db, Dc, Dd, rfl, rfl, _⟩ := nd_shape hk
              have hbn : Below v3.heap.size v3 (v3.alloc (.cells #[.string n.nm, .slice Da n.ps.length Dc, .slice Db n.ks.length Dd] 25)) := (Below.refl _ _).alloc (Nat.le_refl _) _
              have hb := hb.trans (hbn.mono hb.size)
              have HNN := Lib.hid (nd_below HNN.out hb)
              have HAN := Lib.hid (HAN.out.below hb HAN.out.lt)
              have HB := Lib.hid (HB.out.trans (hb.mono HB.out.size))
              have HND := Lib.hid (nd_below hk hbn)
              have HAD := Lib.hid (Arr.new v3 25 #[.string n.nm, .slice Da n.ps.length Dc, .slice Db n.ks.length Dd])
              clear hb hbn hk O0 O1 O2 HDR HNK HAK HNO HAO
              go_upto_region 21 with fail
              generalize v3.alloc (.cells #[.string n.nm, .slice Da n.ps.length Dc, .slice Db n.ks.length Dd] 25) = V3 at *
              generalize v3.heap.size = D at *
              obtain ⟨D0, D1, D2⟩ : V3.cell? ⟨D, 0, none⟩ = some (.string n.nm) ∧ V3.cell? ⟨D, 1, none⟩ = some (.slice Da n.ps.length Dc) ∧ V3.cell? ⟨D, 2, none⟩ = some (.slice Db n.ks.length Dd) := ⟨HAD.out.cell 0, HAD.out.cell 1, HAD.out.cell 2⟩
              obtain ⟨N0, N1, N2⟩ : V3.cell? ⟨N, 0, none⟩ = some (.string n.nm) ∧ V3.cell? ⟨N, 1, none⟩ = some (.slice Na n.ps.length Nc) ∧ V3.cell? ⟨N, 2, none⟩ = some (.slice Nb n.ks.length Nd) := ⟨HAN.out.cell 0, HAN.out.cell 1, HAN.out.cell 2⟩
              go_wp2_with fail
              refine (HSN.out _ _ _ _ _ _ _ HND.out HNN.out).mono ?_
              rintro e v4 ⟨rfl, hb⟩
              have HB := Lib.hid (HB.out.trans (hb.mono HB.out.size))
              clear hb HSN HND HAD HNN HAN D0 D1 D2 N0 N1 N2
              go_wp2_with fail
              refine (HAW.out _).mono ?_
              rintro e w9 ⟨rfl, hb⟩
              have HB := Lib.hid (HB.out.trans (hb.mono HB.out.size))
              clear hb
              go_wp2
              go_ret
              exact ⟨rfl, HB.out⟩
            · have hs2 : p.data.toList ≠ [47] := fun e => hs (ba_eq_list e)
              have ds : (p.toList == [47]) = false := by rw [ByteArray.toList_eq]; simpa using hs2
              obtain rfl : P2 = S2 := by
                  have e : P2.data.toList = S2.data.toList := by rw [hP2l, if_neg hs2, hS2, hS1]
                  exact ba_eq_list e
              clear hs hs2 hu k2 k3 k4 HS3 hS1 hS2 hP2 hP2l hP2z z1
              go_upto_region 19 with fail
              clear a1 a2 ds
              obtain ⟨O0, O1, O2⟩ : V1.cell? ⟨O, 0, none⟩ = some (.string o.nm) ∧ V1.cell? ⟨O, 1, none⟩ = some (.slice Oa o.ps.length Oc) ∧ V1.cell? ⟨O, 2, none⟩ = some (.slice Ob o.ks.length Od) := ⟨HAO.out.cell 0, HAO.out.cell 1, HAO.out.cell 2⟩
              go_wp2_with fail
              refine (HFO.out _ _ _ _ HNO.out).mono ?_
              rintro e v2 ⟨u2, u3, rfl, hk, hb⟩
              obtain ⟨Ka, Kb, Kc, Kd, rfl, rfl, _⟩ := nd_shape hk
              have hbn : Below v2.heap.size v2 (v2.alloc (.cells #[.string k.nm, .slice Ka k.ps.length Kc, .slice Kb k.ks.length Kd] 25)) := (Below.refl _ _).alloc (Nat.le_refl _) _
              have hb := hb.trans (hbn.mono hb.size)
              have HNN := Lib.hid (nd_below HNN.out hb)
              have HAN := Lib.hid (HAN.out.below hb HAN.out.lt)
              have HNO := Lib.hid (nd_below HNO.out hb)
              have HAO := Lib.hid (HAO.out.below hb HAO.out.lt)
              have HB := Lib.hid (HB.out.trans (hb.mono HB.out.size))
              have HNK := Lib.hid (nd_below hk hbn)
              have HAK := Lib.hid (Arr.new v2 25 #[.string k.nm, .slice Ka k.ps.length Kc, .slice Kb k.ks.length Kd])
              clear hb hbn hk O0 O1 O2 HFO
              go_upto_region 20 with fail
              generalize v2.alloc (.cells #[.string k.nm, .slice Ka k.ps.length Kc, .slice Kb k.ks.length Kd] 25) = V2 at *
              generalize v2.heap.size = K at *
              obtain ⟨O0, O1, O2⟩ : V2.cell? ⟨O, 0, none⟩ = some (.string o.nm) ∧ V2.cell? ⟨O, 1, none⟩ = some (.slice Oa o.ps.length Oc) ∧ V2.cell? ⟨O, 2, none⟩ = some (.slice Ob o.ks.length Od) := ⟨HAO.out.cell 0, HAO.out.cell 1, HAO.out.cell 2⟩
              go_wp2_with fail
              refine (HDR.out _ _ _ _ HNO.out).mono ?_
              rintro e v3 ⟨u2, u3, rfl, hk, hb⟩
              obtain ⟨Da, Db, Dc, Dd, rfl, rfl, _⟩ := nd_shape hk
              have hbn : Below v3.heap.size v3 (v3.alloc (.cells #[.string n.nm, .slice Da n.ps.length Dc, .slice Db n.ks.length Dd] 25)) := (Below.refl _ _).alloc (Nat.le_refl _) _
              have hb := hb.trans (hbn.mono hb.size)
              have HNN := Lib.hid (nd_below HNN.out hb)
              have HAN := Lib.hid (HAN.out.below hb HAN.out.lt)
              have HB := Lib.hid (HB.out.trans (hb.mono HB.out.size))
              have HND := Lib.hid (nd_below hk hbn)
              have HAD := Lib.hid (Arr.new v3 25 #[.string n.nm, .slice Da n.ps.length Dc, .slice Db n.ks.length Dd])
              clear hb hbn hk O0 O1 O2 HDR HNK HAK HNO HAO
              go_upto_region 21 with fail
              generalize v3.alloc (.cells #[.string n.nm, .slice Da n.ps.length Dc, .slice Db n.ks.length Dd] 25) = V3 at *
              generalize v3.heap.size = D at *
              obtain ⟨D0, D1, D2⟩ : V3.cell? ⟨D, 0, none⟩ = some (.string n.nm) ∧ V3.cell? ⟨D, 1, none⟩ = some (.slice Da n.ps.length Dc) ∧ V3.cell? ⟨D, 2, none⟩ = some (.slice Db n.ks.length Dd) := ⟨HAD.out.cell 0, HAD.out.cell 1, HAD.out.cell 2⟩
              obtain ⟨N0, N1, N2⟩ : V3.cell? ⟨N, 0, none⟩ = some (.string n.nm) ∧ V3.cell? ⟨N, 1, none⟩ = some (.slice Na n.ps.length Nc) ∧ V3.cell? ⟨N, 2, none⟩ = some (.slice Nb n.ks.length Nd) := ⟨HAN.out.cell 0, HAN.out.cell 1, HAN.out.cell 2⟩
              go_wp2_with fail
              refine (HSN.out _ _ _ _ _ _ _ HND.out HNN.out).mono ?_
              rintro e v4 ⟨rfl, hb⟩
              have HB := Lib.hid (HB.out.trans (hb.mono HB.out.size))
              clear hb HSN HND HAD HNN HAN D0 D1 D2 N0 N1 N2
              go_wp2_with fail
              refine (HAW.out _).mono ?_
              rintro e w9 ⟨rfl, hb⟩
              have HB := Lib.hid (HB.out.trans (hb.mono HB.out.size))
              clear hb
              go_wp2
              go_ret
              exact ⟨rfl, HB.out⟩
          · have dg : (((e3 : Nat) : Int) != 0) = true := by simp; omega
            clear h3 HS3 HNN HAN HNO HAO
            go_wp2_with fail
            refine (HAW.out _).mono ?_
            rintro e w9 ⟨rfl, hb⟩
            have HB := Lib.hid (HB.out.trans (hb.mono HB.out.size))
            clear hb
            go_wp2
            go_ret
            exact ⟨rfl, HB.out⟩
      · have d0 : (((e1 : Nat) : Int) == 0) = false := by simp; omega
        have HNE := Lib.hid h0
        clear h0 HS1
        have hd8 : (((e1 : Nat) : Int) != 8) = true ∨ (bo = false ∧ (((e1 : Nat) : Int) != 8) = false) := by
          have h8 := HS8.out
          cases bo with
          | true => exact .inl (by have := h8 rfl; simp; omega)
          | false =>
            cases h : (((e1 : Nat) : Int) != 8) with
            | true => exact .inl rfl
            | false => exact .inr ⟨rfl, rfl⟩
        clear HS8
        rcases hd8 with d8 | ⟨rfl, d8⟩
        · skip
          go_upto_region 13 with fail
          clear d0 HNX HAX HNQ HAQ
          obtain ⟨N0, N1, N2⟩ : W6.cell? ⟨N, 0, none⟩ = some (.string n.nm) ∧ W6.cell? ⟨N, 1, none⟩ = some (.slice Na n.ps.length Nc) ∧ W6.cell? ⟨N, 2, none⟩ = some (.slice Nb n.ks.length Nd) := ⟨HAN.out.cell 0, HAN.out.cell 1, HAN.out.cell 2⟩
          go_wp2_with fail
          refine (HAD.out _ _ HNN.out).mono ?_
          rintro e v1 ⟨u2, u3, rfl, hk, hb⟩
          obtain ⟨Oa, Ob, Oc, Od, rfl, rfl, _⟩ := nd_shape hk
          have hbn : Below v1.heap.size v1 (v1.alloc (.cells #[.string o.nm, .slice Oa o.ps.length Oc, .slice Ob o.ks.length Od] 25)) := (Below.refl _ _).alloc (Nat.le_refl _) _
          have hb := hb.trans (hbn.mono hb.size)
          have HNN := Lib.hid (nd_below HNN.out hb)
          have HAN := Lib.hid (HAN.out.below hb HAN.out.lt)
          have HB := Lib.hid (HB.out.trans (hb.mono HB.out.size))
          have HNO := Lib.hid (nd_below hk hbn)
          have HAO := Lib.hid (Arr.new v1 25 #[.string o.nm, .slice Oa o.ps.length Oc, .slice Ob o.ks.length Od])
          clear hb hbn hk N0 N1 N2 HAD
          go_upto_region 14 with fail
          generalize v1.alloc (.cells #[.string o.nm, .slice Oa o.ps.length Oc, .slice Ob o.ks.length Od] 25) = V1 at *
          generalize v1.heap.size = O at *
          by_cases h3 : e3 = 0
          · obtain ⟨k, hu, k2, k3, k4⟩ := HS3.out (by rw [h3])
            subst h3
            obtain ⟨P2, hP2⟩ : ∃ P2 : ByteArray, P2.data.toList = under p.data.toList ++ nm.data.toList := ⟨⟨(under p.data.toList ++ nm.data.toList).toArray⟩, by simp⟩
            rw [← hP2] at k2 k3
            have hP2l := hu nm.data.toList
            rw [← hP2] at hP2l
            have hP2z : P2.size ≤ 400 := by
              show P2.data.toList.length ≤ 400
              rw [hP2l]
              have z1 : p.data.toList.length = p.size := rfl
              have z2 : nm.data.toList.length = nm.size := rfl
              split
              · rw [List.length_append]; omega
              · rw [List.length_append, List.length_append, List.length_singleton]; omega
            obtain ⟨S1, hS1⟩ : ∃ S1 : ByteArray, S1.data.toList = p.data.toList ++ [47] := ⟨⟨(p.data.toList ++ [47]).toArray⟩, by simp⟩
            obtain ⟨S2, hS2⟩ : ∃ S2 : ByteArray, S2.data.toList = S1.data.toList ++ nm.data.toList := ⟨⟨(S1.data.toList ++ nm.data.toList).toArray⟩, by simp⟩
            have z1 : S1.size = p.size + 1 := by show S1.data.toList.length = _; rw [hS1, List.length_append]; rfl
            have a1 : ∀ W, (Op.stringOp .add p ⟨#[47]⟩).run Tryd.prog W = .ok (.string S1) W := fun W => add_str (by rw [hS1]) (by show p.size + 1 ≤ _; omega) W
            have a2 : ∀ W, (Op.stringOp .add S1 nm).run Tryd.prog W = .ok (.string S2) W := fun W => add_str hS2 (by omega) W
            have HFO : Hid (∀ W G y z, NdAt W G o y z → Calls Tryd.prog 13 #[.agg #[.string o.nm, y, z], .string P2] W fun e w' => ∃ u2 u3, e = .returned (.tuple #[.agg #[.string k.nm, u2, u3], .bool true]) ∧ NdAt w' G k u2 u3 ∧ Below W.heap.size W w') := fun W G y z h => by
              have := rfind_any G o y z P2 W (by omega) h
              rw [k2] at this
              exact this
            have HDR := Lib.hid (fun W G y z (h : NdAt W G o y z) => M.drop G o y z P2 W (sz_of_low k4) (by omega) h)
            rw [k3] at HDR
            have HSN := Lib.hid (fun W G G' u v u' v' (h : NdAt W G n u v) (h' : NdAt W G' n u' v') => rSame_any G G' n n u v u' v' W h h')
            rw [sameR_refl] at HSN
            by_cases hs : p = ⟨#[47]⟩
            · have ds : (p.toList == [47]) = true := by rw [hs, ByteArray.toList_eq]; decide
              have a3 : ∀ W, (Op.stringOp .add p nm).run Tryd.prog W = .ok (.string P2) W := fun W => add_str (by rw [hP2l, if_pos (by rw [hs])]) (by omega) W
              clear hs hu k2 k3 k4 HS3 hS1 hS2 hP2 hP2l hP2z z1
              go_upto_region 19 with fail
              clear a1 a2 ds a3
              obtain ⟨O0, O1, O2⟩ : V1.cell? ⟨O, 0, none⟩ = some (.string o.nm) ∧ V1.cell? ⟨O, 1, none⟩ = some (.slice Oa o.ps.length Oc) ∧ V1.cell? ⟨O, 2, none⟩ = some (.slice Ob o.ks.length Od) := ⟨HAO.out.cell 0, HAO.out.cell 1, HAO.out.cell 2⟩
              go_wp2_with fail
              refine (HFO.out _ _ _ _ HNO.out).mono ?_
              rintro e v2 ⟨u2, u3, rfl, hk, hb⟩
              obtain ⟨Ka, Kb, Kc, Kd, rfl, rfl, _⟩ := nd_shape hk
              have hbn : Below v2.heap.size v2 (v2.alloc (.cells #[.string k.nm, .slice Ka k.ps.length Kc, .slice Kb k.ks.length Kd] 25)) := (Below.refl _ _).alloc (Nat.le_refl _) _
              have hb := hb.trans (hbn.mono hb.size)
              have HNN := Lib.hid (nd_below HNN.out hb)
              have HAN := Lib.hid (HAN.out.below hb HAN.out.lt)
              have HNO := Lib.hid (nd_below HNO.out hb)
              have HAO := Lib.hid (HAO.out.below hb HAO.out.lt)
              have HB := Lib.hid (HB.out.trans (hb.mono HB.out.size))
              have HNK := Lib.hid (nd_below hk hbn)
              have HAK := Lib.hid (Arr.new v2 25 #[.string k.nm, .slice Ka k.ps.length Kc, .slice Kb k.ks.length Kd])
              clear hb hbn hk O0 O1 O2 HFO
              go_upto_region 20 with fail
              generalize v2.alloc (.cells #[.string k.nm, .slice Ka k.ps.length Kc, .slice Kb k.ks.length Kd] 25) = V2 at *
              generalize v2.heap.size = K at *
              obtain ⟨O0, O1, O2⟩ : V2.cell? ⟨O, 0, none⟩ = some (.string o.nm) ∧ V2.cell? ⟨O, 1, none⟩ = some (.slice Oa o.ps.length Oc) ∧ V2.cell? ⟨O, 2, none⟩ = some (.slice Ob o.ks.length Od) := ⟨HAO.out.cell 0, HAO.out.cell 1, HAO.out.cell 2⟩
              go_wp2_with fail
              refine (HDR.out _ _ _ _ HNO.out).mono ?_
              rintro e v3 ⟨u2, u3, rfl, hk, hb⟩
              obtain ⟨Da, Db, Dc, Dd, rfl, rfl, _⟩ := nd_shape hk
              have hbn : Below v3.heap.size v3 (v3.alloc (.cells #[.string n.nm, .slice Da n.ps.length Dc, .slice Db n.ks.length Dd] 25)) := (Below.refl _ _).alloc (Nat.le_refl _) _
              have hb := hb.trans (hbn.mono hb.size)
              have HNN := Lib.hid (nd_below HNN.out hb)
              have HAN := Lib.hid (HAN.out.below hb HAN.out.lt)
              have HB := Lib.hid (HB.out.trans (hb.mono HB.out.size))
              have HND := Lib.hid (nd_below hk hbn)
              have HAD := Lib.hid (Arr.new v3 25 #[.string n.nm, .slice Da n.ps.length Dc, .slice Db n.ks.length Dd])
              clear hb hbn hk O0 O1 O2 HDR HNK HAK HNO HAO
              go_upto_region 21 with fail
              generalize v3.alloc (.cells #[.string n.nm, .slice Da n.ps.length Dc, .slice Db n.ks.length Dd] 25) = V3 at *
              generalize v3.heap.size = D at *
              obtain ⟨D0, D1, D2⟩ : V3.cell? ⟨D, 0, none⟩ = some (.string n.nm) ∧ V3.cell? ⟨D, 1, none⟩ = some (.slice Da n.ps.length Dc) ∧ V3.cell? ⟨D, 2, none⟩ = some (.slice Db n.ks.length Dd) := ⟨HAD.out.cell 0, HAD.out.cell 1, HAD.out.cell 2⟩
              obtain ⟨N0, N1, N2⟩ : V3.cell? ⟨N, 0, none⟩ = some (.string n.nm) ∧ V3.cell? ⟨N, 1, none⟩ = some (.slice Na n.ps.length Nc) ∧ V3.cell? ⟨N, 2, none⟩ = some (.slice Nb n.ks.length Nd) := ⟨HAN.out.cell 0, HAN.out.cell 1, HAN.out.cell 2⟩
              go_wp2_with fail
              refine (HSN.out _ _ _ _ _ _ _ HND.out HNN.out).mono ?_
              rintro e v4 ⟨rfl, hb⟩
              have HB := Lib.hid (HB.out.trans (hb.mono HB.out.size))
              clear hb HSN HND HAD HNN HAN D0 D1 D2 N0 N1 N2
              go_wp2_with fail
              refine (HAW.out _).mono ?_
              rintro e w9 ⟨rfl, hb⟩
              have HB := Lib.hid (HB.out.trans (hb.mono HB.out.size))
              clear hb
              go_wp2
              go_ret
              exact ⟨rfl, HB.out⟩
            · have hs2 : p.data.toList ≠ [47] := fun e => hs (ba_eq_list e)
              have ds : (p.toList == [47]) = false := by rw [ByteArray.toList_eq]; simpa using hs2
              obtain rfl : P2 = S2 := by
                  have e : P2.data.toList = S2.data.toList := by rw [hP2l, if_neg hs2, hS2, hS1]
                  exact ba_eq_list e
              clear hs hs2 hu k2 k3 k4 HS3 hS1 hS2 hP2 hP2l hP2z z1
              go_upto_region 19 with fail
              clear a1 a2 ds
              obtain ⟨O0, O1, O2⟩ : V1.cell? ⟨O, 0, none⟩ = some (.string o.nm) ∧ V1.cell? ⟨O, 1, none⟩ = some (.slice Oa o.ps.length Oc) ∧ V1.cell? ⟨O, 2, none⟩ = some (.slice Ob o.ks.length Od) := ⟨HAO.out.cell 0, HAO.out.cell 1, HAO.out.cell 2⟩
              go_wp2_with fail
              refine (HFO.out _ _ _ _ HNO.out).mono ?_
              rintro e v2 ⟨u2, u3, rfl, hk, hb⟩
              obtain ⟨Ka, Kb, Kc, Kd, rfl, rfl, _⟩ := nd_shape hk
              have hbn : Below v2.heap.size v2 (v2.alloc (.cells #[.string k.nm, .slice Ka k.ps.length Kc, .slice Kb k.ks.length Kd] 25)) := (Below.refl _ _).alloc (Nat.le_refl _) _
              have hb := hb.trans (hbn.mono hb.size)
              have HNN := Lib.hid (nd_below HNN.out hb)
              have HAN := Lib.hid (HAN.out.below hb HAN.out.lt)
              have HNO := Lib.hid (nd_below HNO.out hb)
              have HAO := Lib.hid (HAO.out.below hb HAO.out.lt)
              have HB := Lib.hid (HB.out.trans (hb.mono HB.out.size))
              have HNK := Lib.hid (nd_below hk hbn)
              have HAK := Lib.hid (Arr.new v2 25 #[.string k.nm, .slice Ka k.ps.length Kc, .slice Kb k.ks.length Kd])
              clear hb hbn hk O0 O1 O2 HFO
              go_upto_region 20 with fail
              generalize v2.alloc (.cells #[.string k.nm, .slice Ka k.ps.length Kc, .slice Kb k.ks.length Kd] 25) = V2 at *
              generalize v2.heap.size = K at *
              obtain ⟨O0, O1, O2⟩ : V2.cell? ⟨O, 0, none⟩ = some (.string o.nm) ∧ V2.cell? ⟨O, 1, none⟩ = some (.slice Oa o.ps.length Oc) ∧ V2.cell? ⟨O, 2, none⟩ = some (.slice Ob o.ks.length Od) := ⟨HAO.out.cell 0, HAO.out.cell 1, HAO.out.cell 2⟩
              go_wp2_with fail
              refine (HDR.out _ _ _ _ HNO.out).mono ?_
              rintro e v3 ⟨u2, u3, rfl, hk, hb⟩
              obtain ⟨Da, Db, Dc, Dd, rfl, rfl, _⟩ := nd_shape hk
              have hbn : Below v3.heap.size v3 (v3.alloc (.cells #[.string n.nm, .slice Da n.ps.length Dc, .slice Db n.ks.length Dd] 25)) := (Below.refl _ _).alloc (Nat.le_refl _) _
              have hb := hb.trans (hbn.mono hb.size)
              have HNN := Lib.hid (nd_below HNN.out hb)
              have HAN := Lib.hid (HAN.out.below hb HAN.out.lt)
              have HB := Lib.hid (HB.out.trans (hb.mono HB.out.size))
              have HND := Lib.hid (nd_below hk hbn)
              have HAD := Lib.hid (Arr.new v3 25 #[.string n.nm, .slice Da n.ps.length Dc, .slice Db n.ks.length Dd])
              clear hb hbn hk O0 O1 O2 HDR HNK HAK HNO HAO
              go_upto_region 21 with fail
              generalize v3.alloc (.cells #[.string n.nm, .slice Da n.ps.length Dc, .slice Db n.ks.length Dd] 25) = V3 at *
              generalize v3.heap.size = D at *
              obtain ⟨D0, D1, D2⟩ : V3.cell? ⟨D, 0, none⟩ = some (.string n.nm) ∧ V3.cell? ⟨D, 1, none⟩ = some (.slice Da n.ps.length Dc) ∧ V3.cell? ⟨D, 2, none⟩ = some (.slice Db n.ks.length Dd) := ⟨HAD.out.cell 0, HAD.out.cell 1, HAD.out.cell 2⟩
              obtain ⟨N0, N1, N2⟩ : V3.cell? ⟨N, 0, none⟩ = some (.string n.nm) ∧ V3.cell? ⟨N, 1, none⟩ = some (.slice Na n.ps.length Nc) ∧ V3.cell? ⟨N, 2, none⟩ = some (.slice Nb n.ks.length Nd) := ⟨HAN.out.cell 0, HAN.out.cell 1, HAN.out.cell 2⟩
              go_wp2_with fail
              refine (HSN.out _ _ _ _ _ _ _ HND.out HNN.out).mono ?_
              rintro e v4 ⟨rfl, hb⟩
              have HB := Lib.hid (HB.out.trans (hb.mono HB.out.size))
              clear hb HSN HND HAD HNN HAN D0 D1 D2 N0 N1 N2
              go_wp2_with fail
              refine (HAW.out _).mono ?_
              rintro e w9 ⟨rfl, hb⟩
              have HB := Lib.hid (HB.out.trans (hb.mono HB.out.size))
              clear hb
              go_wp2
              go_ret
              exact ⟨rfl, HB.out⟩
          · have dg : (((e3 : Nat) : Int) != 0) = true := by simp; omega
            clear h3 HS3 HNN HAN HNO HAO
            go_wp2_with fail
            refine (HAW.out _).mono ?_
            rintro e w9 ⟨rfl, hb⟩
            have HB := Lib.hid (HB.out.trans (hb.mono HB.out.size))
            clear hb
            go_wp2
            go_ret
            exact ⟨rfl, HB.out⟩
        · skip
          go_upto_region 13 with fail
          clear d0 HNX HAX HNQ HAQ
          obtain ⟨N0, N1, N2⟩ : W6.cell? ⟨N, 0, none⟩ = some (.string n.nm) ∧ W6.cell? ⟨N, 1, none⟩ = some (.slice Na n.ps.length Nc) ∧ W6.cell? ⟨N, 2, none⟩ = some (.slice Nb n.ks.length Nd) := ⟨HAN.out.cell 0, HAN.out.cell 1, HAN.out.cell 2⟩
          go_wp2_with fail
          refine (HAD.out _ _ HNN.out).mono ?_
          rintro e v1 ⟨u2, u3, rfl, hk, hb⟩
          obtain ⟨Oa, Ob, Oc, Od, rfl, rfl, _⟩ := nd_shape hk
          have hbn : Below v1.heap.size v1 (v1.alloc (.cells #[.string o.nm, .slice Oa o.ps.length Oc, .slice Ob o.ks.length Od] 25)) := (Below.refl _ _).alloc (Nat.le_refl _) _
          have hb := hb.trans (hbn.mono hb.size)
          have HNN := Lib.hid (nd_below HNN.out hb)
          have HAN := Lib.hid (HAN.out.below hb HAN.out.lt)
          have HB := Lib.hid (HB.out.trans (hb.mono HB.out.size))
          have HNO := Lib.hid (nd_below hk hbn)
          have HAO := Lib.hid (Arr.new v1 25 #[.string o.nm, .slice Oa o.ps.length Oc, .slice Ob o.ks.length Od])
          clear hb hbn hk N0 N1 N2 HAD
          go_upto_region 14 with fail
          generalize v1.alloc (.cells #[.string o.nm, .slice Oa o.ps.length Oc, .slice Ob o.ks.length Od] 25) = V1 at *
          generalize v1.heap.size = O at *
          by_cases h3 : e3 = 0
          · obtain ⟨k, hu, k2, k3, k4⟩ := HS3.out (by rw [h3])
            subst h3
            obtain ⟨P2, hP2⟩ : ∃ P2 : ByteArray, P2.data.toList = under p.data.toList ++ nm.data.toList := ⟨⟨(under p.data.toList ++ nm.data.toList).toArray⟩, by simp⟩
            rw [← hP2] at k2 k3
            have hP2l := hu nm.data.toList
            rw [← hP2] at hP2l
            have hP2z : P2.size ≤ 400 := by
              show P2.data.toList.length ≤ 400
              rw [hP2l]
              have z1 : p.data.toList.length = p.size := rfl
              have z2 : nm.data.toList.length = nm.size := rfl
              split
              · rw [List.length_append]; omega
              · rw [List.length_append, List.length_append, List.length_singleton]; omega
            obtain ⟨S1, hS1⟩ : ∃ S1 : ByteArray, S1.data.toList = p.data.toList ++ [47] := ⟨⟨(p.data.toList ++ [47]).toArray⟩, by simp⟩
            obtain ⟨S2, hS2⟩ : ∃ S2 : ByteArray, S2.data.toList = S1.data.toList ++ nm.data.toList := ⟨⟨(S1.data.toList ++ nm.data.toList).toArray⟩, by simp⟩
            have z1 : S1.size = p.size + 1 := by show S1.data.toList.length = _; rw [hS1, List.length_append]; rfl
            have a1 : ∀ W, (Op.stringOp .add p ⟨#[47]⟩).run Tryd.prog W = .ok (.string S1) W := fun W => add_str (by rw [hS1]) (by show p.size + 1 ≤ _; omega) W
            have a2 : ∀ W, (Op.stringOp .add S1 nm).run Tryd.prog W = .ok (.string S2) W := fun W => add_str hS2 (by omega) W
            have HFO : Hid (∀ W G y z, NdAt W G o y z → Calls Tryd.prog 13 #[.agg #[.string o.nm, y, z], .string P2] W fun e w' => ∃ u2 u3, e = .returned (.tuple #[.agg #[.string k.nm, u2, u3], .bool true]) ∧ NdAt w' G k u2 u3 ∧ Below W.heap.size W w') := fun W G y z h => by
              have := rfind_any G o y z P2 W (by omega) h
              rw [k2] at this
              exact this
            have HDR := Lib.hid (fun W G y z (h : NdAt W G o y z) => M.drop G o y z P2 W (sz_of_low k4) (by omega) h)
            rw [k3] at HDR
            have HSN := Lib.hid (fun W G G' u v u' v' (h : NdAt W G n u v) (h' : NdAt W G' n u' v') => rSame_any G G' n n u v u' v' W h h')
            rw [sameR_refl] at HSN
            by_cases hs : p = ⟨#[47]⟩
            · have ds : (p.toList == [47]) = true := by rw [hs, ByteArray.toList_eq]; decide
              have a3 : ∀ W, (Op.stringOp .add p nm).run Tryd.prog W = .ok (.string P2) W := fun W => add_str (by rw [hP2l, if_pos (by rw [hs])]) (by omega) W
              clear hs hu k2 k3 k4 HS3 hS1 hS2 hP2 hP2l hP2z z1
              go_upto_region 19 with fail
              clear a1 a2 ds a3
              obtain ⟨O0, O1, O2⟩ : V1.cell? ⟨O, 0, none⟩ = some (.string o.nm) ∧ V1.cell? ⟨O, 1, none⟩ = some (.slice Oa o.ps.length Oc) ∧ V1.cell? ⟨O, 2, none⟩ = some (.slice Ob o.ks.length Od) := ⟨HAO.out.cell 0, HAO.out.cell 1, HAO.out.cell 2⟩
              go_wp2_with fail
              refine (HFO.out _ _ _ _ HNO.out).mono ?_
              rintro e v2 ⟨u2, u3, rfl, hk, hb⟩
              obtain ⟨Ka, Kb, Kc, Kd, rfl, rfl, _⟩ := nd_shape hk
              have hbn : Below v2.heap.size v2 (v2.alloc (.cells #[.string k.nm, .slice Ka k.ps.length Kc, .slice Kb k.ks.length Kd] 25)) := (Below.refl _ _).alloc (Nat.le_refl _) _
              have hb := hb.trans (hbn.mono hb.size)
              have HNN := Lib.hid (nd_below HNN.out hb)
              have HAN := Lib.hid (HAN.out.below hb HAN.out.lt)
              have HNO := Lib.hid (nd_below HNO.out hb)
              have HAO := Lib.hid (HAO.out.below hb HAO.out.lt)
              have HB := Lib.hid (HB.out.trans (hb.mono HB.out.size))
              have HNK := Lib.hid (nd_below hk hbn)
              have HAK := Lib.hid (Arr.new v2 25 #[.string k.nm, .slice Ka k.ps.length Kc, .slice Kb k.ks.length Kd])
              clear hb hbn hk O0 O1 O2 HFO
              go_upto_region 20 with fail
              generalize v2.alloc (.cells #[.string k.nm, .slice Ka k.ps.length Kc, .slice Kb k.ks.length Kd] 25) = V2 at *
              generalize v2.heap.size = K at *
              obtain ⟨O0, O1, O2⟩ : V2.cell? ⟨O, 0, none⟩ = some (.string o.nm) ∧ V2.cell? ⟨O, 1, none⟩ = some (.slice Oa o.ps.length Oc) ∧ V2.cell? ⟨O, 2, none⟩ = some (.slice Ob o.ks.length Od) := ⟨HAO.out.cell 0, HAO.out.cell 1, HAO.out.cell 2⟩
              go_wp2_with fail
              refine (HDR.out _ _ _ _ HNO.out).mono ?_
              rintro e v3 ⟨u2, u3, rfl, hk, hb⟩
              obtain ⟨Da, Db, Dc, Dd, rfl, rfl, _⟩ := nd_shape hk
              have hbn : Below v3.heap.size v3 (v3.alloc (.cells #[.string n.nm, .slice Da n.ps.length Dc, .slice Db n.ks.length Dd] 25)) := (Below.refl _ _).alloc (Nat.le_refl _) _
              have hb := hb.trans (hbn.mono hb.size)
              have HNN := Lib.hid (nd_below HNN.out hb)
              have HAN := Lib.hid (HAN.out.below hb HAN.out.lt)
              have HB := Lib.hid (HB.out.trans (hb.mono HB.out.size))
              have HND := Lib.hid (nd_below hk hbn)
              have HAD := Lib.hid (Arr.new v3 25 #[.string n.nm, .slice Da n.ps.length Dc, .slice Db n.ks.length Dd])
              clear hb hbn hk O0 O1 O2 HDR HNK HAK HNO HAO
              go_upto_region 21 with fail
              generalize v3.alloc (.cells #[.string n.nm, .slice Da n.ps.length Dc, .slice Db n.ks.length Dd] 25) = V3 at *
              generalize v3.heap.size = D at *
              obtain ⟨D0, D1, D2⟩ : V3.cell? ⟨D, 0, none⟩ = some (.string n.nm) ∧ V3.cell? ⟨D, 1, none⟩ = some (.slice Da n.ps.length Dc) ∧ V3.cell? ⟨D, 2, none⟩ = some (.slice Db n.ks.length Dd) := ⟨HAD.out.cell 0, HAD.out.cell 1, HAD.out.cell 2⟩
              obtain ⟨N0, N1, N2⟩ : V3.cell? ⟨N, 0, none⟩ = some (.string n.nm) ∧ V3.cell? ⟨N, 1, none⟩ = some (.slice Na n.ps.length Nc) ∧ V3.cell? ⟨N, 2, none⟩ = some (.slice Nb n.ks.length Nd) := ⟨HAN.out.cell 0, HAN.out.cell 1, HAN.out.cell 2⟩
              go_wp2_with fail
              refine (HSN.out _ _ _ _ _ _ _ HND.out HNN.out).mono ?_
              rintro e v4 ⟨rfl, hb⟩
              have HB := Lib.hid (HB.out.trans (hb.mono HB.out.size))
              clear hb HSN HND HAD HNN HAN D0 D1 D2 N0 N1 N2
              go_wp2_with fail
              refine (HAW.out _).mono ?_
              rintro e w9 ⟨rfl, hb⟩
              have HB := Lib.hid (HB.out.trans (hb.mono HB.out.size))
              clear hb
              go_wp2
              go_ret
              exact ⟨rfl, HB.out⟩
            · have hs2 : p.data.toList ≠ [47] := fun e => hs (ba_eq_list e)
              have ds : (p.toList == [47]) = false := by rw [ByteArray.toList_eq]; simpa using hs2
              obtain rfl : P2 = S2 := by
                  have e : P2.data.toList = S2.data.toList := by rw [hP2l, if_neg hs2, hS2, hS1]
                  exact ba_eq_list e
              clear hs hs2 hu k2 k3 k4 HS3 hS1 hS2 hP2 hP2l hP2z z1
              go_upto_region 19 with fail
              clear a1 a2 ds
              obtain ⟨O0, O1, O2⟩ : V1.cell? ⟨O, 0, none⟩ = some (.string o.nm) ∧ V1.cell? ⟨O, 1, none⟩ = some (.slice Oa o.ps.length Oc) ∧ V1.cell? ⟨O, 2, none⟩ = some (.slice Ob o.ks.length Od) := ⟨HAO.out.cell 0, HAO.out.cell 1, HAO.out.cell 2⟩
              go_wp2_with fail
              refine (HFO.out _ _ _ _ HNO.out).mono ?_
              rintro e v2 ⟨u2, u3, rfl, hk, hb⟩
              obtain ⟨Ka, Kb, Kc, Kd, rfl, rfl, _⟩ := nd_shape hk
              have hbn : Below v2.heap.size v2 (v2.alloc (.cells #[.string k.nm, .slice Ka k.ps.length Kc, .slice Kb k.ks.length Kd] 25)) := (Below.refl _ _).alloc (Nat.le_refl _) _
              have hb := hb.trans (hbn.mono hb.size)
              have HNN := Lib.hid (nd_below HNN.out hb)
              have HAN := Lib.hid (HAN.out.below hb HAN.out.lt)
              have HNO := Lib.hid (nd_below HNO.out hb)
              have HAO := Lib.hid (HAO.out.below hb HAO.out.lt)
              have HB := Lib.hid (HB.out.trans (hb.mono HB.out.size))
              have HNK := Lib.hid (nd_below hk hbn)
              have HAK := Lib.hid (Arr.new v2 25 #[.string k.nm, .slice Ka k.ps.length Kc, .slice Kb k.ks.length Kd])
              clear hb hbn hk O0 O1 O2 HFO
              go_upto_region 20 with fail
              generalize v2.alloc (.cells #[.string k.nm, .slice Ka k.ps.length Kc, .slice Kb k.ks.length Kd] 25) = V2 at *
              generalize v2.heap.size = K at *
              obtain ⟨O0, O1, O2⟩ : V2.cell? ⟨O, 0, none⟩ = some (.string o.nm) ∧ V2.cell? ⟨O, 1, none⟩ = some (.slice Oa o.ps.length Oc) ∧ V2.cell? ⟨O, 2, none⟩ = some (.slice Ob o.ks.length Od) := ⟨HAO.out.cell 0, HAO.out.cell 1, HAO.out.cell 2⟩
              go_wp2_with fail
              refine (HDR.out _ _ _ _ HNO.out).mono ?_
              rintro e v3 ⟨u2, u3, rfl, hk, hb⟩
              obtain ⟨Da, Db, Dc, Dd, rfl, rfl, _⟩ := nd_shape hk
              have hbn : Below v3.heap.size v3 (v3.alloc (.cells #[.string n.nm, .slice Da n.ps.length Dc, .slice Db n.ks.length Dd] 25)) := (Below.refl _ _).alloc (Nat.le_refl _) _
              have hb := hb.trans (hbn.mono hb.size)
              have HNN := Lib.hid (nd_below HNN.out hb)
              have HAN := Lib.hid (HAN.out.below hb HAN.out.lt)
              have HB := Lib.hid (HB.out.trans (hb.mono HB.out.size))
              have HND := Lib.hid (nd_below hk hbn)
              have HAD := Lib.hid (Arr.new v3 25 #[.string n.nm, .slice Da n.ps.length Dc, .slice Db n.ks.length Dd])
              clear hb hbn hk O0 O1 O2 HDR HNK HAK HNO HAO
              go_upto_region 21 with fail
              generalize v3.alloc (.cells #[.string n.nm, .slice Da n.ps.length Dc, .slice Db n.ks.length Dd] 25) = V3 at *
              generalize v3.heap.size = D at *
              obtain ⟨D0, D1, D2⟩ : V3.cell? ⟨D, 0, none⟩ = some (.string n.nm) ∧ V3.cell? ⟨D, 1, none⟩ = some (.slice Da n.ps.length Dc) ∧ V3.cell? ⟨D, 2, none⟩ = some (.slice Db n.ks.length Dd) := ⟨HAD.out.cell 0, HAD.out.cell 1, HAD.out.cell 2⟩
              obtain ⟨N0, N1, N2⟩ : V3.cell? ⟨N, 0, none⟩ = some (.string n.nm) ∧ V3.cell? ⟨N, 1, none⟩ = some (.slice Na n.ps.length Nc) ∧ V3.cell? ⟨N, 2, none⟩ = some (.slice Nb n.ks.length Nd) := ⟨HAN.out.cell 0, HAN.out.cell 1, HAN.out.cell 2⟩
              go_wp2_with fail
              refine (HSN.out _ _ _ _ _ _ _ HND.out HNN.out).mono ?_
              rintro e v4 ⟨rfl, hb⟩
              have HB := Lib.hid (HB.out.trans (hb.mono HB.out.size))
              clear hb HSN HND HAD HNN HAN D0 D1 D2 N0 N1 N2
              go_wp2_with fail
              refine (HAW.out _).mono ?_
              rintro e w9 ⟨rfl, hb⟩
              have HB := Lib.hid (HB.out.trans (hb.mono HB.out.size))
              clear hb
              go_wp2
              go_ret
              exact ⟨rfl, HB.out⟩
          · have dg : (((e3 : Nat) : Int) != 0) = true := by simp; omega
            clear h3 HS3 HNN HAN HNO HAO
            go_wp2_with fail
            refine (HAW.out _).mono ?_
            rintro e w9 ⟨rfl, hb⟩
            have HB := Lib.hid (HB.out.trans (hb.mono HB.out.size))
            clear hb
            go_wp2
            go_ret
            exact ⟨rfl, HB.out⟩
end Go.Proofs.YtfcclppgjfkfoaaDoor
