/- What package tree's count, Count and Fits return. Conditions: a tree that is read, of at most 2^40 nodes and properties. -/
import Derived.Test.YtmgfnghegcfhnaaMg23
namespace Go.Proofs.Ytmgfnghegcfhnaa
open Go.RowKit

theorem foldl_ct0 : ∀ (l : List ND) (x : CT), l.foldl (fun x y => ctAdd x (countR 0 y)) x = x
  | [], _ => rfl
  | y :: l, x => by
    rw [List.foldl_cons, foldl_ct0 l]
    obtain ⟨a, b, c⟩ := x
    simp [ctAdd, countR]
theorem countR_one (n : ND) : countR 1 n = ⟨1, n.ps.length, 1⟩ := by
  show (⟨(n.ks.foldl (fun x y => ctAdd x (countR 0 y)) ⟨1, n.ps.length, 0⟩).a, (n.ks.foldl (fun x y => ctAdd x (countR 0 y)) ⟨1, n.ps.length, 0⟩).b, (n.ks.foldl (fun x y => ctAdd x (countR 0 y)) ⟨1, n.ps.length, 0⟩).c + 1⟩ : CT) = _
  rw [foldl_ct0]

set_option maxHeartbeats 3200000 in
set_option maxRecDepth 100000 in
theorem tcount_any : ∀ (k L : Nat) (G : Nat → Prop) (n : ND) (v2 v3 : Value) (w : World), L + k = 9 → (countR (k + 1) n).a ≤ 1099511627776 → (countR (k + 1) n).b ≤ 1099511627776 → NdAt w G n v2 v3 →
    Calls Try.prog 39 #[.agg #[.string n.nm, v2, v3], .int .i64 (L : Int)] w fun e w' => e = .returned (.tuple #[.int .i64 ((countR (k + 1) n).a : Int), .int .i64 ((countR (k + 1) n).b : Int), .int .i64 ((countR (k + 1) n).c : Int)]) ∧ Below w.heap.size w w'
  | 0, L, G, n, v2, v3, w, hLk, _, _, hN => by
    obtain ⟨A, K, pc, kc, rfl, rfl, hpc, hpm, hkc, hkm⟩ := nd_shape hN
    unfold maxLen at hpm hkm
    rw [countR_one]
    obtain ⟨W1, hW1⟩ : ∃ W1, W1 = w.alloc (.cells #[.string n.nm, .slice A n.ps.length pc, .slice K n.ks.length kc] 29) := ⟨_, rfl⟩
    obtain ⟨g8, hg8⟩ : ∃ g8, g8 = w.heap.size := ⟨_, rfl⟩
    have hB1 : Below w.heap.size w W1 := by rw [hW1]; exact (Below.refl _ _).alloc (Nat.le_refl _) _
    have hA8 : Arr W1 g8 29 #[.string n.nm, .slice A n.ps.length pc, .slice K n.ks.length kc] := by rw [hW1, hg8]; exact Arr.new w _ _
    have k1 : W1.cell? ⟨g8, 1, none⟩ = some (.slice A n.ps.length pc) := hA8.cell 1
    have HB1 := Lib.hid hB1
    have hz1 := hB1.size
    have hL9 : L = 9 := by omega
    have c1 : decide ((8 : Int) < (L : Int)) = true := decide_eq_true (by omega)
    clear hN hB1 hA8 hLk hL9
    go_enter Try.func39, Try.ntmps39
    go_upto_region 1 with fail
    rw [← hW1, ← hg8]
    clear hW1 hg8
    go_quiet (fail)
    have HB2 := Lib.hid (HB1.out.trans ((below_drewN W1 nq).mono hz1))
    go_wp2
    go_ret3
    exact ⟨rfl, HB2.out⟩
  | k + 1, L, _, n, v2, v3, w, hLk, ha, hb, hN0 => by
    have hN := nd_lt hN0
    clear hN0
    have HIH := Lib.hid (fun x y z W h1 h2 h => tcount_any k (L + 1) (fun b => b < w.heap.size) x y z W (by omega) h1 h2 h)
    have e1 : ((L + 1 : Nat) : Int) = (L : Int) + 1 := by omega
    rw [e1] at HIH
    obtain ⟨A, K, pc, kc, rfl, rfl, hpc, hpm, hkc, hkm⟩ := nd_shape hN
    unfold maxLen at hpm hkm
    have HKL := Lib.hid (fun j (hj : j < n.ks.length) => kid_le (k + 1) n hj)
    have HFL := Lib.hid (fun j (hj : j ≤ n.ks.length) => ctF_le (k + 1) n hj)
    have HDL := Lib.hid (depth_le (k + 1 + 1) n)
    have HSU := Lib.hid (fun j (hj : j < n.ks.length) => ctF_succ (k + 1) n hj)
    have HRE := Lib.hid (countR_eq (k + 1) n)
    have HF0 : Hid (ctF (k + 1) n 0 = ⟨1, n.ps.length, 0⟩) := rfl
    generalize countR (k + 1 + 1) n = R at *
    have c1 : decide ((8 : Int) < (L : Int)) = false := decide_eq_false (by omega)
    have hk20 : k + 1 + 1 ≤ 20 := by omega
    have hL9 : L ≤ 9 := by omega
    obtain ⟨W1, hW1⟩ : ∃ W1, W1 = w.alloc (.cells #[.string n.nm, .slice A n.ps.length pc, .slice K n.ks.length kc] 29) := ⟨_, rfl⟩
    obtain ⟨g8, hg8⟩ : ∃ g8, g8 = w.heap.size := ⟨_, rfl⟩
    have hB1 : Below w.heap.size w W1 := by rw [hW1]; exact (Below.refl _ _).alloc (Nat.le_refl _) _
    have hA8 : Arr W1 g8 29 #[.string n.nm, .slice A n.ps.length pc, .slice K n.ks.length kc] := by rw [hW1, hg8]; exact Arr.new w _ _
    have HN1 := Lib.hid (nd_below hN hB1)
    have HA8 := Lib.hid hA8
    have HB1 := Lib.hid hB1
    have hz1 := hB1.size
    have k1 : W1.cell? ⟨g8, 1, none⟩ = some (.slice A n.ps.length pc) := hA8.cell 1
    have k2 : W1.cell? ⟨g8, 2, none⟩ = some (.slice K n.ks.length kc) := hA8.cell 2
    clear hN hB1 hA8 hLk e1
    go_enter Try.func39, Try.ntmps39
    go_upto_region 1 with fail
    rw [← hW1, ← hg8]
    clear hW1 hg8
    go_quiet (fail)
    have HB2 := Lib.hid (HB1.out.trans ((below_drewN W1 nq).mono hz1))
    have HN2 := Lib.hid (nd_below HN1.out (below_drewN W1 nq))
    have k3 : (W1.drewN nq).cell? ⟨g8, 2, none⟩ = some (.slice K n.ks.length kc) := k2
    have hz2 := HB2.out.size
    clear HN1 HB1 k1 k2 HA8
    generalize W1.drewN nq = W2 at *
    go_wp2
    go_loopw [4, 5, 6, 23] (fun s4 s5 s6 i wr => ∃ (j a b c D : Nat), j ≤ n.ks.length ∧ i = .int .i64 j ∧ s4 = .int .i64 a ∧ s5 = .int .i64 b ∧ s6 = .int .i64 D ∧ Hid (ctF (k + 1) n j = ⟨a, b, c⟩ ∧ D = c + 1) ∧ Below W2.heap.size W2 wr) (fun _ _ _ i _ => n.ks.length - (intOf i).toNat)
    case atStart => exact ⟨0, 1, n.ps.length, 0, 1, Nat.zero_le _, rfl, rfl, rfl, rfl, ⟨HF0.out, rfl⟩, Below.refl _ _⟩
    case round =>
      clear HF0 k3
      obtain ⟨j, a, b, c, D, hj, rfl, rfl, rfl, rfl, HCT, hbr⟩ := hrel
      have HBR := Lib.hid hbr
      have hzr := hbr.size
      have hfl := HFL.out j hj
      rw [HCT.out.1] at hfl
      simp only at hfl
      have hD : D = c + 1 := HCT.out.2
      have HD := Lib.hid hD
      have hDb : D ≤ R.c := by omega
      have hRc : R.c ≤ 20 := by have := HDL.out; omega
      clear hD
      by_cases hlt : j < n.ks.length
      · have hji : (j : Int) < n.ks.length := by omega
        obtain ⟨b0, off, x, y, z, rfl, h1, h2, h3, h4, HX⟩ := nd_kid (nd_below HN2.out hbr) hlt
        have hkl := HKL.out j hlt
        have hsu := HSU.out j hlt
        rw [HX.out] at hkl hsu
        rw [HCT.out.1] at hsu
        have HSJ := Lib.hid hsu
        obtain ⟨ya, za, yc, zc, rfl, rfl, _⟩ := nd_shape h4
        have hA9 := Arr.new wr 29 #[.string x.nm, .slice ya x.ps.length yc, .slice za x.ks.length zc]
        have hb9 : Below wr.heap.size wr (wr.alloc (.cells #[.string x.nm, .slice ya x.ps.length yc, .slice za x.ks.length zc] 29)) := (Below.refl _ _).alloc (Nat.le_refl _) _
        have HC := Lib.hid (HIH.out x _ _ _ (by omega) (by omega) (nd_below h4 hb9))
        have HBR9 := Lib.hid (HBR.out.trans (hb9.mono hzr))
        have q0 := hA9.cell 0
        have q1 := hA9.cell 1
        have q2 := hA9.cell 2
        simp only [List.getElem?_toArray, List.getElem?_cons_zero, List.getElem?_cons_succ] at q0 q1 q2
        clear hbr h4 HX hsu hA9 hb9
        rcases hxc : countR (k + 1) x with ⟨a', b', c'⟩
        rw [hxc] at HC hkl HSJ
        simp only at hkl
        clear hxc
        go_upto_region 7 with fail
        generalize wr.alloc (.cells #[.string x.nm, .slice ya x.ps.length yc, .slice za x.ks.length zc] 29) = W9 at *
        generalize wr.heap.size = g9 at *
        go_wp2_with fail
        refine HC.out.mono ?_
        rintro e w3 ⟨rfl, hb3⟩
        have HBR3 := Lib.hid (HBR9.out.trans (hb3.mono HBR9.out.size))
        clear hb3 HC
        by_cases hcc : c < c'
        · have hcc' : (D : Int) < 1 + (c' : Int) := by have := HD.out; omega
          have HE : Hid (ctF (k + 1) n (j + 1) = ⟨a + a', b + b', c'⟩ ∧ 1 + c' = c' + 1) := by
            refine ⟨?_, by omega⟩
            rw [HSJ.out]; simp only [ctAdd]; rw [show max c c' = c' by omega]
          go_wp2
          go_roundw
          case rel => exact ⟨j + 1, a + a', b + b', c', 1 + c', by omega, by go_num, by go_num, by go_num, by go_num, HE, HBR3.out⟩
          case measure => simp [intOf]; omega
        · have hcc' : 1 + (c' : Int) ≤ (D : Int) := by have := HD.out; omega
          have HE : Hid (ctF (k + 1) n (j + 1) = ⟨a + a', b + b', c⟩ ∧ D = c + 1) := by
            refine ⟨?_, HD.out⟩
            rw [HSJ.out]; simp only [ctAdd]; rw [show max c c' = c by omega]
          go_wp2
          go_roundw
          case rel => exact ⟨j + 1, a + a', b + b', c, D, by omega, by go_num, by go_num, by go_num, by go_num, HE, HBR3.out⟩
          case measure => simp [intOf]; omega
      · obtain rfl : j = n.ks.length := by omega
        have hre := HRE.out
        rw [HCT.out.1] at hre
        have HRR := Lib.hid hre
        have HDD : Hid (D = c + 1) := HD.out
        have HB3 := Lib.hid (HB2.out.trans (hbr.mono hz2))
        clear hre hbr
        go_wp2
        go_ret3
        exact ⟨by rw [HRR.out, HDD.out]; rfl, HB3.out⟩

set_option maxHeartbeats 800000 in
set_option maxRecDepth 100000 in
theorem tCount_any (G : Nat → Prop) (n : ND) (v2 v3 : Value) (w : World) (ha : (countR 9 n).a ≤ 1099511627776) (hb : (countR 9 n).b ≤ 1099511627776) (hN : NdAt w G n v2 v3) :
    Calls Try.prog 28 #[.agg #[.string n.nm, v2, v3]] w fun e w' => e = .returned (.tuple #[.int .i64 ((countR 9 n).a : Int), .int .i64 ((countR 9 n).b : Int), .int .i64 ((countR 9 n).c : Int)]) ∧ Below w.heap.size w w' := by
  obtain ⟨W1, hW1⟩ : ∃ W1, W1 = w.alloc (.cells #[.string n.nm, v2, v3] 29) := ⟨_, rfl⟩
  obtain ⟨g8, hg8⟩ : ∃ g8, g8 = w.heap.size := ⟨_, rfl⟩
  have hB1 : Below w.heap.size w W1 := by rw [hW1]; exact (Below.refl _ _).alloc (Nat.le_refl _) _
  have hA8 : Arr W1 g8 29 #[.string n.nm, v2, v3] := by rw [hW1, hg8]; exact Arr.new w _ _
  have HB1 := Lib.hid hB1
  have hz1 := hB1.size
  have k0 : W1.cell? ⟨g8, 0, none⟩ = some (.string n.nm) := hA8.cell 0
  have k1 : W1.cell? ⟨g8, 1, none⟩ = some v2 := hA8.cell 1
  have k2 : W1.cell? ⟨g8, 2, none⟩ = some v3 := hA8.cell 2
  have HC : Hid (Calls Try.prog 39 #[.agg #[.string n.nm, v2, v3], .int .i64 1] W1 fun e w' => e = .returned (.tuple #[.int .i64 ((countR 9 n).a : Int), .int .i64 ((countR 9 n).b : Int), .int .i64 ((countR 9 n).c : Int)]) ∧ Below W1.heap.size W1 w') := tcount_any 8 1 G n v2 v3 W1 rfl ha hb (nd_below hN hB1)
  rcases hxc : countR 9 n with ⟨a, b, c⟩
  rw [hxc] at HC
  clear hN hB1 hA8 ha hb hxc
  go_enter Try.func28, Try.ntmps28
  go_upto_region 1 with fail
  rw [← hW1, ← hg8]
  clear hW1 hg8
  go_wp2_with fail
  refine HC.out.mono ?_
  rintro e w3 ⟨rfl, hb3⟩
  have HB3 := Lib.hid (HB1.out.trans (hb3.mono hz1))
  clear hb3 HC
  go_wp2
  go_ret3
  exact ⟨rfl, HB3.out⟩

set_option maxHeartbeats 1600000 in
set_option maxRecDepth 100000 in
theorem tFits_any (G : Nat → Prop) (n : ND) (v2 v3 : Value) (w : World) (ha : (countR 9 n).a ≤ 1099511627776) (hb : (countR 9 n).b ≤ 1099511627776) (hN : NdAt w G n v2 v3) :
    Calls Try.prog 29 #[.agg #[.string n.nm, v2, v3]] w fun e w' => e = .returned (.bool (fitsR n)) ∧ Below w.heap.size w w' := by
  obtain ⟨W1, hW1⟩ : ∃ W1, W1 = w.alloc (.cells #[.string n.nm, v2, v3] 29) := ⟨_, rfl⟩
  obtain ⟨g8, hg8⟩ : ∃ g8, g8 = w.heap.size := ⟨_, rfl⟩
  have hB1 : Below w.heap.size w W1 := by rw [hW1]; exact (Below.refl _ _).alloc (Nat.le_refl _) _
  have hA8 : Arr W1 g8 29 #[.string n.nm, v2, v3] := by rw [hW1, hg8]; exact Arr.new w _ _
  have HB1 := Lib.hid hB1
  have hz1 := hB1.size
  have k0 : W1.cell? ⟨g8, 0, none⟩ = some (.string n.nm) := hA8.cell 0
  have k1 : W1.cell? ⟨g8, 1, none⟩ = some v2 := hA8.cell 1
  have k2 : W1.cell? ⟨g8, 2, none⟩ = some v3 := hA8.cell 2
  have HC := Lib.hid (tCount_any G n v2 v3 W1 ha hb (nd_below hN hB1))
  have HE : Hid (fitsR n = (decide (((countR 9 n).a : Int) ≤ 64) && (decide (((countR 9 n).b : Int) ≤ 256) && decide (((countR 9 n).c : Int) ≤ 8)))) := fit_bool _ _ _
  generalize fitsR n = R at *
  rcases hxc : countR 9 n with ⟨a, b, c⟩
  rw [hxc] at HC HE
  clear hN hB1 hA8 ha hb hxc
  go_enter Try.func29, Try.ntmps29
  go_upto_region 1 with fail
  rw [← hW1, ← hg8]
  clear hW1 hg8
  go_wp2_with fail
  refine HC.out.mono ?_
  rintro e w3 ⟨rfl, hb3⟩
  have HB4 := Lib.hid (HB1.out.trans (hb3.mono hz1))
  clear hb3 HC
  cases d1 : decide ((a : Int) ≤ 64) with
  | false =>
    rw [d1] at HE
    go_wp2
    go_ret
    exact ⟨by rw [HE.out]; rfl, HB4.out⟩
  | true =>
    rw [d1] at HE
    cases d2 : decide ((b : Int) ≤ 256) with
    | false =>
      rw [d2] at HE
      go_wp2
      go_ret
      exact ⟨by rw [HE.out]; rfl, HB4.out⟩
    | true =>
      rw [d2] at HE
      cases d3 : decide ((c : Int) ≤ 8) with
      | false =>
        rw [d3] at HE
        go_wp2
        go_ret
        exact ⟨by rw [HE.out]; rfl, HB4.out⟩
      | true =>
        rw [d3] at HE
        go_wp2
        go_ret
        exact ⟨by rw [HE.out]; rfl, HB4.out⟩
end Go.Proofs.Ytmgfnghegcfhnaa
