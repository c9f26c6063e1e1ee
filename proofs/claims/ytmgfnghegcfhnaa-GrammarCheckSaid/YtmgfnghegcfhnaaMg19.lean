/- What the document's here of layer 19 returns. Conditions: names of at most 2^30 bytes. -/
import Derived.Test.YtmgfnghegcfhnaaMg18
import Derived.Test.YtmgfnghegcfhnaaMg12
import Derived.Deep.QuietTactic
namespace Go.Proofs.Ytmgfnghegcfhnaa
open Go.RowKit

set_option maxHeartbeats 3200000 in
set_option maxRecDepth 100000 in
theorem here19_any (G : Nat → Prop) (n : ND) (v2 v3 : Value) (w : World) (hN : NdAt w G n v2 v3) (hp : ∀ i, i < n.ps.length → (n.ps.getD i pr0).nm.size ≤ 1073741824) (hk : ∀ i, i < n.ks.length → (n.ks.getD i nd0).nm.size ≤ 1073741824) :
    Calls Try.prog 32 #[.agg #[.string n.nm, v2, v3]] w fun e w' => e = .returned (.int .i64 (here19 n : Nat)) ∧ Below w.heap.size w w' := by
  obtain ⟨A, K, pc, kc, rfl, rfl, hpc, hpm, hkc, hkm⟩ := nd_shape hN
  unfold maxLen at hpm hkm
  have HH := Lib.hid (here19_is n)
  generalize here19 n = R at *
  obtain ⟨W1, hW1⟩ : ∃ W1, W1 = w.alloc (.cells #[.string n.nm, .slice A n.ps.length pc, .slice K n.ks.length kc] 29) := ⟨_, rfl⟩
  obtain ⟨g1, hg1⟩ : ∃ g1, g1 = w.heap.size := ⟨_, rfl⟩
  have hB1 : Below w.heap.size w W1 := by rw [hW1]; exact (Below.refl _ _).alloc (Nat.le_refl _) _
  have hA1 : Arr W1 g1 29 #[.string n.nm, .slice A n.ps.length pc, .slice K n.ks.length kc] := by rw [hW1, hg1]; exact Arr.new w _ _
  have HN := Lib.hid (nd_below hN hB1)
  have HB := Lib.hid hB1
  have HC : Hid (∀ W, Below W1.heap.size W1 W → W.cell? ⟨g1, 1, none⟩ = some (.slice A n.ps.length pc) ∧ W.cell? ⟨g1, 2, none⟩ = some (.slice K n.ks.length kc)) := fun W h => ⟨(hA1.below h hA1.lt).cell 1, (hA1.below h hA1.lt).cell 2⟩
  have HPZ := Lib.hid hp
  have HKZ := Lib.hid hk
  clear hN hB1 hA1 hp hk
  go_enter Try.func32, Try.ntmps32
  go_upto_region 1 with fail
  rw [← hW1, ← hg1]
  clear hW1 hg1
  go_wp2
  go_loopw [3] (fun iv wr => ∃ i : Nat, i ≤ n.ps.length ∧ iv = .int .i64 i ∧ Hid (∀ j, j < i → prop19 (n.ps.getD j pr0).nm.data.toList = true) ∧ Below W1.heap.size W1 wr) (fun iv _ => n.ps.length - (intOf iv).toNat)
  case atStart => exact ⟨0, Nat.zero_le _, rfl, (fun j h => absurd h (Nat.not_lt_zero _)), Below.refl _ _⟩
  case round =>
    obtain ⟨i, hi, rfl, HJ, hb⟩ := hrel
    obtain ⟨k1, k2⟩ := HC.out wr hb
    have HBW := Lib.hid hb
    have HBF := Lib.hid (HB.out.trans (hb.mono HB.out.size))
    by_cases hlt : i < n.ps.length
    · have hii : (i : Int) < n.ps.length := by omega
      obtain ⟨b, off, x, rfl, ⟨h1, _⟩, HX⟩ := nd_prop (nd_below HN.out hb) hlt
      have HP := Lib.hid (prop19_any x.nm wr (by have := HPZ.out i hlt; rw [HX.out] at this; omega))
      have HBAD : Hid (prop19 x.nm.data.toList = false → R = 6) := fun h => HH.out.bad1 i hlt (by rw [HX.out]; exact h)
      have HJ1 : Hid (prop19 x.nm.data.toList = true → ∀ j, j < i + 1 → prop19 (n.ps.getD j pr0).nm.data.toList = true) := fun h j hj => by
        by_cases e : j = i
        · rw [e, HX.out]; exact h
        · exact HJ.out j (by omega)
      clear hb HX HJ
      go_wp2_with fail
      refine HP.out.mono ?_
      rintro e w2 ⟨rfl, rfl⟩
      cases hf : prop19 x.nm.data.toList with
      | true =>
        have HK := Lib.hid (HJ1.out hf)
        clear HJ1 HBAD HP hf h1
        go_wp2
        go_roundw
        case rel => exact ⟨i + 1, by omega, by go_num, HK.out, HBW.out⟩
        case measure => simp [intOf]; omega
      | false =>
        have HV := Lib.hid (HBAD.out hf)
        clear HJ1 HBAD HP hf h1
        go_wp2
        go_ret
        exact ⟨by rw [HV.out]; rfl, HBF.out⟩
    · obtain rfl : i = n.ps.length := by omega
      obtain ⟨wa, hw0⟩ : ∃ w0, w0 = wr := ⟨_, rfl⟩
      subst hw0
      have HP1 := Lib.hid HJ.out
      have HBwa := Lib.hid hb
      clear hb HJ HBW HBF
      go_wp2
      go_loopw [4] (fun iv wr => ∃ i : Nat, i ≤ n.ps.length ∧ iv = .int .i64 i ∧ Hid (∀ j, j < i → ∀ k, k < j → (n.ps.getD j pr0).nm ≠ (n.ps.getD k pr0).nm) ∧ Below W1.heap.size W1 wr) (fun iv _ => n.ps.length - (intOf iv).toNat)
      case atStart => exact ⟨0, Nat.zero_le _, rfl, (fun j h => absurd h (Nat.not_lt_zero _)), HBwa.out⟩
      case round =>
        obtain ⟨i, hi, rfl, HJ, hb⟩ := hrel
        obtain ⟨k1, k2⟩ := HC.out wr hb
        have HBW := Lib.hid hb
        by_cases hlt : i < n.ps.length
        · have hii : (i : Int) < n.ps.length := by omega
          have hi0 : (0 : Int) ≤ (i : Int) := by omega
          clear hb
          go_wp2
          go_loopw [5] (fun kv wr => ∃ k : Nat, k ≤ i ∧ kv = .int .i64 k ∧ Hid (∀ j, j < k → (n.ps.getD i pr0).nm ≠ (n.ps.getD j pr0).nm) ∧ Below W1.heap.size W1 wr) (fun kv _ => i - (intOf kv).toNat)
          case atStart => exact ⟨0, Nat.zero_le _, rfl, (fun j h => absurd h (Nat.not_lt_zero _)), HBW.out⟩
          case round =>
            obtain ⟨k, hk, rfl, HKJ, hb⟩ := hrel
            obtain ⟨k1, k2⟩ := HC.out wr hb
            by_cases hkl : k < i
            · have hki : (k : Int) < (i : Int) := by omega
              have hk0 : (0 : Int) ≤ (k : Int) := by omega
              have hkn : (k : Int) < n.ps.length := by omega
              obtain ⟨b, off, x, rfl, ⟨h1, _⟩, HX⟩ := nd_prop (nd_below HN.out hb) hlt
              obtain ⟨b1, o1, y, e1, ⟨h3, _⟩, HY⟩ := nd_prop (nd_below HN.out hb) (show k < n.ps.length by omega)
              injection e1 with e1
              injection e1 with e2 e3 _
              subst e2 e3
              have HBY := Lib.hid (fun q => hb.trans ((below_drewN wr q).mono hb.size))
              have HBF := Lib.hid (fun q => HB.out.trans ((HBY.out q).mono HB.out.size))
              by_cases he : x.nm = y.nm
              · have d1 : (x.nm.toList == y.nm.toList) = true := by rw [he]; simp
                have HV : Hid (R = 12) := HH.out.bad2 HP1.out i hlt k hkl (by rw [HX.out, HY.out]; exact he)
                clear he HX HY hb HKJ
                go_upto_region 12 with fail
                go_quiet (fail)
                go_wp2
                go_ret
                exact ⟨by rw [HV.out]; rfl, HBF.out _⟩
              · have d1 : (x.nm.toList == y.nm.toList) = false := by simpa using str_ne12 he
                have HK2 : Hid (∀ j, j < k + 1 → (n.ps.getD i pr0).nm ≠ (n.ps.getD j pr0).nm) := fun j hj => by
                  by_cases e : j = k
                  · rw [e, HX.out, HY.out]; exact he
                  · exact HKJ.out j (by omega)
                clear he HX HY hb HKJ
                go_upto_region 12 with fail
                go_quiet (fail)
                go_wp2
                go_roundw
                case rel => exact ⟨k + 1, by omega, by go_num, HK2.out, HBY.out _⟩
                case measure => simp [intOf]; omega
            · obtain rfl : k = i := by omega
              have HJ2 : Hid (∀ j, j < k + 1 → ∀ q, q < j → (n.ps.getD j pr0).nm ≠ (n.ps.getD q pr0).nm) := fun j hj q hq => by
                by_cases e : j = k
                · rw [e] at hq ⊢; exact HKJ.out q hq
                · exact HJ.out j (by omega) q hq
              have HBZ := Lib.hid hb
              clear hb HKJ HJ
              go_wp2
              go_roundw
              case rel => exact ⟨k + 1, by omega, by go_num, HJ2.out, HBZ.out⟩
              case measure => simp [intOf]; omega
        · obtain rfl : i = n.ps.length := by omega
          obtain ⟨wb, hw0⟩ : ∃ w0, w0 = wr := ⟨_, rfl⟩
          subst hw0
          have HP2 := Lib.hid HJ.out
          have HBwb := Lib.hid hb
          have HBF := Lib.hid (HB.out.trans (hb.mono HB.out.size))
          clear hb HJ HBW
          go_wp2
          go_loopw [6] (fun iv wr => ∃ i : Nat, i ≤ n.ks.length ∧ iv = .int .i64 i ∧ Hid (∀ j, j < i → nodeR (n.ks.getD j nd0).nm.data.toList = true) ∧ Below W1.heap.size W1 wr) (fun iv _ => n.ks.length - (intOf iv).toNat)
          case atStart => exact ⟨0, Nat.zero_le _, rfl, (fun j h => absurd h (Nat.not_lt_zero _)), HBwb.out⟩
          case round =>
            obtain ⟨i, hi, rfl, HJ, hb⟩ := hrel
            obtain ⟨k1, k2⟩ := HC.out wr hb
            have HBW := Lib.hid hb
            have HBF := Lib.hid (HB.out.trans (hb.mono HB.out.size))
            by_cases hlt : i < n.ks.length
            · have hii : (i : Int) < n.ks.length := by omega
              obtain ⟨b, off, x, _, _, rfl, h1, _, _, _, HX⟩ := nd_kid (nd_below HN.out hb) hlt
              have HP := Lib.hid (node19_any x.nm wr (by have := HKZ.out i hlt; rw [HX.out] at this; omega))
              have HBAD : Hid (nodeR x.nm.data.toList = false → R = 6) := fun h => HH.out.bad3 HP1.out HP2.out i hlt (by rw [HX.out]; exact h)
              have HJ1 : Hid (nodeR x.nm.data.toList = true → ∀ j, j < i + 1 → nodeR (n.ks.getD j nd0).nm.data.toList = true) := fun h j hj => by
                by_cases e : j = i
                · rw [e, HX.out]; exact h
                · exact HJ.out j (by omega)
              clear hb HX HJ
              go_wp2_with fail
              refine HP.out.mono ?_
              rintro e w2 ⟨rfl, rfl⟩
              cases hf : nodeR x.nm.data.toList with
              | true =>
                have HK := Lib.hid (HJ1.out hf)
                clear HJ1 HBAD HP hf h1
                go_wp2
                go_roundw
                case rel => exact ⟨i + 1, by omega, by go_num, HK.out, HBW.out⟩
                case measure => simp [intOf]; omega
              | false =>
                have HV := Lib.hid (HBAD.out hf)
                clear HJ1 HBAD HP hf h1
                go_wp2
                go_ret
                exact ⟨by rw [HV.out]; rfl, HBF.out⟩
            · obtain rfl : i = n.ks.length := by omega
              obtain ⟨wd, hw0⟩ : ∃ w0, w0 = wr := ⟨_, rfl⟩
              subst hw0
              have HP3 := Lib.hid HJ.out
              have HBwd := Lib.hid hb
              clear hb HJ HBW HBF
              go_wp2
              go_loopw [7] (fun iv wr => ∃ i : Nat, i ≤ n.ks.length ∧ iv = .int .i64 i ∧ Hid (∀ j, j < i → ∀ k, k < j → (n.ks.getD j nd0).nm ≠ (n.ks.getD k nd0).nm) ∧ Below W1.heap.size W1 wr) (fun iv _ => n.ks.length - (intOf iv).toNat)
              case atStart => exact ⟨0, Nat.zero_le _, rfl, (fun j h => absurd h (Nat.not_lt_zero _)), HBwd.out⟩
              case round =>
                obtain ⟨i, hi, rfl, HJ, hb⟩ := hrel
                obtain ⟨k1, k2⟩ := HC.out wr hb
                have HBW := Lib.hid hb
                by_cases hlt : i < n.ks.length
                · have hii : (i : Int) < n.ks.length := by omega
                  have hi0 : (0 : Int) ≤ (i : Int) := by omega
                  clear hb
                  go_wp2
                  go_loopw [8] (fun kv wr => ∃ k : Nat, k ≤ i ∧ kv = .int .i64 k ∧ Hid (∀ j, j < k → (n.ks.getD i nd0).nm ≠ (n.ks.getD j nd0).nm) ∧ Below W1.heap.size W1 wr) (fun kv _ => i - (intOf kv).toNat)
                  case atStart => exact ⟨0, Nat.zero_le _, rfl, (fun j h => absurd h (Nat.not_lt_zero _)), HBW.out⟩
                  case round =>
                    obtain ⟨k, hk, rfl, HKJ, hb⟩ := hrel
                    obtain ⟨k1, k2⟩ := HC.out wr hb
                    by_cases hkl : k < i
                    · have hki : (k : Int) < (i : Int) := by omega
                      have hk0 : (0 : Int) ≤ (k : Int) := by omega
                      have hkn : (k : Int) < n.ks.length := by omega
                      obtain ⟨b, off, x, _, _, rfl, h1, _, _, _, HX⟩ := nd_kid (nd_below HN.out hb) hlt
                      obtain ⟨b1, o1, y, _, _, e1, h3, _, _, _, HY⟩ := nd_kid (nd_below HN.out hb) (show k < n.ks.length by omega)
                      injection e1 with e1
                      injection e1 with e2 e3 _
                      subst e2 e3
                      have HBY := Lib.hid (fun q => hb.trans ((below_drewN wr q).mono hb.size))
                      have HBF := Lib.hid (fun q => HB.out.trans ((HBY.out q).mono HB.out.size))
                      by_cases he : x.nm = y.nm
                      · have d1 : (x.nm.toList == y.nm.toList) = true := by rw [he]; simp
                        have HV : Hid (R = 12) := HH.out.bad4 HP1.out HP2.out HP3.out i hlt k hkl (by rw [HX.out, HY.out]; exact he)
                        clear he HX HY hb HKJ
                        go_upto_region 25 with fail
                        go_quiet (fail)
                        go_wp2
                        go_ret
                        exact ⟨by rw [HV.out]; rfl, HBF.out _⟩
                      · have d1 : (x.nm.toList == y.nm.toList) = false := by simpa using str_ne12 he
                        have HK2 : Hid (∀ j, j < k + 1 → (n.ks.getD i nd0).nm ≠ (n.ks.getD j nd0).nm) := fun j hj => by
                          by_cases e : j = k
                          · rw [e, HX.out, HY.out]; exact he
                          · exact HKJ.out j (by omega)
                        clear he HX HY hb HKJ
                        go_upto_region 25 with fail
                        go_quiet (fail)
                        go_wp2
                        go_roundw
                        case rel => exact ⟨k + 1, by omega, by go_num, HK2.out, HBY.out _⟩
                        case measure => simp [intOf]; omega
                    · obtain rfl : k = i := by omega
                      have HJ2 : Hid (∀ j, j < k + 1 → ∀ q, q < j → (n.ks.getD j nd0).nm ≠ (n.ks.getD q nd0).nm) := fun j hj q hq => by
                        by_cases e : j = k
                        · rw [e] at hq ⊢; exact HKJ.out q hq
                        · exact HJ.out j (by omega) q hq
                      have HBZ := Lib.hid hb
                      clear hb HKJ HJ
                      go_wp2
                      go_roundw
                      case rel => exact ⟨k + 1, by omega, by go_num, HJ2.out, HBZ.out⟩
                      case measure => simp [intOf]; omega
                · obtain rfl : i = n.ks.length := by omega
                  obtain ⟨we, hw0⟩ : ∃ w0, w0 = wr := ⟨_, rfl⟩
                  subst hw0
                  have HP4 := Lib.hid HJ.out
                  have HBwe := Lib.hid hb
                  have HBF := Lib.hid (HB.out.trans (hb.mono HB.out.size))
                  clear hb HJ HBW
                  have HV := Lib.hid (HH.out.good HP1.out HP2.out HP3.out HP4.out)
                  clear HP1 HP2 HP3 HP4 HH
                  go_wp2
                  go_ret
                  exact ⟨by rw [HV.out]; rfl, HBF.out⟩
end Go.Proofs.Ytmgfnghegcfhnaa
