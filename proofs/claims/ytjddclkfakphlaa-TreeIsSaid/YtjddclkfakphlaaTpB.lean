/- What package tree's Same returns, by slices.Equal and slices.EqualFunc. Conditions: trees that are read, of which the first has at most so many levels as are looked at. -/
import Derived.Test.YtjddclkfakphlaaTrB
import Derived.Shelf.Abstract
namespace Go.Proofs.Ytjddclkfakphlaa
open Go.RowKit

set_option maxHeartbeats 800000 in
set_option maxRecDepth 100000 in
theorem equal_props (G G' : Nat → Prop) (A A' : Option Addr) (pc pc' : Nat) (l s : List PR) (w : World) (hr : RdPr w G A l) (hr' : RdPr w G' A' s) (hl : l.length ≤ maxLen) :
    Calls Try.prog 30 #[.slice A l.length pc, .slice A' s.length pc'] w fun e w' => e = .returned (.bool (allTwo sameP l s)) ∧ Below w.heap.size w w' := by
  have HR := Lib.hid hr
  have HR' := Lib.hid hr'
  unfold maxLen at hl
  by_cases hls : l.length = s.length
  · have HY := Lib.hid (allTwo_yes (f := sameP) pr0 hls)
    have HNO := Lib.hid (fun k hk h => allTwo_no (f := sameP) pr0 (l := l) (s := s) k hk h hls)
    generalize allTwo sameP l s = R at *
    clear hr hr'
    rw [← hls]
    have HLS := Lib.hid hls
    clear hls
    go_enter Try.func30, Try.ntmps30
    go_wp2
    go_loopw [13] (fun i wr => ∃ k : Nat, k ≤ l.length ∧ i = .int .i64 k ∧ Hid (∀ j, j < k → sameP (l.getD j pr0) (s.getD j pr0) = true) ∧ Below w.heap.size w wr) (fun i _ => l.length - (intOf i).toNat)
    case atStart => exact ⟨0, Nat.zero_le _, rfl, (fun j h => absurd h (by omega)), Below.refl _ _⟩
    case round =>
      obtain ⟨k, hk, rfl, HK, hb⟩ := hrel
      have HB := Lib.hid hb
      have hsz := hb.size
      by_cases hlt : k < l.length
      · have hki : (k : Int) < l.length := by omega
        have c1 : decide ((k : Int) < l.length) = true := decide_eq_true hki
        obtain ⟨b, off, x, rfl, ⟨h1, h2⟩, HX⟩ := (HR.out.kept (Moved.of_below (hb) (fun _ => False)) (fun _ _ h => h)).at_ hlt
        obtain ⟨b', off', x', rfl, ⟨g1, g2⟩, HX'⟩ := (HR'.out.kept (Moved.of_below (hb) (fun _ => False)) (fun _ _ h => h)).at_ (show k < s.length by have := HLS.out; omega)
        obtain ⟨nm, vl⟩ := x
        obtain ⟨nm', vl'⟩ := x'
        simp only at h1 h2 g1 g2
        clear hb
        by_cases t1 : nm = nm'
        · subst t1
          by_cases t2 : vl = vl'
          · subst t2
            have HK1 : Hid (∀ j, j < k + 1 → sameP (l.getD j pr0) (s.getD j pr0) = true) := fun j hj => by
              by_cases e : j = k
              · subst e; rw [HX.out, HX'.out]; exact decide_eq_true ⟨rfl, rfl⟩
              · exact HK.out j (by omega)
            clear HX HX'
            go_wp2
            go_quiet (fail)
            have HB2 := Lib.hid (HB.out.trans ((below_drewN wr nq).mono hsz))
            go_wp2
            go_roundw
            case rel => exact ⟨k + 1, by omega, by go_num, HK1, HB2.out⟩
            case measure => simp [intOf]; omega
          · have HE := Lib.hid (HNO.out k hlt (by rw [HX.out, HX'.out]; exact decide_eq_false (fun h => t2 h.2)))
            have q2 : ¬ vl.toList = vl'.toList := by rw [ByteArray.toList_eq, ByteArray.toList_eq]; exact fun e => t2 (ByteArray.ext (Array.ext' e))
            clear HX HX' t2
            go_wp2
            go_quiet (fail)
            have HB2 := Lib.hid (HB.out.trans ((below_drewN wr nq).mono hsz))
            go_wp2
            go_ret
            exact ⟨by rw [HE.out]; rfl, HB2.out⟩
        · have HE := Lib.hid (HNO.out k hlt (by rw [HX.out, HX'.out]; exact decide_eq_false (fun h => t1 h.1)))
          have q1 : ¬ nm.toList = nm'.toList := by rw [ByteArray.toList_eq, ByteArray.toList_eq]; exact fun e => t1 (ByteArray.ext (Array.ext' e))
          clear HX HX' t1
          go_wp2
          go_quiet (fail)
          have HB2 := Lib.hid (HB.out.trans ((below_drewN wr nq).mono hsz))
          go_wp2
          go_ret
          exact ⟨by rw [HE.out]; rfl, HB2.out⟩
      · obtain rfl : k = l.length := by omega
        have c1 : decide ((l.length : Int) < l.length) = false := decide_eq_false (by omega)
        have HE := Lib.hid (HY.out HK.out)
        clear hb
        go_wp2
        go_ret
        exact ⟨by rw [HE.out]; rfl, HB.out⟩
  · rw [allTwo_len hls]
    have d1 : ((l.length : Int) != (s.length : Int)) = true := by simp; omega
    clear HR HR' hr hr'
    go_enter Try.func30, Try.ntmps30
    go_wp2
    go_ret
    exact ⟨rfl, Below.refl _ _⟩

theorem nd_kids_le {w : World} {G : Nat → Prop} {n : ND} {v2 : Value} {K : Option Addr} {l kc : Nat} (h : NdAt w G n v2 (.slice K l kc)) : n.ks.length ≤ kc ∧ kc ≤ maxLen := by
  cases h with
  | mk nm ps ks A K pc kc p q hp hpc hpm hkc hkm => exact ⟨hkc, hkm⟩

set_option maxHeartbeats 1600000 in
set_option maxRecDepth 100000 in
theorem equal_kids (G G' : Nat → Prop) (f j : Nat) (m n : ND) (v2 u2 : Value) (K K' : Option Addr) (kc kc' : Nat) (w : World) (hM : NdAt w G m v2 (.slice K m.ks.length kc)) (hN : NdAt w G' n u2 (.slice K' n.ks.length kc'))
    (hen : ∀ args w, (callFunc f args).run Try.prog w = .ok (.enter f args) w)
    (hs : ∀ x y x2 x3 y2 y3 W, x ∈ m.ks → NdAt W G x x2 x3 → NdAt W G' y y2 y3 → Calls Try.prog f #[.agg #[.string x.nm, x2, x3], .agg #[.string y.nm, y2, y3]] W fun e w' => e = .returned (.bool (sameR j x y)) ∧ Below W.heap.size W w') :
    Calls Try.prog 31 #[.slice K m.ks.length kc, .slice K' n.ks.length kc', .func (.func f) #[] #[]] w fun e w' => e = .returned (.bool (allTwo (sameR j) m.ks n.ks)) ∧ Below w.heap.size w w' := by
  obtain ⟨hkl, hkm⟩ := nd_kids_le hM
  unfold maxLen at hkm
  have HM := Lib.hid hM
  have HN := Lib.hid hN
  have HS := Lib.hid hs
  clear hs
  by_cases hls : m.ks.length = n.ks.length
  · have HY := Lib.hid (allTwo_yes (f := sameR j) nd0 hls)
    have HNO := Lib.hid (fun k hk h => allTwo_no (f := sameR j) nd0 (l := m.ks) (s := n.ks) k hk h hls)
    generalize allTwo (sameR j) m.ks n.ks = R at *
    clear hM hN
    have HLS := Lib.hid hls
    rw [← hls]
    rw [← hls] at HN
    clear hls
    go_enter Try.func31, Try.ntmps31
    go_wp2
    go_loopw [17] (fun i wr => ∃ k : Nat, k ≤ m.ks.length ∧ i = .int .i64 k ∧ Hid (∀ i, i < k → sameR j (m.ks.getD i nd0) (n.ks.getD i nd0) = true) ∧ Below w.heap.size w wr) (fun i _ => m.ks.length - (intOf i).toNat)
    case atStart => exact ⟨0, Nat.zero_le _, rfl, (fun j h => absurd h (by omega)), Below.refl _ _⟩
    case round =>
      obtain ⟨k, hk, rfl, HK, hb⟩ := hrel
      have HB := Lib.hid hb
      have hsz := hb.size
      by_cases hlt : k < m.ks.length
      · have hki : (k : Int) < m.ks.length := by omega
        have c1 : decide ((k : Int) < m.ks.length) = true := decide_eq_true hki
        obtain ⟨b, off, x, x2, x3, rfl, h1, h2, h3, h4, HX⟩ := nd_kid (nd_below HM.out hb) hlt
        obtain ⟨b', off', y, y2, y3, rfl, g1, g2, g3, g4, HY'⟩ := nd_kid (nd_below HN.out hb) (show k < n.ks.length by have := HLS.out; omega)
        have hxm := getD_mem (d := nd0) hlt
        rw [HX.out] at hxm
        obtain ⟨xa, xk, xc, xd, rfl, rfl, _⟩ := nd_shape h4
        obtain ⟨ya, yk, yc, yd, rfl, rfl, _⟩ := nd_shape g4
        have hb9 : Below wr.heap.size wr (wr.alloc (.cells #[.string x.nm, .slice xa x.ps.length xc, .slice xk x.ks.length xd] 25)) := (Below.refl _ _).alloc (Nat.le_refl _) _
        have HA9 := Lib.hid (Arr.new wr 25 #[.string x.nm, .slice xa x.ps.length xc, .slice xk x.ks.length xd])
        have HB9 := Lib.hid (HB.out.trans (hb9.mono hsz))
        have HXN := Lib.hid (nd_below h4 hb9)
        have HYN := Lib.hid (nd_below g4 hb9)
        have M9 := Moved.of_below hb9 (fun _ => False)
        have p1 := cell_kept M9 id g1
        have p2 := cell_kept M9 id g2
        have p3 := cell_kept M9 id g3
        clear hb h4 g4 g1 g2 g3 M9 hb9
        go_upto_region 6 with fail
        generalize wr.alloc (.cells #[.string x.nm, .slice xa x.ps.length xc, .slice xk x.ks.length xd] 25) = W9 at *
        generalize wr.heap.size = g9 at *
        have hbA : Below W9.heap.size W9 (W9.alloc (.cells #[.string y.nm, .slice ya y.ps.length yc, .slice yk y.ks.length yd] 25)) := (Below.refl _ _).alloc (Nat.le_refl _) _
        have hAA := Arr.new W9 25 #[.string y.nm, .slice ya y.ps.length yc, .slice yk y.ks.length yd]
        have hA9 := HA9.out.below hbA HA9.out.lt
        have HBA := Lib.hid (HB9.out.trans (hbA.mono HB9.out.size))
        have HC := Lib.hid (HS.out x y _ _ _ _ _ hxm (nd_below HXN.out hbA) (nd_below HYN.out hbA))
        clear HA9 HXN HYN hbA hxm
        go_upto_region 7 with fail
        generalize W9.alloc (.cells #[.string y.nm, .slice ya y.ps.length yc, .slice yk y.ks.length yd] 25) = WA at *
        generalize W9.heap.size = gA at *
        have q0 := hA9.cell 0
        have q1 := hA9.cell 1
        have q2 := hA9.cell 2
        have r0 := hAA.cell 0
        have r1 := hAA.cell 1
        have r2 := hAA.cell 2
        simp only [List.getElem?_toArray, List.getElem?_cons_zero, List.getElem?_cons_succ] at q0 q1 q2 r0 r1 r2
        clear hA9 hAA
        cases hsm : sameR j x y with
        | true =>
          have HK1 : Hid (∀ i, i < k + 1 → sameR j (m.ks.getD i nd0) (n.ks.getD i nd0) = true) := fun i hi => by
            by_cases e : i = k
            · subst e; rw [HX.out, HY'.out]; exact hsm
            · exact HK.out i (by omega)
          rw [hsm] at HC
          clear HX HY' hsm
          go_wp2_with fail
          refine HC.out.mono ?_
          rintro e w3 ⟨rfl, hb3⟩
          have HB3 := Lib.hid (HBA.out.trans (hb3.mono HBA.out.size))
          clear hb3 HC
          go_wp2
          go_roundw
          case rel => exact ⟨k + 1, by omega, by go_num, HK1, HB3.out⟩
          case measure => simp [intOf]; omega
        | false =>
          have HE := Lib.hid (HNO.out k hlt (by rw [HX.out, HY'.out]; exact hsm))
          rw [hsm] at HC
          clear HX HY' hsm
          go_wp2_with fail
          refine HC.out.mono ?_
          rintro e w3 ⟨rfl, hb3⟩
          have HB3 := Lib.hid (HBA.out.trans (hb3.mono HBA.out.size))
          clear hb3 HC
          go_wp2
          go_ret
          exact ⟨by rw [HE.out]; rfl, HB3.out⟩
      · obtain rfl : k = m.ks.length := by omega
        have c1 : decide ((m.ks.length : Int) < m.ks.length) = false := decide_eq_false (by omega)
        have HE := Lib.hid (HY.out HK.out)
        clear hb
        go_wp2
        go_ret
        exact ⟨by rw [HE.out]; rfl, HB.out⟩
  · rw [allTwo_len hls]
    have d1 : ((m.ks.length : Int) != (n.ks.length : Int)) = true := by simp; omega
    clear HM HN HS hM hN
    go_enter Try.func31, Try.ntmps31
    go_wp2
    go_ret
    exact ⟨rfl, Below.refl _ _⟩

theorem ent_same (args : Array Value) (w : World) : (callFunc 15 args).run Try.prog w = .ok (.enter 15 args) w := enters_of Try.func15 (by kernel_rfl) rfl args w

set_option maxHeartbeats 1600000 in
set_option maxRecDepth 100000 in
theorem tsame_any : ∀ (k j : Nat) (G G' : Nat → Prop) (m n : ND) (v2 v3 u2 u3 : Value) (w : World), k ≤ j → lowR k m = true → NdAt w G m v2 v3 → NdAt w G' n u2 u3 →
    Calls Try.prog 15 #[.agg #[.string m.nm, v2, v3], .agg #[.string n.nm, u2, u3]] w fun e w' => e = .returned (.bool (sameR j m n)) ∧ Below w.heap.size w w'
  | 0, _, _, _, _, _, _, _, _, _, _, _, h, _, _ => by cases h
  | k + 1, 0, _, _, _, _, _, _, _, _, _, h, _, _, _ => absurd h (by omega)
  | k + 1, j + 1, G, G', m, n, v2, v3, u2, u3, w, hkj, hlow, hM, hN => by
    have HIH := Lib.hid (fun x y x2 x3 y2 y3 W (hx : x ∈ m.ks) h h' => tsame_any k j G G' x y x2 x3 y2 y3 W (by omega) (low_kids hlow x hx) h h')
    obtain ⟨A, K, pc, kc, rfl, rfl, hpc, hpm, hkc, hkm⟩ := nd_shape hM
    obtain ⟨A', K', pc', kc', rfl, rfl, hpc', hpm', hkc', hkm'⟩ := nd_shape hN
    have hsm : sameR (j + 1) m n = (decide (m.nm = n.nm) && (allTwo sameP m.ps n.ps && allTwo (sameR j) m.ks n.ks)) := rfl
    obtain ⟨W1, hW1⟩ : ∃ W1, W1 = (w.alloc (.cells #[.string m.nm, .slice A m.ps.length pc, .slice K m.ks.length kc] 25)).alloc (.cells #[.string n.nm, .slice A' n.ps.length pc', .slice K' n.ks.length kc'] 25) := ⟨_, rfl⟩
    obtain ⟨g8, hg8⟩ : ∃ g8, g8 = w.heap.size := ⟨_, rfl⟩
    obtain ⟨g9, hg9⟩ : ∃ g9, g9 = w.heap.size + 1 := ⟨_, rfl⟩
    have hB1 : Below w.heap.size w W1 := by rw [hW1]; exact ((Below.refl _ _).alloc (Nat.le_refl _) _).alloc (by rw [sz_alloc]; omega) _
    have hA8 : Arr W1 g8 25 #[.string m.nm, .slice A m.ps.length pc, .slice K m.ks.length kc] := by rw [hW1, hg8]; exact (Arr.new w _ _).alloc _
    have hA9 : Arr W1 g9 25 #[.string n.nm, .slice A' n.ps.length pc', .slice K' n.ks.length kc'] := by rw [hW1, hg9]; exact Arr.new1 w _ _ _
    have HM1 := Lib.hid (nd_below hM hB1)
    have HN1 := Lib.hid (nd_below hN hB1)
    have HA8 := Lib.hid hA8
    have HA9 := Lib.hid hA9
    have HB1 := Lib.hid hB1
    have hz1 := hB1.size
    have k80 : W1.cell? ⟨g8, 0, none⟩ = some (.string m.nm) := hA8.cell 0
    have k81 : W1.cell? ⟨g8, 1, none⟩ = some (.slice A m.ps.length pc) := hA8.cell 1
    have k90 : W1.cell? ⟨g9, 0, none⟩ = some (.string n.nm) := hA9.cell 0
    have k91 : W1.cell? ⟨g9, 1, none⟩ = some (.slice A' n.ps.length pc') := hA9.cell 1
    have HSP := Lib.hid (equal_props G G' A A' pc pc' m.ps n.ps W1 (nd_props HM1.out).1 (nd_props HN1.out).1 (Nat.le_trans hpc hpm))
    clear hM hN hB1 hA8 hA9 hlow
    by_cases q1 : m.nm = n.nm
    · have qa : (m.nm.toList == n.nm.toList) = true := by rw [q1]; simp
      rw [decide_eq_true q1, Bool.true_and] at hsm
      cases q2 : allTwo sameP m.ps n.ps with
      | false =>
        rw [q2, Bool.false_and] at hsm
        have HE := Lib.hid hsm
        rw [q2] at HSP
        clear q1 q2 hsm HIH
        generalize sameR (j + 1) m n = R at *
        go_enter Try.func15, Try.ntmps15
        go_upto_region 1 with fail
        rw [← hW1, ← hg9, ← hg8]
        clear hW1 hg9 hg8
        go_wp2_with fail
        refine HSP.out.mono ?_
        rintro e w2 ⟨rfl, hb2⟩
        have HB2 := Lib.hid (HB1.out.trans (hb2.mono hz1))
        clear hb2 HSP
        go_wp2
        go_ret
        exact ⟨by rw [HE.out]; rfl, HB2.out⟩
      | true =>
        rw [q2, Bool.true_and] at hsm
        have HE := Lib.hid hsm
        rw [q2] at HSP
        have HQ := Lib.hid (fun W h h' => equal_kids G G' 15 j m n (.slice A m.ps.length pc) (.slice A' n.ps.length pc') K K' kc kc' W h h' ent_same HIH.out)
        clear q1 q2 hsm HIH
        generalize sameR (j + 1) m n = R at *
        generalize allTwo (sameR j) m.ks n.ks = R2 at *
        go_enter Try.func15, Try.ntmps15
        go_upto_region 1 with fail
        rw [← hW1, ← hg9, ← hg8]
        clear hW1 hg9 hg8
        go_wp2_with fail
        refine HSP.out.mono ?_
        rintro e w2 ⟨rfl, hb2⟩
        have HQ2 := Lib.hid (HQ.out w2 (nd_below HM1.out hb2) (nd_below HN1.out hb2))
        have HB2 := Lib.hid (HB1.out.trans (hb2.mono hz1))
        have hz2 := HB2.out.size
        have k82 : w2.cell? ⟨g8, 2, none⟩ = some (.slice K m.ks.length kc) := (HA8.out.below hb2 HA8.out.lt).cell 2
        have k92 : w2.cell? ⟨g9, 2, none⟩ = some (.slice K' n.ks.length kc') := (HA9.out.below hb2 HA9.out.lt).cell 2
        clear hb2 HSP HQ HM1 HN1 HA8 HA9 HB1 k80 k81 k90 k91
        go_wp2_with fail
        refine HQ2.out.mono ?_
        rintro e w3 ⟨rfl, hb3⟩
        have HB3 := Lib.hid (HB2.out.trans (hb3.mono hz2))
        clear hb3 HQ2
        go_wp2
        go_ret
        exact ⟨by rw [HE.out]; rfl, HB3.out⟩
    · have qa : (m.nm.toList == n.nm.toList) = false := by simpa using str_ne12 q1
      rw [decide_eq_false q1, Bool.false_and] at hsm
      have HE := Lib.hid hsm
      clear q1 hsm HIH HSP
      generalize sameR (j + 1) m n = R at *
      go_enter Try.func15, Try.ntmps15
      go_upto_region 1 with fail
      rw [← hW1, ← hg9, ← hg8]
      clear hW1 hg9 hg8
      go_wp2
      go_ret
      exact ⟨by rw [HE.out]; rfl, HB1.out⟩
end Go.Proofs.Ytjddclkfakphlaa
