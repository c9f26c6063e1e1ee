/- What the document's SameProps, same and Same of trees return. Conditions: trees that are read. -/
import Derived.Test.YtmgfnghegcfhnaaMg11
namespace Go.Proofs.Ytmgfnghegcfhnaa
open Go.RowKit

theorem allTwo_len {α : Type} {f : α → α → Bool} : ∀ {l s : List α}, l.length ≠ s.length → allTwo f l s = false
  | [], [], h => absurd rfl h
  | [], _ :: _, _ => rfl
  | _ :: _, [], _ => rfl
  | x :: r, y :: s, h => by
    show (f x y && allTwo f r s) = false
    rw [allTwo_len (fun e => h (by simp [e])), Bool.and_false]
theorem allTwo_yes {α : Type} {f : α → α → Bool} (d : α) : ∀ {l s : List α}, l.length = s.length → (∀ k, k < l.length → f (l.getD k d) (s.getD k d) = true) → allTwo f l s = true
  | [], [], _, _ => rfl
  | [], _ :: _, h, _ => by simp at h
  | _ :: _, [], h, _ => by simp at h
  | x :: r, y :: s, h, hk => by
    show (f x y && allTwo f r s) = true
    rw [show f x y = true from hk 0 (by simp), allTwo_yes d (by simpa using h) (fun k h' => by have := hk (k + 1) (by simpa using h'); simpa using this)]
    rfl
theorem allTwo_no {α : Type} {f : α → α → Bool} (d : α) : ∀ {l s : List α} (k : Nat), k < l.length → f (l.getD k d) (s.getD k d) = false → l.length = s.length → allTwo f l s = false
  | [], _, k, h, _, _ => absurd h (Nat.not_lt_zero k)
  | _ :: _, [], _, _, _, h => by simp at h
  | x :: r, y :: s, 0, _, h, _ => by
    show (f x y && allTwo f r s) = false
    rw [show f x y = false from h]; rfl
  | x :: r, y :: s, k + 1, hk, h, hl => by
    show (f x y && allTwo f r s) = false
    rw [allTwo_no d (l := r) (s := s) k (by simpa using hk) (by simpa using h) (by simpa using hl), Bool.and_false]

set_option maxHeartbeats 800000 in
set_option maxRecDepth 100000 in
theorem rsameprops_any (G G' : Nat → Prop) (A A' : Option Addr) (pc pc' : Nat) (l s : List PR) (w : World) (hr : RdPr w G A l) (hr' : RdPr w G' A' s) (hl : l.length ≤ maxLen) :
    Calls Try.prog 44 #[.slice A l.length pc, .slice A' s.length pc'] w fun e w' => e = .returned (.bool (allTwo sameP l s)) ∧ Below w.heap.size w w' := by
  have HR := Lib.hid hr
  have HR' := Lib.hid hr'
  unfold maxLen at hl
  by_cases hls : l.length = s.length
  · have HY := Lib.hid (allTwo_yes (f := sameP) pr0 hls)
    have HNO := Lib.hid (fun k hk h => allTwo_no (f := sameP) pr0 (l := l) (s := s) k hk h hls)
    generalize allTwo sameP l s = R at *
    clear hr hr'
    rw [← hls]
    have HLS := Lib.hid hls
    clear hls
    go_enter Try.func44, Try.ntmps44
    go_wp2
    go_loopw [5] (fun i wr => ∃ k : Nat, k ≤ l.length ∧ i = .int .i64 k ∧ Hid (∀ j, j < k → sameP (l.getD j pr0) (s.getD j pr0) = true) ∧ Below w.heap.size w wr) (fun i _ => l.length - (intOf i).toNat)
    case atStart => exact ⟨0, Nat.zero_le _, rfl, (fun j h => absurd h (by omega)), Below.refl _ _⟩
    case round =>
      obtain ⟨k, hk, rfl, HK, hb⟩ := hrel
      have HB := Lib.hid hb
      have hsz := hb.size
      by_cases hlt : k < l.length
      · have hki : (k : Int) < l.length := by omega
        have c1 : decide ((k : Int) < l.length) = true := decide_eq_true hki
        obtain ⟨b, off, x, rfl, ⟨h1, h2⟩, HX⟩ := (HR.out.kept (Moved.of_below (hb) (fun _ => False)) (fun _ _ h => h)).at_ hlt
        obtain ⟨b', off', x', rfl, ⟨g1, g2⟩, HX'⟩ := (HR'.out.kept (Moved.of_below (hb) (fun _ => False)) (fun _ _ h => h)).at_ (show k < s.length by have := HLS.out; omega)
        obtain ⟨nm, vl⟩ := x
        obtain ⟨nm', vl'⟩ := x'
        simp only at h1 h2 g1 g2
        clear hb
        by_cases t1 : nm = nm'
        · subst t1
          by_cases t2 : vl = vl'
          · subst t2
            have HK1 : Hid (∀ j, j < k + 1 → sameP (l.getD j pr0) (s.getD j pr0) = true) := fun j hj => by
              by_cases e : j = k
              · subst e; rw [HX.out, HX'.out]; exact decide_eq_true ⟨rfl, rfl⟩
              · exact HK.out j (by omega)
            clear HX HX'
            go_wp2
            go_quiet (fail)
            have HB2 := Lib.hid (HB.out.trans ((below_drewN wr nq).mono hsz))
            go_wp2
            go_roundw
            case rel => exact ⟨k + 1, by omega, by go_num, HK1, HB2.out⟩
            case measure => simp [intOf]; omega
          · have HE := Lib.hid (HNO.out k hlt (by rw [HX.out, HX'.out]; exact decide_eq_false (fun h => t2 h.2)))
            have q2 : ¬ vl.toList = vl'.toList := by rw [ByteArray.toList_eq, ByteArray.toList_eq]; exact fun e => t2 (ByteArray.ext (Array.ext' e))
            clear HX HX' t2
            go_wp2
            go_quiet (fail)
            have HB2 := Lib.hid (HB.out.trans ((below_drewN wr nq).mono hsz))
            go_wp2
            go_ret
            exact ⟨by rw [HE.out]; rfl, HB2.out⟩
        · have HE := Lib.hid (HNO.out k hlt (by rw [HX.out, HX'.out]; exact decide_eq_false (fun h => t1 h.1)))
          have q1 : ¬ nm.toList = nm'.toList := by rw [ByteArray.toList_eq, ByteArray.toList_eq]; exact fun e => t1 (ByteArray.ext (Array.ext' e))
          clear HX HX' t1
          go_wp2
          go_quiet (fail)
          have HB2 := Lib.hid (HB.out.trans ((below_drewN wr nq).mono hsz))
          go_wp2
          go_ret
          exact ⟨by rw [HE.out]; rfl, HB2.out⟩
      · obtain rfl : k = l.length := by omega
        have c1 : decide ((l.length : Int) < l.length) = false := decide_eq_false (by omega)
        have HE := Lib.hid (HY.out HK.out)
        clear hb
        go_wp2
        go_ret
        exact ⟨by rw [HE.out]; rfl, HB.out⟩
  · rw [allTwo_len hls]
    have d1 : ((l.length : Int) != (s.length : Int)) = true := by simp; omega
    clear HR HR' hr hr'
    go_enter Try.func44, Try.ntmps44
    go_wp2
    go_ret
    exact ⟨rfl, Below.refl _ _⟩

theorem str_ne12 {a b : ByteArray} (h : a ≠ b) : ¬ a.toList = b.toList := by rw [ByteArray.toList_eq, ByteArray.toList_eq]; exact fun e => h (ByteArray.ext (Array.ext' e))
set_option maxHeartbeats 3200000 in
set_option maxRecDepth 100000 in
theorem rsame_any (G G' : Nat → Prop) : ∀ (k : Nat) (m n : ND) (v2 v3 u2 u3 : Value) (w : World), k ≤ 20 → NdAt w G m v2 v3 → NdAt w G' n u2 u3 →
    Calls Try.prog 36 #[.agg #[.string m.nm, v2, v3], .agg #[.string n.nm, u2, u3], .int .i64 (k : Int)] w fun e w' => e = .returned (.bool (sameR k m n)) ∧ Below w.heap.size w w'
  | 0, m, n, v2, v3, u2, u3, w, _, _, _ => by
    have hB : Below w.heap.size w ((w.alloc (.cells #[.string m.nm, v2, v3] 29)).alloc (.cells #[.string n.nm, u2, u3] 29)) := ((Below.refl _ _).alloc (Nat.le_refl _) _).alloc (by rw [sz_alloc]; omega) _
    have HB := Lib.hid hB
    clear hB
    go_enter Try.func36, Try.ntmps36
    go_wp2
    go_ret
    exact ⟨rfl, HB.out⟩
  | k + 1, m, n, v2, v3, u2, u3, w, hk20, hM, hN => by
    have HIH := Lib.hid (fun x y x2 x3 y2 y3 W h h' => rsame_any G G' k x y x2 x3 y2 y3 W (by omega) h h')
    have e1 : (k : Int) = ((k + 1 : Nat) : Int) - 1 := by omega
    rw [e1] at HIH
    obtain ⟨A, K, pc, kc, rfl, rfl, hpc, hpm, hkc, hkm⟩ := nd_shape hM
    obtain ⟨A', K', pc', kc', rfl, rfl, hpc', hpm', hkc', hkm'⟩ := nd_shape hN
    unfold maxLen at hpm hkm hpm' hkm'
    have hsm : sameR (k + 1) m n = (decide (m.nm = n.nm) && (allTwo sameP m.ps n.ps && allTwo (sameR k) m.ks n.ks)) := rfl
    have HF1 : Hid (m.nm ≠ n.nm → sameR (k + 1) m n = false) := fun h => by rw [hsm, decide_eq_false h]; rfl
    have HF2 : Hid (allTwo sameP m.ps n.ps = false → sameR (k + 1) m n = false) := fun h => by rw [hsm, h]; simp
    have HF3 : Hid (m.ks.length ≠ n.ks.length → sameR (k + 1) m n = false) := fun h => by rw [hsm, allTwo_len h]; simp
    have HF4 : Hid (∀ j, j < m.ks.length → sameR k (m.ks.getD j nd0) (n.ks.getD j nd0) = false → m.ks.length = n.ks.length → sameR (k + 1) m n = false) := fun j hj h he => by rw [hsm, allTwo_no nd0 j hj h he]; simp
    have HT : Hid (m.nm = n.nm → allTwo sameP m.ps n.ps = true → m.ks.length = n.ks.length → (∀ j, j < m.ks.length → sameR k (m.ks.getD j nd0) (n.ks.getD j nd0) = true) → sameR (k + 1) m n = true) := fun h1 h2 h3 h4 => by
      rw [hsm, decide_eq_true h1, h2, allTwo_yes nd0 h3 h4]; rfl
    generalize sameR (k + 1) m n = R at *
    clear hsm e1
    have d0 : (((k + 1 : Nat) : Int) == 0) = false := by simp; omega
    obtain ⟨KK, hKK⟩ : ∃ KK : Nat, KK = k + 1 := ⟨_, rfl⟩
    rw [← hKK] at HIH d0 hk20 ⊢
    obtain ⟨W1, hW1⟩ : ∃ W1, W1 = (w.alloc (.cells #[.string m.nm, .slice A m.ps.length pc, .slice K m.ks.length kc] 29)).alloc (.cells #[.string n.nm, .slice A' n.ps.length pc', .slice K' n.ks.length kc'] 29) := ⟨_, rfl⟩
    obtain ⟨g8, hg8⟩ : ∃ g8, g8 = w.heap.size := ⟨_, rfl⟩
    obtain ⟨g9, hg9⟩ : ∃ g9, g9 = w.heap.size + 1 := ⟨_, rfl⟩
    have hB1 : Below w.heap.size w W1 := by rw [hW1]; exact ((Below.refl _ _).alloc (Nat.le_refl _) _).alloc (by rw [sz_alloc]; omega) _
    have hA8 : Arr W1 g8 29 #[.string m.nm, .slice A m.ps.length pc, .slice K m.ks.length kc] := by rw [hW1, hg8]; exact (Arr.new w _ _).alloc _
    have hA9 : Arr W1 g9 29 #[.string n.nm, .slice A' n.ps.length pc', .slice K' n.ks.length kc'] := by rw [hW1, hg9]; exact Arr.new1 w _ _ _
    have HM1 := Lib.hid (nd_below hM hB1)
    have HN1 := Lib.hid (nd_below hN hB1)
    have HA8 := Lib.hid hA8
    have HA9 := Lib.hid hA9
    have HB1 := Lib.hid hB1
    have hz1 := hB1.size
    have k80 : W1.cell? ⟨g8, 0, none⟩ = some (.string m.nm) := hA8.cell 0
    have k81 : W1.cell? ⟨g8, 1, none⟩ = some (.slice A m.ps.length pc) := hA8.cell 1
    have k90 : W1.cell? ⟨g9, 0, none⟩ = some (.string n.nm) := hA9.cell 0
    have k91 : W1.cell? ⟨g9, 1, none⟩ = some (.slice A' n.ps.length pc') := hA9.cell 1
    have HSP := Lib.hid (rsameprops_any G G' A A' pc pc' m.ps n.ps W1 (nd_props HM1.out).1 (nd_props HN1.out).1 (by unfold maxLen; omega))
    clear hM hN hB1 hA8 hA9 hKK
    by_cases q1 : m.nm = n.nm
    · have qa : (m.nm.toList == n.nm.toList) = true := by rw [q1]; simp
      cases q2 : allTwo sameP m.ps n.ps with
      | false =>
        have HE := Lib.hid (HF2.out q2)
        rw [q2] at HSP
        clear q1 q2 HF1 HF2 HF3 HF4 HT HIH
        go_enter Try.func36, Try.ntmps36
        go_upto_region 1 with fail
        rw [← hW1, ← hg9, ← hg8]
        clear hW1 hg9 hg8
        go_wp2_with fail
        refine HSP.out.mono ?_
        rintro e w2 ⟨rfl, hb2⟩
        have HB2 := Lib.hid (HB1.out.trans (hb2.mono hz1))
        clear hb2 HSP
        go_wp2
        go_ret
        exact ⟨by rw [HE.out]; rfl, HB2.out⟩
      | true =>
        rw [q2] at HSP
        by_cases q3 : m.ks.length = n.ks.length
        · have HT2 := Lib.hid (HT.out q1 q2 q3)
          have HF5 := Lib.hid (fun j hj h => HF4.out j hj h q3)
          have HQ3 := Lib.hid q3
          rw [← q3] at HA9 hkc' hW1 ⊢
          clear q1 q2 q3 HF1 HF2 HF3 HF4 HT
          go_enter Try.func36, Try.ntmps36
          go_upto_region 1 with fail
          rw [← hW1, ← hg9, ← hg8]
          clear hW1 hg9 hg8
          go_wp2_with fail
          refine HSP.out.mono ?_
          rintro e w2 ⟨rfl, hb2⟩
          have HM2 := Lib.hid (nd_below HM1.out hb2)
          have HN2 := Lib.hid (nd_below HN1.out hb2)
          have HA82 := Lib.hid (HA8.out.below hb2 HA8.out.lt)
          have HA92 := Lib.hid (HA9.out.below hb2 HA9.out.lt)
          have HB2 := Lib.hid (HB1.out.trans (hb2.mono hz1))
          have hz2 := HB2.out.size
          have k82 : w2.cell? ⟨g8, 2, none⟩ = some (.slice K m.ks.length kc) := HA82.out.cell 2
          have k92 : w2.cell? ⟨g9, 2, none⟩ = some (.slice K' m.ks.length kc') := HA92.out.cell 2
          clear hb2 HSP HM1 HN1 HA8 HA9 HB1 k80 k81 k90 k91
          go_wp2
          go_loopw [7] (fun i wr => ∃ j : Nat, j ≤ m.ks.length ∧ i = .int .i64 j ∧ Hid (∀ i, i < j → sameR k (m.ks.getD i nd0) (n.ks.getD i nd0) = true) ∧ Below w2.heap.size w2 wr) (fun i _ => m.ks.length - (intOf i).toNat)
          case atStart => exact ⟨0, Nat.zero_le _, rfl, (fun j h => absurd h (by omega)), Below.refl _ _⟩
          case round =>
            clear k82 k92
            obtain ⟨j, hj, rfl, HJ, hb⟩ := hrel
            have HBR := Lib.hid hb
            have hzr := hb.size
            have k82 : wr.cell? ⟨g8, 2, none⟩ = some (.slice K m.ks.length kc) := (HA82.out.below hb HA82.out.lt).cell 2
            have k92 : wr.cell? ⟨g9, 2, none⟩ = some (.slice K' m.ks.length kc') := (HA92.out.below hb HA92.out.lt).cell 2
            by_cases hlt : j < m.ks.length
            · have hji : (j : Int) < m.ks.length := by omega
              have c1 : decide ((j : Int) < m.ks.length) = true := decide_eq_true hji
              obtain ⟨b, off, x, x2, x3, rfl, h1, h2, h3, h4, HX⟩ := nd_kid (nd_below HM2.out hb) hlt
              obtain ⟨b', off', y, y2, y3, rfl, g1, g2, g3, g4, HY⟩ := nd_kid (nd_below HN2.out hb) (show j < n.ks.length by have := HQ3.out; omega)
              have HKP : Hid (∀ W', Below wr.heap.size wr W' → (W'.cell? ⟨g8, 2, none⟩ = some (.slice (some ⟨b, off, none⟩) m.ks.length kc) ∧ W'.cell? ⟨g9, 2, none⟩ = some (.slice (some ⟨b', off', none⟩) m.ks.length kc') ∧ W'.cell? ⟨b, off + j * 3, none⟩ = some (.string x.nm) ∧ W'.cell? ⟨b, off + j * 3 + 1, none⟩ = some x2 ∧ W'.cell? ⟨b, off + j * 3 + 2, none⟩ = some x3 ∧ W'.cell? ⟨b', off' + j * 3, none⟩ = some (.string y.nm) ∧ W'.cell? ⟨b', off' + j * 3 + 1, none⟩ = some y2 ∧ W'.cell? ⟨b', off' + j * 3 + 2, none⟩ = some y3) ∧ Below wr.heap.size wr W') := fun W' h =>
                have M := Moved.of_below h (fun _ => False)
                ⟨⟨cell_kept M id k82, cell_kept M id k92, cell_kept M id h1, cell_kept M id h2, cell_kept M id h3, cell_kept M id g1, cell_kept M id g2, cell_kept M id g3⟩, h⟩
              have HC : Hid (∀ W', Below wr.heap.size wr W' → Calls Try.prog 36 #[.agg #[.string x.nm, x2, x3], .agg #[.string y.nm, y2, y3], .int .i64 (IntKind.i64.wrap ((KK : Int) - 1))] W' fun e w' => e = .returned (.bool (sameR k x y)) ∧ Below wr.heap.size wr w') := fun W' h => by rw [IntKind.wrap_i64, show ((KK : Int) - 1 + 9223372036854775808) % 18446744073709551616 - 9223372036854775808 = (KK : Int) - 1 by omega]; exact (HIH.out x y x2 x3 y2 y3 W' (nd_below h4 h) (nd_below g4 h)).mono fun e w' ⟨r1, r2⟩ => ⟨r1, h.trans (r2.mono h.size)⟩
              have hbd : Below wr.heap.size wr wr.drew := (Below.refl _ _).drew
              clear hb h4 g4
              cases hs : sameR k x y with
              | true =>
                have HJ1 : Hid (∀ i, i < j + 1 → sameR k (m.ks.getD i nd0) (n.ks.getD i nd0) = true) := fun i hi => by
                  by_cases e : i = j
                  · subst e; rw [HX.out, HY.out]; exact hs
                  · exact HJ.out i (by omega)
                rw [hs] at HC
                clear HX HY hs
                go_upto_region 6 with fail
                go_region_held3 (fun w' => (w'.cell? ⟨g8, 2, none⟩ = some (.slice (some ⟨b, off, none⟩) m.ks.length kc) ∧ w'.cell? ⟨g9, 2, none⟩ = some (.slice (some ⟨b', off', none⟩) m.ks.length kc') ∧ w'.cell? ⟨b, off + j * 3, none⟩ = some (.string x.nm) ∧ w'.cell? ⟨b, off + j * 3 + 1, none⟩ = some x2 ∧ w'.cell? ⟨b, off + j * 3 + 2, none⟩ = some x3 ∧ w'.cell? ⟨b', off' + j * 3, none⟩ = some (.string y.nm) ∧ w'.cell? ⟨b', off' + j * 3 + 1, none⟩ = some y2 ∧ w'.cell? ⟨b', off' + j * 3 + 2, none⟩ = some y3) ∧ Below wr.heap.size wr w') (exact HKP.out _ (by assumption))
                  (first | (go_at_call 36; with_reducible refine (HC.out _ (by assumption)).mono ?_; rintro e w7 ⟨rfl, s1⟩))
                have HBR3 := Lib.hid (HBR.out.trans (s1.mono hzr))
                clear s1 HC HKP hbd h1 h2 h3 g1 g2 g3
                go_wp2
                go_roundw
                case rel => exact ⟨j + 1, by omega, by go_num, HJ1, HBR3.out⟩
                case measure => simp [intOf]; omega
              | false =>
                have HE := Lib.hid (HF5.out j hlt (by rw [HX.out, HY.out]; exact hs))
                rw [hs] at HC
                clear HX HY hs
                go_upto_region 6 with fail
                go_region_held3 (fun w' => (w'.cell? ⟨g8, 2, none⟩ = some (.slice (some ⟨b, off, none⟩) m.ks.length kc) ∧ w'.cell? ⟨g9, 2, none⟩ = some (.slice (some ⟨b', off', none⟩) m.ks.length kc') ∧ w'.cell? ⟨b, off + j * 3, none⟩ = some (.string x.nm) ∧ w'.cell? ⟨b, off + j * 3 + 1, none⟩ = some x2 ∧ w'.cell? ⟨b, off + j * 3 + 2, none⟩ = some x3 ∧ w'.cell? ⟨b', off' + j * 3, none⟩ = some (.string y.nm) ∧ w'.cell? ⟨b', off' + j * 3 + 1, none⟩ = some y2 ∧ w'.cell? ⟨b', off' + j * 3 + 2, none⟩ = some y3) ∧ Below wr.heap.size wr w') (exact HKP.out _ (by assumption))
                  (first | (go_at_call 36; with_reducible refine (HC.out _ (by assumption)).mono ?_; rintro e w7 ⟨rfl, s1⟩))
                have HBR3 := Lib.hid (HB2.out.trans ((HBR.out.trans (s1.mono hzr)).mono hz2))
                clear s1 HC HKP hbd h1 h2 h3 g1 g2 g3
                go_wp2
                go_ret
                exact ⟨by rw [HE.out]; rfl, HBR3.out⟩
            · obtain rfl : j = m.ks.length := by omega
              have c1 : decide ((m.ks.length : Int) < m.ks.length) = false := decide_eq_false (by omega)
              have HE := Lib.hid (HT2.out HJ.out)
              have HBR3 := Lib.hid (HB2.out.trans (hb.mono hz2))
              clear hb
              go_wp2
              go_ret
              exact ⟨by rw [HE.out]; rfl, HBR3.out⟩
        · have HE := Lib.hid (HF3.out q3)
          have c3 : ((m.ks.length : Int) != (n.ks.length : Int)) = true := by simp; omega
          clear q1 q2 q3 HF1 HF2 HF3 HF4 HT HIH
          go_enter Try.func36, Try.ntmps36
          go_upto_region 1 with fail
          rw [← hW1, ← hg9, ← hg8]
          clear hW1 hg9 hg8
          go_wp2_with fail
          refine HSP.out.mono ?_
          rintro e w2 ⟨rfl, hb2⟩
          have HB2 := Lib.hid (HB1.out.trans (hb2.mono hz1))
          have k82 : w2.cell? ⟨g8, 2, none⟩ = some (.slice K m.ks.length kc) := (HA8.out.below hb2 HA8.out.lt).cell 2
          have k92 : w2.cell? ⟨g9, 2, none⟩ = some (.slice K' n.ks.length kc') := (HA9.out.below hb2 HA9.out.lt).cell 2
          clear hb2 HSP
          go_wp2
          go_ret
          exact ⟨by rw [HE.out]; rfl, HB2.out⟩
    · have HE := Lib.hid (HF1.out q1)
      have qa : (m.nm.toList == n.nm.toList) = false := by simpa using str_ne12 q1
      clear q1 HF1 HF2 HF3 HF4 HT HIH HSP
      go_enter Try.func36, Try.ntmps36
      go_upto_region 1 with fail
      rw [← hW1, ← hg9, ← hg8]
      clear hW1 hg9 hg8
      go_wp2
      go_ret
      exact ⟨by rw [HE.out]; rfl, HB1.out⟩

/-- Trees of at most 12 levels are the same in 20 levels just if they are equal. -/
theorem nd_ext {m n : ND} (h1 : m.nm = n.nm) (h2 : m.ps = n.ps) (h3 : m.ks = n.ks) : m = n := by cases m; cases n; cases h1; cases h2; cases h3; rfl
theorem allTwo_eq {α : Type} {f : α → α → Bool} : ∀ {l s : List α}, (∀ x ∈ l, ∀ y, f x y = true → x = y) → allTwo f l s = true → l = s
  | [], [], _, _ => rfl
  | [], _ :: _, _, h => by cases h
  | _ :: _, [], _, h => by cases h
  | x :: r, y :: s, hf, h => by
    have h' : (f x y && allTwo f r s) = true := h
    rw [Bool.and_eq_true] at h'
    rw [hf x (by simp) y h'.1, allTwo_eq (fun z hz => hf z (by simp [hz])) h'.2]
theorem allTwo_refl {α : Type} {f : α → α → Bool} : ∀ {l : List α}, (∀ x ∈ l, f x x = true) → allTwo f l l = true
  | [], _ => rfl
  | x :: r, hf => by
    show (f x x && allTwo f r r) = true
    rw [hf x (by simp), allTwo_refl (fun z hz => hf z (by simp [hz]))]; rfl
theorem sameP_iff {a b : PR} : sameP a b = true ↔ a = b := by
  unfold sameP
  rw [decide_eq_true_iff]
  constructor
  · rintro ⟨h1, h2⟩; cases a; cases b; cases h1; cases h2; rfl
  · rintro rfl; exact ⟨rfl, rfl⟩
theorem sameR_refl : ∀ (k : Nat) (n : ND), sameR k n n = true
  | 0, _ => rfl
  | k + 1, n => by
    show (decide (n.nm = n.nm) && (allTwo sameP n.ps n.ps && allTwo (sameR k) n.ks n.ks)) = true
    rw [decide_eq_true rfl, allTwo_refl (fun x _ => sameP_iff.2 rfl), allTwo_refl (fun x _ => sameR_refl k x)]; rfl
/-- A tree of fewer levels than are looked at is the same only as itself. -/
theorem sameR_eq : ∀ (j k : Nat) (m n : ND), lowR j m = true → j ≤ k → sameR k m n = true → m = n
  | 0, _, _, _, h, _, _ => by cases h
  | j + 1, 0, _, _, _, h, _ => absurd h (by omega)
  | j + 1, k + 1, m, n, hl, hjk, h => by
    have h' : (decide (m.nm = n.nm) && (allTwo sameP m.ps n.ps && allTwo (sameR k) m.ks n.ks)) = true := h
    rw [Bool.and_eq_true, Bool.and_eq_true] at h'
    exact nd_ext (of_decide_eq_true h'.1) (allTwo_eq (fun x _ y => sameP_iff.1) h'.2.1) (allTwo_eq (fun x hx y hxy => sameR_eq j k x y (low_kids hl x hx) (by omega) hxy) h'.2.2)

set_option maxHeartbeats 800000 in
set_option maxRecDepth 100000 in
theorem rSame_any (G G' : Nat → Prop) (m n : ND) (v2 v3 u2 u3 : Value) (w : World) (hM : NdAt w G m v2 v3) (hN : NdAt w G' n u2 u3) :
    Calls Try.prog 19 #[.agg #[.string m.nm, v2, v3], .agg #[.string n.nm, u2, u3]] w fun e w' => e = .returned (.bool (sameR 20 m n)) ∧ Below w.heap.size w w' := by
  obtain ⟨W1, hW1⟩ : ∃ W1, W1 = (w.alloc (.cells #[.string m.nm, v2, v3] 29)).alloc (.cells #[.string n.nm, u2, u3] 29) := ⟨_, rfl⟩
  obtain ⟨g8, hg8⟩ : ∃ g8, g8 = w.heap.size := ⟨_, rfl⟩
  obtain ⟨g9, hg9⟩ : ∃ g9, g9 = w.heap.size + 1 := ⟨_, rfl⟩
  have hB1 : Below w.heap.size w W1 := by rw [hW1]; exact ((Below.refl _ _).alloc (Nat.le_refl _) _).alloc (by rw [sz_alloc]; omega) _
  have hA8 : Arr W1 g8 29 #[.string m.nm, v2, v3] := by rw [hW1, hg8]; exact (Arr.new w _ _).alloc _
  have hA9 : Arr W1 g9 29 #[.string n.nm, u2, u3] := by rw [hW1, hg9]; exact Arr.new1 w _ _ _
  have HB1 := Lib.hid hB1
  have hz1 := hB1.size
  have k80 : W1.cell? ⟨g8, 0, none⟩ = some (.string m.nm) := hA8.cell 0
  have k81 : W1.cell? ⟨g8, 1, none⟩ = some v2 := hA8.cell 1
  have k82 : W1.cell? ⟨g8, 2, none⟩ = some v3 := hA8.cell 2
  have k90 : W1.cell? ⟨g9, 0, none⟩ = some (.string n.nm) := hA9.cell 0
  have k91 : W1.cell? ⟨g9, 1, none⟩ = some u2 := hA9.cell 1
  have k92 : W1.cell? ⟨g9, 2, none⟩ = some u3 := hA9.cell 2
  have HC : Hid (∀ W', Below W1.heap.size W1 W' → Calls Try.prog 36 #[.agg #[.string m.nm, v2, v3], .agg #[.string n.nm, u2, u3], .int .i64 20] W' fun e w' => e = .returned (.bool (sameR 20 m n)) ∧ Below W1.heap.size W1 w') := fun W' h =>
    (rsame_any G G' 20 m n v2 v3 u2 u3 W' (by omega) (nd_below (nd_below hM hB1) h) (nd_below (nd_below hN hB1) h)).mono fun e w' ⟨r1, r2⟩ => ⟨r1, h.trans (r2.mono h.size)⟩
  generalize sameR 20 m n = R at *
  have hbd : Below W1.heap.size W1 W1 := Below.refl _ _
  clear hM hN hB1 hA8 hA9
  go_enter Try.func19, Try.ntmps19
  go_upto_region 1 with fail
  rw [← hW1, ← hg9, ← hg8]
  clear hW1 hg9 hg8
  go_wp2_with fail
  refine (HC.out _ hbd).mono ?_
  rintro e w3 ⟨rfl, hb3⟩
  have HB3 := Lib.hid (HB1.out.trans (hb3.mono hz1))
  clear hb3 HC hbd
  go_wp2
  go_ret
  exact ⟨rfl, HB3.out⟩
end Go.Proofs.Ytmgfnghegcfhnaa
