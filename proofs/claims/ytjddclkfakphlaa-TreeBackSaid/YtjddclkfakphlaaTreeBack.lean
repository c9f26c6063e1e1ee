/- The law TreeBack: whatever comes in it returns true. Conditions: the contracts of package tree; a tree that is read, a slice that reads as tokens. -/
import Derived.Test.YtjddclkfakphlaaTrT
import Derived.Test.YtjddclkfakphlaaTkSC
namespace Go.Proofs.Ytjddclkfakphlaa
open Go.RowKit

theorem ofR_bad {l : List TK} {n : ND} {e : Nat} (h : ofR l = (n, e)) (he : e ≠ 0) : n = nd0 := by
  unfold ofR at h
  split at h
  · injection h with h1 _; exact h1.symm
  · split at h
    · injection h with _ h2; exact absurd h2.symm he
    · injection h with h1 _; exact h1.symm
theorem sayR_snoc (l : List TK) {k : Nat} (hk : k < l.length) {x : TK} (hx : l.getD k tk0 = x) : sayR (l.take (k + 1)) = if x.kd = 4 then sayR (l.take k) else sayR (l.take k) ++ [bare x] := by
  rw [take_snocT l hk, hx]
  unfold sayR
  rw [List.flatMap_append]
  by_cases h : x.kd = 4 <;> simp [h]
theorem sayR_len (l : List TK) : (sayR l).length ≤ l.length := by
  induction l with
  | nil => exact Nat.le_refl _
  | cons x l ih =>
    show ((if x.kd = 4 then [] else [bare x]) ++ sayR l).length ≤ _
    rw [List.length_append, List.length_cons]
    split
    · rw [List.length_nil]; omega
    · rw [List.length_cons, List.length_nil]; omega

set_option maxHeartbeats 3200000 in
set_option maxRecDepth 100000 in
theorem treeBack_any (M : TreeMust) (G : Nat → Prop) (n : ND) (v2 v3 : Value) (A : Option Addr) (cap : Nat) (l : List TK) (w : World) (hn : NdAt w G n v2 v3) (hr : RdTk w A l) (hl : l.length ≤ maxLen) (hkd : KdOk l) (hlc : l.length ≤ cap) (hcm : cap ≤ maxLen) :
    Calls Try.prog 5 #[.agg #[.string n.nm, v2, v3], .slice A l.length cap] w fun e w' => e = .returned (.bool true) ∧ Below w.heap.size w w' := by
  have HAW := Lib.hid (awake12 M)
  obtain ⟨W1, hW1⟩ : ∃ W1, W1 = w.alloc (.cells #[.string n.nm, v2, v3] 25) := ⟨_, rfl⟩
  obtain ⟨g2, hg2⟩ : ∃ g2, g2 = w.heap.size := ⟨_, rfl⟩
  have hb1 : Below w.heap.size w W1 := by rw [hW1]; exact (Below.refl _ _).alloc (Nat.le_refl _) _
  have hv1 : Arr W1 g2 25 #[.string n.nm, v2, v3] := by rw [hW1, hg2]; exact Arr.new w _ _
  have HV := Lib.hid hv1
  have HB := Lib.hid hb1
  have HN := Lib.hid (nd_below hn hb1)
  have HR := Lib.hid (hr.below hb1)
  have HLOW := Lib.hid (fun W h => rLow_any G n v2 v3 W h)
  have HFEW := Lib.hid (fun W h => rfew10_any A cap l W h hl)
  clear hb1 hv1 hn hr
  cases hlow : LowR n with
  | false =>
    rw [hlow] at HLOW
    clear M hlow
    go_enter Try.func5, Try.ntmps5
    go_upto_region 1 with fail
    rw [← hW1, ← hg2]
    clear hW1 hg2
    obtain ⟨c0, c1, c2⟩ := arr_nd HV.out
    go_wp2_with fail
    refine (HLOW.out _ HN.out).mono ?_
    rintro e w1 ⟨rfl, hb⟩
    clear c0 c1 c2
    have HB := Lib.hid (HB.out.trans (hb.mono HB.out.size))
    clear hb
    go_wp2_with fail
    refine (HAW.out _).mono ?_
    rintro e w1 ⟨rfl, hb⟩
    have HB := Lib.hid (HB.out.trans (hb.mono HB.out.size))
    clear hb
    go_wp2
    go_ret
    exact ⟨rfl, HB.out⟩
  | true =>
    rw [hlow] at HLOW
    cases hf : few10 l with
    | false =>
      rw [hf] at HFEW
      clear M hlow hf
      go_enter Try.func5, Try.ntmps5
      go_upto_region 1 with fail
      rw [← hW1, ← hg2]
      clear hW1 hg2
      obtain ⟨c0, c1, c2⟩ := arr_nd HV.out
      go_wp2_with fail
      refine (HLOW.out _ HN.out).mono ?_
      rintro e w1 ⟨rfl, hb⟩
      clear c0 c1 c2
      have HR := Lib.hid (HR.out.below hb)
      have HB := Lib.hid (HB.out.trans (hb.mono HB.out.size))
      clear hb
      go_wp2_with fail
      refine (HFEW.out _ HR.out).mono ?_
      rintro e w1 ⟨rfl, rfl⟩
      go_wp2_with fail
      refine (HAW.out _).mono ?_
      rintro e w1 ⟨rfl, hb⟩
      have HB := Lib.hid (HB.out.trans (hb.mono HB.out.size))
      clear hb
      go_wp2
      go_ret
      exact ⟨rfl, HB.out⟩
    | true =>
      rw [hf] at HFEW
      have h60 := (few10_len hf).1
      have hsz := sz_of_low hlow
      have HTO := Lib.hid (fun W h => M.tokens G n v2 v3 W hsz h)
      have HLT := Lib.hid (sz_count hsz).2.2.2
      have HOF1 : Hid (∀ W A cap, RdTk W A (tokR 8 n) → (tokR 8 n).length ≤ cap → cap ≤ maxLen → Calls Try.prog 21 #[.slice A (tokR 8 n).length cap] W fun e w' => ∃ v2 v3, e = .returned (.tuple #[.agg #[.string (ofR (tokR 8 n)).1.nm, v2, v3], .int .i64 ((ofR (tokR 8 n)).2 : Int)]) ∧ NdAt w' (fun k => k < w'.heap.size) (ofR (tokR 8 n)).1 v2 v3 ∧ Below W.heap.size W w') := fun W A cap h h1 h2 =>
        M.of A cap (tokR 8 n) W h (kdOk_tok 8 n) (by have := HLT.out; omega) h1 h2
      have HOFF : Hid (fitsR n = true → ofR (tokR 8 n) = (n, 0)) := fun h => of_tokens n h
      have HFI := Lib.hid (fun W h => M.fits G n v2 v3 W hsz h)
      have HS1 := Lib.hid (fun (G' : Nat → Prop) u2 u3 W h1 h2 => rSame_any G' G n n u2 u3 v2 v3 W h1 h2)
      rw [sameR_refl] at HS1
      have HOF2 := Lib.hid (fun W h => M.of A cap l W h hkd (by omega) hlc hcm)
      have HSZ : Hid (∀ W (G' : Nat → Prop) u2 u3, NdAt W G' nd0 u2 u3 → Calls Try.prog 16 #[.agg #[.string ByteArray.empty, u2, u3], .agg #[.string ⟨#[]⟩, .slice none 0 0, .slice none 0 0]] W fun e w' => e = .returned (.bool true) ∧ Below W.heap.size W w') := fun W G' u2 u3 h => by
        have := rSame_any G' (fun _ => True) nd0 nd0 u2 u3 (.slice none 0 0) (.slice none 0 0) W h (nd0_at _ _)
        rw [sameR_refl] at this
        exact this
      have HSN := Lib.hid (fun k (hk : k < l.length) x (hx : l.getD k tk0 = x) => sayR_snoc l hk hx)
      have HSL : Hid (∀ k, (sayR (l.take k)).length ≤ 60) := fun k => by
        have h1 := sayR_len (l.take k)
        rw [List.length_take] at h1
        omega
      have HSA : Hid (sayR (l.take l.length) = sayR l) := by unfold Hid; rw [List.take_length]
      have HSLL : Hid ((sayR l).length ≤ 60) := by have := HSL.out l.length; rw [HSA.out] at this; exact this
      rcases hof : ofR l with ⟨t, f⟩
      rw [hof] at HOF2
      have HBAD : Hid (f ≠ 0 → t = nd0) := fun h => ofR_bad hof h
      have HTOK : Hid (f = 0 → tokR 8 t = sayR l ∧ fitsR t = true) := fun h => by subst h; exact tokens_of hof
      have HTF := Lib.hid (fun (h : SzT t) (G' : Nat → Prop) u2 u3 W hx => M.fits G' t u2 u3 W h hx)
      have HTT := Lib.hid (fun (h : SzT t) (G' : Nat → Prop) u2 u3 W hx => M.tokens G' t u2 u3 W h hx)
      have HST := Lib.hid (fun (h : fitsR t = true) => sz_of_fits h)
      have HBARE := Lib.hid (fun x W => rbare_any x W)
      have HSAME := Lib.hid (fun A A' cap cap' W h1 h2 => sameTk_any A A' cap cap' (sayR l) W (by have := HSLL.out; omega) h1 h2)
      rcases hof1 : ofR (tokR 8 n) with ⟨m, e1⟩
      rw [hof1] at HOF1 HOFF
      simp only at HOF1 HOF2 HOFF
      clear M hlow hf hof hof1
      generalize tokR 8 n = T at *
      go_enter Try.func5, Try.ntmps5
      go_upto_region 1 with fail
      rw [← hW1, ← hg2]
      clear hW1 hg2
      obtain ⟨c0, c1, c2⟩ := arr_nd HV.out
      go_wp2_with fail
      refine (HLOW.out _ HN.out).mono ?_
      rintro e w1 ⟨rfl, hb⟩
      clear c0 c1 c2
      have HN := Lib.hid (nd_below HN.out hb)
      have HV := Lib.hid (HV.out.below hb HV.out.lt)
      have HR := Lib.hid (HR.out.below hb)
      have HB := Lib.hid (HB.out.trans (hb.mono HB.out.size))
      clear hb
      go_wp2_with fail
      refine (HFEW.out _ HR.out).mono ?_
      rintro e w1 ⟨rfl, rfl⟩
      obtain ⟨c0, c1, c2⟩ := arr_nd HV.out
      go_wp2_with fail
      refine (HTO.out _ HN.out).mono ?_
      rintro e w1 ⟨B, bc, rfl, hT, hT1, hT2, hb⟩
      clear c0 c1 c2
      have HTK := Lib.hid hT
      clear hT
      have HN := Lib.hid (nd_below HN.out hb)
      have HV := Lib.hid (HV.out.below hb HV.out.lt)
      have HR := Lib.hid (HR.out.below hb)
      have HB := Lib.hid (HB.out.trans (hb.mono HB.out.size))
      clear hb
      go_wp2_with fail
      refine (HOF1.out _ _ _ HTK.out hT1 hT2).mono ?_
      rintro e w1 ⟨u2, u3, rfl, hm, hb⟩
      obtain ⟨a2, a3, d2, d3, rfl, rfl, _⟩ := nd_shape hm
      have HM := Lib.hid hm
      clear hm HTK
      have HN := Lib.hid (nd_below HN.out hb)
      have HV := Lib.hid (HV.out.below hb HV.out.lt)
      have HR := Lib.hid (HR.out.below hb)
      have HB := Lib.hid (HB.out.trans (hb.mono HB.out.size))
      clear hb
      go_upto_region 4 with fail
      have ha5 := Arr.new w1 25 #[.string m.nm, .slice a2 m.ps.length d2, .slice a3 m.ks.length d3]
      have hb : Below w1.heap.size w1 (w1.alloc (.cells #[.string m.nm, .slice a2 m.ps.length d2, .slice a3 m.ks.length d3] 25)) := (Below.refl _ _).alloc (Nat.le_refl _) _
      have HN := Lib.hid (nd_below HN.out hb)
      have HV := Lib.hid (HV.out.below hb HV.out.lt)
      have HR := Lib.hid (HR.out.below hb)
      have HM := Lib.hid (nd_below HM.out hb)
      have HB := Lib.hid (HB.out.trans (hb.mono HB.out.size))
      clear hb
      have HA5 := Lib.hid ha5
      clear ha5
      generalize w1.alloc (.cells #[.string m.nm, .slice a2 m.ps.length d2, .slice a3 m.ks.length d3] 25) = W4 at *
      generalize w1.heap.size = g5 at *
      generalize (fun k => k < g5) = G5 at *
      obtain ⟨c0, c1, c2⟩ := arr_nd HV.out
      go_wp2_with fail
      refine (HFI.out _ HN.out).mono ?_
      rintro e w1 ⟨rfl, hb⟩
      clear c0 c1 c2
      have HN := Lib.hid (nd_below HN.out hb)
      have HV := Lib.hid (HV.out.below hb HV.out.lt)
      have HR := Lib.hid (HR.out.below hb)
      have HM := Lib.hid (nd_below HM.out hb)
      have HA5 := Lib.hid (HA5.out.below hb HA5.out.lt)
      have HB := Lib.hid (HB.out.trans (hb.mono HB.out.size))
      clear hb
      cases hfit : fitsR n with
      | true =>
        have hmm := HOFF.out hfit
        injection hmm with hm1 hm2
        subst hm1
        subst hm2
        clear HOFF hfit
        clear HLOW HFEW HTO HOF1 HFI HLT
        obtain ⟨c0, c1, c2⟩ := arr_nd HV.out
        obtain ⟨m0, m1, m2⟩ := arr_nd HA5.out
        go_wp2_with fail
        refine (HS1.out _ _ _ _ HM.out HN.out).mono ?_
        rintro e w1 ⟨rfl, hb⟩
        clear c0 c1 c2 m0 m1 m2
        have HR := Lib.hid (HR.out.below hb)
        have HB := Lib.hid (HB.out.trans (hb.mono HB.out.size))
        clear hb
        clear HM HA5 HV HN HS1
        go_wp2_with fail
        refine (HOF2.out _ HR.out).mono ?_
        rintro e w1 ⟨u2, u3, rfl, ht, hb⟩
        obtain ⟨x2, x3, y2, y3, rfl, rfl, _⟩ := nd_shape ht
        have HT := Lib.hid ht
        clear ht HOF2
        have HR := Lib.hid (HR.out.below hb)
        have HB := Lib.hid (HB.out.trans (hb.mono HB.out.size))
        clear hb
        go_upto_region 7 with fail
        have ha7 := Arr.new w1 25 #[.string t.nm, .slice x2 t.ps.length y2, .slice x3 t.ks.length y3]
        have hb : Below w1.heap.size w1 (w1.alloc (.cells #[.string t.nm, .slice x2 t.ps.length y2, .slice x3 t.ks.length y3] 25)) := (Below.refl _ _).alloc (Nat.le_refl _) _
        have HR := Lib.hid (HR.out.below hb)
        have HT := Lib.hid (nd_below HT.out hb)
        have HB := Lib.hid (HB.out.trans (hb.mono HB.out.size))
        clear hb
        have HA7 := Lib.hid ha7
        clear ha7
        generalize w1.alloc (.cells #[.string t.nm, .slice x2 t.ps.length y2, .slice x3 t.ks.length y3] 25) = W7 at *
        generalize w1.heap.size = g7 at *
        generalize (fun k => k < g7) = G7 at *
        by_cases hf0 : f = 0
        · subst hf0
          obtain ⟨ht1, ht2⟩ := HTOK.out rfl
          have hst := HST.out ht2
          have HTF := Lib.hid (HTF.out hst)
          have HTT := Lib.hid (HTT.out hst)
          rw [ht2] at HTF
          rw [ht1] at HTT
          clear ht1 ht2 hst HTOK HBAD HSZ HST
          obtain ⟨t0, t1, t2⟩ := arr_nd HA7.out
          go_wp2_with fail
          refine (HTF.out _ _ _ _ HT.out).mono ?_
          rintro e w1 ⟨rfl, hb⟩
          clear t0 t1 t2
          have HR := Lib.hid (HR.out.below hb)
          have HT := Lib.hid (nd_below HT.out hb)
          have HA7 := Lib.hid (HA7.out.below hb HA7.out.lt)
          have HB := Lib.hid (HB.out.trans (hb.mono HB.out.size))
          clear hb
          clear HTF
          go_wp2
          go_loopw [9, 10] (fun v i wr => ∃ k : Nat, k ≤ l.length ∧ i = .int .i64 k ∧ wr.ownsRow 0 46 3 v (sayR (l.take k)).length (tkL (sayR (l.take k))) ∧ (∀ j, v.ownBlock = some j → w1.heap.size ≤ j) ∧ Below w1.heap.size w1 wr) (fun _ i _ => l.length - (intOf i).toNat)
          case atStart => exact ⟨0, Nat.zero_le _, rfl, World.ownsRow_nil _ _ _ _, (fun _ hj => nomatch hj), Below.refl _ _⟩
          case round =>
            obtain ⟨k, hk, rfl, hown, hbl, hb⟩ := hrel
            have HBB := Lib.hid hb
            have HOWN := Lib.hid hown
            have HBL := Lib.hid hbl
            have hsz := hb.size
            clear hb hown hbl
            by_cases hlt : k < l.length
            · have hki : (k : Int) < l.length := by omega
              obtain ⟨b, off, x, rfl, ⟨h1, h2, h3⟩, HX⟩ := (HR.out.below HBB.out).at_ hlt
              have HS := Lib.hid (HSN.out k hlt x HX.out)
              have hpl := HSL.out k
              obtain ⟨kd, nm, vl⟩ := x
              simp only at h1 h2 h3 HS
              clear HX
              by_cases h4 : kd = 4
              · subst h4
                rw [if_pos rfl] at HS
                rw [← HS.out] at HOWN
                clear HS
                go_wp2
                go_roundw
                case rel => exact ⟨k + 1, by omega, by go_num, HOWN.out, HBL.out, HBB.out⟩
                case measure => simp [intOf]; omega
              · rw [if_neg h4] at HS
                have d4 : (kd != 4) = true := by simpa using h4
                have HBR := Lib.hid (fun W => HBARE.out ⟨kd, nm, vl⟩ W)
                clear h4
                generalize bare ⟨kd, nm, vl⟩ = y at *
                obtain ⟨bk, bn, bv⟩ := y
                simp only [tkV] at HBR
                generalize sayR (l.take k) = S at *
                go_wp2_with fail
                refine (HBR.out _).mono ?_
                rintro e w3 ⟨rfl, hb3⟩
                have HOW := Lib.hid (ow_below HOWN.out hb3)
                have HB3 := Lib.hid (HBB.out.trans (hb3.mono hsz))
                have hz3 := HB3.out.size
                clear hb3
                go_wp2_with (at_builtin; refine append_tk rfl (.tmp 66) (.tmp 72) rfl ⟨bk, bn, bv⟩ _ S rfl HOW.out w3.heap.size rfl rfl (by omega) ?_; intro v2 w2 ho2 hm2; have HO2 := Lib.hid ho2; have HM2 := Lib.hid hm2; clear ho2 hm2)
                have HB2 := Lib.hid (HB3.out.trans (HM2.out.below HBL.out hz3))
                go_roundw
                case rel => exact ⟨k + 1, by omega, by go_num, by rw [HS.out]; exact HO2.out, (fun j hj => by
                  rcases HM2.out.foot j hj with h5 | h5
                  · exact HBL.out j h5
                  · exact Nat.le_trans hz3 h5), HB2.out⟩
                case measure => simp [intOf]; omega
            · obtain rfl : k = l.length := by omega
              rw [HSA.out] at HOWN
              obtain ⟨A', cap', rfl, hrd⟩ := row_rdTk HOWN.out
              have HRD := Lib.hid hrd
              have HT := Lib.hid (nd_below HT.out HBB.out)
              have HA7 := Lib.hid (HA7.out.below HBB.out HA7.out.lt)
              have HB := Lib.hid (HB.out.trans (HBB.out.mono HB.out.size))
              clear HBB HOWN HBL hrd HSN HSL HSA HR HBARE
              obtain ⟨t0, t1, t2⟩ := arr_nd HA7.out
              generalize sayR l = S at *
              go_wp2_with fail
              refine (HTT.out _ _ _ _ HT.out).mono ?_
              rintro e w4 ⟨B2, bc2, rfl, hT4, _, _, hb⟩
              have HT4 := Lib.hid hT4
              have HRD := Lib.hid (HRD.out.below hb)
              have HB := Lib.hid (HB.out.trans (hb.mono HB.out.size))
              clear hb hT4 t0 t1 t2
              go_wp2_with fail
              refine (HSAME.out _ _ _ _ _ HT4.out HRD.out).mono ?_
              rintro e w5 ⟨rfl, hb⟩
              have HB := Lib.hid (HB.out.trans (hb.mono HB.out.size))
              clear hb
              go_wp2_with fail
              refine (HAW.out _).mono ?_
              rintro e w6 ⟨rfl, hb⟩
              have HB := Lib.hid (HB.out.trans (hb.mono HB.out.size))
              clear hb
              go_wp2
              go_ret
              exact ⟨rfl, HB.out⟩
        · have ht := HBAD.out hf0
          subst ht
          have d1 : ((f : Int) != 0) = true := by simp; omega
          clear HBAD HTOK HTF HTT HST HSN HSL HSA HSLL HSAME HBARE hf0
          obtain ⟨t0, t1, t2⟩ := arr_nd HA7.out
          go_wp2_with fail
          refine (HSZ.out _ _ _ _ HT.out).mono ?_
          rintro e w1 ⟨rfl, hb⟩
          clear t0 t1 t2
          have HB := Lib.hid (HB.out.trans (hb.mono HB.out.size))
          clear hb
          go_wp2_with fail
          refine (HAW.out _).mono ?_
          rintro e w1 ⟨rfl, hb⟩
          have HB := Lib.hid (HB.out.trans (hb.mono HB.out.size))
          clear hb
          go_wp2
          go_ret
          exact ⟨rfl, HB.out⟩
      | false =>
        clear HOFF hfit
        clear HLOW HFEW HTO HOF1 HFI HLT HM HA5 HV HN HS1
        go_wp2_with fail
        refine (HOF2.out _ HR.out).mono ?_
        rintro e w1 ⟨u2, u3, rfl, ht, hb⟩
        obtain ⟨x2, x3, y2, y3, rfl, rfl, _⟩ := nd_shape ht
        have HT := Lib.hid ht
        clear ht HOF2
        have HR := Lib.hid (HR.out.below hb)
        have HB := Lib.hid (HB.out.trans (hb.mono HB.out.size))
        clear hb
        go_upto_region 7 with fail
        have ha7 := Arr.new w1 25 #[.string t.nm, .slice x2 t.ps.length y2, .slice x3 t.ks.length y3]
        have hb : Below w1.heap.size w1 (w1.alloc (.cells #[.string t.nm, .slice x2 t.ps.length y2, .slice x3 t.ks.length y3] 25)) := (Below.refl _ _).alloc (Nat.le_refl _) _
        have HR := Lib.hid (HR.out.below hb)
        have HT := Lib.hid (nd_below HT.out hb)
        have HB := Lib.hid (HB.out.trans (hb.mono HB.out.size))
        clear hb
        have HA7 := Lib.hid ha7
        clear ha7
        generalize w1.alloc (.cells #[.string t.nm, .slice x2 t.ps.length y2, .slice x3 t.ks.length y3] 25) = W7 at *
        generalize w1.heap.size = g7 at *
        generalize (fun k => k < g7) = G7 at *
        by_cases hf0 : f = 0
        · subst hf0
          obtain ⟨ht1, ht2⟩ := HTOK.out rfl
          have hst := HST.out ht2
          have HTF := Lib.hid (HTF.out hst)
          have HTT := Lib.hid (HTT.out hst)
          rw [ht2] at HTF
          rw [ht1] at HTT
          clear ht1 ht2 hst HTOK HBAD HSZ HST
          obtain ⟨t0, t1, t2⟩ := arr_nd HA7.out
          go_wp2_with fail
          refine (HTF.out _ _ _ _ HT.out).mono ?_
          rintro e w1 ⟨rfl, hb⟩
          clear t0 t1 t2
          have HR := Lib.hid (HR.out.below hb)
          have HT := Lib.hid (nd_below HT.out hb)
          have HA7 := Lib.hid (HA7.out.below hb HA7.out.lt)
          have HB := Lib.hid (HB.out.trans (hb.mono HB.out.size))
          clear hb
          clear HTF
          go_wp2
          go_loopw [9, 10] (fun v i wr => ∃ k : Nat, k ≤ l.length ∧ i = .int .i64 k ∧ wr.ownsRow 0 46 3 v (sayR (l.take k)).length (tkL (sayR (l.take k))) ∧ (∀ j, v.ownBlock = some j → w1.heap.size ≤ j) ∧ Below w1.heap.size w1 wr) (fun _ i _ => l.length - (intOf i).toNat)
          case atStart => exact ⟨0, Nat.zero_le _, rfl, World.ownsRow_nil _ _ _ _, (fun _ hj => nomatch hj), Below.refl _ _⟩
          case round =>
            obtain ⟨k, hk, rfl, hown, hbl, hb⟩ := hrel
            have HBB := Lib.hid hb
            have HOWN := Lib.hid hown
            have HBL := Lib.hid hbl
            have hsz := hb.size
            clear hb hown hbl
            by_cases hlt : k < l.length
            · have hki : (k : Int) < l.length := by omega
              obtain ⟨b, off, x, rfl, ⟨h1, h2, h3⟩, HX⟩ := (HR.out.below HBB.out).at_ hlt
              have HS := Lib.hid (HSN.out k hlt x HX.out)
              have hpl := HSL.out k
              obtain ⟨kd, nm, vl⟩ := x
              simp only at h1 h2 h3 HS
              clear HX
              by_cases h4 : kd = 4
              · subst h4
                rw [if_pos rfl] at HS
                rw [← HS.out] at HOWN
                clear HS
                go_wp2
                go_roundw
                case rel => exact ⟨k + 1, by omega, by go_num, HOWN.out, HBL.out, HBB.out⟩
                case measure => simp [intOf]; omega
              · rw [if_neg h4] at HS
                have d4 : (kd != 4) = true := by simpa using h4
                have HBR := Lib.hid (fun W => HBARE.out ⟨kd, nm, vl⟩ W)
                clear h4
                generalize bare ⟨kd, nm, vl⟩ = y at *
                obtain ⟨bk, bn, bv⟩ := y
                simp only [tkV] at HBR
                generalize sayR (l.take k) = S at *
                go_wp2_with fail
                refine (HBR.out _).mono ?_
                rintro e w3 ⟨rfl, hb3⟩
                have HOW := Lib.hid (ow_below HOWN.out hb3)
                have HB3 := Lib.hid (HBB.out.trans (hb3.mono hsz))
                have hz3 := HB3.out.size
                clear hb3
                go_wp2_with (at_builtin; refine append_tk rfl (.tmp 66) (.tmp 72) rfl ⟨bk, bn, bv⟩ _ S rfl HOW.out w3.heap.size rfl rfl (by omega) ?_; intro v2 w2 ho2 hm2; have HO2 := Lib.hid ho2; have HM2 := Lib.hid hm2; clear ho2 hm2)
                have HB2 := Lib.hid (HB3.out.trans (HM2.out.below HBL.out hz3))
                go_roundw
                case rel => exact ⟨k + 1, by omega, by go_num, by rw [HS.out]; exact HO2.out, (fun j hj => by
                  rcases HM2.out.foot j hj with h5 | h5
                  · exact HBL.out j h5
                  · exact Nat.le_trans hz3 h5), HB2.out⟩
                case measure => simp [intOf]; omega
            · obtain rfl : k = l.length := by omega
              rw [HSA.out] at HOWN
              obtain ⟨A', cap', rfl, hrd⟩ := row_rdTk HOWN.out
              have HRD := Lib.hid hrd
              have HT := Lib.hid (nd_below HT.out HBB.out)
              have HA7 := Lib.hid (HA7.out.below HBB.out HA7.out.lt)
              have HB := Lib.hid (HB.out.trans (HBB.out.mono HB.out.size))
              clear HBB HOWN HBL hrd HSN HSL HSA HR HBARE
              obtain ⟨t0, t1, t2⟩ := arr_nd HA7.out
              generalize sayR l = S at *
              go_wp2_with fail
              refine (HTT.out _ _ _ _ HT.out).mono ?_
              rintro e w4 ⟨B2, bc2, rfl, hT4, _, _, hb⟩
              have HT4 := Lib.hid hT4
              have HRD := Lib.hid (HRD.out.below hb)
              have HB := Lib.hid (HB.out.trans (hb.mono HB.out.size))
              clear hb hT4 t0 t1 t2
              go_wp2_with fail
              refine (HSAME.out _ _ _ _ _ HT4.out HRD.out).mono ?_
              rintro e w5 ⟨rfl, hb⟩
              have HB := Lib.hid (HB.out.trans (hb.mono HB.out.size))
              clear hb
              go_wp2_with fail
              refine (HAW.out _).mono ?_
              rintro e w6 ⟨rfl, hb⟩
              have HB := Lib.hid (HB.out.trans (hb.mono HB.out.size))
              clear hb
              go_wp2
              go_ret
              exact ⟨rfl, HB.out⟩
        · have ht := HBAD.out hf0
          subst ht
          have d1 : ((f : Int) != 0) = true := by simp; omega
          clear HBAD HTOK HTF HTT HST HSN HSL HSA HSLL HSAME HBARE hf0
          obtain ⟨t0, t1, t2⟩ := arr_nd HA7.out
          go_wp2_with fail
          refine (HSZ.out _ _ _ _ HT.out).mono ?_
          rintro e w1 ⟨rfl, hb⟩
          clear t0 t1 t2
          have HB := Lib.hid (HB.out.trans (hb.mono HB.out.size))
          clear hb
          go_wp2_with fail
          refine (HAW.out _).mono ?_
          rintro e w1 ⟨rfl, hb⟩
          have HB := Lib.hid (HB.out.trans (hb.mono HB.out.size))
          clear hb
          go_wp2
          go_ret
          exact ⟨rfl, HB.out⟩
end Go.Proofs.Ytjddclkfakphlaa
