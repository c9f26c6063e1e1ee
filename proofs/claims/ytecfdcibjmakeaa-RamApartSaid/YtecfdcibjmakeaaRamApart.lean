/- The law RamApart: whatever comes in it returns true. Conditions: the contracts of package ram; a slice that reads as acts, numbers of 64 bits. -/
import Derived.Test.YtecfdcibjmakeaaRaA
import Derived.Deep.RegionHeld3
import Derived.Deep.DeepCutAuto
import Derived.BigQuiet
namespace Go.Proofs.Ytecfdcibjmakeaa
open Go.RowKit

/-- A memory, and beside it a list of the call's own that is no part of it. -/
structure Ap7 (RB : World → Option Addr → (Nat → Prop) → List LD → Prop) (w W : World) (q : Option Addr) (F : Nat → Prop) (v : Value) (n : Nat) (xs : List Value) (R : List LD) : Prop where
  rb : RB W q F R
  ok : RamOk R
  own : W.ownsRow 0 36 4 v n xs
  sep : ∀ k, v.ownBlock = some k → ¬ F k
  newF : ∀ k, F k → w.heap.size ≤ k
  newV : ∀ k, v.ownBlock = some k → w.heap.size ≤ k
  bel : Below w.heap.size w W
theorem ow_moved {w w' : World} {F F' : Nat → Prop} {base e size : Nat} {v : Value} {n : Nat} {xs : List Value} (h : w.ownsRow base e size v n xs) (hm : Moved w w' F F') (hn : ∀ k, v.ownBlock = some k → ¬ F k) : w'.ownsRow base e size v n xs := by
  refine ⟨h.1, ?_⟩
  rcases h.2 with h2 | ⟨g, cap, cur, rfl, hb, hg, rest⟩
  · exact .inl h2
  · exact .inr ⟨g, cap, cur, rfl, hb, (hm.block g (Array.getElem?_eq_some_iff.1 hg).1 (hn g rfl)).trans hg, rest⟩
section
variable {RB : World → Option Addr → (Nat → Prop) → List LD → Prop} {w W W' : World} {q : Option Addr} {F : Nat → Prop} {v : Value} {n : Nat} {xs : List Value} {R : List LD}
theorem Ap7.below (H : RamMust RB) (h : Ap7 RB w W q F v n xs R) (hb : Below W.heap.size W W') : Ap7 RB w W' q F v n xs R :=
  ⟨H.below _ _ _ _ _ h.rb hb, h.ok, ow_below h.own hb, h.sep, h.newF, h.newV, h.bel.trans (hb.mono h.bel.size)⟩
theorem ap7_load (H : RamMust RB) (h : Ap7 RB w W q F v n xs R) (hR : R.length ≤ 100) (a : Int) (s : ByteArray) (h1 : a < 9223372036854775808) (h2 : -9223372036854775808 ≤ a) (h3 : s.size ≤ 200) :
    Calls Try.prog 7 #[.pointer q, .int .i64 a, .string s] W fun e w' => e = .returned (.int .i64 ((ldR R a s).2 : Int)) ∧ ∃ F', Ap7 RB w w' q F' v n xs (ldR R a s).1 := by
  refine (H.load W q F R a s h.rb h.ok hR h1 h2 h3).mono ?_
  rintro e w' ⟨he, F', hr, hm⟩
  refine ⟨he, F', hr, ldR_ok h.ok a s, ow_moved h.own hm h.sep, fun k hk hf => ?_, fun k hk => ?_, h.newV, ?_⟩
  · rcases hm.foot k hf with h4 | h4
    · exact h.sep k hk h4
    · obtain ⟨cur, hg⟩ := ow_type h.own hk
      have := (Array.getElem?_eq_some_iff.1 hg).1
      omega
  · rcases hm.foot k hk with h4 | h4
    · exact h.newF k h4
    · exact Nat.le_trans h.bel.size h4
  · exact h.bel.trans (hm.below h.newF h.bel.size)
theorem Ap7.append (H : RamMust RB) (h : Ap7 RB w W q F v n xs R) {v' : Value} {n' : Nat} {xs' : List Value} {g' : Nat} (hv : v'.ownBlock = some g') (ho : W'.ownsRow 0 36 4 v' n' xs') (hg : W.grownBy W' v.ownBlock) (hat : v.ownBlock = some g' ∨ g' = W.heap.size) : Ap7 RB w W' q F v' n' xs' R := by
  have hm : Moved W W' (fun k => v.ownBlock = some k) (fun k => v.ownBlock = some k) := Moved.grown hg (fun k hk => hk) (fun k hk => .inl hk)
  refine ⟨H.kept _ _ _ _ _ _ _ h.rb hm (fun k hk hf => h.sep k hf hk), h.ok, ho, fun k hk hf => ?_, h.newF, fun k hk => ?_, h.bel.trans (hm.below h.newV h.bel.size)⟩
  · rw [hv] at hk
    injection hk with hk
    subst hk
    rcases hat with h1 | h1
    · exact h.sep _ h1 hf
    · have := H.lt _ _ _ _ _ h.rb hf; omega
  · rw [hv] at hk
    injection hk with hk
    subst hk
    rcases hat with h1 | h1
    · exact h.newV _ h1
    · rw [h1]; exact h.bel.size
end

set_option maxHeartbeats 6400000 in
set_option maxRecDepth 100000 in
theorem ramApart_any {RB : World → Option Addr → (Nat → Prop) → List LD → Prop} (H : RamMust RB) (A : Option Addr) (cap : Nat) (L : List RA) (w : World) (hr : RdRa w A L) (hl : L.length ≤ maxLen) (hf : FitsR L) :
    Calls Try.prog 4 #[.slice A L.length cap] w fun e w' => e = .returned (.bool true) ∧ Below w.heap.size w w' := by
  have HAW := Lib.hid (awake7 H)
  have hl2 : L.length ≤ 9223372036854775807 := by unfold maxLen at hl; omega
  have HR := Lib.hid hr
  have HFT := Lib.hid hf
  have HH := Lib.hid H
  have HNEW := Lib.hid (H.new w)
  clear hr hf hl H
  by_cases h20 : 20 < L.length
  · have d0 : decide ((20 : Int) < L.length) = true := decide_eq_true (by omega)
    clear h20
    go_enter Try.func4, Try.ntmps4
    go_wp2_with fail
    refine (HAW.out _).mono ?_
    rintro e w1 ⟨rfl, hb⟩
    go_wp2
    go_ret
    exact ⟨rfl, hb⟩
  have d0 : decide ((20 : Int) < L.length) = false := decide_eq_false (by omega)
  go_enter Try.func4, Try.ntmps4
  go_wp2_with fail
  refine HNEW.out.mono ?_
  rintro e w1 ⟨q, F0, rfl, hr1, hF1, hb1⟩
  have H1 : Hid (Ap7 RB w w1 q F0 (.slice none 0 0) 0 [] []) := ⟨hr1, ramOk_nil, World.ownsRow_nil _ _ _ _, (fun k hk => by cases hk), hF1, (fun k hk => by cases hk), hb1⟩
  clear hr1 hF1 hb1 HNEW
  go_wp2
  go_loopw [4, 5] (fun v c wr => ∃ (i : Nat) (F : Nat → Prop) (xs : List Value) (R : List LD), i ≤ L.length ∧ c = .int .i64 i ∧ R.length ≤ i ∧ GotV xs R ∧ Ap7 RB w wr q F v R.length xs R) (fun _ c _ => L.length - (intOf c).toNat)
  case atStart => exact ⟨0, F0, [], [], Nat.zero_le _, rfl, Nat.le_refl _, gotV_nil, H1.out⟩
  case round =>
    clear H1
    obtain ⟨i, F, xs, R, hi, rfl, hRi, hgot, hap⟩ := hrel
    have HG := Lib.hid hgot
    have HA := Lib.hid hap
    have HB := Lib.hid hap.bel
    have hz := hap.bel.size
    clear hgot hap
    by_cases hlt : i < L.length
    · have hii : (i : Int) < L.length := by omega
      obtain ⟨b, off, x, rfl, hx, HX⟩ := (HR.out.below HB.out).at_ hlt
      have hfx := HFT.out i hlt
      rw [HX.out] at hfx
      obtain ⟨kd, p, n, s⟩ := x
      simp only at hfx
      have HXA : Hid (∀ W, Below w.heap.size w W → RaAt W b (off + i * 4) ⟨kd, p, n, s⟩) := by
        intro W hW
        obtain ⟨b', off', y, e1, e2, e3⟩ := (HR.out.below hW).at_ hlt
        injection e1 with e1
        injection e1 with e4 e5
        subst e4 e5
        rw [← HX.out, e3.out]; exact e2
      obtain ⟨c0, c1, c2, c3⟩ := hx
      simp only at c0 c1 c2 c3
      clear HX
      by_cases hs : 200 < s.size
      · have e0 : decide ((200 : Int) < s.size) = true := decide_eq_true (by omega)
        clear hs
        go_wp2_with fail
        refine (HAW.out _).mono ?_
        rintro e w7 ⟨rfl, hb7⟩
        have HB7 := Lib.hid (HB.out.trans (hb7.mono hz))
        clear hb7
        go_wp2
        go_ret
        exact ⟨rfl, HB7.out⟩
      have e0 : decide ((200 : Int) < s.size) = false := decide_eq_false (by omega)
      have hs2 : s.size ≤ 200 := by omega
      have HLD := Lib.hid (fun W (hW : Ap7 RB w W q F u4 R.length xs R) => ap7_load HH.out hW (by omega) p s hfx.1 hfx.2 hs2)
      have HSH : Hid ((ldR R p s).2 = 0 ∧ (ldR R p s).1 = R ++ [⟨p.toNat, s⟩] ∧ ((p.toNat : Nat) : Int) = p ∨ (ldR R p s).2 ≠ 0 ∧ (ldR R p s).1 = R) := by
        unfold Hid ldR
        by_cases hc : ckR (R.map LD.sp) [⟨p, s.size⟩] = 0
        · rw [if_pos hc]; exact .inl ⟨rfl, rfl, Int.toNat_of_nonneg (insS_of (ck_one hc).1).1⟩
        · rw [if_neg hc]; exact .inr ⟨hc, rfl⟩
      generalize ldR R p s = z at *
      obtain ⟨R', r⟩ := z
      simp only at HLD HSH
      have HKP : Hid (∀ W, Below w.heap.size w W → W.cell? ⟨b, off + i * 4 + 1, none⟩ = some (.int .i64 p) ∧ W.cell? ⟨b, off + i * 4 + 3, none⟩ = some (.string s) ∧ Below w.heap.size w W) := fun W hW => ⟨(HXA.out W hW).2.1, (HXA.out W hW).2.2.2, hW⟩
      have h0 : Ap7 RB w wr.drew q F u4 R.length xs R := HA.out.below HH.out (Below.refl _ _).drew
      have hb0 : Below w.heap.size w wr.drew := h0.bel
      clear hs
      go_upto_region 10 with fail
      clear c0 c1 c2 c3
      go_cut [43] (fun s43 wx => s43 = .bool ((r : Int) == 0) ∧ ∃ F', Ap7 RB w wx q F' u4 R.length xs R')
      case first => as_aux_lemma =>
        go_region_held3 (fun w' => w'.cell? ⟨b, off + i * 4 + 1, none⟩ = some (.int .i64 p) ∧ w'.cell? ⟨b, off + i * 4 + 3, none⟩ = some (.string s) ∧ Below w.heap.size w w') (first | exact HKP.out _ (by assumption) | exact HKP.out _ (Ap7.bel (by assumption)))
          (first | (go_at_call 7; refine (HLD.out _ h0).mono ?_; rintro e w7 ⟨rfl, F', h7⟩))
        all_goals (go_wp2_with fail; go_meet; exact ⟨rfl, _, by assumption⟩)
      case rest => as_aux_lemma =>
        obtain ⟨rfl, F', hcut⟩ := hcut
        have H2 := Lib.hid hcut
        have HB2 := Lib.hid hcut.bel
        clear hcut h0 hb0 HLD HA HB
        obtain ⟨c0, c1, c2, c3⟩ := HXA.out _ HB2.out
        simp only at c0 c1 c2 c3
        rcases HSH.out with ⟨hr0, hR', hp0⟩ | ⟨hr0, hR'⟩
        · subst hr0
          subst hR'
          have HG2 : Hid (GotV (xs ++ [.int .i64 kd, .int .i64 p, .int .i64 n, .string s]) (R ++ [⟨p.toNat, s⟩])) := by
            have := gotV_snoc HG.out p.toNat s (.int .i64 kd) (.int .i64 n)
            rwa [hp0] at this
          have hbl : b < wc.heap.size := World.block_lt_of_cell? wc _ c0
          have hbn : b ≠ wc.heap.size := by omega
          have hba : Below wc.heap.size wc (wc.alloc (.cells #[.int .i64 kd, .int .i64 p, .int .i64 n, .string s] 36)) := (Below.refl _ _).alloc (Nat.le_refl _) _
          have HAL := Lib.hid (H2.out.below HH.out hba)
          have HNW : Hid (∀ j u, [Value.int .i64 kd, Value.int .i64 p, Value.int .i64 n, Value.string s][j]? = some u → (wc.alloc (.cells #[.int .i64 kd, .int .i64 p, .int .i64 n, .string s] 36)).cell? ((⟨wc.heap.size, 0, none⟩ : Addr).add j) = some u) :=
            World.news_of_block (cs := #[.int .i64 kd, .int .i64 p, .int .i64 n, .string s]) (heap_alloc_new wc _)
          have HON : Hid (∀ u ∈ [Value.int .i64 kd, Value.int .i64 p, Value.int .i64 n, Value.string s], u.oneCell' = true) := by
            intro u hu
            simp at hu
            rcases hu with rfl | rfl | rfl | rfl <;> rfl
          obtain ⟨hu, i0, hi0, hz0, hz1', hz2⟩ := elemAct
          have HU := Lib.hid hu
          have HI := Lib.hid hi0
          have HZ0 := Lib.hid hz0
          have HZ1 := Lib.hid hz1'
          have HZ2 := Lib.hid hz2
          have HLN : Hid ((R ++ [LD.mk p.toNat s]).length = R.length + 1) := by unfold Hid; simp
          clear hu hi0 hz0 hz1' hz2 hba hp0
          go_wp2_with (at_builtin; refine wpList_append_lies _ rfl _ _ _ rfl 0 36 i0 (.agg #[.int .i64 0, .int .i64 0, .int .i64 0, .string ⟨#[]⟩]) 4 40 HU.out HI.out HZ0.out HZ1.out HZ2.out rfl (by decide) u4 R.length xs rfl HAL.out.own ⟨wc.heap.size, 0, none⟩ 1 1 [.int .i64 kd, .int .i64 p, .int .i64 n, .string s] rfl rfl HNW.out HON.out (by decide) (by unfold maxLen; omega) (by omega) (Nat.zero_le _) _ rfl ?_; intro g' cap' w5 hown5 hgrow hat hlt5; have H5 := Lib.hid (HAL.out.append HH.out rfl hown5 hgrow hat); clear hown5 hgrow hat)
          rw [← HLN.out] at H5
          go_roundw
          case rel => exact ⟨i + 1, F', _, R ++ [⟨p.toNat, s⟩], by omega, by go_num, by have := HLN.out; omega, HG2.out, by have := H5.out; rw [HLN.out] at this ⊢; exact this⟩
          case measure => simp [intOf]; omega
        · subst hR'
          have d2 : ((r : Int) == 0) = false := by simp; omega
          clear hr0
          go_wp2
          go_roundw
          case rel => exact ⟨i + 1, F', xs, R', by omega, by go_num, by omega, HG.out, H2.out⟩
          case measure => simp [intOf]; omega
    · have hR20 : R.length ≤ 20 := by omega
      have HSP := Lib.hid (HH.out.spans wr q F R HA.out.rb HA.out.ok (by omega))
      have HOK := Lib.hid HA.out.ok
      obtain ⟨AG, capG, hu4, hgc⟩ := got_cells HA.out.own HG.out
      subst hu4
      have HGC := Lib.hid hgc
      obtain rfl : i = L.length := by omega
      clear hgc hi hRi
      go_wp2_with fail
      refine HSP.out.mono ?_
      rintro e w2 ⟨A2, cap2, rfl, hP2, hb2⟩
      rw [List.length_map]
      have HP2 := Lib.hid hP2
      have H2 := Lib.hid (HA.out.below HH.out hb2)
      have HB2 := Lib.hid (HB.out.trans (hb2.mono hz))
      have hz2 := HB2.out.size
      have HGC2 : Hid (∀ k, k < R.length → ∃ b, AG = some ⟨b, 0, none⟩ ∧ w2.cell? ⟨b, k * 4 + 1, none⟩ = some (.int .i64 ((R.getD k ld0).p : Int)) ∧ w2.cell? ⟨b, k * 4 + 3, none⟩ = some (.string (R.getD k ld0).s)) := by
        intro k hk
        obtain ⟨b, h1, h2, h3⟩ := HGC.out k hk
        exact ⟨b, h1, cell_below h2 hb2, cell_below h3 hb2⟩
      clear hP2 hb2 HSP HA HB HGC HG
      go_wp2
      go_loopw [7] (fun c wq => ∃ i : Nat, i ≤ R.length ∧ c = .int .i64 i ∧ Below w2.heap.size w2 wq) (fun c _ => R.length - (intOf c).toNat)
      case atStart => exact ⟨0, Nat.zero_le _, rfl, Below.refl _ _⟩
      case round =>
        obtain ⟨i, hi, rfl, hb⟩ := hrel
        have HB3 := Lib.hid hb
        have hz3 := hb.size
        have HBW := Lib.hid (HB2.out.trans (hb.mono hz2))
        have hzw := HBW.out.size
        clear hb
        by_cases hlt : i < R.length
        · have hii : (i : Int) < R.length := by omega
          obtain ⟨bG, rfl, g1, g3⟩ := HGC2.out i hlt
          have hspW : ∀ k, k < R.length → ∃ bS oS, A2 = some ⟨bS, oS, none⟩ ∧ ∀ W, Below w2.heap.size w2 W → SpAt W bS (oS + k * 2) (R.getD k ld0).sp := by
            intro k hk
            rcases HP2.out with h0 | ⟨bS, oS, h1, h2⟩
            · have : R = [] := by simpa using h0
              subst this; exact absurd hk (Nat.not_lt_zero _)
            · refine ⟨bS, oS, h1, fun W hW => ?_⟩
              have := (h2 k (by rw [List.length_map]; exact hk)).below hW
              rwa [sp_getD R hk] at this
          have HSW := Lib.hid hspW
          clear hspW
          obtain ⟨bS, oS, rfl, hsp⟩ := HSW.out i hlt
          have HSI := Lib.hid hsp
          have hok1 := HOK.out.1 i hlt
          have HME : Hid (∀ k, k < i → meetS (R.getD i ld0).sp (R.getD k ld0).sp = false) := fun k hk => HOK.out.2 i k hlt hk
          have HRB := Lib.hid (fun p s (hx : R.getD i ld0 = ⟨p, s⟩) => rdR_back HOK.out hlt hx)
          have HRR := Lib.hid (fun W (hW : Below w2.heap.size w2 W) (a n : Int) h1 h2 h3 h4 => HH.out.read W q F R a n (HH.out.below _ _ _ _ _ H2.out.rb hW) HOK.out (by omega) h1 h2 h3 h4)
          obtain ⟨y, hy⟩ : ∃ y, R.getD i ld0 = y := ⟨_, rfl⟩
          rw [hy] at g1 g3 hok1 HME
          have HSI2 : Hid (∀ W, Below w2.heap.size w2 W → SpAt W bS (oS + i * 2) y.sp) := by rw [← hy]; exact HSI.out
          obtain ⟨p, s⟩ := y
          have HRB2 := Lib.hid (HRB.out p s hy)
          have hin := insS_of hok1.1
          have hlow := hok1.2
          simp only [LD.sp] at g1 g3 hin hlow
          obtain ⟨i1, i2, i3, i4⟩ := hin
          have HG1 := Lib.hid g1
          have HG3 := Lib.hid g3
          have HRD : Hid (∀ W, Below w2.heap.size w2 W → Calls Try.prog 9 #[.pointer q, .int .i64 (p : Int), .int .i64 (s.size : Int)] W fun e w' => e = .returned (.tuple #[.string s, .int .i64 0]) ∧ Below W.heap.size W w') := by
            intro W hW
            have := HRR.out W hW (p : Int) (s.size : Int) (by omega) (by omega) (by omega) (by omega)
            rwa [HRB2.out] at this
          have hsp := HSI2.out wr HB3.out
          obtain ⟨c0, c1⟩ := hsp
          simp only [LD.sp] at c0 c1
          have hbl : bS < wr.heap.size := World.block_lt_of_cell? wr _ c0
          clear hok1 g1 g3 hy HRB HRR HSI
          have HBa := Lib.hid ((Below.refl wr.heap.size wr).alloc (Nat.le_refl _) (.cells #[.int .i64 (p : Int), .int .i64 (s.size : Int)] 47))
          have HA8 : Hid (Arr (wr.alloc (.cells #[.int .i64 (p : Int), .int .i64 (s.size : Int)] 47)) wr.heap.size 47 #[.int .i64 (p : Int), .int .i64 (s.size : Int)]) := Arr.new _ _ _
          have HB4 := Lib.hid (HB3.out.trans (HBa.out.mono hz3))
          clear hsp
          go_upto_region 19 with fail
          clear c0 c1 hbl HBa
          generalize wr.alloc (.cells #[.int .i64 (p : Int), .int .i64 (s.size : Int)] 47) = w4 at *
          generalize wr.heap.size = g8 at *
          have z0 : w4.cell? ⟨g8, 0, none⟩ = some (.int .i64 (p : Int)) := HA8.out.cell 0
          have z1 : w4.cell? ⟨g8, 1, none⟩ = some (.int .i64 (s.size : Int)) := HA8.out.cell 1
          go_wp2_with fail
          refine (HRD.out _ HB4.out).mono ?_
          rintro e w5 ⟨rfl, hb5⟩
          have y0 : w5.cell? ⟨g8, 0, none⟩ = some (.int .i64 (p : Int)) := cell_below z0 hb5
          have y1 : w5.cell? ⟨g8, 1, none⟩ = some (.int .i64 (s.size : Int)) := cell_below z1 hb5
          have HB5 := Lib.hid (HB4.out.trans (hb5.mono HB4.out.size))
          have v1 : w5.cell? ⟨bG, i * 4 + 1, none⟩ = some (.int .i64 (p : Int)) := cell_below HG1.out HB5.out
          have v3 : w5.cell? ⟨bG, i * 4 + 3, none⟩ = some (.string s) := cell_below HG3.out HB5.out
          clear hb5 z0 z1 HRD HA8 HB4
          have hwhat : decide ((0 : Int) < s.size) = false ∨ (decide ((0 : Int) < s.size) = true ∧ decide ((p : Int) < 4096) = false) := by
            unfold lowS at hlow
            simp only at hlow
            cases e1 : decide ((0 : Int) < s.size) with
            | false => exact .inl rfl
            | true => rw [e1] at hlow; exact .inr ⟨rfl, hlow⟩
          have d5 : decide (65536 - (s.size : Int) < p) = false := decide_eq_false (by omega)
          have hs65 : (s.size : Int) ≤ 65536 := by omega
          go_upto_region 20 with fail
          go_cut [121] (fun s121 wx => s121 = .bool false ∧ Below w5.heap.size w5 wx)
          case first => as_aux_lemma =>
            clear hlow
            rcases hwhat with d1 | ⟨d1, d2⟩
            · have d1' : decide (0 < s.size) = false := decide_eq_false (by have := of_decide_eq_false d1; omega)
              go_quiet (fail)
              go_wp2_with fail
              go_meet
              exact ⟨rfl, below_drewN _ _⟩
            · have d1' : decide (0 < s.size) = true := decide_eq_true (by have := of_decide_eq_true d1; omega)
              have d2' : decide (p < 4096) = false := decide_eq_false (by have := of_decide_eq_false d2; omega)
              go_quiet (fail)
              go_wp2_with fail
              go_meet
              exact ⟨rfl, below_drewN _ _⟩
          case rest => as_aux_lemma =>
            obtain ⟨rfl, hbc⟩ := hcut
            have x0 : wc.cell? ⟨g8, 0, none⟩ = some (.int .i64 (p : Int)) := cell_below y0 hbc
            have x1 : wc.cell? ⟨g8, 1, none⟩ = some (.int .i64 (s.size : Int)) := cell_below y1 hbc
            have HX0 := Lib.hid x0
            have HX1 := Lib.hid x1
            have HB6 := Lib.hid (HB5.out.trans (hbc.mono HB5.out.size))
            clear hbc x0 x1 y0 y1 v1 v3 hwhat d5 HB5
            go_wp2
            go_loopw [11] (fun c wq => ∃ k : Nat, k ≤ i ∧ c = .int .i64 k ∧ Below wc.heap.size wc wq) (fun c _ => i - (intOf c).toNat)
            case atStart => exact ⟨0, Nat.zero_le _, rfl, Below.refl _ _⟩
            case round =>
              obtain ⟨k, hk, rfl, hb⟩ := hrel
              have HB7 := Lib.hid hb
              have HB8 := Lib.hid (HB6.out.trans (hb.mono HB6.out.size))
              have x0 : wr.cell? ⟨g8, 0, none⟩ = some (.int .i64 (p : Int)) := cell_below HX0.out hb
              have x1 : wr.cell? ⟨g8, 1, none⟩ = some (.int .i64 (s.size : Int)) := cell_below HX1.out hb
              clear hb
              by_cases hlk : k < i
              · have hki : (k : Int) < i := by omega
                have hkR : (k : Int) < R.length := by omega
                have hkR' : k < R.length := by omega
                obtain ⟨bS', oS', e1, hsp⟩ := HSW.out k hkR'
                injection e1 with e1
                injection e1 with e2 e3
                subst e2 e3
                have hsk := hsp wr HB8.out
                have hins := (HOK.out.1 k hkR').1
                have hme : meetS ⟨(p : Int), (s.size : Int)⟩ (R.getD k ld0).sp = false := HME.out k hlk
                generalize (R.getD k ld0).sp = y at *
                have HMT := Lib.hid (fun W => meet_any ⟨(p : Int), (s.size : Int)⟩ y W (insS_true ⟨i1, i2, i3, i4⟩) hins)
                rw [hme] at HMT
                obtain ⟨p', n'⟩ := y
                unfold spV at HMT
                simp only at HMT
                obtain ⟨u0, u1⟩ := hsk
                simp only at u0 u1
                have HKP : Hid (∀ W, Below wr.heap.size wr W → W.cell? ⟨g8, 0, none⟩ = some (.int .i64 (p : Int)) ∧ W.cell? ⟨g8, 1, none⟩ = some (.int .i64 (s.size : Int)) ∧ W.cell? ⟨bS, oS + k * 2, none⟩ = some (.int .i64 p') ∧ W.cell? ⟨bS, oS + k * 2 + 1, none⟩ = some (.int .i64 n') ∧ Below wr.heap.size wr W) :=
                  fun W hW => ⟨cell_below x0 hW, cell_below x1 hW, cell_below u0 hW, cell_below u1 hW, hW⟩
                have HQ : Hid (∀ W, Below wr.heap.size wr W → Calls Try.prog 16 #[.agg #[.int .i64 (p : Int), .int .i64 (s.size : Int)], .agg #[.int .i64 p', .int .i64 n']] W fun e w' => e = .returned (.bool false) ∧ w'.cell? ⟨g8, 0, none⟩ = some (.int .i64 (p : Int)) ∧ w'.cell? ⟨g8, 1, none⟩ = some (.int .i64 (s.size : Int)) ∧ w'.cell? ⟨bS, oS + k * 2, none⟩ = some (.int .i64 p') ∧ w'.cell? ⟨bS, oS + k * 2 + 1, none⟩ = some (.int .i64 n') ∧ Below wr.heap.size wr w') :=
                  fun W hW => (HMT.out W).mono fun _ _ ⟨h1, h2⟩ => ⟨h1, HKP.out _ (hW.trans (h2.mono hW.size))⟩
                have hbd : Below wr.heap.size wr wr.drew := (Below.refl _ _).drew
                clear x0 x1 u0 u1 hins hme HMT hsp
                go_upto_region 25 with fail
                go_cut [132] (fun s132 wx => s132 = .bool false ∧ Below wr.heap.size wr wx)
                case first => as_aux_lemma =>
                  go_region_held3 (fun w' => w'.cell? ⟨g8, 0, none⟩ = some (.int .i64 (p : Int)) ∧ w'.cell? ⟨g8, 1, none⟩ = some (.int .i64 (s.size : Int)) ∧ w'.cell? ⟨bS, oS + k * 2, none⟩ = some (.int .i64 p') ∧ w'.cell? ⟨bS, oS + k * 2 + 1, none⟩ = some (.int .i64 n') ∧ Below wr.heap.size wr w') (exact HKP.out _ (by assumption))
                    (first | (go_at_call 16; refine (HQ.out _ (by assumption)).mono ?_; rintro e w7 ⟨rfl, s1, s2, s3, s4, s5⟩))
                  all_goals (go_wp2_with fail; go_meet; exact ⟨rfl, by assumption⟩)
                case rest => as_aux_lemma =>
                  obtain ⟨rfl, hbc⟩ := hcut
                  have HB9 := Lib.hid (HB7.out.trans (hbc.mono HB7.out.size))
                  clear hbc hbd HQ HKP
                  go_wp2
                  go_roundw
                  case rel => exact ⟨k + 1, by omega, by go_num, HB9.out⟩
                  case measure => simp [intOf]; omega
              · obtain rfl : k = i := by omega
                go_wp2
                go_roundw
                case rel => exact ⟨k + 1, by omega, by go_num, HB8.out⟩
                case measure => simp [intOf]; omega
        · obtain rfl : i = R.length := by omega
          go_wp2_with fail
          refine (HAW.out _).mono ?_
          rintro e w7 ⟨rfl, hb7⟩
          have HB7 := Lib.hid (HBW.out.trans (hb7.mono hzw))
          clear hb7
          go_wp2
          go_ret
          exact ⟨rfl, HB7.out⟩
end Go.Proofs.Ytecfdcibjmakeaa
