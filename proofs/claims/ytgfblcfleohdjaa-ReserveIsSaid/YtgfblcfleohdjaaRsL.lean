/- What Free of package reserve returns. Condition: at most 1000 spans. -/
import Derived.Test.YtgfblcfleohdjaaRsK
namespace Go.Proofs.Ytgfblcfleohdjaa
open Go.RowKit

/-- What is free when i of what is joined, and of what is behind the memory, have been seen. -/
def FF (l J O : List SP) (i : Nat) (c : Int) : Prop := (i ≤ J.length ∧ FInv J O i c) ∨ (i = J.length + 1 ∧ FreeOk l O ∧ 4096 ≤ c ∧ c ≤ 8589934590 ∧ O.length ≤ i)
theorem ff_start (l J : List SP) : FF l J [] 0 4096 := .inl ⟨Nat.zero_le _, finv_start J⟩
theorem ff_low {l J O : List SP} {i : Nat} {c : Int} (h : FF l J O i c) : 4096 ≤ c ∧ c ≤ 8589934590 ∧ O.length ≤ i := by
  rcases h with ⟨_, h⟩ | ⟨_, _, h1, h2, h3⟩
  · exact ⟨h.low, h.big, h.few⟩
  · exact ⟨h1, h2, h3⟩
theorem ff_end {l J O : List SP} {c : Int} (h : FF l J O (J.length + 1) c) : FreeOk l O := by
  rcases h with ⟨h, _⟩ | ⟨_, h, _⟩
  · omega
  · exact h
theorem ff_step {l J O : List SP} {i : Nat} {c : Int} (hJ : JoinOk l J) (h : FF l J O i c) (hi : i < J.length + 1) {y : SP} (hy : (J ++ [(⟨65536, 0⟩ : SP)]).getD i sp0 = y) :
    0 ≤ y.p ∧ 0 ≤ y.n ∧ y.p + y.n ≤ 8589934590 ∧ FF l J (if 0 < min y.p 65536 - c then O ++ [⟨c, min y.p 65536 - c⟩] else O) (i + 1) (max c (y.p + y.n)) := by
  rcases h with ⟨_, h⟩ | ⟨h, _⟩
  · by_cases q : i < J.length
    · have e : (J ++ [(⟨65536, 0⟩ : SP)]).getD i sp0 = J.getD i sp0 := by rw [List.getD_eq_getElem?_getD, List.getElem?_append_left q, ← List.getD_eq_getElem?_getD]
      rw [e] at hy
      have hm := join_in hJ _ (spMem q)
      have hs := finv_step hJ.1 (fun x hx => (join_in hJ x hx).2.2) h q
      rw [hy] at hm hs
      refine ⟨hm.1, by omega, hm.2.2, .inl ⟨q, ?_⟩⟩
      by_cases q1 : c < y.p ∧ c < 65536
      · rw [if_pos q1] at hs
        rw [if_pos (by omega)]; exact hs
      · rw [if_neg q1] at hs
        rw [if_neg (by omega)]; exact hs
    · obtain rfl : i = J.length := by omega
      have e : (J ++ [(⟨65536, 0⟩ : SP)]).getD J.length sp0 = ⟨65536, 0⟩ := by simp
      rw [e] at hy
      subst hy
      have hs := finv_end hJ h
      have h1 := h.low
      have h2 := h.big
      have h3 := h.few
      refine ⟨by decide, by decide, by decide, .inr ⟨rfl, ?_, by simp only; omega, by simp only; omega, ?_⟩⟩
      · simp only
        by_cases q1 : c < 65536
        · rw [if_pos q1] at hs
          rw [if_pos (by omega)]; exact hs
        · rw [if_neg q1] at hs
          rw [if_neg (by omega)]; exact hs
      · split
        · rw [List.length_append]; simp only [List.length_cons, List.length_nil]; omega
        · omega
  · omega
/-- Length and capacity of a slice of one's own. -/
theorem own_caps {w : World} {B e size n cap : Nat} {A : Option Addr} {xs : List Value} (h : w.ownsRow B e size (.slice A n cap) n xs) : n ≤ cap ∧ cap ≤ maxLen := by
  rcases h.2 with ⟨h1, _⟩ | ⟨g', cap', cur, h1, hb, hg, hnc, hcm, _⟩
  · injection h1 with _ h2 h3
    subst h2 h3
    exact ⟨Nat.le_refl _, Nat.zero_le _⟩
  · injection h1 with _ _ h3
    subst h3
    exact ⟨hnc, hcm⟩

set_option maxHeartbeats 6400000 in
set_option maxRecDepth 100000 in
theorem free18_any (A : Option Addr) (cap : Nat) (l : List SP) (w : World) (hr : RdSp w A l) (hl : l.length ≤ 1000) :
    Calls Try.prog 15 #[.slice A l.length cap] w fun e w' => ∃ B c F, e = .returned (.slice B F.length c) ∧ RdSp w' B F ∧ FreeOk l F ∧ Below w.heap.size w w' ∧ F.length ≤ c ∧ c ≤ maxLen := by
  have HJN := Lib.hid (join18_any A cap l w hr hl)
  have HEL := Lib.hid elemSpD
  clear hr
  go_enter Try.func15, Try.ntmps15
  go_wp2_with fail
  refine HJN.out.mono ?_
  rintro e w1 ⟨v1, J, rfl, ho1, hjo, hb1, hjl⟩
  have HB1 := Lib.hid hb1
  have HS1 : Hid (w.heap.size ≤ w1.heap.size) := hb1.size
  have HO1 := Lib.hid ho1
  have HJO := Lib.hid hjo
  have HF0 := Lib.hid (ff_start l J)
  have HONE0 : Hid (∀ u ∈ (#[.int .i64 65536, .int .i64 0] : Array Value).toList, u.oneCell' = true) := fun u hu => spD_cells [⟨65536, 0⟩] u hu
  obtain ⟨A1, c1, rfl, hc1⟩ := slice_ofN ho1
  obtain ⟨T, hT⟩ : ∃ T, T = J ++ [(⟨65536, 0⟩ : SP)] := ⟨_, rfl⟩
  have hT2 : T.length = J.length + 1 := by rw [hT, List.length_append]; rfl
  have HOJ : Hid (∀ (v : Value) (w' : World), w'.ownsRow w.heap.size 24 2 v (J.length + 1) (spD J ++ [.int .i64 65536, .int .i64 0]) → w'.ownsRow w.heap.size 24 2 v T.length (spD T)) := fun v w' h => by
    rw [hT, spD_app, List.length_append]; exact h
  have HSTEP : Hid (∀ O i c y, FF l J O i c → i < T.length → T.getD i sp0 = y → 0 ≤ y.p ∧ 0 ≤ y.n ∧ y.p + y.n ≤ 8589934590 ∧ FF l J (if 0 < min y.p 65536 - c then O ++ [⟨c, min y.p 65536 - c⟩] else O) (i + 1) (max c (y.p + y.n))) := fun O i c y h hi hy => ff_step HJO.out h (by rw [hT2] at hi; exact hi) (by rw [hT] at hy; exact hy)
  have HJ3 : Hid (T.length ≤ 1001) := by unfold Hid; rw [hT2]; omega
  have HEND : Hid (∀ O c, FF l J O T.length c → FreeOk l O) := fun O c h => ff_end (by rw [hT2] at h; exact h)
  clear hb1 ho1 HJN hT hT2
  go_wp2_with (at_builtin; refine append_newB rfl (.tmp 9) (.tmp 11) 22 rfl 24 2 16 HEL w.heap.size (.slice A1 J.length c1) J.length (spD J) rfl HO1.out #[.int .i64 65536, .int .i64 0] rfl HONE0.out _ rfl rfl (by unfold maxLen; omega) (by omega) HS1.out ?_; intro v2 w2 ho2 hm2; have HO2 := Lib.hid (HOJ.out v2 w2 ho2); have HB2 : Hid (Below w.heap.size w w2) := (HB1.out.alloc HS1.out _).grown hm2 (by rw [sz_alloc]; have := HS1.out; omega) (fun g hg => (HO1.out.lt g hg).1); clear ho2 hm2; obtain ⟨A2, c2, rfl, hrd2, _⟩ := own_spD HO2.out; have HR := Lib.hid hrd2; clear hrd2)
  clear HOJ HJO HO1 HONE0 HS1 HB1 HO2 hjo hjl hc1
  have htl := HJ3.out
  go_wp2
  go_loopw [3, 4, 14] (fun ov cv iv wr => ∃ (i : Nat) (c : Int) (O : List SP), i ≤ T.length ∧ iv = .int .i64 i ∧ cv = .int .i64 c ∧ Hid (FF l J O i c) ∧ wr.ownsRow w2.heap.size 24 2 ov O.length (spD O) ∧ Below w2.heap.size w2 wr) (fun _ _ iv _ => T.length - (intOf iv).toNat)
  case atStart => exact ⟨0, 4096, [], Nat.zero_le _, rfl, rfl, HF0.out, World.ownsRow_nil _ _ _ _, Below.refl _ _⟩
  case round =>
    obtain ⟨i, c, O, hi, rfl, rfl, HI, hown, hb⟩ := hrel
    have HOWN := Lib.hid hown
    have HB3 := Lib.hid hb
    have HSZ := Lib.hid hb.size
    obtain ⟨hc1, hc2, hol⟩ := ff_low HI.out
    clear hown HF0
    by_cases hlt : i < T.length
    · have hii : (i : Int) < T.length := by omega
      have hi0 : (0 : Int) ≤ (i : Int) := by omega
      obtain ⟨b, off, y, rfl, ⟨h1, h2⟩, HX⟩ := (HR.out.below hb).at_ hlt
      obtain ⟨y1, y2, y3, hst⟩ := HSTEP.out O i c y HI.out hlt HX.out
      obtain ⟨A9, c9, rfl, hc9⟩ := slice_ofN HOWN.out
      obtain ⟨W2, hW2⟩ : ∃ W2, W2 = wr.alloc (.cells #[.int .i64 y.p, .int .i64 y.n] 24) := ⟨_, rfl⟩
      obtain ⟨g6, hg6⟩ : ∃ g6, g6 = wr.heap.size := ⟨_, rfl⟩
      have hB2 : Below wr.heap.size wr W2 := by rw [hW2]; exact (Below.refl _ _).alloc (Nat.le_refl _) _
      have hA6 : Arr W2 g6 24 #[.int .i64 y.p, .int .i64 y.n] := by rw [hW2, hg6]; exact Arr.new wr _ _
      have HA6 := Lib.hid hA6
      have HO4 := Lib.hid (ow_below HOWN.out hB2)
      have HB4 : Hid (Below w2.heap.size w2 W2) := hb.trans (hB2.mono hb.size)
      have HSZ4 : Hid (w2.heap.size ≤ W2.heap.size) := HB4.out.size
      have HEY : Hid (∀ W, Calls Try.prog 25 #[.agg #[.int .i64 y.p, .int .i64 y.n]] W fun e w' => e = .returned (.int .i64 (y.p + y.n)) ∧ Below W.heap.size W w') := fun W => end_any y W (by omega)
      have HG6 : Hid (∀ g, (Value.slice A9 O.length c9).ownBlock = some g → g ≠ g6) := fun g h e => by have := (HOWN.out.lt g h).2; omega
      obtain ⟨d0, d1⟩ : W2.cell? ⟨g6, 0, none⟩ = some (.int .i64 y.p) ∧ W2.cell? ⟨g6, 1, none⟩ = some (.int .i64 y.n) := ⟨hA6.cell 0, hA6.cell 1⟩
      clear HX HI hb hB2 hA6
      go_upto_region 6 with fail
      rw [← hW2, ← hg6]
      clear hW2 hg6 h1 h2
      by_cases q3 : y.p ≤ 65536
      · have hm : min y.p 65536 = y.p := by omega
        rw [hm] at hst
        have hw2 : IntKind.i64.wrap (y.p - c) = y.p - c := IntWalk.i64_in _ (by omega)
        by_cases q : 0 < y.p - c
        · have dq : decide (0 < y.p - c) = true := decide_eq_true q
          rw [if_pos q] at hst
          have HO5 : Hid (∀ (v : Value) (w' : World), w'.ownsRow w2.heap.size 24 2 v (O.length + 1) (spD O ++ [.int .i64 c, .int .i64 (y.p - c)]) → w'.ownsRow w2.heap.size 24 2 v (O ++ [(⟨c, y.p - c⟩ : SP)]).length (spD (O ++ [(⟨c, y.p - c⟩ : SP)]))) := fun v w' h => by
            rw [spD_app, List.length_append]; exact h
          generalize O ++ [(⟨c, y.p - c⟩ : SP)] = O2 at *
          have HST := Lib.hid hst
          have HONE : Hid (∀ u ∈ (#[.int .i64 c, .int .i64 (y.p - c)] : Array Value).toList, u.oneCell' = true) := fun u hu => spD_cells [⟨c, y.p - c⟩] u hu
          clear hst
          go_upto_region 9 with (at_builtin; refine append_newB rfl (.tmp 25) (.tmp 29) 22 rfl 24 2 16 HEL w2.heap.size (.slice A9 O.length c9) O.length (spD O) rfl HO4.out #[.int .i64 c, .int .i64 (y.p - c)] rfl HONE.out _ rfl rfl (by unfold maxLen; omega) (by omega) HSZ4.out ?_; intro v5 w5 ho5 hm5; have HO6 := Lib.hid (HO5.out v5 w5 ho5); have HM5 : Hid (Below w2.heap.size w2 w5) := (HB4.out.alloc HSZ4.out _).grown hm5 (by rw [sz_alloc]; have := HSZ4.out; omega) (fun g hg => (HO4.out.lt g hg).1); have HA7 : Hid (Arr w5 g6 24 #[.int .i64 y.p, .int .i64 y.n]) := (HA6.out.alloc _).gr hm5 (fun e => HG6.out g6 e.symm rfl); clear ho5 hm5)
          obtain ⟨d2, d3⟩ : w5.cell? ⟨g6, 0, none⟩ = some (.int .i64 y.p) ∧ w5.cell? ⟨g6, 1, none⟩ = some (.int .i64 y.n) := ⟨HA7.out.cell 0, HA7.out.cell 1⟩
          go_wp2_with fail
          refine (HEY.out _).mono ?_
          rintro e w6 ⟨rfl, hb6⟩
          have HO7 := Lib.hid (ow_below HO6.out hb6)
          have HB7 : Hid (Below w2.heap.size w2 w6) := HM5.out.trans (hb6.mono HM5.out.size)
          clear hb6
          go_wp2
          go_roundw
          case rel => exact ⟨i + 1, _, O2, by omega, by go_num, rfl, HST.out, HO7.out, HB7.out⟩
          case measure => simp [intOf]; omega
        · have dq : decide (0 < y.p - c) = false := decide_eq_false q
          rw [if_neg q] at hst
          have HST := Lib.hid hst
          clear hst
          go_wp2_with fail
          refine (HEY.out _).mono ?_
          rintro e w6 ⟨rfl, hb6⟩
          have HO7 := Lib.hid (ow_below HO4.out hb6)
          have HB7 : Hid (Below w2.heap.size w2 w6) := HB4.out.trans (hb6.mono HSZ4.out)
          clear hb6
          go_wp2
          go_roundw
          case rel => exact ⟨i + 1, _, O, by omega, by go_num, rfl, HST.out, HO7.out, HB7.out⟩
          case measure => simp [intOf]; omega
      · have q4 : 65536 < y.p := by omega
        have hm : min y.p 65536 = 65536 := by omega
        rw [hm] at hst
        have hw2 : IntKind.i64.wrap (65536 - c) = 65536 - c := IntWalk.i64_in _ (by omega)
        by_cases q : 0 < 65536 - c
        · have dq : decide (0 < 65536 - c) = true := decide_eq_true q
          rw [if_pos q] at hst
          have HO5 : Hid (∀ (v : Value) (w' : World), w'.ownsRow w2.heap.size 24 2 v (O.length + 1) (spD O ++ [.int .i64 c, .int .i64 (65536 - c)]) → w'.ownsRow w2.heap.size 24 2 v (O ++ [(⟨c, 65536 - c⟩ : SP)]).length (spD (O ++ [(⟨c, 65536 - c⟩ : SP)]))) := fun v w' h => by
            rw [spD_app, List.length_append]; exact h
          generalize O ++ [(⟨c, 65536 - c⟩ : SP)] = O2 at *
          have HST := Lib.hid hst
          have HONE : Hid (∀ u ∈ (#[.int .i64 c, .int .i64 (65536 - c)] : Array Value).toList, u.oneCell' = true) := fun u hu => spD_cells [⟨c, 65536 - c⟩] u hu
          clear hst
          go_upto_region 9 with (at_builtin; refine append_newB rfl (.tmp 25) (.tmp 29) 22 rfl 24 2 16 HEL w2.heap.size (.slice A9 O.length c9) O.length (spD O) rfl HO4.out #[.int .i64 c, .int .i64 (65536 - c)] rfl HONE.out _ rfl rfl (by unfold maxLen; omega) (by omega) HSZ4.out ?_; intro v5 w5 ho5 hm5; have HO6 := Lib.hid (HO5.out v5 w5 ho5); have HM5 : Hid (Below w2.heap.size w2 w5) := (HB4.out.alloc HSZ4.out _).grown hm5 (by rw [sz_alloc]; have := HSZ4.out; omega) (fun g hg => (HO4.out.lt g hg).1); have HA7 : Hid (Arr w5 g6 24 #[.int .i64 y.p, .int .i64 y.n]) := (HA6.out.alloc _).gr hm5 (fun e => HG6.out g6 e.symm rfl); clear ho5 hm5)
          obtain ⟨d2, d3⟩ : w5.cell? ⟨g6, 0, none⟩ = some (.int .i64 y.p) ∧ w5.cell? ⟨g6, 1, none⟩ = some (.int .i64 y.n) := ⟨HA7.out.cell 0, HA7.out.cell 1⟩
          go_wp2_with fail
          refine (HEY.out _).mono ?_
          rintro e w6 ⟨rfl, hb6⟩
          have HO7 := Lib.hid (ow_below HO6.out hb6)
          have HB7 : Hid (Below w2.heap.size w2 w6) := HM5.out.trans (hb6.mono HM5.out.size)
          clear hb6
          go_wp2
          go_roundw
          case rel => exact ⟨i + 1, _, O2, by omega, by go_num, rfl, HST.out, HO7.out, HB7.out⟩
          case measure => simp [intOf]; omega
        · have dq : decide (0 < 65536 - c) = false := decide_eq_false q
          rw [if_neg q] at hst
          have HST := Lib.hid hst
          clear hst
          go_wp2_with fail
          refine (HEY.out _).mono ?_
          rintro e w6 ⟨rfl, hb6⟩
          have HO7 := Lib.hid (ow_below HO4.out hb6)
          have HB7 : Hid (Below w2.heap.size w2 w6) := HB4.out.trans (hb6.mono HSZ4.out)
          clear hb6
          go_wp2
          go_roundw
          case rel => exact ⟨i + 1, _, O, by omega, by go_num, rfl, HST.out, HO7.out, HB7.out⟩
          case measure => simp [intOf]; omega
    · obtain rfl : i = T.length := by omega
      have HFO := Lib.hid (HEND.out O c HI.out)
      obtain ⟨A9, c9, rfl, hrd9, _⟩ := own_spD HOWN.out
      obtain ⟨hk1, hk2⟩ := own_caps HOWN.out
      have HRD := Lib.hid hrd9
      have HC1 := Lib.hid hk1
      have HC2 := Lib.hid hk2
      have HBE : Hid (Below w.heap.size w wr) := HB2.out.trans (HB3.out.mono HB2.out.size)
      clear HI hb hrd9 hk1 hk2
      go_wp2
      go_ret
      exact ⟨A9, c9, O, rfl, HRD.out, HFO.out, HBE.out, HC1.out, HC2.out⟩
end Go.Proofs.Ytgfblcfleohdjaa
