/- What the document's pad and prop return. Conditions: strings of at most 2^40 bytes. -/
import Derived.Test.YtmgmpjgofolkgaaMg15
import Derived.Test.YtmgmpjgofolkgaaMg1
import Derived.Laws.ResultCell
import Derived.Deep.RegionWith
import Derived.Deep.RegionHeld3
import Derived.Deep.WholeRow
import Derived.Test.YtmgmpjgofolkgaaMg8
import Derived.Test.YtmgmpjgofolkgaaMg0
import Derived.BigQuiet
namespace Go.Proofs.Ytmgmpjgofolkgaa
open Go.RowKit

/-- How long a string is. -/
def strLen : Value → Nat
  | .string t => t.size
  | _ => 0

/-- How prop's ends are told. -/
theorem propR_short {l tx : List UInt8} (h : l.length < 8 ∨ l.length < 8 + up4 (pSz l)) : propR l tx = (tk0, 0, 14) := by
  unfold propR
  rcases h with h | h
  · rw [if_pos h]
  · by_cases h8 : l.length < 8
    · rw [if_pos h8]
    · rw [if_neg h8, if_pos h]
theorem propR_long {l tx : List UInt8} (h : ¬ (l.length < 8 ∨ l.length < 8 + up4 (pSz l))) : propR l tx =
    if (decide ((getR tx (frombig (l.drop 4))).2 = 0) && mayB (getR tx (frombig (l.drop 4))).1 && zerosB ((l.take (8 + up4 (pSz l))).drop (8 + pSz l))) = true then
    (⟨3, (getR tx (frombig (l.drop 4))).1, ⟨((l.take (8 + pSz l)).drop 8).toArray⟩⟩, 8 + up4 (pSz l), 0) else (tk0, 0, 6) := by unfold propR; rw [if_neg (by omega), if_neg (by omega)]
theorem cut_mid (s : ByteArray) (a b : Nat) : s.extract a b = ⟨((s.data.toList.take b).drop a).toArray⟩ := by rw [ba_eq (s.extract a b), ext_list]
theorem getR_size (l : List UInt8) (p : Int) : (getR l p).1.size ≤ l.length := by
  unfold getR
  split
  · exact Nat.zero_le _
  · split
    · rw [size_mk, List.length_take, List.length_drop]; omega
    · exact Nat.zero_le _
/-- Three results, the first a struct of the call's own. -/
theorem results_cell_tmp2 {fn : Func} {p u v : Tmp} {ty : TypeId} (h : fn.results = #[.cell p ty, .tmp u, .tmp v]) (tmps : Array Value) (P : Program) (w : World) :
    (results fn tmps).run P w = ((asAddr (tmps.getD p undef)).run P w).andThen fun a w₁ => ((loadVar ty a).run P w₁).andThen fun x w₂ => .ok (.tuple #[x, tmps.getD u undef, tmps.getD v undef]) w₂ := by
  simp only [results, h]
  simp [Sem.run_bind, Result.andThen]
theorem results_row_tmp2 {P : Program} {fn : Func} {p u v : Tmp} {ty : TypeId} (h : fn.results = #[.cell p ty, .tmp u, .tmp v]) (tmps : Array Value) (w : World) (g : Nat) (t : TypeId) (cs : Array Value) (fr : Nat × Nat) (d : TypeDesc)
    (hp : tmps.getD p undef = .pointer (some ⟨g, 0, none⟩)) (hg : w.heap[g]? = some (.cells cs t fr))
    (hu : P.underlying ty = some d) (hd : (match d with | .struct _ | .array _ _ => true | _ => false) = true) (hi : (P.info? ty).map (·.size) = some cs.size) :
    (results fn tmps).run P w = .ok (.tuple #[.agg cs, tmps.getD u undef, tmps.getD v undef]) w := by
  rw [results_cell_tmp2 h, hp]
  simp [asAddr, run_loadVar_row w g t ty cs fr d hg hu hd hi, Result.andThen]
set_option maxHeartbeats 1600000 in
set_option maxRecDepth 100000 in
theorem rprop_any (s t : ByteArray) (w : World) (hl : s.size ≤ 1099511627776) (ht : t.size ≤ maxLen) :
    Calls Try.prog 33 #[.string s, .string t] w fun e w' => e = .returned (.tuple #[tkV (propR s.data.toList t.data.toList).1, .int .i64 ((propR s.data.toList t.data.toList).2.1 : Int), .int .i64 ((propR s.data.toList t.data.toList).2.2 : Int)]) ∧ Below w.heap.size w w' := by
  have hlen : s.data.toList.length = s.size := rfl
  have HSH := Lib.hid (propR_short (l := s.data.toList) (tx := t.data.toList))
  have HLO := Lib.hid (propR_long (l := s.data.toList) (tx := t.data.toList))
  rw [hlen] at HSH HLO
  rw [← cut_mid s, ← ext_list] at HLO
  have hfb := frombig_bd s.data.toList
  have hps : ((pSz s.data.toList : Nat) : Int) = frombig s.data.toList := by unfold pSz; omega
  have HFB : Hid (∀ W : World, 4 ≤ s.size → Calls Try.prog 31 #[.string s] W fun e w' => e = .returned (.tuple #[.int .i64 ((pSz s.data.toList : Nat) : Int), .bool true]) ∧ Below W.heap.size W w') := fun W h => by
    rw [hps]; exact reffrombig_yes s W h (by unfold maxLen; omega)
  have hpl : pSz s.data.toList < 4294967296 := by omega
  have HF2 : Hid (∀ W : World, 8 ≤ s.size → Calls Try.prog 31 #[.string (s.extract 4 s.size)] W fun e w' => e = .returned (.tuple #[.int .i64 (frombig (s.data.toList.drop 4)), .bool true]) ∧ Below W.heap.size W w') := fun W h => by
    have := reffrombig_yes (s.extract 4 s.size) W (by rw [ByteArray.size_extract]; omega) (by rw [ByteArray.size_extract]; unfold maxLen; omega)
    rwa [cut_list] at this
  have hf4 := frombig_bd (s.data.toList.drop 4)
  have HGE := Lib.hid (fun W => rget_any t (frombig (s.data.toList.drop 4)) W ht (by omega) (by omega))
  have HUP : Hid (∀ W : World, Calls Try.prog 45 #[.int .i64 ((pSz s.data.toList : Nat) : Int)] W fun e w' => e = .returned (.int .i64 (up4 (pSz s.data.toList) : Int)) ∧ W = w') := fun W => by
    have := refup_any ((pSz s.data.toList : Nat) : Int) W
    rwa [up_of _ (by omega)] at this
  have hug : pSz s.data.toList ≤ up4 (pSz s.data.toList) ∧ up4 (pSz s.data.toList) < pSz s.data.toList + 4 := ⟨up4_ge _, up4_lt _⟩
  have hgz : (getR t.data.toList (frombig (s.data.toList.drop 4))).1.size ≤ maxLen := Nat.le_trans (getR_size _ _) ht
  generalize frombig (s.data.toList.drop 4) = pa at *
  generalize getR t.data.toList pa = gr at *
  generalize propR s.data.toList t.data.toList = R at *
  generalize pSz s.data.toList = z at *
  generalize up4 z = n at *
  obtain ⟨gn, ge⟩ := gr
  simp only at HLO HGE hgz
  clear hps hfb
  have HB := Lib.hid ((Below.refl w.heap.size w).alloc (Nat.le_refl _) (.cells (tkC tk0) 70))
  have HA := Lib.hid (Arr.new w 70 (tkC tk0))
  by_cases h8 : s.size < 8
  · have hR := Lib.hid (HSH.out (.inl h8))
    have d0 : decide ((s.size : Int) < 8) = true := decide_eq_true (by omega)
    clear HSH HLO HFB HF2 HGE HUP
    go_enter Try.func33, Try.ntmps33
    go_wp2_with (refine wpList_store_row rfl 70 (.tmp 4) (.tmp 16) rfl w.heap.size (tkC tk0) rfl rfl _ _ HA.out (infoTk _) rfl (tkC_one _) ?_)
    rw [hR.out]
    exact bodyPost_ret (results_row_tmp2 rfl _ _ w.heap.size _ (tkC tk0) _ _ rfl (HA.out.row _) Try.underlying70 rfl (infoTk _)) rfl ⟨rfl, below_setRow HB.out (Nat.le_refl _) _⟩
  have d0 : decide ((s.size : Int) < 8) = false := decide_eq_false (by omega)
  have h4 : 4 ≤ s.size := by omega
  have h8' : 8 ≤ s.size := by omega
  have c4 : (4 : Int) ≤ s.size := by omega
  by_cases hzs : s.size < z
  · have hR := Lib.hid (HSH.out (.inr (by omega)))
    have d1 : decide ((s.size : Int) < (z : Int)) = true := decide_eq_true (by omega)
    have d1' : decide (s.size < z) = true := decide_eq_true hzs
    clear HSH HLO HGE HUP hzs
    go_enter Try.func33, Try.ntmps33
    go_wp2_with fail
    refine (HFB.out _ h4).mono ?_
    rintro e w1 ⟨rfl, hb1⟩
    have HA1 := Lib.hid (HA.out.below hb1 HA.out.lt)
    have HB1 := Lib.hid (HB.out.trans (hb1.mono HB.out.size))
    clear hb1 HFB
    go_wp2_with fail
    refine (HF2.out _ h8').mono ?_
    rintro e w2 ⟨rfl, hb2⟩
    have HA2 := Lib.hid (HA1.out.below hb2 HA1.out.lt)
    have HB2 := Lib.hid (HB1.out.trans (hb2.mono HB1.out.size))
    clear hb2 HF2
    go_wp2_with (refine wpList_store_row rfl 70 (.tmp 4) (.tmp 40) rfl w.heap.size (tkC tk0) rfl rfl _ _ HA2.out (infoTk _) rfl (tkC_one _) ?_)
    rw [hR.out]
    exact bodyPost_ret (results_row_tmp2 rfl _ _ w.heap.size _ (tkC tk0) _ _ rfl (HA2.out.row _) Try.underlying70 rfl (infoTk _)) rfl ⟨rfl, below_setRow HB2.out (Nat.le_refl _) _⟩
  have d1 : decide ((s.size : Int) < (z : Int)) = false := decide_eq_false (by omega)
  have d1' : decide (s.size < z) = false := decide_eq_false hzs
  by_cases hns : s.size < 8 + n
  · have hR := Lib.hid (HSH.out (.inr hns))
    have d2 : decide ((s.size : Int) - 8 < (n : Int)) = true := decide_eq_true (by omega)
    clear HSH HLO HGE hzs hns
    go_enter Try.func33, Try.ntmps33
    go_wp2_with fail
    refine (HFB.out _ h4).mono ?_
    rintro e w1 ⟨rfl, hb1⟩
    have HA1 := Lib.hid (HA.out.below hb1 HA.out.lt)
    have HB1 := Lib.hid (HB.out.trans (hb1.mono HB.out.size))
    clear hb1 HFB
    go_wp2_with fail
    refine (HF2.out _ h8').mono ?_
    rintro e w2 ⟨rfl, hb2⟩
    have HA2 := Lib.hid (HA1.out.below hb2 HA1.out.lt)
    have HB2 := Lib.hid (HB1.out.trans (hb2.mono HB1.out.size))
    clear hb2 HF2
    go_wp2_with fail
    refine (HUP.out _).mono ?_
    rintro e w3 ⟨rfl, rfl⟩
    go_wp2_with (refine wpList_store_row rfl 70 (.tmp 4) (.tmp 40) rfl w.heap.size (tkC tk0) rfl rfl _ _ HA2.out (infoTk _) rfl (tkC_one _) ?_)
    rw [hR.out]
    exact bodyPost_ret (results_row_tmp2 rfl _ _ w.heap.size _ (tkC tk0) _ _ rfl (HA2.out.row _) Try.underlying70 rfl (infoTk _)) rfl ⟨rfl, below_setRow HB2.out (Nat.le_refl _) _⟩
  have d2 : decide ((s.size : Int) - 8 < (n : Int)) = false := decide_eq_false (by omega)
  have hR0 := HLO.out (by omega)
  have HMA := Lib.hid (fun W => rmay_any gn W hgz)
  have HZE := Lib.hid (fun W => rzeros_any (s.extract (8 + z) (8 + n)) W (by rw [ByteArray.size_extract]; unfold maxLen; omega))
  have c5 : (8 : Int) + z ≤ 8 + n := by omega
  have c6 : (8 : Int) + n ≤ s.size := by omega
  have c7 : (8 : Int) ≤ 8 + z := by omega
  have c8 : (8 : Int) + z ≤ s.size := by omega
  clear hzs hns HSH HLO
  generalize mayB gn = mb at *
  generalize zerosB (s.extract (8 + z) (8 + n)).data.toList = zb at *
  by_cases hge : ge = 0
  · subst hge
    cases mb with
    | false =>
      have HR : Hid (R = (tk0, 0, 6)) := by unfold Hid; rw [hR0]; rfl
      clear hR0 HZE
      go_enter Try.func33, Try.ntmps33
      go_wp2_with fail
      refine (HFB.out _ h4).mono ?_
      rintro e w1 ⟨rfl, hb1⟩
      have HA1 := Lib.hid (HA.out.below hb1 HA.out.lt)
      have HB1 := Lib.hid (HB.out.trans (hb1.mono HB.out.size))
      clear hb1 HFB
      go_wp2_with fail
      refine (HF2.out _ h8').mono ?_
      rintro e w2 ⟨rfl, hb2⟩
      have HA2 := Lib.hid (HA1.out.below hb2 HA1.out.lt)
      have HB2 := Lib.hid (HB1.out.trans (hb2.mono HB1.out.size))
      clear hb2 HF2
      go_wp2_with fail
      refine (HUP.out _).mono ?_
      rintro e w3 ⟨rfl, rfl⟩
      go_wp2_with fail
      refine (HGE.out _).mono ?_
      rintro e w3 ⟨rfl, rfl⟩
      go_wp2_with fail
      refine (HMA.out _).mono ?_
      rintro e w3 ⟨rfl, rfl⟩
      go_wp2_with (refine wpList_store_row rfl 70 (.tmp 4) (.tmp 65) rfl w.heap.size (tkC tk0) rfl rfl _ _ HA2.out (infoTk _) rfl (tkC_one _) ?_)
      rw [HR.out]
      exact bodyPost_ret (results_row_tmp2 rfl _ _ w.heap.size _ (tkC tk0) _ _ rfl (HA2.out.row _) Try.underlying70 rfl (infoTk _)) rfl ⟨rfl, below_setRow HB2.out (Nat.le_refl _) _⟩
    | true =>
      cases zb with
      | false =>
        have HR : Hid (R = (tk0, 0, 6)) := by unfold Hid; rw [hR0]; rfl
        clear hR0
        go_enter Try.func33, Try.ntmps33
        go_wp2_with fail
        refine (HFB.out _ h4).mono ?_
        rintro e w1 ⟨rfl, hb1⟩
        have HA1 := Lib.hid (HA.out.below hb1 HA.out.lt)
        have HB1 := Lib.hid (HB.out.trans (hb1.mono HB.out.size))
        clear hb1 HFB
        go_wp2_with fail
        refine (HF2.out _ h8').mono ?_
        rintro e w2 ⟨rfl, hb2⟩
        have HA2 := Lib.hid (HA1.out.below hb2 HA1.out.lt)
        have HB2 := Lib.hid (HB1.out.trans (hb2.mono HB1.out.size))
        clear hb2 HF2
        go_wp2_with fail
        refine (HUP.out _).mono ?_
        rintro e w3 ⟨rfl, rfl⟩
        go_wp2_with fail
        refine (HGE.out _).mono ?_
        rintro e w3 ⟨rfl, rfl⟩
        go_wp2_with fail
        refine (HMA.out _).mono ?_
        rintro e w3 ⟨rfl, rfl⟩
        go_wp2_with fail
        refine (HUP.out _).mono ?_
        rintro e w3 ⟨rfl, rfl⟩
        go_wp2_with fail
        refine (HZE.out _).mono ?_
        rintro e w3 ⟨rfl, rfl⟩
        go_wp2_with (refine wpList_store_row rfl 70 (.tmp 4) (.tmp 65) rfl w.heap.size (tkC tk0) rfl rfl _ _ HA2.out (infoTk _) rfl (tkC_one _) ?_)
        rw [HR.out]
        exact bodyPost_ret (results_row_tmp2 rfl _ _ w.heap.size _ (tkC tk0) _ _ rfl (HA2.out.row _) Try.underlying70 rfl (infoTk _)) rfl ⟨rfl, below_setRow HB2.out (Nat.le_refl _) _⟩
      | true =>
        have HR : Hid (R = (⟨3, gn, s.extract 8 (8 + z)⟩, 8 + n, 0)) := by unfold Hid; rw [hR0]; rfl
        clear hR0
        go_enter Try.func33, Try.ntmps33
        go_wp2_with fail
        refine (HFB.out _ h4).mono ?_
        rintro e w1 ⟨rfl, hb1⟩
        have HA1 := Lib.hid (HA.out.below hb1 HA.out.lt)
        have HB1 := Lib.hid (HB.out.trans (hb1.mono HB.out.size))
        clear hb1 HFB
        go_wp2_with fail
        refine (HF2.out _ h8').mono ?_
        rintro e w2 ⟨rfl, hb2⟩
        have HA2 := Lib.hid (HA1.out.below hb2 HA1.out.lt)
        have HB2 := Lib.hid (HB1.out.trans (hb2.mono HB1.out.size))
        clear hb2 HF2
        go_wp2_with fail
        refine (HUP.out _).mono ?_
        rintro e w3 ⟨rfl, rfl⟩
        go_wp2_with fail
        refine (HGE.out _).mono ?_
        rintro e w3 ⟨rfl, rfl⟩
        go_wp2_with fail
        refine (HMA.out _).mono ?_
        rintro e w3 ⟨rfl, rfl⟩
        go_wp2_with fail
        refine (HUP.out _).mono ?_
        rintro e w3 ⟨rfl, rfl⟩
        go_wp2_with fail
        refine (HZE.out _).mono ?_
        rintro e w3 ⟨rfl, rfl⟩
        go_wp2_with fail
        have c0 : w2.cell? ⟨w.heap.size, 0, none⟩ = some (.int .i64 0) := HA2.out.cell 0
        have c1 : w2.cell? ⟨w.heap.size, 1, none⟩ = some (.string ByteArray.empty) := HA2.out.cell 1
        have c2 : w2.cell? ⟨w.heap.size, 2, none⟩ = some (.string ByteArray.empty) := HA2.out.cell 2
        have f0 := HA2.out.frozen 0
        have f1 := HA2.out.frozen 1
        have f2 := HA2.out.frozen 2
        have m4 : (8 : Int) + (z : Int) = ((8 + z : Nat) : Int) := by omega
        have m5 : (8 : Int) + (n : Int) = ((8 + n : Nat) : Int) := by omega
        obtain ⟨a, ha⟩ : ∃ a, 8 + z = a := ⟨_, rfl⟩
        obtain ⟨b, hb⟩ : ∃ b, 8 + n = b := ⟨_, rfl⟩
        rw [ha] at m4 HR
        rw [hb] at m5 HR
        have m1 : IntKind.i64.wrap (a : Int) = (a : Int) := IntWalk.i64_in _ (by omega)
        have m2 : IntKind.i64.wrap (b : Int) = (b : Int) := IntWalk.i64_in _ (by omega)
        have c9 : (8 : Int) ≤ a := by omega
        have c10 : (a : Int) ≤ s.size := by omega
        have c11 : (0 : Int) ≤ a := by omega
        clear HMA HZE HGE HA1 HB1 HA HB c5 c6 c7 c8
        go_region_with (go_at_call 45; refine (HUP.out _).mono ?_; rintro e w9 ⟨rfl, rfl⟩)
        go_wp2
        generalize s.extract 8 a = X at *
        have HA9 : Arr ((((w2.setCell ⟨w.heap.size, 0, none⟩ (.int .i64 3)).setCell ⟨w.heap.size, 1, none⟩ (.string gn)).setCell ⟨w.heap.size, 2, none⟩ (.string X)).drew) w.heap.size 70 (tkC ⟨3, gn, X⟩) := ((HA2.out.put 0 (.int .i64 3)).put 1 (.string gn)).put 2 (.string X)
        have HB9 : Below w.heap.size w ((((w2.setCell ⟨w.heap.size, 0, none⟩ (.int .i64 3)).setCell ⟨w.heap.size, 1, none⟩ (.string gn)).setCell ⟨w.heap.size, 2, none⟩ (.string X)).drew) := (((HB2.out.setCell (p := ⟨w.heap.size, 0, none⟩) (Nat.le_refl _) _).setCell (p := ⟨w.heap.size, 1, none⟩) (Nat.le_refl _) _).setCell (p := ⟨w.heap.size, 2, none⟩) (Nat.le_refl _) _).drew
        rw [HR.out]
        exact bodyPost_ret (results_row_tmp2 rfl _ _ w.heap.size _ (tkC ⟨3, gn, X⟩) _ _ rfl HA9 Try.underlying70 rfl (infoTk _)) rfl ⟨by rw [m5.symm]; rfl, HB9⟩
  · have hd : decide (ge = 0) = false := decide_eq_false hge
    have d3 : ((ge : Int) != 0) = true := by simp; omega
    have HR : Hid (R = (tk0, 0, 6)) := by unfold Hid; rw [hR0, hd]; rfl
    clear hR0 HZE HMA hge hd
    go_enter Try.func33, Try.ntmps33
    go_wp2_with fail
    refine (HFB.out _ h4).mono ?_
    rintro e w1 ⟨rfl, hb1⟩
    have HA1 := Lib.hid (HA.out.below hb1 HA.out.lt)
    have HB1 := Lib.hid (HB.out.trans (hb1.mono HB.out.size))
    clear hb1 HFB
    go_wp2_with fail
    refine (HF2.out _ h8').mono ?_
    rintro e w2 ⟨rfl, hb2⟩
    have HA2 := Lib.hid (HA1.out.below hb2 HA1.out.lt)
    have HB2 := Lib.hid (HB1.out.trans (hb2.mono HB1.out.size))
    clear hb2 HF2
    go_wp2_with fail
    refine (HUP.out _).mono ?_
    rintro e w3 ⟨rfl, rfl⟩
    go_wp2_with fail
    refine (HGE.out _).mono ?_
    rintro e w3 ⟨rfl, rfl⟩
    go_wp2_with (refine wpList_store_row rfl 70 (.tmp 4) (.tmp 65) rfl w.heap.size (tkC tk0) rfl rfl _ _ HA2.out (infoTk _) rfl (tkC_one _) ?_)
    rw [HR.out]
    exact bodyPost_ret (results_row_tmp2 rfl _ _ w.heap.size _ (tkC tk0) _ _ rfl (HA2.out.row _) Try.underlying70 rfl (infoTk _)) rfl ⟨rfl, below_setRow HB2.out (Nat.le_refl _) _⟩
end Go.Proofs.Ytmgmpjgofolkgaa

/- What the document's Few, Same, Plain and Bare of tokens return. Conditions: slices that read as tokens; Plain: at most 2000 of them. -/

namespace Go.Proofs.Ytmgmpjgofolkgaa
open Go.RowKit

/-- Are there few tokens, of few bytes? -/
def few10 (l : List TK) : Bool := decide (l.length ≤ 60 ∧ ∀ k, k < l.length → (l.getD k tk0).nm.size ≤ 100 ∧ (l.getD k tk0).vl.size ≤ 300)
theorem few10_len {l : List TK} (h : few10 l = true) : l.length ≤ 60 ∧ ∀ k, k < l.length → (l.getD k tk0).nm.size ≤ 100 ∧ (l.getD k tk0).vl.size ≤ 300 := of_decide_eq_true h
theorem plain_snoc (l : List TK) {k : Nat} (hk : k < l.length) {x : TK} (hx : l.getD k tk0 = x) : plainR (l.take (k + 1)) = if x.kd = 4 then plainR (l.take k) else plainR (l.take k) ++ [x] := by
  have e : l.take (k + 1) = l.take k ++ [x] := by
    rw [List.take_succ_eq_append_getElem hk, ← hx, List.getD_eq_getElem?_getD, List.getElem?_eq_getElem hk]; rfl
  rw [e]
  unfold plainR
  rw [List.filter_append]
  by_cases h : x.kd = 4 <;> simp [h]
theorem plain_len (l : List TK) : (plainR l).length ≤ l.length := List.length_filter_le _ _
end Go.Proofs.Ytmgmpjgofolkgaa

/- What the document's Few, Same, Plain and Bare return (TkSC), beside its pad and prop (TkB). No condition: nothing stands in it. -/
namespace Go.Proofs.Ytmgmpjgofolkgaa
end Go.Proofs.Ytmgmpjgofolkgaa
