/- What the document's Read returns. Conditions: strings of at most 2^40 bytes. -/
import Derived.Test.YtmgmpjgofolkgaaMg16
import Derived.Test.YtmgmpjgofolkgaaMg5
import Derived.Deep.DeepCutAuto
namespace Go.Proofs.Ytmgmpjgofolkgaa
open Go.RowKit

theorem beginR_le {l : List UInt8} : (beginR l).2.1 ≤ l.length := by
  unfold beginR
  split
  · exact Nat.zero_le _
  · split
    · show up4 (z0 l + 1) ≤ l.length; omega
    · exact Nat.zero_le _
theorem propR_le {l tx : List UInt8} : (propR l tx).2.1 ≤ l.length := by
  unfold propR
  split
  · exact Nat.zero_le _
  · split
    · exact Nat.zero_le _
    · split
      · show 8 + up4 (pSz l) ≤ l.length; omega
      · exact Nat.zero_le _
/-- What stands at the beginning, by its kind. -/
theorem step_1 {l tx : List UInt8} {s : ByteArray} {n e : Nat} (h4 : ¬ l.length < 4) (hk : frombig l = 1) (hb : beginR (l.drop 4) = (s, n, e)) : (e ≠ 0 → stepR l tx = .err e) ∧ (e = 0 → stepR l tx = .tok ⟨1, s, ByteArray.empty⟩ n) := by
  unfold stepR
  rw [if_neg h4, if_pos hk, hb]
  exact ⟨fun h => if_neg h, fun h => if_pos h⟩
theorem step_3 {l tx : List UInt8} {t : TK} {n e : Nat} (h4 : ¬ l.length < 4) (hk : frombig l = 3) (hb : propR (l.drop 4) tx = (t, n, e)) : (e ≠ 0 → stepR l tx = .err e) ∧ (e = 0 → stepR l tx = .tok t n) := by
  unfold stepR
  rw [if_neg h4, if_neg (by omega), if_pos hk, hb]
  exact ⟨fun h => if_neg h, fun h => if_pos h⟩
theorem step_24 {l tx : List UInt8} (h4 : ¬ l.length < 4) (hk : frombig l = 2 ∨ frombig l = 4) : stepR l tx = .tok ⟨frombig l, ByteArray.empty, ByteArray.empty⟩ 0 := by
  unfold stepR
  rw [if_neg h4, if_neg (by omega), if_neg (by omega), if_pos hk]
theorem step_9 {l tx : List UInt8} (h4 : ¬ l.length < 4) (hk : frombig l = 9) : (l.drop 4 = [] → stepR l tx = .stop) ∧ (l.drop 4 ≠ [] → stepR l tx = .err 6) := by
  unfold stepR
  rw [if_neg h4, if_neg (by omega), if_neg (by omega), if_neg (by omega), if_pos hk]
  exact ⟨fun h => if_pos h, fun h => if_neg h⟩
theorem step_no {l tx : List UInt8} (h4 : ¬ l.length < 4) (h1 : frombig l ≠ 1) (h3 : frombig l ≠ 3) (h24 : ¬ (frombig l = 2 ∨ frombig l = 4)) (h9 : frombig l ≠ 9) : stepR l tx = .err 6 := by
  unfold stepR
  rw [if_neg h4, if_neg h1, if_neg h3, if_neg h24, if_neg h9]
/-- A result in memory. -/
def Got10 (B : Nat) (w : World) (v : Value) (r : List TK) : Prop := w.ownsRow B 70 3 v r.length (tkL r)
theorem got_nil (B : Nat) (w : World) : Got10 B w (.slice none 0 0) [] := World.ownsRow_nil _ _ _ _

set_option maxHeartbeats 6400000 in
set_option maxRecDepth 100000 in
theorem rread_any (s t : ByteArray) (w : World) (hs : s.size ≤ 1099511627776) (ht : t.size ≤ maxLen) :
    Calls Try.prog 19 #[.string s, .string t] w fun e w' => ∃ v, e = .returned (.tuple #[v, .int .i64 ((readR 1024 s.data.toList t.data.toList).2 : Int)]) ∧ Got10 w.heap.size w' v (readR 1024 s.data.toList t.data.toList).1 ∧ Below w.heap.size w w' := by
  have HJ0 : Hid (readR 1024 s.data.toList t.data.toList = joinR [] (readR (1024 - ([] : List TK).length) s.data.toList t.data.toList)) := by
    unfold Hid; rw [joinR_nil _ (readR_bad _ _ _)]; rfl
  have HPR := Lib.hid (fun (x : ByteArray) (W : World) (h : x.size ≤ 1099511627776) => rprop_any x t W h ht)
  generalize t.data.toList = T at *
  obtain ⟨R, hR⟩ : ∃ R, readR 1024 s.data.toList T = R := ⟨_, rfl⟩
  rw [hR] at HJ0
  rw [hR]
  clear hR
  go_enter Try.func19, Try.ntmps19
  go_wp2
  go_loopw [0, 6] (fun sv v wr => ∃ (x : ByteArray) (O : List TK), sv = .string x ∧ x.size ≤ 1099511627776 ∧ O.length ≤ 1024 ∧ Hid (R = joinR O (readR (1024 - O.length) x.data.toList T)) ∧ Got10 0 wr v O ∧ (∀ j, v.ownBlock = some j → w.heap.size ≤ j) ∧ Below w.heap.size w wr) (fun sv _ _ => strLen sv)
  case atStart => exact ⟨s, [], rfl, hs, Nat.zero_le _, HJ0, got_nil _ _, (fun _ hj => by cases hj), Below.refl _ _⟩
  case round =>
    clear HJ0
    obtain ⟨x, O, rfl, hx, hO, HJ, hown, hbl, hb⟩ := hrel
    obtain ⟨A, cap, rfl, _⟩ := row_rdTk hown
    have HB := Lib.hid hb
    have HOWN := Lib.hid hown
    have HBL := Lib.hid hbl
    have hsz := hb.size
    clear hb hown hbl
    by_cases hk : O.length = 1024
    · have HE : Hid (R = ([], 7)) := by unfold Hid; rw [HJ.out, hk]; rfl
      have d0 : ((O.length : Int) == 1024) = true := by simp; omega
      clear HJ
      go_wp2
      go_ret2
      exact ⟨_, by rw [HE.out]; rfl, by rw [HE.out]; exact got_nil _ _, HB.out⟩
    · have d0 : ((O.length : Int) == 1024) = false := by simp; omega
      obtain ⟨m, hm⟩ : ∃ m, 1024 - O.length = m + 1 := ⟨1023 - O.length, by omega⟩
      have hm2 : m = 1024 - (O.length + 1) := by omega
      rw [hm] at HJ
      have hlen : x.data.toList.length = x.size := rfl
      by_cases h4 : x.size < 4
      · have HE : Hid (R = ([], 14)) := by
          unfold Hid
          rw [HJ.out, readR_err (e := 14) (by unfold stepR; rw [if_pos (by omega)])]
          rfl
        clear HJ
        go_wp2_with fail
        refine (reffrombig_no x _ h4).mono ?_
        rintro e w1 ⟨rfl, rfl⟩
        go_wp2
        go_ret2
        exact ⟨_, by rw [HE.out]; rfl, by rw [HE.out]; exact got_nil _ _, HB.out⟩
      · have h4' : ¬ x.data.toList.length < 4 := by omega
        have c4 : (4 : Int) ≤ x.size := by omega
        have H1 := Lib.hid (fun (a : ByteArray) (n e : Nat) => step_1 (l := x.data.toList) (tx := T) (s := a) (n := n) (e := e) h4')
        have H3 := Lib.hid (fun (a : TK) (n e : Nat) => step_3 (l := x.data.toList) (tx := T) (t := a) (n := n) (e := e) h4')
        have H24 := Lib.hid (step_24 (l := x.data.toList) (tx := T) h4')
        have H9 := Lib.hid (step_9 (l := x.data.toList) (tx := T) h4')
        have HNO := Lib.hid (step_no (l := x.data.toList) (tx := T) h4')
        have HER : Hid (∀ e, e ≠ 0 → stepR x.data.toList T = .err e → R = ([], e)) := fun e he h => by
          rw [HJ.out, readR_err h]; unfold joinR; rw [if_neg he]
        have HST : Hid (stepR x.data.toList T = .stop → R = (O, 0)) := fun h => by
          rw [HJ.out, readR_stop h]; unfold joinR; rw [if_pos rfl, List.append_nil]
        have HTO : Hid (∀ t n, stepR x.data.toList T = .tok t n → R = joinR (O ++ [t]) (readR (1024 - (O ++ [t]).length) (((x.extract 4 x.size).extract n (x.extract 4 x.size).size).data.toList) T)) := fun t n h => by
          rw [HJ.out, joinR_tok O h, cut_list, cut_list, List.length_append, hm2]; rfl
        have HFB := Lib.hid (fun W => reffrombig_yes x W (by omega) (by unfold maxLen; omega))
        have hfb := frombig_bd x.data.toList
        have HBE := Lib.hid (fun W => rbegin_any (x.extract 4 x.size) W (by rw [ByteArray.size_extract]; omega))
        have HPO := Lib.hid (fun W => HPR.out (x.extract 4 x.size) W (by rw [ByteArray.size_extract]; omega))
        have hle1 := beginR_le (l := x.data.toList.drop 4)
        have hle3 := propR_le (l := x.data.toList.drop 4) (tx := T)
        rw [cut_list] at HBE HPO
        have hxs : (x.extract 4 x.size).size = x.size - 4 := by rw [ByteArray.size_extract]; omega
        rw [List.length_drop, hlen, ← hxs] at hle1 hle3
        have HXS := Lib.hid hxs
        clear hxs
        have HDN : Hid (x.data.toList.drop 4 = [] ↔ x.size = 4) := by
          unfold Hid
          rw [List.drop_eq_nil_iff, hlen]; omega
        generalize x.data.toList.drop 4 = l4 at *
        generalize frombig x.data.toList = kd at *
        clear HJ
        go_wp2_with fail
        refine (HFB.out _).mono ?_
        rintro e w1 ⟨rfl, hb1⟩
        have HAT0 := Lib.hid (Arr.new w1 70 (tkC tk0))
        go_upto_region 9 with (first
          | (refine wpList_store_row rfl 70 (.tmp 9) (.tmp 28) rfl w1.heap.size (tkC ⟨kd, ByteArray.empty, ByteArray.empty⟩) rfl rfl _ _ HAT0.out (infoTk _) rfl (tkC_one _) ?_))
        change Code.wp _ _ _ _ ((w1.alloc (.cells (tkC tk0) 70)).setRow w1.heap.size (tkC ⟨kd, ByteArray.empty, ByteArray.empty⟩))
        have HAT := Lib.hid (HAT0.out.row (tkC ⟨kd, ByteArray.empty, ByteArray.empty⟩))
        have hg := hb1.size
        have HBW : Hid (Below wr.heap.size wr ((w1.alloc (.cells (tkC tk0) 70)).setRow w1.heap.size (tkC ⟨kd, ByteArray.empty, ByteArray.empty⟩))) := below_setRow (hb1.alloc hg _) hg _
        generalize (w1.alloc (.cells (tkC tk0) 70)).setRow w1.heap.size (tkC ⟨kd, ByteArray.empty, ByteArray.empty⟩) = W at *
        generalize w1.heap.size = g at *
        generalize x.extract 4 x.size = y at *
        clear hb1 HAT0 HFB HPR
        by_cases h1 : kd = 1
        · subst h1
          clear H3 H24 H9 HNO HST HPO hle3 HDN
          rcases hbr : beginR l4 with ⟨bn, n, be⟩
          rw [hbr] at HBE hle1
          have HS := Lib.hid (H1.out bn n be rfl hbr)
          simp only at HBE hle1
          clear H1 hbr
          have c1' : W.cell? ⟨g, 1, none⟩ = some (.string ByteArray.empty) := HAT.out.cell 1
          have f1 := HAT.out.frozen 1
          have HAN : Hid (Arr (W.setCell ⟨g, 1, none⟩ (.string bn)) g 70 (tkC ⟨1, bn, ByteArray.empty⟩)) := HAT.out.put 1 (.string bn)
          have HBN : Hid (Below wr.heap.size wr (W.setCell ⟨g, 1, none⟩ (.string bn))) := HBW.out.setCell (p := ⟨g, 1, none⟩) hg _
          by_cases hbe : be = 0
          · subst hbe
            have HT := Lib.hid (HTO.out _ _ (HS.out.2 rfl))
            clear HS HTO HER
            go_wp2_with fail
            refine (HBE.out _).mono ?_
            rintro e w3 ⟨rfl, rfl⟩
            go_upto_region 27 with fail
            clear HAT HBW c1' f1
            have HAT := HAN
            have HBW := HBN
            clear HAN HBN
            have HT := HT.out
            generalize W.setCell ⟨g, 1, none⟩ (.string bn) = W2 at *
            have HOW := Lib.hid (ow_below HOWN.out HBW.out)
            have c1 : (n : Int) ≤ y.size := by omega
            have c0 : (0 : Int) ≤ n := by omega
            go_wp2_with (first
              | (refine wpList_load_row rfl 70 (.tmp 9) rfl g rfl _ #[.int .i64 1, .string bn, .string ByteArray.empty] _ _ HAT.out Try.underlying70 rfl (infoTk ⟨1, bn, ByteArray.empty⟩) ?_)
              | (at_builtin; refine append_tk rfl (.tmp 65) (.tmp 67) rfl ⟨1, bn, ByteArray.empty⟩ (.slice A O.length cap) O rfl HOW.out W2.heap.size rfl rfl (by omega) ?_; intro v2 w2 ho2 hm2; have HO2 := Lib.hid ho2; have HM2 := Lib.hid hm2; clear ho2 hm2))
            have HBX := Lib.hid (HB.out.trans (HBW.out.mono hsz))
            have hzx := HBX.out.size
            have HB2 := Lib.hid (HBX.out.trans (HM2.out.below HBL.out hzx))
            have hys := HXS.out
            have hsY : (y.extract n y.size).size ≤ y.size := by rw [ByteArray.size_extract]; omega
            go_roundw
            case rel => exact ⟨y.extract n y.size, O ++ [⟨1, bn, ByteArray.empty⟩], rfl, by omega, by rw [List.length_append]; simp only [List.length_cons, List.length_nil]; omega, Lib.hid HT, (show Got10 0 w2 v2 (O ++ [⟨1, bn, ByteArray.empty⟩]) from HO2.out), (fun j hj => by
              rcases HM2.out.foot j hj with h5 | h5
              · exact HBL.out j h5
              · exact Nat.le_trans hzx h5), HB2.out⟩
            case measure => simp only [strLen]; omega
          · have HE := Lib.hid (HER.out be hbe (HS.out.1 hbe))
            have d2 : ((be : Int) != 0) = true := by simp; omega
            clear HS HTO HER
            go_wp2_with fail
            refine (HBE.out _).mono ?_
            rintro e w3 ⟨rfl, rfl⟩
            have HBX := Lib.hid (HB.out.trans (HBN.out.mono hsz))
            go_wp2
            go_ret2
            exact ⟨_, by rw [HE.out]; rfl, by rw [HE.out]; exact got_nil _ _, HBX.out⟩
        · have d1 : (kd == 1) = false := by simpa using h1
          by_cases h3 : kd = 3
          · subst h3
            clear H1 H24 H9 HNO HST HBE hle1 HDN
            rcases hbr : propR l4 T with ⟨pt, n, pe⟩
            rw [hbr] at HPO hle3
            have HS := Lib.hid (H3.out pt n pe rfl hbr)
            simp only at HPO hle3
            obtain ⟨pk, pn, pv⟩ := pt
            simp only [tkV] at HPO
            clear H3 hbr d1
            by_cases hpe : pe = 0
            · subst hpe
              have HT := Lib.hid (HTO.out _ _ (HS.out.2 rfl))
              clear HS HTO HER
              go_wp2_with fail
              refine (HPO.out _).mono ?_
              rintro e w3 ⟨rfl, hb3⟩
              have HAT := Lib.hid (HAT.out.below hb3 HAT.out.lt)
              have HBW := Lib.hid (HBW.out.trans (hb3.mono HBW.out.size))
              clear hb3
              go_upto_region 27 with (first
                | (refine wpList_store_row rfl 70 (.tmp 9) (.tmp 48) rfl g (tkC ⟨pk, pn, pv⟩) rfl rfl _ _ HAT.out (infoTk _) rfl (tkC_one _) ?_))
              have HAT := Lib.hid (HAT.out.row (tkC ⟨pk, pn, pv⟩))
              have HBW : Hid (Below wr.heap.size wr (w3.setRow g (tkC ⟨pk, pn, pv⟩))) := below_setRow HBW.out hg _
              have HT := HT.out
              generalize w3.setRow g (tkC ⟨pk, pn, pv⟩) = W2 at *
              have HOW := Lib.hid (ow_below HOWN.out HBW.out)
              have c1 : (n : Int) ≤ y.size := by omega
              have c0 : (0 : Int) ≤ n := by omega
              go_wp2_with (first
                | (refine wpList_load_row rfl 70 (.tmp 9) rfl g rfl _ #[.int .i64 pk, .string pn, .string pv] _ _ HAT.out Try.underlying70 rfl (infoTk ⟨pk, pn, pv⟩) ?_)
                | (at_builtin; refine append_tk rfl (.tmp 65) (.tmp 67) rfl ⟨pk, pn, pv⟩ (.slice A O.length cap) O rfl HOW.out W2.heap.size rfl rfl (by omega) ?_; intro v2 w2 ho2 hm2; have HO2 := Lib.hid ho2; have HM2 := Lib.hid hm2; clear ho2 hm2))
              have HBX := Lib.hid (HB.out.trans (HBW.out.mono hsz))
              have hzx := HBX.out.size
              have HB2 := Lib.hid (HBX.out.trans (HM2.out.below HBL.out hzx))
              have hys := HXS.out
              have hsY : (y.extract n y.size).size ≤ y.size := by rw [ByteArray.size_extract]; omega
              go_roundw
              case rel => exact ⟨y.extract n y.size, O ++ [⟨pk, pn, pv⟩], rfl, by omega, by rw [List.length_append]; simp only [List.length_cons, List.length_nil]; omega, Lib.hid HT, (show Got10 0 w2 v2 (O ++ [⟨pk, pn, pv⟩]) from HO2.out), (fun j hj => by
                rcases HM2.out.foot j hj with h5 | h5
                · exact HBL.out j h5
                · exact Nat.le_trans hzx h5), HB2.out⟩
              case measure => simp only [strLen]; omega
            · have HE := Lib.hid (HER.out pe hpe (HS.out.1 hpe))
              have d2 : ((pe : Int) != 0) = true := by simp; omega
              clear HS HTO HER
              go_wp2_with fail
              refine (HPO.out _).mono ?_
              rintro e w3 ⟨rfl, hb3⟩
              have HAT := Lib.hid (HAT.out.below hb3 HAT.out.lt)
              have HBW := Lib.hid (HBW.out.trans (hb3.mono HBW.out.size))
              clear hb3
              go_upto_region 27 with (first
                | (refine wpList_store_row rfl 70 (.tmp 9) (.tmp 48) rfl g (tkC ⟨pk, pn, pv⟩) rfl rfl _ _ HAT.out (infoTk _) rfl (tkC_one _) ?_))
              have HBW : Hid (Below wr.heap.size wr (w3.setRow g (tkC ⟨pk, pn, pv⟩))) := below_setRow HBW.out hg _
              have HBX := Lib.hid (HB.out.trans (HBW.out.mono hsz))
              generalize w3.setRow g (tkC ⟨pk, pn, pv⟩) = W2 at *
              go_wp2
              go_ret2
              exact ⟨_, by rw [HE.out]; rfl, by rw [HE.out]; exact got_nil _ _, HBX.out⟩
          · have d3 : (kd == 3) = false := by simpa using h3
            clear H1 H3 HBE HPO hle1 hle3
            by_cases h24 : kd = 2 ∨ kd = 4
            · have HT := HTO.out _ _ (H24.out h24)
              clear H24 H9 HNO HST HER HTO h1 h3 HDN
              have hn0 : 0 ≤ y.size := Nat.zero_le _
              rcases h24 with h2 | h2
              · subst h2
                have hy0 : y.extract 0 y.size = y := by simp
                rw [hy0] at HT
                have HOW := Lib.hid (ow_below HOWN.out HBW.out)
                have c1 : (0 : Int) ≤ y.size := by omega
                have c0 : (0 : Int) ≤ 0 := by omega
                go_wp2_with (first
                  | (refine wpList_load_row rfl 70 (.tmp 9) rfl g rfl _ #[.int .i64 2, .string ByteArray.empty, .string ByteArray.empty] _ _ HAT.out Try.underlying70 rfl (infoTk ⟨2, ByteArray.empty, ByteArray.empty⟩) ?_)
                  | (at_builtin; refine append_tk rfl (.tmp 65) (.tmp 67) rfl ⟨2, ByteArray.empty, ByteArray.empty⟩ (.slice A O.length cap) O rfl HOW.out W.heap.size rfl rfl (by omega) ?_; intro v2 w2 ho2 hm2; have HO2 := Lib.hid ho2; have HM2 := Lib.hid hm2; clear ho2 hm2))
                have HBX := Lib.hid (HB.out.trans (HBW.out.mono hsz))
                have hzx := HBX.out.size
                have HB2 := Lib.hid (HBX.out.trans (HM2.out.below HBL.out hzx))
                have hys := HXS.out
                have hsY : (y).size ≤ y.size := by exact Nat.le_refl _
                go_roundw
                case rel => exact ⟨y, O ++ [⟨2, ByteArray.empty, ByteArray.empty⟩], rfl, by omega, by rw [List.length_append]; simp only [List.length_cons, List.length_nil]; omega, Lib.hid HT, (show Got10 0 w2 v2 (O ++ [⟨2, ByteArray.empty, ByteArray.empty⟩]) from HO2.out), (fun j hj => by
                  rcases HM2.out.foot j hj with h5 | h5
                  · exact HBL.out j h5
                  · exact Nat.le_trans hzx h5), HB2.out⟩
                case measure => simp only [strLen]; omega
              · subst h2
                have hy0 : y.extract 0 y.size = y := by simp
                rw [hy0] at HT
                have HOW := Lib.hid (ow_below HOWN.out HBW.out)
                have c1 : (0 : Int) ≤ y.size := by omega
                have c0 : (0 : Int) ≤ 0 := by omega
                go_wp2_with (first
                  | (refine wpList_load_row rfl 70 (.tmp 9) rfl g rfl _ #[.int .i64 4, .string ByteArray.empty, .string ByteArray.empty] _ _ HAT.out Try.underlying70 rfl (infoTk ⟨4, ByteArray.empty, ByteArray.empty⟩) ?_)
                  | (at_builtin; refine append_tk rfl (.tmp 65) (.tmp 67) rfl ⟨4, ByteArray.empty, ByteArray.empty⟩ (.slice A O.length cap) O rfl HOW.out W.heap.size rfl rfl (by omega) ?_; intro v2 w2 ho2 hm2; have HO2 := Lib.hid ho2; have HM2 := Lib.hid hm2; clear ho2 hm2))
                have HBX := Lib.hid (HB.out.trans (HBW.out.mono hsz))
                have hzx := HBX.out.size
                have HB2 := Lib.hid (HBX.out.trans (HM2.out.below HBL.out hzx))
                have hys := HXS.out
                have hsY : (y).size ≤ y.size := by exact Nat.le_refl _
                go_roundw
                case rel => exact ⟨y, O ++ [⟨4, ByteArray.empty, ByteArray.empty⟩], rfl, by omega, by rw [List.length_append]; simp only [List.length_cons, List.length_nil]; omega, Lib.hid HT, (show Got10 0 w2 v2 (O ++ [⟨4, ByteArray.empty, ByteArray.empty⟩]) from HO2.out), (fun j hj => by
                  rcases HM2.out.foot j hj with h5 | h5
                  · exact HBL.out j h5
                  · exact Nat.le_trans hzx h5), HB2.out⟩
                case measure => simp only [strLen]; omega
            · have d2 : (kd == 2) = false := by simp; omega
              have d4 : (kd == 4) = false := by simp; omega
              have HBX := Lib.hid (HB.out.trans (HBW.out.mono hsz))
              by_cases h9 : kd = 9
              · have H9' := H9.out h9
                by_cases hd : x.size = 4
                · have HE := Lib.hid (HST.out (H9'.1 (HDN.out.2 hd)))
                  have hy0 : y = ByteArray.empty := by
                    have := HXS.out
                    have h0 : y.size = 0 := by omega
                    cases y with | mk d => cases d with | mk q => cases q with | nil => rfl | cons a r => cases h0
                  have HOW := Lib.hid (ow_below HOWN.out HBW.out)
                  subst hy0
                  subst h9
                  clear H9 H9' H24 HNO HST HER HTO h1 h3 HDN h24 d1 d2 d3 d4 hd
                  go_wp2
                  go_ret2
                  exact ⟨_, by rw [HE.out]; rfl, by rw [HE.out]; exact ow_base HOW.out HBL.out, HBX.out⟩
                · have HE := Lib.hid (HER.out 6 (by decide) (H9'.2 (fun h => hd (HDN.out.1 h))))
                  have hne : ¬ y.toList = [] := fun e => by
                    have := HXS.out
                    have e2 : y.toList.length = y.size := by rw [ByteArray.toList_eq]; rfl
                    rw [e] at e2
                    simp at e2
                    omega
                  have hne2 : y.toList.isEmpty = false := by cases e : y.toList with
                    | nil => exact absurd e hne
                    | cons a r => rfl
                  subst h9
                  clear H9 H9' H24 HNO HST HER HTO h1 h3 HDN h24 d1 d2 d3 d4 hd
                  go_wp2
                  go_ret2
                  exact ⟨_, by rw [HE.out]; rfl, by rw [HE.out]; exact got_nil _ _, HBX.out⟩
              · have d9 : (kd == 9) = false := by simpa using h9
                have HE := Lib.hid (HER.out 6 (by decide) (HNO.out h1 h3 h24 h9))
                clear H9 H24 HNO HST HER HTO h1 h3 HDN h24 h9
                go_wp2
                go_ret2
                exact ⟨_, by rw [HE.out]; rfl, by rw [HE.out]; exact got_nil _ _, HBX.out⟩
end Go.Proofs.Ytmgmpjgofolkgaa
