/- The document's MayKid and props of layer 17. Conditions: strings of at most 2^40 bytes; a slice of at most 10^6 properties that is read. -/
import Derived.Test.YtfcclppgjfkfoaaDoorMg4
import Derived.Test.YtfcclppgjfkfoaaDoorMg15
import Derived.Test.YtfcclppgjfkfoaaDoorMg17
import Derived.Test.YtfcclppgjfkfoaaDoorMg8
namespace Go.Proofs.YtfcclppgjfkfoaaDoor
open Go.RowKit

set_option maxHeartbeats 800000 in
set_option maxRecDepth 100000 in
theorem rMayKid_any (s : ByteArray) (w : World) (hs : s.size ≤ 1099511627776) :
    Calls Tryd.prog 78 #[.string s] w fun e w' => e = .returned (.bool (mayKidR s)) ∧ w = w' := by
  have HM := Lib.hid (fun W => rmay_any s W (by unfold maxLen; exact Nat.le_trans hs (by decide)))
  have HY : Hid ((∀ j, j < s.size → s.data.toList.getD j 0 ≠ 47) → mayKidR s = mayB s) := fun h => by
    unfold mayKidR
    have hn : (47 : UInt8) ∉ s.data.toList := fun hm => by
      obtain ⟨i, hi, e⟩ := List.getElem_of_mem hm
      exact h i hi (by rw [List.getD_eq_getElem?_getD, List.getElem?_eq_getElem hi]; exact e)
    rw [decide_eq_true hn, Bool.and_true]
  have HNO : Hid (∀ k (h : k < s.size), s[k] = 47 → mayKidR s = false) := fun k h e => by
    unfold mayKidR
    have hm : (47 : UInt8) ∈ s.data.toList := by rw [← e]; exact List.getElem_mem (l := s.data.toList) h
    rw [decide_eq_false (fun hn => hn hm), Bool.and_false]
  have HG : Hid (∀ k (h : k < s.size), s.data.toList.getD k 0 = s[k]) := fun k h => getD_of s k h
  generalize mayKidR s = R at *
  go_enter Tryd.func78, Tryd.ntmps78
  go_wp2
  go_loop [3] (fun i => ∃ k : Nat, k ≤ s.size ∧ i = .int .i64 k ∧ Hid (∀ j, j < k → s.data.toList.getD j 0 ≠ 47)) (fun i => s.size - (intOf i).toNat)
  case atStart => exact ⟨0, Nat.zero_le _, rfl, fun j hj => absurd hj (Nat.not_lt_zero _)⟩
  case round =>
    obtain ⟨k, hk, rfl, HK⟩ := hrel
    by_cases hlt : k < s.size
    · have hki : (k : Int) < s.size := by omega
      have hg := HG.out k hlt
      by_cases h0 : s[k] = 47
      · have HR := Lib.hid (HNO.out k hlt h0)
        have hz : (((s[k].toNat : Nat) : Int) == 47) = true := by rw [h0]; rfl
        clear HY HNO HG HK h0 hg HM
        go_wp2
        go_ret
        exact ⟨by rw [HR.out]; rfl, rfl⟩
      · have hz : (((s[k].toNat : Nat) : Int) == 47) = false := by
          have : s[k].toNat ≠ 47 := fun e => h0 (UInt8.toNat_inj.1 e)
          simp; omega
        have HK1 : Hid (∀ j, j < k + 1 → s.data.toList.getD j 0 ≠ 47) := fun j hj => by
          by_cases e : j = k
          · subst e; rw [hg]; exact h0
          · exact HK.out j (by omega)
        clear h0 hg HK
        go_wp2
        go_round
        case rel => exact ⟨k + 1, by omega, by go_num, HK1⟩
        case measure => simp [intOf]; omega
    · obtain rfl : k = s.size := by omega
      have HR := Lib.hid (HY.out HK.out)
      clear HY HNO HG HK
      go_wp2_with fail
      refine (HM.out _).mono ?_
      rintro e w1 ⟨rfl, rfl⟩
      go_wp2
      go_ret
      exact ⟨by rw [HR.out]; rfl, rfl⟩

theorem pr_one (a b : ByteArray) : (#[.string a, .string b] : Array Value).all (·.oneCell') = true := by
  rw [Array.all_eq_true_iff_forall_mem]
  intro v hv
  simp at hv
  rcases hv with rfl | rfl <;> rfl
theorem pr_oneL (a b : ByteArray) : ∀ u ∈ (#[.string a, .string b] : Array Value).toList, u.oneCell' = true := by
  intro u hu; simp at hu; rcases hu with rfl | rfl <;> rfl
theorem infoPr (a b : Value) : (Tryd.prog.info? 62).map (·.size) = some (#[a, b] : Array Value).size := by show _ = some 2; kernel_rfl
theorem prL_snoc (l : List PR) (x : PR) : prL l ++ #[Value.string x.nm, .string x.vl].toList = prL (l ++ [x]) := by rw [prL_app]; rfl

set_option maxHeartbeats 1600000 in
set_option maxRecDepth 100000 in
theorem rprops_any (G : Nat → Prop) (A : Option Addr) (cap : Nat) (l : List PR) (c : CH) (w : World) (hr : RdPr w G A l) (hl : l.length ≤ 1000000) :
    Calls Tryd.prog 77 #[.slice A l.length cap, .agg #[.int .i64 c.kd, .string c.nm, .string c.vl]] w fun e w' => ∃ v, e = .returned (.tuple #[v, .bool (propsR c l).2]) ∧ w'.ownsRow w.heap.size 62 2 v (propsR c l).1.length (prL (propsR c l).1) ∧ Below w.heap.size w w' := by
  have HPL := Lib.hid (props_len17 c l)
  have HGO := Lib.hid (prgo_start c l)
  have HOT := Lib.hid (fun k (O : List PR) (hk : k < l.length) => @prgo_other c l k O hk)
  have HLA := Lib.hid (fun k (O : List PR) (hk : k < l.length) => @prgo_later c l k O hk)
  have HUN := Lib.hid (fun k (O : List PR) (hk : k < l.length) => @prgo_unset c l k O hk)
  have HSE := Lib.hid (fun k (O : List PR) (hk : k < l.length) => @prgo_set c l k O hk)
  have HLN := Lib.hid (fun k is (O : List PR) => @prgo_len c l k is O)
  have HEY := Lib.hid (fun (O : List PR) => @prgo_end_yes c l O)
  have HEN := Lib.hid (fun (O : List PR) => @prgo_end_no c l O)
  have HEL := Lib.hid elemProp
  obtain ⟨W1, hW1⟩ : ∃ W1, W1 = w.alloc (.cells #[.int .i64 c.kd, .string c.nm, .string c.vl] 27) := ⟨_, rfl⟩
  obtain ⟨g3, hg3⟩ : ∃ g3, g3 = w.heap.size := ⟨_, rfl⟩
  have hB1 : Below w.heap.size w W1 := by rw [hW1]; exact (Below.refl _ _).alloc (Nat.le_refl _) _
  have hA3 : Arr W1 g3 27 #[.int .i64 c.kd, .string c.nm, .string c.vl] := by rw [hW1, hg3]; exact Arr.new w _ _
  have HR := Lib.hid (hr.below hB1)
  have HA3 := Lib.hid hA3
  have HB := Lib.hid hB1
  have hz1 := hB1.size
  obtain ⟨kd, cnm, cvl⟩ := c
  clear hr hB1 hA3
  go_enter Tryd.func77, Tryd.ntmps77
  go_upto_region 1 with fail
  change Code.wp _ _ _ _ (w.alloc (.cells #[.int .i64 kd, .string cnm, .string cvl] 27))
  rw [← hW1, ← hg3]
  clear hW1 hg3
  go_wp2
  go_loopw [6, 7, 8] (fun o6 bv iv wr => ∃ (k : Nat) (is : Bool) (O : List PR) (ov : Value), ov = o6 ∧ k ≤ l.length ∧ iv = .int .i64 k ∧ bv = .bool is ∧ Hid (PrGo ⟨kd, cnm, cvl⟩ l k is O) ∧ wr.ownsRow 0 62 2 ov O.length (prL O) ∧ (∀ q, ownS ov q → W1.heap.size ≤ q) ∧ Below W1.heap.size W1 wr) (fun _ _ iv _ => l.length - (intOf iv).toNat)
  case atStart => exact ⟨0, false, [], _, rfl, Nat.zero_le _, rfl, rfl, HGO, World.ownsRow_nil _ _ _ _, (fun _ hj => by cases hj), Below.refl _ _⟩
  case round =>
    clear HGO
    obtain ⟨k, is, O, ov, rfl, hk, rfl, rfl, HG, hown, hbl, hb⟩ := hrel
    have hA3 := HA3.out.below hb HA3.out.lt
    have hO : O.length ≤ 1000001 := by have := HLN.out k is O HG.out HPL.out; omega
    by_cases hlt : k < l.length
    · have hki : (k : Int) < l.length := by omega
      obtain ⟨b, off, ⟨xn, xv⟩, rfl, ⟨h1, h2⟩, HX⟩ := (HR.out.below hb).at_ hlt
      simp only at h1 h2
      have HAN : Hid (Arr (wr.alloc (.cells #[.string ⟨#[]⟩, .string ⟨#[]⟩] 62)) wr.heap.size 62 #[.string ⟨#[]⟩, .string ⟨#[]⟩]) := Arr.new _ _ _
      obtain ⟨W2, hW2⟩ : ∃ W2, W2 = (wr.alloc (.cells #[.string ⟨#[]⟩, .string ⟨#[]⟩] 62)).setRow wr.heap.size #[.string xn, .string xv] := ⟨_, rfl⟩
      obtain ⟨g9, hg9⟩ : ∃ g9, g9 = wr.heap.size := ⟨_, rfl⟩
      have hb2 : Below wr.heap.size wr W2 := by rw [hW2]; exact below_setRow ((Below.refl _ _).alloc (Nat.le_refl _) _) (Nat.le_refl _) _
      have hA9 : Arr W2 g9 62 #[.string xn, .string xv] := by rw [hW2, hg9]; exact HAN.out.row _
      have hA32 := hA3.below hb2 hA3.lt
      have hown2 := ow_below hown hb2
      have hb12 : Below W1.heap.size W1 W2 := hb.trans (hb2.mono hb.size)
      have hs12 := hb12.size
      have hgw : W1.heap.size ≤ g9 := by rw [hg9]; exact hb.size
      obtain ⟨c30, c31, c32⟩ : W2.cell? ⟨g3, 0, none⟩ = some (.int .i64 kd) ∧ W2.cell? ⟨g3, 1, none⟩ = some (.string cnm) ∧ W2.cell? ⟨g3, 2, none⟩ = some (.string cvl) := ⟨hA32.cell 0, hA32.cell 1, hA32.cell 2⟩
      obtain ⟨e90, e91⟩ : W2.cell? ⟨g9, 0, none⟩ = some (.string xn) ∧ W2.cell? ⟨g9, 1, none⟩ = some (.string xv) := ⟨hA9.cell 0, hA9.cell 1⟩
      have f91 : W2.frozen? ⟨g9, 1, none⟩ = false := hA9.frozen 1
      have HA9 := Lib.hid hA9
      have HOWN := Lib.hid hown2
      have HBL := Lib.hid hbl
      have HB12 := Lib.hid hb12
      have HLT : Hid (∀ q, ov.ownBlock = some q → q < wr.heap.size) := fun q hq => (hown.lt q hq).2
      have HSTEP : Hid (∀ (W : World) (v' : Value) (w' : World), Below W1.heap.size W1 W → Moved W w' (ownS ov) (ownS v') → (∀ q, ownS v' q → W1.heap.size ≤ q) ∧ Below W1.heap.size W1 w') := fun W v' w' hw hm => ⟨fun q hq => by
        rcases hm.foot q hq with h5 | h5
        · exact HBL.out q h5
        · exact Nat.le_trans hw.size h5, hw.trans (hm.below HBL.out hw.size)⟩
      clear hb2 hA9 hA32 hA3 hown hown2 hbl hb hb12
      cases is with
      | true =>
        have HG1 := Lib.hid (HLA.out k O hlt HG.out)
        rw [HX.out] at HG1
        clear HX HG
        go_upto_region 7 with (refine wpList_store_row rfl 62 (.tmp 9) (.tmp 19) rfl wr.heap.size #[.string xn, .string xv] rfl rfl _ _ HAN.out (infoPr _ _) rfl (pr_one _ _) ?_)
        rw [← hW2, ← hg9]
        clear hW2 hg9 HAN h1 h2
        go_wp2_with (first | (refine wpList_load_row rfl 62 (.tmp 9) rfl g9 rfl _ #[.string xn, .string xv] _ _ HA9.out Tryd.underlying62 rfl (infoPr _ _) ?_) | (at_builtin; refine append_new rfl (.tmp 35) (.tmp 37) 22 rfl 62 2 32 HEL _ O.length (prL O) rfl HOWN.out #[.string xn, .string xv] rfl (pr_oneL _ _) W2.heap.size rfl rfl (by unfold maxLen; omega) (by omega) ?_; intro v5 w5 ho5 hm5; have HO5 := Lib.hid ho5; have HM5 := Lib.hid hm5; clear ho5 hm5))
        obtain ⟨q1, q2⟩ := HSTEP.out _ _ _ HB12.out HM5.out
        go_roundw
        case rel => exact ⟨k + 1, true, O ++ [⟨xn, xv⟩], _, rfl, by omega, by go_num, rfl, HG1, by rw [List.length_append, prL_app]; exact HO5.out, q1, q2⟩
        case measure => simp [intOf]; omega
      | false =>
        by_cases he : xn = cnm
        · have d1 : (xn.toList == cnm.toList) = true := by rw [he]; simp
          by_cases h2k : kd = 2
          · have d2 : (kd == 2) = true := by simpa using h2k
            have HG1 := Lib.hid (HUN.out k O hlt HG.out (by rw [HX.out]; exact he) h2k)
            clear HX HG he h2k
            go_upto_region 7 with (refine wpList_store_row rfl 62 (.tmp 9) (.tmp 19) rfl wr.heap.size #[.string xn, .string xv] rfl rfl _ _ HAN.out (infoPr _ _) rfl (pr_one _ _) ?_)
            rw [← hW2, ← hg9]
            clear hW2 hg9 HAN h1 h2
            go_wp2
            go_roundw
            case rel => exact ⟨k + 1, true, O, _, rfl, by omega, by go_num, rfl, HG1, HOWN.out, HBL.out, HB12.out⟩
            case measure => simp [intOf]; omega
          · have d2 : (kd == 2) = false := by simpa using h2k
            have HG1 := Lib.hid (HSE.out k O hlt HG.out (by rw [HX.out]; exact he) h2k)
            rw [HX.out] at HG1
            obtain ⟨W3, hW3⟩ : ∃ W3, W3 = W2.setCell ⟨g9, 1, none⟩ (.string cvl) := ⟨_, rfl⟩
            have HA9' : Hid (Arr W3 g9 62 #[.string xn, .string cvl]) := by rw [hW3]; exact HA9.out.put 1 _
            have HB13 : Hid (Below W1.heap.size W1 W3) := by rw [hW3]; exact HB12.out.setCell (p := ⟨g9, 1, none⟩) hgw _
            have HOWN3 : Hid (W3.ownsRow 0 62 2 ov O.length (prL O)) := by
              rw [hW3]
              refine HOWN.out.kept (gr_cell W2 g9 1 _) ?_
              cases hq : ov.ownBlock with
              | none => exact .inl rfl
              | some q => exact .inr (fun e => by
                  have h5 := hg9
                  injection e with e
                  have h6 : q < wr.heap.size := HLT.out q hq
                  omega)
            have hs13 := HB13.out.size
            clear HX HG he h2k HA9 HB12 HOWN
            go_upto_region 7 with (refine wpList_store_row rfl 62 (.tmp 9) (.tmp 19) rfl wr.heap.size #[.string xn, .string xv] rfl rfl _ _ HAN.out (infoPr _ _) rfl (pr_one _ _) ?_)
            rw [← hW2, ← hg9]
            clear hW2 hg9 HAN h1 h2
            go_upto_region 11 with fail
            rw [← hW3]
            clear hW3
            go_wp2_with (first | (refine wpList_load_row rfl 62 (.tmp 9) rfl g9 rfl _ #[.string xn, .string cvl] _ _ HA9'.out Tryd.underlying62 rfl (infoPr _ _) ?_) | (at_builtin; refine append_new rfl (.tmp 35) (.tmp 37) 22 rfl 62 2 32 HEL _ O.length (prL O) rfl HOWN3.out #[.string xn, .string cvl] rfl (pr_oneL _ _) W3.heap.size rfl rfl (by unfold maxLen; omega) (by omega) ?_; intro v5 w5 ho5 hm5; have HO5 := Lib.hid ho5; have HM5 := Lib.hid hm5; clear ho5 hm5))
            obtain ⟨q1, q2⟩ := HSTEP.out _ _ _ HB13.out HM5.out
            go_roundw
            case rel => exact ⟨k + 1, true, O ++ [⟨xn, cvl⟩], _, rfl, by omega, by go_num, rfl, HG1, by rw [List.length_append, prL_app]; exact HO5.out, q1, q2⟩
            case measure => simp [intOf]; omega
        · have d1 : (xn.toList == cnm.toList) = false := by simpa using str_ne12 he
          have HG1 := Lib.hid (HOT.out k O hlt HG.out (by rw [HX.out]; exact he))
          rw [HX.out] at HG1
          clear HX HG he
          go_upto_region 7 with (refine wpList_store_row rfl 62 (.tmp 9) (.tmp 19) rfl wr.heap.size #[.string xn, .string xv] rfl rfl _ _ HAN.out (infoPr _ _) rfl (pr_one _ _) ?_)
          rw [← hW2, ← hg9]
          clear hW2 hg9 HAN h1 h2
          go_wp2_with (first | (refine wpList_load_row rfl 62 (.tmp 9) rfl g9 rfl _ #[.string xn, .string xv] _ _ HA9.out Tryd.underlying62 rfl (infoPr _ _) ?_) | (at_builtin; refine append_new rfl (.tmp 35) (.tmp 37) 22 rfl 62 2 32 HEL _ O.length (prL O) rfl HOWN.out #[.string xn, .string xv] rfl (pr_oneL _ _) W2.heap.size rfl rfl (by unfold maxLen; omega) (by omega) ?_; intro v5 w5 ho5 hm5; have HO5 := Lib.hid ho5; have HM5 := Lib.hid hm5; clear ho5 hm5))
          obtain ⟨q1, q2⟩ := HSTEP.out _ _ _ HB12.out HM5.out
          go_roundw
          case rel => exact ⟨k + 1, false, O ++ [⟨xn, xv⟩], _, rfl, by omega, by go_num, rfl, HG1, by rw [List.length_append, prL_app]; exact HO5.out, q1, q2⟩
          case measure => simp [intOf]; omega
    · obtain rfl : k = l.length := by omega
      obtain ⟨c30, c31, c32⟩ : wr.cell? ⟨g3, 0, none⟩ = some (.int .i64 kd) ∧ wr.cell? ⟨g3, 1, none⟩ = some (.string cnm) ∧ wr.cell? ⟨g3, 2, none⟩ = some (.string cvl) := ⟨hA3.cell 0, hA3.cell 1, hA3.cell 2⟩
      have HOWN := Lib.hid hown
      have HBL := Lib.hid hbl
      have HBR := Lib.hid hb
      have hs1 := hb.size
      clear hown hbl hb hA3
      cases is with
      | true =>
        have HE := Lib.hid (HEY.out O HG.out)
        clear HG
        go_wp2
        go_ret2
        exact ⟨_, by rw [HE.out]; rfl, by rw [HE.out]; exact ow_base HOWN.out (fun q hq => Nat.le_trans hz1 (HBL.out q hq)), HB.out.trans (HBR.out.mono hz1)⟩
      | false =>
        have HE := Lib.hid (HEN.out O HG.out)
        clear HG
        by_cases h1k : kd = 1
        · have d2 : (kd == 1) = true := by simpa using h1k
          have HE1 : Hid (propsR ⟨kd, cnm, cvl⟩ l = (O ++ [⟨cnm, cvl⟩], false)) := by unfold Hid; rw [HE.out]; simp only [if_pos h1k]
          clear HE h1k
          go_wp2_with (at_builtin; refine append_new rfl (.tmp 46) (.tmp 52) 22 rfl 62 2 32 HEL _ O.length (prL O) rfl HOWN.out #[.string cnm, .string cvl] rfl (pr_oneL _ _) wr.heap.size rfl rfl (by unfold maxLen; omega) (by omega) ?_; intro v5 w5 ho5 hm5; have HO5 := Lib.hid ho5; have HM5 := Lib.hid hm5; clear ho5 hm5)
          have HB5 : Hid (Below w.heap.size w w5) := HB.out.trans ((HBR.out.trans (HM5.out.below HBL.out hs1)).mono hz1)
          have HF5 : Hid (∀ q, v5.ownBlock = some q → w.heap.size ≤ q) := fun q hq => by
            rcases HM5.out.foot q hq with h5 | h5
            · exact Nat.le_trans hz1 (HBL.out q h5)
            · exact Nat.le_trans hz1 (Nat.le_trans hs1 h5)
          go_ret2
          exact ⟨_, by rw [HE1.out]; rfl, by rw [HE1.out, List.length_append, prL_app]; exact ow_base HO5.out HF5.out, HB5.out⟩
        · have d2 : (kd == 1) = false := by simpa using h1k
          have HE1 : Hid (propsR ⟨kd, cnm, cvl⟩ l = (O, false)) := by unfold Hid; rw [HE.out]; simp only [if_neg h1k, List.append_nil]
          clear HE h1k
          go_wp2
          go_ret2
          exact ⟨_, by rw [HE1.out]; rfl, by rw [HE1.out]; exact ow_base HOWN.out (fun q hq => Nat.le_trans hz1 (HBL.out q hq)), HB.out.trans (HBR.out.mono hz1)⟩
end Go.Proofs.YtfcclppgjfkfoaaDoor
