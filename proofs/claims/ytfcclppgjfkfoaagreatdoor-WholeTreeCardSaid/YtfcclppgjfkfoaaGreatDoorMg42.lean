/- What package tree's addTokens and Tokens return. Conditions: a tree that is read, of at most 2^39 tokens. -/
import Derived.Test.YtfcclppgjfkfoaaGreatDoorMg21
import Derived.Test.YtfcclppgjfkfoaaGreatDoorMg22
import Derived.Test.YtfcclppgjfkfoaaGreatDoorMg36
import Derived.Test.YtfcclppgjfkfoaaGreatDoorMg38
import Derived.Test.YtfcclppgjfkfoaaGreatDoorMg41
import Derived.Test.YtfcclppgjfkfoaaGreatDoorMg27
namespace Go.Proofs.YtfcclppgjfkfoaaGreatDoor
open Go.RowKit

set_option maxHeartbeats 3200000 in
set_option maxRecDepth 100000 in
theorem ttokens_any : ∀ (k L B : Nat) (n : ND) (v2 v3 v : Value) (P : List TK) (w : World), L + k = 9 → P.length + (tokR k n).length ≤ 549755813888 → NdAt w (fun b => b < B) n v2 v3 → B ≤ w.heap.size → w.ownsRow 0 116 3 v P.length (tkL P) → (∀ q, ownS v q → B ≤ q) →
    Calls Tryz.prog 63 #[v, .agg #[.string n.nm, v2, v3], .int .i64 (L : Int)] w fun e w' => ∃ v', e = .returned v' ∧ w'.ownsRow 0 116 3 v' (P ++ tokR k n).length (tkL (P ++ tokR k n)) ∧ Moved w w' (ownS v) (ownS v')
  | 0, L, B, n, v2, v3, v, P, w, hLk, _, hN, _, hown, _ => by
    have hB : Below w.heap.size w (w.alloc (.cells #[.string n.nm, v2, v3] 28)) := (Below.refl _ _).alloc (Nat.le_refl _) _
    have HO := Lib.hid (ow_below hown hB)
    have HM := Lib.hid (Moved.of_below hB (ownS v))
    have hL9 : L = 9 := by omega
    have c1 : decide ((8 : Int) < (L : Int)) = true := decide_eq_true (by omega)
    have HE : Hid (P ++ tokR 0 n = P) := List.append_nil P
    obtain ⟨A5, cap5, ho, _⟩ := row_rdTk hown
    subst ho
    clear hB hN hown hLk hL9
    go_enter Tryz.func63, Tryz.ntmps63
    go_wp2
    go_ret
    exact ⟨_, rfl, by rw [HE.out]; exact HO.out, HM.out⟩
  | k + 1, L, B, n, v2, v3, v, P, w, hLk, hlen, hN, hBw, hown, hbl => by
    have HIH := Lib.hid (fun x y z u Q W h1 h2 h3 h4 h5 => ttokens_any k (L + 1) B x y z u Q W (by omega) h1 h2 h3 h4 h5)
    have e1 : ((L + 1 : Nat) : Int) = (L : Int) + 1 := by omega
    rw [e1] at HIH
    obtain ⟨A, K, pc, kc, rfl, rfl, hpc, hpm, hkc, hkm⟩ := nd_shape hN
    unfold maxLen at hpm hkm
    have hp0 := tkKs_le k n (Nat.zero_le _)
    rw [← tkPs_all, tkPs_len n (Nat.le_refl _)] at hp0
    have HPS := Lib.hid (fun j (hj : j < n.ps.length) => tkPs_succ n hj)
    have HPA := Lib.hid (tkPs_all k n)
    have HPL := Lib.hid (fun j (hj : j ≤ n.ps.length) => tkPs_len n hj)
    have HKS := Lib.hid (fun j (hj : j < n.ks.length) => tkKs_succ k n hj)
    have HKE := Lib.hid (tokR_eq k n)
    have HKL := Lib.hid (fun j (hj : j ≤ n.ks.length) => tkKs_le k n hj)
    have HKK2 := Lib.hid (fun j (hj : j < n.ks.length) => tok_kid_le k n hj)
    have HP0 : Hid (tkPs n 0 = [⟨1, n.nm, ByteArray.empty⟩]) := rfl
    generalize tokR (k + 1) n = R at *
    have c1 : decide ((8 : Int) < (L : Int)) = false := decide_eq_false (by omega)
    have hL9 : L ≤ 9 := by omega
    have hPl : P.length ≤ 549755813888 := by omega
    obtain ⟨W1, hW1⟩ : ∃ W1, W1 = w.alloc (.cells #[.string n.nm, .slice A n.ps.length pc, .slice K n.ks.length kc] 28) := ⟨_, rfl⟩
    obtain ⟨g8, hg8⟩ : ∃ g8, g8 = w.heap.size := ⟨_, rfl⟩
    have hB1 : Below w.heap.size w W1 := by rw [hW1]; exact (Below.refl _ _).alloc (Nat.le_refl _) _
    have hA8 : Arr W1 g8 28 #[.string n.nm, .slice A n.ps.length pc, .slice K n.ks.length kc] := by rw [hW1, hg8]; exact Arr.new w _ _
    have HKN : Hid (∀ wr o, Moved w wr (ownS v) o → NdAt wr (fun b => b < B) n (.slice A n.ps.length pc) (.slice K n.ks.length kc)) := fun wr o hm => hN.kept hm (fun q hq hf => by have := hbl q hf; omega)
    have HBO : Hid (∀ wr o, Moved w wr (ownS v) (ownS o) → ∀ q, ownS o q → B ≤ q) := fun wr o hm q hq => by
      rcases hm.foot q hq with h | h
      · exact hbl q h
      · omega
    have HM1 := Lib.hid (Moved.of_below hB1 (ownS v))
    have HO1 := Lib.hid (ow_below hown hB1)
    have HA8 := Lib.hid hA8
    have HBW := Lib.hid hBw
    have k0 : W1.cell? ⟨g8, 0, none⟩ = some (.string n.nm) := hA8.cell 0
    obtain ⟨A5, cap5, ho, _⟩ := row_rdTk hown
    subst ho
    clear hN hB1 hA8 hLk e1 hown hbl hBw
    go_enter Tryz.func63, Tryz.ntmps63
    go_upto_region 1 with fail
    rw [← hW1, ← hg8]
    clear hW1 hg8
    go_upto_region 4 with (at_builtin; refine append_tk rfl (.tmp 14) (.tmp 18) rfl ⟨1, n.nm, ByteArray.empty⟩ _ P rfl HO1.out W1.heap.size rfl rfl (by omega) ?_; intro v5 w5 ho5 hm5; have HO5 := Lib.hid ho5; have HM5 := Lib.hid hm5; clear ho5 hm5)
    have HO5 : Hid (w5.ownsRow 0 116 3 v5 (P ++ tkPs n 0).length (tkL (P ++ tkPs n 0))) := by rw [HP0.out]; exact HO5.out
    have HA85 := Lib.hid (HM5.out.arr HA8.out (fun h => ow_arr HA8.out HO1.out (by decide) h.symm))
    have HM5 := Lib.hid (HM1.out.trans HM5.out)
    have k1 : w5.cell? ⟨g8, 1, none⟩ = some (.slice A n.ps.length pc) := HA85.out.cell 1
    clear k0 HM1 HO1 HA8 HP0
    go_wp2
    go_loopw [0, 23] (fun o i wr => ∃ j : Nat, j ≤ n.ps.length ∧ i = .int .i64 j ∧ wr.ownsRow 0 116 3 o (P ++ tkPs n j).length (tkL (P ++ tkPs n j)) ∧ Moved w wr (ownS (.slice A5 P.length cap5)) (ownS o) ∧ Arr wr g8 28 #[.string n.nm, .slice A n.ps.length pc, .slice K n.ks.length kc]) (fun _ i _ => n.ps.length - (intOf i).toNat)
    case atStart => exact ⟨0, Nat.zero_le _, rfl, HO5.out, HM5.out, HA85.out⟩
    case round =>
      clear HO5 HM5 HA85 k1
      obtain ⟨j, hj, rfl, hown, hm, hA8⟩ := hrel
      have HM := Lib.hid hm
      have HOWN := Lib.hid hown
      have HA8 := Lib.hid hA8
      by_cases hlt : j < n.ps.length
      · have hji : (j : Int) < n.ps.length := by omega
        obtain ⟨b, off, x, rfl, ⟨h1, h2⟩, HX⟩ := nd_prop (HKN.out _ _ hm) hlt
        have HS := HPS.out j hlt
        rw [HX.out] at HS
        have hpl := HPL.out j hj
        have hPb : (P ++ tkPs n j).length ≤ 549755813888 := by rw [List.length_append]; omega
        have HSJ : Hid (P ++ tkPs n (j + 1) = (P ++ tkPs n j) ++ [tokP x]) := by unfold Hid; rw [HS, List.append_assoc]
        clear hpl
        obtain ⟨pn, pv⟩ := x
        simp only [tokP] at HSJ
        simp only at h1 h2
        obtain ⟨A6, cap6, ho, _⟩ := row_rdTk hown
        subst ho
        clear HS HX hown hA8 hm
        have hb9 : Below wr.heap.size wr (wr.alloc (.cells #[.string pn, .string pv] 92)) := (Below.refl _ _).alloc (Nat.le_refl _) _
        have hA9 := Arr.new wr 92 #[.string pn, .string pv]
        have q0 := hA9.cell 0
        have q1 := hA9.cell 1
        simp only [List.getElem?_toArray, List.getElem?_cons_zero, List.getElem?_cons_succ] at q0 q1
        have HO9 := Lib.hid (ow_below HOWN.out hb9)
        have HM9 := Lib.hid (HM.out.trans (Moved.of_below hb9 _))
        have HA89 := Lib.hid (HA8.out.below hb9 HA8.out.lt)
        clear hb9 hA9 HOWN HM HA8
        generalize P ++ tkPs n j = Q at *
        go_upto_region 7 with fail
        generalize wr.alloc (.cells #[.string pn, .string pv] 92) = W9 at *
        generalize wr.heap.size = g9 at *
        go_wp2_with (at_builtin; refine append_tk rfl (.tmp 27) (.tmp 33) rfl ⟨3, pn, pv⟩ _ Q rfl HO9.out W9.heap.size rfl rfl (by omega) ?_; intro v7 w7 ho7 hm7; have HO7 := Lib.hid ho7; have HM7 := Lib.hid hm7; clear ho7 hm7)
        have HA87 := Lib.hid (HM7.out.arr HA89.out (fun h => ow_arr HA89.out HO9.out (by decide) h.symm))
        have HM7 := Lib.hid (HM9.out.trans HM7.out)
        go_roundw
        case rel => exact ⟨j + 1, by omega, by go_num, by rw [HSJ.out]; exact HO7.out, HM7.out, HA87.out⟩
        case measure => simp [intOf]; omega
      · obtain rfl : j = n.ps.length := by omega
        rw [HPA.out] at HOWN
        have hz0 := HKL.out 0 (Nat.zero_le _)
        have k2 : wr.cell? ⟨g8, 2, none⟩ = some (.slice K n.ks.length kc) := hA8.cell 2
        clear hown hm hA8
        go_wp2
        go_loopw [0, 39] (fun o i wx => ∃ j : Nat, j ≤ n.ks.length ∧ i = .int .i64 j ∧ wx.ownsRow 0 116 3 o (P ++ tkKs k n j).length (tkL (P ++ tkKs k n j)) ∧ Moved w wx (ownS (.slice A5 P.length cap5)) (ownS o) ∧ Arr wx g8 28 #[.string n.nm, .slice A n.ps.length pc, .slice K n.ks.length kc]) (fun _ i _ => n.ks.length - (intOf i).toNat)
        case atStart => exact ⟨0, Nat.zero_le _, rfl, HOWN.out, HM.out, HA8.out⟩
        case round =>
          clear HOWN HM HA8 k2
          obtain ⟨j, hj, rfl, hown, hm, hA8⟩ := hrel
          have HM := Lib.hid hm
          have HOWN := Lib.hid hown
          have HA8 := Lib.hid hA8
          have hsz := hm.size
          have hkl := HKL.out j hj
          by_cases hlt : j < n.ks.length
          · have hji : (j : Int) < n.ks.length := by omega
            obtain ⟨b, off, x, y, z, rfl, h1, h2, h3, h4, HX⟩ := nd_kid (HKN.out _ _ hm) hlt
            have hk2 := HKK2.out j hlt
            have hks := HKS.out j hlt
            rw [HX.out] at hk2 hks
            have HKJ : Hid (P ++ tkKs k n (j + 1) = (P ++ tkKs k n j) ++ tokR k x) := by unfold Hid; rw [hks, List.append_assoc]
            obtain ⟨ya, za, yc, zc, rfl, rfl, _⟩ := nd_shape h4
            obtain ⟨A6, cap6, ho, _⟩ := row_rdTk hown
            subst ho
            have hb9 : Below wr.heap.size wr (wr.alloc (.cells #[.string x.nm, .slice ya x.ps.length yc, .slice za x.ks.length zc] 28)) := (Below.refl _ _).alloc (Nat.le_refl _) _
            have hA9 := Arr.new wr 28 #[.string x.nm, .slice ya x.ps.length yc, .slice za x.ks.length zc]
            have q0 := hA9.cell 0
            have q1 := hA9.cell 1
            have q2 := hA9.cell 2
            simp only [List.getElem?_toArray, List.getElem?_cons_zero, List.getElem?_cons_succ] at q0 q1 q2
            have HO9 := Lib.hid (ow_below HOWN.out hb9)
            have HM9 := Lib.hid (HM.out.trans (Moved.of_below hb9 _))
            have HA89 := Lib.hid (HA8.out.below hb9 HA8.out.lt)
            have HC := Lib.hid (HIH.out x _ _ _ (P ++ tkKs k n j) _ (by rw [List.length_append]; omega) (nd_below h4 hb9) (Nat.le_trans HBW.out (Nat.le_trans hsz hb9.size)) HO9.out (HBO.out _ _ HM.out))
            clear hb9 hA9 HOWN HM HA8 hks hk2 h4 hown hA8 hm HX
            generalize P ++ tkKs k n j = Q at *
            generalize tokR k x = T at *
            go_upto_region 12 with fail
            generalize wr.alloc (.cells #[.string x.nm, .slice ya x.ps.length yc, .slice za x.ks.length zc] 28) = W9 at *
            generalize wr.heap.size = g9 at *
            go_wp2_with fail
            refine HC.out.mono ?_
            rintro e w3 ⟨v3', rfl, ho3, hm3⟩
            have HO3 := Lib.hid ho3
            have HA83 := Lib.hid (hm3.arr HA89.out (fun h => ow_arr HA89.out HO9.out (by decide) h.symm))
            have HM3 := Lib.hid (HM9.out.trans hm3)
            clear ho3 hm3 HC HO9 HM9 HA89
            go_wp2
            go_roundw
            case rel => exact ⟨j + 1, by omega, by go_num, by rw [HKJ.out]; exact HO3.out, HM3.out, HA83.out⟩
            case measure => simp [intOf]; omega
          · obtain rfl : j = n.ks.length := by omega
            have hPb : (P ++ tkKs k n n.ks.length).length ≤ 549755813888 := by rw [List.length_append]; omega
            have HEE : Hid (P ++ R = (P ++ tkKs k n n.ks.length) ++ [⟨2, ByteArray.empty, ByteArray.empty⟩]) := by unfold Hid; rw [HKE.out, List.append_assoc]
            clear hown hA8 hm
            generalize P ++ tkKs k n n.ks.length = Q at *
            go_wp2_with (at_builtin; refine append_tk rfl (.tmp 49) (.tmp 51) rfl ⟨2, ByteArray.empty, ByteArray.empty⟩ _ Q rfl HOWN.out wr.heap.size rfl rfl (by omega) ?_; intro v5 w5 ho5 hm5; have HO5 := Lib.hid ho5; have HM5 := Lib.hid hm5; clear ho5 hm5)
            have HM5 := Lib.hid (HM.out.trans HM5.out)
            go_ret
            exact ⟨_, rfl, by rw [HEE.out]; exact HO5.out, HM5.out⟩

set_option maxHeartbeats 800000 in
set_option maxRecDepth 100000 in
theorem tTokens_any (G : Nat → Prop) (n : ND) (v2 v3 : Value) (w : World) (hlen : (tokR 8 n).length ≤ 549755813888) (hN : NdAt w G n v2 v3) :
    Calls Tryz.prog 26 #[.agg #[.string n.nm, v2, v3]] w fun e w' => ∃ v, e = .returned v ∧ w'.ownsRow w.heap.size 116 3 v (tokR 8 n).length (tkL (tokR 8 n)) ∧ Below w.heap.size w w' := by
  obtain ⟨W1, hW1⟩ : ∃ W1, W1 = w.alloc (.cells #[.string n.nm, v2, v3] 28) := ⟨_, rfl⟩
  obtain ⟨g8, hg8⟩ : ∃ g8, g8 = w.heap.size := ⟨_, rfl⟩
  have hB1 : Below w.heap.size w W1 := by rw [hW1]; exact (Below.refl _ _).alloc (Nat.le_refl _) _
  have hA8 : Arr W1 g8 28 #[.string n.nm, v2, v3] := by rw [hW1, hg8]; exact Arr.new w _ _
  have HB1 := Lib.hid hB1
  have hz1 := hB1.size
  have k0 : W1.cell? ⟨g8, 0, none⟩ = some (.string n.nm) := hA8.cell 0
  have k1 : W1.cell? ⟨g8, 1, none⟩ = some v2 := hA8.cell 1
  have k2 : W1.cell? ⟨g8, 2, none⟩ = some v3 := hA8.cell 2
  have HC : Hid (Calls Tryz.prog 63 #[.slice none 0 0, .agg #[.string n.nm, v2, v3], .int .i64 1] W1 fun e w' => ∃ v', e = .returned v' ∧ w'.ownsRow 0 116 3 v' (tokR 8 n).length (tkL (tokR 8 n)) ∧ Moved W1 w' (ownS (.slice none 0 0)) (ownS v')) :=
    ttokens_any 8 1 W1.heap.size n v2 v3 (.slice none 0 0) [] W1 rfl (by show 0 + _ ≤ _; omega) (nd_lt (nd_below hN hB1)) (Nat.le_refl _) (World.ownsRow_nil _ _ _ _) (fun q hq => by cases hq)
  generalize tokR 8 n = T at *
  clear hN hB1 hA8 hlen
  go_enter Tryz.func26, Tryz.ntmps26
  go_upto_region 1 with fail
  rw [← hW1, ← hg8]
  clear hW1 hg8
  go_wp2_with fail
  refine HC.out.mono ?_
  rintro e w3 ⟨v, rfl, ho, hm3⟩
  have HO := Lib.hid (ow_base ho (base' := w.heap.size) (fun q hq => by
    rcases hm3.foot q hq with h | h
    · cases h
    · exact Nat.le_trans hz1 h))
  have HB3 := Lib.hid (HB1.out.trans (hm3.below (fun q hq => by cases hq) hz1))
  clear hm3 ho HC
  go_wp2
  go_ret
  exact ⟨v, rfl, HO.out, HB3.out⟩
end Go.Proofs.YtfcclppgjfkfoaaGreatDoor

/- Package encode, as it landed, does what it must: the contracts of Tree, Reserve and Size. Conditions: those that the contracts name. -/
namespace Go.Proofs.YtfcclppgjfkfoaaGreatDoor
open Go.RowKit

/-- The error of a tree that is too big. -/
def fitE (n : ND) : Nat := if 8 < (countR 9 n).c then 13 else if fitsR n = false then 7 else 0
theorem encR_tog (T : DT) : encR T = if fitE T.rt ≠ 0 then ([], fitE T.rt) else if (resP T.rs).2 ≠ 0 then ([], (resP T.rs).2) else if (putR (tokR 8 T.rt)).2.2 ≠ 0 then ([], (putR (tokR 8 T.rt)).2.2)
    else togR T.bo ⟨(resP T.rs).1.toArray⟩ (putR (tokR 8 T.rt)).1 (putR (tokR 8 T.rt)).2.1 := by
  have h : encR T = if 8 < (countR 9 T.rt).c then ([], 13) else if fitsR T.rt = false then ([], 7) else if (resP T.rs).2 ≠ 0 then ([], (resP T.rs).2) else if (putR (tokR 8 T.rt)).2.2 ≠ 0 then ([], (putR (tokR 8 T.rt)).2.2)
      else togR T.bo ⟨(resP T.rs).1.toArray⟩ (putR (tokR 8 T.rt)).1 (putR (tokR 8 T.rt)).2.1 := by
    unfold encR togR
    rw [ba_size (resP T.rs).1]
  rw [h]
  unfold fitE
  by_cases h1 : 8 < (countR 9 T.rt).c
  · simp only [if_pos h1]; rfl
  · simp only [if_neg h1]
    by_cases h2 : fitsR T.rt = false
    · simp only [if_pos h2]; rfl
    · simp only [if_neg h2]; rfl

set_option maxHeartbeats 1600000 in
set_option maxRecDepth 100000 in
theorem efits_any (G : Nat → Prop) (n : ND) (v2 v3 : Value) (w : World) (ha : (countR 9 n).a ≤ 1099511627776) (hb : (countR 9 n).b ≤ 1099511627776) (hN : NdAt w G n v2 v3) :
    Calls Tryz.prog 23 #[.agg #[.string n.nm, v2, v3]] w fun e w' => e = .returned (.int .i64 (fitE n : Int)) ∧ Below w.heap.size w w' := by
  obtain ⟨W1, hW1⟩ : ∃ W1, W1 = w.alloc (.cells #[.string n.nm, v2, v3] 28) := ⟨_, rfl⟩
  obtain ⟨g8, hg8⟩ : ∃ g8, g8 = w.heap.size := ⟨_, rfl⟩
  have hB1 : Below w.heap.size w W1 := by rw [hW1]; exact (Below.refl _ _).alloc (Nat.le_refl _) _
  have hA8 : Arr W1 g8 28 #[.string n.nm, v2, v3] := by rw [hW1, hg8]; exact Arr.new w _ _
  have HB1 := Lib.hid hB1
  have HN := Lib.hid (nd_below hN hB1)
  have hz1 := hB1.size
  have k0 : W1.cell? ⟨g8, 0, none⟩ = some (.string n.nm) := hA8.cell 0
  have k1 : W1.cell? ⟨g8, 1, none⟩ = some v2 := hA8.cell 1
  have k2 : W1.cell? ⟨g8, 2, none⟩ = some v3 := hA8.cell 2
  have HC := Lib.hid (fun W (h : NdAt W G n v2 v3) => tCount_any G n v2 v3 W ha hb h)
  have HF := Lib.hid (fun W (h : NdAt W G n v2 v3) => tFits_any G n v2 v3 W ha hb h)
  have HA8 := Lib.hid hA8
  have HE : Hid (fitE n = if 8 < (countR 9 n).c then 13 else if fitsR n = false then 7 else 0) := rfl
  generalize fitE n = E at *
  generalize fitsR n = F at *
  rcases hxc : countR 9 n with ⟨a, b, c⟩
  rw [hxc] at HC HE
  simp only at HE
  clear hN hB1 hA8 ha hb hxc
  go_enter Tryz.func23, Tryz.ntmps23
  go_upto_region 1 with fail
  rw [← hW1, ← hg8]
  clear hW1 hg8
  go_wp2_with fail
  refine (HC.out _ HN.out).mono ?_
  rintro e w3 ⟨rfl, hb3⟩
  have HN := Lib.hid (nd_below HN.out hb3)
  have HA8 := Lib.hid (HA8.out.below hb3 HA8.out.lt)
  have HB3 := Lib.hid (HB1.out.trans (hb3.mono hz1))
  clear hb3 HC HB1 k0 k1 k2
  have k0 : w3.cell? ⟨g8, 0, none⟩ = some (.string n.nm) := HA8.out.cell 0
  have k1 : w3.cell? ⟨g8, 1, none⟩ = some v2 := HA8.out.cell 1
  have k2 : w3.cell? ⟨g8, 2, none⟩ = some v3 := HA8.out.cell 2
  by_cases h : 8 < c
  · have d1 : (8 : Int) < (c : Int) := by omega
    have HE : Hid (E = 13) := by unfold Hid; rw [HE.out, if_pos h]
    clear h HF
    go_wp2
    go_ret
    exact ⟨by rw [HE.out]; rfl, HB3.out⟩
  · have d1 : (c : Int) ≤ 8 := by omega
    have HE : Hid (E = if F = false then 7 else 0) := by unfold Hid; rw [HE.out, if_neg h]
    clear h
    go_wp2_with fail
    refine (HF.out _ HN.out).mono ?_
    rintro e w4 ⟨rfl, hb4⟩
    have HB4 := Lib.hid (HB3.out.trans (hb4.mono HB3.out.size))
    clear hb4 HF HB3 k0 k1 k2
    cases F with
    | false =>
      go_wp2
      go_ret
      exact ⟨by rw [HE.out]; rfl, HB4.out⟩
    | true =>
      go_wp2
      go_ret
      exact ⟨by rw [HE.out]; rfl, HB4.out⟩

set_option maxHeartbeats 3200000 in
set_option maxRecDepth 100000 in
theorem eTree_any (T : DT) (v2 v3 : Value) (A : Option Addr) (cap : Nat) (w : World) (ho : EnOk T) (hin : DtIn T) (hat : DtAt w T v2 v3 A) :
    Calls Tryz.prog 9 #[.agg (dtC T.rt.nm v2 v3 (.slice A T.rs.length cap) T.bo)] w fun e w' => e = .returned (.tuple #[.string ⟨(encR T).1.toArray⟩, .int .i64 ((encR T).2 : Int)]) ∧ Below w.heap.size w w' := by
  have hrl := resP_len T.rs
  have hpb := put_bytes ho.tk
  obtain ⟨W1, hW1⟩ : ∃ W1, W1 = w.alloc (.cells (dtC T.rt.nm v2 v3 (.slice A T.rs.length cap) T.bo) 31) := ⟨_, rfl⟩
  obtain ⟨g1, hg1⟩ : ∃ g1, g1 = w.heap.size := ⟨_, rfl⟩
  have hB1 : Below w.heap.size w W1 := by rw [hW1]; exact (Below.refl _ _).alloc (Nat.le_refl _) _
  have hA1 : Arr W1 g1 31 (dtC T.rt.nm v2 v3 (.slice A T.rs.length cap) T.bo) := by rw [hW1, hg1]; exact Arr.new w _ _
  have HAT := Lib.hid (hat.below hB1)
  have HB1 := Lib.hid hB1
  have HA1 := Lib.hid hA1
  have HFT := Lib.hid (fun W G (h : NdAt W G T.rt v2 v3) => efits_any G T.rt v2 v3 W ho.ca ho.cb h)
  have HRS := Lib.hid (fun W (h : RdSp W A T.rs) => eReserve_any T.rs A cap W ho.rl h)
  have HTK := Lib.hid (fun W G (h : NdAt W G T.rt v2 v3) => tTokens_any G T.rt v2 v3 W ho.tl h)
  have HPT := Lib.hid (fun A' cap' W (h : RdTk W A' (tokR 8 T.rt)) => put_any A' cap' (tokR 8 T.rt) W h (by have := ho.tl; unfold maxLen; omega) ho.tk)
  have HE := Lib.hid (encR_tog T)
  have HTG := Lib.hid (fun (R a b : ByteArray) W h1 h2 h3 => tog_any T.bo R a b W hin.1 h1 h2 h3)
  generalize encR T = R at *
  generalize tokR 8 T.rt = TL at *
  generalize fitE T.rt = F at *
  rcases hrs : resP T.rs with ⟨r, er⟩
  rcases hpt : putR TL with ⟨a, b, f⟩
  rw [hrs] at HRS HE hrl
  rw [hpt] at HPT HE hpb
  simp only at HRS HPT HE hrl hpb
  obtain ⟨hpa, hpb⟩ := hpb
  obtain ⟨RB, hRB⟩ : ∃ RB : ByteArray, RB = ⟨r.toArray⟩ := ⟨_, rfl⟩
  rw [← hRB] at HRS HE
  have hrb : RB.size ≤ 272 := by rw [hRB, ba_size]; exact hrl
  have HTG := Lib.hid (fun W => HTG.out RB a b W (by omega) hpa hpb)
  generalize togR T.bo RB a b = TG at *
  clear hRB hrl hrb hpa hpb
  obtain ⟨k0, k1, k2, k3, k4⟩ := dt_cells hA1
  clear hat hB1 hA1 hrs hpt ho hin
  go_enter Tryz.func9, Tryz.ntmps9
  go_upto_region 1 with fail
  rw [← hW1, ← hg1]
  clear hW1 hg1
  go_wp2_with fail
  refine (HFT.out _ _ HAT.out.1).mono ?_
  rintro e w2 ⟨rfl, hb⟩
  clear k0 k1 k2 k3 k4
  have HAT := Lib.hid (HAT.out.below hb)
  have HA1 := Lib.hid (HA1.out.below hb HA1.out.lt)
  have HB1 := Lib.hid (HB1.out.trans (hb.mono HB1.out.size))
  clear hb HFT
  by_cases h : F ≠ 0
  · have HE : Hid (R = ([], F)) := by unfold Hid; rw [HE.out, if_pos h]
    have d1 : ((F : Int) != 0) = true := by simp; omega
    clear h
    go_wp2
    go_ret2
    exact ⟨by rw [HE.out]; rfl, HB1.out⟩
  replace HE := Lib.hid (HE.out.trans (if_neg h))
  obtain rfl : F = 0 := Decidable.not_not.1 h
  clear h
  obtain ⟨k0, k1, k2, k3, k4⟩ := dt_cells HA1.out
  go_wp2_with fail
  refine (HRS.out _ HAT.out.2).mono ?_
  rintro e w5 ⟨rfl, hb⟩
  clear k0 k1 k2 k3 k4
  have HAT := Lib.hid (HAT.out.below hb)
  have HA1 := Lib.hid (HA1.out.below hb HA1.out.lt)
  have HB1 := Lib.hid (HB1.out.trans (hb.mono HB1.out.size))
  clear hb HRS
  by_cases h : er ≠ 0
  · have HE : Hid (R = ([], er)) := by unfold Hid; rw [HE.out, if_pos h]
    have d1 : ((er : Int) != 0) = true := by simp; omega
    clear h
    go_wp2
    go_ret2
    exact ⟨by rw [HE.out]; rfl, HB1.out⟩
  replace HE := Lib.hid (HE.out.trans (if_neg h))
  obtain rfl : er = 0 := Decidable.not_not.1 h
  clear h
  obtain ⟨k0, k1, k2, k3, k4⟩ := dt_cells HA1.out
  go_wp2_with fail
  refine (HTK.out _ _ HAT.out.1).mono ?_
  rintro e w6 ⟨tv, rfl, ho, hb⟩
  obtain ⟨A6, cap6, rfl, hr6⟩ := row_rdTk ho
  have HR6 := Lib.hid hr6
  clear ho hr6 HTK k0 k1 k2 k3 k4
  have HAT := Lib.hid (HAT.out.below hb)
  have HA1 := Lib.hid (HA1.out.below hb HA1.out.lt)
  have HB1 := Lib.hid (HB1.out.trans (hb.mono HB1.out.size))
  clear hb
  go_wp2_with fail
  refine (HPT.out _ _ _ HR6.out).mono ?_
  rintro e w7 ⟨rfl, hb⟩
  clear HR6 HPT
  have HA1 := Lib.hid (HA1.out.below hb HA1.out.lt)
  have HB1 := Lib.hid (HB1.out.trans (hb.mono HB1.out.size))
  clear hb HAT
  by_cases h : f ≠ 0
  · have HE : Hid (R = ([], f)) := by unfold Hid; rw [HE.out, if_pos h]
    have d1 : ((f : Int) != 0) = true := by simp; omega
    clear h
    go_wp2
    go_ret2
    exact ⟨by rw [HE.out]; rfl, HB1.out⟩
  replace HE := Lib.hid (HE.out.trans (if_neg h))
  obtain rfl : f = 0 := Decidable.not_not.1 h
  clear h
  obtain ⟨k0, k1, k2, k3, k4⟩ := dt_cells HA1.out
  go_wp2_with fail
  refine (HTG.out _).mono ?_
  rintro e w8 ⟨rfl, hb⟩
  have HB8 := Lib.hid (HB1.out.trans (hb.mono HB1.out.size))
  clear hb k0 k1 k2 k3 k4 HTG HA1 HB1
  go_wp2
  go_ret2
  exact ⟨by rw [HE.out]; rfl, HB8.out⟩

theorem enc_tree : EncTree := fun T v2 v3 A cap w ho hin hat => eTree_any T v2 v3 A cap w ho hin hat
end Go.Proofs.YtfcclppgjfkfoaaGreatDoor
