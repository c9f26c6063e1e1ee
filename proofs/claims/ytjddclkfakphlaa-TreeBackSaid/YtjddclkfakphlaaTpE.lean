/- What package tree's below, addSpots and Walk return. Conditions: a tree that is read, with names of at most 100 bytes, and of at most 2^39 nodes. -/
import Derived.Test.YtjddclkfakphlaaTrT
namespace Go.Proofs.Ytjddclkfakphlaa
open Go.RowKit

theorem suf_eq (p : ByteArray) (m : Nat) (hm : p.size = m + 1) : ((p.extract (p.size - 1) p.size).toList == [47]) = decide (p.data.toList.getLast? = some 47) := by
  have hl : p.data.toList.length = m + 1 := hm
  have e1 : (p.extract (p.size - 1) p.size).toList = [p.data.toList.getD m 0] := by
    rw [ByteArray.toList_eq, hm, Nat.add_sub_cancel, ByteArray.data_extract, Array.toList_extract, List.extract_eq_take_drop, Nat.add_sub_cancel_left, List.drop_eq_getElem_cons (by omega), List.take_succ_cons, List.take_zero, List.getD_eq_getElem?_getD, List.getElem?_eq_getElem (by omega)]; rfl
  rw [e1, under_one p m hm]
  by_cases h : p.data.toList.getD m 0 = 47
  · rw [h]; rfl
  · have h1 : ([p.data.toList.getD m 0] == [47]) = false := by simpa using h
    have h2 : decide (some (p.data.toList.getD m 0) = some 47) = false := decide_eq_false (fun e => h (Option.some.inj e))
    rw [h1, h2]
theorem suffixL_any (p : ByteArray) (hp : 1 ≤ p.size) (hb : p.size ≤ 2000000) (w : World) :
    Calls Try.prog 42 #[.string p, .string ⟨#[47]⟩] w fun e w' => e = .returned (.bool (decide (p.data.toList.getLast? = some 47))) ∧ w' = w := by
  have HE := Lib.hid (suf_eq p (p.size - 1) (by omega))
  have c1 : decide ((1 : Int) ≤ p.size) = true := decide_eq_true (by omega)
  have c2 : (1 : Int) ≤ p.size := by omega
  have c3 : (p.size : Int) - 1 ≤ p.size := by omega
  generalize decide (p.data.toList.getLast? = some 47) = R at *
  go_enter Try.func42, Try.ntmps42
  go_wp2
  go_ret
  exact ⟨by rw [← HE.out]; rfl, rfl⟩
theorem suffix_any (p : ByteArray) (hp : 1 ≤ p.size) (hb : p.size ≤ 2000000) (w : World) :
    Calls Try.prog 41 #[.string p, .string ⟨#[47]⟩] w fun e w' => e = .returned (.bool (decide (p.data.toList.getLast? = some 47))) ∧ w' = w := by
  have HC := Lib.hid (suffixL_any p hp hb)
  generalize decide (p.data.toList.getLast? = some 47) = R at *
  go_enter Try.func41, Try.ntmps41
  go_wp2_with fail
  refine (HC.out _).mono ?_
  rintro e w1 ⟨rfl, rfl⟩
  go_wp2
  go_ret
  exact ⟨rfl, rfl⟩
theorem below_any (p nm q : ByteArray) (hp : 1 ≤ p.size) (hb : p.size ≤ 1000000) (hn : nm.size ≤ 1000000) (hq : q.data.toList = under p.data.toList ++ nm.data.toList) (w : World) :
    Calls Try.prog 39 #[.string p, .string nm] w fun e w' => e = .returned (.string q) ∧ w' = w := by
  have HC := Lib.hid (suffix_any p hp (by omega))
  obtain ⟨PS, hPS⟩ : ∃ PS : ByteArray, PS.data.toList = p.data.toList ++ [47] := ⟨⟨(p.data.toList ++ [47]).toArray⟩, by simp⟩
  have hPs : PS.size = p.size + 1 := by show PS.data.toList.length = p.data.toList.length + 1; rw [hPS, List.length_append]; rfl
  by_cases h : p.data.toList.getLast? = some 47
  · rw [decide_eq_true h] at HC
    have a1 : ∀ W, (Op.stringOp .add p nm).run Try.prog W = .ok (.string q) W := fun W => add_str (by rw [hq]; unfold under; rw [if_pos h]) (by omega) W
    clear hPS hPs h hq hp hb hn
    go_enter Try.func39, Try.ntmps39
    go_wp2_with fail
    refine (HC.out _).mono ?_
    rintro e w1 ⟨rfl, rfl⟩
    go_wp2
    go_ret
    exact ⟨rfl, rfl⟩
  · rw [decide_eq_false h] at HC
    have a1 : ∀ W, (Op.stringOp .add p ⟨#[47]⟩).run Try.prog W = .ok (.string PS) W := fun W => add_str (by rw [hPS]) (by show p.size + 1 ≤ _; omega) W
    have a2 : ∀ W, (Op.stringOp .add PS nm).run Try.prog W = .ok (.string q) W := fun W => add_str (by rw [hq, hPS]; unfold under; rw [if_neg h]) (by omega) W
    clear hPS hPs h hq hp hb hn
    go_enter Try.func39, Try.ntmps39
    go_wp2_with fail
    refine (HC.out _).mono ?_
    rintro e w1 ⟨rfl, rfl⟩
    go_wp2
    go_ret
    exact ⟨rfl, rfl⟩

set_option maxHeartbeats 3200000 in
set_option maxRecDepth 100000 in
theorem tspots_any (B : Nat) : ∀ (k L : Nat) (n : ND) (v2 v3 v : Value) (S : List SPT) (p : ByteArray) (w : World), L + k = 9 → 1 ≤ p.size → p.size + 200 * k ≤ 900000 → nmR k n = true → S.length + (countR k n).a ≤ 549755813888 → NdAt w (fun b => b < B) n v2 v3 → B ≤ w.heap.size → w.ownsRow 0 40 4 v S.length (spL S) → (∀ q, ownS v q → B ≤ q) →
    Calls Try.prog 33 #[v, .agg #[.string n.nm, v2, v3], .string p, .int .i64 (L : Int)] w fun e w' => ∃ (v' : Value) (S' : List SPT), e = .returned v' ∧ w'.ownsRow 0 40 4 v' (S ++ S').length (spL (S ++ S')) ∧ S'.map spP = walkR k p.data.toList n ∧ (∀ s ∈ S', NdAt w' (fun b => b < B) s.nd s.y s.z) ∧ Moved w w' (ownS v) (ownS v')
  | 0, L, n, v2, v3, v, S, p, w, hLk, _, _, _, _, hN, _, hown, _ => by
    have hB : Below w.heap.size w (w.alloc (.cells #[.string n.nm, v2, v3] 25)) := (Below.refl _ _).alloc (Nat.le_refl _) _
    have HO := Lib.hid (ow_below hown hB)
    have HM := Lib.hid (Moved.of_below hB (ownS v))
    have hL9 : L = 9 := by omega
    have c1 : decide ((8 : Int) < (L : Int)) = true := decide_eq_true (by omega)
    obtain ⟨A5, cap5, ho, _⟩ := slice_ofN hown
    subst ho
    clear hB hN hown hLk hL9
    go_enter Try.func33, Try.ntmps33
    go_wp2
    go_ret
    exact ⟨_, [], rfl, by rw [List.append_nil]; exact HO.out, rfl, (fun s hs => by cases hs), HM.out⟩
  | k + 1, L, n, v2, v3, v, S, p, w, hLk, hp1, hpk, hnm, hcn, hN, hBw, hown, hbl => by
    have HIH := Lib.hid (fun x y z u T q W h1 h2 h3 h4 h5 h6 h7 h8 => tspots_any B k (L + 1) x y z u T q W (by omega) h1 h2 h3 h4 h5 h6 h7 h8)
    have e1 : ((L + 1 : Nat) : Int) = IntKind.i64.wrap ((L : Int) + 1) := by rw [IntKind.wrap_i64]; omega
    rw [e1] at HIH
    obtain ⟨A, K, pc, kc, rfl, rfl, hpc, hpm, hkc, hkm⟩ := nd_shape hN
    unfold maxLen at hpm hkm
    have HWA := Lib.hid (wkR_all k p.data.toList n)
    have HWS := Lib.hid (fun j (hj : j < n.ks.length) => wkR_succ k p.data.toList n hj)
    have HWL := Lib.hid (fun j (hj : j < n.ks.length) => wk_le k p.data.toList n hj)
    have HWN := Lib.hid (walk_len (k + 1) p.data.toList n)
    have HWC := Lib.hid (fun (x : ND) (q : List UInt8) => walk_len k q x)
    have HNK := Lib.hid (nm_kids hnm)
    have HW0 : Hid (wkR k p.data.toList n 0 = [(p.data.toList, n)]) := rfl
    have c1 : decide ((8 : Int) < (L : Int)) = false := decide_eq_false (by omega)
    have hL9 : L ≤ 9 := by omega
    have hpb : p.size + 200 * k + 200 ≤ 900000 := by omega
    have hc1 : S.length + 1 ≤ 549755813888 := by
      have := (ctF_le k n (Nat.zero_le _)).1
      have h0 : (ctF k n 0).a = 1 := rfl
      omega
    obtain ⟨U, hU⟩ : ∃ U : ByteArray, U.data.toList = under p.data.toList := ⟨⟨(under p.data.toList).toArray⟩, by simp⟩
    have hUs : U.size ≤ p.size + 1 := by
      show U.data.toList.length ≤ p.data.toList.length + 1
      rw [hU]; unfold under; split
      · omega
      · rw [List.length_append]; simp only [List.length_cons, List.length_nil]; omega
    have hU1 : 1 ≤ U.size := by
      show 1 ≤ U.data.toList.length
      rw [hU]; unfold under; split
      · exact hp1
      · rw [List.length_append]; simp only [List.length_cons, List.length_nil]; omega
    obtain ⟨W1, hW1⟩ : ∃ W1, W1 = w.alloc (.cells #[.string n.nm, .slice A n.ps.length pc, .slice K n.ks.length kc] 25) := ⟨_, rfl⟩
    obtain ⟨g8, hg8⟩ : ∃ g8, g8 = w.heap.size := ⟨_, rfl⟩
    have hB1 : Below w.heap.size w W1 := by rw [hW1]; exact (Below.refl _ _).alloc (Nat.le_refl _) _
    have hA8 : Arr W1 g8 25 #[.string n.nm, .slice A n.ps.length pc, .slice K n.ks.length kc] := by rw [hW1, hg8]; exact Arr.new w _ _
    have HKN : Hid (∀ wr o, Moved w wr (ownS v) o → NdAt wr (fun b => b < B) n (.slice A n.ps.length pc) (.slice K n.ks.length kc)) := fun wr o hm => hN.kept hm (fun q hq hf => by have := hbl q hf; omega)
    have HBO : Hid (∀ wr o, Moved w wr (ownS v) (ownS o) → ∀ q, ownS o q → B ≤ q) := fun wr o hm q hq => by
      rcases hm.foot q hq with h | h
      · exact hbl q h
      · omega
    have HM1 := Lib.hid (Moved.of_below hB1 (ownS v))
    have HO1 := Lib.hid (ow_below hown hB1)
    have HA8 := Lib.hid hA8
    have HBW := Lib.hid hBw
    have HEL := Lib.hid elemSpot
    have k0 : W1.cell? ⟨g8, 0, none⟩ = some (.string n.nm) := hA8.cell 0
    have k1 : W1.cell? ⟨g8, 1, none⟩ = some (.slice A n.ps.length pc) := hA8.cell 1
    have k2 : W1.cell? ⟨g8, 2, none⟩ = some (.slice K n.ks.length kc) := hA8.cell 2
    obtain ⟨A5, cap5, ho, _⟩ := slice_ofN hown
    subst ho
    clear hN hB1 hA8 hLk e1 hown hbl hBw hnm hpk
    go_enter Try.func33, Try.ntmps33
    go_upto_region 1 with fail
    rw [← hW1, ← hg8]
    clear hW1 hg8
    go_upto_region 4 with (at_builtin; refine append_new rfl (.tmp 14) (.tmp 18) 37 rfl 40 4 80 HEL _ S.length (spL S) rfl HO1.out #[.string p, .string n.nm, .slice A n.ps.length pc, .slice K n.ks.length kc] rfl (by intro u hu; simp at hu; rcases hu with rfl | rfl | rfl | rfl <;> rfl) W1.heap.size rfl rfl (by unfold maxLen; omega) (by omega) ?_; intro v5 w5 ho5 hm5; have HO5 := Lib.hid ho5; have HM5 := Lib.hid hm5; clear ho5 hm5)
    have HO5 : Hid (w5.ownsRow 0 40 4 v5 (S ++ [(⟨p, n, .slice A n.ps.length pc, .slice K n.ks.length kc⟩ : SPT)]).length (spL (S ++ [(⟨p, n, .slice A n.ps.length pc, .slice K n.ks.length kc⟩ : SPT)]))) := by
      rw [spL_app, List.length_append]; exact HO5.out
    have HA85 := Lib.hid (HM5.out.arr HA8.out (fun h => ow_arr HA8.out HO1.out (by decide) h.symm))
    have HM5 := Lib.hid (HM1.out.trans HM5.out)
    have k2 : w5.cell? ⟨g8, 2, none⟩ = some (.slice K n.ks.length kc) := HA85.out.cell 2
    clear k0 k1 HM1 HO1 HA8
    go_wp2
    go_loopw [0, 23] (fun o i wr => ∃ (j : Nat) (T : List SPT), j ≤ n.ks.length ∧ i = .int .i64 j ∧ wr.ownsRow 0 40 4 o (S ++ T).length (spL (S ++ T)) ∧ Hid (T.map spP = wkR k p.data.toList n j) ∧ (∀ s ∈ T, NdAt wr (fun b => b < B) s.nd s.y s.z) ∧ Moved w wr (ownS (.slice A5 S.length cap5)) (ownS o) ∧ Arr wr g8 25 #[.string n.nm, .slice A n.ps.length pc, .slice K n.ks.length kc]) (fun _ i _ => n.ks.length - (intOf i).toNat)
    case atStart => exact ⟨0, [(⟨p, n, .slice A n.ps.length pc, .slice K n.ks.length kc⟩ : SPT)], Nat.zero_le _, rfl, HO5.out, HW0.out, (fun s hs => by rw [List.mem_singleton] at hs; subst hs; exact HKN.out _ _ HM5.out), HM5.out, HA85.out⟩
    case round =>
      clear HO5 HM5 HA85 HW0 k2
      obtain ⟨j, T, hj, rfl, hown, HT, hTN, hm, hA8⟩ := hrel
      have HTN := Lib.hid hTN
      have HM := Lib.hid hm
      have HOWN := Lib.hid hown
      have HA8 := Lib.hid hA8
      have hsz := hm.size
      by_cases hlt : j < n.ks.length
      · have hji : (j : Int) < n.ks.length := by omega
        obtain ⟨b, off, x, y, z, rfl, h1, h2, h3, h4, HX⟩ := nd_kid (HKN.out _ _ hm) hlt
        have hxm := getD_mem (d := nd0) hlt
        have hwl := HWL.out j hlt
        have hws := HWS.out j hlt
        rw [HX.out] at hxm hwl hws
        have hx100 := (HNK.out x hxm).1
        have hxn := (HNK.out x hxm).2
        obtain ⟨QP, hQP⟩ : ∃ QP : ByteArray, QP.data.toList = U.data.toList ++ x.nm.data.toList := ⟨⟨(U.data.toList ++ x.nm.data.toList).toArray⟩, by simp⟩
        have hQs : QP.size = U.size + x.nm.size := by show QP.data.toList.length = _; rw [hQP, List.length_append]; rfl
        have HBL : Hid (∀ W, Calls Try.prog 39 #[.string p, .string x.nm] W fun e w' => e = .returned (.string QP) ∧ w' = W) := fun W => below_any p x.nm QP hp1 (by omega) (by omega) (by rw [hQP, hU]) W
        rw [← hU, ← hQP] at hwl hws
        have HWJ := Lib.hid hws
        have hTl : T.length = (wkR k p.data.toList n j).length := by rw [← HT.out, List.length_map]
        have hwn := HWN.out
        have hwc := HWC.out x QP.data.toList
        obtain ⟨ya, za, yc, zc, rfl, rfl, _⟩ := nd_shape h4
        obtain ⟨ST, hST⟩ : ∃ ST, ST = S ++ T := ⟨_, rfl⟩
        have HSTl : Hid (ST.length = S.length + T.length) := by unfold Hid; rw [hST, List.length_append]
        obtain ⟨A6, cap6, ho, _⟩ := slice_ofN hown
        subst ho
        rw [← hST] at HOWN HM ⊢
        have hb9 : Below wr.heap.size wr (wr.alloc (.cells #[.string x.nm, .slice ya x.ps.length yc, .slice za x.ks.length zc] 25)) := (Below.refl _ _).alloc (Nat.le_refl _) _
        have HA9 := Lib.hid (Arr.new wr 25 #[.string x.nm, .slice ya x.ps.length yc, .slice za x.ks.length zc])
        have HO9 := Lib.hid (ow_below HOWN.out hb9)
        have HTN9 := Lib.hid (fun s hs => nd_below (HTN.out s hs) hb9)
        have HM9 := Lib.hid (HM.out.trans (Moved.of_below hb9 _))
        have HA89 := Lib.hid (HA8.out.below hb9 HA8.out.lt)
        have h49 := nd_below h4 hb9
        have hz9 := Nat.le_trans HBW.out (Nat.le_trans hsz hb9.size)
        have HST := Lib.hid hST
        clear hb9 HOWN HM HA8 hown hA8 hm hTN HTN hST
        go_upto_region 7 with fail
        generalize wr.alloc (.cells #[.string x.nm, .slice ya x.ps.length yc, .slice za x.ks.length zc] 25) = W9 at *
        generalize wr.heap.size = g9 at *
        have HC : Hid (∀ W', Below W9.heap.size W9 W' → Calls Try.prog 33 #[.slice A6 ST.length cap6, .agg #[.string x.nm, .slice ya x.ps.length yc, .slice za x.ks.length zc], .string QP, .int .i64 (IntKind.i64.wrap ((L : Int) + 1))] W' fun e w' => ∃ (v' : Value) (S' : List SPT), e = .returned v' ∧ w'.ownsRow 0 40 4 v' (ST ++ S').length (spL (ST ++ S')) ∧ S'.map spP = walkR k QP.data.toList x ∧ (∀ s ∈ S', NdAt w' (fun b => b < B) s.nd s.y s.z) ∧ Moved W' w' (ownS (.slice A6 ST.length cap6)) (ownS v')) := fun W' h =>
          HIH.out x _ _ _ ST QP W' (by omega) (by omega) hxn (by have := HSTl.out; omega) (nd_below h49 h) (Nat.le_trans hz9 h.size) (ow_below HO9.out h) (HBO.out _ _ HM9.out)
        have HFI : Hid (∀ (v' : Value) (S' : List SPT) (w' : World), w'.ownsRow 0 40 4 v' (ST ++ S').length (spL (ST ++ S')) → S'.map spP = walkR k QP.data.toList x → (∀ s ∈ S', NdAt w' (fun b => b < B) s.nd s.y s.z) → Moved W9.drew w' (ownS (.slice A6 ST.length cap6)) (ownS v') →
            w'.ownsRow 0 40 4 v' (S ++ (T ++ S')).length (spL (S ++ (T ++ S'))) ∧ Hid ((T ++ S').map spP = wkR k p.data.toList n (j + 1)) ∧ (∀ s ∈ T ++ S', NdAt w' (fun b => b < B) s.nd s.y s.z) ∧ Moved w w' (ownS (.slice A5 S.length cap5)) (ownS v') ∧ Arr w' g8 25 #[.string n.nm, .slice A n.ps.length pc, .slice (some ⟨b, off, none⟩) n.ks.length kc]) := by
          intro v' S' w' q1 q2 q3 q4
          have q5 : Moved W9 w' (ownS (.slice A6 ST.length cap6)) (ownS v') := (Moved.of_below ((Below.refl _ _).drew) _).trans q4
          refine ⟨by rw [← List.append_assoc, ← HST.out]; exact q1, ?_, ?_, HM9.out.trans q5, q5.arr HA89.out (fun h => ow_arr HA89.out HO9.out (by decide) h.symm)⟩
          · unfold Hid
            rw [List.map_append, HT.out, q2, HWJ.out]
          · intro s hs
            rcases List.mem_append.1 hs with hs | hs
            · exact (HTN9.out s hs).kept q5 (fun q hq hf => by have := HBO.out _ _ HM9.out q hf; omega)
            · exact q3 s hs
        have HK1 : Hid (∀ w', Below W9.heap.size W9 w' → w'.cell? ⟨g9, 0, none⟩ = some (.string x.nm) ∧ w'.cell? ⟨g9, 1, none⟩ = some (.slice ya x.ps.length yc) ∧ w'.cell? ⟨g9, 2, none⟩ = some (.slice za x.ks.length zc)) := fun w' h =>
          arr_nd (HA9.out.below h HA9.out.lt)
        have HK2 : Hid (∀ w' o, Moved W9.drew w' (ownS (.slice A6 ST.length cap6)) o → w'.cell? ⟨g9, 0, none⟩ = some (.string x.nm) ∧ w'.cell? ⟨g9, 1, none⟩ = some (.slice ya x.ps.length yc) ∧ w'.cell? ⟨g9, 2, none⟩ = some (.slice za x.ks.length zc)) := fun w' o hm =>
          arr_nd (hm.arr (HA9.out.below ((Below.refl _ _).drew) HA9.out.lt) (fun h => ow_arr HA9.out HO9.out (by decide) h.symm))
        have hbd : Below W9.heap.size W9 W9.drew := (Below.refl _ _).drew
        have hbr : Below W9.heap.size W9 W9 := Below.refl _ _
        clear HST HSTl hwl hws hwn hwc hTl h49 HX hxm hx100 hxn hQs hQP hU hUs hU1 HTN9 HM9 HA89 HT HWJ h1 h2 h3 HKN HBO HIH HWS HWL HWN HWC HNK
        go_region_held3 (fun w' => w'.cell? ⟨g9, 0, none⟩ = some (.string x.nm) ∧ w'.cell? ⟨g9, 1, none⟩ = some (.slice ya x.ps.length yc) ∧ w'.cell? ⟨g9, 2, none⟩ = some (.slice za x.ks.length zc)) (first | (exact HK1.out _ (by assumption)) | (exact HK2.out _ _ (by assumption)))
          (first | (go_at_call 39; with_reducible refine (HBL.out _).mono ?_; rintro e w3 ⟨rfl, rfl⟩) | (go_at_call 33; with_reducible refine (HC.out _ hbd).mono ?_; rintro e w3 ⟨v3, S3, rfl, q1, q2, q3, q4⟩))
        all_goals (
          obtain ⟨r1, r2, r3, r4, r5⟩ := HFI.out v3 S3 _ q1 q2 q3 q4
          have R1 := Lib.hid r1
          have R3 := Lib.hid r3
          have R4 := Lib.hid r4
          have R5 := Lib.hid r5
          clear r1 r3 r4 r5 q1 q2 q3 q4 HFI HC HK1 HK2
          go_wp2
          go_roundw
          case rel => exact ⟨j + 1, T ++ S3, by omega, by go_num, R1.out, r2, R3.out, R4.out, R5.out⟩
          case measure => simp [intOf]; omega)
      · obtain rfl : j = n.ks.length := by omega
        rw [← HWA.out] at HT
        clear hown hm hA8 hTN
        go_wp2
        go_ret
        exact ⟨_, T, rfl, HOWN.out, HT.out, HTN.out, HM.out⟩

set_option maxHeartbeats 800000 in
set_option maxRecDepth 100000 in
theorem tWalk_any (G : Nat → Prop) (n : ND) (v2 v3 : Value) (w : World) (hnm : nmR 8 n = true) (hcn : (countR 8 n).a ≤ 549755813888) (hN : NdAt w G n v2 v3) :
    Calls Try.prog 18 #[.agg #[.string n.nm, v2, v3]] w fun e w' => ∃ A cap L, e = .returned (.slice A L.length cap) ∧ RdSpt w' A L ∧ L.map spP = walkR 8 [47] n ∧ (∀ s ∈ L, NdAt w' (fun k => k < w'.heap.size) s.nd s.y s.z) ∧ Below w.heap.size w w' := by
  obtain ⟨W1, hW1⟩ : ∃ W1, W1 = w.alloc (.cells #[.string n.nm, v2, v3] 25) := ⟨_, rfl⟩
  obtain ⟨g8, hg8⟩ : ∃ g8, g8 = w.heap.size := ⟨_, rfl⟩
  have hB1 : Below w.heap.size w W1 := by rw [hW1]; exact (Below.refl _ _).alloc (Nat.le_refl _) _
  have hA8 : Arr W1 g8 25 #[.string n.nm, v2, v3] := by rw [hW1, hg8]; exact Arr.new w _ _
  have HB1 := Lib.hid hB1
  have hz1 := hB1.size
  have k0 : W1.cell? ⟨g8, 0, none⟩ = some (.string n.nm) := hA8.cell 0
  have k1 : W1.cell? ⟨g8, 1, none⟩ = some v2 := hA8.cell 1
  have k2 : W1.cell? ⟨g8, 2, none⟩ = some v3 := hA8.cell 2
  have HC : Hid (Calls Try.prog 33 #[.slice none 0 0, .agg #[.string n.nm, v2, v3], .string ⟨#[47]⟩, .int .i64 1] W1 fun e w' => ∃ (v' : Value) (S' : List SPT), e = .returned v' ∧ w'.ownsRow 0 40 4 v' S'.length (spL S') ∧ S'.map spP = walkR 8 [47] n ∧ (∀ s ∈ S', NdAt w' (fun b => b < W1.heap.size) s.nd s.y s.z) ∧ Moved W1 w' (ownS (.slice none 0 0)) (ownS v')) :=
    tspots_any W1.heap.size 8 1 n v2 v3 (.slice none 0 0) [] ⟨#[47]⟩ W1 rfl (by decide) (by decide) hnm (by show 0 + _ ≤ _; omega) (nd_lt (nd_below hN hB1)) (Nat.le_refl _) (World.ownsRow_nil _ _ _ _) (fun q hq => by cases hq)
  generalize walkR 8 [47] n = T at *
  clear hN hB1 hA8 hnm hcn
  go_enter Try.func18, Try.ntmps18
  go_upto_region 1 with fail
  rw [← hW1, ← hg8]
  clear hW1 hg8
  go_wp2_with fail
  refine HC.out.mono ?_
  rintro e w3 ⟨v, L, rfl, ho, hmp, hn, hm3⟩
  have HB3 := Lib.hid (HB1.out.trans (hm3.below (fun q hq => by cases hq) hz1))
  have HNN := Lib.hid (fun s hs => nd_lt (hn s hs))
  have HM := Lib.hid hmp
  obtain ⟨A, cap, rfl, _, _, hrow⟩ := row_form ho
  have HR : Hid (RdSpt w3 A L) := by
    rcases hrow with h | ⟨b, rfl, _, hc⟩
    · exact .inl (List.length_eq_zero_iff.1 h)
    · refine .inr ⟨b, 0, rfl, fun k hk j hj => ?_⟩
      rw [Nat.zero_add, hc _ (by omega)]
      exact flat_at (f := spl) (fun _ => rfl) _ L hk hj
  clear hm3 ho hn hmp hrow HC
  go_wp2
  go_ret
  exact ⟨A, cap, L, rfl, HR.out, HM.out, HNN.out, HB3.out⟩
end Go.Proofs.Ytjddclkfakphlaa
