/- The document's Drop of layer 17. Conditions: a tree of few parts that is read; paths of at most 10^6 bytes. -/
import Derived.Test.YtfcclppgjfkfoaaDoorMg25
namespace Go.Proofs.YtfcclppgjfkfoaaDoor
open Go.RowKit

theorem flat_mem {l : List (List UInt8)} {x : List UInt8} (h : x ∈ l) : x.length ≤ (l.flatMap (47 :: ·)).length := by
  induction l with
  | nil => cases h
  | cons y l ih =>
    rw [List.flatMap_cons, List.length_append, List.length_cons]
    rcases List.mem_cons.1 h with h | h
    · subst h; omega
    · have := ih h; omega
/-- A path's names, and what its first names are joined to, are not longer than it. -/
theorem path_names {p : List UInt8} (h : (partsR p).2 = true) (k : Nat) : ((baL (partsR p).1).getD k ByteArray.empty).size ≤ p.length := by
  have hj := join_parts (p := p) (l := (partsR p).1) (Prod.ext rfl h)
  by_cases hk : k < (baL (partsR p).1).length
  · have hk' : k < (partsR p).1.length := by rwa [baL_len] at hk
    have e : (baL (partsR p).1).getD k ByteArray.empty = ⟨((partsR p).1[k]).toArray⟩ := by
      unfold baL
      rw [List.getD_eq_getElem?_getD, List.getElem?_map, List.getElem?_eq_getElem hk']
      rfl
    rw [e]
    show ((partsR p).1[k]).toArray.size ≤ _
    rw [List.size_toArray]
    have hm : (partsR p).1[k] ∈ (partsR p).1 := List.getElem_mem _
    have hne : (partsR p).1 ≠ [] := fun e => by rw [e] at hk'; cases hk'
    have h2 := flat_mem hm
    rw [← path_ne hne, hj] at h2
    exact h2
  · rw [List.getD_eq_getElem?_getD, List.getElem?_eq_none (by omega)]
    exact Nat.zero_le _
theorem path_join {p : List UInt8} (h : (partsR p).2 = true) (k : Nat) : (joinB ((baL (partsR p).1).take k)).length ≤ p.length + 1 := by
  have hj := join_parts (p := p) (l := (partsR p).1) (Prod.ext rfl h)
  rw [baL_take, joinB_ba]
  by_cases e : (partsR p).1.take k = []
  · rw [e]; show 1 ≤ _; omega
  · have e2 : (partsR p).1 ≠ [] := fun h => e (by rw [h, List.take_nil])
    have h3 : ((partsR p).1.flatMap (47 :: ·)).length = (((partsR p).1.take k).flatMap (47 :: ·)).length + (((partsR p).1.drop k).flatMap (47 :: ·)).length := by
      rw [← List.length_append, ← List.flatMap_append, List.take_append_drop]
    rw [path_ne e]
    rw [path_ne e2] at hj
    have h4 := congrArg List.length hj
    omega
theorem RdT.take {w : World} {A : Option Addr} {l : List ByteArray} (h : RdT w A l) (k : Nat) : RdT w A (l.take k) := by
  rcases h with h | ⟨b, off, rfl, hc⟩
  · exact .inl (by rw [h, List.take_nil])
  · refine .inr ⟨b, off, rfl, fun j hj => ?_⟩
    rw [List.length_take] at hj
    rw [hc j (by omega), List.getD_eq_getElem?_getD, List.getD_eq_getElem?_getD, List.getElem?_take_of_lt (by omega)]

set_option maxHeartbeats 3200000 in
set_option maxRecDepth 100000 in
theorem rDrop_any (G : Nat → Prop) (n : ND) (y z : Value) (p : ByteArray) (w : World) (hs : SzT n) (hp : p.size ≤ 1000000) (hN : NdAt w G n y z) :
    Calls Tryd.prog 24 #[.agg #[.string n.nm, y, z], .string p] w fun e w' => ∃ u2 u3, e = .returned (.tuple #[.agg #[.string (dropR17 n p.data.toList).1.nm, u2, u3], .int .i64 ((dropR17 n p.data.toList).2 : Nat)]) ∧ NdAt w' (OrNew G w.heap.size) (dropR17 n p.data.toList).1 u2 u3 ∧ Below w.heap.size w w' := by
  obtain ⟨A2, K, pc, kc, rfl, rfl, hpc, hpm, hkc, hkm⟩ := nd_shape hN
  obtain ⟨W1, hW1⟩ : ∃ W1, W1 = (w.alloc (.cells #[.string n.nm, .slice A2 n.ps.length pc, .slice K n.ks.length kc] 25)).alloc (.cells #[.string ⟨#[]⟩, .slice none 0 0, .slice none 0 0] 25) := ⟨_, rfl⟩
  obtain ⟨g2, hg2⟩ : ∃ g2, g2 = w.heap.size := ⟨_, rfl⟩
  obtain ⟨g4, hg4⟩ : ∃ g4, g4 = w.heap.size + 1 := ⟨_, rfl⟩
  have hB1 : Below w.heap.size w W1 := by rw [hW1]; exact ((Below.refl _ _).alloc (Nat.le_refl _) _).alloc (by rw [sz_alloc]; omega) _
  have hA2 : Arr W1 g2 25 #[.string n.nm, .slice A2 n.ps.length pc, .slice K n.ks.length kc] := by rw [hW1, hg2]; exact (Arr.new w _ _).alloc _
  have hA4 : Arr W1 g4 25 #[.string ⟨#[]⟩, .slice none 0 0, .slice none 0 0] := by rw [hW1, hg4]; exact Arr.new1 w _ _ _
  have HG4 : Hid (w.heap.size ≤ g4) := by unfold Hid; omega
  have HN24 : Hid (g4 ≠ g2) := by unfold Hid; omega
  have HL41 := Lib.hid hA4.lt
  have HN := Lib.hid (nd_below (nd_and hN) hB1)
  have HB1 := Lib.hid hB1
  have HA2 := Lib.hid hA2
  have HA4 := Lib.hid hA4
  have HPA := Lib.hid (rparts_any p W1 (by omega))
  have hp' : p.data.toList.length ≤ 1000000 := hp
  have hfew := parts_few p.data.toList
  rw [← baL_len] at hfew
  have HNM := Lib.hid (fun (h : (partsR p.data.toList).2 = true) k => path_names h k)
  have HJL := Lib.hid (fun (h : (partsR p.data.toList).2 = true) k => path_join h k)
  have HTK := Lib.hid (fun (c : CH) (h : (partsR p.data.toList).2 = true) k => do_take (n := n) (c := c) h k)
  have HE : Hid (dropR17 n p.data.toList = if (partsR p.data.toList).2 = true then dropN n (baL (partsR p.data.toList).1) else (nd0, 8)) := rfl
  generalize dropR17 n p.data.toList = T at *
  generalize baL (partsR p.data.toList).1 = L at *
  generalize (partsR p.data.toList).2 = ok at *
  generalize hpl : p.data.toList.length = pl at *
  obtain ⟨c20, c21, c22⟩ : W1.cell? ⟨g2, 0, none⟩ = some (.string n.nm) ∧ W1.cell? ⟨g2, 1, none⟩ = some (.slice A2 n.ps.length pc) ∧ W1.cell? ⟨g2, 2, none⟩ = some (.slice K n.ks.length kc) := ⟨hA2.cell 0, hA2.cell 1, hA2.cell 2⟩
  clear hN hA2 hA4 hB1 hpc hkc hp hpl
  go_enter Tryd.func24, Tryd.ntmps24
  go_upto_region 1 with fail
  change Code.wp _ _ _ _ ((w.alloc (.cells #[.string n.nm, .slice A2 n.ps.length pc, .slice K n.ks.length kc] 25)).alloc (.cells #[.string ⟨#[]⟩, .slice none 0 0, .slice none 0 0] 25))
  rw [← hW1, ← hg4, ← hg2]
  clear hW1 hg4 hg2 c20 c21 c22
  go_wp2_with fail
  refine HPA.out.mono ?_
  rintro e w2 ⟨A, cap, rfl, hrt, hfar, hb, hcap⟩
  have HRT := Lib.hid hrt
  have HFAR := Lib.hid hfar
  have HA2 := Lib.hid (HA2.out.below hb HA2.out.lt)
  have HA4 := Lib.hid (HA4.out.below hb HA4.out.lt)
  have HN := Lib.hid (nd_below HN.out hb)
  have HB1 := Lib.hid (HB1.out.trans (hb.mono HB1.out.size))
  clear hrt hfar hb HPA
  cases ok with
  | false =>
    replace HE : Hid (T = (nd0, 8)) := HE.out
    clear HN HA2 HRT HFAR hcap HNM HJL HTK
    go_wp2_with (refine wpList_store_row rfl 25 (.tmp 4) (.tmp 16) rfl g4 #[.string ⟨#[]⟩, .slice none 0 0, .slice none 0 0] rfl rfl _ _ HA4.out (infoNd _ _ _) rfl zl_one ?_)
    exact bodyPost_ret (results_rowN rfl _ _ g4 _ #[.string ⟨#[]⟩, .slice none 0 0, .slice none 0 0] _ _ rfl (HA4.out.row _) Tryd.underlying25 rfl (infoNd _ _ _)) rfl ⟨_, _, by rw [HE.out]; rfl, by rw [HE.out]; exact nd0_at _ _, below_setRow HB1.out HG4.out _⟩
  | true =>
    replace HE : Hid (T = dropN n L) := HE.out
    by_cases h0 : L = []
    · replace HE : Hid (T = (nd0, 1)) := HE.out.trans (if_pos h0)
      have d0 : ((L.length : Int) == 0) = true := by rw [h0]; rfl
      clear h0 HN HA2 HRT HFAR hcap HNM HJL HTK hfew
      go_wp2_with (refine wpList_store_row rfl 25 (.tmp 4) (.tmp 20) rfl g4 #[.string ⟨#[]⟩, .slice none 0 0, .slice none 0 0] rfl rfl _ _ HA4.out (infoNd _ _ _) rfl zl_one ?_)
      exact bodyPost_ret (results_rowN rfl _ _ g4 _ #[.string ⟨#[]⟩, .slice none 0 0, .slice none 0 0] _ _ rfl (HA4.out.row _) Tryd.underlying25 rfl (infoNd _ _ _)) rfl ⟨_, _, by rw [HE.out]; rfl, by rw [HE.out]; exact nd0_at _ _, below_setRow HB1.out HG4.out _⟩
    · obtain ⟨k, hk⟩ : ∃ k, L.length = k + 1 := ⟨L.length - 1, by
        have : L.length ≠ 0 := fun e => h0 (List.length_eq_zero_iff.1 e)
        omega⟩
      have hkl : k < L.length := by omega
      obtain ⟨tb, tof, s, rfl, t0, HX⟩ := HRT.out.at_ hkl
      have HNT : Hid (g4 ≠ tb) := by
        have h1 := HL41.out
        rcases HFAR.out with h | ⟨b, o, e, hB⟩
        · exact absurd h h0
        · injection e with e
          injection e with e
          unfold Hid; omega
      have d0 : ((L.length : Int) == 0) = false := by simp; omega
      have HK1 : Hid ((L.length : Int) - 1 = (k : Int)) := by unfold Hid; omega
      have hk0 : (0 : Int) ≤ (k : Int) := by omega
      have hki : (k : Int) < (L.length : Int) := by omega
      have hkc : (k : Int) ≤ (cap : Int) := by omega
      obtain ⟨PJ, hPJ⟩ : ∃ PJ : ByteArray, PJ = ⟨(joinB (L.take k)).toArray⟩ := ⟨_, rfl⟩
      have hPJl : PJ.data.toList = joinB (L.take k) := by rw [hPJ]
      have hPJz : PJ.size ≤ 1000001 := by
        have := HJL.out rfl k
        show PJ.data.toList.length ≤ _
        rw [hPJl]; omega
      have hdo : doR17 n PJ.data.toList ⟨4, s, ⟨#[]⟩⟩ = T := by
        rw [hPJl, HTK.out _ rfl k, HE.out]
        unfold dropN
        rw [if_neg h0, hk, Nat.add_sub_cancel, HX.out]
        rfl
      have hsz : s.size ≤ 1000000 := by
        have := HNM.out rfl k
        rw [HX.out] at this; omega
      have HJN : Hid (∀ W', Below w2.heap.size w2 W' → Calls Tryd.prog 48 #[.slice (some ⟨tb, tof, none⟩) k cap] W' fun e w' => e = .returned (.string PJ) ∧ w' = W') := fun W' h => by
        have := rjoin_any (some ⟨tb, tof, none⟩) cap (L.take k) W' ((HRT.out.take k).below h) (by rw [List.length_take]; omega) (fun j hj => by
          rw [List.length_take] at hj
          have := HNM.out rfl j
          rw [List.getD_eq_getElem?_getD, List.getElem?_take_of_lt (by omega), ← List.getD_eq_getElem?_getD]
          omega)
        rw [← hPJ, List.length_take, Nat.min_eq_left (by omega)] at this
        exact this
      have HDO : Hid (∀ W', Below w2.heap.size w2 W' → Calls Tryd.prog 23 #[.agg #[.string n.nm, .slice A2 n.ps.length pc, .slice K n.ks.length kc], .string PJ, .agg #[.int .i64 4, .string s, .string ⟨#[]⟩]] W' fun e w' => ∃ u2 u3, e = .returned (.tuple #[.agg #[.string T.1.nm, u2, u3], .int .i64 (T.2 : Nat)]) ∧ NdAt w' (OrNew (fun k => G k ∧ k < w.heap.size) W'.heap.size) T.1 u2 u3 ∧ Below W'.heap.size W' w') := fun W' h => by
        have := rDo_any _ n _ _ PJ ⟨4, s, ⟨#[]⟩⟩ W' hs (by omega) (by show s.size ≤ _; omega) (nd_below HN.out h)
        rw [hdo] at this
        exact this
      obtain ⟨c20, c21, c22⟩ : w2.cell? ⟨g2, 0, none⟩ = some (.string n.nm) ∧ w2.cell? ⟨g2, 1, none⟩ = some (.slice A2 n.ps.length pc) ∧ w2.cell? ⟨g2, 2, none⟩ = some (.slice K n.ks.length kc) := ⟨HA2.out.cell 0, HA2.out.cell 1, HA2.out.cell 2⟩
      have HKP : Hid (∀ W', Below w2.heap.size w2 W' → (W'.cell? ⟨g2, 0, none⟩ = some (.string n.nm) ∧ W'.cell? ⟨g2, 1, none⟩ = some (.slice A2 n.ps.length pc) ∧ W'.cell? ⟨g2, 2, none⟩ = some (.slice K n.ks.length kc) ∧ W'.cell? ⟨tb, tof + k, none⟩ = some (.string s))) := fun W' h =>
        have M := Moved.of_below h (fun _ => False)
        ⟨cell_kept M id c20, cell_kept M id c21, cell_kept M id c22, cell_kept M id t0⟩
      have HL4 := Lib.hid HA4.out.lt
      have HS2 := Lib.hid HB1.out.size
      have hbd : Below w2.heap.size w2 w2.drew := (Below.refl _ _).drew
      have HFIN : Hid (∀ (w7 : World) (ua : Option Addr) (uc : Nat) (ub : Option Addr) (ud : Nat), NdAt w7 (OrNew (fun k => G k ∧ k < w.heap.size) w2.drew.heap.size) T.1 (.slice ua T.1.ps.length uc) (.slice ub T.1.ks.length ud) → Below w2.drew.heap.size w2.drew w7 → Below w2.heap.size w2 w7 ∧
          w7.cell? ⟨g4, 0, none⟩ = some (.string ⟨#[]⟩) ∧ w7.cell? ⟨g4, 1, none⟩ = some (.slice none 0 0) ∧ w7.cell? ⟨g4, 2, none⟩ = some (.slice none 0 0) ∧ w7.frozen? ⟨g4, 0, none⟩ = false ∧ w7.frozen? ⟨g4, 1, none⟩ = false ∧ w7.frozen? ⟨g4, 2, none⟩ = false ∧
          Arr (((w7.setCell ⟨g4, 0, none⟩ (.string T.1.nm)).setCell ⟨g4, 1, none⟩ (.slice ua T.1.ps.length uc)).setCell ⟨g4, 2, none⟩ (.slice ub T.1.ks.length ud)) g4 25 #[.string T.1.nm, .slice ua T.1.ps.length uc, .slice ub T.1.ks.length ud] ∧ NdAt (((w7.setCell ⟨g4, 0, none⟩ (.string T.1.nm)).setCell ⟨g4, 1, none⟩ (.slice ua T.1.ps.length uc)).setCell ⟨g4, 2, none⟩ (.slice ub T.1.ks.length ud)) (OrNew G w.heap.size) T.1 (.slice ua T.1.ps.length uc) (.slice ub T.1.ks.length ud) ∧ Below w.heap.size w (((w7.setCell ⟨g4, 0, none⟩ (.string T.1.nm)).setCell ⟨g4, 1, none⟩ (.slice ua T.1.ps.length uc)).setCell ⟨g4, 2, none⟩ (.slice ub T.1.ks.length ud)) ∧ ((((w7.setCell ⟨g4, 0, none⟩ (.string T.1.nm)).setCell ⟨g4, 1, none⟩ (.slice ua T.1.ps.length uc)).setCell ⟨g4, 2, none⟩ (.slice ub T.1.ks.length ud)).cell? ⟨g2, 0, none⟩ = some (.string n.nm) ∧ (((w7.setCell ⟨g4, 0, none⟩ (.string T.1.nm)).setCell ⟨g4, 1, none⟩ (.slice ua T.1.ps.length uc)).setCell ⟨g4, 2, none⟩ (.slice ub T.1.ks.length ud)).cell? ⟨g2, 1, none⟩ = some (.slice A2 n.ps.length pc) ∧ (((w7.setCell ⟨g4, 0, none⟩ (.string T.1.nm)).setCell ⟨g4, 1, none⟩ (.slice ua T.1.ps.length uc)).setCell ⟨g4, 2, none⟩ (.slice ub T.1.ks.length ud)).cell? ⟨g2, 2, none⟩ = some (.slice K n.ks.length kc) ∧ (((w7.setCell ⟨g4, 0, none⟩ (.string T.1.nm)).setCell ⟨g4, 1, none⟩ (.slice ua T.1.ps.length uc)).setCell ⟨g4, 2, none⟩ (.slice ub T.1.ks.length ud)).cell? ⟨tb, tof + k, none⟩ = some (.string s))) := fun w7 ua uc ub ud hk7 hb => by
        have hb0 : Below w2.heap.size w2 w7 := hbd.trans hb
        have hA := HA4.out.below hb0 HA4.out.lt
        have h6 := HG4.out
        have h7 := HL4.out
        have h8 := HS2.out
        have M : Moved w7 (((w7.setCell ⟨g4, 0, none⟩ (.string T.1.nm)).setCell ⟨g4, 1, none⟩ (.slice ua T.1.ps.length uc)).setCell ⟨g4, 2, none⟩ (.slice ub T.1.ks.length ud)) (fun k => k = g4) (fun k => k = g4) := ((Moved.grown (gr_cell w7 g4 0 _) (fun k hk => by injection hk with hk; exact hk.symm) (fun k hk => .inl hk)).trans (Moved.grown (gr_cell _ g4 1 _) (fun k hk => by injection hk with hk; exact hk.symm) (fun k hk => .inl hk))).trans (Moved.grown (gr_cell _ g4 2 _) (fun k hk => by injection hk with hk; exact hk.symm) (fun k hk => .inl hk))
        have hz : w2.drew.heap.size = w2.heap.size := rfl
        refine ⟨hb0, hA.cell 0, hA.cell 1, hA.cell 2, hA.frozen 0, hA.frozen 1, hA.frozen 2, ((hA.put 0 _).put 1 _).put 2 _, (hk7.kept M (fun k hk e => by rcases hk with hk | hk <;> omega)).mono fun k hk => hk.imp (fun h => h.1) (fun h => by omega), ?_⟩
        obtain ⟨s1, s2, s3, s4⟩ := HKP.out w7 hb0
        have n1 := HN24.out
        have n2 := HNT.out
        exact ⟨(((HB1.out.trans (hb0.mono HB1.out.size)).setCell (p := ⟨g4, 0, none⟩) h6 _).setCell (p := ⟨g4, 1, none⟩) h6 _).setCell (p := ⟨g4, 2, none⟩) h6 _, cell_kept M (fun e => n1 e.symm) s1, cell_kept M (fun e => n1 e.symm) s2, cell_kept M (fun e => n1 e.symm) s3, cell_kept M (fun e => n2 e.symm) s4⟩
      have HAZ := Lib.hid HA4.out
      have hk7 : (k : Int) ≤ 7 := by omega
      have hk7n : k ≤ 7 := by omega
      clear h0 hk hkl HRT HX hPJ hPJl hPJz hdo hsz HN HNM HJL HTK HA2 HA4 HS2 HL4 hs HFAR HL41 HN24
      go_upto_region 7 with fail
      rw [HK1.out]
      refine wp_region_held_drew (S := fun (W' : World) => (W'.cell? ⟨g2, 0, none⟩ = some (.string n.nm) ∧ W'.cell? ⟨g2, 1, none⟩ = some (.slice A2 n.ps.length pc) ∧ W'.cell? ⟨g2, 2, none⟩ = some (.slice K n.ks.length kc) ∧ W'.cell? ⟨tb, tof + k, none⟩ = some (.string s))) (by kernel_rfl) (by exact HKP.out _ hbd) (fun hHeld => ?_)
      refine takeH 0 24 rfl rfl (v := ?_) (by kernel_rfl) (by kernel_rfl) (by kernel_rfl) (fun _ _ _ h => h) (Or.inl ⟨by rfl, ?_⟩) hHeld ?_
      rotate_left 1
      · (intro w hSw; (try dsimp only at hSw); go_simp; try (with_reducible rfl))
      (try simp only [Act.put]); (try simp only [List.setIfInBounds_toArray]); (try simp only [List.set_cons_succ]); (try simp only [List.set_cons_zero])
      refine takeH 1 25 rfl rfl (v := ?_) (by kernel_rfl) (by kernel_rfl) (by kernel_rfl) (fun _ _ _ h => h) (Or.inl ⟨by rfl, ?_⟩) hHeld ?_
      rotate_left 1
      · (intro w hSw; (try dsimp only at hSw); go_simp; try (with_reducible rfl))
      (try simp only [Act.put]); (try simp only [List.setIfInBounds_toArray]); (try simp only [List.set_cons_succ]); (try simp only [List.set_cons_zero])
      refine takeH 2 26 rfl rfl (v := ?_) (by kernel_rfl) (by kernel_rfl) (by kernel_rfl) (fun _ _ _ h => h) (Or.inl ⟨by rfl, ?_⟩) hHeld ?_
      rotate_left 1
      · (intro w hSw; (try dsimp only at hSw); go_simp; try (with_reducible rfl))
      (try simp only [Act.put]); (try simp only [List.setIfInBounds_toArray]); (try simp only [List.set_cons_succ]); (try simp only [List.set_cons_zero])
      refine takeH 3 27 rfl rfl (v := ?_) (by kernel_rfl) (by kernel_rfl) (by kernel_rfl) (fun _ _ _ h => h) (Or.inl ⟨by rfl, ?_⟩) hHeld ?_
      rotate_left 1
      · (intro w hSw; (try dsimp only at hSw); go_simp; try (with_reducible rfl))
      (try simp only [Act.put]); (try simp only [List.setIfInBounds_toArray]); (try simp only [List.set_cons_succ]); (try simp only [List.set_cons_zero])
      refine takeH 5 29 rfl rfl (v := ?_) (by kernel_rfl) (by kernel_rfl) (by kernel_rfl) (fun _ _ _ h => h) (Or.inl ⟨by rfl, ?_⟩) hHeld ?_
      rotate_left 1
      · (intro w hSw; (try dsimp only at hSw); go_simp; try (with_reducible rfl))
      (try simp only [Act.put]); (try simp only [List.setIfInBounds_toArray]); (try simp only [List.set_cons_succ]); (try simp only [List.set_cons_zero])
      refine takeH 6 30 rfl rfl (v := ?_) (by kernel_rfl) (by kernel_rfl) (by kernel_rfl) (fun _ _ _ h => h) (Or.inl ⟨by rfl, ?_⟩) hHeld ?_
      rotate_left 1
      · (intro w hSw; (try dsimp only at hSw); go_simp; try (with_reducible rfl))
      (try simp only [Act.put]); (try simp only [List.setIfInBounds_toArray]); (try simp only [List.set_cons_succ]); (try simp only [List.set_cons_zero])
      refine takeH 7 31 rfl rfl (v := ?_) (by kernel_rfl) (by kernel_rfl) (by kernel_rfl) (fun _ _ _ h => h) (Or.inl ⟨by rfl, ?_⟩) hHeld ?_
      rotate_left 1
      · (intro w hSw; (try dsimp only at hSw); go_simp; try (with_reducible rfl))
      (try simp only [Act.put]); (try simp only [List.setIfInBounds_toArray]); (try simp only [List.set_cons_succ]); (try simp only [List.set_cons_zero])
      refine takeH 8 32 rfl rfl (v := ?_) (by kernel_rfl) (by kernel_rfl) (by kernel_rfl) (fun _ _ _ h => h) (Or.inl ⟨by rfl, ?_⟩) hHeld ?_
      rotate_left 1
      · (intro w hSw; (try dsimp only at hSw); go_simp; try (with_reducible rfl))
      (try simp only [Act.put]); (try simp only [List.setIfInBounds_toArray]); (try simp only [List.set_cons_succ]); (try simp only [List.set_cons_zero])
      refine takeH 9 33 rfl rfl (v := ?_) (by kernel_rfl) (by kernel_rfl) (by kernel_rfl) (fun _ _ _ h => h) (Or.inl ⟨by rfl, ?_⟩) hHeld ?_
      rotate_left 1
      · (intro w hSw; (try dsimp only at hSw); go_simp; try (with_reducible rfl))
      (try simp only [Act.put]); (try simp only [List.setIfInBounds_toArray]); (try simp only [List.set_cons_succ]); (try simp only [List.set_cons_zero])
      refine wpAnyH_ready (rs := [4]) (by kernel_rfl) (by simp) (AllReadyH.cons rfl (fun K hK => ?_) AllReadyH.nil)
      go_simp
      refine (HJN.out _ hbd).mono ?_
      rintro e w6 ⟨rfl, rfl⟩
      (try dsimp only)
      refine hK.out _ _ (by exact HKP.out _ hbd) (fun hHeld => ?_)
      clear hK K
      (try simp only [Act.put]); (try simp only [List.setIfInBounds_toArray]); (try simp only [List.set_cons_succ]); (try simp only [List.set_cons_zero])
      refine wpAnyH_ready (rs := [10]) (by kernel_rfl) (by simp) (AllReadyH.cons rfl (fun K hK => ?_) AllReadyH.nil)
      go_simp
      refine (HDO.out _ hbd).mono ?_
      rintro e w7 ⟨u2, u3, rfl, hk7, s1⟩
      obtain ⟨ua, ub, uc, ud, rfl, rfl, _⟩ := nd_shape hk7
      obtain ⟨z1, e0, e1, e2, f0, f1, f2, z3, z4, z5, z6⟩ := HFIN.out w7 ua uc ub ud hk7 s1
      (try dsimp only)
      refine hK.out _ _ (by exact HKP.out _ z1) (fun hHeld => ?_)
      clear hK K
      (try simp only [Act.put]); (try simp only [List.setIfInBounds_toArray]); (try simp only [List.set_cons_succ]); (try simp only [List.set_cons_zero])
      refine takeH 11 35 rfl rfl (v := ?_) (by kernel_rfl) (by kernel_rfl) (by kernel_rfl) (fun _ _ _ h => h) (Or.inl ⟨by rfl, ?_⟩) hHeld ?_
      rotate_left 1
      · (intro w hSw; (try dsimp only at hSw); go_simp; try (with_reducible rfl))
      (try simp only [Act.put]); (try simp only [List.setIfInBounds_toArray]); (try simp only [List.set_cons_succ]); (try simp only [List.set_cons_zero])
      refine takeH 12 36 rfl rfl (v := ?_) (by kernel_rfl) (by kernel_rfl) (by kernel_rfl) (fun _ _ _ h => h) (Or.inl ⟨by rfl, ?_⟩) hHeld ?_
      rotate_left 1
      · (intro w hSw; (try dsimp only at hSw); go_simp; try (with_reducible rfl))
      (try simp only [Act.put]); (try simp only [List.setIfInBounds_toArray]); (try simp only [List.set_cons_succ]); (try simp only [List.set_cons_zero])
      refine wpAnyH_ready (rs := [13]) (by kernel_rfl) (by simp) (AllReadyH.cons rfl (fun K hK => ?_) AllReadyH.nil)
      go_simp
      refine hK.out _ _ (by exact z6) (fun hHeld => ?_)
      clear hK K
      (try simp only [Act.put]); (try simp only [List.setIfInBounds_toArray]); (try simp only [List.set_cons_succ]); (try simp only [List.set_cons_zero])
      refine wpAnyH_ready (rs := [14]) (by kernel_rfl) (by simp) (AllReadyH.cons rfl (fun K hK => ?_) AllReadyH.nil)
      go_simp
      refine hK.out _ _ (by exact z6) (fun hHeld => ?_)
      clear hK K
      (try simp only [Act.put]); (try simp only [List.setIfInBounds_toArray]); (try simp only [List.set_cons_succ]); (try simp only [List.set_cons_zero])
      refine wpAnyH_done (by kernel_rfl) ?_ _
      have HAF := Lib.hid z3
      have HNF := Lib.hid z4
      have HBF := Lib.hid z5
      clear e0 e1 e2 f0 f1 f2 z3 z4 z5 hk7 s1 hHeld
      go_wp2_with fail
      exact bodyPost_ret (results_rowN rfl _ _ g4 _ #[.string T.1.nm, .slice ua T.1.ps.length uc, .slice ub T.1.ks.length ud] _ _ rfl HAF.out Tryd.underlying25 rfl (infoNd _ _ _)) rfl ⟨_, _, rfl, HNF.out, HBF.out⟩
end Go.Proofs.YtfcclppgjfkfoaaDoor
