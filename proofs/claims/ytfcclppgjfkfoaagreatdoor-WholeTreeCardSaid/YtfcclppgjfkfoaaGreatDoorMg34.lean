/- edit's Drop. Conditions: a tree of few parts that is read; paths of at most 10^6 bytes. -/
import Derived.Test.YtfcclppgjfkfoaaGreatDoorMg33
import Derived.Test.YtfcclppgjfkfoaaGreatDoorMg15
namespace Go.Proofs.YtfcclppgjfkfoaaGreatDoor
open Go.RowKit

/-- What the first names of a path are joined to is not longer than it. -/
theorem path_join1 {p : List UInt8} (h : (partsR p).2 = true) (k : Nat) : (joinB ((baL (partsR p).1).take k)).length ≤ p.length := by
  have hj := join_parts (p := p) (l := (partsR p).1) (Prod.ext rfl h)
  have hp1 : 1 ≤ p.length := by
    rw [← hj]
    by_cases e : (partsR p).1 = []
    · rw [e]; exact Nat.le_refl 1
    · rw [path_ne e]
      cases hL : (partsR p).1 with
      | nil => exact absurd hL e
      | cons x r => rw [List.flatMap_cons, List.length_append, List.length_cons]; omega
  rw [baL_take, joinB_ba]
  by_cases e : (partsR p).1.take k = []
  · rw [e]; exact hp1
  · have e2 : (partsR p).1 ≠ [] := fun h => e (by rw [h, List.take_nil])
    have h3 : ((partsR p).1.flatMap (47 :: ·)).length = (((partsR p).1.take k).flatMap (47 :: ·)).length + (((partsR p).1.drop k).flatMap (47 :: ·)).length := by
      rw [← List.length_append, ← List.flatMap_append, List.take_append_drop]
    rw [path_ne e]
    rw [path_ne e2] at hj
    have h4 := congrArg List.length hj
    omega

set_option maxHeartbeats 3200000 in
set_option maxRecDepth 100000 in
theorem edrop_any (G : Nat → Prop) (n : ND) (y z : Value) (p : ByteArray) (w : World) (hs : SzT n) (hp : p.size ≤ 1000000) (hN : NdAt w G n y z) :
    Calls Tryz.prog 21 #[.agg #[.string n.nm, y, z], .string p] w (Ed G (dropR17 n p.data.toList) w) := by
  obtain ⟨A2, K, pc, kc, rfl, rfl, hpc, hpm, hkc, hkm⟩ := nd_shape hN
  obtain ⟨W1, hW1⟩ : ∃ W1, W1 = (w.alloc (.cells #[.string n.nm, .slice A2 n.ps.length pc, .slice K n.ks.length kc] 28)).alloc (.cells #[.string ⟨#[]⟩, .slice none 0 0, .slice none 0 0] 28) := ⟨_, rfl⟩
  obtain ⟨g2, hg2⟩ : ∃ g2, g2 = w.heap.size := ⟨_, rfl⟩
  obtain ⟨g4, hg4⟩ : ∃ g4, g4 = w.heap.size + 1 := ⟨_, rfl⟩
  have hB1 : Below w.heap.size w W1 := by rw [hW1]; exact ((Below.refl _ _).alloc (Nat.le_refl _) _).alloc (by rw [sz_alloc]; omega) _
  have hA2 : Arr W1 g2 28 #[.string n.nm, .slice A2 n.ps.length pc, .slice K n.ks.length kc] := by rw [hW1, hg2]; exact (Arr.new w _ _).alloc _
  have hA4 : Arr W1 g4 28 #[.string ⟨#[]⟩, .slice none 0 0, .slice none 0 0] := by rw [hW1, hg4]; exact Arr.new1 w _ _ _
  have HG4 : Hid (w.heap.size ≤ g4) := by unfold Hid; omega
  have HNE24 : Hid (g4 ≠ g2) := by unfold Hid; omega
  have HN := Lib.hid (nd_below (nd_and hN) hB1)
  have HB1 := Lib.hid hB1
  have HA2 := Lib.hid hA2
  have HA4 := Lib.hid hA4
  have HPA := Lib.hid (pparts_any p W1 hp)
  have hp' : p.data.toList.length ≤ 1000000 := hp
  have hfew := parts_few p.data.toList
  rw [← baL_len] at hfew
  have HNM := Lib.hid (fun (h : (partsR p.data.toList).2 = true) k => path_names h k)
  have HJL := Lib.hid (fun (h : (partsR p.data.toList).2 = true) k => path_join1 h k)
  have HTK := Lib.hid (fun (c : CH) (h : (partsR p.data.toList).2 = true) k => do_take (n := n) (c := c) h k)
  have HE : Hid (dropR17 n p.data.toList = if (partsR p.data.toList).2 = true then dropN n (baL (partsR p.data.toList).1) else (nd0, 8)) := rfl
  generalize dropR17 n p.data.toList = T at *
  generalize baL (partsR p.data.toList).1 = L at *
  generalize (partsR p.data.toList).2 = ok at *
  generalize hpl : p.data.toList.length = pl at *
  clear hN hA2 hA4 hB1 hpc hkc hp hpl
  go_enter Tryz.func21, Tryz.ntmps21
  go_upto_region 1 with fail
  change Code.wp _ _ _ _ ((w.alloc (.cells #[.string n.nm, .slice A2 n.ps.length pc, .slice K n.ks.length kc] 28)).alloc (.cells #[.string ⟨#[]⟩, .slice none 0 0, .slice none 0 0] 28))
  rw [← hW1, ← hg4, ← hg2]
  clear hW1 hg4 hg2
  go_wp2_with fail
  refine HPA.out.mono ?_
  rintro e w2 ⟨A, cap, rfl, hrt, _, hb, hcap⟩
  -- the names' variable
  obtain ⟨W2, hW2⟩ : ∃ W2, W2 = w2.alloc (.cells #[.slice A L.length cap] 22) := ⟨_, rfl⟩
  obtain ⟨g6, hg6⟩ : ∃ g6, g6 = w2.heap.size := ⟨_, rfl⟩
  have hb2 : Below w2.heap.size w2 W2 := by rw [hW2]; exact (Below.refl _ _).alloc (Nat.le_refl _) _
  have hb12 := hb.trans (hb2.mono hb.size)
  have hA6 : Arr W2 g6 22 #[.slice A L.length cap] := by rw [hW2, hg6]; exact Arr.new _ _ _
  have HRT := Lib.hid (hrt.below hb2)
  have HA2 := Lib.hid (HA2.out.below hb12 HA2.out.lt)
  have HA4 := Lib.hid (HA4.out.below hb12 HA4.out.lt)
  have HA6 := Lib.hid hA6
  have HN := Lib.hid (nd_below HN.out hb12)
  have HB2 := Lib.hid (HB1.out.trans (hb12.mono HB1.out.size))
  clear hrt hb HPA hb2 hb12 hA6
  go_upto_region 2 with fail
  rw [← hW2, ← hg6]
  clear hW2 hg6
  cases ok with
  | false =>
    replace HE : Hid (T = (nd0, 8)) := HE.out
    clear HN HA2 HRT hcap HNM HJL HTK HA6
    go_wp2_with (refine wpList_store_row rfl 28 (.tmp 4) (.tmp 16) rfl g4 #[.string ⟨#[]⟩, .slice none 0 0, .slice none 0 0] rfl rfl _ _ HA4.out (infoNd _ _ _) rfl zl_one ?_)
    exact bodyPost_ret (results_rowN rfl _ _ g4 _ #[.string ⟨#[]⟩, .slice none 0 0, .slice none 0 0] _ _ rfl (HA4.out.row _) Tryz.underlying28 rfl (infoNd _ _ _)) rfl ⟨_, _, by rw [HE.out]; rfl, by rw [HE.out]; exact nd0_at _ _, below_setRow HB2.out HG4.out _⟩
  | true =>
    replace HE : Hid (T = dropN n L) := HE.out
    have c60 : W2.cell? ⟨g6, 0, none⟩ = some (.slice A L.length cap) := HA6.out.cell 0
    have hlw : IntKind.i64.wrap ((L.length : Int) - 1) = (L.length : Int) - 1 := IntWalk.i64_in _ (by omega)
    obtain ⟨W3, hW3⟩ : ∃ W3, W3 = W2.alloc (.cells #[.int .i64 ((L.length : Int) - 1)] 3) := ⟨_, rfl⟩
    obtain ⟨g8, hg8⟩ : ∃ g8, g8 = W2.heap.size := ⟨_, rfl⟩
    have hb3 : Below W2.heap.size W2 W3 := by rw [hW3]; exact (Below.refl _ _).alloc (Nat.le_refl _) _
    have hA8 : Arr W3 g8 3 #[.int .i64 ((L.length : Int) - 1)] := by rw [hW3, hg8]; exact Arr.new _ _ _
    have c80 : W3.cell? ⟨g8, 0, none⟩ = some (.int .i64 ((L.length : Int) - 1)) := hA8.cell 0
    have HRT := Lib.hid (HRT.out.below hb3)
    have HA2 := Lib.hid (HA2.out.below hb3 HA2.out.lt)
    have HA4 := Lib.hid (HA4.out.below hb3 HA4.out.lt)
    have HA6 := Lib.hid (HA6.out.below hb3 HA6.out.lt)
    have HA8 := Lib.hid hA8
    have HN := Lib.hid (nd_below HN.out hb3)
    have HB3 := Lib.hid (HB2.out.trans (hb3.mono HB2.out.size))
    clear hb3 hA8 HB2 HB1
    go_upto_region 5 with fail
    rw [← hW3, ← hg8]
    clear hW3 hg8 c60
    by_cases h0 : L = []
    · replace HE : Hid (T = (nd0, 1)) := HE.out.trans (if_pos h0)
      have hlz : (L.length : Int) - 1 = -1 := by rw [h0]; rfl
      rw [hlz] at c80
      clear h0 HN HA2 HRT hcap HNM HJL HTK hfew HA6 HA8 hlw
      go_wp2_with (refine wpList_store_row rfl 28 (.tmp 4) (.tmp 22) rfl g4 #[.string ⟨#[]⟩, .slice none 0 0, .slice none 0 0] rfl rfl _ _ HA4.out (infoNd _ _ _) rfl zl_one ?_)
      exact bodyPost_ret (results_rowN rfl _ _ g4 _ #[.string ⟨#[]⟩, .slice none 0 0, .slice none 0 0] _ _ rfl (HA4.out.row _) Tryz.underlying28 rfl (infoNd _ _ _)) rfl ⟨_, _, by rw [HE.out]; rfl, by rw [HE.out]; exact nd0_at _ _, below_setRow HB3.out HG4.out _⟩
    · obtain ⟨k, hk⟩ : ∃ k, L.length = k + 1 := ⟨L.length - 1, by
        have : L.length ≠ 0 := fun e => h0 (List.length_eq_zero_iff.1 e)
        omega⟩
      have hkl : k < L.length := by omega
      have hk1 : (L.length : Int) - 1 = (k : Int) := by omega
      rw [hk1] at c80 HA8
      obtain ⟨tb, tof, s, rfl, t0, HX⟩ := HRT.out.at_ hkl
      have hk0 : (0 : Int) ≤ (k : Int) := by omega
      have d0 : decide ((k : Int) < 0) = false := decide_eq_false (by omega)
      have hki : (k : Int) < (L.length : Int) := by omega
      have hkc : (k : Int) ≤ (cap : Int) := by omega
      have hknc : k ≤ cap := by omega
      obtain ⟨PJ, hPJ⟩ : ∃ PJ : ByteArray, PJ = ⟨(joinB (L.take k)).toArray⟩ := ⟨_, rfl⟩
      have hPJl : PJ.data.toList = joinB (L.take k) := by rw [hPJ]
      have hPJz : PJ.size ≤ 1000000 := by
        have := HJL.out rfl k
        show PJ.data.toList.length ≤ _
        rw [hPJl]; omega
      have hdo : doR17 n PJ.data.toList ⟨4, L.getD k ByteArray.empty, ByteArray.empty⟩ = T := by
        rw [hPJl, HTK.out _ rfl k, HE.out]
        unfold dropN
        rw [if_neg h0, hk, Nat.add_sub_cancel]
      have HJN : Hid (∀ W', Below W3.heap.size W3 W' → Calls Tryz.prog 32 #[.slice (some ⟨tb, tof, none⟩) k cap] W' fun e w' => e = .returned (.string PJ) ∧ Below W'.heap.size W' w') := fun W' h => by
        have := join_any (some ⟨tb, tof, none⟩) cap (L.take k) W' ((HRT.out.take k).below h) (by rw [List.length_take]; omega) (by rw [List.length_take]; omega) (fun j hj => by
          rw [List.length_take] at hj
          have := HNM.out rfl j
          rw [List.getD_eq_getElem?_getD, List.getElem?_take_of_lt (by omega), ← List.getD_eq_getElem?_getD]
          omega)
        rw [← hPJ, List.length_take, Nat.min_eq_left (by omega)] at this
        exact this
      have HDO : Hid (∀ W', Below W3.heap.size W3 W' → Calls Tryz.prog 42 #[.agg #[.string n.nm, .slice A2 n.ps.length pc, .slice K n.ks.length kc], .string PJ, .func (.func 51) #[] #[.pointer (some ⟨g6, 0, none⟩), .pointer (some ⟨g8, 0, none⟩)]] W' (Ed (fun k => G k ∧ k < w.heap.size) T W')) := fun W' h => by
        have := changed_any _ n _ _ (.func (.func 51) #[] #[.pointer (some ⟨g6, 0, none⟩), .pointer (some ⟨g8, 0, none⟩)]) PJ ⟨4, L.getD k ByteArray.empty, ByteArray.empty⟩ W' hs hPJz (drop_ok W' g6 g8 _ cap L k _ hkl ((HA6.out.below h HA6.out.lt).cell 0) ((HA8.out.below h HA8.out.lt).cell 0) (HRT.out.below h)) (nd_below HN.out h)
        rw [hdo] at this
        exact this
      obtain ⟨c20, c21, c22⟩ : W3.cell? ⟨g2, 0, none⟩ = some (.string n.nm) ∧ W3.cell? ⟨g2, 1, none⟩ = some (.slice A2 n.ps.length pc) ∧ W3.cell? ⟨g2, 2, none⟩ = some (.slice K n.ks.length kc) := ⟨HA2.out.cell 0, HA2.out.cell 1, HA2.out.cell 2⟩
      have c60 : W3.cell? ⟨g6, 0, none⟩ = some (.slice (some ⟨tb, tof, none⟩) L.length cap) := HA6.out.cell 0
      have HKP : Hid (∀ W', Below W3.heap.size W3 W' → (W'.cell? ⟨g2, 0, none⟩ = some (.string n.nm) ∧ W'.cell? ⟨g2, 1, none⟩ = some (.slice A2 n.ps.length pc) ∧ W'.cell? ⟨g2, 2, none⟩ = some (.slice K n.ks.length kc) ∧ W'.cell? ⟨g6, 0, none⟩ = some (.slice (some ⟨tb, tof, none⟩) L.length cap) ∧ W'.cell? ⟨g8, 0, none⟩ = some (.int .i64 (k : Int)))) := fun W' h =>
        have M := Moved.of_below h (fun _ => False)
        ⟨cell_kept M id c20, cell_kept M id c21, cell_kept M id c22, cell_kept M id c60, cell_kept M id c80⟩
      have n42 : g4 ≠ g2 := HNE24.out
      have n46 : g4 ≠ g6 := fun e => by
        have h1 := HA4.out
        have h2 := HA6.out
        rw [← e] at h2
        have h3 : (some (Obj.cells #[.string ⟨#[]⟩, .slice none 0 0, .slice none 0 0] 28 (0, 0)) : Option Obj) = some (Obj.cells #[.slice (some ⟨tb, tof, none⟩) L.length cap] 22 (0, 0)) := h1.symm.trans h2
        injection h3 with h3
        injection h3 with _ h3 _
        exact absurd h3 (by decide)
      have n48 : g4 ≠ g8 := fun e => by
        have h1 := HA4.out
        have h2 := HA8.out
        rw [← e] at h2
        have h3 : (some (Obj.cells #[.string ⟨#[]⟩, .slice none 0 0, .slice none 0 0] 28 (0, 0)) : Option Obj) = some (Obj.cells #[.int .i64 (k : Int)] 3 (0, 0)) := h1.symm.trans h2
        injection h3 with h3
        injection h3 with _ h3 _
        exact absurd h3 (by decide)
      have HL4 := Lib.hid HA4.out.lt
      have HS3 := Lib.hid HB3.out.size
      have hbd : Below W3.heap.size W3 W3.drew := (Below.refl _ _).drew
      have HFIN : Hid (∀ (w6 w7 : World) (ua : Option Addr) (uc : Nat) (ub : Option Addr) (ud : Nat), Below W3.heap.size W3 w6 → NdAt w7 (OrNew (fun k => G k ∧ k < w.heap.size) w6.heap.size) T.1 (.slice ua T.1.ps.length uc) (.slice ub T.1.ks.length ud) → Below w6.heap.size w6 w7 → Below W3.heap.size W3 w7 ∧
          w7.cell? ⟨g4, 0, none⟩ = some (.string ⟨#[]⟩) ∧ w7.cell? ⟨g4, 1, none⟩ = some (.slice none 0 0) ∧ w7.cell? ⟨g4, 2, none⟩ = some (.slice none 0 0) ∧ w7.frozen? ⟨g4, 0, none⟩ = false ∧ w7.frozen? ⟨g4, 1, none⟩ = false ∧ w7.frozen? ⟨g4, 2, none⟩ = false ∧
          Arr (((w7.setCell ⟨g4, 0, none⟩ (.string T.1.nm)).setCell ⟨g4, 1, none⟩ (.slice ua T.1.ps.length uc)).setCell ⟨g4, 2, none⟩ (.slice ub T.1.ks.length ud)) g4 28 #[.string T.1.nm, .slice ua T.1.ps.length uc, .slice ub T.1.ks.length ud] ∧ NdAt (((w7.setCell ⟨g4, 0, none⟩ (.string T.1.nm)).setCell ⟨g4, 1, none⟩ (.slice ua T.1.ps.length uc)).setCell ⟨g4, 2, none⟩ (.slice ub T.1.ks.length ud)) (OrNew G w.heap.size) T.1 (.slice ua T.1.ps.length uc) (.slice ub T.1.ks.length ud) ∧ Below w.heap.size w (((w7.setCell ⟨g4, 0, none⟩ (.string T.1.nm)).setCell ⟨g4, 1, none⟩ (.slice ua T.1.ps.length uc)).setCell ⟨g4, 2, none⟩ (.slice ub T.1.ks.length ud)) ∧ ((((w7.setCell ⟨g4, 0, none⟩ (.string T.1.nm)).setCell ⟨g4, 1, none⟩ (.slice ua T.1.ps.length uc)).setCell ⟨g4, 2, none⟩ (.slice ub T.1.ks.length ud)).cell? ⟨g2, 0, none⟩ = some (.string n.nm) ∧ (((w7.setCell ⟨g4, 0, none⟩ (.string T.1.nm)).setCell ⟨g4, 1, none⟩ (.slice ua T.1.ps.length uc)).setCell ⟨g4, 2, none⟩ (.slice ub T.1.ks.length ud)).cell? ⟨g2, 1, none⟩ = some (.slice A2 n.ps.length pc) ∧ (((w7.setCell ⟨g4, 0, none⟩ (.string T.1.nm)).setCell ⟨g4, 1, none⟩ (.slice ua T.1.ps.length uc)).setCell ⟨g4, 2, none⟩ (.slice ub T.1.ks.length ud)).cell? ⟨g2, 2, none⟩ = some (.slice K n.ks.length kc) ∧ (((w7.setCell ⟨g4, 0, none⟩ (.string T.1.nm)).setCell ⟨g4, 1, none⟩ (.slice ua T.1.ps.length uc)).setCell ⟨g4, 2, none⟩ (.slice ub T.1.ks.length ud)).cell? ⟨g6, 0, none⟩ = some (.slice (some ⟨tb, tof, none⟩) L.length cap) ∧ (((w7.setCell ⟨g4, 0, none⟩ (.string T.1.nm)).setCell ⟨g4, 1, none⟩ (.slice ua T.1.ps.length uc)).setCell ⟨g4, 2, none⟩ (.slice ub T.1.ks.length ud)).cell? ⟨g8, 0, none⟩ = some (.int .i64 (k : Int)))) := fun w6 w7 ua uc ub ud h36 hk7 hb => by
        have hb0 : Below W3.heap.size W3 w7 := h36.trans (hb.mono h36.size)
        have hA := HA4.out.below hb0 HA4.out.lt
        have h6 := HG4.out
        have h7 := HL4.out
        have h8 := HS3.out
        have h9 := h36.size
        have M : Moved w7 (((w7.setCell ⟨g4, 0, none⟩ (.string T.1.nm)).setCell ⟨g4, 1, none⟩ (.slice ua T.1.ps.length uc)).setCell ⟨g4, 2, none⟩ (.slice ub T.1.ks.length ud)) (fun k => k = g4) (fun k => k = g4) := ((Moved.grown (gr_cell w7 g4 0 _) (fun k hk => by injection hk with hk; exact hk.symm) (fun k hk => .inl hk)).trans (Moved.grown (gr_cell _ g4 1 _) (fun k hk => by injection hk with hk; exact hk.symm) (fun k hk => .inl hk))).trans (Moved.grown (gr_cell _ g4 2 _) (fun k hk => by injection hk with hk; exact hk.symm) (fun k hk => .inl hk))
        refine ⟨hb0, hA.cell 0, hA.cell 1, hA.cell 2, hA.frozen 0, hA.frozen 1, hA.frozen 2, ((hA.put 0 _).put 1 _).put 2 _, (hk7.kept M (fun k hk e => by rcases hk with hk | hk <;> omega)).mono fun k hk => hk.imp (fun h => h.1) (fun h => by omega), ?_⟩
        obtain ⟨s1, s2, s3, s4, s5⟩ := HKP.out w7 hb0
        exact ⟨(((HB3.out.trans (hb0.mono HB3.out.size)).setCell (p := ⟨g4, 0, none⟩) h6 _).setCell (p := ⟨g4, 1, none⟩) h6 _).setCell (p := ⟨g4, 2, none⟩) h6 _, cell_kept M (fun e => n42 e.symm) s1, cell_kept M (fun e => n42 e.symm) s2, cell_kept M (fun e => n42 e.symm) s3, cell_kept M (fun e => n46 e.symm) s4, cell_kept M (fun e => n48 e.symm) s5⟩
      clear h0 hk hkl HRT HX hPJ hPJl hPJz hdo HN HNM HJL HTK HA2 HA4 HA6 HA8 HS3 HL4 hs n42 n46 n48 HE hk1 hlw hfew
      go_upto_region 7 with fail
      clear c20 c21 c22 c60 c80
      refine wp_region_held_drew (S := fun (W' : World) => (W'.cell? ⟨g2, 0, none⟩ = some (.string n.nm) ∧ W'.cell? ⟨g2, 1, none⟩ = some (.slice A2 n.ps.length pc) ∧ W'.cell? ⟨g2, 2, none⟩ = some (.slice K n.ks.length kc) ∧ W'.cell? ⟨g6, 0, none⟩ = some (.slice (some ⟨tb, tof, none⟩) L.length cap) ∧ W'.cell? ⟨g8, 0, none⟩ = some (.int .i64 (k : Int)))) (by kernel_rfl) (by exact HKP.out _ hbd) (fun hHeld => ?_)
      refine takeH 0 23 rfl rfl (v := ?_) (by kernel_rfl) (by kernel_rfl) (by kernel_rfl) (fun _ _ _ h => h) (Or.inl ⟨by rfl, ?_⟩) hHeld ?_
      rotate_left 1
      · (intro w hSw; (try dsimp only at hSw); go_simp; try (with_reducible rfl))
      (try simp only [Act.put]); (try simp only [List.setIfInBounds_toArray]); (try simp only [List.set_cons_succ]); (try simp only [List.set_cons_zero])
      refine takeH 1 24 rfl rfl (v := ?_) (by kernel_rfl) (by kernel_rfl) (by kernel_rfl) (fun _ _ _ h => h) (Or.inl ⟨by rfl, ?_⟩) hHeld ?_
      rotate_left 1
      · (intro w hSw; (try dsimp only at hSw); go_simp; try (with_reducible rfl))
      (try simp only [Act.put]); (try simp only [List.setIfInBounds_toArray]); (try simp only [List.set_cons_succ]); (try simp only [List.set_cons_zero])
      refine takeH 2 25 rfl rfl (v := ?_) (by kernel_rfl) (by kernel_rfl) (by kernel_rfl) (fun _ _ _ h => h) (Or.inl ⟨by rfl, ?_⟩) hHeld ?_
      rotate_left 1
      · (intro w hSw; (try dsimp only at hSw); go_simp; try (with_reducible rfl))
      (try simp only [Act.put]); (try simp only [List.setIfInBounds_toArray]); (try simp only [List.set_cons_succ]); (try simp only [List.set_cons_zero])
      refine takeH 3 26 rfl rfl (v := ?_) (by kernel_rfl) (by kernel_rfl) (by kernel_rfl) (fun _ _ _ h => h) (Or.inl ⟨by rfl, ?_⟩) hHeld ?_
      rotate_left 1
      · (intro w hSw; (try dsimp only at hSw); go_simp; try (with_reducible rfl))
      (try simp only [Act.put]); (try simp only [List.setIfInBounds_toArray]); (try simp only [List.set_cons_succ]); (try simp only [List.set_cons_zero])
      refine takeH 5 28 rfl rfl (v := ?_) (by kernel_rfl) (by kernel_rfl) (by kernel_rfl) (fun _ _ _ h => h) (Or.inl ⟨by rfl, ?_⟩) hHeld ?_
      rotate_left 1
      · (intro w hSw; (try dsimp only at hSw); go_simp; try (with_reducible rfl))
      (try simp only [Act.put]); (try simp only [List.setIfInBounds_toArray]); (try simp only [List.set_cons_succ]); (try simp only [List.set_cons_zero])
      refine wpAnyH_ready (rs := [4]) (by kernel_rfl) (by simp) (AllReadyH.cons rfl (fun K hK => ?_) AllReadyH.nil)
      go_simp
      refine (HJN.out _ hbd).mono ?_
      rintro e w6 ⟨rfl, hb6⟩
      have hb36 := hbd.trans (hb6.mono hbd.size)
      (try dsimp only)
      refine hK.out _ _ (by exact HKP.out _ hb36) (fun hHeld => ?_)
      clear hK K
      (try simp only [Act.put]); (try simp only [List.setIfInBounds_toArray]); (try simp only [List.set_cons_succ]); (try simp only [List.set_cons_zero])
      refine wpAnyH_ready (rs := [6]) (by kernel_rfl) (by simp) (AllReadyH.cons rfl (fun K hK => ?_) AllReadyH.nil)
      go_simp
      refine (HDO.out _ hb36).mono ?_
      rintro e w7 ⟨u2, u3, rfl, hk7, s1⟩
      obtain ⟨ua, ub, uc, ud, rfl, rfl, _⟩ := nd_shape hk7
      obtain ⟨z1, e0, e1, e2, f0, f1, f2, z3, z4, z5, z6⟩ := HFIN.out w6 w7 ua uc ub ud hb36 hk7 s1
      (try dsimp only)
      refine hK.out _ _ (by exact HKP.out _ z1) (fun hHeld => ?_)
      clear hK K
      (try simp only [Act.put]); (try simp only [List.setIfInBounds_toArray]); (try simp only [List.set_cons_succ]); (try simp only [List.set_cons_zero])
      refine takeH 7 30 rfl rfl (v := ?_) (by kernel_rfl) (by kernel_rfl) (by kernel_rfl) (fun _ _ _ h => h) (Or.inl ⟨by rfl, ?_⟩) hHeld ?_
      rotate_left 1
      · (intro w hSw; (try dsimp only at hSw); go_simp; try (with_reducible rfl))
      (try simp only [Act.put]); (try simp only [List.setIfInBounds_toArray]); (try simp only [List.set_cons_succ]); (try simp only [List.set_cons_zero])
      refine takeH 8 31 rfl rfl (v := ?_) (by kernel_rfl) (by kernel_rfl) (by kernel_rfl) (fun _ _ _ h => h) (Or.inl ⟨by rfl, ?_⟩) hHeld ?_
      rotate_left 1
      · (intro w hSw; (try dsimp only at hSw); go_simp; try (with_reducible rfl))
      (try simp only [Act.put]); (try simp only [List.setIfInBounds_toArray]); (try simp only [List.set_cons_succ]); (try simp only [List.set_cons_zero])
      refine wpAnyH_ready (rs := [9]) (by kernel_rfl) (by simp) (AllReadyH.cons rfl (fun K hK => ?_) AllReadyH.nil)
      go_simp
      refine hK.out _ _ (by exact z6) (fun hHeld => ?_)
      clear hK K
      (try simp only [Act.put]); (try simp only [List.setIfInBounds_toArray]); (try simp only [List.set_cons_succ]); (try simp only [List.set_cons_zero])
      refine wpAnyH_ready (rs := [10]) (by kernel_rfl) (by simp) (AllReadyH.cons rfl (fun K hK => ?_) AllReadyH.nil)
      go_simp
      refine hK.out _ _ (by exact z6) (fun hHeld => ?_)
      clear hK K
      (try simp only [Act.put]); (try simp only [List.setIfInBounds_toArray]); (try simp only [List.set_cons_succ]); (try simp only [List.set_cons_zero])
      refine wpAnyH_done (by kernel_rfl) ?_ _
      have HAF := Lib.hid z3
      have HNF := Lib.hid z4
      have HBF := Lib.hid z5
      clear e0 e1 e2 f0 f1 f2 z3 z4 z5 hk7 s1 hHeld
      go_wp2_with fail
      exact bodyPost_ret (results_rowN rfl _ _ g4 _ #[.string T.1.nm, .slice ua T.1.ps.length uc, .slice ub T.1.ks.length ud] _ _ rfl HAF.out Tryz.underlying28 rfl (infoNd _ _ _)) rfl ⟨_, _, rfl, HNF.out, HBF.out⟩
end Go.Proofs.YtfcclppgjfkfoaaGreatDoor
