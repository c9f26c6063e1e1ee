/- The document's Find, Text and Number of layer 16. Conditions: a path of at most 2^30 bytes; a tree that is read. -/
import Derived.Test.YtmgfnghegcfhnaaMg37
import Derived.Test.YtmgfnghegcfhnaaMg27
namespace Go.Proofs.Ytmgfnghegcfhnaa
open Go.RowKit

theorem follow_step (x : ND) (L : List ByteArray) {i : Nat} (hi : i < L.length) : followR x (L.drop i) = match kidR x (L.getD i ByteArray.empty) with
    | none => none
    | some k => followR k (L.drop (i + 1)) := by
  rw [List.drop_eq_getElem_cons hi]
  have e : L.getD i ByteArray.empty = L[i] := by rw [List.getD_eq_getElem?_getD, List.getElem?_eq_getElem hi]; rfl
  rw [e]; rfl
theorem RdT.kept {w w' : World} {A : Option Addr} {l : List ByteArray} {B : Nat} {F F' : Nat → Prop} (h : RdT w A l) (hf : TxFar B A l) (hm : Moved w w' F F') (hF : ∀ k, F k → k < B) : RdT w' A l := by
  rcases h with h | ⟨b, off, rfl, hc⟩
  · exact .inl h
  · rcases hf with h | ⟨b', off', e, hb⟩
    · exact .inl h
    · injection e with e
      injection e with e1 e2
      subst e1
      exact .inr ⟨b, off, rfl, fun k hk => cell_kept hm (fun hf => by have := hF b hf; omega) (hc k hk)⟩

set_option maxHeartbeats 3200000 in
set_option maxRecDepth 100000 in
theorem rfind_any (G : Nat → Prop) (n : ND) (v2 v3 : Value) (p : ByteArray) (w : World) (hp : p.size ≤ 1073741824) (hN : NdAt w G n v2 v3) :
    Calls Try.prog 18 #[.agg #[.string n.nm, v2, v3], .string p] w fun e w' => ∃ u2 u3, e = .returned (.tuple #[.agg #[.string (orN (findR n p.data.toList)).nm, u2, u3], .bool (findR n p.data.toList).isSome]) ∧ NdAt w' G (orN (findR n p.data.toList)) u2 u3 ∧ Below w.heap.size w w' := by
  obtain ⟨A, K, pc, kc, rfl, rfl, hpc, hpm, hkc, hkm⟩ := nd_shape hN
  have HFI : Hid (findR n p.data.toList = if (partsR p.data.toList).2 = true then followR n (baL (partsR p.data.toList).1) else none) := rfl
  have hfew := parts_few p.data.toList
  rw [← baL_len] at hfew
  generalize findR n p.data.toList = R at *
  obtain ⟨W1, hW1⟩ : ∃ W1, W1 = (w.alloc (.cells #[.string n.nm, .slice A n.ps.length pc, .slice K n.ks.length kc] 29)).alloc (.cells #[.string ⟨#[]⟩, .slice none 0 0, .slice none 0 0] 29) := ⟨_, rfl⟩
  obtain ⟨g2, hg2⟩ : ∃ g2, g2 = w.heap.size := ⟨_, rfl⟩
  obtain ⟨g4, hg4⟩ : ∃ g4, g4 = w.heap.size + 1 := ⟨_, rfl⟩
  have hB1 : Below w.heap.size w W1 := by rw [hW1]; exact ((Below.refl _ _).alloc (Nat.le_refl _) _).alloc (by rw [sz_alloc]; omega) _
  have hA2 : Arr W1 g2 29 #[.string n.nm, .slice A n.ps.length pc, .slice K n.ks.length kc] := by rw [hW1, hg2]; exact (Arr.new w _ _).alloc _
  have hA4 : Arr W1 g4 29 #[.string ⟨#[]⟩, .slice none 0 0, .slice none 0 0] := by rw [hW1, hg4]; exact Arr.new1 w _ _ _
  have HN := Lib.hid (nd_below (nd_and hN) hB1)
  have HA2 := Lib.hid hA2
  have HA4 := Lib.hid hA4
  have HB := Lib.hid hB1
  have HG4 : Hid (w.heap.size ≤ g4) := by unfold Hid; omega
  have HG2 : Hid (w.heap.size ≤ g2) := by unfold Hid; omega
  have HG2L : Hid (g2 < W1.heap.size) := hA2.lt
  have hg24 : g4 ≠ g2 := by omega
  have HPT := Lib.hid (rparts_any p W1 hp)
  have HONE : Hid (∀ (a : ByteArray) P pn pc Q qn qc, (#[.string a, .slice P pn pc, .slice Q qn qc] : Array Value).all (·.oneCell') = true) := fun a P pn pc Q qn qc => by
    rw [Array.all_eq_true_iff_forall_mem]
    intro v hv
    simp at hv
    rcases hv with rfl | rfl | rfl <;> rfl
  clear hN hB1 hA2 hA4 hpc hpm hkc hkm
  go_enter Try.func18, Try.ntmps18
  go_upto_region 1 with fail
  change Code.wp _ _ _ _ ((w.alloc (.cells #[.string n.nm, .slice A n.ps.length pc, .slice K n.ks.length kc] 29)).alloc (.cells #[.string ⟨#[]⟩, .slice none 0 0, .slice none 0 0] 29))
  rw [← hW1, ← hg4, ← hg2]
  clear hW1 hg4 hg2
  go_wp2_with fail
  refine HPT.out.mono ?_
  rintro e w2 ⟨A5, cap5, rfl, hrt, hfar, hb, -⟩
  have HRT := Lib.hid hrt
  have HFAR := Lib.hid hfar
  have HN := Lib.hid (nd_below HN.out hb)
  have HA2 := Lib.hid (HA2.out.below hb HA2.out.lt)
  have HA4 := Lib.hid (HA4.out.below hb HA4.out.lt)
  have HB := Lib.hid (HB.out.trans (hb.mono HB.out.size))
  clear hrt hfar hb HPT
  generalize baL (partsR p.data.toList).1 = L at *
  cases hok : (partsR p.data.toList).2 with
  | false =>
    have HE : Hid (R = none) := by unfold Hid; rw [HFI.out, hok, if_neg (by decide)]
    clear hok HFI
    go_wp2_with (refine wpList_store_row rfl 29 (.tmp 4) (.tmp 18) rfl g4 #[.string ⟨#[]⟩, .slice none 0 0, .slice none 0 0] rfl rfl _ _ HA4.out (infoNd _ _ _) rfl zl_one ?_)
    exact bodyPost_ret (results_rowN rfl _ _ g4 _ #[.string ⟨#[]⟩, .slice none 0 0, .slice none 0 0] _ _ rfl (HA4.out.row _) Try.underlying29 rfl (infoNd _ _ _)) rfl ⟨_, _, by rw [HE.out]; rfl, by rw [HE.out]; exact nd0_at _ _, below_setRow HB.out HG4.out _⟩
  | true =>
    have HFO : Hid (R = followR n L) := by unfold Hid; rw [HFI.out, hok, if_pos rfl]
    clear hok HFI
    go_wp2
    go_loopw [8] (fun iv wr => ∃ (i : Nat) (x : ND) (P Q : Option Addr) (pm qm : Nat), i ≤ L.length ∧ iv = .int .i64 i ∧ Arr wr g2 29 #[.string x.nm, .slice P x.ps.length pm, .slice Q x.ks.length qm] ∧ NdAt wr (fun k => G k ∧ k < w.heap.size) x (.slice P x.ps.length pm) (.slice Q x.ks.length qm) ∧ Hid (R = followR x (L.drop i)) ∧ Arr wr g4 29 #[.string ⟨#[]⟩, .slice none 0 0, .slice none 0 0] ∧ Moved w2 wr (fun k => k = g2) (fun k => k = g2)) (fun iv _ => L.length - (intOf iv).toNat)
    case atStart => exact ⟨0, n, _, _, _, _, Nat.zero_le _, rfl, HA2.out, HN.out, HFO.out, HA4.out, Moved.refl _ _⟩
    case round =>
      clear HFO HA2 HN HA4
      obtain ⟨i, x, P, Q, pm, qm, hi, rfl, hA2, hN, HF, hA4, hM⟩ := hrel
      have HA2 := Lib.hid hA2
      have HA4 := Lib.hid hA4
      have HM := Lib.hid hM
      have HBW : Hid (Below w.heap.size w wr) := HB.out.trans (hM.below (fun k hk => by rw [hk]; exact HG2.out) HB.out.size)
      by_cases hlt : i < L.length
      · have hii : (i : Int) < L.length := by omega
        have hRT := HRT.out.kept HFAR.out hM (fun k hk => by rw [hk]; exact HG2L.out)
        obtain ⟨b, off, s, rfl, h1, HX⟩ := hRT.at_ hlt
        have hst := follow_step x L hlt
        rw [HX.out] at hst
        obtain ⟨c0, c1, c2⟩ : wr.cell? ⟨g2, 0, none⟩ = some (.string x.nm) ∧ wr.cell? ⟨g2, 1, none⟩ = some (.slice P x.ps.length pm) ∧ wr.cell? ⟨g2, 2, none⟩ = some (.slice Q x.ks.length qm) := ⟨hA2.cell 0, hA2.cell 1, hA2.cell 2⟩
        obtain ⟨o, ho⟩ : ∃ o, o = kidR x s := ⟨_, rfl⟩
        obtain ⟨y, hy⟩ : ∃ y, y = orN o := ⟨_, rfl⟩
        obtain ⟨bo, hbo⟩ : ∃ bo, bo = o.isSome := ⟨_, rfl⟩
        have HY := Lib.hid hy
        have HBO := Lib.hid hbo
        have HKD : Hid (∀ W', Below wr.heap.size wr W' → Calls Try.prog 35 #[.agg #[.string x.nm, .slice P x.ps.length pm, .slice Q x.ks.length qm], .string s] W' fun e w' => ∃ u2 u3, e = .returned (.tuple #[.agg #[.string y.nm, u2, u3], .bool bo]) ∧ NdAt w' (fun k => G k ∧ k < w.heap.size) y u2 u3 ∧ Below W'.heap.size W' w') := fun W' h => by
          rw [hbo, hy, ho]
          exact rkid_any (fun k => G k ∧ k < w.heap.size) x _ _ s W' (nd_below hN h)
        rw [← ho] at hst
        clear hy hbo ho
        have HKP : Hid (∀ W', Below wr.heap.size wr W' → (W'.cell? ⟨g2, 0, none⟩ = some (.string x.nm) ∧ W'.cell? ⟨g2, 1, none⟩ = some (.slice P x.ps.length pm) ∧ W'.cell? ⟨g2, 2, none⟩ = some (.slice Q x.ks.length qm) ∧ W'.cell? ⟨b, off + i, none⟩ = some (.string s))) := fun W' h =>
          have M := Moved.of_below h (fun _ => False)
          ⟨cell_kept M id c0, cell_kept M id c1, cell_kept M id c2, cell_kept M id h1⟩
        have hbd : Below wr.heap.size wr wr.drew := (Below.refl _ _).drew
        have HST := Lib.hid hst
        clear hA2 hN hA4 hM hRT HX hst
        -- FIND
        have hbe : Below wr.heap.size wr (wr.alloc (.cells #[.string ⟨#[]⟩, .slice none 0 0, .slice none 0 0] 29)).drew := ((Below.refl _ _).alloc (Nat.le_refl _) _).drew
        have HCE : Hid (Arr (wr.alloc (.cells #[.string ⟨#[]⟩, .slice none 0 0, .slice none 0 0] 29)).drew wr.heap.size 29 #[.string ⟨#[]⟩, .slice none 0 0, .slice none 0 0]) := Arr.new wr _ _
        have HAQ : Hid (∀ (w7 : World) (ua : Option Addr) (uc : Nat) (ub : Option Addr) (ud : Nat), NdAt w7 (fun k => G k ∧ k < w.heap.size) y (.slice ua y.ps.length uc) (.slice ub y.ks.length ud) → Below wr.drew.heap.size wr.drew w7 → Below wr.heap.size wr w7 ∧ Below wr.heap.size wr (w7.alloc (.cells #[.string ⟨#[]⟩, .slice none 0 0, .slice none 0 0] 29)) ∧ Below wr.heap.size wr (w7.alloc (.cells #[.string y.nm, .slice ua y.ps.length uc, .slice ub y.ks.length ud] 29)) ∧
            Arr (w7.alloc (.cells #[.string y.nm, .slice ua y.ps.length uc, .slice ub y.ks.length ud] 29)) w7.heap.size 29 #[.string y.nm, .slice ua y.ps.length uc, .slice ub y.ks.length ud] ∧ NdAt (w7.alloc (.cells #[.string y.nm, .slice ua y.ps.length uc, .slice ub y.ks.length ud] 29)) (fun k => G k ∧ k < w.heap.size) y (.slice ua y.ps.length uc) (.slice ub y.ks.length ud) ∧ Below wr.heap.size wr (w7.alloc (.cells #[.string y.nm, .slice ua y.ps.length uc, .slice ub y.ks.length ud] 29))) := fun w7 ua uc ub ud hk hb => by
          have h0 : Below wr.heap.size wr w7 := hbd.trans hb
          have h2 : Below w7.heap.size w7 (w7.alloc (.cells #[.string y.nm, .slice ua y.ps.length uc, .slice ub y.ks.length ud] 29)) := (Below.refl _ _).alloc (Nat.le_refl _) _
          have h3 : Below wr.heap.size wr (w7.alloc (.cells #[.string y.nm, .slice ua y.ps.length uc, .slice ub y.ks.length ud] 29)) := h0.trans (h2.mono h0.size)
          exact ⟨h0, h0.alloc h0.size _, h3, Arr.new w7 _ _, nd_below hk h2, h3⟩
        have HBQ : Hid (∀ (w7 : World) (ua : Option Addr) (uc : Nat) (ub : Option Addr) (ud : Nat), NdAt w7 (fun k => G k ∧ k < w.heap.size) y (.slice ua y.ps.length uc) (.slice ub y.ks.length ud) → Below ((wr.alloc (.cells #[.string ⟨#[]⟩, .slice none 0 0, .slice none 0 0] 29)).drew).heap.size (wr.alloc (.cells #[.string ⟨#[]⟩, .slice none 0 0, .slice none 0 0] 29)).drew w7 → Below wr.heap.size wr w7 ∧
            w7.cell? ⟨wr.heap.size, 0, none⟩ = some (.string ⟨#[]⟩) ∧ w7.cell? ⟨wr.heap.size, 1, none⟩ = some (.slice none 0 0) ∧ w7.cell? ⟨wr.heap.size, 2, none⟩ = some (.slice none 0 0) ∧ w7.frozen? ⟨wr.heap.size, 0, none⟩ = false ∧ w7.frozen? ⟨wr.heap.size, 1, none⟩ = false ∧ w7.frozen? ⟨wr.heap.size, 2, none⟩ = false ∧ Below wr.heap.size wr ((((w7).setCell ⟨wr.heap.size, 0, none⟩ (.string y.nm)).setCell ⟨wr.heap.size, 1, none⟩ (.slice ua y.ps.length uc)).setCell ⟨wr.heap.size, 2, none⟩ (.slice ub y.ks.length ud)) ∧
            Arr ((((w7).setCell ⟨wr.heap.size, 0, none⟩ (.string y.nm)).setCell ⟨wr.heap.size, 1, none⟩ (.slice ua y.ps.length uc)).setCell ⟨wr.heap.size, 2, none⟩ (.slice ub y.ks.length ud)) wr.heap.size 29 #[.string y.nm, .slice ua y.ps.length uc, .slice ub y.ks.length ud] ∧ NdAt ((((w7).setCell ⟨wr.heap.size, 0, none⟩ (.string y.nm)).setCell ⟨wr.heap.size, 1, none⟩ (.slice ua y.ps.length uc)).setCell ⟨wr.heap.size, 2, none⟩ (.slice ub y.ks.length ud)) (fun k => G k ∧ k < w.heap.size) y (.slice ua y.ps.length uc) (.slice ub y.ks.length ud) ∧ Below wr.heap.size wr ((((w7).setCell ⟨wr.heap.size, 0, none⟩ (.string y.nm)).setCell ⟨wr.heap.size, 1, none⟩ (.slice ua y.ps.length uc)).setCell ⟨wr.heap.size, 2, none⟩ (.slice ub y.ks.length ud))) := fun w7 ua uc ub ud hk hb => by
          have hA := HCE.out.below hb HCE.out.lt
          have h0 : Below wr.heap.size wr w7 := hbe.trans (hb.mono hbe.size)
          have h3 : Below wr.heap.size wr ((((w7).setCell ⟨wr.heap.size, 0, none⟩ (.string y.nm)).setCell ⟨wr.heap.size, 1, none⟩ (.slice ua y.ps.length uc)).setCell ⟨wr.heap.size, 2, none⟩ (.slice ub y.ks.length ud)) := ((h0.setCell (Nat.le_refl _) _).setCell (Nat.le_refl _) _).setCell (Nat.le_refl _) _
          have M : Moved w7 ((((w7).setCell ⟨wr.heap.size, 0, none⟩ (.string y.nm)).setCell ⟨wr.heap.size, 1, none⟩ (.slice ua y.ps.length uc)).setCell ⟨wr.heap.size, 2, none⟩ (.slice ub y.ks.length ud)) (fun k => k = wr.heap.size) (fun k => k = wr.heap.size) := ((Moved.grown (gr_cell w7 wr.heap.size 0 _) (fun k hk => by injection hk with hk; exact hk.symm) (fun k hk => .inl hk)).trans (Moved.grown (gr_cell _ wr.heap.size 1 _) (fun k hk => by injection hk with hk; exact hk.symm) (fun k hk => .inl hk))).trans (Moved.grown (gr_cell _ wr.heap.size 2 _) (fun k hk => by injection hk with hk; exact hk.symm) (fun k hk => .inl hk))
          have hz := HBW.out.size
          exact ⟨h0, hA.cell 0, hA.cell 1, hA.cell 2, hA.frozen 0, hA.frozen 1, hA.frozen 2, h3, ((hA.put 0 _).put 1 _).put 2 _, hk.kept M (fun k hg e => by have := hg.2; omega), h3⟩
        go_upto_region 7 with fail
        go_cut [9, 10] (fun s9 s10 wx => ∃ (g9 : Nat) (ua : Option Addr) (uc : Nat) (ub : Option Addr) (ud : Nat), s9 = .pointer (some ⟨g9, 0, none⟩) ∧ s10 = .bool bo ∧ Arr wx g9 29 #[.string y.nm, .slice ua y.ps.length uc, .slice ub y.ks.length ud] ∧ NdAt wx (fun k => G k ∧ k < w.heap.size) y (.slice ua y.ps.length uc) (.slice ub y.ks.length ud) ∧ Below wr.heap.size wr wx)
        case first => as_aux_lemma =>
          refine wp_region_held_drew (S := fun (W' : World) => W'.cell? ⟨g2, 0, none⟩ = some (.string x.nm) ∧ W'.cell? ⟨g2, 1, none⟩ = some (.slice P x.ps.length pm) ∧ W'.cell? ⟨g2, 2, none⟩ = some (.slice Q x.ks.length qm) ∧ W'.cell? ⟨b, off + i, none⟩ = some (.string s)) (by kernel_rfl) (by exact HKP.out _ hbd) (fun hHeld => ?_)
          refine takeH 0 26 rfl rfl (v := ?_) (by kernel_rfl) (by kernel_rfl) (by kernel_rfl) (fun _ _ _ h => h) (Or.inl ⟨by rfl, ?_⟩) hHeld ?_
          rotate_left 1
          · (intro w hSw; (try dsimp only at hSw); go_simp; try (with_reducible rfl))
          (try simp only [Act.put]); (try simp only [List.setIfInBounds_toArray]); (try simp only [List.set_cons_succ]); (try simp only [List.set_cons_zero])
          refine takeH 1 27 rfl rfl (v := ?_) (by kernel_rfl) (by kernel_rfl) (by kernel_rfl) (fun _ _ _ h => h) (Or.inl ⟨by rfl, ?_⟩) hHeld ?_
          rotate_left 1
          · (intro w hSw; (try dsimp only at hSw); go_simp; try (with_reducible rfl))
          (try simp only [Act.put]); (try simp only [List.setIfInBounds_toArray]); (try simp only [List.set_cons_succ]); (try simp only [List.set_cons_zero])
          refine takeH 2 28 rfl rfl (v := ?_) (by kernel_rfl) (by kernel_rfl) (by kernel_rfl) (fun _ _ _ h => h) (Or.inl ⟨by rfl, ?_⟩) hHeld ?_
          rotate_left 1
          · (intro w hSw; (try dsimp only at hSw); go_simp; try (with_reducible rfl))
          (try simp only [Act.put]); (try simp only [List.setIfInBounds_toArray]); (try simp only [List.set_cons_succ]); (try simp only [List.set_cons_zero])
          refine takeH 3 29 rfl rfl (v := ?_) (by kernel_rfl) (by kernel_rfl) (by kernel_rfl) (fun _ _ _ h => h) (Or.inl ⟨by rfl, ?_⟩) hHeld ?_
          rotate_left 1
          · (intro w hSw; (try dsimp only at hSw); go_simp; try (with_reducible rfl))
          (try simp only [Act.put]); (try simp only [List.setIfInBounds_toArray]); (try simp only [List.set_cons_succ]); (try simp only [List.set_cons_zero])
          refine takeH 4 30 rfl rfl (v := ?_) (by kernel_rfl) (by kernel_rfl) (by kernel_rfl) (fun _ _ _ h => h) (Or.inl ⟨by rfl, ?_⟩) hHeld ?_
          rotate_left 1
          · (intro w hSw; (try dsimp only at hSw); go_simp; try (with_reducible rfl))
          (try simp only [Act.put]); (try simp only [List.setIfInBounds_toArray]); (try simp only [List.set_cons_succ]); (try simp only [List.set_cons_zero])
          refine wpAnyH_ready (rs := [5, 9]) (by kernel_rfl) (by simp) (AllReadyH.cons rfl (fun K hK => ?_) (AllReadyH.cons rfl (fun K hK => ?_) AllReadyH.nil))
          · go_simp
            refine (HKD.out _ hbd).mono ?_
            rintro e w7 ⟨u2, u3, rfl, hk7, s1⟩
            obtain ⟨ua, ub, uc, ud, rfl, rfl, _⟩ := nd_shape hk7
            obtain ⟨z1, z2, z3, z4⟩ := HAQ.out w7 ua uc ub ud hk7 s1
            (try dsimp only)
            refine hK.out _ _ (by exact HKP.out _ z1) (fun hHeld => ?_)
            clear hK K
            (try simp only [Act.put]); (try simp only [List.setIfInBounds_toArray]); (try simp only [List.set_cons_succ]); (try simp only [List.set_cons_zero])
            refine takeH 6 25 rfl rfl (v := ?_) (by kernel_rfl) (by kernel_rfl) (by kernel_rfl) (fun _ _ _ h => h) (Or.inl ⟨by rfl, ?_⟩) hHeld ?_
            rotate_left 1
            · (intro w hSw; (try dsimp only at hSw); go_simp; try (with_reducible rfl))
            (try simp only [Act.put]); (try simp only [List.setIfInBounds_toArray]); (try simp only [List.set_cons_succ]); (try simp only [List.set_cons_zero])
            refine takeH 7 32 rfl rfl (v := ?_) (by kernel_rfl) (by kernel_rfl) (by kernel_rfl) (fun _ _ _ h => h) (Or.inl ⟨by rfl, ?_⟩) hHeld ?_
            rotate_left 1
            · (intro w hSw; (try dsimp only at hSw); go_simp; try (with_reducible rfl))
            (try simp only [Act.put]); (try simp only [List.setIfInBounds_toArray]); (try simp only [List.set_cons_succ]); (try simp only [List.set_cons_zero])
            refine takeH 8 33 rfl rfl (v := ?_) (by kernel_rfl) (by kernel_rfl) (by kernel_rfl) (fun _ _ _ h => h) (Or.inl ⟨by rfl, ?_⟩) hHeld ?_
            rotate_left 1
            · (intro w hSw; (try dsimp only at hSw); go_simp; try (with_reducible rfl))
            (try simp only [Act.put]); (try simp only [List.setIfInBounds_toArray]); (try simp only [List.set_cons_succ]); (try simp only [List.set_cons_zero])
            refine wpAnyH_ready (rs := [9]) (by kernel_rfl) (by simp) (AllReadyH.cons rfl (fun K hK => ?_) AllReadyH.nil)
            go_simp
            refine hK.out _ _ (by exact HKP.out _ z2) (fun hHeld => ?_)
            clear hK K
            (try simp only [Act.put]); (try simp only [List.setIfInBounds_toArray]); (try simp only [List.set_cons_succ]); (try simp only [List.set_cons_zero])
            refine wpAnyH_ready (rs := [10]) (by kernel_rfl) (by simp) (AllReadyH.cons rfl (fun K hK => ?_) AllReadyH.nil)
            go_simp
            refine hK.out _ _ (by exact HKP.out _ z3) (fun hHeld => ?_)
            clear hK K
            (try simp only [Act.put]); (try simp only [List.setIfInBounds_toArray]); (try simp only [List.set_cons_succ]); (try simp only [List.set_cons_zero])
            refine wpAnyH_ready (rs := [11]) (by kernel_rfl) (by simp) (AllReadyH.cons rfl (fun K hK => ?_) AllReadyH.nil)
            go_simp
            refine hK.out _ _ (by exact HKP.out _ z3) (fun hHeld => ?_)
            clear hK K
            (try simp only [Act.put]); (try simp only [List.setIfInBounds_toArray]); (try simp only [List.set_cons_succ]); (try simp only [List.set_cons_zero])
            refine wpAnyH_done (by kernel_rfl) ?_ _
            have HE := Lib.hid z4
            go_wp2_with fail
            go_meet
            exact ⟨_, _, _, _, _, rfl, rfl, HE.out⟩
          · go_simp
            refine hK.out _ _ (by exact HKP.out _ hbe) (fun hHeld => ?_)
            clear hK K
            (try simp only [Act.put]); (try simp only [List.setIfInBounds_toArray]); (try simp only [List.set_cons_succ]); (try simp only [List.set_cons_zero])
            refine wpAnyH_ready (rs := [5]) (by kernel_rfl) (by simp) (AllReadyH.cons rfl (fun K hK => ?_) AllReadyH.nil)
            go_simp
            refine (HKD.out _ hbe).mono ?_
            rintro e w7 ⟨u2, u3, rfl, hk7, s1⟩
            obtain ⟨ua, ub, uc, ud, rfl, rfl, _⟩ := nd_shape hk7
            obtain ⟨z1, e0, e1, e2, f0, f1, f2, z3, z4⟩ := HBQ.out w7 ua uc ub ud hk7 s1
            (try dsimp only)
            refine hK.out _ _ (by exact HKP.out _ z1) (fun hHeld => ?_)
            clear hK K
            (try simp only [Act.put]); (try simp only [List.setIfInBounds_toArray]); (try simp only [List.set_cons_succ]); (try simp only [List.set_cons_zero])
            refine takeH 6 25 rfl rfl (v := ?_) (by kernel_rfl) (by kernel_rfl) (by kernel_rfl) (fun _ _ _ h => h) (Or.inl ⟨by rfl, ?_⟩) hHeld ?_
            rotate_left 1
            · (intro w hSw; (try dsimp only at hSw); go_simp; try (with_reducible rfl))
            (try simp only [Act.put]); (try simp only [List.setIfInBounds_toArray]); (try simp only [List.set_cons_succ]); (try simp only [List.set_cons_zero])
            refine takeH 7 32 rfl rfl (v := ?_) (by kernel_rfl) (by kernel_rfl) (by kernel_rfl) (fun _ _ _ h => h) (Or.inl ⟨by rfl, ?_⟩) hHeld ?_
            rotate_left 1
            · (intro w hSw; (try dsimp only at hSw); go_simp; try (with_reducible rfl))
            (try simp only [Act.put]); (try simp only [List.setIfInBounds_toArray]); (try simp only [List.set_cons_succ]); (try simp only [List.set_cons_zero])
            refine takeH 8 33 rfl rfl (v := ?_) (by kernel_rfl) (by kernel_rfl) (by kernel_rfl) (fun _ _ _ h => h) (Or.inl ⟨by rfl, ?_⟩) hHeld ?_
            rotate_left 1
            · (intro w hSw; (try dsimp only at hSw); go_simp; try (with_reducible rfl))
            (try simp only [Act.put]); (try simp only [List.setIfInBounds_toArray]); (try simp only [List.set_cons_succ]); (try simp only [List.set_cons_zero])
            refine wpAnyH_ready (rs := [10]) (by kernel_rfl) (by simp) (AllReadyH.cons rfl (fun K hK => ?_) AllReadyH.nil)
            go_simp
            refine hK.out _ _ (by exact HKP.out _ z3) (fun hHeld => ?_)
            clear hK K
            (try simp only [Act.put]); (try simp only [List.setIfInBounds_toArray]); (try simp only [List.set_cons_succ]); (try simp only [List.set_cons_zero])
            refine wpAnyH_ready (rs := [11]) (by kernel_rfl) (by simp) (AllReadyH.cons rfl (fun K hK => ?_) AllReadyH.nil)
            go_simp
            refine hK.out _ _ (by exact HKP.out _ z3) (fun hHeld => ?_)
            clear hK K
            (try simp only [Act.put]); (try simp only [List.setIfInBounds_toArray]); (try simp only [List.set_cons_succ]); (try simp only [List.set_cons_zero])
            refine wpAnyH_done (by kernel_rfl) ?_ _
            have HE := Lib.hid z4
            go_wp2_with fail
            go_meet
            exact ⟨_, _, _, _, _, rfl, rfl, HE.out⟩
        case rest => as_aux_lemma =>
          obtain ⟨g9, ua, uc, ub, ud, rfl, rfl, R1, R2, R3⟩ := hcut
          have R1 := Lib.hid R1
          have R2 := Lib.hid R2
          have R3 := Lib.hid R3
          have hM2 := HM.out.trans (Moved.of_below R3.out (fun k => k = g2))
          have hA22 := HA2.out.below R3.out HA2.out.lt
          have hA42 := HA4.out.below R3.out HA4.out.lt
          have hBX := HBW.out.trans (R3.out.mono HBW.out.size)
          have HM2 := Lib.hid hM2
          have HA22 := Lib.hid hA22
          have HA42 := Lib.hid hA42
          have HBX := Lib.hid hBX
          clear HKD HKP HAQ HBQ HCE hbd hbe c0 c1 c2 h1 hM2 hA22 hA42 hBX HA2 HA4 HM
          cases o with
          | none =>
            have HE : Hid (R = none) := by unfold Hid; rw [HF.out, HST.out]
            obtain rfl : bo = false := HBO.out
            clear HST HY HBO HF
            go_wp2_with (refine wpList_store_row rfl 29 (.tmp 4) (.tmp 36) rfl g4 #[.string ⟨#[]⟩, .slice none 0 0, .slice none 0 0] rfl rfl _ _ HA42.out (infoNd _ _ _) rfl zl_one ?_)
            exact bodyPost_ret (results_rowN rfl _ _ g4 _ #[.string ⟨#[]⟩, .slice none 0 0, .slice none 0 0] _ _ rfl (HA42.out.row _) Try.underlying29 rfl (infoNd _ _ _)) rfl ⟨_, _, by rw [HE.out]; rfl, by rw [HE.out]; exact nd0_at _ _, below_setRow HBX.out HG4.out _⟩
          | some k =>
            have HE : Hid (R = followR k (L.drop (i + 1))) := by unfold Hid; rw [HF.out, HST.out]
            obtain rfl : bo = true := HBO.out
            obtain rfl : y = k := HY.out
            clear HST HY HBO HF
            go_wp2_with (first | (refine wpList_load_row rfl 29 (.tmp 9) rfl g9 rfl _ _ _ _ R1.out Try.underlying29 rfl (infoNd _ _ _) ?_) | (refine wpList_store_row rfl 29 (.tmp 2) (.tmp 37) rfl g2 #[.string y.nm, .slice ua y.ps.length uc, .slice ub y.ks.length ud] rfl rfl _ _ HA22.out (infoNd _ _ _) rfl (HONE.out _ _ _ _ _ _ _) ?_))
            go_roundw
            case rel => exact ⟨i + 1, y, ua, ub, uc, ud, by omega, by go_num, HA22.out.row _, R2.out.kept (moved_setRow _ g2 _) (fun k hk e => by have := hk.2; have := HG2.out; omega), HE.out, (moved_setRow _ g2 _).arr HA42.out hg24, HM2.out.trans (moved_setRow _ g2 _)⟩
            case measure => simp [intOf]; omega
      · obtain rfl : i = L.length := by omega
        have HE : Hid (R = some x) := by
          unfold Hid
          rw [HF.out, List.drop_length]
          rfl
        have HN := Lib.hid hN
        clear hN hA2 hA4 hM HF
        go_wp2_with (first | (refine wpList_load_row rfl 29 (.tmp 2) rfl g2 rfl _ _ _ _ HA2.out Try.underlying29 rfl (infoNd _ _ _) ?_) | (refine wpList_store_row rfl 29 (.tmp 4) (.tmp 38) rfl g4 #[.string x.nm, .slice P x.ps.length pm, .slice Q x.ks.length qm] rfl rfl _ _ HA4.out (infoNd _ _ _) rfl (HONE.out _ _ _ _ _ _ _) ?_))
        exact bodyPost_ret (results_rowN rfl _ _ g4 _ #[.string x.nm, .slice P x.ps.length pm, .slice Q x.ks.length qm] _ _ rfl (HA4.out.row _) Try.underlying29 rfl (infoNd _ _ _)) rfl ⟨_, _, by rw [HE.out]; rfl, by rw [HE.out]; exact (HN.out.kept (moved_setRow _ g4 _) (fun k hk e => by have := hk.2; have := HG4.out; omega)).mono (fun k hk => hk.1), below_setRow HBW.out HG4.out _⟩
-- END FIND
end Go.Proofs.Ytmgfnghegcfhnaa
