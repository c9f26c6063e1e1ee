/- The law GrammarFinds: whatever comes in it returns true. Conditions: the contracts of package grammar; a tree that is read. -/
import Derived.Test.YtmgfnghegcfhnaaMg30
import Derived.Test.YtmgfnghegcfhnaaMg34
import Derived.Test.YtmgfnghegcfhnaaMg38
import Derived.Test.YtmgfnghegcfhnaaMg22
import Derived.Test.YtmgfnghegcfhnaaMg21
import Derived.Test.YtmgfnghegcfhnaaMg23
import Derived.Test.YtmgfnghegcfhnaaMg27
import Derived.Deep.DeepCutAuto
namespace Go.Proofs.Ytmgfnghegcfhnaa
open Go.RowKit

/-- The path of a node that is walked is short. -/
theorem walk_short : ∀ (k : Nat) (p : List UInt8) (n : ND), nmR k n = true → ∀ q m, (q, m) ∈ walkR k p n → q.length ≤ p.length + 101 * k
  | 0, _, _, _, q, m, h => absurd (show (q, m) ∈ ([] : List (List UInt8 × ND)) from h) List.not_mem_nil
  | k + 1, p, n, hn, q, m, h => by
    have e : walkR (k + 1) p n = (p, n) :: n.ks.flatMap fun x => walkR k (under p ++ x.nm.data.toList) x := rfl
    rw [e] at h
    rcases List.mem_cons.1 h with h | h
    · injection h with h1 h2
      rw [h1]; omega
    · obtain ⟨x, hx, h⟩ := List.mem_flatMap.1 h
      obtain ⟨h1, h2⟩ := nm_kids hn x hx
      have h3 := walk_short k _ x h2 q m h
      have hu : (under p).length ≤ p.length + 1 := by
        unfold under
        split
        · omega
        · rw [List.length_append]; exact Nat.le_refl _
      rw [List.length_append] at h3
      have hx : x.nm.data.toList.length = x.nm.size := rfl
      omega
/-- What is walked in a tree that is as it should be. -/
theorem spots19 {n : ND} {L : List SPT} (hn : nmR 8 n = true) (hc : check19 n = 0) (h : L.map spP = walkR 8 [47] n) : ∀ i, i < L.length → (L.getD i spt0).pa.size ≤ 1000 ∧ findR n (L.getD i spt0).pa.data.toList = some (L.getD i spt0).nd ∧ here19 (L.getD i spt0).nd = 0 := fun i hi => by
  have e : L.getD i spt0 = L[i] := by rw [List.getD_eq_getElem?_getD, List.getElem?_eq_getElem hi]; rfl
  have hm : ((L[i]).pa.data.toList, (L[i]).nd) ∈ walkR 8 [47] n := by rw [← h]; exact List.mem_map.2 ⟨L[i], List.getElem_mem hi, rfl⟩
  rw [e]
  have h1 : (L[i]).pa.size ≤ 1 + 101 * 8 := walk_short 8 [47] n hn _ _ hm
  exact ⟨by omega, check_finds hc _ _ hm, (check_ok hc).2 _ _ hm⟩

set_option maxHeartbeats 6400000 in
set_option maxRecDepth 100000 in
theorem grammarFinds_any (M : GrammarMust) (n : ND) (v2 v3 : Value) (w : World) (hN : NdAt w (fun k => k < w.heap.size) n v2 v3) :
    Calls Try.prog 5 #[.agg #[.string n.nm, v2, v3]] w fun e w' => e = .returned (.bool true) ∧ Below w.heap.size w w' := by
  have HAW := Lib.hid (awake19 M)
  obtain ⟨A, K, pc, kc, rfl, rfl, hpc, hpm, hkc, hkm⟩ := nd_shape hN
  obtain ⟨W1, hW1⟩ : ∃ W1, W1 = w.alloc (.cells #[.string n.nm, .slice A n.ps.length pc, .slice K n.ks.length kc] 29) := ⟨_, rfl⟩
  obtain ⟨g1, hg1⟩ : ∃ g1, g1 = w.heap.size := ⟨_, rfl⟩
  have hB1 : Below w.heap.size w W1 := by rw [hW1]; exact (Below.refl _ _).alloc (Nat.le_refl _) _
  have hA1 : Arr W1 g1 29 #[.string n.nm, .slice A n.ps.length pc, .slice K n.ks.length kc] := by rw [hW1, hg1]; exact Arr.new w _ _
  have HA1 := Lib.hid hA1
  have HN1 := Lib.hid (nd_below hN hB1)
  have HB := Lib.hid hB1
  have HLOW := Lib.hid (fun W G h => rLow_any G n (.slice A n.ps.length pc) (.slice K n.ks.length kc) W h)
  obtain ⟨a0, a1, a2⟩ : W1.cell? ⟨g1, 0, none⟩ = some (.string n.nm) ∧ W1.cell? ⟨g1, 1, none⟩ = some (.slice A n.ps.length pc) ∧ W1.cell? ⟨g1, 2, none⟩ = some (.slice K n.ks.length kc) := ⟨hA1.cell 0, hA1.cell 1, hA1.cell 2⟩
  clear hN hB1 hA1 hpc hpm hkc hkm
  cases hl : LowR n with
  | false =>
    rw [hl] at HLOW
    clear M hl
    go_enter Try.func5, Try.ntmps5
    go_upto_region 1 with fail
    change Code.wp _ _ _ _ (w.alloc (.cells #[.string n.nm, .slice A n.ps.length pc, .slice K n.ks.length kc] 29))
    rw [← hW1, ← hg1]
    clear hW1 hg1
    go_wp2_with fail
    refine (HLOW.out _ _ HN1.out).mono ?_
    rintro e w2 ⟨rfl, hb⟩
    have HB := Lib.hid (HB.out.trans (hb.mono HB.out.size))
    clear hb
    go_wp2_with fail
    refine (HAW.out _).mono ?_
    rintro e w9 ⟨rfl, hb⟩
    have HBZ := Lib.hid (HB.out.trans (hb.mono HB.out.size))
    clear hb
    go_wp2
    go_ret
    exact ⟨rfl, HBZ.out⟩
  | true =>
    rw [hl] at HLOW
    have HCK := Lib.hid (fun W h => M.check n (.slice A n.ps.length pc) (.slice K n.ks.length kc) W hl h)
    have hcn := sz_count (sz_of_low hl)
    have HNM := Lib.hid (nm_of_low 8 12 n (low_and hl).1)
    have HFT := Lib.hid (fun W G h => rFits_any G n (.slice A n.ps.length pc) (.slice K n.ks.length kc) W (by omega) (by omega) h)
    have HWK := Lib.hid (fun W h h' => rWalk_any w.heap.size n (.slice A n.ps.length pc) (.slice K n.ks.length kc) W HNM.out (by omega) h h')
    have HFI := Lib.hid (fun W G q h1 h => rfind_any G n (.slice A n.ps.length pc) (.slice K n.ks.length kc) q W h1 h)
    have HS19 := Lib.hid (fun (L : List SPT) hc (h : L.map spP = walkR 8 [47] n) => spots19 HNM.out hc h)
    have HFN : Hid (check19 n = 0 → fitsR n = true) := fun h => (check_ok h).1
    generalize check19 n = cn at *
    clear M hl HNM hcn
    go_enter Try.func5, Try.ntmps5
    go_upto_region 1 with fail
    change Code.wp _ _ _ _ (w.alloc (.cells #[.string n.nm, .slice A n.ps.length pc, .slice K n.ks.length kc] 29))
    rw [← hW1, ← hg1]
    clear hW1 hg1
    go_wp2_with fail
    refine (HLOW.out _ _ HN1.out).mono ?_
    rintro e w2 ⟨rfl, hb⟩
    have HA1 := Lib.hid (HA1.out.below hb HA1.out.lt)
    have HN1 := Lib.hid (nd_below HN1.out hb)
    have HB := Lib.hid (HB.out.trans (hb.mono HB.out.size))
    clear hb a0 a1 a2 HLOW
    obtain ⟨a0, a1, a2⟩ : w2.cell? ⟨g1, 0, none⟩ = some (.string n.nm) ∧ w2.cell? ⟨g1, 1, none⟩ = some (.slice A n.ps.length pc) ∧ w2.cell? ⟨g1, 2, none⟩ = some (.slice K n.ks.length kc) := ⟨HA1.out.cell 0, HA1.out.cell 1, HA1.out.cell 2⟩
    go_wp2_with fail
    refine (HCK.out _ (nd_lt HN1.out)).mono ?_
    rintro e w3 ⟨rfl, hb⟩
    have HA1 := Lib.hid (HA1.out.below hb HA1.out.lt)
    have HN1 := Lib.hid (nd_below HN1.out hb)
    have HB := Lib.hid (HB.out.trans (hb.mono HB.out.size))
    clear hb a0 a1 a2 HCK
    obtain ⟨a0, a1, a2⟩ : w3.cell? ⟨g1, 0, none⟩ = some (.string n.nm) ∧ w3.cell? ⟨g1, 1, none⟩ = some (.slice A n.ps.length pc) ∧ w3.cell? ⟨g1, 2, none⟩ = some (.slice K n.ks.length kc) := ⟨HA1.out.cell 0, HA1.out.cell 1, HA1.out.cell 2⟩
    by_cases hc0 : cn = 0
    · have d0 : (((cn : Nat) : Int) != 0) = false := by rw [hc0]; rfl
      have hft := HFN.out hc0
      rw [hft] at HFT
      replace HS19 := Lib.hid (fun L => HS19.out L hc0)
      clear hc0 HFN hft
      go_wp2_with fail
      refine (HFT.out _ _ HN1.out).mono ?_
      rintro e w4 ⟨rfl, hb⟩
      have HA1 := Lib.hid (HA1.out.below hb HA1.out.lt)
      have HN1 := Lib.hid (nd_below HN1.out hb)
      have HB := Lib.hid (HB.out.trans (hb.mono HB.out.size))
      clear hb a0 a1 a2 HFT
      obtain ⟨a0, a1, a2⟩ : w4.cell? ⟨g1, 0, none⟩ = some (.string n.nm) ∧ w4.cell? ⟨g1, 1, none⟩ = some (.slice A n.ps.length pc) ∧ w4.cell? ⟨g1, 2, none⟩ = some (.slice K n.ks.length kc) := ⟨HA1.out.cell 0, HA1.out.cell 1, HA1.out.cell 2⟩
      go_wp2_with fail
      refine (HWK.out _ HN1.out HB.out.size).mono ?_
      rintro e w5 ⟨v, L, rfl, ho, hmap, hnd, hb⟩
      obtain ⟨_, cx, ex, hle, hcx, _⟩ := row_form ho
      obtain ⟨AL, cl, rfl, hsp⟩ := row_rdSpt ho
      injection ex with e1 _ ex
      subst e1
      unfold maxLen at hcx
      have HLL : Hid (L.length ≤ 9223372036854775807) := by unfold Hid; omega
      have HSP := Lib.hid hsp
      have HND := Lib.hid hnd
      have HSN := Lib.hid (HS19.out L hmap)
      have HA1 := Lib.hid (HA1.out.below hb HA1.out.lt)
      have HN1 := Lib.hid (nd_below HN1.out hb)
      have HB := Lib.hid (HB.out.trans (hb.mono HB.out.size))
      clear hb ho hmap hnd hsp HWK HS19 ex hle hcx a0 a1 a2
      go_wp2
      go_loopw [4] (fun iv wx => ∃ i : Nat, i ≤ L.length ∧ iv = .int .i64 i ∧ Below w5.heap.size w5 wx) (fun iv _ => L.length - (intOf iv).toNat)
      case atStart => exact ⟨0, Nat.zero_le _, rfl, Below.refl _ _⟩
      case round =>
        obtain ⟨i, hi, rfl, hbi⟩ := hrel
        have hll := HLL.out
        by_cases hlt : i < L.length
        · have hii : (i : Int) < L.length := by omega
          obtain ⟨b, off, rfl, q0, q1, q2, q3⟩ := HSP.out.at_ hlt
          obtain ⟨hps, hok, hh⟩ := HSN.out i hlt
          have hnd5 := HND.out _ (getD_mem (d := spt0) hlt)
          obtain ⟨PS, KS, pd, kd, ey, ez, _, hpsm, _, _⟩ := nd_shape hnd5
          rw [ey, ez] at hnd5
          rw [ey] at q2
          rw [ez] at q3
          have a0 : w5.cell? ⟨g1, 0, none⟩ = some (.string n.nm) := HA1.out.cell 0
          have a1 : w5.cell? ⟨g1, 1, none⟩ = some (.slice A n.ps.length pc) := HA1.out.cell 1
          have a2 : w5.cell? ⟨g1, 2, none⟩ = some (.slice K n.ks.length kc) := HA1.out.cell 2
          have HFQ : Hid (∀ W', Below w5.heap.size w5 W' → Calls Try.prog 18 #[.agg #[.string n.nm, .slice A n.ps.length pc, .slice K n.ks.length kc], .string (L.getD i spt0).pa] W' fun e w' => ∃ u2 u3, e = .returned (.tuple #[.agg #[.string (L.getD i spt0).nd.nm, u2, u3], .bool true]) ∧ NdAt w' (fun b => b < w.heap.size) (L.getD i spt0).nd u2 u3 ∧ Below W'.heap.size W' w') := fun W' h => by
            have := HFI.out W' _ (L.getD i spt0).pa (by omega) (nd_below HN1.out h)
            rw [hok] at this
            exact this
          generalize (L.getD i spt0).nd = y at *
          generalize (L.getD i spt0).pa = pa at *
          have HH := Lib.hid hh
          have HKP : Hid (∀ W', Below w5.heap.size w5 W' → W'.cell? ⟨g1, 0, none⟩ = some (.string n.nm) ∧ W'.cell? ⟨g1, 1, none⟩ = some (.slice A n.ps.length pc) ∧ W'.cell? ⟨g1, 2, none⟩ = some (.slice K n.ks.length kc) ∧ W'.cell? ⟨b, off + i * 4, none⟩ = some (.string pa)) := fun W' h =>
            have M := Moved.of_below h (fun _ => False)
            ⟨cell_kept M id a0, cell_kept M id a1, cell_kept M id a2, cell_kept M id q0⟩
          have HKQ : Hid (∀ W', Below w5.heap.size w5 W' → W'.cell? ⟨b, off + i * 4 + 1, none⟩ = some (.string y.nm) ∧ W'.cell? ⟨b, off + i * 4 + 2, none⟩ = some (.slice PS y.ps.length pd) ∧ W'.cell? ⟨b, off + i * 4 + 3, none⟩ = some (.slice KS y.ks.length kd)) := fun W' h =>
            have M := Moved.of_below h (fun _ => False)
            ⟨cell_kept M id q1, cell_kept M id q2, cell_kept M id q3⟩
          have HBI := Lib.hid hbi
          have HMY := Lib.hid hnd5
          have hz : w.heap.size ≤ wr.heap.size := Nat.le_trans HB.out.size hbi.size
          have hbd : Below w5.heap.size w5 wr.drew := hbi.drew
          have hbe : Below w5.heap.size w5 (wr.alloc (.cells #[.string ⟨#[]⟩, .slice none 0 0, .slice none 0 0] 29)).drew := (hbi.alloc hbi.size _).drew
          have HCE : Hid (Arr (wr.alloc (.cells #[.string ⟨#[]⟩, .slice none 0 0, .slice none 0 0] 29)).drew wr.heap.size 29 #[.string ⟨#[]⟩, .slice none 0 0, .slice none 0 0]) := Arr.new wr _ _
          have hsz : ((wr.alloc (.cells #[.string ⟨#[]⟩, .slice none 0 0, .slice none 0 0] 29)).drew).heap.size = wr.heap.size + 1 := sz_alloc _ _
          have HAQ : Hid (∀ (w7 : World) (ua : Option Addr) (uc : Nat) (ub : Option Addr) (ud : Nat), NdAt w7 (fun b => b < w.heap.size) y (.slice ua y.ps.length uc) (.slice ub y.ks.length ud) → Below wr.drew.heap.size wr.drew w7 → Below w5.heap.size w5 w7 ∧ Below w5.heap.size w5 (w7.alloc (.cells #[.string ⟨#[]⟩, .slice none 0 0, .slice none 0 0] 29)) ∧ Below w5.heap.size w5 (w7.alloc (.cells #[.string y.nm, .slice ua y.ps.length uc, .slice ub y.ks.length ud] 29)) ∧
              Arr (w7.alloc (.cells #[.string y.nm, .slice ua y.ps.length uc, .slice ub y.ks.length ud] 29)) w7.heap.size 29 #[.string y.nm, .slice ua y.ps.length uc, .slice ub y.ks.length ud] ∧ NdAt (w7.alloc (.cells #[.string y.nm, .slice ua y.ps.length uc, .slice ub y.ks.length ud] 29)) (fun _ => True) y (.slice ua y.ps.length uc) (.slice ub y.ks.length ud) ∧ Below w5.heap.size w5 (w7.alloc (.cells #[.string y.nm, .slice ua y.ps.length uc, .slice ub y.ks.length ud] 29))) := fun w7 ua uc ub ud hk hb => by
            have h0 : Below w5.heap.size w5 w7 := hbd.trans (hb.mono hbd.size)
            have h2 : Below w7.heap.size w7 (w7.alloc (.cells #[.string y.nm, .slice ua y.ps.length uc, .slice ub y.ks.length ud] 29)) := (Below.refl _ _).alloc (Nat.le_refl _) _
            have h3 : Below w5.heap.size w5 (w7.alloc (.cells #[.string y.nm, .slice ua y.ps.length uc, .slice ub y.ks.length ud] 29)) := h0.trans (h2.mono h0.size)
            exact ⟨h0, h0.alloc h0.size _, h3, Arr.new w7 _ _, (nd_below hk h2).mono (fun _ _ => trivial), h3⟩
          have HBQ : Hid (∀ (w7 : World) (ua : Option Addr) (uc : Nat) (ub : Option Addr) (ud : Nat), NdAt w7 (fun b => b < w.heap.size) y (.slice ua y.ps.length uc) (.slice ub y.ks.length ud) → Below ((wr.alloc (.cells #[.string ⟨#[]⟩, .slice none 0 0, .slice none 0 0] 29)).drew).heap.size (wr.alloc (.cells #[.string ⟨#[]⟩, .slice none 0 0, .slice none 0 0] 29)).drew w7 → Below w5.heap.size w5 w7 ∧
              w7.cell? ⟨wr.heap.size, 0, none⟩ = some (.string ⟨#[]⟩) ∧ w7.cell? ⟨wr.heap.size, 1, none⟩ = some (.slice none 0 0) ∧ w7.cell? ⟨wr.heap.size, 2, none⟩ = some (.slice none 0 0) ∧ w7.frozen? ⟨wr.heap.size, 0, none⟩ = false ∧ w7.frozen? ⟨wr.heap.size, 1, none⟩ = false ∧ w7.frozen? ⟨wr.heap.size, 2, none⟩ = false ∧ Below w5.heap.size w5 ((((w7).setCell ⟨wr.heap.size, 0, none⟩ (.string y.nm)).setCell ⟨wr.heap.size, 1, none⟩ (.slice ua y.ps.length uc)).setCell ⟨wr.heap.size, 2, none⟩ (.slice ub y.ks.length ud)) ∧
              Arr ((((w7).setCell ⟨wr.heap.size, 0, none⟩ (.string y.nm)).setCell ⟨wr.heap.size, 1, none⟩ (.slice ua y.ps.length uc)).setCell ⟨wr.heap.size, 2, none⟩ (.slice ub y.ks.length ud)) wr.heap.size 29 #[.string y.nm, .slice ua y.ps.length uc, .slice ub y.ks.length ud] ∧ NdAt ((((w7).setCell ⟨wr.heap.size, 0, none⟩ (.string y.nm)).setCell ⟨wr.heap.size, 1, none⟩ (.slice ua y.ps.length uc)).setCell ⟨wr.heap.size, 2, none⟩ (.slice ub y.ks.length ud)) (fun _ => True) y (.slice ua y.ps.length uc) (.slice ub y.ks.length ud) ∧ Below w5.heap.size w5 ((((w7).setCell ⟨wr.heap.size, 0, none⟩ (.string y.nm)).setCell ⟨wr.heap.size, 1, none⟩ (.slice ua y.ps.length uc)).setCell ⟨wr.heap.size, 2, none⟩ (.slice ub y.ks.length ud))) := fun w7 ua uc ub ud hk hb => by
            have hA := HCE.out.below hb HCE.out.lt
            have h0 : Below w5.heap.size w5 w7 := hbe.trans (hb.mono hbe.size)
            have h3 : Below w5.heap.size w5 ((((w7).setCell ⟨wr.heap.size, 0, none⟩ (.string y.nm)).setCell ⟨wr.heap.size, 1, none⟩ (.slice ua y.ps.length uc)).setCell ⟨wr.heap.size, 2, none⟩ (.slice ub y.ks.length ud)) := ((h0.setCell HBI.out.size _).setCell HBI.out.size _).setCell HBI.out.size _
            have M : Moved w7 ((((w7).setCell ⟨wr.heap.size, 0, none⟩ (.string y.nm)).setCell ⟨wr.heap.size, 1, none⟩ (.slice ua y.ps.length uc)).setCell ⟨wr.heap.size, 2, none⟩ (.slice ub y.ks.length ud)) (fun k => k = wr.heap.size) (fun k => k = wr.heap.size) := ((Moved.grown (gr_cell w7 wr.heap.size 0 _) (fun k hk => by injection hk with hk; exact hk.symm) (fun k hk => .inl hk)).trans (Moved.grown (gr_cell _ wr.heap.size 1 _) (fun k hk => by injection hk with hk; exact hk.symm) (fun k hk => .inl hk))).trans (Moved.grown (gr_cell _ wr.heap.size 2 _) (fun k hk => by injection hk with hk; exact hk.symm) (fun k hk => .inl hk))
            exact ⟨h0, hA.cell 0, hA.cell 1, hA.cell 2, hA.frozen 0, hA.frozen 1, hA.frozen 2, h3, ((hA.put 0 _).put 1 _).put 2 _, (hk.kept M (fun k hg e => by omega)).mono (fun _ _ => trivial), h3⟩
          clear hbi hnd5 hok hh ey ez hps q0 q1 q2 q3 a0 a1 a2
          have k0 := HKP.out _ HBI.out
          obtain ⟨a0, a1, a2, q0⟩ := k0
          go_upto_region 9 with fail
          go_cut [5, 6] (fun s5 s6 wx => ∃ (g9 : Nat) (ua : Option Addr) (uc : Nat) (ub : Option Addr) (ud : Nat), s5 = .pointer (some ⟨g9, 0, none⟩) ∧ s6 = .bool true ∧ Arr wx g9 29 #[.string y.nm, .slice ua y.ps.length uc, .slice ub y.ks.length ud] ∧ NdAt wx (fun _ => True) y (.slice ua y.ps.length uc) (.slice ub y.ks.length ud) ∧ Below w5.heap.size w5 wx)
          case first => as_aux_lemma =>
            refine wp_region_held_drew (S := fun (W' : World) => W'.cell? ⟨g1, 0, none⟩ = some (.string n.nm) ∧ W'.cell? ⟨g1, 1, none⟩ = some (.slice A n.ps.length pc) ∧ W'.cell? ⟨g1, 2, none⟩ = some (.slice K n.ks.length kc) ∧ W'.cell? ⟨b, off + i * 4, none⟩ = some (.string pa)) (by kernel_rfl) (by exact HKP.out _ hbd) (fun hHeld => ?_)
            refine takeH 0 31 rfl rfl (v := ?_) (by kernel_rfl) (by kernel_rfl) (by kernel_rfl) (fun _ _ _ h => h) (Or.inl ⟨by rfl, ?_⟩) hHeld ?_
            rotate_left 1
            · (intro w hSw; (try dsimp only at hSw); go_simp; try (with_reducible rfl))
            (try simp only [Act.put]); (try simp only [List.setIfInBounds_toArray]); (try simp only [List.set_cons_succ]); (try simp only [List.set_cons_zero])
            refine takeH 1 32 rfl rfl (v := ?_) (by kernel_rfl) (by kernel_rfl) (by kernel_rfl) (fun _ _ _ h => h) (Or.inl ⟨by rfl, ?_⟩) hHeld ?_
            rotate_left 1
            · (intro w hSw; (try dsimp only at hSw); go_simp; try (with_reducible rfl))
            (try simp only [Act.put]); (try simp only [List.setIfInBounds_toArray]); (try simp only [List.set_cons_succ]); (try simp only [List.set_cons_zero])
            refine takeH 2 33 rfl rfl (v := ?_) (by kernel_rfl) (by kernel_rfl) (by kernel_rfl) (fun _ _ _ h => h) (Or.inl ⟨by rfl, ?_⟩) hHeld ?_
            rotate_left 1
            · (intro w hSw; (try dsimp only at hSw); go_simp; try (with_reducible rfl))
            (try simp only [Act.put]); (try simp only [List.setIfInBounds_toArray]); (try simp only [List.set_cons_succ]); (try simp only [List.set_cons_zero])
            refine takeH 3 34 rfl rfl (v := ?_) (by kernel_rfl) (by kernel_rfl) (by kernel_rfl) (fun _ _ _ h => h) (Or.inl ⟨by rfl, ?_⟩) hHeld ?_
            rotate_left 1
            · (intro w hSw; (try dsimp only at hSw); go_simp; try (with_reducible rfl))
            (try simp only [Act.put]); (try simp only [List.setIfInBounds_toArray]); (try simp only [List.set_cons_succ]); (try simp only [List.set_cons_zero])
            refine takeH 4 35 rfl rfl (v := ?_) (by kernel_rfl) (by kernel_rfl) (by kernel_rfl) (fun _ _ _ h => h) (Or.inl ⟨by rfl, ?_⟩) hHeld ?_
            rotate_left 1
            · (intro w hSw; (try dsimp only at hSw); go_simp; try (with_reducible rfl))
            (try simp only [Act.put]); (try simp only [List.setIfInBounds_toArray]); (try simp only [List.set_cons_succ]); (try simp only [List.set_cons_zero])
            refine takeH 5 36 rfl rfl (v := ?_) (by kernel_rfl) (by kernel_rfl) (by kernel_rfl) (fun _ _ _ h => h) (Or.inl ⟨by rfl, ?_⟩) hHeld ?_
            rotate_left 1
            · (intro w hSw; (try dsimp only at hSw); go_simp; try (with_reducible rfl))
            (try simp only [Act.put]); (try simp only [List.setIfInBounds_toArray]); (try simp only [List.set_cons_succ]); (try simp only [List.set_cons_zero])
            refine wpAnyH_ready (rs := [6, 10]) (by kernel_rfl) (by simp) (AllReadyH.cons rfl (fun K hK => ?_) (AllReadyH.cons rfl (fun K hK => ?_) AllReadyH.nil))
            · go_simp
              refine (HFQ.out _ hbd).mono ?_
              rintro e w7 ⟨u2, u3, rfl, hk7, s1⟩
              obtain ⟨ua, ub, uc, ud, rfl, rfl, _⟩ := nd_shape hk7
              obtain ⟨z1, z2, z3, z4⟩ := HAQ.out w7 ua uc ub ud hk7 s1
              (try dsimp only)
              refine hK.out _ _ (by exact HKP.out _ z1) (fun hHeld => ?_)
              clear hK K
              (try simp only [Act.put]); (try simp only [List.setIfInBounds_toArray]); (try simp only [List.set_cons_succ]); (try simp only [List.set_cons_zero])
              refine takeH 7 30 rfl rfl (v := ?_) (by kernel_rfl) (by kernel_rfl) (by kernel_rfl) (fun _ _ _ h => h) (Or.inl ⟨by rfl, ?_⟩) hHeld ?_
              rotate_left 1
              · (intro w hSw; (try dsimp only at hSw); go_simp; try (with_reducible rfl))
              (try simp only [Act.put]); (try simp only [List.setIfInBounds_toArray]); (try simp only [List.set_cons_succ]); (try simp only [List.set_cons_zero])
              refine takeH 8 38 rfl rfl (v := ?_) (by kernel_rfl) (by kernel_rfl) (by kernel_rfl) (fun _ _ _ h => h) (Or.inl ⟨by rfl, ?_⟩) hHeld ?_
              rotate_left 1
              · (intro w hSw; (try dsimp only at hSw); go_simp; try (with_reducible rfl))
              (try simp only [Act.put]); (try simp only [List.setIfInBounds_toArray]); (try simp only [List.set_cons_succ]); (try simp only [List.set_cons_zero])
              refine takeH 9 39 rfl rfl (v := ?_) (by kernel_rfl) (by kernel_rfl) (by kernel_rfl) (fun _ _ _ h => h) (Or.inl ⟨by rfl, ?_⟩) hHeld ?_
              rotate_left 1
              · (intro w hSw; (try dsimp only at hSw); go_simp; try (with_reducible rfl))
              (try simp only [Act.put]); (try simp only [List.setIfInBounds_toArray]); (try simp only [List.set_cons_succ]); (try simp only [List.set_cons_zero])
              refine wpAnyH_ready (rs := [10]) (by kernel_rfl) (by simp) (AllReadyH.cons rfl (fun K hK => ?_) AllReadyH.nil)
              go_simp
              refine hK.out _ _ (by exact HKP.out _ z2) (fun hHeld => ?_)
              clear hK K
              (try simp only [Act.put]); (try simp only [List.setIfInBounds_toArray]); (try simp only [List.set_cons_succ]); (try simp only [List.set_cons_zero])
              refine wpAnyH_ready (rs := [11]) (by kernel_rfl) (by simp) (AllReadyH.cons rfl (fun K hK => ?_) AllReadyH.nil)
              go_simp
              refine hK.out _ _ (by exact HKP.out _ z3) (fun hHeld => ?_)
              clear hK K
              (try simp only [Act.put]); (try simp only [List.setIfInBounds_toArray]); (try simp only [List.set_cons_succ]); (try simp only [List.set_cons_zero])
              refine wpAnyH_ready (rs := [12]) (by kernel_rfl) (by simp) (AllReadyH.cons rfl (fun K hK => ?_) AllReadyH.nil)
              go_simp
              refine hK.out _ _ (by exact HKP.out _ z3) (fun hHeld => ?_)
              clear hK K
              (try simp only [Act.put]); (try simp only [List.setIfInBounds_toArray]); (try simp only [List.set_cons_succ]); (try simp only [List.set_cons_zero])
              refine wpAnyH_done (by kernel_rfl) ?_ _
              have HE := Lib.hid z4
              go_wp2_with fail
              go_meet
              exact ⟨_, _, _, _, _, rfl, rfl, HE.out⟩
            · go_simp
              refine hK.out _ _ (by exact HKP.out _ hbe) (fun hHeld => ?_)
              clear hK K
              (try simp only [Act.put]); (try simp only [List.setIfInBounds_toArray]); (try simp only [List.set_cons_succ]); (try simp only [List.set_cons_zero])
              refine wpAnyH_ready (rs := [6]) (by kernel_rfl) (by simp) (AllReadyH.cons rfl (fun K hK => ?_) AllReadyH.nil)
              go_simp
              refine (HFQ.out _ hbe).mono ?_
              rintro e w7 ⟨u2, u3, rfl, hk7, s1⟩
              obtain ⟨ua, ub, uc, ud, rfl, rfl, _⟩ := nd_shape hk7
              obtain ⟨z1, e0, e1, e2, f0, f1, f2, z3, z4⟩ := HBQ.out w7 ua uc ub ud hk7 s1
              (try dsimp only)
              refine hK.out _ _ (by exact HKP.out _ z1) (fun hHeld => ?_)
              clear hK K
              (try simp only [Act.put]); (try simp only [List.setIfInBounds_toArray]); (try simp only [List.set_cons_succ]); (try simp only [List.set_cons_zero])
              refine takeH 7 30 rfl rfl (v := ?_) (by kernel_rfl) (by kernel_rfl) (by kernel_rfl) (fun _ _ _ h => h) (Or.inl ⟨by rfl, ?_⟩) hHeld ?_
              rotate_left 1
              · (intro w hSw; (try dsimp only at hSw); go_simp; try (with_reducible rfl))
              (try simp only [Act.put]); (try simp only [List.setIfInBounds_toArray]); (try simp only [List.set_cons_succ]); (try simp only [List.set_cons_zero])
              refine takeH 8 38 rfl rfl (v := ?_) (by kernel_rfl) (by kernel_rfl) (by kernel_rfl) (fun _ _ _ h => h) (Or.inl ⟨by rfl, ?_⟩) hHeld ?_
              rotate_left 1
              · (intro w hSw; (try dsimp only at hSw); go_simp; try (with_reducible rfl))
              (try simp only [Act.put]); (try simp only [List.setIfInBounds_toArray]); (try simp only [List.set_cons_succ]); (try simp only [List.set_cons_zero])
              refine takeH 9 39 rfl rfl (v := ?_) (by kernel_rfl) (by kernel_rfl) (by kernel_rfl) (fun _ _ _ h => h) (Or.inl ⟨by rfl, ?_⟩) hHeld ?_
              rotate_left 1
              · (intro w hSw; (try dsimp only at hSw); go_simp; try (with_reducible rfl))
              (try simp only [Act.put]); (try simp only [List.setIfInBounds_toArray]); (try simp only [List.set_cons_succ]); (try simp only [List.set_cons_zero])
              refine wpAnyH_ready (rs := [11]) (by kernel_rfl) (by simp) (AllReadyH.cons rfl (fun K hK => ?_) AllReadyH.nil)
              go_simp
              refine hK.out _ _ (by exact HKP.out _ z3) (fun hHeld => ?_)
              clear hK K
              (try simp only [Act.put]); (try simp only [List.setIfInBounds_toArray]); (try simp only [List.set_cons_succ]); (try simp only [List.set_cons_zero])
              refine wpAnyH_ready (rs := [12]) (by kernel_rfl) (by simp) (AllReadyH.cons rfl (fun K hK => ?_) AllReadyH.nil)
              go_simp
              refine hK.out _ _ (by exact HKP.out _ z3) (fun hHeld => ?_)
              clear hK K
              (try simp only [Act.put]); (try simp only [List.setIfInBounds_toArray]); (try simp only [List.set_cons_succ]); (try simp only [List.set_cons_zero])
              refine wpAnyH_done (by kernel_rfl) ?_ _
              have HE := Lib.hid z4
              go_wp2_with fail
              go_meet
              exact ⟨_, _, _, _, _, rfl, rfl, HE.out⟩
          case rest => as_aux_lemma =>
            obtain ⟨g9, ua, uc, ub, ud, rfl, rfl, R1, R2, R3⟩ := hcut
            clear HFQ HKP HAQ HBQ HCE hbd hbe hsz a0 a1 a2 q0
            have hM := nd_below HMY.out R3
            have HSA : Hid (∀ W', Below wc.heap.size wc W' → Calls Try.prog 19 #[.agg #[.string y.nm, .slice ua y.ps.length uc, .slice ub y.ks.length ud], .agg #[.string y.nm, .slice PS y.ps.length pd, .slice KS y.ks.length kd]] W' fun e w' => e = .returned (.bool true) ∧ Below wc.heap.size wc w') := fun W' h =>
              (rSame_any _ _ _ _ _ _ _ _ W' (nd_below R2 h) (nd_below hM h)).mono fun e w' ⟨h1, h2⟩ => ⟨by rw [h1, sameR_refl], h.trans (h2.mono h.size)⟩
            have HKR : Hid (∀ W', Below wc.heap.size wc W' → (W'.cell? ⟨g9, 0, none⟩ = some (.string y.nm) ∧ W'.cell? ⟨g9, 1, none⟩ = some (.slice ua y.ps.length uc) ∧ W'.cell? ⟨g9, 2, none⟩ = some (.slice ub y.ks.length ud) ∧ W'.cell? ⟨b, off + i * 4 + 1, none⟩ = some (.string y.nm) ∧ W'.cell? ⟨b, off + i * 4 + 2, none⟩ = some (.slice PS y.ps.length pd) ∧ W'.cell? ⟨b, off + i * 4 + 3, none⟩ = some (.slice KS y.ks.length kd)) ∧ Below wc.heap.size wc W') := fun W' h =>
              have hA := R1.below h R1.lt
              have hQ := HKQ.out W' (R3.trans (h.mono R3.size))
              ⟨⟨hA.cell 0, hA.cell 1, hA.cell 2, hQ.1, hQ.2.1, hQ.2.2⟩, h⟩
            have HR1 := Lib.hid R1
            have HR2 := Lib.hid R2
            have HR3 := Lib.hid R3
            have hbd : Below wc.heap.size wc wc.drew := (Below.refl _ _).drew
            clear hM R1 R2 R3 HKQ
            go_upto_region 10 with fail
            go_cut [51] (fun s51 wx => s51 = .bool false ∧ Below wc.heap.size wc wx)
            case first => as_aux_lemma =>
              go_region_held3 (fun W' => (W'.cell? ⟨g9, 0, none⟩ = some (.string y.nm) ∧ W'.cell? ⟨g9, 1, none⟩ = some (.slice ua y.ps.length uc) ∧ W'.cell? ⟨g9, 2, none⟩ = some (.slice ub y.ks.length ud) ∧ W'.cell? ⟨b, off + i * 4 + 1, none⟩ = some (.string y.nm) ∧ W'.cell? ⟨b, off + i * 4 + 2, none⟩ = some (.slice PS y.ps.length pd) ∧ W'.cell? ⟨b, off + i * 4 + 3, none⟩ = some (.slice KS y.ks.length kd)) ∧ Below wc.heap.size wc W') (exact HKR.out _ (by assumption)) (first | (go_at_call 19; with_reducible refine (HSA.out _ (by assumption)).mono ?_; rintro e w8 ⟨rfl, s1⟩))
              all_goals (go_wp2_with fail; go_meet; exact ⟨rfl, by assumption⟩)
            case rest => as_aux_lemma =>
              obtain ⟨rfl, hbx⟩ := hcut
              have HRx := Lib.hid (HR1.out.below hbx HR1.out.lt)
              have HNx := Lib.hid (nd_below HR2.out hbx)
              have HBX := Lib.hid (HR3.out.trans (hbx.mono HR3.out.size))
              have HPM : Hid (y.ps.length ≤ 9223372036854775807) := by
                unfold Hid; unfold maxLen at hpsm
                obtain ⟨_, _, _, _, e1, e2, h1, h2, _, _⟩ := nd_shape HNx.out
                unfold maxLen at h2
                omega
              clear hbx HSA HKR hbd HR1 HR2 HR3 HMY hpsm
              rename_i wc0 wc1
              go_wp2
              go_loopw [7] (fun kv wk => ∃ k : Nat, k ≤ y.ps.length ∧ kv = .int .i64 k ∧ Below wc.heap.size wc wk) (fun kv _ => y.ps.length - (intOf kv).toNat)
              case atStart => exact ⟨0, Nat.zero_le _, rfl, Below.refl _ _⟩
              case round =>
                obtain ⟨k, hk, rfl, hbk⟩ := hrel
                have hpm := HPM.out
                have x0 := (HRx.out.below hbk HRx.out.lt).cell 0
                have x1 := (HRx.out.below hbk HRx.out.lt).cell 1
                have x2 := (HRx.out.below hbk HRx.out.lt).cell 2
                simp only [List.getElem?_toArray, List.getElem?_cons_zero, List.getElem?_cons_succ] at x0 x1 x2
                by_cases hkl : k < y.ps.length
                · have hkk : (k : Int) < y.ps.length := by omega
                  have hNk := nd_below HNx.out hbk
                  obtain ⟨pb, po, x, rfl, ⟨p0, p1⟩, HX⟩ := nd_prop hNk hkl
                  have hv := here_value HH.out hkl
                  rw [HX.out] at hv
                  obtain ⟨xn, xv⟩ := x
                  simp only at p0 p1 hv
                  have HBK := Lib.hid hbk
                  have hbkd : Below wr.heap.size wr wr.drew := (Below.refl _ _).drew
                  have HVA : Hid (Calls Try.prog 20 #[.agg #[.string y.nm, .slice (some ⟨pb, po, none⟩) y.ps.length uc, .slice ub y.ks.length ud], .string xn] wr.drew fun e w' => e = .returned (.tuple #[.string xv, .bool true]) ∧ Below wr.heap.size wr w') := by
                    refine (rvalue_any _ y _ _ xn wr.drew (nd_below hNk hbkd)).mono ?_
                    rintro e w' ⟨h1, h2⟩
                    rw [hv] at h1
                    exact ⟨h1, hbkd.trans (h2.mono hbkd.size)⟩
                  have HKV : Hid (∀ W', Below wr.heap.size wr W' → (W'.cell? ⟨g9, 0, none⟩ = some (.string y.nm) ∧ W'.cell? ⟨g9, 1, none⟩ = some (.slice (some ⟨pb, po, none⟩) y.ps.length uc) ∧ W'.cell? ⟨g9, 2, none⟩ = some (.slice ub y.ks.length ud) ∧ W'.cell? ⟨pb, po + k * 2, none⟩ = some (.string xn))) := fun W' h =>
                    have M := Moved.of_below h (fun _ => False)
                    ⟨cell_kept M id x0, cell_kept M id x1, cell_kept M id x2, cell_kept M id p0⟩
                  have HKW : Hid (∀ W', Below wr.heap.size wr W' → W'.cell? ⟨pb, po + k * 2 + 1, none⟩ = some (.string xv)) := fun W' h => cell_kept (Moved.of_below h (fun _ => False)) id p1
                  have hxv : (xv.toList != xv.toList) = false := by simp
                  clear hNk hv HX p0 p1 hbk
                  go_upto_region 15 with fail
                  clear x0 x1 x2
                  refine wp_region_held_drew (S := fun (W' : World) => (W'.cell? ⟨g9, 0, none⟩ = some (.string y.nm) ∧ W'.cell? ⟨g9, 1, none⟩ = some (.slice (some ⟨pb, po, none⟩) y.ps.length uc) ∧ W'.cell? ⟨g9, 2, none⟩ = some (.slice ub y.ks.length ud) ∧ W'.cell? ⟨pb, po + k * 2, none⟩ = some (.string xn))) (by kernel_rfl) (by exact HKV.out _ hbkd) (fun hHeld => ?_)
                  refine takeH 0 60 rfl rfl (v := ?_) (by kernel_rfl) (by kernel_rfl) (by kernel_rfl) (fun _ _ _ h => h) (Or.inl ⟨by rfl, ?_⟩) hHeld ?_
                  rotate_left 1
                  · (intro w hSw; (try dsimp only at hSw); go_simp; try (with_reducible rfl))
                  (try simp only [Act.put]); (try simp only [List.setIfInBounds_toArray]); (try simp only [List.set_cons_succ]); (try simp only [List.set_cons_zero])
                  refine takeH 1 61 rfl rfl (v := ?_) (by kernel_rfl) (by kernel_rfl) (by kernel_rfl) (fun _ _ _ h => h) (Or.inl ⟨by rfl, ?_⟩) hHeld ?_
                  rotate_left 1
                  · (intro w hSw; (try dsimp only at hSw); go_simp; try (with_reducible rfl))
                  (try simp only [Act.put]); (try simp only [List.setIfInBounds_toArray]); (try simp only [List.set_cons_succ]); (try simp only [List.set_cons_zero])
                  refine takeH 2 62 rfl rfl (v := ?_) (by kernel_rfl) (by kernel_rfl) (by kernel_rfl) (fun _ _ _ h => h) (Or.inl ⟨by rfl, ?_⟩) hHeld ?_
                  rotate_left 1
                  · (intro w hSw; (try dsimp only at hSw); go_simp; try (with_reducible rfl))
                  (try simp only [Act.put]); (try simp only [List.setIfInBounds_toArray]); (try simp only [List.set_cons_succ]); (try simp only [List.set_cons_zero])
                  refine takeH 3 63 rfl rfl (v := ?_) (by kernel_rfl) (by kernel_rfl) (by kernel_rfl) (fun _ _ _ h => h) (Or.inl ⟨by rfl, ?_⟩) hHeld ?_
                  rotate_left 1
                  · (intro w hSw; (try dsimp only at hSw); go_simp; try (with_reducible rfl))
                  (try simp only [Act.put]); (try simp only [List.setIfInBounds_toArray]); (try simp only [List.set_cons_succ]); (try simp only [List.set_cons_zero])
                  refine takeH 4 64 rfl rfl (v := ?_) (by kernel_rfl) (by kernel_rfl) (by kernel_rfl) (fun _ _ _ h => h) (Or.inl ⟨by rfl, ?_⟩) hHeld ?_
                  rotate_left 1
                  · (intro w hSw; (try dsimp only at hSw); go_simp; try (with_reducible rfl))
                  (try simp only [Act.put]); (try simp only [List.setIfInBounds_toArray]); (try simp only [List.set_cons_succ]); (try simp only [List.set_cons_zero])
                  refine takeH 5 65 rfl rfl (v := ?_) (by kernel_rfl) (by kernel_rfl) (by kernel_rfl) (fun _ _ _ h => h) (Or.inl ⟨by rfl, ?_⟩) hHeld ?_
                  rotate_left 1
                  · (intro w hSw; (try dsimp only at hSw); go_simp; try (with_reducible rfl))
                  (try simp only [Act.put]); (try simp only [List.setIfInBounds_toArray]); (try simp only [List.set_cons_succ]); (try simp only [List.set_cons_zero])
                  refine takeH 6 66 rfl rfl (v := ?_) (by kernel_rfl) (by kernel_rfl) (by kernel_rfl) (fun _ _ _ h => h) (Or.inl ⟨by rfl, ?_⟩) hHeld ?_
                  rotate_left 1
                  · (intro w hSw; (try dsimp only at hSw); go_simp; try (with_reducible rfl))
                  (try simp only [Act.put]); (try simp only [List.setIfInBounds_toArray]); (try simp only [List.set_cons_succ]); (try simp only [List.set_cons_zero])
                  refine wpAnyH_ready (rs := [7]) (by kernel_rfl) (by simp) (AllReadyH.cons rfl (fun K hK => ?_) AllReadyH.nil)
                  go_simp
                  refine HVA.out.mono ?_
                  rintro e w8 ⟨rfl, s1⟩
                  (try dsimp only)
                  refine hK.out _ _ (by exact HKV.out _ s1) (fun hHeld => ?_)
                  clear hK K
                  (try simp only [Act.put]); (try simp only [List.setIfInBounds_toArray]); (try simp only [List.set_cons_succ]); (try simp only [List.set_cons_zero])
                  refine takeH 8 59 rfl rfl (v := ?_) (by kernel_rfl) (by kernel_rfl) (by kernel_rfl) (fun _ _ _ h => h) (Or.inl ⟨by rfl, ?_⟩) hHeld ?_
                  rotate_left 1
                  · (intro w hSw; (try dsimp only at hSw); go_simp; try (with_reducible rfl))
                  (try simp only [Act.put]); (try simp only [List.setIfInBounds_toArray]); (try simp only [List.set_cons_succ]); (try simp only [List.set_cons_zero])
                  refine takeH 9 68 rfl rfl (v := ?_) (by kernel_rfl) (by kernel_rfl) (by kernel_rfl) (fun _ _ _ h => h) (Or.inl ⟨by rfl, ?_⟩) hHeld ?_
                  rotate_left 1
                  · (intro w hSw; (try dsimp only at hSw); go_simp; try (with_reducible rfl))
                  (try simp only [Act.put]); (try simp only [List.setIfInBounds_toArray]); (try simp only [List.set_cons_succ]); (try simp only [List.set_cons_zero])
                  refine takeH 10 69 rfl rfl (v := ?_) (by kernel_rfl) (by kernel_rfl) (by kernel_rfl) (fun _ _ _ h => h) (Or.inl ⟨by rfl, ?_⟩) hHeld ?_
                  rotate_left 1
                  · (intro w hSw; (try dsimp only at hSw); go_simp; try (with_reducible rfl))
                  (try simp only [Act.put]); (try simp only [List.setIfInBounds_toArray]); (try simp only [List.set_cons_succ]); (try simp only [List.set_cons_zero])
                  refine wpAnyH_ready (rs := [11]) (by kernel_rfl) (by simp) (AllReadyH.cons rfl (fun K hK => ?_) AllReadyH.nil)
                  go_simp
                  refine hK.out _ _ (by exact HKV.out _ s1) (fun hHeld => ?_)
                  clear hK K
                  (try simp only [Act.put]); (try simp only [List.setIfInBounds_toArray]); (try simp only [List.set_cons_succ]); (try simp only [List.set_cons_zero])
                  refine wpAnyH_ready (rs := [12]) (by kernel_rfl) (by simp) (AllReadyH.cons rfl (fun K hK => ?_) AllReadyH.nil)
                  go_simp
                  refine hK.out _ _ (by exact HKV.out _ s1) (fun hHeld => ?_)
                  clear hK K
                  (try simp only [Act.put]); (try simp only [List.setIfInBounds_toArray]); (try simp only [List.set_cons_succ]); (try simp only [List.set_cons_zero])
                  refine wpAnyH_done (by kernel_rfl) ?_ _
                  clear hHeld
                  obtain ⟨x0, x1, x2, _⟩ := HKV.out _ s1
                  have p1 := HKW.out _ s1
                  have HBN := Lib.hid (HBK.out.trans (s1.mono HBK.out.size))
                  clear s1 HKV HKW HVA
                  go_wp2
                  go_roundw
                  case rel => exact ⟨k + 1, by omega, by go_num, HBN.out⟩
                  case measure => simp [intOf]; omega
                · obtain rfl : k = y.ps.length := by omega
                  have HBE := Lib.hid (HBX.out.trans (hbk.mono HBX.out.size))
                  clear hbk
                  go_wp2_with fail
                  go_roundw
                  case rel => exact ⟨i + 1, by omega, by go_num, HBE.out⟩
                  case measure => simp [intOf]; omega
        · obtain rfl : i = L.length := by omega
          have HBW := Lib.hid (HB.out.trans (hbi.mono HB.out.size))
          clear hbi HSP HND HSN
          go_wp2_with fail
          refine (HAW.out _).mono ?_
          rintro e w9 ⟨rfl, hb⟩
          have HBZ := Lib.hid (HBW.out.trans (hb.mono HBW.out.size))
          clear hb
          go_wp2
          go_ret
          exact ⟨rfl, HBZ.out⟩
    · have d0 : (((cn : Nat) : Int) != 0) = true := by simp; omega
      clear hc0 HFN HS19 HFT HWK HFI
      go_wp2_with fail
      refine (HAW.out _).mono ?_
      rintro e w9 ⟨rfl, hb⟩
      have HBZ := Lib.hid (HB.out.trans (hb.mono HB.out.size))
      clear hb
      go_wp2
      go_ret
      exact ⟨rfl, HBZ.out⟩
end Go.Proofs.Ytmgfnghegcfhnaa
