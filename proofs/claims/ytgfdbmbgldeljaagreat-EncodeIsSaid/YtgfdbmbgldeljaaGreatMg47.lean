/- The program's Tree of layer 14. Conditions: strings of at most 2^40 bytes. -/
import Derived.Test.YtgfdbmbgldeljaaGreatMg46
import Derived.Test.YtgfdbmbgldeljaaGreatMg21
import Derived.Test.YtgfdbmbgldeljaaGreatMg17
namespace Go.Proofs.YtgfdbmbgldeljaaGreat
open Go.RowKit

set_option maxHeartbeats 3200000 in
set_option maxRecDepth 100000 in
theorem dtree_any (s : ByteArray) (w : World) (hs : s.size ≤ 1099511627776) :
    Calls Tryz.prog 12 #[.string s] w fun e w' => ∃ v2 v3 A cap, e = .returned (.tuple #[.agg (dtC (treeD s.data.toList).1.rt.nm v2 v3 (.slice A (treeD s.data.toList).1.rs.length cap) (treeD s.data.toList).1.bo), .int .i64 ((treeD s.data.toList).2 : Int)]) ∧ DtAt w' (treeD s.data.toList).1 v2 v3 A ∧ Below w.heap.size w w' := by
  have HRD := Lib.hid (fun W => hread_any s W (by unfold maxLen; omega))
  have HT0 := Lib.hid (Arr.new w 28 dtZ)
  have HB0 := Lib.hid ((Below.refl w.heap.size w).alloc (Nat.le_refl _) (.cells dtZ 28))
  have hgl : w.heap.size < (w.alloc (.cells dtZ 28)).heap.size := by rw [sz_alloc]; omega
  by_cases h0 : (readH s.data.toList).2 = 0
  · obtain ⟨h, hh⟩ : ∃ h, readH s.data.toList = (h, 0) := ⟨_, Prod.ext rfl h0⟩
    obtain ⟨hm, hl1, hl2, hl3, -⟩ := readH_ok hh
    have hm := mayH_iff.1 hm
    have hlen : s.data.toList.length = s.size := rfl
    have HE0 : Hid (treeD s.data.toList = bodyD (s.data.toList.take h.tot.toNat) h) := by
      unfold Hid treeD
      rw [hh]
      exact if_neg (by simp)
    rw [hh] at HRD
    generalize treeD s.data.toList = R at *
    rw [hlen] at hl1
    obtain ⟨tt, st, sg, rv, bo, tx, sz⟩ := h
    simp only at hm hl1 hl2 HE0 HRD
    obtain ⟨n, rfl⟩ : ∃ n : Nat, tt = (n : Int) := ⟨tt.toNat, by omega⟩
    have hn0 : (0 : Int) ≤ n := by omega
    have hsn : (s.extract 0 n).size ≤ 1099511627776 := by rw [ByteArray.size_extract]; omega
    rw [Int.toNat_natCast, ← ext0_list] at HE0
    generalize hss : s.extract 0 n = S at *
    have HRS := Lib.hid (fun W => dreserve_any S rv W hsn (by omega))
    have HRO := Lib.hid (fun W => droot_any S ⟨n, st, sg, rv, bo, tx, sz⟩ W hsn (by unfold in64; simp only; omega) (by unfold in64; simp only; omega) (by unfold in64; simp only; omega) (by unfold in64; simp only; omega))
    rw [bodyD_root] at HE0
    simp only at HE0
    generalize rootD S ⟨n, st, sg, rv, bo, tx, sz⟩ = RO at *
    obtain ⟨nd, eo⟩ := RO
    simp only at HE0 HRO
    generalize resv S.data.toList rv = V at *
    obtain ⟨K, ev⟩ := V
    simp only at HE0 HRS
    rename_i hm9
    clear hm9 hm hl2 hl3 hlen hsn h0 hh
    go_enter Tryz.func12, Tryz.ntmps12
    go_wp2_with fail
    refine (HRD.out _).mono ?_
    rintro e w1 ⟨rfl, hb1⟩
    have HT1 := Lib.hid (HT0.out.below hb1 HT0.out.lt)
    have HB1 := Lib.hid (HB0.out.trans (hb1.mono HB0.out.size))
    have hz1 := HB1.out.size
    have hgl1 := HT1.out.lt
    clear hb1 HT0 HB0 HRD hgl
    have HAN := Lib.hid (Arr.new w1 54 hdZ)
    have HH := Lib.hid (HAN.out.row (#[.int .i64 n, .int .i64 st, .int .i64 sg, .int .i64 rv, .int .i64 bo, .int .i64 tx, .int .i64 sz] : Array Value))
    have HT := Lib.hid ((HT1.out.alloc (.cells hdZ 54)).rowFar (Nat.ne_of_lt hgl1) #[.int .i64 n, .int .i64 st, .int .i64 sg, .int .i64 rv, .int .i64 bo, .int .i64 tx, .int .i64 sz])
    have HB : Hid (Below w.heap.size w ((w1.alloc (.cells hdZ 54)).setRow w1.heap.size #[.int .i64 n, .int .i64 st, .int .i64 sg, .int .i64 rv, .int .i64 bo, .int .i64 tx, .int .i64 sz])) := below_setRow (HB1.out.alloc hz1 _) hz1 _
    go_upto_region 2 with (refine wpList_store_row rfl 54 (.tmp 4) (.tmp 11) rfl w1.heap.size #[.int .i64 n, .int .i64 st, .int .i64 sg, .int .i64 rv, .int .i64 bo, .int .i64 tx, .int .i64 sz] rfl rfl _ _ HAN.out (infoH hd0) rfl (hdC_one ⟨n, st, sg, rv, bo, tx, sz⟩) ?_)
    clear HAN HT1 HB1
    generalize (w1.alloc (.cells hdZ 54)).setRow w1.heap.size #[.int .i64 n, .int .i64 st, .int .i64 sg, .int .i64 rv, .int .i64 bo, .int .i64 tx, .int .i64 sz] = W2 at *
    generalize w1.heap.size = gh at *
    have c0 : W2.cell? ⟨gh, 0, none⟩ = some (.int .i64 n) := HH.out.cell 0
    have c3 : W2.cell? ⟨gh, 3, none⟩ = some (.int .i64 rv) := HH.out.cell 3
    go_wp2_with fail
    refine (HRS.out _).mono ?_
    rintro e w3 ⟨A3, k3, rfl, hsp, hfar, hb⟩
    have HS := Lib.hid hsp
    have HF : Hid (SpFar (w.heap.size + 1) A3 K) := hfar.imp id fun ⟨b, off, e, h⟩ => ⟨b, off, e, Nat.le_trans (Nat.succ_le_of_lt HT.out.lt) h⟩
    have HT := Lib.hid (HT.out.below hb HT.out.lt)
    have HH := Lib.hid (HH.out.below hb HH.out.lt)
    have HB := Lib.hid (HB.out.trans (hb.mono HB.out.size))
    clear hb
    clear hsp hfar c0 c3 HRS
    by_cases he1 : ev = 0
    · subst he1
      rw [if_neg (by simp)] at HE0
      go_wp2_with (refine wpList_load_row rfl 54 (.tmp 4) rfl gh rfl _ #[.int .i64 n, .int .i64 st, .int .i64 sg, .int .i64 rv, .int .i64 bo, .int .i64 tx, .int .i64 sz] _ _ HH.out Tryz.underlying54 rfl (infoH hd0) ?_)
      refine (HRO.out _).mono ?_
      rintro e w7 ⟨v2, v3, rfl, hnd, hb⟩
      obtain ⟨B2, B3, m2, m3, rfl, rfl, hsh⟩ := nd_shape hnd
      have HS := Lib.hid (HS.out.below hb)
      have HND := Lib.hid hnd
      have HGL := Lib.hid (Nat.lt_of_lt_of_le HT.out.lt (Nat.le_refl w3.heap.size))
      have HT := Lib.hid (HT.out.below hb HT.out.lt)
      have HH := Lib.hid (HH.out.below hb HH.out.lt)
      have HB := Lib.hid (HB.out.trans (hb.mono HB.out.size))
      clear hb
      clear hnd hsh HRO
      have hbn : Below w7.heap.size w7 (w7.alloc (.cells #[.string nd.nm, .slice B2 nd.ps.length m2, .slice B3 nd.ks.length m3] 25)) := (Below.refl _ _).alloc (Nat.le_refl _) _
      have HNN := Lib.hid (Arr.new w7 25 #[.string nd.nm, .slice B2 nd.ps.length m2, .slice B3 nd.ks.length m3])
      have HT := Lib.hid (HT.out.below hbn HT.out.lt)
      have HH := Lib.hid (HH.out.below hbn HH.out.lt)
      have HS := Lib.hid (HS.out.below hbn)
      have HND := Lib.hid (nd_below HND.out hbn)
      have HB := Lib.hid (HB.out.trans (hbn.mono HB.out.size))
      clear hbn
      go_upto_region 9 with fail
      generalize w7.alloc (.cells #[.string nd.nm, .slice B2 nd.ps.length m2, .slice B3 nd.ks.length m3] 25) = W8 at *
      generalize w7.heap.size = gn at *
      by_cases he3 : eo = 0
      · subst he3
        rw [if_neg (by simp)] at HE0
        have c4 : W8.cell? ⟨gh, 4, none⟩ = some (.int .i64 bo) := HH.out.cell 4
        have HNF : Hid (NdAt (W8.setRow w.heap.size #[.string nd.nm, .slice B2 nd.ps.length m2, .slice B3 nd.ks.length m3, .slice A3 K.length k3, .int .i64 bo]) (fun k => w3.heap.size ≤ k) nd (.slice B2 nd.ps.length m2) (.slice B3 nd.ks.length m3)) :=
          HND.out.kept (moved_setRow W8 _ _) (fun k hk e => by have := HGL.out; omega)
        have HSF := Lib.hid (rdSp_row (cs := #[.string nd.nm, .slice B2 nd.ps.length m2, .slice B3 nd.ks.length m3, .slice A3 K.length k3, .int .i64 bo]) HS.out HF.out (Nat.lt_succ_self _))
        clear HS HND HH
        go_wp2_with (first | (refine wpList_load_row rfl 25 (.tmp 7) rfl gn rfl _ _ _ _ HNN.out Tryz.underlying25 rfl (infoNd _ _ _) ?_) | (refine wpList_store_row rfl 28 (.tmp 2) (.tmp 46) rfl w.heap.size (dtC nd.nm (.slice B2 nd.ps.length m2) (.slice B3 nd.ks.length m3) (.slice A3 K.length k3) bo) rfl rfl _ _ HT.out (infoDt nd.nm (.slice B2 nd.ps.length m2) (.slice B3 nd.ks.length m3) (.slice A3 K.length k3) bo) rfl (dtC_one nd.nm (.slice B2 nd.ps.length m2) (.slice B3 nd.ks.length m3) (.slice A3 K.length k3) bo rfl rfl rfl) ?_))
        exact bodyPost_ret (results_rowN rfl _ _ w.heap.size _ (dtC nd.nm (.slice B2 nd.ps.length m2) (.slice B3 nd.ks.length m3) (.slice A3 K.length k3) bo) _ _ rfl (HT.out.row _) Tryz.underlying28 rfl (infoDt nd.nm (.slice B2 nd.ps.length m2) (.slice B3 nd.ks.length m3) (.slice A3 K.length k3) bo)) rfl ⟨_, _, _, _, by rw [HE0.out]; rfl, by rw [HE0.out]; exact ⟨(nd_lt HNF.out), HSF.out⟩, below_setRow HB.out (Nat.le_refl _) _⟩
      · have d1 : ((eo : Int) != 0) = true := by simp; omega
        have HE1 : Hid (R = (dt0, eo)) := by unfold Hid; rw [HE0.out, if_pos he3]
        clear he3 HE0 HS HF HND HH HNN
        go_wp2_with (refine wpList_store_row rfl 28 (.tmp 2) (.tmp 40) rfl w.heap.size dtZ rfl rfl _ _ HT.out infoDz rfl dtZ_one ?_)
        exact bodyPost_ret (results_rowN rfl _ _ w.heap.size _ dtZ _ _ rfl (HT.out.row _) Tryz.underlying28 rfl infoDz) rfl ⟨_, _, _, _, by rw [HE1.out]; rfl, by rw [HE1.out]; exact dtAt_zero _, below_setRow HB.out (Nat.le_refl _) _⟩
    · have d1 : ((ev : Int) != 0) = true := by simp; omega
      have HE1 : Hid (R = (dt0, ev)) := by unfold Hid; rw [HE0.out, if_pos he1]
      clear he1 HE0 HRO HS HF HH
      go_wp2_with (refine wpList_store_row rfl 28 (.tmp 2) (.tmp 30) rfl w.heap.size dtZ rfl rfl _ _ HT.out infoDz rfl dtZ_one ?_)
      exact bodyPost_ret (results_rowN rfl _ _ w.heap.size _ dtZ _ _ rfl (HT.out.row _) Tryz.underlying28 rfl infoDz) rfl ⟨_, _, _, _, by rw [HE1.out]; rfl, by rw [HE1.out]; exact dtAt_zero _, below_setRow HB.out (Nat.le_refl _) _⟩
  · have HE1 : Hid (treeD s.data.toList = (dt0, (readH s.data.toList).2)) := if_pos h0
    have HHZ : Hid ((readH s.data.toList).1 = hd0) := readH_bad (s := s.data.toList) (Prod.ext rfl rfl) h0
    generalize treeD s.data.toList = R at *
    generalize readH s.data.toList = D at *
    obtain ⟨dh, de⟩ := D
    simp only at HE1 HHZ h0 HRD
    obtain rfl := HHZ.out
    have d1 : ((de : Int) != 0) = true := by simp; omega
    clear h0 HHZ
    go_enter Tryz.func12, Tryz.ntmps12
    go_wp2_with fail
    refine (HRD.out _).mono ?_
    rintro e w1 ⟨rfl, hb1⟩
    have HT1 := Lib.hid (HT0.out.below hb1 HT0.out.lt)
    have HB1 := Lib.hid (HB0.out.trans (hb1.mono HB0.out.size))
    have hz1 := HB1.out.size
    have hgl1 := HT1.out.lt
    clear hb1 HT0 HB0 HRD hgl
    have HAN := Lib.hid (Arr.new w1 54 hdZ)
    have HT := Lib.hid ((HT1.out.alloc (.cells hdZ 54)).rowFar (Nat.ne_of_lt hgl1) hdZ)
    have HB : Hid (Below w.heap.size w ((w1.alloc (.cells hdZ 54)).setRow w1.heap.size hdZ)) := below_setRow (HB1.out.alloc hz1 _) hz1 _
    go_upto_region 2 with (refine wpList_store_row rfl 54 (.tmp 4) (.tmp 11) rfl w1.heap.size hdZ rfl rfl _ _ HAN.out (infoH hd0) rfl (hdC_one hd0) ?_)
    clear HAN HT1 HB1
    generalize (w1.alloc (.cells hdZ 54)).setRow w1.heap.size hdZ = W2 at *
    generalize w1.heap.size = gh at *
    go_wp2_with (refine wpList_store_row rfl 28 (.tmp 2) (.tmp 15) rfl w.heap.size dtZ rfl rfl _ _ HT.out infoDz rfl dtZ_one ?_)
    exact bodyPost_ret (results_rowN rfl _ _ w.heap.size _ dtZ _ _ rfl (HT.out.row _) Tryz.underlying28 rfl infoDz) rfl ⟨_, _, _, _, by rw [HE1.out]; rfl, by rw [HE1.out]; exact dtAt_zero _, below_setRow HB.out (Nat.le_refl _) _⟩
end Go.Proofs.YtgfdbmbgldeljaaGreat

/- dec_must: what the laws' walks of layer 14 lean on holds of package decode. Conditions: strings of at most 2^40 bytes. -/
namespace Go.Proofs.YtgfdbmbgldeljaaGreat
open Go.RowKit

theorem dec_tree : DecTree := dtree_any
end Go.Proofs.YtgfdbmbgldeljaaGreat

/- How a tree that came in is read. Conditions: values without a ring, as the row says. -/
namespace Go.Proofs.YtgfdbmbgldeljaaGreat
open Go.RowKit

theorem add_off (b off j : Nat) : (⟨b, off, none⟩ : Addr).add j = ⟨b, off + j, none⟩ := by unfold Addr.add; split <;> simp_all

set_option maxRecDepth 100000 in
set_option maxHeartbeats 1000000 in
/-- A slice of properties that came in. -/
theorem pr_of_trod {H : Type} {enc : TypeId × Value → H} {W : World} {fuel : Nat} {v : Value} {x : DataW H × List MemPlace}
    (hf : DataW.trod enc Tryz.prog W 0 (fun _ => true) true fuel 22 [v] = some x) : ∃ (A : Option Addr) (pc : Nat) (ps : List PR), v = .slice A ps.length pc ∧ RdPr W (fun k => k < W.heap.size) A ps ∧ ps.length ≤ pc ∧ pc ≤ maxLen := by
  rcases Deep.open_slice Tryz.underlying22 hf with ⟨hcs, _⟩ | ⟨a, len, cap, m, n, D, Pl, hcs, hb, hl, hm, hmm, _, hx⟩
  · simp at hcs
    subst hcs
    exact ⟨none, 0, [], rfl, .inl rfl, Nat.le_refl _, Nat.zero_le _⟩
  · simp at hcs
    subst hcs
    have hmc : m = cap := by simpa using hmm
    have cN : Tryz.prog.cellsOf 39 = 2 := by kernel_rfl
    have cs : Tryz.prog.cellsOf 9 = 1 := by kernel_rfl
    have each : ∀ i, i < len → ∃ x : PR, W.cell? (a.add (i * 2)) = some (.string x.nm) ∧ W.cell? (a.add (i * 2 + 1)) = some (.string x.vl) := by
      intro i hi
      obtain ⟨cs', h1, h2⟩ := hx i (by omega)
      rw [cN] at h1
      obtain ⟨_, hlen, hcell⟩ := World.cells?_some h1
      obtain ⟨xs, k, _, _, _, hxl, hfd⟩ := DataW.trod_struct Tryz.underlying39 h2
      match cs', hlen with
      | [v0, v1], _ =>
        have g0 := hfd 0 _ rfl
        have g1 := hfd 1 _ rfl
        simp [cs] at g0 g1
        have hxln : xs.length = 2 := by simpa using hxl
        rw [List.getElem?_eq_getElem (by omega)] at g0 g1
        obtain ⟨s0, e0, _, _⟩ := DataW.trod_string Tryz.underlying9 g0
        obtain ⟨s1, e1, _, _⟩ := DataW.trod_string Tryz.underlying9 g1
        injection e0 with e0
        injection e1 with e1
        subst e0 e1
        have q0 := hcell 0 (by omega)
        have q1 := hcell 1 (by omega)
        rw [Deep.add_add] at q0 q1
        exact ⟨⟨s0, s1⟩, by simpa using q0, by simpa using q1⟩
    obtain ⟨q, hq⟩ := @Deep.choose_lt PR ⟨pr0⟩ _ _ each
    have hlen : ((List.range len).map q).length = len := by simp
    have hget : ∀ k, k < len → ((List.range len).map q).getD k pr0 = q k := fun k hk => by
      rw [List.getD_eq_getElem?_getD, List.getElem?_map, List.getElem?_range hk]; rfl
    refine ⟨some a, cap, (List.range len).map q, by rw [hlen], ?_, by omega, hm⟩
    by_cases hp : 0 < len
    · obtain ⟨b, off, spot⟩ := a
      obtain rfl : spot = none := by simpa [Addr.add] using World.cell?_spot (hq 0 hp).1
      have h0 := (hq 0 hp).1
      rw [add_off] at h0
      refine .inr ⟨b, off, rfl, World.block_lt_of_cell? W _ h0, fun k hk => ?_⟩
      rw [hlen] at hk
      obtain ⟨q0, q1⟩ := hq k hk
      rw [add_off] at q0 q1
      rw [hget k hk]
      exact ⟨q0, by rw [Nat.add_assoc]; exact q1⟩
    · exact .inl (List.length_eq_zero_iff.1 (by omega))

set_option maxRecDepth 100000 in
set_option maxHeartbeats 1000000 in
theorem nd_of_trod {H : Type} {enc : TypeId × Value → H} {W : World} : ∀ (N fuel : Nat) (cs : List Value) (d : DataW H) (pl : List MemPlace), SizeOf.sizeOf d ≤ N →
    DataW.trod enc Tryz.prog W 0 (fun _ => true) true fuel 25 cs = some (d, pl) → ∃ (n : ND) (v2 v3 : Value), cs = [.string n.nm, v2, v3] ∧ NdAt W (fun k => k < W.heap.size) n v2 v3
  | 0, _, _, d, _, hN, _ => by cases d <;> simp at hN
  | N + 1, fuel, cs, d, pl, hN, h => by
    have c1 : Tryz.prog.cellsOf 9 = 1 := by kernel_rfl
    have c2 : Tryz.prog.cellsOf 22 = 1 := by kernel_rfl
    have c3 : Tryz.prog.cellsOf 23 = 1 := by kernel_rfl
    have cN : Tryz.prog.cellsOf 25 = 3 := by kernel_rfl
    obtain ⟨xs, k, _, hd, hcl, hxl, hfd⟩ := DataW.trod_struct Tryz.underlying25 h
    rw [cN] at hcl
    have hxln : xs.length = 3 := by simpa using hxl
    match cs, hcl with
    | [v0, v1, v2], _ =>
      have g0 := hfd 0 _ rfl
      have g1 := hfd 1 _ rfl
      have g2 := hfd 2 _ rfl
      simp [c1, c2, c3] at g0 g1 g2
      rw [List.getElem?_eq_getElem (by omega)] at g0 g1 g2
      obtain ⟨s0, e0, _, _⟩ := DataW.trod_string Tryz.underlying9 g0
      injection e0 with e0
      subst e0
      obtain ⟨A, pc, ps, rfl, hp, hpc, hpm⟩ := pr_of_trod g1
      have hmem : xs[2].1 ∈ xs.map (·.1) := List.mem_map.2 ⟨_, List.getElem_mem _, rfl⟩
      have hsz : SizeOf.sizeOf xs[2].1 ≤ N := by
        have h1 := List.sizeOf_lt_of_mem hmem
        injection hd with hd _
        rw [hd] at hN
        simp only [DataW.agg.sizeOf_spec] at hN
        omega
      rcases hx2 : xs[2] with ⟨d2, pl2⟩
      rw [hx2] at g2 hsz
      simp only at hsz
      rcases Deep.open_slice Tryz.underlying23 g2 with ⟨hcs, _⟩ | ⟨a, len, cap, m, n, D, Pl, hcs, hb, hl, hm, hmm, hdd, hx⟩
      · simp at hcs
        subst hcs
        exact ⟨.mk s0 ps [], _, _, rfl, .mk s0 ps [] A none pc 0 (fun _ => undef) (fun _ => undef) hp hpc hpm (Nat.le_refl _) (Nat.zero_le _) (.inl rfl) (fun i hi => absurd hi (Nat.not_lt_zero i))⟩
      · simp at hcs
        subst hcs
        have hmc : m = cap := by simpa using hmm
        rw [cN] at hx
        have each : ∀ i, i < len → ∃ x : ND × Value × Value, (W.cell? (a.add (i * 3)) = some (.string x.1.nm) ∧ W.cell? (a.add (i * 3 + 1)) = some x.2.1 ∧ W.cell? (a.add (i * 3 + 2)) = some x.2.2) ∧ NdAt W (fun k => k < W.heap.size) x.1 x.2.1 x.2.2 := by
          intro i hi
          obtain ⟨cs', h1, h2⟩ := hx i (by omega)
          obtain ⟨_, hlen, hcell⟩ := World.cells?_some h1
          have hDs : SizeOf.sizeOf (D i) ≤ N := by
            injection hdd with hdd _
            have hin : D i ∈ (List.range len).map D := List.mem_map.2 ⟨i, List.mem_range.2 hi, rfl⟩
            have h3 := List.sizeOf_lt_of_mem hin
            rw [hdd] at hsz
            simp only [DataW.slice.sizeOf_spec] at hsz
            omega
          obtain ⟨x, y, z, rfl, hn⟩ := nd_of_trod N n cs' (D i) (Pl i) hDs h2
          have q0 := hcell 0 (by omega)
          have q1 := hcell 1 (by omega)
          have q2 := hcell 2 (by omega)
          rw [Deep.add_add] at q0 q1 q2
          exact ⟨(x, y, z), ⟨by simpa using q0, by simpa using q1, by simpa using q2⟩, hn⟩
        obtain ⟨q, hq⟩ := @Deep.choose_lt (ND × Value × Value) ⟨(nd0, undef, undef)⟩ _ _ each
        have hlen : ((List.range len).map fun i => (q i).1).length = len := by simp
        have hget : ∀ k, k < len → ((List.range len).map fun i => (q i).1).getD k nd0 = (q k).1 := fun k hk => by
          rw [List.getD_eq_getElem?_getD, List.getElem?_map, List.getElem?_range hk]; rfl
        refine ⟨.mk s0 ps ((List.range len).map fun i => (q i).1), .slice A ps.length pc, .slice (some a) len cap, rfl, ?_⟩
        have hres := NdAt.mk (w := W) (G := fun k => k < W.heap.size) s0 ps ((List.range len).map fun i => (q i).1) A (some a) pc cap (fun i => (q i).2.1) (fun i => (q i).2.2) hp hpc hpm (by omega) hm ?_ ?_
        · rw [hlen] at hres; exact hres
        · by_cases hpo : 0 < len
          · obtain ⟨b, off, spot⟩ := a
            obtain rfl : spot = none := by simpa [Addr.add] using World.cell?_spot (hq 0 hpo).1.1
            have h0 := (hq 0 hpo).1.1
            rw [add_off] at h0
            refine .inr ⟨b, off, rfl, World.block_lt_of_cell? W _ h0, fun k hk => ?_⟩
            rw [hlen] at hk
            obtain ⟨⟨q0, q1, q2⟩, _⟩ := hq k hk
            rw [add_off] at q0 q1 q2
            rw [hget k hk]
            exact ⟨q0, by rw [Nat.add_assoc]; exact q1, by rw [Nat.add_assoc]; exact q2⟩
          · exact .inl (List.length_eq_zero_iff.1 (by omega))
        · intro i hi
          rw [hlen] at hi
          rw [hget i hi]
          exact (hq i hi).2
end Go.Proofs.YtgfdbmbgldeljaaGreat
