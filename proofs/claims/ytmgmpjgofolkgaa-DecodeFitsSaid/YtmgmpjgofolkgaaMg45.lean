/- The program's Tree of layer 14. Conditions: strings of at most 2^40 bytes. -/
import Derived.Test.YtmgmpjgofolkgaaMg44
import Derived.Test.YtmgmpjgofolkgaaMg29
namespace Go.Proofs.Ytmgmpjgofolkgaa
open Go.RowKit

set_option maxHeartbeats 3200000 in
set_option maxRecDepth 100000 in
theorem dtree_any (s : ByteArray) (w : World) (hs : s.size ≤ 1099511627776) :
    Calls Try.prog 6 #[.string s] w fun e w' => ∃ v2 v3 A cap, e = .returned (.tuple #[.agg (dtC (treeD s.data.toList).1.rt.nm v2 v3 (.slice A (treeD s.data.toList).1.rs.length cap) (treeD s.data.toList).1.bo), .int .i64 ((treeD s.data.toList).2 : Int)]) ∧ DtAt w' (treeD s.data.toList).1 v2 v3 A ∧ Below w.heap.size w w' := by
  have HRD := Lib.hid (fun W => hread_any s W (by unfold maxLen; omega))
  have HT0 := Lib.hid (Arr.new w 29 dtZ)
  have HB0 := Lib.hid ((Below.refl w.heap.size w).alloc (Nat.le_refl _) (.cells dtZ 29))
  have hgl : w.heap.size < (w.alloc (.cells dtZ 29)).heap.size := by rw [sz_alloc]; omega
  by_cases h0 : (readH s.data.toList).2 = 0
  · obtain ⟨h, hh⟩ : ∃ h, readH s.data.toList = (h, 0) := ⟨_, Prod.ext rfl h0⟩
    obtain ⟨hm, hl1, hl2, hl3, -⟩ := readH_ok hh
    have hm := mayH_iff.1 hm
    have hlen : s.data.toList.length = s.size := rfl
    have HE0 : Hid (treeD s.data.toList = bodyD (s.data.toList.take h.tot.toNat) h) := by
      unfold Hid treeD
      rw [hh]
      exact if_neg (by simp)
    rw [hh] at HRD
    generalize treeD s.data.toList = R at *
    rw [hlen] at hl1
    obtain ⟨tt, st, sg, rv, bo, tx, sz⟩ := h
    simp only at hm hl1 hl2 HE0 HRD
    obtain ⟨n, rfl⟩ : ∃ n : Nat, tt = (n : Int) := ⟨tt.toNat, by omega⟩
    have hn0 : (0 : Int) ≤ n := by omega
    have hsn : (s.extract 0 n).size ≤ 1099511627776 := by rw [ByteArray.size_extract]; omega
    rw [Int.toNat_natCast, ← ext0_list] at HE0
    generalize hss : s.extract 0 n = S at *
    have HRS := Lib.hid (fun W => dreserve_any S rv W hsn (by omega))
    have HRO := Lib.hid (fun W => droot_any S ⟨n, st, sg, rv, bo, tx, sz⟩ W hsn (by unfold in64; simp only; omega) (by unfold in64; simp only; omega) (by unfold in64; simp only; omega) (by unfold in64; simp only; omega))
    rw [bodyD_root] at HE0
    simp only at HE0
    generalize rootD S ⟨n, st, sg, rv, bo, tx, sz⟩ = RO at *
    obtain ⟨nd, eo⟩ := RO
    simp only at HE0 HRO
    generalize resv S.data.toList rv = V at *
    obtain ⟨K, ev⟩ := V
    simp only at HE0 HRS
    rename_i hm9
    clear hm9 hm hl2 hl3 hlen hsn h0 hh
    go_enter Try.func6, Try.ntmps6
    go_wp2_with fail
    refine (HRD.out _).mono ?_
    rintro e w1 ⟨rfl, hb1⟩
    have HT1 := Lib.hid (HT0.out.below hb1 HT0.out.lt)
    have HB1 := Lib.hid (HB0.out.trans (hb1.mono HB0.out.size))
    have hz1 := HB1.out.size
    have hgl1 := HT1.out.lt
    clear hb1 HT0 HB0 HRD hgl
    have HAN := Lib.hid (Arr.new w1 36 hdZ)
    have HH := Lib.hid (HAN.out.row (#[.int .i64 n, .int .i64 st, .int .i64 sg, .int .i64 rv, .int .i64 bo, .int .i64 tx, .int .i64 sz] : Array Value))
    have HT := Lib.hid ((HT1.out.alloc (.cells hdZ 36)).rowFar (Nat.ne_of_lt hgl1) #[.int .i64 n, .int .i64 st, .int .i64 sg, .int .i64 rv, .int .i64 bo, .int .i64 tx, .int .i64 sz])
    have HB : Hid (Below w.heap.size w ((w1.alloc (.cells hdZ 36)).setRow w1.heap.size #[.int .i64 n, .int .i64 st, .int .i64 sg, .int .i64 rv, .int .i64 bo, .int .i64 tx, .int .i64 sz])) := below_setRow (HB1.out.alloc hz1 _) hz1 _
    go_upto_region 2 with (refine wpList_store_row rfl 36 (.tmp 4) (.tmp 11) rfl w1.heap.size #[.int .i64 n, .int .i64 st, .int .i64 sg, .int .i64 rv, .int .i64 bo, .int .i64 tx, .int .i64 sz] rfl rfl _ _ HAN.out (infoH hd0) rfl (hdC_one ⟨n, st, sg, rv, bo, tx, sz⟩) ?_)
    clear HAN HT1 HB1
    generalize (w1.alloc (.cells hdZ 36)).setRow w1.heap.size #[.int .i64 n, .int .i64 st, .int .i64 sg, .int .i64 rv, .int .i64 bo, .int .i64 tx, .int .i64 sz] = W2 at *
    generalize w1.heap.size = gh at *
    have c0 : W2.cell? ⟨gh, 0, none⟩ = some (.int .i64 n) := HH.out.cell 0
    have c3 : W2.cell? ⟨gh, 3, none⟩ = some (.int .i64 rv) := HH.out.cell 3
    go_wp2_with fail
    refine (HRS.out _).mono ?_
    rintro e w3 ⟨A3, k3, rfl, hsp, hfar, hb⟩
    have HS := Lib.hid hsp
    have HF : Hid (SpFar (w.heap.size + 1) A3 K) := hfar.imp id fun ⟨b, off, e, h⟩ => ⟨b, off, e, Nat.le_trans (Nat.succ_le_of_lt HT.out.lt) h⟩
    have HT := Lib.hid (HT.out.below hb HT.out.lt)
    have HH := Lib.hid (HH.out.below hb HH.out.lt)
    have HB := Lib.hid (HB.out.trans (hb.mono HB.out.size))
    clear hb
    clear hsp hfar c0 c3 HRS
    by_cases he1 : ev = 0
    · subst he1
      rw [if_neg (by simp)] at HE0
      go_wp2_with (refine wpList_load_row rfl 36 (.tmp 4) rfl gh rfl _ #[.int .i64 n, .int .i64 st, .int .i64 sg, .int .i64 rv, .int .i64 bo, .int .i64 tx, .int .i64 sz] _ _ HH.out Try.underlying36 rfl (infoH hd0) ?_)
      refine (HRO.out _).mono ?_
      rintro e w7 ⟨v2, v3, rfl, hnd, hb⟩
      obtain ⟨B2, B3, m2, m3, rfl, rfl, hsh⟩ := nd_shape hnd
      have HS := Lib.hid (HS.out.below hb)
      have HND := Lib.hid hnd
      have HGL := Lib.hid (Nat.lt_of_lt_of_le HT.out.lt (Nat.le_refl w3.heap.size))
      have HT := Lib.hid (HT.out.below hb HT.out.lt)
      have HH := Lib.hid (HH.out.below hb HH.out.lt)
      have HB := Lib.hid (HB.out.trans (hb.mono HB.out.size))
      clear hb
      clear hnd hsh HRO
      have hbn : Below w7.heap.size w7 (w7.alloc (.cells #[.string nd.nm, .slice B2 nd.ps.length m2, .slice B3 nd.ks.length m3] 26)) := (Below.refl _ _).alloc (Nat.le_refl _) _
      have HNN := Lib.hid (Arr.new w7 26 #[.string nd.nm, .slice B2 nd.ps.length m2, .slice B3 nd.ks.length m3])
      have HT := Lib.hid (HT.out.below hbn HT.out.lt)
      have HH := Lib.hid (HH.out.below hbn HH.out.lt)
      have HS := Lib.hid (HS.out.below hbn)
      have HND := Lib.hid (nd_below HND.out hbn)
      have HB := Lib.hid (HB.out.trans (hbn.mono HB.out.size))
      clear hbn
      go_upto_region 9 with fail
      generalize w7.alloc (.cells #[.string nd.nm, .slice B2 nd.ps.length m2, .slice B3 nd.ks.length m3] 26) = W8 at *
      generalize w7.heap.size = gn at *
      by_cases he3 : eo = 0
      · subst he3
        rw [if_neg (by simp)] at HE0
        have c4 : W8.cell? ⟨gh, 4, none⟩ = some (.int .i64 bo) := HH.out.cell 4
        have HNF : Hid (NdAt (W8.setRow w.heap.size #[.string nd.nm, .slice B2 nd.ps.length m2, .slice B3 nd.ks.length m3, .slice A3 K.length k3, .int .i64 bo]) (fun k => w3.heap.size ≤ k) nd (.slice B2 nd.ps.length m2) (.slice B3 nd.ks.length m3)) :=
          HND.out.kept (moved_setRow W8 _ _) (fun k hk e => by have := HGL.out; omega)
        have HSF := Lib.hid (rdSp_row (cs := #[.string nd.nm, .slice B2 nd.ps.length m2, .slice B3 nd.ks.length m3, .slice A3 K.length k3, .int .i64 bo]) HS.out HF.out (Nat.lt_succ_self _))
        clear HS HND HH
        go_wp2_with (first | (refine wpList_load_row rfl 26 (.tmp 7) rfl gn rfl _ _ _ _ HNN.out Try.underlying26 rfl (infoNd _ _ _) ?_) | (refine wpList_store_row rfl 29 (.tmp 2) (.tmp 46) rfl w.heap.size (dtC nd.nm (.slice B2 nd.ps.length m2) (.slice B3 nd.ks.length m3) (.slice A3 K.length k3) bo) rfl rfl _ _ HT.out (infoDt nd.nm (.slice B2 nd.ps.length m2) (.slice B3 nd.ks.length m3) (.slice A3 K.length k3) bo) rfl (dtC_one nd.nm (.slice B2 nd.ps.length m2) (.slice B3 nd.ks.length m3) (.slice A3 K.length k3) bo rfl rfl rfl) ?_))
        exact bodyPost_ret (results_rowN rfl _ _ w.heap.size _ (dtC nd.nm (.slice B2 nd.ps.length m2) (.slice B3 nd.ks.length m3) (.slice A3 K.length k3) bo) _ _ rfl (HT.out.row _) Try.underlying29 rfl (infoDt nd.nm (.slice B2 nd.ps.length m2) (.slice B3 nd.ks.length m3) (.slice A3 K.length k3) bo)) rfl ⟨_, _, _, _, by rw [HE0.out]; rfl, by rw [HE0.out]; exact ⟨(nd_lt HNF.out), HSF.out⟩, below_setRow HB.out (Nat.le_refl _) _⟩
      · have d1 : ((eo : Int) != 0) = true := by simp; omega
        have HE1 : Hid (R = (dt0, eo)) := by unfold Hid; rw [HE0.out, if_pos he3]
        clear he3 HE0 HS HF HND HH HNN
        go_wp2_with (refine wpList_store_row rfl 29 (.tmp 2) (.tmp 40) rfl w.heap.size dtZ rfl rfl _ _ HT.out infoDz rfl dtZ_one ?_)
        exact bodyPost_ret (results_rowN rfl _ _ w.heap.size _ dtZ _ _ rfl (HT.out.row _) Try.underlying29 rfl infoDz) rfl ⟨_, _, _, _, by rw [HE1.out]; rfl, by rw [HE1.out]; exact dtAt_zero _, below_setRow HB.out (Nat.le_refl _) _⟩
    · have d1 : ((ev : Int) != 0) = true := by simp; omega
      have HE1 : Hid (R = (dt0, ev)) := by unfold Hid; rw [HE0.out, if_pos he1]
      clear he1 HE0 HRO HS HF HH
      go_wp2_with (refine wpList_store_row rfl 29 (.tmp 2) (.tmp 30) rfl w.heap.size dtZ rfl rfl _ _ HT.out infoDz rfl dtZ_one ?_)
      exact bodyPost_ret (results_rowN rfl _ _ w.heap.size _ dtZ _ _ rfl (HT.out.row _) Try.underlying29 rfl infoDz) rfl ⟨_, _, _, _, by rw [HE1.out]; rfl, by rw [HE1.out]; exact dtAt_zero _, below_setRow HB.out (Nat.le_refl _) _⟩
  · have HE1 : Hid (treeD s.data.toList = (dt0, (readH s.data.toList).2)) := if_pos h0
    have HHZ : Hid ((readH s.data.toList).1 = hd0) := readH_bad (s := s.data.toList) (Prod.ext rfl rfl) h0
    generalize treeD s.data.toList = R at *
    generalize readH s.data.toList = D at *
    obtain ⟨dh, de⟩ := D
    simp only at HE1 HHZ h0 HRD
    obtain rfl := HHZ.out
    have d1 : ((de : Int) != 0) = true := by simp; omega
    clear h0 HHZ
    go_enter Try.func6, Try.ntmps6
    go_wp2_with fail
    refine (HRD.out _).mono ?_
    rintro e w1 ⟨rfl, hb1⟩
    have HT1 := Lib.hid (HT0.out.below hb1 HT0.out.lt)
    have HB1 := Lib.hid (HB0.out.trans (hb1.mono HB0.out.size))
    have hz1 := HB1.out.size
    have hgl1 := HT1.out.lt
    clear hb1 HT0 HB0 HRD hgl
    have HAN := Lib.hid (Arr.new w1 36 hdZ)
    have HT := Lib.hid ((HT1.out.alloc (.cells hdZ 36)).rowFar (Nat.ne_of_lt hgl1) hdZ)
    have HB : Hid (Below w.heap.size w ((w1.alloc (.cells hdZ 36)).setRow w1.heap.size hdZ)) := below_setRow (HB1.out.alloc hz1 _) hz1 _
    go_upto_region 2 with (refine wpList_store_row rfl 36 (.tmp 4) (.tmp 11) rfl w1.heap.size hdZ rfl rfl _ _ HAN.out (infoH hd0) rfl (hdC_one hd0) ?_)
    clear HAN HT1 HB1
    generalize (w1.alloc (.cells hdZ 36)).setRow w1.heap.size hdZ = W2 at *
    generalize w1.heap.size = gh at *
    go_wp2_with (refine wpList_store_row rfl 29 (.tmp 2) (.tmp 15) rfl w.heap.size dtZ rfl rfl _ _ HT.out infoDz rfl dtZ_one ?_)
    exact bodyPost_ret (results_rowN rfl _ _ w.heap.size _ dtZ _ _ rfl (HT.out.row _) Try.underlying29 rfl infoDz) rfl ⟨_, _, _, _, by rw [HE1.out]; rfl, by rw [HE1.out]; exact dtAt_zero _, below_setRow HB.out (Nat.le_refl _) _⟩
end Go.Proofs.Ytmgmpjgofolkgaa

/- dec_must: what the laws' walks of layer 14 lean on holds of package decode. Conditions: strings of at most 2^40 bytes. -/
namespace Go.Proofs.Ytmgmpjgofolkgaa
open Go.RowKit

theorem dec_must : DecMust where
  tree := dtree_any
  reserve := fun s a w hs ha => (dreserve_any s a w hs ha).mono fun _ _ ⟨A, cap, h1, h2, _, h3⟩ => ⟨A, cap, h1, h2, h3⟩
  size := dsize_any
end Go.Proofs.Ytmgmpjgofolkgaa
