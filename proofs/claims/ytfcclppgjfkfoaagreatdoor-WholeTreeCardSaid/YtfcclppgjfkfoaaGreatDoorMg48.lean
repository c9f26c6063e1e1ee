/- The program's root and Tree of layer 14. Conditions: strings of at most 2^40 bytes. -/
import Derived.Test.YtfcclppgjfkfoaaGreatDoorMg43
import Derived.Test.YtfcclppgjfkfoaaGreatDoorMg21
import Derived.Test.YtfcclppgjfkfoaaGreatDoorMg45
import Derived.Test.YtfcclppgjfkfoaaGreatDoorMg47
namespace Go.Proofs.YtfcclppgjfkfoaaGreatDoor
open Go.RowKit

/-- The root of the structure and the strings to which a header refers. -/
def rootD (s : ByteArray) (h : HD) : ND × Nat :=
  if (readR 1024 (partR s h.stc h.siz).1.data.toList (partR s h.sgs h.txs).1.data.toList).2 ≠ 0 then (nd0, (readR 1024 (partR s h.stc h.siz).1.data.toList (partR s h.sgs h.txs).1.data.toList).2)
  else ofR (readR 1024 (partR s h.stc h.siz).1.data.toList (partR s h.sgs h.txs).1.data.toList).1
theorem bodyD_root (s : ByteArray) (h : HD) : bodyD s.data.toList h = if (resv s.data.toList h.rsv).2 ≠ 0 then (dt0, (resv s.data.toList h.rsv).2) else if (rootD s h).2 ≠ 0 then (dt0, (rootD s h).2) else (⟨(rootD s h).1, (resv s.data.toList h.rsv).1, h.boo⟩, 0) := by
  unfold bodyD partB
  rw [show (⟨s.data.toList.toArray⟩ : ByteArray) = s from rfl]
  unfold rootD
  generalize readR 1024 (partR s h.stc h.siz).1.data.toList (partR s h.sgs h.txs).1.data.toList = T
  by_cases h1 : T.2 ≠ 0
  · simp only [if_pos h1]
  · simp only [if_neg h1]

theorem nd_oneD (a : ByteArray) (P : Option Addr) (pn pc : Nat) (Q : Option Addr) (qn qc : Nat) : (#[.string a, .slice P pn pc, .slice Q qn qc] : Array Value).all (·.oneCell') = true := by
  rw [Array.all_eq_true_iff_forall_mem]
  intro v hv
  simp at hv
  rcases hv with rfl | rfl | rfl <;> rfl

set_option maxHeartbeats 1600000 in
set_option maxRecDepth 100000 in
theorem droot_any (s : ByteArray) (h : HD) (w : World) (hs : s.size ≤ 1099511627776) (h1 : in64 h.stc) (h2 : in64 h.siz) (h3 : in64 h.sgs) (h4 : in64 h.txs) :
    Calls Tryz.prog 16 #[.string s, .agg (hdC h)] w fun e w' => ∃ v2 v3, e = .returned (.tuple #[.agg #[.string (rootD s h).1.nm, v2, v3], .int .i64 ((rootD s h).2 : Int)]) ∧ NdAt w' (fun k => w.heap.size ≤ k) (rootD s h).1 v2 v3 ∧ Below w.heap.size w w' := by
  obtain ⟨R, hR⟩ : ∃ R, rootD s h = R := ⟨_, rfl⟩
  have HE0 : Hid (R = if (readR 1024 (partR s h.stc h.siz).1.data.toList (partR s h.sgs h.txs).1.data.toList).2 ≠ 0 then (nd0, (readR 1024 (partR s h.stc h.siz).1.data.toList (partR s h.sgs h.txs).1.data.toList).2)
    else ofR (readR 1024 (partR s h.stc h.siz).1.data.toList (partR s h.sgs h.txs).1.data.toList).1) := hR.symm
  rw [hR]
  clear hR
  obtain ⟨n, st, sg, rv, bo, tx, sz⟩ := h
  simp only at HE0 h1 h2 h3 h4
  have HPA := Lib.hid (fun W => hpart_any s st sz W (by unfold maxLen; omega) h1 h2)
  have HPB := Lib.hid (fun W => hpart_any s sg tx W (by unfold maxLen; omega) h3 h4)
  have hpa : (partR s st sz).1.size ≤ 1099511627776 := partR_le s st sz hs
  have hpb : (partR s sg tx).1.size ≤ 1099511627776 := partR_le s sg tx hs
  generalize partR s st sz = PA at *
  generalize partR s sg tx = PB at *
  obtain ⟨pa, ea⟩ := PA
  obtain ⟨pb, eb⟩ := PB
  simp only at HE0 HPA HPB hpa hpb
  have HK := Lib.hid (fun W => read_any pa pb W hpa hpb)
  generalize readR 1024 pa.data.toList pb.data.toList = T at *
  obtain ⟨L, et⟩ := T
  simp only at HE0 HK
  have HO := Lib.hid (fun A cap W h hc hm => tOf_any A cap L W h hc hm)
  generalize ofR L = O at *
  obtain ⟨nd, eo⟩ := O
  simp only at HE0 HO
  obtain ⟨W1, hW1⟩ : ∃ W1, W1 = (w.alloc (.cells (hdC ⟨n, st, sg, rv, bo, tx, sz⟩) 51)).alloc (.cells #[.string ⟨#[]⟩, .slice none 0 0, .slice none 0 0] 28) := ⟨_, rfl⟩
  obtain ⟨g8, hg8⟩ : ∃ g8, g8 = w.heap.size := ⟨_, rfl⟩
  obtain ⟨g9, hg9⟩ : ∃ g9, g9 = w.heap.size + 1 := ⟨_, rfl⟩
  have hB1 : Below w.heap.size w W1 := by rw [hW1]; exact ((Below.refl _ _).alloc (Nat.le_refl _) _).alloc (by rw [sz_alloc]; omega) _
  have HH : Hid (Arr W1 g8 51 #[.int .i64 n, .int .i64 st, .int .i64 sg, .int .i64 rv, .int .i64 bo, .int .i64 tx, .int .i64 sz]) := by rw [hW1, hg8]; exact (Arr.new w _ _).alloc _
  have HT : Hid (Arr W1 g9 28 #[.string ⟨#[]⟩, .slice none 0 0, .slice none 0 0]) := by rw [hW1, hg9]; exact Arr.new1 w _ _ _
  have HB := Lib.hid hB1
  have HG9 := Lib.hid hg9
  have HGL : Hid (w.heap.size ≤ g9) := by unfold Hid; omega
  have c1 : W1.cell? ⟨g8, 1, none⟩ = some (.int .i64 st) := HH.out.cell 1
  have c6 : W1.cell? ⟨g8, 6, none⟩ = some (.int .i64 sz) := HH.out.cell 6
  clear h1 h2 h3 h4 hpa hpb hB1
  go_enter Tryz.func16, Tryz.ntmps16
  go_upto_region 1 with fail
  rw [← hW1, ← hg9, ← hg8]
  clear hW1 hg9 hg8
  go_wp2_with fail
  refine (HPA.out _).mono ?_
  rintro e w4 ⟨rfl, hb⟩
  have HT := Lib.hid (HT.out.below hb HT.out.lt)
  have HH := Lib.hid (HH.out.below hb HH.out.lt)
  have HB := Lib.hid (HB.out.trans (hb.mono HB.out.size))
  clear hb c1 c6 HPA
  have c2 : w4.cell? ⟨g8, 2, none⟩ = some (.int .i64 sg) := HH.out.cell 2
  have c5 : w4.cell? ⟨g8, 5, none⟩ = some (.int .i64 tx) := HH.out.cell 5
  go_wp2_with fail
  refine (HPB.out _).mono ?_
  rintro e w5 ⟨rfl, hb⟩
  have HT := Lib.hid (HT.out.below hb HT.out.lt)
  have HB := Lib.hid (HB.out.trans (hb.mono HB.out.size))
  clear hb c2 c5 HPB HH
  go_wp2_with fail
  refine (HK.out _).mono ?_
  rintro e w6 ⟨v, rfl, ⟨A6, k6, rfl, hrd, hc6, hm6⟩, hb⟩
  have HRT := Lib.hid hrd
  have HT := Lib.hid (HT.out.below hb HT.out.lt)
  have HB := Lib.hid (HB.out.trans (hb.mono HB.out.size))
  clear hb HK hrd
  by_cases he2 : et = 0
  · subst he2
    rw [if_neg (by simp)] at HE0
    obtain rfl := HE0.out
    have HC := Lib.hid (HO.out _ _ _ HRT.out hc6 hm6)
    clear HO HRT hc6 hm6 HE0
    go_wp2_with fail
    refine HC.out.mono ?_
    rintro e w7 ⟨v2, v3, rfl, hnd, hb⟩
    obtain ⟨B2, B3, m2, m3, rfl, rfl, hsh⟩ := nd_shape hnd
    have HLT := Lib.hid HT.out.lt
    have HT := Lib.hid (HT.out.below hb HT.out.lt)
    have HB := Lib.hid (HB.out.trans (hb.mono HB.out.size))
    have HNF : Hid (NdAt (w7.setRow g9 #[.string nd.nm, .slice B2 nd.ps.length m2, .slice B3 nd.ks.length m3]) (fun k => w6.heap.size ≤ k) nd (.slice B2 nd.ps.length m2) (.slice B3 nd.ks.length m3)) :=
      hnd.kept (moved_setRow w7 _ _) (fun k hk e => by have := HLT.out; omega)
    have HWS := Lib.hid (Nat.le_trans HGL.out (Nat.le_of_lt HLT.out))
    clear hb hnd hsh HC
    go_wp2_with (refine wpList_store_row rfl 28 (.tmp 4) (.tmp 44) rfl g9 #[.string nd.nm, .slice B2 nd.ps.length m2, .slice B3 nd.ks.length m3] rfl rfl _ _ HT.out (infoNd _ _ _) rfl (nd_oneD _ _ _ _ _ _ _) ?_)
    exact bodyPost_ret (results_rowN rfl _ _ g9 _ #[.string nd.nm, .slice B2 nd.ps.length m2, .slice B3 nd.ks.length m3] _ _ rfl (HT.out.row _) Tryz.underlying28 rfl (infoNd _ _ _)) rfl ⟨_, _, rfl, HNF.out.mono (fun k hk => Nat.le_trans HWS.out hk), below_setRow HB.out HGL.out _⟩
  · have d1 : ((et : Int) != 0) = true := by simp; omega
    have HE1 : Hid (R = (nd0, et)) := by unfold Hid; rw [HE0.out, if_pos he2]
    obtain rfl := HE1.out
    clear he2 HE0 HO HRT HE1 hc6 hm6
    go_wp2_with (refine wpList_store_row rfl 28 (.tmp 4) (.tmp 40) rfl g9 #[.string ⟨#[]⟩, .slice none 0 0, .slice none 0 0] rfl rfl _ _ HT.out (infoNd _ _ _) rfl zl_one ?_)
    exact bodyPost_ret (results_rowN rfl _ _ g9 _ #[.string ⟨#[]⟩, .slice none 0 0, .slice none 0 0] _ _ rfl (HT.out.row _) Tryz.underlying28 rfl (infoNd _ _ _)) rfl ⟨_, _, rfl, nd0_at _ _, below_setRow HB.out HGL.out _⟩
end Go.Proofs.YtfcclppgjfkfoaaGreatDoor

/- The program's Tree of layer 14. Conditions: strings of at most 2^40 bytes. -/
namespace Go.Proofs.YtfcclppgjfkfoaaGreatDoor
open Go.RowKit

set_option maxHeartbeats 3200000 in
set_option maxRecDepth 100000 in
theorem dtree_any (s : ByteArray) (w : World) (hs : s.size ≤ 1099511627776) :
    Calls Tryz.prog 5 #[.string s] w fun e w' => ∃ v2 v3 A cap, e = .returned (.tuple #[.agg (dtC (treeD s.data.toList).1.rt.nm v2 v3 (.slice A (treeD s.data.toList).1.rs.length cap) (treeD s.data.toList).1.bo), .int .i64 ((treeD s.data.toList).2 : Int)]) ∧ DtAt w' (treeD s.data.toList).1 v2 v3 A ∧ Below w.heap.size w w' := by
  have HRD := Lib.hid (fun W => hread_any s W (by unfold maxLen; omega))
  have HT0 := Lib.hid (Arr.new w 31 dtZ)
  have HB0 := Lib.hid ((Below.refl w.heap.size w).alloc (Nat.le_refl _) (.cells dtZ 31))
  have hgl : w.heap.size < (w.alloc (.cells dtZ 31)).heap.size := by rw [sz_alloc]; omega
  by_cases h0 : (readH s.data.toList).2 = 0
  · obtain ⟨h, hh⟩ : ∃ h, readH s.data.toList = (h, 0) := ⟨_, Prod.ext rfl h0⟩
    obtain ⟨hm, hl1, hl2, hl3, -⟩ := readH_ok hh
    have hm := mayH_iff.1 hm
    have hlen : s.data.toList.length = s.size := rfl
    have HE0 : Hid (treeD s.data.toList = bodyD (s.data.toList.take h.tot.toNat) h) := by
      unfold Hid treeD
      rw [hh]
      exact if_neg (by simp)
    rw [hh] at HRD
    generalize treeD s.data.toList = R at *
    rw [hlen] at hl1
    obtain ⟨tt, st, sg, rv, bo, tx, sz⟩ := h
    simp only at hm hl1 hl2 HE0 HRD
    obtain ⟨n, rfl⟩ : ∃ n : Nat, tt = (n : Int) := ⟨tt.toNat, by omega⟩
    have hn0 : (0 : Int) ≤ n := by omega
    have hsn : (s.extract 0 n).size ≤ 1099511627776 := by rw [ByteArray.size_extract]; omega
    rw [Int.toNat_natCast, ← ext0_list] at HE0
    generalize hss : s.extract 0 n = S at *
    have HRS := Lib.hid (fun W => dreserve_any S rv W hsn (by omega))
    have HRO := Lib.hid (fun W => droot_any S ⟨n, st, sg, rv, bo, tx, sz⟩ W hsn (by unfold in64; simp only; omega) (by unfold in64; simp only; omega) (by unfold in64; simp only; omega) (by unfold in64; simp only; omega))
    rw [bodyD_root] at HE0
    simp only at HE0
    generalize rootD S ⟨n, st, sg, rv, bo, tx, sz⟩ = RO at *
    obtain ⟨nd, eo⟩ := RO
    simp only at HE0 HRO
    generalize resv S.data.toList rv = V at *
    obtain ⟨K, ev⟩ := V
    simp only at HE0 HRS
    rename_i hm9
    clear hm9 hm hl2 hl3 hlen hsn h0 hh
    go_enter Tryz.func5, Tryz.ntmps5
    go_wp2_with fail
    refine (HRD.out _).mono ?_
    rintro e w1 ⟨rfl, hb1⟩
    have HT1 := Lib.hid (HT0.out.below hb1 HT0.out.lt)
    have HB1 := Lib.hid (HB0.out.trans (hb1.mono HB0.out.size))
    have hz1 := HB1.out.size
    have hgl1 := HT1.out.lt
    clear hb1 HT0 HB0 HRD hgl
    have HAN := Lib.hid (Arr.new w1 51 hdZ)
    have HH := Lib.hid (HAN.out.row (#[.int .i64 n, .int .i64 st, .int .i64 sg, .int .i64 rv, .int .i64 bo, .int .i64 tx, .int .i64 sz] : Array Value))
    have HT := Lib.hid ((HT1.out.alloc (.cells hdZ 51)).rowFar (Nat.ne_of_lt hgl1) #[.int .i64 n, .int .i64 st, .int .i64 sg, .int .i64 rv, .int .i64 bo, .int .i64 tx, .int .i64 sz])
    have HB : Hid (Below w.heap.size w ((w1.alloc (.cells hdZ 51)).setRow w1.heap.size #[.int .i64 n, .int .i64 st, .int .i64 sg, .int .i64 rv, .int .i64 bo, .int .i64 tx, .int .i64 sz])) := below_setRow (HB1.out.alloc hz1 _) hz1 _
    go_upto_region 2 with (refine wpList_store_row rfl 51 (.tmp 4) (.tmp 11) rfl w1.heap.size #[.int .i64 n, .int .i64 st, .int .i64 sg, .int .i64 rv, .int .i64 bo, .int .i64 tx, .int .i64 sz] rfl rfl _ _ HAN.out (infoH hd0) rfl (hdC_one ⟨n, st, sg, rv, bo, tx, sz⟩) ?_)
    clear HAN HT1 HB1
    generalize (w1.alloc (.cells hdZ 51)).setRow w1.heap.size #[.int .i64 n, .int .i64 st, .int .i64 sg, .int .i64 rv, .int .i64 bo, .int .i64 tx, .int .i64 sz] = W2 at *
    generalize w1.heap.size = gh at *
    have c0 : W2.cell? ⟨gh, 0, none⟩ = some (.int .i64 n) := HH.out.cell 0
    have c3 : W2.cell? ⟨gh, 3, none⟩ = some (.int .i64 rv) := HH.out.cell 3
    go_wp2_with fail
    refine (HRS.out _).mono ?_
    rintro e w3 ⟨A3, k3, rfl, hsp, hfar, hb⟩
    have HS := Lib.hid hsp
    have HF : Hid (SpFar (w.heap.size + 1) A3 K) := hfar.imp id fun ⟨b, off, e, h⟩ => ⟨b, off, e, Nat.le_trans (Nat.succ_le_of_lt HT.out.lt) h⟩
    have HT := Lib.hid (HT.out.below hb HT.out.lt)
    have HH := Lib.hid (HH.out.below hb HH.out.lt)
    have HB := Lib.hid (HB.out.trans (hb.mono HB.out.size))
    clear hb
    clear hsp hfar c0 c3 HRS
    by_cases he1 : ev = 0
    · subst he1
      rw [if_neg (by simp)] at HE0
      go_wp2_with (refine wpList_load_row rfl 51 (.tmp 4) rfl gh rfl _ #[.int .i64 n, .int .i64 st, .int .i64 sg, .int .i64 rv, .int .i64 bo, .int .i64 tx, .int .i64 sz] _ _ HH.out Tryz.underlying51 rfl (infoH hd0) ?_)
      refine (HRO.out _).mono ?_
      rintro e w7 ⟨v2, v3, rfl, hnd, hb⟩
      obtain ⟨B2, B3, m2, m3, rfl, rfl, hsh⟩ := nd_shape hnd
      have HS := Lib.hid (HS.out.below hb)
      have HND := Lib.hid hnd
      have HGL := Lib.hid (Nat.lt_of_lt_of_le HT.out.lt (Nat.le_refl w3.heap.size))
      have HT := Lib.hid (HT.out.below hb HT.out.lt)
      have HH := Lib.hid (HH.out.below hb HH.out.lt)
      have HB := Lib.hid (HB.out.trans (hb.mono HB.out.size))
      clear hb
      clear hnd hsh HRO
      have hbn : Below w7.heap.size w7 (w7.alloc (.cells #[.string nd.nm, .slice B2 nd.ps.length m2, .slice B3 nd.ks.length m3] 28)) := (Below.refl _ _).alloc (Nat.le_refl _) _
      have HNN := Lib.hid (Arr.new w7 28 #[.string nd.nm, .slice B2 nd.ps.length m2, .slice B3 nd.ks.length m3])
      have HT := Lib.hid (HT.out.below hbn HT.out.lt)
      have HH := Lib.hid (HH.out.below hbn HH.out.lt)
      have HS := Lib.hid (HS.out.below hbn)
      have HND := Lib.hid (nd_below HND.out hbn)
      have HB := Lib.hid (HB.out.trans (hbn.mono HB.out.size))
      clear hbn
      go_upto_region 9 with fail
      generalize w7.alloc (.cells #[.string nd.nm, .slice B2 nd.ps.length m2, .slice B3 nd.ks.length m3] 28) = W8 at *
      generalize w7.heap.size = gn at *
      by_cases he3 : eo = 0
      · subst he3
        rw [if_neg (by simp)] at HE0
        have c4 : W8.cell? ⟨gh, 4, none⟩ = some (.int .i64 bo) := HH.out.cell 4
        have HNF : Hid (NdAt (W8.setRow w.heap.size #[.string nd.nm, .slice B2 nd.ps.length m2, .slice B3 nd.ks.length m3, .slice A3 K.length k3, .int .i64 bo]) (fun k => w3.heap.size ≤ k) nd (.slice B2 nd.ps.length m2) (.slice B3 nd.ks.length m3)) :=
          HND.out.kept (moved_setRow W8 _ _) (fun k hk e => by have := HGL.out; omega)
        have HSF := Lib.hid (rdSp_row (cs := #[.string nd.nm, .slice B2 nd.ps.length m2, .slice B3 nd.ks.length m3, .slice A3 K.length k3, .int .i64 bo]) HS.out HF.out (Nat.lt_succ_self _))
        clear HS HND HH
        go_wp2_with (first | (refine wpList_load_row rfl 28 (.tmp 7) rfl gn rfl _ _ _ _ HNN.out Tryz.underlying28 rfl (infoNd _ _ _) ?_) | (refine wpList_store_row rfl 31 (.tmp 2) (.tmp 46) rfl w.heap.size (dtC nd.nm (.slice B2 nd.ps.length m2) (.slice B3 nd.ks.length m3) (.slice A3 K.length k3) bo) rfl rfl _ _ HT.out (infoDt nd.nm (.slice B2 nd.ps.length m2) (.slice B3 nd.ks.length m3) (.slice A3 K.length k3) bo) rfl (dtC_one nd.nm (.slice B2 nd.ps.length m2) (.slice B3 nd.ks.length m3) (.slice A3 K.length k3) bo rfl rfl rfl) ?_))
        exact bodyPost_ret (results_rowN rfl _ _ w.heap.size _ (dtC nd.nm (.slice B2 nd.ps.length m2) (.slice B3 nd.ks.length m3) (.slice A3 K.length k3) bo) _ _ rfl (HT.out.row _) Tryz.underlying31 rfl (infoDt nd.nm (.slice B2 nd.ps.length m2) (.slice B3 nd.ks.length m3) (.slice A3 K.length k3) bo)) rfl ⟨_, _, _, _, by rw [HE0.out]; rfl, by rw [HE0.out]; exact ⟨(nd_lt HNF.out), HSF.out⟩, below_setRow HB.out (Nat.le_refl _) _⟩
      · have d1 : ((eo : Int) != 0) = true := by simp; omega
        have HE1 : Hid (R = (dt0, eo)) := by unfold Hid; rw [HE0.out, if_pos he3]
        clear he3 HE0 HS HF HND HH HNN
        go_wp2_with (refine wpList_store_row rfl 31 (.tmp 2) (.tmp 40) rfl w.heap.size dtZ rfl rfl _ _ HT.out infoDz rfl dtZ_one ?_)
        exact bodyPost_ret (results_rowN rfl _ _ w.heap.size _ dtZ _ _ rfl (HT.out.row _) Tryz.underlying31 rfl infoDz) rfl ⟨_, _, _, _, by rw [HE1.out]; rfl, by rw [HE1.out]; exact dtAt_zero _, below_setRow HB.out (Nat.le_refl _) _⟩
    · have d1 : ((ev : Int) != 0) = true := by simp; omega
      have HE1 : Hid (R = (dt0, ev)) := by unfold Hid; rw [HE0.out, if_pos he1]
      clear he1 HE0 HRO HS HF HH
      go_wp2_with (refine wpList_store_row rfl 31 (.tmp 2) (.tmp 30) rfl w.heap.size dtZ rfl rfl _ _ HT.out infoDz rfl dtZ_one ?_)
      exact bodyPost_ret (results_rowN rfl _ _ w.heap.size _ dtZ _ _ rfl (HT.out.row _) Tryz.underlying31 rfl infoDz) rfl ⟨_, _, _, _, by rw [HE1.out]; rfl, by rw [HE1.out]; exact dtAt_zero _, below_setRow HB.out (Nat.le_refl _) _⟩
  · have HE1 : Hid (treeD s.data.toList = (dt0, (readH s.data.toList).2)) := if_pos h0
    have HHZ : Hid ((readH s.data.toList).1 = hd0) := readH_bad (s := s.data.toList) (Prod.ext rfl rfl) h0
    generalize treeD s.data.toList = R at *
    generalize readH s.data.toList = D at *
    obtain ⟨dh, de⟩ := D
    simp only at HE1 HHZ h0 HRD
    obtain rfl := HHZ.out
    have d1 : ((de : Int) != 0) = true := by simp; omega
    clear h0 HHZ
    go_enter Tryz.func5, Tryz.ntmps5
    go_wp2_with fail
    refine (HRD.out _).mono ?_
    rintro e w1 ⟨rfl, hb1⟩
    have HT1 := Lib.hid (HT0.out.below hb1 HT0.out.lt)
    have HB1 := Lib.hid (HB0.out.trans (hb1.mono HB0.out.size))
    have hz1 := HB1.out.size
    have hgl1 := HT1.out.lt
    clear hb1 HT0 HB0 HRD hgl
    have HAN := Lib.hid (Arr.new w1 51 hdZ)
    have HT := Lib.hid ((HT1.out.alloc (.cells hdZ 51)).rowFar (Nat.ne_of_lt hgl1) hdZ)
    have HB : Hid (Below w.heap.size w ((w1.alloc (.cells hdZ 51)).setRow w1.heap.size hdZ)) := below_setRow (HB1.out.alloc hz1 _) hz1 _
    go_upto_region 2 with (refine wpList_store_row rfl 51 (.tmp 4) (.tmp 11) rfl w1.heap.size hdZ rfl rfl _ _ HAN.out (infoH hd0) rfl (hdC_one hd0) ?_)
    clear HAN HT1 HB1
    generalize (w1.alloc (.cells hdZ 51)).setRow w1.heap.size hdZ = W2 at *
    generalize w1.heap.size = gh at *
    go_wp2_with (refine wpList_store_row rfl 31 (.tmp 2) (.tmp 15) rfl w.heap.size dtZ rfl rfl _ _ HT.out infoDz rfl dtZ_one ?_)
    exact bodyPost_ret (results_rowN rfl _ _ w.heap.size _ dtZ _ _ rfl (HT.out.row _) Tryz.underlying31 rfl infoDz) rfl ⟨_, _, _, _, by rw [HE1.out]; rfl, by rw [HE1.out]; exact dtAt_zero _, below_setRow HB.out (Nat.le_refl _) _⟩
end Go.Proofs.YtfcclppgjfkfoaaGreatDoor

/- dec_must: what the laws' walks of layer 14 lean on holds of package decode. Conditions: strings of at most 2^40 bytes. -/
namespace Go.Proofs.YtfcclppgjfkfoaaGreatDoor
open Go.RowKit

theorem dec_tree : DecTree := dtree_any
theorem dec_must : DecMust where
  tree := dtree_any
  reserve := fun s a w hs ha => (dreserve_any s a w hs ha).mono fun _ _ ⟨A, cap, h1, h2, _, h3⟩ => ⟨A, cap, h1, h2, h3⟩
  size := dsize_any
end Go.Proofs.YtfcclppgjfkfoaaGreatDoor
