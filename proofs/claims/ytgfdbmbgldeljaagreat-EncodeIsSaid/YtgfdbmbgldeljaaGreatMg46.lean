/- What package tree's Of returns: the tree of any tokens, or why there is none. Conditions: tokens that are read. -/
import Derived.Test.YtgfdbmbgldeljaaGreatMg45
import Derived.Test.YtgfdbmbgldeljaaGreatMg39
import Derived.Test.YtgfdbmbgldeljaaGreatMg21
import Derived.Test.YtgfdbmbgldeljaaGreatMg42
namespace Go.Proofs.YtgfdbmbgldeljaaGreat
open Go.RowKit

set_option maxHeartbeats 3200000 in
set_option maxRecDepth 100000 in
theorem tOf_any (A : Option Addr) (cap : Nat) (l : List TK) (w : World) (hr : RdTk w A l) (hc : l.length ≤ cap) (hm : cap ≤ maxLen) :
    Calls Tryz.prog 59 #[.slice A l.length cap] w fun e w' => ∃ v2 v3, e = .returned (.tuple #[.agg #[.string (ofR l).1.nm, v2, v3], .int .i64 ((ofR l).2 : Int)]) ∧ NdAt w' (fun k => w.heap.size ≤ k) (ofR l).1 v2 v3 ∧ Below w.heap.size w w' := by
  have HFI := Lib.hid (fun t f l' (h : NextP l t f l') => of_first h)
  have HNO := Lib.hid (fun t f l' (h : NextP l t f l') => of_node h)
  generalize ofR l = R at *
  obtain ⟨W1, hW1⟩ : ∃ W1, W1 = (w.alloc (.cells zeroN 25)).alloc (.cells #[.slice A l.length cap, .int .i64 0, .int .i64 0] 138) := ⟨_, rfl⟩
  obtain ⟨g2, hg2⟩ : ∃ g2, g2 = w.heap.size := ⟨_, rfl⟩
  obtain ⟨r, hrr⟩ : ∃ r, r = w.heap.size + 1 := ⟨_, rfl⟩
  have hB1 : Below w.heap.size w W1 := by rw [hW1]; exact ((Below.refl _ _).alloc (Nat.le_refl _) _).alloc (by rw [sz_alloc]; omega) _
  have hA2 : Arr W1 g2 25 zeroN := by rw [hW1, hg2]; exact (Arr.new w _ _).alloc _
  have hAR : Arr W1 r 138 #[.slice A l.length cap, .int .i64 0, .int .i64 0] := by rw [hW1, hrr]; exact Arr.new1 w _ _ _
  have hR1 : RdrT w W1 r A cap l 0 0 := ⟨hAR, hr, hc, hm, by omega⟩
  have hg2r : g2 ≠ r := by omega
  have HWR : Hid (w.heap.size ≤ r) := by unfold Hid; omega
  have HWG : Hid (w.heap.size ≤ g2) := by unfold Hid; omega
  have HRG : Hid (r < W1.heap.size ∧ g2 < W1.heap.size) := ⟨hAR.lt, hA2.lt⟩
  have HC := Lib.hid (next_any w r A cap l 0 0 W1 hR1 hB1)
  have HB1 := Lib.hid hB1
  have HA2 := Lib.hid hA2
  have HND := Lib.hid (node_any w r 8 1 rfl (Nat.le_refl _))
  have HONE : Hid (∀ (a : ByteArray) P pn pc Q qn qc, (#[.string a, .slice P pn pc, .slice Q qn qc] : Array Value).all (·.oneCell') = true) := fun a P pn pc Q qn qc => by
    rw [Array.all_eq_true_iff_forall_mem]
    intro v hv
    simp at hv
    rcases hv with rfl | rfl | rfl <;> rfl
  clear hr hc hm hB1 hA2 hAR hR1
  go_enter Tryz.func59, Tryz.ntmps59
  go_upto_region 2 with fail
  change Code.wp _ _ _ _ ((w.alloc (.cells zeroN 25)).alloc (.cells #[.slice A l.length cap, .int .i64 0, .int .i64 0] 138))
  rw [← hW1, ← hrr, ← hg2]
  clear hW1 hrr hg2
  go_wp2_with fail
  refine HC.out.mono ?_
  rintro e w1 ⟨⟨kd, tn, tv⟩, f, A1, cap1, l1, rfl, hP, hR1, hM1⟩
  have hb9 : Below w1.heap.size w1 (w1.alloc (.cells (tkC ⟨kd, tn, tv⟩) 88)) := (Below.refl _ _).alloc (Nat.le_refl _) _
  have hA9 := Arr.new w1 88 (tkC ⟨kd, tn, tv⟩)
  have HR9 := Lib.hid (hR1.kept (Moved.of_below hb9 (fun _ => False)) id)
  have HA29 := Lib.hid ((hM1.arr HA2.out hg2r).below hb9 (hM1.arr HA2.out hg2r).lt)
  have HB9 := Lib.hid ((HB1.out.trans (hM1.below (fun k hk => by rw [hk]; exact HWR.out) HB1.out.size)).trans (hb9.mono (Nat.le_trans HB1.out.size hM1.size)))
  have q0 : (w1.alloc (.cells (tkC ⟨kd, tn, tv⟩) 88)).cell? ⟨w1.heap.size, 0, none⟩ = some (.int .i64 kd) := hA9.cell 0
  have q1 : (w1.alloc (.cells (tkC ⟨kd, tn, tv⟩) 88)).cell? ⟨w1.heap.size, 1, none⟩ = some (.string tn) := hA9.cell 1
  have hFI := HFI.out _ _ _ hP
  have hNO := HNO.out _ _ _ hP
  clear hb9 hA9 hR1 hM1 HC HB1 HA2 hP HFI HNO
  go_upto_region 3 with fail
  change Code.wp _ _ _ _ (w1.alloc (.cells (tkC ⟨kd, tn, tv⟩) 88))
  generalize w1.alloc (.cells (tkC ⟨kd, tn, tv⟩) 88) = W9 at *
  generalize w1.heap.size = g9 at *
  by_cases h1 : kd = 1
  · subst h1
    have HNO := Lib.hid hNO
    have hC := HND.out [] tn tv A1 cap1 l1 0 0 W9 rfl (by decide) (by decide) HR9.out HB9.out
    have HC : Hid (Calls Tryz.prog 78 #[.pointer (some ⟨r, 0, none⟩), .string tn, .int .i64 1] W9 fun e w' => NodePost w W9 r [] tn tv l1 0 0 e w') := hC
    have HR0 : Hid (r < W9.heap.size) := HR9.out.arr.lt
    clear hFI hNO hC HND HR9
    go_wp2_with fail
    refine HC.out.mono ?_
    rintro e w3 ⟨hm3, ⟨n, v2, v3, A3, cap3, l3, ns3, pn3, rfl, hn3, hR3, b1, b2, b3, b4, b5, hfe⟩ | ⟨er, rfl, her, hfe⟩⟩
    · obtain ⟨ua, ub, uc, ud, rfl, rfl, _⟩ := nd_shape hn3
      have hb7 : Below w3.heap.size w3 (w3.alloc (.cells #[.string n.nm, .slice ua n.ps.length uc, .slice ub n.ks.length ud] 25)) := (Below.refl _ _).alloc (Nat.le_refl _) _
      have HA7 := Lib.hid (Arr.new w3 25 #[.string n.nm, .slice ua n.ps.length uc, .slice ub n.ks.length ud])
      have hA23 := hm3.arr HA29.out hg2r
      have HA27 := Lib.hid (hA23.below hb7 hA23.lt)
      have hB3 := HB9.out.trans (hm3.below (fun k hk => by rw [hk]; exact HWR.out) HB9.out.size)
      have hB7 := hB3.trans (hb7.mono hB3.size)
      have HB7 := Lib.hid hB7
      have HN7 := Lib.hid ((nd_below hn3 hb7).mono (fun k hk => (⟨by have := HB9.out.size; omega, fun e => by have := HA29.out.lt; omega, fun e => by have := HR0.out; omega⟩ : w.heap.size ≤ k ∧ k ≠ g2 ∧ k ≠ r)))
      have hr37 : r < w3.heap.size := hR3.arr.lt
      have hrA : w3.heap.size ≠ r := by omega
      have HC2 := Lib.hid (next_any w r A3 cap3 l3 ns3 pn3 _ (hR3.kept (Moved.of_below hb7 (fun _ => False)) id) hB7)
      have HEQ := Lib.hid (HNO.out.trans hfe)
      clear hb7 hA23 hB3 hB7 hn3 hR3 hm3 hfe HC HA29 HB9 HNO q0 q1
      go_upto_region 8 with fail
      generalize w3.alloc (.cells #[.string n.nm, .slice ua n.ps.length uc, .slice ub n.ks.length ud] 25) = W7 at *
      generalize w3.heap.size = g7 at *
      go_wp2_with fail
      refine HC2.out.mono ?_
      rintro e w4 ⟨⟨kd2, tn2, tv2⟩, f2, A4, cap4, l4, rfl, hP2, hR4, hM4⟩
      have HRE := Lib.hid (HEQ.out.trans (fin_root n ns3 pn3 hP2))
      have hbA : Below w4.heap.size w4 (w4.alloc (.cells (tkC ⟨kd2, tn2, tv2⟩) 88)) := (Below.refl _ _).alloc (Nat.le_refl _) _
      have hA24 := hM4.arr HA27.out hg2r
      have hA74 := hM4.arr HA7.out hrA
      have HA2A := Lib.hid (hA24.below hbA hA24.lt)
      have HA7A := Lib.hid (hA74.below hbA hA74.lt)
      have hB4 := HB7.out.trans (hM4.below (fun k hk => by rw [hk]; exact HWR.out) HB7.out.size)
      have HBA := Lib.hid (hB4.trans (hbA.mono hB4.size))
      have HNA := Lib.hid (nd_below (HN7.out.kept hM4 (fun k hk e => hk.2.2 e)) hbA)
      clear hbA hA24 hA74 hB4 hP2 hR4 hM4 HC2 HEQ HA7 HA27 HN7 HB7
      go_upto_region 9 with fail
      change Code.wp _ _ _ _ (w4.alloc (.cells (tkC ⟨kd2, tn2, tv2⟩) 88))
      generalize w4.alloc (.cells (tkC ⟨kd2, tn2, tv2⟩) 88) = WA at *
      cases f2 with
      | true =>
        have HE : Hid (R = (nd0, 6)) := HRE.out
        clear HRE
        go_wp2_with (refine wpList_store_row rfl 25 (.tmp 2) (.tmp 36) rfl g2 zeroN rfl rfl _ _ HA2A.out (infoNd _ _ _) rfl zN_one ?_)
        exact bodyPost_ret (results_rowN rfl _ _ g2 _ zeroN _ _ rfl (HA2A.out.row _) Tryz.underlying25 rfl (infoNd _ _ _)) rfl ⟨_, _, by rw [HE.out]; rfl, by rw [HE.out]; exact nd0_at _ _, below_setRow HBA.out HWG.out _⟩
      | false =>
        have HE : Hid (R = (n, 0)) := HRE.out
        have c0 : WA.cell? ⟨g7, 0, none⟩ = some (.string n.nm) := HA7A.out.cell 0
        have c1 : WA.cell? ⟨g7, 1, none⟩ = some (.slice ua n.ps.length uc) := HA7A.out.cell 1
        have c2 : WA.cell? ⟨g7, 2, none⟩ = some (.slice ub n.ks.length ud) := HA7A.out.cell 2
        have HDN : Hid (NdAt (WA.setRow g2 #[.string n.nm, .slice ua n.ps.length uc, .slice ub n.ks.length ud]) (fun b => w.heap.size ≤ b) n (.slice ua n.ps.length uc) (.slice ub n.ks.length ud)) :=
          (HNA.out.kept (moved_setRow WA g2 _) (fun k hk e => hk.2.1 e)).mono (fun k hk => hk.1)
        clear HRE HNA
        go_wp2_with (refine wpList_store_row rfl 25 (.tmp 2) (.tmp 37) rfl g2 #[.string n.nm, .slice ua n.ps.length uc, .slice ub n.ks.length ud] rfl rfl _ _ HA2A.out (infoNd _ _ _) rfl (HONE.out _ _ _ _ _ _ _) ?_)
        exact bodyPost_ret (results_rowN rfl _ _ g2 _ #[.string n.nm, .slice ua n.ps.length uc, .slice ub n.ks.length ud] _ _ rfl (HA2A.out.row _) Tryz.underlying25 rfl (infoNd _ _ _)) rfl ⟨_, _, by rw [HE.out]; rfl, by rw [HE.out]; exact HDN.out, below_setRow HBA.out HWG.out _⟩
    · have hb7 : Below w3.heap.size w3 (w3.alloc (.cells zeroN 25)) := (Below.refl _ _).alloc (Nat.le_refl _) _
      have hA23 := hm3.arr HA29.out hg2r
      have HA27 := Lib.hid (hA23.below hb7 hA23.lt)
      have hB3 := HB9.out.trans (hm3.below (fun k hk => by rw [hk]; exact HWR.out) HB9.out.size)
      have HB7 := Lib.hid (hB3.trans (hb7.mono hB3.size))
      have HE := Lib.hid (HNO.out.trans hfe)
      have d1 : ((er : Int) != 0) = true := by simp; omega
      clear hb7 hA23 hB3 hm3 hfe her HC HA29 HB9 HNO q0 q1
      go_wp2_with (refine wpList_store_row rfl 25 (.tmp 2) (.tmp 29) rfl g2 zeroN rfl rfl _ _ HA27.out (infoNd _ _ _) rfl zN_one ?_)
      exact bodyPost_ret (results_rowN rfl _ _ g2 _ zeroN _ _ rfl (HA27.out.row _) Tryz.underlying25 rfl (infoNd _ _ _)) rfl ⟨_, _, by rw [HE.out]; rfl, by rw [HE.out]; exact nd0_at _ _, below_setRow HB7.out HWG.out _⟩
  · have d1 : (kd != 1) = true := by simpa using h1
    have HE := Lib.hid (hFI h1)
    clear hFI hNO HND HR9 h1
    go_wp2_with (refine wpList_store_row rfl 25 (.tmp 2) (.tmp 20) rfl g2 zeroN rfl rfl _ _ HA29.out (infoNd _ _ _) rfl zN_one ?_)
    exact bodyPost_ret (results_rowN rfl _ _ g2 _ zeroN _ _ rfl (HA29.out.row _) Tryz.underlying25 rfl (infoNd _ _ _)) rfl ⟨_, _, by rw [HE.out]; rfl, by rw [HE.out]; exact nd0_at _ _, below_setRow HB9.out HWG.out _⟩
end Go.Proofs.YtgfdbmbgldeljaaGreat

/- The program's root and Tree of layer 14. Conditions: strings of at most 2^40 bytes. -/
namespace Go.Proofs.YtgfdbmbgldeljaaGreat
open Go.RowKit

/-- The root of the structure and the strings to which a header refers. -/
def rootD (s : ByteArray) (h : HD) : ND × Nat :=
  if (readR 1024 (partR s h.stc h.siz).1.data.toList (partR s h.sgs h.txs).1.data.toList).2 ≠ 0 then (nd0, (readR 1024 (partR s h.stc h.siz).1.data.toList (partR s h.sgs h.txs).1.data.toList).2)
  else ofR (readR 1024 (partR s h.stc h.siz).1.data.toList (partR s h.sgs h.txs).1.data.toList).1
theorem bodyD_root (s : ByteArray) (h : HD) : bodyD s.data.toList h = if (resv s.data.toList h.rsv).2 ≠ 0 then (dt0, (resv s.data.toList h.rsv).2) else if (rootD s h).2 ≠ 0 then (dt0, (rootD s h).2) else (⟨(rootD s h).1, (resv s.data.toList h.rsv).1, h.boo⟩, 0) := by
  unfold bodyD partB
  rw [show (⟨s.data.toList.toArray⟩ : ByteArray) = s from rfl]
  unfold rootD
  generalize readR 1024 (partR s h.stc h.siz).1.data.toList (partR s h.sgs h.txs).1.data.toList = T
  by_cases h1 : T.2 ≠ 0
  · simp only [if_pos h1]
  · simp only [if_neg h1]

theorem nd_oneD (a : ByteArray) (P : Option Addr) (pn pc : Nat) (Q : Option Addr) (qn qc : Nat) : (#[.string a, .slice P pn pc, .slice Q qn qc] : Array Value).all (·.oneCell') = true := by
  rw [Array.all_eq_true_iff_forall_mem]
  intro v hv
  simp at hv
  rcases hv with rfl | rfl | rfl <;> rfl

set_option maxHeartbeats 1600000 in
set_option maxRecDepth 100000 in
theorem droot_any (s : ByteArray) (h : HD) (w : World) (hs : s.size ≤ 1099511627776) (h1 : in64 h.stc) (h2 : in64 h.siz) (h3 : in64 h.sgs) (h4 : in64 h.txs) :
    Calls Tryz.prog 33 #[.string s, .agg (hdC h)] w fun e w' => ∃ v2 v3, e = .returned (.tuple #[.agg #[.string (rootD s h).1.nm, v2, v3], .int .i64 ((rootD s h).2 : Int)]) ∧ NdAt w' (fun k => w.heap.size ≤ k) (rootD s h).1 v2 v3 ∧ Below w.heap.size w w' := by
  obtain ⟨R, hR⟩ : ∃ R, rootD s h = R := ⟨_, rfl⟩
  have HE0 : Hid (R = if (readR 1024 (partR s h.stc h.siz).1.data.toList (partR s h.sgs h.txs).1.data.toList).2 ≠ 0 then (nd0, (readR 1024 (partR s h.stc h.siz).1.data.toList (partR s h.sgs h.txs).1.data.toList).2)
    else ofR (readR 1024 (partR s h.stc h.siz).1.data.toList (partR s h.sgs h.txs).1.data.toList).1) := hR.symm
  rw [hR]
  clear hR
  obtain ⟨n, st, sg, rv, bo, tx, sz⟩ := h
  simp only at HE0 h1 h2 h3 h4
  have HPA := Lib.hid (fun W => hpart_any s st sz W (by unfold maxLen; omega) h1 h2)
  have HPB := Lib.hid (fun W => hpart_any s sg tx W (by unfold maxLen; omega) h3 h4)
  have hpa : (partR s st sz).1.size ≤ 1099511627776 := partR_le s st sz hs
  have hpb : (partR s sg tx).1.size ≤ 1099511627776 := partR_le s sg tx hs
  generalize partR s st sz = PA at *
  generalize partR s sg tx = PB at *
  obtain ⟨pa, ea⟩ := PA
  obtain ⟨pb, eb⟩ := PB
  simp only at HE0 HPA HPB hpa hpb
  have HK := Lib.hid (fun W => read_any pa pb W hpa hpb)
  generalize readR 1024 pa.data.toList pb.data.toList = T at *
  obtain ⟨L, et⟩ := T
  simp only at HE0 HK
  have HO := Lib.hid (fun A cap W h hc hm => tOf_any A cap L W h hc hm)
  generalize ofR L = O at *
  obtain ⟨nd, eo⟩ := O
  simp only at HE0 HO
  obtain ⟨W1, hW1⟩ : ∃ W1, W1 = (w.alloc (.cells (hdC ⟨n, st, sg, rv, bo, tx, sz⟩) 54)).alloc (.cells #[.string ⟨#[]⟩, .slice none 0 0, .slice none 0 0] 25) := ⟨_, rfl⟩
  obtain ⟨g8, hg8⟩ : ∃ g8, g8 = w.heap.size := ⟨_, rfl⟩
  obtain ⟨g9, hg9⟩ : ∃ g9, g9 = w.heap.size + 1 := ⟨_, rfl⟩
  have hB1 : Below w.heap.size w W1 := by rw [hW1]; exact ((Below.refl _ _).alloc (Nat.le_refl _) _).alloc (by rw [sz_alloc]; omega) _
  have HH : Hid (Arr W1 g8 54 #[.int .i64 n, .int .i64 st, .int .i64 sg, .int .i64 rv, .int .i64 bo, .int .i64 tx, .int .i64 sz]) := by rw [hW1, hg8]; exact (Arr.new w _ _).alloc _
  have HT : Hid (Arr W1 g9 25 #[.string ⟨#[]⟩, .slice none 0 0, .slice none 0 0]) := by rw [hW1, hg9]; exact Arr.new1 w _ _ _
  have HB := Lib.hid hB1
  have HG9 := Lib.hid hg9
  have HGL : Hid (w.heap.size ≤ g9) := by unfold Hid; omega
  have c1 : W1.cell? ⟨g8, 1, none⟩ = some (.int .i64 st) := HH.out.cell 1
  have c6 : W1.cell? ⟨g8, 6, none⟩ = some (.int .i64 sz) := HH.out.cell 6
  clear h1 h2 h3 h4 hpa hpb hB1
  go_enter Tryz.func33, Tryz.ntmps33
  go_upto_region 1 with fail
  rw [← hW1, ← hg9, ← hg8]
  clear hW1 hg9 hg8
  go_wp2_with fail
  refine (HPA.out _).mono ?_
  rintro e w4 ⟨rfl, hb⟩
  have HT := Lib.hid (HT.out.below hb HT.out.lt)
  have HH := Lib.hid (HH.out.below hb HH.out.lt)
  have HB := Lib.hid (HB.out.trans (hb.mono HB.out.size))
  clear hb c1 c6 HPA
  have c2 : w4.cell? ⟨g8, 2, none⟩ = some (.int .i64 sg) := HH.out.cell 2
  have c5 : w4.cell? ⟨g8, 5, none⟩ = some (.int .i64 tx) := HH.out.cell 5
  go_wp2_with fail
  refine (HPB.out _).mono ?_
  rintro e w5 ⟨rfl, hb⟩
  have HT := Lib.hid (HT.out.below hb HT.out.lt)
  have HB := Lib.hid (HB.out.trans (hb.mono HB.out.size))
  clear hb c2 c5 HPB HH
  go_wp2_with fail
  refine (HK.out _).mono ?_
  rintro e w6 ⟨v, rfl, ⟨A6, k6, rfl, hrd, hc6, hm6⟩, hb⟩
  have HRT := Lib.hid hrd
  have HT := Lib.hid (HT.out.below hb HT.out.lt)
  have HB := Lib.hid (HB.out.trans (hb.mono HB.out.size))
  clear hb HK hrd
  by_cases he2 : et = 0
  · subst he2
    rw [if_neg (by simp)] at HE0
    obtain rfl := HE0.out
    have HC := Lib.hid (HO.out _ _ _ HRT.out hc6 hm6)
    clear HO HRT hc6 hm6 HE0
    go_wp2_with fail
    refine HC.out.mono ?_
    rintro e w7 ⟨v2, v3, rfl, hnd, hb⟩
    obtain ⟨B2, B3, m2, m3, rfl, rfl, hsh⟩ := nd_shape hnd
    have HLT := Lib.hid HT.out.lt
    have HT := Lib.hid (HT.out.below hb HT.out.lt)
    have HB := Lib.hid (HB.out.trans (hb.mono HB.out.size))
    have HNF : Hid (NdAt (w7.setRow g9 #[.string nd.nm, .slice B2 nd.ps.length m2, .slice B3 nd.ks.length m3]) (fun k => w6.heap.size ≤ k) nd (.slice B2 nd.ps.length m2) (.slice B3 nd.ks.length m3)) :=
      hnd.kept (moved_setRow w7 _ _) (fun k hk e => by have := HLT.out; omega)
    have HWS := Lib.hid (Nat.le_trans HGL.out (Nat.le_of_lt HLT.out))
    clear hb hnd hsh HC
    go_wp2_with (refine wpList_store_row rfl 25 (.tmp 4) (.tmp 44) rfl g9 #[.string nd.nm, .slice B2 nd.ps.length m2, .slice B3 nd.ks.length m3] rfl rfl _ _ HT.out (infoNd _ _ _) rfl (nd_oneD _ _ _ _ _ _ _) ?_)
    exact bodyPost_ret (results_rowN rfl _ _ g9 _ #[.string nd.nm, .slice B2 nd.ps.length m2, .slice B3 nd.ks.length m3] _ _ rfl (HT.out.row _) Tryz.underlying25 rfl (infoNd _ _ _)) rfl ⟨_, _, rfl, HNF.out.mono (fun k hk => Nat.le_trans HWS.out hk), below_setRow HB.out HGL.out _⟩
  · have d1 : ((et : Int) != 0) = true := by simp; omega
    have HE1 : Hid (R = (nd0, et)) := by unfold Hid; rw [HE0.out, if_pos he2]
    obtain rfl := HE1.out
    clear he2 HE0 HO HRT HE1 hc6 hm6
    go_wp2_with (refine wpList_store_row rfl 25 (.tmp 4) (.tmp 40) rfl g9 #[.string ⟨#[]⟩, .slice none 0 0, .slice none 0 0] rfl rfl _ _ HT.out (infoNd _ _ _) rfl zl_one ?_)
    exact bodyPost_ret (results_rowN rfl _ _ g9 _ #[.string ⟨#[]⟩, .slice none 0 0, .slice none 0 0] _ _ rfl (HT.out.row _) Tryz.underlying25 rfl (infoNd _ _ _)) rfl ⟨_, _, rfl, nd0_at _ _, below_setRow HB.out HGL.out _⟩
end Go.Proofs.YtgfdbmbgldeljaaGreat
