/- The law DecodeIs: whatever comes in it returns true. Conditions: the contracts of package decode; a string that fits, a number of 64 bits. -/
import Derived.Test.YtmgmpjgofolkgaaMg46
namespace Go.Proofs.Ytmgmpjgofolkgaa
open Go.RowKit

set_option maxHeartbeats 3200000 in
set_option maxRecDepth 100000 in
theorem decodeIs_any (M : DecMust) (s : ByteArray) (a : Int) (w : World) (hs : s.size ≤ maxLen) (ha : -9223372036854775808 ≤ a ∧ a ≤ 9223372036854775807) :
    Calls Try.prog 3 #[.string s, .int .i64 a] w fun e w' => e = .returned (.bool true) ∧ Below w.heap.size w w' := by
  have HAW := Lib.hid (awake14 M)
  have HB : Hid (Below w.heap.size w w) := Below.refl _ _
  by_cases h1 : 2048 < s.size
  · have d1 : decide ((2048 : Int) < s.size) = true := decide_eq_true (by omega)
    clear M hs h1
    go_enter Try.func3, Try.ntmps3
    go_wp2_with fail
    refine (HAW.out _).mono ?_
    rintro e w1 ⟨rfl, hb⟩
    go_wp2
    go_ret
    exact ⟨rfl, hb⟩
  · have d1 : decide ((2048 : Int) < s.size) = false := decide_eq_false (by omega)
    have hs2 : s.size ≤ 1099511627776 := by omega
    have C1 := Lib.hid (fun W => M.tree s W hs2)
    have C2 := Lib.hid (fun W => rTree_any s W hs2)
    have C3 := Lib.hid (fun W => M.reserve s a W hs2 ha)
    have C4 := Lib.hid (fun W => rReserve_any s a W hs2 ha)
    have C5 := Lib.hid (fun W => rreadH_any s W hs)
    have C6 := Lib.hid (fun W => M.size s W hs2)
    have hrl : (treeD s.data.toList).1.rs.length ≤ maxLen := Nat.le_trans (treeD_len s.data.toList) (by decide)
    have hvl : (resv s.data.toList a).1.length ≤ maxLen := Nat.le_trans (resv_len _ _) (by decide)
    have C7 := Lib.hid (fun v2 v3 u2 u3 A A' c c' W => rSameT_any (treeD s.data.toList).1 v2 v3 u2 u3 A A' c c' W hrl)
    have C8 := Lib.hid (fun A A' c c' W => sameSp_any A A' c c' (resv s.data.toList a).1 W hvl)
    generalize treeD s.data.toList = D at *
    obtain ⟨⟨rt, rs, bo⟩, er⟩ := D
    generalize resv s.data.toList a = V at *
    obtain ⟨K, ev⟩ := V
    generalize readH s.data.toList = R at *
    obtain ⟨⟨tt, st, sg, rv, bh, tx, sz⟩, eh⟩ := R
    simp only at C1 C2 C3 C4 C5 C6 C7 C8 hrl hvl
    clear M hs h1 hrl hvl ha hs2
    go_enter Try.func3, Try.ntmps3
    go_wp2_with fail
    refine (C1.out _).mono ?_
    rintro e w1 ⟨p1, q1, T1, t1, rfl, hd, hb⟩
    obtain ⟨G1, F1, g1, f1, rfl, rfl, -⟩ := nd_shape hd.1
    have hb2 : Below w1.heap.size w1 ((w1.alloc (.cells (dtC rt.nm (.slice G1 rt.ps.length g1) (.slice F1 rt.ks.length f1) (.slice T1 rs.length t1) bo) 29))) := (Below.refl _ _).alloc (Nat.le_refl _) _
    have DD1 := Lib.hid (hd.below hb2)
    have AA1 := Lib.hid (Arr.new w1 29 (dtC rt.nm (.slice G1 rt.ps.length g1) (.slice F1 rt.ks.length f1) (.slice T1 rs.length t1) bo))
    have HB := Lib.hid (HB.out.trans (hb.mono HB.out.size))
    have HB := Lib.hid (HB.out.trans (hb2.mono HB.out.size))
    clear hb hd hb2 C1
    go_upto_region 4 with fail
    generalize (w1.alloc (.cells (dtC rt.nm (.slice G1 rt.ps.length g1) (.slice F1 rt.ks.length f1) (.slice T1 rs.length t1) bo) 29)) = W1 at *
    generalize w1.heap.size = h1 at *
    go_wp2_with fail
    refine (C2.out _).mono ?_
    rintro e w1 ⟨p2, q2, T2, t2, rfl, hd, hb⟩
    obtain ⟨G2, F2, g2, f2, rfl, rfl, -⟩ := nd_shape hd.1
    have hb2 : Below w1.heap.size w1 ((w1.alloc (.cells (dtC rt.nm (.slice G2 rt.ps.length g2) (.slice F2 rt.ks.length f2) (.slice T2 rs.length t2) bo) 29))) := (Below.refl _ _).alloc (Nat.le_refl _) _
    have DD2 := Lib.hid (hd.below hb2)
    have AA2 := Lib.hid (Arr.new w1 29 (dtC rt.nm (.slice G2 rt.ps.length g2) (.slice F2 rt.ks.length f2) (.slice T2 rs.length t2) bo))
    have DD1 := Lib.hid (DD1.out.below hb)
    have DD1 := Lib.hid (DD1.out.below hb2)
    have AA1 := Lib.hid (AA1.out.below hb AA1.out.lt)
    have AA1 := Lib.hid (AA1.out.below hb2 AA1.out.lt)
    have HB := Lib.hid (HB.out.trans (hb.mono HB.out.size))
    have HB := Lib.hid (HB.out.trans (hb2.mono HB.out.size))
    clear hb hd hb2 C2
    go_upto_region 5 with fail
    generalize (w1.alloc (.cells (dtC rt.nm (.slice G2 rt.ps.length g2) (.slice F2 rt.ks.length f2) (.slice T2 rs.length t2) bo) 29)) = W2 at *
    generalize w1.heap.size = h2 at *
    go_wp2_with fail
    refine (C3.out _).mono ?_
    rintro e w1 ⟨Y3, y3, rfl, hx, hb⟩
    have DD1 := Lib.hid (DD1.out.below hb)
    have DD2 := Lib.hid (DD2.out.below hb)
    have AA1 := Lib.hid (AA1.out.below hb AA1.out.lt)
    have AA2 := Lib.hid (AA2.out.below hb AA2.out.lt)
    have S3 := Lib.hid (hx)
    have HB := Lib.hid (HB.out.trans (hb.mono HB.out.size))
    clear hb hx C3
    go_wp2_with fail
    refine (C4.out _).mono ?_
    rintro e w1 ⟨Y4, y4, rfl, hx, -, hb⟩
    have DD1 := Lib.hid (DD1.out.below hb)
    have DD2 := Lib.hid (DD2.out.below hb)
    have S3 := Lib.hid (S3.out.below hb)
    have AA1 := Lib.hid (AA1.out.below hb AA1.out.lt)
    have AA2 := Lib.hid (AA2.out.below hb AA2.out.lt)
    have S4 := Lib.hid (hx)
    have HB := Lib.hid (HB.out.trans (hb.mono HB.out.size))
    clear hb hx C4
    go_wp2_with fail
    refine (C5.out _).mono ?_
    rintro e w5 ⟨rfl, hb⟩
    have DD1 := Lib.hid (DD1.out.below hb)
    have DD2 := Lib.hid (DD2.out.below hb)
    have S3 := Lib.hid (S3.out.below hb)
    have S4 := Lib.hid (S4.out.below hb)
    have AA1 := Lib.hid (AA1.out.below hb AA1.out.lt)
    have AA2 := Lib.hid (AA2.out.below hb AA2.out.lt)
    have HB := Lib.hid (HB.out.trans (hb.mono HB.out.size))
    clear hb C5
    have HAN := Lib.hid (Arr.new w5 36 hdZ)
    have AAH := Lib.hid (HAN.out.row (#[.int .i64 tt, .int .i64 st, .int .i64 sg, .int .i64 rv, .int .i64 bh, .int .i64 tx, .int .i64 sz] : Array Value))
    have hb : Below w5.heap.size w5 ((w5.alloc (.cells hdZ 36)).setRow w5.heap.size #[.int .i64 tt, .int .i64 st, .int .i64 sg, .int .i64 rv, .int .i64 bh, .int .i64 tx, .int .i64 sz]) := below_setRow ((Below.refl _ _).alloc (Nat.le_refl _) _) (Nat.le_refl _) _
    have DD1 := Lib.hid (DD1.out.below hb)
    have AA1 := Lib.hid (AA1.out.below hb AA1.out.lt)
    have DD2 := Lib.hid (DD2.out.below hb)
    have AA2 := Lib.hid (AA2.out.below hb AA2.out.lt)
    have S3 := Lib.hid (S3.out.below hb)
    have S4 := Lib.hid (S4.out.below hb)
    have HB := Lib.hid (HB.out.trans (hb.mono HB.out.size))
    clear hb
    go_upto_region 8 with (refine wpList_store_row rfl 36 (.tmp 13) (.tmp 46) rfl w5.heap.size #[.int .i64 tt, .int .i64 st, .int .i64 sg, .int .i64 rv, .int .i64 bh, .int .i64 tx, .int .i64 sz] rfl rfl _ _ HAN.out (infoH hd0) rfl (hdC_one ⟨tt, st, sg, rv, bh, tx, sz⟩) ?_)
    clear HAN
    generalize ((w5.alloc (.cells hdZ 36)).setRow w5.heap.size #[.int .i64 tt, .int .i64 st, .int .i64 sg, .int .i64 rv, .int .i64 bh, .int .i64 tx, .int .i64 sz]) = W5 at *
    generalize w5.heap.size = h5 at *
    go_wp2_with fail
    refine (C6.out _).mono ?_
    rintro e w1 ⟨rfl, hb⟩
    have DD1 := Lib.hid (DD1.out.below hb)
    have DD2 := Lib.hid (DD2.out.below hb)
    have S3 := Lib.hid (S3.out.below hb)
    have S4 := Lib.hid (S4.out.below hb)
    have AA1 := Lib.hid (AA1.out.below hb AA1.out.lt)
    have AA2 := Lib.hid (AA2.out.below hb AA2.out.lt)
    have AAH := Lib.hid (AAH.out.below hb AAH.out.lt)
    have HB := Lib.hid (HB.out.trans (hb.mono HB.out.size))
    clear hb C6
    obtain ⟨k0, k1, k2, k3, k4⟩ := dt_cells AA1.out
    obtain ⟨l0, l1, l2, l3, l4⟩ := dt_cells AA2.out
    go_wp2_with (first | (refine wpList_load_row rfl 29 (.tmp 5) rfl h1 rfl _ _ _ _ AA1.out Try.underlying29 rfl (infoDt rt.nm (.slice G1 rt.ps.length g1) (.slice F1 rt.ks.length f1) (.slice T1 rs.length t1) bo) ?_) | (refine wpList_load_row rfl 29 (.tmp 7) rfl h2 rfl _ _ _ _ AA2.out Try.underlying29 rfl (infoDt rt.nm (.slice G2 rt.ps.length g2) (.slice F2 rt.ks.length f2) (.slice T2 rs.length t2) bo) ?_))
    refine (C7.out _ _ _ _ _ _ _ _ _ DD1.out DD2.out).mono ?_
    rintro e w6 ⟨rfl, hb⟩
    have S3 := Lib.hid (S3.out.below hb)
    have S4 := Lib.hid (S4.out.below hb)
    have AAH := Lib.hid (AAH.out.below hb AAH.out.lt)
    have HB := Lib.hid (HB.out.trans (hb.mono HB.out.size))
    clear hb k0 k1 k2 k3 k4 l0 l1 l2 l3 l4 C7 AA1 AA2 DD1 DD2
    go_wp2_with fail
    refine (C8.out _ _ _ _ _ S3.out S4.out).mono ?_
    rintro e w7 ⟨rfl, hb⟩
    have AAH := Lib.hid (AAH.out.below hb AAH.out.lt)
    have HB := Lib.hid (HB.out.trans (hb.mono HB.out.size))
    clear hb S3 S4 C8
    have c0 : w7.cell? ⟨h5, 0, none⟩ = some (.int .i64 tt) := AAH.out.cell 0
    go_wp2_with fail
    refine (HAW.out _).mono ?_
    rintro e w8 ⟨rfl, hb⟩
    have HB := Lib.hid (HB.out.trans (hb.mono HB.out.size))
    clear hb c0
    go_wp2
    go_ret
    exact ⟨rfl, HB.out⟩
end Go.Proofs.Ytmgmpjgofolkgaa
