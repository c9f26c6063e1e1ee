/- The document's Tree of layer 15. Conditions: a tree in memory, of at most 2^39 tokens, names and values of at most 2^20 bytes. -/
import Derived.Test.YtgfdbmbgldeljaaGreatMg16
import Derived.Test.YtgfdbmbgldeljaaGreatMg21
import Derived.Test.YtgfdbmbgldeljaaGreatMg23
import Derived.Test.YtgfdbmbgldeljaaGreatMg13
import Derived.Test.YtgfdbmbgldeljaaGreatMg17
namespace Go.Proofs.YtgfdbmbgldeljaaGreat
open Go.RowKit

/-- The sizes of a tree that is encoded. -/
structure EnOk (T : DT) : Prop where
  ca : (countR 9 T.rt).a ≤ 1099511627776
  cb : (countR 9 T.rt).b ≤ 1099511627776
  tl : (tokR 8 T.rt).length ≤ 549755813888
  tk : ∀ k, k < (tokR 8 T.rt).length → ((tokR 8 T.rt).getD k tk0).nm.size ≤ 1048576 ∧ ((tokR 8 T.rt).getD k tk0).vl.size ≤ 1048576
  rl : T.rs.length ≤ maxLen
theorem resP_len (l : List SP) : (resP l).1.length ≤ 272 := by
  unfold resP
  split
  · exact Nat.zero_le _
  · split
    · show (spB l ++ endB).length ≤ 272
      rw [List.length_append, spB_len, show endB.length = 16 from rfl]; omega
    · exact Nat.zero_le _
theorem put_bytes {l : List TK} (hv : ∀ k, k < l.length → (l.getD k tk0).nm.size ≤ 1048576 ∧ (l.getD k tk0).vl.size ≤ 1048576) : (putR l).1.size ≤ 1099511627776 ∧ (putR l).2.1.size ≤ 1099511627776 := by
  by_cases h : (putR l).2.2 = 0
  · have := put_read (l := l) (fun x hx => by
      obtain ⟨k, hk, rfl⟩ := List.getElem_of_mem hx
      have := (hv k hk).2
      rwa [List.getD_eq_getElem?_getD, List.getElem?_eq_getElem hk] at this) h
    exact ⟨this.2.1, this.2.2⟩
  · have : (putR l).1 = ByteArray.empty ∧ (putR l).2.1 = ByteArray.empty := by
      by_cases h1 : 1024 ≤ l.length
      · rw [putR_big h1]; exact ⟨rfl, rfl⟩
      · cases h2 : l.all okT with
        | false => rw [putR_bad h1 h2]; exact ⟨rfl, rfl⟩
        | true => rw [putR_good h1 h2] at h; exact absurd rfl h
    rw [this.1, this.2]
    exact ⟨Nat.zero_le _, Nat.zero_le _⟩
theorem ba_size (l : List UInt8) : (ByteArray.mk l.toArray).size = l.length := by show l.toArray.size = _; simp
/-- A string as long as it is. -/
def strLen15 : Value → Nat
  | .string s => s.size
  | _ => 0

set_option maxHeartbeats 3200000 in
set_option maxRecDepth 100000 in
theorem rEncT_any (T : DT) (v2 v3 : Value) (A : Option Addr) (cap : Nat) (w : World) (hat : DtAt w T v2 v3 A) (ho : EnOk T) :
    Calls Tryz.prog 7 #[.agg (dtC T.rt.nm v2 v3 (.slice A T.rs.length cap) T.bo)] w fun e w' => e = .returned (.tuple #[.string ⟨(encR T).1.toArray⟩, .int .i64 ((encR T).2 : Int)]) ∧ Below w.heap.size w w' := by
  have hrl := resP_len T.rs
  have hpb := put_bytes ho.tk
  obtain ⟨W1, hW1⟩ : ∃ W1, W1 = w.alloc (.cells (dtC T.rt.nm v2 v3 (.slice A T.rs.length cap) T.bo) 28) := ⟨_, rfl⟩
  obtain ⟨g1, hg1⟩ : ∃ g1, g1 = w.heap.size := ⟨_, rfl⟩
  have hB1 : Below w.heap.size w W1 := by rw [hW1]; exact (Below.refl _ _).alloc (Nat.le_refl _) _
  have hA1 : Arr W1 g1 28 (dtC T.rt.nm v2 v3 (.slice A T.rs.length cap) T.bo) := by rw [hW1, hg1]; exact Arr.new w _ _
  have HAT := Lib.hid (hat.below hB1)
  have HB1 := Lib.hid hB1
  have HA1 := Lib.hid hA1
  have HCT := Lib.hid (fun W G (h : NdAt W G T.rt v2 v3) => rCount_any G T.rt v2 v3 W ho.ca ho.cb h)
  have HFT := Lib.hid (fun W G (h : NdAt W G T.rt v2 v3) => rFits_any G T.rt v2 v3 W ho.ca ho.cb h)
  have HRS := Lib.hid (fun W (h : RdSp W A T.rs) => rResP_any A cap T.rs W h ho.rl)
  have HTK := Lib.hid (fun W G (h : NdAt W G T.rt v2 v3) => rTokens_any G T.rt v2 v3 W ho.tl h)
  have HPT := Lib.hid (fun A' cap' W (h : RdTk W A' (tokR 8 T.rt)) => rput_any A' cap' (tokR 8 T.rt) W h (by have := ho.tl; unfold maxLen; omega) ho.tk)
  have HE : Hid (encR T = if 8 < (countR 9 T.rt).c then ([], 13)
    else if fitsR T.rt = false then ([], 7)
    else if (resP T.rs).2 ≠ 0 then ([], (resP T.rs).2)
    else if (putR (tokR 8 T.rt)).2.2 ≠ 0 then ([], (putR (tokR 8 T.rt)).2.2)
    else if 16384 < up4 (40 + (resP T.rs).1.length + (putR (tokR 8 T.rt)).1.size + (putR (tokR 8 T.rt)).2.1.size) then ([], 7)
    else if (putH (headE (resP T.rs).1.length (putR (tokR 8 T.rt)).1.size (putR (tokR 8 T.rt)).2.1.size T.bo)).2 ≠ 0 then ([], (putH (headE (resP T.rs).1.length (putR (tokR 8 T.rt)).1.size (putR (tokR 8 T.rt)).2.1.size T.bo)).2)
    else ((putH (headE (resP T.rs).1.length (putR (tokR 8 T.rt)).1.size (putR (tokR 8 T.rt)).2.1.size T.bo)).1 ++ ((resP T.rs).1 ++ ((putR (tokR 8 T.rt)).1.data.toList ++ ((putR (tokR 8 T.rt)).2.1.data.toList ++
      List.replicate (up4 (40 + (resP T.rs).1.length + (putR (tokR 8 T.rt)).1.size + (putR (tokR 8 T.rt)).2.1.size) - (40 + (resP T.rs).1.length + (putR (tokR 8 T.rt)).1.size + (putR (tokR 8 T.rt)).2.1.size)) 0))), 0)) := rfl
  generalize encR T = R at *
  generalize tokR 8 T.rt = TL at *
  generalize fitsR T.rt = F at *
  rcases hct : countR 9 T.rt with ⟨ca, cb, cc⟩
  rcases hrs : resP T.rs with ⟨r, er⟩
  rcases hpt : putR TL with ⟨a, b, f⟩
  rw [hct] at HCT HE
  rw [hrs] at HRS HE hrl
  rw [hpt] at HPT HE hpb
  simp only at HRS HPT HE hrl hpb
  obtain ⟨hpa, hpb⟩ := hpb
  obtain ⟨RB, hRB⟩ : ∃ RB : ByteArray, RB = ⟨r.toArray⟩ := ⟨_, rfl⟩
  rw [← hRB] at HRS
  have HRL : Hid (RB.data.toList = r) := by unfold Hid; rw [hRB]
  have HRZ : Hid (RB.size = r.length) := by unfold Hid; rw [hRB, ba_size]
  have hrb : RB.size ≤ 272 := by rw [HRZ.out]; exact hrl
  clear hRB hrl
  obtain ⟨k0, k1, k2, k3, k4⟩ := dt_cells hA1
  clear hat hB1 hA1 hct hrs hpt ho
  go_enter Tryz.func7, Tryz.ntmps7
  go_upto_region 1 with fail
  rw [← hW1, ← hg1]
  clear hW1 hg1
  go_wp2_with fail
  refine (HCT.out _ _ HAT.out.1).mono ?_
  rintro e w2 ⟨rfl, hb⟩
  clear k0 k1 k2 k3 k4
  have HA4 := Lib.hid (Arr.new w2 51 (c3C 0 0 0))
  have HA4r := Lib.hid (HA4.out.row (c3C ca cb cc))
  have hbw : Below w2.heap.size w2 ((w2.alloc (.cells (c3C 0 0 0) 51)).setRow w2.heap.size (c3C ca cb cc)) := below_setRow ((Below.refl _ _).alloc (Nat.le_refl _) _) (Nat.le_refl _) _
  have hb2 := hb.trans (hbw.mono hb.size)
  have HAT := Lib.hid (HAT.out.below hb2)
  have HA1 := Lib.hid (HA1.out.below hb2 HA1.out.lt)
  have HB1 := Lib.hid (HB1.out.trans (hb2.mono HB1.out.size))
  clear hb hbw hb2 HCT
  go_upto_region 2 with (first
    | (refine wpList_store_row rfl 51 (.tmp 4) (.tmp 16) rfl w2.heap.size (c3C ca cb cc) rfl rfl _ _ HA4.out (info3 _ _ _) rfl (c3_one _ _ _) ?_))
  change Code.wp _ _ _ _ ((w2.alloc (.cells (c3C 0 0 0) 51)).setRow w2.heap.size (c3C ca cb cc))
  generalize (w2.alloc (.cells (c3C 0 0 0) 51)).setRow w2.heap.size (c3C ca cb cc) = W3 at *
  generalize w2.heap.size = g4 at *
  have c2 : W3.cell? ⟨g4, 2, none⟩ = some (.int .i64 cc) := HA4r.out.cell 2
  by_cases h : 8 < cc
  · have HE : Hid (R = ([], 13)) := by unfold Hid; rw [HE.out, if_pos h]
    have d1 : (8 : Int) < (cc : Int) := by omega
    go_wp2
    go_ret2
    exact ⟨by rw [HE.out]; rfl, HB1.out⟩
  replace HE := Lib.hid (HE.out.trans (if_neg h))
  have d1 : (cc : Int) ≤ 8 := by omega
  obtain ⟨k0, k1, k2, k3, k4⟩ := dt_cells HA1.out
  clear h
  go_wp2_with fail
  refine (HFT.out _ _ HAT.out.1).mono ?_
  rintro e w4 ⟨rfl, hb⟩
  clear c2 d1 HA4 HA4r
  clear k0 k1 k2 k3 k4
  have HAT := Lib.hid (HAT.out.below hb)
  have HA1 := Lib.hid (HA1.out.below hb HA1.out.lt)
  have HB1 := Lib.hid (HB1.out.trans (hb.mono HB1.out.size))
  clear hb
  by_cases h : F = false
  · have HE : Hid (R = ([], 7)) := by unfold Hid; rw [HE.out, if_pos h]
    subst h
    clear HFT
    go_wp2
    go_ret2
    exact ⟨by rw [HE.out]; rfl, HB1.out⟩
  replace HE := Lib.hid (HE.out.trans (if_neg h))
  obtain rfl : F = true := by simpa using h
  clear HFT h
  obtain ⟨k0, k1, k2, k3, k4⟩ := dt_cells HA1.out
  go_wp2_with fail
  refine (HRS.out _ HAT.out.2).mono ?_
  rintro e w5 ⟨rfl, hb⟩
  clear k0 k1 k2 k3 k4
  have HAT := Lib.hid (HAT.out.below hb)
  have HA1 := Lib.hid (HA1.out.below hb HA1.out.lt)
  have HB1 := Lib.hid (HB1.out.trans (hb.mono HB1.out.size))
  clear hb
  clear HRS
  by_cases h : er ≠ 0
  · have HE : Hid (R = ([], er)) := by unfold Hid; rw [HE.out, if_pos h]
    have d1 : ((er : Int) != 0) = true := by simp; omega
    clear h
    go_wp2
    go_ret2
    exact ⟨by rw [HE.out]; rfl, HB1.out⟩
  replace HE := Lib.hid (HE.out.trans (if_neg h))
  obtain rfl : er = 0 := Decidable.not_not.1 h
  clear h
  obtain ⟨k0, k1, k2, k3, k4⟩ := dt_cells HA1.out
  go_wp2_with fail
  refine (HTK.out _ _ HAT.out.1).mono ?_
  rintro e w6 ⟨tv, rfl, ho, hb⟩
  obtain ⟨A6, cap6, rfl, hr6⟩ := row_rdTk ho
  have HR6 := Lib.hid hr6
  clear ho hr6 HTK
  clear k0 k1 k2 k3 k4
  have HAT := Lib.hid (HAT.out.below hb)
  have HA1 := Lib.hid (HA1.out.below hb HA1.out.lt)
  have HB1 := Lib.hid (HB1.out.trans (hb.mono HB1.out.size))
  clear hb
  go_wp2_with fail
  refine (HPT.out _ _ _ HR6.out).mono ?_
  rintro e w7 ⟨rfl, hb⟩
  clear HR6 HPT
  have HAT := Lib.hid (HAT.out.below hb)
  have HA1 := Lib.hid (HA1.out.below hb HA1.out.lt)
  have HB1 := Lib.hid (HB1.out.trans (hb.mono HB1.out.size))
  clear hb
  by_cases h : f ≠ 0
  · have HE : Hid (R = ([], f)) := by unfold Hid; rw [HE.out, if_pos h]
    have d1 : ((f : Int) != 0) = true := by simp; omega
    clear h
    go_wp2
    go_ret2
    exact ⟨by rw [HE.out]; rfl, HB1.out⟩
  replace HE := Lib.hid (HE.out.trans (if_neg h))
  obtain rfl : f = 0 := Decidable.not_not.1 h
  clear h
  obtain ⟨k0, k1, k2, k3, k4⟩ := dt_cells HA1.out
  obtain ⟨n0, hn0⟩ : ∃ n0 : Nat, n0 = 40 + RB.size + a.size + b.size := ⟨_, rfl⟩
  obtain ⟨tot, htt⟩ : ∃ tot : Nat, tot = up4 n0 := ⟨_, rfl⟩
  have htge := up4_ge n0
  have htlt := up4_lt n0
  rw [← htt] at htge htlt
  have HUP : Hid (∀ W, Calls Tryz.prog 22 #[.int .i64 ((40 : Int) + RB.size + a.size + b.size)] W fun e w' => e = .returned (.int .i64 (tot : Int)) ∧ W = w') := fun W => by
    have := refup_any ((n0 : Nat) : Int) W
    rw [up_of n0 (by omega), ← htt] at this
    rw [show ((40 : Int) + RB.size + a.size + b.size) = ((n0 : Nat) : Int) by omega]
    exact this
  have HE : Hid (R = if 16384 < tot then ([], 7) else if (putH (headE RB.size a.size b.size T.bo)).2 ≠ 0 then ([], (putH (headE RB.size a.size b.size T.bo)).2) else ((putH (headE RB.size a.size b.size T.bo)).1 ++ (r ++ (a.data.toList ++ (b.data.toList ++ List.replicate (tot - n0) 0))), 0)) := by
    unfold Hid
    rw [HE.out, ← HRZ.out, htt, hn0]
  have HN0 := Lib.hid hn0
  have HTT := Lib.hid htt
  clear hn0 htt
  have hA10 := Arr.new w7 54 #[.int .i64 0, .int .i64 ((40 : Int) + RB.size), .int .i64 0, .int .i64 40, .int .i64 T.bo, .int .i64 (b.size : Int), .int .i64 (a.size : Int)]
  have hb : Below w7.heap.size w7 (w7.alloc (.cells #[.int .i64 0, .int .i64 ((40 : Int) + RB.size), .int .i64 0, .int .i64 40, .int .i64 T.bo, .int .i64 (b.size : Int), .int .i64 (a.size : Int)] 54)) := (Below.refl _ _).alloc (Nat.le_refl _) _
  have HB8 := Lib.hid (HB1.out.trans (hb.mono HB1.out.size))
  have HW7 : Hid (w.heap.size ≤ w7.heap.size) := HB1.out.size
  clear hb HB1 HA1 HAT
  go_upto_region 13 with fail
  generalize w7.alloc (.cells #[.int .i64 0, .int .i64 ((40 : Int) + RB.size), .int .i64 0, .int .i64 40, .int .i64 T.bo, .int .i64 (b.size : Int), .int .i64 (a.size : Int)] 54) = W8 at *
  generalize w7.heap.size = g10 at *
  clear k0 k1 k2 k3 k4
  have q1 : W8.cell? ⟨g10, 1, none⟩ = some (.int .i64 ((40 : Int) + RB.size)) := hA10.cell 1
  have q2 : W8.cell? ⟨g10, 2, none⟩ = some (.int .i64 0) := hA10.cell 2
  have f2 := hA10.frozen 2
  have hA9 : Arr (W8.setCell ⟨g10, 2, none⟩ (.int .i64 ((40 : Int) + RB.size + a.size))) g10 54 #[.int .i64 0, .int .i64 ((40 : Int) + RB.size), .int .i64 ((40 : Int) + RB.size + a.size), .int .i64 40, .int .i64 T.bo, .int .i64 (b.size : Int), .int .i64 (a.size : Int)] := hA10.put 2 _
  have HB9 := Lib.hid (HB8.out.grown (gr_cell W8 g10 2 (.int .i64 ((40 : Int) + RB.size + a.size))) HB8.out.size (fun k hk => by injection hk with hk; rw [← hk]; exact HW7.out))
  clear hA10 HB8
  go_upto_region 14 with fail
  generalize W8.setCell ⟨g10, 2, none⟩ (.int .i64 ((40 : Int) + RB.size + a.size)) = W9 at *
  clear q1 q2 f2
  have q2 : W9.cell? ⟨g10, 2, none⟩ = some (.int .i64 ((40 : Int) + RB.size + a.size)) := hA9.cell 2
  have q0 : W9.cell? ⟨g10, 0, none⟩ = some (.int .i64 0) := hA9.cell 0
  have f0 := hA9.frozen 0
  have hA11 : Arr (W9.setCell ⟨g10, 0, none⟩ (.int .i64 (tot : Int))) g10 54 #[.int .i64 (tot : Int), .int .i64 ((40 : Int) + RB.size), .int .i64 ((40 : Int) + RB.size + a.size), .int .i64 40, .int .i64 T.bo, .int .i64 (b.size : Int), .int .i64 (a.size : Int)] := hA9.put 0 _
  have HB11 := Lib.hid (HB9.out.grown (gr_cell W9 g10 0 (.int .i64 (tot : Int))) HB9.out.size (fun k hk => by injection hk with hk; rw [← hk]; exact HW7.out))
  clear hA9 HB9
  go_upto_region 15 with (go_at_call 22; refine (HUP.out _).mono ?_; rintro e wu ⟨rfl, rfl⟩)
  generalize W9.setCell ⟨g10, 0, none⟩ (.int .i64 (tot : Int)) = W11 at *
  clear q0 q2 f0 HUP
  have q0 : W11.cell? ⟨g10, 0, none⟩ = some (.int .i64 (tot : Int)) := hA11.cell 0
  have q1 : W11.cell? ⟨g10, 1, none⟩ = some (.int .i64 ((40 : Int) + RB.size)) := hA11.cell 1
  have q2 : W11.cell? ⟨g10, 2, none⟩ = some (.int .i64 ((40 : Int) + RB.size + a.size)) := hA11.cell 2
  have q3 : W11.cell? ⟨g10, 3, none⟩ = some (.int .i64 40) := hA11.cell 3
  have q4 : W11.cell? ⟨g10, 4, none⟩ = some (.int .i64 T.bo) := hA11.cell 4
  have q5 : W11.cell? ⟨g10, 5, none⟩ = some (.int .i64 (b.size : Int)) := hA11.cell 5
  have q6 : W11.cell? ⟨g10, 6, none⟩ = some (.int .i64 (a.size : Int)) := hA11.cell 6
  have HA11 := Lib.hid hA11
  clear hA11
  by_cases h : 16384 < tot
  · have HE : Hid (R = ([], 7)) := by unfold Hid; rw [HE.out, if_pos h]
    have d1 : (16384 : Int) < (tot : Int) := by omega
    clear h
    go_wp2
    go_ret2
    exact ⟨by rw [HE.out]; rfl, HB11.out⟩
  replace HE := Lib.hid (HE.out.trans (if_neg h))
  have d1 : (tot : Int) ≤ 16384 := by omega
  have hbnd : a.size ≤ 16384 ∧ b.size ≤ 16384 := by have := HN0.out; omega
  obtain ⟨hba, hbb⟩ := hbnd
  have HPH : Hid (∀ W, Calls Tryz.prog 23 #[.agg #[.int .i64 (tot : Int), .int .i64 ((40 : Int) + RB.size), .int .i64 ((40 : Int) + RB.size + a.size), .int .i64 40, .int .i64 T.bo, .int .i64 (b.size : Int), .int .i64 (a.size : Int)]] W fun e w' => e = .returned (.tuple #[.string ⟨(putH (headE RB.size a.size b.size T.bo)).1.toArray⟩, .int .i64 ((putH (headE RB.size a.size b.size T.bo)).2 : Int)]) ∧ Below W.heap.size W w') := fun W => by
    have := rputH_any (headE RB.size a.size b.size T.bo) W (by
      show in64 ((up4 (40 + RB.size + a.size + b.size) : Nat) : Int)
      rw [← HN0.out, ← HTT.out]
      unfold in64; omega)
    have e : hdC (headE RB.size a.size b.size T.bo) = #[.int .i64 (tot : Int), .int .i64 ((40 : Int) + RB.size), .int .i64 ((40 : Int) + RB.size + a.size), .int .i64 40, .int .i64 T.bo, .int .i64 (b.size : Int), .int .i64 (a.size : Int)] := by
      rw [HTT.out, HN0.out]
      simp [hdC, headE]
    rw [← e]; exact this
  have HKL : Hid ((putH (headE RB.size a.size b.size T.bo)).2 = 0 → (putH (headE RB.size a.size b.size T.bo)).1.length = 40) := fun h => (putH_len h).1
  rcases hph : putH (headE RB.size a.size b.size T.bo) with ⟨kl, gk⟩
  rw [hph] at HPH HE HKL
  simp only at HPH HE HKL
  obtain ⟨KB, hKB⟩ : ∃ KB : ByteArray, KB = ⟨kl.toArray⟩ := ⟨_, rfl⟩
  rw [← hKB] at HPH
  have HKB : Hid (KB.data.toList = kl) := by unfold Hid; rw [hKB]
  have HKZ : Hid (KB.size = kl.length) := by unfold Hid; rw [hKB, ba_size]
  clear hph hKB h
  go_wp2_with fail
  refine (HPH.out _).mono ?_
  rintro e w12 ⟨rfl, hb⟩
  clear q0 q1 q2 q3 q4 q5 q6 HPH
  have HB12 := Lib.hid (HB11.out.trans (hb.mono HB11.out.size))
  have q0 : w12.cell? ⟨g10, 0, none⟩ = some (.int .i64 (tot : Int)) := (HA11.out.below hb HA11.out.lt).cell 0
  clear hb HB11 HA11
  by_cases h : gk ≠ 0
  · have HE : Hid (R = ([], gk)) := by unfold Hid; rw [HE.out, if_pos h]
    have d2 : ((gk : Int) != 0) = true := by simp; omega
    clear h
    go_wp2
    go_ret2
    exact ⟨by rw [HE.out]; rfl, HB12.out⟩
  replace HE := Lib.hid (HE.out.trans (if_neg h))
  obtain rfl : gk = 0 := Decidable.not_not.1 h
  clear h
  have hk40 : KB.size = 40 := by rw [HKZ.out]; exact HKL.out rfl
  have HK40 := Lib.hid hk40
  have hkle : KB.size ≤ 40 := by omega
  clear hk40 HKL
  obtain ⟨S1, hS1⟩ : ∃ S1 : ByteArray, S1.data.toList = KB.data.toList ++ RB.data.toList := ⟨⟨(KB.data.toList ++ RB.data.toList).toArray⟩, by simp⟩
  obtain ⟨S2, hS2⟩ : ∃ S2 : ByteArray, S2.data.toList = S1.data.toList ++ a.data.toList := ⟨⟨(S1.data.toList ++ a.data.toList).toArray⟩, by simp⟩
  obtain ⟨S3, hS3⟩ : ∃ S3 : ByteArray, S3.data.toList = S2.data.toList ++ b.data.toList := ⟨⟨(S2.data.toList ++ b.data.toList).toArray⟩, by simp⟩
  have z1 : S1.size = KB.size + RB.size := by show S1.data.toList.length = _; rw [hS1, List.length_append]; rfl
  have z2 : S2.size = S1.size + a.size := by show S2.data.toList.length = _; rw [hS2, List.length_append]; rfl
  have z3 : S3.size = S2.size + b.size := by show S3.data.toList.length = _; rw [hS3, List.length_append]; rfl
  have a1 : ∀ W, (Op.stringOp .add KB RB).run Tryz.prog W = .ok (.string S1) W := fun W => add_letters hS1 (by omega) W
  have a2 : ∀ W, (Op.stringOp .add S1 a).run Tryz.prog W = .ok (.string S2) W := fun W => add_letters hS2 (by omega) W
  have a3 : ∀ W, (Op.stringOp .add S2 b).run Tryz.prog W = .ok (.string S3) W := fun W => add_letters hS3 (by omega) W
  have HS3 : Hid (S3.size = n0) := by have h1 := HN0.out; have h2 := HK40.out; unfold Hid; omega
  have HSL : Hid (S3.data.toList = kl ++ (r ++ (a.data.toList ++ b.data.toList))) := by unfold Hid; rw [hS3, hS2, hS1, HKB.out, HRL.out]; simp
  have HE : Hid (R = (S3.data.toList ++ List.replicate (tot - n0) 0, 0)) := by
    unfold Hid; rw [HE.out, HSL.out]; simp
  clear hS1 hS2 hS3 z1 z2 z3 hkle
  go_wp2
  go_loop [13] (fun s => ∃ (S : ByteArray) (m : Nat), s = .string S ∧ Hid (S.data.toList = S3.data.toList ++ List.replicate m 0) ∧ n0 + m ≤ tot) (fun s => tot - strLen15 s)
  case atStart => exact ⟨S3, 0, rfl, by unfold Hid; simp, by omega⟩
  case round =>
    clear a1 a2 a3
    obtain ⟨S, m, rfl, HSM, hm⟩ := hrel
    have hSz : S.size = n0 + m := by
      have := HS3.out
      show S.data.toList.length = _
      rw [HSM.out, List.length_append, List.length_replicate]
      show S3.size + m = _
      omega
    by_cases hlt : n0 + m < tot
    · have d2 : (S.size : Int) < (tot : Int) := by omega
      obtain ⟨S4, hS4⟩ : ∃ S4 : ByteArray, S4.data.toList = S.data.toList ++ [0] := ⟨⟨(S.data.toList ++ [0]).toArray⟩, by simp⟩
      have z4 : S4.size = S.size + 1 := by show S4.data.toList.length = _; rw [hS4, List.length_append]; rfl
      have a4 : ∀ W, (Op.stringOp .add S ⟨#[0]⟩).run Tryz.prog W = .ok (.string S4) W := fun W => add_letters (by rw [hS4]) (by show S.size + 1 ≤ _; omega) W
      have HS4 : Hid (S4.data.toList = S3.data.toList ++ List.replicate (m + 1) 0) := by
        unfold Hid; rw [hS4, HSM.out, List.append_assoc, ← List.replicate_succ']
      have HZ4 : Hid (S4.size = S.size + 1) := z4
      have hlt4 : tot - (S.size + 1) < tot - S.size := by omega
      clear hSz hS4 z4
      go_wp2
      go_round
      case rel => exact ⟨S4, m + 1, rfl, HS4.out, by omega⟩
      case measure =>
        show tot - S4.size < tot - S.size
        rw [HZ4.out]; exact hlt4
    · have d2 : (tot : Int) ≤ (S.size : Int) := by omega
      have hm' : m = tot - n0 := by omega
      have HSE : Hid (R = (S.data.toList, 0)) := by unfold Hid; rw [HE.out, HSM.out, hm']
      clear hSz hm'
      go_wp2
      go_ret2
      exact ⟨by rw [HSE.out]; show _ = Ending.returned (.tuple #[.string ⟨S.data.toList.toArray⟩, _]); rw [show (⟨S.data.toList.toArray⟩ : ByteArray) = S by cases S; simp]; rfl, HB12.out⟩
end Go.Proofs.YtgfdbmbgldeljaaGreat
