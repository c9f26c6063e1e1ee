/- Package encode, as it landed, does what it must: the contracts of Tree, Reserve and Size. Conditions: those that the contracts name. -/
import Derived.Test.YtgfdbmbgldeljaaMg22
import Derived.Test.YtgfdbmbgldeljaaMg24
import Derived.Test.YtgfdbmbgldeljaaMg27
import Derived.Test.YtgfdbmbgldeljaaMg33
import Derived.Test.YtgfdbmbgldeljaaMg34
import Derived.Test.YtgfdbmbgldeljaaMg35
namespace Go.Proofs.Ytgfdbmbgldeljaa
open Go.RowKit

/-- The error of a tree that is too big. -/
def fitE (n : ND) : Nat := if 8 < (countR 9 n).c then 13 else if fitsR n = false then 7 else 0
theorem encR_tog (T : DT) : encR T = if fitE T.rt ≠ 0 then ([], fitE T.rt) else if (resP T.rs).2 ≠ 0 then ([], (resP T.rs).2) else if (putR (tokR 8 T.rt)).2.2 ≠ 0 then ([], (putR (tokR 8 T.rt)).2.2)
    else togR T.bo ⟨(resP T.rs).1.toArray⟩ (putR (tokR 8 T.rt)).1 (putR (tokR 8 T.rt)).2.1 := by
  have h : encR T = if 8 < (countR 9 T.rt).c then ([], 13) else if fitsR T.rt = false then ([], 7) else if (resP T.rs).2 ≠ 0 then ([], (resP T.rs).2) else if (putR (tokR 8 T.rt)).2.2 ≠ 0 then ([], (putR (tokR 8 T.rt)).2.2)
      else togR T.bo ⟨(resP T.rs).1.toArray⟩ (putR (tokR 8 T.rt)).1 (putR (tokR 8 T.rt)).2.1 := by
    unfold encR togR
    rw [ba_size (resP T.rs).1]
  rw [h]
  unfold fitE
  by_cases h1 : 8 < (countR 9 T.rt).c
  · simp only [if_pos h1]; rfl
  · simp only [if_neg h1]
    by_cases h2 : fitsR T.rt = false
    · simp only [if_pos h2]; rfl
    · simp only [if_neg h2]; rfl

set_option maxHeartbeats 1600000 in
set_option maxRecDepth 100000 in
theorem efits_any (G : Nat → Prop) (n : ND) (v2 v3 : Value) (w : World) (ha : (countR 9 n).a ≤ 1099511627776) (hb : (countR 9 n).b ≤ 1099511627776) (hN : NdAt w G n v2 v3) :
    Calls Try.prog 13 #[.agg #[.string n.nm, v2, v3]] w fun e w' => e = .returned (.int .i64 (fitE n : Int)) ∧ Below w.heap.size w w' := by
  obtain ⟨W1, hW1⟩ : ∃ W1, W1 = w.alloc (.cells #[.string n.nm, v2, v3] 25) := ⟨_, rfl⟩
  obtain ⟨g8, hg8⟩ : ∃ g8, g8 = w.heap.size := ⟨_, rfl⟩
  have hB1 : Below w.heap.size w W1 := by rw [hW1]; exact (Below.refl _ _).alloc (Nat.le_refl _) _
  have hA8 : Arr W1 g8 25 #[.string n.nm, v2, v3] := by rw [hW1, hg8]; exact Arr.new w _ _
  have HB1 := Lib.hid hB1
  have HN := Lib.hid (nd_below hN hB1)
  have hz1 := hB1.size
  have k0 : W1.cell? ⟨g8, 0, none⟩ = some (.string n.nm) := hA8.cell 0
  have k1 : W1.cell? ⟨g8, 1, none⟩ = some v2 := hA8.cell 1
  have k2 : W1.cell? ⟨g8, 2, none⟩ = some v3 := hA8.cell 2
  have HC := Lib.hid (fun W (h : NdAt W G n v2 v3) => tCount_any G n v2 v3 W ha hb h)
  have HF := Lib.hid (fun W (h : NdAt W G n v2 v3) => tFits_any G n v2 v3 W ha hb h)
  have HA8 := Lib.hid hA8
  have HE : Hid (fitE n = if 8 < (countR 9 n).c then 13 else if fitsR n = false then 7 else 0) := rfl
  generalize fitE n = E at *
  generalize fitsR n = F at *
  rcases hxc : countR 9 n with ⟨a, b, c⟩
  rw [hxc] at HC HE
  simp only at HE
  clear hN hB1 hA8 ha hb hxc
  go_enter Try.func13, Try.ntmps13
  go_upto_region 1 with fail
  rw [← hW1, ← hg8]
  clear hW1 hg8
  go_wp2_with fail
  refine (HC.out _ HN.out).mono ?_
  rintro e w3 ⟨rfl, hb3⟩
  have HN := Lib.hid (nd_below HN.out hb3)
  have HA8 := Lib.hid (HA8.out.below hb3 HA8.out.lt)
  have HB3 := Lib.hid (HB1.out.trans (hb3.mono hz1))
  clear hb3 HC HB1 k0 k1 k2
  have k0 : w3.cell? ⟨g8, 0, none⟩ = some (.string n.nm) := HA8.out.cell 0
  have k1 : w3.cell? ⟨g8, 1, none⟩ = some v2 := HA8.out.cell 1
  have k2 : w3.cell? ⟨g8, 2, none⟩ = some v3 := HA8.out.cell 2
  by_cases h : 8 < c
  · have d1 : (8 : Int) < (c : Int) := by omega
    have HE : Hid (E = 13) := by unfold Hid; rw [HE.out, if_pos h]
    clear h HF
    go_wp2
    go_ret
    exact ⟨by rw [HE.out]; rfl, HB3.out⟩
  · have d1 : (c : Int) ≤ 8 := by omega
    have HE : Hid (E = if F = false then 7 else 0) := by unfold Hid; rw [HE.out, if_neg h]
    clear h
    go_wp2_with fail
    refine (HF.out _ HN.out).mono ?_
    rintro e w4 ⟨rfl, hb4⟩
    have HB4 := Lib.hid (HB3.out.trans (hb4.mono HB3.out.size))
    clear hb4 HF HB3 k0 k1 k2
    cases F with
    | false =>
      go_wp2
      go_ret
      exact ⟨by rw [HE.out]; rfl, HB4.out⟩
    | true =>
      go_wp2
      go_ret
      exact ⟨by rw [HE.out]; rfl, HB4.out⟩

set_option maxHeartbeats 3200000 in
set_option maxRecDepth 100000 in
theorem eTree_any (T : DT) (v2 v3 : Value) (A : Option Addr) (cap : Nat) (w : World) (ho : EnOk T) (hin : DtIn T) (hat : DtAt w T v2 v3 A) :
    Calls Try.prog 6 #[.agg (dtC T.rt.nm v2 v3 (.slice A T.rs.length cap) T.bo)] w fun e w' => e = .returned (.tuple #[.string ⟨(encR T).1.toArray⟩, .int .i64 ((encR T).2 : Int)]) ∧ Below w.heap.size w w' := by
  have hrl := resP_len T.rs
  have hpb := put_bytes ho.tk
  obtain ⟨W1, hW1⟩ : ∃ W1, W1 = w.alloc (.cells (dtC T.rt.nm v2 v3 (.slice A T.rs.length cap) T.bo) 28) := ⟨_, rfl⟩
  obtain ⟨g1, hg1⟩ : ∃ g1, g1 = w.heap.size := ⟨_, rfl⟩
  have hB1 : Below w.heap.size w W1 := by rw [hW1]; exact (Below.refl _ _).alloc (Nat.le_refl _) _
  have hA1 : Arr W1 g1 28 (dtC T.rt.nm v2 v3 (.slice A T.rs.length cap) T.bo) := by rw [hW1, hg1]; exact Arr.new w _ _
  have HAT := Lib.hid (hat.below hB1)
  have HB1 := Lib.hid hB1
  have HA1 := Lib.hid hA1
  have HFT := Lib.hid (fun W G (h : NdAt W G T.rt v2 v3) => efits_any G T.rt v2 v3 W ho.ca ho.cb h)
  have HRS := Lib.hid (fun W (h : RdSp W A T.rs) => eReserve_any T.rs A cap W ho.rl h)
  have HTK := Lib.hid (fun W G (h : NdAt W G T.rt v2 v3) => tTokens_any G T.rt v2 v3 W ho.tl h)
  have HPT := Lib.hid (fun A' cap' W (h : RdTk W A' (tokR 8 T.rt)) => put_any A' cap' (tokR 8 T.rt) W h (by have := ho.tl; unfold maxLen; omega) ho.tk)
  have HE := Lib.hid (encR_tog T)
  have HTG := Lib.hid (fun (R a b : ByteArray) W h1 h2 h3 => tog_any T.bo R a b W hin.1 h1 h2 h3)
  generalize encR T = R at *
  generalize tokR 8 T.rt = TL at *
  generalize fitE T.rt = F at *
  rcases hrs : resP T.rs with ⟨r, er⟩
  rcases hpt : putR TL with ⟨a, b, f⟩
  rw [hrs] at HRS HE hrl
  rw [hpt] at HPT HE hpb
  simp only at HRS HPT HE hrl hpb
  obtain ⟨hpa, hpb⟩ := hpb
  obtain ⟨RB, hRB⟩ : ∃ RB : ByteArray, RB = ⟨r.toArray⟩ := ⟨_, rfl⟩
  rw [← hRB] at HRS HE
  have hrb : RB.size ≤ 272 := by rw [hRB, ba_size]; exact hrl
  have HTG := Lib.hid (fun W => HTG.out RB a b W (by omega) hpa hpb)
  generalize togR T.bo RB a b = TG at *
  clear hRB hrl hrb hpa hpb
  obtain ⟨k0, k1, k2, k3, k4⟩ := dt_cells hA1
  clear hat hB1 hA1 hrs hpt ho hin
  go_enter Try.func6, Try.ntmps6
  go_upto_region 1 with fail
  rw [← hW1, ← hg1]
  clear hW1 hg1
  go_wp2_with fail
  refine (HFT.out _ _ HAT.out.1).mono ?_
  rintro e w2 ⟨rfl, hb⟩
  clear k0 k1 k2 k3 k4
  have HAT := Lib.hid (HAT.out.below hb)
  have HA1 := Lib.hid (HA1.out.below hb HA1.out.lt)
  have HB1 := Lib.hid (HB1.out.trans (hb.mono HB1.out.size))
  clear hb HFT
  by_cases h : F ≠ 0
  · have HE : Hid (R = ([], F)) := by unfold Hid; rw [HE.out, if_pos h]
    have d1 : ((F : Int) != 0) = true := by simp; omega
    clear h
    go_wp2
    go_ret2
    exact ⟨by rw [HE.out]; rfl, HB1.out⟩
  replace HE := Lib.hid (HE.out.trans (if_neg h))
  obtain rfl : F = 0 := Decidable.not_not.1 h
  clear h
  obtain ⟨k0, k1, k2, k3, k4⟩ := dt_cells HA1.out
  go_wp2_with fail
  refine (HRS.out _ HAT.out.2).mono ?_
  rintro e w5 ⟨rfl, hb⟩
  clear k0 k1 k2 k3 k4
  have HAT := Lib.hid (HAT.out.below hb)
  have HA1 := Lib.hid (HA1.out.below hb HA1.out.lt)
  have HB1 := Lib.hid (HB1.out.trans (hb.mono HB1.out.size))
  clear hb HRS
  by_cases h : er ≠ 0
  · have HE : Hid (R = ([], er)) := by unfold Hid; rw [HE.out, if_pos h]
    have d1 : ((er : Int) != 0) = true := by simp; omega
    clear h
    go_wp2
    go_ret2
    exact ⟨by rw [HE.out]; rfl, HB1.out⟩
  replace HE := Lib.hid (HE.out.trans (if_neg h))
  obtain rfl : er = 0 := Decidable.not_not.1 h
  clear h
  obtain ⟨k0, k1, k2, k3, k4⟩ := dt_cells HA1.out
  go_wp2_with fail
  refine (HTK.out _ _ HAT.out.1).mono ?_
  rintro e w6 ⟨tv, rfl, ho, hb⟩
  obtain ⟨A6, cap6, rfl, hr6⟩ := row_rdTk ho
  have HR6 := Lib.hid hr6
  clear ho hr6 HTK k0 k1 k2 k3 k4
  have HAT := Lib.hid (HAT.out.below hb)
  have HA1 := Lib.hid (HA1.out.below hb HA1.out.lt)
  have HB1 := Lib.hid (HB1.out.trans (hb.mono HB1.out.size))
  clear hb
  go_wp2_with fail
  refine (HPT.out _ _ _ HR6.out).mono ?_
  rintro e w7 ⟨rfl, hb⟩
  clear HR6 HPT
  have HA1 := Lib.hid (HA1.out.below hb HA1.out.lt)
  have HB1 := Lib.hid (HB1.out.trans (hb.mono HB1.out.size))
  clear hb HAT
  by_cases h : f ≠ 0
  · have HE : Hid (R = ([], f)) := by unfold Hid; rw [HE.out, if_pos h]
    have d1 : ((f : Int) != 0) = true := by simp; omega
    clear h
    go_wp2
    go_ret2
    exact ⟨by rw [HE.out]; rfl, HB1.out⟩
  replace HE := Lib.hid (HE.out.trans (if_neg h))
  obtain rfl : f = 0 := Decidable.not_not.1 h
  clear h
  obtain ⟨k0, k1, k2, k3, k4⟩ := dt_cells HA1.out
  go_wp2_with fail
  refine (HTG.out _).mono ?_
  rintro e w8 ⟨rfl, hb⟩
  have HB8 := Lib.hid (HB1.out.trans (hb.mono HB1.out.size))
  clear hb k0 k1 k2 k3 k4 HTG HA1 HB1
  go_wp2
  go_ret2
  exact ⟨by rw [HE.out]; rfl, HB8.out⟩

set_option maxHeartbeats 1600000 in
theorem eSize_any (T : DT) (v2 v3 : Value) (A : Option Addr) (cap : Nat) (w : World) (ho : EnOk T) (hin : DtIn T) (hat : DtAt w T v2 v3 A) :
    Calls Try.prog 12 #[.agg (dtC T.rt.nm v2 v3 (.slice A T.rs.length cap) T.bo)] w fun e w' => e = .returned (.int .i64 ((encR T).1.length : Int)) ∧ Below w.heap.size w w' := by
  obtain ⟨W1, hW1⟩ : ∃ W1, W1 = w.alloc (.cells (dtC T.rt.nm v2 v3 (.slice A T.rs.length cap) T.bo) 28) := ⟨_, rfl⟩
  obtain ⟨g1, hg1⟩ : ∃ g1, g1 = w.heap.size := ⟨_, rfl⟩
  have hB1 : Below w.heap.size w W1 := by rw [hW1]; exact (Below.refl _ _).alloc (Nat.le_refl _) _
  have hA1 : Arr W1 g1 28 (dtC T.rt.nm v2 v3 (.slice A T.rs.length cap) T.bo) := by rw [hW1, hg1]; exact Arr.new w _ _
  have HB1 := Lib.hid hB1
  have HTR := Lib.hid (eTree_any T v2 v3 A cap W1 ho hin (hat.below hB1))
  obtain ⟨k0, k1, k2, k3, k4⟩ := dt_cells hA1
  obtain ⟨S, hS⟩ : ∃ S : ByteArray, S = ⟨(encR T).1.toArray⟩ := ⟨_, rfl⟩
  have HSZ : Hid ((encR T).1.length = S.size) := by unfold Hid; rw [hS, ba_size]
  rw [← hS] at HTR
  generalize (encR T).1.length = N at *
  generalize (encR T).2 = E at *
  clear hat hB1 hA1 ho hin hS
  go_enter Try.func12, Try.ntmps12
  go_upto_region 1 with fail
  rw [← hW1, ← hg1]
  clear hW1 hg1
  go_wp2_with fail
  refine HTR.out.mono ?_
  rintro e w2 ⟨rfl, hb⟩
  have HB2 := Lib.hid (HB1.out.trans (hb.mono HB1.out.size))
  clear hb k0 k1 k2 k3 k4 HTR HB1
  go_wp2
  go_ret
  exact ⟨by rw [HSZ.out]; rfl, HB2.out⟩

theorem enc_must : EncMust where
  tree := fun T v2 v3 A cap w ho hin hat => eTree_any T v2 v3 A cap w ho hin hat
  reserve := fun L A cap w hl _ hr => eReserve_any L A cap w hl hr
  size := fun T v2 v3 A cap w ho hin hat => eSize_any T v2 v3 A cap w ho hin hat
end Go.Proofs.Ytgfdbmbgldeljaa
