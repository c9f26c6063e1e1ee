/- Package encode, as it landed, does what it must: the contracts of Tree, Reserve and Size. Conditions: those that the contracts name. -/
import Derived.Test.YtgfdbmbgldeljaaGreatMg25
import Derived.Test.YtgfdbmbgldeljaaGreatMg27
import Derived.Test.YtgfdbmbgldeljaaGreatMg30
import Derived.Test.YtgfdbmbgldeljaaGreatMg35
import Derived.Test.YtgfdbmbgldeljaaGreatMg36
import Derived.Test.YtgfdbmbgldeljaaGreatMg37
import Derived.Test.YtgfdbmbgldeljaaGreatMg16
import Derived.Test.YtgfdbmbgldeljaaGreatMg29
import Derived.Test.YtgfdbmbgldeljaaGreatMg28
import Derived.Laws.StructEq
namespace Go.Proofs.YtgfdbmbgldeljaaGreat
open Go.RowKit

/-- The error of a tree that is too big. -/
def fitE (n : ND) : Nat := if 8 < (countR 9 n).c then 13 else if fitsR n = false then 7 else 0
theorem encR_tog (T : DT) : encR T = if fitE T.rt ≠ 0 then ([], fitE T.rt) else if (resP T.rs).2 ≠ 0 then ([], (resP T.rs).2) else if (putR (tokR 8 T.rt)).2.2 ≠ 0 then ([], (putR (tokR 8 T.rt)).2.2)
    else togR T.bo ⟨(resP T.rs).1.toArray⟩ (putR (tokR 8 T.rt)).1 (putR (tokR 8 T.rt)).2.1 := by
  have h : encR T = if 8 < (countR 9 T.rt).c then ([], 13) else if fitsR T.rt = false then ([], 7) else if (resP T.rs).2 ≠ 0 then ([], (resP T.rs).2) else if (putR (tokR 8 T.rt)).2.2 ≠ 0 then ([], (putR (tokR 8 T.rt)).2.2)
      else togR T.bo ⟨(resP T.rs).1.toArray⟩ (putR (tokR 8 T.rt)).1 (putR (tokR 8 T.rt)).2.1 := by
    unfold encR togR
    rw [ba_size (resP T.rs).1]
  rw [h]
  unfold fitE
  by_cases h1 : 8 < (countR 9 T.rt).c
  · simp only [if_pos h1]; rfl
  · simp only [if_neg h1]
    by_cases h2 : fitsR T.rt = false
    · simp only [if_pos h2]; rfl
    · simp only [if_neg h2]; rfl

set_option maxHeartbeats 1600000 in
set_option maxRecDepth 100000 in
theorem efits_any (G : Nat → Prop) (n : ND) (v2 v3 : Value) (w : World) (ha : (countR 9 n).a ≤ 1099511627776) (hb : (countR 9 n).b ≤ 1099511627776) (hN : NdAt w G n v2 v3) :
    Calls Tryz.prog 14 #[.agg #[.string n.nm, v2, v3]] w fun e w' => e = .returned (.int .i64 (fitE n : Int)) ∧ Below w.heap.size w w' := by
  obtain ⟨W1, hW1⟩ : ∃ W1, W1 = w.alloc (.cells #[.string n.nm, v2, v3] 25) := ⟨_, rfl⟩
  obtain ⟨g8, hg8⟩ : ∃ g8, g8 = w.heap.size := ⟨_, rfl⟩
  have hB1 : Below w.heap.size w W1 := by rw [hW1]; exact (Below.refl _ _).alloc (Nat.le_refl _) _
  have hA8 : Arr W1 g8 25 #[.string n.nm, v2, v3] := by rw [hW1, hg8]; exact Arr.new w _ _
  have HB1 := Lib.hid hB1
  have HN := Lib.hid (nd_below hN hB1)
  have hz1 := hB1.size
  have k0 : W1.cell? ⟨g8, 0, none⟩ = some (.string n.nm) := hA8.cell 0
  have k1 : W1.cell? ⟨g8, 1, none⟩ = some v2 := hA8.cell 1
  have k2 : W1.cell? ⟨g8, 2, none⟩ = some v3 := hA8.cell 2
  have HC := Lib.hid (fun W (h : NdAt W G n v2 v3) => tCount_any G n v2 v3 W ha hb h)
  have HF := Lib.hid (fun W (h : NdAt W G n v2 v3) => tFits_any G n v2 v3 W ha hb h)
  have HA8 := Lib.hid hA8
  have HE : Hid (fitE n = if 8 < (countR 9 n).c then 13 else if fitsR n = false then 7 else 0) := rfl
  generalize fitE n = E at *
  generalize fitsR n = F at *
  rcases hxc : countR 9 n with ⟨a, b, c⟩
  rw [hxc] at HC HE
  simp only at HE
  clear hN hB1 hA8 ha hb hxc
  go_enter Tryz.func14, Tryz.ntmps14
  go_upto_region 1 with fail
  rw [← hW1, ← hg8]
  clear hW1 hg8
  go_wp2_with fail
  refine (HC.out _ HN.out).mono ?_
  rintro e w3 ⟨rfl, hb3⟩
  have HN := Lib.hid (nd_below HN.out hb3)
  have HA8 := Lib.hid (HA8.out.below hb3 HA8.out.lt)
  have HB3 := Lib.hid (HB1.out.trans (hb3.mono hz1))
  clear hb3 HC HB1 k0 k1 k2
  have k0 : w3.cell? ⟨g8, 0, none⟩ = some (.string n.nm) := HA8.out.cell 0
  have k1 : w3.cell? ⟨g8, 1, none⟩ = some v2 := HA8.out.cell 1
  have k2 : w3.cell? ⟨g8, 2, none⟩ = some v3 := HA8.out.cell 2
  by_cases h : 8 < c
  · have d1 : (8 : Int) < (c : Int) := by omega
    have HE : Hid (E = 13) := by unfold Hid; rw [HE.out, if_pos h]
    clear h HF
    go_wp2
    go_ret
    exact ⟨by rw [HE.out]; rfl, HB3.out⟩
  · have d1 : (c : Int) ≤ 8 := by omega
    have HE : Hid (E = if F = false then 7 else 0) := by unfold Hid; rw [HE.out, if_neg h]
    clear h
    go_wp2_with fail
    refine (HF.out _ HN.out).mono ?_
    rintro e w4 ⟨rfl, hb4⟩
    have HB4 := Lib.hid (HB3.out.trans (hb4.mono HB3.out.size))
    clear hb4 HF HB3 k0 k1 k2
    cases F with
    | false =>
      go_wp2
      go_ret
      exact ⟨by rw [HE.out]; rfl, HB4.out⟩
    | true =>
      go_wp2
      go_ret
      exact ⟨by rw [HE.out]; rfl, HB4.out⟩

set_option maxHeartbeats 3200000 in
set_option maxRecDepth 100000 in
theorem eTree_any (T : DT) (v2 v3 : Value) (A : Option Addr) (cap : Nat) (w : World) (ho : EnOk T) (hin : DtIn T) (hat : DtAt w T v2 v3 A) :
    Calls Tryz.prog 6 #[.agg (dtC T.rt.nm v2 v3 (.slice A T.rs.length cap) T.bo)] w fun e w' => e = .returned (.tuple #[.string ⟨(encR T).1.toArray⟩, .int .i64 ((encR T).2 : Int)]) ∧ Below w.heap.size w w' := by
  have hrl := resP_len T.rs
  have hpb := put_bytes ho.tk
  obtain ⟨W1, hW1⟩ : ∃ W1, W1 = w.alloc (.cells (dtC T.rt.nm v2 v3 (.slice A T.rs.length cap) T.bo) 28) := ⟨_, rfl⟩
  obtain ⟨g1, hg1⟩ : ∃ g1, g1 = w.heap.size := ⟨_, rfl⟩
  have hB1 : Below w.heap.size w W1 := by rw [hW1]; exact (Below.refl _ _).alloc (Nat.le_refl _) _
  have hA1 : Arr W1 g1 28 (dtC T.rt.nm v2 v3 (.slice A T.rs.length cap) T.bo) := by rw [hW1, hg1]; exact Arr.new w _ _
  have HAT := Lib.hid (hat.below hB1)
  have HB1 := Lib.hid hB1
  have HA1 := Lib.hid hA1
  have HFT := Lib.hid (fun W G (h : NdAt W G T.rt v2 v3) => efits_any G T.rt v2 v3 W ho.ca ho.cb h)
  have HRS := Lib.hid (fun W (h : RdSp W A T.rs) => eReserve_any T.rs A cap W ho.rl h)
  have HTK := Lib.hid (fun W G (h : NdAt W G T.rt v2 v3) => tTokens_any G T.rt v2 v3 W ho.tl h)
  have HPT := Lib.hid (fun A' cap' W (h : RdTk W A' (tokR 8 T.rt)) => put_any A' cap' (tokR 8 T.rt) W h (by have := ho.tl; unfold maxLen; omega) ho.tk)
  have HE := Lib.hid (encR_tog T)
  have HTG := Lib.hid (fun (R a b : ByteArray) W h1 h2 h3 => tog_any T.bo R a b W hin.1 h1 h2 h3)
  generalize encR T = R at *
  generalize tokR 8 T.rt = TL at *
  generalize fitE T.rt = F at *
  rcases hrs : resP T.rs with ⟨r, er⟩
  rcases hpt : putR TL with ⟨a, b, f⟩
  rw [hrs] at HRS HE hrl
  rw [hpt] at HPT HE hpb
  simp only at HRS HPT HE hrl hpb
  obtain ⟨hpa, hpb⟩ := hpb
  obtain ⟨RB, hRB⟩ : ∃ RB : ByteArray, RB = ⟨r.toArray⟩ := ⟨_, rfl⟩
  rw [← hRB] at HRS HE
  have hrb : RB.size ≤ 272 := by rw [hRB, ba_size]; exact hrl
  have HTG := Lib.hid (fun W => HTG.out RB a b W (by omega) hpa hpb)
  generalize togR T.bo RB a b = TG at *
  clear hRB hrl hrb hpa hpb
  obtain ⟨k0, k1, k2, k3, k4⟩ := dt_cells hA1
  clear hat hB1 hA1 hrs hpt ho hin
  go_enter Tryz.func6, Tryz.ntmps6
  go_upto_region 1 with fail
  rw [← hW1, ← hg1]
  clear hW1 hg1
  go_wp2_with fail
  refine (HFT.out _ _ HAT.out.1).mono ?_
  rintro e w2 ⟨rfl, hb⟩
  clear k0 k1 k2 k3 k4
  have HAT := Lib.hid (HAT.out.below hb)
  have HA1 := Lib.hid (HA1.out.below hb HA1.out.lt)
  have HB1 := Lib.hid (HB1.out.trans (hb.mono HB1.out.size))
  clear hb HFT
  by_cases h : F ≠ 0
  · have HE : Hid (R = ([], F)) := by unfold Hid; rw [HE.out, if_pos h]
    have d1 : ((F : Int) != 0) = true := by simp; omega
    clear h
    go_wp2
    go_ret2
    exact ⟨by rw [HE.out]; rfl, HB1.out⟩
  replace HE := Lib.hid (HE.out.trans (if_neg h))
  obtain rfl : F = 0 := Decidable.not_not.1 h
  clear h
  obtain ⟨k0, k1, k2, k3, k4⟩ := dt_cells HA1.out
  go_wp2_with fail
  refine (HRS.out _ HAT.out.2).mono ?_
  rintro e w5 ⟨rfl, hb⟩
  clear k0 k1 k2 k3 k4
  have HAT := Lib.hid (HAT.out.below hb)
  have HA1 := Lib.hid (HA1.out.below hb HA1.out.lt)
  have HB1 := Lib.hid (HB1.out.trans (hb.mono HB1.out.size))
  clear hb HRS
  by_cases h : er ≠ 0
  · have HE : Hid (R = ([], er)) := by unfold Hid; rw [HE.out, if_pos h]
    have d1 : ((er : Int) != 0) = true := by simp; omega
    clear h
    go_wp2
    go_ret2
    exact ⟨by rw [HE.out]; rfl, HB1.out⟩
  replace HE := Lib.hid (HE.out.trans (if_neg h))
  obtain rfl : er = 0 := Decidable.not_not.1 h
  clear h
  obtain ⟨k0, k1, k2, k3, k4⟩ := dt_cells HA1.out
  go_wp2_with fail
  refine (HTK.out _ _ HAT.out.1).mono ?_
  rintro e w6 ⟨tv, rfl, ho, hb⟩
  obtain ⟨A6, cap6, rfl, hr6⟩ := row_rdTk ho
  have HR6 := Lib.hid hr6
  clear ho hr6 HTK k0 k1 k2 k3 k4
  have HAT := Lib.hid (HAT.out.below hb)
  have HA1 := Lib.hid (HA1.out.below hb HA1.out.lt)
  have HB1 := Lib.hid (HB1.out.trans (hb.mono HB1.out.size))
  clear hb
  go_wp2_with fail
  refine (HPT.out _ _ _ HR6.out).mono ?_
  rintro e w7 ⟨rfl, hb⟩
  clear HR6 HPT
  have HA1 := Lib.hid (HA1.out.below hb HA1.out.lt)
  have HB1 := Lib.hid (HB1.out.trans (hb.mono HB1.out.size))
  clear hb HAT
  by_cases h : f ≠ 0
  · have HE : Hid (R = ([], f)) := by unfold Hid; rw [HE.out, if_pos h]
    have d1 : ((f : Int) != 0) = true := by simp; omega
    clear h
    go_wp2
    go_ret2
    exact ⟨by rw [HE.out]; rfl, HB1.out⟩
  replace HE := Lib.hid (HE.out.trans (if_neg h))
  obtain rfl : f = 0 := Decidable.not_not.1 h
  clear h
  obtain ⟨k0, k1, k2, k3, k4⟩ := dt_cells HA1.out
  go_wp2_with fail
  refine (HTG.out _).mono ?_
  rintro e w8 ⟨rfl, hb⟩
  have HB8 := Lib.hid (HB1.out.trans (hb.mono HB1.out.size))
  clear hb k0 k1 k2 k3 k4 HTG HA1 HB1
  go_wp2
  go_ret2
  exact ⟨by rw [HE.out]; rfl, HB8.out⟩

set_option maxHeartbeats 1600000 in
theorem eSize_any (T : DT) (v2 v3 : Value) (A : Option Addr) (cap : Nat) (w : World) (ho : EnOk T) (hin : DtIn T) (hat : DtAt w T v2 v3 A) :
    Calls Tryz.prog 10 #[.agg (dtC T.rt.nm v2 v3 (.slice A T.rs.length cap) T.bo)] w fun e w' => e = .returned (.int .i64 ((encR T).1.length : Int)) ∧ Below w.heap.size w w' := by
  obtain ⟨W1, hW1⟩ : ∃ W1, W1 = w.alloc (.cells (dtC T.rt.nm v2 v3 (.slice A T.rs.length cap) T.bo) 28) := ⟨_, rfl⟩
  obtain ⟨g1, hg1⟩ : ∃ g1, g1 = w.heap.size := ⟨_, rfl⟩
  have hB1 : Below w.heap.size w W1 := by rw [hW1]; exact (Below.refl _ _).alloc (Nat.le_refl _) _
  have hA1 : Arr W1 g1 28 (dtC T.rt.nm v2 v3 (.slice A T.rs.length cap) T.bo) := by rw [hW1, hg1]; exact Arr.new w _ _
  have HB1 := Lib.hid hB1
  have HTR := Lib.hid (eTree_any T v2 v3 A cap W1 ho hin (hat.below hB1))
  obtain ⟨k0, k1, k2, k3, k4⟩ := dt_cells hA1
  obtain ⟨S, hS⟩ : ∃ S : ByteArray, S = ⟨(encR T).1.toArray⟩ := ⟨_, rfl⟩
  have HSZ : Hid ((encR T).1.length = S.size) := by unfold Hid; rw [hS, ba_size]
  rw [← hS] at HTR
  generalize (encR T).1.length = N at *
  generalize (encR T).2 = E at *
  clear hat hB1 hA1 ho hin hS
  go_enter Tryz.func10, Tryz.ntmps10
  go_upto_region 1 with fail
  rw [← hW1, ← hg1]
  clear hW1 hg1
  go_wp2_with fail
  refine HTR.out.mono ?_
  rintro e w2 ⟨rfl, hb⟩
  have HB2 := Lib.hid (HB1.out.trans (hb.mono HB1.out.size))
  clear hb k0 k1 k2 k3 k4 HTR HB1
  go_wp2
  go_ret
  exact ⟨by rw [HSZ.out]; rfl, HB2.out⟩

theorem enc_must : EncMust where
  tree := fun T v2 v3 A cap w ho hin hat => eTree_any T v2 v3 A cap w ho hin hat
  reserve := fun L A cap w hl _ hr => eReserve_any L A cap w hl hr
  size := fun T v2 v3 A cap w ho hin hat => eSize_any T v2 v3 A cap w ho hin hat
end Go.Proofs.YtgfdbmbgldeljaaGreat

/- The program's pair of layer 14: one reserved span, or why there is none. Conditions: strings of at most 2^40 bytes. -/
namespace Go.Proofs.YtgfdbmbgldeljaaGreat
open Go.RowKit

/-- What stands at a place: a span, or why there is none. -/
def pairD (l : List UInt8) (a : Int) : SP × Nat :=
  if a < 0 then (sp0, 14) else if (l.drop a.toNat).length < 16 then (sp0, 14)
  else if numAt (l.drop a.toNat) 0 ≠ 0 ∨ numAt (l.drop a.toNat) 2 ≠ 0 then (sp0, 6) else (⟨numAt (l.drop a.toNat) 1, numAt (l.drop a.toNat) 3⟩, 0)
theorem pair_short {l : List UInt8} {a : Int} (h : a < 0 ∨ (l.length : Int) < a + 16) : pairD l a = (sp0, 14) := by
  unfold pairD
  split
  · rfl
  · exact if_pos (by rw [List.length_drop]; omega)
theorem pair_form {l : List UInt8} {x : Nat} (hx : x + 16 ≤ l.length) (h : numAt (l.drop x) 0 ≠ 0 ∨ numAt (l.drop x) 2 ≠ 0) : pairD l (x : Int) = (sp0, 6) :=
  (if_neg (by omega)).trans ((if_neg (by rw [List.length_drop]; omega)).trans (if_pos h))
theorem pair_there {l : List UInt8} {x : Nat} (hx : x + 16 ≤ l.length) (h : ¬ (numAt (l.drop x) 0 ≠ 0 ∨ numAt (l.drop x) 2 ≠ 0)) : pairD l (x : Int) = (⟨numAt (l.drop x) 1, numAt (l.drop x) 3⟩, 0) :=
  (if_neg (by omega)).trans ((if_neg (by rw [List.length_drop]; omega)).trans (if_neg h))
theorem pair_cases (l : List UInt8) (a : Int) :
    (pairD l a = (sp0, 14) ∧ ∀ k, resvI k l a = ([], 14)) ∨ (pairD l a = (sp0, 6) ∧ ∀ k, resvI k l a = ([], 6)) ∨
    ∃ p q : Int, pairD l a = (⟨p, q⟩, 0) ∧ 0 ≤ a ∧ a + 16 ≤ l.length ∧ ((p = 0 ∧ q = 0) → ∀ k, resvI k l a = ([], 0)) ∧ (¬ (p = 0 ∧ q = 0) → resvI 0 l a = ([], 7) ∧ ∀ k, resvI (k + 1) l a = joinS [⟨p, q⟩] (resvI k l (a + 16))) := by
  by_cases h0 : a < 0 ∨ (l.length : Int) < a + 16
  · refine .inl ⟨pair_short h0, fun k => ?_⟩
    unfold resvI
    split
    · rfl
    · exact resvR_short k (by rw [List.length_drop]; omega)
  · obtain ⟨x, rfl⟩ : ∃ x : Nat, a = (x : Int) := ⟨a.toNat, by omega⟩
    have hx : x + 16 ≤ l.length := by omega
    have hl : ¬ (l.drop x).length < 16 := by rw [List.length_drop]; omega
    have e : ∀ k, resvI k l (x : Int) = resvR k (l.drop x) := fun k => if_neg (by omega)
    by_cases h1 : numAt (l.drop x) 0 ≠ 0 ∨ numAt (l.drop x) 2 ≠ 0
    · exact .inr (.inl ⟨pair_form hx h1, fun k => (e k).trans (resvR_form k hl h1)⟩)
    · refine .inr (.inr ⟨_, _, pair_there hx h1, by omega, by omega, fun h k => (e k).trans (resvR_end k hl h1 h), fun h => ⟨(e 0).trans (resvR_big hl h1 h), fun k => ?_⟩⟩)
      rw [e, resvR_next hl h1 h, List.drop_drop]
      congr 1

/-- Four numbers of a place, of the program's reader. -/
theorem dfour (s : ByteArray) (k : Nat) (hk : k + 16 ≤ s.size) (W : World) :
    Calls Tryz.prog 54 #[.string (s.extract k (k + 16))] W fun e w' => ∃ (b off cap : Nat), e = .returned (.tuple #[.slice (some ⟨b, off, none⟩) 4 cap, .bool true]) ∧ (∀ j, j < 4 → w'.cell? ⟨b, off + j, none⟩ = some (.int .i64 (numAt (s.data.toList.drop k) j))) ∧ Below W.heap.size W w' := by
  refine (frombigs_yes (s.extract k (k + 16)) 4 W (by rw [ByteArray.size_extract]; omega) (by rw [ByteArray.size_extract]; omega)).mono ?_
  rintro e w' ⟨v, rfl, hown, hb⟩
  rw [extk_list s k 16] at hown
  obtain ⟨A, cap, rfl, hr⟩ := rdI_of_own hown
  rcases hr with h | ⟨b, off, rfl, _, hc⟩
  · exact absurd (congrArg List.length h) (by rw [numsB_length]; decide)
  · refine ⟨b, off, cap, by rw [numsB_length], fun j hj => ?_, hb⟩
    rw [hc j (by rw [numsB_length]; exact hj), numsB_take16 _ _ hj]

theorem sp_one (a b : Int) : (#[.int .i64 a, .int .i64 b] : Array Value).all (·.oneCell') = true := by
  rw [Array.all_eq_true_iff_forall_mem]
  intro v hv
  simp at hv
  rcases hv with rfl | rfl <;> rfl

set_option maxHeartbeats 1600000 in
set_option maxRecDepth 100000 in
theorem dpair_any (s : ByteArray) (a : Int) (w : World) (hs : s.size ≤ 1099511627776) (ha : -9223372036854775808 ≤ a ∧ a ≤ 9223372036854775807) :
    Calls Tryz.prog 56 #[.string s, .int .i64 a] w fun e w' => e = .returned (.tuple #[.agg #[.int .i64 (pairD s.data.toList a).1.p, .int .i64 (pairD s.data.toList a).1.n], .int .i64 ((pairD s.data.toList a).2 : Int)]) ∧ Below w.heap.size w w' := by
  have hsz : s.data.toList.length = s.size := rfl
  have HT0 := Lib.hid (Arr.new w 41 #[.int .i64 0, .int .i64 0])
  have HB0 := Lib.hid ((Below.refl w.heap.size w).alloc (Nat.le_refl _) (.cells #[.int .i64 0, .int .i64 0] 41))
  have hgl : w.heap.size < (w.alloc (.cells #[.int .i64 0, .int .i64 0] 41)).heap.size := by rw [sz_alloc]; omega
  by_cases h0 : a < 0 ∨ (s.size : Int) < a + 16
  · have HE : Hid (pairD s.data.toList a = (sp0, 14)) := pair_short (by rw [hsz]; exact h0)
    have HP : Hid (∀ W, Calls Tryz.prog 57 #[.string s, .agg #[.int .i64 a, .int .i64 16]] W fun e w' => e = .returned (.tuple #[.string ⟨#[]⟩, .int .i64 2]) ∧ Below W.heap.size W w') := fun W => by
      have := hpart_any s a 16 W (by unfold maxLen; omega) (by unfold in64; omega) (by unfold in64; omega)
      rwa [show partR s a 16 = (⟨#[]⟩, 2) from if_pos (by omega)] at this
    generalize pairD s.data.toList a = R at *
    obtain rfl := HE.out
    clear h0 hsz HE ha
    go_enter Tryz.func56, Tryz.ntmps56
    go_wp2_with fail
    refine (HP.out _).mono ?_
    rintro e w1 ⟨rfl, hb1⟩
    have HT1 := Lib.hid (HT0.out.below hb1 HT0.out.lt)
    have HB1 := Lib.hid (HB0.out.trans (hb1.mono HB0.out.size))
    clear hb1 HT0 HB0 HP
    go_wp2_with (refine wpList_store_row rfl 41 (.tmp 4) (.tmp 19) rfl w.heap.size #[.int .i64 0, .int .i64 0] rfl rfl _ _ HT1.out infoSpan rfl (sp_one _ _) ?_)
    exact bodyPost_ret (results_rowH rfl _ _ w.heap.size _ #[.int .i64 0, .int .i64 0] _ _ rfl (HT1.out.row _) Tryz.underlying41 rfl infoSpan) rfl ⟨rfl, below_setRow HB1.out (Nat.le_refl _) _⟩
  · obtain ⟨x, rfl⟩ : ∃ x : Nat, a = (x : Int) := ⟨a.toNat, by omega⟩
    have hx : x + 16 ≤ s.size := by omega
    have HP : Hid (∀ W, Calls Tryz.prog 57 #[.string s, .agg #[.int .i64 (x : Int), .int .i64 16]] W fun e w' => e = .returned (.tuple #[.string (s.extract x (x + 16)), .int .i64 0]) ∧ Below W.heap.size W w') := fun W => by
      have := hpart_any s x 16 W (by unfold maxLen; omega) (by unfold in64; omega) (by unfold in64; omega)
      rwa [show partR s (x : Int) 16 = (s.extract x (x + 16), 0) from if_neg (by omega)] at this
    have HF := Lib.hid (dfour s x hx)
    have HPF : Hid (numAt (s.data.toList.drop x) 0 ≠ 0 ∨ numAt (s.data.toList.drop x) 2 ≠ 0 → pairD s.data.toList (x : Int) = (sp0, 6)) := fun h => pair_form (by rw [hsz]; exact hx) h
    have HPT : Hid (¬ (numAt (s.data.toList.drop x) 0 ≠ 0 ∨ numAt (s.data.toList.drop x) 2 ≠ 0) → pairD s.data.toList (x : Int) = (⟨numAt (s.data.toList.drop x) 1, numAt (s.data.toList.drop x) 3⟩, 0)) := fun h => pair_there (by rw [hsz]; exact hx) h
    generalize pairD s.data.toList (x : Int) = R at *
    generalize s.data.toList.drop x = y at *
    generalize s.extract x (x + 16) = z at *
    clear h0 hsz hx ha
    go_enter Tryz.func56, Tryz.ntmps56
    go_wp2_with fail
    refine (HP.out _).mono ?_
    rintro e w1 ⟨rfl, hb1⟩
    have HT1 := Lib.hid (HT0.out.below hb1 HT0.out.lt)
    have HB1 := Lib.hid (HB0.out.trans (hb1.mono HB0.out.size))
    clear hb1 HT0 HB0 HP
    go_wp2_with fail
    refine (HF.out _).mono ?_
    rintro e w2 ⟨b, off, cap, rfl, hc, hb2⟩
    have HT2 := Lib.hid (HT1.out.below hb2 HT1.out.lt)
    have HB2 := Lib.hid (HB1.out.trans (hb2.mono HB1.out.size))
    have p0 := hc 0 (by omega)
    have p1 := hc 1 (by omega)
    have p2 := hc 2 (by omega)
    have p3 := hc 3 (by omega)
    rw [Nat.add_zero] at p0
    clear hb2 hc HT1 HB1 HF
    generalize numAt y = nn at *
    by_cases g0 : nn 0 = 0
    · have f0 : (nn 0 != 0) = false := by rw [g0]; rfl
      by_cases g2 : nn 2 = 0
      · have f2 : (nn 2 != 0) = false := by rw [g2]; rfl
        obtain rfl := HPT.out (by rw [g0, g2]; simp)
        clear HPF HPT g0 g2
        have k0 : w2.cell? ⟨w.heap.size, 0, none⟩ = some (.int .i64 0) := HT2.out.cell 0
        have k1 : w2.cell? ⟨w.heap.size, 1, none⟩ = some (.int .i64 0) := HT2.out.cell 1
        have r0 := HT2.out.frozen 0
        have r1 := HT2.out.frozen 1
        have HT3 : Hid (Arr ((w2.setCell ⟨w.heap.size, 0, none⟩ (.int .i64 (nn 1))).setCell ⟨w.heap.size, 1, none⟩ (.int .i64 (nn 3))).drew w.heap.size 41 #[.int .i64 (nn 1), .int .i64 (nn 3)]) := (HT2.out.put 0 _).put 1 _
        have HB3 : Hid (Below w.heap.size w ((w2.setCell ⟨w.heap.size, 0, none⟩ (.int .i64 (nn 1))).setCell ⟨w.heap.size, 1, none⟩ (.int .i64 (nn 3))).drew) := ((HB2.out.setCell (p := ⟨w.heap.size, 0, none⟩) (by simp) _).setCell (p := ⟨w.heap.size, 1, none⟩) (by simp) _).drew
        clear HT2 HB2
        go_upto_region 7 with fail
        go_region
        go_wp2
        exact bodyPost_ret (results_rowH rfl _ _ w.heap.size _ #[.int .i64 (nn 1), .int .i64 (nn 3)] _ _ rfl HT3.out Tryz.underlying41 rfl infoSpan) rfl ⟨rfl, HB3.out⟩
      · have f2 : (nn 2 != 0) = true := by simpa using g2
        obtain rfl := HPF.out (.inr g2)
        clear HPF HPT g0 g2
        go_wp2_with (refine wpList_store_row rfl 41 (.tmp 4) (.tmp 35) rfl w.heap.size #[.int .i64 0, .int .i64 0] rfl rfl _ _ HT2.out infoSpan rfl (sp_one _ _) ?_)
        exact bodyPost_ret (results_rowH rfl _ _ w.heap.size _ #[.int .i64 0, .int .i64 0] _ _ rfl (HT2.out.row _) Tryz.underlying41 rfl infoSpan) rfl ⟨rfl, below_setRow HB2.out (Nat.le_refl _) _⟩
    · have f0 : (nn 0 != 0) = true := by simpa using g0
      obtain rfl := HPF.out (.inl g0)
      clear HPF HPT g0
      go_wp2_with (refine wpList_store_row rfl 41 (.tmp 4) (.tmp 35) rfl w.heap.size #[.int .i64 0, .int .i64 0] rfl rfl _ _ HT2.out infoSpan rfl (sp_one _ _) ?_)
      exact bodyPost_ret (results_rowH rfl _ _ w.heap.size _ #[.int .i64 0, .int .i64 0] _ _ rfl (HT2.out.row _) Tryz.underlying41 rfl infoSpan) rfl ⟨rfl, below_setRow HB2.out (Nat.le_refl _) _⟩
end Go.Proofs.YtgfdbmbgldeljaaGreat
