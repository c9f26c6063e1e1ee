/- The walk of EncodeBack. Conditions: the contracts of packages decode and encode; a tree in memory, of 64 bits. -/
import Derived.Test.YtgfdbmbgldeljaaMg22
import Derived.Test.YtgfdbmbgldeljaaMg0
import Derived.Test.YtgfdbmbgldeljaaShelf
namespace Go.Proofs.Ytgfdbmbgldeljaa
open Go.RowKit

theorem encR_bad {T : DT} (h : (encR T).2 ≠ 0) : (encR T).1 = [] := by
  unfold encR at h ⊢
  split
  · rfl
  rename_i h1
  rw [if_neg h1] at h
  split
  · rfl
  rename_i h2
  rw [if_neg h2] at h
  split
  · rfl
  rename_i h3
  rw [if_neg h3] at h
  split
  · rfl
  rename_i h4
  rw [if_neg h4] at h
  split
  · rfl
  rename_i h5
  rw [if_neg h5] at h
  split
  · rfl
  rename_i h6
  rw [if_neg h6] at h
  exact absurd rfl h
/-- A tree that was decoded, with slices. -/
theorem dt_shape {w : World} {T : DT} {v2 v3 : Value} {A : Option Addr} (h : DtAt w T v2 v3 A) : ∃ B2 B3 m2 m3, v2 = .slice B2 T.rt.ps.length m2 ∧ v3 = .slice B3 T.rt.ks.length m3 := by
  obtain ⟨B2, B3, m2, m3, h2, h3, -⟩ := nd_shape h.1
  exact ⟨B2, B3, m2, m3, h2, h3⟩
theorem encR_len {T : DT} (hv : ∀ x ∈ tokR 8 T.rt, x.vl.size ≤ 1048576) (h : (encR T).2 = 0) : (encR T).1.length ≤ 16384 := by
  have h1 := dec_enc (m := []) hv (Prod.ext rfl h : encR T = ((encR T).1, 0))
  rw [List.append_nil] at h1
  have h2 := readH_ok h1.1
  have := h2.2.2.1
  rw [h1.2.1] at this
  omega
theorem empty_bytes {S : ByteArray} (h : S.data.toList = []) : S = ⟨#[]⟩ := by
  apply ByteArray.ext
  apply Array.ext'
  rw [h]

set_option maxHeartbeats 3200000 in
set_option maxRecDepth 100000 in
theorem encodeBack_any (M : EncMust) (D : DecMust) (T : DT) (v2 v3 : Value) (A : Option Addr) (cap : Nat) (s : ByteArray) (w : World) (hat : DtAt w T v2 v3 A) (hin : DtIn T) :
    Calls Try.prog 3 #[.agg (dtC T.rt.nm v2 v3 (.slice A T.rs.length cap) T.bo), .string s] w fun e w' => e = .returned (.bool true) ∧ Below w.heap.size w w' := by
  obtain ⟨W1, hW1⟩ : ∃ W1, W1 = w.alloc (.cells (dtC T.rt.nm v2 v3 (.slice A T.rs.length cap) T.bo) 28) := ⟨_, rfl⟩
  obtain ⟨g1, hg1⟩ : ∃ g1, g1 = w.heap.size := ⟨_, rfl⟩
  have hB1 : Below w.heap.size w W1 := by rw [hW1]; exact (Below.refl _ _).alloc (Nat.le_refl _) _
  have hA1 : Arr W1 g1 28 (dtC T.rt.nm v2 v3 (.slice A T.rs.length cap) T.bo) := by rw [hW1, hg1]; exact Arr.new w _ _
  have HAT := Lib.hid (hat.below hB1)
  have HB := Lib.hid hB1
  have HV := Lib.hid hA1
  have HAW := Lib.hid (fun W => awake15 M D.tree W)
  have HLO := Lib.hid (rLowD_any T v2 v3 A cap W1 HAT.out)
  obtain ⟨k0, k1, k2, k3, k4⟩ := dt_cells hA1
  by_cases hg : lowD T = true ∧ s.size ≤ 2048
  · obtain ⟨hlo, hs⟩ := hg
    rw [hlo] at HLO
    have ho := enOk_low hlo
    have hv : ∀ x ∈ tokR 8 T.rt, x.vl.size ≤ 1048576 := fun x hx => by have := tok_low 12 8 T.rt (low_and (lowD_and hlo).1).1 x hx; omega
    have c1 : decide ((2048 : Int) < (s.size : Int)) = false := decide_eq_false (by omega)
    obtain ⟨S, hS⟩ : ∃ S : ByteArray, S = ⟨(encR T).1.toArray⟩ := ⟨_, rfl⟩
    have hSd : S.data.toList = (encR T).1 := by rw [hS]
    have hSz : S.size = (encR T).1.length := by rw [hS, ba_size]
    have HET := Lib.hid (fun W (h : DtAt W T v2 v3 A) => M.tree T v2 v3 A cap W ho hin h)
    rw [← hS] at HET
    -- what is read of the bytes, whatever stands behind
    have HOK : Hid ((encR T).2 = 0 → S.size ≤ 16384 ∧ ∀ AS : ByteArray, AS.data.toList = S.data.toList ++ s.data.toList → treeD AS.data.toList = (T, 0) ∧ (readH AS.data.toList).1.tot = (S.size : Int) ∧ (readH AS.data.toList).2 = 0) := fun h0 => by
      refine ⟨by rw [hSz]; exact encR_len hv h0, fun AS hAS => ?_⟩
      have h1 := dec_enc (m := s.data.toList) hv (Prod.ext rfl h0 : encR T = ((encR T).1, 0))
      rw [← hSd, ← hAS] at h1
      exact ⟨h1.2.2, by rw [h1.2.1, hSd, hSz], by rw [h1.1]⟩
    have HBAD : Hid ((encR T).2 ≠ 0 → S = ⟨#[]⟩) := fun h => empty_bytes (by rw [hSd, encR_bad h])
    have HDT := Lib.hid (fun AS W (h : ByteArray.size AS ≤ 1099511627776) => D.tree AS W h)
    have HDS := Lib.hid (fun AS W (h : ByteArray.size AS ≤ 1099511627776) => D.size AS W h)
    have HSA := Lib.hid (fun W u2 u3 A' cap' (h' : DtAt W T u2 u3 A') (h : DtAt W T v2 v3 A) => rSameT_any T u2 u3 v2 v3 A' A cap' cap W ho.rl h' h)
    have HEM := Lib.hid (fun T2 u2 u3 A' cap' W (h1 : EnOk T2) (h2 : DtIn T2) (h : DtAt W T2 u2 u3 A') => M.tree T2 u2 u3 A' cap' W h1 h2 h)
    generalize (encR T).2 = e1 at *
    have hsb : (s.data.toList).length ≤ 2048 := hs
    clear hat hB1 hA1 hlo M D hin ho hS hSd hSz hv
    go_enter Try.func3, Try.ntmps3
    go_upto_region 1 with fail
    rw [← hW1, ← hg1]
    clear hW1 hg1
    go_wp2_with fail
    refine HLO.out.mono ?_
    rintro e w2 ⟨rfl, hb⟩
    clear k0 k1 k2 k3 k4 HLO
    have HAT := Lib.hid (HAT.out.below hb)
    have HV := Lib.hid (HV.out.below hb HV.out.lt)
    have HB := Lib.hid (HB.out.trans (hb.mono HB.out.size))
    clear hb
    obtain ⟨k0, k1, k2, k3, k4⟩ := dt_cells HV.out
    go_wp2_with fail
    refine (HET.out _ HAT.out).mono ?_
    rintro e w3 ⟨rfl, hb⟩
    clear k0 k1 k2 k3 k4 HET
    have HAT := Lib.hid (HAT.out.below hb)
    have HV := Lib.hid (HV.out.below hb HV.out.lt)
    have HB := Lib.hid (HB.out.trans (hb.mono HB.out.size))
    clear hb
    go_upto_if 32 with fail
    go_cut [] (fun wx => Below w3.heap.size w3 wx)
    case first =>
      by_cases h0 : e1 = 0
      · have d0 : ((e1 : Int) == 0) = true := by rw [h0]; rfl
        obtain ⟨hS16, hAS⟩ := HOK.out h0
        obtain ⟨AS, hASd⟩ : ∃ AS : ByteArray, AS.data.toList = S.data.toList ++ s.data.toList := ⟨⟨(S.data.toList ++ s.data.toList).toArray⟩, by simp⟩
        obtain ⟨r1, r2, r3⟩ := hAS AS hASd
        have zAS : AS.size = S.size + s.size := by show AS.data.toList.length = _; rw [hASd, List.length_append]; rfl
        have a1 : ∀ W, (Op.stringOp .add S s).run Try.prog W = .ok (.string AS) W := fun W => add_letters hASd (by omega) W
        have HD1 : Hid (∀ W, Calls Try.prog 7 #[.string AS] W fun e w' => ∃ u2 u3 A' cap', e = .returned (.tuple #[.agg (dtC T.rt.nm u2 u3 (.slice A' T.rs.length cap') T.bo), .int .i64 0]) ∧ DtAt w' T u2 u3 A' ∧ Below W.heap.size W w') := fun W => by
          have := HDT.out AS W (by omega)
          rw [r1] at this
          exact this
        have HD2 : Hid (∀ W, Calls Try.prog 8 #[.string AS] W fun e w' => e = .returned (.tuple #[.int .i64 (S.size : Int), .int .i64 0]) ∧ Below W.heap.size W w') := fun W => by
          have := HDS.out AS W (by omega)
          rw [r2, r3] at this
          exact this
        have d5 : ((S.size : Int) != (S.size : Int)) = false := by simp
        clear h0 hS16 hAS hASd r1 r2 r3 zAS HOK HBAD HDT HDS HEM HAW hsb hs
        go_wp2_with fail
        refine (HD1.out _).mono ?_
        rintro e w4 ⟨u2, u3, A', cap', rfl, hd2, hb⟩
        obtain ⟨B2, B3, m2, m3, rfl, rfl⟩ := dt_shape hd2
        have hb2 : Below w4.heap.size w4 (w4.alloc (.cells (dtC T.rt.nm (.slice B2 T.rt.ps.length m2) (.slice B3 T.rt.ks.length m3) (.slice A' T.rs.length cap') T.bo) 28)) := (Below.refl _ _).alloc (Nat.le_refl _) _
        have HD4 := Lib.hid (hd2.below hb2)
        have HA4 := Lib.hid (Arr.new w4 28 (dtC T.rt.nm (.slice B2 T.rt.ps.length m2) (.slice B3 T.rt.ks.length m3) (.slice A' T.rs.length cap') T.bo))
        have HBC := Lib.hid (hb.trans (hb2.mono hb.size))
        have HAT := Lib.hid (HAT.out.below HBC.out)
        have HV := Lib.hid (HV.out.below HBC.out HV.out.lt)
        clear hb hb2 hd2 HD1
        go_upto_region 6 with fail
        generalize w4.alloc (.cells (dtC T.rt.nm (.slice B2 T.rt.ps.length m2) (.slice B3 T.rt.ks.length m3) (.slice A' T.rs.length cap') T.bo) 28) = W4 at *
        generalize w4.heap.size = g7 at *
        go_wp2_with fail
        refine (HD2.out _).mono ?_
        rintro e w5 ⟨rfl, hb⟩
        have HD4 := Lib.hid (HD4.out.below hb)
        have HA4 := Lib.hid (HA4.out.below hb HA4.out.lt)
        have HAT := Lib.hid (HAT.out.below hb)
        have HV := Lib.hid (HV.out.below hb HV.out.lt)
        have HBC := Lib.hid (HBC.out.trans (hb.mono HBC.out.size))
        clear hb HD2
        obtain ⟨k0, k1, k2, k3, k4⟩ := dt_cells HV.out
        obtain ⟨q0, q1, q2, q3, q4⟩ := dt_cells HA4.out
        go_wp2_with fail
        refine (HSA.out _ _ _ _ _ HD4.out HAT.out).mono ?_
        rintro e w6 ⟨rfl, hb⟩
        have HBC := Lib.hid (HBC.out.trans (hb.mono HBC.out.size))
        clear hb k0 k1 k2 k3 k4 q0 q1 q2 q3 q4 HSA HD4 HA4 HAT HV HB
        go_wp2
        go_meet
        exact HBC.out
      · have d0 : ((e1 : Int) == 0) = false := by simp; omega
        have hSe := HBAD.out h0
        subst hSe
        have HBC : Hid (Below w3.heap.size w3 w3) := Below.refl _ _
        clear h0 HOK HBAD HDT HDS HEM HAW hsb hs HSA HAT HV HB
        go_wp2
        go_meet
        exact HBC.out
    case rest => as_aux_lemma =>
      have HB := Lib.hid (HB.out.trans (hcut.mono HB.out.size))
      clear hcut HOK HBAD HDS HSA HAT HV
      have HD1 := Lib.hid (fun W => HDT.out s W (by omega))
      by_cases hf : (treeD s.data.toList).2 = 0
      · obtain ⟨T2, hT2⟩ : ∃ T2, treeD s.data.toList = (T2, 0) := ⟨_, Prod.ext rfl hf⟩
        obtain ⟨b, hb1, hb2⟩ := enc_dec hsb hT2
        obtain ⟨ho2, hi2⟩ := dec_sizes hsb hT2
        have hv2 : ∀ x ∈ tokR 8 T2.rt, x.vl.size ≤ 1048576 := fun x hx => by
          obtain ⟨k, hk, rfl⟩ := List.getElem_of_mem hx
          have := (ho2.tk k hk).2
          rwa [List.getD_eq_getElem?_getD, List.getElem?_eq_getElem hk] at this
        have hbl := encR_len hv2 (by rw [hb1] : (encR T2).2 = 0)
        rw [hb1] at hbl
        rw [hT2] at HD1
        obtain ⟨S2, hS2⟩ : ∃ S2 : ByteArray, S2 = ⟨b.toArray⟩ := ⟨_, rfl⟩
        have hS2d : S2.data.toList = b := by rw [hS2]
        have hS2z : S2.size ≤ 16384 := by rw [hS2, ba_size]; exact hbl
        have HE2 : Hid (∀ W u2 u3 A' cap', DtAt W T2 u2 u3 A' → Calls Try.prog 6 #[.agg (dtC T2.rt.nm u2 u3 (.slice A' T2.rs.length cap') T2.bo)] W fun e w' => e = .returned (.tuple #[.string S2, .int .i64 0]) ∧ Below W.heap.size W w') := fun W u2 u3 A' cap' h => by
          have := HEM.out T2 u2 u3 A' cap' W ho2 hi2 h
          rw [hb1, ← hS2] at this
          exact this
        have HD2 : Hid (∀ W, Calls Try.prog 7 #[.string S2] W fun e w' => ∃ u2 u3 A' cap', e = .returned (.tuple #[.agg (dtC T2.rt.nm u2 u3 (.slice A' T2.rs.length cap') T2.bo), .int .i64 0]) ∧ DtAt w' T2 u2 u3 A' ∧ Below W.heap.size W w') := fun W => by
          have := HDT.out S2 W (by omega)
          rw [hS2d, hb2] at this
          exact this
        have HSB := Lib.hid (fun W u2 u3 x2 x3 A' A2 cap' cap2 (h' : DtAt W T2 u2 u3 A') (h : DtAt W T2 x2 x3 A2) => rSameT_any T2 u2 u3 x2 x3 A' A2 cap' cap2 W ho2.rl h' h)
        clear hf hT2 hb1 hb2 ho2 hi2 hv2 hbl hS2 hS2d hS2z HDT HEM hsb hs
        go_wp2_with fail
        refine (HD1.out _).mono ?_
        rintro e w4 ⟨u2, u3, A', cap', rfl, hd2, hb⟩
        obtain ⟨B2, B3, m2, m3, rfl, rfl⟩ := dt_shape hd2
        have hb2 : Below w4.heap.size w4 (w4.alloc (.cells (dtC T2.rt.nm (.slice B2 T2.rt.ps.length m2) (.slice B3 T2.rt.ks.length m3) (.slice A' T2.rs.length cap') T2.bo) 28)) := (Below.refl _ _).alloc (Nat.le_refl _) _
        have HD4 := Lib.hid (hd2.below hb2)
        have HA4 := Lib.hid (Arr.new w4 28 (dtC T2.rt.nm (.slice B2 T2.rt.ps.length m2) (.slice B3 T2.rt.ks.length m3) (.slice A' T2.rs.length cap') T2.bo))
        have HB := Lib.hid (HB.out.trans (hb.mono HB.out.size))
        have HB := Lib.hid (HB.out.trans (hb2.mono HB.out.size))
        clear hb hb2 hd2 HD1
        go_upto_region 12 with fail
        generalize w4.alloc (.cells (dtC T2.rt.nm (.slice B2 T2.rt.ps.length m2) (.slice B3 T2.rt.ks.length m3) (.slice A' T2.rs.length cap') T2.bo) 28) = W4 at *
        generalize w4.heap.size = g11 at *
        obtain ⟨q0, q1, q2, q3, q4⟩ := dt_cells HA4.out
        go_wp2_with fail
        refine (HE2.out _ _ _ _ _ HD4.out).mono ?_
        rintro e w5 ⟨rfl, hb⟩
        clear q0 q1 q2 q3 q4 HE2
        have HD4 := Lib.hid (HD4.out.below hb)
        have HA4 := Lib.hid (HA4.out.below hb HA4.out.lt)
        have HB := Lib.hid (HB.out.trans (hb.mono HB.out.size))
        clear hb
        go_wp2_with fail
        refine (HD2.out _).mono ?_
        rintro e w6 ⟨y2, y3, A6, cap6, rfl, hd6, hb⟩
        obtain ⟨E2, E3, n2, n3, rfl, rfl⟩ := dt_shape hd6
        have hb2 : Below w6.heap.size w6 (w6.alloc (.cells (dtC T2.rt.nm (.slice E2 T2.rt.ps.length n2) (.slice E3 T2.rt.ks.length n3) (.slice A6 T2.rs.length cap6) T2.bo) 28)) := (Below.refl _ _).alloc (Nat.le_refl _) _
        have HD6 := Lib.hid (hd6.below hb2)
        have HA6 := Lib.hid (Arr.new w6 28 (dtC T2.rt.nm (.slice E2 T2.rt.ps.length n2) (.slice E3 T2.rt.ks.length n3) (.slice A6 T2.rs.length cap6) T2.bo))
        have HD4 := Lib.hid ((HD4.out.below hb).below hb2)
        have HA4 := Lib.hid (HA4.out.below hb HA4.out.lt)
        have HA4 := Lib.hid (HA4.out.below hb2 HA4.out.lt)
        have HB := Lib.hid (HB.out.trans (hb.mono HB.out.size))
        have HB := Lib.hid (HB.out.trans (hb2.mono HB.out.size))
        clear hb hb2 hd6 HD2
        go_upto_region 16 with fail
        generalize w6.alloc (.cells (dtC T2.rt.nm (.slice E2 T2.rt.ps.length n2) (.slice E3 T2.rt.ks.length n3) (.slice A6 T2.rs.length cap6) T2.bo) 28) = W6 at *
        generalize w6.heap.size = g15 at *
        obtain ⟨q0, q1, q2, q3, q4⟩ := dt_cells HA4.out
        obtain ⟨p0, p1, p2, p3, p4⟩ := dt_cells HA6.out
        go_wp2_with fail
        refine (HSB.out _ _ _ _ _ _ _ _ _ HD6.out HD4.out).mono ?_
        rintro e w7 ⟨rfl, hb⟩
        clear q0 q1 q2 q3 q4 p0 p1 p2 p3 p4 HSB HD4 HA4 HD6 HA6
        have HB := Lib.hid (HB.out.trans (hb.mono HB.out.size))
        clear hb
        go_wp2_with fail
        refine (HAW.out _).mono ?_
        rintro e w8 ⟨rfl, hb⟩
        have HB := Lib.hid (HB.out.trans (hb.mono HB.out.size))
        clear hb HAW
        go_wp2
        go_ret
        exact ⟨rfl, HB.out⟩
      · generalize treeD s.data.toList = R at *
        obtain ⟨T2, f2⟩ := R
        simp only at hf HD1
        have d0 : ((f2 : Int) != 0) = true := by simp; omega
        clear hf HDT HEM hsb hs
        go_wp2_with fail
        refine (HD1.out _).mono ?_
        rintro e w4 ⟨u2, u3, A', cap', rfl, hd2, hb⟩
        obtain ⟨B2, B3, m2, m3, rfl, rfl⟩ := dt_shape hd2
        have hb2 : Below w4.heap.size w4 (w4.alloc (.cells (dtC T2.rt.nm (.slice B2 T2.rt.ps.length m2) (.slice B3 T2.rt.ks.length m3) (.slice A' T2.rs.length cap') T2.bo) 28)) := (Below.refl _ _).alloc (Nat.le_refl _) _
        have HB := Lib.hid (HB.out.trans (hb.mono HB.out.size))
        have HB := Lib.hid (HB.out.trans (hb2.mono HB.out.size))
        clear hb hb2 hd2 HD1
        go_upto_region 12 with fail
        generalize w4.alloc (.cells (dtC T2.rt.nm (.slice B2 T2.rt.ps.length m2) (.slice B3 T2.rt.ks.length m3) (.slice A' T2.rs.length cap') T2.bo) 28) = W4 at *
        go_wp2_with fail
        refine (HAW.out _).mono ?_
        rintro e w5 ⟨rfl, hb⟩
        have HB := Lib.hid (HB.out.trans (hb.mono HB.out.size))
        clear hb HAW
        go_wp2
        go_ret
        exact ⟨rfl, HB.out⟩
  · clear hat hB1 hA1 M D hin HAT
    cases hlo : lowD T with
    | false =>
      rw [hlo] at HLO
      clear hg hlo
      go_enter Try.func3, Try.ntmps3
      go_upto_region 1 with fail
      rw [← hW1, ← hg1]
      clear hW1 hg1
      go_wp2_with fail
      refine HLO.out.mono ?_
      rintro e w2 ⟨rfl, hb⟩
      have HB := Lib.hid (HB.out.trans (hb.mono HB.out.size))
      clear hb HLO k0 k1 k2 k3 k4
      go_wp2_with fail
      refine (HAW.out _).mono ?_
      rintro e w3 ⟨rfl, hb⟩
      have HB := Lib.hid (HB.out.trans (hb.mono HB.out.size))
      clear hb HAW
      go_wp2
      go_ret
      exact ⟨rfl, HB.out⟩
    | true =>
      rw [hlo] at HLO
      have hs : ¬ s.size ≤ 2048 := fun h => hg ⟨hlo, h⟩
      have c1 : decide ((2048 : Int) < (s.size : Int)) = true := decide_eq_true (by omega)
      clear hg hlo hs
      go_enter Try.func3, Try.ntmps3
      go_upto_region 1 with fail
      rw [← hW1, ← hg1]
      clear hW1 hg1
      go_wp2_with fail
      refine HLO.out.mono ?_
      rintro e w2 ⟨rfl, hb⟩
      have HB := Lib.hid (HB.out.trans (hb.mono HB.out.size))
      clear hb HLO k0 k1 k2 k3 k4
      go_wp2_with fail
      refine (HAW.out _).mono ?_
      rintro e w3 ⟨rfl, hb⟩
      have HB := Lib.hid (HB.out.trans (hb.mono HB.out.size))
      clear hb HAW
      go_wp2
      go_ret
      exact ⟨rfl, HB.out⟩
end Go.Proofs.Ytgfdbmbgldeljaa

/- What num.Bigs returns for every slice of at most 2^40 numbers. -/
namespace Go.Proofs.Ytgfdbmbgldeljaa
open Go.RowKit

theorem isBuilder_below {T e : TypeId} {B b : Nat} {bs : List Value} {w w' : World} (h : Lib.IsBuilder T e B b bs w) (hb : Below w.heap.size w w') : Lib.IsBuilder T e B b bs w' := by
  have H : ∀ p, Lib.BuilderAt T e B b p bs w → Lib.BuilderAt T e B b p bs w' := fun p h => by
    have hlt := h.lt
    obtain ⟨h1, v, h2, h3, h4⟩ := h
    exact ⟨h1, v, (hb.block b hlt).trans h2, ownsRow_below h3 hb, h4⟩
  rcases h with h | h
  · exact .inl (H _ h)
  · exact .inr (H _ h)

set_option maxHeartbeats 800000 in
set_option maxRecDepth 100000 in
theorem bigs_any (A : Option Addr) (cap : Nat) (l : List Int) (w : World) (hl : l.length ≤ 1099511627776) (hr : RdI w.heap.size w A l) :
    Calls Try.prog 45 #[.slice A l.length cap] w fun e w' => e = .returned (.string ⟨(bigs l l.length).toArray⟩) ∧ Below w.heap.size w w' := by
  have hI0 := Lib.fresh_isBuilder 68 5 w
  go_enter Try.func45, Try.ntmps45
  go_wp2
  go_loopw [8] (fun i wr => ∃ k : Nat, k ≤ l.length ∧ i = .int .i64 k ∧ Lib.IsBuilder 68 5 w.heap.size w.heap.size (Lib.byteCells (bigs l k)) wr ∧ Below w.heap.size w wr)
    (fun i _ => l.length - (intOf i).toNat)
  case atStart => exact ⟨0, Nat.zero_le _, rfl, hI0, (Below.refl _ _).alloc (Nat.le_refl _) _⟩
  case round =>
    obtain ⟨k, hk, rfl, hI, hb⟩ := hrel
    clear hI0
    have hsz := hb.size
    by_cases hlt : k < l.length
    · obtain ⟨b, off, x, rfl, hbl, hc, HX⟩ := (hr.below hb).at_ hlt
      have hbs := bigs_length l k hk
      have hbc : (Lib.byteCells (bigs l k)).length = 4 * k := by rw [Lib.byteCells_length, hbs]
      have HS := Lib.hid (bigs_succ l k hlt)
      have HB := Lib.hid hbc
      clear hbs hbc
      go_wp2_with fail
      refine (big_any _ _).mono ?_
      rintro e w1 ⟨rfl, hb1⟩
      have hI1 := isBuilder_below hI hb1
      have hs1 := hb1.size
      go_wp2_with fail
      refine (Try.Builder_WriteString w.heap.size w.heap.size _ _ _ hI1 (by rw [HB.out, size_mk, big_length]; omega) (by omega)).mono ?_
      rintro e w2 ⟨rfl, hI2, hb2⟩
      have hbb : Below w.heap.size w w2 := (hb.trans (hb1.mono (by omega))).trans hb2
      clear hb hb1 hb2 hI hI1 hc
      go_wp2
      go_roundw
      case rel =>
        refine ⟨k + 1, by omega, by go_num, ?_, hbb⟩
        rw [HS.out, Lib.byteCells_append, HX.out]
        exact .inr hI2
      case measure => simp [intOf]; omega
    · have hkl : k = l.length := by omega
      subst hkl
      go_wp2_with fail
      refine (Try.Builder_String_any w.heap.size w.heap.size _ _ hI (by omega)).mono ?_
      rintro e w2 ⟨rfl, hb2⟩
      go_wp2
      go_ret
      exact ⟨rfl, hb.trans hb2⟩

end Go.Proofs.Ytgfdbmbgldeljaa
