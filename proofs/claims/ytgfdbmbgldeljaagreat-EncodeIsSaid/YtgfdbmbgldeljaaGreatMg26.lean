/- The awake() of layer 15's statements. Conditions: the contracts of packages decode and encode. -/
import Derived.Test.YtgfdbmbgldeljaaGreatMg25
import Derived.Test.YtgfdbmbgldeljaaGreatMg0
import Derived.Test.YtgfdbmbgldeljaaGreatShelf
namespace Go.Proofs.YtgfdbmbgldeljaaGreat
open Go.RowKit

set_option maxHeartbeats 1600000 in
set_option maxRecDepth 100000 in
theorem awake15 (M : EncMust) (D : DecTree) (w : World) : Calls Tryz.prog 5 #[] w fun e w' => e = .returned (.bool true) ∧ Below w.heap.size w w' := by
  obtain ⟨W1, hW1⟩ : ∃ W1, W1 = ((w.alloc (.cells #[.string ⟨#[97]⟩, .string ⟨#[120]⟩] 39)).alloc (.cells #[.int .i64 4, .int .i64 8] 41)).alloc (.cells (dtC ⟨#[]⟩ (.slice (some ⟨w.heap.size, 0, none⟩) 1 1) (.slice none 0 0) (.slice (some ⟨w.heap.size + 1, 0, none⟩) 1 1) 1) 28) := ⟨_, rfl⟩
  have hP : Arr W1 w.heap.size 39 #[.string ⟨#[97]⟩, .string ⟨#[120]⟩] := by rw [hW1]; exact ((Arr.new w _ _).alloc _).alloc _
  have hS : Arr W1 (w.heap.size + 1) 41 #[.int .i64 4, .int .i64 8] := by rw [hW1]; exact (Arr.new1 w _ _ _).alloc _
  have hV : Arr W1 (w.heap.size + 1 + 1) 28 (dtC ⟨#[]⟩ (.slice (some ⟨w.heap.size, 0, none⟩) 1 1) (.slice none 0 0) (.slice (some ⟨w.heap.size + 1, 0, none⟩) 1 1) 1) := by rw [hW1]; exact Arr.new2 w _ _ _ _
  have hB1 : Below w.heap.size w W1 := by
    rw [hW1]
    exact (((Below.refl _ _).alloc (Nat.le_refl _) _).alloc (by rw [sz_alloc]; omega) _).alloc (by rw [sz_alloc, sz_alloc]; omega) _
  have hD : DtAt W1 T15 (.slice (some ⟨w.heap.size, 0, none⟩) 1 1) (.slice none 0 0) (some ⟨w.heap.size + 1, 0, none⟩) := by
    refine ⟨?_, .inr ⟨_, 0, rfl, fun k hk => ?_⟩⟩
    · refine @NdAt.mk W1 _ ⟨#[]⟩ [⟨⟨#[97]⟩, ⟨#[120]⟩⟩] [] (some ⟨w.heap.size, 0, none⟩) none 1 0 (fun _ => undef) (fun _ => undef) (.inr ⟨_, 0, rfl, hP.lt, fun k hk => ?_⟩) (Nat.le_refl _) (by decide) (Nat.le_refl _) (Nat.zero_le _) (.inl rfl) (fun _ hi => absurd hi (Nat.not_lt_zero _))
      match k, hk with
      | 0, _ => exact ⟨hP.cell 0, hP.cell 1⟩
    · match k, hk with
      | 0, _ => exact ⟨hS.cell 0, hS.cell 1⟩
  obtain ⟨b15, hb15⟩ : ∃ b, b = (encR T15).1 := ⟨_, rfl⟩
  obtain ⟨S, hSS⟩ : ∃ S : ByteArray, S = ⟨b15.toArray⟩ := ⟨_, rfl⟩
  have hSd : S.data.toList = b15 := by rw [hSS]
  have HSZ : Hid (S.size = b15.length) := by unfold Hid; rw [hSS, ba_size]
  have HEN : Hid (∀ W, DtAt W T15 (.slice (some ⟨w.heap.size, 0, none⟩) 1 1) (.slice none 0 0) (some ⟨w.heap.size + 1, 0, none⟩) → Calls Tryz.prog 6 #[.agg (dtC ⟨#[]⟩ (.slice (some ⟨w.heap.size, 0, none⟩) 1 1) (.slice none 0 0) (.slice (some ⟨w.heap.size + 1, 0, none⟩) 1 1) 1)] W fun e w' => e = .returned (.tuple #[.string S, .int .i64 0]) ∧ Below W.heap.size W w') := fun W h => by
    have := M.tree T15 _ _ _ 1 W (enOk_low low15) in15 h
    rw [enc15, ← hb15, ← hSS] at this
    exact this
  have HDE : Hid (∀ W, Calls Tryz.prog 12 #[.string S] W fun e w' => ∃ v2 v3 A cap, e = .returned (.tuple #[.agg (dtC ⟨#[]⟩ v2 v3 (.slice A 1 cap) 1), .int .i64 0]) ∧ DtAt w' T15 v2 v3 A ∧ Below W.heap.size W w') := fun W => by
    have := D S W (by rw [HSZ.out, hb15]; have := len15; omega)
    rw [hSd, hb15, dec15] at this
    exact this
  have HRE : Hid (∀ W g, Arr W g 41 #[.int .i64 0, .int .i64 0] → Calls Tryz.prog 8 #[.slice (some ⟨g, 0, none⟩) 1 1] W fun e w' => e = .returned (.tuple #[.string ⟨#[]⟩, .int .i64 1]) ∧ Below W.heap.size W w') := fun W g h => by
    have := M.reserve [⟨0, 0⟩] (some ⟨g, 0, none⟩) 1 W (by decide) (fun x hx => by rw [List.mem_singleton] at hx; subst hx; unfold in64; decide) (.inr ⟨g, 0, rfl, fun k hk => by
      match k, hk with
      | 0, _ => exact ⟨h.cell 0, h.cell 1⟩⟩)
    rw [res15] at this
    exact this
  have HSA : Hid (∀ W v2 v3 A cap, DtAt W T15 v2 v3 A → DtAt W T15 (.slice (some ⟨w.heap.size, 0, none⟩) 1 1) (.slice none 0 0) (some ⟨w.heap.size + 1, 0, none⟩) → Calls Tryz.prog 13 #[.agg (dtC ⟨#[]⟩ v2 v3 (.slice A 1 cap) 1), .agg (dtC ⟨#[]⟩ (.slice (some ⟨w.heap.size, 0, none⟩) 1 1) (.slice none 0 0) (.slice (some ⟨w.heap.size + 1, 0, none⟩) 1 1) 1)] W fun e w' => e = .returned (.bool true) ∧ Below W.heap.size W w') := fun W v2 v3 A cap h h' =>
    rSameT_any T15 v2 v3 _ _ A _ cap 1 W (by decide) h h'
  have HZ0 : Hid (∀ W, Calls Tryz.prog 10 #[.agg (dtC ⟨#[]⟩ (.slice none 0 0) (.slice none 0 0) (.slice none 0 0) 0)] W fun e w' => e = .returned (.int .i64 72) ∧ Below W.heap.size W w') := fun W => by
    have := M.size dt0 (.slice none 0 0) (.slice none 0 0) none 0 W (enOk_low lowd0) ind0 (dtAt_zero W)
    rw [size0] at this
    exact this
  have HZ1 : Hid (∀ W, DtAt W T15 (.slice (some ⟨w.heap.size, 0, none⟩) 1 1) (.slice none 0 0) (some ⟨w.heap.size + 1, 0, none⟩) → Calls Tryz.prog 10 #[.agg (dtC ⟨#[]⟩ (.slice (some ⟨w.heap.size, 0, none⟩) 1 1) (.slice none 0 0) (.slice (some ⟨w.heap.size + 1, 0, none⟩) 1 1) 1)] W fun e w' => e = .returned (.int .i64 (S.size : Int)) ∧ Below W.heap.size W w') := fun W h => by
    have := M.size T15 _ _ _ 1 W (enOk_low low15) in15 h
    rw [← hb15, ← HSZ.out] at this
    exact this
  have HD := Lib.hid hD
  have HV := Lib.hid hV
  have HB := Lib.hid hB1
  have hd : ((S.size : Int) == (S.size : Int)) = true := by simp
  clear M D hP hS hV hB1 hD hSS hSd hb15
  go_enter Tryz.func5, Tryz.ntmps5
  go_upto_region 2 with fail
  change Code.wp _ _ _ _ (((w.alloc (.cells #[.string ⟨#[97]⟩, .string ⟨#[120]⟩] 39)).alloc (.cells #[.int .i64 4, .int .i64 8] 41)).alloc (.cells (dtC ⟨#[]⟩ (.slice (some ⟨w.heap.size, 0, none⟩) 1 1) (.slice none 0 0) (.slice (some ⟨w.heap.size + 1, 0, none⟩) 1 1) 1) 28))
  rw [← hW1]
  clear hW1
  generalize w.heap.size + 1 + 1 = g2 at *
  obtain ⟨k0, k1, k2, k3, k4⟩ := dt_cells HV.out
  go_wp2_with fail
  refine (HEN.out _ HD.out).mono ?_
  rintro e w1 ⟨rfl, hb⟩
  clear k0 k1 k2 k3 k4 HEN
  have HD := Lib.hid (HD.out.below hb)
  have HV := Lib.hid (HV.out.below hb HV.out.lt)
  have HB := Lib.hid (HB.out.trans (hb.mono HB.out.size))
  clear hb
  go_wp2_with fail
  refine (HDE.out _).mono ?_
  rintro e w2 ⟨v2, v3, A, cap, rfl, hd2, hb⟩
  obtain ⟨B2, B3, m2, m3, h2, h3, -⟩ := nd_shape hd2.1
  replace h2 : v2 = .slice B2 1 m2 := h2
  replace h3 : v3 = .slice B3 0 m3 := h3
  subst h2 h3
  have hb2 : Below w2.heap.size w2 (w2.alloc (.cells (dtC ⟨#[]⟩ (.slice B2 1 m2) (.slice B3 0 m3) (.slice A 1 cap) 1) 28)) := (Below.refl _ _).alloc (Nat.le_refl _) _
  have HD2 := Lib.hid (hd2.below hb2)
  have HA := Lib.hid (Arr.new w2 28 (dtC ⟨#[]⟩ (.slice B2 1 m2) (.slice B3 0 m3) (.slice A 1 cap) 1))
  have HD := Lib.hid ((HD.out.below hb).below hb2)
  have HV := Lib.hid (HV.out.below hb HV.out.lt)
  have HV := Lib.hid (HV.out.below hb2 HV.out.lt)
  have HB := Lib.hid (HB.out.trans (hb.mono HB.out.size))
  have HB := Lib.hid (HB.out.trans (hb2.mono HB.out.size))
  clear hb hb2 hd2 HDE
  go_upto_region 4 with fail
  generalize w2.alloc (.cells (dtC ⟨#[]⟩ (.slice B2 1 m2) (.slice B3 0 m3) (.slice A 1 cap) 1) 28) = W2 at *
  generalize w2.heap.size = g4 at *
  have hb3 : Below W2.heap.size W2 (W2.alloc (.cells #[.int .i64 0, .int .i64 0] 41)) := (Below.refl _ _).alloc (Nat.le_refl _) _
  have HRZ := Lib.hid (HRE.out _ _ (Arr.new W2 41 #[.int .i64 0, .int .i64 0]))
  go_wp2_with fail
  refine HRZ.out.mono ?_
  rintro e w5 ⟨rfl, hb⟩
  have hb := hb3.trans (hb.mono hb3.size)
  have HD2 := Lib.hid (HD2.out.below hb)
  have HA := Lib.hid (HA.out.below hb HA.out.lt)
  have HD := Lib.hid (HD.out.below hb)
  have HV := Lib.hid (HV.out.below hb HV.out.lt)
  have HB := Lib.hid (HB.out.trans (hb.mono HB.out.size))
  clear hb hb3 HRZ HRE
  obtain ⟨k0, k1, k2, k3, k4⟩ := dt_cells HV.out
  obtain ⟨q0, q1, q2, q3, q4⟩ := dt_cells HA.out
  go_wp2_with fail
  refine (HSA.out _ _ _ _ _ HD2.out HD.out).mono ?_
  rintro e w6 ⟨rfl, hb⟩
  clear k0 k1 k2 k3 k4 q0 q1 q2 q3 q4 HSA HD2 HA
  have HD := Lib.hid (HD.out.below hb)
  have HV := Lib.hid (HV.out.below hb HV.out.lt)
  have HB := Lib.hid (HB.out.trans (hb.mono HB.out.size))
  clear hb
  go_wp2_with fail
  refine (HZ0.out _).mono ?_
  rintro e w7 ⟨rfl, hb⟩
  have HD := Lib.hid (HD.out.below hb)
  have HV := Lib.hid (HV.out.below hb HV.out.lt)
  have HB := Lib.hid (HB.out.trans (hb.mono HB.out.size))
  clear hb HZ0
  obtain ⟨k0, k1, k2, k3, k4⟩ := dt_cells HV.out
  go_wp2_with fail
  refine (HZ1.out _ HD.out).mono ?_
  rintro e w8 ⟨rfl, hb⟩
  have HB := Lib.hid (HB.out.trans (hb.mono HB.out.size))
  clear hb HZ1 k0 k1 k2 k3 k4
  go_wp2
  go_ret
  exact ⟨rfl, HB.out⟩
end Go.Proofs.YtgfdbmbgldeljaaGreat

/- The walk of EncodeIs. Conditions: the contracts of packages decode and encode; a tree in memory, of 64 bits. -/
namespace Go.Proofs.YtgfdbmbgldeljaaGreat
open Go.RowKit

set_option maxHeartbeats 1600000 in
set_option maxRecDepth 100000 in
theorem encodeIs_any (M : EncMust) (D : DecTree) (T : DT) (v2 v3 : Value) (A : Option Addr) (cap : Nat) (w : World) (hat : DtAt w T v2 v3 A) (hin : DtIn T) :
    Calls Tryz.prog 3 #[.agg (dtC T.rt.nm v2 v3 (.slice A T.rs.length cap) T.bo)] w fun e w' => e = .returned (.bool true) ∧ Below w.heap.size w w' := by
  obtain ⟨W1, hW1⟩ : ∃ W1, W1 = w.alloc (.cells (dtC T.rt.nm v2 v3 (.slice A T.rs.length cap) T.bo) 28) := ⟨_, rfl⟩
  obtain ⟨g1, hg1⟩ : ∃ g1, g1 = w.heap.size := ⟨_, rfl⟩
  have hB1 : Below w.heap.size w W1 := by rw [hW1]; exact (Below.refl _ _).alloc (Nat.le_refl _) _
  have hA1 : Arr W1 g1 28 (dtC T.rt.nm v2 v3 (.slice A T.rs.length cap) T.bo) := by rw [hW1, hg1]; exact Arr.new w _ _
  have HAT := Lib.hid (hat.below hB1)
  have HB := Lib.hid hB1
  have HV := Lib.hid hA1
  have HAW := Lib.hid (fun W => awake15 M D W)
  have HLO := Lib.hid (rLowD_any T v2 v3 A cap W1 HAT.out)
  obtain ⟨k0, k1, k2, k3, k4⟩ := dt_cells hA1
  cases hlo : lowD T with
  | false =>
    rw [hlo] at HLO
    clear hat hB1 hA1 hlo M D hin
    go_enter Tryz.func3, Tryz.ntmps3
    go_upto_region 1 with fail
    rw [← hW1, ← hg1]
    clear hW1 hg1
    go_wp2_with fail
    refine HLO.out.mono ?_
    rintro e w2 ⟨rfl, hb⟩
    have HB := Lib.hid (HB.out.trans (hb.mono HB.out.size))
    clear hb HLO k0 k1 k2 k3 k4
    go_wp2_with fail
    refine (HAW.out _).mono ?_
    rintro e w3 ⟨rfl, hb⟩
    have HB := Lib.hid (HB.out.trans (hb.mono HB.out.size))
    clear hb HAW
    go_wp2
    go_ret
    exact ⟨rfl, HB.out⟩
  | true =>
    rw [hlo] at HLO
    have ho := enOk_low hlo
    obtain ⟨S, hS⟩ : ∃ S : ByteArray, S = ⟨(encR T).1.toArray⟩ := ⟨_, rfl⟩
    obtain ⟨X, hX⟩ : ∃ X : ByteArray, X = ⟨(resP T.rs).1.toArray⟩ := ⟨_, rfl⟩
    have HET := Lib.hid (fun W (h : DtAt W T v2 v3 A) => M.tree T v2 v3 A cap W ho hin h)
    have HRT := Lib.hid (fun W (h : DtAt W T v2 v3 A) => rEncT_any T v2 v3 A cap W h ho)
    have HER := Lib.hid (fun W (h : DtAt W T v2 v3 A) => M.reserve T.rs A cap W ho.rl hin.2 h.2)
    have HRR := Lib.hid (fun W (h : DtAt W T v2 v3 A) => rResP_any A cap T.rs W h.2 ho.rl)
    have HSI : Hid (∀ W, DtAt W T v2 v3 A → Calls Tryz.prog 10 #[.agg (dtC T.rt.nm v2 v3 (.slice A T.rs.length cap) T.bo)] W fun e w' => e = .returned (.int .i64 (S.size : Int)) ∧ Below W.heap.size W w') := fun W h => by
      have := M.size T v2 v3 A cap W ho hin h
      rw [← ba_size, ← hS] at this
      exact this
    rw [← hS] at HET HRT
    rw [← hX] at HER HRR
    generalize (encR T).2 = e1 at *
    generalize (resP T.rs).2 = e2 at *
    have d1 : (S.toList == S.toList) = true := by simp
    have d2 : (X.toList == X.toList) = true := by simp
    have d3 : ((e1 : Int) == (e1 : Int)) = true := by simp
    have d4 : ((e2 : Int) == (e2 : Int)) = true := by simp
    have d5 : ((S.size : Int) == (S.size : Int)) = true := by simp
    clear hat hB1 hA1 hlo M D hin ho hS hX
    go_enter Tryz.func3, Tryz.ntmps3
    go_upto_region 1 with fail
    rw [← hW1, ← hg1]
    clear hW1 hg1
    go_wp2_with fail
    refine HLO.out.mono ?_
    rintro e w2 ⟨rfl, hb⟩
    clear k0 k1 k2 k3 k4 HLO
    have HAT := Lib.hid (HAT.out.below hb)
    have HV := Lib.hid (HV.out.below hb HV.out.lt)
    have HB := Lib.hid (HB.out.trans (hb.mono HB.out.size))
    clear hb
    obtain ⟨k0, k1, k2, k3, k4⟩ := dt_cells HV.out
    go_wp2_with fail
    refine (HET.out _ HAT.out).mono ?_
    rintro e w3 ⟨rfl, hb⟩
    clear k0 k1 k2 k3 k4 HET
    have HAT := Lib.hid (HAT.out.below hb)
    have HV := Lib.hid (HV.out.below hb HV.out.lt)
    have HB := Lib.hid (HB.out.trans (hb.mono HB.out.size))
    clear hb
    obtain ⟨k0, k1, k2, k3, k4⟩ := dt_cells HV.out
    go_wp2_with fail
    refine (HRT.out _ HAT.out).mono ?_
    rintro e w4 ⟨rfl, hb⟩
    clear k0 k1 k2 k3 k4 HRT
    have HAT := Lib.hid (HAT.out.below hb)
    have HV := Lib.hid (HV.out.below hb HV.out.lt)
    have HB := Lib.hid (HB.out.trans (hb.mono HB.out.size))
    clear hb
    obtain ⟨k0, k1, k2, k3, k4⟩ := dt_cells HV.out
    go_wp2_with fail
    refine (HER.out _ HAT.out).mono ?_
    rintro e w5 ⟨rfl, hb⟩
    clear k0 k1 k2 k3 k4 HER
    have HAT := Lib.hid (HAT.out.below hb)
    have HV := Lib.hid (HV.out.below hb HV.out.lt)
    have HB := Lib.hid (HB.out.trans (hb.mono HB.out.size))
    clear hb
    obtain ⟨k0, k1, k2, k3, k4⟩ := dt_cells HV.out
    go_wp2_with fail
    refine (HRR.out _ HAT.out).mono ?_
    rintro e w6 ⟨rfl, hb⟩
    clear k0 k1 k2 k3 k4 HRR
    have HAT := Lib.hid (HAT.out.below hb)
    have HV := Lib.hid (HV.out.below hb HV.out.lt)
    have HB := Lib.hid (HB.out.trans (hb.mono HB.out.size))
    clear hb
    obtain ⟨k0, k1, k2, k3, k4⟩ := dt_cells HV.out
    go_wp2_with fail
    refine (HSI.out _ HAT.out).mono ?_
    rintro e w7 ⟨rfl, hb⟩
    clear k0 k1 k2 k3 k4 HSI HV HAT
    have HB := Lib.hid (HB.out.trans (hb.mono HB.out.size))
    clear hb
    go_wp2_with fail
    refine (HAW.out _).mono ?_
    rintro e w8 ⟨rfl, hb⟩
    have HB := Lib.hid (HB.out.trans (hb.mono HB.out.size))
    clear hb HAW
    go_wp2
    go_ret
    exact ⟨rfl, HB.out⟩
end Go.Proofs.YtgfdbmbgldeljaaGreat

/- What num.Bigs returns for every slice of at most 2^40 numbers. -/
namespace Go.Proofs.YtgfdbmbgldeljaaGreat
open Go.RowKit

theorem isBuilder_below {T e : TypeId} {B b : Nat} {bs : List Value} {w w' : World} (h : Lib.IsBuilder T e B b bs w) (hb : Below w.heap.size w w') : Lib.IsBuilder T e B b bs w' := by
  have H : ∀ p, Lib.BuilderAt T e B b p bs w → Lib.BuilderAt T e B b p bs w' := fun p h => by
    have hlt := h.lt
    obtain ⟨h1, v, h2, h3, h4⟩ := h
    exact ⟨h1, v, (hb.block b hlt).trans h2, ownsRow_below h3 hb, h4⟩
  rcases h with h | h
  · exact .inl (H _ h)
  · exact .inr (H _ h)

set_option maxHeartbeats 800000 in
set_option maxRecDepth 100000 in
theorem bigs_any (A : Option Addr) (cap : Nat) (l : List Int) (w : World) (hl : l.length ≤ 1099511627776) (hr : RdI w.heap.size w A l) :
    Calls Tryz.prog 53 #[.slice A l.length cap] w fun e w' => e = .returned (.string ⟨(bigs l l.length).toArray⟩) ∧ Below w.heap.size w w' := by
  have hI0 := Lib.fresh_isBuilder 60 5 w
  go_enter Tryz.func53, Tryz.ntmps53
  go_wp2
  go_loopw [8] (fun i wr => ∃ k : Nat, k ≤ l.length ∧ i = .int .i64 k ∧ Lib.IsBuilder 60 5 w.heap.size w.heap.size (Lib.byteCells (bigs l k)) wr ∧ Below w.heap.size w wr)
    (fun i _ => l.length - (intOf i).toNat)
  case atStart => exact ⟨0, Nat.zero_le _, rfl, hI0, (Below.refl _ _).alloc (Nat.le_refl _) _⟩
  case round =>
    obtain ⟨k, hk, rfl, hI, hb⟩ := hrel
    clear hI0
    have hsz := hb.size
    by_cases hlt : k < l.length
    · obtain ⟨b, off, x, rfl, hbl, hc, HX⟩ := (hr.below hb).at_ hlt
      have hbs := bigs_length l k hk
      have hbc : (Lib.byteCells (bigs l k)).length = 4 * k := by rw [Lib.byteCells_length, hbs]
      have HS := Lib.hid (bigs_succ l k hlt)
      have HB := Lib.hid hbc
      clear hbs hbc
      go_wp2_with fail
      refine (big_any _ _).mono ?_
      rintro e w1 ⟨rfl, hb1⟩
      have hI1 := isBuilder_below hI hb1
      have hs1 := hb1.size
      go_wp2_with fail
      refine (Tryz.Builder_WriteString w.heap.size w.heap.size _ _ _ hI1 (by rw [HB.out, size_mk, big_length]; omega) (by omega)).mono ?_
      rintro e w2 ⟨rfl, hI2, hb2⟩
      have hbb : Below w.heap.size w w2 := (hb.trans (hb1.mono (by omega))).trans hb2
      clear hb hb1 hb2 hI hI1 hc
      go_wp2
      go_roundw
      case rel =>
        refine ⟨k + 1, by omega, by go_num, ?_, hbb⟩
        rw [HS.out, Lib.byteCells_append, HX.out]
        exact .inr hI2
      case measure => simp [intOf]; omega
    · have hkl : k = l.length := by omega
      subst hkl
      go_wp2_with fail
      refine (Tryz.Builder_String_any w.heap.size w.heap.size _ _ hI (by omega)).mono ?_
      rintro e w2 ⟨rfl, hb2⟩
      go_wp2
      go_ret
      exact ⟨rfl, hb.trans hb2⟩

end Go.Proofs.YtgfdbmbgldeljaaGreat
