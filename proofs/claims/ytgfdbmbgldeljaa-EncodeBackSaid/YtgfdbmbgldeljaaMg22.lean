/- Sizes of trees that are encoded; what package encode must do, said over nothing of its code. No condition. -/
import Derived.Test.YtgfdbmbgldeljaaMg21
import Derived.Test.YtgfdbmbgldeljaaMg20
namespace Go.Proofs.Ytgfdbmbgldeljaa
open Go.RowKit

/-- The tokens of a tree with few bytes in each part. -/
theorem tok_low : ∀ (j k : Nat) (n : ND), lowR j n = true → ∀ x ∈ tokR k n, x.nm.size ≤ 100 ∧ x.vl.size ≤ 300
  | 0, _, _, h => by cases h
  | _ + 1, 0, _, _ => fun x hx => absurd hx List.not_mem_nil
  | j + 1, k + 1, n, h => fun x hx => by
    have h' : x ∈ ((⟨1, n.nm, ByteArray.empty⟩ : TK) :: n.ps.map tokP) ++ n.ks.flatMap (tokR k) ++ [(⟨2, ByteArray.empty, ByteArray.empty⟩ : TK)] := hx
    rcases List.mem_append.1 h' with h' | h'
    · rcases List.mem_append.1 h' with h' | h'
      · rcases List.mem_cons.1 h' with rfl | h'
        · exact ⟨(low_parts h).1, Nat.zero_le _⟩
        · obtain ⟨p, hp, rfl⟩ := List.mem_map.1 h'
          have := of_decide_eq_true (low_props h p hp)
          exact this
      · obtain ⟨y, hy, hx⟩ := List.mem_flatMap.1 h'
        exact tok_low j k y (low_kids h y hy) x hx
    · rw [List.mem_singleton] at h'
      subst h'
      exact ⟨Nat.zero_le _, Nat.zero_le _⟩
theorem enOk_low {T : DT} (h : lowD T = true) : EnOk T := by
  obtain ⟨h1, h2⟩ := lowD_and h
  have hc := sz_count (sz_of_low h1)
  exact ⟨by omega, by omega, by omega, fun k hk => by
    have := tok_low 12 8 T.rt (low_and h1).1 _ (getD_mem (d := tk0) hk)
    omega, by unfold maxLen; omega⟩
/-- Spans, and a tree, of 64 bits. -/
def SpIn (l : List SP) : Prop := ∀ x ∈ l, in64 x.p ∧ in64 x.n
def DtIn (T : DT) : Prop := in64 T.bo ∧ SpIn T.rs
/-- A tree that was decoded of few bytes. -/
theorem dec_sizes {s : List UInt8} {T : DT} (hs : s.length ≤ 2048) (h : treeD s = (T, 0)) : EnOk T ∧ DtIn T := by
  obtain ⟨h0, hf, h16⟩ := treeD_ok h
  obtain ⟨d, hd⟩ : ∃ d, readH s = (d, 0) := ⟨_, Prod.ext rfl h0⟩
  obtain ⟨hm, hl1, hl2, hl3, hdo⟩ := readH_ok hd
  unfold treeD at h
  rw [hd, if_neg (by simp)] at h
  unfold bodyD at h
  split at h
  · rename_i h1; exact absurd (congrArg Prod.snd h) h1
  split at h
  · rename_i h1; exact absurd (congrArg Prod.snd h) h1
  split at h
  · rename_i h1; exact absurd (congrArg Prod.snd h) h1
  rename_i h1 h2 h3
  have hT := (Prod.mk.inj h).1
  clear h
  have hsl : (s.take d.tot.toNat).length ≤ 2048 := by rw [List.length_take]; omega
  simp only at h1 h2 h3 hT
  generalize s.take d.tot.toNat = s' at *
  have hpl := Nat.le_trans (partB_len s' d.stc d.siz) hsl
  generalize partB s' d.stc d.siz = pa at *
  generalize partB s' d.sgs d.txs = pb at *
  obtain ⟨l, hr⟩ : ∃ l, readR 1024 pa pb = (l, 0) := ⟨_, Prod.ext rfl (Decidable.not_not.1 h2)⟩
  rw [hr] at h3 hT
  simp only at h3 hT
  obtain ⟨n, ho⟩ : ∃ n, ofR l = (n, 0) := ⟨_, Prod.ext rfl (Decidable.not_not.1 h3)⟩
  obtain ⟨K, hK⟩ : ∃ K, resv s' d.rsv = (K, 0) := ⟨_, Prod.ext rfl (Decidable.not_not.1 h1)⟩
  rw [ho, hK] at hT
  simp only at hT
  subst hT
  obtain ⟨k1, k2⟩ := resv_ok hK
  obtain ⟨t1, -⟩ := tokens_of ho
  obtain ⟨-, -, w3, -, -, w6⟩ := read_put (by omega) hr
  have y2 := (say_w l).2
  have hcc := of_decide_eq_true hf
  simp only at hcc h16
  refine ⟨⟨by simp only; omega, by simp only; omega, by simp only; rw [t1]; omega, fun k hk => ?_, by simp only; unfold maxLen; omega⟩, ?_, fun x hx => ?_⟩
  · simp only at hk ⊢
    rw [t1] at hk ⊢
    obtain ⟨x, hx, e⟩ := say_mem (getD_mem (d := tk0) hk)
    rw [e]
    obtain ⟨j, hj, rfl⟩ := List.getElem_of_mem hx
    have := w3 j hj
    rw [List.getD_eq_getElem?_getD, List.getElem?_eq_getElem hj] at this
    simp only [Option.getD_some] at this
    unfold bare
    split
    · exact ⟨this.1, Nat.zero_le _⟩
    · split
      · exact this
      · exact ⟨Nat.zero_le _, Nat.zero_le _⟩
  · have := numAt_bd s 7
    simp only
    rw [hdo]
    show in64 (numAt s 7)
    unfold in64; omega
  · have := okSp_iff.1 (List.all_eq_true.1 k1 x hx)
    unfold in64; omega

/-- The contracts of package encode. -/
structure EncMust : Prop where
  tree : ∀ (T : DT) (v2 v3 : Value) (A : Option Addr) (cap : Nat) (w : World), EnOk T → DtIn T → DtAt w T v2 v3 A → Calls Try.prog 6 #[.agg (dtC T.rt.nm v2 v3 (.slice A T.rs.length cap) T.bo)] w fun e w' => e = .returned (.tuple #[.string ⟨(encR T).1.toArray⟩, .int .i64 ((encR T).2 : Int)]) ∧ Below w.heap.size w w'
  reserve : ∀ (L : List SP) (A : Option Addr) (cap : Nat) (w : World), L.length ≤ maxLen → SpIn L → RdSp w A L → Calls Try.prog 11 #[.slice A L.length cap] w fun e w' => e = .returned (.tuple #[.string ⟨(resP L).1.toArray⟩, .int .i64 ((resP L).2 : Int)]) ∧ Below w.heap.size w w'
  size : ∀ (T : DT) (v2 v3 : Value) (A : Option Addr) (cap : Nat) (w : World), EnOk T → DtIn T → DtAt w T v2 v3 A → Calls Try.prog 12 #[.agg (dtC T.rt.nm v2 v3 (.slice A T.rs.length cap) T.bo)] w fun e w' => e = .returned (.int .i64 ((encR T).1.length : Int)) ∧ Below w.heap.size w w'

/-- The tree that awake() takes. -/
def T15 : DT := ⟨.mk ⟨#[]⟩ [⟨⟨#[97]⟩, ⟨#[120]⟩⟩] [], [⟨4, 8⟩], 1⟩
theorem low15 : lowD T15 = true := by decide +kernel
theorem lowd0 : lowD dt0 = true := by decide +kernel
theorem in15 : DtIn T15 := ⟨by unfold in64 T15; decide, fun x hx => by
  rw [show T15.rs = [⟨4, 8⟩] from rfl, List.mem_singleton] at hx
  subst hx
  unfold in64; decide⟩
theorem ind0 : DtIn dt0 := ⟨by unfold in64 dt0; decide, fun x hx => absurd hx List.not_mem_nil⟩
theorem enc15 : (encR T15).2 = 0 := by kernel_rfl
theorem size0 : (encR dt0).1.length = 72 := by kernel_rfl
theorem res15 : resP [⟨0, 0⟩] = ([], 1) := by kernel_rfl
theorem dec15 : treeD (encR T15).1 = (T15, 0) := by
  have h := dec_enc (T := T15) (s := (encR T15).1) (m := []) (fun x hx => by have := tok_low 12 8 T15.rt (low_and (lowD_and low15).1).1 x hx; omega) (Prod.ext rfl enc15)
  rw [List.append_nil] at h
  exact h.2.2
theorem len15 : (encR T15).1.length ≤ 1000 := by
  have : decide ((encR T15).1.length ≤ 1000) = true := by kernel_rfl
  exact of_decide_eq_true this
end Go.Proofs.Ytgfdbmbgldeljaa

/- The awake() of layer 15's statements. Conditions: the contracts of packages decode and encode. -/
namespace Go.Proofs.Ytgfdbmbgldeljaa
open Go.RowKit

set_option maxHeartbeats 1600000 in
set_option maxRecDepth 100000 in
theorem awake15 (M : EncMust) (D : DecTree) (w : World) : Calls Try.prog 5 #[] w fun e w' => e = .returned (.bool true) ∧ Below w.heap.size w w' := by
  obtain ⟨W1, hW1⟩ : ∃ W1, W1 = ((w.alloc (.cells #[.string ⟨#[97]⟩, .string ⟨#[120]⟩] 42)).alloc (.cells #[.int .i64 4, .int .i64 8] 44)).alloc (.cells (dtC ⟨#[]⟩ (.slice (some ⟨w.heap.size, 0, none⟩) 1 1) (.slice none 0 0) (.slice (some ⟨w.heap.size + 1, 0, none⟩) 1 1) 1) 28) := ⟨_, rfl⟩
  have hP : Arr W1 w.heap.size 42 #[.string ⟨#[97]⟩, .string ⟨#[120]⟩] := by rw [hW1]; exact ((Arr.new w _ _).alloc _).alloc _
  have hS : Arr W1 (w.heap.size + 1) 44 #[.int .i64 4, .int .i64 8] := by rw [hW1]; exact (Arr.new1 w _ _ _).alloc _
  have hV : Arr W1 (w.heap.size + 1 + 1) 28 (dtC ⟨#[]⟩ (.slice (some ⟨w.heap.size, 0, none⟩) 1 1) (.slice none 0 0) (.slice (some ⟨w.heap.size + 1, 0, none⟩) 1 1) 1) := by rw [hW1]; exact Arr.new2 w _ _ _ _
  have hB1 : Below w.heap.size w W1 := by
    rw [hW1]
    exact (((Below.refl _ _).alloc (Nat.le_refl _) _).alloc (by rw [sz_alloc]; omega) _).alloc (by rw [sz_alloc, sz_alloc]; omega) _
  have hD : DtAt W1 T15 (.slice (some ⟨w.heap.size, 0, none⟩) 1 1) (.slice none 0 0) (some ⟨w.heap.size + 1, 0, none⟩) := by
    refine ⟨?_, .inr ⟨_, 0, rfl, fun k hk => ?_⟩⟩
    · refine @NdAt.mk W1 _ ⟨#[]⟩ [⟨⟨#[97]⟩, ⟨#[120]⟩⟩] [] (some ⟨w.heap.size, 0, none⟩) none 1 0 (fun _ => undef) (fun _ => undef) (.inr ⟨_, 0, rfl, hP.lt, fun k hk => ?_⟩) (Nat.le_refl _) (by decide) (Nat.le_refl _) (Nat.zero_le _) (.inl rfl) (fun _ hi => absurd hi (Nat.not_lt_zero _))
      match k, hk with
      | 0, _ => exact ⟨hP.cell 0, hP.cell 1⟩
    · match k, hk with
      | 0, _ => exact ⟨hS.cell 0, hS.cell 1⟩
  obtain ⟨b15, hb15⟩ : ∃ b, b = (encR T15).1 := ⟨_, rfl⟩
  obtain ⟨S, hSS⟩ : ∃ S : ByteArray, S = ⟨b15.toArray⟩ := ⟨_, rfl⟩
  have hSd : S.data.toList = b15 := by rw [hSS]
  have HSZ : Hid (S.size = b15.length) := by unfold Hid; rw [hSS, ba_size]
  have HEN : Hid (∀ W, DtAt W T15 (.slice (some ⟨w.heap.size, 0, none⟩) 1 1) (.slice none 0 0) (some ⟨w.heap.size + 1, 0, none⟩) → Calls Try.prog 6 #[.agg (dtC ⟨#[]⟩ (.slice (some ⟨w.heap.size, 0, none⟩) 1 1) (.slice none 0 0) (.slice (some ⟨w.heap.size + 1, 0, none⟩) 1 1) 1)] W fun e w' => e = .returned (.tuple #[.string S, .int .i64 0]) ∧ Below W.heap.size W w') := fun W h => by
    have := M.tree T15 _ _ _ 1 W (enOk_low low15) in15 h
    rw [enc15, ← hb15, ← hSS] at this
    exact this
  have HDE : Hid (∀ W, Calls Try.prog 7 #[.string S] W fun e w' => ∃ v2 v3 A cap, e = .returned (.tuple #[.agg (dtC ⟨#[]⟩ v2 v3 (.slice A 1 cap) 1), .int .i64 0]) ∧ DtAt w' T15 v2 v3 A ∧ Below W.heap.size W w') := fun W => by
    have := D S W (by rw [HSZ.out, hb15]; have := len15; omega)
    rw [hSd, hb15, dec15] at this
    exact this
  have HRE : Hid (∀ W g, Arr W g 44 #[.int .i64 0, .int .i64 0] → Calls Try.prog 11 #[.slice (some ⟨g, 0, none⟩) 1 1] W fun e w' => e = .returned (.tuple #[.string ⟨#[]⟩, .int .i64 1]) ∧ Below W.heap.size W w') := fun W g h => by
    have := M.reserve [⟨0, 0⟩] (some ⟨g, 0, none⟩) 1 W (by decide) (fun x hx => by rw [List.mem_singleton] at hx; subst hx; unfold in64; decide) (.inr ⟨g, 0, rfl, fun k hk => by
      match k, hk with
      | 0, _ => exact ⟨h.cell 0, h.cell 1⟩⟩)
    rw [res15] at this
    exact this
  have HSA : Hid (∀ W v2 v3 A cap, DtAt W T15 v2 v3 A → DtAt W T15 (.slice (some ⟨w.heap.size, 0, none⟩) 1 1) (.slice none 0 0) (some ⟨w.heap.size + 1, 0, none⟩) → Calls Try.prog 9 #[.agg (dtC ⟨#[]⟩ v2 v3 (.slice A 1 cap) 1), .agg (dtC ⟨#[]⟩ (.slice (some ⟨w.heap.size, 0, none⟩) 1 1) (.slice none 0 0) (.slice (some ⟨w.heap.size + 1, 0, none⟩) 1 1) 1)] W fun e w' => e = .returned (.bool true) ∧ Below W.heap.size W w') := fun W v2 v3 A cap h h' =>
    rSameT_any T15 v2 v3 _ _ A _ cap 1 W (by decide) h h'
  have HZ0 : Hid (∀ W, Calls Try.prog 12 #[.agg (dtC ⟨#[]⟩ (.slice none 0 0) (.slice none 0 0) (.slice none 0 0) 0)] W fun e w' => e = .returned (.int .i64 72) ∧ Below W.heap.size W w') := fun W => by
    have := M.size dt0 (.slice none 0 0) (.slice none 0 0) none 0 W (enOk_low lowd0) ind0 (dtAt_zero W)
    rw [size0] at this
    exact this
  have HZ1 : Hid (∀ W, DtAt W T15 (.slice (some ⟨w.heap.size, 0, none⟩) 1 1) (.slice none 0 0) (some ⟨w.heap.size + 1, 0, none⟩) → Calls Try.prog 12 #[.agg (dtC ⟨#[]⟩ (.slice (some ⟨w.heap.size, 0, none⟩) 1 1) (.slice none 0 0) (.slice (some ⟨w.heap.size + 1, 0, none⟩) 1 1) 1)] W fun e w' => e = .returned (.int .i64 (S.size : Int)) ∧ Below W.heap.size W w') := fun W h => by
    have := M.size T15 _ _ _ 1 W (enOk_low low15) in15 h
    rw [← hb15, ← HSZ.out] at this
    exact this
  have HD := Lib.hid hD
  have HV := Lib.hid hV
  have HB := Lib.hid hB1
  have hd : ((S.size : Int) == (S.size : Int)) = true := by simp
  clear M D hP hS hV hB1 hD hSS hSd hb15
  go_enter Try.func5, Try.ntmps5
  go_upto_region 2 with fail
  change Code.wp _ _ _ _ (((w.alloc (.cells #[.string ⟨#[97]⟩, .string ⟨#[120]⟩] 42)).alloc (.cells #[.int .i64 4, .int .i64 8] 44)).alloc (.cells (dtC ⟨#[]⟩ (.slice (some ⟨w.heap.size, 0, none⟩) 1 1) (.slice none 0 0) (.slice (some ⟨w.heap.size + 1, 0, none⟩) 1 1) 1) 28))
  rw [← hW1]
  clear hW1
  generalize w.heap.size + 1 + 1 = g2 at *
  obtain ⟨k0, k1, k2, k3, k4⟩ := dt_cells HV.out
  go_wp2_with fail
  refine (HEN.out _ HD.out).mono ?_
  rintro e w1 ⟨rfl, hb⟩
  clear k0 k1 k2 k3 k4 HEN
  have HD := Lib.hid (HD.out.below hb)
  have HV := Lib.hid (HV.out.below hb HV.out.lt)
  have HB := Lib.hid (HB.out.trans (hb.mono HB.out.size))
  clear hb
  go_wp2_with fail
  refine (HDE.out _).mono ?_
  rintro e w2 ⟨v2, v3, A, cap, rfl, hd2, hb⟩
  obtain ⟨B2, B3, m2, m3, h2, h3, -⟩ := nd_shape hd2.1
  replace h2 : v2 = .slice B2 1 m2 := h2
  replace h3 : v3 = .slice B3 0 m3 := h3
  subst h2 h3
  have hb2 : Below w2.heap.size w2 (w2.alloc (.cells (dtC ⟨#[]⟩ (.slice B2 1 m2) (.slice B3 0 m3) (.slice A 1 cap) 1) 28)) := (Below.refl _ _).alloc (Nat.le_refl _) _
  have HD2 := Lib.hid (hd2.below hb2)
  have HA := Lib.hid (Arr.new w2 28 (dtC ⟨#[]⟩ (.slice B2 1 m2) (.slice B3 0 m3) (.slice A 1 cap) 1))
  have HD := Lib.hid ((HD.out.below hb).below hb2)
  have HV := Lib.hid (HV.out.below hb HV.out.lt)
  have HV := Lib.hid (HV.out.below hb2 HV.out.lt)
  have HB := Lib.hid (HB.out.trans (hb.mono HB.out.size))
  have HB := Lib.hid (HB.out.trans (hb2.mono HB.out.size))
  clear hb hb2 hd2 HDE
  go_upto_region 4 with fail
  generalize w2.alloc (.cells (dtC ⟨#[]⟩ (.slice B2 1 m2) (.slice B3 0 m3) (.slice A 1 cap) 1) 28) = W2 at *
  generalize w2.heap.size = g4 at *
  have hb3 : Below W2.heap.size W2 (W2.alloc (.cells #[.int .i64 0, .int .i64 0] 44)) := (Below.refl _ _).alloc (Nat.le_refl _) _
  have HRZ := Lib.hid (HRE.out _ _ (Arr.new W2 44 #[.int .i64 0, .int .i64 0]))
  go_wp2_with fail
  refine HRZ.out.mono ?_
  rintro e w5 ⟨rfl, hb⟩
  have hb := hb3.trans (hb.mono hb3.size)
  have HD2 := Lib.hid (HD2.out.below hb)
  have HA := Lib.hid (HA.out.below hb HA.out.lt)
  have HD := Lib.hid (HD.out.below hb)
  have HV := Lib.hid (HV.out.below hb HV.out.lt)
  have HB := Lib.hid (HB.out.trans (hb.mono HB.out.size))
  clear hb hb3 HRZ HRE
  obtain ⟨k0, k1, k2, k3, k4⟩ := dt_cells HV.out
  obtain ⟨q0, q1, q2, q3, q4⟩ := dt_cells HA.out
  go_wp2_with fail
  refine (HSA.out _ _ _ _ _ HD2.out HD.out).mono ?_
  rintro e w6 ⟨rfl, hb⟩
  clear k0 k1 k2 k3 k4 q0 q1 q2 q3 q4 HSA HD2 HA
  have HD := Lib.hid (HD.out.below hb)
  have HV := Lib.hid (HV.out.below hb HV.out.lt)
  have HB := Lib.hid (HB.out.trans (hb.mono HB.out.size))
  clear hb
  go_wp2_with fail
  refine (HZ0.out _).mono ?_
  rintro e w7 ⟨rfl, hb⟩
  have HD := Lib.hid (HD.out.below hb)
  have HV := Lib.hid (HV.out.below hb HV.out.lt)
  have HB := Lib.hid (HB.out.trans (hb.mono HB.out.size))
  clear hb HZ0
  obtain ⟨k0, k1, k2, k3, k4⟩ := dt_cells HV.out
  go_wp2_with fail
  refine (HZ1.out _ HD.out).mono ?_
  rintro e w8 ⟨rfl, hb⟩
  have HB := Lib.hid (HB.out.trans (hb.mono HB.out.size))
  clear hb HZ1 k0 k1 k2 k3 k4
  go_wp2
  go_ret
  exact ⟨rfl, HB.out⟩
end Go.Proofs.Ytgfdbmbgldeljaa
