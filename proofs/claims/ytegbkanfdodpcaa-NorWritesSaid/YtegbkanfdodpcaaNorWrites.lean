/- The walk of NorWrites: it returns true at every sector, place and string. No condition. -/
import Derived.Test.YtegbkanfdodpcaaNorH
namespace Go.Proofs.Ytegbkanfdodpcaa
open Go.RowKit

theorem extract_list (s : ByteArray) (a b : Nat) : (s.extract a b).data.toList = (s.data.toList.drop a).take (b - a) := by
  rw [ByteArray.data_extract, Array.toList_extract, List.extract_eq_take_drop]
/-- A Write to a flash without a fuse. -/
theorem wrL_free (f : Nat) (c : St) (hon : c.on = true) (hf : c.fuse = none) (a : Nat) (s : ByteArray) (hs : s.size ≤ f) (ha : a + s.size ≤ 24576) :
    ∃ n, wrL f c a s = (⟨true, n, none, mapAt c.B a s.size (prF s)⟩, 0) ∧ n ≤ c.ops + s.size := by
  induction f generalizing c a s with
  | zero =>
    have h0 : s.size = 0 := by omega
    refine ⟨c.ops, ?_, by omega⟩
    rw [wrL_done _ _ _ _ h0, h0, mapAt_zero]
    obtain ⟨on, ops, fu, B⟩ := c
    simp only at hon hf
    subst hon; subst hf; rfl
  | succ f ih =>
    by_cases h0 : s.size = 0
    · refine ⟨c.ops, ?_, by omega⟩
      rw [wrL_done _ _ _ _ h0, h0, mapAt_zero]
      obtain ⟨on, ops, fu, B⟩ := c
      simp only at hon hf
      subst hon; subst hf; rfl
    · obtain ⟨n, hn⟩ : ∃ n, min s.size (32 - a % 32) = n := ⟨_, rfl⟩
      have hn0 : 0 < n := by omega
      have hn1 : n ≤ s.size := by omega
      have z1 : (s.extract 0 n).size = n := by rw [ByteArray.size_extract]; omega
      have z2 : (s.extract n s.size).size = s.size - n := by rw [ByteArray.size_extract]; omega
      have hp := prS_free c hon hf a (s.extract 0 n) (by omega) (by omega) (by omega)
      obtain ⟨m, hm, hm2⟩ := ih ⟨true, c.ops + 1, none, mapAt c.B a (s.extract 0 n).size (prF (s.extract 0 n))⟩ rfl rfl (a + n) (s.extract n s.size) (by omega) (by omega)
      refine ⟨m, ?_, by simp only at hm2; omega⟩
      unfold wrL
      rw [if_neg h0, hn, hp]
      simp only [if_true]
      rw [hm, z1, z2]
      simp only
      rw [mapAt_join c.B a n (s.size - n) _ _ (prF s) (fun i x hi => ?_) (fun i x hi => ?_), show n + (s.size - n) = s.size by omega]
      · unfold prF
        rw [extract_list, List.drop_zero, List.getD_eq_getElem?_getD, List.getD_eq_getElem?_getD, List.getElem?_take_of_lt (by omega)]
      · unfold prF
        rw [extract_list, List.getD_eq_getElem?_getD, List.getD_eq_getElem?_getD, List.getElem?_take_of_lt (by omega), List.getElem?_drop]
theorem wrS_free (c : St) (hon : c.on = true) (hf : c.fuse = none) (a : Nat) (s : ByteArray) (ha : a + s.size ≤ 24576) : ∃ n, wrS c a s = (⟨true, n, none, mapAt c.B a s.size (prF s)⟩, 0) ∧ n ≤ c.ops + s.size := by
  obtain ⟨n, h, hn⟩ := wrL_free s.size c hon hf a s (Nat.le_refl _) ha
  refine ⟨n, ?_, hn⟩
  unfold wrS
  rw [if_neg (by rw [hon]; decide), if_neg (by rw [thr_of (by omega)]; decide), Int.toNat_natCast, h]
section
variable (g : Nat) (W : World) (B : List UInt8) (ops : Nat)
theorem erase_st (x : Nat) (hx : x < 48) (hW : RN W g ⟨true, ops, none, B⟩) (ho : ops < 4611686018427387904) (B' : List UInt8) (hB : mapAt B (x * 512) 512 erF = B') :
    Calls Try.prog 17 #[.pointer (some ⟨g, 0, none⟩), .int .i64 (x : Int)] W fun e w' => e = .returned (.int .i64 0) ∧ RN w' g ⟨true, ops + 1, none, B'⟩ ∧ W.grownBy w' (some g) := by
  subst hB
  have := erase_any g ⟨true, ops, none, B⟩ (x : Int) W hW ho
  rw [erS_free ⟨true, ops, none, B⟩ rfl rfl x hx] at this
  exact this
theorem write_st (a : Nat) (s : ByteArray) (hW : RN W g ⟨true, ops, none, B⟩) (ho : ops < 2305843009213693952) (ha : a + s.size ≤ 24576) (B' : List UInt8) (hB : mapAt B a s.size (prF s) = B') :
    Calls Try.prog 16 #[.pointer (some ⟨g, 0, none⟩), .int .i64 (a : Int), .string s] W fun e w' => e = .returned (.int .i64 0) ∧ (∃ n, n ≤ ops + s.size ∧ RN w' g ⟨true, n, none, B'⟩) ∧ W.grownBy w' (some g) := by
  subst hB
  obtain ⟨n, h, hn⟩ := wrS_free ⟨true, ops, none, B⟩ rfl rfl a s ha
  have := write_any g ⟨true, ops, none, B⟩ (a : Int) s W hW (by show ops + s.size < _; omega)
  rw [h] at this
  exact this.mono fun e w' ⟨h1, h2, h3⟩ => ⟨h1, ⟨n, hn, h2⟩, h3⟩
end
def sOld : ByteArray := ⟨#[111, 108, 100]⟩
def sOther : ByteArray := ⟨#[111, 116, 104, 101, 114, 32, 98, 121, 116, 101, 115]⟩
theorem wr_back (B B1 B2 B3 B4 : List UInt8) (k f : Nat) (s t : ByteArray) (hB : B.length = 24576) (hk : k < 47) (hf : k * 512 ≤ f) (hs : s.size ≤ 200) (hf2 : f < k * 512 + 512)
    (h1 : mapAt B f t.size (prF t) = B1) (h2 : mapAt B1 (k * 512) 512 erF = B2) (h3 : mapAt B2 ((k + 1) * 512) 512 erF = B3) (h4 : mapAt B3 f s.size (prF s) = B4) : (B4.drop f).take s.size = s.data.toList := by
  have z1 : B1.length = 24576 := by rw [← h1, mapAt_length]; exact hB
  have z2 : B2.length = 24576 := by rw [← h2, mapAt_length]; exact z1
  have z3 : B3.length = 24576 := by rw [← h3, mapAt_length]; exact z2
  have z4 : B4.length = 24576 := by rw [← h4, mapAt_length]; exact z3
  have hsl : s.data.toList.length = s.size := rfl
  rw [take_getD _ _ _ (by omega)]
  refine List.ext_getElem (by simp) fun i q1 q2 => ?_
  have hi : i < s.size := by simpa using q2
  simp only [List.getElem_map, List.getElem_range]
  have e3 : B3.getD (f + i) 0 = 255 := by
    rw [← h3, mapAt_getD _ _ _ _ _ (by omega)]
    by_cases hc : (k + 1) * 512 ≤ f + i ∧ f + i < (k + 1) * 512 + 512
    · rw [if_pos hc]; rfl
    · rw [if_neg hc, ← h2, mapAt_getD _ _ _ _ _ (by omega), if_pos (by omega)]; rfl
  rw [← h4, mapAt_getD _ _ _ _ _ (by omega), if_pos (by omega), e3]
  unfold prF
  rw [Nat.add_sub_cancel_left, getD_lt _ (by omega)]
  generalize s.data.toList[i] = x
  apply UInt8.toNat_inj.1
  rw [UInt8.toNat_and]
  have := Nat.and_two_pow_sub_one_eq_mod x.toNat 8
  rw [Nat.and_comm]
  have hx := x.toNat_lt
  show x.toNat &&& 255 = x.toNat
  rw [show (255 : Nat) = 2 ^ 8 - 1 from rfl, this]
  omega

set_option maxHeartbeats 1600000 in
set_option maxRecDepth 100000 in
theorem norWrites_any (x y : Int) (s : ByteArray) (w : World) (hx0 : 0 ≤ x) (hx1 : x < 256) (hy0 : 0 ≤ y) (hy1 : y < 65536) :
    Calls Try.prog 5 #[.int .u8 x, .int .u16 y, .string s] w fun e w' => e = .returned (.bool true) ∧ Below w.heap.size w w' := by
  have HAW := Lib.hid awake_any
  by_cases hs : 200 < s.size
  · have hd : decide ((200 : Int) < s.size) = true := decide_eq_true (by omega)
    clear hs
    go_enter Try.func5, Try.ntmps5
    go_wp2_with fail
    refine (HAW.out _).mono ?_
    rintro e w1 ⟨rfl, hb⟩
    go_wp2
    go_ret
    exact ⟨rfl, hb⟩
  · have hd : decide ((200 : Int) < s.size) = false := decide_eq_false (by omega)
    obtain ⟨x, rfl⟩ := Int.eq_ofNat_of_zero_le hx0
    obtain ⟨y, rfl⟩ := Int.eq_ofNat_of_zero_le hy0
    obtain ⟨k, hk⟩ : ∃ k, x % 47 = k := ⟨_, rfl⟩
    obtain ⟨m, hm⟩ : ∃ m, y % 512 = m := ⟨_, rfl⟩
    obtain ⟨kb, hkb⟩ : ∃ kb, k * 512 = kb := ⟨_, rfl⟩
    obtain ⟨f, hf⟩ : ∃ f, kb + m = f := ⟨_, rfl⟩
    obtain ⟨k1, hk1⟩ : ∃ k1, k + 1 = k1 := ⟨_, rfl⟩
    have e1 : (x : Int).tmod 47 = (k : Int) := by rw [Int.tmod_eq_emod_of_nonneg (by omega)]; omega
    have e2 : (y : Int).tmod 512 = (m : Int) := by rw [Int.tmod_eq_emod_of_nonneg (by omega)]; omega
    have e3 : (k : Int) * 512 = (kb : Int) := by omega
    have e4 : (kb : Int) + m = (f : Int) := by omega
    have e5 : (k : Int) + 1 = (k1 : Int) := by omega
    have hx2 : x < 256 := by omega
    have hy2 : y < 65536 := by omega
    have hk2 : k < 47 := by omega
    have hf2 : f < 24064 := by omega
    have hf3 : kb ≤ f ∧ f < kb + 512 := by omega
    have hkb2 : kb < 24064 := by omega
    have hm2 : m < 512 := by omega
    obtain ⟨B0, b0⟩ : ∃ B0, (ldS sOld).B = B0 := ⟨_, rfl⟩
    have hB0 : B0.length = 24576 := by rw [← b0]; exact (ldS_ok sOld (by decide)).1
    obtain ⟨B1, b1⟩ : ∃ B1, mapAt B0 f sOther.size (prF sOther) = B1 := ⟨_, rfl⟩
    obtain ⟨B2, b2⟩ : ∃ B2, mapAt B1 (k * 512) 512 erF = B2 := ⟨_, rfl⟩
    obtain ⟨B3, b3⟩ : ∃ B3, mapAt B2 ((k + 1) * 512) 512 erF = B3 := ⟨_, rfl⟩
    obtain ⟨B4, b4⟩ : ∃ B4, mapAt B3 f s.size (prF s) = B4 := ⟨_, rfl⟩
    have hback := wr_back B0 B1 B2 B3 B4 k f s sOther hB0 hk2 (by omega) (by omega) (by omega) b1 b2 b3 b4
    rw [hk1] at b3
    have HL : Hid (Calls Try.prog 8 #[.string ⟨#[111, 108, 100]⟩] w fun e w' => ∃ g, e = .returned (.pointer (some ⟨g, 0, none⟩)) ∧ w.heap.size ≤ g ∧ RN w' g ⟨true, 0, none, B0⟩ ∧ Below w.heap.size w w') := by
      have := load_any sOld w (by decide)
      rw [show ldS sOld = ⟨true, 0, none, (ldS sOld).B⟩ from rfl, b0] at this
      exact this
    have HW1 : Hid (∀ W g, RN W g ⟨true, 0, none, B0⟩ → Calls Try.prog 16 #[.pointer (some ⟨g, 0, none⟩), .int .i64 (f : Int), .string ⟨#[111, 116, 104, 101, 114, 32, 98, 121, 116, 101, 115]⟩] W fun e w' => e = .returned (.int .i64 0) ∧ (∃ n, n ≤ 11 ∧ RN w' g ⟨true, n, none, B1⟩) ∧ W.grownBy w' (some g)) :=
      fun W g hW => write_st g W B0 0 f sOther hW (by decide) (by show f + 11 ≤ _; omega) B1 b1
    have HE1 : Hid (∀ W g n, n ≤ 11 → RN W g ⟨true, n, none, B1⟩ → Calls Try.prog 17 #[.pointer (some ⟨g, 0, none⟩), .int .i64 (k : Int)] W fun e w' => e = .returned (.int .i64 0) ∧ RN w' g ⟨true, n + 1, none, B2⟩ ∧ W.grownBy w' (some g)) :=
      fun W g n hn hW => erase_st g W B1 n k (by omega) hW (by omega) B2 b2
    have HE2 : Hid (∀ W g n, n ≤ 11 → RN W g ⟨true, n + 1, none, B2⟩ → Calls Try.prog 17 #[.pointer (some ⟨g, 0, none⟩), .int .i64 (k1 : Int)] W fun e w' => e = .returned (.int .i64 0) ∧ RN w' g ⟨true, n + 1 + 1, none, B3⟩ ∧ W.grownBy w' (some g)) :=
      fun W g n hn hW => erase_st g W B2 (n + 1) k1 (by omega) hW (by omega) B3 b3
    have HW2 : Hid (∀ W g n, n ≤ 11 → RN W g ⟨true, n + 1 + 1, none, B3⟩ → Calls Try.prog 16 #[.pointer (some ⟨g, 0, none⟩), .int .i64 (f : Int), .string s] W fun e w' => e = .returned (.int .i64 0) ∧ (∃ m, RN w' g ⟨true, m, none, B4⟩) ∧ W.grownBy w' (some g)) :=
      fun W g n hn hW => (write_st g W B3 (n + 1 + 1) f s hW (by omega) (by omega) B4 b4).mono fun e w' ⟨h1, ⟨m, _, h2⟩, h3⟩ => ⟨h1, ⟨m, h2⟩, h3⟩
    have HR : Hid (∀ W g m, RN W g ⟨true, m, none, B4⟩ → Calls Try.prog 18 #[.pointer (some ⟨g, 0, none⟩), .int .i64 (f : Int), .int .i64 (s.size : Int)] W fun e w' => e = .returned (.tuple #[.string s, .int .i64 0]) ∧ W = w') :=
      fun W g m hW => read_st g W B4 m f s.size s.data.toList hW (by omega) hback
    clear hback b0 b1 b2 b3 b4 hk hm hkb hf hk1 hx0 hx1 hy0 hy1 hB0 hf3
    go_enter Try.func5, Try.ntmps5
    go_wp2_with fail
    refine HL.out.mono ?_
    rintro e w1 ⟨g, rfl, hg, hr, hb⟩
    have Hb := Lib.hid hb
    have H1 := Lib.hid hr
    have hz := hb.size
    clear hr hb HL
    go_wp2_with fail
    refine (HW1.out _ _ H1.out).mono ?_
    rintro e w2 ⟨rfl, ⟨n, hn, hr⟩, hgr⟩
    have H2 := Lib.hid hr
    have Hb2 := Lib.hid (below_grown Hb.out hgr hg hz)
    have hz2 := Hb2.out.size
    clear hr hgr Hb H1 HW1
    go_wp2_with fail
    refine (HE1.out _ _ _ hn H2.out).mono ?_
    rintro e w3 ⟨rfl, hr, hgr⟩
    have H3 := Lib.hid hr
    have Hb3 := Lib.hid (below_grown Hb2.out hgr hg hz2)
    have hz3 := Hb3.out.size
    clear hr hgr Hb2 H2 HE1
    go_wp2_with fail
    refine (HE2.out _ _ _ hn H3.out).mono ?_
    rintro e w4 ⟨rfl, hr, hgr⟩
    have H4 := Lib.hid hr
    have Hb4 := Lib.hid (below_grown Hb3.out hgr hg hz3)
    have hz4 := Hb4.out.size
    clear hr hgr Hb3 H3 HE2
    go_wp2_with fail
    refine (HW2.out _ _ _ hn H4.out).mono ?_
    rintro e w5 ⟨rfl, ⟨q, hr⟩, hgr⟩
    have H5 := Lib.hid hr
    have Hb5 := Lib.hid (below_grown Hb4.out hgr hg hz4)
    have hz5 := Hb5.out.size
    clear hr hgr Hb4 H4 HW2
    go_wp2_with fail
    refine (HR.out _ _ _ H5.out).mono ?_
    rintro e w6 ⟨rfl, rfl⟩
    go_wp2_with fail
    refine (HAW.out _).mono ?_
    rintro e w6 ⟨rfl, hb⟩
    have Hb6 := Lib.hid (Hb5.out.trans (hb.mono hz5))
    clear hb
    go_wp2
    go_ret
    exact ⟨rfl, Hb6.out⟩
end Go.Proofs.Ytegbkanfdodpcaa
