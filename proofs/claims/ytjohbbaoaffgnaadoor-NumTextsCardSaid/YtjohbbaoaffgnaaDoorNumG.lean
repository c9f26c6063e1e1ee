/- What num.Dec, num.FromDec and the document's own Dec return, for every number and every string of at most 2^40 bytes. Conditions: the library's table uint64pow10 and its two error variables hold what their initialisers lay. -/
import Derived.Test.YtjohbbaoaffgnaaDoorDecPlain
import Derived.Test.YtjohbbaoaffgnaaDoorKit
import Derived.Lib.SmallJoins
namespace Go.Proofs.YtjohbbaoaffgnaaDoor
open Go.RowKit

/-- The library's table of powers of ten lies as its initialiser lays it. -/
def Tab (w : World) : Prop := Lib.TabIs Tryd.prog w "internal/strconv.uint64pow10" .u64 Lib.pow10Tab
theorem Tab.below {w w' : World} (h : Tab w) (hb : Below w.heap.size w w') : Tab w' :=
  Joins.tab_stays (g := 3) (by kernel_rfl) h hb (Nat.le_refl _)
theorem below_grow (w : World) (k : Nat) (os : Array Obj) : Below w.heap.size w (Sort.grow (w.drewN k) os) :=
  ⟨rfl, rfl, rfl, by simp [Sort.size_grow], fun i hi => Sort.heap_grow_old (w.drewN k) os hi⟩

set_option maxHeartbeats 400000 in
theorem dec_any (n : Int) (w : World) (h0 : -9223372036854775808 ≤ n) (h1 : n ≤ 9223372036854775807) (ht : Tab w) :
    Calls Tryd.prog 22 #[.int .i64 n] w fun e w' => e = .returned (.string ⟨(Lib.itoa n).toArray⟩) ∧ Below w.heap.size w w' := by
  have HT := Lib.hid ht
  clear ht
  go_enter Tryd.func22, Tryd.ntmps22
  go_wp2_with fail
  refine (Tryd.strconv_Itoa n h0 h1 w HT.out).mono ?_
  rintro e w1 ⟨rfl, k, os, rfl⟩
  have hb := below_grow w k os
  generalize Sort.grow (w.drewN k) os = w1 at hb ⊢
  go_wp2
  go_ret
  exact ⟨rfl, hb⟩

/-- The two error variables hold interface values. -/
def Errs (w : World) : Prop := (∃ tp p, w.var? Tryd.prog "strconv.ErrSyntax" = some #[.iface tp p]) ∧ (∃ tp p, w.var? Tryd.prog "strconv.ErrRange" = some #[.iface tp p])
theorem Errs.below {w w' : World} (h : Errs w) (hb : Below w.heap.size w w') : Errs w' := by
  obtain ⟨⟨t1, p1, e1⟩, ⟨t2, p2, e2⟩⟩ := h
  exact ⟨⟨t1, p1, Joins.var_stays (g := 1) (by kernel_rfl) e1 hb (Nat.le_refl _)⟩, ⟨t2, p2, Joins.var_stays (g := 2) (by kernel_rfl) e2 hb (Nat.le_refl _)⟩⟩
/-- What strconv.Atoi returns: the number and nil, or a number and an error that is not nil. -/
def AtoiEnds (s : ByteArray) (w : World) (e : Ending) (w' : World) : Prop :=
  Below w.heap.size w w' ∧ ((∃ v, Lib.atoiAll s.data.toList = .ok v ∧ e = .returned (.tuple #[.int .i64 v, .nilIface])) ∨
    ((∀ v, Lib.atoiAll s.data.toList ≠ .ok v) ∧ ∃ v t p, e = .returned (.tuple #[.int .i64 v, .iface t p])))
theorem atoi_any (s : ByteArray) (w : World) (hl : s.size ≤ 1099511627776) (he : Errs w) :
    Calls Tryd.prog 31 #[.string s] w (AtoiEnds s w) := by
  obtain ⟨⟨t1, p1, e1⟩, ⟨t2, p2, e2⟩⟩ := he
  rcases h : Lib.atoiAll s.data.toList with v | _ | _
  · refine (Tryd.strconv_Atoi_ok s (by omega) v h w).mono ?_
    rintro e w' ⟨rfl, hw⟩
    refine ⟨?_, .inl ⟨v, h, rfl⟩⟩
    rcases hw with rfl | ⟨t, rfl⟩
    · exact Below.refl _ _
    · exact Joins.below_bytesWorld _ _ _ _ (Nat.le_refl _)
  · refine (Any.strconv_Atoi_syntax_var Tryd.laysC172 s (by omega) h t1 p1 w e1).mono ?_
    rintro e w' ⟨N, rfl, _, _, hb⟩
    exact ⟨hb, .inr ⟨(fun v hv => by rw [h] at hv; cases hv), _, _, _, rfl⟩⟩
  · refine (Tryd.strconv_Atoi_range_var s (by omega) h t2 p2 w e2).mono ?_
    rintro e w' ⟨N, rfl, _, _, hb⟩
    exact ⟨hb, .inr ⟨(fun v hv => by rw [h] at hv; cases hv), _, _, _, rfl⟩⟩

set_option maxHeartbeats 800000 in
theorem fromdec_some (s : ByteArray) (v : Int) (w : World) (hl : s.size ≤ 1099511627776) (ht : Tab w) (he : Errs w) (hd : decOf s.data.toList = some v) :
    Calls Tryd.prog 18 #[.string s] w fun e w' => e = .returned (.tuple #[.int .i64 v, .bool true]) ∧ Below w.heap.size w w' := by
  have HT := Lib.hid ht
  have HE := Lib.hid he
  have HD := Lib.hid hd
  clear ht he hd
  go_enter Tryd.func18, Tryd.ntmps18
  go_wp2_with fail
  refine (atoi_any s w hl HE.out).mono ?_
  rintro e w1 ⟨hb1, ⟨u, hu, rfl⟩ | ⟨hno, u, t, p, rfl⟩⟩
  · have huv : Lib.itoa u = s.data.toList ∧ u = v ∧ -9223372036854775808 ≤ u ∧ u ≤ 9223372036854775807 := by
      have h := HD.out
      unfold decOf at h
      rw [hu] at h
      simp only at h
      split at h
      · rename_i hi
        injection h with h
        exact ⟨hi, h, Lib.atoiAll_bounds hu⟩
      · cases h
    obtain ⟨e1, rfl, b1, b2⟩ := huv
    have HU := Lib.hid e1
    clear e1 hu
    go_wp2_with fail
    refine (dec_any u w1 b1 b2 (HT.out.below hb1)).mono ?_
    rintro e w2 ⟨rfl, hb2⟩
    rw [HU.out]
    go_wp2
    go_ret2
    exact ⟨rfl, hb1.trans (hb2.mono hb1.size)⟩
  · exfalso
    have h := HD.out
    unfold decOf at h
    split at h
    · rename_i x hx
      exact hno x hx
    · cases h

set_option maxHeartbeats 800000 in
theorem fromdec_none (s : ByteArray) (w : World) (hl : s.size ≤ 1099511627776) (ht : Tab w) (he : Errs w) (hd : decOf s.data.toList = none) :
    Calls Tryd.prog 18 #[.string s] w fun e w' => e = .returned (.tuple #[.int .i64 0, .bool false]) ∧ Below w.heap.size w w' := by
  have HT := Lib.hid ht
  have HE := Lib.hid he
  have HD := Lib.hid hd
  clear ht he hd
  go_enter Tryd.func18, Tryd.ntmps18
  go_wp2_with fail
  refine (atoi_any s w hl HE.out).mono ?_
  rintro e w1 ⟨hb1, ⟨u, hu, rfl⟩ | ⟨hno, u, t, p, rfl⟩⟩
  · have huv : ¬ Lib.itoa u = s.data.toList ∧ -9223372036854775808 ≤ u ∧ u ≤ 9223372036854775807 := by
      have h := HD.out
      unfold decOf at h
      rw [hu] at h
      simp only at h
      split at h
      · cases h
      · rename_i hi
        exact ⟨hi, Lib.atoiAll_bounds hu⟩
    obtain ⟨e1, b1, b2⟩ := huv
    have hne : (Lib.itoa u == s.toList) = false := by rw [ByteArray.toList_eq]; simpa using e1
    clear e1 hu
    go_wp2_with fail
    refine (dec_any u w1 b1 b2 (HT.out.below hb1)).mono ?_
    rintro e w2 ⟨rfl, hb2⟩
    go_wp2
    go_ret2
    exact ⟨rfl, hb1.trans (hb2.mono hb1.size)⟩
  · clear hno
    go_wp2
    go_ret2
    exact ⟨rfl, hb1⟩

theorem dig_add (d : Nat) (s : List UInt8) (W : World) (h : s.length ≤ 1099511627776) :
    (Op.stringOp .add ⟨#[dig d]⟩ ⟨s.toArray⟩).run Tryd.prog W = .ok (.string ⟨(dig d :: s).toArray⟩) W := by
  have hs := size_mk s
  have h1 : (ByteArray.mk #[dig d]).size = 1 := rfl
  rw [run_string_add_sum W _ _ (by omega), ByteArray.mk_append_mk]
  simp
theorem dd_len {n : Int} (h0 : 0 < n) (h1 : n ≤ 9223372036854775808) {u : Nat} {l : List UInt8} (h : dd u ++ l = dd n.toNat) : l.length ≤ 21 := by
  have h2 := congrArg List.length h
  rw [List.length_append] at h2
  have h3 : (dd n.toNat).length ≤ 19 := by unfold dd; rw [if_neg (by omega)]; exact decDigits_len 19 n.toNat (by omega) (by omega)
  omega

set_option maxHeartbeats 800000 in
theorem refdec_pos (n : Int) (w : World) (h0 : 0 < n) (h1 : n ≤ 9223372036854775807) :
    Calls Tryd.prog 23 #[.int .i64 n] w fun e w' => e = .returned (.string ⟨(Lib.itoa n).toArray⟩) ∧ w = w' := by
  have hz : (n == 0) = false := by simp; omega
  have hnn : ¬ n < 0 := by omega
  rw [itoa_pos n h0]
  go_enter Tryd.func23, Tryd.ntmps23
  go_wp2
  go_loop [3, 4] (fun s k => ∃ (u : Nat) (l : List UInt8), (u : Int) ≤ n ∧ k = .int .i64 u ∧ s = .string ⟨l.toArray⟩ ∧ Hid (dd u ++ l = dd n.toNat)) (fun _ k => (intOf k).toNat)
  case atStart => exact ⟨n.toNat, [], by omega, by congr 1; omega, rfl, List.append_nil _⟩
  case round =>
    obtain ⟨u, l, hu, rfl, rfl, HD⟩ := hrel
    have hlen := dd_len h0 (by omega) HD.out
    by_cases hp : 0 < u
    · have hz1 : ((u : Int) != 0) = true := by simp; omega
      obtain ⟨d, hd⟩ : ∃ d : Nat, u % 10 = d := ⟨_, rfl⟩
      have hd1 : d < 10 := by omega
      have hdi : (u : Int) % 10 = (d : Int) := by omega
      have c1 := dig_cut d (by omega)
      have hadd := dig_add d l w (by omega)
      have HS := Lib.hid (dd_step u hp)
      rw [hd] at HS
      go_wp2
      go_round
      case rel => exact ⟨u / 10, dig d :: l, by omega, by go_num, rfl, (by show dd (u / 10) ++ dig d :: l = _; rw [← HD.out, HS.out]; simp)⟩
      case measure => simp [intOf]; omega
    · have hu0 : u = 0 := by omega
      subst hu0
      have E : l = dd n.toNat := HD.out
      have HE := Lib.hid E
      clear E HD
      go_wp2
      go_ret
      exact ⟨by rw [HE.out]; rfl, rfl⟩

set_option maxHeartbeats 800000 in
theorem refdec_zero (w : World) :
    Calls Tryd.prog 23 #[.int .i64 0] w fun e w' => e = .returned (.string ⟨(Lib.itoa 0).toArray⟩) ∧ w = w' := by
  rw [itoa_zero]
  go_enter Tryd.func23, Tryd.ntmps23
  go_wp2
  go_ret
  exact ⟨rfl, rfl⟩

set_option maxHeartbeats 800000 in
theorem refdec_neg (n : Int) (w : World) (h0 : n < 0) (h1 : -9223372036854775808 ≤ n) :
    Calls Tryd.prog 23 #[.int .i64 n] w fun e w' => e = .returned (.string ⟨(Lib.itoa n).toArray⟩) ∧ w = w' := by
  have hz : (n == 0) = false := by simp; omega
  have HI := Lib.hid (itoa_neg' n h0)
  obtain ⟨m, hm⟩ : ∃ m : Nat, (-n).toNat = m := ⟨_, rfl⟩
  rw [hm] at HI
  have HM := Lib.hid hm
  clear hm
  go_enter Tryd.func23, Tryd.ntmps23
  go_wp2
  go_loop [3, 4] (fun s kv => ∃ (k : Int) (u : Nat) (l : List UInt8), n ≤ k ∧ k ≤ 0 ∧ Hid (k = -(u : Int)) ∧ kv = .int .i64 k ∧ s = .string ⟨l.toArray⟩ ∧ Hid (dd u ++ l = dd m)) (fun _ k => (-(intOf k)).toNat)
  case atStart => exact ⟨n, m, [], by omega, by omega, (by have := HM.out; show n = _; omega), rfl, rfl, List.append_nil _⟩
  case round =>
    obtain ⟨k, u, l, hk1, hk2, HK, rfl, rfl, HD⟩ := hrel
    have hlen : l.length ≤ 21 := dd_len (n := -n) (by omega) (by omega) (u := u) (by rw [HM.out]; exact HD.out)
    by_cases hp : 0 < u
    · have hk3 : k < 0 := by have := HK.out; omega
      have hz1 : (k != 0) = true := by simp; omega
      obtain ⟨d, hd⟩ : ∃ d : Nat, u % 10 = d := ⟨_, rfl⟩
      have hd1 : d < 10 := by omega
      have hdi : k.tmod 10 = -(d : Int) := by rw [HK.out, Int.neg_tmod]; show -(((u % 10 : Nat)) : Int) = _; rw [hd]
      have hqi : k.tdiv 10 = -((u / 10 : Nat) : Int) := by rw [HK.out, Int.neg_tdiv]; rfl
      have HS := Lib.hid (dd_step u hp)
      rw [hd] at HS
      have c1 := dig_cut d (by omega)
      have hadd := dig_add d l w (by omega)
      have hmeas : (u / 10 : Nat) < u := by omega
      have HW : Hid (wrap64 (-((u : Int) / 10)) = -((u / 10 : Nat) : Int)) := by
        have := HK.out
        show wrap64 (-((u : Int) / 10)) = -((u / 10 : Nat) : Int)
        unfold wrap64; omega
      by_cases hd0 : 0 < d
      · go_wp2
        go_round
        case rel => exact ⟨-((u / 10 : Nat) : Int), u / 10, dig d :: l, (by have := HK.out; omega), by omega, rfl, (by rw [HW.out]), rfl, (by show dd (u / 10) ++ dig d :: l = _; rw [← HD.out, HS.out]; simp)⟩
        case measure =>
          have := HK.out
          simp only [intOf]
          rw [HW.out]; omega
      · have hd00 : d = 0 := by omega
        subst hd00
        have hdi' : k.tmod 10 = 0 := hdi
        clear hdi hd
        go_wp2
        go_round
        case rel => exact ⟨-((u / 10 : Nat) : Int), u / 10, dig 0 :: l, (by have := HK.out; omega), by omega, rfl, (by rw [HW.out]), rfl, (by show dd (u / 10) ++ dig 0 :: l = _; rw [← HD.out, HS.out]; simp)⟩
        case measure =>
          have := HK.out
          simp only [intOf]
          rw [HW.out]; omega
    · have hu0 : u = 0 := by omega
      subst hu0
      have hk0 : k = 0 := by have := HK.out; omega
      subst hk0
      have E : l = dd m := HD.out
      have HE := Lib.hid E
      have hadd : (Op.stringOp .add ⟨#[45]⟩ ⟨l.toArray⟩).run Tryd.prog w = .ok (.string ⟨(45 :: l).toArray⟩) w := by
        have hs := size_mk l
        have h1 : (ByteArray.mk #[45]).size = 1 := rfl
        rw [run_string_add_sum w _ _ (by omega), ByteArray.mk_append_mk]
        simp
      clear E HD
      go_wp2
      go_ret
      exact ⟨by rw [HI.out, ← HE.out]; rfl, rfl⟩

theorem refdec_any (n : Int) (w : World) (h0 : -9223372036854775808 ≤ n) (h1 : n ≤ 9223372036854775807) :
    Calls Tryd.prog 23 #[.int .i64 n] w fun e w' => e = .returned (.string ⟨(Lib.itoa n).toArray⟩) ∧ w = w' := by
  rcases Int.lt_trichotomy n 0 with h | rfl | h
  · exact refdec_neg n w h h0
  · exact refdec_zero w
  · exact refdec_pos n w h h1
end Go.Proofs.YtjohbbaoaffgnaaDoor
