/- The law TokenReads: whatever comes in it returns true. Conditions: the contracts of package token; strings that fit. -/
import Derived.Test.YtdflflcidajenaaTkI
namespace Go.Proofs.Ytdflflcidajenaa
open Go.RowKit

theorem readR_len : ∀ (m : Nat) (l tx : List UInt8), (readR m l tx).1.length ≤ m
  | 0, _, _ => Nat.le_refl _
  | m + 1, l, tx => by
    rw [readR]
    split
    · exact Nat.zero_le _
    · exact Nat.zero_le _
    · rename_i t n hs
      have ih := readR_len m ((l.drop 4).drop n) tx
      split
      · rename_i r hr
        rw [hr] at ih
        show (t :: r).length ≤ m + 1
        rw [List.length_cons]
        exact Nat.succ_le_succ ih
      · exact Nat.zero_le _

set_option maxHeartbeats 1600000 in
set_option maxRecDepth 100000 in
theorem tokenReads_any (H : TokMust) (s t : ByteArray) (w : World) (hs : s.size ≤ maxLen) (ht : t.size ≤ maxLen) :
    Calls Try.prog 4 #[.string s, .string t] w fun e w' => e = .returned (.bool true) ∧ Below w.heap.size w w' := by
  have HAW := Lib.hid (awake10 H)
  unfold maxLen at hs ht
  by_cases h1 : 1024 < s.size
  · have d1 : decide ((1024 : Int) < s.size) = true := decide_eq_true (by omega)
    clear h1
    go_enter Try.func4, Try.ntmps4
    go_wp2_with fail
    refine (HAW.out _).mono ?_
    rintro e w1 ⟨rfl, hb⟩
    go_wp2
    go_ret
    exact ⟨rfl, hb⟩
  have d1 : decide ((1024 : Int) < s.size) = false := decide_eq_false (by omega)
  by_cases h2 : 1024 < t.size
  · have d2 : decide ((1024 : Int) < t.size) = true := decide_eq_true (by omega)
    clear h1 h2
    go_enter Try.func4, Try.ntmps4
    go_wp2_with fail
    refine (HAW.out _).mono ?_
    rintro e w1 ⟨rfl, hb⟩
    go_wp2
    go_ret
    exact ⟨rfl, hb⟩
  have d2 : decide ((1024 : Int) < t.size) = false := decide_eq_false (by omega)
  have HR1 := Lib.hid (fun W => H.read s t W (by omega) (by omega))
  have HR2 := Lib.hid (fun W => rread_any s t W (by omega) (by unfold maxLen; omega))
  have hlen := readR_len 1024 s.data.toList t.data.toList
  generalize readR 1024 s.data.toList t.data.toList = R at *
  obtain ⟨r, ev⟩ := R
  simp only at HR1 HR2 hlen
  have HSM := Lib.hid (fun (W : World) A A' cap cap' (h : RdTk W A r) (h' : RdTk W A' r) => sameTk_any A A' cap cap' r W (by omega) h h')
  have d3 : ((ev : Int) == (ev : Int)) = true := by simp
  clear h1 h2 H
  go_enter Try.func4, Try.ntmps4
  go_wp2_with fail
  refine (HR1.out _).mono ?_
  rintro e w1 ⟨v1, rfl, ⟨A1, cap1, rfl, hm1, _, _⟩, hb1⟩
  have HM1 := Lib.hid hm1
  have HB1 := Lib.hid hb1
  have hz1 := hb1.size
  clear hm1 hb1 HR1
  go_wp2_with fail
  refine (HR2.out _).mono ?_
  rintro e w2 ⟨v2, rfl, hgot, hb2⟩
  obtain ⟨A2, cap2, rfl, hm2, _, _⟩ := hgot.ret
  have HM1 := Lib.hid (HM1.out.below hb2)
  have HM2 := Lib.hid hm2
  have HB2 := Lib.hid (HB1.out.trans (hb2.mono hz1))
  have hz2 := HB2.out.size
  clear hm2 hb2 hgot HR2 HB1
  go_wp2_with fail
  refine (HSM.out _ _ _ _ _ HM1.out HM2.out).mono ?_
  rintro e w3 ⟨rfl, hb3⟩
  have HB3 := Lib.hid (HB2.out.trans (hb3.mono hz2))
  have hz3 := HB3.out.size
  clear hb3 HSM HM1 HM2 HB2
  go_wp2_with fail
  refine (HAW.out _).mono ?_
  rintro e w4 ⟨rfl, hb4⟩
  have HB4 := Lib.hid (HB3.out.trans (hb4.mono hz3))
  clear hb4
  go_wp2
  go_ret
  exact ⟨rfl, HB4.out⟩
end Go.Proofs.Ytdflflcidajenaa
