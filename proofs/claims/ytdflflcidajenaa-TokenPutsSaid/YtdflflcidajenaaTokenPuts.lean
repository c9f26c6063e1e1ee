/- The law TokenPuts: whatever comes in it returns true. Conditions: the contracts of package token; a slice that reads as tokens, with kinds of 64 bits. -/
import Derived.Test.YtdflflcidajenaaTkI
namespace Go.Proofs.Ytdflflcidajenaa
open Go.RowKit

set_option maxHeartbeats 1600000 in
set_option maxRecDepth 100000 in
theorem tokenPuts_any (H : TokMust) (A : Option Addr) (cap : Nat) (l : List TK) (w : World) (hr : RdTk w A l) (hl : l.length ≤ maxLen) (hc : l.length ≤ cap) (hcm : cap ≤ maxLen) (hk : ∀ k, k < l.length → (l.getD k tk0).kd < 9223372036854775808 ∧ -9223372036854775808 ≤ (l.getD k tk0).kd) :
    Calls Try.prog 3 #[.slice A l.length cap] w fun e w' => e = .returned (.bool true) ∧ Below w.heap.size w w' := by
  have HAW := Lib.hid (awake10 H)
  have HFEW := Lib.hid (rfew10_any A cap l w hr hl)
  cases hf : few10 l with
  | false =>
    rw [hf] at HFEW
    clear hf H
    go_enter Try.func3, Try.ntmps3
    go_wp2_with fail
    refine HFEW.out.mono ?_
    rintro e w1 ⟨rfl, rfl⟩
    go_wp2_with fail
    refine (HAW.out _).mono ?_
    rintro e w1 ⟨rfl, hb⟩
    go_wp2
    go_ret
    exact ⟨rfl, hb⟩
  | true =>
    rw [hf] at HFEW
    obtain ⟨h60, hsz⟩ := few10_len hf
    have hz : ∀ k, k < l.length → (l.getD k tk0).nm.size ≤ 1048576 ∧ (l.getD k tk0).vl.size ≤ 1048576 := fun k hk => by have := hsz k hk; omega
    have HR := Lib.hid hr
    have HP1 := Lib.hid (H.put A cap l w hr hc hcm hz hk)
    have HP2 := Lib.hid (fun W (h : RdTk W A l) => rput_any A cap l W h hl hz)
    have HL1 := Lib.hid (fun W (h : RdTk W A l) => H.plain A cap l W h hc hcm (by omega) hk)
    have HL2 := Lib.hid (fun W (h : RdTk W A l) => rplain_any A cap l W h (by omega))
    have hpl := plain_len l
    generalize plainR l = q at *
    have HSM := Lib.hid (fun (W : World) B B' cap cap' (h : RdTk W B q) (h' : RdTk W B' q) => sameTk_any B B' cap cap' q W (by omega) h h')
    generalize putR l = R at *
    obtain ⟨ps, pt, pe⟩ := R
    simp only at HP1 HP2
    have d1 : (ps.toList == ps.toList) = true := by simp
    have d2 : (pt.toList == pt.toList) = true := by simp
    have d3 : ((pe : Int) == (pe : Int)) = true := by simp
    clear hf hsz hz hr H hk hc hcm hpl h60 hl
    go_enter Try.func3, Try.ntmps3
    go_wp2_with fail
    refine HFEW.out.mono ?_
    rintro e w1 ⟨rfl, rfl⟩
    go_wp2_with fail
    refine HP1.out.mono ?_
    rintro e w1 ⟨rfl, hb1⟩
    have HB1 := Lib.hid hb1
    have hz1 := hb1.size
    clear hb1 HP1 HFEW
    go_wp2_with fail
    refine (HP2.out _ (HR.out.below HB1.out)).mono ?_
    rintro e w2 ⟨rfl, hb2⟩
    have HB2 := Lib.hid (HB1.out.trans (hb2.mono hz1))
    have hz2 := HB2.out.size
    clear hb2 HP2 HB1
    go_wp2_with fail
    refine (HL1.out _ (HR.out.below HB2.out)).mono ?_
    rintro e w3 ⟨v3, rfl, ⟨A3, cap3, rfl, hm3, _, _⟩, hb3⟩
    have HM3 := Lib.hid hm3
    have HB3 := Lib.hid (HB2.out.trans (hb3.mono hz2))
    have hz3 := HB3.out.size
    clear hm3 hb3 HL1 HB2
    go_wp2_with fail
    refine (HL2.out _ (HR.out.below HB3.out)).mono ?_
    rintro e w4 ⟨v4, rfl, hgot, hb4⟩
    obtain ⟨A4, cap4, rfl, hm4, _, _⟩ := Got10.ret hgot
    have HM3 := Lib.hid (HM3.out.below hb4)
    have HM4 := Lib.hid hm4
    have HB4 := Lib.hid (HB3.out.trans (hb4.mono hz3))
    have hz4 := HB4.out.size
    clear hm4 hb4 hgot HL2 HB3
    go_wp2_with fail
    refine (HSM.out _ _ _ _ _ HM3.out HM4.out).mono ?_
    rintro e w5 ⟨rfl, hb5⟩
    have HB5 := Lib.hid (HB4.out.trans (hb5.mono hz4))
    have hz5 := HB5.out.size
    clear hb5 HSM HM3 HM4 HB4
    go_wp2_with fail
    refine (HAW.out _).mono ?_
    rintro e w6 ⟨rfl, hb6⟩
    have HB6 := Lib.hid (HB5.out.trans (hb6.mono hz5))
    clear hb6
    go_wp2
    go_ret
    exact ⟨rfl, HB6.out⟩
end Go.Proofs.Ytdflflcidajenaa
