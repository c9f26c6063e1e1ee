/- The law GrammarNames: whatever comes in it returns true. Conditions: the contracts of package grammar; a string that fits. -/
import Derived.Test.YtmgfnghegcfhnaaGmG
namespace Go.Proofs.Ytmgfnghegcfhnaa
open Go.RowKit

set_option maxHeartbeats 3200000 in
set_option maxRecDepth 100000 in
theorem grammarNames_any (M : GrammarMust) (s : ByteArray) (w : World) (hs : s.size ≤ maxLen) :
    Calls Try.prog 3 #[.string s] w fun e w' => e = .returned (.bool true) ∧ Below w.heap.size w w' := by
  have HAW := Lib.hid (awake19 M)
  unfold maxLen at hs
  by_cases h200 : 200 < s.size
  · have d1 : decide ((200 : Int) < (s.size : Int)) = true := decide_eq_true (by omega)
    clear M h200
    go_enter Try.func3, Try.ntmps3
    go_wp2_with fail
    refine (HAW.out _).mono ?_
    rintro e w1 ⟨rfl, hb⟩
    have HB := Lib.hid hb
    clear hb
    go_wp2
    go_ret
    exact ⟨rfl, HB.out⟩
  · have d1 : decide ((200 : Int) < (s.size : Int)) = false := decide_eq_false (by omega)
    have HU := Lib.hid (fun W => M.unit s W (by omega))
    have HN := Lib.hid (fun W => M.node s W (by omega))
    have HP := Lib.hid (fun W => M.prop s W (by omega))
    have HV := Lib.hid (fun W => unit_any s W (by omega))
    have HM := Lib.hid (fun W => node19_any s W (by omega))
    have HQ := Lib.hid (fun W => prop19_any s W (by omega))
    generalize (⟨(unitR s.data.toList).1.toArray⟩ : ByteArray) = U at *
    generalize (unitR s.data.toList).2 = bu at *
    generalize nodeR s.data.toList = bn at *
    generalize prop19 s.data.toList = bp at *
    have e1 : (bu == bu) = true := by simp
    have e2 : (bn == bn) = true := by simp
    have e3 : (bp == bp) = true := by simp
    have e4 : (U.toList == U.toList) = true := by simp
    clear M h200
    go_enter Try.func3, Try.ntmps3
    go_wp2_with fail
    refine (HU.out _).mono ?_
    rintro e w1 ⟨rfl, hb⟩
    have HB := Lib.hid hb
    clear hb
    go_wp2_with fail
    refine (HV.out _).mono ?_
    rintro e w2 ⟨rfl, rfl⟩
    go_wp2_with fail
    refine (HN.out _).mono ?_
    rintro e w3 ⟨rfl, hb⟩
    have HB := Lib.hid (HB.out.trans (hb.mono HB.out.size))
    clear hb
    go_wp2_with fail
    refine (HM.out _).mono ?_
    rintro e w3 ⟨rfl, rfl⟩
    go_wp2_with fail
    refine (HP.out _).mono ?_
    rintro e w3 ⟨rfl, hb⟩
    have HB := Lib.hid (HB.out.trans (hb.mono HB.out.size))
    clear hb
    go_wp2_with fail
    refine (HQ.out _).mono ?_
    rintro e w3 ⟨rfl, rfl⟩
    go_wp2_with fail
    refine (HAW.out _).mono ?_
    rintro e w3 ⟨rfl, hb⟩
    have HB := Lib.hid (HB.out.trans (hb.mono HB.out.size))
    clear hb
    go_wp2
    go_ret
    exact ⟨rfl, HB.out⟩
end Go.Proofs.Ytmgfnghegcfhnaa
