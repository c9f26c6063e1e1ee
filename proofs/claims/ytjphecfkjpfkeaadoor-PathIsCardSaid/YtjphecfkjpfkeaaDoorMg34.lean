/- The law PathIs: whatever comes in it returns true. Conditions: the contracts of package path; a string that fits, a slice that reads as texts. -/
import Derived.Test.YtjphecfkjpfkeaaDoorMg32
import Derived.Test.YtjphecfkjpfkeaaDoorMg33
namespace Go.Proofs.YtjphecfkjpfkeaaDoor
open Go.RowKit

set_option maxHeartbeats 3200000 in
set_option maxRecDepth 100000 in
theorem pathIs_any (M : PathMust) (p : ByteArray) (T : Option Addr) (ct : Nat) (t : List ByteArray) (w : World) (hp : p.size ≤ maxLen) (ht : RdT w T t) (htl : t.length ≤ maxLen) (htc : t.length ≤ ct) :
    Calls Tryd.prog 3 #[.string p, .slice T t.length ct] w fun e w' => e = .returned (.bool true) ∧ Below w.heap.size w w' := by
  have HAW := Lib.hid (awake16 M)
  have HFE := Lib.hid (rfew9_any T ct t w ht htl)
  have HB : Hid (Below w.heap.size w w) := Below.refl _ _
  have HT := Lib.hid ht
  unfold maxLen at hp
  by_cases h200 : 200 < p.size
  · have d1 : decide ((200 : Int) < (p.size : Int)) = true := decide_eq_true (by omega)
    clear M ht h200 HFE
    go_enter Tryd.func3, Tryd.ntmps3
    go_wp2_with fail
    refine (HAW.out _).mono ?_
    rintro e w1 ⟨rfl, hb⟩
    have HB := Lib.hid (HB.out.trans (hb.mono HB.out.size))
    clear hb
    go_wp2
    go_ret
    exact ⟨rfl, HB.out⟩
  · have d1 : decide ((200 : Int) < (p.size : Int)) = false := decide_eq_false (by omega)
    cases hf : few9 t with
    | false =>
      rw [hf] at HFE
      clear M ht h200 hf
      go_enter Tryd.func3, Tryd.ntmps3
      go_wp2_with fail
      refine HFE.out.mono ?_
      rintro e w1 ⟨rfl, rfl⟩
      go_wp2_with fail
      refine (HAW.out _).mono ?_
      rintro e w1 ⟨rfl, hb⟩
      have HB := Lib.hid (HB.out.trans (hb.mono HB.out.size))
      clear hb
      go_wp2
      go_ret
      exact ⟨rfl, HB.out⟩
    | true =>
      rw [hf] at HFE
      have h40 := few9_len hf
      have h100 := few9_each hf
      have HP := Lib.hid (fun W => M.parts p W (by omega))
      have HRP := Lib.hid (fun W => rparts_any p W (by omega))
      have HJ := Lib.hid (fun W h => M.join T ct t W h htc (by omega) (fun k hk => by have := h100 k hk; omega))
      have HRJ := Lib.hid (fun W h => rjoin_any T ct t W h (by omega) (fun k hk => by have := h100 k hk; omega))
      have hlp := parts_few p.data.toList
      rw [← baL_len] at hlp
      have HLP : Hid ((baL (partsR p.data.toList).1).length ≤ 1099511627776) := by unfold Hid; omega
      generalize baL (partsR p.data.toList).1 = L at *
      generalize (partsR p.data.toList).2 = bo at *
      generalize (⟨(joinB t).toArray⟩ : ByteArray) = J at *
      have d2 : (bo == bo) = true := by simp
      have d3 : (J.toList == J.toList) = true := by simp
      clear M ht h200 hf h40 h100 hlp htl
      go_enter Tryd.func3, Tryd.ntmps3
      go_wp2_with fail
      refine HFE.out.mono ?_
      rintro e w1 ⟨rfl, rfl⟩
      go_wp2_with fail
      refine (HP.out _).mono ?_
      rintro e w2 ⟨A, ca, rfl, hr, hb, -⟩
      have HR := Lib.hid hr
      have HT := Lib.hid (HT.out.below hb)
      have HB := Lib.hid (HB.out.trans (hb.mono HB.out.size))
      clear hb hr
      go_wp2_with fail
      refine (HRP.out _).mono ?_
      rintro e w3 ⟨A', ca', rfl, hr', _, hb, -⟩
      have HR := Lib.hid (HR.out.below hb)
      have HR' := Lib.hid hr'
      have HT := Lib.hid (HT.out.below hb)
      have HB := Lib.hid (HB.out.trans (hb.mono HB.out.size))
      clear hb hr'
      go_wp2_with fail
      refine (sameTexts_any A A' ca ca' L _ HLP.out HR.out HR'.out).mono ?_
      rintro e w4 ⟨rfl, hb⟩
      have HT := Lib.hid (HT.out.below hb)
      have HB := Lib.hid (HB.out.trans (hb.mono HB.out.size))
      clear hb HR HR' HP HRP
      go_wp2_with fail
      refine (HJ.out _ HT.out).mono ?_
      rintro e w5 ⟨rfl, hb⟩
      have HT := Lib.hid (HT.out.below hb)
      have HB := Lib.hid (HB.out.trans (hb.mono HB.out.size))
      clear hb
      go_wp2_with fail
      refine (HRJ.out _ HT.out).mono ?_
      rintro e w6 ⟨rfl, rfl⟩
      go_wp2_with fail
      refine (HAW.out _).mono ?_
      rintro e w7 ⟨rfl, hb⟩
      have HB := Lib.hid (HB.out.trans (hb.mono HB.out.size))
      clear hb
      go_wp2
      go_ret
      exact ⟨rfl, HB.out⟩
end Go.Proofs.YtjphecfkjpfkeaaDoor
