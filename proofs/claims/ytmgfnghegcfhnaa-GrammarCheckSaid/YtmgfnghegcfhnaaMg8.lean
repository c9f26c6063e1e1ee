/- What the document's Unit and Prop of layer 19 return. Conditions: strings of at most 2^40 bytes. -/
import Derived.Test.YtmgfnghegcfhnaaMg7
namespace Go.Proofs.Ytmgfnghegcfhnaa
open Go.RowKit

theorem byte19 (s : ByteArray) {k : Nat} (h : k < s.size) : s.data.toList.getD k 0 = s[k] := by
  have h' : k < s.data.toList.length := h
  rw [List.getD_eq_getElem?_getD, List.getElem?_eq_getElem h']
  rfl
theorem ext_from (s : ByteArray) (k : Nat) : s.extract k s.size = ⟨(s.data.toList.drop k).toArray⟩ := by
  apply ByteArray.ext
  have e : (s.extract k s.size).data = s.data.extract k s.size := ByteArray.data_extract
  rw [e]
  apply Array.ext'
  rw [Array.toList_extract, List.extract_eq_take_drop]
  have h : s.size = s.data.toList.length := rfl
  rw [h]
  have : (s.data.toList.drop k).length ≤ s.data.toList.length - k := by rw [List.length_drop]; exact Nat.le_refl _
  rw [List.take_of_length_le this]
theorem ext_upto (s : ByteArray) (k : Nat) : s.extract 0 k = ⟨(s.data.toList.take k).toArray⟩ := by
  apply ByteArray.ext
  have e : (s.extract 0 k).data = s.data.extract 0 k := ByteArray.data_extract
  rw [e]
  apply Array.ext'
  rw [Array.toList_extract, List.extract_eq_take_drop]; rfl

set_option maxHeartbeats 800000 in
set_option maxRecDepth 100000 in
theorem unit_any (s : ByteArray) (w : World) (hs : s.size ≤ 1099511627776) :
    Calls Try.prog 8 #[.string s] w fun e w' => e = .returned (.tuple #[.string ⟨(unitR s.data.toList).1.toArray⟩, .bool (unitR s.data.toList).2]) ∧ w' = w := by
  have HAT : Hid (∀ i, i < s.size → (∀ j, j < i → s.data.toList.getD j 0 ≠ 64) → s.data.toList.getD i 0 = 64 → unitR s.data.toList = (s.data.toList.drop (i + 1), true)) := fun i h1 h2 h3 => (unit_at h1 h2 h3).1
  have HNO : Hid ((∀ j, j < s.size → s.data.toList.getD j 0 ≠ 64) → unitR s.data.toList = ([], false)) := fun h => (unit_no h).1
  generalize unitR s.data.toList = R at *
  go_enter Try.func8, Try.ntmps8
  go_wp2
  go_loop [4] (fun iv => ∃ i : Nat, i ≤ s.size ∧ iv = .int .i64 i ∧ Hid (∀ j, j < i → s.data.toList.getD j 0 ≠ 64)) (fun iv => s.size - (intOf iv).toNat)
  case atStart => exact ⟨0, Nat.zero_le _, rfl, fun j h => absurd h (Nat.not_lt_zero _)⟩
  case round =>
    obtain ⟨i, hi, rfl, HJ⟩ := hrel
    by_cases hlt : i < s.size
    · have hii : (i : Int) < (s.size : Int) := by omega
      have hg := byte19 s hlt
      by_cases hc : s[i] = 64
      · have d1 : (((s[i].toNat : Nat) : Int) == 64) = true := by rw [hc]; rfl
        have HE := Lib.hid (HAT.out i hlt HJ.out (by rw [hg, hc]))
        have hi1 : (i : Int) + 1 ≤ (s.size : Int) := by omega
        have HX := Lib.hid (ext_from s (i + 1))
        clear hg hc HJ HAT HNO
        go_wp2
        go_ret2
        exact ⟨by rw [HE.out]; first | (rw [HX.out]; rfl) | (exact congrArg (fun z : ByteArray => Ending.returned (Value.tuple #[Value.string z, Value.bool true])) HX.out), rfl⟩
      · have d1 : (((s[i].toNat : Nat) : Int) == 64) = false := by
          have : s[i].toNat ≠ 64 := fun e => hc (UInt8.toNat_inj.1 e)
          simp; omega
        have HJ1 : Hid (∀ j, j < i + 1 → s.data.toList.getD j 0 ≠ 64) := fun j hj => by
          by_cases e : j = i
          · rw [e, hg]; exact hc
          · exact HJ.out j (by omega)
        clear hg hc HJ
        go_wp2
        go_round
        case rel => exact ⟨i + 1, by omega, by go_num, HJ1.out⟩
        case measure => simp [intOf]; omega
    · obtain rfl : i = s.size := by omega
      have HE := Lib.hid (HNO.out HJ.out)
      clear HJ HAT HNO
      go_wp2
      go_ret2
      exact ⟨by rw [HE.out]; rfl, rfl⟩

theorem all19 {f : Nat → Bool} {l : List UInt8} : (∀ j, j < l.length → f (l.getD j 0).toNat = true) → (l.all fun c => f c.toNat) = true := fun h => by
  rw [List.all_eq_true]
  intro c hc
  obtain ⟨j, hj, rfl⟩ := List.getElem_of_mem hc
  have := h j hj
  rwa [List.getD_eq_getElem?_getD, List.getElem?_eq_getElem hj] at this
theorem all19_no {f : Nat → Bool} {l : List UInt8} {j : Nat} (hj : j < l.length) (h : f (l.getD j 0).toNat = false) : (l.all fun c => f c.toNat) = false := by
  rw [List.all_eq_false]
  refine ⟨l[j], List.getElem_mem hj, ?_⟩
  rw [List.getD_eq_getElem?_getD, List.getElem?_eq_getElem hj] at h
  have h : f l[j].toNat = false := h
  rw [h]; decide

set_option maxHeartbeats 800000 in
set_option maxRecDepth 100000 in
theorem prop19_any (s : ByteArray) (w : World) (hs : s.size ≤ 1099511627776) :
    Calls Try.prog 12 #[.string s] w fun e w' => e = .returned (.bool (prop19 s.data.toList)) ∧ w' = w := by
  have HLN : Hid (s.data.toList.length = s.size) := rfl
  have HNO : Hid (∀ i, i < s.size → prpC (s.data.toList.getD i 0).toNat = false → prop19 s.data.toList = false) := fun i h1 h2 => by
    unfold prop19; rw [all19_no (f := prpC) h1 h2]; rfl
  have HYE : Hid ((∀ j, j < s.size → prpC (s.data.toList.getD j 0).toNat = true) → prop19 s.data.toList = (decide (1 ≤ s.size) && decide (s.size ≤ 31))) := fun h => by
    unfold prop19; rw [all19 (f := prpC) h]; rfl
  have HPL := Lib.hid (fun k => gplain_any k w)
  generalize prop19 s.data.toList = R at *
  go_enter Try.func12, Try.ntmps12
  go_wp2
  go_loop [3] (fun iv => ∃ i : Nat, i ≤ s.size ∧ iv = .int .i64 i ∧ Hid (∀ j, j < i → prpC (s.data.toList.getD j 0).toNat = true)) (fun iv => s.size - (intOf iv).toNat)
  case atStart => exact ⟨0, Nat.zero_le _, rfl, fun j h => absurd h (Nat.not_lt_zero _)⟩
  case round =>
    obtain ⟨i, hi, rfl, HJ⟩ := hrel
    by_cases hlt : i < s.size
    · have hii : (i : Int) < (s.size : Int) := by omega
      have hg := byte19 s hlt
      have HP := Lib.hid (HPL.out s[i].toNat)
      have HBAD : Hid (prpC s[i].toNat = false → R = false) := fun h => HNO.out i hlt (by rw [hg]; exact h)
      have HJ1 : Hid (prpC s[i].toNat = true → ∀ j, j < i + 1 → prpC (s.data.toList.getD j 0).toNat = true) := fun h j hj => by
        by_cases e : j = i
        · rw [e, hg]; exact h
        · exact HJ.out j (by omega)
      have HDF : Hid (prpC s[i].toNat = (plaC s[i].toNat || decide (s[i].toNat = 63) || decide (s[i].toNat = 35))) := rfl
      clear hg
      go_wp2_with fail
      refine HP.out.mono ?_
      rintro e w1 ⟨rfl, rfl⟩
      cases hpl : plaC s[i].toNat with
      | true =>
        have HF : Hid (prpC s[i].toNat = true) := by unfold Hid; rw [HDF.out, hpl]; rfl
        have HK := Lib.hid (HJ1.out HF.out)
        clear HJ1 HDF HBAD HP HJ
        go_wp2
        go_round
        case rel => exact ⟨i + 1, by omega, by go_num, HK.out⟩
        case measure => simp [intOf]; omega
      | false =>
        by_cases q1 : s[i].toNat = 63
        · have d1 : (((s[i].toNat : Nat) : Int) != 63) = false := by rw [q1]; rfl
          have HK := Lib.hid (HJ1.out (by rw [HDF.out, hpl, decide_eq_true q1]; rfl))
          clear HJ1 HDF HBAD HP HJ q1
          go_wp2
          go_round
          case rel => exact ⟨i + 1, by omega, by go_num, HK.out⟩
          case measure => simp [intOf]; omega
        · have d1 : (((s[i].toNat : Nat) : Int) != 63) = true := by simp; omega
          by_cases q2 : s[i].toNat = 35
          · have d2 : (((s[i].toNat : Nat) : Int) != 35) = false := by rw [q2]; rfl
            have HK := Lib.hid (HJ1.out (by rw [HDF.out, hpl, decide_eq_true q2]; cases decide (s[i].toNat = 63) <;> rfl))
            clear HJ1 HDF HBAD HP HJ q1 q2
            go_wp2
            go_round
            case rel => exact ⟨i + 1, by omega, by go_num, HK.out⟩
            case measure => simp [intOf]; omega
          · have d2 : (((s[i].toNat : Nat) : Int) != 35) = true := by simp; omega
            have HV := Lib.hid (HBAD.out (by rw [HDF.out, hpl, decide_eq_false q1, decide_eq_false q2]; rfl))
            clear HJ1 HDF HBAD HP HJ q1 q2
            go_wp2
            go_ret
            exact ⟨by rw [HV.out]; rfl, rfl⟩
    · obtain rfl : i = s.size := by omega
      have HE := Lib.hid (HYE.out HJ.out)
      clear HJ HYE HNO HPL
      by_cases q1 : 1 ≤ s.size
      · have d1 : decide ((1 : Int) ≤ (s.size : Int)) = true := decide_eq_true (by omega)
        by_cases q2 : s.size ≤ 31
        · have d2 : decide ((s.size : Int) ≤ 31) = true := decide_eq_true (by omega)
          have HV : Hid (R = true) := by unfold Hid; rw [HE.out, decide_eq_true q1, decide_eq_true q2]; rfl
          clear HE q1 q2
          go_wp2
          go_ret
          exact ⟨by rw [HV.out]; rfl, rfl⟩
        · have d2 : decide ((s.size : Int) ≤ 31) = false := decide_eq_false (by omega)
          have HV : Hid (R = false) := by unfold Hid; rw [HE.out, decide_eq_true q1, decide_eq_false q2]; rfl
          clear HE q1 q2
          go_wp2
          go_ret
          exact ⟨by rw [HV.out]; rfl, rfl⟩
      · have d1 : decide ((1 : Int) ≤ (s.size : Int)) = false := decide_eq_false (by omega)
        have HV : Hid (R = false) := by unfold Hid; rw [HE.out, decide_eq_false q1]; rfl
        clear HE q1
        go_wp2
        go_ret
        exact ⟨by rw [HV.out]; rfl, rfl⟩
end Go.Proofs.Ytmgfnghegcfhnaa
