/- What the document's Node of layer 19 returns. Conditions: strings of at most 2^30 bytes. -/
import Derived.Test.YtmgfnghegcfhnaaMg8
import Derived.Test.YtmgfnghegcfhnaaMg17
import Derived.Deep.DeepCutAuto
namespace Go.Proofs.Ytmgfnghegcfhnaa
open Go.RowKit

theorem ahead_take (l : List UInt8) : ahead l = l.take (ahead l).length := by
  obtain ⟨h, _⟩ := unit_ahead l
  have e : (ahead l ++ (if (unitR l).2 = true then 64 :: (unitR l).1 else [])).take (ahead l).length = ahead l := List.take_left
  rw [← h] at e
  exact e.symm
theorem empty19 {s : ByteArray} : s.toList.isEmpty = decide (s.size = 0) := by
  rw [ByteArray.toList_eq]
  have h : s.size = s.data.toList.length := rfl
  rw [h]
  cases s.data.toList with
  | nil => rfl
  | cons _ _ => simp
/-- When a name may be a node's, in the order of the tests. -/
structure Node19 (l : List UInt8) (f u : ByteArray) (has : Bool) (R : Bool) : Prop where
  long : 31 < l.length → R = false
  none : f.size = 0 → R = false
  head : ∀ h : 0 < f.size, letC (f[0]'h).toNat = false → R = false
  unit : has = true → u.size = 0 → R = false
  bad : ∀ a : ByteArray, a.data.toList = f.data.toList ++ u.data.toList → ∀ i, i < a.size → plaC (a.data.toList.getD i 0).toNat = false → R = false
  good : ¬ 31 < l.length → ∀ h : 0 < f.size, letC (f[0]'h).toNat = true → ¬ (has = true ∧ u.size = 0) → (∀ a : ByteArray, a.data.toList = f.data.toList ++ u.data.toList → ∀ i, i < a.size → plaC (a.data.toList.getD i 0).toNat = true) → R = true
theorem node19 (s f u : ByteArray) (hf : f.data.toList = ahead s.data.toList) (hu : u.data.toList = (unitR s.data.toList).1) : Node19 s.data.toList f u (unitR s.data.toList).2 (nodeR s.data.toList) := by
  have hfz : f.size = (ahead s.data.toList).length := by rw [← hf]; rfl
  have huz : u.size = (unitR s.data.toList).1.length := by rw [← hu]; rfl
  have hh : ∀ h : 0 < f.size, headC (ahead s.data.toList) = letC (f[0]'h).toNat := fun h => by
    have hg := byte19 f h
    rw [hf] at hg
    cases ha : ahead s.data.toList with
    | nil => rw [hfz, ha] at h; exact absurd h (by decide)
    | cons c r =>
      rw [ha] at hg
      have hg : c = f[0] := hg
      rw [← hg]; rfl
  refine ⟨fun h => ?_, fun h => ?_, fun h h2 => ?_, fun h h2 => ?_, fun a ha i hi h => ?_, fun h1 h2 h3 h4 h5 => ?_⟩
  · unfold nodeR; rw [decide_eq_false (by omega)]; rfl
  · have : ahead s.data.toList = [] := List.length_eq_zero_iff.1 (by omega)
    unfold nodeR; rw [this]; simp [headC]
  · unfold nodeR; rw [hh h, h2]; simp
  · have : (unitR s.data.toList).1 = [] := List.length_eq_zero_iff.1 (by omega)
    unfold nodeR; rw [h, this]; simp
  · unfold nodeR
    rw [hf, hu] at ha
    rw [← ha, all19_no (f := plaC) hi h]; simp
  · unfold nodeR
    have hu0 : ((unitR s.data.toList).2 && (unitR s.data.toList).1.isEmpty) = false := by
      cases e : (unitR s.data.toList).2 with
      | false => rfl
      | true =>
        cases e2 : (unitR s.data.toList).1 with
        | nil => exact absurd ⟨e, by rw [huz, e2]; rfl⟩ h4
        | cons _ _ => rfl
    have ha := h5 ⟨(f.data.toList ++ u.data.toList).toArray⟩ (by simp)
    have hal : ((ahead s.data.toList ++ (unitR s.data.toList).1).all fun c => plaC c.toNat) = true := by
      rw [← hf, ← hu]
      exact all19 (f := plaC) fun j hj => by
        have := ha j (by show j < (f.data.toList ++ u.data.toList).toArray.size; rw [List.size_toArray]; exact hj)
        simpa using this
    rw [decide_eq_true (by omega), hh h2, h3, hu0, hal]; rfl

set_option maxHeartbeats 1600000 in
set_option maxRecDepth 100000 in
theorem node19_any (s : ByteArray) (w : World) (hs : s.size ≤ 1073741824) :
    Calls Try.prog 10 #[.string s] w fun e w' => e = .returned (.bool (nodeR s.data.toList)) ∧ w' = w := by
  obtain ⟨u, hu⟩ : ∃ u : ByteArray, u = ⟨(unitR s.data.toList).1.toArray⟩ := ⟨_, rfl⟩
  obtain ⟨f, hf⟩ : ∃ f : ByteArray, f = ⟨(ahead s.data.toList).toArray⟩ := ⟨_, rfl⟩
  obtain ⟨hlen, huo⟩ := unit_len s.data.toList
  have hsz : s.data.toList.length = s.size := rfl
  have huz : u.size = (unitR s.data.toList).1.length := by rw [hu]; exact List.size_toArray
  have hfz : f.size = (ahead s.data.toList).length := by rw [hf]; exact List.size_toArray
  have HND := Lib.hid (node19 s f u (by rw [hf]) (by rw [hu]))
  have HUN := Lib.hid (unit_any s w (by omega))
  have HPL := Lib.hid (fun k => gplain_any k w)
  have HLT := Lib.hid (fun k => letter_any k w)
  have HEX : Hid ((unitR s.data.toList).2 = true → s.extract 0 f.size = f ∧ s.size = f.size + u.size + 1) := fun h => by
    rw [h, if_pos rfl] at hlen
    refine ⟨?_, by omega⟩
    rw [ext_upto, hfz, ← ahead_take, hf]
  have HNX : Hid ((unitR s.data.toList).2 = false → s = f) := fun h => by
    obtain ⟨g1, g2⟩ := unit_ahead s.data.toList
    rw [h] at g1
    have g1 : s.data.toList = ahead s.data.toList ++ [] := g1
    rw [List.append_nil] at g1
    rw [hf]
    exact ByteArray.ext (Array.ext' (by rw [← g1]))
  have hfs : f.size ≤ s.size ∧ u.size ≤ s.size := by
    rw [hfz, huz]
    split at hlen
    · omega
    · rename_i h
      have : (unitR s.data.toList).2 = false := by simpa using h
      rw [huo this]
      exact ⟨by omega, Nat.zero_le _⟩
  obtain ⟨z, hz⟩ : ∃ z : ByteArray, z = ⟨(f.data.toList ++ u.data.toList).toArray⟩ := ⟨_, rfl⟩
  have hzd : z.data.toList = f.data.toList ++ u.data.toList := by rw [hz]
  have hzz : z.size = f.size + u.size := by
    show z.data.toList.length = _
    rw [hzd, List.length_append]; rfl
  have a1 : ∀ W, (Op.stringOp .add f u).run Try.prog W = .ok (.string z) W := fun W => add_str hzd (by omega) W
  have HBAD := Lib.hid (HND.out.bad z hzd)
  have HGOOD : Hid (¬ 31 < s.size → ∀ h : 0 < f.size, letC (f[0]'h).toNat = true → ¬ ((unitR s.data.toList).2 = true ∧ u.size = 0) → (∀ i, i < z.size → plaC (z.data.toList.getD i 0).toNat = true) → nodeR s.data.toList = true) := fun h1 h2 h3 h4 h5 =>
    HND.out.good h1 h2 h3 h4 fun a ha => by
      have : a = z := ByteArray.ext (Array.ext' (by rw [ha, hzd]))
      rw [this]; exact h5
  have HLONG : Hid (31 < s.size → nodeR s.data.toList = false) := HND.out.long
  have HNONE := Lib.hid HND.out.none
  have HHEAD := Lib.hid HND.out.head
  have HUNIT := Lib.hid HND.out.unit
  rw [← hu] at HUN
  generalize nodeR s.data.toList = R at *
  generalize (unitR s.data.toList).2 = has at *
  clear hu hf hlen huo hsz huz hfz HND hz hzd
  go_enter Try.func10, Try.ntmps10
  go_wp2_with fail
  refine HUN.out.mono ?_
  rintro e w1 ⟨rfl, rfl⟩
  cases has with
  | true =>
    obtain ⟨hx, hsz⟩ := HEX.out rfl
    have hw1 : IntKind.i64.wrap ((s.size : Int) - (u.size : Int)) = (f.size : Int) + 1 := by rw [IntWalk.i64_in _ (by omega)]; omega
    have hw2 : IntKind.i64.wrap ((f.size : Int) + 1 - 1) = (f.size : Int) := by rw [IntWalk.i64_in _ (by omega)]; omega
    have hb1 : (f.size : Int) ≤ (s.size : Int) := by omega
    have HX := Lib.hid hx
    clear hx hsz
    go_upto_region 5 with fail
    rw [HX.out]
    clear HX hw1 hw2 hb1
    obtain ⟨lt, hlt⟩ : ∃ lt : Bool, lt = letC (f.data.toList.getD 0 0).toNat := ⟨_, rfl⟩
    obtain ⟨bd, hbd⟩ : ∃ bd : Bool, bd = (decide (31 < s.size) || (decide (f.size = 0) || (!lt || (true && decide (u.size = 0))))) := ⟨_, rfl⟩
    have HBD := Lib.hid hbd
    have HF0 : Hid (∀ h : 0 < f.size, letC (f[0]'h).toNat = lt) := fun h => by rw [hlt, byte19 f h]
    have HR0 : Hid (bd = true → R = false) := fun h => by
      rw [hbd] at h
      simp only [Bool.or_eq_true, decide_eq_true_eq, Bool.not_eq_true', Bool.and_eq_true] at h
      rcases h with h | h | h | ⟨h, h2⟩
      · exact HLONG.out h
      · exact HNONE.out h
      · by_cases h0 : f.size = 0
        · exact HNONE.out h0
        · exact HHEAD.out (by omega) (by rw [HF0.out (by omega)]; exact h)
      · exact HUNIT.out h h2
    have HR1 : Hid (bd = false → (∀ i, i < z.size → plaC (z.data.toList.getD i 0).toNat = true) → R = true) := fun h h5 => by
      rw [hbd] at h
      simp only [Bool.or_eq_false_iff, decide_eq_false_iff_not, Bool.not_eq_false', Bool.and_eq_false_imp] at h
      obtain ⟨h1, h2, h3, h4⟩ := h
      exact HGOOD.out h1 (by omega) (by rw [HF0.out (by omega)]; exact h3) (fun ⟨g1, g2⟩ => h4 g1 g2) h5
    clear hlt hbd HEX HNX HGOOD HLONG HNONE HHEAD HUNIT HUN
    go_cut [42] (fun s42 wx => s42 = .bool bd ∧ wx = w1)
    case first => as_aux_lemma =>
      clear HR0 HR1 a1
      by_cases q1 : 31 < s.size
      · have d1 : decide ((31 : Int) < (s.size : Int)) = true := decide_eq_true (by omega)
        have HF : Hid (bd = true) := by unfold Hid; rw [HBD.out]; simp [q1]
        clear HLT HBD HPL HBAD
        go_wp2
        go_meet
        exact ⟨by rw [HF.out], rfl⟩
      · have d1 : decide ((31 : Int) < (s.size : Int)) = false := decide_eq_false (by omega)
        by_cases q2 : f.size = 0
        · have d2 : f.toList.isEmpty = true := by rw [empty19]; exact decide_eq_true q2
          have HF : Hid (bd = true) := by unfold Hid; rw [HBD.out]; simp [q2]
          clear HLT q1 HBD HPL HBAD
          clear q2
          go_wp2
          go_meet
          exact ⟨by rw [HF.out], rfl⟩
        · have d2 : f.toList.isEmpty = false := by rw [empty19]; exact decide_eq_false q2
          have hf0 : (0 : Int) < (f.size : Int) := by omega
          have hf1 : 0 < f.size := by omega
          have HLF := Lib.hid (HLT.out (f[0]'hf1).toNat)
          rw [HF0.out hf1] at HLF
          clear HLT
          cases lt with
          | false =>
            have HF : Hid (bd = true) := by unfold Hid; rw [HBD.out]; simp []
            clear HBD HPL HBAD
            go_wp2_with fail
            refine HLF.out.mono ?_
            rintro e w2 ⟨rfl, rfl⟩
            go_wp2
            go_meet
            exact ⟨by rw [HF.out], rfl⟩
          | true =>
            by_cases q3 : u.size = 0
            · have d3 : u.toList.isEmpty = true := by rw [empty19]; exact decide_eq_true q3
              have HF : Hid (bd = true) := by unfold Hid; rw [HBD.out]; simp [q3]
              clear q1 q2 HBD HPL HBAD
              clear q3
              go_wp2_with fail
              refine HLF.out.mono ?_
              rintro e w2 ⟨rfl, rfl⟩
              go_wp2
              go_meet
              exact ⟨by rw [HF.out], rfl⟩
            · have d3 : u.toList.isEmpty = false := by rw [empty19]; exact decide_eq_false q3
              have HF : Hid (bd = false) := by unfold Hid; rw [HBD.out]; simp [q1, q2, q3]
              clear q1 q2 q3 HBD HPL HBAD
              go_wp2_with fail
              refine HLF.out.mono ?_
              rintro e w2 ⟨rfl, rfl⟩
              go_wp2
              go_meet
              exact ⟨by rw [HF.out], rfl⟩
    case rest => as_aux_lemma =>
      obtain ⟨rfl, rfl⟩ := hcut
      clear HBD HLT HF0
      cases bd with
      | true =>
        have HV := Lib.hid (HR0.out rfl)
        clear HR0 HR1 HBAD HPL a1
        go_wp2
        go_ret
        exact ⟨by rw [HV.out]; rfl, rfl⟩
      | false =>
        have HYE := Lib.hid (HR1.out rfl)
        clear HR0 HR1
        have hzm : z.size ≤ 9223372036854775806 := by omega
        go_wp2
        go_loop [7] (fun iv => ∃ i : Nat, i ≤ z.size ∧ iv = .int .i64 i ∧ Hid (∀ j, j < i → plaC (z.data.toList.getD j 0).toNat = true)) (fun iv => z.size - (intOf iv).toNat)
        case atStart => exact ⟨0, Nat.zero_le _, rfl, fun j h => absurd h (Nat.not_lt_zero _)⟩
        case round =>
          obtain ⟨i, hi, rfl, HJ⟩ := hrel
          by_cases hlt : i < z.size
          · have hii : (i : Int) < (z.size : Int) := by omega
            have hg := byte19 z hlt
            have HP := Lib.hid (HPL.out z[i].toNat)
            have HNV : Hid (plaC z[i].toNat = false → R = false) := fun h => HBAD.out i hlt (by rw [hg]; exact h)
            have HJ1 : Hid (plaC z[i].toNat = true → ∀ j, j < i + 1 → plaC (z.data.toList.getD j 0).toNat = true) := fun h j hj => by
              by_cases e : j = i
              · rw [e, hg]; exact h
              · exact HJ.out j (by omega)
            clear hg HJ
            go_wp2_with fail
            refine HP.out.mono ?_
            rintro e w2 ⟨rfl, rfl⟩
            cases hpl : plaC z[i].toNat with
            | true =>
              have HK := Lib.hid (HJ1.out hpl)
              clear HJ1 HNV hpl HP
              go_wp2
              go_round
              case rel => exact ⟨i + 1, by omega, by go_num, HK.out⟩
              case measure => simp [intOf]; omega
            | false =>
              have HV := Lib.hid (HNV.out hpl)
              clear HJ1 HNV hpl HP
              go_wp2
              go_ret
              exact ⟨by rw [HV.out]; rfl, rfl⟩
          · obtain rfl : i = z.size := by omega
            have HV := Lib.hid (HYE.out HJ.out)
            clear HJ HYE HBAD HPL
            go_wp2
            go_ret
            exact ⟨by rw [HV.out]; rfl, rfl⟩
  | false =>
    have HX := Lib.hid (HNX.out rfl)
    obtain rfl : s = f := HX.out
    clear HX
    obtain ⟨lt, hlt⟩ : ∃ lt : Bool, lt = letC (s.data.toList.getD 0 0).toNat := ⟨_, rfl⟩
    obtain ⟨bd, hbd⟩ : ∃ bd : Bool, bd = (decide (31 < s.size) || (decide (s.size = 0) || (!lt || (false && decide (u.size = 0))))) := ⟨_, rfl⟩
    have HBD := Lib.hid hbd
    have HF0 : Hid (∀ h : 0 < s.size, letC (s[0]'h).toNat = lt) := fun h => by rw [hlt, byte19 s h]
    have HR0 : Hid (bd = true → R = false) := fun h => by
      rw [hbd] at h
      simp only [Bool.or_eq_true, decide_eq_true_eq, Bool.not_eq_true', Bool.and_eq_true] at h
      rcases h with h | h | h | ⟨h, h2⟩
      · exact HLONG.out h
      · exact HNONE.out h
      · by_cases h0 : s.size = 0
        · exact HNONE.out h0
        · exact HHEAD.out (by omega) (by rw [HF0.out (by omega)]; exact h)
      · exact HUNIT.out h h2
    have HR1 : Hid (bd = false → (∀ i, i < z.size → plaC (z.data.toList.getD i 0).toNat = true) → R = true) := fun h h5 => by
      rw [hbd] at h
      simp only [Bool.or_eq_false_iff, decide_eq_false_iff_not, Bool.not_eq_false', Bool.and_eq_false_imp] at h
      obtain ⟨h1, h2, h3, h4⟩ := h
      exact HGOOD.out h1 (by omega) (by rw [HF0.out (by omega)]; exact h3) (fun ⟨g1, g2⟩ => h4 g1 g2) h5
    clear hlt hbd HEX HNX HGOOD HLONG HNONE HHEAD HUNIT HUN
    go_upto_region 5 with fail
    go_cut [42] (fun s42 wx => s42 = .bool bd ∧ wx = w1)
    case first => as_aux_lemma =>
      clear HR0 HR1 a1
      by_cases q1 : 31 < s.size
      · have d1 : decide ((31 : Int) < (s.size : Int)) = true := decide_eq_true (by omega)
        have HF : Hid (bd = true) := by unfold Hid; rw [HBD.out]; simp [q1]
        clear HLT HBD HPL HBAD
        go_wp2
        go_meet
        exact ⟨by rw [HF.out], rfl⟩
      · have d1 : decide ((31 : Int) < (s.size : Int)) = false := decide_eq_false (by omega)
        by_cases q2 : s.size = 0
        · have d2 : s.toList.isEmpty = true := by rw [empty19]; exact decide_eq_true q2
          have HF : Hid (bd = true) := by unfold Hid; rw [HBD.out]; simp [q2]
          clear HLT q1 HBD HPL HBAD
          clear q2
          go_wp2
          go_meet
          exact ⟨by rw [HF.out], rfl⟩
        · have d2 : s.toList.isEmpty = false := by rw [empty19]; exact decide_eq_false q2
          have hf0 : (0 : Int) < (s.size : Int) := by omega
          have hf1 : 0 < s.size := by omega
          have HLF := Lib.hid (HLT.out (s[0]'hf1).toNat)
          rw [HF0.out hf1] at HLF
          clear HLT
          cases lt with
          | false =>
            have HF : Hid (bd = true) := by unfold Hid; rw [HBD.out]; simp []
            clear HBD HPL HBAD
            go_wp2_with fail
            refine HLF.out.mono ?_
            rintro e w2 ⟨rfl, rfl⟩
            go_wp2
            go_meet
            exact ⟨by rw [HF.out], rfl⟩
          | true =>
            have HF : Hid (bd = false) := by unfold Hid; rw [HBD.out]; simp [q1, q2]
            clear q1 q2 HBD HPL HBAD
            go_wp2_with fail
            refine HLF.out.mono ?_
            rintro e w2 ⟨rfl, rfl⟩
            go_wp2
            go_meet
            exact ⟨by rw [HF.out], rfl⟩
    case rest => as_aux_lemma =>
      obtain ⟨rfl, rfl⟩ := hcut
      clear HBD HLT HF0
      cases bd with
      | true =>
        have HV := Lib.hid (HR0.out rfl)
        clear HR0 HR1 HBAD HPL a1
        go_wp2
        go_ret
        exact ⟨by rw [HV.out]; rfl, rfl⟩
      | false =>
        have HYE := Lib.hid (HR1.out rfl)
        clear HR0 HR1
        have hzm : z.size ≤ 9223372036854775806 := by omega
        go_wp2
        go_loop [7] (fun iv => ∃ i : Nat, i ≤ z.size ∧ iv = .int .i64 i ∧ Hid (∀ j, j < i → plaC (z.data.toList.getD j 0).toNat = true)) (fun iv => z.size - (intOf iv).toNat)
        case atStart => exact ⟨0, Nat.zero_le _, rfl, fun j h => absurd h (Nat.not_lt_zero _)⟩
        case round =>
          obtain ⟨i, hi, rfl, HJ⟩ := hrel
          by_cases hlt : i < z.size
          · have hii : (i : Int) < (z.size : Int) := by omega
            have hg := byte19 z hlt
            have HP := Lib.hid (HPL.out z[i].toNat)
            have HNV : Hid (plaC z[i].toNat = false → R = false) := fun h => HBAD.out i hlt (by rw [hg]; exact h)
            have HJ1 : Hid (plaC z[i].toNat = true → ∀ j, j < i + 1 → plaC (z.data.toList.getD j 0).toNat = true) := fun h j hj => by
              by_cases e : j = i
              · rw [e, hg]; exact h
              · exact HJ.out j (by omega)
            clear hg HJ
            go_wp2_with fail
            refine HP.out.mono ?_
            rintro e w2 ⟨rfl, rfl⟩
            cases hpl : plaC z[i].toNat with
            | true =>
              have HK := Lib.hid (HJ1.out hpl)
              clear HJ1 HNV hpl HP
              go_wp2
              go_round
              case rel => exact ⟨i + 1, by omega, by go_num, HK.out⟩
              case measure => simp [intOf]; omega
            | false =>
              have HV := Lib.hid (HNV.out hpl)
              clear HJ1 HNV hpl HP
              go_wp2
              go_ret
              exact ⟨by rw [HV.out]; rfl, rfl⟩
          · obtain rfl : i = z.size := by omega
            have HV := Lib.hid (HYE.out HJ.out)
            clear HJ HYE HBAD HPL
            go_wp2
            go_ret
            exact ⟨by rw [HV.out]; rfl, rfl⟩
end Go.Proofs.Ytmgfnghegcfhnaa
