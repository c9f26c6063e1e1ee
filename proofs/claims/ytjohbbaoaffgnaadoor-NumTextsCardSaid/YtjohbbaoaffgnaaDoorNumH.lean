/- What the document's own FromDec returns, for every string of at most 2^40 bytes. -/
import Derived.Test.YtjohbbaoaffgnaaDoorNumG
namespace Go.Proofs.YtjohbbaoaffgnaaDoor
open Go.RowKit

/-- What FromDec returns. -/
def decEnd (l : List UInt8) : Value := if Lib.itoa (fOf l) = l then .tuple #[.int .i64 (fOf l), .bool true] else .tuple #[.int .i64 0, .bool false]
theorem head_at (s : ByteArray) (h : 0 < s.size) : s.data.toList.head? = some s[0] := by
  have h' : 0 < s.data.toList.length := h
  rw [List.head?_eq_getElem?, List.getElem?_eq_getElem h']
  rfl
theorem fstep_pos (a : Int) (c : UInt8) : fstep false a c = wrap64 (wrap64 (a * 10) + ((c.toNat : Int) - 48)) := rfl
theorem fstep_neg (a : Int) (c : UInt8) : fstep true a c = wrap64 (wrap64 (a * 10) + -((c.toNat : Int) - 48)) := rfl
theorem pos_succ (s : ByteArray) (k : Nat) (h : k < s.size) : fval false (s.data.toList.take (k + 1)) = fstep false (fval false (s.data.toList.take k)) s[k] := by
  rw [take_snoc s k h, fval_snoc]
theorem neg_succ (s : ByteArray) (k : Nat) (h : k < s.size) (h1 : 1 ≤ k) : fval true ((s.data.toList.take (k + 1)).drop 1) = fstep true (fval true ((s.data.toList.take k).drop 1)) s[k] := by
  rw [take_snoc s k h, List.drop_append_of_le_length (by simp; omega), fval_snoc]

set_option maxHeartbeats 800000 in
theorem reffromdec_pos (s : ByteArray) (w : World) (hl : s.size < 21) (hp : 0 < s.size) (hc : ¬ s[0] = 45) :
    Calls Tryd.prog 19 #[.string s] w fun e w' => e = .returned (decEnd s.data.toList) ∧ w = w' := by
  have HF : Hid (fOf s.data.toList = fval false s.data.toList) := by
    show fOf s.data.toList = _
    unfold fOf
    rw [if_pos (by simpa using hl), if_neg (by rw [head_at s hp]; intro h; injection h with h; exact hc h)]
  have hb45 : ((s[0].toNat : Int) == 45) = false := by
    have : ¬ s[0].toNat = 45 := fun h => hc (UInt8.toNat_inj.1 h)
    simp; omega
  have hbd := fOf_bd s.data.toList
  clear hc
  go_enter Tryd.func19, Tryd.ntmps19
  go_wp2
  go_loop [5, 6] (fun nv i => ∃ (k : Nat) (x : Int), k ≤ s.size ∧ i = .int .i64 k ∧ nv = .int .i64 x ∧ -9223372036854775808 ≤ x ∧ x ≤ 9223372036854775807 ∧ Hid (fval false (s.data.toList.take k) = x)) (fun _ i => s.size - (intOf i).toNat)
  case atStart => exact ⟨0, 0, Nat.zero_le _, rfl, rfl, by omega, by omega, rfl⟩
  case round =>
    obtain ⟨k, x, hk, rfl, rfl, hx1, hx2, HX⟩ := hrel
    by_cases hlt : k < s.size
    · have HS := Lib.hid (pos_succ s k hlt)
      rw [HX.out] at HS
      have hby := byte_in s[k]
      rw [fstep_pos] at HS
      by_cases hk0 : k = 0
      · subst hk0
        go_wp2
        go_round
        case rel => exact ⟨1, _, by omega, rfl, rfl, (wrap64_bd _).1, (wrap64_bd _).2, HS.out⟩
        case measure => simp [intOf]; omega
      · have hk1 : ((k : Int) == 0) = false := by simp; omega
        go_wp2
        go_round
        case rel => exact ⟨k + 1, _, by omega, by go_num, rfl, (wrap64_bd _).1, (wrap64_bd _).2, HS.out⟩
        case measure => simp [intOf]; omega
    · have hkl : k = s.size := by omega
      subst hkl
      have hx : x = fOf s.data.toList := by rw [HF.out, ← HX.out, List.take_of_length_le (by simp)]
      subst hx
      go_wp2_with fail
      refine (refdec_any _ _ hbd.1 hbd.2).mono ?_
      rintro e w' ⟨rfl, rfl⟩
      by_cases hE : Lib.itoa (fOf s.data.toList) = s.data.toList
      · have HE : Hid (decEnd s.data.toList = .tuple #[.int .i64 (fOf s.data.toList), .bool true]) := if_pos hE
        rw [hE]
        clear hE
        go_wp2
        go_ret2
        exact ⟨by rw [HE.out]; rfl, rfl⟩
      · have HE : Hid (decEnd s.data.toList = .tuple #[.int .i64 0, .bool false]) := if_neg hE
        have hne : (Lib.itoa (fOf s.data.toList) == s.toList) = false := by rw [ByteArray.toList_eq]; simpa using hE
        clear hE
        go_wp2
        go_ret2
        exact ⟨by rw [HE.out]; rfl, rfl⟩
set_option maxHeartbeats 800000 in
theorem reffromdec_neg (s : ByteArray) (w : World) (hl : s.size < 21) (hp : 0 < s.size) (hc : s[0] = 45) :
    Calls Tryd.prog 19 #[.string s] w fun e w' => e = .returned (decEnd s.data.toList) ∧ w = w' := by
  have HF : Hid (fOf s.data.toList = fval true (s.data.toList.drop 1)) := by
    show fOf s.data.toList = _
    unfold fOf
    rw [if_pos (by simpa using hl), if_pos (by rw [head_at s hp, hc])]
  have hb45 : ((s[0].toNat : Int) == 45) = true := by rw [hc]; rfl
  have hbd := fOf_bd s.data.toList
  clear hc
  go_enter Tryd.func19, Tryd.ntmps19
  go_wp2
  go_loop [5, 6] (fun nv i => ∃ (k : Nat) (x : Int), k ≤ s.size ∧ i = .int .i64 k ∧ nv = .int .i64 x ∧ -9223372036854775808 ≤ x ∧ x ≤ 9223372036854775807 ∧ Hid (fval true ((s.data.toList.take k).drop 1) = x)) (fun _ i => s.size - (intOf i).toNat)
  case atStart => exact ⟨0, 0, Nat.zero_le _, rfl, rfl, by omega, by omega, rfl⟩
  case round =>
    obtain ⟨k, x, hk, rfl, rfl, hx1, hx2, HX⟩ := hrel
    by_cases hlt : k < s.size
    · have hby := byte_in s[k]
      by_cases hk0 : k = 0
      · subst hk0
        have HX' : Hid (fval true ((s.data.toList.take 1).drop 1) = x) := by
          rw [← HX.out]
          show fval true ((s.data.toList.take 1).drop 1) = fval true ((s.data.toList.take 0).drop 1)
          congr 1
          rw [List.drop_eq_nil_of_le (by rw [List.length_take]; omega)]
          rfl
        go_wp2
        go_round
        case rel => exact ⟨1, x, by omega, rfl, rfl, hx1, hx2, HX'⟩
        case measure => simp [intOf]; omega
      · have hk1 : ((k : Int) == 0) = false := by simp; omega
        have HS := Lib.hid (neg_succ s k hlt (by omega))
        rw [HX.out, fstep_neg] at HS
        go_wp2
        go_round
        case rel => exact ⟨k + 1, _, by omega, by go_num, rfl, (wrap64_bd _).1, (wrap64_bd _).2, HS.out⟩
        case measure => simp [intOf]; omega
    · have hkl : k = s.size := by omega
      subst hkl
      have hx : x = fOf s.data.toList := by rw [HF.out, ← HX.out, List.take_of_length_le (by simp)]
      subst hx
      go_wp2_with fail
      refine (refdec_any _ _ hbd.1 hbd.2).mono ?_
      rintro e w' ⟨rfl, rfl⟩
      by_cases hE : Lib.itoa (fOf s.data.toList) = s.data.toList
      · have HE : Hid (decEnd s.data.toList = .tuple #[.int .i64 (fOf s.data.toList), .bool true]) := if_pos hE
        rw [hE]
        clear hE
        go_wp2
        go_ret2
        exact ⟨by rw [HE.out]; rfl, rfl⟩
      · have HE : Hid (decEnd s.data.toList = .tuple #[.int .i64 0, .bool false]) := if_neg hE
        have hne : (Lib.itoa (fOf s.data.toList) == s.toList) = false := by rw [ByteArray.toList_eq]; simpa using hE
        clear hE
        go_wp2
        go_ret2
        exact ⟨by rw [HE.out]; rfl, rfl⟩
theorem decEnd_off (s : ByteArray) (hF : fOf s.data.toList = 0) (hl : s.size ≠ 1) : decEnd s.data.toList = .tuple #[.int .i64 0, .bool false] ∧ (Lib.itoa 0 == s.toList) = false := by
  have h : ¬ Lib.itoa 0 = s.data.toList := fun h => by
    have h2 := congrArg List.length h
    rw [itoa_zero] at h2
    have : s.data.toList.length = s.size := rfl
    simp at h2
    omega
  refine ⟨?_, by rw [ByteArray.toList_eq]; simpa using h⟩
  unfold decEnd
  rw [hF, if_neg h]

set_option maxHeartbeats 800000 in
theorem reffromdec_long (s : ByteArray) (w : World) (hl : 21 ≤ s.size) (hm : s.size ≤ 1099511627776) :
    Calls Tryd.prog 19 #[.string s] w fun e w' => e = .returned (decEnd s.data.toList) ∧ w = w' := by
  have hF : fOf s.data.toList = 0 := if_neg (by show ¬ s.data.toList.length < 21; have : s.data.toList.length = s.size := rfl; omega)
  obtain ⟨hE, hne⟩ := decEnd_off s hF (by omega)
  have HE := Lib.hid hE
  have HN := Lib.hid hne
  clear hE hF hne
  have hp : 0 < s.size := by omega
  obtain ⟨bb, hbb⟩ : ∃ bb : Bool, ((s[0].toNat : Int) == 45) = bb := ⟨_, rfl⟩
  go_enter Tryd.func19, Tryd.ntmps19
  go_wp2
  go_loop [5, 6] (fun nv i => i = .int .i64 0 ∧ nv = .int .i64 0) (fun _ i => s.size - (intOf i).toNat)
  case atStart => exact ⟨rfl, rfl⟩
  case round =>
    obtain ⟨rfl, rfl⟩ := hrel
    go_wp2_with fail
    refine (refdec_any 0 _ (by omega) (by omega)).mono ?_
    rintro e w' ⟨rfl, rfl⟩
    have hne := HN.out
    go_wp2
    go_ret2
    exact ⟨by rw [HE.out]; rfl, rfl⟩

set_option maxHeartbeats 800000 in
theorem reffromdec_empty (s : ByteArray) (w : World) (hl : s.size = 0) :
    Calls Tryd.prog 19 #[.string s] w fun e w' => e = .returned (decEnd s.data.toList) ∧ w = w' := by
  have hnil : s.data.toList = [] := List.length_eq_zero_iff.1 hl
  have hF : fOf s.data.toList = 0 := by rw [hnil]; rfl
  obtain ⟨hE, hne⟩ := decEnd_off s hF (by omega)
  have HE := Lib.hid hE
  have HN := Lib.hid hne
  clear hE hF hne hnil
  go_enter Tryd.func19, Tryd.ntmps19
  go_wp2
  go_loop [5, 6] (fun nv i => i = .int .i64 0 ∧ nv = .int .i64 0) (fun _ i => s.size - (intOf i).toNat)
  case atStart => exact ⟨rfl, rfl⟩
  case round =>
    obtain ⟨rfl, rfl⟩ := hrel
    go_wp2_with fail
    refine (refdec_any 0 _ (by omega) (by omega)).mono ?_
    rintro e w' ⟨rfl, rfl⟩
    have hne := HN.out
    go_wp2
    go_ret2
    exact ⟨by rw [HE.out]; rfl, rfl⟩

theorem reffromdec_any (s : ByteArray) (w : World) (hm : s.size ≤ 1099511627776) :
    Calls Tryd.prog 19 #[.string s] w fun e w' => e = .returned (decEnd s.data.toList) ∧ w = w' := by
  by_cases h0 : s.size = 0
  · exact reffromdec_empty s w h0
  · by_cases h1 : 21 ≤ s.size
    · exact reffromdec_long s w h1 hm
    · have hp : 0 < s.size := by omega
      by_cases hc : s[0] = 45
      · exact reffromdec_neg s w (by omega) hp hc
      · exact reffromdec_pos s w (by omega) hp hc
theorem decEnd_some {l : List UInt8} {v : Int} (h : decOf l = some v) : decEnd l = .tuple #[.int .i64 v, .bool true] := by
  rw [decOf_fOf] at h
  unfold decEnd
  split at h
  · rename_i hi
    injection h with h
    rw [if_pos hi, h]
  · cases h
theorem decEnd_none {l : List UInt8} (h : decOf l = none) : decEnd l = .tuple #[.int .i64 0, .bool false] := by
  rw [decOf_fOf] at h
  unfold decEnd
  split at h
  · cases h
  · rename_i hi
    rw [if_neg hi]
end Go.Proofs.YtjohbbaoaffgnaaDoor
