/- What allowed, Get and the map of no bytes' positions are, and strings.Cut at one byte 0; the document's May, Get and Few. Conditions: strings of at most 2^40 bytes, places of 64 bits. -/
import Derived.Test.YtfcclppgjfkfoaaDoorShelf
import Derived.Test.YtfcclppgjfkfoaaDoorMg0
import Derived.Test.YtfcclppgjfkfoaaDoorMg7
import Derived.Laws.IdiomStrings
import Derived.Deep.QuietTactic
import Derived.BigQuiet
import Derived.IntWalk
namespace Go.Proofs.YtfcclppgjfkfoaaDoor
open Go.RowKit

theorem sallowed_any (s : ByteArray) (w : World) (hl : s.size ≤ maxLen) : Calls Tryd.prog 66 #[.string s] w fun e w' => e = .returned (.bool (mayB s)) ∧ w = w' := by
  have hz := indexByte_z0 s.data.toList
  have hm := z0_mem s.data.toList
  have hlen : s.data.toList.length = s.size := rfl
  have HI := Lib.hid (Tryd.strings_IndexByte s 0)
  have h0 : (0 : Int).toNat.toUInt8 = 0 := rfl
  rw [h0, hz] at HI
  unfold maxLen at hl
  by_cases h1 : 1 ≤ s.size
  · by_cases h2 : s.size ≤ 31
    · have d1 : decide ((1 : Int) ≤ s.size) = true := decide_eq_true (by omega)
      have d2 : decide ((s.size : Int) ≤ 31) = true := decide_eq_true (by omega)
      by_cases h3 : z0 s.data.toList < s.data.toList.length
      · have hf : mayB s = false := by cases e : mayB s with
          | false => rfl
          | true => exact absurd (hm.2 h3) (mayB_iff.1 e).2.2
        rw [hf]
        rw [if_pos h3] at HI
        have d3 : decide (((z0 s.data.toList : Nat) : Int) < 0) = false := decide_eq_false (by omega)
        generalize z0 s.data.toList = z at *
        clear hz hm h3 hf hlen h1 h2
        go_enter Tryd.func66, Tryd.ntmps66
        go_wp2_with fail
        refine (HI.out _).mono ?_
        rintro e w1 ⟨rfl, rfl⟩
        go_wp2
        go_ret
        exact ⟨rfl, rfl⟩
      · have hf : mayB s = true := mayB_iff.2 ⟨h1, h2, fun h => h3 (hm.1 h)⟩
        rw [hf]
        rw [if_neg h3] at HI
        clear hz hm h3 hf hlen h1 h2
        go_enter Tryd.func66, Tryd.ntmps66
        go_wp2_with fail
        refine (HI.out _).mono ?_
        rintro e w1 ⟨rfl, rfl⟩
        go_wp2
        go_ret
        exact ⟨rfl, rfl⟩
    · have hf : mayB s = false := by cases e : mayB s with
        | false => rfl
        | true => exact absurd (mayB_iff.1 e).2.1 h2
      rw [hf]
      have d1 : decide ((1 : Int) ≤ s.size) = true := decide_eq_true (by omega)
      have d2 : decide ((s.size : Int) ≤ 31) = false := decide_eq_false (by omega)
      clear hz hm hf hlen h1 h2
      go_enter Tryd.func66, Tryd.ntmps66
      go_wp2
      go_ret
      exact ⟨rfl, rfl⟩
  · have hf : mayB s = false := by cases e : mayB s with
      | false => rfl
      | true => exact absurd (mayB_iff.1 e).1 h1
    rw [hf]
    have d1 : decide ((1 : Int) ≤ s.size) = false := decide_eq_false (by omega)
    clear hz hm hf hlen h1
    go_enter Tryd.func66, Tryd.ntmps66
    go_wp2
    go_ret
    exact ⟨rfl, rfl⟩

/-- internal/stringslite.Cut at one byte. -/
theorem scut0_lite (s : ByteArray) (w : World) (hl : s.size ≤ maxLen) : Calls Tryd.prog 102 #[.string s, .string ⟨#[0]⟩] w fun e w' =>
    (∃ r, e = .returned (.tuple #[.string (if z0 s.data.toList < s.size then s.extract 0 (z0 s.data.toList) else s), .string r, .bool (decide (z0 s.data.toList < s.size))])) ∧ ∃ n, w' = w.drewN n := by
  have hz := indexByte_z0 s.data.toList
  have hlen : s.data.toList.length = s.size := rfl
  have HI := Lib.hid (Tryd.stringslite_Index_one s 0)
  rw [hz, hlen] at HI
  unfold maxLen at hl
  by_cases h3 : z0 s.data.toList < s.size
  · rw [if_pos h3] at HI
    rw [if_pos h3, decide_eq_true h3]
    generalize z0 s.data.toList = z at *
    have c0 : (0 : Int) ≤ z := by omega
    have c1 : (z : Int) ≤ s.size := by omega
    have c2 : (0 : Int) ≤ (z : Int) + 1 := by omega
    have c3 : (z : Int) + 1 ≤ s.size := by omega
    have d0 : decide ((0 : Int) ≤ (z : Int)) = true := decide_eq_true (by omega)
    clear hz hlen
    go_enter Tryd.func102, Tryd.ntmps102
    go_wp2_with fail
    refine (HI.out _).mono ?_
    rintro e w1 ⟨rfl, rfl⟩
    go_wp2
    go_quiet (fail)
    go_wp2
    go_ret3
    exact ⟨⟨_, rfl⟩, _, rfl⟩
  · rw [if_neg h3] at HI
    rw [if_neg h3, decide_eq_false h3]
    clear hz hlen
    go_enter Tryd.func102, Tryd.ntmps102
    go_wp2_with fail
    refine (HI.out _).mono ?_
    rintro e w1 ⟨rfl, rfl⟩
    go_wp2
    go_ret3
    exact ⟨⟨_, rfl⟩, 0, rfl⟩
theorem scut0_any (s : ByteArray) (w : World) (hl : s.size ≤ maxLen) : Calls Tryd.prog 100 #[.string s, .string ⟨#[0]⟩] w fun e w' =>
    (∃ r, e = .returned (.tuple #[.string (if z0 s.data.toList < s.size then s.extract 0 (z0 s.data.toList) else s), .string r, .bool (decide (z0 s.data.toList < s.size))])) ∧ ∃ n, w' = w.drewN n := by
  have HI := Lib.hid (scut0_lite s w hl)
  generalize decide (z0 s.data.toList < s.size) = d at *
  generalize (if z0 s.data.toList < s.size then s.extract 0 (z0 s.data.toList) else s) = x at *
  go_enter Tryd.func100, Tryd.ntmps100
  go_wp2_with fail
  refine HI.out.mono ?_
  rintro e w1 ⟨⟨r, rfl⟩, n, rfl⟩
  go_wp2
  go_ret3
  exact ⟨⟨_, rfl⟩, n, rfl⟩
end Go.Proofs.YtfcclppgjfkfoaaDoor

/- What Get and the document's Get return: the string at a place of bytes; the document's May and Few. Conditions: strings that fit, places of 64 bits. -/
namespace Go.Proofs.YtfcclppgjfkfoaaDoor
open Go.RowKit

theorem ext_list (s : ByteArray) (a b : Nat) : (s.extract a b).data.toList = (s.data.toList.take b).drop a := by
  rw [ByteArray.data_extract, Array.toList_extract, List.extract_eq_take_drop, List.drop_take]
theorem cut_list (s : ByteArray) (a : Nat) : (s.extract a s.size).data.toList = s.data.toList.drop a := by
  rw [ext_list, List.take_of_length_le (by show s.data.toList.length ≤ s.size; exact Nat.le_refl _)]
theorem ba_eq (s : ByteArray) : s = ⟨s.data.toList.toArray⟩ := by cases s; simp
/-- The three ends of Get. -/
theorem getR_range {l : List UInt8} {p : Int} (h : p < 0 ∨ (l.length : Int) ≤ p) : getR l p = (ByteArray.empty, 2) := by unfold getR; rw [if_pos h]
theorem getR_in (s : ByteArray) (a : Nat) (h : a < s.size) : getR s.data.toList a = if z0 (s.data.toList.drop a) < s.size - a then (s.extract a (a + z0 (s.data.toList.drop a)), 0) else (ByteArray.empty, 6) := by
  have hlen : s.data.toList.length = s.size := rfl
  unfold getR
  rw [if_neg (by omega), Int.toNat_natCast, List.length_drop, hlen]
  split
  · congr 1
    rw [ba_eq (s.extract _ _), ext_list]
    congr 2
    rw [List.take_drop]
  · rfl

set_option maxHeartbeats 800000 in
set_option maxRecDepth 100000 in
theorem sget_any (s : ByteArray) (p : Int) (w : World) (hl : s.size ≤ maxLen) (h1 : p < 9223372036854775808) (h2 : -9223372036854775808 ≤ p) :
    Calls Tryd.prog 92 #[.string s, .int .i64 p] w fun e w' => e = .returned (.tuple #[.string (getR s.data.toList p).1, .int .i64 ((getR s.data.toList p).2 : Int)]) ∧ ∃ n, w' = w.drewN n := by
  have hlen : s.data.toList.length = s.size := rfl
  have hl' := hl
  unfold maxLen at hl'
  by_cases h0 : p < 0
  · rw [getR_range (.inl h0)]
    have d0 : decide (p < 0) = true := decide_eq_true h0
    clear h0 hlen hl
    go_enter Tryd.func92, Tryd.ntmps92
    go_wp2
    go_ret2
    exact ⟨rfl, 0, rfl⟩
  obtain ⟨a, rfl⟩ := Int.eq_ofNat_of_zero_le (by omega : 0 ≤ p)
  have d0 : decide ((a : Int) < 0) = false := decide_eq_false h0
  by_cases h3 : a < s.size
  · have d1 : decide ((s.size : Int) ≤ (a : Int)) = false := decide_eq_false (by omega)
    have d1' : decide (s.size ≤ a) = false := decide_eq_false (by omega)
    have HC := Lib.hid (fun W => scut0_any (s.extract a s.size) W (by rw [ByteArray.size_extract]; omega))
    rw [getR_in s a h3]
    rw [cut_list] at HC
    have hsz : (s.extract a s.size).size = s.size - a := by rw [ByteArray.size_extract]; omega
    rw [hsz] at HC
    have HEX : Hid (z0 (s.data.toList.drop a) < s.size - a → (s.extract a s.size).extract 0 (z0 (s.data.toList.drop a)) = s.extract a (a + z0 (s.data.toList.drop a))) := by
      intro hz
      rw [ba_eq (ByteArray.extract _ _ _), ba_eq (s.extract a (a + _)), ext_list, cut_list, ext_list, List.drop_zero, List.take_drop]
    generalize z0 (s.data.toList.drop a) = z at *
    have c0 : (0 : Int) ≤ a := by omega
    have c1 : (a : Int) ≤ s.size := by omega
    by_cases hz : z < s.size - a
    · have hex := HEX.out hz
      rw [if_pos hz, hex, decide_eq_true hz] at HC
      rw [if_pos hz]
      clear HEX hex hz hsz h3 h0 hlen hl h1 h2
      go_enter Tryd.func92, Tryd.ntmps92
      go_wp2_with fail
      refine (HC.out _).mono ?_
      rintro e w1 ⟨⟨r, rfl⟩, n, rfl⟩
      go_wp2
      go_ret2
      exact ⟨rfl, n, rfl⟩
    · rw [if_neg hz, decide_eq_false hz] at HC
      rw [if_neg hz]
      clear HEX hz hsz h3 h0 hlen hl h1 h2
      go_enter Tryd.func92, Tryd.ntmps92
      go_wp2_with fail
      refine (HC.out _).mono ?_
      rintro e w1 ⟨⟨r, rfl⟩, n, rfl⟩
      go_wp2
      go_ret2
      exact ⟨rfl, n, rfl⟩
  · have d1 : decide ((s.size : Int) ≤ (a : Int)) = true := decide_eq_true (by omega)
    have d1' : decide (s.size ≤ a) = true := decide_eq_true (by omega)
    rw [getR_range (.inr (by rw [hlen]; omega))]
    clear h0 hlen hl h3
    go_enter Tryd.func92, Tryd.ntmps92
    go_wp2
    go_ret2
    exact ⟨rfl, 0, rfl⟩

set_option maxHeartbeats 800000 in
set_option maxRecDepth 100000 in
theorem rmay_any (s : ByteArray) (w : World) (hl : s.size ≤ maxLen) : Calls Tryd.prog 76 #[.string s] w fun e w' => e = .returned (.bool (mayB s)) ∧ w = w' := by
  have hlen : s.data.toList.length = s.size := rfl
  unfold maxLen at hl
  have HF : Hid (∀ k, k < s.size → s.data.toList.getD k 0 = 0 → mayB s = false) := by
    intro k hk h0
    cases e : mayB s with
    | false => rfl
    | true =>
      refine absurd ?_ (mayB_iff.1 e).2.2
      rw [← h0, List.getD_eq_getElem?_getD, List.getElem?_eq_getElem (by omega)]
      exact List.getElem_mem _
  have HN : Hid ((∀ j, j < s.size → s.data.toList.getD j 0 ≠ 0) → mayB s = (decide (1 ≤ s.size) && decide (s.size ≤ 31))) := by
    intro hj
    have hm : (0 : UInt8) ∉ s.data.toList := by
      rw [z0_mem, z0_none _ (fun j h => hj j (by omega))]; omega
    unfold mayB
    by_cases a1 : 1 ≤ s.size <;> by_cases a2 : s.size ≤ 31 <;> simp [a1, a2, hm]
  generalize mayB s = R at *
  go_enter Tryd.func76, Tryd.ntmps76
  go_wp2
  go_loop [3] (fun i => ∃ k : Nat, k ≤ s.size ∧ i = .int .i64 k ∧ Hid (∀ j, j < k → s.data.toList.getD j 0 ≠ 0)) (fun i => s.size - (intOf i).toNat)
  case atStart => exact ⟨0, Nat.zero_le _, rfl, fun j h1 => absurd h1 (by omega)⟩
  case round =>
    obtain ⟨k, hk2, rfl, HK⟩ := hrel
    by_cases hlt : k < s.size
    · have hki : (k : Int) < s.size := by omega
      have hk0 : (0 : Int) ≤ k := by omega
      have hgb : s.data.toList.getD k 0 = s[k] := by rw [List.getD_eq_getElem?_getD, List.getElem?_eq_getElem (by omega)]; rfl
      have HGB := Lib.hid hgb
      clear hgb
      by_cases hz : s[k] = 0
      · have HE := Lib.hid (HF.out k hlt (by rw [HGB.out]; exact hz))
        have d2 : ((s[k].toNat : Int) == 0) = true := by rw [hz]; rfl
        clear hz HF HN
        go_wp2
        go_ret
        exact ⟨by (rw [HE.out]; try rfl), rfl⟩
      · have d2 : ((s[k].toNat : Int) == 0) = false := by
          have : s[k].toNat ≠ 0 := fun e => hz (UInt8.toNat_inj.1 e)
          simp; omega
        go_wp2
        go_round
        case rel => exact ⟨k + 1, by omega, by go_num, fun j h2 => by
          by_cases e : j = k
          · subst e; rw [HGB.out]; exact hz
          · exact HK.out j (by omega)⟩
        case measure => simp [intOf]; omega
    · obtain rfl : k = s.size := by omega
      have hfin := HN.out HK.out
      clear HF HN
      by_cases a1 : 1 ≤ s.size
      · have d1 : decide ((1 : Int) ≤ s.size) = true := decide_eq_true (by omega)
        have e1 : decide (1 ≤ s.size) = true := decide_eq_true a1
        by_cases a2 : s.size ≤ 31
        · have d2 : decide ((s.size : Int) ≤ 31) = true := decide_eq_true (by omega)
          rw [e1, decide_eq_true a2] at hfin
          have HE := Lib.hid hfin
          clear a1 a2 e1 hfin
          go_wp2
          go_ret
          exact ⟨by rw [HE.out]; rfl, rfl⟩
        · have d2 : decide ((s.size : Int) ≤ 31) = false := decide_eq_false (by omega)
          rw [e1, decide_eq_false a2] at hfin
          have HE := Lib.hid hfin
          clear a1 a2 e1 hfin
          go_wp2
          go_ret
          exact ⟨by rw [HE.out]; rfl, rfl⟩
      · have d1 : decide ((1 : Int) ≤ s.size) = false := decide_eq_false (by omega)
        rw [decide_eq_false a1] at hfin
        have HE := Lib.hid hfin
        clear a1 hfin
        go_wp2
        go_ret
        exact ⟨by rw [HE.out]; rfl, rfl⟩
end Go.Proofs.YtfcclppgjfkfoaaDoor
