/- What the document's own FromHex returns, for every string of at most 2^40 bytes. -/
import Derived.Test.YtjohbbaoaffgnaaDoorNumE
import Derived.Test.YtjohbbaoaffgnaaDoorKit
import Derived.Lib.BufferRead
namespace Go.Proofs.YtjohbbaoaffgnaaDoor
open Go.RowKit

theorem elem_byte : Hid (ElemIs Tryd.prog 41 5 (.int .u8 0) 1) := elemIs_mk Tryd.underlying41 rfl (by kernel_rfl)
theorem digit_quiet (c : UInt8) (w : World) (n : Nat) :
    Calls Tryd.prog 30 #[.int .u8 c.toNat] (w.drewN n) fun e w' => e = .returned (.int .i64 (undig c)) ∧ ∃ m, w' = w.drewN m :=
  (digit_any c _).mono fun _ _ ⟨he, hw⟩ => ⟨he, n, hw.symm⟩
/-- string(b) of a row of the call's own that holds the bytes l. -/
theorem conv_own {w : World} {base : Nat} {v : Value} {n : Nat} {l : List UInt8} (h : w.ownsRow base 5 1 v n (Lib.byteCells l)) :
    (convert 41 9 v).run Tryd.prog w = .ok (.string ⟨l.toArray⟩) w := by
  obtain ⟨hlen, hv⟩ := h
  have hn : n = l.length := by rw [Lib.byteCells_length] at hlen; omega
  subst hn
  rcases hv with ⟨rfl, h0⟩ | ⟨g, cap, cur, rfl, hg, hc, _, _, _, ht⟩
  · obtain rfl := List.length_eq_zero_iff.1 h0
    exact Lib.run_convert_nil_bytes w _ _ 5 0 Tryd.underlying41 Tryd.underlying5 Tryd.underlying9
  · exact run_convert_bytes_back w _ _ 5 ⟨g, 0, none⟩ cap l Tryd.underlying41 Tryd.underlying5 Tryd.underlying9 (Lib.bytes_of_row hc (by simpa using ht))

set_option maxHeartbeats 800000 in
set_option maxRecDepth 100000 in
theorem reffromhex_yes (s : ByteArray) (m : Nat) (w : World) (hm : s.size = 2 * m) (hl : s.size ≤ 1099511627776) (hv : ∀ j, j < s.size → 0 ≤ dgt s j) :
    Calls Tryd.prog 17 #[.string s] w fun e w' => e = .returned (.tuple #[.string ⟨(unhex s m).toArray⟩, .bool true]) ∧ Below w.heap.size w w' := by
  have hmod : (((s.size : Int) % 2) != 0) = false := by
    have : (s.size : Int) % 2 = 0 := by omega
    simp [this]
  have HM := Lib.hid hm
  have HV := Lib.hid hv
  have hm1 : s.size ≤ 2 * m := by omega
  have hm2 : 2 * m ≤ s.size := by omega
  clear hm hv
  go_enter Tryd.func17, Tryd.ntmps17
  go_wp2
  go_loopw [4, 5] (fun v i wr => ∃ k p : Nat, k ≤ m ∧ Hid (p = 2 * k) ∧ i = .int .i64 p ∧ wr.ownsRow w.heap.size 5 1 v k (Lib.byteCells (unhex s k)) ∧ Below w.heap.size w wr)
    (fun _ i _ => s.size - (intOf i).toNat)
  case atStart => exact ⟨0, 0, Nat.zero_le _, rfl, rfl, World.ownsRow_nil _ _ _ _, Below.refl _ _⟩
  case round =>
    obtain ⟨k, p, hk, HP, rfl, hown, hb⟩ := hrel
    have hsz := hb.size
    by_cases hlt : k < m
    · have h0 : p < s.size := by have := HP.out; omega
      have h1 : p + 1 < s.size := by have := HP.out; omega
      have v0 := HV.out p h0
      have v1 := HV.out (p + 1) h1
      have b0 := (dgt_bd s p).2
      have b1 := (dgt_bd s (p + 1)).2
      have HA := Lib.hid (dgt_at s p h0)
      have HB := Lib.hid (dgt_at s (p + 1) h1)
      have HS := Lib.hid (unhex_succ s k)
      rw [← HP.out] at HS
      generalize dgt s p = x at v0 b0 HA HS
      generalize dgt s (p + 1) = y at v1 b1 HB HS
      have q1 : IntKind.i64.wrap ((p : Int) + 1) = (p : Int) + 1 := IntWalk.i64_in _ (by omega)
      have q2 : (0 : Int) ≤ (p : Int) + 1 := by omega
      have q3 : ((p : Int) + 1).toNat = p + 1 := by omega
      have q4 : (p : Int) + 1 < s.size := by omega
      go_wp2
      go_quiet ((go_at_call 30; exact digit_quiet _ _ _))
      rw [HA.out, HB.out]
      clear q1 HA HB
      have hownq : (wr.drewN nq).ownsRow w.heap.size 5 1 u4 k (Lib.byteCells (unhex s k)) := hown
      have hbq := hb.trans ((below_drewN wr nq).mono hsz)
      generalize wr.drewN nq = wq at hbq hownq ⊢
      have hsq := hbq.size
      clear hown hb
      go_wp2_with (at_builtin; go_must (refine append_one rfl _ _ 41 rfl w.heap.size 5 (.int .u8 0) 1 elem_byte (.int .u8 (16 * x + y)) rfl u4 _ _ rfl hownq rfl (by omega) (by unfold maxLen; omega) hsq ?_))
      intro v' w2 hown' hg2
      have hb3 : Below w.heap.size w w2 := hbq.trans hg2
      rw [← b8_toNat (16 * x + y) (by omega) (by omega), ← byteCells_one_more, ← HS.out] at hown'
      clear hownq hg2 hbq
      go_wp2
      go_roundw
      case rel => exact ⟨k + 1, p + 2, by omega, (by have := HP.out; show p + 2 = 2 * (k + 1); omega), by go_num, hown', hb3⟩
      case measure => simp [intOf]; omega
    · have hkl : k = m := by omega
      subst hkl
      have h1 : s.size ≤ p := by have := HP.out; omega
      have h2 : p ≤ s.size := by have := HP.out; omega
      have hconv := conv_own hown
      go_wp2
      go_ret2
      exact ⟨rfl, hb⟩
set_option maxHeartbeats 800000 in
set_option maxRecDepth 100000 in
theorem reffromhex_no (s : ByteArray) (m bad : Nat) (w : World) (hm : s.size = 2 * m) (hl : s.size ≤ 1099511627776) (hbad : bad < s.size) (hv : dgt s bad < 0) :
    Calls Tryd.prog 17 #[.string s] w fun e w' => e = .returned (.tuple #[.string ⟨#[]⟩, .bool false]) ∧ Below w.heap.size w w' := by
  have hmod : (((s.size : Int) % 2) != 0) = false := by
    have : (s.size : Int) % 2 = 0 := by omega
    simp [this]
  have HM := Lib.hid hm
  have HV := Lib.hid hv
  have hm1 : s.size ≤ 2 * m := by omega
  have hm2 : 2 * m ≤ s.size := by omega
  clear hm hv
  go_enter Tryd.func17, Tryd.ntmps17
  go_wp2
  go_loopw [4, 5] (fun v i wr => ∃ k p : Nat, k ≤ m ∧ Hid (p = 2 * k) ∧ p ≤ bad ∧ i = .int .i64 p ∧ wr.ownsRow w.heap.size 5 1 v k (Lib.byteCells (unhex s k)) ∧ Below w.heap.size w wr)
    (fun _ i _ => s.size - (intOf i).toNat)
  case atStart => exact ⟨0, 0, Nat.zero_le _, rfl, Nat.zero_le _, rfl, World.ownsRow_nil _ _ _ _, Below.refl _ _⟩
  case round =>
    obtain ⟨k, p, hk, HP, hpb, rfl, hown, hb⟩ := hrel
    have hsz := hb.size
    have hlt : k < m := by have := HP.out; omega
    have h0 : p < s.size := by have := HP.out; omega
    have h1 : p + 1 < s.size := by have := HP.out; omega
    have HV0 : Hid (bad = p → dgt s p < 0) := fun h => h ▸ HV.out
    have HV1 : Hid (bad = p + 1 → dgt s (p + 1) < 0) := fun h => h ▸ HV.out
    have d0 := (dgt_bd s p).1
    have d1 := (dgt_bd s (p + 1)).1
    have b0 := (dgt_bd s p).2
    have b1 := (dgt_bd s (p + 1)).2
    have HA := Lib.hid (dgt_at s p h0)
    have HB := Lib.hid (dgt_at s (p + 1) h1)
    have HS := Lib.hid (unhex_succ s k)
    rw [← HP.out] at HS
    generalize dgt s p = x at d0 b0 HA HS HV0
    generalize dgt s (p + 1) = y at d1 b1 HB HS HV1
    have q1 : IntKind.i64.wrap ((p : Int) + 1) = (p : Int) + 1 := IntWalk.i64_in _ (by omega)
    have q2 : (0 : Int) ≤ (p : Int) + 1 := by omega
    have q3 : ((p : Int) + 1).toNat = p + 1 := by omega
    have q4 : (p : Int) + 1 < s.size := by omega
    go_wp2
    go_quiet ((go_at_call 30; exact digit_quiet _ _ _))
    rw [HA.out, HB.out]
    clear q1 HA HB
    have hownq : (wr.drewN nq).ownsRow w.heap.size 5 1 u4 k (Lib.byteCells (unhex s k)) := hown
    have hbq := hb.trans ((below_drewN wr nq).mono hsz)
    generalize wr.drewN nq = wq at hbq hownq ⊢
    have hsq := hbq.size
    clear hown hb
    by_cases hx : x < 0
    · go_wp2
      go_ret2
      exact ⟨rfl, hbq⟩
    · have v0 : 0 ≤ x := by omega
      by_cases hy : y < 0
      · go_wp2
        go_ret2
        exact ⟨rfl, hbq⟩
      · have v1 : 0 ≤ y := by omega
        have hpb2 : p + 2 ≤ bad := by
          by_cases e0 : bad = p
          · have := HV0.out e0; omega
          · by_cases e1 : bad = p + 1
            · have := HV1.out e1; omega
            · omega
        clear HV0 HV1
        go_wp2_with (at_builtin; go_must (refine append_one rfl _ _ 41 rfl w.heap.size 5 (.int .u8 0) 1 elem_byte (.int .u8 (16 * x + y)) rfl u4 _ _ rfl hownq rfl (by omega) (by unfold maxLen; omega) hsq ?_))
        intro v' w2 hown' hg2
        have hb3 : Below w.heap.size w w2 := hbq.trans hg2
        rw [← b8_toNat (16 * x + y) (by omega) (by omega), ← byteCells_one_more, ← HS.out] at hown'
        clear hownq hg2 hbq
        go_wp2
        go_roundw
        case rel => exact ⟨k + 1, p + 2, by omega, (by have := HP.out; show p + 2 = 2 * (k + 1); omega), hpb2, by go_num, hown', hb3⟩
        case measure => simp [intOf]; omega

set_option maxHeartbeats 400000 in
theorem reffromhex_odd (s : ByteArray) (w : World) (hm : s.size % 2 ≠ 0) (hl : s.size ≤ 1099511627776) :
    Calls Tryd.prog 17 #[.string s] w fun e w' => e = .returned (.tuple #[.string ⟨#[]⟩, .bool false]) ∧ Below w.heap.size w w' := by
  have hmod : (((s.size : Int) % 2) != 0) = true := by
    have : ¬ (s.size : Int) % 2 = 0 := by omega
    simp [this]
  clear hm
  go_enter Tryd.func17, Tryd.ntmps17
  go_wp2
  go_ret2
  exact ⟨rfl, Below.refl _ _⟩
end Go.Proofs.YtjohbbaoaffgnaaDoor
