/- What num.FromHex and the document's own digit and FromHex return, for every string of at most 2^40 bytes. -/
import Derived.Test.YtjohbbaoaffgnaaDoorNumD
namespace Go.Proofs.YtjohbbaoaffgnaaDoor
open Go.RowKit

/-- A digit's number; -1: it is none. -/
def undig (c : UInt8) : Int := Lib.indexByte digs c
theorem all_bytes {P : UInt8 → Prop} (h : ∀ n, n < 256 → P (UInt8.ofNat n)) (c : UInt8) : P c := by
  have := h c.toNat c.toNat_lt
  rwa [UInt8.ofNat_toNat] at this
theorem undig_bd (c : UInt8) : -1 ≤ undig c ∧ undig c ≤ 15 := all_bytes (P := fun c => -1 ≤ undig c ∧ undig c ≤ 15) (by decide +kernel) c
theorem dig_undig (c : UInt8) (h : 0 ≤ undig c) : dig (undig c).toNat = c := all_bytes (P := fun c => 0 ≤ undig c → dig (undig c).toNat = c) (by decide +kernel) c h
theorem undig_dig (n : Nat) (h : n < 16) : undig (dig n) = n := by
  have : ∀ n, n < 16 → undig (dig n) = n := by decide +kernel
  exact this n h
theorem undig_none (c : UInt8) (h : ∀ j, j < 16 → dig j ≠ c) : undig c = -1 := by
  have hb := undig_bd c
  by_cases h0 : 0 ≤ undig c
  · exact absurd (dig_undig c h0) (h _ (by omega))
  · omega

theorem idx_any (b : UInt8) (w : World) :
    Calls Tryd.prog 28 #[.string ⟨#[48, 49, 50, 51, 52, 53, 54, 55, 56, 57, 97, 98, 99, 100, 101, 102]⟩, .int .u8 b.toNat] w fun e w' => e = .returned (.int .i64 (undig b)) ∧ w = w' := by
  refine (Tryd.strings_IndexByte _ _ w).mono ?_
  rintro e w' ⟨rfl, rfl⟩
  refine ⟨?_, rfl⟩
  have e1 : ((b.toNat : Int)).toNat.toUInt8 = b := by
    show UInt8.ofNat b.toNat = b
    exact UInt8.ofNat_toNat
  rw [e1]
  rfl

set_option maxHeartbeats 800000 in
theorem digit_any (c : UInt8) (w : World) :
    Calls Tryd.prog 30 #[.int .u8 c.toNat] w fun e w' => e = .returned (.int .i64 (undig c)) ∧ w = w' := by
  go_enter Tryd.func30, Tryd.ntmps30
  go_wp2
  go_loop [3] (fun i => ∃ k : Nat, k ≤ 16 ∧ i = .int .i64 k ∧ Hid (∀ j, j < k → dig j ≠ c)) (fun i => 16 - (intOf i).toNat)
  case atStart => exact ⟨0, Nat.zero_le _, rfl, fun j hj => absurd hj (by omega)⟩
  case round =>
    obtain ⟨k, hk, rfl, HN⟩ := hrel
    by_cases hlt : k < 16
    · have hd := dig_at k hlt
      by_cases hc : dig k = c
      · have HC := Lib.hid hc
        have ht : (((dig k).toNat : Int) == (c.toNat : Int)) = true := by rw [hc]; simp
        clear hc
        have E := Lib.hid (undig_dig k hlt)
        go_wp2
        go_ret
        exact ⟨by rw [← HC.out, E.out]; rfl, rfl⟩
      · have hne : ¬ (dig k).toNat = c.toNat := fun h => hc (UInt8.toNat_inj.1 h)
        have ht : (((dig k).toNat : Int) == (c.toNat : Int)) = false := by simp; omega
        have HC := Lib.hid hc
        clear hc hne
        go_wp2
        go_round
        case rel =>
          refine ⟨k + 1, by omega, by go_num, fun j hj => ?_⟩
          by_cases hjk : j = k
          · subst hjk; exact HC.out
          · exact HN.out j (by omega)
        case measure => simp [intOf]; omega
    · have hkl : k = 16 := by omega
      subst hkl
      have E := undig_none c HN.out
      go_wp2
      go_ret
      exact ⟨rfl, rfl⟩

/-- The number of the digit at place j. -/
def dgt (s : ByteArray) (j : Nat) : Int := undig (s.data.toList.getD j 0)
theorem dgt_at (s : ByteArray) (j : Nat) (h : j < s.size) : undig (s[j]) = dgt s j := by unfold dgt; rw [getD_of s j h]
theorem dgt_bd (s : ByteArray) (j : Nat) : -1 ≤ dgt s j ∧ dgt s j ≤ 15 := undig_bd _
def unhex (s : ByteArray) (k : Nat) : List UInt8 := (List.range k).map fun i => b8 (16 * dgt s (2 * i) + dgt s (2 * i + 1))
theorem unhex_succ (s : ByteArray) (k : Nat) : unhex s (k + 1) = unhex s k ++ [b8 (16 * dgt s (2 * k) + dgt s (2 * k + 1))] := by simp [unhex, List.range_succ]
theorem unhex_length (s : ByteArray) (k : Nat) : (unhex s k).length = k := by simp [unhex]
theorem or4 (x y : Int) (hx : 0 ≤ x) (hx1 : x ≤ 15) (hy : 0 ≤ y) (hy1 : y ≤ 15) : bits .or .i64 (x * 16) y = 16 * x + y := by
  rw [i64_or_join 4 (x * 16) y (by omega) (by omega) (by omega) (by omega) (by omega) (by omega)]; omega

set_option maxHeartbeats 800000 in
set_option maxRecDepth 100000 in
theorem fromhex_yes (s : ByteArray) (m : Nat) (w : World) (hm : s.size = 2 * m) (hl : s.size ≤ 1099511627776) (hv : ∀ j, j < s.size → 0 ≤ dgt s j) :
    Calls Tryd.prog 16 #[.string s] w fun e w' => e = .returned (.tuple #[.string ⟨(unhex s m).toArray⟩, .bool true]) ∧ Below w.heap.size w w' := by
  have hI0 := Lib.fresh_isBuilder 44 5 w
  have hmod : (((s.size : Int) % 2) != 0) = false := by
    have : (s.size : Int) % 2 = 0 := by omega
    simp [this]
  have HM := Lib.hid hm
  have HV := Lib.hid hv
  have hm1 : s.size ≤ 2 * m := by omega
  have hm2 : 2 * m ≤ s.size := by omega
  clear hm hv
  go_enter Tryd.func16, Tryd.ntmps16
  go_wp2
  go_loopw [5] (fun i wr => ∃ k : Nat, k ≤ m ∧ i = .int .i64 ((2 * k : Nat) : Int) ∧ Lib.IsBuilder 44 5 w.heap.size w.heap.size (Lib.byteCells (unhex s k)) wr ∧ Below w.heap.size w wr)
    (fun i _ => s.size - (intOf i).toNat)
  case atStart => exact ⟨0, Nat.zero_le _, rfl, hI0, (Below.refl _ _).alloc (Nat.le_refl _) _⟩
  case round =>
    obtain ⟨k, hk, rfl, hI, hb⟩ := hrel
    clear hI0
    have hsz := hb.size
    by_cases hlt : k < m
    · have h0 : 2 * k < s.size := by omega
      have h1 : 2 * k + 1 < s.size := by omega
      have v0 := HV.out (2 * k) h0
      have v1 := HV.out (2 * k + 1) h1
      have b0 := (dgt_bd s (2 * k)).2
      have b1 := (dgt_bd s (2 * k + 1)).2
      have HA := Lib.hid (dgt_at s (2 * k) h0)
      have HB := Lib.hid (dgt_at s (2 * k + 1) h1)
      have HS := Lib.hid (unhex_succ s k)
      have HL := Lib.hid (unhex_length s k)
      generalize dgt s (2 * k) = x at v0 b0 HA HS
      generalize dgt s (2 * k + 1) = y at v1 b1 HB HS
      go_wp2_with fail
      refine (idx_any _ _).mono ?_
      rintro e w' ⟨rfl, rfl⟩
      rw [HA.out]
      go_wp2_with fail
      refine (idx_any _ _).mono ?_
      rintro e w' ⟨rfl, rfl⟩
      rw [HB.out]
      have ho := or4 x y v0 b0 v1 b1
      have hby : (16 * x + y) % 256 = 16 * x + y := by omega
      have HO := Lib.hid ho
      have HY := Lib.hid hby
      clear ho hby HA HB
      go_wp2_with fail
      rw [HO.out, HY.out]
      refine (Tryd.Builder_WriteByte w.heap.size w.heap.size _ _ _ hI (by rw [Lib.byteCells_length, HL.out]; omega) (by omega)).mono ?_
      rintro e w1 ⟨rfl, hI1, hb1⟩
      rw [← b8_toNat (16 * x + y) (by omega) (by omega), ← byteCells_one_more, ← HS.out] at hI1
      have hb2 := hb.trans hb1
      clear hb hb1 hI HO HY
      go_wp2
      go_roundw
      case rel => exact ⟨k + 1, by omega, by go_num, .inr hI1, hb2⟩
      case measure => simp [intOf]; omega
    · have hkl : k = m := by omega
      subst hkl
      go_wp2_with fail
      refine (Tryd.Builder_String_any w.heap.size w.heap.size _ _ hI (by omega)).mono ?_
      rintro e w2 ⟨rfl, hb2⟩
      go_wp2
      go_ret2
      exact ⟨rfl, hb.trans hb2⟩

set_option maxHeartbeats 800000 in
set_option maxRecDepth 100000 in
theorem fromhex_no (s : ByteArray) (m bad : Nat) (w : World) (hm : s.size = 2 * m) (hl : s.size ≤ 1099511627776) (hbad : bad < s.size) (hv : dgt s bad < 0) :
    Calls Tryd.prog 16 #[.string s] w fun e w' => e = .returned (.tuple #[.string ⟨#[]⟩, .bool false]) ∧ Below w.heap.size w w' := by
  have hI0 := Lib.fresh_isBuilder 44 5 w
  have hmod : (((s.size : Int) % 2) != 0) = false := by
    have : (s.size : Int) % 2 = 0 := by omega
    simp [this]
  have HM := Lib.hid hm
  have HV := Lib.hid hv
  have hm1 : s.size ≤ 2 * m := by omega
  have hm2 : 2 * m ≤ s.size := by omega
  clear hm hv
  go_enter Tryd.func16, Tryd.ntmps16
  go_wp2
  go_loopw [5] (fun i wr => ∃ k : Nat, k ≤ m ∧ i = .int .i64 ((2 * k : Nat) : Int) ∧ 2 * k ≤ bad ∧ Lib.IsBuilder 44 5 w.heap.size w.heap.size (Lib.byteCells (unhex s k)) wr ∧ Below w.heap.size w wr)
    (fun i _ => s.size - (intOf i).toNat)
  case atStart => exact ⟨0, Nat.zero_le _, rfl, Nat.zero_le _, hI0, (Below.refl _ _).alloc (Nat.le_refl _) _⟩
  case round =>
    obtain ⟨k, hk, rfl, hkb, hI, hb⟩ := hrel
    clear hI0
    have hsz := hb.size
    have hlt : k < m := by omega
    have h0 : 2 * k < s.size := by omega
    have h1 : 2 * k + 1 < s.size := by omega
    have HV0 : Hid (bad = 2 * k → dgt s (2 * k) < 0) := fun h => h ▸ HV.out
    have HV1 : Hid (bad = 2 * k + 1 → dgt s (2 * k + 1) < 0) := fun h => h ▸ HV.out
    have c0 := (dgt_bd s (2 * k)).1
    have c1 := (dgt_bd s (2 * k + 1)).1
    have b0 := (dgt_bd s (2 * k)).2
    have b1 := (dgt_bd s (2 * k + 1)).2
    have HA := Lib.hid (dgt_at s (2 * k) h0)
    have HB := Lib.hid (dgt_at s (2 * k + 1) h1)
    have HS := Lib.hid (unhex_succ s k)
    have HL := Lib.hid (unhex_length s k)
    generalize dgt s (2 * k) = x at b0 c0 HA HS HV0
    generalize dgt s (2 * k + 1) = y at b1 c1 HB HS HV1
    by_cases hx : x < 0
    · go_wp2_with fail
      refine (idx_any _ _).mono ?_
      rintro e w' ⟨rfl, rfl⟩
      rw [HA.out]
      go_wp2_with fail
      refine (idx_any _ _).mono ?_
      rintro e w' ⟨rfl, rfl⟩
      rw [HB.out]
      clear HA HB
      go_wp2
      go_ret2
      exact ⟨rfl, hb⟩
    · have v0 : 0 ≤ x := by omega
      by_cases hy : y < 0
      · go_wp2_with fail
        refine (idx_any _ _).mono ?_
        rintro e w' ⟨rfl, rfl⟩
        rw [HA.out]
        go_wp2_with fail
        refine (idx_any _ _).mono ?_
        rintro e w' ⟨rfl, rfl⟩
        rw [HB.out]
        clear HA HB
        go_wp2
        go_ret2
        exact ⟨rfl, hb⟩
      · have v1 : 0 ≤ y := by omega
        have hkb2 : 2 * (k + 1) ≤ bad := by
          by_cases e0 : bad = 2 * k
          · have := HV0.out e0; omega
          · by_cases e1 : bad = 2 * k + 1
            · have := HV1.out e1; omega
            · omega
        clear HV0 HV1
        go_wp2_with fail
        refine (idx_any _ _).mono ?_
        rintro e w' ⟨rfl, rfl⟩
        rw [HA.out]
        go_wp2_with fail
        refine (idx_any _ _).mono ?_
        rintro e w' ⟨rfl, rfl⟩
        rw [HB.out]
        have ho := or4 x y v0 b0 v1 b1
        have hby : (16 * x + y) % 256 = 16 * x + y := by omega
        have HO := Lib.hid ho
        have HY := Lib.hid hby
        clear ho hby HA HB
        go_wp2_with fail
        rw [HO.out, HY.out]
        refine (Tryd.Builder_WriteByte w.heap.size w.heap.size _ _ _ hI (by rw [Lib.byteCells_length, HL.out]; omega) (by omega)).mono ?_
        rintro e w1 ⟨rfl, hI1, hb1⟩
        rw [← b8_toNat (16 * x + y) (by omega) (by omega), ← byteCells_one_more, ← HS.out] at hI1
        have hb2 := hb.trans hb1
        clear hb hb1 hI HO HY
        go_wp2
        go_roundw
        case rel => exact ⟨k + 1, by omega, by go_num, by omega, .inr hI1, hb2⟩
        case measure => simp [intOf]; omega

set_option maxHeartbeats 400000 in
theorem fromhex_odd (s : ByteArray) (w : World) (hm : s.size % 2 ≠ 0) (hl : s.size ≤ 1099511627776) :
    Calls Tryd.prog 16 #[.string s] w fun e w' => e = .returned (.tuple #[.string ⟨#[]⟩, .bool false]) ∧ Below w.heap.size w w' := by
  have hmod : (((s.size : Int) % 2) != 0) = true := by
    have : ¬ (s.size : Int) % 2 = 0 := by omega
    simp [this]
  clear hm
  go_enter Tryd.func16, Tryd.ntmps16
  go_wp2
  go_ret2
  exact ⟨rfl, Below.refl _ _⟩
end Go.Proofs.YtjohbbaoaffgnaaDoor
