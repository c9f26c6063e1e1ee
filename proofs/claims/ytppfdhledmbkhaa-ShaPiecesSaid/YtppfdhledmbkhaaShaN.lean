/- What sha.Equal, the document's own Few and Hex return, and that awake() of layer 3's statements returns true. Conditions: Equal: at most 2^40 bytes; Hex: at most 2^40. -/
import Derived.Test.YtppfdhledmbkhaaShaM
namespace Go.Proofs.Ytppfdhledmbkhaa
open Go.RowKit

/-- Whether two lists of bytes are the same, byte by byte, up to k. -/
def dif (a b : List UInt8) : Nat → UInt8
  | 0 => 0
  | k + 1 => dif a b k ||| (a.getD k 0 ^^^ b.getD k 0)
theorem dif_zero (a b : List UInt8) : ∀ k, dif a b k = 0 ↔ ∀ j, j < k → a.getD j 0 = b.getD j 0
  | 0 => ⟨fun _ j h => absurd h (by omega), fun _ => rfl⟩
  | k + 1 => by
    rw [dif, UInt8.or_eq_zero_iff, UInt8.xor_eq_zero_iff, dif_zero a b k]
    constructor
    · rintro ⟨h1, h2⟩ j hj
      by_cases e : j = k
      · subst e; exact h2
      · exact h1 j (by omega)
    · intro h
      exact ⟨fun j hj => h j (by omega), h k (by omega)⟩
theorem dif_all (a b : ByteArray) (h : a.size = b.size) : (dif a.data.toList b.data.toList a.size = 0) ↔ a = b := by
  rw [dif_zero]
  constructor
  · intro hj
    apply ByteArray.ext
    apply Array.ext'
    apply List.ext_getElem?
    intro i
    have ha : a.data.toList.length = a.size := rfl
    have hb : b.data.toList.length = b.size := rfl
    by_cases hi : i < a.size
    · have := hj i hi
      rw [List.getD_eq_getElem?_getD, List.getD_eq_getElem?_getD, List.getElem?_eq_getElem (by omega), List.getElem?_eq_getElem (by omega)] at this
      rw [List.getElem?_eq_getElem (by omega), List.getElem?_eq_getElem (by omega)]
      simpa using this
    · rw [List.getElem?_eq_none (by omega), List.getElem?_eq_none (by omega)]
  · rintro rfl j _; rfl

set_option maxHeartbeats 800000 in
theorem equal_any (a b : ByteArray) (w : World) (ha : a.size ≤ 1099511627776) :
    Calls Try.prog 7 #[.string a, .string b] w fun e w' => e = .returned (.bool (decide (a = b))) ∧ Below w.heap.size w w' := by
  by_cases hl : a.size = b.size
  · have HD := Lib.hid (dif_all a b hl)
    have h1 : ((a.size : Int) == b.size) = true := by simp; omega
    have h2 : ((a.size : Int) != b.size) = false := by simp; omega
    have hle : a.size ≤ b.size := by omega
    have hge : b.size ≤ a.size := by omega
    have HL := Lib.hid hl
    clear hl
    go_enter Try.func7, Try.ntmps7
    go_wp2
    go_loopw [5, 14] (fun d i wr => ∃ k : Nat, k ≤ a.size ∧ i = .int .i64 k ∧ d = .int .u8 ((dif a.data.toList b.data.toList k).toNat : Int) ∧ Below w.heap.size w wr) (fun _ i _ => a.size - (intOf i).toNat)
    case atStart => exact ⟨0, Nat.zero_le _, rfl, rfl, Below.refl _ _⟩
    case round =>
      obtain ⟨k, hk, rfl, rfl, hbw⟩ := hrel
      by_cases hlt : k < a.size
      · have hlb : k < b.size := by omega
        have e1 : a.data.toList.getD k 0 = a[k] := by rw [List.getD_eq_getElem?_getD, List.getElem?_eq_getElem (by simpa using hlt)]; rfl
        have e2 : b.data.toList.getD k 0 = b[k] := by rw [List.getD_eq_getElem?_getD, List.getElem?_eq_getElem (by simpa using hlb)]; rfl
        have HN : Hid (dif a.data.toList b.data.toList (k + 1) = dif a.data.toList b.data.toList k ||| (a[k] ^^^ b[k])) := by unfold Hid; rw [dif, e1, e2]
        generalize dif a.data.toList b.data.toList k = d at *
        have hx : bits .xor .u8 (a[k].toNat : Int) (b[k].toNat : Int) = ((a[k] ^^^ b[k]).toNat : Int) := by
          rw [u8_xor_nat _ _ (by have := a[k].toNat_lt; omega) (by have := b[k].toNat_lt; omega), UInt8.toNat_xor]
        have ho : bits .or .u8 (d.toNat : Int) ((a[k] ^^^ b[k]).toNat : Int) = ((d ||| (a[k] ^^^ b[k])).toNat : Int) := by
          rw [u8_or_nat _ _ (by have := d.toNat_lt; omega) (by have := (a[k] ^^^ b[k]).toNat_lt; omega), UInt8.toNat_or]
        have HO := Lib.hid ho
        clear ho
        have hk0 : (0 : Int) ≤ k := by omega
        have hka : (k : Int) < a.size := by omega
        have hkb : (k : Int) < b.size := by omega
        clear e1 e2
        go_wp2
        go_quiet (fail)
        have hb2 := hbw.trans ((below_drewN wr nq).mono hbw.size)
        go_wp2
        go_roundw
        case rel => exact ⟨k + 1, by omega, by go_num, by rw [HN.out, ← UInt8.toNat_xor, HO.out], hb2⟩
        case measure => simp [intOf]; omega
      · obtain rfl : k = a.size := by omega
        have hz : (((dif a.data.toList b.data.toList a.size).toNat : Int) == 0) = decide (a = b) := by
          by_cases e : a = b
          · rw [(HD.out).2 e]; simp [e]
          · have : dif a.data.toList b.data.toList a.size ≠ 0 := fun h => e ((HD.out).1 h)
            have h3 : (dif a.data.toList b.data.toList a.size).toNat ≠ 0 := fun h => this (UInt8.toNat_inj.1 h)
            simp [e]
            omega
        generalize (dif a.data.toList b.data.toList a.size).toNat = d at *
        go_wp2
        go_ret
        exact ⟨rfl, hbw⟩
  · have hne : decide (a = b) = false := decide_eq_false (fun e => hl (by rw [e]))
    have h1 : ((a.size : Int) == b.size) = false := by simp; omega
    have h2 : ((a.size : Int) != b.size) = true := by simp; omega
    rw [hne]
    go_enter Try.func7, Try.ntmps7
    go_wp2
    go_ret
    exact ⟨rfl, Below.refl _ _⟩

/-- Are there few texts, of few bytes? -/
def fewB (Ls : List ByteArray) : Bool := decide (Ls.length ≤ 20 ∧ ∀ k, k < Ls.length → (Ls.getD k ByteArray.empty).size ≤ 512)

set_option maxHeartbeats 800000 in
/-- Few: no text has more than 512 bytes among the first 20, and there are at most 20. -/
theorem few_any (A : Option Addr) (cap : Nat) (Ls : List ByteArray) (w : World) (hl : Ls.length ≤ maxLen) (hr : RdS w A Ls) (hs : ∀ k, k < Ls.length → (Ls.getD k ByteArray.empty).size ≤ maxLen) :
    Calls Try.prog 9 #[.slice A Ls.length cap] w fun e w' => e = .returned (.bool (fewB Ls)) ∧ w = w' := by
  unfold maxLen at hl hs
  have HR := Lib.hid hr
  have HS := Lib.hid hs
  clear hr hs
  go_enter Try.func9, Try.ntmps9
  go_wp2
  go_loop [3] (fun i => ∃ k : Nat, k ≤ Ls.length ∧ k ≤ 20 ∧ i = .int .i64 k ∧ Hid (∀ j, j < k → (Ls.getD j ByteArray.empty).size ≤ 512)) (fun i => Ls.length - (intOf i).toNat)
  case atStart => exact ⟨0, Nat.zero_le _, by omega, rfl, fun j h => absurd h (by omega)⟩
  case round =>
    obtain ⟨k, hk, hk20, rfl, HK⟩ := hrel
    by_cases hlt : k < Ls.length
    · by_cases h20 : k < 20
      · obtain ⟨b, off, x, rfl, hc, HX⟩ := HR.out.at_ hlt
        have hsz := HS.out k hlt
        rw [HX.out] at hsz
        by_cases h512 : x.size ≤ 512
        · have hd : decide ((512 : Int) < x.size) = false := decide_eq_false (by omega)
          have hd1 : decide ((k : Int) < Ls.length) = true := decide_eq_true (by omega)
          have hd2 : decide ((k : Int) < 20) = true := decide_eq_true (by omega)
          go_wp2
          go_round
          case rel => exact ⟨k + 1, by omega, by omega, by go_num, fun j hj => by
            by_cases e : j = k
            · subst e; rw [HX.out]; exact h512
            · exact HK.out j (by omega)⟩
          case measure => simp [intOf]; omega
        · have hd : decide ((512 : Int) < x.size) = true := decide_eq_true (by omega)
          have hd1 : decide ((k : Int) < Ls.length) = true := decide_eq_true (by omega)
          have hd2 : decide ((k : Int) < 20) = true := decide_eq_true (by omega)
          have hfin : fewB Ls = false := decide_eq_false (fun h => h512 (by have := h.2 k hlt; rwa [HX.out] at this))
          have HF := Lib.hid hfin
          clear hfin
          go_wp2
          go_ret
          exact ⟨by rw [HF.out]; rfl, rfl⟩
      · have hd1 : decide ((k : Int) < Ls.length) = true := decide_eq_true (by omega)
        have hd2 : decide ((k : Int) < 20) = false := decide_eq_false (by omega)
        have hd3 : decide ((Ls.length : Int) ≤ 20) = false := decide_eq_false (by omega)
        have hfin : fewB Ls = false := decide_eq_false (fun h => by omega)
        have HF := Lib.hid hfin
        clear hfin
        go_wp2
        go_ret
        exact ⟨by rw [HF.out]; rfl, rfl⟩
    · obtain rfl : k = Ls.length := by omega
      have hd1 : decide ((Ls.length : Int) < Ls.length) = false := decide_eq_false (by omega)
      have hd3 : decide ((Ls.length : Int) ≤ 20) = true := decide_eq_true (by omega)
      have hfin : fewB Ls = true := decide_eq_true ⟨hk20, HK.out⟩
      have HF := Lib.hid hfin
      clear hfin
      go_wp2
      go_ret
      exact ⟨by rw [HF.out]; rfl, rfl⟩
end Go.Proofs.Ytppfdhledmbkhaa
