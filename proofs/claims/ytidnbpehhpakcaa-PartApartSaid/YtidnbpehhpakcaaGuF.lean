/- The document's guard in memory, and what its locked, Locked, bars, Erase, Program and Write do. Conditions: a slice that reads as numbers; fewer than 2^61 operations and bytes; at most 200 bytes; numbers of 64 bits. -/
import Derived.Test.YtidnbpehhpakcaaGuE
import Derived.Test.YtidnbpehhpakcaaNorS
namespace Go.Proofs.Ytidnbpehhpakcaa
open Go.RowKit

theorem inK_yes (L : List Int) {k : Nat} (hk : k < L.length) {x : Int} (hx : L.getD k 0 = x) (hs : isS x = true) : inK (lkL L) x = true := by
  rw [inK_lkL, hs, Bool.true_and]
  subst hx
  rw [List.getD, List.getElem?_eq_getElem hk]
  simp
theorem inK_no (L : List Int) (x : Int) (h : ∀ j, j < L.length → ¬ (L.getD j 0 = x ∧ isS x = true)) : inK (lkL L) x = false := by
  rw [inK_lkL]
  cases hs : isS x with
  | false => rfl
  | true =>
    rw [Bool.true_and]
    cases hc : L.contains x with
    | false => rfl
    | true =>
      exfalso
      have hm : x ∈ L := by simpa using hc
      obtain ⟨j, hj, he⟩ := List.getElem_of_mem hm
      exact h j hj ⟨by rw [List.getD, List.getElem?_eq_getElem hj]; exact he, hs⟩
/-- Block g is the document's guard of the flash in block gx, with these sectors. -/
def RG (w : World) (g gx : Nat) (A : Option Addr) (cap : Nat) (L : List Int) : Prop := Arr w g 53 #[.pointer (some ⟨gx, 0, none⟩), .slice A L.length cap] ∧ RdI w.heap.size w A L
theorem RG.below {w w' : World} {g gx : Nat} {A : Option Addr} {cap : Nat} {L : List Int} (h : RG w g gx A cap L) (hb : Below w.heap.size w w') : RG w' g gx A cap L := ⟨h.1.below hb h.1.lt, (h.2.below hb).mono hb.size⟩
theorem RG.alloc {w : World} {g gx : Nat} {A : Option Addr} {cap : Nat} {L : List Int} (h : RG w g gx A cap L) (o : Obj) : RG (w.alloc o) g gx A cap L := h.below ((Below.refl _ _).alloc (Nat.le_refl _) o)

set_option maxHeartbeats 1600000 in
set_option maxRecDepth 100000 in
theorem reflocked_any (g gx : Nat) (A : Option Addr) (cap : Nat) (L : List Int) (x : Int) (w : World) (h : RG w g gx A cap L) (hl : L.length ≤ maxLen) :
    Calls Try.prog 51 #[.pointer (some ⟨g, 0, none⟩), .int .i64 x] w fun e w' => e = .returned (.bool (inK (lkL L) x)) ∧ w = w' := by
  have hl2 : L.length ≤ 9223372036854775807 := by unfold maxLen at hl; omega
  have cL : w.cell? ⟨g, 1, none⟩ = some (.slice A L.length cap) := h.1.cell 1
  have HR := Lib.hid h.2
  clear h hl
  go_enter Try.func51, Try.ntmps51
  go_wp2
  go_loopw [5] (fun i wr => ∃ k : Nat, k ≤ L.length ∧ i = .int .i64 k ∧ (∀ j, j < k → ¬ (L.getD j 0 = x ∧ isS x = true)) ∧ w = wr) (fun i _ => L.length - (intOf i).toNat)
  case atStart => exact ⟨0, Nat.zero_le _, rfl, fun _ h => absurd h (Nat.not_lt_zero _), rfl⟩
  case round =>
    obtain ⟨k, hk, rfl, hall, rfl⟩ := hrel
    have HALL := Lib.hid hall
    clear hall
    by_cases hlt : k < L.length
    · have hki : (k : Int) < L.length := by omega
      obtain ⟨b, off, y, rfl, hbl, hc, HX⟩ := HR.out.at_ hlt
      have HST : Hid (¬ (y = x ∧ isS x = true) → ∀ j, j < k + 1 → ¬ (L.getD j 0 = x ∧ isS x = true)) := by
        intro hn j hj
        by_cases e : j = k
        · subst e; rw [HX.out]; exact hn
        · exact HALL.out j (by omega)
      by_cases hyx : y = x
      · have hd0 : (y == x) = true := by simpa using hyx
        by_cases h0 : 0 ≤ x
        · have hd1 : decide (0 ≤ x) = true := decide_eq_true h0
          by_cases h48 : x < 48
          · have hd2 : decide (x < 48) = true := decide_eq_true h48
            have HN : Hid (inK (lkL L) x = true) := inK_yes L hlt (HX.out.trans hyx) (by unfold isS; rw [hd1, hd2]; rfl)
            clear hyx h0 h48
            go_wp2
            go_ret
            exact ⟨by rw [HN.out]; rfl, rfl⟩
          · have hd2 : decide (x < 48) = false := decide_eq_false h48
            have HN := Lib.hid (HST.out (fun ⟨_, h⟩ => by unfold isS at h; rw [hd1, hd2] at h; cases h))
            clear hyx h0 h48
            go_wp2
            go_roundw
            case rel => exact ⟨k + 1, by omega, by go_num, HN.out, trivial⟩
            case measure => simp [intOf]; omega
        · have hd1 : decide (0 ≤ x) = false := decide_eq_false h0
          have HN := Lib.hid (HST.out (fun ⟨_, h⟩ => by unfold isS at h; rw [hd1] at h; cases h))
          clear hyx h0
          go_wp2
          go_roundw
          case rel => exact ⟨k + 1, by omega, by go_num, HN.out, trivial⟩
          case measure => simp [intOf]; omega
      · have hd0 : (y == x) = false := by simpa using hyx
        have HN := Lib.hid (HST.out (fun ⟨h, _⟩ => hyx h))
        clear hyx
        go_wp2
        go_roundw
        case rel => exact ⟨k + 1, by omega, by go_num, HN.out, trivial⟩
        case measure => simp [intOf]; omega
    · obtain rfl : k = L.length := by omega
      have HN : Hid (inK (lkL L) x = false) := inK_no L x HALL.out
      go_wp2
      go_ret
      exact ⟨by rw [HN.out]; rfl, rfl⟩

set_option maxHeartbeats 1600000 in
set_option maxRecDepth 100000 in
theorem bars_any (g gx : Nat) (A : Option Addr) (cap : Nat) (L : List Int) (a : Int) (n : Nat) (w : World) (h : RG w g gx A cap L) (hl : L.length ≤ maxLen) :
    Calls Try.prog 48 #[.pointer (some ⟨g, 0, none⟩), .int .i64 a, .int .i64 (n : Int)] w fun e w' => e = .returned (.bool (tch (lkL L) a n)) ∧ w = w' := by
  have HL := Lib.hid (fun x => reflocked_any g gx A cap L x w h hl)
  clear h hl
  go_enter Try.func48, Try.ntmps48
  go_wp2
  go_loopw [7] (fun i wr => ∃ k : Nat, k ≤ 24576 ∧ i = .int .i64 k ∧ (∀ j : Nat, j < k → 0 ≤ a → a ≤ j → (j : Int) - a < n → (lkL L).getD (j / 512) false = false) ∧ w = wr) (fun i _ => 24576 - (intOf i).toNat)
  case atStart => exact ⟨0, Nat.zero_le _, rfl, fun _ h => absurd h (Nat.not_lt_zero _), rfl⟩
  case round =>
    obtain ⟨k, hk, rfl, hall, rfl⟩ := hrel
    have HALL := Lib.hid hall
    clear hall
    by_cases hlt : k < 24576
    · have hki : (k : Int) < 24576 := by omega
      have HST : Hid ((0 ≤ a → a ≤ k → (k : Int) - a < n → (lkL L).getD (k / 512) false = false) → ∀ j : Nat, j < k + 1 → 0 ≤ a → a ≤ j → (j : Int) - a < n → (lkL L).getD (j / 512) false = false) := by
        intro hn j hj
        by_cases e : j = k
        · subst e; exact hn
        · exact HALL.out j (by omega)
      by_cases h0 : 0 ≤ a
      · have hd0 : decide (0 ≤ a) = true := decide_eq_true h0
        by_cases h1 : a ≤ k
        · have hd1 : decide (a ≤ (k : Int)) = true := decide_eq_true h1
          by_cases h2 : (k : Int) - a < n
          · have hd2 : decide ((k : Int) - a < n) = true := decide_eq_true h2
            obtain ⟨q, hq⟩ : ∃ q : Nat, k / 512 = q := ⟨_, rfl⟩
            have hq2 : (k : Int) / 512 = (q : Int) := by omega
            have hq48 : q < 48 := by omega
            have HI := Lib.hid (inK_nat (lkL L) hq48)
            have HQ := Lib.hid hq
            clear hq
            go_wp2_with fail
            refine (HL.out _).mono ?_
            rintro e w1 ⟨rfl, rfl⟩
            rw [HI.out]
            cases hv : (lkL L).getD q false with
            | true =>
              have HN : Hid (tch (lkL L) a n = true) := tch_yes (j := k) h0 hlt h1 h2 (by rw [HQ.out]; exact hv)
              clear hv h0 h1 h2
              go_wp2
              go_ret
              exact ⟨by rw [HN.out]; rfl, rfl⟩
            | false =>
              have HN := Lib.hid (HST.out (fun _ _ _ => by rw [HQ.out]; exact hv))
              clear hv h0 h1 h2
              go_wp2
              go_roundw
              case rel => exact ⟨k + 1, by omega, by go_num, HN.out, trivial⟩
              case measure => simp [intOf]; omega
          · have hd2 : decide ((k : Int) - a < n) = false := decide_eq_false h2
            have HN := Lib.hid (HST.out (fun _ _ h => absurd h h2))
            go_wp2
            go_roundw
            case rel => exact ⟨k + 1, by omega, by go_num, HN.out, trivial⟩
            case measure => simp [intOf]; omega
        · have hd1 : decide (a ≤ (k : Int)) = false := decide_eq_false h1
          have HN := Lib.hid (HST.out (fun _ h _ => absurd h h1))
          clear h0 h1
          go_wp2
          go_roundw
          case rel => exact ⟨k + 1, by omega, by go_num, HN.out, trivial⟩
          case measure => simp [intOf]; omega
      · have hd0 : decide (0 ≤ a) = false := decide_eq_false h0
        have HN := Lib.hid (HST.out (fun h _ _ => absurd h h0))
        clear h0
        go_wp2
        go_roundw
        case rel => exact ⟨k + 1, by omega, by go_num, HN.out, trivial⟩
        case measure => simp [intOf]; omega
    · obtain rfl : k = 24576 := by omega
      have HN : Hid (tch (lkL L) a n = false) := tch_no fun j h0 h1 h2 h3 => HALL.out j h1 h0 h2 h3
      go_wp2
      go_ret
      exact ⟨by rw [HN.out]; rfl, rfl⟩

set_option maxRecDepth 100000 in
theorem rgerase_any (g gx : Nat) (A : Option Addr) (cap : Nat) (L : List Int) (c : St) (x : Int) (w : World) (h : RG w g gx A cap L) (hl : L.length ≤ maxLen) (hx : RR w gx c) (ho : c.ops < 4611686018427387904) :
    Calls Try.prog 40 #[.pointer (some ⟨g, 0, none⟩), .int .i64 x] w fun e w' => e = .returned (.int .i64 ((geS (lkL L) c x).2 : Int)) ∧ RR w' gx (geS (lkL L) c x).1 ∧ w.grownBy w' (some gx) := by
  have HL := Lib.hid (reflocked_any g gx A cap L x w h hl)
  have HC := Lib.hid (referase_any gx c x w hx ho)
  have c0 : w.cell? ⟨g, 0, none⟩ = some (.pointer (some ⟨gx, 0, none⟩)) := h.1.cell 0
  cases hv : inK (lkL L) x with
  | true =>
    rw [hv] at HL
    have HR : Hid (geS (lkL L) c x = (c, 3)) := by unfold Hid geS; rw [if_pos hv]
    have HX := Lib.hid hx
    rw [HR.out]
    clear hv hx h HC
    go_enter Try.func40, Try.ntmps40
    go_wp2_with fail
    refine HL.out.mono ?_
    rintro e w1 ⟨rfl, rfl⟩
    go_wp2
    go_ret
    exact ⟨rfl, HX.out, grown_refl _ _⟩
  | false =>
    rw [hv] at HL
    have HR : Hid (geS (lkL L) c x = erS c x) := by unfold Hid geS; rw [if_neg (by rw [hv]; decide)]
    rw [HR.out]
    generalize erS c x = d at HC
    clear hv hx h HR
    go_enter Try.func40, Try.ntmps40
    go_wp2_with fail
    refine HL.out.mono ?_
    rintro e w1 ⟨rfl, rfl⟩
    go_wp2_with fail
    refine HC.out.mono ?_
    rintro e w2 ⟨rfl, hr, hg⟩
    have H1 := Lib.hid hr
    have HG := Lib.hid hg
    clear hr hg
    go_wp2
    go_ret
    exact ⟨rfl, H1.out, HG.out⟩

set_option maxRecDepth 100000 in
theorem rgwrite_any (g gx : Nat) (A : Option Addr) (cap : Nat) (L : List Int) (c : St) (a : Int) (s : ByteArray) (w : World) (h : RG w g gx A cap L) (hl : L.length ≤ maxLen) (hx : RR w gx c) (ho : c.ops + s.size < 4611686018427387904) (ha : -9223372036854775808 ≤ a) (hss : s.size ≤ 200) :
    Calls Try.prog 38 #[.pointer (some ⟨g, 0, none⟩), .int .i64 a, .string s] w fun e w' => e = .returned (.int .i64 ((gwS (lkL L) c a s).2 : Int)) ∧ RR w' gx (gwS (lkL L) c a s).1 ∧ w.grownBy w' (some gx) := by
  have HL := Lib.hid (bars_any g gx A cap L a s.size w h hl)
  have HC := Lib.hid (refwrite_any gx c a s w hx ho ha hss)
  have c0 : w.cell? ⟨g, 0, none⟩ = some (.pointer (some ⟨gx, 0, none⟩)) := h.1.cell 0
  cases hv : tch (lkL L) a s.size with
  | true =>
    rw [hv] at HL
    have HR : Hid (gwS (lkL L) c a s = (c, 3)) := by unfold Hid gwS; rw [if_pos hv]
    have HX := Lib.hid hx
    rw [HR.out]
    clear hv hx h HC
    go_enter Try.func38, Try.ntmps38
    go_wp2_with fail
    refine HL.out.mono ?_
    rintro e w1 ⟨rfl, rfl⟩
    go_wp2
    go_ret
    exact ⟨rfl, HX.out, grown_refl _ _⟩
  | false =>
    rw [hv] at HL
    have HR : Hid (gwS (lkL L) c a s = wrS c a s) := by unfold Hid gwS; rw [if_neg (by rw [hv]; decide)]
    rw [HR.out]
    generalize wrS c a s = d at HC
    clear hv hx h HR
    go_enter Try.func38, Try.ntmps38
    go_wp2_with fail
    refine HL.out.mono ?_
    rintro e w1 ⟨rfl, rfl⟩
    go_wp2_with fail
    refine HC.out.mono ?_
    rintro e w2 ⟨rfl, hr, hg⟩
    have H1 := Lib.hid hr
    have HG := Lib.hid hg
    clear hr hg
    go_wp2
    go_ret
    exact ⟨rfl, H1.out, HG.out⟩
end Go.Proofs.Ytidnbpehhpakcaa
