/- Acts: a slice of them in memory, and the document's Few. Conditions: a bound below 2^62. -/
import Derived.Test.YtmfmkhbpaeckoaaNorHB
namespace Go.Proofs.Ytmfmkhbpaeckoaa
open Go.RowKit

/-- An act. -/
structure AC where
  kind : Int
  pl : Int
  n : Int
  s : ByteArray
def ac0 : AC := ⟨0, 0, 0, ⟨#[]⟩⟩
/-- An act lies at a place. -/
def AcAt (w : World) (b o : Nat) (x : AC) : Prop :=
  w.cell? ⟨b, o, none⟩ = some (.int .i64 x.kind) ∧ w.cell? ⟨b, o + 1, none⟩ = some (.int .i64 x.pl) ∧ w.cell? ⟨b, o + 2, none⟩ = some (.int .i64 x.n) ∧ w.cell? ⟨b, o + 3, none⟩ = some (.string x.s)
/-- The slice at A reads as the acts L. -/
def RdA (w : World) (A : Option Addr) (L : List AC) : Prop := L = [] ∨ ∃ b off, A = some ⟨b, off, none⟩ ∧ ∀ k, k < L.length → AcAt w b (off + k * 4) (L.getD k ac0)
theorem RdA.at_ {w : World} {A : Option Addr} {L : List AC} (h : RdA w A L) {k : Nat} (hk : k < L.length) : ∃ b off x, A = some ⟨b, off, none⟩ ∧ AcAt w b (off + k * 4) x ∧ Hid (L.getD k ac0 = x) := by
  rcases h with rfl | ⟨b, off, rfl, hc⟩
  · simp at hk
  · exact ⟨b, off, _, rfl, hc k hk, rfl⟩
theorem RdA.below {w w' : World} {A : Option Addr} {L : List AC} (h : RdA w A L) (hb : Below w.heap.size w w') : RdA w' A L := by
  rcases h with h | ⟨b, off, rfl, hc⟩
  · exact .inl h
  · refine .inr ⟨b, off, rfl, fun k hk => ?_⟩
    obtain ⟨h1, h2, h3, h4⟩ := hc k hk
    have hlt : b < w.heap.size := World.block_lt_of_cell? w _ h1
    have e : ∀ j, w'.cell? ⟨b, j, none⟩ = w.cell? ⟨b, j, none⟩ := fun j => World.cell?_of_block (a := ⟨b, j, none⟩) (hb.block b hlt)
    exact ⟨by rw [e]; exact h1, by rw [e]; exact h2, by rw [e]; exact h3, by rw [e]; exact h4⟩

set_option maxHeartbeats 800000 in
set_option maxRecDepth 100000 in
theorem few_any (A : Option Addr) (cap : Nat) (L : List AC) (m : Nat) (hm : m < 4611686018427387904) (w : World) (hr : RdA w A L) (hl : L.length ≤ maxLen) :
    Calls Try.prog 5 #[.slice A L.length cap, .int .i64 m] w fun e w' => (∃ b : Bool, e = .returned (.bool b) ∧ (b = true → L.length ≤ m ∧ ∀ k, k < L.length → (L.getD k ac0).s.size ≤ 200)) ∧ w = w' := by
  have HR := Lib.hid hr
  have hl2 : L.length ≤ 9223372036854775807 := by unfold maxLen at hl; omega
  clear hr hl
  go_enter Try.func5, Try.ntmps5
  go_wp2
  go_loopw [5] (fun i wr => ∃ k : Nat, k ≤ L.length ∧ k ≤ m ∧ i = .int .i64 k ∧ (∀ j, j < k → (L.getD j ac0).s.size ≤ 200) ∧ w = wr) (fun i _ => L.length - (intOf i).toNat)
  case atStart => exact ⟨0, Nat.zero_le _, Nat.zero_le _, rfl, fun _ h => absurd h (Nat.not_lt_zero _), rfl⟩
  case round =>
    obtain ⟨k, hk, hk2, rfl, hall, rfl⟩ := hrel
    have HALL := Lib.hid hall
    clear hall
    by_cases hlt : k < L.length
    · have hd1 : decide ((k : Int) < L.length) = true := decide_eq_true (by omega)
      by_cases h24 : k < m
      · have hd2 : decide ((k : Int) < m) = true := decide_eq_true (by omega)
        obtain ⟨b, off, x, rfl, ⟨h1, h2, h3, h4⟩, HX⟩ := HR.out.at_ hlt
        have hki : (k : Int) < L.length := by omega
        by_cases hx : 200 < x.s.size
        · have hd3 : decide ((200 : Int) < x.s.size) = true := decide_eq_true (by omega)
          clear hx
          go_wp2
          go_ret
          exact ⟨⟨false, rfl, fun h => by cases h⟩, rfl⟩
        · have hd3 : decide ((200 : Int) < x.s.size) = false := decide_eq_false (by omega)
          have HN : Hid (∀ j, j < k + 1 → (L.getD j ac0).s.size ≤ 200) := by
            intro j hj
            by_cases e : j = k
            · subst e; rw [HX.out]; omega
            · exact HALL.out j (by omega)
          clear hx
          go_wp2
          go_roundw
          case rel => exact ⟨k + 1, by omega, by omega, by go_num, HN.out, trivial⟩
          case measure => simp [intOf]; omega
      · have hd2 : decide ((k : Int) < m) = false := decide_eq_false (by omega)
        have hd3 : decide (L.length ≤ m) = false := decide_eq_false (by omega)
        go_wp2
        go_ret
        exact ⟨⟨false, rfl, fun h => by cases h⟩, rfl⟩
    · obtain rfl : k = L.length := by omega
      have hd3 : decide (L.length ≤ m) = true := decide_eq_true (by omega)
      have hd1 : decide ((L.length : Int) < L.length) = false := decide_eq_false (by omega)
      go_wp2
      go_ret
      exact ⟨⟨true, rfl, fun _ => ⟨hk2, HALL.out⟩⟩, rfl⟩
/-- An act done. -/
def doS (c : St) (x : AC) : St × ByteArray × Nat :=
  if x.kind = 1 then ((erS c x.pl).1, ⟨#[]⟩, (erS c x.pl).2)
  else if x.kind = 2 then ((prS c x.pl x.s).1, ⟨#[]⟩, (prS c x.pl x.s).2)
  else if x.kind = 3 then ((wrS c x.pl x.s).1, ⟨#[]⟩, (wrS c x.pl x.s).2)
  else if x.kind = 4 then (fuS c x.n x.s, ⟨#[]⟩, 0)
  else if x.kind = 5 then (poS c, ⟨#[]⟩, 0)
  else if x.kind = 6 then (c, rdS c x.pl x.n)
  else (c, ⟨#[]⟩, 0)
/-- An act as a value. -/
def acV (x : AC) : Value := .agg #[.int .i64 x.kind, .int .i64 x.pl, .int .i64 x.n, .string x.s]
end Go.Proofs.Ytmfmkhbpaeckoaa
