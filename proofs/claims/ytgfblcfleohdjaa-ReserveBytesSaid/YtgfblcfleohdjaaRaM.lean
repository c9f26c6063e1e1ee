/- Spans in memory: a slice of them; what the document's inside, Meet and Same return. Conditions: Meet: spans that exist. -/
import Derived.Test.YtgfblcfleohdjaaRaPlain
import Derived.Test.YtgfblcfleohdjaaChecked
import Derived.Test.YtgfblcfleohdjaaArr
import Derived.Test.YtgfblcfleohdjaaKit
import Derived.Deep.QuietTactic
namespace Go.Proofs.Ytgfblcfleohdjaa
open Go.RowKit

/-- A span lies at a place. -/
def SpAt (w : World) (b o : Nat) (x : SP) : Prop := w.cell? ⟨b, o, none⟩ = some (.int .i64 x.p) ∧ w.cell? ⟨b, o + 1, none⟩ = some (.int .i64 x.n)
/-- The slice at A reads as the spans L. -/
def RdSp (w : World) (A : Option Addr) (L : List SP) : Prop := L = [] ∨ ∃ b off, A = some ⟨b, off, none⟩ ∧ ∀ k, k < L.length → SpAt w b (off + k * 2) (L.getD k sp0)
theorem RdSp.at_ {w : World} {A : Option Addr} {L : List SP} (h : RdSp w A L) {k : Nat} (hk : k < L.length) : ∃ b off x, A = some ⟨b, off, none⟩ ∧ SpAt w b (off + k * 2) x ∧ Hid (L.getD k sp0 = x) := by
  rcases h with rfl | ⟨b, off, rfl, hc⟩
  · simp at hk
  · exact ⟨b, off, _, rfl, hc k hk, rfl⟩
theorem SpAt.below {w w' : World} {b o : Nat} {x : SP} (h : SpAt w b o x) (hb : Below w.heap.size w w') : SpAt w' b o x := by
  obtain ⟨h1, h2⟩ := h
  have hlt : b < w.heap.size := World.block_lt_of_cell? w _ h1
  have e : ∀ j, w'.cell? ⟨b, j, none⟩ = w.cell? ⟨b, j, none⟩ := fun j => World.cell?_of_block (a := ⟨b, j, none⟩) (hb.block b hlt)
  exact ⟨by rw [e]; exact h1, by rw [e]; exact h2⟩
theorem RdSp.below {w w' : World} {A : Option Addr} {L : List SP} (h : RdSp w A L) (hb : Below w.heap.size w w') : RdSp w' A L := by
  rcases h with h | ⟨b, off, rfl, hc⟩
  · exact .inl h
  · exact .inr ⟨b, off, rfl, fun k hk => (hc k hk).below hb⟩
/-- A span as cells, and as a value. -/
def spC (x : SP) : Array Value := #[.int .i64 x.p, .int .i64 x.n]
def spV (x : SP) : Value := .agg #[.int .i64 x.p, .int .i64 x.n]

set_option maxHeartbeats 800000 in
set_option maxRecDepth 100000 in
theorem sameSp_any (A A' : Option Addr) (cap cap' : Nat) (L : List SP) (w : World) (hl : L.length ≤ maxLen) (hr : RdSp w A L) (hr' : RdSp w A' L) :
    Calls Try.prog 8 #[.slice A L.length cap, .slice A' L.length cap'] w fun e w' => e = .returned (.bool true) ∧ Below w.heap.size w w' := by
  have hl2 : L.length ≤ 9223372036854775807 := by unfold maxLen at hl; omega
  have HR := Lib.hid hr
  have HR' := Lib.hid hr'
  clear hr hr' hl
  go_enter Try.func8, Try.ntmps8
  go_wp2
  go_loopw [5] (fun i wr => ∃ k : Nat, k ≤ L.length ∧ i = .int .i64 k ∧ Below w.heap.size w wr) (fun i _ => L.length - (intOf i).toNat)
  case atStart => exact ⟨0, Nat.zero_le _, rfl, Below.refl _ _⟩
  case round =>
    obtain ⟨k, hk, rfl, hb⟩ := hrel
    have hsz := hb.size
    have HB := Lib.hid hb
    clear hb
    by_cases hlt : k < L.length
    · have hki : (k : Int) < L.length := by omega
      obtain ⟨b, off, x, rfl, ⟨h1, h2⟩, HX⟩ := (HR.out.below HB.out).at_ hlt
      obtain ⟨b', off', x', rfl, ⟨g1, g2⟩, HX'⟩ := (HR'.out.below HB.out).at_ hlt
      obtain rfl : x = x' := HX.out.symm.trans HX'.out
      obtain ⟨p, n⟩ := x
      simp only at h1 h2 g1 g2
      go_wp2
      go_quiet (fail)
      have hb2 : Below w.heap.size w (wr.drewN nq) := HB.out.trans ((below_drewN _ _).mono hsz)
      go_wp2
      go_roundw
      case rel => exact ⟨k + 1, by omega, by go_num, hb2⟩
      case measure => simp [intOf]; omega
    · obtain rfl : k = L.length := by omega
      go_wp2
      go_ret
      exact ⟨rfl, HB.out⟩
end Go.Proofs.Ytgfblcfleohdjaa
