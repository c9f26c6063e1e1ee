/- Spans in memory: a slice of them; what the document's inside, Meet and Same return. Conditions: Meet: spans that exist. -/
import Derived.Test.YtecfdcibjmakeaaRaPlain
import Derived.Test.YtecfdcibjmakeaaChecked
import Derived.Test.YtecfdcibjmakeaaArr
import Derived.Test.YtecfdcibjmakeaaKit
import Derived.Deep.QuietTactic
namespace Go.Proofs.Ytecfdcibjmakeaa
open Go.RowKit

/-- A span lies at a place. -/
def SpAt (w : World) (b o : Nat) (x : SP) : Prop := w.cell? ⟨b, o, none⟩ = some (.int .i64 x.p) ∧ w.cell? ⟨b, o + 1, none⟩ = some (.int .i64 x.n)
/-- The slice at A reads as the spans L. -/
def RdSp (w : World) (A : Option Addr) (L : List SP) : Prop := L = [] ∨ ∃ b off, A = some ⟨b, off, none⟩ ∧ ∀ k, k < L.length → SpAt w b (off + k * 2) (L.getD k sp0)
theorem RdSp.at_ {w : World} {A : Option Addr} {L : List SP} (h : RdSp w A L) {k : Nat} (hk : k < L.length) : ∃ b off x, A = some ⟨b, off, none⟩ ∧ SpAt w b (off + k * 2) x ∧ Hid (L.getD k sp0 = x) := by
  rcases h with rfl | ⟨b, off, rfl, hc⟩
  · simp at hk
  · exact ⟨b, off, _, rfl, hc k hk, rfl⟩
theorem SpAt.below {w w' : World} {b o : Nat} {x : SP} (h : SpAt w b o x) (hb : Below w.heap.size w w') : SpAt w' b o x := by
  obtain ⟨h1, h2⟩ := h
  have hlt : b < w.heap.size := World.block_lt_of_cell? w _ h1
  have e : ∀ j, w'.cell? ⟨b, j, none⟩ = w.cell? ⟨b, j, none⟩ := fun j => World.cell?_of_block (a := ⟨b, j, none⟩) (hb.block b hlt)
  exact ⟨by rw [e]; exact h1, by rw [e]; exact h2⟩
theorem RdSp.below {w w' : World} {A : Option Addr} {L : List SP} (h : RdSp w A L) (hb : Below w.heap.size w w') : RdSp w' A L := by
  rcases h with h | ⟨b, off, rfl, hc⟩
  · exact .inl h
  · exact .inr ⟨b, off, rfl, fun k hk => (hc k hk).below hb⟩
/-- A span as cells, and as a value. -/
def spC (x : SP) : Array Value := #[.int .i64 x.p, .int .i64 x.n]
def spV (x : SP) : Value := .agg #[.int .i64 x.p, .int .i64 x.n]

set_option maxHeartbeats 800000 in
theorem inside_any (x : SP) (w : World) : Calls Try.prog 19 #[spV x] w fun e w' => e = .returned (.bool (insS x)) ∧ Below w.heap.size w w' := by
  obtain ⟨p, n⟩ := x
  unfold spV
  simp only
  have HB := Lib.hid ((Below.refl w.heap.size w).alloc (Nat.le_refl _) (.cells #[.int .i64 p, .int .i64 n] 47))
  by_cases q1 : 0 ≤ p
  · have d1 : decide (0 ≤ p) = true := decide_eq_true q1
    by_cases q2 : 0 ≤ n
    · have d2 : decide (0 ≤ n) = true := decide_eq_true q2
      by_cases q3 : p ≤ 65536
      · have d3 : decide (p ≤ 65536) = true := decide_eq_true q3
        have HN : Hid (insS ⟨p, n⟩ = decide (n ≤ 65536 - p)) := by unfold Hid insS; simp only; rw [d1, d2, d3]; rfl
        go_enter Try.func19, Try.ntmps19
        go_wp2
        go_ret
        exact ⟨by rw [HN.out]; rfl, HB.out⟩
      · have d3 : decide (p ≤ 65536) = false := decide_eq_false q3
        have HN : Hid (insS ⟨p, n⟩ = false) := by unfold Hid insS; simp only; rw [d1, d2, d3]; rfl
        clear q3
        go_enter Try.func19, Try.ntmps19
        go_wp2
        go_ret
        exact ⟨by rw [HN.out]; rfl, HB.out⟩
    · have d2 : decide (0 ≤ n) = false := decide_eq_false q2
      have HN : Hid (insS ⟨p, n⟩ = false) := by unfold Hid insS; simp only; rw [d1, d2]; rfl
      clear q2
      go_enter Try.func19, Try.ntmps19
      go_wp2
      go_ret
      exact ⟨by rw [HN.out]; rfl, HB.out⟩
  · have d1 : decide (0 ≤ p) = false := decide_eq_false q1
    have HN : Hid (insS ⟨p, n⟩ = false) := by unfold Hid insS; simp only; rw [d1]; rfl
    clear q1
    go_enter Try.func19, Try.ntmps19
    go_wp2
    go_ret
    exact ⟨by rw [HN.out]; rfl, HB.out⟩

set_option maxHeartbeats 800000 in
theorem meet_any (x y : SP) (w : World) (hx : insS x = true) (hy : insS y = true) : Calls Try.prog 16 #[spV x, spV y] w fun e w' => e = .returned (.bool (meetS x y)) ∧ Below w.heap.size w w' := by
  have hx1 := insS_of hx
  have hy1 := insS_of hy
  clear hx hy
  obtain ⟨p, n⟩ := x
  obtain ⟨p', n'⟩ := y
  unfold spV
  simp only at hx1 hy1
  simp only
  obtain ⟨x1, x2, x3, x4⟩ := hx1
  obtain ⟨y1, y2, y3, y4⟩ := hy1
  have HB : Hid (Below w.heap.size w ((w.alloc (.cells #[.int .i64 p, .int .i64 n] 47)).alloc (.cells #[.int .i64 p', .int .i64 n'] 47))) := by
    have h := (Below.refl w.heap.size w).alloc (Nat.le_refl _) (.cells #[.int .i64 p, .int .i64 n] 47)
    exact h.alloc h.size _
  by_cases q1 : 0 < n
  · have d1 : decide (0 < n) = true := decide_eq_true q1
    by_cases q2 : 0 < n'
    · have d2 : decide (0 < n') = true := decide_eq_true q2
      by_cases q3 : p < p' + n'
      · have d3 : decide (p < p' + n') = true := decide_eq_true q3
        have HN : Hid (meetS ⟨p, n⟩ ⟨p', n'⟩ = decide (p' < p + n)) := by unfold Hid meetS; simp only; rw [d1, d2, d3]; rfl
        clear q1 q2 q3
        go_enter Try.func16, Try.ntmps16
        go_wp2
        go_ret
        exact ⟨by rw [HN.out]; rfl, HB.out⟩
      · have d3 : decide (p < p' + n') = false := decide_eq_false q3
        have HN : Hid (meetS ⟨p, n⟩ ⟨p', n'⟩ = false) := by unfold Hid meetS; simp only; rw [d1, d2, d3]; rfl
        clear q1 q2 q3
        go_enter Try.func16, Try.ntmps16
        go_wp2
        go_ret
        exact ⟨by rw [HN.out]; rfl, HB.out⟩
    · have d2 : decide (0 < n') = false := decide_eq_false q2
      have HN : Hid (meetS ⟨p, n⟩ ⟨p', n'⟩ = false) := by unfold Hid meetS; simp only; rw [d1, d2]; rfl
      clear q1 q2
      go_enter Try.func16, Try.ntmps16
      go_wp2
      go_ret
      exact ⟨by rw [HN.out]; rfl, HB.out⟩
  · have d1 : decide (0 < n) = false := decide_eq_false q1
    have HN : Hid (meetS ⟨p, n⟩ ⟨p', n'⟩ = false) := by unfold Hid meetS; simp only; rw [d1]; rfl
    clear q1
    go_enter Try.func16, Try.ntmps16
    go_wp2
    go_ret
    exact ⟨by rw [HN.out]; rfl, HB.out⟩

set_option maxHeartbeats 800000 in
set_option maxRecDepth 100000 in
theorem sameSp_any (A A' : Option Addr) (cap cap' : Nat) (L : List SP) (w : World) (hl : L.length ≤ maxLen) (hr : RdSp w A L) (hr' : RdSp w A' L) :
    Calls Try.prog 12 #[.slice A L.length cap, .slice A' L.length cap'] w fun e w' => e = .returned (.bool true) ∧ Below w.heap.size w w' := by
  have hl2 : L.length ≤ 9223372036854775807 := by unfold maxLen at hl; omega
  have HR := Lib.hid hr
  have HR' := Lib.hid hr'
  clear hr hr' hl
  go_enter Try.func12, Try.ntmps12
  go_wp2
  go_loopw [5] (fun i wr => ∃ k : Nat, k ≤ L.length ∧ i = .int .i64 k ∧ Below w.heap.size w wr) (fun i _ => L.length - (intOf i).toNat)
  case atStart => exact ⟨0, Nat.zero_le _, rfl, Below.refl _ _⟩
  case round =>
    obtain ⟨k, hk, rfl, hb⟩ := hrel
    have hsz := hb.size
    have HB := Lib.hid hb
    clear hb
    by_cases hlt : k < L.length
    · have hki : (k : Int) < L.length := by omega
      obtain ⟨b, off, x, rfl, ⟨h1, h2⟩, HX⟩ := (HR.out.below HB.out).at_ hlt
      obtain ⟨b', off', x', rfl, ⟨g1, g2⟩, HX'⟩ := (HR'.out.below HB.out).at_ hlt
      obtain rfl : x = x' := HX.out.symm.trans HX'.out
      obtain ⟨p, n⟩ := x
      simp only at h1 h2 g1 g2
      go_wp2
      go_quiet (fail)
      have hb2 : Below w.heap.size w (wr.drewN nq) := HB.out.trans ((below_drewN _ _).mono hsz)
      go_wp2
      go_roundw
      case rel => exact ⟨k + 1, by omega, by go_num, hb2⟩
      case measure => simp [intOf]; omega
    · obtain rfl : k = L.length := by omega
      go_wp2
      go_ret
      exact ⟨rfl, HB.out⟩
end Go.Proofs.Ytecfdcibjmakeaa
