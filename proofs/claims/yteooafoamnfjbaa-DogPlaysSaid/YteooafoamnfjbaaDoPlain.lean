/- A watchdog in plain words: two numbers (what the last Arm said, and what is left), and what each call makes of them. No condition: nothing of the program stands in it. -/
import Derived.WalkKit
namespace Go.Proofs.Yteooafoamnfjbaa

/-- A watchdog: what the last Arm said, and how many ticks are left; both 0 while it sleeps. -/
structure DG where
  a : Int
  l : Int
def dg0 : DG := ⟨0, 0⟩
/-- What can be: the ticks that are left are at most what was said; both are 0 at once; numbers of 64 bits. -/
def DG.ok (d : DG) : Prop := 0 ≤ d.l ∧ d.l ≤ d.a ∧ d.a < 9223372036854775808 ∧ (d.l = 0 → d.a = 0)
/-- Arm. -/
def arD (n : Int) : DG := if n < 1 then dg0 else ⟨n, n⟩
/-- Kick. -/
def kiD (d : DG) : DG := ⟨d.a, d.a⟩
/-- Tick: what is then, and whether it barks. -/
def tiD (d : DG) (n : Int) : DG × Bool := if d.l = 0 ∨ n < 1 then (d, false) else if d.l ≤ n then (dg0, true) else (⟨d.a, d.l - n⟩, false)
/-- An act: its kind (1 Arm, 2 Kick, 3 Off, 4 Tick) and its number. -/
structure DA where
  kind : Int
  n : Int
def da0 : DA := ⟨0, 0⟩
def doD (d : DG) (x : DA) : DG × Bool := if x.kind = 1 then (arD x.n, false) else if x.kind = 2 then (kiD d, false) else if x.kind = 3 then (dg0, false) else if x.kind = 4 then tiD d x.n else (d, false)
theorem dg0_ok : dg0.ok := by unfold DG.ok dg0; simp
theorem arD_ok (n : Int) (h : n < 9223372036854775808) : (arD n).ok := by
  unfold arD
  split
  · exact dg0_ok
  · unfold DG.ok; simp only; omega
theorem kiD_ok {d : DG} (h : d.ok) : (kiD d).ok := by unfold DG.ok kiD at *; simp only; omega
theorem tiD_ok {d : DG} (h : d.ok) (n : Int) : (tiD d n).1.ok := by
  unfold tiD
  split
  · exact h
  · split
    · exact dg0_ok
    · unfold DG.ok at *; simp only; omega
theorem doD_ok {d : DG} (h : d.ok) {x : DA} (hx : x.n < 9223372036854775808) : (doD d x).1.ok := by
  unfold doD
  split
  · exact arD_ok _ hx
  · split
    · exact kiD_ok h
    · split
      · exact dg0_ok
      · split
        · exact tiD_ok h _
        · exact h
end Go.Proofs.Yteooafoamnfjbaa
