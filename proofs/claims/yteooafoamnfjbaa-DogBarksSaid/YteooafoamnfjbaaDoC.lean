/- All that the laws of layer 8 hold in memory: a watchdog beside the document's, or beside another one; acts that came in. Conditions: numbers such as can be. -/
import Derived.Test.YteooafoamnfjbaaDoB
import Derived.Test.YteooafoamnfjbaaRdK
namespace Go.Proofs.Yteooafoamnfjbaa
open Go.RowKit

/-- An act lies at a place. -/
def DaAt (w : World) (b o : Nat) (x : DA) : Prop := w.cell? ⟨b, o, none⟩ = some (.int .i64 x.kind) ∧ w.cell? ⟨b, o + 1, none⟩ = some (.int .i64 x.n)
def RdDa (w : World) (A : Option Addr) (L : List DA) : Prop := L = [] ∨ ∃ b off, A = some ⟨b, off, none⟩ ∧ ∀ k, k < L.length → DaAt w b (off + k * 2) (L.getD k da0)
theorem RdDa.at_ {w : World} {A : Option Addr} {L : List DA} (h : RdDa w A L) {k : Nat} (hk : k < L.length) : ∃ b off x, A = some ⟨b, off, none⟩ ∧ DaAt w b (off + k * 2) x ∧ Hid (L.getD k da0 = x) := by
  rcases h with rfl | ⟨b, off, rfl, hc⟩
  · simp at hk
  · exact ⟨b, off, _, rfl, hc k hk, rfl⟩
theorem DaAt.below {w w' : World} {b o : Nat} {x : DA} (h : DaAt w b o x) (hb : Below w.heap.size w w') : DaAt w' b o x := ⟨cellK_below h.1 hb, cellK_below h.2 hb⟩
theorem DM.below {w w' : World} {g : Nat} {d : DG} (h : DM w g d) (hb : Below w.heap.size w w') : DM w' g d := Arr.below h hb (Arr.lt h)
theorem DM.other {w w' : World} {g g' : Nat} {d : DG} (h : DM w g d) (hg : w.grownBy w' (some g')) (hne : g ≠ g') : DM w' g d := Arr.grown h hg (by simpa using hne)
theorem DX.lt {w : World} {g : Nat} {d : DG} (h : DX w g d) : g < w.heap.size := by obtain ⟨m, h, _⟩ := h; exact h.lt
theorem DX.below {w w' : World} {g : Nat} {d : DG} (h : DX w g d) (hb : Below w.heap.size w w') : DX w' g d := by obtain ⟨m, h, h1⟩ := h; exact ⟨m, h.below hb h.lt, h1⟩
theorem DX.other {w w' : World} {g g' : Nat} {d : DG} (h : DX w g d) (hg : w.grownBy w' (some g')) (hne : g ≠ g') : DX w' g d := by obtain ⟨m, h, h1⟩ := h; exact ⟨m, h.grown hg (by simpa using hne), h1⟩
/-- A watchdog, and the document's. -/
structure Pl8 (w W : World) (gd gx : Nat) (d e : DG) : Prop where
  dm : DM W gd d
  dx : DX W gx e
  okd : d.ok
  oke : e.ok
  ne : gd ≠ gx
  nd : w.heap.size ≤ gd
  nx : w.heap.size ≤ gx
  bel : Below w.heap.size w W
section
variable {w W W' : World} {gd gx : Nat} {d e : DG}
theorem Pl8.below (h : Pl8 w W gd gx d e) (hb : Below W.heap.size W W') : Pl8 w W' gd gx d e :=
  ⟨h.dm.below hb, h.dx.below hb, h.okd, h.oke, h.ne, h.nd, h.nx, h.bel.trans (hb.mono h.bel.size)⟩
theorem pl8_do (h : Pl8 w W gd gx d e) (x : DA) (hx : x.n < 9223372036854775808) : Calls Try.prog 6 #[.pointer (some ⟨gd, 0, none⟩), daV x] W fun r w' => r = .returned (.bool (doD d x).2) ∧ Pl8 w w' gd gx (doD d x).1 e :=
  (ldo_any gd d x W h.dm h.okd hx).mono fun _ _ ⟨h1, h2, h3⟩ => ⟨h1, h2, h.dx.other h3 h.ne.symm, doD_ok h.okd hx, h.oke, h.ne, h.nd, h.nx, below_grown h.bel h3 h.nd h.bel.size⟩
theorem pl8_rdo (h : Pl8 w W gd gx d e) (x : DA) (hx : x.n < 9223372036854775808 ∧ -9223372036854775808 ≤ x.n) : Calls Try.prog 7 #[.pointer (some ⟨gx, 0, none⟩), daV x] W fun r w' => r = .returned (.bool (doD e x).2) ∧ Pl8 w w' gd gx d (doD e x).1 :=
  (rdo_any gx e x W h.dx h.oke hx).mono fun _ _ ⟨h1, h2, h3⟩ => ⟨h1, h.dm.other h3 h.ne, h2, h.okd, doD_ok h.oke hx.1, h.ne, h.nd, h.nx, below_grown h.bel h3 h.nx h.bel.size⟩
end
/-- Two watchdogs. -/
structure Bk8 (w W : World) (gd ge : Nat) (d e : DG) : Prop where
  dm : DM W gd d
  em : DM W ge e
  okd : d.ok
  oke : e.ok
  ne : gd ≠ ge
  nd : w.heap.size ≤ gd
  nx : w.heap.size ≤ ge
  bel : Below w.heap.size w W
section
variable {w W W' : World} {gd ge : Nat} {d e : DG}
theorem Bk8.below (h : Bk8 w W gd ge d e) (hb : Below W.heap.size W W') : Bk8 w W' gd ge d e :=
  ⟨h.dm.below hb, h.em.below hb, h.okd, h.oke, h.ne, h.nd, h.nx, h.bel.trans (hb.mono h.bel.size)⟩
theorem Bk8.setD (h : Bk8 w W gd ge d e) {d' : DG} (h1 : DM W' gd d') (hok : d'.ok) (h2 : W.grownBy W' (some gd)) : Bk8 w W' gd ge d' e :=
  ⟨h1, h.em.other h2 h.ne.symm, hok, h.oke, h.ne, h.nd, h.nx, below_grown h.bel h2 h.nd h.bel.size⟩
theorem Bk8.setE (h : Bk8 w W gd ge d e) {e' : DG} (h1 : DM W' ge e') (hok : e'.ok) (h2 : W.grownBy W' (some ge)) : Bk8 w W' gd ge d e' :=
  ⟨h.dm.other h2 h.ne, h1, h.okd, hok, h.ne, h.nd, h.nx, below_grown h.bel h2 h.nx h.bel.size⟩
theorem bk8_tick (h : Bk8 w W gd ge d e) (n : Int) (hn : n < 9223372036854775808) {d' : DG} {b : Bool} (ht : tiD d n = (d', b)) : Calls Try.prog 10 #[.pointer (some ⟨gd, 0, none⟩), .int .i64 n] W fun r w' => r = .returned (.bool b) ∧ Bk8 w w' gd ge d' e := by
  have := dtick_any gd d n W h.dm h.okd hn
  have hk := tiD_ok h.okd n
  rw [ht] at this hk
  exact this.mono fun _ _ ⟨h1, h2, h3⟩ => ⟨h1, h.setD h2 hk h3⟩
theorem bk8_ticke (h : Bk8 w W gd ge d e) (n : Int) (hn : n < 9223372036854775808) {e' : DG} {b : Bool} (ht : tiD e n = (e', b)) : Calls Try.prog 10 #[.pointer (some ⟨ge, 0, none⟩), .int .i64 n] W fun r w' => r = .returned (.bool b) ∧ Bk8 w w' gd ge d e' := by
  have := dtick_any ge e n W h.em h.oke hn
  have hk := tiD_ok h.oke n
  rw [ht] at this hk
  exact this.mono fun _ _ ⟨h1, h2, h3⟩ => ⟨h1, h.setE h2 hk h3⟩
theorem bk8_kick (h : Bk8 w W gd ge d e) : Calls Try.prog 11 #[.pointer (some ⟨gd, 0, none⟩)] W fun r w' => r = .returned (.tuple #[]) ∧ Bk8 w w' gd ge (kiD d) e :=
  (dkick_any gd d W h.dm).mono fun _ _ ⟨h1, h2, h3⟩ => ⟨h1, h.setD h2 (kiD_ok h.okd) h3⟩
theorem bk8_arm (h : Bk8 w W gd ge d e) (n : Int) (hn : n < 9223372036854775808) : Calls Try.prog 9 #[.pointer (some ⟨gd, 0, none⟩), .int .i64 n] W fun r w' => r = .returned (.tuple #[]) ∧ Bk8 w w' gd ge (arD n) e :=
  (darm_any gd d n W h.dm).mono fun _ _ ⟨h1, h2, h3⟩ => ⟨h1, h.setD h2 (arD_ok n hn) h3⟩
theorem bk8_arme (h : Bk8 w W gd ge d e) (n : Int) (hn : n < 9223372036854775808) : Calls Try.prog 9 #[.pointer (some ⟨ge, 0, none⟩), .int .i64 n] W fun r w' => r = .returned (.tuple #[]) ∧ Bk8 w w' gd ge d (arD n) :=
  (darm_any ge e n W h.em).mono fun _ _ ⟨h1, h2, h3⟩ => ⟨h1, h.setE h2 (arD_ok n hn) h3⟩
end
/-- The watchdog that is kicked: armed, or asleep for ever. -/
def dS (s : Bool) (n : Int) : DG := if s then dg0 else ⟨n, n⟩
/-- The watchdog that is never kicked, behind so many ticks. -/
def eS (S n : Int) : DG := if n ≤ S then dg0 else ⟨n, n - S⟩
theorem arD_pos {n : Int} (h : 1 ≤ n) : arD n = ⟨n, n⟩ := by unfold arD; rw [if_neg (by omega)]
theorem eS_zero {n : Int} (h : 1 ≤ n) : eS 0 n = ⟨n, n⟩ := by unfold eS; rw [if_neg (by omega), Int.sub_zero]
theorem tick_slept (n t : Int) : tiD (dS true n) t = (dg0, false) := rfl
theorem tick_bark {n t : Int} (h : 1 ≤ n) (h1 : n ≤ t) : tiD (dS false n) t = (dg0, true) := by
  show tiD ⟨n, n⟩ t = _
  unfold tiD; simp only; rw [if_neg (by omega), if_pos h1]
theorem tick_not {n t : Int} (h1 : ¬ n ≤ t) : ∃ d', tiD (dS false n) t = (d', false) ∧ kiD d' = dS false n := by
  show ∃ d', tiD ⟨n, n⟩ t = _ ∧ _
  unfold tiD; simp only
  split
  · exact ⟨_, rfl, rfl⟩
  · exact ⟨_, rfl, rfl⟩
theorem tick_e {n t S : Int} (ht : 0 ≤ t) : tiD (eS S n) t = (eS (S + t) n, decide (¬ n ≤ S ∧ n ≤ S + t)) := by
  unfold eS
  by_cases h1 : n ≤ S
  · rw [if_pos h1, if_pos (by omega), decide_eq_false (by omega)]; rfl
  · rw [if_neg h1]
    unfold tiD; simp only
    by_cases h2 : t < 1
    · rw [if_pos (.inr h2), if_neg (by omega), decide_eq_false (by omega)]
      have : t = 0 := by omega
      rw [this, Int.add_zero]
    · rw [if_neg (by omega)]
      by_cases h3 : n ≤ S + t
      · rw [if_pos (by omega), if_pos h3, decide_eq_true ⟨h1, h3⟩]
      · rw [if_neg (by omega), if_neg h3, decide_eq_false (by omega)]
        rw [show n - S - t = n - (S + t) by omega]
end Go.Proofs.Yteooafoamnfjbaa
