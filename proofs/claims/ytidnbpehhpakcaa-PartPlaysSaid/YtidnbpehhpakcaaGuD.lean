/- What the calls of a Guard do with a flash and with none, and what the law's do does with a Guard. Conditions: fewer than 2^61 operations and bytes; numbers of 64 bits. -/
import Derived.Test.YtidnbpehhpakcaaGuC
namespace Go.Proofs.Ytidnbpehhpakcaa
open Go.RowKit

theorem GD.grown {w w' : World} {q p : Option Addr} {K : List Bool} {gc : Nat} (h : GD w q p K) (hg : w.grownBy w' (some gc)) (hne : q ≠ some ⟨gc, 0, none⟩) : GD w' q p K := by
  obtain ⟨h1, h2 | ⟨g, h2, h3⟩⟩ := h
  · exact ⟨h1, .inl h2⟩
  · exact ⟨h1, .inr ⟨g, h2, h3.grown hg (fun e => by injection e with e; subst e; exact hne h2)⟩⟩
theorem rep_getD (n j : Nat) : (List.replicate n false).getD j false = false := by
  rw [List.getD_eq_getElem?_getD, List.getElem?_replicate]
  split <;> rfl
theorem inK_zero (x : Int) : inK (List.replicate 48 false) x = false := by
  unfold inK
  rw [rep_getD, Bool.and_false]
theorem tch_zero (a n : Int) : tch (List.replicate 48 false) a n = false := tch_no fun j _ _ _ _ => rep_getD 48 (j / 512)
theorem gerase_rn (q : Option Addr) (gc : Nat) (K : List Bool) (c : St) (x : Int) (w : World) (hG : GD w q (some ⟨gc, 0, none⟩) K) (hN : RN w gc c) (ho : c.ops < 4611686018427387904) :
    Calls Try.prog 39 #[.pointer q, .int .i64 x] w fun e w' => e = .returned (.int .i64 ((geS K c x).2 : Int)) ∧ RN w' gc (geS K c x).1 ∧ w.grownBy w' (some gc) := by
  have h := gerase_any q (some ⟨gc, 0, none⟩) K x w (fun r w' => r = ((geS K c x).2 : Int) ∧ RN w' gc (geS K c x).1 ∧ w.grownBy w' (some gc)) hG
    (fun W hW hi => by
      have e : geS K c x = erS c x := by unfold geS; rw [if_neg (by rw [hi]; decide)]
      rw [e]
      refine (erase_any gc c x W (hN.below hW hN.lt) ho).mono ?_
      rintro e w' ⟨he, hr, hg⟩
      exact ⟨_, he, rfl, hr, grown_trans (grown_below hW) hg⟩)
    (fun W hW hi => by
      have e : geS K c x = (c, 3) := by unfold geS; rw [if_pos hi]
      rw [e]
      exact ⟨rfl, hN.below hW hN.lt, grown_below hW⟩)
  refine h.mono ?_
  rintro e w' ⟨r, he, hr, h1, h2⟩
  subst hr
  exact ⟨he, h1, h2⟩
theorem gerase_nb (q : Option Addr) (x : Int) (w : World) (hG : GD w q none (List.replicate 48 false)) :
    Calls Try.prog 39 #[.pointer q, .int .i64 x] w fun e w' => e = .returned (.int .i64 4) ∧ Below w.heap.size w w' := by
  have h := gerase_any q none (List.replicate 48 false) x w (fun r w' => r = 4 ∧ Below w.heap.size w w') hG
    (fun W hW _ => by
      refine (nob_erase none x W (.inl rfl)).mono ?_
      rintro e w' ⟨he, rfl⟩
      exact ⟨4, he, rfl, hW⟩)
    (fun W _ hi => by rw [inK_zero x] at hi; cases hi)
  refine h.mono ?_
  rintro e w' ⟨r, he, hr, h1⟩
  subst hr
  exact ⟨he, h1⟩
theorem gwrite_rn (q : Option Addr) (gc : Nat) (K : List Bool) (c : St) (a : Int) (s : ByteArray) (w : World) (hG : GD w q (some ⟨gc, 0, none⟩) K) (hN : RN w gc c) (ho : c.ops + s.size < 4611686018427387904) :
    Calls Try.prog 37 #[.pointer q, .int .i64 a, .string s] w fun e w' => e = .returned (.int .i64 ((gwS K c a s).2 : Int)) ∧ RN w' gc (gwS K c a s).1 ∧ w.grownBy w' (some gc) := by
  have h := gwrite_any q (some ⟨gc, 0, none⟩) K a s w (fun r w' => r = ((gwS K c a s).2 : Int) ∧ RN w' gc (gwS K c a s).1 ∧ w.grownBy w' (some gc)) hG
    (fun W hW hi => by
      have e : gwS K c a s = wrS c a s := by unfold gwS; rw [if_neg (by rw [hi]; decide)]
      rw [e]
      refine (write_any gc c a s W (hN.below hW hN.lt) ho).mono ?_
      rintro e w' ⟨he, hr, hg⟩
      exact ⟨_, he, rfl, hr, grown_trans (grown_below hW) hg⟩)
    (fun W hW hi => by
      have e : gwS K c a s = (c, 3) := by unfold gwS; rw [if_pos hi]
      rw [e]
      exact ⟨rfl, hN.below hW hN.lt, grown_below hW⟩)
  refine h.mono ?_
  rintro e w' ⟨r, he, hr, h1, h2⟩
  subst hr
  exact ⟨he, h1, h2⟩
theorem gwrite_nb (q : Option Addr) (a : Int) (s : ByteArray) (w : World) (hG : GD w q none (List.replicate 48 false)) :
    Calls Try.prog 37 #[.pointer q, .int .i64 a, .string s] w fun e w' => e = .returned (.int .i64 4) ∧ Below w.heap.size w w' := by
  have h := gwrite_any q none (List.replicate 48 false) a s w (fun r w' => r = 4 ∧ Below w.heap.size w w') hG
    (fun W hW _ => by
      refine (nob_write none a s W (.inl rfl)).mono ?_
      rintro e w' ⟨he, rfl⟩
      exact ⟨4, he, rfl, hW⟩)
    (fun W _ hi => by rw [tch_zero a s.size] at hi; cases hi)
  refine h.mono ?_
  rintro e w' ⟨r, he, hr, h1⟩
  subst hr
  exact ⟨he, h1⟩
theorem gread_rn (q : Option Addr) (gc : Nat) (K : List Bool) (c : St) (a n : Int) (w : World) (hG : GD w q (some ⟨gc, 0, none⟩) K) (hN : RN w gc c) :
    Calls Try.prog 28 #[.pointer q, .int .i64 a, .int .i64 n] w fun e w' => e = .returned (.tuple #[.string (rdS c a n).1, .int .i64 (rdS c a n).2]) ∧ Below w.heap.size w w' :=
  gread_any q _ K a n _ _ w hG fun W hW => read_any gc c a n W (hN.below hW hN.lt)
theorem gread_nb (q : Option Addr) (a n : Int) (w : World) (hG : GD w q none (List.replicate 48 false)) :
    Calls Try.prog 28 #[.pointer q, .int .i64 a, .int .i64 n] w fun e w' => e = .returned (.tuple #[.string ⟨#[]⟩, .int .i64 4]) ∧ Below w.heap.size w w' :=
  gread_any q none _ a n _ _ w hG fun W _ => nob_read none a n W (.inl rfl)
theorem GD.alloc {w : World} {q p : Option Addr} {K : List Bool} (h : GD w q p K) (o : Obj) : GD (w.alloc o) q p K := h.below ((Below.refl _ _).alloc (Nat.le_refl _) o)
/-- Does an act on a Guard that nobody made have an error? -/
def nbE (kd : Int) : Nat := if kd = 1 ∨ kd = 2 ∨ kd = 3 ∨ kd = 6 then 4 else 0

end Go.Proofs.Ytidnbpehhpakcaa
