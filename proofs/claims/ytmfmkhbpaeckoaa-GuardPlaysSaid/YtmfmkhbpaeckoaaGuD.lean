/- What the calls of a Guard do with a flash and with none, and what the law's do does with a Guard. Conditions: fewer than 2^61 operations and bytes; numbers of 64 bits. -/
import Derived.Test.YtmfmkhbpaeckoaaGuC
namespace Go.Proofs.Ytmfmkhbpaeckoaa
open Go.RowKit

theorem GD.grown {w w' : World} {q p : Option Addr} {K : List Bool} {gc : Nat} (h : GD w q p K) (hg : w.grownBy w' (some gc)) (hne : q ≠ some ⟨gc, 0, none⟩) : GD w' q p K := by
  obtain ⟨h1, h2 | ⟨g, h2, h3⟩⟩ := h
  · exact ⟨h1, .inl h2⟩
  · exact ⟨h1, .inr ⟨g, h2, h3.grown hg (fun e => by injection e with e; subst e; exact hne h2)⟩⟩
theorem rep_getD (n j : Nat) : (List.replicate n false).getD j false = false := by
  rw [List.getD_eq_getElem?_getD, List.getElem?_replicate]
  split <;> rfl
theorem inK_zero (x : Int) : inK (List.replicate 48 false) x = false := by
  unfold inK
  rw [rep_getD, Bool.and_false]
theorem tch_zero (a n : Int) : tch (List.replicate 48 false) a n = false := tch_no fun j _ _ _ _ => rep_getD 48 (j / 512)
theorem gerase_rn (q : Option Addr) (gc : Nat) (K : List Bool) (c : St) (x : Int) (w : World) (hG : GD w q (some ⟨gc, 0, none⟩) K) (hN : RN w gc c) (ho : c.ops < 4611686018427387904) :
    Calls Try.prog 18 #[.pointer q, .int .i64 x] w fun e w' => e = .returned (.int .i64 ((geS K c x).2 : Int)) ∧ RN w' gc (geS K c x).1 ∧ w.grownBy w' (some gc) := by
  have h := gerase_any q (some ⟨gc, 0, none⟩) K x w (fun r w' => r = ((geS K c x).2 : Int) ∧ RN w' gc (geS K c x).1 ∧ w.grownBy w' (some gc)) hG
    (fun W hW hi => by
      have e : geS K c x = erS c x := by unfold geS; rw [if_neg (by rw [hi]; decide)]
      rw [e]
      refine (erase_any gc c x W (hN.below hW hN.lt) ho).mono ?_
      rintro e w' ⟨he, hr, hg⟩
      exact ⟨_, he, rfl, hr, grown_trans (grown_below hW) hg⟩)
    (fun W hW hi => by
      have e : geS K c x = (c, 3) := by unfold geS; rw [if_pos hi]
      rw [e]
      exact ⟨rfl, hN.below hW hN.lt, grown_below hW⟩)
  refine h.mono ?_
  rintro e w' ⟨r, he, hr, h1, h2⟩
  subst hr
  exact ⟨he, h1, h2⟩
theorem gerase_nb (q : Option Addr) (x : Int) (w : World) (hG : GD w q none (List.replicate 48 false)) :
    Calls Try.prog 18 #[.pointer q, .int .i64 x] w fun e w' => e = .returned (.int .i64 4) ∧ Below w.heap.size w w' := by
  have h := gerase_any q none (List.replicate 48 false) x w (fun r w' => r = 4 ∧ Below w.heap.size w w') hG
    (fun W hW _ => by
      refine (nob_erase none x W (.inl rfl)).mono ?_
      rintro e w' ⟨he, rfl⟩
      exact ⟨4, he, rfl, hW⟩)
    (fun W _ hi => by rw [inK_zero x] at hi; cases hi)
  refine h.mono ?_
  rintro e w' ⟨r, he, hr, h1⟩
  subst hr
  exact ⟨he, h1⟩
theorem gprogram_rn (q : Option Addr) (gc : Nat) (K : List Bool) (c : St) (a : Int) (s : ByteArray) (w : World) (hG : GD w q (some ⟨gc, 0, none⟩) K) (hN : RN w gc c) (ho : c.ops < 4611686018427387904) :
    Calls Try.prog 20 #[.pointer q, .int .i64 a, .string s] w fun e w' => e = .returned (.int .i64 ((gpS K c a s).2 : Int)) ∧ RN w' gc (gpS K c a s).1 ∧ w.grownBy w' (some gc) := by
  have h := gprogram_any q (some ⟨gc, 0, none⟩) K a s w (fun r w' => r = ((gpS K c a s).2 : Int) ∧ RN w' gc (gpS K c a s).1 ∧ w.grownBy w' (some gc)) hG
    (fun W hW hi => by
      have e : gpS K c a s = prS c a s := by unfold gpS; rw [if_neg (by rw [hi]; decide)]
      rw [e]
      refine (program_any gc c a s W (hN.below hW hN.lt) ho).mono ?_
      rintro e w' ⟨he, hr, hg⟩
      exact ⟨_, he, rfl, hr, grown_trans (grown_below hW) hg⟩)
    (fun W hW hi => by
      have e : gpS K c a s = (c, 3) := by unfold gpS; rw [if_pos hi]
      rw [e]
      exact ⟨rfl, hN.below hW hN.lt, grown_below hW⟩)
  refine h.mono ?_
  rintro e w' ⟨r, he, hr, h1, h2⟩
  subst hr
  exact ⟨he, h1, h2⟩
theorem gprogram_nb (q : Option Addr) (a : Int) (s : ByteArray) (w : World) (hG : GD w q none (List.replicate 48 false)) :
    Calls Try.prog 20 #[.pointer q, .int .i64 a, .string s] w fun e w' => e = .returned (.int .i64 4) ∧ Below w.heap.size w w' := by
  have h := gprogram_any q none (List.replicate 48 false) a s w (fun r w' => r = 4 ∧ Below w.heap.size w w') hG
    (fun W hW _ => by
      refine (nob_program none a s W (.inl rfl)).mono ?_
      rintro e w' ⟨he, hb⟩
      exact ⟨4, he, rfl, hW.trans (hb.mono hW.size)⟩)
    (fun W _ hi => by rw [tch_zero a s.size] at hi; cases hi)
  refine h.mono ?_
  rintro e w' ⟨r, he, hr, h1⟩
  subst hr
  exact ⟨he, h1⟩
theorem gwrite_rn (q : Option Addr) (gc : Nat) (K : List Bool) (c : St) (a : Int) (s : ByteArray) (w : World) (hG : GD w q (some ⟨gc, 0, none⟩) K) (hN : RN w gc c) (ho : c.ops + s.size < 4611686018427387904) :
    Calls Try.prog 19 #[.pointer q, .int .i64 a, .string s] w fun e w' => e = .returned (.int .i64 ((gwS K c a s).2 : Int)) ∧ RN w' gc (gwS K c a s).1 ∧ w.grownBy w' (some gc) := by
  have h := gwrite_any q (some ⟨gc, 0, none⟩) K a s w (fun r w' => r = ((gwS K c a s).2 : Int) ∧ RN w' gc (gwS K c a s).1 ∧ w.grownBy w' (some gc)) hG
    (fun W hW hi => by
      have e : gwS K c a s = wrS c a s := by unfold gwS; rw [if_neg (by rw [hi]; decide)]
      rw [e]
      refine (write_any gc c a s W (hN.below hW hN.lt) ho).mono ?_
      rintro e w' ⟨he, hr, hg⟩
      exact ⟨_, he, rfl, hr, grown_trans (grown_below hW) hg⟩)
    (fun W hW hi => by
      have e : gwS K c a s = (c, 3) := by unfold gwS; rw [if_pos hi]
      rw [e]
      exact ⟨rfl, hN.below hW hN.lt, grown_below hW⟩)
  refine h.mono ?_
  rintro e w' ⟨r, he, hr, h1, h2⟩
  subst hr
  exact ⟨he, h1, h2⟩
theorem gwrite_nb (q : Option Addr) (a : Int) (s : ByteArray) (w : World) (hG : GD w q none (List.replicate 48 false)) :
    Calls Try.prog 19 #[.pointer q, .int .i64 a, .string s] w fun e w' => e = .returned (.int .i64 4) ∧ Below w.heap.size w w' := by
  have h := gwrite_any q none (List.replicate 48 false) a s w (fun r w' => r = 4 ∧ Below w.heap.size w w') hG
    (fun W hW _ => by
      refine (nob_write none a s W (.inl rfl)).mono ?_
      rintro e w' ⟨he, rfl⟩
      exact ⟨4, he, rfl, hW⟩)
    (fun W _ hi => by rw [tch_zero a s.size] at hi; cases hi)
  refine h.mono ?_
  rintro e w' ⟨r, he, hr, h1⟩
  subst hr
  exact ⟨he, h1⟩
theorem gread_rn (q : Option Addr) (gc : Nat) (K : List Bool) (c : St) (a n : Int) (w : World) (hG : GD w q (some ⟨gc, 0, none⟩) K) (hN : RN w gc c) :
    Calls Try.prog 21 #[.pointer q, .int .i64 a, .int .i64 n] w fun e w' => e = .returned (.tuple #[.string (rdS c a n).1, .int .i64 (rdS c a n).2]) ∧ Below w.heap.size w w' :=
  gread_any q _ K a n _ _ w hG fun W hW => read_any gc c a n W (hN.below hW hN.lt)
theorem gread_nb (q : Option Addr) (a n : Int) (w : World) (hG : GD w q none (List.replicate 48 false)) :
    Calls Try.prog 21 #[.pointer q, .int .i64 a, .int .i64 n] w fun e w' => e = .returned (.tuple #[.string ⟨#[]⟩, .int .i64 4]) ∧ Below w.heap.size w w' :=
  gread_any q none _ a n _ _ w hG fun W _ => nob_read none a n W (.inl rfl)
theorem GD.alloc {w : World} {q p : Option Addr} {K : List Bool} (h : GD w q p K) (o : Obj) : GD (w.alloc o) q p K := h.below ((Below.refl _ _).alloc (Nat.le_refl _) o)
/-- Does an act on a Guard that nobody made have an error? -/
def nbE (kd : Int) : Nat := if kd = 1 ∨ kd = 2 ∨ kd = 3 ∨ kd = 6 then 4 else 0

set_option maxHeartbeats 1600000 in
set_option maxRecDepth 100000 in
theorem gdo_any (q : Option Addr) (g : Nat) (K : List Bool) (c : St) (x : AC) (w : World) (hG : GD w q (some ⟨g, 0, none⟩) K) (h : RN w g c) (ho : c.ops + x.s.size < 4611686018427387904) (hn : x.n < 9223372036854775808) :
    Calls Try.prog 10 #[.pointer q, .pointer (some ⟨g, 0, none⟩), acV x] w fun e w' =>
      e = .returned (.tuple #[.string (doG K c x).2.1, .int .i64 ((doG K c x).2.2 : Int)]) ∧ RN w' g (doG K c x).1 ∧ w.grownBy w' (some g) := by
  obtain ⟨kd, pl, n, s⟩ := x
  simp only [acV] at *
  have HH := Lib.hid (h.alloc (.cells #[.int .i64 kd, .int .i64 pl, .int .i64 n, .string s] 45))
  have HD := Lib.hid (hG.alloc (.cells #[.int .i64 kd, .int .i64 pl, .int .i64 n, .string s] 45))
  have HG := Lib.hid (grown_alloc w (.cells #[.int .i64 kd, .int .i64 pl, .int .i64 n, .string s] 45) (some g))
  by_cases k1 : kd = 1
  · subst k1
    have HR : Hid (doG K c ⟨1, pl, n, s⟩ = ((geS K c pl).1, ⟨#[]⟩, (geS K c pl).2)) := rfl
    rw [HR.out]
    have HC := Lib.hid (gerase_rn q g K c pl _ HD.out HH.out (by omega))
    clear h hG
    go_enter Try.func10, Try.ntmps10
    go_wp2_with fail
    refine HC.out.mono ?_
    rintro e w1 ⟨rfl, hr, hg⟩
    have H1 := Lib.hid hr
    have HG1 := Lib.hid (grown_trans HG.out hg)
    clear hr hg
    go_wp2
    go_ret2
    exact ⟨rfl, H1.out, HG1.out⟩
  · have q1 : (kd == 1) = false := by simpa using k1
    by_cases k2 : kd = 2
    · subst k2
      have HR : Hid (doG K c ⟨2, pl, n, s⟩ = ((gpS K c pl s).1, ⟨#[]⟩, (gpS K c pl s).2)) := rfl
      rw [HR.out]
      have HC := Lib.hid (gprogram_rn q g K c pl s _ HD.out HH.out (by omega))
      clear h hG
      go_enter Try.func10, Try.ntmps10
      go_wp2_with fail
      refine HC.out.mono ?_
      rintro e w1 ⟨rfl, hr, hg⟩
      have H1 := Lib.hid hr
      have HG1 := Lib.hid (grown_trans HG.out hg)
      clear hr hg
      go_wp2
      go_ret2
      exact ⟨rfl, H1.out, HG1.out⟩
    · have q2 : (kd == 2) = false := by simpa using k2
      by_cases k3 : kd = 3
      · subst k3
        have HR : Hid (doG K c ⟨3, pl, n, s⟩ = ((gwS K c pl s).1, ⟨#[]⟩, (gwS K c pl s).2)) := rfl
        rw [HR.out]
        have HC := Lib.hid (gwrite_rn q g K c pl s _ HD.out HH.out ho)
        clear h hG
        go_enter Try.func10, Try.ntmps10
        go_wp2_with fail
        refine HC.out.mono ?_
        rintro e w1 ⟨rfl, hr, hg⟩
        have H1 := Lib.hid hr
        have HG1 := Lib.hid (grown_trans HG.out hg)
        clear hr hg
        go_wp2
        go_ret2
        exact ⟨rfl, H1.out, HG1.out⟩
      · have q3 : (kd == 3) = false := by simpa using k3
        by_cases k4 : kd = 4
        · subst k4
          have HR : Hid (doG K c ⟨4, pl, n, s⟩ = (fuS c n s, ⟨#[]⟩, 0)) := rfl
          rw [HR.out]
          have HC := Lib.hid (fuse_any g c n s _ HH.out hn)
          clear h hG
          go_enter Try.func10, Try.ntmps10
          go_wp2_with fail
          refine HC.out.mono ?_
          rintro e w1 ⟨rfl, hr, hg⟩
          have H1 := Lib.hid hr
          have HG1 := Lib.hid (grown_trans HG.out hg)
          clear hr hg
          go_wp2
          go_ret2
          exact ⟨rfl, H1.out, HG1.out⟩
        · have q4 : (kd == 4) = false := by simpa using k4
          by_cases k5 : kd = 5
          · subst k5
            have HR : Hid (doG K c ⟨5, pl, n, s⟩ = (poS c, ⟨#[]⟩, 0)) := rfl
            rw [HR.out]
            have HC := Lib.hid (power_any g c _ HH.out)
            clear h hG
            go_enter Try.func10, Try.ntmps10
            go_wp2_with fail
            refine HC.out.mono ?_
            rintro e w1 ⟨rfl, hr, hg⟩
            have H1 := Lib.hid hr
            have HG1 := Lib.hid (grown_trans HG.out hg)
            clear hr hg
            go_wp2
            go_ret2
            exact ⟨rfl, H1.out, HG1.out⟩
          · have q5 : (kd == 5) = false := by simpa using k5
            by_cases k6 : kd = 6
            · subst k6
              have HR : Hid (doG K c ⟨6, pl, n, s⟩ = (c, rdS c pl n)) := rfl
              rw [HR.out]
              have HC := Lib.hid (gread_rn q g K c pl n _ HD.out HH.out)
              generalize rdS c pl n = r at *
              clear h hG
              go_enter Try.func10, Try.ntmps10
              go_wp2_with fail
              refine HC.out.mono ?_
              rintro e w1 ⟨rfl, hb⟩
              have H1 := Lib.hid (HH.out.below hb HH.out.lt)
              have HG1 := Lib.hid (grown_trans HG.out (grown_below hb))
              clear hb
              go_wp2
              go_ret2
              exact ⟨rfl, H1.out, HG1.out⟩
            · have q6 : (kd == 6) = false := by simpa using k6
              have HR : Hid (doG K c ⟨kd, pl, n, s⟩ = (c, ⟨#[]⟩, 0)) := by unfold Hid doG; simp only [if_neg k1, if_neg k2, if_neg k3, if_neg k4, if_neg k5, if_neg k6]
              rw [HR.out]
              clear h hG k1 k2 k3 k4 k5 k6
              go_enter Try.func10, Try.ntmps10
              go_wp2
              go_ret2
              exact ⟨rfl, HH.out, HG.out⟩
set_option maxHeartbeats 1600000 in
set_option maxRecDepth 100000 in
theorem gdo_nb (q : Option Addr) (x : AC) (w : World) (h : GD w q none (List.replicate 48 false)) :
    Calls Try.prog 10 #[.pointer q, .pointer none, acV x] w fun e w' => e = .returned (.tuple #[.string ⟨#[]⟩, .int .i64 (nbE x.kind : Int)]) ∧ Below w.heap.size w w' := by
  obtain ⟨kd, pl, n, s⟩ := x
  simp only [acV] at *
  have HH := Lib.hid (h.alloc (.cells #[.int .i64 kd, .int .i64 pl, .int .i64 n, .string s] 45))
  have HG := Lib.hid ((Below.refl w.heap.size w).alloc (Nat.le_refl _) (.cells #[.int .i64 kd, .int .i64 pl, .int .i64 n, .string s] 45))
  clear h
  by_cases k1 : kd = 1
  · subst k1
    have HR : Hid (nbE 1 = 4) := rfl
    rw [HR.out]
    have HC := Lib.hid (gerase_nb q pl _ HH.out)
    go_enter Try.func10, Try.ntmps10
    go_wp2_with fail
    refine HC.out.mono ?_
    rintro e w1 ⟨rfl, hb⟩
    have HG1 := Lib.hid (HG.out.trans (hb.mono HG.out.size))
    clear hb
    go_wp2
    go_ret2
    exact ⟨rfl, HG1.out⟩
  · have q1 : (kd == 1) = false := by simpa using k1
    by_cases k2 : kd = 2
    · subst k2
      have HR : Hid (nbE 2 = 4) := rfl
      rw [HR.out]
      have HC := Lib.hid (gprogram_nb q pl s _ HH.out)
      go_enter Try.func10, Try.ntmps10
      go_wp2_with fail
      refine HC.out.mono ?_
      rintro e w1 ⟨rfl, hb⟩
      have HG1 := Lib.hid (HG.out.trans (hb.mono HG.out.size))
      clear hb
      go_wp2
      go_ret2
      exact ⟨rfl, HG1.out⟩
    · have q2 : (kd == 2) = false := by simpa using k2
      by_cases k3 : kd = 3
      · subst k3
        have HR : Hid (nbE 3 = 4) := rfl
        rw [HR.out]
        have HC := Lib.hid (gwrite_nb q pl s _ HH.out)
        go_enter Try.func10, Try.ntmps10
        go_wp2_with fail
        refine HC.out.mono ?_
        rintro e w1 ⟨rfl, hb⟩
        have HG1 := Lib.hid (HG.out.trans (hb.mono HG.out.size))
        clear hb
        go_wp2
        go_ret2
        exact ⟨rfl, HG1.out⟩
      · have q3 : (kd == 3) = false := by simpa using k3
        by_cases k4 : kd = 4
        · subst k4
          have HR : Hid (nbE 4 = 0) := rfl
          rw [HR.out]
          have HC := Lib.hid (fun W => nob_fuse none n s W (.inl rfl))
          go_enter Try.func10, Try.ntmps10
          go_wp2_with fail
          refine (HC.out _).mono ?_
          rintro e w1 ⟨rfl, rfl⟩
          go_wp2
          go_ret2
          exact ⟨rfl, HG.out⟩
        · have q4 : (kd == 4) = false := by simpa using k4
          by_cases k5 : kd = 5
          · subst k5
            have HR : Hid (nbE 5 = 0) := rfl
            rw [HR.out]
            have HC := Lib.hid (fun W => nob_power none W (.inl rfl))
            go_enter Try.func10, Try.ntmps10
            go_wp2_with fail
            refine (HC.out _).mono ?_
            rintro e w1 ⟨rfl, rfl⟩
            go_wp2
            go_ret2
            exact ⟨rfl, HG.out⟩
          · have q5 : (kd == 5) = false := by simpa using k5
            by_cases k6 : kd = 6
            · subst k6
              have HR : Hid (nbE 6 = 4) := rfl
              rw [HR.out]
              have HC := Lib.hid (gread_nb q pl n _ HH.out)
              go_enter Try.func10, Try.ntmps10
              go_wp2_with fail
              refine HC.out.mono ?_
              rintro e w1 ⟨rfl, hb⟩
              have HG1 := Lib.hid (HG.out.trans (hb.mono HG.out.size))
              clear hb
              go_wp2
              go_ret2
              exact ⟨rfl, HG1.out⟩
            · have q6 : (kd == 6) = false := by simpa using k6
              have HR : Hid (nbE kd = 0) := by unfold Hid nbE; rw [if_neg (by omega)]
              rw [HR.out]
              clear k1 k2 k3 k4 k5 k6
              go_enter Try.func10, Try.ntmps10
              go_wp2
              go_ret2
              exact ⟨rfl, HG.out⟩
end Go.Proofs.Ytmfmkhbpaeckoaa
