/- What the law's wants does with the document's Chip, and its do with a Chip that nobody made. Conditions: wants: fewer than 2^61 operations, at most 200 bytes, numbers of 64 bits. -/
import Derived.Test.YtegbkanfdodpcaaNorS
namespace Go.Proofs.Ytegbkanfdodpcaa
open Go.RowKit

set_option maxHeartbeats 1600000 in
set_option maxRecDepth 100000 in
theorem wants_any (g : Nat) (c : St) (x : AC) (w : World) (h : RR w g c) (ho : c.ops + x.s.size < 4611686018427387904) (hn : x.n < 9223372036854775808) (hp : -9223372036854775808 ≤ x.pl) (hss : x.s.size ≤ 200) :
    Calls Try.prog 11 #[.pointer (some ⟨g, 0, none⟩), acV x] w fun e w' =>
      e = .returned (.tuple #[.string (doS c x).2.1, .int .i64 ((doS c x).2.2 : Int)]) ∧ RR w' g (doS c x).1 ∧ w.grownBy w' (some g) := by
  obtain ⟨kd, pl, n, s⟩ := x
  simp only [acV] at *
  have HH := Lib.hid (h.alloc (.cells #[.int .i64 kd, .int .i64 pl, .int .i64 n, .string s] 37))
  have HG := Lib.hid (grown_alloc w (.cells #[.int .i64 kd, .int .i64 pl, .int .i64 n, .string s] 37) (some g))
  by_cases k1 : kd = 1
  · subst k1
    have HR : Hid (doS c ⟨1, pl, n, s⟩ = ((erS c pl).1, ⟨#[]⟩, (erS c pl).2)) := rfl
    rw [HR.out]
    have HC := Lib.hid (referase_any g c pl _ HH.out (by omega))
    clear h
    go_enter Try.func11, Try.ntmps11
    go_wp2_with fail
    refine HC.out.mono ?_
    rintro e w1 ⟨rfl, hr, hg⟩
    have H1 := Lib.hid hr
    have HG1 := Lib.hid (grown_trans HG.out hg)
    clear hr hg
    go_wp2
    go_ret2
    exact ⟨rfl, H1.out, HG1.out⟩
  · have q1 : (kd == 1) = false := by simpa using k1
    by_cases k2 : kd = 2
    · subst k2
      have HR : Hid (doS c ⟨2, pl, n, s⟩ = ((prS c pl s).1, ⟨#[]⟩, (prS c pl s).2)) := rfl
      rw [HR.out]
      have HC := Lib.hid (refprogram_any g c pl s _ HH.out (by omega) hp)
      clear h
      go_enter Try.func11, Try.ntmps11
      go_wp2_with fail
      refine HC.out.mono ?_
      rintro e w1 ⟨rfl, hr, hg⟩
      have H1 := Lib.hid hr
      have HG1 := Lib.hid (grown_trans HG.out hg)
      clear hr hg
      go_wp2
      go_ret2
      exact ⟨rfl, H1.out, HG1.out⟩
    · have q2 : (kd == 2) = false := by simpa using k2
      by_cases k3 : kd = 3
      · subst k3
        have HR : Hid (doS c ⟨3, pl, n, s⟩ = ((wrS c pl s).1, ⟨#[]⟩, (wrS c pl s).2)) := rfl
        rw [HR.out]
        have HC := Lib.hid (refwrite_any g c pl s _ HH.out ho hp hss)
        clear h
        go_enter Try.func11, Try.ntmps11
        go_wp2_with fail
        refine HC.out.mono ?_
        rintro e w1 ⟨rfl, hr, hg⟩
        have H1 := Lib.hid hr
        have HG1 := Lib.hid (grown_trans HG.out hg)
        clear hr hg
        go_wp2
        go_ret2
        exact ⟨rfl, H1.out, HG1.out⟩
      · have q3 : (kd == 3) = false := by simpa using k3
        by_cases k4 : kd = 4
        · subst k4
          have HR : Hid (doS c ⟨4, pl, n, s⟩ = (fuS c n s, ⟨#[]⟩, 0)) := rfl
          rw [HR.out]
          have HC := Lib.hid (refset_any g c n s _ HH.out hn)
          clear h
          go_enter Try.func11, Try.ntmps11
          go_wp2_with fail
          refine HC.out.mono ?_
          rintro e w1 ⟨rfl, hr, hg⟩
          have H1 := Lib.hid hr
          have HG1 := Lib.hid (grown_trans HG.out hg)
          clear hr hg
          go_wp2
          go_ret2
          exact ⟨rfl, H1.out, HG1.out⟩
        · have q4 : (kd == 4) = false := by simpa using k4
          by_cases k5 : kd = 5
          · subst k5
            have HR : Hid (doS c ⟨5, pl, n, s⟩ = (poS c, ⟨#[]⟩, 0)) := rfl
            rw [HR.out]
            have HC := Lib.hid (refpower_any g c _ HH.out)
            clear h
            go_enter Try.func11, Try.ntmps11
            go_wp2_with fail
            refine HC.out.mono ?_
            rintro e w1 ⟨rfl, hr, hg⟩
            have H1 := Lib.hid hr
            have HG1 := Lib.hid (grown_trans HG.out hg)
            clear hr hg
            go_wp2
            go_ret2
            exact ⟨rfl, H1.out, HG1.out⟩
          · have q5 : (kd == 5) = false := by simpa using k5
            by_cases k6 : kd = 6
            · subst k6
              have HR : Hid (doS c ⟨6, pl, n, s⟩ = (c, rdS c pl n)) := rfl
              rw [HR.out]
              have HC := Lib.hid (refread_any g c pl n _ HH.out hp)
              generalize rdS c pl n = r at *
              clear h
              go_enter Try.func11, Try.ntmps11
              go_wp2_with fail
              refine HC.out.mono ?_
              rintro e w1 ⟨rfl, rfl⟩
              go_wp2
              go_ret2
              exact ⟨rfl, HH.out, HG.out⟩
            · have q6 : (kd == 6) = false := by simpa using k6
              have HR : Hid (doS c ⟨kd, pl, n, s⟩ = (c, ⟨#[]⟩, 0)) := by unfold Hid doS; simp only [if_neg k1, if_neg k2, if_neg k3, if_neg k4, if_neg k5, if_neg k6]
              rw [HR.out]
              clear h k1 k2 k3 k4 k5 k6
              go_enter Try.func11, Try.ntmps11
              go_wp2
              go_ret2
              exact ⟨rfl, HH.out, HG.out⟩
/-- Does an act on a Chip that nobody made have an error? -/
def nbE (kd : Int) : Nat := if kd = 1 ∨ kd = 2 ∨ kd = 3 ∨ kd = 6 then 4 else 0
theorem Nob.below {p : Option Addr} {w w' : World} (h : Nob w p) (hb : Below w.heap.size w w') : Nob w' p := by
  rcases h with h | ⟨g, h, hA⟩
  · exact .inl h
  · exact .inr ⟨g, h, hA.below hb hA.lt⟩

set_option maxHeartbeats 1600000 in
set_option maxRecDepth 100000 in
theorem nob_do (p : Option Addr) (x : AC) (w : World) (h : Nob w p) :
    Calls Try.prog 10 #[.pointer p, acV x] w fun e w' => e = .returned (.tuple #[.string ⟨#[]⟩, .int .i64 (nbE x.kind : Int)]) ∧ Below w.heap.size w w' := by
  obtain ⟨kd, pl, n, s⟩ := x
  simp only [acV] at *
  have HH := Lib.hid (h.alloc (.cells #[.int .i64 kd, .int .i64 pl, .int .i64 n, .string s] 37))
  have HG := Lib.hid ((Below.refl w.heap.size w).alloc (Nat.le_refl _) (.cells #[.int .i64 kd, .int .i64 pl, .int .i64 n, .string s] 37))
  clear h
  by_cases k1 : kd = 1
  · subst k1
    have HR : Hid (nbE 1 = 4) := rfl
    rw [HR.out]
    have HC := Lib.hid (nob_erase p pl _ HH.out)
    go_enter Try.func10, Try.ntmps10
    go_wp2_with fail
    refine HC.out.mono ?_
    rintro e w1 ⟨rfl, rfl⟩
    go_wp2
    go_ret2
    exact ⟨rfl, HG.out⟩
  · have q1 : (kd == 1) = false := by simpa using k1
    by_cases k2 : kd = 2
    · subst k2
      have HR : Hid (nbE 2 = 4) := rfl
      rw [HR.out]
      have HC := Lib.hid (nob_program p pl s _ HH.out)
      go_enter Try.func10, Try.ntmps10
      go_wp2_with fail
      refine HC.out.mono ?_
      rintro e w1 ⟨rfl, hb⟩
      have HG1 := Lib.hid (HG.out.trans (hb.mono HG.out.size))
      clear hb
      go_wp2
      go_ret2
      exact ⟨rfl, HG1.out⟩
    · have q2 : (kd == 2) = false := by simpa using k2
      by_cases k3 : kd = 3
      · subst k3
        have HR : Hid (nbE 3 = 4) := rfl
        rw [HR.out]
        have HC := Lib.hid (nob_write p pl s _ HH.out)
        go_enter Try.func10, Try.ntmps10
        go_wp2_with fail
        refine HC.out.mono ?_
        rintro e w1 ⟨rfl, rfl⟩
        go_wp2
        go_ret2
        exact ⟨rfl, HG.out⟩
      · have q3 : (kd == 3) = false := by simpa using k3
        by_cases k4 : kd = 4
        · subst k4
          have HR : Hid (nbE 4 = 0) := rfl
          rw [HR.out]
          have HC := Lib.hid (nob_fuse p n s _ HH.out)
          go_enter Try.func10, Try.ntmps10
          go_wp2_with fail
          refine HC.out.mono ?_
          rintro e w1 ⟨rfl, rfl⟩
          go_wp2
          go_ret2
          exact ⟨rfl, HG.out⟩
        · have q4 : (kd == 4) = false := by simpa using k4
          by_cases k5 : kd = 5
          · subst k5
            have HR : Hid (nbE 5 = 0) := rfl
            rw [HR.out]
            have HC := Lib.hid (nob_power p _ HH.out)
            go_enter Try.func10, Try.ntmps10
            go_wp2_with fail
            refine HC.out.mono ?_
            rintro e w1 ⟨rfl, rfl⟩
            go_wp2
            go_ret2
            exact ⟨rfl, HG.out⟩
          · have q5 : (kd == 5) = false := by simpa using k5
            by_cases k6 : kd = 6
            · subst k6
              have HR : Hid (nbE 6 = 4) := rfl
              rw [HR.out]
              have HC := Lib.hid (nob_read p pl n _ HH.out)
              go_enter Try.func10, Try.ntmps10
              go_wp2_with fail
              refine HC.out.mono ?_
              rintro e w1 ⟨rfl, rfl⟩
              go_wp2
              go_ret2
              exact ⟨rfl, HG.out⟩
            · have q6 : (kd == 6) = false := by simpa using k6
              have HR : Hid (nbE kd = 0) := by unfold Hid nbE; rw [if_neg (by omega)]
              rw [HR.out]
              clear k1 k2 k3 k4 k5 k6
              go_enter Try.func10, Try.ntmps10
              go_wp2
              go_ret2
              exact ⟨rfl, HG.out⟩
end Go.Proofs.Ytegbkanfdodpcaa
