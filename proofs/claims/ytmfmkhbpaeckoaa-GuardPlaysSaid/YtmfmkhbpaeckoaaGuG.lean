/- What the law's wants does with the document's guard. Conditions: a slice that reads as numbers; fewer than 2^61 operations, at most 200 bytes, numbers of 64 bits. -/
import Derived.Test.YtmfmkhbpaeckoaaGuF
namespace Go.Proofs.Ytmfmkhbpaeckoaa
open Go.RowKit

set_option maxHeartbeats 1600000 in
set_option maxRecDepth 100000 in
theorem gwants_any (gg g : Nat) (A : Option Addr) (cap : Nat) (L : List Int) (c : St) (x : AC) (w : World) (hG : RG w gg g A cap L) (hl : L.length ≤ maxLen) (h : RR w g c) (ho : c.ops + x.s.size < 4611686018427387904) (hn : x.n < 9223372036854775808) (hp : -9223372036854775808 ≤ x.pl) (hss : x.s.size ≤ 200) :
    Calls Try.prog 11 #[.pointer (some ⟨gg, 0, none⟩), acV x] w fun e w' =>
      e = .returned (.tuple #[.string (doG (lkL L) c x).2.1, .int .i64 ((doG (lkL L) c x).2.2 : Int)]) ∧ RR w' g (doG (lkL L) c x).1 ∧ w.grownBy w' (some g) := by
  obtain ⟨kd, pl, n, s⟩ := x
  simp only [acV] at *
  have HH := Lib.hid (h.alloc (.cells #[.int .i64 kd, .int .i64 pl, .int .i64 n, .string s] 45))
  have HD := Lib.hid (hG.alloc (.cells #[.int .i64 kd, .int .i64 pl, .int .i64 n, .string s] 45))
  have c0 : (w.alloc (.cells #[.int .i64 kd, .int .i64 pl, .int .i64 n, .string s] 45)).cell? ⟨gg, 0, none⟩ = some (.pointer (some ⟨g, 0, none⟩)) := HD.out.1.cell 0
  have HG := Lib.hid (grown_alloc w (.cells #[.int .i64 kd, .int .i64 pl, .int .i64 n, .string s] 45) (some g))
  by_cases k1 : kd = 1
  · subst k1
    have HR : Hid (doG (lkL L) c ⟨1, pl, n, s⟩ = ((geS (lkL L) c pl).1, ⟨#[]⟩, (geS (lkL L) c pl).2)) := rfl
    rw [HR.out]
    have HC := Lib.hid (rgerase_any gg g A cap L c pl _ HD.out hl HH.out (by omega))
    clear h hG
    go_enter Try.func11, Try.ntmps11
    go_wp2_with fail
    refine HC.out.mono ?_
    rintro e w1 ⟨rfl, hr, hg⟩
    have H1 := Lib.hid hr
    have HG1 := Lib.hid (grown_trans HG.out hg)
    clear hr hg
    go_wp2
    go_ret2
    exact ⟨rfl, H1.out, HG1.out⟩
  · have q1 : (kd == 1) = false := by simpa using k1
    by_cases k2 : kd = 2
    · subst k2
      have HR : Hid (doG (lkL L) c ⟨2, pl, n, s⟩ = ((gpS (lkL L) c pl s).1, ⟨#[]⟩, (gpS (lkL L) c pl s).2)) := rfl
      rw [HR.out]
      have HC := Lib.hid (rgprogram_any gg g A cap L c pl s _ HD.out hl HH.out (by omega) hp)
      clear h hG
      go_enter Try.func11, Try.ntmps11
      go_wp2_with fail
      refine HC.out.mono ?_
      rintro e w1 ⟨rfl, hr, hg⟩
      have H1 := Lib.hid hr
      have HG1 := Lib.hid (grown_trans HG.out hg)
      clear hr hg
      go_wp2
      go_ret2
      exact ⟨rfl, H1.out, HG1.out⟩
    · have q2 : (kd == 2) = false := by simpa using k2
      by_cases k3 : kd = 3
      · subst k3
        have HR : Hid (doG (lkL L) c ⟨3, pl, n, s⟩ = ((gwS (lkL L) c pl s).1, ⟨#[]⟩, (gwS (lkL L) c pl s).2)) := rfl
        rw [HR.out]
        have HC := Lib.hid (rgwrite_any gg g A cap L c pl s _ HD.out hl HH.out ho hp hss)
        clear h hG
        go_enter Try.func11, Try.ntmps11
        go_wp2_with fail
        refine HC.out.mono ?_
        rintro e w1 ⟨rfl, hr, hg⟩
        have H1 := Lib.hid hr
        have HG1 := Lib.hid (grown_trans HG.out hg)
        clear hr hg
        go_wp2
        go_ret2
        exact ⟨rfl, H1.out, HG1.out⟩
      · have q3 : (kd == 3) = false := by simpa using k3
        by_cases k4 : kd = 4
        · subst k4
          have HR : Hid (doG (lkL L) c ⟨4, pl, n, s⟩ = (fuS c n s, ⟨#[]⟩, 0)) := rfl
          rw [HR.out]
          have HC := Lib.hid (fun W (hW : RR W g c) => refset_any g c n s W hW hn)
          clear h hG
          go_enter Try.func11, Try.ntmps11
          go_wp2_with fail
          have a2 : (w.alloc (.cells #[.int .i64 4, .int .i64 pl, .int .i64 n, .string s] 45)).cell? ⟨w.heap.size, 2, none⟩ = some (.int .i64 n) := (Arr.new w _ _).cell 2
          have a3 : (w.alloc (.cells #[.int .i64 4, .int .i64 pl, .int .i64 n, .string s] 45)).cell? ⟨w.heap.size, 3, none⟩ = some (.string s) := (Arr.new w _ _).cell 3
          generalize w.alloc (.cells #[.int .i64 4, .int .i64 pl, .int .i64 n, .string s] 45) = W1 at *
          go_still_tail 8, (by kernel_rfl)
          change wpList _ _ _ _ _ W1.drew
          have HH2 := Lib.hid (HH.out.below (Below.refl _ W1).drew HH.out.lt)
          have HG := Lib.hid (grown_trans HG.out (grown_below (r := some g) (Below.refl _ W1).drew))
          clear a2 a3 c0 HH HD
          generalize W1.drew = W2 at *
          go_wp2_with fail
          refine (HC.out _ HH2.out).mono ?_
          rintro e w1 ⟨rfl, hr, hg⟩
          have H1 := Lib.hid hr
          have HG1 := Lib.hid (grown_trans HG.out hg)
          clear hr hg
          go_wp2
          go_ret2
          exact ⟨rfl, H1.out, HG1.out⟩
        · have q4 : (kd == 4) = false := by simpa using k4
          by_cases k5 : kd = 5
          · subst k5
            have HR : Hid (doG (lkL L) c ⟨5, pl, n, s⟩ = (poS c, ⟨#[]⟩, 0)) := rfl
            rw [HR.out]
            have HC := Lib.hid (refpower_any g c _ HH.out)
            clear h hG
            go_enter Try.func11, Try.ntmps11
            go_wp2_with fail
            refine HC.out.mono ?_
            rintro e w1 ⟨rfl, hr, hg⟩
            have H1 := Lib.hid hr
            have HG1 := Lib.hid (grown_trans HG.out hg)
            clear hr hg
            go_wp2
            go_ret2
            exact ⟨rfl, H1.out, HG1.out⟩
          · have q5 : (kd == 5) = false := by simpa using k5
            by_cases k6 : kd = 6
            · subst k6
              have HR : Hid (doG (lkL L) c ⟨6, pl, n, s⟩ = (c, rdS c pl n)) := rfl
              rw [HR.out]
              have HC : Hid (∀ m, Calls Try.prog 30 #[.pointer (some ⟨g, 0, none⟩), .int .i64 pl, .int .i64 n] ((w.alloc (.cells #[.int .i64 6, .int .i64 pl, .int .i64 n, .string s] 45)).drewN m) fun e w' => e = .returned (.tuple #[.string (rdS c pl n).1, .int .i64 (rdS c pl n).2]) ∧ ∃ m, w' = (w.alloc (.cells #[.int .i64 6, .int .i64 pl, .int .i64 n, .string s] 45)).drewN m) :=
                fun m => (refread_any g c pl n _ (HH.out.below (below_drewN _ m) HH.out.lt) hp).mono fun _ _ ⟨h1, h2⟩ => ⟨h1, m, h2.symm⟩
              generalize rdS c pl n = r at *
              clear h hG
              go_enter Try.func11, Try.ntmps11
              go_wp2_with fail
              go_quiet ((go_at_call 30; exact HC.out _))
              have HH2 := Lib.hid (HH.out.below (below_drewN _ nq) HH.out.lt)
              have HG2 := Lib.hid (grown_trans HG.out (grown_below (r := some g) (below_drewN _ nq)))
              go_wp2
              go_ret2
              exact ⟨rfl, HH2.out, HG2.out⟩
            · have q6 : (kd == 6) = false := by simpa using k6
              have HR : Hid (doG (lkL L) c ⟨kd, pl, n, s⟩ = (c, ⟨#[]⟩, 0)) := by unfold Hid doG; simp only [if_neg k1, if_neg k2, if_neg k3, if_neg k4, if_neg k5, if_neg k6]
              rw [HR.out]
              clear h hG k1 k2 k3 k4 k5 k6
              go_enter Try.func11, Try.ntmps11
              go_wp2
              go_ret2
              exact ⟨rfl, HH.out, HG.out⟩
end Go.Proofs.Ytmfmkhbpaeckoaa
