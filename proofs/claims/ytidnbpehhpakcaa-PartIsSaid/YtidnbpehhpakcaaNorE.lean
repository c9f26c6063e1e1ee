/- What nor's Erase, Program and Write do. Condition: fewer than 2^61 operations. -/
import Derived.Test.YtidnbpehhpakcaaNorD
namespace Go.Proofs.Ytidnbpehhpakcaa
open Go.RowKit

set_option maxHeartbeats 800000 in
set_option maxRecDepth 100000 in
theorem erase_any (g : Nat) (c : St) (s : Int) (w : World) (h : RN w g c) (ho : c.ops < 4611686018427387904) : Calls Try.prog 60 #[.pointer (some ⟨g, 0, none⟩), .int .i64 s] w fun e w' =>
    e = .returned (.int .i64 ((erS c s).2 : Int)) ∧ RN w' g (erS c s).1 ∧ w.grownBy w' (some g) := by
  have HON := Lib.hid (on_any g c w h)
  by_cases hon : c.on = false
  · have HR : Hid (erS c s = (c, 4)) := by unfold Hid erS; rw [if_pos hon]
    rw [HR.out]
    rw [hon] at HON
    have HH := Lib.hid h
    clear h hon
    go_enter Try.func60, Try.ntmps60
    go_wp2_with fail
    refine HON.out.mono ?_
    rintro e w1 ⟨rfl, rfl⟩
    go_wp2
    go_ret
    exact ⟨rfl, HH.out, grown_refl _ _⟩
  · have hon2 : c.on = true := by simpa using hon
    rw [hon2] at HON
    by_cases hs : s < 0 ∨ 48 ≤ s
    · have HR : Hid (erS c s = (c, 2)) := by unfold Hid erS; rw [if_neg hon, if_pos hs]
      rw [HR.out]
      have HH := Lib.hid h
      by_cases hs0 : s < 0
      · have hd : decide (s < 0) = true := decide_eq_true hs0
        clear h hon hs
        go_enter Try.func60, Try.ntmps60
        go_wp2_with fail
        refine HON.out.mono ?_
        rintro e w1 ⟨rfl, rfl⟩
        go_wp2
        go_ret
        exact ⟨rfl, HH.out, grown_refl _ _⟩
      · have hd : decide (s < 0) = false := decide_eq_false hs0
        have hd2 : decide (48 ≤ s) = true := decide_eq_true (by omega)
        clear h hon hs
        go_enter Try.func60, Try.ntmps60
        go_wp2_with fail
        refine HON.out.mono ?_
        rintro e w1 ⟨rfl, rfl⟩
        go_wp2
        go_ret
        exact ⟨rfl, HH.out, grown_refl _ _⟩
    · obtain ⟨x, rfl⟩ := Int.eq_ofNat_of_zero_le (show 0 ≤ s by omega)
      have hx : x < 48 := by omega
      have HR : Hid (erS c (x : Int) = oper c (x * 512) 512 erF erT) := by unfold Hid erS; rw [if_neg hon, if_neg hs, Int.toNat_natCast]
      have hop := operate_any g c (x * 512) 512 _ _ erF erT w h hon2 ho (by decide) (by omega) (er1_fun g w 512) (er2_fun g w 512)
      rw [HR.out]
      obtain ⟨y, hy0⟩ : ∃ y, x * 512 = y := ⟨_, rfl⟩
      have hy : (x : Int) * 512 = (y : Int) := by omega
      rw [hy0] at hop ⊢
      clear hy0 HR
      have HO := Lib.hid hop
      have hd : decide ((x : Int) < 0) = false := decide_eq_false (by omega)
      have hd2 : decide (48 ≤ (x : Int)) = false := decide_eq_false (by omega)
      clear hs hon hon2 hop h
      go_enter Try.func60, Try.ntmps60
      go_wp2_with fail
      refine HON.out.mono ?_
      rintro e w1 ⟨rfl, rfl⟩
      go_wp2_with fail
      refine HO.out.mono ?_
      rintro e w1 ⟨rfl, hN, hg⟩
      have HN := Lib.hid hN
      clear hN
      go_wp2
      go_ret
      exact ⟨rfl, HN.out, hg⟩
theorem beq0_true {x : Nat} (h : x = 0) : ((x : Int) == 0) = true := by subst h; rfl
theorem beq0_false {x : Nat} (h : x ≠ 0) : ((x : Int) == 0) = false := by simp; omega
theorem room_quiet (a : Nat) (w : World) (n : Nat) (r : Nat) (hr : 32 - a % 32 = r) : Calls Try.prog 63 #[.int .i64 a] (w.drewN n) fun e w' => e = .returned (.int .i64 r) ∧ ∃ m, w' = w.drewN m :=
  (room_any a _ r hr).mono fun _ _ ⟨he, hw⟩ => ⟨he, n, hw.symm⟩

set_option maxHeartbeats 800000 in
set_option maxRecDepth 100000 in
theorem program_any (g : Nat) (c : St) (a : Int) (s : ByteArray) (w : World) (h : RN w g c) (ho : c.ops < 4611686018427387904) : Calls Try.prog 64 #[.pointer (some ⟨g, 0, none⟩), .int .i64 a, .string s] w fun e w' =>
    e = .returned (.int .i64 ((prS c a s).2 : Int)) ∧ RN w' g (prS c a s).1 ∧ w.grownBy w' (some g) := by
  have HON := Lib.hid (on_any g c (w.alloc (.cells #[.string s] 9)) (h.alloc _))
  have HH := Lib.hid (h.alloc (.cells #[.string s] 9))
  have HGR := Lib.hid (grown_alloc w (.cells #[.string s] 9) (some g))
  have HTH := Lib.hid (there_any a s.size)
  by_cases hon : c.on = false
  · have HR : Hid (prS c a s = (c, 4)) := by unfold Hid prS; rw [if_pos hon]
    rw [HR.out]
    rw [hon] at HON
    clear h hon
    go_enter Try.func64, Try.ntmps64
    go_wp2_with fail
    refine HON.out.mono ?_
    rintro e w1 ⟨rfl, rfl⟩
    go_wp2
    go_ret
    exact ⟨rfl, HH.out, HGR.out⟩
  · have hon2 : c.on = true := by simpa using hon
    rw [hon2] at HON
    by_cases hs : s.size = 0 ∨ 32 < s.size
    · have HR : Hid (prS c a s = (c, 1)) := by unfold Hid prS; rw [if_neg hon, if_pos hs]
      rw [HR.out]
      by_cases hs0 : s.size = 0
      · have hd : ((s.size : Int) == 0) = true := beq0_true (by omega)
        clear h hon hs hs0
        go_enter Try.func64, Try.ntmps64
        go_wp2_with fail
        refine HON.out.mono ?_
        rintro e w1 ⟨rfl, rfl⟩
        go_wp2
        go_ret
        exact ⟨rfl, HH.out, HGR.out⟩
      · have hd : ((s.size : Int) == 0) = false := beq0_false (by omega)
        have hd2 : decide ((32 : Int) < s.size) = true := decide_eq_true (by omega)
        clear h hon hs hs0
        go_enter Try.func64, Try.ntmps64
        go_wp2_with fail
        refine HON.out.mono ?_
        rintro e w1 ⟨rfl, rfl⟩
        go_wp2
        go_ret
        exact ⟨rfl, HH.out, HGR.out⟩
    · have hd : ((s.size : Int) == 0) = false := beq0_false (by omega)
      have hd2 : decide ((32 : Int) < s.size) = false := decide_eq_false (by omega)
      by_cases ht : thr a s.size = false
      · have HR : Hid (prS c a s = (c, 2)) := by unfold Hid prS; rw [if_neg hon, if_neg hs, if_pos ht]
        rw [HR.out]
        rw [ht] at HTH
        clear h hon hs ht
        go_enter Try.func64, Try.ntmps64
        go_wp2_with fail
        refine HON.out.mono ?_
        rintro e w1 ⟨rfl, rfl⟩
        go_wp2_with fail
        refine (HTH.out _).mono ?_
        rintro e w1 ⟨rfl, rfl⟩
        go_wp2
        go_ret
        exact ⟨rfl, HH.out, HGR.out⟩
      · have ht2 : thr a s.size = true := by simpa using ht
        have hb := thr_true ht2
        obtain ⟨x, rfl⟩ := Int.eq_ofNat_of_zero_le hb.1
        obtain ⟨r, hr⟩ : ∃ r, 32 - x % 32 = r := ⟨_, rfl⟩
        have HRQ := Lib.hid (fun W n => room_quiet x W n r hr)
        have hr32 : r ≤ 32 := by omega
        rw [ht2] at HTH
        have hgl := h.lt
        have hc0 : (w.alloc (.cells #[.string s] 9)).cell? ⟨w.heap.size, 0, none⟩ = some (.string s) := by rw [World.cell?_alloc_mark]; rfl
        by_cases hrs : r < s.size
        · have HR : Hid (prS c (x : Int) s = (c, 1)) := by unfold Hid prS; rw [if_neg hon, if_neg hs, if_neg ht, if_pos (by rw [Int.toNat_natCast, hr]; exact hrs)]
          rw [HR.out]
          have hd3 : decide ((r : Int) < s.size) = true := decide_eq_true (by omega)
          clear h hon hs ht hb ht2 hr
          go_enter Try.func64, Try.ntmps64
          go_wp2_with fail
          refine HON.out.mono ?_
          rintro e w1 ⟨rfl, rfl⟩
          go_wp2_with fail
          refine (HTH.out _).mono ?_
          rintro e w1 ⟨rfl, rfl⟩
          go_wp2
          generalize w.alloc (.cells #[.string s] 9) = W at *
          go_quiet ((go_at_call 63; exact HRQ.out _ _))
          go_wp2
          go_ret
          exact ⟨rfl, HH.out.below (below_drewN _ _) HH.out.lt, grown_trans HGR.out (grown_below (below_drewN _ _))⟩
        · have HR : Hid (prS c (x : Int) s = oper c x s.size (prF s) (prT s)) := by unfold Hid prS; rw [if_neg hon, if_neg hs, if_neg ht, if_neg (by rw [Int.toNat_natCast, hr]; exact hrs), Int.toNat_natCast]
          rw [HR.out]
          have hd3 : decide ((r : Int) < s.size) = false := decide_eq_false (by omega)
          have HOP : Hid (∀ nq, Calls Try.prog 67 #[.pointer (some ⟨g, 0, none⟩), .int .i64 (x : Int), .int .i64 (s.size : Int), .func (.func 68) #[] #[.pointer (some ⟨w.heap.size, 0, none⟩)], .func (.func 69) #[] #[.pointer (some ⟨w.heap.size, 0, none⟩)]] ((w.alloc (.cells #[.string s] 9)).drewN nq) fun e w' =>
              e = .returned (.int .i64 ((oper c x s.size (prF s) (prT s)).2 : Int)) ∧ RN w' g (oper c x s.size (prF s) (prT s)).1 ∧ ((w.alloc (.cells #[.string s] 9)).drewN nq).grownBy w' (some g)) := by
            intro nq
            have hAb : Arr ((w.alloc (.cells #[.string s] 9)).drewN nq) w.heap.size 9 #[.string s] := (Arr.new w _ _).drewN nq
            exact operate_any g c x s.size _ _ _ _ _ (HH.out.below (below_drewN _ _) HH.out.lt) hon2 ho (by omega) (by omega) (pr1_fun g w.heap.size _ s hAb (by omega) _ (Nat.le_refl _)) (pr2_fun g w.heap.size _ s hAb (by omega) _ (Nat.le_refl _))
          clear h hon hs ht hb ht2 hr
          go_enter Try.func64, Try.ntmps64
          go_wp2_with fail
          refine HON.out.mono ?_
          rintro e w1 ⟨rfl, rfl⟩
          go_wp2_with fail
          refine (HTH.out _).mono ?_
          rintro e w1 ⟨rfl, rfl⟩
          go_wp2
          generalize w.alloc (.cells #[.string s] 9) = W at *
          go_quiet ((go_at_call 63; exact HRQ.out _ _))
          go_wp2_with fail
          refine (HOP.out _).mono ?_
          rintro e w1 ⟨rfl, hN, hg⟩
          have HN := Lib.hid hN
          have HG := Lib.hid (grown_trans (grown_trans HGR.out (grown_below (below_drewN _ _))) hg)
          clear hN hg
          go_wp2
          go_ret
          exact ⟨rfl, HN.out, HG.out⟩
end Go.Proofs.Ytidnbpehhpakcaa
