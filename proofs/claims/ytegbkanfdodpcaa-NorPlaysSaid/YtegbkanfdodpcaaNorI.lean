/- Acts: a slice of them in memory, the document's Few, and the law's do with a Chip. Conditions: fewer than 2^61 operations and bytes; numbers of 64 bits. -/
import Derived.Test.YtegbkanfdodpcaaNorH
namespace Go.Proofs.Ytegbkanfdodpcaa
open Go.RowKit

/-- An act. -/
structure AC where
  kind : Int
  pl : Int
  n : Int
  s : ByteArray
def ac0 : AC := ⟨0, 0, 0, ⟨#[]⟩⟩
/-- An act lies at a place. -/
def AcAt (w : World) (b o : Nat) (x : AC) : Prop :=
  w.cell? ⟨b, o, none⟩ = some (.int .i64 x.kind) ∧ w.cell? ⟨b, o + 1, none⟩ = some (.int .i64 x.pl) ∧ w.cell? ⟨b, o + 2, none⟩ = some (.int .i64 x.n) ∧ w.cell? ⟨b, o + 3, none⟩ = some (.string x.s)
/-- The slice at A reads as the acts L. -/
def RdA (w : World) (A : Option Addr) (L : List AC) : Prop := L = [] ∨ ∃ b off, A = some ⟨b, off, none⟩ ∧ ∀ k, k < L.length → AcAt w b (off + k * 4) (L.getD k ac0)
theorem RdA.at_ {w : World} {A : Option Addr} {L : List AC} (h : RdA w A L) {k : Nat} (hk : k < L.length) : ∃ b off x, A = some ⟨b, off, none⟩ ∧ AcAt w b (off + k * 4) x ∧ Hid (L.getD k ac0 = x) := by
  rcases h with rfl | ⟨b, off, rfl, hc⟩
  · simp at hk
  · exact ⟨b, off, _, rfl, hc k hk, rfl⟩
theorem RdA.below {w w' : World} {A : Option Addr} {L : List AC} (h : RdA w A L) (hb : Below w.heap.size w w') : RdA w' A L := by
  rcases h with h | ⟨b, off, rfl, hc⟩
  · exact .inl h
  · refine .inr ⟨b, off, rfl, fun k hk => ?_⟩
    obtain ⟨h1, h2, h3, h4⟩ := hc k hk
    have hlt : b < w.heap.size := World.block_lt_of_cell? w _ h1
    have e : ∀ j, w'.cell? ⟨b, j, none⟩ = w.cell? ⟨b, j, none⟩ := fun j => World.cell?_of_block (a := ⟨b, j, none⟩) (hb.block b hlt)
    exact ⟨by rw [e]; exact h1, by rw [e]; exact h2, by rw [e]; exact h3, by rw [e]; exact h4⟩

set_option maxHeartbeats 800000 in
set_option maxRecDepth 100000 in
theorem few_any (A : Option Addr) (cap : Nat) (L : List AC) (w : World) (hr : RdA w A L) (hl : L.length ≤ maxLen) :
    Calls Try.prog 6 #[.slice A L.length cap, .int .i64 24] w fun e w' => (∃ b : Bool, e = .returned (.bool b) ∧ (b = true → L.length ≤ 24 ∧ ∀ k, k < L.length → (L.getD k ac0).s.size ≤ 200)) ∧ w = w' := by
  have HR := Lib.hid hr
  have hl2 : L.length ≤ 9223372036854775807 := by unfold maxLen at hl; omega
  clear hr hl
  go_enter Try.func6, Try.ntmps6
  go_wp2
  go_loopw [5] (fun i wr => ∃ k : Nat, k ≤ L.length ∧ k ≤ 24 ∧ i = .int .i64 k ∧ (∀ j, j < k → (L.getD j ac0).s.size ≤ 200) ∧ w = wr) (fun i _ => L.length - (intOf i).toNat)
  case atStart => exact ⟨0, Nat.zero_le _, Nat.zero_le _, rfl, fun _ h => absurd h (Nat.not_lt_zero _), rfl⟩
  case round =>
    obtain ⟨k, hk, hk2, rfl, hall, rfl⟩ := hrel
    have HALL := Lib.hid hall
    clear hall
    by_cases hlt : k < L.length
    · have hd1 : decide ((k : Int) < L.length) = true := decide_eq_true (by omega)
      by_cases h24 : k < 24
      · have hd2 : decide ((k : Int) < 24) = true := decide_eq_true (by omega)
        obtain ⟨b, off, x, rfl, ⟨h1, h2, h3, h4⟩, HX⟩ := HR.out.at_ hlt
        have hki : (k : Int) < L.length := by omega
        by_cases hx : 200 < x.s.size
        · have hd3 : decide ((200 : Int) < x.s.size) = true := decide_eq_true (by omega)
          clear hx
          go_wp2
          go_ret
          exact ⟨⟨false, rfl, fun h => by cases h⟩, rfl⟩
        · have hd3 : decide ((200 : Int) < x.s.size) = false := decide_eq_false (by omega)
          have HN : Hid (∀ j, j < k + 1 → (L.getD j ac0).s.size ≤ 200) := by
            intro j hj
            by_cases e : j = k
            · subst e; rw [HX.out]; omega
            · exact HALL.out j (by omega)
          clear hx
          go_wp2
          go_roundw
          case rel => exact ⟨k + 1, by omega, by omega, by go_num, HN.out, trivial⟩
          case measure => simp [intOf]; omega
      · have hd2 : decide ((k : Int) < 24) = false := decide_eq_false (by omega)
        have hd3 : decide ((L.length : Int) ≤ 24) = false := decide_eq_false (by omega)
        go_wp2
        go_ret
        exact ⟨⟨false, rfl, fun h => by cases h⟩, rfl⟩
    · obtain rfl : k = L.length := by omega
      have hd3 : decide ((L.length : Int) ≤ 24) = true := decide_eq_true (by omega)
      have hd1 : decide ((L.length : Int) < L.length) = false := decide_eq_false (by omega)
      go_wp2
      go_ret
      exact ⟨⟨true, rfl, fun _ => ⟨hk2, HALL.out⟩⟩, rfl⟩
/-- An act done. -/
def doS (c : St) (x : AC) : St × ByteArray × Nat :=
  if x.kind = 1 then ((erS c x.pl).1, ⟨#[]⟩, (erS c x.pl).2)
  else if x.kind = 2 then ((prS c x.pl x.s).1, ⟨#[]⟩, (prS c x.pl x.s).2)
  else if x.kind = 3 then ((wrS c x.pl x.s).1, ⟨#[]⟩, (wrS c x.pl x.s).2)
  else if x.kind = 4 then (fuS c x.n x.s, ⟨#[]⟩, 0)
  else if x.kind = 5 then (poS c, ⟨#[]⟩, 0)
  else if x.kind = 6 then (c, rdS c x.pl x.n)
  else (c, ⟨#[]⟩, 0)
/-- An act as a value. -/
def acV (x : AC) : Value := .agg #[.int .i64 x.kind, .int .i64 x.pl, .int .i64 x.n, .string x.s]

set_option maxHeartbeats 1600000 in
set_option maxRecDepth 100000 in
theorem do_any (g : Nat) (c : St) (x : AC) (w : World) (h : RN w g c) (ho : c.ops + x.s.size < 4611686018427387904) (hn : x.n < 9223372036854775808) :
    Calls Try.prog 10 #[.pointer (some ⟨g, 0, none⟩), acV x] w fun e w' =>
      e = .returned (.tuple #[.string (doS c x).2.1, .int .i64 ((doS c x).2.2 : Int)]) ∧ RN w' g (doS c x).1 ∧ w.grownBy w' (some g) := by
  obtain ⟨kd, pl, n, s⟩ := x
  simp only [acV] at *
  have HH := Lib.hid (h.alloc (.cells #[.int .i64 kd, .int .i64 pl, .int .i64 n, .string s] 37))
  have HG := Lib.hid (grown_alloc w (.cells #[.int .i64 kd, .int .i64 pl, .int .i64 n, .string s] 37) (some g))
  by_cases k1 : kd = 1
  · subst k1
    have HR : Hid (doS c ⟨1, pl, n, s⟩ = ((erS c pl).1, ⟨#[]⟩, (erS c pl).2)) := rfl
    rw [HR.out]
    have HC := Lib.hid (erase_any g c pl _ HH.out (by omega))
    clear h
    go_enter Try.func10, Try.ntmps10
    go_wp2_with fail
    refine HC.out.mono ?_
    rintro e w1 ⟨rfl, hr, hg⟩
    have H1 := Lib.hid hr
    have HG1 := Lib.hid (grown_trans HG.out hg)
    clear hr hg
    go_wp2
    go_ret2
    exact ⟨rfl, H1.out, HG1.out⟩
  · have q1 : (kd == 1) = false := by simpa using k1
    by_cases k2 : kd = 2
    · subst k2
      have HR : Hid (doS c ⟨2, pl, n, s⟩ = ((prS c pl s).1, ⟨#[]⟩, (prS c pl s).2)) := rfl
      rw [HR.out]
      have HC := Lib.hid (program_any g c pl s _ HH.out (by omega))
      clear h
      go_enter Try.func10, Try.ntmps10
      go_wp2_with fail
      refine HC.out.mono ?_
      rintro e w1 ⟨rfl, hr, hg⟩
      have H1 := Lib.hid hr
      have HG1 := Lib.hid (grown_trans HG.out hg)
      clear hr hg
      go_wp2
      go_ret2
      exact ⟨rfl, H1.out, HG1.out⟩
    · have q2 : (kd == 2) = false := by simpa using k2
      by_cases k3 : kd = 3
      · subst k3
        have HR : Hid (doS c ⟨3, pl, n, s⟩ = ((wrS c pl s).1, ⟨#[]⟩, (wrS c pl s).2)) := rfl
        rw [HR.out]
        have HC := Lib.hid (write_any g c pl s _ HH.out ho)
        clear h
        go_enter Try.func10, Try.ntmps10
        go_wp2_with fail
        refine HC.out.mono ?_
        rintro e w1 ⟨rfl, hr, hg⟩
        have H1 := Lib.hid hr
        have HG1 := Lib.hid (grown_trans HG.out hg)
        clear hr hg
        go_wp2
        go_ret2
        exact ⟨rfl, H1.out, HG1.out⟩
      · have q3 : (kd == 3) = false := by simpa using k3
        by_cases k4 : kd = 4
        · subst k4
          have HR : Hid (doS c ⟨4, pl, n, s⟩ = (fuS c n s, ⟨#[]⟩, 0)) := rfl
          rw [HR.out]
          have HC := Lib.hid (fuse_any g c n s _ HH.out hn)
          clear h
          go_enter Try.func10, Try.ntmps10
          go_wp2_with fail
          refine HC.out.mono ?_
          rintro e w1 ⟨rfl, hr, hg⟩
          have H1 := Lib.hid hr
          have HG1 := Lib.hid (grown_trans HG.out hg)
          clear hr hg
          go_wp2
          go_ret2
          exact ⟨rfl, H1.out, HG1.out⟩
        · have q4 : (kd == 4) = false := by simpa using k4
          by_cases k5 : kd = 5
          · subst k5
            have HR : Hid (doS c ⟨5, pl, n, s⟩ = (poS c, ⟨#[]⟩, 0)) := rfl
            rw [HR.out]
            have HC := Lib.hid (power_any g c _ HH.out)
            clear h
            go_enter Try.func10, Try.ntmps10
            go_wp2_with fail
            refine HC.out.mono ?_
            rintro e w1 ⟨rfl, hr, hg⟩
            have H1 := Lib.hid hr
            have HG1 := Lib.hid (grown_trans HG.out hg)
            clear hr hg
            go_wp2
            go_ret2
            exact ⟨rfl, H1.out, HG1.out⟩
          · have q5 : (kd == 5) = false := by simpa using k5
            by_cases k6 : kd = 6
            · subst k6
              have HR : Hid (doS c ⟨6, pl, n, s⟩ = (c, rdS c pl n)) := rfl
              rw [HR.out]
              have HC := Lib.hid (read_any g c pl n _ HH.out)
              generalize rdS c pl n = r at *
              clear h
              go_enter Try.func10, Try.ntmps10
              go_wp2_with fail
              refine HC.out.mono ?_
              rintro e w1 ⟨rfl, rfl⟩
              go_wp2
              go_ret2
              exact ⟨rfl, HH.out, HG.out⟩
            · have q6 : (kd == 6) = false := by simpa using k6
              have HR : Hid (doS c ⟨kd, pl, n, s⟩ = (c, ⟨#[]⟩, 0)) := by unfold Hid doS; simp only [if_neg k1, if_neg k2, if_neg k3, if_neg k4, if_neg k5, if_neg k6]
              rw [HR.out]
              clear h k1 k2 k3 k4 k5 k6
              go_enter Try.func10, Try.ntmps10
              go_wp2
              go_ret2
              exact ⟨rfl, HH.out, HG.out⟩
end Go.Proofs.Ytegbkanfdodpcaa
