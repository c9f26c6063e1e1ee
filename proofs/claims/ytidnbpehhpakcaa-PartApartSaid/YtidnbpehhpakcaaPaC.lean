/- What the document's Check returns. Conditions: a slice that reads as parts, with numbers of 64 bits. -/
import Derived.Test.YtidnbpehhpakcaaPaM
import Derived.Deep.QuietTactic
import Derived.Deep.DeepCutAuto
namespace Go.Proofs.Ytidnbpehhpakcaa
open Go.RowKit

theorem step_all {P : Nat → Prop} {k : Nat} (h : ∀ j, j < k → P j) (hk : P k) : ∀ j, j < k + 1 → P j := fun j hj => by
  by_cases e : j = k
  · subst e; exact hk
  · exact h j (by omega)

theorem ptAt_arr {w : World} {g t : Nat} {p : PT} (h : Arr w g t (ptC p)) : PtAt w g 0 p := ⟨h.cell 0, h.cell 1, h.cell 2⟩
theorem two_first (w : World) (t : TypeId) (x y : PT) : PtAt ((w.alloc (.cells (ptC x) t)).alloc (.cells (ptC y) t)).drew w.heap.size 0 x := ptAt_arr (Arr.drewN ((Arr.new w t (ptC x)).alloc (.cells (ptC y) t)) 1)
theorem two_second (w : World) (t : TypeId) (x y : PT) : PtAt ((w.alloc (.cells (ptC x) t)).alloc (.cells (ptC y) t)).drew (w.heap.size + 1) 0 y := ptAt_arr (Arr.drewN (Arr.new1 w (.cells (ptC x) t) t (ptC y)) 1)
theorem two_below (w : World) (o o' : Obj) : Below w.heap.size w ((w.alloc o).alloc o').drew := by
  have h := (Below.refl w.heap.size w).alloc (Nat.le_refl _) o
  exact (h.alloc h.size o').trans ((Below.refl _ _).drew.mono (h.alloc h.size o').size)
theorem clash_true {p q : PT} (h : p.nm = q.nm ∨ p.fi < q.fi + q.mn ∧ q.fi < p.fi + p.mn) : clash p q = true := by unfold clash; simpa using h
theorem clash_false {p q : PT} (h : ¬ (p.nm = q.nm ∨ p.fi < q.fi + q.mn ∧ q.fi < p.fi + p.mn)) : clash p q = false := by
  cases e : clash p q with
  | false => rfl
  | true => unfold clash at e; simp at e; exact absurd e h
theorem toList_nil (s : ByteArray) : s.toList = [] ↔ s.size = 0 := by
  rw [ByteArray.toList_eq]
  show s.data.toList = [] ↔ s.data.size = 0
  rw [Array.toList_eq_nil_iff, Array.size_eq_zero_iff]

set_option maxHeartbeats 3200000 in
set_option maxRecDepth 100000 in
theorem rcheck_any (A : Option Addr) (cap : Nat) (L : List PT) (w : World) (hr : RdP w A L) (hl : L.length ≤ maxLen) :
    Calls Try.prog 9 #[.slice A L.length cap] w fun e w' => e = .returned (.int .i64 (ckP L : Int)) ∧ Below w.heap.size w w' := by
  have hl2 : L.length ≤ 9223372036854775807 := by unfold maxLen at hl; omega
  have HR := Lib.hid hr
  clear hr hl
  by_cases h16 : 16 < L.length
  · have hd0 : decide ((16 : Int) < L.length) = true := decide_eq_true (by omega)
    have HN : Hid (ckP L = 1) := ck_big h16
    clear h16
    go_enter Try.func9, Try.ntmps9
    go_wp2
    go_ret
    exact ⟨by rw [HN.out]; rfl, Below.refl _ _⟩
  have hd0 : decide ((16 : Int) < L.length) = false := decide_eq_false (by omega)
  have H16 : Hid (L.length ≤ 16) := by unfold Hid; omega
  clear h16
  go_enter Try.func9, Try.ntmps9
  go_wp2
  go_loopw [3] (fun i wr => ∃ k : Nat, k ≤ L.length ∧ i = .int .i64 k ∧ (∀ j, j < k → nmBad (L.getD j pt0) = false) ∧ w = wr) (fun i _ => L.length - (intOf i).toNat)
  case atStart => exact ⟨0, Nat.zero_le _, rfl, fun _ h => absurd h (Nat.not_lt_zero _), rfl⟩
  case round =>
    obtain ⟨k, hk, rfl, hall, rfl⟩ := hrel
    have HALL := Lib.hid hall
    clear hall
    by_cases hlt : k < L.length
    · have hki : (k : Int) < L.length := by omega
      obtain ⟨b, off, x, rfl, ⟨h1, h2, h3⟩, HX⟩ := HR.out.at_ hlt
      obtain ⟨nm, fi, mn⟩ := x
      simp only at h1 h2 h3
      by_cases q1 : nm.size = 0
      · have d1 : nm.toList = [] := (toList_nil nm).2 q1
        have HN : Hid (ckP L = 1) := ck_nm H16.out hlt (by rw [HX.out]; exact nmBad_true (.inl q1))
        clear q1
        go_wp2
        go_ret
        exact ⟨by rw [HN.out]; rfl, Below.refl _ _⟩
      · have d1 : ¬ nm.toList = [] := fun e => q1 ((toList_nil nm).1 e)
        have d1' : nm.toList.isEmpty = false := by simpa using d1
        by_cases q2 : 31 < nm.size
        · have d2 : decide ((31 : Int) < nm.size) = true := decide_eq_true (by omega)
          have HN : Hid (ckP L = 1) := ck_nm H16.out hlt (by rw [HX.out]; exact nmBad_true (.inr q2))
          clear q1 q2
          go_wp2
          go_ret
          exact ⟨by rw [HN.out]; rfl, Below.refl _ _⟩
        · have d2 : decide ((31 : Int) < nm.size) = false := decide_eq_false (by omega)
          have HN := Lib.hid (step_all HALL.out (by rw [HX.out]; exact nmBad_false (by simp only; omega)))
          clear q1 q2
          go_wp2
          go_roundw
          case rel => exact ⟨k + 1, by omega, by go_num, HN.out, trivial⟩
          case measure => simp [intOf]; omega
    · obtain rfl : k = L.length := by omega
      have HNM := Lib.hid HALL.out
      clear HALL hlt hk
      go_wp2
      go_loopw [4] (fun i w1 => ∃ k : Nat, k ≤ L.length ∧ i = .int .i64 k ∧ (∀ j, j < k → rgBad (L.getD j pt0) = false) ∧ Below w.heap.size w w1) (fun i _ => L.length - (intOf i).toNat)
      case atStart => exact ⟨0, Nat.zero_le _, rfl, fun _ h => absurd h (Nat.not_lt_zero _), Below.refl _ _⟩
      case round =>
        obtain ⟨k, hk, rfl, hall, hb⟩ := hrel
        have HALL := Lib.hid hall
        have HB := Lib.hid hb
        have hsz := hb.size
        clear hall hb
        by_cases hlt : k < L.length
        · have hki : (k : Int) < L.length := by omega
          obtain ⟨b, off, x, rfl, ⟨h1, h2, h3⟩, HX⟩ := (HR.out.below HB.out).at_ hlt
          obtain ⟨nm, fi, mn⟩ := x
          simp only at h1 h2 h3
          have HE : Hid (rgBad ⟨nm, fi, mn⟩ = true → ckP L = 2) := fun h => ck_rg H16.out HNM.out hlt (by rw [HX.out]; exact h)
          have HBQ : Hid (∀ n, Below w.heap.size w (wr.drewN n)) := fun n => HB.out.trans ((below_drewN _ _).mono hsz)
          by_cases q1 : fi < 0
          · have d1 : decide (fi < 0) = true := decide_eq_true q1
            have HN := Lib.hid (HE.out (rgBad_true (by simp only; omega)))
            clear q1 HE
            go_wp2
            go_quiet (fail)
            go_wp2
            go_ret
            exact ⟨by rw [HN.out]; rfl, HBQ.out _⟩
          · have d1 : decide (fi < 0) = false := decide_eq_false q1
            by_cases q2 : mn < 1
            · have d2 : decide (mn < 1) = true := decide_eq_true q2
              have HN := Lib.hid (HE.out (rgBad_true (by simp only; omega)))
              clear q1 q2 HE
              go_wp2
              go_quiet (fail)
              go_wp2
              go_ret
              exact ⟨by rw [HN.out]; rfl, HBQ.out _⟩
            · have d2 : decide (mn < 1) = false := decide_eq_false q2
              by_cases q3 : 48 < fi
              · have d3 : decide (48 < fi) = true := decide_eq_true q3
                have HN := Lib.hid (HE.out (rgBad_true (by simp only; omega)))
                clear q1 q2 q3 HE
                go_wp2
                go_quiet (fail)
                go_wp2
                go_ret
                exact ⟨by rw [HN.out]; rfl, HBQ.out _⟩
              · have d3 : decide (48 < fi) = false := decide_eq_false q3
                by_cases q4 : 48 - fi < mn
                · have d4 : decide (48 - fi < mn) = true := decide_eq_true q4
                  have HN := Lib.hid (HE.out (rgBad_true (by simp only; omega)))
                  have hfi0 : 0 ≤ fi := by omega
                  have hfi1 : fi ≤ 48 := by omega
                  clear q1 q2 q3 q4 HE
                  go_wp2
                  go_quiet (fail)
                  go_wp2
                  go_ret
                  exact ⟨by rw [HN.out]; rfl, HBQ.out _⟩
                · have d4 : decide (48 - fi < mn) = false := decide_eq_false q4
                  have HN := Lib.hid (step_all HALL.out (by rw [HX.out]; exact rgBad_false (by simp only; omega)))
                  have hfi0 : 0 ≤ fi := by omega
                  have hfi1 : fi ≤ 48 := by omega
                  clear q1 q2 q3 q4 HE
                  go_wp2
                  go_quiet (fail)
                  go_wp2
                  go_roundw
                  case rel => exact ⟨k + 1, by omega, by go_num, HN.out, HBQ.out _⟩
                  case measure => simp [intOf]; omega
        · obtain rfl : k = L.length := by omega
          have HRG := Lib.hid HALL.out
          clear HALL hlt hk
          go_wp2
          go_loopw [5] (fun i w2 => ∃ k : Nat, k ≤ L.length ∧ i = .int .i64 k ∧ (∀ j, j < k → ∀ m, m < j → clash (L.getD j pt0) (L.getD m pt0) = false) ∧ Below w.heap.size w w2) (fun i _ => L.length - (intOf i).toNat)
          case atStart => exact ⟨0, Nat.zero_le _, rfl, fun _ h => absurd h (Nat.not_lt_zero _), HB.out⟩
          case round =>
            obtain ⟨k, hk, rfl, hall, hb⟩ := hrel
            have HALL := Lib.hid hall
            have HB2 := Lib.hid hb
            have hsz2 := hb.size
            clear hall hb
            by_cases hlt : k < L.length
            · have hki : (k : Int) < L.length := by omega
              go_wp2
              go_loopw [6] (fun i w3 => ∃ m : Nat, m ≤ k ∧ i = .int .i64 m ∧ (∀ j, j < m → clash (L.getD k pt0) (L.getD j pt0) = false) ∧ Below w.heap.size w w3) (fun i _ => k - (intOf i).toNat)
              case atStart => exact ⟨0, Nat.zero_le _, rfl, fun _ h => absurd h (Nat.not_lt_zero _), HB2.out⟩
              case round =>
                obtain ⟨m, hm, rfl, hin, hb⟩ := hrel
                have HIN := Lib.hid hin
                have HB3 := Lib.hid hb
                have hsz3 := hb.size
                clear hin hb
                by_cases hlm : m < k
                · have hmi : (m : Int) < k := by omega
                  have hml : (m : Int) < L.length := by omega
                  have hmL : m < L.length := by omega
                  obtain ⟨b, off, x, rfl, ⟨h1, h2, h3⟩, HX⟩ := (HR.out.below HB3.out).at_ hlt
                  obtain ⟨b', off', y, hbo, ⟨g1, g2, g3⟩, HY⟩ := (HR.out.below HB3.out).at_ hmL
                  obtain ⟨rfl, rfl⟩ : b = b' ∧ off = off' := by injection hbo with hbo; injection hbo with e1 e2; exact ⟨e1, e2⟩
                  clear hbo
                  obtain ⟨nm, fi, mn⟩ := x
                  obtain ⟨nm', fi', mn'⟩ := y
                  simp only at h1 h2 h3 g1 g2 g3
                  have hbl : b < wr.heap.size := World.block_lt_of_cell? wr _ h1
                  have hbl1 : b < wr.heap.size + 1 := by omega
                  have hbne : b ≠ wr.heap.size := by omega
                  have hbne1 : b ≠ wr.heap.size + 1 := by omega
                  go_upto_region 19 with fail
                  go_cut [7, 8] (fun s7 s8 wx => ∃ g7 g8, s7 = .pointer (some ⟨g7, 0, none⟩) ∧ s8 = .pointer (some ⟨g8, 0, none⟩) ∧ PtAt wx g7 0 ⟨nm, fi, mn⟩ ∧ PtAt wx g8 0 ⟨nm', fi', mn'⟩ ∧ Below wr.heap.size wr wx)
                  case first => as_aux_lemma =>
                    go_region
                    all_goals (go_wp2_with fail; go_meet; first | exact ⟨_, _, rfl, rfl, two_first wr _ ⟨nm, fi, mn⟩ ⟨nm', fi', mn'⟩, two_second wr _ ⟨nm, fi, mn⟩ ⟨nm', fi', mn'⟩, two_below _ _ _⟩ | exact ⟨_, _, rfl, rfl, two_second wr _ ⟨nm', fi', mn'⟩ ⟨nm, fi, mn⟩, two_first wr _ ⟨nm', fi', mn'⟩ ⟨nm, fi, mn⟩, two_below _ _ _⟩)
                  case rest => as_aux_lemma =>
                    obtain ⟨g7, g8, rfl, rfl, ⟨a1, a2, a3⟩, ⟨e1, e2, e3⟩, hbc⟩ := hcut
                    simp only at a1 a2 a3 e1 e2 e3
                    have hgx : 0 ≤ fi ∧ 1 ≤ mn ∧ fi ≤ 47 ∧ fi + mn ≤ 48 := rgBad_of (p := ⟨nm, fi, mn⟩) (by rw [← HX.out]; exact HRG.out k hlt)
                    have hgy : 0 ≤ fi' ∧ 1 ≤ mn' ∧ fi' ≤ 47 ∧ fi' + mn' ≤ 48 := rgBad_of (p := ⟨nm', fi', mn'⟩) (by rw [← HY.out]; exact HRG.out m hmL)
                    obtain ⟨x1, x2, x3, x4⟩ := hgx
                    obtain ⟨y1, y2, y3, y4⟩ := hgy
                    have HBC := Lib.hid (HB3.out.trans (hbc.mono hsz3))
                    have HCL : Hid (clash ⟨nm, fi, mn⟩ ⟨nm', fi', mn'⟩ = true → ckP L = 12) := fun h => ck_cl H16.out HNM.out HRG.out hlt hlm (by rw [HX.out, HY.out]; exact h)
                    have HNO : Hid (clash ⟨nm, fi, mn⟩ ⟨nm', fi', mn'⟩ = false → ∀ j, j < m + 1 → clash (L.getD k pt0) (L.getD j pt0) = false) := fun h => step_all HIN.out (by rw [HX.out, HY.out]; exact h)
                    clear hbc h1 h2 h3 g1 g2 g3 hbl hbl1 hbne hbne1
                    by_cases q1 : nm = nm'
                    · have d1 : (nm.toList == nm'.toList) = true := by rw [bytes_eq]; exact decide_eq_true q1
                      have HN := Lib.hid (HCL.out (clash_true (.inl q1)))
                      clear q1 HCL HNO
                      go_wp2
                      go_ret
                      exact ⟨by rw [HN.out]; rfl, HBC.out⟩
                    · have d1 : (nm.toList == nm'.toList) = false := by rw [bytes_eq]; exact decide_eq_false q1
                      by_cases q2 : fi < fi' + mn'
                      · have d2 : decide (fi < fi' + mn') = true := decide_eq_true q2
                        by_cases q3 : fi' < fi + mn
                        · have d3 : decide (fi' < fi + mn) = true := decide_eq_true q3
                          have HN := Lib.hid (HCL.out (clash_true (.inr ⟨q2, q3⟩)))
                          clear q1 q2 q3 HCL HNO
                          go_wp2
                          go_ret
                          exact ⟨by rw [HN.out]; rfl, HBC.out⟩
                        · have d3 : decide (fi' < fi + mn) = false := decide_eq_false q3
                          have HN := Lib.hid (HNO.out (clash_false (by rintro (h | h); exact q1 h; exact q3 h.2)))
                          clear q1 q2 q3 HCL HNO
                          go_wp2
                          go_roundw
                          case rel => exact ⟨m + 1, by omega, by go_num, HN.out, HBC.out⟩
                          case measure => simp [intOf]; omega
                      · have d2 : decide (fi < fi' + mn') = false := decide_eq_false q2
                        have HN := Lib.hid (HNO.out (clash_false (by rintro (h | h); exact q1 h; exact q2 h.1)))
                        clear q1 q2 HCL HNO
                        go_wp2
                        go_roundw
                        case rel => exact ⟨m + 1, by omega, by go_num, HN.out, HBC.out⟩
                        case measure => simp [intOf]; omega
                · obtain rfl : m = k := by omega
                  have HN : Hid (∀ j, j < m + 1 → ∀ n, n < j → clash (L.getD j pt0) (L.getD n pt0) = false) := step_all HALL.out HIN.out
                  go_wp2
                  go_roundw
                  case rel => exact ⟨m + 1, by omega, by go_num, HN.out, HB3.out⟩
                  case measure => simp [intOf]; omega
            · obtain rfl : k = L.length := by omega
              have HN : Hid (ckP L = 0) := ck_ok H16.out HNM.out HRG.out (fun i m hi hm => HALL.out i hi m hm)
              go_wp2
              go_ret
              exact ⟨by rw [HN.out]; rfl, HB2.out⟩
end Go.Proofs.Ytidnbpehhpakcaa
