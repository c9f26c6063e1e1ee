/- What package part's New returns: misnamed, outside, clash, fault, and slices.IndexFunc and slices.ContainsFunc of parts. Conditions: a slice that reads as at most 20 parts, no longer than its capacity. -/
import Derived.Test.YtidnbpehhpakcaaPaS
import Derived.Test.YtidnbpehhpakcaaPaC
import Derived.Deep.QuietTactic
import Derived.Deep.DeepCutAuto
import Derived.Deep.RegionWith
namespace Go.Proofs.Ytidnbpehhpakcaa
open Go.RowKit

set_option maxHeartbeats 800000 in
set_option maxRecDepth 100000 in
theorem misnamed_any (p : PT) (w : World) : Calls Try.prog 44 #[ptV p] w fun e w' => e = .returned (.bool (nmBad p)) ∧ Below w.heap.size w w' := by
  obtain ⟨nm, fi, mn⟩ := p
  have HB := Lib.hid ((Below.refl w.heap.size w).alloc (Nat.le_refl _) (.cells #[.string nm, .int .i64 fi, .int .i64 mn] 33))
  simp only [ptV]
  by_cases q1 : nm.size < 1
  · have d1 : decide ((nm.size : Int) < 1) = true := decide_eq_true (by omega)
    have HN : Hid (nmBad ⟨nm, fi, mn⟩ = true) := nmBad_true (.inl (by simp only; omega))
    rw [HN.out]
    clear q1
    go_enter Try.func44, Try.ntmps44
    go_wp2
    go_ret
    exact ⟨rfl, HB.out⟩
  · have d1 : decide ((nm.size : Int) < 1) = false := decide_eq_false (by omega)
    by_cases q2 : 31 < nm.size
    · have d2 : decide ((31 : Int) < nm.size) = true := decide_eq_true (by omega)
      have HN : Hid (nmBad ⟨nm, fi, mn⟩ = true) := nmBad_true (.inr q2)
      rw [HN.out]
      clear q1 q2
      go_enter Try.func44, Try.ntmps44
      go_wp2
      go_ret
      exact ⟨rfl, HB.out⟩
    · have d2 : decide ((31 : Int) < nm.size) = false := decide_eq_false (by omega)
      have HN : Hid (nmBad ⟨nm, fi, mn⟩ = false) := nmBad_false (by simp only; omega)
      rw [HN.out]
      clear q1 q2
      go_enter Try.func44, Try.ntmps44
      go_wp2
      go_ret
      exact ⟨rfl, HB.out⟩

set_option maxHeartbeats 800000 in
set_option maxRecDepth 100000 in
theorem outside_any (p : PT) (w : World) : Calls Try.prog 45 #[ptV p] w fun e w' => e = .returned (.bool (rgBad p)) ∧ Below w.heap.size w w' := by
  obtain ⟨nm, fi, mn⟩ := p
  have HB := Lib.hid ((Below.refl w.heap.size w).alloc (Nat.le_refl _) (.cells #[.string nm, .int .i64 fi, .int .i64 mn] 33))
  simp only [ptV]
  by_cases q1 : fi < 0
  · have d1 : decide (fi < 0) = true := decide_eq_true q1
    have HN : Hid (rgBad ⟨nm, fi, mn⟩ = true) := rgBad_true (by simp only; omega)
    rw [HN.out]
    clear q1
    go_enter Try.func45, Try.ntmps45
    go_wp2
    go_ret
    exact ⟨rfl, HB.out⟩
  · have d1 : decide (fi < 0) = false := decide_eq_false q1
    by_cases q2 : mn < 1
    · have d2 : decide (mn < 1) = true := decide_eq_true q2
      have HN : Hid (rgBad ⟨nm, fi, mn⟩ = true) := rgBad_true (by simp only; omega)
      rw [HN.out]
      clear q1 q2
      go_enter Try.func45, Try.ntmps45
      go_wp2
      go_ret
      exact ⟨rfl, HB.out⟩
    · have d2 : decide (mn < 1) = false := decide_eq_false q2
      by_cases q3 : 48 ≤ fi
      · have d3 : decide (48 ≤ fi) = true := decide_eq_true q3
        have HN : Hid (rgBad ⟨nm, fi, mn⟩ = true) := rgBad_true (by simp only; omega)
        rw [HN.out]
        clear q1 q2 q3
        go_enter Try.func45, Try.ntmps45
        go_wp2
        go_ret
        exact ⟨rfl, HB.out⟩
      · have d3 : decide (48 ≤ fi) = false := decide_eq_false q3
        have hfi0 : 0 ≤ fi := by omega
        have hfi1 : fi ≤ 48 := by omega
        by_cases q4 : 48 - fi < mn
        · have d4 : decide (48 - fi < mn) = true := decide_eq_true q4
          have HN : Hid (rgBad ⟨nm, fi, mn⟩ = true) := rgBad_true (by simp only; omega)
          rw [HN.out]
          clear q1 q2 q3 q4
          go_enter Try.func45, Try.ntmps45
          go_wp2
          go_ret
          exact ⟨rfl, HB.out⟩
        · have d4 : decide (48 - fi < mn) = false := decide_eq_false q4
          have HN : Hid (rgBad ⟨nm, fi, mn⟩ = false) := rgBad_false (by simp only; omega)
          rw [HN.out]
          clear q1 q2 q3 q4
          go_enter Try.func45, Try.ntmps45
          go_wp2
          go_ret
          exact ⟨rfl, HB.out⟩

/-- f is a function of a part that answers as F says. -/
def FunP (f : FuncId) (F : PT → Bool) : Prop :=
  (∀ (args : Array Value) (w : World), (callFunc f args).run Try.prog w = .ok (.enter f args) w) ∧ ∀ (p : PT) (w : World), Calls Try.prog f #[ptV p] w fun e w' => e = .returned (.bool (F p)) ∧ Below w.heap.size w w'

set_option maxHeartbeats 1600000 in
set_option maxRecDepth 100000 in
theorem indexFunc_any (A : Option Addr) (cap : Nat) (L : List PT) (f : FuncId) (F : PT → Bool) (w : World) (hr : RdP w A L) (hl : L.length ≤ 1000) (hf : FunP f F) :
    Calls Try.prog 55 #[.slice A L.length cap, .func (.func f) #[] #[]] w fun e w' => (∃ r : Int, e = .returned (.int .i64 r) ∧ decide (0 ≤ r) = L.any F) ∧ Below w.heap.size w w' := by
  obtain ⟨hcf, hcl⟩ := hf
  have HCL := Lib.hid hcl
  have HR := Lib.hid hr
  clear hcl hr
  go_enter Try.func55, Try.ntmps55
  go_wp2
  go_loopw [8] (fun i wr => ∃ k : Nat, k ≤ L.length ∧ i = .int .i64 k ∧ (∀ j, j < k → F (L.getD j pt0) = false) ∧ Below w.heap.size w wr) (fun i _ => L.length - (intOf i).toNat)
  case atStart => exact ⟨0, Nat.zero_le _, rfl, fun _ h => absurd h (Nat.not_lt_zero _), Below.refl _ _⟩
  case round =>
    obtain ⟨k, hk, rfl, hall, hb⟩ := hrel
    have HALL := Lib.hid hall
    have HB := Lib.hid hb
    have hsz := hb.size
    clear hall hb
    by_cases hlt : k < L.length
    · have hki : (k : Int) < L.length := by omega
      obtain ⟨b, off, x, rfl, hpt, HX⟩ := (HR.out.below HB.out).at_ hlt
      have HC := Lib.hid (HCL.out x wr)
      have HA1 : Hid (F x = true → L.any F = true) := fun h => any_of hlt (by rw [HX.out]; exact h)
      have HA2 : Hid (F x = false → ∀ j, j < k + 1 → F (L.getD j pt0) = false) := fun h => step_all HALL.out (by rw [HX.out]; exact h)
      generalize F x = fx at *
      obtain ⟨nm, fi, mn⟩ := x
      obtain ⟨h1, h2, h3⟩ := hpt
      simp only at h1 h2 h3
      simp only [ptV] at HC
      clear HX
      go_wp2_with fail
      refine HC.out.mono ?_
      rintro e w1 ⟨rfl, hb1⟩
      have HB1 := Lib.hid (HB.out.trans (hb1.mono hsz))
      clear hb1 HC h1 h2 h3
      cases fx with
      | true =>
        have HN := Lib.hid (HA1.out rfl)
        clear HA1 HA2
        go_wp2
        go_ret
        exact ⟨⟨_, rfl, by rw [HN.out]; exact decide_eq_true (by omega)⟩, HB1.out⟩
      | false =>
        have HN := Lib.hid (HA2.out rfl)
        clear HA1 HA2
        go_wp2
        go_roundw
        case rel => exact ⟨k + 1, by omega, by go_num, HN.out, HB1.out⟩
        case measure => simp [intOf]; omega
    · obtain rfl : k = L.length := by omega
      have HN := Lib.hid (any_no HALL.out)
      go_wp2
      go_ret
      exact ⟨⟨_, rfl, by rw [HN.out]; rfl⟩, HB.out⟩
set_option maxHeartbeats 800000 in
set_option maxRecDepth 100000 in
theorem containsFunc_any (A : Option Addr) (cap : Nat) (L : List PT) (f : FuncId) (F : PT → Bool) (w : World) (hr : RdP w A L) (hl : L.length ≤ 1000) (hf : FunP f F) :
    Calls Try.prog 43 #[.slice A L.length cap, .func (.func f) #[] #[]] w fun e w' => e = .returned (.bool (L.any F)) ∧ Below w.heap.size w w' := by
  have HI := Lib.hid (indexFunc_any A cap L f F w hr hl hf)
  generalize L.any F = an at *
  clear hr hf
  go_enter Try.func43, Try.ntmps43
  go_wp2_with fail
  refine HI.out.mono ?_
  rintro e w1 ⟨⟨r, rfl, hr⟩, hb⟩
  clear HI
  go_wp2
  go_ret
  exact ⟨rfl, hb⟩
theorem fun_misnamed : FunP 44 nmBad := ⟨fun args w => by first | rfl | (go_simp), misnamed_any⟩
theorem fun_outside : FunP 45 rgBad := ⟨fun args w => by first | rfl | (go_simp), outside_any⟩

/-- Do two of some parts clash? -/
def clP (L : List PT) : Bool := (List.range L.length).any (fun i => (List.range i).any fun k => clash (L.getD i pt0) (L.getD k pt0))
theorem clP_true {L : List PT} {i k : Nat} (hi : i < L.length) (hk : k < i) (hb : clash (L.getD i pt0) (L.getD k pt0) = true) : clP L = true := by
  unfold clP
  rw [List.any_eq_true]
  refine ⟨i, List.mem_range.2 hi, ?_⟩
  rw [List.any_eq_true]
  exact ⟨k, List.mem_range.2 hk, hb⟩
theorem clP_false {L : List PT} (h3 : ∀ i k, i < L.length → k < i → clash (L.getD i pt0) (L.getD k pt0) = false) : clP L = false := by
  unfold clP
  rw [List.any_eq_false]
  intro i hi
  rw [Bool.not_eq_true, List.any_eq_false]
  intro k hk
  rw [h3 i k (List.mem_range.1 hi) (List.mem_range.1 hk)]
  decide

set_option maxHeartbeats 3200000 in
set_option maxRecDepth 100000 in
theorem pclash_any (A : Option Addr) (cap : Nat) (L : List PT) (w : World) (hr : RdP w A L) (hl : L.length ≤ 1000) (hcp : Hid (L.length ≤ cap)) (h2 : ∀ j, j < L.length → rgBad (L.getD j pt0) = false) :
    Calls Try.prog 46 #[.slice A L.length cap] w fun e w' => e = .returned (.bool (clP L)) ∧ Below w.heap.size w w' := by
  have HR := Lib.hid hr
  have HRG := Lib.hid h2
  clear hr h2
  go_enter Try.func46, Try.ntmps46
  go_wp2
  go_loopw [9] (fun i wr => ∃ k : Nat, k ≤ L.length ∧ i = .int .i64 k ∧ (∀ j, j < k → ∀ m, m < j → clash (L.getD j pt0) (L.getD m pt0) = false) ∧ Below w.heap.size w wr) (fun i _ => L.length - (intOf i).toNat)
  case atStart => exact ⟨0, Nat.zero_le _, rfl, fun _ h => absurd h (Nat.not_lt_zero _), Below.refl _ _⟩
  case round =>
    obtain ⟨k, hk, rfl, hall, hb⟩ := hrel
    have HALL := Lib.hid hall
    have HB := Lib.hid hb
    have hsz := hb.size
    clear hall hb
    by_cases hlt : k < L.length
    · have hki : (k : Int) < L.length := by omega
      obtain ⟨b, off, x, rfl, hpt, HX⟩ := (HR.out.below HB.out).at_ hlt
      have hgx := rgBad_of (p := x) (by rw [← HX.out]; exact HRG.out k hlt)
      obtain ⟨nm, fi, mn⟩ := x
      obtain ⟨h1, h2, h3⟩ := hpt
      simp only at h1 h2 h3 hgx
      obtain ⟨x1, x2, x3, x4⟩ := hgx
      have hkc : k ≤ cap := by have := hcp.out; omega
      have HBN := Lib.hid (HB.out.alloc hsz (.cells (ptC ⟨nm, fi, mn⟩) 33))
      have HAN := Lib.hid (Arr.new wr 33 (ptC ⟨nm, fi, mn⟩))
      go_wp2
      change Code.wp _ _ _ _ (wr.alloc (.cells (ptC ⟨nm, fi, mn⟩) 33))
      generalize wr.heap.size = g at *
      generalize wr.alloc (.cells (ptC ⟨nm, fi, mn⟩) 33) = W1 at *
      clear h1 h2 h3
      go_loopw [18] (fun i w3 => ∃ m : Nat, m ≤ k ∧ i = .int .i64 m ∧ (∀ j, j < m → clash (L.getD k pt0) (L.getD j pt0) = false) ∧ Arr w3 g 33 (ptC ⟨nm, fi, mn⟩) ∧ Below w.heap.size w w3) (fun i _ => k - (intOf i).toNat)
      case atStart => exact ⟨0, Nat.zero_le _, rfl, fun _ h => absurd h (Nat.not_lt_zero _), HAN.out, HBN.out⟩
      case round =>
        clear HAN HBN HB
        obtain ⟨m, hm, rfl, hin, hA, hb⟩ := hrel
        have HIN := Lib.hid hin
        have HB3 := Lib.hid hb
        have hsz3 := hb.size
        by_cases hlm : m < k
        · have hmi : (m : Int) < k := by omega
          have hmL : m < L.length := by omega
          obtain ⟨b', off', y, hbo, hpt, HY⟩ := (HR.out.below HB3.out).at_ hmL
          obtain ⟨rfl, rfl⟩ : b = b' ∧ off = off' := by injection hbo with hbo; injection hbo with e1 e2; exact ⟨e1, e2⟩
          clear hbo
          have hgy := rgBad_of (p := y) (by rw [← HY.out]; exact HRG.out m hmL)
          obtain ⟨nm', fi', mn'⟩ := y
          obtain ⟨g1, g2, g3⟩ := hpt
          simp only at g1 g2 g3 hgy
          obtain ⟨y1, y2, y3, y4⟩ := hgy
          have hA2 := hA.alloc (.cells (ptC ⟨nm', fi', mn'⟩) 33)
          have HA2 := Lib.hid hA2
          have HB4 := Lib.hid (HB3.out.alloc hsz3 (.cells (ptC ⟨nm', fi', mn'⟩) 33))
          have a1 : wr.cell? ⟨g, 0, none⟩ = some (.string nm) := hA.cell 0
          have a2 : wr.cell? ⟨g, 1, none⟩ = some (.int .i64 fi) := hA.cell 1
          have a3 : wr.cell? ⟨g, 2, none⟩ = some (.int .i64 mn) := hA.cell 2
          have hgl := hA.lt
          have hgne : g ≠ wr.heap.size := by omega
          have HCL : Hid (clash ⟨nm, fi, mn⟩ ⟨nm', fi', mn'⟩ = true → clP L = true) := fun h => clP_true hlt hlm (by rw [HX.out, HY.out]; exact h)
          have HNO : Hid (clash ⟨nm, fi, mn⟩ ⟨nm', fi', mn'⟩ = false → ∀ j, j < m + 1 → clash (L.getD k pt0) (L.getD j pt0) = false) := fun h => step_all HIN.out (by rw [HX.out, HY.out]; exact h)
          clear hin hA hA2 hb
          by_cases q1 : nm = nm'
          · have d1 : (nm.toList == nm'.toList) = true := by rw [bytes_eq]; exact decide_eq_true q1
            have HN := Lib.hid (HCL.out (clash_true (.inl q1)))
            clear q1 HCL HNO
            go_wp2
            go_ret
            exact ⟨by rw [HN.out]; rfl, HB4.out⟩
          · have d1 : (nm.toList == nm'.toList) = false := by rw [bytes_eq]; exact decide_eq_false q1
            by_cases q2 : fi < fi' + mn'
            · have d2 : decide (fi < fi' + mn') = true := decide_eq_true q2
              by_cases q3 : fi' < fi + mn
              · have d3 : decide (fi' < fi + mn) = true := decide_eq_true q3
                have HN := Lib.hid (HCL.out (clash_true (.inr ⟨q2, q3⟩)))
                clear q1 q2 q3 HCL HNO
                go_wp2
                go_ret
                exact ⟨by rw [HN.out]; rfl, HB4.out⟩
              · have d3 : decide (fi' < fi + mn) = false := decide_eq_false q3
                have HN := Lib.hid (HNO.out (clash_false (by rintro (h | h); exact q1 h; exact q3 h.2)))
                clear q1 q2 q3 HCL HNO
                go_wp2
                go_roundw
                case rel => exact ⟨m + 1, by omega, by go_num, HN.out, HA2.out, HB4.out⟩
                case measure => simp [intOf]; omega
            · have d2 : decide (fi < fi' + mn') = false := decide_eq_false q2
              have HN := Lib.hid (HNO.out (clash_false (by rintro (h | h); exact q1 h; exact q2 h.1)))
              clear q1 q2 HCL HNO
              go_wp2
              go_roundw
              case rel => exact ⟨m + 1, by omega, by go_num, HN.out, HA2.out, HB4.out⟩
              case measure => simp [intOf]; omega
        · obtain rfl : m = k := by omega
          have HN : Hid (∀ j, j < m + 1 → ∀ n, n < j → clash (L.getD j pt0) (L.getD n pt0) = false) := step_all HALL.out HIN.out
          clear hin hA hb
          go_wp2
          go_roundw
          case rel => exact ⟨m + 1, by omega, by go_num, HN.out, HB3.out⟩
          case measure => simp [intOf]; omega
    · obtain rfl : k = L.length := by omega
      have HN : Hid (clP L = false) := clP_false (fun i m hi hm => HALL.out i hi m hm)
      go_wp2
      go_ret
      exact ⟨by rw [HN.out]; rfl, HB.out⟩

theorem ckP_eq (L : List PT) : ckP L = if 16 < L.length then 1 else if L.any nmBad = true then 1 else if L.any rgBad = true then 2 else if clP L = true then 12 else 0 := rfl

set_option maxHeartbeats 1600000 in
set_option maxRecDepth 100000 in
theorem fault_any (A : Option Addr) (cap : Nat) (L : List PT) (w : World) (hr : RdP w A L) (hl : L.length ≤ 1000) (hcp : Hid (L.length ≤ cap)) :
    Calls Try.prog 29 #[.slice A L.length cap] w fun e w' => e = .returned (.int .i64 (ckP L : Int)) ∧ Below w.heap.size w w' := by
  have HR := Lib.hid hr
  have HCM := Lib.hid (containsFunc_any A cap L 44 nmBad w hr hl fun_misnamed)
  have HEQ := Lib.hid (ckP_eq L)
  have HL := Lib.hid hl
  clear hr
  by_cases h16 : 16 < L.length
  · have hd0 : decide ((16 : Int) < L.length) = true := decide_eq_true (by omega)
    have HN : Hid (ckP L = 1) := by unfold Hid; rw [HEQ.out, if_pos h16]
    clear h16
    go_enter Try.func29, Try.ntmps29
    go_wp2
    go_ret
    exact ⟨by rw [HN.out]; rfl, Below.refl _ _⟩
  · have hd0 : decide ((16 : Int) < L.length) = false := decide_eq_false (by omega)
    rw [if_neg h16] at HEQ
    clear h16
    cases hm : L.any nmBad with
    | true =>
      rw [hm] at HCM HEQ
      clear hm
      go_enter Try.func29, Try.ntmps29
      go_wp2_with fail
      refine HCM.out.mono ?_
      rintro e w1 ⟨rfl, hb⟩
      go_wp2
      go_ret
      exact ⟨by rw [HEQ.out]; rfl, hb⟩
    | false =>
      rw [hm] at HCM HEQ
      clear hm
      have HCO := Lib.hid (fun W (h : Below w.heap.size w W) => containsFunc_any A cap L 45 rgBad W (HR.out.below h) HL.out fun_outside)
      cases ho : L.any rgBad with
      | true =>
        rw [ho] at HCO HEQ
        clear ho
        go_enter Try.func29, Try.ntmps29
        go_wp2_with fail
        refine HCM.out.mono ?_
        rintro e w1 ⟨rfl, hb⟩
        have HB := Lib.hid hb
        have hsz := hb.size
        clear hb HCM
        go_wp2_with fail
        refine (HCO.out w1 HB.out).mono ?_
        rintro e w2 ⟨rfl, hb⟩
        go_wp2
        go_ret
        exact ⟨by rw [HEQ.out]; rfl, HB.out.trans (hb.mono hsz)⟩
      | false =>
        have HRG : Hid (∀ j, j < L.length → rgBad (L.getD j pt0) = false) := fun j hj => by
          cases e : rgBad (L.getD j pt0) with
          | false => rfl
          | true => rw [any_of hj e] at ho; cases ho
        rw [ho] at HCO HEQ
        clear ho
        have HCL := Lib.hid (fun W (h : Below w.heap.size w W) => pclash_any A cap L W (HR.out.below h) HL.out hcp HRG.out)
        have HEQ2 : Hid ((ckP L : Int) = if clP L = true then 12 else 0) := by
          unfold Hid; rw [HEQ.out]; simp only [Bool.false_eq_true, if_false]; split <;> rfl
        generalize clP L = cl at *
        clear HEQ
        go_enter Try.func29, Try.ntmps29
        go_wp2_with fail
        refine HCM.out.mono ?_
        rintro e w1 ⟨rfl, hb⟩
        have HB := Lib.hid hb
        have hsz := hb.size
        clear hb HCM
        go_wp2_with fail
        refine (HCO.out w1 HB.out).mono ?_
        rintro e w2 ⟨rfl, hb⟩
        have HB2 := Lib.hid (HB.out.trans (hb.mono hsz))
        have hsz2 := HB2.out.size
        clear hb HCO
        go_wp2_with fail
        refine (HCL.out w2 HB2.out).mono ?_
        rintro e w3 ⟨rfl, hb⟩
        have HB3 := Lib.hid (HB2.out.trans (hb.mono hsz2))
        clear hb HCL
        cases cl with
        | true =>
          go_wp2
          go_ret
          exact ⟨by rw [HEQ2.out]; rfl, HB3.out⟩
        | false =>
          go_wp2
          go_ret
          exact ⟨by rw [HEQ2.out]; rfl, HB3.out⟩

set_option maxHeartbeats 1600000 in
set_option maxRecDepth 100000 in
theorem pnew_any (A : Option Addr) (cap : Nat) (L : List PT) (w : World) (hr : RdP w A L) (hcp : Hid (L.length ≤ cap)) (hl : L.length ≤ 1000) :
    Calls Try.prog 8 #[.slice A L.length cap] w fun e w' => ∃ q, e = .returned (.tuple #[.pointer q, .int .i64 (ckP L : Int)]) ∧ (ckP L ≠ 0 → q = none) ∧ (ckP L = 0 → TBL w' q L) ∧ Below w.heap.size w w' := by
  have HR := Lib.hid hr
  have HF := Lib.hid (fault_any A cap L w hr hl hcp)
  have HL := Lib.hid hl
  clear hr
  by_cases h0 : ckP L = 0
  · have HC := Lib.hid (fun W (h : Below w.heap.size w W) => clone_any A cap L W (HR.out.below h) HL.out)
    rw [h0] at HF ⊢
    clear h0
    go_enter Try.func8, Try.ntmps8
    go_wp2_with fail
    refine HF.out.mono ?_
    rintro e w1 ⟨rfl, hb⟩
    have HB := Lib.hid hb
    have hsz := hb.size
    clear hb HF
    go_wp2_with fail
    refine (HC.out w1 HB.out).mono ?_
    rintro e w2 ⟨A', cap', rfl, hP, hb⟩
    have HB2 := Lib.hid ((HB.out.trans (hb.mono hsz)).alloc (Nat.le_trans hsz hb.size) (.cells #[.slice A' L.length cap'] 71))
    have HT : Hid (TBL (w2.alloc (.cells #[.slice A' L.length cap'] 71)) (some ⟨w2.heap.size, 0, none⟩) L) := ⟨_, A', cap', rfl, Arr.new _ _ _, hP.below ((Below.refl _ _).alloc (Nat.le_refl _) _)⟩
    clear hb hP HC
    go_wp2
    go_ret2
    exact ⟨_, rfl, fun h => absurd rfl h, fun _ => HT.out, HB2.out⟩
  · have d1 : ((ckP L : Int) != 0) = true := by simp; omega
    have d2 : ((ckP L : Int) == 0) = false := by simp; omega
    have H0 := Lib.hid h0
    generalize ckP L = c at *
    clear h0
    go_enter Try.func8, Try.ntmps8
    go_wp2_with fail
    refine HF.out.mono ?_
    rintro e w1 ⟨rfl, hb⟩
    go_wp2
    go_ret2
    exact ⟨_, rfl, fun _ => rfl, fun h => absurd h H0.out, hb⟩
end Go.Proofs.Ytidnbpehhpakcaa
