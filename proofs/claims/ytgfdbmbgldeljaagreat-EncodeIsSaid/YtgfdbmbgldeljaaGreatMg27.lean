/- The program's Reserve of layer 15. Condition: a slice that reads as spans. -/
import Derived.Test.YtgfdbmbgldeljaaGreatMg16
import Derived.Test.YtgfdbmbgldeljaaGreatMg26
import Derived.Test.YtgfdbmbgldeljaaGreatMg17
namespace Go.Proofs.YtgfdbmbgldeljaaGreat
open Go.RowKit

/-- Has a number 32 bits? -/
def in32 (n : Int) : Bool := decide (0 ≤ n) && decide (n ≤ 4294967295)
theorem in32_iff {n : Int} : in32 n = true ↔ 0 ≤ n ∧ n ≤ 4294967295 := by unfold in32; simp
theorem in32_no {n : Int} (h : in32 n = false) : n < 0 ∨ 4294967295 < n := by
  by_cases e : 0 ≤ n ∧ n ≤ 4294967295
  · rw [in32_iff.2 e] at h; cases h
  · omega

theorem is32_any (n : Int) (w : World) : Calls Tryz.prog 24 #[.int .i64 n] w fun e w' => e = .returned (.bool (in32 n)) ∧ w = w' := by
  unfold in32
  cases h : decide (0 ≤ n) with
  | false =>
    go_enter Tryz.func24, Tryz.ntmps24
    go_wp2
    go_ret
    exact ⟨rfl, rfl⟩
  | true =>
    cases h1 : decide (n ≤ 4294967295) with
    | false =>
      go_enter Tryz.func24, Tryz.ntmps24
      go_wp2
      go_ret
      exact ⟨rfl, rfl⟩
    | true =>
      go_enter Tryz.func24, Tryz.ntmps24
      go_wp2
      go_ret
      exact ⟨rfl, rfl⟩

theorem pbig4_any (a b c d : Int) (W : World) (g : Nat) (h : Arr W g 3 #[.int .i64 a, .int .i64 b, .int .i64 c, .int .i64 d]) :
    Calls Tryz.prog 53 #[.slice (some ⟨g, 0, none⟩) 4 4] W fun e w' => e = .returned (.string ⟨(bigs [a, b, c, d] 4).toArray⟩) ∧ Below W.heap.size W w' := by
  refine bigs_any (some ⟨g, 0, none⟩) 4 [a, b, c, d] W (by show (4 : Nat) ≤ 1099511627776; decide) (.inr ⟨g, 0, rfl, h.lt, fun j hj => ?_⟩)
  rw [Nat.zero_add]
  match j, hj with
  | 0, _ => exact h.cell 0
  | 1, _ => exact h.cell 1
  | 2, _ => exact h.cell 2
  | 3, _ => exact h.cell 3

set_option maxHeartbeats 800000 in
theorem pair_any (p n : Int) (w : World) : Calls Tryz.prog 26 #[.agg #[.int .i64 p, .int .i64 n]] w fun e w' => e = .returned (.string ⟨(bigs [0, p, 0, n] 4).toArray⟩) ∧ Below w.heap.size w w' := by
  have HBG := Lib.hid (fun W g h => pbig4_any 0 p 0 n W g h)
  generalize (⟨(bigs [0, p, 0, n] 4).toArray⟩ : ByteArray) = S at *
  obtain ⟨W1, hW1⟩ : ∃ W1, W1 = w.alloc (.cells #[.int .i64 p, .int .i64 n] 41) := ⟨_, rfl⟩
  have hb0 : Below w.heap.size w W1 := by rw [hW1]; exact (Below.refl _ _).alloc (Nat.le_refl _) _
  have hA : Arr W1 w.heap.size 41 #[.int .i64 p, .int .i64 n] := by rw [hW1]; exact Arr.new _ _ _
  have x0 : W1.cell? ⟨w.heap.size, 0, none⟩ = some (.int .i64 p) := hA.cell 0
  have x1 : W1.cell? ⟨w.heap.size, 1, none⟩ = some (.int .i64 n) := hA.cell 1
  have hz0 := hb0.size
  have HB := Lib.hid (hb0.alloc hz0 (.cells #[.int .i64 0, .int .i64 p, .int .i64 0, .int .i64 n] 3))
  clear hb0 hA
  go_enter Tryz.func26, Tryz.ntmps26
  go_upto_region 1 with fail
  rw [← hW1]
  clear hW1
  generalize w.heap.size = g at x0 x1 ⊢
  go_wp2_with fail
  refine (HBG.out _ _ (Arr.new _ _ _)).mono ?_
  rintro e w2 ⟨rfl, hb⟩
  have HB2 := Lib.hid (HB.out.trans (hb.mono HB.out.size))
  clear hb HBG
  go_wp2
  go_ret
  exact ⟨rfl, HB2.out⟩

set_option maxHeartbeats 3200000 in
set_option maxRecDepth 100000 in
theorem eReserve_any (L : List SP) (A : Option Addr) (cap : Nat) (w : World) (hl : L.length ≤ maxLen) (hr : RdSp w A L) :
    Calls Tryz.prog 8 #[.slice A L.length cap] w fun e w' => e = .returned (.tuple #[.string ⟨(resP L).1.toArray⟩, .int .i64 ((resP L).2 : Int)]) ∧ Below w.heap.size w w' := by
  unfold maxLen at hl
  have HR := Lib.hid hr
  have HB0 : Hid (Below w.heap.size w w) := Below.refl _ _
  have HI0 := Lib.hid (Lib.fresh_isBuilder 60 5 w)
  by_cases h16 : 16 < L.length
  · have d1 : decide ((16 : Int) < (L.length : Int)) = true := decide_eq_true (by omega)
    have HE : Hid (resP L = ([], 7)) := if_pos h16
    generalize resP L = R at *
    clear hr HI0
    go_enter Tryz.func8, Tryz.ntmps8
    go_wp2
    go_ret2
    exact ⟨by rw [HE.out]; rfl, HB0.out⟩
  · have d1 : decide ((16 : Int) < (L.length : Int)) = false := decide_eq_false (by omega)
    have hl16 : L.length ≤ 16 := by omega
    have HBAD : Hid (∀ k, k < L.length → okSp (L.getD k sp0) = false → resP L = ([], 1)) := fun k hk h => by
      refine (if_neg h16).trans (if_neg fun ha => ?_)
      have := List.all_eq_true.1 ha (L.getD k sp0) (by rw [List.getD_eq_getElem?_getD, List.getElem?_eq_getElem hk]; exact List.getElem_mem _)
      rw [h] at this; cases this
    have HALL : Hid ((∀ k, k < L.length → okSp (L.getD k sp0) = true) → resP L = (spB L ++ endB, 0)) := fun h => by
      refine (if_neg h16).trans (if_pos (List.all_eq_true.2 fun x hx => ?_))
      obtain ⟨k, hk, rfl⟩ := List.getElem_of_mem hx
      have := h k hk
      rwa [List.getD_eq_getElem?_getD, List.getElem?_eq_getElem hk] at this
    have HTK := Lib.hid (fun k (hk : k < L.length) x (hx : L.getD k sp0 = x) => spB_take L hk hx)
    have HLN : Hid (∀ k, (spB (L.take k)).length ≤ 256) := fun k => by rw [spB_len, List.length_take]; omega
    have HTA : Hid (spB (L.take L.length) = spB L) := by unfold Hid; rw [List.take_length]
    generalize resP L = R at *
    clear hr h16
    go_enter Tryz.func8, Tryz.ntmps8
    go_wp2
    go_loopw [12] (fun i wr => ∃ k : Nat, k ≤ L.length ∧ i = .int .i64 k ∧ Lib.IsBuilder 60 5 w.heap.size w.heap.size (Lib.byteCells (spB (L.take k))) wr ∧ Hid (∀ j, j < k → okSp (L.getD j sp0) = true) ∧ Below w.heap.size w wr) (fun i _ => L.length - (intOf i).toNat)
    case atStart => exact ⟨0, Nat.zero_le _, rfl, HI0.out, fun j hj => absurd hj (Nat.not_lt_zero _), HB0.out.alloc (Nat.le_refl _) _⟩
    case round =>
      clear HB0 HI0
      obtain ⟨k, hk, rfl, hI, HOK, hb⟩ := hrel
      have HB := Lib.hid hb
      have HI := Lib.hid hI
      have hsw := hb.size
      clear hb hI
      by_cases hlt : k < L.length
      · have hki : (k : Int) < L.length := by omega
        have hk0 : (0 : Int) ≤ k := by omega
        obtain ⟨b, off, x, rfl, ⟨c0, c1⟩, HX⟩ := (HR.out.below HB.out).at_ hlt
        have HS0 := Lib.hid (HTK.out k hlt x HX.out)
        have hbad := HBAD.out k hlt
        rw [HX.out] at hbad
        have HBAD := Lib.hid hbad
        have HNX : Hid (okSp x = true → ∀ j, j < k + 1 → okSp (L.getD j sp0) = true) := fun h j hj => by
          by_cases e : j = k
          · subst e; rw [HX.out]; exact h
          · exact HOK.out j (by omega)
        have HL0 := Lib.hid (HLN.out k)
        obtain ⟨p, n⟩ := x
        simp only at c0 c1 HS0
        have HPR := Lib.hid (fun W => pair_any p n W)
        have HU1 := Lib.hid (fun W => is32_any p W)
        have HU2 := Lib.hid (fun W => is32_any n W)
        clear hbad HX HOK HTK HLN HALL HTA
        have hbw : Below wr.heap.size wr (wr.alloc (.cells #[.int .i64 p, .int .i64 n] 41)) := (Below.refl _ _).alloc (Nat.le_refl _) _
        have HI1 := Lib.hid (isBuilder_below HI.out hbw)
        have hba : Below w.heap.size w (wr.alloc (.cells #[.int .i64 p, .int .i64 n] 41)) := HB.out.alloc hsw _
        have HB1 := Lib.hid hba
        have hA := Arr.new wr 41 #[.int .i64 p, .int .i64 n]
        have x0 : (wr.alloc (.cells #[.int .i64 p, .int .i64 n] 41)).cell? ⟨wr.heap.size, 0, none⟩ = some (.int .i64 p) := hA.cell 0
        have x1 : (wr.alloc (.cells #[.int .i64 p, .int .i64 n] 41)).cell? ⟨wr.heap.size, 1, none⟩ = some (.int .i64 n) := hA.cell 1
        have hz1 := hba.size
        clear hba hbw hA HB HI
        go_upto_region 7 with fail
        generalize wr.alloc (.cells #[.int .i64 p, .int .i64 n] 41) = W1 at *
        generalize wr.heap.size = g6 at *
        clear c0 c1
        cases g1 : in32 p with
        | false =>
          have HE := Lib.hid (HBAD.out (okSp_no (by have := in32_no g1; simp only; omega)))
          rw [g1] at HU1
          clear HBAD HNX HS0 HL0 HPR HU2 HI1 g1
          cases e0 : (p == 0) with
          | false =>
            go_wp2_with (go_at_call 24; refine (HU1.out _).mono ?_; rintro e w9 ⟨rfl, rfl⟩)
            go_ret2
            exact ⟨by rw [HE.out]; rfl, HB1.out⟩
          | true =>
            cases e1 : (n == 0) with
            | false =>
              go_wp2_with (go_at_call 24; refine (HU1.out _).mono ?_; rintro e w9 ⟨rfl, rfl⟩)
              go_ret2
              exact ⟨by rw [HE.out]; rfl, HB1.out⟩
            | true =>
              go_wp2
              go_ret2
              exact ⟨by rw [HE.out]; rfl, HB1.out⟩
        | true =>
          rw [g1] at HU1
          cases g2 : in32 n with
          | false =>
            have HE := Lib.hid (HBAD.out (okSp_no (by have := in32_no g2; simp only; omega)))
            rw [g2] at HU2
            clear HBAD HNX HS0 HL0 HPR HI1 g1 g2
            cases e0 : (p == 0) with
            | false =>
              go_wp2_with (go_at_call 24; (first | (with_reducible refine (HU1.out _).mono ?_) | (with_reducible refine (HU2.out _).mono ?_)); rintro e w9 ⟨rfl, rfl⟩)
              go_ret2
              exact ⟨by rw [HE.out]; rfl, HB1.out⟩
            | true =>
              cases e1 : (n == 0) with
              | false =>
                go_wp2_with (go_at_call 24; (first | (with_reducible refine (HU1.out _).mono ?_) | (with_reducible refine (HU2.out _).mono ?_)); rintro e w9 ⟨rfl, rfl⟩)
                go_ret2
                exact ⟨by rw [HE.out]; rfl, HB1.out⟩
              | true =>
                go_wp2
                go_ret2
                exact ⟨by rw [HE.out]; rfl, HB1.out⟩
          | true =>
            rw [g2] at HU2
            obtain ⟨o1, o2⟩ := in32_iff.1 g1
            obtain ⟨o3, o4⟩ := in32_iff.1 g2
            by_cases h00 : p = 0 ∧ n = 0
            · have HE := Lib.hid (HBAD.out (okSp_no (by simp only; omega)))
              have e0 : (p == 0) = true := by rw [h00.1]; rfl
              have e1 : (n == 0) = true := by rw [h00.2]; rfl
              clear HBAD HNX HS0 HL0 HPR HI1 g1 g2 h00 o1 o2 o3 o4
              go_wp2
              go_ret2
              exact ⟨by rw [HE.out]; rfl, HB1.out⟩
            · have HN2 := Lib.hid (HNX.out (okSp_iff.2 (by simp only; omega)))
              have hd : ((p == 0) = true ∧ (n == 0) = false) ∨ (p == 0) = false := by
                cases h1 : (p == 0) with
                | false => exact .inr rfl
                | true => exact .inl ⟨rfl, by
                    cases h2 : (n == 0) with
                    | false => rfl
                    | true => exact absurd ⟨by simpa using h1, by simpa using h2⟩ h00⟩
              clear HBAD HNX g1 g2 h00 o1 o2 o3 o4
              rcases hd with ⟨e0, e1⟩ | e0
              all_goals (
                go_wp2_with (go_at_call 24; (first | (with_reducible refine (HU1.out _).mono ?_) | (with_reducible refine (HU2.out _).mono ?_)); rintro e w9 ⟨rfl, rfl⟩)
                refine (HPR.out _).mono ?_
                rintro e w3 ⟨rfl, hb3⟩
                have HI3 := Lib.hid (isBuilder_below HI1.out hb3)
                have HB3 := Lib.hid (HB1.out.trans (hb3.mono hz1))
                have hz3 := HB3.out.size
                clear hb3 HI1 HB1
                go_wp2_with fail
                refine (Tryz.Builder_WriteString w.heap.size w.heap.size _ _ _ HI3.out (by rw [Lib.byteCells_length, size_mk, four_len]; have := HL0.out; omega) (by omega)).mono ?_
                rintro e w4 ⟨rfl, hI4, hb4⟩
                have HB4 := Lib.hid (HB3.out.trans hb4)
                have HI4 := Lib.hid hI4
                clear hb4 hI4 HB3 HI3
                go_wp2
                go_roundw
                case rel => exact ⟨k + 1, by omega, by go_num, by rw [HS0.out, Lib.byteCells_append]; exact .inr HI4.out, HN2.out, HB4.out⟩
                case measure => simp [intOf]; omega)
      · obtain rfl : k = L.length := by omega
        have HE := Lib.hid (HALL.out HOK.out)
        have HPR := Lib.hid (fun W => pair_any 0 0 W)
        have HL0 := Lib.hid (HLN.out L.length)
        rw [HTA.out] at HI HL0
        clear HBAD HALL HTK HLN HTA HOK
        go_wp2_with fail
        refine (HPR.out _).mono ?_
        rintro e w3 ⟨rfl, hb3⟩
        have HI3 := Lib.hid (isBuilder_below HI.out hb3)
        have HB3 := Lib.hid (HB.out.trans (hb3.mono hsw))
        have hz3 := HB3.out.size
        clear hb3 HI HB
        go_wp2_with fail
        refine (Tryz.Builder_WriteString w.heap.size w.heap.size _ _ _ HI3.out (by rw [Lib.byteCells_length, size_mk, four_len]; have := HL0.out; omega) (by omega)).mono ?_
        rintro e w4 ⟨rfl, hI4, hb4⟩
        have HB4 := Lib.hid (HB3.out.trans hb4)
        have HI4 : Hid (Lib.IsBuilder 60 5 w.heap.size w.heap.size (Lib.byteCells (spB L ++ endB)) w4) := by
          unfold Hid
          rw [Lib.byteCells_append]
          exact .inr hI4
        have hz4 := HB4.out.size
        clear hb4 hI4 HB3 HI3
        go_wp2_with fail
        refine (Tryz.Builder_String_any w.heap.size w.heap.size _ _ HI4.out (by omega)).mono ?_
        rintro e w5 ⟨rfl, hb5⟩
        have HB5 := Lib.hid (HB4.out.trans hb5)
        clear hb5 HB4 HI4
        go_wp2
        go_ret2
        exact ⟨by rw [HE.out]; rfl, HB5.out⟩
end Go.Proofs.YtgfdbmbgldeljaaGreat

/- What package head must do, said over nothing of its code; and the awake() of layer 11's statements. Conditions: those contracts. -/
namespace Go.Proofs.YtgfdbmbgldeljaaGreat
open Go.RowKit

def inH (h : HD) : Prop := in64 h.tot ∧ in64 h.stc ∧ in64 h.sgs ∧ in64 h.rsv ∧ in64 h.boo ∧ in64 h.txs ∧ in64 h.siz
/-- The contracts of package head. -/
structure HeadMust : Prop where
  put : ∀ (h : HD) (w : World), inH h → Calls Tryz.prog 43 #[.agg (hdC h)] w fun e w' => e = .returned (.tuple #[.string ⟨(putH h).1.toArray⟩, .int .i64 ((putH h).2 : Int)]) ∧ Below w.heap.size w w'
  read : ∀ (s : ByteArray) (w : World), s.size ≤ maxLen → Calls Tryz.prog 31 #[.string s] w fun e w' => e = .returned (.tuple #[.agg (hdC (readH s.data.toList).1), .int .i64 ((readH s.data.toList).2 : Int)]) ∧ Below w.heap.size w w'
  part : ∀ (s : ByteArray) (a b : Int) (w : World), s.size ≤ maxLen → in64 a → in64 b → Calls Tryz.prog 57 #[.string s, .agg #[.int .i64 a, .int .i64 b]] w fun e w' => e = .returned (.tuple #[.string (partR s a b).1, .int .i64 ((partR s a b).2 : Int)]) ∧ Below w.heap.size w w'

/-- The header that awake() takes. -/
def h11 : HD := ⟨72, 56, 72, 40, 0, 0, 16⟩
theorem put11 : (putH h11).2 = 0 := by rfl
theorem len11 : (putH h11).1.length = 40 := (putH_len put11).1
set_option maxRecDepth 100000 in
theorem read11 : readH (putH h11).1 = (hd0, 14) := by decide +kernel
theorem part11 : partR ⟨#[97, 98, 99]⟩ 1 2 = (⟨#[98, 99]⟩, 0) := by rfl
theorem in11 : inH h11 := by unfold inH in64 h11; decide

end Go.Proofs.YtgfdbmbgldeljaaGreat

/- The program's own tests of layer 11: there, refers, valid; Part. Conditions: numbers of 64 bits; strings of at most 2^40 bytes. -/
namespace Go.Proofs.YtgfdbmbgldeljaaGreat
open Go.RowKit

/-- A span is within so many bytes. -/
def thereHB (a n t : Int) : Bool := decide (0 ≤ a ∧ a ≤ t ∧ 0 ≤ n ∧ n ≤ t - a)
def refB (tot at_ n : Int) : Bool := decide (40 ≤ at_ ∧ at_ ≤ tot ∧ 0 ≤ n ∧ n ≤ tot - at_)

set_option maxHeartbeats 1600000 in
set_option maxRecDepth 100000 in
theorem there_any (a n t : Int) (w : World) (ha : in64 a) (ht : in64 t) :
    Calls Tryz.prog 73 #[.agg #[.int .i64 a, .int .i64 n], .int .i64 t] w fun e w' => e = .returned (.bool (thereHB a n t)) ∧ Below w.heap.size w w' := by
  have HA : Hid (in64 a ∧ in64 t) := ⟨ha, ht⟩
  clear ha ht
  go_enter Tryz.func73, Tryz.ntmps73
  go_wp2
  all_goals
    go_ret
    refine ⟨congrArg (fun b => Ending.returned (.bool b)) ?_, (Below.refl _ _).alloc (Nat.le_refl _) _⟩
    obtain ⟨⟨t1, t2⟩, t3, t4⟩ := HA.out
    unfold thereHB
    try simp only [wrap64] at *
    first | (symm; apply decide_eq_false; omega) | (symm; apply decide_eq_true; omega) | (apply decide_eq_decide.2; omega)

set_option maxHeartbeats 1600000 in
set_option maxRecDepth 100000 in
theorem refers_any (h : HD) (a n : Int) (w : World) (ha : in64 a) (ht : in64 h.tot) :
    Calls Tryz.prog 72 #[.agg (hdC h), .int .i64 a, .int .i64 n] w fun e w' => e = .returned (.bool (refB h.tot a n)) ∧ Below w.heap.size w w' := by
  obtain ⟨tt, st, sg, rv, bo, tx, sz⟩ := h
  show Calls _ _ #[.agg #[.int .i64 tt, .int .i64 st, .int .i64 sg, .int .i64 rv, .int .i64 bo, .int .i64 tx, .int .i64 sz], _, _] _ (fun e w' => e = .returned (.bool (refB tt a n)) ∧ _)
  have HT := Lib.hid (fun W => there_any a n tt W ha ht)
  clear ha ht
  by_cases hg : 40 ≤ a
  · have hR : refB tt a n = thereHB a n tt := by
      unfold refB thereHB
      apply decide_eq_decide.2
      omega
    rw [hR]
    generalize thereHB a n tt = b at *
    clear hR
    go_enter Tryz.func72, Tryz.ntmps72
    go_wp2_with fail
    refine (HT.out _).mono ?_
    rintro e w1 ⟨rfl, hb⟩
    go_wp2
    go_ret
    exact ⟨rfl, ((Below.refl _ _).alloc (Nat.le_refl _) _).trans (hb.mono (by show _ ≤ (w.heap.push _).size; rw [Array.size_push]; exact Nat.le_succ _))⟩
  · have hR : refB tt a n = false := decide_eq_false (by omega)
    rw [hR]
    clear hR HT
    go_enter Tryz.func72, Tryz.ntmps72
    go_wp2
    go_ret
    exact ⟨rfl, (Below.refl _ _).alloc (Nat.le_refl _) _⟩
end Go.Proofs.YtgfdbmbgldeljaaGreat
