/- What num.Bigs returns for every slice of at most 2^40 numbers. -/
import Derived.Test.YtfcclppgjfkfoaaGreatDoorMg2
import Derived.Test.YtfcclppgjfkfoaaGreatDoorShelf
import Derived.Test.YtfcclppgjfkfoaaGreatDoorMg21
import Derived.BigQuiet
namespace Go.Proofs.YtfcclppgjfkfoaaGreatDoor
open Go.RowKit

theorem isBuilder_below {T e : TypeId} {B b : Nat} {bs : List Value} {w w' : World} (h : Lib.IsBuilder T e B b bs w) (hb : Below w.heap.size w w') : Lib.IsBuilder T e B b bs w' := by
  have H : ∀ p, Lib.BuilderAt T e B b p bs w → Lib.BuilderAt T e B b p bs w' := fun p h => by
    have hlt := h.lt
    obtain ⟨h1, v, h2, h3, h4⟩ := h
    exact ⟨h1, v, (hb.block b hlt).trans h2, ownsRow_below h3 hb, h4⟩
  rcases h with h | h
  · exact .inl (H _ h)
  · exact .inr (H _ h)

set_option maxHeartbeats 800000 in
set_option maxRecDepth 100000 in
theorem bigs_any (A : Option Addr) (cap : Nat) (l : List Int) (w : World) (hl : l.length ≤ 1099511627776) (hr : RdI w.heap.size w A l) :
    Calls Tryz.prog 90 #[.slice A l.length cap] w fun e w' => e = .returned (.string ⟨(bigs l l.length).toArray⟩) ∧ Below w.heap.size w w' := by
  have hI0 := Lib.fresh_isBuilder 103 5 w
  go_enter Tryz.func90, Tryz.ntmps90
  go_wp2
  go_loopw [8] (fun i wr => ∃ k : Nat, k ≤ l.length ∧ i = .int .i64 k ∧ Lib.IsBuilder 103 5 w.heap.size w.heap.size (Lib.byteCells (bigs l k)) wr ∧ Below w.heap.size w wr)
    (fun i _ => l.length - (intOf i).toNat)
  case atStart => exact ⟨0, Nat.zero_le _, rfl, hI0, (Below.refl _ _).alloc (Nat.le_refl _) _⟩
  case round =>
    obtain ⟨k, hk, rfl, hI, hb⟩ := hrel
    clear hI0
    have hsz := hb.size
    by_cases hlt : k < l.length
    · obtain ⟨b, off, x, rfl, hbl, hc, HX⟩ := (hr.below hb).at_ hlt
      have hbs := bigs_length l k hk
      have hbc : (Lib.byteCells (bigs l k)).length = 4 * k := by rw [Lib.byteCells_length, hbs]
      have HS := Lib.hid (bigs_succ l k hlt)
      have HB := Lib.hid hbc
      clear hbs hbc
      go_wp2_with fail
      refine (big_any _ _).mono ?_
      rintro e w1 ⟨rfl, hb1⟩
      have hI1 := isBuilder_below hI hb1
      have hs1 := hb1.size
      go_wp2_with fail
      refine (Tryz.Builder_WriteString w.heap.size w.heap.size _ _ _ hI1 (by rw [HB.out, size_mk, big_length]; omega) (by omega)).mono ?_
      rintro e w2 ⟨rfl, hI2, hb2⟩
      have hbb : Below w.heap.size w w2 := (hb.trans (hb1.mono (by omega))).trans hb2
      clear hb hb1 hb2 hI hI1 hc
      go_wp2
      go_roundw
      case rel =>
        refine ⟨k + 1, by omega, by go_num, ?_, hbb⟩
        rw [HS.out, Lib.byteCells_append, HX.out]
        exact .inr hI2
      case measure => simp [intOf]; omega
    · have hkl : k = l.length := by omega
      subst hkl
      go_wp2_with fail
      refine (Tryz.Builder_String_any w.heap.size w.heap.size _ _ hI (by omega)).mono ?_
      rintro e w2 ⟨rfl, hb2⟩
      go_wp2
      go_ret
      exact ⟨rfl, hb.trans hb2⟩

end Go.Proofs.YtfcclppgjfkfoaaGreatDoor

/- The program's Reserve of layer 15. Condition: a slice that reads as spans. -/
namespace Go.Proofs.YtfcclppgjfkfoaaGreatDoor
open Go.RowKit

/-- Has a number 32 bits? -/
def in32 (n : Int) : Bool := decide (0 ≤ n) && decide (n ≤ 4294967295)
theorem in32_iff {n : Int} : in32 n = true ↔ 0 ≤ n ∧ n ≤ 4294967295 := by unfold in32; simp
theorem in32_no {n : Int} (h : in32 n = false) : n < 0 ∨ 4294967295 < n := by
  by_cases e : 0 ≤ n ∧ n ≤ 4294967295
  · rw [in32_iff.2 e] at h; cases h
  · omega

theorem is32_any (n : Int) (w : World) : Calls Tryz.prog 56 #[.int .i64 n] w fun e w' => e = .returned (.bool (in32 n)) ∧ w = w' := by
  unfold in32
  cases h : decide (0 ≤ n) with
  | false =>
    go_enter Tryz.func56, Tryz.ntmps56
    go_wp2
    go_ret
    exact ⟨rfl, rfl⟩
  | true =>
    cases h1 : decide (n ≤ 4294967295) with
    | false =>
      go_enter Tryz.func56, Tryz.ntmps56
      go_wp2
      go_ret
      exact ⟨rfl, rfl⟩
    | true =>
      go_enter Tryz.func56, Tryz.ntmps56
      go_wp2
      go_ret
      exact ⟨rfl, rfl⟩

theorem pbig4_any (a b c d : Int) (W : World) (g : Nat) (h : Arr W g 3 #[.int .i64 a, .int .i64 b, .int .i64 c, .int .i64 d]) :
    Calls Tryz.prog 90 #[.slice (some ⟨g, 0, none⟩) 4 4] W fun e w' => e = .returned (.string ⟨(bigs [a, b, c, d] 4).toArray⟩) ∧ Below W.heap.size W w' := by
  refine bigs_any (some ⟨g, 0, none⟩) 4 [a, b, c, d] W (by show (4 : Nat) ≤ 1099511627776; decide) (.inr ⟨g, 0, rfl, h.lt, fun j hj => ?_⟩)
  rw [Nat.zero_add]
  match j, hj with
  | 0, _ => exact h.cell 0
  | 1, _ => exact h.cell 1
  | 2, _ => exact h.cell 2
  | 3, _ => exact h.cell 3

set_option maxHeartbeats 800000 in
theorem pair_any (p n : Int) (w : World) : Calls Tryz.prog 58 #[.agg #[.int .i64 p, .int .i64 n]] w fun e w' => e = .returned (.string ⟨(bigs [0, p, 0, n] 4).toArray⟩) ∧ Below w.heap.size w w' := by
  have HBG := Lib.hid (fun W g h => pbig4_any 0 p 0 n W g h)
  generalize (⟨(bigs [0, p, 0, n] 4).toArray⟩ : ByteArray) = S at *
  obtain ⟨W1, hW1⟩ : ∃ W1, W1 = w.alloc (.cells #[.int .i64 p, .int .i64 n] 80) := ⟨_, rfl⟩
  have hb0 : Below w.heap.size w W1 := by rw [hW1]; exact (Below.refl _ _).alloc (Nat.le_refl _) _
  have hA : Arr W1 w.heap.size 80 #[.int .i64 p, .int .i64 n] := by rw [hW1]; exact Arr.new _ _ _
  have x0 : W1.cell? ⟨w.heap.size, 0, none⟩ = some (.int .i64 p) := hA.cell 0
  have x1 : W1.cell? ⟨w.heap.size, 1, none⟩ = some (.int .i64 n) := hA.cell 1
  have hz0 := hb0.size
  have HB := Lib.hid (hb0.alloc hz0 (.cells #[.int .i64 0, .int .i64 p, .int .i64 0, .int .i64 n] 3))
  clear hb0 hA
  go_enter Tryz.func58, Tryz.ntmps58
  go_upto_region 1 with fail
  rw [← hW1]
  clear hW1
  generalize w.heap.size = g at x0 x1 ⊢
  go_wp2_with fail
  refine (HBG.out _ _ (Arr.new _ _ _)).mono ?_
  rintro e w2 ⟨rfl, hb⟩
  have HB2 := Lib.hid (HB.out.trans (hb.mono HB.out.size))
  clear hb HBG
  go_wp2
  go_ret
  exact ⟨rfl, HB2.out⟩

set_option maxHeartbeats 3200000 in
set_option maxRecDepth 100000 in
theorem eReserve_any (L : List SP) (A : Option Addr) (cap : Nat) (w : World) (hl : L.length ≤ maxLen) (hr : RdSp w A L) :
    Calls Tryz.prog 24 #[.slice A L.length cap] w fun e w' => e = .returned (.tuple #[.string ⟨(resP L).1.toArray⟩, .int .i64 ((resP L).2 : Int)]) ∧ Below w.heap.size w w' := by
  unfold maxLen at hl
  have HR := Lib.hid hr
  have HB0 : Hid (Below w.heap.size w w) := Below.refl _ _
  have HI0 := Lib.hid (Lib.fresh_isBuilder 103 5 w)
  by_cases h16 : 16 < L.length
  · have d1 : decide ((16 : Int) < (L.length : Int)) = true := decide_eq_true (by omega)
    have HE : Hid (resP L = ([], 7)) := if_pos h16
    generalize resP L = R at *
    clear hr HI0
    go_enter Tryz.func24, Tryz.ntmps24
    go_wp2
    go_ret2
    exact ⟨by rw [HE.out]; rfl, HB0.out⟩
  · have d1 : decide ((16 : Int) < (L.length : Int)) = false := decide_eq_false (by omega)
    have hl16 : L.length ≤ 16 := by omega
    have HBAD : Hid (∀ k, k < L.length → okSp (L.getD k sp0) = false → resP L = ([], 1)) := fun k hk h => by
      refine (if_neg h16).trans (if_neg fun ha => ?_)
      have := List.all_eq_true.1 ha (L.getD k sp0) (by rw [List.getD_eq_getElem?_getD, List.getElem?_eq_getElem hk]; exact List.getElem_mem _)
      rw [h] at this; cases this
    have HALL : Hid ((∀ k, k < L.length → okSp (L.getD k sp0) = true) → resP L = (spB L ++ endB, 0)) := fun h => by
      refine (if_neg h16).trans (if_pos (List.all_eq_true.2 fun x hx => ?_))
      obtain ⟨k, hk, rfl⟩ := List.getElem_of_mem hx
      have := h k hk
      rwa [List.getD_eq_getElem?_getD, List.getElem?_eq_getElem hk] at this
    have HTK := Lib.hid (fun k (hk : k < L.length) x (hx : L.getD k sp0 = x) => spB_take L hk hx)
    have HLN : Hid (∀ k, (spB (L.take k)).length ≤ 256) := fun k => by rw [spB_len, List.length_take]; omega
    have HTA : Hid (spB (L.take L.length) = spB L) := by unfold Hid; rw [List.take_length]
    generalize resP L = R at *
    clear hr h16
    go_enter Tryz.func24, Tryz.ntmps24
    go_wp2
    go_loopw [12] (fun i wr => ∃ k : Nat, k ≤ L.length ∧ i = .int .i64 k ∧ Lib.IsBuilder 103 5 w.heap.size w.heap.size (Lib.byteCells (spB (L.take k))) wr ∧ Hid (∀ j, j < k → okSp (L.getD j sp0) = true) ∧ Below w.heap.size w wr) (fun i _ => L.length - (intOf i).toNat)
    case atStart => exact ⟨0, Nat.zero_le _, rfl, HI0.out, fun j hj => absurd hj (Nat.not_lt_zero _), HB0.out.alloc (Nat.le_refl _) _⟩
    case round =>
      clear HB0 HI0
      obtain ⟨k, hk, rfl, hI, HOK, hb⟩ := hrel
      have HB := Lib.hid hb
      have HI := Lib.hid hI
      have hsw := hb.size
      clear hb hI
      by_cases hlt : k < L.length
      · have hki : (k : Int) < L.length := by omega
        have hk0 : (0 : Int) ≤ k := by omega
        obtain ⟨b, off, x, rfl, ⟨c0, c1⟩, HX⟩ := (HR.out.below HB.out).at_ hlt
        have HS0 := Lib.hid (HTK.out k hlt x HX.out)
        have hbad := HBAD.out k hlt
        rw [HX.out] at hbad
        have HBAD := Lib.hid hbad
        have HNX : Hid (okSp x = true → ∀ j, j < k + 1 → okSp (L.getD j sp0) = true) := fun h j hj => by
          by_cases e : j = k
          · subst e; rw [HX.out]; exact h
          · exact HOK.out j (by omega)
        have HL0 := Lib.hid (HLN.out k)
        obtain ⟨p, n⟩ := x
        simp only at c0 c1 HS0
        have HPR := Lib.hid (fun W => pair_any p n W)
        have HU1 := Lib.hid (fun W => is32_any p W)
        have HU2 := Lib.hid (fun W => is32_any n W)
        clear hbad HX HOK HTK HLN HALL HTA
        have hbw : Below wr.heap.size wr (wr.alloc (.cells #[.int .i64 p, .int .i64 n] 80)) := (Below.refl _ _).alloc (Nat.le_refl _) _
        have HI1 := Lib.hid (isBuilder_below HI.out hbw)
        have hba : Below w.heap.size w (wr.alloc (.cells #[.int .i64 p, .int .i64 n] 80)) := HB.out.alloc hsw _
        have HB1 := Lib.hid hba
        have hA := Arr.new wr 80 #[.int .i64 p, .int .i64 n]
        have x0 : (wr.alloc (.cells #[.int .i64 p, .int .i64 n] 80)).cell? ⟨wr.heap.size, 0, none⟩ = some (.int .i64 p) := hA.cell 0
        have x1 : (wr.alloc (.cells #[.int .i64 p, .int .i64 n] 80)).cell? ⟨wr.heap.size, 1, none⟩ = some (.int .i64 n) := hA.cell 1
        have hz1 := hba.size
        clear hba hbw hA HB HI
        go_upto_region 7 with fail
        generalize wr.alloc (.cells #[.int .i64 p, .int .i64 n] 80) = W1 at *
        generalize wr.heap.size = g6 at *
        clear c0 c1
        cases g1 : in32 p with
        | false =>
          have HE := Lib.hid (HBAD.out (okSp_no (by have := in32_no g1; simp only; omega)))
          rw [g1] at HU1
          clear HBAD HNX HS0 HL0 HPR HU2 HI1 g1
          cases e0 : (p == 0) with
          | false =>
            go_wp2_with (go_at_call 56; refine (HU1.out _).mono ?_; rintro e w9 ⟨rfl, rfl⟩)
            go_ret2
            exact ⟨by rw [HE.out]; rfl, HB1.out⟩
          | true =>
            cases e1 : (n == 0) with
            | false =>
              go_wp2_with (go_at_call 56; refine (HU1.out _).mono ?_; rintro e w9 ⟨rfl, rfl⟩)
              go_ret2
              exact ⟨by rw [HE.out]; rfl, HB1.out⟩
            | true =>
              go_wp2
              go_ret2
              exact ⟨by rw [HE.out]; rfl, HB1.out⟩
        | true =>
          rw [g1] at HU1
          cases g2 : in32 n with
          | false =>
            have HE := Lib.hid (HBAD.out (okSp_no (by have := in32_no g2; simp only; omega)))
            rw [g2] at HU2
            clear HBAD HNX HS0 HL0 HPR HI1 g1 g2
            cases e0 : (p == 0) with
            | false =>
              go_wp2_with (go_at_call 56; (first | (with_reducible refine (HU1.out _).mono ?_) | (with_reducible refine (HU2.out _).mono ?_)); rintro e w9 ⟨rfl, rfl⟩)
              go_ret2
              exact ⟨by rw [HE.out]; rfl, HB1.out⟩
            | true =>
              cases e1 : (n == 0) with
              | false =>
                go_wp2_with (go_at_call 56; (first | (with_reducible refine (HU1.out _).mono ?_) | (with_reducible refine (HU2.out _).mono ?_)); rintro e w9 ⟨rfl, rfl⟩)
                go_ret2
                exact ⟨by rw [HE.out]; rfl, HB1.out⟩
              | true =>
                go_wp2
                go_ret2
                exact ⟨by rw [HE.out]; rfl, HB1.out⟩
          | true =>
            rw [g2] at HU2
            obtain ⟨o1, o2⟩ := in32_iff.1 g1
            obtain ⟨o3, o4⟩ := in32_iff.1 g2
            by_cases h00 : p = 0 ∧ n = 0
            · have HE := Lib.hid (HBAD.out (okSp_no (by simp only; omega)))
              have e0 : (p == 0) = true := by rw [h00.1]; rfl
              have e1 : (n == 0) = true := by rw [h00.2]; rfl
              clear HBAD HNX HS0 HL0 HPR HI1 g1 g2 h00 o1 o2 o3 o4
              go_wp2
              go_ret2
              exact ⟨by rw [HE.out]; rfl, HB1.out⟩
            · have HN2 := Lib.hid (HNX.out (okSp_iff.2 (by simp only; omega)))
              have hd : ((p == 0) = true ∧ (n == 0) = false) ∨ (p == 0) = false := by
                cases h1 : (p == 0) with
                | false => exact .inr rfl
                | true => exact .inl ⟨rfl, by
                    cases h2 : (n == 0) with
                    | false => rfl
                    | true => exact absurd ⟨by simpa using h1, by simpa using h2⟩ h00⟩
              clear HBAD HNX g1 g2 h00 o1 o2 o3 o4
              rcases hd with ⟨e0, e1⟩ | e0
              all_goals (
                go_wp2_with (go_at_call 56; (first | (with_reducible refine (HU1.out _).mono ?_) | (with_reducible refine (HU2.out _).mono ?_)); rintro e w9 ⟨rfl, rfl⟩)
                refine (HPR.out _).mono ?_
                rintro e w3 ⟨rfl, hb3⟩
                have HI3 := Lib.hid (isBuilder_below HI1.out hb3)
                have HB3 := Lib.hid (HB1.out.trans (hb3.mono hz1))
                have hz3 := HB3.out.size
                clear hb3 HI1 HB1
                go_wp2_with fail
                refine (Tryz.Builder_WriteString w.heap.size w.heap.size _ _ _ HI3.out (by rw [Lib.byteCells_length, size_mk, four_len]; have := HL0.out; omega) (by omega)).mono ?_
                rintro e w4 ⟨rfl, hI4, hb4⟩
                have HB4 := Lib.hid (HB3.out.trans hb4)
                have HI4 := Lib.hid hI4
                clear hb4 hI4 HB3 HI3
                go_wp2
                go_roundw
                case rel => exact ⟨k + 1, by omega, by go_num, by rw [HS0.out, Lib.byteCells_append]; exact .inr HI4.out, HN2.out, HB4.out⟩
                case measure => simp [intOf]; omega)
      · obtain rfl : k = L.length := by omega
        have HE := Lib.hid (HALL.out HOK.out)
        have HPR := Lib.hid (fun W => pair_any 0 0 W)
        have HL0 := Lib.hid (HLN.out L.length)
        rw [HTA.out] at HI HL0
        clear HBAD HALL HTK HLN HTA HOK
        go_wp2_with fail
        refine (HPR.out _).mono ?_
        rintro e w3 ⟨rfl, hb3⟩
        have HI3 := Lib.hid (isBuilder_below HI.out hb3)
        have HB3 := Lib.hid (HB.out.trans (hb3.mono hsw))
        have hz3 := HB3.out.size
        clear hb3 HI HB
        go_wp2_with fail
        refine (Tryz.Builder_WriteString w.heap.size w.heap.size _ _ _ HI3.out (by rw [Lib.byteCells_length, size_mk, four_len]; have := HL0.out; omega) (by omega)).mono ?_
        rintro e w4 ⟨rfl, hI4, hb4⟩
        have HB4 := Lib.hid (HB3.out.trans hb4)
        have HI4 : Hid (Lib.IsBuilder 103 5 w.heap.size w.heap.size (Lib.byteCells (spB L ++ endB)) w4) := by
          unfold Hid
          rw [Lib.byteCells_append]
          exact .inr hI4
        have hz4 := HB4.out.size
        clear hb4 hI4 HB3 HI3
        go_wp2_with fail
        refine (Tryz.Builder_String_any w.heap.size w.heap.size _ _ HI4.out (by omega)).mono ?_
        rintro e w5 ⟨rfl, hb5⟩
        have HB5 := Lib.hid (HB4.out.trans hb5)
        clear hb5 HB4 HI4
        go_wp2
        go_ret2
        exact ⟨by rw [HE.out]; rfl, HB5.out⟩
end Go.Proofs.YtfcclppgjfkfoaaGreatDoor

/- What package head must do, said over nothing of its code; and the awake() of layer 11's statements. Conditions: those contracts. -/
namespace Go.Proofs.YtfcclppgjfkfoaaGreatDoor
open Go.RowKit

def inH (h : HD) : Prop := in64 h.tot ∧ in64 h.stc ∧ in64 h.sgs ∧ in64 h.rsv ∧ in64 h.boo ∧ in64 h.txs ∧ in64 h.siz
/-- The contracts of package head. -/
structure HeadMust : Prop where
  put : ∀ (h : HD) (w : World), inH h → Calls Tryz.prog 65 #[.agg (hdC h)] w fun e w' => e = .returned (.tuple #[.string ⟨(putH h).1.toArray⟩, .int .i64 ((putH h).2 : Int)]) ∧ Below w.heap.size w w'
  read : ∀ (s : ByteArray) (w : World), s.size ≤ maxLen → Calls Tryz.prog 14 #[.string s] w fun e w' => e = .returned (.tuple #[.agg (hdC (readH s.data.toList).1), .int .i64 ((readH s.data.toList).2 : Int)]) ∧ Below w.heap.size w w'
  part : ∀ (s : ByteArray) (a b : Int) (w : World), s.size ≤ maxLen → in64 a → in64 b → Calls Tryz.prog 39 #[.string s, .agg #[.int .i64 a, .int .i64 b]] w fun e w' => e = .returned (.tuple #[.string (partR s a b).1, .int .i64 ((partR s a b).2 : Int)]) ∧ Below w.heap.size w w'

/-- The header that awake() takes. -/
def h11 : HD := ⟨72, 56, 72, 40, 0, 0, 16⟩
theorem put11 : (putH h11).2 = 0 := by rfl
theorem len11 : (putH h11).1.length = 40 := (putH_len put11).1
set_option maxRecDepth 100000 in
theorem read11 : readH (putH h11).1 = (hd0, 14) := by decide +kernel
theorem part11 : partR ⟨#[97, 98, 99]⟩ 1 2 = (⟨#[98, 99]⟩, 0) := by rfl
theorem in11 : inH h11 := by unfold inH in64 h11; decide

end Go.Proofs.YtfcclppgjfkfoaaGreatDoor

/- The program's own tests of layer 11: there, refers, valid; Part. Conditions: numbers of 64 bits; strings of at most 2^40 bytes. -/
namespace Go.Proofs.YtfcclppgjfkfoaaGreatDoor
open Go.RowKit

/-- A span is within so many bytes. -/
def thereHB (a n t : Int) : Bool := decide (0 ≤ a ∧ a ≤ t ∧ 0 ≤ n ∧ n ≤ t - a)
def refB (tot at_ n : Int) : Bool := decide (40 ≤ at_ ∧ at_ ≤ tot ∧ 0 ≤ n ∧ n ≤ tot - at_)

set_option maxHeartbeats 1600000 in
set_option maxRecDepth 100000 in
theorem there_any (a n t : Int) (w : World) (ha : in64 a) (ht : in64 t) :
    Calls Tryz.prog 75 #[.agg #[.int .i64 a, .int .i64 n], .int .i64 t] w fun e w' => e = .returned (.bool (thereHB a n t)) ∧ Below w.heap.size w w' := by
  have HA : Hid (in64 a ∧ in64 t) := ⟨ha, ht⟩
  clear ha ht
  go_enter Tryz.func75, Tryz.ntmps75
  go_wp2
  all_goals
    go_ret
    refine ⟨congrArg (fun b => Ending.returned (.bool b)) ?_, (Below.refl _ _).alloc (Nat.le_refl _) _⟩
    obtain ⟨⟨t1, t2⟩, t3, t4⟩ := HA.out
    unfold thereHB
    try simp only [wrap64] at *
    first | (symm; apply decide_eq_false; omega) | (symm; apply decide_eq_true; omega) | (apply decide_eq_decide.2; omega)

set_option maxHeartbeats 1600000 in
set_option maxRecDepth 100000 in
theorem refers_any (h : HD) (a n : Int) (w : World) (ha : in64 a) (ht : in64 h.tot) :
    Calls Tryz.prog 74 #[.agg (hdC h), .int .i64 a, .int .i64 n] w fun e w' => e = .returned (.bool (refB h.tot a n)) ∧ Below w.heap.size w w' := by
  obtain ⟨tt, st, sg, rv, bo, tx, sz⟩ := h
  show Calls _ _ #[.agg #[.int .i64 tt, .int .i64 st, .int .i64 sg, .int .i64 rv, .int .i64 bo, .int .i64 tx, .int .i64 sz], _, _] _ (fun e w' => e = .returned (.bool (refB tt a n)) ∧ _)
  have HT := Lib.hid (fun W => there_any a n tt W ha ht)
  clear ha ht
  by_cases hg : 40 ≤ a
  · have hR : refB tt a n = thereHB a n tt := by
      unfold refB thereHB
      apply decide_eq_decide.2
      omega
    rw [hR]
    generalize thereHB a n tt = b at *
    clear hR
    go_enter Tryz.func74, Tryz.ntmps74
    go_wp2_with fail
    refine (HT.out _).mono ?_
    rintro e w1 ⟨rfl, hb⟩
    go_wp2
    go_ret
    exact ⟨rfl, ((Below.refl _ _).alloc (Nat.le_refl _) _).trans (hb.mono (by show _ ≤ (w.heap.push _).size; rw [Array.size_push]; exact Nat.le_succ _))⟩
  · have hR : refB tt a n = false := decide_eq_false (by omega)
    rw [hR]
    clear hR HT
    go_enter Tryz.func74, Tryz.ntmps74
    go_wp2
    go_ret
    exact ⟨rfl, (Below.refl _ _).alloc (Nat.le_refl _) _⟩
end Go.Proofs.YtfcclppgjfkfoaaGreatDoor

/- The program's valid of layer 11. Conditions: numbers of 64 bits. -/
namespace Go.Proofs.YtfcclppgjfkfoaaGreatDoor
open Go.RowKit

def validH (h : HD) : Bool := mayH h && decide (h.tot ≤ 16384)

theorem tmod4 (x : Int) : x.tmod 4 = 0 ↔ x % 4 = 0 := by
  rw [← Int.dvd_iff_tmod_eq_zero, Int.dvd_iff_emod_eq_zero]
theorem tmod8 (x : Int) : x.tmod 8 = 0 ↔ x % 8 = 0 := by
  rw [← Int.dvd_iff_tmod_eq_zero, Int.dvd_iff_emod_eq_zero]

set_option maxHeartbeats 1600000 in
set_option maxRecDepth 100000 in
theorem valid_any (h : HD) (w : World) (hh : inH h) :
    Calls Tryz.prog 37 #[.agg (hdC h)] w fun e w' => e = .returned (.bool (validH h)) ∧ Below w.heap.size w w' := by
  have HR0 := Lib.hid (fun W a n (ha : in64 a) => refers_any h a n W ha hh.1)
  obtain ⟨tt, st, sg, rv, bo, tx, sz⟩ := h
  obtain ⟨h1, h2, h3, h4, h5, h6, h7⟩ := hh
  simp only at h1 h2 h3 h4 h5 h6 h7
  show Calls _ _ #[.agg #[.int .i64 tt, .int .i64 st, .int .i64 sg, .int .i64 rv, .int .i64 bo, .int .i64 tx, .int .i64 sz]] _ _
  obtain ⟨W0, hW0⟩ : ∃ W0, W0 = w.alloc (.cells #[.int .i64 tt, .int .i64 st, .int .i64 sg, .int .i64 rv, .int .i64 bo, .int .i64 tx, .int .i64 sz] 51) := ⟨_, rfl⟩
  have HA0 : Hid (Arr W0 w.heap.size 51 #[.int .i64 tt, .int .i64 st, .int .i64 sg, .int .i64 rv, .int .i64 bo, .int .i64 tx, .int .i64 sz]) := by rw [hW0]; exact Arr.new w _ _
  have HB0 : Hid (Below w.heap.size w W0) := by rw [hW0]; exact (Below.refl _ _).alloc (Nat.le_refl _) _
  have HV : validH ⟨tt, st, sg, rv, bo, tx, sz⟩ = (decide (40 ≤ tt ∧ tt ≤ 16384 ∧ st % 4 = 0 ∧ rv % 8 = 0 ∧ 0 ≤ bo ∧ bo ≤ 4294967295) && (refB tt st sz && (refB tt sg tx && refB tt rv 0))) := by
    unfold validH mayH refB
    simp only [← Bool.decide_and]
    apply decide_eq_decide.2
    omega
  rw [HV]
  clear HV
  have R1 := Lib.hid (fun W => HR0.out W st sz h2)
  have R2 := Lib.hid (fun W => HR0.out W sg tx h3)
  have R3 := Lib.hid (fun W => HR0.out W rv 0 h4)
  simp only [hdC] at R1 R2 R3
  clear HR0 h1 h2 h3 h4 h5 h6 h7
  generalize refB tt st sz = b1 at *
  generalize refB tt sg tx = b2 at *
  generalize refB tt rv 0 = b3 at *
  have c0 := HA0.out.cell 0
  have c1 := HA0.out.cell 1
  have c2 := HA0.out.cell 2
  have c3 := HA0.out.cell 3
  have c4 := HA0.out.cell 4
  have c5 := HA0.out.cell 5
  have c6 := HA0.out.cell 6
  simp only [List.getElem?_toArray, List.getElem?_cons_zero, List.getElem?_cons_succ] at c0 c1 c2 c3 c4 c5 c6
  have HT4 := Lib.hid (tmod4 st)
  have HT8 := Lib.hid (tmod8 rv)
  by_cases q1 : 40 ≤ tt
  rotate_left
  · as_aux_lemma =>
      rw [show decide (40 ≤ tt ∧ tt ≤ 16384 ∧ st % 4 = 0 ∧ rv % 8 = 0 ∧ 0 ≤ bo ∧ bo ≤ 4294967295) = false from decide_eq_false (fun h => absurd h.1 q1), Bool.false_and]
      go_enter Tryz.func37, Tryz.ntmps37
      go_upto_region 1 with fail
      rw [← hW0]
      clear hW0
      go_wp2
      go_ret
      exact ⟨rfl, HB0.out⟩
  by_cases q2 : tt ≤ 16384
  rotate_left
  · as_aux_lemma =>
      rw [show decide (40 ≤ tt ∧ tt ≤ 16384 ∧ st % 4 = 0 ∧ rv % 8 = 0 ∧ 0 ≤ bo ∧ bo ≤ 4294967295) = false from decide_eq_false (fun h => absurd h.2.1 q2), Bool.false_and]
      go_enter Tryz.func37, Tryz.ntmps37
      go_upto_region 1 with fail
      rw [← hW0]
      clear hW0
      go_wp2
      go_ret
      exact ⟨rfl, HB0.out⟩
  by_cases q3 : st.tmod 4 = 0
  rotate_left
  · as_aux_lemma =>
      rw [show decide (40 ≤ tt ∧ tt ≤ 16384 ∧ st % 4 = 0 ∧ rv % 8 = 0 ∧ 0 ≤ bo ∧ bo ≤ 4294967295) = false from decide_eq_false (fun h => absurd (HT4.out.2 h.2.2.1) q3), Bool.false_and]
      have dq : (st.tmod 4 == 0) = false := by simpa using q3
      go_enter Tryz.func37, Tryz.ntmps37
      go_upto_region 1 with fail
      rw [← hW0]
      clear hW0
      go_wp2
      go_ret
      exact ⟨rfl, HB0.out⟩
  by_cases q4 : rv.tmod 8 = 0
  rotate_left
  · as_aux_lemma =>
      rw [show decide (40 ≤ tt ∧ tt ≤ 16384 ∧ st % 4 = 0 ∧ rv % 8 = 0 ∧ 0 ≤ bo ∧ bo ≤ 4294967295) = false from decide_eq_false (fun h => absurd (HT8.out.2 h.2.2.2.1) q4), Bool.false_and]
      have dq : (rv.tmod 8 == 0) = false := by simpa using q4
      go_enter Tryz.func37, Tryz.ntmps37
      go_upto_region 1 with fail
      rw [← hW0]
      clear hW0
      go_wp2
      go_ret
      exact ⟨rfl, HB0.out⟩
  have hs4 := HT4.out.1 q3
  have hs8 := HT8.out.1 q4
  have HS4 := Lib.hid hs4
  have HS8 := Lib.hid hs8
  clear hs4 hs8 HT4 HT8
  have HDB : Hid (decide (40 ≤ tt ∧ tt ≤ 16384 ∧ st % 4 = 0 ∧ rv % 8 = 0 ∧ 0 ≤ bo ∧ bo ≤ 4294967295) = decide (0 ≤ bo ∧ bo ≤ 4294967295)) := decide_eq_decide.2 ⟨fun h => h.2.2.2.2, fun h => ⟨q1, q2, HS4.out, HS8.out, h⟩⟩
  rw [HDB.out]
  clear HDB HS4 HS8
  obtain ⟨z, hz⟩ : ∃ z : Bool, z = (decide (0 ≤ bo ∧ bo ≤ 4294967295) && (b1 && (b2 && b3))) := ⟨_, rfl⟩
  rw [← hz]
  have HZ := Lib.hid hz
  clear hz
  go_enter Tryz.func37, Tryz.ntmps37
  go_upto_region 1 with fail
  rw [← hW0]
  clear hW0
  go_wp2_with (refine wpList_load_row rfl 51 (.tmp 1) rfl w.heap.size rfl _ _ _ _ HA0.out Tryz.underlying51 rfl (infoH hd0) ?_)
  refine (R1.out _).mono ?_
  rintro e w1 ⟨rfl, hb1⟩
  have HA1 := Lib.hid (HA0.out.below hb1 HA0.out.lt)
  have HB1 := Lib.hid (HB0.out.trans (hb1.mono HB0.out.size))
  clear hb1 R1 c0 c1 c2 c3 c4 c5 c6
  have c0 := HA1.out.cell 0
  have c1 := HA1.out.cell 1
  have c2 := HA1.out.cell 2
  have c3 := HA1.out.cell 3
  have c4 := HA1.out.cell 4
  have c5 := HA1.out.cell 5
  have c6 := HA1.out.cell 6
  simp only [List.getElem?_toArray, List.getElem?_cons_zero, List.getElem?_cons_succ] at c0 c1 c2 c3 c4 c5 c6
  by_cases p1 : b1 = true
  rotate_left
  · as_aux_lemma =>
      obtain rfl : b1 = false := by simpa using p1
      have HZ1 : Hid (z = false) := HZ.out.trans (by simp)
      clear HZ p1
      go_wp2
      go_ret
      exact ⟨by rw [HZ1.out]; rfl, HB1.out⟩
  subst p1
  go_wp2_with (refine wpList_load_row rfl 51 (.tmp 1) rfl w.heap.size rfl _ _ _ _ HA1.out Tryz.underlying51 rfl (infoH hd0) ?_)
  refine (R2.out _).mono ?_
  rintro e w2 ⟨rfl, hb2⟩
  have HA2 := Lib.hid (HA1.out.below hb2 HA1.out.lt)
  have HB2 := Lib.hid (HB1.out.trans (hb2.mono HB1.out.size))
  clear hb2 R2 c0 c1 c2 c3 c4 c5 c6
  have c0 := HA2.out.cell 0
  have c1 := HA2.out.cell 1
  have c2 := HA2.out.cell 2
  have c3 := HA2.out.cell 3
  have c4 := HA2.out.cell 4
  have c5 := HA2.out.cell 5
  have c6 := HA2.out.cell 6
  simp only [List.getElem?_toArray, List.getElem?_cons_zero, List.getElem?_cons_succ] at c0 c1 c2 c3 c4 c5 c6
  by_cases p2 : b2 = true
  rotate_left
  · as_aux_lemma =>
      obtain rfl : b2 = false := by simpa using p2
      have HZ1 : Hid (z = false) := HZ.out.trans (by simp)
      clear HZ p2
      go_wp2
      go_ret
      exact ⟨by rw [HZ1.out]; rfl, HB2.out⟩
  subst p2
  go_wp2_with (refine wpList_load_row rfl 51 (.tmp 1) rfl w.heap.size rfl _ _ _ _ HA2.out Tryz.underlying51 rfl (infoH hd0) ?_)
  refine (R3.out _).mono ?_
  rintro e w3 ⟨rfl, hb3⟩
  have HA3 := Lib.hid (HA2.out.below hb3 HA2.out.lt)
  have HB3 := Lib.hid (HB2.out.trans (hb3.mono HB2.out.size))
  clear hb3 R3 c0 c1 c2 c3 c4 c5 c6
  have c0 := HA3.out.cell 0
  have c1 := HA3.out.cell 1
  have c2 := HA3.out.cell 2
  have c3 := HA3.out.cell 3
  have c4 := HA3.out.cell 4
  have c5 := HA3.out.cell 5
  have c6 := HA3.out.cell 6
  simp only [List.getElem?_toArray, List.getElem?_cons_zero, List.getElem?_cons_succ] at c0 c1 c2 c3 c4 c5 c6
  by_cases p3 : b3 = true
  rotate_left
  · as_aux_lemma =>
      obtain rfl : b3 = false := by simpa using p3
      have HZ1 : Hid (z = false) := HZ.out.trans (by simp)
      clear HZ p3
      go_wp2
      go_ret
      exact ⟨by rw [HZ1.out]; rfl, HB3.out⟩
  subst p3
  have HZ1 : Hid (z = decide (0 ≤ bo ∧ bo ≤ 4294967295)) := HZ.out.trans (by simp)
  clear HZ
  go_wp2
  all_goals
    go_ret
    refine ⟨congrArg (fun b => Ending.returned (.bool b)) ?_, HB3.out⟩
    rw [HZ1.out]
    first | (symm; apply decide_eq_false; omega) | (symm; apply decide_eq_true; omega) | (apply decide_eq_decide.2; omega)
end Go.Proofs.YtfcclppgjfkfoaaGreatDoor

/- What the document's SameInts returns for two slices of the same numbers. Conditions: at most 2^40 numbers. -/
namespace Go.Proofs.YtfcclppgjfkfoaaGreatDoor
open Go.RowKit

end Go.Proofs.YtfcclppgjfkfoaaGreatDoor
