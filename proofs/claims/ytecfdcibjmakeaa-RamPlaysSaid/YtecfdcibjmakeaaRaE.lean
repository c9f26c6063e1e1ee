/- What the document's Read returns. Conditions: at most 100 spans are loaded, and they exist. -/
import Derived.Test.YtecfdcibjmakeaaRaL
import Derived.Deep.OwnRows
import Derived.Laws.IdiomStrings
import Derived.Laws.OwnMore
namespace Go.Proofs.Ytecfdcibjmakeaa
open Go.RowKit

/-- Bytes as cells. -/
def by8 (l : List UInt8) : Array Value := (l.map fun b => Value.int .u8 (b.toNat : Int)).toArray
theorem by8_at (l : List UInt8) {j : Nat} (h : j < l.length) : (by8 l)[j]? = some (.int .u8 ((l.getD j 0).toNat : Int)) := by simp [by8, List.getD, h]
theorem by8_set (l : List UInt8) (j : Nat) (b : UInt8) : (by8 l).setIfInBounds j (.int .u8 (b.toNat : Int)) = by8 (l.set j b) := by
  unfold by8; apply Array.ext'; simp [List.map_set]
theorem by8_made (n : Nat) : madeCells #[.int .u8 0] n = by8 (List.replicate n 0) := by
  apply Array.ext'
  rw [toList_madeCells_one]
  unfold by8
  rw [List.map_replicate]
  rfl
/-- The byte at a place, after the first i, and k bytes of the next one. -/
def pBy (R : List LD) (i : Nat) (x : LD) (k j : Nat) : UInt8 := if x.p ≤ j ∧ j < x.p + k then x.s.data.toList.getD (j - x.p) 0 else byR (R.take i) j
theorem pBy_zero (R : List LD) (i : Nat) (x : LD) (j : Nat) : pBy R i x 0 j = byR (R.take i) j := by unfold pBy; rw [if_neg (by omega)]
theorem pBy_full (R : List LD) {i : Nat} (hi : i < R.length) {x : LD} (hx : R.getD i ld0 = x) (j : Nat) : pBy R i x x.s.size j = byR (R.take (i + 1)) j := by
  have e : R.take (i + 1) = R.take i ++ [x] := by
    rw [List.take_succ_eq_append_getElem hi]
    subst hx
    simp [List.getD, hi]
  rw [e, byR_snoc]; rfl
/-- The bytes l are those that f tells from a on. -/
def RowOf (l : List UInt8) (n a : Nat) (f : Nat → UInt8) : Prop := l.length = n ∧ ∀ j, j < n → l.getD j 0 = f (a + j)
theorem rowOf_new (n a : Nat) : RowOf (List.replicate n 0) n a (byR []) := ⟨List.length_replicate, fun j hj => by simp [List.getD, hj]; rfl⟩
theorem rowOf_put {l : List UInt8} {n a : Nat} {R : List LD} {i : Nat} {x : LD} {k : Nat} (h : RowOf l n a (pBy R i x k)) {j : Nat} (hj : a + j = x.p + k) (hn : j < n) : RowOf (l.set j (x.s.data.toList.getD k 0)) n a (pBy R i x (k + 1)) := by
  refine ⟨by rw [List.length_set]; exact h.1, fun m hm => ?_⟩
  by_cases e : m = j
  · subst e
    have hl : m < l.length := by rw [h.1]; exact hm
    unfold pBy
    rw [if_pos (by omega), show a + m - x.p = k by omega]
    simp [List.getD, hl]
  · have h1 := h.2 m hm
    have h2 : (l.set j (x.s.data.toList.getD k 0)).getD m 0 = l.getD m 0 := by
      simp only [List.getD_eq_getElem?_getD]
      rw [List.getElem?_set_ne (by omega)]
    rw [h2, h1]
    unfold pBy
    by_cases hc : x.p ≤ a + m ∧ a + m < x.p + k
    · rw [if_pos hc, if_pos (by omega)]
    · rw [if_neg hc, if_neg (by omega)]
theorem rowOf_skip {l : List UInt8} {n a : Nat} {R : List LD} {i : Nat} {x : LD} {k : Nat} (h : RowOf l n a (pBy R i x k)) (hj : ¬ (a ≤ x.p + k ∧ x.p + k < a + n)) : RowOf l n a (pBy R i x (k + 1)) := by
  refine ⟨h.1, fun m hm => ?_⟩
  rw [h.2 m hm]
  unfold pBy
  by_cases hc : x.p ≤ a + m ∧ a + m < x.p + k
  · rw [if_pos hc, if_pos (by omega)]
  · rw [if_neg hc, if_neg (by omega)]
theorem rowOf_all {l : List UInt8} {n a : Nat} {f : Nat → UInt8} (h : RowOf l n a f) : l = (List.range n).map fun i => f (a + i) := by
  refine List.ext_getElem (by simp [h.1]) fun j h1 h2 => ?_
  have hj : j < n := by rw [← h.1]; exact h1
  have := h.2 j hj
  simp only [List.getD, List.getElem?_eq_getElem h1, Option.getD_some] at this
  simp [this]
theorem RowOf.congr {l : List UInt8} {n a : Nat} {f f' : Nat → UInt8} (h : RowOf l n a f) (e : ∀ j, f j = f' j) : RowOf l n a f' := ⟨h.1, fun j hj => (h.2 j hj).trans (e _)⟩
theorem by8_back {w : World} {B : Nat} {l : List UInt8} {t : Nat} (h : Arr w B t (by8 l)) (n cap : Nat) (hn : l.length = n) :
    (convert 50 9 (.slice (some ⟨B, 0, none⟩) n cap)).run Try.prog w = .ok (.string ⟨l.toArray⟩) w := by
  subst hn
  exact run_convert_bytes_back w 50 9 5 ⟨B, 0, none⟩ cap l Try.underlying50 Try.underlying5 Try.underlying9 (fun j hj => by
    have e : (⟨B, 0, none⟩ : Addr).add j = ⟨B, j, none⟩ := by unfold Addr.add; split <;> simp_all
    rw [e, h.cell, by8_at l hj]
    simp [List.getD, hj])
theorem u8info : (Try.prog.info? 5).map (fun i => (i.zero, i.size, i.bytes)) = some (some (.int .u8 0), 1, 1) := by kernel_rfl

set_option maxHeartbeats 3200000 in
set_option maxRecDepth 100000 in
theorem rread_any (g : Nat) (vL vS : Value) (R : List LD) (a n : Int) (w : World) (h : DR w g vL vS R) (hok : RamOk R) (hR : R.length ≤ 100) :
    Calls Try.prog 10 #[.pointer (some ⟨g, 0, none⟩), .int .i64 a, .int .i64 n] w fun e w' => e = .returned (.tuple #[.string (rdR R a n).1, .int .i64 ((rdR R a n).2 : Int)]) ∧ Below w.heap.size w w' := by
  have HI := Lib.hid (inside_any ⟨a, n⟩ w)
  unfold spV at HI
  simp only at HI
  have H := Lib.hid h
  obtain ⟨AL, capL, hvL, hrd⟩ := h.spans
  obtain ⟨AS, capS, hvS, hst⟩ := h.strs
  have HRD := Lib.hid hrd
  have HST := Lib.hid hst
  have c0 : w.cell? ⟨g, 0, none⟩ = some (.slice AL R.length capL) := by rw [h.1.cell 0, ← List.length_map (f := LD.sp), ← hvL]; rfl
  have c1 : w.cell? ⟨g, 1, none⟩ = some (.slice AS R.length capS) := by rw [h.1.cell 1, ← hvS]; rfl
  have HC0 := Lib.hid c0
  have HC1 := Lib.hid c1
  have HOK := Lib.hid hok
  clear h hrd hst hvL hvS c0 c1 hok H
  cases hin : insS ⟨a, n⟩ with
  | false =>
    rw [hin] at HI
    have HN : Hid (rdR R a n = (⟨#[]⟩, 2)) := by unfold Hid rdR; rw [if_neg (by rw [hin]; decide)]
    rw [HN.out]
    clear hin
    go_enter Try.func10, Try.ntmps10
    go_wp2_with fail
    refine HI.out.mono ?_
    rintro e w1 ⟨rfl, hb⟩
    go_wp2
    go_ret2
    exact ⟨rfl, hb⟩
  | true =>
    rw [hin] at HI
    have hb := insS_of hin
    simp only at hb
    obtain ⟨b1, b2, b3, b4⟩ := hb
    obtain ⟨x, rfl⟩ := Int.eq_ofNat_of_zero_le b1
    obtain ⟨m, rfl⟩ := Int.eq_ofNat_of_zero_le b2
    have HN : Hid (∀ l : List UInt8, RowOf l m x (byR R) → rdR R (x : Int) (m : Int) = (⟨l.toArray⟩, 0)) := by
      intro l hl
      unfold rdR
      rw [if_pos hin, Int.toNat_natCast, Int.toNat_natCast, rowOf_all hl]
    have hmk := fun W => run_make_row' (P := Try.prog) 50 5 (.int .u8 0) 1 Try.underlying50 u8info rfl .i64 .i64 m (by omega) (by omega) W
    have hx : x ≤ 65536 := by omega
    have hm : m ≤ 65536 := by omega
    obtain ⟨ans, hans⟩ : ∃ ans, rdR R (x : Int) (m : Int) = ans := ⟨_, rfl⟩
    have HANS := Lib.hid hans
    rw [hans]
    clear hin hans
    go_enter Try.func10, Try.ntmps10
    go_wp2_with fail
    refine HI.out.mono ?_
    rintro e w1 ⟨rfl, hb1⟩
    have HB1 := Lib.hid hb1
    have hz1 := hb1.size
    have HAr : Hid (Arr (w1.alloc (.cells (madeCells #[.int .u8 0] m) 5)) w1.heap.size 5 (by8 (List.replicate m 0))) := by
      have := Arr.new w1 5 (madeCells #[.int .u8 0] m)
      rwa [by8_made] at this ⊢
    have HBa : Hid (Below w.heap.size w (w1.alloc (.cells (madeCells #[.int .u8 0] m) 5))) := HB1.out.trans (((Below.refl _ _).alloc (Nat.le_refl _) _).mono hz1)
    clear hb1 HI HB1
    go_wp2
    generalize w1.alloc (.cells (madeCells #[.int .u8 0] m) 5) = w2 at *
    generalize w1.heap.size = gb at *
    clear hmk
    go_loopw [9] (fun v wr => ∃ (i : Nat) (l : List UInt8), i ≤ R.length ∧ v = .int .i64 i ∧ RowOf l m x (byR (R.take i)) ∧ Arr wr gb 5 (by8 l) ∧ Below w.heap.size w wr) (fun v _ => R.length - (intOf v).toNat)
    case atStart => exact ⟨0, List.replicate m 0, Nat.zero_le _, rfl, rowOf_new m x, HAr.out, HBa.out⟩
    case round =>
      clear HAr HBa
      obtain ⟨i, l, hi, rfl, hrow, hA, hb⟩ := hrel
      have HROW := Lib.hid hrow
      have HA := Lib.hid hA
      have HB := Lib.hid hb
      have hz := hb.size
      have c0 : wr.cell? ⟨g, 0, none⟩ = some (.slice AL R.length capL) := cell_below HC0.out hb
      have c1 : wr.cell? ⟨g, 1, none⟩ = some (.slice AS R.length capS) := cell_below HC1.out hb
      clear hrow hA hb
      by_cases hlt : i < R.length
      · have hii : (i : Int) < R.length := by omega
        obtain ⟨bs, os, rfl, hcs⟩ : ∃ bs os, AS = some ⟨bs, os, none⟩ ∧ ∀ W, Below w.heap.size w W → W.cell? ⟨bs, os + i, none⟩ = some (.string (R.getD i ld0).s) := by
          rcases HST.out with rfl | ⟨bs, os, h1, h2⟩
          · exact absurd hlt (Nat.not_lt_zero _)
          · exact ⟨bs, os, h1, fun W hW => cell_below (h2 i hlt) hW⟩
        obtain ⟨bL, oL, rfl, hcl⟩ : ∃ bL oL, AL = some ⟨bL, oL, none⟩ ∧ ∀ W, Below w.heap.size w W → W.cell? ⟨bL, oL + i * 2, none⟩ = some (.int .i64 ((R.getD i ld0).p : Int)) := by
          rcases HRD.out with h0 | ⟨bL, oL, h1, h2⟩
          · have : R = [] := by simpa using h0
            subst this; exact absurd hlt (Nat.not_lt_zero _)
          · have h3 := (h2 i (by rw [List.length_map]; exact hlt)).1
            rw [sp_getD R hlt] at h3
            exact ⟨bL, oL, h1, fun W hW => cell_below h3 hW⟩
        have hsp := insS_of (HOK.out.1 i hlt).1
        have HPF := Lib.hid (fun y (hy : R.getD i ld0 = y) j => pBy_full R hlt hy j)
        generalize R.getD i ld0 = y at *
        have HPF2 := Lib.hid (HPF.out y rfl)
        obtain ⟨p, s⟩ := y
        simp only [LD.sp] at hcs hcl hsp HPF2
        have HCS := Lib.hid hcs
        have HCL := Lib.hid hcl
        have hp : p ≤ 65536 := by omega
        have hs : s.size ≤ 65536 := by omega
        clear hcs hcl hsp HPF
        go_wp2
        go_loopw [10] (fun v wq => ∃ (k : Nat) (l : List UInt8), k ≤ s.size ∧ v = .int .i64 k ∧ RowOf l m x (pBy R i ⟨p, s⟩ k) ∧ Arr wq gb 5 (by8 l) ∧ Below w.heap.size w wq) (fun v _ => s.size - (intOf v).toNat)
        case atStart => exact ⟨0, l, Nat.zero_le _, rfl, HROW.out.congr (fun j => (pBy_zero R i _ j).symm), HA.out, HB.out⟩
        case round =>
          clear HROW HA HB hz c0 c1
          obtain ⟨k, l, hk, rfl, hrow, hA, hb⟩ := hrel
          have HROW := Lib.hid hrow
          have HA := Lib.hid hA
          have HB := Lib.hid hb
          have hz := hb.size
          have c0 : wr.cell? ⟨g, 0, none⟩ = some (.slice (some ⟨bL, oL, none⟩) R.length capL) := cell_below HC0.out hb
          have c1 : wr.cell? ⟨g, 1, none⟩ = some (.slice (some ⟨bs, os, none⟩) R.length capS) := cell_below HC1.out hb
          have e1 := HCS.out wr hb
          have e2 := HCL.out wr hb
          clear hrow hA hb
          by_cases hlk : k < s.size
          · have hkk : (k : Int) < s.size := by omega
            by_cases q1 : x ≤ p + k
            · by_cases q2 : p + k < x + m
              · obtain ⟨j, hj⟩ : ∃ j, x + j = p + k := ⟨p + k - x, by omega⟩
                have hjm : j < m := by omega
                have hjmi : (j : Int) < m := by omega
                have hji : (p : Int) + k - x = j := by omega
                have hl : l.length = m := HROW.out.1
                have cj : wr.cell? ⟨gb, j, none⟩ = some (.int .u8 ((l.getD j 0).toNat : Int)) := by rw [HA.out.cell, by8_at l (by omega)]
                have fj := HA.out.frozen j
                have ek : s.data.toList.getD k 0 = s[k] := by rw [List.getD_eq_getElem?_getD, List.getElem?_eq_getElem (by simpa using hlk)]; rfl
                have HR2 := Lib.hid (rowOf_put HROW.out (j := j) hj hjm)
                simp only at HR2
                rw [ek] at HR2
                have HA2 : Hid (Arr (wr.setCell ⟨gb, j, none⟩ (.int .u8 (s[k].toNat : Int))) gb 5 (by8 (l.set j s[k]))) := by
                  have := HA.out.put j (.int .u8 (s[k].toNat : Int))
                  rwa [by8_set] at this
                have HB2 : Hid (Below w.heap.size w (wr.setCell ⟨gb, j, none⟩ (.int .u8 (s[k].toNat : Int)))) := HB.out.setCell (p := ⟨gb, j, none⟩) hz1 _
                clear ek q1 q2 hj hl
                go_wp2
                go_roundw
                case rel => exact ⟨k + 1, l.set j s[k], by omega, by go_num, HR2.out, HA2.out, HB2.out⟩
                case measure => simp [intOf]; omega
              · obtain ⟨j, hj⟩ : ∃ j : Int, (p : Int) + k - x = j := ⟨_, rfl⟩
                have d1 : decide ((0 : Int) ≤ j) = true := decide_eq_true (by omega)
                have d2 : decide (j < m) = false := decide_eq_false (by omega)
                have hj0 : 0 ≤ j := by omega
                have hjm : m ≤ j := by omega
                have HR2 := Lib.hid (rowOf_skip HROW.out (by simp only; omega))
                clear q1 q2
                go_wp2
                go_roundw
                case rel => exact ⟨k + 1, l, by omega, by go_num, HR2.out, HA.out, HB.out⟩
                case measure => simp [intOf]; omega
            · obtain ⟨j, hj⟩ : ∃ j : Int, (p : Int) + k - x = j := ⟨_, rfl⟩
              have d1 : decide ((0 : Int) ≤ j) = false := decide_eq_false (by omega)
              have hj0 : j < 0 := by omega
              have HR2 := Lib.hid (rowOf_skip HROW.out (by simp only; omega))
              clear q1
              go_wp2
              go_roundw
              case rel => exact ⟨k + 1, l, by omega, by go_num, HR2.out, HA.out, HB.out⟩
              case measure => simp [intOf]; omega
          · obtain rfl : k = s.size := by omega
            have HR2 := Lib.hid (HROW.out.congr HPF2.out)
            go_wp2
            go_roundw
            case rel => exact ⟨i + 1, l, by omega, by go_num, HR2.out, HA.out, HB.out⟩
            case measure => simp [intOf]; omega
      · obtain rfl : i = R.length := by omega
        rw [List.take_length] at HROW
        have hcv := by8_back HA.out m m HROW.out.1
        have HE := Lib.hid ((HN.out l HROW.out).symm.trans HANS.out)
        clear HROW HA
        go_wp2
        go_ret2
        exact ⟨by rw [← HE.out]; rfl, HB.out⟩
end Go.Proofs.Ytecfdcibjmakeaa
