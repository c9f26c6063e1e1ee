/- The law StrsBack: whatever comes in it returns true. Conditions: a slice that reads as strings, each of which fits. -/
import Derived.Test.YtcmeikdfkjlemaaStH
namespace Go.Proofs.Ytcmeikdfkjlemaa
open Go.RowKit

theorem map_getD (P : List Nat) (k : Nat) : (P.map Int.ofNat).getD k 0 = ((P.getD k 0 : Nat) : Int) := by
  rw [List.getD_eq_getElem?_getD, List.getD_eq_getElem?_getD, List.getElem?_map]
  cases P[k]? <;> rfl

set_option maxHeartbeats 3200000 in
set_option maxRecDepth 100000 in
theorem strsBack_any (A : Option Addr) (cap : Nat) (l : List ByteArray) (w : World) (hr : RdT w A l) (hl : l.length ≤ maxLen) (hz : ∀ k, k < l.length → (l.getD k ByteArray.empty).size ≤ maxLen) :
    Calls Try.prog 4 #[.slice A l.length cap] w fun e w' => e = .returned (.bool true) ∧ Below w.heap.size w w' := by
  have HAW := Lib.hid awake9
  have HFEW := Lib.hid (rfew9_any A cap l w hr hl)
  have HR := Lib.hid hr
  have HZ := Lib.hid hz
  have HF40 := Lib.hid (few9_len (l := l))
  clear hr hz hl
  generalize few9 l = fw at *
  go_enter Try.func4, Try.ntmps4
  go_wp2_with fail
  refine HFEW.out.mono ?_
  rintro e w1 ⟨rfl, rfl⟩
  clear HFEW
  cases fw with
  | false =>
    go_wp2_with fail
    refine (HAW.out _).mono ?_
    rintro e w1 ⟨rfl, hb⟩
    go_wp2
    go_ret
    exact ⟨rfl, hb⟩
  | true =>
    have h40 := HF40.out rfl
    have HOF := Lib.hid (soffsets_any A cap l w HR.out h40 HZ.out)
    clear HF40
    go_wp2_with fail
    refine HOF.out.mono ?_
    rintro e w1 ⟨v, rfl, ho, hb⟩
    obtain ⟨A1, cap1, rfl, hrk⟩ := row_rdK ho
    have HB1 := Lib.hid hb
    have HRK := Lib.hid hrk
    have hz1 := hb.size
    clear ho hb hrk HOF
    cases hall : allB l with
    | false =>
      obtain ⟨e1, e2, e3⟩ := off_bad hall
      rw [e1, e2, e3]
      clear e1 e2 e3 hall HRK
      go_wp2_with fail
      refine (HAW.out _).mono ?_
      rintro e w2 ⟨rfl, hb2⟩
      have HB2 := Lib.hid (HB1.out.trans (hb2.mono hz1))
      clear hb2
      go_wp2
      go_ret
      exact ⟨rfl, HB2.out⟩
    | true =>
      obtain ⟨e1, e2, e3⟩ := off_good hall
      rw [e1] at HRK
      rw [e1, e2, e3]
      have hall' := allB_iff.1 hall
      have hokA := okL_adds l okL_nil
      have hlenA := adds_len l []
      have hflA := flat_le hokA
      simp only [List.length_nil, Nat.zero_add] at hlenA
      have hpl := plc_length l []
      have HY : Hid (∀ k, k < l.length → ((plc [] l).map Int.ofNat).getD k 0 < 9223372036854775808 ∧ -9223372036854775808 ≤ ((plc [] l).map Int.ofNat).getD k 0 ∧ getR (flat (adds [] l)) (((plc [] l).map Int.ofNat).getD k 0) = (l.getD k ByteArray.empty, 0)) := by
        intro k hk
        obtain ⟨h1, h2⟩ := plc_at l [] hall' k hk
        have h3 := posn_le (L := adds [] l) (l.getD k ByteArray.empty)
        rw [map_getD, h2]
        exact ⟨by omega, by omega, getR_there hokA h1⟩
      have HINJ : Hid (∀ j k, j < l.length → k < l.length → (((plc [] l).map Int.ofNat).getD j 0 = ((plc [] l).map Int.ofNat).getD k 0 ↔ l.getD j ByteArray.empty = l.getD k ByteArray.empty)) := by
        intro j k hj hk
        obtain ⟨h1, h2⟩ := plc_at l [] hall' j hj
        obtain ⟨h3, h4⟩ := plc_at l [] hall' k hk
        rw [map_getD, map_getD, h2, h4]
        constructor
        · intro h; exact posn_inj hokA h1 h3 (by omega)
        · intro h; rw [h]
      have HML : Hid (((plc [] l).map Int.ofNat).length = l.length) := by unfold Hid; rw [List.length_map, hpl]
      have HSZ : Hid ((ByteArray.mk (flat (adds [] l)).toArray).size ≤ maxLen ∧ (ByteArray.mk (flat (adds [] l)).toArray).data.toList = flat (adds [] l)) := by
        unfold Hid
        refine ⟨?_, by simp⟩
        show (flat (adds [] l)).toArray.size ≤ maxLen
        rw [List.size_toArray]; unfold maxLen; omega
      rw [hpl]
      clear e1 e2 e3 hall hall' hokA hlenA hflA hpl
      generalize flat (adds [] l) = FB at *
      generalize (plc [] l).map Int.ofNat = Y at *
      have HGET : Hid (∀ (W : World) (k : Nat) (x : ByteArray) (y : Int), k < l.length → l.getD k ByteArray.empty = x → Y.getD k 0 = y → Calls Try.prog 12 #[.string ⟨FB.toArray⟩, .int .i64 y] W fun e w' => e = .returned (.tuple #[.string x, .int .i64 0]) ∧ Below W.heap.size W w') := by
        rintro W k x y hk rfl rfl
        obtain ⟨h1, h2, h3⟩ := HY.out k hk
        have := sget_any ⟨FB.toArray⟩ (Y.getD k 0) W HSZ.out.1 h1 h2
        rw [HSZ.out.2, h3] at this
        refine this.mono ?_
        rintro e w' ⟨h4, n, rfl⟩
        exact ⟨h4, below_drewN W n⟩
      clear HY HSZ
      generalize (ByteArray.mk FB.toArray) = S at *
      have d0 : ((l.length : Int) != (l.length : Int)) = false := by simp
      go_wp2
      go_loopw [6] (fun i wr => ∃ k : Nat, k ≤ l.length ∧ i = .int .i64 k ∧ Below w1.heap.size w1 wr) (fun i _ => l.length - (intOf i).toNat)
      case atStart => exact ⟨0, Nat.zero_le _, rfl, Below.refl _ _⟩
      case round =>
        obtain ⟨i, hi, rfl, hb⟩ := hrel
        have HB := Lib.hid hb
        have hz2 := hb.size
        clear hb
        by_cases hlt : i < l.length
        · have hii : (i : Int) < l.length := by omega
          have hiY : i < Y.length := by rw [HML.out]; exact hlt
          obtain ⟨b, off, x, rfl, hc, HX⟩ := ((HR.out.below HB1.out).below HB.out).at_ hlt
          obtain ⟨b', off', y, rfl, hc', HY⟩ := (HRK.out.below HB.out).at_ hiY
          have HG := Lib.hid (HGET.out wr i x y hlt HX.out HY.out)
          have hbl : b < wr.heap.size := World.block_lt_of_cell? wr _ hc
          have d1 : decide ((i : Int) < l.length) = true := decide_eq_true hii
          clear hiY
          go_wp2_with fail
          refine HG.out.mono ?_
          rintro e w2 ⟨rfl, hb2⟩
          have HB2 := Lib.hid (HB.out.trans (hb2.mono hz2))
          have hz3 := HB2.out.size
          have hc2 : w2.cell? ⟨b, off + i, none⟩ = some (.string x) := (World.cell?_of_block (a := ⟨b, off + i, none⟩) (hb2.block b hbl)).trans hc
          have d2 : (x.toList == x.toList) = true := by simp
          have d3 : (x.toList != x.toList) = false := by simp
          clear hb2 HG HB hc hc' hz2
          go_wp2
          go_loopw [9] (fun c wr => ∃ k : Nat, k ≤ i ∧ c = .int .i64 k ∧ Below w1.heap.size w1 wr) (fun c _ => i - (intOf c).toNat)
          case atStart => exact ⟨0, Nat.zero_le _, rfl, HB2.out⟩
          case round =>
            obtain ⟨k, hk, rfl, hb⟩ := hrel
            have HB := Lib.hid hb
            have hz4 := hb.size
            clear HB2 hc2 hbl
            by_cases hki : k < i
            · have hkii : (k : Int) < i := by omega
              have hkl : k < l.length := by omega
              have hkY : k < Y.length := by rw [HML.out]; exact hkl
              have hiY : i < Y.length := by rw [HML.out]; exact hlt
              have hkl2 : (k : Int) < l.length := by omega
              obtain ⟨b1, off1, x1, e1, c1, HX1⟩ := ((HR.out.below HB1.out).below hb).at_ hlt
              obtain ⟨b2, off2, x2, e2, c2, HX2⟩ := ((HR.out.below HB1.out).below hb).at_ hkl
              obtain ⟨b3, off3, y3, e3, c3, HY3⟩ := (HRK.out.below hb).at_ hiY
              obtain ⟨b4, off4, y4, e4, c4, HY4⟩ := (HRK.out.below hb).at_ hkY
              have hinj := HINJ.out i k hlt hkl
              rw [HX1.out, HX2.out, HY3.out, HY4.out] at hinj
              injection e1 with e1; injection e1 with e1 e1'; subst e1; subst e1'
              injection e2 with e2; injection e2 with e2 e2'; subst e2; subst e2'
              injection e3 with e3; injection e3 with e3 e3'; subst e3; subst e3'
              injection e4 with e4; injection e4 with e4 e4'; subst e4; subst e4'
              have d4 : ((y3 == y4) != (x1.toList == x2.toList)) = false := by
                rw [str_eq]
                by_cases e : x1 = x2
                · rw [decide_eq_true e, hinj.2 e]; simp
                · rw [decide_eq_false e]
                  have : ¬ y3 = y4 := fun h => e (hinj.1 h)
                  simp [this]
              clear hb hinj
              generalize hq1 : (x1.toList == x2.toList) = q1 at *
              generalize hq2 : (y3 == y4) = q2 at *
              obtain rfl : q2 = q1 := by simpa using d4
              clear d4
              go_wp2
              go_quiet (fail)
              have HB4 : Hid (Below w1.heap.size w1 (wr.drewN nq)) := HB.out.trans ((below_drewN _ _).mono hz4)
              go_wp2
              go_roundw
              case rel => exact ⟨k + 1, by omega, by go_num, HB4.out⟩
              case measure => simp [intOf]; omega
            · obtain rfl : k = i := by omega
              go_wp2
              go_roundw
              case rel => exact ⟨k + 1, by omega, by go_num, HB.out⟩
              case measure => simp [intOf]; omega
        · obtain rfl : i = l.length := by omega
          have d1 : decide ((l.length : Int) < l.length) = false := decide_eq_false (by omega)
          go_wp2_with fail
          refine (HAW.out _).mono ?_
          rintro e w2 ⟨rfl, hb2⟩
          have HB2 : Hid (Below w.heap.size w w2) := HB1.out.trans ((HB.out.trans (hb2.mono hz2)).mono hz1)
          clear hb2
          go_wp2
          go_ret
          exact ⟨rfl, HB2.out⟩
end Go.Proofs.Ytcmeikdfkjlemaa
