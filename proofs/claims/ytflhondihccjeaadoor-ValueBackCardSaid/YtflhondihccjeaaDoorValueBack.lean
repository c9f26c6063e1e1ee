/- The law ValueBack: whatever comes in it returns true. Conditions: the contracts of package value; slices that read as numbers, as texts. -/
import Derived.Test.YtflhondihccjeaaDoorVlE
import Derived.Test.YtflhondihccjeaaDoorStFew
namespace Go.Proofs.YtflhondihccjeaaDoor
open Go.RowKit

theorem asN_bigs (l : List Int) : asN (bigs l l.length) = l.map (· % 4294967296) ∧ okN (bigs l l.length).length = decide (0 < l.length) := by
  have hl := bigs_length l l.length (Nat.le_refl _)
  have ho : okN (bigs l l.length).length = decide (0 < l.length) := by
    rw [hl]; unfold okN
    apply decide_eq_decide.2
    omega
  refine ⟨?_, ho⟩
  unfold asN
  rw [ho]
  by_cases h : 0 < l.length
  · rw [decide_eq_true h, if_pos rfl, hl, show 4 * l.length / 4 = l.length by omega]
    exact nums_bigs l
  · obtain rfl : l = [] := List.length_eq_zero_iff.1 (by omega)
    rfl
theorem asT_txt (t : List ByteArray) (h : ∀ s ∈ t, (0 : UInt8) ∉ s.data.toList) : baL (asT (txtB t)) = t ∧ okV (txtB t) = decide (0 < t.length) := by
  by_cases ht : t = []
  · subst ht; exact ⟨rfl, rfl⟩
  · have ho := txt_last t ht
    have hp : 0 < t.length := List.length_pos_iff.2 ht
    refine ⟨?_, by rw [ho, decide_eq_true hp]⟩
    unfold asT
    rw [if_pos ho, spl_txt t h]
    unfold baL
    rw [List.map_map]
    exact List.map_id' t
theorem not_mem_of {s : ByteArray} (h : ∀ j, j < s.size → s.data.toList.getD j 0 ≠ 0) : (0 : UInt8) ∉ s.data.toList := fun hm => by
  obtain ⟨j, hj, e⟩ := List.getElem_of_mem hm
  refine h j hj ?_
  rw [List.getD_eq_getElem?_getD, List.getElem?_eq_getElem hj]; exact e
theorem all_of {t : List ByteArray} (h : ∀ j, j < t.length → (0 : UInt8) ∉ (t.getD j ByteArray.empty).data.toList) : ∀ s ∈ t, (0 : UInt8) ∉ s.data.toList := fun s hs => by
  obtain ⟨j, hj, rfl⟩ := List.getElem_of_mem hs
  have := h j hj
  rwa [List.getD_eq_getElem?_getD, List.getElem?_eq_getElem hj] at this
theorem txt_size (t : List ByteArray) (h : ∀ k, k < t.length → (t.getD k ByteArray.empty).size ≤ 100) : (txtB t).length ≤ t.length * 101 := by
  induction t with
  | nil => exact Nat.le_refl _
  | cons s t ih =>
    have h1 := h 0 (by simp)
    have h2 := ih fun k hk => by have := h (k + 1) (by simpa using hk); simpa using this
    have h3 : (cutL s.data.toList).length ≤ 100 := by
      rw [cutL_len]
      have : s.data.toList.length ≤ 100 := h1
      exact Nat.le_trans (z0_le _) this
    show ((cutL s.data.toList ++ [0]) ++ txtB t).length ≤ (t.length + 1) * 101
    rw [List.length_append, List.length_append, List.length_cons, List.length_nil]
    omega

set_option maxHeartbeats 3200000 in
set_option maxRecDepth 100000 in
theorem valueBack_any (M : VlMust) (A : Option Addr) (ca : Nat) (l : List Int) (T : Option Addr) (ct : Nat) (t : List ByteArray) (w : World) (hr : RdI w.heap.size w A l) (hl : l.length ≤ maxLen) (ht : RdT w T t) (htl : t.length ≤ maxLen) :
    Calls Tryd.prog 4 #[.slice A l.length ca, .slice T t.length ct] w fun e w' => e = .returned (.bool true) ∧ Below w.heap.size w w' := by
  have HAW := Lib.hid (awake13 M)
  have HFE := Lib.hid (fun W h => rfew9_any T ct t W h htl)
  have HB : Hid (Below w.heap.size w w) := Below.refl _ _
  have HI : Hid (RdI w.heap.size w A l) := hr
  have HT := Lib.hid ht
  unfold maxLen at hl
  by_cases h40 : 40 < l.length
  · have d1 : decide ((40 : Int) < (l.length : Int)) = true := decide_eq_true (by omega)
    clear M hr ht h40
    go_enter Tryd.func4, Tryd.ntmps4
    go_wp2_with fail
    refine (HAW.out _).mono ?_
    rintro e w1 ⟨rfl, hb⟩
    have HB := Lib.hid (HB.out.trans (hb.mono HB.out.size))
    clear hb
    go_wp2
    go_ret
    exact ⟨rfl, HB.out⟩
  · have d1 : decide ((40 : Int) < (l.length : Int)) = false := decide_eq_false (by omega)
    cases hf : few9 t with
    | false =>
      rw [hf] at HFE
      clear M hr ht h40 hf
      go_enter Tryd.func4, Tryd.ntmps4
      go_wp2_with fail
      refine (HFE.out _ HT.out).mono ?_
      rintro e w1 ⟨rfl, rfl⟩
      go_wp2_with fail
      refine (HAW.out _).mono ?_
      rintro e w1 ⟨rfl, hb⟩
      have HB := Lib.hid (HB.out.trans (hb.mono HB.out.size))
      clear hb
      go_wp2
      go_ret
      exact ⟨rfl, HB.out⟩
    | true =>
      rw [hf] at HFE
      have hl4 : l.length ≤ 40 := by omega
      have ht4 := few9_len hf
      have hte := few9_each hf
      obtain ⟨hn1, hn2⟩ := asN_bigs l
      have hbl := bigs_length l l.length (Nat.le_refl _)
      have hts := txt_size t hte
      have C1 := Lib.hid (fun W h => M.numbers A ca l W h (by omega))
      have C2 : Hid (∀ W, Calls Tryd.prog 7 #[.string ⟨(bigs l l.length).toArray⟩] W fun e w' => ∃ B cb, e = .returned (.tuple #[.slice B l.length cb, .bool (decide (0 < l.length))]) ∧ RdI w'.heap.size w' B (l.map (· % 4294967296)) ∧ Below W.heap.size W w') := fun W => by
        have h := M.asNumbers ⟨(bigs l l.length).toArray⟩ W (by rw [size_mk, hbl]; omega)
        rw [show (ByteArray.mk (bigs l l.length).toArray).data.toList = bigs l l.length from rfl, size_mk, hn1, hn2, List.length_map] at h
        exact h
      have C3 := Lib.hid (fun W h => M.texts T ct t W h (by omega) (fun k hk => Nat.le_trans (hte k hk) (by decide)))
      have C4 : Hid ((∀ j, j < t.length → (0 : UInt8) ∉ (t.getD j ByteArray.empty).data.toList) → ∀ W, Calls Tryd.prog 12 #[.string ⟨(txtB t).toArray⟩] W fun e w' => ∃ B cb, e = .returned (.tuple #[.slice B t.length cb, .bool (decide (0 < t.length))]) ∧ RdT w' B t ∧ Below W.heap.size W w') := fun hz W => by
        obtain ⟨h1, h2⟩ := asT_txt t (all_of hz)
        have h := M.asTexts ⟨(txtB t).toArray⟩ W (by rw [size_mk]; omega)
        have h3 : (asT (txtB t)).length = t.length := by rw [← baL_len, h1]
        rw [show (ByteArray.mk (txtB t).toArray).data.toList = txtB t from rfl, h1, h2, h3] at h
        exact h
      have C5 := Lib.hid (fun B B' cb cb' W h h' => sameTexts_any B B' cb cb' t W (by omega) h h')
      have HML : Hid (∀ k, k < l.length → (l.map (· % 4294967296)).getD k 0 = l.getD k 0 % 4294967296) := fun k hk => by
        rw [List.getD_eq_getElem?_getD, List.getElem?_map, List.getD_eq_getElem?_getD, List.getElem?_eq_getElem hk]; rfl
      have HMN : Hid ((l.map (· % 4294967296)).length = l.length) := List.length_map _
      have HTE := Lib.hid hte
      have HTN := Lib.hid ht4
      clear M hr ht h40 hf hn1 hn2 hbl hts hte
      generalize l.map (· % 4294967296) = NS at *
      generalize ByteArray.mk (bigs l l.length).toArray = S1 at *
      generalize ByteArray.mk (txtB t).toArray = S2 at *
      go_enter Tryd.func4, Tryd.ntmps4
      go_wp2_with fail
      refine (HFE.out _ HT.out).mono ?_
      rintro e w0 ⟨rfl, rfl⟩
      go_wp2_with fail
      refine (C1.out _ HI.out).mono ?_
      rintro e w1 ⟨rfl, hb⟩
      have HI := Lib.hid (HI.out.below hb)
      have HT := Lib.hid (HT.out.below hb)
      have HB := Lib.hid (HB.out.trans (hb.mono HB.out.size))
      clear hb
      go_wp2_with fail
      refine (C2.out _).mono ?_
      rintro e w2 ⟨B, cb, rfl, hx, hb⟩
      have R1 := Lib.hid hx
      have HI := Lib.hid ((HI.out.below (hb.mono HB.out.size)).mono (Nat.le_trans HB.out.size hb.size))
      have HT := Lib.hid (HT.out.below hb)
      have HB := Lib.hid (HB.out.trans (hb.mono HB.out.size))
      clear hb hx C1 C2
      go_wp2
      have hs2 := HB.out.size
      go_loopw [7] (fun i wr => ∃ k : Nat, k ≤ l.length ∧ i = .int .i64 k ∧ Below w2.heap.size w2 wr) (fun i _ => l.length - (intOf i).toNat)
      case atStart => exact ⟨0, Nat.zero_le _, rfl, Below.refl _ _⟩
      case round =>
        obtain ⟨k, hk, rfl, hb⟩ := hrel
        have HB2 := Lib.hid hb
        have hz := hb.size
        clear hb
        by_cases hlt : k < l.length
        · have hki : (k : Int) < l.length := by omega
          have hk0 : (0 : Int) ≤ k := by omega
          obtain ⟨b1, o1, x1, rfl, hb1, c1, HX1⟩ := (HI.out.below HB2.out).at_ hlt
          obtain ⟨b2, o2, x2, rfl, hb2, c2, HX2⟩ := (R1.out.below HB2.out).at_ (k := k) (by rw [HMN.out]; exact hlt)
          have hx := HML.out k hlt
          rw [HX1.out, HX2.out] at hx
          subst hx
          have q1 : IntKind.u32.wrap x1 = x1 % 4294967296 := IntKind.wrap_u32' x1
          have q2 : IntKind.i64.wrap (x1 % 4294967296) = x1 % 4294967296 := IntWalk.i64_in _ (by omega)
          have HBQ : Hid (∀ n, Below w2.heap.size w2 (wr.drewN n)) := fun n => HB2.out.trans ((below_drewN _ _).mono hz)
          clear HX1 HX2 hb1 hb2
          go_wp2
          go_quiet (fail)
          clear q1 q2 c1 c2
          go_wp2
          go_roundw
          case rel => exact ⟨k + 1, by omega, by go_num, HBQ.out _⟩
          case measure => simp [intOf]; omega
        · obtain rfl : k = l.length := by omega
          have HT := Lib.hid (HT.out.below HB2.out)
          have HBR := Lib.hid (HB.out.trans (HB2.out.mono hs2))
          clear HB2 HI R1 HML
          go_wp2
          go_loop [8] (fun i => ∃ j : Nat, j ≤ t.length ∧ i = .int .i64 j ∧ Hid (∀ m, m < j → (0 : UInt8) ∉ (t.getD m ByteArray.empty).data.toList)) (fun i => t.length - (intOf i).toNat)
          case atStart => exact ⟨0, Nat.zero_le _, rfl, fun m hm => absurd hm (Nat.not_lt_zero _)⟩
          case round =>
            obtain ⟨j, hj, rfl, HK⟩ := hrel
            by_cases hjl : j < t.length
            · have hji : (j : Int) < t.length := by omega
              have hj0 : (0 : Int) ≤ j := by omega
              obtain ⟨b, off, x, rfl, hc, HX⟩ := HT.out.at_ hjl
              have hx1 := HTE.out j hjl
              rw [HX.out] at hx1
              have HG : Hid (∀ k (h : k < x.size), x.data.toList.getD k 0 = x[k]) := fun k h => getD_of x k h
              go_wp2
              go_loop [9] (fun i => ∃ k : Nat, k ≤ x.size ∧ i = .int .i64 k ∧ Hid (∀ m, m < k → x.data.toList.getD m 0 ≠ 0)) (fun i => x.size - (intOf i).toNat)
              case atStart => exact ⟨0, Nat.zero_le _, rfl, fun m hm => absurd hm (Nat.not_lt_zero _)⟩
              case round =>
                obtain ⟨k, hk, rfl, HM⟩ := hrel
                by_cases hkl : k < x.size
                · have hki : (k : Int) < x.size := by omega
                  have hk0 : (0 : Int) ≤ k := by omega
                  have hk1 : (k : Int) ≤ x.size := by omega
                  have hg := HG.out k hkl
                  by_cases h0 : x[k] = 0
                  · have hz0 : (((x[k].toNat : Nat) : Int) == 0) = true := by rw [h0]; rfl
                    clear hg h0 HM HG HK
                    go_wp2_with fail
                    refine (HAW.out _).mono ?_
                    rintro e w1 ⟨rfl, hb⟩
                    have HB := Lib.hid (HBR.out.trans (hb.mono HBR.out.size))
                    clear hb
                    go_wp2
                    go_ret
                    exact ⟨rfl, HB.out⟩
                  · have hz0 : (((x[k].toNat : Nat) : Int) == 0) = false := by
                      have : x[k].toNat ≠ 0 := fun e => h0 (UInt8.toNat_inj.1 e)
                      simp; omega
                    have HK1 : Hid (∀ j, j < k + 1 → x.data.toList.getD j 0 ≠ 0) := fun j hj => by
                      by_cases e : j = k
                      · subst e; rw [hg]; exact h0
                      · exact HM.out j (by omega)
                    clear h0 hg HM
                    go_wp2
                    go_round
                    case rel => exact ⟨k + 1, by omega, by go_num, HK1⟩
                    case measure => simp [intOf]; omega
                · obtain rfl : k = x.size := by omega
                  have HK1 : Hid (∀ m, m < j + 1 → (0 : UInt8) ∉ (t.getD m ByteArray.empty).data.toList) := fun m hm => by
                    by_cases e : m = j
                    · subst e; rw [HX.out]; exact not_mem_of HM.out
                    · exact HK.out m (by omega)
                  clear HM HK HG
                  go_wp2
                  go_round
                  case rel => exact ⟨j + 1, by omega, by go_num, HK1⟩
                  case measure => simp [intOf]; omega
            · obtain rfl : j = t.length := by omega
              have C4 := Lib.hid (C4.out HK.out)
              clear HK HTE
              go_wp2_with fail
              refine (C3.out _ HT.out).mono ?_
              rintro e w3 ⟨rfl, hb⟩
              have HT := Lib.hid (HT.out.below hb)
              have HB := Lib.hid (HBR.out.trans (hb.mono HBR.out.size))
              clear hb
              go_wp2_with fail
              refine (C4.out _).mono ?_
              rintro e w4 ⟨B2, cb2, rfl, hx, hb⟩
              have R3 := Lib.hid hx
              have HT := Lib.hid (HT.out.below hb)
              have HB := Lib.hid (HB.out.trans (hb.mono HB.out.size))
              clear hb hx
              go_wp2_with fail
              refine (C5.out _ _ _ _ _ R3.out HT.out).mono ?_
              rintro e w5 ⟨rfl, hb⟩
              have HB := Lib.hid (HB.out.trans (hb.mono HB.out.size))
              clear hb
              go_wp2_with fail
              refine (HAW.out _).mono ?_
              rintro e w6 ⟨rfl, hb⟩
              have HB := Lib.hid (HB.out.trans (hb.mono HB.out.size))
              clear hb
              go_wp2
              go_ret
              exact ⟨rfl, HB.out⟩
end Go.Proofs.YtflhondihccjeaaDoor
