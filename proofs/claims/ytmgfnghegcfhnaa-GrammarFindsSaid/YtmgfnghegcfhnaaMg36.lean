/- The document's Parts of layer 16. Conditions: strings of at most 2^30 bytes. -/
import Derived.Test.YtmgfnghegcfhnaaMg32
import Derived.Test.YtmgfnghegcfhnaaMg35
namespace Go.Proofs.Ytmgfnghegcfhnaa
open Go.RowKit

/-- Where strings lie. -/
def TxFar (B : Nat) (A : Option Addr) (l : List ByteArray) : Prop := l = [] ∨ ∃ b off, A = some ⟨b, off, none⟩ ∧ B ≤ b
theorem row_far {w : World} {base B : Nat} {v : Value} {l : List ByteArray} (h : w.ownsRow base 9 1 v l.length (l.map Value.string)) (hb : ∀ q, ownS v q → B ≤ q) : ∃ A cap, v = .slice A l.length cap ∧ RdT w A l ∧ TxFar B A l ∧ l.length ≤ cap := by
  obtain ⟨A, cap, rfl, hr⟩ := row_txt h
  have hcap : l.length ≤ cap := by
    rcases h.2 with ⟨e, hz⟩ | ⟨b', cap', cur, e, _, _, hnc, _⟩
    · rw [hz]; exact Nat.zero_le _
    · injection e with _ _ e
      rw [e]; exact hnc
  refine ⟨A, cap, rfl, hr, ?_, hcap⟩
  rcases hr with hr | ⟨b, off, rfl, hc⟩
  · exact .inl hr
  · rcases h.2 with ⟨e, _⟩ | ⟨b', cap', cur, e, _⟩
    · injection e with e _ _; cases e
    · injection e with e _ _
      injection e with e
      injection e with e1 e2 _
      subst e1 e2
      exact .inr ⟨b, 0, rfl, hb b rfl⟩
theorem ext_seg (p : ByteArray) (f i : Nat) : p.extract f i = ⟨(segR p.data.toList f i).toArray⟩ := by
  apply ByteArray.ext
  apply Array.ext'
  show (p.extract f i).data.toList = (segR p.data.toList f i).toArray.toList
  rw [ByteArray.data_extract, Array.toList_extract, List.extract_eq_take_drop]
  rfl
theorem ba_getD (p : ByteArray) {i : Nat} (h : i < p.size) : p.data.toList.getD i 0 = p[i] := by
  rw [List.getD_eq_getElem?_getD, List.getElem?_eq_getElem (by exact h)]; rfl
theorem ba_eq_list {p q : ByteArray} (h : p.data.toList = q.data.toList) : p = q := ByteArray.ext (Array.ext' h)

set_option maxHeartbeats 3200000 in
set_option maxRecDepth 100000 in
theorem rparts_any (p : ByteArray) (w : World) (hp : p.size ≤ 1073741824) :
    Calls Try.prog 34 #[.string p] w fun e w' => ∃ A cap, e = .returned (.tuple #[.slice A (baL (partsR p.data.toList).1).length cap, .bool (partsR p.data.toList).2]) ∧ RdT w' A (baL (partsR p.data.toList).1) ∧ TxFar w.heap.size A (baL (partsR p.data.toList).1) ∧ Below w.heap.size w w' ∧ (baL (partsR p.data.toList).1).length ≤ cap := by
  obtain ⟨R, hR⟩ : ∃ R : Value → World → Prop, R = fun x w' => ∃ A cap, x = .tuple #[.slice A (baL (partsR p.data.toList).1).length cap, .bool (partsR p.data.toList).2] ∧ RdT w' A (baL (partsR p.data.toList).1) ∧ TxFar w.heap.size A (baL (partsR p.data.toList).1) ∧ Below w.heap.size w w' ∧ (baL (partsR p.data.toList).1).length ≤ cap := ⟨_, rfl⟩
  suffices H : Calls Try.prog 34 #[.string p] w fun e w' => ∃ x, e = .returned x ∧ R x w' by
    refine H.mono ?_
    rintro e w' ⟨x, rfl, hx⟩
    rw [hR] at hx
    obtain ⟨A, cap, rfl, h⟩ := hx
    exact ⟨A, cap, rfl, h⟩
  have HR := Lib.hid hR
  clear hR
  have HB0 : Hid (Below w.heap.size w w) := Below.refl _ _
  by_cases h47 : p = ⟨#[47]⟩
  · have d1 : (p.toList == [47]) = true := by rw [h47, ByteArray.toList_eq]; decide
    have HE : Hid (R (.tuple #[.slice none 0 0, .bool true]) w) := by
      unfold Hid
      rw [HR.out, h47]
      exact ⟨none, 0, by rw [show (ByteArray.mk #[47]).data.toList = [47] from rfl, parts_root]; rfl, .inl (by rw [show (ByteArray.mk #[47]).data.toList = [47] from rfl, parts_root]; rfl), .inl (by rw [show (ByteArray.mk #[47]).data.toList = [47] from rfl, parts_root]; rfl), HB0.out, by rw [show (ByteArray.mk #[47]).data.toList = [47] from rfl, parts_root]; exact Nat.le_refl _⟩
    clear h47 HR
    go_enter Try.func34, Try.ntmps34
    go_wp2
    go_ret2
    exact ⟨_, rfl, HE.out⟩
  have hl47 : p.data.toList ≠ [47] := fun e => h47 (ba_eq_list e)
  have d1 : (p.toList == [47]) = false := by rw [ByteArray.toList_eq]; simpa using hl47
  by_cases h0 : p = ⟨#[]⟩
  · have d2 : p.toList.isEmpty = true := by rw [h0, ByteArray.toList_eq]; rfl
    have HE : Hid (R (.tuple #[.slice none 0 0, .bool false]) w) := by
      unfold Hid
      rw [HR.out, h0]
      have e : partsR (ByteArray.mk #[]).data.toList = ([], false) := parts_no (by decide)
      exact ⟨none, 0, by rw [e]; rfl, .inl (by rw [e]; rfl), .inl (by rw [e]; rfl), HB0.out, by rw [e]; exact Nat.le_refl _⟩
    clear h0 HR h47 hl47
    go_enter Try.func34, Try.ntmps34
    go_wp2
    go_ret2
    exact ⟨_, rfl, HE.out⟩
  have d2 : p.toList.isEmpty = false := by
    rw [ByteArray.toList_eq]
    cases h : p.data.toList with
    | nil => exact absurd (ba_eq_list h) h0
    | cons _ _ => rfl
  have hz0 : 1 ≤ p.size := by
    have : p.size ≠ 0 := fun e => h0 (ba_eq_list (List.length_eq_zero_iff.1 e))
    omega
  have hz0i : (0 : Int) < (p.size : Int) := by omega
  have hhead : p.data.toList.head? = some p[0] := by
    rw [List.head?_eq_getElem?, List.getElem?_eq_getElem (by exact hz0)]; rfl
  by_cases hc : p[0] = 47
  · have d3 : (((p[0].toNat : Nat) : Int) != 47) = false := by rw [hc]; rfl
    rw [hc] at hhead
    have HYES : Hid (nmOk (splitS (p.data.toList.drop 1)) = true → partsR p.data.toList = (splitS (p.data.toList.drop 1), true)) := fun h => parts_yes hl47 hhead h
    have HNO : Hid (nmOk (splitS (p.data.toList.drop 1)) = false → ∀ w', Below w.heap.size w w' → R (.tuple #[.slice none 0 0, .bool false]) w') := fun h w' hb => by
      rw [HR.out]
      have e := parts_bad hl47 h
      exact ⟨none, 0, by rw [e]; rfl, .inl (by rw [e]; rfl), .inl (by rw [e]; rfl), hb, by rw [e]; exact Nat.le_refl _⟩
    have HST := Lib.hid (inv_start (p := p.data.toList) hz0)
    have HLN : Hid (p.data.toList.length = p.size) := rfl
    have HEL := Lib.hid elemS13
    clear h47 h0 hl47 hhead hc
    go_enter Try.func34, Try.ntmps34
    go_wp2
    go_loopw [4, 5, 6] (fun o fv iv wr => ∃ (i f : Nat) (O : List (List UInt8)), iv = .int .i64 i ∧ fv = .int .i64 f ∧ i ≤ p.size + 1 ∧ f ≤ p.size + 1 ∧ Hid (PtInv p.data.toList i f O) ∧ wr.ownsRow 0 9 1 o (baL O).length ((baL O).map Value.string) ∧ (∀ q, ownS o q → w.heap.size ≤ q) ∧ Below w.heap.size w wr) (fun _ _ iv _ => p.size + 1 - (intOf iv).toNat)
    case atStart => exact ⟨1, 1, [], rfl, rfl, by omega, by omega, HST.out, World.ownsRow_nil _ _ _ _, (fun q hq => by cases hq), HB0.out⟩
    case round =>
      clear HST HB0
      obtain ⟨i, f, O, rfl, rfl, hi1, hf1, HI, hown, hbl, hb⟩ := hrel
      have HOWN := Lib.hid hown
      have HBL := Lib.hid hbl
      have HB := Lib.hid hb
      have hsz := hb.size
      have hO7 : O.length ≤ 7 := HI.out.1
      by_cases hi : i ≤ p.size
      · have d4 : (i : Int) ≤ (p.size : Int) := by omega
        have hfi : f ≤ i := by
          have h := HI.out.2.2
          rw [HLN.out] at h
          omega
        have hi8 : i + 1 ≤ p.size + 1 := by omega
        by_cases hlt : i < p.size
        · have d5 : (i : Int) < (p.size : Int) := by omega
          have hgd := ba_getD p hlt
          by_cases hc : p[i] = 47
          · have d6 : (((p[i].toNat : Nat) : Int) != 47) = false := by rw [hc]; rfl
            have HAT : Hid (i = p.data.toList.length ∨ p.data.toList.getD i 0 = 47) := .inr (by rw [hgd, hc])
            clear hgd hc
            have hbal := baL_len O
            by_cases hif : i = f
            · have d7 : ((i : Int) == (f : Int)) = true := by rw [hif]; simp
              have HE := Lib.hid (HNO.out (inv_bad HI.out (by rw [HLN.out]; exact hi) HAT.out (.inl hif)) wr HB.out)
              clear hif hbal hown hbl hb HYES HNO HR HI HAT
              go_wp2
              go_ret2
              exact ⟨_, rfl, HE.out⟩
            · have d7 : ((i : Int) == (f : Int)) = false := by simp; omega
              by_cases h7 : O.length = 7
              · have d8 : (((baL O).length : Int) == 7) = true := by rw [hbal, h7]; rfl
                have HE := Lib.hid (HNO.out (inv_bad HI.out (by rw [HLN.out]; exact hi) HAT.out (.inr h7)) wr HB.out)
                obtain ⟨A6, cap6, rfl, _⟩ := row_txt hown
                clear h7 hif hbal hown hbl hb HYES HNO HR HI HAT
                go_wp2
                go_ret2
                exact ⟨_, rfl, HE.out⟩
              · have d8 : (((baL O).length : Int) == 7) = false := by rw [hbal]; simp; omega
                have HI1 := Lib.hid (inv_seg HI.out (by rw [HLN.out]; exact hi) HAT.out hif h7)
                have d9 : (f : Int) ≤ (i : Int) := by omega
                have hbl7 : (baL O).length ≤ 7 := by omega
                have HSG := Lib.hid (ext_seg p f i)
                have HSN : Hid (baL (O ++ [segR p.data.toList f i]) = baL O ++ [p.extract f i]) := by unfold Hid; rw [HSG.out]; simp [baL]
                obtain ⟨A6, cap6, rfl, _⟩ := row_txt hown
                clear h7 hif hbal hown hbl hb HI HAT
                generalize baL O = OB at *
                go_wp2_with (at_builtin; refine append_moved rfl (.tmp 40) (.tmp 45) 56 rfl 9 (.string ⟨#[]⟩) 16 HEL (.string (p.extract f i)) rfl _ OB.length (OB.map Value.string) rfl HOWN.out wr.heap.size rfl rfl (by omega) (by unfold maxLen; omega) ?_; intro u2 w2 ho2 hm2; have HO2 := Lib.hid ho2; have HM2 := Lib.hid hm2; clear ho2 hm2)
                have HB2 := Lib.hid (HB.out.trans (HM2.out.below HBL.out hsz))
                have HBL2 : Hid (∀ q, ownS u2 q → w.heap.size ≤ q) := fun q hq => by
                  rcases HM2.out.foot q hq with h | h
                  · exact HBL.out q h
                  · exact Nat.le_trans hsz h
                go_roundw
                case rel => exact ⟨i + 1, i + 1, O ++ [segR p.data.toList f i], by go_num, by go_num, hi8, hi8, HI1.out, by rw [HSN.out, List.length_append, List.map_append]; exact HO2.out, HBL2.out, HB2.out⟩
                case measure => simp [intOf]; omega
          · have d6 : (((p[i].toNat : Nat) : Int) != 47) = true := by
              have : p[i].toNat ≠ 47 := fun e => hc (UInt8.toNat_inj.1 e)
              simp; omega
            have HI1 : Hid (PtInv p.data.toList (i + 1) f O) := inv_on HI.out (by rw [HLN.out]; exact hlt) (by rw [hgd]; exact hc)
            clear hgd hc hown hbl hb
            go_wp2
            go_roundw
            case rel => exact ⟨i + 1, f, O, by go_num, rfl, hi8, hf1, HI1.out, HOWN.out, HBL.out, HB.out⟩
            case measure => simp [intOf]; omega
        · have d5 : (p.size : Int) ≤ (i : Int) := by omega
          have HAT : Hid (i = p.data.toList.length ∨ p.data.toList.getD i 0 = 47) := .inl (by rw [HLN.out]; omega)
          have hbal := baL_len O
          by_cases hif : i = f
          · have d7 : ((i : Int) == (f : Int)) = true := by rw [hif]; simp
            have HE := Lib.hid (HNO.out (inv_bad HI.out (by rw [HLN.out]; exact hi) HAT.out (.inl hif)) wr HB.out)
            clear hif hbal hown hbl hb HYES HNO HR HI HAT
            go_wp2
            go_ret2
            exact ⟨_, rfl, HE.out⟩
          · have d7 : ((i : Int) == (f : Int)) = false := by simp; omega
            by_cases h7 : O.length = 7
            · have d8 : (((baL O).length : Int) == 7) = true := by rw [hbal, h7]; rfl
              have HE := Lib.hid (HNO.out (inv_bad HI.out (by rw [HLN.out]; exact hi) HAT.out (.inr h7)) wr HB.out)
              obtain ⟨A6, cap6, rfl, _⟩ := row_txt hown
              clear h7 hif hbal hown hbl hb HYES HNO HR HI HAT
              go_wp2
              go_ret2
              exact ⟨_, rfl, HE.out⟩
            · have d8 : (((baL O).length : Int) == 7) = false := by rw [hbal]; simp; omega
              have HI1 := Lib.hid (inv_seg HI.out (by rw [HLN.out]; exact hi) HAT.out hif h7)
              have d9 : (f : Int) ≤ (i : Int) := by omega
              have hbl7 : (baL O).length ≤ 7 := by omega
              have HSG := Lib.hid (ext_seg p f i)
              have HSN : Hid (baL (O ++ [segR p.data.toList f i]) = baL O ++ [p.extract f i]) := by unfold Hid; rw [HSG.out]; simp [baL]
              obtain ⟨A6, cap6, rfl, _⟩ := row_txt hown
              clear h7 hif hbal hown hbl hb HI HAT
              generalize baL O = OB at *
              go_wp2_with (at_builtin; refine append_moved rfl (.tmp 40) (.tmp 45) 56 rfl 9 (.string ⟨#[]⟩) 16 HEL (.string (p.extract f i)) rfl _ OB.length (OB.map Value.string) rfl HOWN.out wr.heap.size rfl rfl (by omega) (by unfold maxLen; omega) ?_; intro u2 w2 ho2 hm2; have HO2 := Lib.hid ho2; have HM2 := Lib.hid hm2; clear ho2 hm2)
              have HB2 := Lib.hid (HB.out.trans (HM2.out.below HBL.out hsz))
              have HBL2 : Hid (∀ q, ownS u2 q → w.heap.size ≤ q) := fun q hq => by
                rcases HM2.out.foot q hq with h | h
                · exact HBL.out q h
                · exact Nat.le_trans hsz h
              go_roundw
              case rel => exact ⟨i + 1, i + 1, O ++ [segR p.data.toList f i], by go_num, by go_num, hi8, hi8, HI1.out, by rw [HSN.out, List.length_append, List.map_append]; exact HO2.out, HBL2.out, HB2.out⟩
              case measure => simp [intOf]; omega
      · have d4 : (p.size : Int) < (i : Int) := by omega
        obtain rfl : i = p.size + 1 := by omega
        obtain ⟨e1, e2⟩ := inv_end (by have := HI.out; rwa [← HLN.out] at this)
        obtain ⟨A, cap, rfl, hrd, hfar, hcp⟩ := row_far hown hbl
        have HE : Hid (R (.tuple #[.slice A (baL O).length cap, .bool true]) wr) := by
          unfold Hid
          rw [HR.out, HYES.out e2, e1]
          exact ⟨A, cap, rfl, hrd, hfar, hb, hcp⟩
        clear hown hbl hb hrd hfar hcp e1 e2 HI HYES HNO HR
        go_wp2
        go_ret2
        exact ⟨_, rfl, HE.out⟩
  · have d3 : (((p[0].toNat : Nat) : Int) != 47) = true := by
      have : p[0].toNat ≠ 47 := fun e => hc (UInt8.toNat_inj.1 e)
      simp; omega
    have HE : Hid (R (.tuple #[.slice none 0 0, .bool false]) w) := by
      unfold Hid
      rw [HR.out]
      have e : partsR p.data.toList = ([], false) := parts_no (by rw [hhead]; exact fun e => hc (Option.some.inj e))
      exact ⟨none, 0, by rw [e]; rfl, .inl (by rw [e]; rfl), .inl (by rw [e]; rfl), HB0.out, by rw [e]; exact Nat.le_refl _⟩
    clear h47 h0 hl47 hhead hc HR
    go_enter Try.func34, Try.ntmps34
    go_wp2
    go_ret2
    exact ⟨_, rfl, HE.out⟩
end Go.Proofs.Ytmgfnghegcfhnaa
