/- The document's Parts of layer 16. Conditions: strings of at most 2^30 bytes. -/
import Derived.Test.YtfcclppgjfkfoaaGreatDoorMg2
import Derived.Test.YtfcclppgjfkfoaaGreatDoorMg4
import Derived.Test.YtfcclppgjfkfoaaGreatDoorMg1
import Derived.Test.YtfcclppgjfkfoaaGreatDoorProg
import Derived.Test.YtfcclppgjfkfoaaGreatDoorMg3
import Derived.WalkKit
import Derived.Deep.Slices
import Derived.ChangeArms
import Derived.Laws.OwnMore
import Derived.Deep.Onto
namespace Go.Proofs.YtfcclppgjfkfoaaGreatDoor
open Go.RowKit

/-- Where strings lie. -/
def TxFar (B : Nat) (A : Option Addr) (l : List ByteArray) : Prop := l = [] ∨ ∃ b off, A = some ⟨b, off, none⟩ ∧ B ≤ b
theorem row_far {w : World} {base B : Nat} {v : Value} {l : List ByteArray} (h : w.ownsRow base 9 1 v l.length (l.map Value.string)) (hb : ∀ q, ownS v q → B ≤ q) : ∃ A cap, v = .slice A l.length cap ∧ RdT w A l ∧ TxFar B A l ∧ l.length ≤ cap := by
  obtain ⟨A, cap, rfl, hr⟩ := row_txt h
  have hcap : l.length ≤ cap := by
    rcases h.2 with ⟨e, hz⟩ | ⟨b', cap', cur, e, _, _, hnc, _⟩
    · rw [hz]; exact Nat.zero_le _
    · injection e with _ _ e
      rw [e]; exact hnc
  refine ⟨A, cap, rfl, hr, ?_, hcap⟩
  rcases hr with hr | ⟨b, off, rfl, hc⟩
  · exact .inl hr
  · rcases h.2 with ⟨e, _⟩ | ⟨b', cap', cur, e, _⟩
    · injection e with e _ _; cases e
    · injection e with e _ _
      injection e with e
      injection e with e1 e2 _
      subst e1 e2
      exact .inr ⟨b, 0, rfl, hb b rfl⟩
theorem ext_seg (p : ByteArray) (f i : Nat) : p.extract f i = ⟨(segR p.data.toList f i).toArray⟩ := by
  apply ByteArray.ext
  apply Array.ext'
  show (p.extract f i).data.toList = (segR p.data.toList f i).toArray.toList
  rw [ByteArray.data_extract, Array.toList_extract, List.extract_eq_take_drop]
  rfl
theorem ba_getD (p : ByteArray) {i : Nat} (h : i < p.size) : p.data.toList.getD i 0 = p[i] := by
  rw [List.getD_eq_getElem?_getD, List.getElem?_eq_getElem (by exact h)]; rfl
theorem ba_eq_list {p q : ByteArray} (h : p.data.toList = q.data.toList) : p = q := ByteArray.ext (Array.ext' h)

set_option maxHeartbeats 3200000 in
set_option maxRecDepth 100000 in
theorem rparts_any (p : ByteArray) (w : World) (hp : p.size ≤ 1073741824) :
    Calls Tryz.prog 34 #[.string p] w fun e w' => ∃ A cap, e = .returned (.tuple #[.slice A (baL (partsR p.data.toList).1).length cap, .bool (partsR p.data.toList).2]) ∧ RdT w' A (baL (partsR p.data.toList).1) ∧ TxFar w.heap.size A (baL (partsR p.data.toList).1) ∧ Below w.heap.size w w' ∧ (baL (partsR p.data.toList).1).length ≤ cap := by
  obtain ⟨R, hR⟩ : ∃ R : Value → World → Prop, R = fun x w' => ∃ A cap, x = .tuple #[.slice A (baL (partsR p.data.toList).1).length cap, .bool (partsR p.data.toList).2] ∧ RdT w' A (baL (partsR p.data.toList).1) ∧ TxFar w.heap.size A (baL (partsR p.data.toList).1) ∧ Below w.heap.size w w' ∧ (baL (partsR p.data.toList).1).length ≤ cap := ⟨_, rfl⟩
  suffices H : Calls Tryz.prog 34 #[.string p] w fun e w' => ∃ x, e = .returned x ∧ R x w' by
    refine H.mono ?_
    rintro e w' ⟨x, rfl, hx⟩
    rw [hR] at hx
    obtain ⟨A, cap, rfl, h⟩ := hx
    exact ⟨A, cap, rfl, h⟩
  have HR := Lib.hid hR
  clear hR
  have HB0 : Hid (Below w.heap.size w w) := Below.refl _ _
  by_cases h47 : p = ⟨#[47]⟩
  · have d1 : (p.toList == [47]) = true := by rw [h47, ByteArray.toList_eq]; decide
    have HE : Hid (R (.tuple #[.slice none 0 0, .bool true]) w) := by
      unfold Hid
      rw [HR.out, h47]
      exact ⟨none, 0, by rw [show (ByteArray.mk #[47]).data.toList = [47] from rfl, parts_root]; rfl, .inl (by rw [show (ByteArray.mk #[47]).data.toList = [47] from rfl, parts_root]; rfl), .inl (by rw [show (ByteArray.mk #[47]).data.toList = [47] from rfl, parts_root]; rfl), HB0.out, by rw [show (ByteArray.mk #[47]).data.toList = [47] from rfl, parts_root]; exact Nat.le_refl _⟩
    clear h47 HR
    go_enter Tryz.func34, Tryz.ntmps34
    go_wp2
    go_ret2
    exact ⟨_, rfl, HE.out⟩
  have hl47 : p.data.toList ≠ [47] := fun e => h47 (ba_eq_list e)
  have d1 : (p.toList == [47]) = false := by rw [ByteArray.toList_eq]; simpa using hl47
  by_cases h0 : p = ⟨#[]⟩
  · have d2 : p.toList.isEmpty = true := by rw [h0, ByteArray.toList_eq]; rfl
    have HE : Hid (R (.tuple #[.slice none 0 0, .bool false]) w) := by
      unfold Hid
      rw [HR.out, h0]
      have e : partsR (ByteArray.mk #[]).data.toList = ([], false) := parts_no (by decide)
      exact ⟨none, 0, by rw [e]; rfl, .inl (by rw [e]; rfl), .inl (by rw [e]; rfl), HB0.out, by rw [e]; exact Nat.le_refl _⟩
    clear h0 HR h47 hl47
    go_enter Tryz.func34, Tryz.ntmps34
    go_wp2
    go_ret2
    exact ⟨_, rfl, HE.out⟩
  have d2 : p.toList.isEmpty = false := by
    rw [ByteArray.toList_eq]
    cases h : p.data.toList with
    | nil => exact absurd (ba_eq_list h) h0
    | cons _ _ => rfl
  have hz0 : 1 ≤ p.size := by
    have : p.size ≠ 0 := fun e => h0 (ba_eq_list (List.length_eq_zero_iff.1 e))
    omega
  have hz0i : (0 : Int) < (p.size : Int) := by omega
  have hhead : p.data.toList.head? = some p[0] := by
    rw [List.head?_eq_getElem?, List.getElem?_eq_getElem (by exact hz0)]; rfl
  by_cases hc : p[0] = 47
  · have d3 : (((p[0].toNat : Nat) : Int) != 47) = false := by rw [hc]; rfl
    rw [hc] at hhead
    have HYES : Hid (nmOk (splitS (p.data.toList.drop 1)) = true → partsR p.data.toList = (splitS (p.data.toList.drop 1), true)) := fun h => parts_yes hl47 hhead h
    have HNO : Hid (nmOk (splitS (p.data.toList.drop 1)) = false → ∀ w', Below w.heap.size w w' → R (.tuple #[.slice none 0 0, .bool false]) w') := fun h w' hb => by
      rw [HR.out]
      have e := parts_bad hl47 h
      exact ⟨none, 0, by rw [e]; rfl, .inl (by rw [e]; rfl), .inl (by rw [e]; rfl), hb, by rw [e]; exact Nat.le_refl _⟩
    have HST := Lib.hid (inv_start (p := p.data.toList) hz0)
    have HLN : Hid (p.data.toList.length = p.size) := rfl
    have HEL := Lib.hid elemS13
    clear h47 h0 hl47 hhead hc
    go_enter Tryz.func34, Tryz.ntmps34
    go_wp2
    go_loopw [4, 5, 6] (fun o fv iv wr => ∃ (i f : Nat) (O : List (List UInt8)), iv = .int .i64 i ∧ fv = .int .i64 f ∧ i ≤ p.size + 1 ∧ f ≤ p.size + 1 ∧ Hid (PtInv p.data.toList i f O) ∧ wr.ownsRow 0 9 1 o (baL O).length ((baL O).map Value.string) ∧ (∀ q, ownS o q → w.heap.size ≤ q) ∧ Below w.heap.size w wr) (fun _ _ iv _ => p.size + 1 - (intOf iv).toNat)
    case atStart => exact ⟨1, 1, [], rfl, rfl, by omega, by omega, HST.out, World.ownsRow_nil _ _ _ _, (fun q hq => by cases hq), HB0.out⟩
    case round =>
      clear HST HB0
      obtain ⟨i, f, O, rfl, rfl, hi1, hf1, HI, hown, hbl, hb⟩ := hrel
      have HOWN := Lib.hid hown
      have HBL := Lib.hid hbl
      have HB := Lib.hid hb
      have hsz := hb.size
      have hO7 : O.length ≤ 7 := HI.out.1
      by_cases hi : i ≤ p.size
      · have d4 : (i : Int) ≤ (p.size : Int) := by omega
        have hfi : f ≤ i := by
          have h := HI.out.2.2
          rw [HLN.out] at h
          omega
        have hi8 : i + 1 ≤ p.size + 1 := by omega
        by_cases hlt : i < p.size
        · have d5 : (i : Int) < (p.size : Int) := by omega
          have hgd := ba_getD p hlt
          by_cases hc : p[i] = 47
          · have d6 : (((p[i].toNat : Nat) : Int) != 47) = false := by rw [hc]; rfl
            have HAT : Hid (i = p.data.toList.length ∨ p.data.toList.getD i 0 = 47) := .inr (by rw [hgd, hc])
            clear hgd hc
            have hbal := baL_len O
            by_cases hif : i = f
            · have d7 : ((i : Int) == (f : Int)) = true := by rw [hif]; simp
              have HE := Lib.hid (HNO.out (inv_bad HI.out (by rw [HLN.out]; exact hi) HAT.out (.inl hif)) wr HB.out)
              clear hif hbal hown hbl hb HYES HNO HR HI HAT
              go_wp2
              go_ret2
              exact ⟨_, rfl, HE.out⟩
            · have d7 : ((i : Int) == (f : Int)) = false := by simp; omega
              by_cases h7 : O.length = 7
              · have d8 : (((baL O).length : Int) == 7) = true := by rw [hbal, h7]; rfl
                have HE := Lib.hid (HNO.out (inv_bad HI.out (by rw [HLN.out]; exact hi) HAT.out (.inr h7)) wr HB.out)
                obtain ⟨A6, cap6, rfl, _⟩ := row_txt hown
                clear h7 hif hbal hown hbl hb HYES HNO HR HI HAT
                go_wp2
                go_ret2
                exact ⟨_, rfl, HE.out⟩
              · have d8 : (((baL O).length : Int) == 7) = false := by rw [hbal]; simp; omega
                have HI1 := Lib.hid (inv_seg HI.out (by rw [HLN.out]; exact hi) HAT.out hif h7)
                have d9 : (f : Int) ≤ (i : Int) := by omega
                have hbl7 : (baL O).length ≤ 7 := by omega
                have HSG := Lib.hid (ext_seg p f i)
                have HSN : Hid (baL (O ++ [segR p.data.toList f i]) = baL O ++ [p.extract f i]) := by unfold Hid; rw [HSG.out]; simp [baL]
                obtain ⟨A6, cap6, rfl, _⟩ := row_txt hown
                clear h7 hif hbal hown hbl hb HI HAT
                generalize baL O = OB at *
                go_wp2_with (at_builtin; refine append_moved rfl (.tmp 40) (.tmp 45) 22 rfl 9 (.string ⟨#[]⟩) 16 HEL (.string (p.extract f i)) rfl _ OB.length (OB.map Value.string) rfl HOWN.out wr.heap.size rfl rfl (by omega) (by unfold maxLen; omega) ?_; intro u2 w2 ho2 hm2; have HO2 := Lib.hid ho2; have HM2 := Lib.hid hm2; clear ho2 hm2)
                have HB2 := Lib.hid (HB.out.trans (HM2.out.below HBL.out hsz))
                have HBL2 : Hid (∀ q, ownS u2 q → w.heap.size ≤ q) := fun q hq => by
                  rcases HM2.out.foot q hq with h | h
                  · exact HBL.out q h
                  · exact Nat.le_trans hsz h
                go_roundw
                case rel => exact ⟨i + 1, i + 1, O ++ [segR p.data.toList f i], by go_num, by go_num, hi8, hi8, HI1.out, by rw [HSN.out, List.length_append, List.map_append]; exact HO2.out, HBL2.out, HB2.out⟩
                case measure => simp [intOf]; omega
          · have d6 : (((p[i].toNat : Nat) : Int) != 47) = true := by
              have : p[i].toNat ≠ 47 := fun e => hc (UInt8.toNat_inj.1 e)
              simp; omega
            have HI1 : Hid (PtInv p.data.toList (i + 1) f O) := inv_on HI.out (by rw [HLN.out]; exact hlt) (by rw [hgd]; exact hc)
            clear hgd hc hown hbl hb
            go_wp2
            go_roundw
            case rel => exact ⟨i + 1, f, O, by go_num, rfl, hi8, hf1, HI1.out, HOWN.out, HBL.out, HB.out⟩
            case measure => simp [intOf]; omega
        · have d5 : (p.size : Int) ≤ (i : Int) := by omega
          have HAT : Hid (i = p.data.toList.length ∨ p.data.toList.getD i 0 = 47) := .inl (by rw [HLN.out]; omega)
          have hbal := baL_len O
          by_cases hif : i = f
          · have d7 : ((i : Int) == (f : Int)) = true := by rw [hif]; simp
            have HE := Lib.hid (HNO.out (inv_bad HI.out (by rw [HLN.out]; exact hi) HAT.out (.inl hif)) wr HB.out)
            clear hif hbal hown hbl hb HYES HNO HR HI HAT
            go_wp2
            go_ret2
            exact ⟨_, rfl, HE.out⟩
          · have d7 : ((i : Int) == (f : Int)) = false := by simp; omega
            by_cases h7 : O.length = 7
            · have d8 : (((baL O).length : Int) == 7) = true := by rw [hbal, h7]; rfl
              have HE := Lib.hid (HNO.out (inv_bad HI.out (by rw [HLN.out]; exact hi) HAT.out (.inr h7)) wr HB.out)
              obtain ⟨A6, cap6, rfl, _⟩ := row_txt hown
              clear h7 hif hbal hown hbl hb HYES HNO HR HI HAT
              go_wp2
              go_ret2
              exact ⟨_, rfl, HE.out⟩
            · have d8 : (((baL O).length : Int) == 7) = false := by rw [hbal]; simp; omega
              have HI1 := Lib.hid (inv_seg HI.out (by rw [HLN.out]; exact hi) HAT.out hif h7)
              have d9 : (f : Int) ≤ (i : Int) := by omega
              have hbl7 : (baL O).length ≤ 7 := by omega
              have HSG := Lib.hid (ext_seg p f i)
              have HSN : Hid (baL (O ++ [segR p.data.toList f i]) = baL O ++ [p.extract f i]) := by unfold Hid; rw [HSG.out]; simp [baL]
              obtain ⟨A6, cap6, rfl, _⟩ := row_txt hown
              clear h7 hif hbal hown hbl hb HI HAT
              generalize baL O = OB at *
              go_wp2_with (at_builtin; refine append_moved rfl (.tmp 40) (.tmp 45) 22 rfl 9 (.string ⟨#[]⟩) 16 HEL (.string (p.extract f i)) rfl _ OB.length (OB.map Value.string) rfl HOWN.out wr.heap.size rfl rfl (by omega) (by unfold maxLen; omega) ?_; intro u2 w2 ho2 hm2; have HO2 := Lib.hid ho2; have HM2 := Lib.hid hm2; clear ho2 hm2)
              have HB2 := Lib.hid (HB.out.trans (HM2.out.below HBL.out hsz))
              have HBL2 : Hid (∀ q, ownS u2 q → w.heap.size ≤ q) := fun q hq => by
                rcases HM2.out.foot q hq with h | h
                · exact HBL.out q h
                · exact Nat.le_trans hsz h
              go_roundw
              case rel => exact ⟨i + 1, i + 1, O ++ [segR p.data.toList f i], by go_num, by go_num, hi8, hi8, HI1.out, by rw [HSN.out, List.length_append, List.map_append]; exact HO2.out, HBL2.out, HB2.out⟩
              case measure => simp [intOf]; omega
      · have d4 : (p.size : Int) < (i : Int) := by omega
        obtain rfl : i = p.size + 1 := by omega
        obtain ⟨e1, e2⟩ := inv_end (by have := HI.out; rwa [← HLN.out] at this)
        obtain ⟨A, cap, rfl, hrd, hfar, hcp⟩ := row_far hown hbl
        have HE : Hid (R (.tuple #[.slice A (baL O).length cap, .bool true]) wr) := by
          unfold Hid
          rw [HR.out, HYES.out e2, e1]
          exact ⟨A, cap, rfl, hrd, hfar, hb, hcp⟩
        clear hown hbl hb hrd hfar hcp e1 e2 HI HYES HNO HR
        go_wp2
        go_ret2
        exact ⟨_, rfl, HE.out⟩
  · have d3 : (((p[0].toNat : Nat) : Int) != 47) = true := by
      have : p[0].toNat ≠ 47 := fun e => hc (UInt8.toNat_inj.1 e)
      simp; omega
    have HE : Hid (R (.tuple #[.slice none 0 0, .bool false]) w) := by
      unfold Hid
      rw [HR.out]
      have e : partsR p.data.toList = ([], false) := parts_no (by rw [hhead]; exact fun e => hc (Option.some.inj e))
      exact ⟨none, 0, by rw [e]; rfl, .inl (by rw [e]; rfl), .inl (by rw [e]; rfl), HB0.out, by rw [e]; exact Nat.le_refl _⟩
    clear h47 h0 hl47 hhead hc HR
    go_enter Tryz.func34, Tryz.ntmps34
    go_wp2
    go_ret2
    exact ⟨_, rfl, HE.out⟩
end Go.Proofs.YtfcclppgjfkfoaaGreatDoor

/- Trees in memory, and how a tree that came in is read. Conditions: values without a ring, as the row says. -/
namespace Go.Proofs.YtfcclppgjfkfoaaGreatDoor
open Go.RowKit

/-- A property lies at a place. -/
def PrAt (w : World) (b o : Nat) (x : PR) : Prop := w.cell? ⟨b, o, none⟩ = some (.string x.nm) ∧ w.cell? ⟨b, o + 1, none⟩ = some (.string x.vl)
/-- The slice at A, in a block of G, reads as the properties l. -/
def RdPr (w : World) (G : Nat → Prop) (A : Option Addr) (l : List PR) : Prop := l = [] ∨ ∃ b off, A = some ⟨b, off, none⟩ ∧ G b ∧ ∀ k, k < l.length → PrAt w b (off + k * 2) (l.getD k pr0)
/-- A node's name, and two slices, are a tree, all in blocks of G. -/
inductive NdAt (w : World) (G : Nat → Prop) : ND → Value → Value → Prop
  | mk (nm : ByteArray) (ps : List PR) (ks : List ND) (A K : Option Addr) (pc kc : Nat) (p q : Nat → Value)
      (hp : RdPr w G A ps) (hpc : ps.length ≤ pc) (hpm : pc ≤ maxLen) (hkc : ks.length ≤ kc) (hkm : kc ≤ maxLen)
      (hK : ks = [] ∨ ∃ b off, K = some ⟨b, off, none⟩ ∧ G b ∧ ∀ i, i < ks.length → w.cell? ⟨b, off + i * 3, none⟩ = some (.string (ks.getD i nd0).nm) ∧ w.cell? ⟨b, off + i * 3 + 1, none⟩ = some (p i) ∧ w.cell? ⟨b, off + i * 3 + 2, none⟩ = some (q i))
      (hk : ∀ i, i < ks.length → NdAt w G (ks.getD i nd0) (p i) (q i)) : NdAt w G (.mk nm ps ks) (.slice A ps.length pc) (.slice K ks.length kc)

theorem cell_kept {w w' : World} {F F' : Nat → Prop} (hm : Moved w w' F F') {b o : Nat} (hF : ¬ F b) {v : Value} (h : w.cell? ⟨b, o, none⟩ = some v) : w'.cell? ⟨b, o, none⟩ = some v := by
  have hlt : b < w.heap.size := World.block_lt_of_cell? w _ h
  rw [World.cell?_of_block (a := ⟨b, o, none⟩) (hm.block b hlt hF)]
  exact h
theorem RdPr.kept {w w' : World} {G F F' : Nat → Prop} {A : Option Addr} {l : List PR} (h : RdPr w G A l) (hm : Moved w w' F F') (hd : ∀ k, G k → ¬ F k) : RdPr w' G A l := by
  rcases h with h | ⟨b, off, rfl, hg, hc⟩
  · exact .inl h
  · exact .inr ⟨b, off, rfl, hg, fun k hk => ⟨cell_kept hm (hd b hg) (hc k hk).1, cell_kept hm (hd b hg) (hc k hk).2⟩⟩
theorem NdAt.kept {w w' : World} {G F F' : Nat → Prop} {n : ND} {v2 v3 : Value} (h : NdAt w G n v2 v3) (hm : Moved w w' F F') (hd : ∀ k, G k → ¬ F k) : NdAt w' G n v2 v3 := by
  induction h with
  | mk nm ps ks A K pc kc p q hp hpc hpm hkc hkm hK hk ih =>
    refine .mk nm ps ks A K pc kc p q (hp.kept hm hd) hpc hpm hkc hkm ?_ ih
    rcases hK with h | ⟨b, off, rfl, hg, hc⟩
    · exact .inl h
    · exact .inr ⟨b, off, rfl, hg, fun i hi => ⟨cell_kept hm (hd b hg) (hc i hi).1, cell_kept hm (hd b hg) (hc i hi).2.1, cell_kept hm (hd b hg) (hc i hi).2.2⟩⟩
theorem nd_below {w w' : World} {G : Nat → Prop} {n : ND} {v2 v3 : Value} (h : NdAt w G n v2 v3) (hb : Below w.heap.size w w') : NdAt w' G n v2 v3 := h.kept (Moved.of_below hb (fun _ => False)) (fun _ _ h => h)
theorem RdPr.below {w w' : World} {G : Nat → Prop} {A : Option Addr} {l : List PR} (h : RdPr w G A l) (hb : Below w.heap.size w w') : RdPr w' G A l := h.kept (Moved.of_below hb (fun _ => False)) (fun _ _ h => h)
theorem RdPr.mono {w : World} {G G' : Nat → Prop} {A : Option Addr} {l : List PR} (h : RdPr w G A l) (hg : ∀ k, G k → G' k) : RdPr w G' A l := by
  rcases h with h | ⟨b, off, rfl, hb, hc⟩
  · exact .inl h
  · exact .inr ⟨b, off, rfl, hg b hb, hc⟩
theorem NdAt.mono {w : World} {G G' : Nat → Prop} {n : ND} {v2 v3 : Value} (h : NdAt w G n v2 v3) (hg : ∀ k, G k → G' k) : NdAt w G' n v2 v3 := by
  induction h with
  | mk nm ps ks A K pc kc p q hp hpc hpm hkc hkm hK hk ih =>
    refine .mk nm ps ks A K pc kc p q (hp.mono hg) hpc hpm hkc hkm ?_ ih
    rcases hK with h | ⟨b, off, rfl, hb, hc⟩
    · exact .inl h
    · exact .inr ⟨b, off, rfl, hg b hb, hc⟩
theorem nd_lt {w : World} {G : Nat → Prop} {n : ND} {v2 v3 : Value} (h : NdAt w G n v2 v3) : NdAt w (fun k => k < w.heap.size) n v2 v3 := by
  induction h with
  | mk nm ps ks A K pc kc p q hp hpc hpm hkc hkm hK hk ih =>
    refine .mk nm ps ks A K pc kc p q ?_ hpc hpm hkc hkm ?_ ih
    · rcases hp with h | ⟨b, off, rfl, hb, hc⟩
      · exact .inl h
      · by_cases h0 : ps.length = 0
        · exact .inl (List.length_eq_zero_iff.1 h0)
        · exact .inr ⟨b, off, rfl, World.block_lt_of_cell? w _ (hc 0 (by omega)).1, hc⟩
    · rcases hK with h | ⟨b, off, rfl, hb, hc⟩
      · exact .inl h
      · by_cases h0 : ks.length = 0
        · exact .inl (List.length_eq_zero_iff.1 h0)
        · exact .inr ⟨b, off, rfl, World.block_lt_of_cell? w _ (hc 0 (by omega)).1, hc⟩
/-- A tree stays where one block beyond it has changed. -/
theorem nd_grown {w w' : World} {B g : Nat} {n : ND} {v2 v3 : Value} (h : NdAt w (fun k => k < B) n v2 v3) (hg : w.grownBy w' (some g)) (hB : B ≤ g) : NdAt w' (fun k => k < B) n v2 v3 :=
  h.kept (F := fun k => k = g) (F' := fun k => k = g) (Moved.grown hg (fun k hk => by injection hk with hk; exact hk.symm) (fun k hk => .inl hk)) (fun k hk e => by subst e; omega)
/-- A property of a slice. -/
theorem RdPr.at_ {w : World} {G : Nat → Prop} {A : Option Addr} {l : List PR} (h : RdPr w G A l) {k : Nat} (hk : k < l.length) : ∃ b off x, A = some ⟨b, off, none⟩ ∧ PrAt w b (off + k * 2) x ∧ Hid (l.getD k pr0 = x) := by
  rcases h with rfl | ⟨b, off, rfl, _, hc⟩
  · simp at hk
  · exact ⟨b, off, _, rfl, hc k hk, rfl⟩
/-- A tree's two slices. -/
theorem nd_shape {w : World} {G : Nat → Prop} {n : ND} {v2 v3 : Value} (h : NdAt w G n v2 v3) : ∃ A K pc kc, v2 = .slice A n.ps.length pc ∧ v3 = .slice K n.ks.length kc ∧ n.ps.length ≤ pc ∧ pc ≤ maxLen ∧ n.ks.length ≤ kc ∧ kc ≤ maxLen := by
  cases h with
  | mk nm ps ks A K pc kc p q hp hpc hpm hkc hkm hK hk => exact ⟨A, K, pc, kc, rfl, rfl, hpc, hpm, hkc, hkm⟩
theorem nd_prop {w : World} {G : Nat → Prop} {n : ND} {A : Option Addr} {l pc : Nat} {v3 : Value} (h : NdAt w G n (.slice A l pc) v3) {k : Nat} (hk : k < n.ps.length) : ∃ b off x, A = some ⟨b, off, none⟩ ∧ PrAt w b (off + k * 2) x ∧ Hid (n.ps.getD k pr0 = x) := by
  cases h with
  | mk nm ps ks A K pc kc p q hp => exact hp.at_ hk
/-- A kid of a node. -/
theorem nd_kid {w : World} {G : Nat → Prop} {n : ND} {v2 : Value} {K : Option Addr} {l kc : Nat} (h : NdAt w G n v2 (.slice K l kc)) {k : Nat} (hk : k < n.ks.length) :
    ∃ b off x y z, K = some ⟨b, off, none⟩ ∧ w.cell? ⟨b, off + k * 3, none⟩ = some (.string x.nm) ∧ w.cell? ⟨b, off + k * 3 + 1, none⟩ = some y ∧ w.cell? ⟨b, off + k * 3 + 2, none⟩ = some z ∧ NdAt w G x y z ∧ Hid (n.ks.getD k nd0 = x) := by
  cases h with
  | mk nm ps ks A K pc kc p q hp hpc hpm hkc hkm hK hk' =>
    rcases hK with rfl | ⟨b, off, rfl, _, hc⟩
    · simp [ND.ks] at hk
    · obtain ⟨h1, h2, h3⟩ := hc k hk
      exact ⟨b, off, _, _, _, rfl, h1, h2, h3, hk' k hk, rfl⟩
theorem nd_props {w : World} {G : Nat → Prop} {n : ND} {A : Option Addr} {l pc : Nat} {v3 : Value} (h : NdAt w G n (.slice A l pc) v3) : RdPr w G A n.ps ∧ l = n.ps.length := by
  cases h with
  | mk nm ps ks A K pc kc p q hp => exact ⟨hp, rfl⟩
end Go.Proofs.YtfcclppgjfkfoaaGreatDoor

/- The document's Builder of trees in memory: what is open, the rows that it owns, and what each change of it leaves. No condition: nothing of the program stands in it but types. -/
namespace Go.Proofs.YtfcclppgjfkfoaaGreatDoor
open Go.RowKit

/-- A kid that is closed: its tree, its two slices. -/
structure KD where
  nd : ND
  y : Value
  z : Value
def kd0 : KD := ⟨nd0, .slice none 0 0, .slice none 0 0⟩
/-- A node that is open: its name, properties, kids, and the two slices that it owns. -/
structure ON where
  nm : ByteArray
  ps : List PR
  kl : List KD
  p : Value
  q : Value
def ON.nd (x : ON) : ND := .mk x.nm x.ps (x.kl.map KD.nd)
def prl (x : PR) : List Value := [.string x.nm, .string x.vl]
def prL (l : List PR) : List Value := l.flatMap prl
def kdl (x : KD) : List Value := [.string x.nd.nm, x.y, x.z]
def kdL (l : List KD) : List Value := l.flatMap kdl
def onl (x : ON) : List Value := [.string x.nm, x.p, x.q]
def onL (l : List ON) : List Value := l.flatMap onl
theorem flat_len {α : Type} {f : α → List Value} {n : Nat} (hf : ∀ x, (f x).length = n) (l : List α) : (l.flatMap f).length = l.length * n := by
  induction l with
  | nil => simp
  | cons x l ih => rw [List.flatMap_cons, List.length_append, ih, hf, List.length_cons, Nat.add_mul, Nat.one_mul, Nat.add_comm]
theorem flat_at {α : Type} {f : α → List Value} {n : Nat} (hf : ∀ x, (f x).length = n) (d : α) (l : List α) {k j : Nat} (hk : k < l.length) (hj : j < n) : (l.flatMap f)[k * n + j]? = (f (l.getD k d))[j]? := by
  induction l generalizing k with
  | nil => simp at hk
  | cons x l ih =>
    rw [List.flatMap_cons]
    match k, hk with
    | 0, _ => rw [Nat.zero_mul, Nat.zero_add, List.getElem?_append_left (by rw [hf]; exact hj)]; rfl
    | k + 1, hk =>
      rw [List.getElem?_append_right (by rw [hf, Nat.add_mul, Nat.one_mul]; omega), hf, show (k + 1) * n + j - n = k * n + j by rw [Nat.add_mul, Nat.one_mul]; omega]
      exact ih (by simpa using hk)
theorem prL_at (l : List PR) {k j : Nat} (hk : k < l.length) (hj : j < 2) : (prL l)[k * 2 + j]? = (prl (l.getD k pr0))[j]? := flat_at (f := prl) (fun _ => rfl) pr0 l hk hj
theorem kdL_at (l : List KD) {k j : Nat} (hk : k < l.length) (hj : j < 3) : (kdL l)[k * 3 + j]? = (kdl (l.getD k kd0))[j]? := flat_at (f := kdl) (fun _ => rfl) kd0 l hk hj
def on0 : ON := ⟨ByteArray.empty, [], [], .slice none 0 0, .slice none 0 0⟩
theorem onL_at (l : List ON) {k j : Nat} (hk : k < l.length) (hj : j < 3) : (onL l)[k * 3 + j]? = (onl (l.getD k on0))[j]? := flat_at (f := onl) (fun _ => rfl) on0 l hk hj
theorem onL_len (l : List ON) : (onL l).length = l.length * 3 := flat_len (f := onl) (fun _ => rfl) l
theorem prL_app (l r : List PR) : prL (l ++ r) = prL l ++ prL r := by simp [prL]
theorem kdL_app (l r : List KD) : kdL (l ++ r) = kdL l ++ kdL r := by simp [kdL]
theorem onL_app (l r : List ON) : onL (l ++ r) = onL l ++ onL r := by simp [onL]
/-- The same block is not both slices'. -/
def Apart (v v' : Value) : Prop := ∀ k, v.ownBlock = some k → v'.ownBlock ≠ some k
theorem Apart.symm {v v' : Value} (h : Apart v v') : Apart v' v := fun k h1 h2 => h k h2 h1
theorem Apart.of_none {v v' : Value} (h : v.ownBlock = none) : Apart v v' := fun k hk => by rw [h] at hk; cases hk
theorem apart_types {w : World} {base base' e e' size size' n n' : Nat} {v v' : Value} {xs xs' : List Value} (h : w.ownsRow base e size v n xs) (h' : w.ownsRow base' e' size' v' n' xs') (hne : e ≠ e') : Apart v v' := fun k hk hk' => by
  rcases ow_ow h h' hne with h1 | h1
  · rw [h1] at hk; cases hk
  · exact h1 (hk.trans hk'.symm)
/-- A row that has changed, or is new, is apart from what the old one was apart from. -/
theorem Apart.moved {w : World} {u u' v : Value} (h : Apart u v) (hF : ∀ k, ownS u' k → ownS u k ∨ w.heap.size ≤ k) (hv : ∀ k, v.ownBlock = some k → k < w.heap.size) : Apart u' v := fun k hk hk' => by
  rcases hF k hk with h1 | h1
  · exact h k h1 hk'
  · have := hv k hk'; omega
/-- All that may change. -/
def fpO (g : Nat) (vo : Value) (L : List ON) (k : Nat) : Prop := k = g ∨ ownS vo k ∨ ∃ x ∈ L, ownS x.p k ∨ ownS x.q k
/-- An open node in memory. -/
structure OnAt (w : World) (B : Nat) (F : Nat → Prop) (x : ON) : Prop where
  p : w.ownsRow B 92 2 x.p x.ps.length (prL x.ps)
  q : w.ownsRow B 28 3 x.q x.kl.length (kdL x.kl)
  k : ∀ c ∈ x.kl, NdAt w (fun k => B ≤ k ∧ ¬ F k) c.nd c.y c.z
/-- A Builder's cells. -/
def bdC (vo : Value) (b : BD) (r2 r3 : Value) : Array Value := #[vo, .bool b.dn, .string b.rt.nm, r2, r3, .int .i64 (b.ns : Int), .int .i64 (b.pn : Int)]
theorem tyPN : 92 ≠ 28 := by decide
/-- A tree lies in blocks that are there. -/
theorem nd_and {w : World} {G : Nat → Prop} {n : ND} {v2 v3 : Value} (h : NdAt w G n v2 v3) : NdAt w (fun k => G k ∧ k < w.heap.size) n v2 v3 := by
  induction h with
  | mk nm ps ks A K pc kc p q hp hpc hpm hkc hkm hK hk ih =>
    refine .mk nm ps ks A K pc kc p q ?_ hpc hpm hkc hkm ?_ ih
    · rcases hp with h | ⟨b, off, rfl, hb, hc⟩
      · exact .inl h
      · by_cases h0 : ps.length = 0
        · exact .inl (List.length_eq_zero_iff.1 h0)
        · exact .inr ⟨b, off, rfl, ⟨hb, World.block_lt_of_cell? w _ (hc 0 (by omega)).1⟩, hc⟩
    · rcases hK with h | ⟨b, off, rfl, hb, hc⟩
      · exact .inl h
      · by_cases h0 : ks.length = 0
        · exact .inl (List.length_eq_zero_iff.1 h0)
        · exact .inr ⟨b, off, rfl, ⟨hb, World.block_lt_of_cell? w _ (hc 0 (by omega)).1⟩, hc⟩
/-- A closed tree beside what changes stays, and stays beside what may change next. -/
theorem nd_moved {w w' : World} {B : Nat} {F F' : Nat → Prop} {n : ND} {v2 v3 : Value} (h : NdAt w (fun k => B ≤ k ∧ ¬ F k) n v2 v3) (hm : Moved w w' F F') : NdAt w' (fun k => B ≤ k ∧ ¬ F' k) n v2 v3 :=
  ((nd_and h).kept hm (fun _ hk => hk.1.2)).mono fun k hk => ⟨hk.1.1, fun hf => by
    rcases hm.foot k hf with h1 | h1
    · exact hk.1.2 h1
    · have := hk.2; omega⟩
theorem ow_moved {w w' : World} {F F' : Nat → Prop} {base e size n : Nat} {v : Value} {xs : List Value} (h : w.ownsRow base e size v n xs) (hm : Moved w w' F F') (hn : ∀ k, v.ownBlock = some k → ¬ F k) : w'.ownsRow base e size v n xs := hm.row h hn
section
variable {w w' : World} {B g : Nat} {b b' : BD} {vo vo' r2 r3 : Value} {L : List ON}
theorem fp_g {L : List ON} {vo : Value} {g : Nat} : fpO g vo L g := .inl rfl
end
end Go.Proofs.YtfcclppgjfkfoaaGreatDoor
