/- The document's AsTexts and AsText of layer 13; its SameTexts of the same texts. Conditions: strings of at most 2^40 bytes; at most 2^40 texts. -/
import Derived.Test.YtjphecfkjpfkeaaDoorMg13
import Derived.Test.YtjphecfkjpfkeaaDoorMg11
namespace Go.Proofs.YtjphecfkjpfkeaaDoor
open Go.RowKit

/-- How long a string is. -/
def strLen13 : Value → Nat
  | .string s => s.size
  | _ => 0
theorem elemS13 : ElemIs Tryd.prog 22 9 (.string ⟨#[]⟩) 16 := elemIs_mk Tryd.underlying22 rfl (by kernel_rfl)
theorem last_at (p : ByteArray) (m : Nat) (hm : p.size = m + 1) : p.data.toList.getLast? = some (p.data.toList.getD m 0) := by
  have hl : p.data.toList.length = m + 1 := hm
  rw [List.getLast?_eq_getElem?, hl, Nat.add_sub_cancel, List.getD_eq_getElem?_getD, List.getElem?_eq_getElem (by omega)]; rfl
theorem row_txt {w : World} {base : Nat} {v : Value} {l : List ByteArray} (h : w.ownsRow base 9 1 v l.length (l.map Value.string)) : ∃ A cap, v = .slice A l.length cap ∧ RdT w A l := by
  rcases h.2 with ⟨rfl, hz⟩ | ⟨b, cap, cur, rfl, hb, hg, hnc, hcm, hcs, hx⟩
  · exact ⟨none, 0, by rw [hz], .inl (List.length_eq_zero_iff.1 hz)⟩
  · refine ⟨_, cap, rfl, .inr ⟨b, 0, rfl, fun k hk => ?_⟩⟩
    rw [Nat.zero_add, h.cellAt k (by omega)]
    simp [hk]
theorem baL_len (L : List (List UInt8)) : (baL L).length = L.length := List.length_map _

set_option maxHeartbeats 1600000 in
set_option maxRecDepth 100000 in
theorem rasTexts_any (v : ByteArray) (w : World) (hv : v.size ≤ 1099511627776) :
    Calls Tryd.prog 48 #[.string v] w fun e w' => ∃ A cap, e = .returned (.tuple #[.slice A (asT v.data.toList).length cap, .bool (okV v.data.toList)]) ∧ RdT w' A (baL (asT v.data.toList)) ∧ Below w.heap.size w w' := by
  obtain ⟨R, hR⟩ : ∃ R : Value → World → Prop, R = fun x w' => ∃ A cap, x = .tuple #[.slice A (asT v.data.toList).length cap, .bool (okV v.data.toList)] ∧ RdT w' A (baL (asT v.data.toList)) ∧ Below w.heap.size w w' := ⟨_, rfl⟩
  suffices H : Calls Tryd.prog 48 #[.string v] w (fun e w' => ∃ x, e = .returned x ∧ R x w') from H.mono fun e w' ⟨x, h1, h2⟩ => by
    rw [hR] at h2
    obtain ⟨A, cap, rfl, h3⟩ := h2
    exact ⟨A, cap, h1, h3⟩
  have HNO : Hid (okV v.data.toList = false → R (.tuple #[.slice none 0 0, .bool false]) w) := fun h => by
    have ha : asT v.data.toList = [] := by unfold asT; rw [h]; rfl
    rw [hR, h, ha]
    exact ⟨none, 0, rfl, .inl rfl, Below.refl _ _⟩
  by_cases h0 : v.size = 0
  · obtain rfl := nil_of_size h0
    have HE := Lib.hid (HNO.out (decide_eq_false (fun h => h.1 rfl)))
    clear hR h0 HNO
    go_enter Tryd.func48, Tryd.ntmps48
    go_wp2
    go_ret2
    first | exact HE.out | exact ⟨_, rfl, HE.out⟩
  · have hn := ne_nil_of h0
    obtain ⟨m, hm⟩ : ∃ m, v.size = m + 1 := ⟨v.size - 1, by omega⟩
    have hlast := last_at v m hm
    have hml : m < v.size := by omega
    have e1 : (v.size : Int) - 1 = (m : Int) := by omega
    have hmi : (m : Int) < (v.size : Int) := by omega
    rw [getD_of v m hml] at hlast
    have hne : v.data.toList ≠ [] := fun e => h0 (by show v.data.toList.length = 0; rw [e]; rfl)
    by_cases hz : v[m] = 0
    · have ho : okV v.data.toList = true := okV_iff.2 ⟨hne, by rw [hlast, hz]⟩
      have ha : asT v.data.toList = splR v.data.toList.length v.data.toList := if_pos ho
      have hd : (((v[m].toNat : Nat) : Int) != 0) = false := by rw [hz]; rfl
      have HL0 : Hid (v.size = 0 ∨ v.data.toList.getLast? = some 0) := .inr (by rw [hlast, hz])
      rw [ho] at hR
      have HR := Lib.hid hR
      have HT := Lib.hid ha
      have HEL := Lib.hid elemS13
      obtain ⟨T, hT⟩ : ∃ T, T = asT v.data.toList := ⟨_, rfl⟩
      rw [← hT] at HT
      have HTT := Lib.hid hT
      have wm : wrap64 (m : Int) = (m : Int) := w64 (by omega) (by omega)
      have HV := Lib.hid hv
      clear HNO hR ho ha hlast hz hne hT hm h0 hv
      go_enter Tryd.func48, Tryd.ntmps48
      go_wp2
      rw [wm]
      clear wm e1
      go_loopw [0, 4] (fun sv ov wr => ∃ (x : ByteArray) (O : List ByteArray), sv = .string x ∧ (x.size = 0 ∨ Hid (x.data.toList.getLast? = some 0)) ∧ wr.ownsRow 0 9 1 ov O.length (O.map Value.string) ∧ (∀ j, ov.ownBlock = some j → w.heap.size ≤ j) ∧ Below w.heap.size w wr ∧ Hid (baL T = O ++ baL (splR x.data.toList.length x.data.toList)) ∧ Hid (O.length + x.size ≤ v.size)) (fun sv _ _ => strLen13 sv)
      case atStart => exact ⟨v, [], rfl, HL0.out.imp id (fun h => h), World.ownsRow_nil _ _ _ _, (fun _ hj => by cases hj), Below.refl _ _, by unfold Hid; rw [HT.out]; rfl, by unfold Hid; simp⟩
      case round =>
        obtain ⟨x, O, rfl, hx0, hown, hbl, hb, HJ, HSZ⟩ := hrel
        have HOWN := Lib.hid hown
        have HBL := Lib.hid hbl
        have HB := Lib.hid hb
        have hsz := hb.size
        clear hown hbl hb
        by_cases hxz : x.size = 0
        · obtain rfl := nil_of_size hxz
          have hO : O = baL T := by
            have h := HJ.out
            rw [show splR (ByteArray.mk #[]).data.toList.length (ByteArray.mk #[]).data.toList = [] from rfl] at h
            rw [h]; simp [baL]
          obtain ⟨A, cap, rfl, hrd⟩ := row_txt HOWN.out
          have HE : Hid (R (.tuple #[.slice A O.length cap, .bool true]) wr) := by
            rw [HR.out, ← HTT.out]
            exact ⟨A, cap, by rw [hO, baL_len], hO ▸ hrd, HB.out⟩
          clear hxz hx0 HOWN HBL HJ HSZ HR HT HTT hrd hO
          go_wp2
          go_ret2
          first | exact HE.out | exact ⟨_, rfl, HE.out⟩
        · have hxn := ne_nil_of hxz
          have hxl := hx0.resolve_left hxz
          have hne : x.data.toList ≠ [] := fun e => hxz (by show x.data.toList.length = 0; rw [e]; rfl)
          obtain ⟨hz1, hz2⟩ := last_drop hxl.out
          have hst := splR_step hne
          obtain ⟨z, hzz⟩ : ∃ z, z = z0 x.data.toList := ⟨_, rfl⟩
          have hzl : z + 1 ≤ x.size := by rw [hzz]; exact hz1
          have hcs : (cutS x).size = z := by rw [hzz]; exact cutS_size x
          have hsp := HSZ.out
          have hv2 := HV.out
          have HCU := Lib.hid (fun W => rcut_any x W (by omega))
          have hxe : (x.extract (z + 1) x.size).data.toList = x.data.toList.drop (z + 1) := extract_tail x (z + 1)
          have hxs : (x.extract (z + 1) x.size).size = x.size - (z + 1) := extract_size x (z + 1)
          have HX0 : Hid ((x.extract (z + 1) x.size).size = 0 ∨ Hid ((x.extract (z + 1) x.size).data.toList.getLast? = some 0)) := by
            rw [← hzz] at hz2
            rcases hz2 with h | h
            · left; show (x.extract (z + 1) x.size).data.toList.length = 0; rw [hxe, h]; rfl
            · right; unfold Hid; rw [hxe]; exact h
          have HJ2 : Hid (baL T = (O ++ [cutS x]) ++ baL (splR (x.extract (z + 1) x.size).data.toList.length (x.extract (z + 1) x.size).data.toList)) := by
            unfold Hid
            rw [HJ.out, hst, ← hzz, hxe, List.append_assoc]; rfl
          have HSZ2 : Hid ((O ++ [cutS x]).length + (x.extract (z + 1) x.size).size ≤ v.size) := by
            unfold Hid; rw [hxs, List.length_append, List.length_cons, List.length_nil]; omega
          have HXS : Hid ((x.extract (z + 1) x.size).size < x.size) := by unfold Hid; rw [hxs]; omega
          have e2 : ((cutS x).size : Int) + 1 = ((z + 1 : Nat) : Int) := by rw [hcs]; rfl
          have i1 : ((z + 1 : Nat) : Int) ≤ (x.size : Int) := by omega
          have i0 : (0 : Int) ≤ ((z + 1 : Nat) : Int) := by omega
          have hOl : O.length ≤ 1099511627776 := by omega
          have w2 : wrap64 ((z + 1 : Nat) : Int) = ((z + 1 : Nat) : Int) := w64 (by omega) (by omega)
          have hxb : x.size ≤ 1099511627776 := by omega
          clear hxz hx0 hxl hne hz1 hz2 hst hzz hcs hxe hxs HJ HSZ hsp hv2
          generalize cutS x = C at *
          go_wp2_with fail
          refine (HCU.out _).mono ?_
          rintro e w1 ⟨rfl, rfl⟩
          go_wp2_with (at_builtin; refine append_moved rfl (.tmp 20) (.tmp 22) 22 rfl 9 (.string ⟨#[]⟩) 16 HEL (.string C) rfl _ O.length (O.map Value.string) rfl HOWN.out wr.heap.size rfl rfl (by omega) (by unfold maxLen; omega) ?_; intro u2 w2 ho2 hm2; have HO2 := Lib.hid ho2; have HM2 := Lib.hid hm2; clear ho2 hm2)
          have HB2 := Lib.hid (HB.out.trans (HM2.out.below HBL.out hsz))
          go_roundw
          case rel => exact ⟨x.extract (z + 1) x.size, O ++ [C], rfl, HX0.out, by rw [List.length_append, List.map_append]; exact HO2.out, (fun j hj => by
            rcases HM2.out.foot j hj with h5 | h5
            · exact HBL.out j h5
            · exact Nat.le_trans hsz h5), HB2.out, HJ2, HSZ2⟩
          case measure => exact HXS.out
    · have ho : okV v.data.toList = false := by
        cases h : okV v.data.toList with
        | false => rfl
        | true =>
          have := (okV_iff.1 h).2
          rw [hlast] at this
          injection this with this
          exact absurd this hz
      have hd : (((v[m].toNat : Nat) : Int) != 0) = true := by
        have : v[m].toNat ≠ 0 := fun e => hz (UInt8.toNat_inj.1 e)
        simp; omega
      have HE := Lib.hid (HNO.out ho)
      clear HNO hR ho hlast hz hne hm h0
      go_enter Tryd.func48, Tryd.ntmps48
      go_wp2
      go_ret2
      first | exact HE.out | exact ⟨_, rfl, HE.out⟩
end Go.Proofs.YtjphecfkjpfkeaaDoor
