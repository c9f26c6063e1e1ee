/- What named and the reader's steps nodeName, valueSize, namePlace, value, propName, kind of package token do. Conditions: strings of at most 2^40 bytes. -/
import Derived.Test.YtmgmpjgofolkgaaMg33
import Derived.Test.YtmgmpjgofolkgaaMg16
import Derived.Deep.MidRow
import Derived.Deep.RegionHeld3
namespace Go.Proofs.Ytmgmpjgofolkgaa
open Go.RowKit

theorem idx0_any (s : ByteArray) (w : World) : Calls Try.prog 58 #[.string s, .int .u8 0] w fun e w' => e = .returned (.int .i64 (if z0 s.data.toList < s.data.toList.length then ((z0 s.data.toList : Nat) : Int) else -1)) ∧ w = w' := by
  have h := Try.strings_IndexByte s 0 w
  rw [show (0 : Int).toNat.toUInt8 = 0 from rfl, indexByte_z0] at h
  exact h.mono fun e w' ⟨h1, h2⟩ => ⟨h1, h2.symm⟩
theorem nodeB_iff {s : ByteArray} : nodeB s = true ↔ s.size ≤ 31 ∧ (0 : UInt8) ∉ s.data.toList := by
  unfold nodeB
  rw [Bool.or_eq_true, decide_eq_true_iff, mayB_iff]
  constructor
  · rintro (h | ⟨_, h⟩)
    · have : s.data.toList = [] := List.eq_nil_of_length_eq_zero h
      rw [this]; exact ⟨by omega, by simp⟩
    · exact h
  · rintro ⟨h1, h2⟩
    by_cases h : s.size = 0
    · exact .inl h
    · exact .inr ⟨by omega, h1, h2⟩
set_option maxHeartbeats 400000 in
set_option maxRecDepth 100000 in
theorem named_any (s : ByteArray) (w : World) (hl : s.size ≤ maxLen) : Calls Try.prog 60 #[.string s] w fun e w' => e = .returned (.bool (nodeB s)) ∧ w = w' := by
  have hm := z0_mem s.data.toList
  have HI := Lib.hid (idx0_any s)
  unfold maxLen at hl
  by_cases h2 : s.size ≤ 31
  · have d2 : decide ((s.size : Int) ≤ 31) = true := decide_eq_true (by omega)
    by_cases h3 : z0 s.data.toList < s.data.toList.length
    · have hf : nodeB s = false := by cases e : nodeB s with
        | false => rfl
        | true => exact absurd (hm.2 h3) (nodeB_iff.1 e).2
      rw [hf]
      rw [if_pos h3] at HI
      have d3 : decide (((z0 s.data.toList : Nat) : Int) < 0) = false := decide_eq_false (by omega)
      generalize z0 s.data.toList = z at *
      clear hm h3 hf h2
      go_enter Try.func60, Try.ntmps60
      go_wp2_with fail
      refine (HI.out _).mono ?_
      rintro e w1 ⟨rfl, rfl⟩
      go_wp2
      go_ret
      exact ⟨rfl, rfl⟩
    · have hf : nodeB s = true := nodeB_iff.2 ⟨h2, fun h => h3 (hm.1 h)⟩
      rw [hf]
      rw [if_neg h3] at HI
      clear hm h3 hf h2
      go_enter Try.func60, Try.ntmps60
      go_wp2_with fail
      refine (HI.out _).mono ?_
      rintro e w1 ⟨rfl, rfl⟩
      go_wp2
      go_ret
      exact ⟨rfl, rfl⟩
  · have hf : nodeB s = false := by cases e : nodeB s with
      | false => rfl
      | true => exact absurd (nodeB_iff.1 e).1 h2
    rw [hf]
    have d2 : decide ((s.size : Int) ≤ 31) = false := decide_eq_false (by omega)
    clear hm hf h2
    go_enter Try.func60, Try.ntmps60
    go_wp2
    go_ret
    exact ⟨rfl, rfl⟩

/-- Block g is a reader. -/
def Rdr (w : World) (g : Nat) (s t : ByteArray) (kd : Int) (nm vl : ByteArray) (sz pl : Int) : Prop := Arr w g 84 #[.string s, .string t, .int .i64 kd, .string nm, .string vl, .int .i64 sz, .int .i64 pl]

theorem padE_cases (l : List UInt8) (n : Nat) : padE l n = 14 ∨ padE l n = 6 ∨ padE l n = 0 := by
  unfold padE
  split
  · exact .inl rfl
  · split
    · exact .inr (.inr rfl)
    · exact .inr (.inl rfl)
theorem padE_short {l : List UInt8} {n : Nat} : padE l n = 14 ↔ l.length < up4 n := by
  unfold padE
  split
  · rename_i h; simp [h]
  · rename_i h
    split <;> simp [h]
theorem padE_ok {l : List UInt8} {n : Nat} : padE l n = 0 ↔ up4 n ≤ l.length ∧ zerosB ((l.take (up4 n)).drop n) = true := by
  unfold padE
  split
  · rename_i h; simp; omega
  · rename_i h
    split
    · rename_i h2; simp [h2]; omega
    · rename_i h2; simp [h2]
/-- The byte 0 at a name's end is one of those that must be 0. -/
theorem zeros_end (l : List UInt8) (u : Nat) (h : z0 l < l.length) (hu : z0 l < u) : zerosB ((l.take u).drop (z0 l)) = zerosB ((l.take u).drop (z0 l + 1)) := by
  have hlt : z0 l < (l.take u).length := by rw [List.length_take]; omega
  rw [List.drop_eq_getElem_cons hlt]
  have h0 : (l.take u)[z0 l] = 0 := by
    rw [List.getElem_take]
    have := z0_at l h
    rwa [List.getD_eq_getElem?_getD, List.getElem?_eq_getElem h] at this
  rw [h0]
  unfold zerosB
  simp
/-- How a node's name is read, step by step. -/
theorem beginR_none {l : List UInt8} (h : ¬ z0 l < l.length) : beginR l = (ByteArray.empty, 0, 14) := beginR_short (.inl (by omega))
theorem beginR_14 {l : List UInt8} (h : padE l (z0 l + 1) = 14) : beginR l = (ByteArray.empty, 0, 14) := beginR_short (.inr (padE_short.1 h))
theorem beginR_6 {l : List UInt8} (h0 : z0 l < l.length) (h : padE l (z0 l + 1) = 6) : beginR l = (ByteArray.empty, 0, 6) := by
  have h14 : ¬ l.length < up4 (z0 l + 1) := fun hh => by rw [padE_short.2 hh] at h; cases h
  have hz : zerosB ((l.take (up4 (z0 l + 1))).drop (z0 l + 1)) = false := by
    cases e : zerosB ((l.take (up4 (z0 l + 1))).drop (z0 l + 1)) with
    | false => rfl
    | true => rw [padE_ok.2 ⟨by omega, e⟩] at h; cases h
  have := up4_ge (z0 l + 1)
  rw [beginR_long (by omega), zeros_end l _ h0 (by omega), hz, Bool.and_false]
  exact if_neg (by decide)
theorem beginR_0 {l : List UInt8} (h0 : z0 l < l.length) (h : padE l (z0 l + 1) = 0) : beginR l = if nodeB ⟨(l.take (z0 l)).toArray⟩ = true then (⟨(l.take (z0 l)).toArray⟩, up4 (z0 l + 1), 0) else (ByteArray.empty, 0, 6) := by
  obtain ⟨h1, h2⟩ := padE_ok.1 h
  have := up4_ge (z0 l + 1)
  rw [beginR_long (by omega), zeros_end l _ h0 (by omega), h2, Bool.and_true]

set_option maxHeartbeats 1600000 in
set_option maxRecDepth 100000 in
theorem nodeName_any (g : Nat) (s t : ByteArray) (kd : Int) (nm vl : ByteArray) (sz pl : Int) (a : Nat) (w : World) (hA : Rdr w g s t kd nm vl sz pl) (ha : a ≤ s.size) (hm : s.size ≤ 1099511627776) (bn : ByteArray) (n er : Nat) (hb : beginR (s.data.toList.drop a) = (bn, n, er)) :
    Calls Try.prog 52 #[.pointer (some ⟨g, 0, none⟩), .int .i64 (a : Int)] w fun e w' => ∃ (nx : Int) (nm' : ByteArray), e = .returned (.tuple #[.int .i64 nx, .int .i64 (er : Int)]) ∧ Rdr w' g s t kd nm' vl sz pl ∧ w.grownBy w' (some g) ∧ (er = 0 → nm' = bn ∧ nx = ((a + n : Nat) : Int)) := by
  have HI := Lib.hid (fun W => idx0_any (s.extract a s.size) W)
  have hlen : (s.data.toList.drop a).length = s.size - a := by rw [List.length_drop]; rfl
  rw [drop_str, hlen] at HI
  have c0 : (0 : Int) ≤ a := by omega
  have c1 : (a : Int) ≤ s.size := by omega
  have HA := Lib.hid hA
  have k0 : w.cell? ⟨g, 0, none⟩ = some (.string s) := hA.cell 0
  by_cases hz : z0 (s.data.toList.drop a) < s.size - a
  · have hz' : z0 (s.data.toList.drop a) < (s.data.toList.drop a).length := by rw [hlen]; exact hz
    rw [if_pos hz] at HI
    have HPD := Lib.hid (rdpad_any g _ s a (z0 (s.data.toList.drop a) + 1) w hA rfl ha hm (by omega))
    have hup := up4_ge (z0 (s.data.toList.drop a) + 1)
    have e1 : ((z0 (s.data.toList.drop a) + 1 : Nat) : Int) = ((z0 (s.data.toList.drop a) : Nat) : Int) + 1 := by omega
    rw [e1] at HPD
    have d0 : decide (((z0 (s.data.toList.drop a) : Nat) : Int) < 0) = false := decide_eq_false (by omega)
    clear e1 hA
    have hsz : (s.extract a (a + z0 (s.data.toList.drop a))).size = z0 (s.data.toList.drop a) := by rw [ByteArray.size_extract]; omega
    have hex : s.extract a (a + z0 (s.data.toList.drop a)) = ⟨((s.data.toList.drop a).take (z0 (s.data.toList.drop a))).toArray⟩ := by rw [cut_mid, ← List.take_drop]
    rcases padE_cases (s.data.toList.drop a) (z0 (s.data.toList.drop a) + 1) with h | h | h
    · rw [beginR_14 h] at hb
      cases hb
      have HP := Lib.hid (HPD.out 14 h)
      clear HPD h hz' hlen hup hsz hex
      generalize z0 (s.data.toList.drop a) = k at *
      go_enter Try.func52, Try.ntmps52
      go_wp2_with fail
      refine (HI.out _).mono ?_
      rintro e w1 ⟨rfl, rfl⟩
      go_wp2_with fail
      refine HP.out.mono ?_
      rintro e w2 ⟨rfl, hb2⟩
      have HA2 := Lib.hid (HA.out.below hb2 HA.out.lt)
      go_wp2
      go_ret2
      exact ⟨_, nm, rfl, HA2.out, gr_below hb2, fun h => by cases h⟩
    · rw [beginR_6 hz' h] at hb
      cases hb
      have HP := Lib.hid (HPD.out 6 h)
      clear HPD h hz' hlen hup hsz hex
      generalize z0 (s.data.toList.drop a) = k at *
      go_enter Try.func52, Try.ntmps52
      go_wp2_with fail
      refine (HI.out _).mono ?_
      rintro e w1 ⟨rfl, rfl⟩
      go_wp2_with fail
      refine HP.out.mono ?_
      rintro e w2 ⟨rfl, hb2⟩
      have HA2 := Lib.hid (HA.out.below hb2 HA.out.lt)
      go_wp2
      go_ret2
      exact ⟨_, nm, rfl, HA2.out, gr_below hb2, fun h => by cases h⟩
    · rw [beginR_0 hz' h] at hb
      have HP := Lib.hid (HPD.out 0 h)
      rw [if_pos rfl] at HP
      obtain ⟨x, hx⟩ : ∃ x, s.extract a (a + z0 (s.data.toList.drop a)) = x := ⟨_, rfl⟩
      rw [← hex, hx] at hb
      have HND := Lib.hid (fun W => named_any x W (by rw [← hx, hsz]; unfold maxLen; omega))
      have c2 : (a : Int) ≤ (a : Int) + ((z0 (s.data.toList.drop a) : Nat) : Int) := by omega
      have c3 : (a : Int) + ((z0 (s.data.toList.drop a) : Nat) : Int) ≤ s.size := by omega
      have hu := (padE_ok.1 h).1
      rw [hlen] at hu
      have HU : Hid (a + up4 (z0 (s.data.toList.drop a) + 1) ≤ s.size) := by unfold Hid; omega
      clear HPD h hz' hlen hup hsz hex hu
      generalize up4 (z0 (s.data.toList.drop a) + 1) = u at *
      generalize z0 (s.data.toList.drop a) = k at *
      cases hnb : nodeB x with
      | false =>
        rw [hnb, if_neg (by decide)] at hb
        rw [hnb] at HND
        cases hb
        clear hnb
        go_enter Try.func52, Try.ntmps52
        go_wp2_with fail
        refine (HI.out _).mono ?_
        rintro e w1 ⟨rfl, rfl⟩
        go_wp2_with fail
        refine HP.out.mono ?_
        rintro e w2 ⟨rfl, hb2⟩
        have HA2 := Lib.hid (HA.out.below hb2 HA.out.lt)
        have HG2 := Lib.hid (gr_below (r := some g) hb2)
        have k0 : w2.cell? ⟨g, 0, none⟩ = some (.string s) := HA2.out.cell 0
        have k3 : w2.cell? ⟨g, 3, none⟩ = some (.string nm) := HA2.out.cell 3
        have f3 := HA2.out.frozen 3
        have HA3 := Lib.hid (HA2.out.put 3 (.string x))
        have HG3 := Lib.hid (World.grownBy.trans HG2.out (gr_cell w2 g 3 (.string x)))
        clear hb2 HA HP
        go_wp2_with fail
        refine (HND.out _).mono ?_
        rintro e w4 ⟨rfl, rfl⟩
        go_wp2
        go_ret2
        exact ⟨_, x, rfl, HA3.out, HG3.out, fun h => by cases h⟩
      | true =>
        rw [hnb, if_pos rfl] at hb
        rw [hnb] at HND
        cases hb
        clear hnb
        go_enter Try.func52, Try.ntmps52
        go_wp2_with fail
        refine (HI.out _).mono ?_
        rintro e w1 ⟨rfl, rfl⟩
        go_wp2_with fail
        refine HP.out.mono ?_
        rintro e w2 ⟨rfl, hb2⟩
        have HA2 := Lib.hid (HA.out.below hb2 HA.out.lt)
        have HG2 := Lib.hid (gr_below (r := some g) hb2)
        have k0 : w2.cell? ⟨g, 0, none⟩ = some (.string s) := HA2.out.cell 0
        have k3 : w2.cell? ⟨g, 3, none⟩ = some (.string nm) := HA2.out.cell 3
        have f3 := HA2.out.frozen 3
        have HA3 := Lib.hid (HA2.out.put 3 (.string bn))
        have HG3 := Lib.hid (World.grownBy.trans HG2.out (gr_cell w2 g 3 (.string bn)))
        clear hb2 HA HP
        go_wp2_with fail
        refine (HND.out _).mono ?_
        rintro e w4 ⟨rfl, rfl⟩
        go_wp2
        go_ret2
        exact ⟨_, bn, rfl, HA3.out, HG3.out, fun _ => ⟨rfl, rfl⟩⟩
  · rw [beginR_none (by rw [hlen]; exact hz)] at hb
    cases hb
    rw [if_neg hz] at HI
    clear hz hlen
    go_enter Try.func52, Try.ntmps52
    go_wp2_with fail
    refine (HI.out _).mono ?_
    rintro e w1 ⟨rfl, rfl⟩
    go_wp2
    go_ret2
    exact ⟨_, nm, rfl, HA.out, gr_below (Below.refl _ _), fun h => by cases h⟩
end Go.Proofs.Ytmgmpjgofolkgaa
