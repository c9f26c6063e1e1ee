/- What zeros and the reader's number and padded of package token do. Conditions: strings of at most 2^40 bytes. -/
import Derived.Test.YtfcclppgjfkfoaaGreatDoorMg2
import Derived.Test.YtfcclppgjfkfoaaGreatDoorMg17
import Derived.Test.YtfcclppgjfkfoaaGreatDoorMg3
import Derived.Laws.IdiomStrings
import Derived.Deep.QuietTactic
import Derived.BigQuiet
import Derived.Deep.MidRow
import Derived.Test.YtfcclppgjfkfoaaGreatDoorMg19
import Derived.Deep.RegionHeld3
import Derived.Test.YtfcclppgjfkfoaaGreatDoorMg39
import Derived.Test.YtfcclppgjfkfoaaGreatDoorMg36
import Derived.Deep.RegionWith
namespace Go.Proofs.YtfcclppgjfkfoaaGreatDoor
open Go.RowKit

/-- n bytes 0. -/
def zb (n : Nat) : ByteArray := ⟨(List.replicate n 0).toArray⟩
theorem zb_list (n : Nat) : (zb n).data.toList = List.replicate n 0 := by simp [zb]
set_option maxHeartbeats 400000 in
set_option maxRecDepth 100000 in
theorem zeros_any (n : Nat) (w : World) (hn : n ≤ 3) : Calls Tryz.prog 112 #[.int .i64 (n : Int)] w fun e w' => e = .returned (.string (zb n)) ∧ w = w' := by
  obtain ⟨Z, hZ⟩ : ∃ Z : ByteArray, Z = ⟨#[0, 0, 0]⟩ := ⟨_, rfl⟩
  have hs : Z.size = 3 := by rw [hZ]; rfl
  have c0 : (0 : Int) ≤ n := by omega
  have c1 : (n : Int) ≤ 3 := by omega
  have HE : Hid (ByteArray.extract ⟨#[0, 0, 0]⟩ 0 n = zb n) := by
    match n, hn with
    | 0, _ => rfl
    | 1, _ => rfl
    | 2, _ => rfl
    | 3, _ => rfl
  clear hZ hs
  go_enter Tryz.func112, Tryz.ntmps112
  go_wp2
  go_ret
  exact ⟨by rw [← HE.out]; rfl, rfl⟩

theorem drop_str (s : ByteArray) (a : Nat) : (s.extract a s.size).data.toList = s.data.toList.drop a := by
  rw [ByteArray.data_extract, Array.toList_extract, List.extract_eq_take_drop, List.take_of_length_le (by rw [List.length_drop]; exact Nat.le_refl _)]

set_option maxHeartbeats 800000 in
set_option maxRecDepth 100000 in
theorem number_no (g : Nat) (cs : Array Value) (s : ByteArray) (a : Nat) (p : Option Addr) (w : World) (hA : Arr w g 135 cs) (h0 : cs[0]? = some (.string s)) (ha : a ≤ s.size) (h : s.size < a + 4) :
    Calls Tryz.prog 100 #[.pointer (some ⟨g, 0, none⟩), .int .i64 (a : Int), .pointer p] w fun e w' => e = .returned (.tuple #[.int .i64 0, .int .i64 14]) ∧ w = w' := by
  have k0 : w.cell? ⟨g, 0, none⟩ = some (.string s) := by rw [hA.cell, h0]
  have HFB := Lib.hid (fun W => frombig_no (s.extract a s.size) W (by rw [ByteArray.size_extract]; omega))
  have c0 : (0 : Int) ≤ a := by omega
  have c1 : (a : Int) ≤ s.size := by omega
  clear hA h0 h ha
  go_enter Tryz.func100, Tryz.ntmps100
  go_wp2_with fail
  refine (HFB.out _).mono ?_
  rintro e w1 ⟨rfl, rfl⟩
  go_wp2
  go_ret2
  exact ⟨rfl, rfl⟩
set_option maxHeartbeats 800000 in
set_option maxRecDepth 100000 in
theorem number_yes (g : Nat) (cs : Array Value) (s : ByteArray) (a p : Nat) (x : Value) (w : World) (hA : Arr w g 135 cs) (h0 : cs[0]? = some (.string s)) (hp : cs[p]? = some x) (hm : s.size ≤ 1099511627776) (h : a + 4 ≤ s.size) :
    Calls Tryz.prog 100 #[.pointer (some ⟨g, 0, none⟩), .int .i64 (a : Int), .pointer (some ⟨g, p, none⟩)] w fun e w' => e = .returned (.tuple #[.int .i64 ((a + 4 : Nat) : Int), .int .i64 0]) ∧ Arr w' g 135 (cs.setIfInBounds p (.int .i64 (frombig (s.data.toList.drop a)))) ∧ w.grownBy w' (some g) := by
  have k0 : w.cell? ⟨g, 0, none⟩ = some (.string s) := by rw [hA.cell, h0]
  have HFB := Lib.hid (fun W => frombig_yes (s.extract a s.size) W (by rw [ByteArray.size_extract]; omega) (by rw [ByteArray.size_extract]; unfold maxLen; omega))
  rw [drop_str] at HFB
  generalize frombig (s.data.toList.drop a) = n at *
  have c0 : (0 : Int) ≤ a := by omega
  have c1 : (a : Int) ≤ s.size := by omega
  have HA := Lib.hid hA
  clear hA h0 
  go_enter Tryz.func100, Tryz.ntmps100
  go_wp2_with fail
  refine (HFB.out _).mono ?_
  rintro e w1 ⟨rfl, hb1⟩
  have hA1 := HA.out.below hb1 HA.out.lt
  have k1 : w1.cell? ⟨g, p, none⟩ = some x := by rw [hA1.cell, hp]
  have f1 := hA1.frozen p
  have HA2 := Lib.hid (hA1.put p (.int .i64 n))
  have HG2 := Lib.hid (World.grownBy.trans (gr_below (r := some g) hb1) (gr_cell w1 g p (.int .i64 n)))
  clear hA1 hb1 HA HFB
  go_wp2
  go_ret2
  exact ⟨by simp, HA2.out, HG2.out⟩

theorem str_eq10 {a b : ByteArray} : (a.toList == b.toList) = decide (a = b) := by
  by_cases h : a = b
  · subst h; simp
  · have : ¬ a.toList = b.toList := fun e => h (by
      rw [ByteArray.toList_eq, ByteArray.toList_eq] at e
      exact ByteArray.ext (Array.ext' e))
    simp [h, this]

/-- The error of so many bytes and the bytes 0 behind them. -/
def padE (l : List UInt8) (n : Nat) : Nat := if l.length < up4 n then 14 else if zerosB ((l.take (up4 n)).drop n) = true then 0 else 6
theorem zerosB_iff (l : List UInt8) : zerosB l = true ↔ l = List.replicate l.length 0 := by
  unfold zerosB
  rw [List.all_eq_true, List.eq_replicate_iff]
  simp
theorem zeros_str (s : ByteArray) (a n u : Nat) (hu : a + u ≤ s.size) (hn : n ≤ u) : s.extract (a + n) (a + u) = zb (u - n) ↔ zerosB (((s.data.toList.drop a).take u).drop n) = true := by
  have e : (s.extract (a + n) (a + u)).data.toList = ((s.data.toList.drop a).take u).drop n := by
    rw [ByteArray.data_extract, Array.toList_extract, List.extract_eq_take_drop, List.drop_take, List.drop_drop, show a + u - (a + n) = u - n by omega]
  have hl : (((s.data.toList.drop a).take u).drop n).length = u - n := by
    have : s.data.toList.length = s.size := rfl
    simp [List.length_drop, List.length_take]; omega
  rw [zerosB_iff, hl, ← e]
  refine ⟨fun h => by rw [h, zb_list], fun h => ?_⟩
  apply ByteArray.ext
  apply Array.ext'
  rw [h, zb_list]
set_option maxHeartbeats 1600000 in
set_option maxRecDepth 100000 in
theorem rdpad_any (g : Nat) (cs : Array Value) (s : ByteArray) (a n : Nat) (w : World) (hA : Arr w g 135 cs) (h0 : cs[0]? = some (.string s)) (ha : a ≤ s.size) (hm : s.size ≤ 1099511627776) (hn : n ≤ 2199023255552) (er : Nat) (her : padE (s.data.toList.drop a) n = er) :
    Calls Tryz.prog 119 #[.pointer (some ⟨g, 0, none⟩), .int .i64 (a : Int), .int .i64 (n : Int)] w fun e w' => e = .returned (.tuple #[.int .i64 (if er = 0 then ((a + up4 n : Nat) : Int) else 0), .int .i64 (er : Int)]) ∧ Below w.heap.size w w' := by
  have k0 : ∀ m, (w.drewN m).cell? ⟨g, 0, none⟩ = some (.string s) := fun m => by
    have : Arr (w.drewN m) g 135 cs := hA.drewN m
    rw [this.cell, h0]
  have hup : upOf (n : Int) = ((up4 n : Nat) : Int) := by unfold upOf up4; rw [if_neg (by omega)]; omega
  have HUP := Lib.hid (fun W => up_any (n : Int) W)
  rw [hup] at HUP
  have h1 := up4_ge n
  have h2 := up4_lt n
  have hz := zeros_str s a n (up4 n)
  have hl : (s.data.toList.drop a).length = s.size - a := by rw [List.length_drop]; rfl
  unfold padE at her
  rw [hl] at her
  generalize zerosB (((s.data.toList.drop a).take (up4 n)).drop n) = zr at *
  generalize hU : up4 n = u at *
  clear hup hU hl hA
  have c0 : (0 : Int) ≤ a := by omega
  by_cases hs : s.size - a < u
  · rw [if_pos hs] at her
    subst her
    have d1 : decide (((s.size : Nat) : Int) - (a : Int) < (n : Int) + ((u : Int) - (n : Int))) = true := decide_eq_true (by omega)
    have k1 : w.cell? ⟨g, 0, none⟩ = some (.string s) := k0 0
    clear hz h0 k0 hs
    go_enter Tryz.func119, Tryz.ntmps119
    go_wp2_with fail
    refine (HUP.out _).mono ?_
    rintro e w1 ⟨rfl, rfl⟩
    go_wp2
    go_ret2
    exact ⟨rfl, Below.refl _ _⟩
  · rw [if_neg hs] at her
    have hz := hz (by omega) h1
    have d1 : decide (((s.size : Nat) : Int) - (a : Int) < (n : Int) + ((u : Int) - (n : Int))) = false := decide_eq_false (by omega)
    have k1 : w.cell? ⟨g, 0, none⟩ = some (.string s) := k0 0
    have HZQ := Lib.hid (fun (W : World) (m : Nat) => (zeros_any (u - n) (W.drewN m) (by omega)).mono fun e w' (h : _ ∧ _) => (⟨h.1, m, h.2.symm⟩ : e = .returned (.string (zb (u - n))) ∧ ∃ m, w' = W.drewN m))
    have e1 : ((u - n : Nat) : Int) = (u : Int) - (n : Int) := by omega
    rw [e1] at HZQ
    have c1 : (0 : Int) ≤ (a : Int) + (n : Int) := by omega
    have c2 : (a : Int) + (n : Int) ≤ (a : Int) + (n : Int) + ((u : Int) - (n : Int)) := by omega
    have c3 : (a : Int) + (n : Int) + ((u : Int) - (n : Int)) ≤ s.size := by omega
    have k2 : (a : Int) + (n : Int) + ((u : Int) - (n : Int)) = ((a + u : Nat) : Int) := by omega
    generalize zb (u - n) = Z at *
    clear e1
    cases zr with
    | true =>
      rw [if_pos rfl] at her
      subst her
      have de : ((s.extract (a + n) (a + u)).toList == Z.toList) = true := by rw [str_eq10]; exact decide_eq_true (hz.2 rfl)
      have k3 : (a : Int) + (n : Int) + ((u : Int) - (n : Int)) = ((a + u : Nat) : Int) := by omega
      clear hz h0
      go_enter Tryz.func119, Tryz.ntmps119
      go_wp2_with fail
      refine (HUP.out _).mono ?_
      rintro e w1 ⟨rfl, rfl⟩
      go_wp2
      go_quiet ((go_at_call 112; exact HZQ.out _ _))
      go_wp2
      go_ret2
      exact ⟨by simp, below_drewN _ _⟩
    | false =>
      rw [if_neg (by decide)] at her
      subst her
      have de : ((s.extract (a + n) (a + u)).toList == Z.toList) = false := by rw [str_eq10]; exact decide_eq_false (fun h => by have := hz.1 h; cases this)
      clear hz h0
      go_enter Tryz.func119, Tryz.ntmps119
      go_wp2_with fail
      refine (HUP.out _).mono ?_
      rintro e w1 ⟨rfl, rfl⟩
      go_wp2
      go_quiet ((go_at_call 112; exact HZQ.out _ _))
      go_wp2
      go_ret2
      exact ⟨rfl, below_drewN _ _⟩
end Go.Proofs.YtfcclppgjfkfoaaGreatDoor

/- What named and the reader's steps nodeName, valueSize, namePlace, value, propName, kind of package token do. Conditions: strings of at most 2^40 bytes. -/
namespace Go.Proofs.YtfcclppgjfkfoaaGreatDoor
open Go.RowKit

theorem idx0_any (s : ByteArray) (w : World) : Calls Tryz.prog 111 #[.string s, .int .u8 0] w fun e w' => e = .returned (.int .i64 (if z0 s.data.toList < s.data.toList.length then ((z0 s.data.toList : Nat) : Int) else -1)) ∧ w = w' := by
  have h := Tryz.strings_IndexByte s 0 w
  rw [show (0 : Int).toNat.toUInt8 = 0 from rfl, indexByte_z0] at h
  exact h.mono fun e w' ⟨h1, h2⟩ => ⟨h1, h2.symm⟩
theorem nodeB_iff {s : ByteArray} : nodeB s = true ↔ s.size ≤ 31 ∧ (0 : UInt8) ∉ s.data.toList := by
  unfold nodeB
  rw [Bool.or_eq_true, decide_eq_true_iff, mayB_iff]
  constructor
  · rintro (h | ⟨_, h⟩)
    · have : s.data.toList = [] := List.eq_nil_of_length_eq_zero h
      rw [this]; exact ⟨by omega, by simp⟩
    · exact h
  · rintro ⟨h1, h2⟩
    by_cases h : s.size = 0
    · exact .inl h
    · exact .inr ⟨by omega, h1, h2⟩
set_option maxHeartbeats 400000 in
set_option maxRecDepth 100000 in
theorem named_any (s : ByteArray) (w : World) (hl : s.size ≤ maxLen) : Calls Tryz.prog 91 #[.string s] w fun e w' => e = .returned (.bool (nodeB s)) ∧ w = w' := by
  have hm := z0_mem s.data.toList
  have HI := Lib.hid (idx0_any s)
  unfold maxLen at hl
  by_cases h2 : s.size ≤ 31
  · have d2 : decide ((s.size : Int) ≤ 31) = true := decide_eq_true (by omega)
    by_cases h3 : z0 s.data.toList < s.data.toList.length
    · have hf : nodeB s = false := by cases e : nodeB s with
        | false => rfl
        | true => exact absurd (hm.2 h3) (nodeB_iff.1 e).2
      rw [hf]
      rw [if_pos h3] at HI
      have d3 : decide (((z0 s.data.toList : Nat) : Int) < 0) = false := decide_eq_false (by omega)
      generalize z0 s.data.toList = z at *
      clear hm h3 hf h2
      go_enter Tryz.func91, Tryz.ntmps91
      go_wp2_with fail
      refine (HI.out _).mono ?_
      rintro e w1 ⟨rfl, rfl⟩
      go_wp2
      go_ret
      exact ⟨rfl, rfl⟩
    · have hf : nodeB s = true := nodeB_iff.2 ⟨h2, fun h => h3 (hm.1 h)⟩
      rw [hf]
      rw [if_neg h3] at HI
      clear hm h3 hf h2
      go_enter Tryz.func91, Tryz.ntmps91
      go_wp2_with fail
      refine (HI.out _).mono ?_
      rintro e w1 ⟨rfl, rfl⟩
      go_wp2
      go_ret
      exact ⟨rfl, rfl⟩
  · have hf : nodeB s = false := by cases e : nodeB s with
      | false => rfl
      | true => exact absurd (nodeB_iff.1 e).1 h2
    rw [hf]
    have d2 : decide ((s.size : Int) ≤ 31) = false := decide_eq_false (by omega)
    clear hm hf h2
    go_enter Tryz.func91, Tryz.ntmps91
    go_wp2
    go_ret
    exact ⟨rfl, rfl⟩

/-- Block g is a reader. -/
def Rdr (w : World) (g : Nat) (s t : ByteArray) (kd : Int) (nm vl : ByteArray) (sz pl : Int) : Prop := Arr w g 135 #[.string s, .string t, .int .i64 kd, .string nm, .string vl, .int .i64 sz, .int .i64 pl]

theorem padE_cases (l : List UInt8) (n : Nat) : padE l n = 14 ∨ padE l n = 6 ∨ padE l n = 0 := by
  unfold padE
  split
  · exact .inl rfl
  · split
    · exact .inr (.inr rfl)
    · exact .inr (.inl rfl)
theorem padE_short {l : List UInt8} {n : Nat} : padE l n = 14 ↔ l.length < up4 n := by
  unfold padE
  split
  · rename_i h; simp [h]
  · rename_i h
    split <;> simp [h]
theorem padE_ok {l : List UInt8} {n : Nat} : padE l n = 0 ↔ up4 n ≤ l.length ∧ zerosB ((l.take (up4 n)).drop n) = true := by
  unfold padE
  split
  · rename_i h; simp; omega
  · rename_i h
    split
    · rename_i h2; simp [h2]; omega
    · rename_i h2; simp [h2]
/-- The byte 0 at a name's end is one of those that must be 0. -/
theorem zeros_end (l : List UInt8) (u : Nat) (h : z0 l < l.length) (hu : z0 l < u) : zerosB ((l.take u).drop (z0 l)) = zerosB ((l.take u).drop (z0 l + 1)) := by
  have hlt : z0 l < (l.take u).length := by rw [List.length_take]; omega
  rw [List.drop_eq_getElem_cons hlt]
  have h0 : (l.take u)[z0 l] = 0 := by
    rw [List.getElem_take]
    have := z0_at l h
    rwa [List.getD_eq_getElem?_getD, List.getElem?_eq_getElem h] at this
  rw [h0]
  unfold zerosB
  simp
/-- How a node's name is read, step by step. -/
theorem beginR_none {l : List UInt8} (h : ¬ z0 l < l.length) : beginR l = (ByteArray.empty, 0, 14) := beginR_short (.inl (by omega))
theorem beginR_14 {l : List UInt8} (h : padE l (z0 l + 1) = 14) : beginR l = (ByteArray.empty, 0, 14) := beginR_short (.inr (padE_short.1 h))
theorem beginR_6 {l : List UInt8} (h0 : z0 l < l.length) (h : padE l (z0 l + 1) = 6) : beginR l = (ByteArray.empty, 0, 6) := by
  have h14 : ¬ l.length < up4 (z0 l + 1) := fun hh => by rw [padE_short.2 hh] at h; cases h
  have hz : zerosB ((l.take (up4 (z0 l + 1))).drop (z0 l + 1)) = false := by
    cases e : zerosB ((l.take (up4 (z0 l + 1))).drop (z0 l + 1)) with
    | false => rfl
    | true => rw [padE_ok.2 ⟨by omega, e⟩] at h; cases h
  have := up4_ge (z0 l + 1)
  rw [beginR_long (by omega), zeros_end l _ h0 (by omega), hz, Bool.and_false]
  exact if_neg (by decide)
theorem beginR_0 {l : List UInt8} (h0 : z0 l < l.length) (h : padE l (z0 l + 1) = 0) : beginR l = if nodeB ⟨(l.take (z0 l)).toArray⟩ = true then (⟨(l.take (z0 l)).toArray⟩, up4 (z0 l + 1), 0) else (ByteArray.empty, 0, 6) := by
  obtain ⟨h1, h2⟩ := padE_ok.1 h
  have := up4_ge (z0 l + 1)
  rw [beginR_long (by omega), zeros_end l _ h0 (by omega), h2, Bool.and_true]

set_option maxHeartbeats 1600000 in
set_option maxRecDepth 100000 in
theorem nodeName_any (g : Nat) (s t : ByteArray) (kd : Int) (nm vl : ByteArray) (sz pl : Int) (a : Nat) (w : World) (hA : Rdr w g s t kd nm vl sz pl) (ha : a ≤ s.size) (hm : s.size ≤ 1099511627776) (bn : ByteArray) (n er : Nat) (hb : beginR (s.data.toList.drop a) = (bn, n, er)) :
    Calls Tryz.prog 101 #[.pointer (some ⟨g, 0, none⟩), .int .i64 (a : Int)] w fun e w' => ∃ (nx : Int) (nm' : ByteArray), e = .returned (.tuple #[.int .i64 nx, .int .i64 (er : Int)]) ∧ Rdr w' g s t kd nm' vl sz pl ∧ w.grownBy w' (some g) ∧ (er = 0 → nm' = bn ∧ nx = ((a + n : Nat) : Int)) := by
  have HI := Lib.hid (fun W => idx0_any (s.extract a s.size) W)
  have hlen : (s.data.toList.drop a).length = s.size - a := by rw [List.length_drop]; rfl
  rw [drop_str, hlen] at HI
  have c0 : (0 : Int) ≤ a := by omega
  have c1 : (a : Int) ≤ s.size := by omega
  have HA := Lib.hid hA
  have k0 : w.cell? ⟨g, 0, none⟩ = some (.string s) := hA.cell 0
  by_cases hz : z0 (s.data.toList.drop a) < s.size - a
  · have hz' : z0 (s.data.toList.drop a) < (s.data.toList.drop a).length := by rw [hlen]; exact hz
    rw [if_pos hz] at HI
    have HPD := Lib.hid (rdpad_any g _ s a (z0 (s.data.toList.drop a) + 1) w hA rfl ha hm (by omega))
    have hup := up4_ge (z0 (s.data.toList.drop a) + 1)
    have e1 : ((z0 (s.data.toList.drop a) + 1 : Nat) : Int) = ((z0 (s.data.toList.drop a) : Nat) : Int) + 1 := by omega
    rw [e1] at HPD
    have d0 : decide (((z0 (s.data.toList.drop a) : Nat) : Int) < 0) = false := decide_eq_false (by omega)
    clear e1 hA
    have hsz : (s.extract a (a + z0 (s.data.toList.drop a))).size = z0 (s.data.toList.drop a) := by rw [ByteArray.size_extract]; omega
    have hex : s.extract a (a + z0 (s.data.toList.drop a)) = ⟨((s.data.toList.drop a).take (z0 (s.data.toList.drop a))).toArray⟩ := by rw [cut_mid, ← List.take_drop]
    rcases padE_cases (s.data.toList.drop a) (z0 (s.data.toList.drop a) + 1) with h | h | h
    · rw [beginR_14 h] at hb
      cases hb
      have HP := Lib.hid (HPD.out 14 h)
      clear HPD h hz' hlen hup hsz hex
      generalize z0 (s.data.toList.drop a) = k at *
      go_enter Tryz.func101, Tryz.ntmps101
      go_wp2_with fail
      refine (HI.out _).mono ?_
      rintro e w1 ⟨rfl, rfl⟩
      go_wp2_with fail
      refine HP.out.mono ?_
      rintro e w2 ⟨rfl, hb2⟩
      have HA2 := Lib.hid (HA.out.below hb2 HA.out.lt)
      go_wp2
      go_ret2
      exact ⟨_, nm, rfl, HA2.out, gr_below hb2, fun h => by cases h⟩
    · rw [beginR_6 hz' h] at hb
      cases hb
      have HP := Lib.hid (HPD.out 6 h)
      clear HPD h hz' hlen hup hsz hex
      generalize z0 (s.data.toList.drop a) = k at *
      go_enter Tryz.func101, Tryz.ntmps101
      go_wp2_with fail
      refine (HI.out _).mono ?_
      rintro e w1 ⟨rfl, rfl⟩
      go_wp2_with fail
      refine HP.out.mono ?_
      rintro e w2 ⟨rfl, hb2⟩
      have HA2 := Lib.hid (HA.out.below hb2 HA.out.lt)
      go_wp2
      go_ret2
      exact ⟨_, nm, rfl, HA2.out, gr_below hb2, fun h => by cases h⟩
    · rw [beginR_0 hz' h] at hb
      have HP := Lib.hid (HPD.out 0 h)
      rw [if_pos rfl] at HP
      obtain ⟨x, hx⟩ : ∃ x, s.extract a (a + z0 (s.data.toList.drop a)) = x := ⟨_, rfl⟩
      rw [← hex, hx] at hb
      have HND := Lib.hid (fun W => named_any x W (by rw [← hx, hsz]; unfold maxLen; omega))
      have c2 : (a : Int) ≤ (a : Int) + ((z0 (s.data.toList.drop a) : Nat) : Int) := by omega
      have c3 : (a : Int) + ((z0 (s.data.toList.drop a) : Nat) : Int) ≤ s.size := by omega
      have hu := (padE_ok.1 h).1
      rw [hlen] at hu
      have HU : Hid (a + up4 (z0 (s.data.toList.drop a) + 1) ≤ s.size) := by unfold Hid; omega
      clear HPD h hz' hlen hup hsz hex hu
      generalize up4 (z0 (s.data.toList.drop a) + 1) = u at *
      generalize z0 (s.data.toList.drop a) = k at *
      cases hnb : nodeB x with
      | false =>
        rw [hnb, if_neg (by decide)] at hb
        rw [hnb] at HND
        cases hb
        clear hnb
        go_enter Tryz.func101, Tryz.ntmps101
        go_wp2_with fail
        refine (HI.out _).mono ?_
        rintro e w1 ⟨rfl, rfl⟩
        go_wp2_with fail
        refine HP.out.mono ?_
        rintro e w2 ⟨rfl, hb2⟩
        have HA2 := Lib.hid (HA.out.below hb2 HA.out.lt)
        have HG2 := Lib.hid (gr_below (r := some g) hb2)
        have k0 : w2.cell? ⟨g, 0, none⟩ = some (.string s) := HA2.out.cell 0
        have k3 : w2.cell? ⟨g, 3, none⟩ = some (.string nm) := HA2.out.cell 3
        have f3 := HA2.out.frozen 3
        have HA3 := Lib.hid (HA2.out.put 3 (.string x))
        have HG3 := Lib.hid (World.grownBy.trans HG2.out (gr_cell w2 g 3 (.string x)))
        clear hb2 HA HP
        go_wp2_with fail
        refine (HND.out _).mono ?_
        rintro e w4 ⟨rfl, rfl⟩
        go_wp2
        go_ret2
        exact ⟨_, x, rfl, HA3.out, HG3.out, fun h => by cases h⟩
      | true =>
        rw [hnb, if_pos rfl] at hb
        rw [hnb] at HND
        cases hb
        clear hnb
        go_enter Tryz.func101, Tryz.ntmps101
        go_wp2_with fail
        refine (HI.out _).mono ?_
        rintro e w1 ⟨rfl, rfl⟩
        go_wp2_with fail
        refine HP.out.mono ?_
        rintro e w2 ⟨rfl, hb2⟩
        have HA2 := Lib.hid (HA.out.below hb2 HA.out.lt)
        have HG2 := Lib.hid (gr_below (r := some g) hb2)
        have k0 : w2.cell? ⟨g, 0, none⟩ = some (.string s) := HA2.out.cell 0
        have k3 : w2.cell? ⟨g, 3, none⟩ = some (.string nm) := HA2.out.cell 3
        have f3 := HA2.out.frozen 3
        have HA3 := Lib.hid (HA2.out.put 3 (.string bn))
        have HG3 := Lib.hid (World.grownBy.trans HG2.out (gr_cell w2 g 3 (.string bn)))
        clear hb2 HA HP
        go_wp2_with fail
        refine (HND.out _).mono ?_
        rintro e w4 ⟨rfl, rfl⟩
        go_wp2
        go_ret2
        exact ⟨_, bn, rfl, HA3.out, HG3.out, fun _ => ⟨rfl, rfl⟩⟩
  · rw [beginR_none (by rw [hlen]; exact hz)] at hb
    cases hb
    rw [if_neg hz] at HI
    clear hz hlen
    go_enter Tryz.func101, Tryz.ntmps101
    go_wp2_with fail
    refine (HI.out _).mono ?_
    rintro e w1 ⟨rfl, rfl⟩
    go_wp2
    go_ret2
    exact ⟨_, nm, rfl, HA.out, gr_below (Below.refl _ _), fun h => by cases h⟩
end Go.Proofs.YtfcclppgjfkfoaaGreatDoor

/- What the writer's padded of package token does. Conditions: at most 2^45 bytes, at most 2^30 strings. -/
namespace Go.Proofs.YtfcclppgjfkfoaaGreatDoor
open Go.RowKit

theorem wradd_any (g : Nat) (p : Option Addr) (bv v : Value) (m : Option Nat) (S : List UInt8) (L : List ByteArray) (x : ByteArray) (w : World) (h : WR w g p bv v m S L) (hs : x.size ≤ maxLen) (hL : L.length ≤ 1073741824) :
    Calls Tryz.prog 82 #[.pointer (some ⟨g, 2, none⟩), .string x] w fun e w' => e = .returned (.tuple #[.int .i64 ((addV L x).1 : Int), .int .i64 ((addV L x).2 : Int)]) ∧ ∃ v' m', WR w' g p bv v' m' S (addA L x) ∧ Moved w w' (fpW g bv v m) (fpW g bv v' m') := by
  have hap := h.blk.apart h.row h.dis
  refine (wadd_any g _ _ v m L x w h.blk hs hL).mono ?_
  rintro e w' ⟨rfl, v', m', hB, hM⟩
  refine ⟨rfl, v', m', ⟨hB, h.own, hM.row h.row (fun k hk hf => hap k hf hk), fun k hk hv => ?_⟩, hM.inside (fun k hk => .inl hk) (fun k hk => ?_)⟩
  · rcases hM.foot k (.inr (.inl hv)) with h5 | h5
    · exact hap k h5 hk
    · obtain ⟨cur, hc⟩ := ow_type h.row hk
      have := (Array.getElem?_eq_some_iff.1 hc).1
      omega
  · rcases hk with hk | hk
    · exact .inr (.inl hk)
    · exact .inl (.inr hk)

theorem padL_zb (x : ByteArray) : padL x.data.toList = x.data.toList ++ (zb (up4 x.size - x.size)).data.toList := by
  unfold padL; rw [zb_list]; rfl
set_option maxHeartbeats 1600000 in
set_option maxRecDepth 100000 in
theorem wpad_any (g : Nat) (p : Option Addr) (bv v : Value) (m : Option Nat) (S : List UInt8) (L : List ByteArray) (x : ByteArray) (w : World) (h : WR w g p bv v m S L) (hl : S.length + x.size ≤ 35184372088832) :
    Calls Tryz.prog 92 #[.pointer (some ⟨g, 0, none⟩), .string x] w fun e w' => e = .returned (.tuple #[]) ∧ ∃ bv', WR w' g (some ⟨g, 0, none⟩) bv' v m (S ++ padL x.data.toList) L ∧ Moved w w' (fpW g bv v m) (fpW g bv' v m) := by
  have HW := Lib.hid (bwrite_any g p bv v m S L x w h (by omega))
  have hup : upOf (x.size : Int) = ((up4 x.size : Nat) : Int) := by unfold upOf up4; rw [if_neg (by omega)]; omega
  have HUP := Lib.hid (fun W => up_any (x.size : Int) W)
  rw [hup] at HUP
  have h1 := up4_ge x.size
  have h2 := up4_lt x.size
  have HZ := Lib.hid (fun (W : World) => zeros_any (up4 x.size - x.size) W (by omega))
  have e1 : ((up4 x.size - x.size : Nat) : Int) = IntKind.i64.wrap (((up4 x.size : Nat) : Int) - (x.size : Int)) := by rw [IntKind.wrap_i64]; omega
  rw [e1] at HZ
  have HPL := Lib.hid (padL_zb x)
  have hzs : (zb (up4 x.size - x.size)).size ≤ 3 := by show (zb (up4 x.size - x.size)).data.toList.length ≤ 3; rw [zb_list, List.length_replicate]; omega
  have hxl : (S ++ x.data.toList).length = S.length + x.size := by rw [List.length_append]; rfl
  have HW2 : Hid (∀ bv' W, WR W g (some ⟨g, 0, none⟩) bv' v m (S ++ x.data.toList) L → ∀ W', Below W.heap.size W W' → Calls Tryz.prog 57 #[.pointer (some ⟨g, 0, none⟩), .string (zb (up4 x.size - x.size))] W' fun e w' => e = .returned (.tuple #[.int .i64 ((zb (up4 x.size - x.size)).size : Int), .nilIface]) ∧ ∃ bv2, WR w' g (some ⟨g, 0, none⟩) bv2 v m (S ++ x.data.toList ++ (zb (up4 x.size - x.size)).data.toList) L ∧ Moved W' w' (fpW g bv' v m) (fpW g bv2 v m)) :=
    fun bv' W h W' hb => bwrite_any g (some ⟨g, 0, none⟩) bv' v m _ L (zb (up4 x.size - x.size)) W' (h.below hb) (by omega)
  rw [List.append_assoc] at HW2
  rw [← HPL.out] at HW2
  generalize padL x.data.toList = PX at *
  generalize zb (up4 x.size - x.size) = Z at *
  generalize up4 x.size = u at *
  clear e1 hup HPL hxl h
  go_enter Tryz.func92, Tryz.ntmps92
  go_wp2_with fail
  refine HW.out.mono ?_
  rintro e w1 ⟨rfl, bv1, hw1, hm1⟩
  have HW3 := Lib.hid (HW2.out bv1 w1 hw1)
  have HM1 := Lib.hid hm1
  have hbd : Below w1.heap.size w1 w1.drew := (Below.refl _ _).drew
  clear hw1 hm1 HW HW2
  go_upto_region 1 with fail
  go_region_with (first | (go_at_call 64; refine (HUP.out _).mono ?_; rintro e w3 ⟨rfl, rfl⟩) | (go_at_call 112; refine (HZ.out _).mono ?_; rintro e w4 ⟨rfl, rfl⟩) | (go_at_call 57; refine (HW3.out _ hbd).mono ?_; rintro e w5 ⟨rfl, bv2, hw5, hm5⟩))
  have HW5 := Lib.hid hw5
  have HM5 := Lib.hid (HM1.out.trans ((Moved.of_below hbd _).trans hm5))
  clear hw5 hm5 HM1 HW3 hbd HUP HZ
  go_end0
  exact ⟨rfl, bv2, HW5.out, HM5.out⟩

theorem WR.not_arr {w : World} {g : Nat} {p : Option Addr} {bv v : Value} {m : Option Nat} {S : List UInt8} {L : List ByteArray} (h : WR w g p bv v m S L) {g' t : Nat} {cs : Array Value} (hA : Arr w g' t cs) (h1 : t ≠ 115) (h2 : t ≠ 5) : ¬ fpW g bv v m g' := by
  rintro (hk | hk)
  · exact h.blk.not_arr hA h1 h2 hk
  · exact ow_arr hA h.row h2 hk.symm
section
variable {w W1 : World} {g g8 : Nat} {p : Option Addr} {bv v : Value} {m : Option Nat} {S : List UInt8} {L : List ByteArray} {F0 : Nat → Prop} {cs : Array Value}
/-- What is written, beside a token that stays. -/
theorem write_in (h : WR W1 g p bv v m S L) (hM : Moved w W1 F0 (fpW g bv v m)) (hA : Arr W1 g8 116 cs) (y : ByteArray) (hl : S.length + y.size ≤ 70368744177664) (W' : World) (hb : Below W1.heap.size W1 W') :
    Calls Tryz.prog 57 #[.pointer (some ⟨g, 0, none⟩), .string y] W' fun e w' => e = .returned (.tuple #[.int .i64 (y.size : Int), .nilIface]) ∧ ∃ bv2, WR w' g (some ⟨g, 0, none⟩) bv2 v m (S ++ y.data.toList) L ∧ Moved w w' F0 (fpW g bv2 v m) ∧ Arr w' g8 116 cs := by
  have hA' := hA.below hb hA.lt
  have h' := h.below hb
  refine (bwrite_any g p bv v m S L y W' h' hl).mono ?_
  rintro e w' ⟨rfl, bv2, h2, hm2⟩
  exact ⟨rfl, bv2, h2, hM.trans ((Moved.of_below hb _).trans hm2), hm2.arr hA' (h'.not_arr hA' (by decide) (by decide))⟩
theorem pad_in (h : WR W1 g p bv v m S L) (hM : Moved w W1 F0 (fpW g bv v m)) (hA : Arr W1 g8 116 cs) (y : ByteArray) (hl : S.length + y.size ≤ 35184372088832) :
    Calls Tryz.prog 92 #[.pointer (some ⟨g, 0, none⟩), .string y] W1 fun e w' => e = .returned (.tuple #[]) ∧ ∃ bv2, WR w' g (some ⟨g, 0, none⟩) bv2 v m (S ++ padL y.data.toList) L ∧ Moved w w' F0 (fpW g bv2 v m) ∧ Arr w' g8 116 cs := by
  refine (wpad_any g p bv v m S L y W1 h hl).mono ?_
  rintro e w' ⟨rfl, bv2, h2, hm2⟩
  exact ⟨rfl, bv2, h2, hM.trans hm2, hm2.arr hA (h.not_arr hA (by decide) (by decide))⟩
theorem add_in (h : WR W1 g p bv v m S L) (hM : Moved w W1 F0 (fpW g bv v m)) (hA : Arr W1 g8 116 cs) (y : ByteArray) (hy : y.size ≤ maxLen) (hL : L.length ≤ 1073741824) (W' : World) (hb : Below W1.heap.size W1 W') :
    Calls Tryz.prog 82 #[.pointer (some ⟨g, 2, none⟩), .string y] W' fun e w' => e = .returned (.tuple #[.int .i64 ((addV L y).1 : Int), .int .i64 ((addV L y).2 : Int)]) ∧ ∃ v' m', WR w' g p bv v' m' S (addA L y) ∧ Moved w w' F0 (fpW g bv v' m') ∧ Arr w' g8 116 cs := by
  have hA' := hA.below hb hA.lt
  have h' := h.below hb
  refine (wradd_any g p bv v m S L y W' h' hy hL).mono ?_
  rintro e w' ⟨rfl, v', m', h2, hm2⟩
  exact ⟨rfl, v', m', h2, hM.trans ((Moved.of_below hb _).trans hm2), hm2.arr hA' (h'.not_arr hA' (by decide) (by decide))⟩
end

end Go.Proofs.YtfcclppgjfkfoaaGreatDoor

/- What package token must do, said over nothing of its code; and the awake() of layer 10's statements. Conditions: those contracts. -/
namespace Go.Proofs.YtfcclppgjfkfoaaGreatDoor
open Go.RowKit

/-- A slice of tokens that a call has returned. -/
def Ret10 (w : World) (v : Value) (r : List TK) : Prop := ∃ A cap, v = .slice A r.length cap ∧ RdTk w A r ∧ r.length ≤ cap ∧ cap ≤ maxLen
theorem Got10.ret {B : Nat} {w : World} {v : Value} {r : List TK} (h : Got10 B w v r) : Ret10 w v r := by
  obtain ⟨A, cap, rfl, hr⟩ := row_rdTk h
  refine ⟨A, cap, rfl, hr, ?_⟩
  rcases h.2 with ⟨e, hz⟩ | ⟨g, cap', cur, e, _, _, hn, hm, _⟩
  · injection e with _ e2 e3
    subst e3
    exact ⟨by omega, Nat.zero_le _⟩
  · injection e with _ _ e3
    subst e3
    exact ⟨hn, hm⟩
/-- The tokens that awake() takes. -/
def l10 : List TK := [⟨1, ⟨#[]⟩, ⟨#[]⟩⟩, ⟨3, ⟨#[97]⟩, ⟨#[120, 121, 122]⟩⟩, ⟨4, ⟨#[]⟩, ⟨#[]⟩⟩, ⟨2, ⟨#[]⟩, ⟨#[]⟩⟩]
def s10 : ByteArray := ⟨#[0, 0, 0, 1, 0, 0, 0, 0, 0, 0, 0, 3, 0, 0, 0, 3, 0, 0, 0, 0, 120, 121, 122, 0, 0, 0, 0, 4, 0, 0, 0, 2, 0, 0, 0, 9]⟩
theorem put10 : putR l10 = (s10, ⟨#[97, 0]⟩, 0) := by rfl
theorem ok10 : okL (putB [] l10) := okL_putB l10 okL_nil
theorem read10 : readR 1024 s10.data.toList [97, 0] = (l10, 0) := by
  have h := readR_put l10 [] 1024 (by decide) ok10 (by decide) (by
    intro x hx
    simp only [l10, List.mem_cons, List.mem_nil_iff, or_false] at hx
    rcases hx with rfl | rfl | rfl | rfl <;> decide)
  exact h
theorem readx10 : readR 1024 (s10.data.toList ++ [120]) [97, 0] = ([], 6) := by rfl
theorem plain10 : (plainR l10).length = 3 := by rfl
theorem rdTk_new (w : World) (t : TypeId) (l : List TK) : RdTk (w.alloc (.cells (tkL l).toArray t)) (some ⟨w.heap.size, 0, none⟩) l := by
  have h := Arr.new w t (tkL l).toArray
  refine .inr ⟨w.heap.size, 0, rfl, fun k hk => ?_⟩
  obtain ⟨h1, h2, h3⟩ := tkL_at l hk
  refine ⟨?_, ?_, ?_⟩
  · rw [h.cell, Nat.zero_add, List.getElem?_toArray, h1]
  · rw [h.cell, Nat.zero_add, List.getElem?_toArray, h2]
  · rw [h.cell, Nat.zero_add, List.getElem?_toArray, h3]

end Go.Proofs.YtfcclppgjfkfoaaGreatDoor
