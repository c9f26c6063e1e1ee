/- What zeros and the reader's number and padded of package token do. Conditions: strings of at most 2^40 bytes. -/
import Derived.Test.YtgfdbmbgldeljaaMg0
import Derived.Test.YtgfdbmbgldeljaaMg3
import Derived.Test.YtgfdbmbgldeljaaMg8
import Derived.Laws.IdiomStrings
import Derived.Deep.QuietTactic
import Derived.BigQuiet
import Derived.Deep.MidRow
namespace Go.Proofs.Ytgfdbmbgldeljaa
open Go.RowKit

/-- n bytes 0. -/
def zb (n : Nat) : ByteArray := ⟨(List.replicate n 0).toArray⟩
theorem zb_list (n : Nat) : (zb n).data.toList = List.replicate n 0 := by simp [zb]
set_option maxHeartbeats 400000 in
set_option maxRecDepth 100000 in
theorem zeros_any (n : Nat) (w : World) (hn : n ≤ 3) : Calls Try.prog 65 #[.int .i64 (n : Int)] w fun e w' => e = .returned (.string (zb n)) ∧ w = w' := by
  obtain ⟨Z, hZ⟩ : ∃ Z : ByteArray, Z = ⟨#[0, 0, 0]⟩ := ⟨_, rfl⟩
  have hs : Z.size = 3 := by rw [hZ]; rfl
  have c0 : (0 : Int) ≤ n := by omega
  have c1 : (n : Int) ≤ 3 := by omega
  have HE : Hid (ByteArray.extract ⟨#[0, 0, 0]⟩ 0 n = zb n) := by
    match n, hn with
    | 0, _ => rfl
    | 1, _ => rfl
    | 2, _ => rfl
    | 3, _ => rfl
  clear hZ hs
  go_enter Try.func65, Try.ntmps65
  go_wp2
  go_ret
  exact ⟨by rw [← HE.out]; rfl, rfl⟩

theorem drop_str (s : ByteArray) (a : Nat) : (s.extract a s.size).data.toList = s.data.toList.drop a := by
  rw [ByteArray.data_extract, Array.toList_extract, List.extract_eq_take_drop, List.take_of_length_le (by rw [List.length_drop]; exact Nat.le_refl _)]

set_option maxHeartbeats 800000 in
set_option maxRecDepth 100000 in
theorem number_no (g : Nat) (cs : Array Value) (s : ByteArray) (a : Nat) (p : Option Addr) (w : World) (hA : Arr w g 121 cs) (h0 : cs[0]? = some (.string s)) (ha : a ≤ s.size) (h : s.size < a + 4) :
    Calls Try.prog 72 #[.pointer (some ⟨g, 0, none⟩), .int .i64 (a : Int), .pointer p] w fun e w' => e = .returned (.tuple #[.int .i64 0, .int .i64 14]) ∧ w = w' := by
  have k0 : w.cell? ⟨g, 0, none⟩ = some (.string s) := by rw [hA.cell, h0]
  have HFB := Lib.hid (fun W => frombig_no (s.extract a s.size) W (by rw [ByteArray.size_extract]; omega))
  have c0 : (0 : Int) ≤ a := by omega
  have c1 : (a : Int) ≤ s.size := by omega
  clear hA h0 h ha
  go_enter Try.func72, Try.ntmps72
  go_wp2_with fail
  refine (HFB.out _).mono ?_
  rintro e w1 ⟨rfl, rfl⟩
  go_wp2
  go_ret2
  exact ⟨rfl, rfl⟩
set_option maxHeartbeats 800000 in
set_option maxRecDepth 100000 in
theorem number_yes (g : Nat) (cs : Array Value) (s : ByteArray) (a p : Nat) (x : Value) (w : World) (hA : Arr w g 121 cs) (h0 : cs[0]? = some (.string s)) (hp : cs[p]? = some x) (hm : s.size ≤ 1099511627776) (h : a + 4 ≤ s.size) :
    Calls Try.prog 72 #[.pointer (some ⟨g, 0, none⟩), .int .i64 (a : Int), .pointer (some ⟨g, p, none⟩)] w fun e w' => e = .returned (.tuple #[.int .i64 ((a + 4 : Nat) : Int), .int .i64 0]) ∧ Arr w' g 121 (cs.setIfInBounds p (.int .i64 (frombig (s.data.toList.drop a)))) ∧ w.grownBy w' (some g) := by
  have k0 : w.cell? ⟨g, 0, none⟩ = some (.string s) := by rw [hA.cell, h0]
  have HFB := Lib.hid (fun W => frombig_yes (s.extract a s.size) W (by rw [ByteArray.size_extract]; omega) (by rw [ByteArray.size_extract]; unfold maxLen; omega))
  rw [drop_str] at HFB
  generalize frombig (s.data.toList.drop a) = n at *
  have c0 : (0 : Int) ≤ a := by omega
  have c1 : (a : Int) ≤ s.size := by omega
  have HA := Lib.hid hA
  clear hA h0 
  go_enter Try.func72, Try.ntmps72
  go_wp2_with fail
  refine (HFB.out _).mono ?_
  rintro e w1 ⟨rfl, hb1⟩
  have hA1 := HA.out.below hb1 HA.out.lt
  have k1 : w1.cell? ⟨g, p, none⟩ = some x := by rw [hA1.cell, hp]
  have f1 := hA1.frozen p
  have HA2 := Lib.hid (hA1.put p (.int .i64 n))
  have HG2 := Lib.hid (World.grownBy.trans (gr_below (r := some g) hb1) (gr_cell w1 g p (.int .i64 n)))
  clear hA1 hb1 HA HFB
  go_wp2
  go_ret2
  exact ⟨by simp, HA2.out, HG2.out⟩

theorem str_eq10 {a b : ByteArray} : (a.toList == b.toList) = decide (a = b) := by
  by_cases h : a = b
  · subst h; simp
  · have : ¬ a.toList = b.toList := fun e => h (by
      rw [ByteArray.toList_eq, ByteArray.toList_eq] at e
      exact ByteArray.ext (Array.ext' e))
    simp [h, this]

/-- The error of so many bytes and the bytes 0 behind them. -/
def padE (l : List UInt8) (n : Nat) : Nat := if l.length < up4 n then 14 else if zerosB ((l.take (up4 n)).drop n) = true then 0 else 6
theorem zerosB_iff (l : List UInt8) : zerosB l = true ↔ l = List.replicate l.length 0 := by
  unfold zerosB
  rw [List.all_eq_true, List.eq_replicate_iff]
  simp
theorem zeros_str (s : ByteArray) (a n u : Nat) (hu : a + u ≤ s.size) (hn : n ≤ u) : s.extract (a + n) (a + u) = zb (u - n) ↔ zerosB (((s.data.toList.drop a).take u).drop n) = true := by
  have e : (s.extract (a + n) (a + u)).data.toList = ((s.data.toList.drop a).take u).drop n := by
    rw [ByteArray.data_extract, Array.toList_extract, List.extract_eq_take_drop, List.drop_take, List.drop_drop, show a + u - (a + n) = u - n by omega]
  have hl : (((s.data.toList.drop a).take u).drop n).length = u - n := by
    have : s.data.toList.length = s.size := rfl
    simp [List.length_drop, List.length_take]; omega
  rw [zerosB_iff, hl, ← e]
  refine ⟨fun h => by rw [h, zb_list], fun h => ?_⟩
  apply ByteArray.ext
  apply Array.ext'
  rw [h, zb_list]
set_option maxHeartbeats 1600000 in
set_option maxRecDepth 100000 in
theorem rdpad_any (g : Nat) (cs : Array Value) (s : ByteArray) (a n : Nat) (w : World) (hA : Arr w g 121 cs) (h0 : cs[0]? = some (.string s)) (ha : a ≤ s.size) (hm : s.size ≤ 1099511627776) (hn : n ≤ 2199023255552) (er : Nat) (her : padE (s.data.toList.drop a) n = er) :
    Calls Try.prog 83 #[.pointer (some ⟨g, 0, none⟩), .int .i64 (a : Int), .int .i64 (n : Int)] w fun e w' => e = .returned (.tuple #[.int .i64 (if er = 0 then ((a + up4 n : Nat) : Int) else 0), .int .i64 (er : Int)]) ∧ Below w.heap.size w w' := by
  have k0 : ∀ m, (w.drewN m).cell? ⟨g, 0, none⟩ = some (.string s) := fun m => by
    have : Arr (w.drewN m) g 121 cs := hA.drewN m
    rw [this.cell, h0]
  have hup : upOf (n : Int) = ((up4 n : Nat) : Int) := by unfold upOf up4; rw [if_neg (by omega)]; omega
  have HUP := Lib.hid (fun W => up_any (n : Int) W)
  rw [hup] at HUP
  have h1 := up4_ge n
  have h2 := up4_lt n
  have hz := zeros_str s a n (up4 n)
  have hl : (s.data.toList.drop a).length = s.size - a := by rw [List.length_drop]; rfl
  unfold padE at her
  rw [hl] at her
  generalize zerosB (((s.data.toList.drop a).take (up4 n)).drop n) = zr at *
  generalize hU : up4 n = u at *
  clear hup hU hl hA
  have c0 : (0 : Int) ≤ a := by omega
  by_cases hs : s.size - a < u
  · rw [if_pos hs] at her
    subst her
    have d1 : decide (((s.size : Nat) : Int) - (a : Int) < (n : Int) + ((u : Int) - (n : Int))) = true := decide_eq_true (by omega)
    have k1 : w.cell? ⟨g, 0, none⟩ = some (.string s) := k0 0
    clear hz h0 k0 hs
    go_enter Try.func83, Try.ntmps83
    go_wp2_with fail
    refine (HUP.out _).mono ?_
    rintro e w1 ⟨rfl, rfl⟩
    go_wp2
    go_ret2
    exact ⟨rfl, Below.refl _ _⟩
  · rw [if_neg hs] at her
    have hz := hz (by omega) h1
    have d1 : decide (((s.size : Nat) : Int) - (a : Int) < (n : Int) + ((u : Int) - (n : Int))) = false := decide_eq_false (by omega)
    have k1 : w.cell? ⟨g, 0, none⟩ = some (.string s) := k0 0
    have HZQ := Lib.hid (fun (W : World) (m : Nat) => (zeros_any (u - n) (W.drewN m) (by omega)).mono fun e w' (h : _ ∧ _) => (⟨h.1, m, h.2.symm⟩ : e = .returned (.string (zb (u - n))) ∧ ∃ m, w' = W.drewN m))
    have e1 : ((u - n : Nat) : Int) = (u : Int) - (n : Int) := by omega
    rw [e1] at HZQ
    have c1 : (0 : Int) ≤ (a : Int) + (n : Int) := by omega
    have c2 : (a : Int) + (n : Int) ≤ (a : Int) + (n : Int) + ((u : Int) - (n : Int)) := by omega
    have c3 : (a : Int) + (n : Int) + ((u : Int) - (n : Int)) ≤ s.size := by omega
    have k2 : (a : Int) + (n : Int) + ((u : Int) - (n : Int)) = ((a + u : Nat) : Int) := by omega
    generalize zb (u - n) = Z at *
    clear e1
    cases zr with
    | true =>
      rw [if_pos rfl] at her
      subst her
      have de : ((s.extract (a + n) (a + u)).toList == Z.toList) = true := by rw [str_eq10]; exact decide_eq_true (hz.2 rfl)
      have k3 : (a : Int) + (n : Int) + ((u : Int) - (n : Int)) = ((a + u : Nat) : Int) := by omega
      clear hz h0
      go_enter Try.func83, Try.ntmps83
      go_wp2_with fail
      refine (HUP.out _).mono ?_
      rintro e w1 ⟨rfl, rfl⟩
      go_wp2
      go_quiet ((go_at_call 65; exact HZQ.out _ _))
      go_wp2
      go_ret2
      exact ⟨by simp, below_drewN _ _⟩
    | false =>
      rw [if_neg (by decide)] at her
      subst her
      have de : ((s.extract (a + n) (a + u)).toList == Z.toList) = false := by rw [str_eq10]; exact decide_eq_false (fun h => by have := hz.1 h; cases this)
      clear hz h0
      go_enter Try.func83, Try.ntmps83
      go_wp2_with fail
      refine (HUP.out _).mono ?_
      rintro e w1 ⟨rfl, rfl⟩
      go_wp2
      go_quiet ((go_at_call 65; exact HZQ.out _ _))
      go_wp2
      go_ret2
      exact ⟨rfl, below_drewN _ _⟩
end Go.Proofs.Ytgfdbmbgldeljaa
