/- The document's Same of layer 14, of two trees that read alike; what package decode must do, said over nothing of its code. Conditions: spans that fit. -/
import Derived.Test.YtmgmpjgofolkgaaMg28
import Derived.Test.YtmgmpjgofolkgaaMg11
namespace Go.Proofs.Ytmgmpjgofolkgaa
open Go.RowKit

/-- The cells of two trees side by side. -/
theorem dt_cells {w : World} {g : Nat} {nm : ByteArray} {v2 v3 r : Value} {b : Int} (h : Arr w g 29 (dtC nm v2 v3 r b)) :
    w.cell? ⟨g, 0, none⟩ = some (.string nm) ∧ w.cell? ⟨g, 1, none⟩ = some v2 ∧ w.cell? ⟨g, 2, none⟩ = some v3 ∧ w.cell? ⟨g, 3, none⟩ = some r ∧ w.cell? ⟨g, 4, none⟩ = some (.int .i64 b) :=
  ⟨h.cell 0, h.cell 1, h.cell 2, h.cell 3, h.cell 4⟩

set_option maxHeartbeats 1600000 in
set_option maxRecDepth 100000 in
theorem rSameT_any (T : DT) (v2 v3 u2 u3 : Value) (A A' : Option Addr) (cap cap' : Nat) (w : World) (hl : T.rs.length ≤ maxLen) (h : DtAt w T v2 v3 A) (h' : DtAt w T u2 u3 A') :
    Calls Try.prog 12 #[.agg (dtC T.rt.nm v2 v3 (.slice A T.rs.length cap) T.bo), .agg (dtC T.rt.nm u2 u3 (.slice A' T.rs.length cap') T.bo)] w fun e w' => e = .returned (.bool true) ∧ Below w.heap.size w w' := by
  obtain ⟨W1, hW1⟩ : ∃ W1, W1 = (w.alloc (.cells (dtC T.rt.nm v2 v3 (.slice A T.rs.length cap) T.bo) 29)).alloc (.cells (dtC T.rt.nm u2 u3 (.slice A' T.rs.length cap') T.bo) 29) := ⟨_, rfl⟩
  obtain ⟨g8, hg8⟩ : ∃ g8, g8 = w.heap.size := ⟨_, rfl⟩
  obtain ⟨g9, hg9⟩ : ∃ g9, g9 = w.heap.size + 1 := ⟨_, rfl⟩
  have hB1 : Below w.heap.size w W1 := by rw [hW1]; exact ((Below.refl _ _).alloc (Nat.le_refl _) _).alloc (by rw [sz_alloc]; omega) _
  have hA8 : Arr W1 g8 29 (dtC T.rt.nm v2 v3 (.slice A T.rs.length cap) T.bo) := by rw [hW1, hg8]; exact (Arr.new w _ _).alloc _
  have hA9 : Arr W1 g9 29 (dtC T.rt.nm u2 u3 (.slice A' T.rs.length cap') T.bo) := by rw [hW1, hg9]; exact Arr.new1 w _ _ _
  have HB1 := Lib.hid hB1
  have H1 := Lib.hid (h.below hB1)
  have H2 := Lib.hid (h'.below hB1)
  have HA8 := Lib.hid hA8
  have HA9 := Lib.hid hA9
  have HC : Hid (∀ W, DtAt W T v2 v3 A → DtAt W T u2 u3 A' → Calls Try.prog 24 #[.agg #[.string T.rt.nm, v2, v3], .agg #[.string T.rt.nm, u2, u3]] W fun e w' => e = .returned (.bool true) ∧ Below W.heap.size W w') := fun W h1 h2 => by
    have := rSame_any _ _ T.rt T.rt v2 v3 u2 u3 W h1.1 h2.1
    rwa [sameR_refl] at this
  have HP : Hid (∀ W, DtAt W T v2 v3 A → DtAt W T u2 u3 A' → Calls Try.prog 13 #[.slice A T.rs.length cap, .slice A' T.rs.length cap'] W fun e w' => e = .returned (.bool true) ∧ Below W.heap.size W w') := fun W h1 h2 => sameSp_any A A' cap cap' T.rs W hl h1.2 h2.2
  obtain ⟨k80, k81, k82, k83, k84⟩ := dt_cells hA8
  obtain ⟨k90, k91, k92, k93, k94⟩ := dt_cells hA9
  clear h h' hB1 hA8 hA9 hl
  generalize T.rs.length = n at *
  go_enter Try.func12, Try.ntmps12
  go_upto_region 1 with fail
  rw [← hW1, ← hg9, ← hg8]
  clear hW1 hg9 hg8
  go_wp2_with fail
  refine (HC.out _ H1.out H2.out).mono ?_
  rintro e w3 ⟨rfl, hb⟩
  clear k80 k81 k82 k83 k84 k90 k91 k92 k93 k94 HC
  have H1 := Lib.hid (H1.out.below hb)
  have H2 := Lib.hid (H2.out.below hb)
  have HA8 := Lib.hid (HA8.out.below hb HA8.out.lt)
  have HA9 := Lib.hid (HA9.out.below hb HA9.out.lt)
  have HB1 := Lib.hid (HB1.out.trans (hb.mono HB1.out.size))
  clear hb
  obtain ⟨-, -, -, k83, k84⟩ := dt_cells HA8.out
  obtain ⟨-, -, -, k93, k94⟩ := dt_cells HA9.out
  go_wp2_with fail
  refine (HP.out _ H1.out H2.out).mono ?_
  rintro e w4 ⟨rfl, hb⟩
  clear k83 k84 k93 k94 HP
  have HA8 := Lib.hid (HA8.out.below hb HA8.out.lt)
  have HA9 := Lib.hid (HA9.out.below hb HA9.out.lt)
  have HB1 := Lib.hid (HB1.out.trans (hb.mono HB1.out.size))
  clear hb
  obtain ⟨-, -, -, -, k84⟩ := dt_cells HA8.out
  obtain ⟨-, -, -, -, k94⟩ := dt_cells HA9.out
  go_wp2
  go_ret
  exact ⟨rfl, HB1.out⟩

/-- The contracts of package decode. -/
structure DecMust : Prop where
  tree : ∀ (s : ByteArray) (w : World), s.size ≤ 1099511627776 → Calls Try.prog 6 #[.string s] w fun e w' => ∃ v2 v3 A cap, e = .returned (.tuple #[.agg (dtC (treeD s.data.toList).1.rt.nm v2 v3 (.slice A (treeD s.data.toList).1.rs.length cap) (treeD s.data.toList).1.bo), .int .i64 ((treeD s.data.toList).2 : Int)]) ∧ DtAt w' (treeD s.data.toList).1 v2 v3 A ∧ Below w.heap.size w w'
  reserve : ∀ (s : ByteArray) (a : Int) (w : World), s.size ≤ 1099511627776 → -9223372036854775808 ≤ a ∧ a ≤ 9223372036854775807 → Calls Try.prog 8 #[.string s, .int .i64 a] w fun e w' => ∃ A cap, e = .returned (.tuple #[.slice A (resv s.data.toList a).1.length cap, .int .i64 ((resv s.data.toList a).2 : Int)]) ∧ RdSp w' A (resv s.data.toList a).1 ∧ Below w.heap.size w w'
  size : ∀ (s : ByteArray) (w : World), s.size ≤ 1099511627776 → Calls Try.prog 11 #[.string s] w fun e w' => e = .returned (.tuple #[.int .i64 (readH s.data.toList).1.tot, .int .i64 ((readH s.data.toList).2 : Int)]) ∧ Below w.heap.size w w'
end Go.Proofs.Ytmgmpjgofolkgaa

/- What package head must do, said over nothing of its code; and the awake() of layer 11's statements. Conditions: those contracts. -/
namespace Go.Proofs.Ytmgmpjgofolkgaa
open Go.RowKit

def inH (h : HD) : Prop := in64 h.tot ∧ in64 h.stc ∧ in64 h.sgs ∧ in64 h.rsv ∧ in64 h.boo ∧ in64 h.txs ∧ in64 h.siz
/-- The header that awake() takes. -/
def h11 : HD := ⟨72, 56, 72, 40, 0, 0, 16⟩
theorem put11 : (putH h11).2 = 0 := by rfl
theorem len11 : (putH h11).1.length = 40 := (putH_len put11).1
set_option maxRecDepth 100000 in
theorem read11 : readH (putH h11).1 = (hd0, 14) := by decide +kernel
theorem part11 : partR ⟨#[97, 98, 99]⟩ 1 2 = (⟨#[98, 99]⟩, 0) := by rfl
theorem in11 : inH h11 := by unfold inH in64 h11; decide

end Go.Proofs.Ytmgmpjgofolkgaa

/- The program's own tests of layer 11: there, refers, valid; Part. Conditions: numbers of 64 bits; strings of at most 2^40 bytes. -/
namespace Go.Proofs.Ytmgmpjgofolkgaa
open Go.RowKit

/-- A span is within so many bytes. -/
def thereHB (a n t : Int) : Bool := decide (0 ≤ a ∧ a ≤ t ∧ 0 ≤ n ∧ n ≤ t - a)
def refB (tot at_ n : Int) : Bool := decide (40 ≤ at_ ∧ at_ ≤ tot ∧ 0 ≤ n ∧ n ≤ tot - at_)

set_option maxHeartbeats 1600000 in
set_option maxRecDepth 100000 in
theorem there_any (a n t : Int) (w : World) (ha : in64 a) (ht : in64 t) :
    Calls Try.prog 39 #[.agg #[.int .i64 a, .int .i64 n], .int .i64 t] w fun e w' => e = .returned (.bool (thereHB a n t)) ∧ Below w.heap.size w w' := by
  have HA : Hid (in64 a ∧ in64 t) := ⟨ha, ht⟩
  clear ha ht
  go_enter Try.func39, Try.ntmps39
  go_wp2
  all_goals
    go_ret
    refine ⟨congrArg (fun b => Ending.returned (.bool b)) ?_, (Below.refl _ _).alloc (Nat.le_refl _) _⟩
    obtain ⟨⟨t1, t2⟩, t3, t4⟩ := HA.out
    unfold thereHB
    try simp only [wrap64] at *
    first | (symm; apply decide_eq_false; omega) | (symm; apply decide_eq_true; omega) | (apply decide_eq_decide.2; omega)

set_option maxHeartbeats 1600000 in
set_option maxRecDepth 100000 in
theorem refers_any (h : HD) (a n : Int) (w : World) (ha : in64 a) (ht : in64 h.tot) :
    Calls Try.prog 38 #[.agg (hdC h), .int .i64 a, .int .i64 n] w fun e w' => e = .returned (.bool (refB h.tot a n)) ∧ Below w.heap.size w w' := by
  obtain ⟨tt, st, sg, rv, bo, tx, sz⟩ := h
  show Calls _ _ #[.agg #[.int .i64 tt, .int .i64 st, .int .i64 sg, .int .i64 rv, .int .i64 bo, .int .i64 tx, .int .i64 sz], _, _] _ (fun e w' => e = .returned (.bool (refB tt a n)) ∧ _)
  have HT := Lib.hid (fun W => there_any a n tt W ha ht)
  clear ha ht
  by_cases hg : 40 ≤ a
  · have hR : refB tt a n = thereHB a n tt := by
      unfold refB thereHB
      apply decide_eq_decide.2
      omega
    rw [hR]
    generalize thereHB a n tt = b at *
    clear hR
    go_enter Try.func38, Try.ntmps38
    go_wp2_with fail
    refine (HT.out _).mono ?_
    rintro e w1 ⟨rfl, hb⟩
    go_wp2
    go_ret
    exact ⟨rfl, ((Below.refl _ _).alloc (Nat.le_refl _) _).trans (hb.mono (by show _ ≤ (w.heap.push _).size; rw [Array.size_push]; exact Nat.le_succ _))⟩
  · have hR : refB tt a n = false := decide_eq_false (by omega)
    rw [hR]
    clear hR HT
    go_enter Try.func38, Try.ntmps38
    go_wp2
    go_ret
    exact ⟨rfl, (Below.refl _ _).alloc (Nat.le_refl _) _⟩
end Go.Proofs.Ytmgmpjgofolkgaa

/- The program's valid of layer 11. Conditions: numbers of 64 bits. -/
namespace Go.Proofs.Ytmgmpjgofolkgaa
open Go.RowKit

def validH (h : HD) : Bool := mayH h && decide (h.tot ≤ 16384)

theorem tmod4 (x : Int) : x.tmod 4 = 0 ↔ x % 4 = 0 := by
  rw [← Int.dvd_iff_tmod_eq_zero, Int.dvd_iff_emod_eq_zero]
theorem tmod8 (x : Int) : x.tmod 8 = 0 ↔ x % 8 = 0 := by
  rw [← Int.dvd_iff_tmod_eq_zero, Int.dvd_iff_emod_eq_zero]

set_option maxHeartbeats 1600000 in
set_option maxRecDepth 100000 in
theorem valid_any (h : HD) (w : World) (hh : inH h) :
    Calls Try.prog 27 #[.agg (hdC h)] w fun e w' => e = .returned (.bool (validH h)) ∧ Below w.heap.size w w' := by
  have HR0 := Lib.hid (fun W a n (ha : in64 a) => refers_any h a n W ha hh.1)
  obtain ⟨tt, st, sg, rv, bo, tx, sz⟩ := h
  obtain ⟨h1, h2, h3, h4, h5, h6, h7⟩ := hh
  simp only at h1 h2 h3 h4 h5 h6 h7
  show Calls _ _ #[.agg #[.int .i64 tt, .int .i64 st, .int .i64 sg, .int .i64 rv, .int .i64 bo, .int .i64 tx, .int .i64 sz]] _ _
  obtain ⟨W0, hW0⟩ : ∃ W0, W0 = w.alloc (.cells #[.int .i64 tt, .int .i64 st, .int .i64 sg, .int .i64 rv, .int .i64 bo, .int .i64 tx, .int .i64 sz] 36) := ⟨_, rfl⟩
  have HA0 : Hid (Arr W0 w.heap.size 36 #[.int .i64 tt, .int .i64 st, .int .i64 sg, .int .i64 rv, .int .i64 bo, .int .i64 tx, .int .i64 sz]) := by rw [hW0]; exact Arr.new w _ _
  have HB0 : Hid (Below w.heap.size w W0) := by rw [hW0]; exact (Below.refl _ _).alloc (Nat.le_refl _) _
  have HV : validH ⟨tt, st, sg, rv, bo, tx, sz⟩ = (decide (40 ≤ tt ∧ tt ≤ 16384 ∧ st % 4 = 0 ∧ rv % 8 = 0 ∧ 0 ≤ bo ∧ bo ≤ 4294967295) && (refB tt st sz && (refB tt sg tx && refB tt rv 0))) := by
    unfold validH mayH refB
    simp only [← Bool.decide_and]
    apply decide_eq_decide.2
    omega
  rw [HV]
  clear HV
  have R1 := Lib.hid (fun W => HR0.out W st sz h2)
  have R2 := Lib.hid (fun W => HR0.out W sg tx h3)
  have R3 := Lib.hid (fun W => HR0.out W rv 0 h4)
  simp only [hdC] at R1 R2 R3
  clear HR0 h1 h2 h3 h4 h5 h6 h7
  generalize refB tt st sz = b1 at *
  generalize refB tt sg tx = b2 at *
  generalize refB tt rv 0 = b3 at *
  have c0 := HA0.out.cell 0
  have c1 := HA0.out.cell 1
  have c2 := HA0.out.cell 2
  have c3 := HA0.out.cell 3
  have c4 := HA0.out.cell 4
  have c5 := HA0.out.cell 5
  have c6 := HA0.out.cell 6
  simp only [List.getElem?_toArray, List.getElem?_cons_zero, List.getElem?_cons_succ] at c0 c1 c2 c3 c4 c5 c6
  have HT4 := Lib.hid (tmod4 st)
  have HT8 := Lib.hid (tmod8 rv)
  by_cases q1 : 40 ≤ tt
  rotate_left
  · as_aux_lemma =>
      rw [show decide (40 ≤ tt ∧ tt ≤ 16384 ∧ st % 4 = 0 ∧ rv % 8 = 0 ∧ 0 ≤ bo ∧ bo ≤ 4294967295) = false from decide_eq_false (fun h => absurd h.1 q1), Bool.false_and]
      go_enter Try.func27, Try.ntmps27
      go_upto_region 1 with fail
      rw [← hW0]
      clear hW0
      go_wp2
      go_ret
      exact ⟨rfl, HB0.out⟩
  by_cases q2 : tt ≤ 16384
  rotate_left
  · as_aux_lemma =>
      rw [show decide (40 ≤ tt ∧ tt ≤ 16384 ∧ st % 4 = 0 ∧ rv % 8 = 0 ∧ 0 ≤ bo ∧ bo ≤ 4294967295) = false from decide_eq_false (fun h => absurd h.2.1 q2), Bool.false_and]
      go_enter Try.func27, Try.ntmps27
      go_upto_region 1 with fail
      rw [← hW0]
      clear hW0
      go_wp2
      go_ret
      exact ⟨rfl, HB0.out⟩
  by_cases q3 : st.tmod 4 = 0
  rotate_left
  · as_aux_lemma =>
      rw [show decide (40 ≤ tt ∧ tt ≤ 16384 ∧ st % 4 = 0 ∧ rv % 8 = 0 ∧ 0 ≤ bo ∧ bo ≤ 4294967295) = false from decide_eq_false (fun h => absurd (HT4.out.2 h.2.2.1) q3), Bool.false_and]
      have dq : (st.tmod 4 == 0) = false := by simpa using q3
      go_enter Try.func27, Try.ntmps27
      go_upto_region 1 with fail
      rw [← hW0]
      clear hW0
      go_wp2
      go_ret
      exact ⟨rfl, HB0.out⟩
  by_cases q4 : rv.tmod 8 = 0
  rotate_left
  · as_aux_lemma =>
      rw [show decide (40 ≤ tt ∧ tt ≤ 16384 ∧ st % 4 = 0 ∧ rv % 8 = 0 ∧ 0 ≤ bo ∧ bo ≤ 4294967295) = false from decide_eq_false (fun h => absurd (HT8.out.2 h.2.2.2.1) q4), Bool.false_and]
      have dq : (rv.tmod 8 == 0) = false := by simpa using q4
      go_enter Try.func27, Try.ntmps27
      go_upto_region 1 with fail
      rw [← hW0]
      clear hW0
      go_wp2
      go_ret
      exact ⟨rfl, HB0.out⟩
  have hs4 := HT4.out.1 q3
  have hs8 := HT8.out.1 q4
  have HS4 := Lib.hid hs4
  have HS8 := Lib.hid hs8
  clear hs4 hs8 HT4 HT8
  have HDB : Hid (decide (40 ≤ tt ∧ tt ≤ 16384 ∧ st % 4 = 0 ∧ rv % 8 = 0 ∧ 0 ≤ bo ∧ bo ≤ 4294967295) = decide (0 ≤ bo ∧ bo ≤ 4294967295)) := decide_eq_decide.2 ⟨fun h => h.2.2.2.2, fun h => ⟨q1, q2, HS4.out, HS8.out, h⟩⟩
  rw [HDB.out]
  clear HDB HS4 HS8
  obtain ⟨z, hz⟩ : ∃ z : Bool, z = (decide (0 ≤ bo ∧ bo ≤ 4294967295) && (b1 && (b2 && b3))) := ⟨_, rfl⟩
  rw [← hz]
  have HZ := Lib.hid hz
  clear hz
  go_enter Try.func27, Try.ntmps27
  go_upto_region 1 with fail
  rw [← hW0]
  clear hW0
  go_wp2_with (refine wpList_load_row rfl 36 (.tmp 1) rfl w.heap.size rfl _ _ _ _ HA0.out Try.underlying36 rfl (infoH hd0) ?_)
  refine (R1.out _).mono ?_
  rintro e w1 ⟨rfl, hb1⟩
  have HA1 := Lib.hid (HA0.out.below hb1 HA0.out.lt)
  have HB1 := Lib.hid (HB0.out.trans (hb1.mono HB0.out.size))
  clear hb1 R1 c0 c1 c2 c3 c4 c5 c6
  have c0 := HA1.out.cell 0
  have c1 := HA1.out.cell 1
  have c2 := HA1.out.cell 2
  have c3 := HA1.out.cell 3
  have c4 := HA1.out.cell 4
  have c5 := HA1.out.cell 5
  have c6 := HA1.out.cell 6
  simp only [List.getElem?_toArray, List.getElem?_cons_zero, List.getElem?_cons_succ] at c0 c1 c2 c3 c4 c5 c6
  by_cases p1 : b1 = true
  rotate_left
  · as_aux_lemma =>
      obtain rfl : b1 = false := by simpa using p1
      have HZ1 : Hid (z = false) := HZ.out.trans (by simp)
      clear HZ p1
      go_wp2
      go_ret
      exact ⟨by rw [HZ1.out]; rfl, HB1.out⟩
  subst p1
  go_wp2_with (refine wpList_load_row rfl 36 (.tmp 1) rfl w.heap.size rfl _ _ _ _ HA1.out Try.underlying36 rfl (infoH hd0) ?_)
  refine (R2.out _).mono ?_
  rintro e w2 ⟨rfl, hb2⟩
  have HA2 := Lib.hid (HA1.out.below hb2 HA1.out.lt)
  have HB2 := Lib.hid (HB1.out.trans (hb2.mono HB1.out.size))
  clear hb2 R2 c0 c1 c2 c3 c4 c5 c6
  have c0 := HA2.out.cell 0
  have c1 := HA2.out.cell 1
  have c2 := HA2.out.cell 2
  have c3 := HA2.out.cell 3
  have c4 := HA2.out.cell 4
  have c5 := HA2.out.cell 5
  have c6 := HA2.out.cell 6
  simp only [List.getElem?_toArray, List.getElem?_cons_zero, List.getElem?_cons_succ] at c0 c1 c2 c3 c4 c5 c6
  by_cases p2 : b2 = true
  rotate_left
  · as_aux_lemma =>
      obtain rfl : b2 = false := by simpa using p2
      have HZ1 : Hid (z = false) := HZ.out.trans (by simp)
      clear HZ p2
      go_wp2
      go_ret
      exact ⟨by rw [HZ1.out]; rfl, HB2.out⟩
  subst p2
  go_wp2_with (refine wpList_load_row rfl 36 (.tmp 1) rfl w.heap.size rfl _ _ _ _ HA2.out Try.underlying36 rfl (infoH hd0) ?_)
  refine (R3.out _).mono ?_
  rintro e w3 ⟨rfl, hb3⟩
  have HA3 := Lib.hid (HA2.out.below hb3 HA2.out.lt)
  have HB3 := Lib.hid (HB2.out.trans (hb3.mono HB2.out.size))
  clear hb3 R3 c0 c1 c2 c3 c4 c5 c6
  have c0 := HA3.out.cell 0
  have c1 := HA3.out.cell 1
  have c2 := HA3.out.cell 2
  have c3 := HA3.out.cell 3
  have c4 := HA3.out.cell 4
  have c5 := HA3.out.cell 5
  have c6 := HA3.out.cell 6
  simp only [List.getElem?_toArray, List.getElem?_cons_zero, List.getElem?_cons_succ] at c0 c1 c2 c3 c4 c5 c6
  by_cases p3 : b3 = true
  rotate_left
  · as_aux_lemma =>
      obtain rfl : b3 = false := by simpa using p3
      have HZ1 : Hid (z = false) := HZ.out.trans (by simp)
      clear HZ p3
      go_wp2
      go_ret
      exact ⟨by rw [HZ1.out]; rfl, HB3.out⟩
  subst p3
  have HZ1 : Hid (z = decide (0 ≤ bo ∧ bo ≤ 4294967295)) := HZ.out.trans (by simp)
  clear HZ
  go_wp2
  all_goals
    go_ret
    refine ⟨congrArg (fun b => Ending.returned (.bool b)) ?_, HB3.out⟩
    rw [HZ1.out]
    first | (symm; apply decide_eq_false; omega) | (symm; apply decide_eq_true; omega) | (apply decide_eq_decide.2; omega)
end Go.Proofs.Ytmgmpjgofolkgaa
