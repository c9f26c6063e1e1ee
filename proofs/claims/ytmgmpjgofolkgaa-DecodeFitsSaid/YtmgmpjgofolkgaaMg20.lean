/- What the document's Take does that changes nothing: TokNop, and each error but those of a property. Conditions: a Builder in memory. -/
import Derived.Test.YtmgmpjgofolkgaaMg19
import Derived.Test.YtmgmpjgofolkgaaMg15
import Derived.Deep.DeepCutAuto
import Derived.Deep.RegionHeld3
namespace Go.Proofs.Ytmgmpjgofolkgaa
open Go.RowKit

set_option maxHeartbeats 1600000 in
set_option maxRecDepth 100000 in
theorem btake_nop (B g : Nat) (op : List ND) (dn : Bool) (rt : ND) (ns pn : Nat) (vo : Value) (L : List ON) (r2 r3 : Value) (kd : Int) (nm vl : ByteArray) (w : World) (h : BX w B g ⟨op, dn, rt, ns, pn⟩ vo L r2 r3) (hk : kd = 4) :
    Calls Try.prog 34 #[.pointer (some ⟨g, 0, none⟩), .agg #[.int .i64 kd, .string nm, .string vl]] w fun e w' => e = .returned (.int .i64 0) ∧ ∃ vo' L' r2' r3', BX w' B g ⟨op, dn, rt, ns, pn⟩ vo' L' r2' r3' ∧ Moved w w' (fpO g vo L) (fpO g vo' L') := by
  subst hk
  obtain ⟨W1, hW1⟩ : ∃ W1, W1 = w.alloc (.cells #[.int .i64 4, .string nm, .string vl] 70) := ⟨_, rfl⟩
  have hb1 : Below w.heap.size w W1 := by rw [hW1]; exact (Below.refl _ _).alloc (Nat.le_refl _) _
  have hT : Arr W1 w.heap.size 70 (tkC ⟨4, nm, vl⟩) := by rw [hW1]; exact Arr.new w _ _
  have hX := h.below hb1
  have hM1 : Moved w W1 (fpO g vo L) (fpO g vo L) := Moved.of_below hb1 _
  obtain ⟨A, cap, rfl, hcap, hcm, _⟩ := row_form h.row
  unfold maxLen at hcm
  have c0 : W1.cell? ⟨g, 0, none⟩ = some (.slice A L.length cap) := hX.arr.cell 0
  have c1 : W1.cell? ⟨g, 1, none⟩ = some (.bool dn) := hX.arr.cell 1
  have c5 : W1.cell? ⟨g, 5, none⟩ = some (.int .i64 (ns : Int)) := hX.arr.cell 5
  have c6 : W1.cell? ⟨g, 6, none⟩ = some (.int .i64 (pn : Int)) := hX.arr.cell 6
  have t0 : W1.cell? ⟨w.heap.size, 0, none⟩ = some (.int .i64 4) := hT.cell 0
  have t1 : W1.cell? ⟨w.heap.size, 1, none⟩ = some (.string nm) := hT.cell 1
  have t2 : W1.cell? ⟨w.heap.size, 2, none⟩ = some (.string vl) := hT.cell 2
  have f0 := hX.arr.frozen 0
  have f1 := hX.arr.frozen 1
  have f5 := hX.arr.frozen 5
  have f6 := hX.arr.frozen 6
  have HX := Lib.hid hX
  have HM := Lib.hid hM1
  have HT := Lib.hid hT
  have hgl := hX.arr.lt
  have htl := hT.lt
  clear h hb1 hX hM1 hT
  go_enter Try.func34, Try.ntmps34
  go_upto_region 1 with fail
  rw [← hW1]
  clear hW1
  go_wp2
  go_ret
  exact ⟨rfl, _, _, _, _, HX.out, HM.out⟩

set_option maxHeartbeats 1600000 in
set_option maxRecDepth 100000 in
theorem btake_low (B g : Nat) (op : List ND) (dn : Bool) (rt : ND) (ns pn : Nat) (vo : Value) (L : List ON) (r2 r3 : Value) (kd : Int) (nm vl : ByteArray) (w : World) (h : BX w B g ⟨op, dn, rt, ns, pn⟩ vo L r2 r3) (hk : kd < 1) :
    Calls Try.prog 34 #[.pointer (some ⟨g, 0, none⟩), .agg #[.int .i64 kd, .string nm, .string vl]] w fun e w' => e = .returned (.int .i64 6) ∧ ∃ vo' L' r2' r3', BX w' B g ⟨op, dn, rt, ns, pn⟩ vo' L' r2' r3' ∧ Moved w w' (fpO g vo L) (fpO g vo' L') := by
  obtain ⟨W1, hW1⟩ : ∃ W1, W1 = w.alloc (.cells #[.int .i64 kd, .string nm, .string vl] 70) := ⟨_, rfl⟩
  have hb1 : Below w.heap.size w W1 := by rw [hW1]; exact (Below.refl _ _).alloc (Nat.le_refl _) _
  have hT : Arr W1 w.heap.size 70 (tkC ⟨kd, nm, vl⟩) := by rw [hW1]; exact Arr.new w _ _
  have hX := h.below hb1
  have hM1 : Moved w W1 (fpO g vo L) (fpO g vo L) := Moved.of_below hb1 _
  obtain ⟨A, cap, rfl, hcap, hcm, _⟩ := row_form h.row
  unfold maxLen at hcm
  have c0 : W1.cell? ⟨g, 0, none⟩ = some (.slice A L.length cap) := hX.arr.cell 0
  have c1 : W1.cell? ⟨g, 1, none⟩ = some (.bool dn) := hX.arr.cell 1
  have c5 : W1.cell? ⟨g, 5, none⟩ = some (.int .i64 (ns : Int)) := hX.arr.cell 5
  have c6 : W1.cell? ⟨g, 6, none⟩ = some (.int .i64 (pn : Int)) := hX.arr.cell 6
  have t0 : W1.cell? ⟨w.heap.size, 0, none⟩ = some (.int .i64 kd) := hT.cell 0
  have t1 : W1.cell? ⟨w.heap.size, 1, none⟩ = some (.string nm) := hT.cell 1
  have t2 : W1.cell? ⟨w.heap.size, 2, none⟩ = some (.string vl) := hT.cell 2
  have f0 := hX.arr.frozen 0
  have f1 := hX.arr.frozen 1
  have f5 := hX.arr.frozen 5
  have f6 := hX.arr.frozen 6
  have HX := Lib.hid hX
  have HM := Lib.hid hM1
  have HT := Lib.hid hT
  have hgl := hX.arr.lt
  have htl := hT.lt
  clear h hb1 hX hM1 hT
  have d4 : (kd == 4) = false := by simp; omega
  go_enter Try.func34, Try.ntmps34
  go_upto_region 1 with fail
  rw [← hW1]
  clear hW1
  go_wp2
  go_ret
  exact ⟨rfl, _, _, _, _, HX.out, HM.out⟩

set_option maxHeartbeats 1600000 in
set_option maxRecDepth 100000 in
theorem btake_high (B g : Nat) (op : List ND) (dn : Bool) (rt : ND) (ns pn : Nat) (vo : Value) (L : List ON) (r2 r3 : Value) (kd : Int) (nm vl : ByteArray) (w : World) (h : BX w B g ⟨op, dn, rt, ns, pn⟩ vo L r2 r3) (hk : 4 < kd) :
    Calls Try.prog 34 #[.pointer (some ⟨g, 0, none⟩), .agg #[.int .i64 kd, .string nm, .string vl]] w fun e w' => e = .returned (.int .i64 6) ∧ ∃ vo' L' r2' r3', BX w' B g ⟨op, dn, rt, ns, pn⟩ vo' L' r2' r3' ∧ Moved w w' (fpO g vo L) (fpO g vo' L') := by
  obtain ⟨W1, hW1⟩ : ∃ W1, W1 = w.alloc (.cells #[.int .i64 kd, .string nm, .string vl] 70) := ⟨_, rfl⟩
  have hb1 : Below w.heap.size w W1 := by rw [hW1]; exact (Below.refl _ _).alloc (Nat.le_refl _) _
  have hT : Arr W1 w.heap.size 70 (tkC ⟨kd, nm, vl⟩) := by rw [hW1]; exact Arr.new w _ _
  have hX := h.below hb1
  have hM1 : Moved w W1 (fpO g vo L) (fpO g vo L) := Moved.of_below hb1 _
  obtain ⟨A, cap, rfl, hcap, hcm, _⟩ := row_form h.row
  unfold maxLen at hcm
  have c0 : W1.cell? ⟨g, 0, none⟩ = some (.slice A L.length cap) := hX.arr.cell 0
  have c1 : W1.cell? ⟨g, 1, none⟩ = some (.bool dn) := hX.arr.cell 1
  have c5 : W1.cell? ⟨g, 5, none⟩ = some (.int .i64 (ns : Int)) := hX.arr.cell 5
  have c6 : W1.cell? ⟨g, 6, none⟩ = some (.int .i64 (pn : Int)) := hX.arr.cell 6
  have t0 : W1.cell? ⟨w.heap.size, 0, none⟩ = some (.int .i64 kd) := hT.cell 0
  have t1 : W1.cell? ⟨w.heap.size, 1, none⟩ = some (.string nm) := hT.cell 1
  have t2 : W1.cell? ⟨w.heap.size, 2, none⟩ = some (.string vl) := hT.cell 2
  have f0 := hX.arr.frozen 0
  have f1 := hX.arr.frozen 1
  have f5 := hX.arr.frozen 5
  have f6 := hX.arr.frozen 6
  have HX := Lib.hid hX
  have HM := Lib.hid hM1
  have HT := Lib.hid hT
  have hgl := hX.arr.lt
  have htl := hT.lt
  clear h hb1 hX hM1 hT
  have d4 : (kd == 4) = false := by simp; omega
  have e1 : decide (kd < 1) = false := decide_eq_false (by omega)
  have e3 : decide (3 < kd) = true := decide_eq_true (by omega)
  clear hk
  go_enter Try.func34, Try.ntmps34
  go_upto_region 1 with fail
  rw [← hW1]
  clear hW1
  go_wp2
  go_ret
  exact ⟨rfl, _, _, _, _, HX.out, HM.out⟩

set_option maxHeartbeats 1600000 in
set_option maxRecDepth 100000 in
theorem btake_done (B g : Nat) (op : List ND) (dn : Bool) (rt : ND) (ns pn : Nat) (vo : Value) (L : List ON) (r2 r3 : Value) (kd : Int) (nm vl : ByteArray) (w : World) (h : BX w B g ⟨op, dn, rt, ns, pn⟩ vo L r2 r3) (hk1 : 1 ≤ kd) (hk3 : kd ≤ 3) (hd : dn = true) :
    Calls Try.prog 34 #[.pointer (some ⟨g, 0, none⟩), .agg #[.int .i64 kd, .string nm, .string vl]] w fun e w' => e = .returned (.int .i64 6) ∧ ∃ vo' L' r2' r3', BX w' B g ⟨op, dn, rt, ns, pn⟩ vo' L' r2' r3' ∧ Moved w w' (fpO g vo L) (fpO g vo' L') := by
  subst hd
  obtain ⟨W1, hW1⟩ : ∃ W1, W1 = w.alloc (.cells #[.int .i64 kd, .string nm, .string vl] 70) := ⟨_, rfl⟩
  have hb1 : Below w.heap.size w W1 := by rw [hW1]; exact (Below.refl _ _).alloc (Nat.le_refl _) _
  have hT : Arr W1 w.heap.size 70 (tkC ⟨kd, nm, vl⟩) := by rw [hW1]; exact Arr.new w _ _
  have hX := h.below hb1
  have hM1 : Moved w W1 (fpO g vo L) (fpO g vo L) := Moved.of_below hb1 _
  obtain ⟨A, cap, rfl, hcap, hcm, _⟩ := row_form h.row
  unfold maxLen at hcm
  have c0 : W1.cell? ⟨g, 0, none⟩ = some (.slice A L.length cap) := hX.arr.cell 0
  have c1 : W1.cell? ⟨g, 1, none⟩ = some (.bool true) := hX.arr.cell 1
  have c5 : W1.cell? ⟨g, 5, none⟩ = some (.int .i64 (ns : Int)) := hX.arr.cell 5
  have c6 : W1.cell? ⟨g, 6, none⟩ = some (.int .i64 (pn : Int)) := hX.arr.cell 6
  have t0 : W1.cell? ⟨w.heap.size, 0, none⟩ = some (.int .i64 kd) := hT.cell 0
  have t1 : W1.cell? ⟨w.heap.size, 1, none⟩ = some (.string nm) := hT.cell 1
  have t2 : W1.cell? ⟨w.heap.size, 2, none⟩ = some (.string vl) := hT.cell 2
  have f0 := hX.arr.frozen 0
  have f1 := hX.arr.frozen 1
  have f5 := hX.arr.frozen 5
  have f6 := hX.arr.frozen 6
  have HX := Lib.hid hX
  have HM := Lib.hid hM1
  have HT := Lib.hid hT
  have hgl := hX.arr.lt
  have htl := hT.lt
  clear h hb1 hX hM1 hT
  have d4 : (kd == 4) = false := by simp; omega
  go_enter Try.func34, Try.ntmps34
  go_upto_region 1 with fail
  rw [← hW1]
  clear hW1
  go_wp2
  go_ret
  exact ⟨rfl, _, _, _, _, HX.out, HM.out⟩

set_option maxHeartbeats 1600000 in
set_option maxRecDepth 100000 in
theorem btake_none (B g : Nat) (op : List ND) (dn : Bool) (rt : ND) (ns pn : Nat) (vo : Value) (L : List ON) (r2 r3 : Value) (kd : Int) (nm vl : ByteArray) (w : World) (h : BX w B g ⟨op, dn, rt, ns, pn⟩ vo L r2 r3) (hk1 : 2 ≤ kd) (hk3 : kd ≤ 3) (hd : dn = false) (hl : L.length = 0) :
    Calls Try.prog 34 #[.pointer (some ⟨g, 0, none⟩), .agg #[.int .i64 kd, .string nm, .string vl]] w fun e w' => e = .returned (.int .i64 6) ∧ ∃ vo' L' r2' r3', BX w' B g ⟨op, dn, rt, ns, pn⟩ vo' L' r2' r3' ∧ Moved w w' (fpO g vo L) (fpO g vo' L') := by
  subst hd
  obtain ⟨W1, hW1⟩ : ∃ W1, W1 = w.alloc (.cells #[.int .i64 kd, .string nm, .string vl] 70) := ⟨_, rfl⟩
  have hb1 : Below w.heap.size w W1 := by rw [hW1]; exact (Below.refl _ _).alloc (Nat.le_refl _) _
  have hT : Arr W1 w.heap.size 70 (tkC ⟨kd, nm, vl⟩) := by rw [hW1]; exact Arr.new w _ _
  have hX := h.below hb1
  have hM1 : Moved w W1 (fpO g vo L) (fpO g vo L) := Moved.of_below hb1 _
  obtain ⟨A, cap, rfl, hcap, hcm, _⟩ := row_form h.row
  unfold maxLen at hcm
  have c0 : W1.cell? ⟨g, 0, none⟩ = some (.slice A L.length cap) := hX.arr.cell 0
  have c1 : W1.cell? ⟨g, 1, none⟩ = some (.bool false) := hX.arr.cell 1
  have c5 : W1.cell? ⟨g, 5, none⟩ = some (.int .i64 (ns : Int)) := hX.arr.cell 5
  have c6 : W1.cell? ⟨g, 6, none⟩ = some (.int .i64 (pn : Int)) := hX.arr.cell 6
  have t0 : W1.cell? ⟨w.heap.size, 0, none⟩ = some (.int .i64 kd) := hT.cell 0
  have t1 : W1.cell? ⟨w.heap.size, 1, none⟩ = some (.string nm) := hT.cell 1
  have t2 : W1.cell? ⟨w.heap.size, 2, none⟩ = some (.string vl) := hT.cell 2
  have f0 := hX.arr.frozen 0
  have f1 := hX.arr.frozen 1
  have f5 := hX.arr.frozen 5
  have f6 := hX.arr.frozen 6
  have HX := Lib.hid hX
  have HM := Lib.hid hM1
  have HT := Lib.hid hT
  have hgl := hX.arr.lt
  have htl := hT.lt
  clear h hb1 hX hM1 hT
  have d4 : (kd == 4) = false := by simp; omega
  have d1 : (kd != 1) = true := by simp; omega
  have d0 : ((L.length : Int) == 0) = true := by rw [hl]; rfl
  clear hl
  go_enter Try.func34, Try.ntmps34
  go_upto_region 1 with fail
  rw [← hW1]
  clear hW1
  go_wp2
  go_ret
  exact ⟨rfl, _, _, _, _, HX.out, HM.out⟩

set_option maxHeartbeats 1600000 in
set_option maxRecDepth 100000 in
theorem btake_deep (B g : Nat) (op : List ND) (dn : Bool) (rt : ND) (ns pn : Nat) (vo : Value) (L : List ON) (r2 r3 : Value) (kd : Int) (nm vl : ByteArray) (w : World) (h : BX w B g ⟨op, dn, rt, ns, pn⟩ vo L r2 r3) (hk : kd = 1) (hd : dn = false) (hl : L.length = 8) :
    Calls Try.prog 34 #[.pointer (some ⟨g, 0, none⟩), .agg #[.int .i64 kd, .string nm, .string vl]] w fun e w' => e = .returned (.int .i64 13) ∧ ∃ vo' L' r2' r3', BX w' B g ⟨op, dn, rt, ns, pn⟩ vo' L' r2' r3' ∧ Moved w w' (fpO g vo L) (fpO g vo' L') := by
  subst hd
  subst hk
  obtain ⟨W1, hW1⟩ : ∃ W1, W1 = w.alloc (.cells #[.int .i64 1, .string nm, .string vl] 70) := ⟨_, rfl⟩
  have hb1 : Below w.heap.size w W1 := by rw [hW1]; exact (Below.refl _ _).alloc (Nat.le_refl _) _
  have hT : Arr W1 w.heap.size 70 (tkC ⟨1, nm, vl⟩) := by rw [hW1]; exact Arr.new w _ _
  have hX := h.below hb1
  have hM1 : Moved w W1 (fpO g vo L) (fpO g vo L) := Moved.of_below hb1 _
  obtain ⟨A, cap, rfl, hcap, hcm, _⟩ := row_form h.row
  unfold maxLen at hcm
  have c0 : W1.cell? ⟨g, 0, none⟩ = some (.slice A L.length cap) := hX.arr.cell 0
  have c1 : W1.cell? ⟨g, 1, none⟩ = some (.bool false) := hX.arr.cell 1
  have c5 : W1.cell? ⟨g, 5, none⟩ = some (.int .i64 (ns : Int)) := hX.arr.cell 5
  have c6 : W1.cell? ⟨g, 6, none⟩ = some (.int .i64 (pn : Int)) := hX.arr.cell 6
  have t0 : W1.cell? ⟨w.heap.size, 0, none⟩ = some (.int .i64 1) := hT.cell 0
  have t1 : W1.cell? ⟨w.heap.size, 1, none⟩ = some (.string nm) := hT.cell 1
  have t2 : W1.cell? ⟨w.heap.size, 2, none⟩ = some (.string vl) := hT.cell 2
  have f0 := hX.arr.frozen 0
  have f1 := hX.arr.frozen 1
  have f5 := hX.arr.frozen 5
  have f6 := hX.arr.frozen 6
  have HX := Lib.hid hX
  have HM := Lib.hid hM1
  have HT := Lib.hid hT
  have hgl := hX.arr.lt
  have htl := hT.lt
  clear h hb1 hX hM1 hT
  have d0 : ((L.length : Int) == 8) = true := by rw [hl]; rfl
  clear hl
  go_enter Try.func34, Try.ntmps34
  go_upto_region 1 with fail
  rw [← hW1]
  clear hW1
  go_wp2
  go_ret
  exact ⟨rfl, _, _, _, _, HX.out, HM.out⟩

set_option maxHeartbeats 1600000 in
set_option maxRecDepth 100000 in
theorem btake_many (B g : Nat) (op : List ND) (dn : Bool) (rt : ND) (ns pn : Nat) (vo : Value) (L : List ON) (r2 r3 : Value) (kd : Int) (nm vl : ByteArray) (w : World) (h : BX w B g ⟨op, dn, rt, ns, pn⟩ vo L r2 r3) (hk : kd = 1) (hd : dn = false) (hl : L.length < 8) (hn : ns = 64) :
    Calls Try.prog 34 #[.pointer (some ⟨g, 0, none⟩), .agg #[.int .i64 kd, .string nm, .string vl]] w fun e w' => e = .returned (.int .i64 7) ∧ ∃ vo' L' r2' r3', BX w' B g ⟨op, dn, rt, ns, pn⟩ vo' L' r2' r3' ∧ Moved w w' (fpO g vo L) (fpO g vo' L') := by
  subst hd
  subst hk
  obtain ⟨W1, hW1⟩ : ∃ W1, W1 = w.alloc (.cells #[.int .i64 1, .string nm, .string vl] 70) := ⟨_, rfl⟩
  have hb1 : Below w.heap.size w W1 := by rw [hW1]; exact (Below.refl _ _).alloc (Nat.le_refl _) _
  have hT : Arr W1 w.heap.size 70 (tkC ⟨1, nm, vl⟩) := by rw [hW1]; exact Arr.new w _ _
  have hX := h.below hb1
  have hM1 : Moved w W1 (fpO g vo L) (fpO g vo L) := Moved.of_below hb1 _
  obtain ⟨A, cap, rfl, hcap, hcm, _⟩ := row_form h.row
  unfold maxLen at hcm
  have c0 : W1.cell? ⟨g, 0, none⟩ = some (.slice A L.length cap) := hX.arr.cell 0
  have c1 : W1.cell? ⟨g, 1, none⟩ = some (.bool false) := hX.arr.cell 1
  have c5 : W1.cell? ⟨g, 5, none⟩ = some (.int .i64 (ns : Int)) := hX.arr.cell 5
  have c6 : W1.cell? ⟨g, 6, none⟩ = some (.int .i64 (pn : Int)) := hX.arr.cell 6
  have t0 : W1.cell? ⟨w.heap.size, 0, none⟩ = some (.int .i64 1) := hT.cell 0
  have t1 : W1.cell? ⟨w.heap.size, 1, none⟩ = some (.string nm) := hT.cell 1
  have t2 : W1.cell? ⟨w.heap.size, 2, none⟩ = some (.string vl) := hT.cell 2
  have f0 := hX.arr.frozen 0
  have f1 := hX.arr.frozen 1
  have f5 := hX.arr.frozen 5
  have f6 := hX.arr.frozen 6
  have HX := Lib.hid hX
  have HM := Lib.hid hM1
  have HT := Lib.hid hT
  have hgl := hX.arr.lt
  have htl := hT.lt
  clear h hb1 hX hM1 hT
  have d0 : ((L.length : Int) == 8) = false := by simp; omega
  have d1 : ((ns : Int) == 64) = true := by simp; omega
  clear hn
  go_enter Try.func34, Try.ntmps34
  go_upto_region 1 with fail
  rw [← hW1]
  clear hW1
  go_wp2
  go_ret
  exact ⟨rfl, _, _, _, _, HX.out, HM.out⟩

end Go.Proofs.Ytmgmpjgofolkgaa
