/- What package grammar's kindsOf returns. Conditions: a byte. -/
import Derived.Test.YtmgfnghegcfhnaaShelf
import Derived.Test.YtmgfnghegcfhnaaMg8
import Derived.Test.YtmgfnghegcfhnaaMg5
import Derived.Test.YtmgfnghegcfhnaaMg10
import Derived.Deep.WholeRow
namespace Go.Proofs.Ytmgfnghegcfhnaa
open Go.RowKit

theorem idx19 : ∀ c : Fin 256, (0 ≤ Lib.indexByte (ByteArray.mk #[44, 46, 95, 43, 45]).data.toList ((c.1 : Int).toNat.toUInt8)) ↔ (c.1 = 44 ∨ c.1 = 46 ∨ c.1 = 95 ∨ c.1 = 43 ∨ c.1 = 45) := by decide +kernel
/-- The three kinds, as a value. -/
def kindV (a b c : Bool) : Value := .agg #[.bool a, .bool b, .bool c]

theorem infoB3 (a b c : Bool) : (Try.prog.info? 46).map (·.size) = some (#[Value.bool a, .bool b, .bool c] : Array Value).size := by show _ = some 3; kernel_rfl

set_option maxHeartbeats 6400000 in
set_option maxRecDepth 100000 in
theorem kindsOf_any (c : Nat) (hc : c < 256) (w : World) : Calls Try.prog 23 #[.int .u8 (c : Int)] w fun e w' => e = .returned (.agg #[.bool (letC c), .bool (plaC c), .bool (prpC c)]) ∧ Below w.heap.size w w' := by
  have hi := idx19 ⟨c, hc⟩
  simp only at hi
  have HI := Lib.hid (Try.strings_IndexByte (ByteArray.mk #[44, 46, 95, 43, 45]) (c : Int))
  generalize Lib.indexByte (ByteArray.mk #[44, 46, 95, 43, 45]).data.toList ((c : Int).toNat.toUInt8) = k at hi HI
  have HR : Hid (∀ a b d, letC c = a → plaC c = b → prpC c = d → (Value.agg #[.bool (letC c), .bool (plaC c), .bool (prpC c)]) = .agg #[.bool a, .bool b, .bool d]) := fun a b d h1 h2 h3 => by rw [h1, h2, h3]
  by_cases hw : 97 ≤ c ∧ c ≤ 122
  · have HV := Lib.hid (HR.out true true true (by simp [letC]; omega) (by simp [plaC, letC]; omega) (by simp [prpC, plaC, letC]; omega))
    have d0 : decide ((97 : Int) ≤ (c : Int)) = true := decide_eq_true (by omega)
    have d1 : decide ((c : Int) ≤ 122) = true := decide_eq_true (by omega)
    generalize letC c = r1 at *
    generalize plaC c = r2 at *
    generalize prpC c = r3 at *
    have HB0 := Lib.hid (Below.refl w.heap.size w)
    clear HR hi hc hw
    go_enter Try.func23, Try.ntmps23
    go_wp2
    exact bodyPost_ret (v := .agg #[.bool true, .bool true, .bool true]) (results_cell_row rfl _ _ w.heap.size _ _ _ _ rfl ((Arr.new w _ _).alloc _) Try.underlying46 rfl (infoB3 _ _ _)) rfl ⟨by rw [HV.out], ((HB0.out.alloc (Nat.le_refl _) _).alloc (by rw [sz_alloc]; omega) _)⟩
  by_cases hw : 65 ≤ c ∧ c ≤ 90
  · have HV := Lib.hid (HR.out true true true (by simp [letC]; omega) (by simp [plaC, letC]; omega) (by simp [prpC, plaC, letC]; omega))
    have d0 : decide ((97 : Int) ≤ (c : Int)) = false := decide_eq_false (by omega)
    have d1 : decide ((65 : Int) ≤ (c : Int)) = true := decide_eq_true (by omega)
    have d2 : decide ((c : Int) ≤ 90) = true := decide_eq_true (by omega)
    generalize letC c = r1 at *
    generalize plaC c = r2 at *
    generalize prpC c = r3 at *
    have HB0 := Lib.hid (Below.refl w.heap.size w)
    clear HR hi hc hw
    go_enter Try.func23, Try.ntmps23
    go_wp2
    exact bodyPost_ret (v := .agg #[.bool true, .bool true, .bool true]) (results_cell_row rfl _ _ w.heap.size _ _ _ _ rfl ((Arr.new w _ _).alloc _) Try.underlying46 rfl (infoB3 _ _ _)) rfl ⟨by rw [HV.out], ((HB0.out.alloc (Nat.le_refl _) _).alloc (by rw [sz_alloc]; omega) _)⟩
  by_cases hw : 48 ≤ c ∧ c ≤ 57
  · have HV := Lib.hid (HR.out false true true (by simp [letC]; omega) (by simp [plaC, letC]; omega) (by simp [prpC, plaC, letC]; omega))
    have d0 : decide ((97 : Int) ≤ (c : Int)) = false := decide_eq_false (by omega)
    have d1 : decide ((65 : Int) ≤ (c : Int)) = false := decide_eq_false (by omega)
    have d2 : decide ((48 : Int) ≤ (c : Int)) = true := decide_eq_true (by omega)
    have d3 : decide ((c : Int) ≤ 57) = true := decide_eq_true (by omega)
    generalize letC c = r1 at *
    generalize plaC c = r2 at *
    generalize prpC c = r3 at *
    have HB0 := Lib.hid (Below.refl w.heap.size w)
    clear HR hi hc hw
    go_enter Try.func23, Try.ntmps23
    go_wp2
    exact bodyPost_ret (v := .agg #[.bool false, .bool true, .bool true]) (results_cell_row rfl _ _ w.heap.size _ _ _ _ rfl ((Arr.new w _ _).alloc _) Try.underlying46 rfl (infoB3 _ _ _)) rfl ⟨by rw [HV.out], ((HB0.out.alloc (Nat.le_refl _) _).alloc (by rw [sz_alloc]; omega) _)⟩
  by_cases hw : c < 48 ∧ 0 ≤ k
  · have HV := Lib.hid (HR.out false true true (by simp [letC]; omega) (by simp [plaC, letC]; omega) (by simp [prpC, plaC, letC]; omega))
    have d0 : decide ((97 : Int) ≤ (c : Int)) = false := decide_eq_false (by omega)
    have d1 : decide ((65 : Int) ≤ (c : Int)) = false := decide_eq_false (by omega)
    have d2 : decide ((48 : Int) ≤ (c : Int)) = false := decide_eq_false (by omega)
    have d3 : decide ((0 : Int) ≤ k) = true := decide_eq_true (by omega)
    generalize letC c = r1 at *
    generalize plaC c = r2 at *
    generalize prpC c = r3 at *
    have HB0 := Lib.hid (Below.refl w.heap.size w)
    clear HR hi hc hw
    go_enter Try.func23, Try.ntmps23
    go_wp2_with fail
    refine (HI.out _).mono ?_
    rintro e w1 ⟨rfl, rfl⟩
    go_wp2
    exact bodyPost_ret (v := .agg #[.bool false, .bool true, .bool true]) (results_cell_row rfl _ _ w.heap.size _ _ _ _ rfl ((Arr.new w _ _).alloc _) Try.underlying46 rfl (infoB3 _ _ _)) rfl ⟨by rw [HV.out], ((HB0.out.alloc (Nat.le_refl _) _).alloc (by rw [sz_alloc]; omega) _)⟩
  by_cases hw : c < 48 ∧ c = 35 ∧ ¬ 0 ≤ k
  · have HV := Lib.hid (HR.out false false true (by simp [letC]; omega) (by simp [plaC, letC]; omega) (by simp [prpC, plaC, letC]; omega))
    have d0 : decide ((97 : Int) ≤ (c : Int)) = false := decide_eq_false (by omega)
    have d1 : decide ((65 : Int) ≤ (c : Int)) = false := decide_eq_false (by omega)
    have d2 : decide ((48 : Int) ≤ (c : Int)) = false := decide_eq_false (by omega)
    have d3 : decide ((0 : Int) ≤ k) = false := decide_eq_false (by omega)
    have d4 : ((c : Int) == 63) = false := by simp; omega
    have d5 : ((c : Int) == 35) = true := by simp; omega
    generalize letC c = r1 at *
    generalize plaC c = r2 at *
    generalize prpC c = r3 at *
    have HB0 := Lib.hid (Below.refl w.heap.size w)
    clear HR hi hc hw
    go_enter Try.func23, Try.ntmps23
    go_wp2_with fail
    refine (HI.out _).mono ?_
    rintro e w1 ⟨rfl, rfl⟩
    go_wp2
    exact bodyPost_ret (v := .agg #[.bool false, .bool false, .bool true]) (results_cell_row rfl _ _ w.heap.size _ _ _ _ rfl ((Arr.new w _ _).alloc _) Try.underlying46 rfl (infoB3 _ _ _)) rfl ⟨by rw [HV.out], ((HB0.out.alloc (Nat.le_refl _) _).alloc (by rw [sz_alloc]; omega) _)⟩
  by_cases hw : c < 48 ∧ c ≠ 35 ∧ ¬ 0 ≤ k
  · have HV := Lib.hid (HR.out false false false (by simp [letC]; omega) (by simp [plaC, letC]; omega) (by simp [prpC, plaC, letC]; omega))
    have d0 : decide ((97 : Int) ≤ (c : Int)) = false := decide_eq_false (by omega)
    have d1 : decide ((65 : Int) ≤ (c : Int)) = false := decide_eq_false (by omega)
    have d2 : decide ((48 : Int) ≤ (c : Int)) = false := decide_eq_false (by omega)
    have d3 : decide ((0 : Int) ≤ k) = false := decide_eq_false (by omega)
    have d4 : ((c : Int) == 63) = false := by simp; omega
    have d5 : ((c : Int) == 35) = false := by simp; omega
    generalize letC c = r1 at *
    generalize plaC c = r2 at *
    generalize prpC c = r3 at *
    have HB0 := Lib.hid (Below.refl w.heap.size w)
    clear HR hi hc hw
    go_enter Try.func23, Try.ntmps23
    go_wp2_with fail
    refine (HI.out _).mono ?_
    rintro e w1 ⟨rfl, rfl⟩
    go_wp2
    exact bodyPost_ret (v := .agg #[.bool false, .bool false, .bool false]) (results_cell_row rfl _ _ w.heap.size _ _ _ _ rfl ((Arr.new w _ _).alloc _) Try.underlying46 rfl (infoB3 _ _ _)) rfl ⟨by rw [HV.out], ((HB0.out.alloc (Nat.le_refl _) _).alloc (by rw [sz_alloc]; omega) _)⟩
  by_cases hw : 58 ≤ c ∧ c ≤ 64 ∧ c = 63
  · have HV := Lib.hid (HR.out false false true (by simp [letC]; omega) (by simp [plaC, letC]; omega) (by simp [prpC, plaC, letC]; omega))
    have d0 : decide ((97 : Int) ≤ (c : Int)) = false := decide_eq_false (by omega)
    have d1 : decide ((65 : Int) ≤ (c : Int)) = false := decide_eq_false (by omega)
    have d2 : decide ((48 : Int) ≤ (c : Int)) = true := decide_eq_true (by omega)
    have d3 : decide ((c : Int) ≤ 57) = false := decide_eq_false (by omega)
    have d4 : decide ((0 : Int) ≤ k) = false := decide_eq_false (by omega)
    have d5 : ((c : Int) == 63) = true := by simp; omega
    generalize letC c = r1 at *
    generalize plaC c = r2 at *
    generalize prpC c = r3 at *
    have HB0 := Lib.hid (Below.refl w.heap.size w)
    clear HR hi hc hw
    go_enter Try.func23, Try.ntmps23
    go_wp2_with fail
    refine (HI.out _).mono ?_
    rintro e w1 ⟨rfl, rfl⟩
    go_wp2
    exact bodyPost_ret (v := .agg #[.bool false, .bool false, .bool true]) (results_cell_row rfl _ _ w.heap.size _ _ _ _ rfl ((Arr.new w _ _).alloc _) Try.underlying46 rfl (infoB3 _ _ _)) rfl ⟨by rw [HV.out], ((HB0.out.alloc (Nat.le_refl _) _).alloc (by rw [sz_alloc]; omega) _)⟩
  by_cases hw : 58 ≤ c ∧ c ≤ 64 ∧ c ≠ 63
  · have HV := Lib.hid (HR.out false false false (by simp [letC]; omega) (by simp [plaC, letC]; omega) (by simp [prpC, plaC, letC]; omega))
    have d0 : decide ((97 : Int) ≤ (c : Int)) = false := decide_eq_false (by omega)
    have d1 : decide ((65 : Int) ≤ (c : Int)) = false := decide_eq_false (by omega)
    have d2 : decide ((48 : Int) ≤ (c : Int)) = true := decide_eq_true (by omega)
    have d3 : decide ((c : Int) ≤ 57) = false := decide_eq_false (by omega)
    have d4 : decide ((0 : Int) ≤ k) = false := decide_eq_false (by omega)
    have d5 : ((c : Int) == 63) = false := by simp; omega
    have d6 : ((c : Int) == 35) = false := by simp; omega
    generalize letC c = r1 at *
    generalize plaC c = r2 at *
    generalize prpC c = r3 at *
    have HB0 := Lib.hid (Below.refl w.heap.size w)
    clear HR hi hc hw
    go_enter Try.func23, Try.ntmps23
    go_wp2_with fail
    refine (HI.out _).mono ?_
    rintro e w1 ⟨rfl, rfl⟩
    go_wp2
    exact bodyPost_ret (v := .agg #[.bool false, .bool false, .bool false]) (results_cell_row rfl _ _ w.heap.size _ _ _ _ rfl ((Arr.new w _ _).alloc _) Try.underlying46 rfl (infoB3 _ _ _)) rfl ⟨by rw [HV.out], ((HB0.out.alloc (Nat.le_refl _) _).alloc (by rw [sz_alloc]; omega) _)⟩
  by_cases hw : 91 ≤ c ∧ c ≤ 96 ∧ 0 ≤ k
  · have HV := Lib.hid (HR.out false true true (by simp [letC]; omega) (by simp [plaC, letC]; omega) (by simp [prpC, plaC, letC]; omega))
    have d0 : decide ((97 : Int) ≤ (c : Int)) = false := decide_eq_false (by omega)
    have d1 : decide ((65 : Int) ≤ (c : Int)) = true := decide_eq_true (by omega)
    have d2 : decide ((c : Int) ≤ 90) = false := decide_eq_false (by omega)
    have d3 : decide ((48 : Int) ≤ (c : Int)) = true := decide_eq_true (by omega)
    have d4 : decide ((c : Int) ≤ 57) = false := decide_eq_false (by omega)
    have d5 : decide ((0 : Int) ≤ k) = true := decide_eq_true (by omega)
    generalize letC c = r1 at *
    generalize plaC c = r2 at *
    generalize prpC c = r3 at *
    have HB0 := Lib.hid (Below.refl w.heap.size w)
    clear HR hi hc hw
    go_enter Try.func23, Try.ntmps23
    go_wp2_with fail
    refine (HI.out _).mono ?_
    rintro e w1 ⟨rfl, rfl⟩
    go_wp2
    exact bodyPost_ret (v := .agg #[.bool false, .bool true, .bool true]) (results_cell_row rfl _ _ w.heap.size _ _ _ _ rfl ((Arr.new w _ _).alloc _) Try.underlying46 rfl (infoB3 _ _ _)) rfl ⟨by rw [HV.out], ((HB0.out.alloc (Nat.le_refl _) _).alloc (by rw [sz_alloc]; omega) _)⟩
  by_cases hw : 91 ≤ c ∧ c ≤ 96 ∧ ¬ 0 ≤ k
  · have HV := Lib.hid (HR.out false false false (by simp [letC]; omega) (by simp [plaC, letC]; omega) (by simp [prpC, plaC, letC]; omega))
    have d0 : decide ((97 : Int) ≤ (c : Int)) = false := decide_eq_false (by omega)
    have d1 : decide ((65 : Int) ≤ (c : Int)) = true := decide_eq_true (by omega)
    have d2 : decide ((c : Int) ≤ 90) = false := decide_eq_false (by omega)
    have d3 : decide ((48 : Int) ≤ (c : Int)) = true := decide_eq_true (by omega)
    have d4 : decide ((c : Int) ≤ 57) = false := decide_eq_false (by omega)
    have d5 : decide ((0 : Int) ≤ k) = false := decide_eq_false (by omega)
    have d6 : ((c : Int) == 63) = false := by simp; omega
    have d7 : ((c : Int) == 35) = false := by simp; omega
    generalize letC c = r1 at *
    generalize plaC c = r2 at *
    generalize prpC c = r3 at *
    have HB0 := Lib.hid (Below.refl w.heap.size w)
    clear HR hi hc hw
    go_enter Try.func23, Try.ntmps23
    go_wp2_with fail
    refine (HI.out _).mono ?_
    rintro e w1 ⟨rfl, rfl⟩
    go_wp2
    exact bodyPost_ret (v := .agg #[.bool false, .bool false, .bool false]) (results_cell_row rfl _ _ w.heap.size _ _ _ _ rfl ((Arr.new w _ _).alloc _) Try.underlying46 rfl (infoB3 _ _ _)) rfl ⟨by rw [HV.out], ((HB0.out.alloc (Nat.le_refl _) _).alloc (by rw [sz_alloc]; omega) _)⟩
  by_cases hw : 123 ≤ c
  · have HV := Lib.hid (HR.out false false false (by simp [letC]; omega) (by simp [plaC, letC]; omega) (by simp [prpC, plaC, letC]; omega))
    have d0 : decide ((97 : Int) ≤ (c : Int)) = true := decide_eq_true (by omega)
    have d1 : decide ((c : Int) ≤ 122) = false := decide_eq_false (by omega)
    have d2 : decide ((65 : Int) ≤ (c : Int)) = true := decide_eq_true (by omega)
    have d3 : decide ((c : Int) ≤ 90) = false := decide_eq_false (by omega)
    have d4 : decide ((48 : Int) ≤ (c : Int)) = true := decide_eq_true (by omega)
    have d5 : decide ((c : Int) ≤ 57) = false := decide_eq_false (by omega)
    have d6 : decide ((0 : Int) ≤ k) = false := decide_eq_false (by omega)
    have d7 : ((c : Int) == 63) = false := by simp; omega
    have d8 : ((c : Int) == 35) = false := by simp; omega
    generalize letC c = r1 at *
    generalize plaC c = r2 at *
    generalize prpC c = r3 at *
    have HB0 := Lib.hid (Below.refl w.heap.size w)
    clear HR hi hc hw
    go_enter Try.func23, Try.ntmps23
    go_wp2_with fail
    refine (HI.out _).mono ?_
    rintro e w1 ⟨rfl, rfl⟩
    go_wp2
    exact bodyPost_ret (v := .agg #[.bool false, .bool false, .bool false]) (results_cell_row rfl _ _ w.heap.size _ _ _ _ rfl ((Arr.new w _ _).alloc _) Try.underlying46 rfl (infoB3 _ _ _)) rfl ⟨by rw [HV.out], ((HB0.out.alloc (Nat.le_refl _) _).alloc (by rw [sz_alloc]; omega) _)⟩
  exfalso; omega
end Go.Proofs.Ytmgfnghegcfhnaa
