/- The document's flash in memory, and what its Load, Set, Power, Read and blown do. Conditions: Load: at most 24576 bytes; Set: a number of 64 bits; blown: fewer than 2^62 operations. -/
import Derived.Test.YtidnbpehhpakcaaNorIB
namespace Go.Proofs.Ytidnbpehhpakcaa
open Go.RowKit

/-- The cells of the document's Chip. -/
def refC (B : ByteArray) (on : Bool) (fu : Int) (t : ByteArray) (ops : Int) : Array Value := #[.string B, .bool on, .int .i64 fu, .string t, .int .i64 ops]
/-- Block g is the document's Chip that is the flash c. -/
def RR (w : World) (g : Nat) (c : St) : Prop := c.ok ∧ ∃ fu t, Arr w g 65 (refC ⟨c.B.toArray⟩ c.on fu t c.ops) ∧ (c.on = true → fitF c.fuse fu t)
theorem RR.lt {w : World} {g : Nat} {c : St} (h : RR w g c) : g < w.heap.size := by obtain ⟨_, _, _, h, _⟩ := h; exact h.lt
theorem RR.below {w w' : World} {g B : Nat} {c : St} (h : RR w g c) (hb : Below B w w') (hg : g < B) : RR w' g c := by
  obtain ⟨h1, l, t, h2, h3⟩ := h; exact ⟨h1, l, t, h2.below hb hg, h3⟩
theorem RR.alloc {w : World} {g : Nat} {c : St} (h : RR w g c) (o : Obj) : RR (w.alloc o) g c := by
  obtain ⟨h1, l, t, h2, h3⟩ := h; exact ⟨h1, l, t, h2.alloc o, h3⟩
theorem RR.grown {w w' : World} {g g' : Nat} {c : St} (h : RR w g c) (hg : w.grownBy w' (some g')) (hne : g ≠ g') : RR w' g c := by
  obtain ⟨h1, l, t, h2, h3⟩ := h; exact ⟨h1, l, t, h2.grown hg (fun e => hne (by injection e)), h3⟩
section
variable {w : World} {g t : Nat} {B : ByteArray} {on : Bool} {fu ops : Int} {tn : ByteArray}
theorem ref_B (h : Arr w g t (refC B on fu tn ops)) : w.cell? ⟨g, 0, none⟩ = some (.string B) := h.cell 0
theorem ref_on (h : Arr w g t (refC B on fu tn ops)) : w.cell? ⟨g, 1, none⟩ = some (.bool on) := h.cell 1
theorem ref_fuse (h : Arr w g t (refC B on fu tn ops)) : w.cell? ⟨g, 2, none⟩ = some (.int .i64 fu) := h.cell 2
theorem ref_torn (h : Arr w g t (refC B on fu tn ops)) : w.cell? ⟨g, 3, none⟩ = some (.string tn) := h.cell 3
theorem ref_ops (h : Arr w g t (refC B on fu tn ops)) : w.cell? ⟨g, 4, none⟩ = some (.int .i64 ops) := h.cell 4
theorem ref_setB (h : Arr w g t (refC B on fu tn ops)) (x : ByteArray) : Arr (w.setCell ⟨g, 0, none⟩ (.string x)) g t (refC x on fu tn ops) := h.put 0 _
theorem ref_setOn (h : Arr w g t (refC B on fu tn ops)) (x : Bool) : Arr (w.setCell ⟨g, 1, none⟩ (.bool x)) g t (refC B x fu tn ops) := h.put 1 _
theorem ref_setFuse (h : Arr w g t (refC B on fu tn ops)) (x : Int) : Arr (w.setCell ⟨g, 2, none⟩ (.int .i64 x)) g t (refC B on x tn ops) := h.put 2 _
theorem ref_setTorn (h : Arr w g t (refC B on fu tn ops)) (x : ByteArray) : Arr (w.setCell ⟨g, 3, none⟩ (.string x)) g t (refC B on fu x ops) := h.put 3 _
theorem ref_setOps (h : Arr w g t (refC B on fu tn ops)) (x : Int) : Arr (w.setCell ⟨g, 4, none⟩ (.int .i64 x)) g t (refC B on fu tn x) := h.put 4 _
end
theorem arr_size' (B : List UInt8) : (⟨B.toArray⟩ : ByteArray).size = B.length := by show B.toArray.size = _; simp
theorem arr_extract (B : List UInt8) (x y : Nat) : (⟨B.toArray⟩ : ByteArray).extract x (x + y) = ⟨((B.drop x).take y).toArray⟩ := by
  have : ((⟨B.toArray⟩ : ByteArray).extract x (x + y)).data = ((B.drop x).take y).toArray := by
    rw [ByteArray.data_extract]
    apply Array.ext'
    simp
  rw [← this]

set_option maxHeartbeats 800000 in
set_option maxRecDepth 100000 in
theorem refread_any (g : Nat) (c : St) (a n : Int) (w : World) (h : RR w g c) (ha : -9223372036854775808 ≤ a) : Calls Try.prog 36 #[.pointer (some ⟨g, 0, none⟩), .int .i64 a, .int .i64 n] w fun e w' =>
    e = .returned (.tuple #[.string (rdS c a n).1, .int .i64 (rdS c a n).2]) ∧ w = w' := by
  obtain ⟨hok, fu, t0, hA, hfit⟩ := h
  have h0 := ref_B hA
  have h1 := ref_on hA
  have hz : (⟨c.B.toArray⟩ : ByteArray).size = 24576 := by rw [arr_size']; exact hok.1
  have HEX := Lib.hid (arr_extract c.B)
  clear hA hfit hok
  by_cases hon : c.on = false
  · have HR : Hid (rdS c a n = (⟨#[]⟩, 4)) := by unfold Hid rdS; rw [if_pos hon]
    rw [HR.out]
    rw [hon] at h1
    clear hon
    generalize (⟨c.B.toArray⟩ : ByteArray) = S at *
    go_enter Try.func36, Try.ntmps36
    go_wp2
    go_ret2
    exact ⟨rfl, rfl⟩
  · have hon2 : c.on = true := by simpa using hon
    rw [hon2] at h1
    by_cases ht : thr a n = false
    · have HR : Hid (rdS c a n = (⟨#[]⟩, 2)) := by unfold Hid rdS; rw [if_neg hon, if_pos ht]
      rw [HR.out]
      have hf := thr_false ht
      generalize (⟨c.B.toArray⟩ : ByteArray) = S at *
      have hzI : (S.size : Int) = 24576 := by omega
      clear hon hon2 ht
      by_cases q1 : a < 0
      · have d1 : decide (a < 0) = true := decide_eq_true q1
        clear hf
        go_enter Try.func36, Try.ntmps36
        go_wp2
        go_ret2
        exact ⟨rfl, rfl⟩
      · have d1 : decide (a < 0) = false := decide_eq_false q1
        by_cases q2 : n < 0
        · have d2 : decide (n < 0) = true := decide_eq_true q2
          clear hf
          go_enter Try.func36, Try.ntmps36
          go_wp2
          go_ret2
          exact ⟨rfl, rfl⟩
        · have d2 : decide (n < 0) = false := decide_eq_false q2
          by_cases q3 : 24576 < a
          · have d3 : decide ((S.size : Int) < a) = true := decide_eq_true (by omega)
            have d3' : decide ((24576 : Int) < a) = true := decide_eq_true (by omega)
            clear hf
            go_enter Try.func36, Try.ntmps36
            go_wp2
            go_ret2
            exact ⟨rfl, rfl⟩
          · have d3 : decide ((S.size : Int) < a) = false := decide_eq_false (by omega)
            have d3' : decide ((24576 : Int) < a) = false := decide_eq_false (by omega)
            have d4 : decide ((S.size : Int) - a < n) = true := decide_eq_true (by omega)
            have d4' : decide ((24576 : Int) - a < n) = true := decide_eq_true (by omega)
            clear hf
            go_enter Try.func36, Try.ntmps36
            go_wp2
            go_ret2
            exact ⟨rfl, rfl⟩
    · have ht2 : thr a n = true := by simpa using ht
      have hb := thr_true ht2
      obtain ⟨x, rfl⟩ := Int.eq_ofNat_of_zero_le hb.1
      obtain ⟨y, rfl⟩ := Int.eq_ofNat_of_zero_le hb.2.2.1
      have hx : x ≤ 24576 := by omega
      have hy : x + y ≤ 24576 := by omega
      have HR : Hid (rdS c (x : Int) (y : Int) = (⟨((c.B.drop x).take y).toArray⟩, 0)) := by unfold Hid rdS; rw [if_neg hon, if_neg ht, Int.toNat_natCast, Int.toNat_natCast]
      have hex := HEX.out x y
      rw [HR.out, ← hex]
      clear hon hon2 ht hb ht2 HR hex HEX
      generalize (⟨c.B.toArray⟩ : ByteArray) = S at *
      have hzI : (S.size : Int) = 24576 := by omega
      have d1 : decide ((x : Int) < 0) = false := decide_eq_false (by omega)
      have d2 : decide ((y : Int) < 0) = false := decide_eq_false (by omega)
      have d3 : decide ((S.size : Int) < x) = false := decide_eq_false (by omega)
      have d3' : decide ((24576 : Int) < x) = false := decide_eq_false (by omega)
      have d4 : decide ((S.size : Int) - x < y) = false := decide_eq_false (by omega)
      have d4' : decide ((24576 : Int) - x < y) = false := decide_eq_false (by omega)
      have hxy : (x : Int) + y ≤ S.size := by omega
      go_enter Try.func36, Try.ntmps36
      go_wp2
      go_ret2
      exact ⟨rfl, rfl⟩
end Go.Proofs.Ytidnbpehhpakcaa
