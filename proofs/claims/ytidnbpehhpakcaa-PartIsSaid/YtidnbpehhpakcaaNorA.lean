/- What nor's there, room, On, Ops, Bytes, Read, Power and Fuse do with a Chip, with a nil one and with a zero one. Conditions: room: a place that is not negative. -/
import Derived.Test.YtidnbpehhpakcaaNorMem
namespace Go.Proofs.Ytidnbpehhpakcaa
open Go.RowKit

/-- What the cells left and torn hold of a fuse. -/
def fitF : Option (Nat × ByteArray) → Int → ByteArray → Prop
  | none, left, _ => left = -1
  | some (k, t), left, torn => left = (k : Int) ∧ torn = t
/-- Block g is a Chip that is the flash c. -/
def RN (w : World) (g : Nat) (c : St) : Prop := c.ok ∧ ∃ left torn, Arr w g 75 (chipC true c.on c.ops left torn c.B) ∧ fitF c.fuse left torn
theorem RN.lt {w : World} {g : Nat} {c : St} (h : RN w g c) : g < w.heap.size := by obtain ⟨_, _, _, h, _⟩ := h; exact h.lt
theorem RN.below {w w' : World} {g B : Nat} {c : St} (h : RN w g c) (hb : Below B w w') (hg : g < B) : RN w' g c := by
  obtain ⟨h1, l, t, h2, h3⟩ := h; exact ⟨h1, l, t, h2.below hb hg, h3⟩
theorem RN.alloc {w : World} {g : Nat} {c : St} (h : RN w g c) (o : Obj) : RN (w.alloc o) g c := by
  obtain ⟨h1, l, t, h2, h3⟩ := h; exact ⟨h1, l, t, h2.alloc o, h3⟩
theorem RN.grown {w w' : World} {g g' : Nat} {c : St} (h : RN w g c) (hg : w.grownBy w' (some g')) (hne : g ≠ g') : RN w' g c := by
  obtain ⟨h1, l, t, h2, h3⟩ := h; exact ⟨h1, l, t, h2.grown hg (fun e => hne (by injection e)), h3⟩

theorem slice_mid (g x y : Nat) (hx : x < 24576) (h : x + y ≤ 24576) (W : World) : (Instr.sliceAt 73 (.pointer (some ⟨g, 5, none⟩)) (some (.int .i64 (x : Int))) (some (.int .i64 ((x : Int) + y))) none).run Try.prog W = .ok (.slice (some ⟨g, 5 + x, none⟩) y (24576 - x)) W := by
  have h1 : ¬ (24576 = x) := by omega
  have h2 : (x : Int) + y ≤ 24576 := by omega
  have h3 : ((x : Int) + y).toNat = x + y := by omega
  have h4 : (0 : Int) ≤ (x : Int) + y := by omega
  simp [Instr.sliceAt, run_underlying Try.underlying73, Instr.sureAddr, Instr.sliceBounds, Try.sizeOf5, Addr.add, h1, h2, h3, h4, go_sem]
theorem slice_end (g : Nat) (W : World) : (Instr.sliceAt 73 (.pointer (some ⟨g, 5, none⟩)) (some (.int .i64 ((24576 : Nat) : Int))) (some (.int .i64 (((24576 : Nat) : Int) + (0 : Nat)))) none).run Try.prog W = .ok (.slice (some ⟨g, 5, none⟩) 0 0) W := by
  simp [Instr.sliceAt, run_underlying Try.underlying73, Instr.sureAddr, Instr.sliceBounds, Try.sizeOf5, go_sem]

set_option maxRecDepth 100000 in
theorem there_any (a n : Int) (w : World) : Calls Try.prog 54 #[.int .i64 a, .int .i64 n] w fun e w' => e = .returned (.bool (thr a n)) ∧ w = w' := by
  by_cases h1 : 0 ≤ a
  · by_cases h2 : a ≤ 24576
    · by_cases h3 : 0 ≤ n
      · have hd1 : decide (0 ≤ a) = true := decide_eq_true h1
        have hd2 : decide (a ≤ 24576) = true := decide_eq_true h2
        have hd3 : decide (0 ≤ n) = true := decide_eq_true h3
        have ht : Hid (thr a n = decide (n ≤ 24576 - a)) := by unfold Hid thr; simp [h1, h2, h3]
        go_enter Try.func54, Try.ntmps54
        go_wp2
        go_ret
        exact ⟨by rw [ht.out]; rfl, rfl⟩
      · have hd1 : decide (0 ≤ a) = true := decide_eq_true h1
        have hd2 : decide (a ≤ 24576) = true := decide_eq_true h2
        have hd3 : decide (0 ≤ n) = false := decide_eq_false h3
        have ht : Hid (thr a n = false) := by unfold Hid thr; simp [h3]
        go_enter Try.func54, Try.ntmps54
        go_wp2
        go_ret
        exact ⟨by rw [ht.out]; rfl, rfl⟩
    · have hd1 : decide (0 ≤ a) = true := decide_eq_true h1
      have hd2 : decide (a ≤ 24576) = false := decide_eq_false h2
      have ht : Hid (thr a n = false) := by unfold Hid thr; simp [h2]
      go_enter Try.func54, Try.ntmps54
      go_wp2
      go_ret
      exact ⟨by rw [ht.out]; rfl, rfl⟩
  · have hd1 : decide (0 ≤ a) = false := decide_eq_false h1
    have ht : Hid (thr a n = false) := by unfold Hid thr; simp [h1]
    go_enter Try.func54, Try.ntmps54
    go_wp2
    go_ret
    exact ⟨by rw [ht.out]; rfl, rfl⟩
theorem room_any (a : Nat) (w : World) (r : Nat) (hr : 32 - a % 32 = r) : Calls Try.prog 63 #[.int .i64 a] w fun e w' => e = .returned (.int .i64 r) ∧ w = w' := by
  obtain ⟨m, hm⟩ : ∃ m, a % 32 = m := ⟨_, rfl⟩
  have h1 : ((a : Int).tmod 32) = (m : Int) := by rw [Int.tmod_eq_emod_of_nonneg (by omega)]; omega
  have hm2 : m < 32 := by omega
  have hr2 : Hid ((32 : Int) - m = r) := by unfold Hid; omega
  clear hm hr
  go_enter Try.func63, Try.ntmps63
  go_wp2
  go_ret
  exact ⟨by rw [← hr2.out]; rfl, rfl⟩
theorem on_any (g : Nat) (c : St) (w : World) (h : RN w g c) : Calls Try.prog 53 #[.pointer (some ⟨g, 0, none⟩)] w fun e w' => e = .returned (.bool c.on) ∧ w = w' := by
  obtain ⟨_, _, _, hA, _⟩ := h
  have hc := chip_on hA
  clear hA
  go_enter Try.func53, Try.ntmps53
  go_wp2
  go_ret
  exact ⟨rfl, rfl⟩
theorem bytes_any (g : Nat) (c : St) (w : World) (h : RN w g c) : Calls Try.prog 27 #[.pointer (some ⟨g, 0, none⟩)] w fun e w' => e = .returned (.string ⟨c.B.toArray⟩) ∧ w = w' := by
  obtain ⟨hok, _, _, hA, _⟩ := h
  have hc := chip_made hA
  have hs : (convert 82 9 (.slice (some ⟨g, 5, none⟩) 24576 24576)).run Try.prog w = .ok (.string ⟨c.B.toArray⟩) w := by
    have := chip_string hA 0 24576 24576 (by have := hok.1; omega)
    rwa [List.drop_zero, List.take_of_length_le (by have := hok.1; omega)] at this
  clear hA hok
  generalize c.B.toArray = bs at *
  go_enter Try.func27, Try.ntmps27
  go_wp2
  go_ret
  exact ⟨rfl, rfl⟩
theorem read_any (g : Nat) (c : St) (a n : Int) (w : World) (h : RN w g c) : Calls Try.prog 42 #[.pointer (some ⟨g, 0, none⟩), .int .i64 a, .int .i64 n] w fun e w' =>
    e = .returned (.tuple #[.string (rdS c a n).1, .int .i64 (rdS c a n).2]) ∧ w = w' := by
  have HON := Lib.hid (on_any g c w h)
  have HT := Lib.hid (there_any a n w)
  by_cases hon : c.on = false
  · have HR : Hid (rdS c a n = (⟨#[]⟩, 4)) := by unfold Hid rdS; rw [if_pos hon]
    rw [hon] at HON
    rw [HR.out]
    clear h hon
    go_enter Try.func42, Try.ntmps42
    go_wp2_with fail
    refine HON.out.mono ?_
    rintro e w1 ⟨rfl, rfl⟩
    go_wp2
    go_ret2
    exact ⟨rfl, rfl⟩
  · have hon2 : c.on = true := by simpa using hon
    rw [hon2] at HON
    by_cases ht : thr a n = false
    · have HR : Hid (rdS c a n = (⟨#[]⟩, 2)) := by unfold Hid rdS; rw [if_neg hon, if_pos ht]
      rw [HR.out]
      rw [ht] at HT
      clear h hon hon2 ht
      go_enter Try.func42, Try.ntmps42
      go_wp2_with fail
      refine HON.out.mono ?_
      rintro e w1 ⟨rfl, rfl⟩
      go_wp2_with fail
      refine HT.out.mono ?_
      rintro e w1 ⟨rfl, rfl⟩
      go_wp2
      go_ret2
      exact ⟨rfl, rfl⟩
    · have ht2 : thr a n = true := by simpa using ht
      have hb := thr_true ht2
      obtain ⟨x, rfl⟩ := Int.eq_ofNat_of_zero_le hb.1
      obtain ⟨y, rfl⟩ := Int.eq_ofNat_of_zero_le hb.2.2.1
      have hx : x ≤ 24576 := by omega
      have hy : x + y ≤ 24576 := by omega
      obtain ⟨hok, _, _, hA, _⟩ := h
      have HR : Hid (rdS c (x : Int) (y : Int) = (⟨((c.B.drop x).take y).toArray⟩, 0)) := by unfold Hid rdS; rw [if_neg hon, if_neg ht, Int.toNat_natCast, Int.toNat_natCast]
      obtain ⟨o, cp, hsl, hs⟩ : ∃ o cp, (Instr.sliceAt 73 (.pointer (some ⟨g, 5, none⟩)) (some (.int .i64 (x : Int))) (some (.int .i64 ((x : Int) + y))) none).run Try.prog w = .ok (.slice (some ⟨g, o, none⟩) y cp) w ∧
          (convert 82 9 (.slice (some ⟨g, o, none⟩) y cp)).run Try.prog w = .ok (.string ⟨((c.B.drop x).take y).toArray⟩) w := by
        by_cases he : x < 24576
        · exact ⟨5 + x, _, slice_mid g x y he hy w, chip_string hA x y _ (by have := hok.1; omega)⟩
        · obtain rfl : x = 24576 := by omega
          obtain rfl : y = 0 := by omega
          exact ⟨5, 0, slice_end g w, by have := chip_string hA 0 0 0 (by omega); rwa [List.take_zero] at this ⊢⟩
      rw [HR.out]
      rw [ht2] at HT
      generalize ((c.B.drop x).take y).toArray = bs at *
      clear hon hon2 ht hb ht2 hok hA HR
      go_enter Try.func42, Try.ntmps42
      go_wp2_with fail
      refine HON.out.mono ?_
      rintro e w1 ⟨rfl, rfl⟩
      go_wp2_with fail
      refine HT.out.mono ?_
      rintro e w1 ⟨rfl, rfl⟩
      go_wp2
      go_ret2
      exact ⟨rfl, rfl⟩
/-- A Chip that nobody made: a nil one, or a zero one. -/
def Nob (w : World) (p : Option Addr) : Prop := p = none ∨ ∃ g, p = some ⟨g, 0, none⟩ ∧ Arr w g 75 chip0
theorem nob_on (p : Option Addr) (w : World) (h : Nob w p) : Calls Try.prog 53 #[.pointer p] w fun e w' => e = .returned (.bool false) ∧ w = w' := by
  rcases h with rfl | ⟨g, rfl, hA⟩
  · go_enter Try.func53, Try.ntmps53
    go_wp2
    go_ret
    exact ⟨rfl, rfl⟩
  · have hc := chip_on hA
    clear hA
    go_enter Try.func53, Try.ntmps53
    go_wp2
    go_ret
    exact ⟨rfl, rfl⟩
theorem nob_bytes (p : Option Addr) (w : World) (h : Nob w p) : Calls Try.prog 27 #[.pointer p] w fun e w' => e = .returned (.string ⟨#[]⟩) ∧ w = w' := by
  rcases h with rfl | ⟨g, rfl, hA⟩
  · go_enter Try.func27, Try.ntmps27
    go_wp2
    go_ret
    exact ⟨rfl, rfl⟩
  · have hc := chip_made hA
    clear hA
    go_enter Try.func27, Try.ntmps27
    go_wp2
    go_ret
    exact ⟨rfl, rfl⟩
theorem nob_read (p : Option Addr) (a n : Int) (w : World) (h : Nob w p) : Calls Try.prog 42 #[.pointer p, .int .i64 a, .int .i64 n] w fun e w' => e = .returned (.tuple #[.string ⟨#[]⟩, .int .i64 4]) ∧ w = w' := by
  have HON := Lib.hid (nob_on p w h)
  clear h
  go_enter Try.func42, Try.ntmps42
  go_wp2_with fail
  refine HON.out.mono ?_
  rintro e w1 ⟨rfl, rfl⟩
  go_wp2
  go_ret2
  exact ⟨rfl, rfl⟩
theorem nob_erase (p : Option Addr) (s : Int) (w : World) (h : Nob w p) : Calls Try.prog 60 #[.pointer p, .int .i64 s] w fun e w' => e = .returned (.int .i64 4) ∧ w = w' := by
  have HON := Lib.hid (nob_on p w h)
  clear h
  go_enter Try.func60, Try.ntmps60
  go_wp2_with fail
  refine HON.out.mono ?_
  rintro e w1 ⟨rfl, rfl⟩
  go_wp2
  go_ret
  exact ⟨rfl, rfl⟩
theorem Nob.alloc {p : Option Addr} {w : World} (h : Nob w p) (o : Obj) : Nob (w.alloc o) p := by
  rcases h with h | ⟨g, h, hA⟩
  · exact .inl h
  · exact .inr ⟨g, h, hA.alloc o⟩
theorem nob_program (p : Option Addr) (a : Int) (s : ByteArray) (w : World) (h : Nob w p) : Calls Try.prog 64 #[.pointer p, .int .i64 a, .string s] w fun e w' => e = .returned (.int .i64 4) ∧ Below w.heap.size w w' := by
  have HON := Lib.hid (nob_on p (w.alloc (.cells #[.string s] 9)) (h.alloc _))
  have HB := Lib.hid ((Below.refl w.heap.size w).alloc (Nat.le_refl _) (.cells #[.string s] 9))
  clear h
  go_enter Try.func64, Try.ntmps64
  go_wp2_with fail
  refine HON.out.mono ?_
  rintro e w1 ⟨rfl, rfl⟩
  go_wp2
  go_ret
  exact ⟨rfl, HB.out⟩
theorem nob_write (p : Option Addr) (a : Int) (s : ByteArray) (w : World) (h : Nob w p) : Calls Try.prog 57 #[.pointer p, .int .i64 a, .string s] w fun e w' => e = .returned (.int .i64 4) ∧ w = w' := by
  have HON := Lib.hid (nob_on p w h)
  clear h
  go_enter Try.func57, Try.ntmps57
  go_wp2_with fail
  refine HON.out.mono ?_
  rintro e w1 ⟨rfl, rfl⟩
  go_wp2
  go_ret
  exact ⟨rfl, rfl⟩
end Go.Proofs.Ytidnbpehhpakcaa
