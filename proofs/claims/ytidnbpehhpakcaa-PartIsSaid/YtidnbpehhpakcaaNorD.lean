/- What nor's blow and operate do. Conditions: the bytes are there, at least one; fewer than 2^62 operations. -/
import Derived.Test.YtidnbpehhpakcaaNorC
namespace Go.Proofs.Ytidnbpehhpakcaa
open Go.RowKit

theorem Fun2.grown {g : Nat} {w0 w1 : World} {v : Value} {n : Nat} {T : Nat → UInt8 → UInt8 → UInt8} (h : Fun2 g w0 v n T) (hg : w0.grownBy w1 (some g)) : Fun2 g w1 v n T := by
  obtain ⟨f, caps, h1, h2, h3⟩ := h
  exact ⟨f, caps, h1, h2, fun w hw => h3 w (grown_trans hg hw)⟩
theorem Fun1.grown {g : Nat} {w0 w1 : World} {v : Value} {n : Nat} {F : Nat → UInt8 → UInt8} (h : Fun1 g w0 v n F) (hg : w0.grownBy w1 (some g)) : Fun1 g w1 v n F := by
  obtain ⟨f, caps, h1, h2, h3⟩ := h
  exact ⟨f, caps, h1, h2, fun w hw => h3 w (grown_trans hg hw)⟩

theorem arr_new_at (w : World) (t : TypeId) (cs : Array Value) (b : Nat) (h : w.heap.size = b) : Arr (w.alloc (.cells cs t)) b t cs := by subst h; exact Arr.new w t cs
theorem size_setCell (w : World) (p : Addr) (v : Value) : (w.setCell p v).heap.size = w.heap.size := by simp [World.setCell]
theorem size_alloc (w : World) (o : Obj) : (w.alloc o).heap.size = w.heap.size + 1 := Array.size_push _

set_option maxHeartbeats 800000 in
set_option maxRecDepth 100000 in
theorem blow_any (g : Nat) (on : Bool) (ops left : Int) (t : ByteArray) (B : List UInt8) (a n : Nat) (v : Value) (T : Nat → UInt8 → UInt8 → UInt8) (w : World) (hA : Arr w g 75 (chipC true on ops left t B)) (hB : B.length = 24576) (h0 : 0 < n) (hn : a + n ≤ 24576) (hf : Fun2 g w v n T) :
    Calls Try.prog 70 #[.pointer (some ⟨g, 0, none⟩), .int .i64 (a : Int), .int .i64 (n : Int), v] w fun e w' =>
      e = .returned (.tuple #[]) ∧ Arr w' g 75 (chipC true false ops (-1) ⟨#[]⟩ (if t.size = 0 then B else mapAt B a n fun i x => T i x (cyc t i))) ∧ w.grownBy w' (some g) := by
  have HF := Lib.hid hf
  obtain ⟨f, caps, rfl, hcf, hcl⟩ := hf
  have hgl := hA.lt
  have h1 := chip_on hA
  have h3 := chip_left hA
  have h4 := chip_torn hA
  have f1 := hA.frozen 1
  have f3 := hA.frozen 3
  have f4 := hA.frozen 4
  have HG : Hid (∀ W u, W = (((((w.setCell ⟨g, 1, none⟩ (.bool false)).setCell ⟨g, 3, none⟩ (.int .i64 (-1))).setCell ⟨g, 4, none⟩ (.string ⟨#[]⟩)).alloc (.cells #[.func (.func f) #[] caps] u)).alloc (.cells #[.string t] 9)) →
      Arr W g 75 (chipC true false ops (-1) ⟨#[]⟩ B) ∧ w.grownBy W (some g) ∧ Arr W w.heap.size u #[.func (.func f) #[] caps] ∧ Arr W (w.heap.size + 1) 9 #[.string t]) := by
    rintro W u rfl
    refine ⟨((chip_setTorn (chip_setLeft (chip_setOn hA false) (-1)) ⟨#[]⟩).alloc _).alloc _, ?_, (arr_new_at _ _ _ _ (by simp only [size_setCell])).alloc _, arr_new_at _ _ _ _ (by simp only [size_alloc, size_setCell])⟩
    exact grown_trans (grown_trans (grown_put (grown_put (grown_cell _ _ _ _) _ _) _ _) (grown_alloc _ _ _)) (grown_alloc _ _ _)
  clear hA hcl
  by_cases ht : t.size = 0
  · obtain rfl : t = ⟨#[]⟩ := by
      have : t.data = #[] := Array.eq_empty_of_size_eq_zero ht
      cases t; simp_all
    rw [if_pos ht]
    clear ht
    go_enter Try.func70, Try.ntmps70
    go_wp2
    obtain ⟨q1, q2, _, _⟩ := HG.out _ _ rfl
    exact bodyPost_ret (v := .tuple #[]) (results_none rfl _ _ _) rfl ⟨rfl, q1, q2⟩
  · have htl : (t.toList == []) = false := by
      rw [ByteArray.toList_eq]
      cases hd : t.data.toList with
      | nil => exact absurd (by rw [← Array.length_toList, hd]; rfl : t.data.size = 0) ht
      | cons x r => rfl
    have HT : Hid (0 < t.size) := Nat.pos_of_ne_zero ht
    rw [if_neg ht]
    clear ht
    go_enter Try.func70, Try.ntmps70
    go_wp2_with fail
    obtain ⟨q1, q2, q3, q4⟩ := HG.out _ _ rfl
    refine (change_any g true false ops (-1) ⟨#[]⟩ B a n _ (fun i x => T i x (cyc t i)) _ q1 hB h0 hn (bl_fun g w.heap.size (w.heap.size + 1) _ _ t T n (HF.out.grown q2) _ q3 q4 (by omega) (by omega) HT.out)).mono ?_
    rintro e w1 ⟨rfl, hA1, hg1⟩
    have HA1 := Lib.hid hA1
    have HG1 := Lib.hid (grown_trans q2 hg1)
    clear hA1 hg1 q1 q2 q3 q4
    go_wp2
    go_end0
    exact ⟨rfl, HA1.out, HG1.out⟩

set_option maxHeartbeats 800000 in
set_option maxRecDepth 100000 in
theorem operate_any (g : Nat) (c : St) (a n : Nat) (v u : Value) (F : Nat → UInt8 → UInt8) (T : Nat → UInt8 → UInt8 → UInt8) (w : World) (h : RN w g c) (hon : c.on = true) (ho : c.ops < 4611686018427387904) (h0 : 0 < n) (hn : a + n ≤ 24576) (hF : Fun1 g w v n F) (hT : Fun2 g w u n T) :
    Calls Try.prog 67 #[.pointer (some ⟨g, 0, none⟩), .int .i64 (a : Int), .int .i64 (n : Int), v, u] w fun e w' =>
      e = .returned (.int .i64 ((oper c a n F T).2 : Int)) ∧ RN w' g (oper c a n F T).1 ∧ w.grownBy w' (some g) := by
  have hok' := oper_ok h.1 hon a n F T
  obtain ⟨hok, left, torn, hA, hfit⟩ := h
  have hB := hok.1
  have h2 := chip_ops hA
  have h3 := chip_left hA
  have f2 := hA.frozen 2
  have f3 := hA.frozen 3
  have hA2 := chip_setOps hA ((c.ops : Int) + 1)
  have hg2 := grown_cell w g 2 (.int .i64 ((c.ops : Int) + 1))
  have hF2 := hF.grown hg2
  have hT2 := hT.grown hg2
  have hgl := hA.lt
  match hf : c.fuse with
  | none =>
    rw [hf] at hfit
    obtain rfl : left = -1 := hfit
    have HC := Lib.hid (change_any g true c.on _ _ torn c.B a n v F _ hA2 hB h0 hn hF2)
    have HR : Hid ((oper c a n F T).2 = 0 ∧ ∀ w', Arr w' g 75 (chipC true c.on ((c.ops : Int) + 1) (-1) torn (mapAt c.B a n F)) → RN w' g (oper c a n F T).1) := by
      unfold oper at hok' ⊢
      simp only [hf] at hok' ⊢
      exact ⟨trivial, fun w' hw' => ⟨hok', _, _, hw', rfl⟩⟩
    have HG2 := Lib.hid hg2
    clear hA hA2 hF hT hF2 hT2 hg2 hok hok' hf
    rw [HR.out.1]
    go_enter Try.func67, Try.ntmps67
    go_wp2_with fail
    refine HC.out.mono ?_
    rintro e w1 ⟨rfl, hA1, hg1⟩
    have HA1 := Lib.hid hA1
    have HG1 := Lib.hid (grown_trans HG2.out hg1)
    clear hA1 hg1
    go_wp2
    go_ret
    exact ⟨rfl, HR.out.2 _ HA1.out, HG1.out⟩
  | some (0, t) =>
    rw [hf] at hfit
    obtain ⟨rfl, rfl⟩ := hfit
    have HC := Lib.hid (blow_any g c.on _ _ torn c.B a n u T _ hA2 hB h0 hn hT2)
    have HR : Hid ((oper c a n F T).2 = 4 ∧ ∀ w', Arr w' g 75 (chipC true false ((c.ops : Int) + 1) (-1) ⟨#[]⟩ (if torn.size = 0 then c.B else mapAt c.B a n fun i x => T i x (cyc torn i))) → RN w' g (oper c a n F T).1) := by
      unfold oper at hok' ⊢
      simp only [hf] at hok' ⊢
      exact ⟨trivial, fun w' hw' => ⟨hok', _, _, hw', rfl⟩⟩
    have HG2 := Lib.hid hg2
    clear hA hA2 hF hT hF2 hT2 hg2 hok hok' hf
    rw [HR.out.1]
    go_enter Try.func67, Try.ntmps67
    go_wp2_with fail
    refine HC.out.mono ?_
    rintro e w1 ⟨rfl, hA1, hg1⟩
    have HA1 := Lib.hid hA1
    have HG1 := Lib.hid (grown_trans HG2.out hg1)
    clear hA1 hg1
    go_wp2
    go_ret
    exact ⟨rfl, HR.out.2 _ HA1.out, HG1.out⟩
  | some (k + 1, t) =>
    rw [hf] at hfit
    obtain ⟨hl, rfl⟩ := hfit
    have hkk := hok.2.2 _ _ hf
    obtain ⟨k1, hk1⟩ : ∃ k1 : Nat, k1 = k.succ := ⟨_, rfl⟩
    rw [← hk1] at hl
    subst hl
    have e : ((k1 : Int) - 1) = k := by omega
    have hA3 := chip_setLeft hA2 ((k1 : Int) - 1)
    have hg3 := grown_put hg2 3 (.int .i64 ((k1 : Int) - 1))
    have HC := Lib.hid (change_any g true c.on _ _ torn c.B a n v F _ hA3 hB h0 hn (hF.grown hg3))
    have HR : Hid ((oper c a n F T).2 = 0 ∧ ∀ w', Arr w' g 75 (chipC true c.on ((c.ops : Int) + 1) ((k1 : Int) - 1) torn (mapAt c.B a n F)) → RN w' g (oper c a n F T).1) := by
      unfold oper at hok' ⊢
      simp only [hf] at hok' ⊢
      exact ⟨trivial, fun w' hw' => ⟨hok', _, _, hw', e, rfl⟩⟩
    have HG2 := Lib.hid hg3
    have hk0 : 0 < k1 := by omega
    have hkn : ((k1 : Int) == 0) = false := by simp; omega
    have hkI : (0 : Int) < k1 := by omega
    have hk2 : k1 < 9223372036854775808 := by omega
    clear hA hA2 hF hT hF2 hT2 hg2 hok hok' hf hA3 hg3 hkk hk1 e
    rw [HR.out.1]
    go_enter Try.func67, Try.ntmps67
    go_wp2_with fail
    refine HC.out.mono ?_
    rintro e w1 ⟨rfl, hA1, hg1⟩
    have HA1 := Lib.hid hA1
    have HG1 := Lib.hid (grown_trans HG2.out hg1)
    clear hA1 hg1
    go_wp2
    go_ret
    exact ⟨rfl, HR.out.2 _ HA1.out, HG1.out⟩
end Go.Proofs.Ytidnbpehhpakcaa
