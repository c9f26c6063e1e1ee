/- Which bits an act may change, in plain words. No condition: nothing of the program stands in it. -/
import Derived.Test.YtidnbpehhpakcaaNorIB
namespace Go.Proofs.Ytidnbpehhpakcaa

theorem u255 (x : UInt8) : 255 &&& x = x := by
  apply UInt8.toNat_inj.1
  rw [UInt8.toNat_and, Nat.and_comm]
  have := Nat.and_two_pow_sub_one_eq_mod x.toNat 8
  have hx := x.toNat_lt
  show x.toNat &&& 255 = x.toNat
  rw [show (255 : Nat) = 2 ^ 8 - 1 from rfl, this]
  omega
theorem and_again (x y : UInt8) : (x &&& y) &&& x = x &&& y := by rw [UInt8.and_comm (x &&& y) x, ← UInt8.and_assoc, UInt8.and_self]
theorem and_trans {x y z : UInt8} (h : x &&& y = x) (h' : y &&& z = y) : x &&& z = x := by
  rw [← h, UInt8.and_assoc, h']
/-- Bits are set, or cleared, among n bytes from a on, and nowhere else. -/
def Up (B B' : List UInt8) (a n : Nat) : Prop := ∀ k, k < B.length → (¬ (a ≤ k ∧ k < a + n) → B'.getD k 0 = B.getD k 0) ∧ B'.getD k 0 &&& B.getD k 0 = B.getD k 0
def Dn (B B' : List UInt8) (a n : Nat) : Prop := ∀ k, k < B.length → (¬ (a ≤ k ∧ k < a + n) → B'.getD k 0 = B.getD k 0) ∧ B'.getD k 0 &&& B.getD k 0 = B'.getD k 0
theorem up_refl (B : List UInt8) (a n : Nat) : Up B B a n := fun _ _ => ⟨fun _ => rfl, UInt8.and_self⟩
theorem dn_refl (B : List UInt8) (a n : Nat) : Dn B B a n := fun _ _ => ⟨fun _ => rfl, UInt8.and_self⟩
theorem up_map (B : List UInt8) (a n : Nat) (F : Nat → UInt8 → UInt8) (h : ∀ i x, F i x &&& x = x) : Up B (mapAt B a n F) a n := by
  intro k hk
  rw [mapAt_getD _ _ _ _ _ hk]
  by_cases hc : a ≤ k ∧ k < a + n
  · rw [if_pos hc]; exact ⟨fun e => absurd hc e, h _ _⟩
  · rw [if_neg hc]; exact ⟨fun _ => rfl, UInt8.and_self⟩
theorem dn_map (B : List UInt8) (a n : Nat) (F : Nat → UInt8 → UInt8) (h : ∀ i x, F i x &&& x = F i x) : Dn B (mapAt B a n F) a n := by
  intro k hk
  rw [mapAt_getD _ _ _ _ _ hk]
  by_cases hc : a ≤ k ∧ k < a + n
  · rw [if_pos hc]; exact ⟨fun e => absurd hc e, h _ _⟩
  · rw [if_neg hc]; exact ⟨fun _ => rfl, UInt8.and_self⟩
theorem oper_up (c : St) (a n : Nat) (F : Nat → UInt8 → UInt8) (T : Nat → UInt8 → UInt8 → UInt8) (hF : ∀ i x, F i x &&& x = x) (hT : ∀ i x b, T i x b &&& x = x) : Up c.B (oper c a n F T).1.B a n := by
  unfold oper
  split
  · exact up_map _ _ _ _ hF
  · show Up c.B (if _ then _ else _) a n
    split
    · exact up_refl _ _ _
    · exact up_map _ _ _ _ (fun i x => hT i x _)
  · exact up_map _ _ _ _ hF
theorem oper_dn (c : St) (a n : Nat) (F : Nat → UInt8 → UInt8) (T : Nat → UInt8 → UInt8 → UInt8) (hF : ∀ i x, F i x &&& x = F i x) (hT : ∀ i x b, T i x b &&& x = T i x b) : Dn c.B (oper c a n F T).1.B a n := by
  unfold oper
  split
  · exact dn_map _ _ _ _ hF
  · show Dn c.B (if _ then _ else _) a n
    split
    · exact dn_refl _ _ _
    · exact dn_map _ _ _ _ (fun i x => hT i x _)
  · exact dn_map _ _ _ _ hF
theorem oper_length (c : St) (a n : Nat) (F : Nat → UInt8 → UInt8) (T : Nat → UInt8 → UInt8 → UInt8) : (oper c a n F T).1.B.length = c.B.length := by
  unfold oper
  split
  · exact mapAt_length _ _ _ _
  · show List.length (if _ then _ else _) = _
    split
    · rfl
    · exact mapAt_length _ _ _ _
  · exact mapAt_length _ _ _ _
theorem erS_bits (c : St) (s : Int) (h : (erS c s).1.B ≠ c.B) : c.on = true ∧ ∃ q : Nat, s = q ∧ q < 48 ∧ Up c.B (erS c s).1.B (q * 512) 512 := by
  unfold erS at h ⊢
  by_cases h0 : c.on = false
  · rw [if_pos h0] at h; exact absurd rfl h
  · rw [if_neg h0] at h ⊢
    by_cases h1 : s < 0 ∨ 48 ≤ s
    · rw [if_pos h1] at h; exact absurd rfl h
    · rw [if_neg h1] at h ⊢
      refine ⟨by simpa using h0, s.toNat, by omega, by omega, oper_up _ _ _ _ _ (fun _ x => u255 x) (fun _ x b => ?_)⟩
      unfold erT
      split
      · exact u255 x
      · exact UInt8.and_self
theorem prS_length (c : St) (a : Int) (s : ByteArray) : (prS c a s).1.B.length = c.B.length := by
  unfold prS
  split
  · rfl
  · split
    · rfl
    · split
      · rfl
      · split
        · rfl
        · exact oper_length _ _ _ _ _
theorem prS_dn (c : St) (a : Nat) (s : ByteArray) : Dn c.B (prS c a s).1.B a s.size := by
  unfold prS
  split
  · exact dn_refl _ _ _
  · split
    · exact dn_refl _ _ _
    · split
      · exact dn_refl _ _ _
      · split
        · exact dn_refl _ _ _
        · rw [Int.toNat_natCast]
          exact oper_dn _ _ _ _ _ (fun i x => and_again _ _) (fun i x b => and_again _ _)
theorem prS_bits (c : St) (a : Int) (s : ByteArray) (h : (prS c a s).1.B ≠ c.B) : c.on = true ∧ ∃ q : Nat, a = q ∧ q ≤ 24576 ∧ Dn c.B (prS c a s).1.B q s.size := by
  have hd : c.on = true ∧ 0 ≤ a ∧ a ≤ 24576 := by
    unfold prS at h
    by_cases h0 : c.on = false
    · rw [if_pos h0] at h; exact absurd rfl h
    · rw [if_neg h0] at h
      by_cases h1 : s.size = 0 ∨ 32 < s.size
      · rw [if_pos h1] at h; exact absurd rfl h
      · rw [if_neg h1] at h
        by_cases h2 : thr a s.size = false
        · rw [if_pos h2] at h; exact absurd rfl h
        · have := thr_true (by simpa using h2)
          exact ⟨by simpa using h0, by omega, by omega⟩
  obtain ⟨q, rfl⟩ := Int.eq_ofNat_of_zero_le hd.2.1
  exact ⟨hd.1, q, rfl, by omega, prS_dn c q s⟩
theorem dn_trans {B B1 B2 : List UInt8} {a n m N : Nat} (hl : B1.length = B.length) (h : Dn B B1 a n) (h' : Dn B1 B2 (a + n) m) (hN : N = n + m) : Dn B B2 a N := by
  subst hN
  intro k hk
  obtain ⟨p1, p2⟩ := h k hk
  obtain ⟨p3, p4⟩ := h' k (by omega)
  refine ⟨fun e => ?_, and_trans p4 p2⟩
  rw [p3 (by omega), p1 (by omega)]
theorem wrL_dn (f : Nat) (c : St) (a : Nat) (s : ByteArray) : Dn c.B (wrL f c a s).1.B a s.size := by
  induction f generalizing c a s with
  | zero => exact dn_refl _ _ _
  | succ f ih =>
    unfold wrL
    by_cases h0 : s.size = 0
    · rw [if_pos h0]; exact dn_refl _ _ _
    · rw [if_neg h0]
      have z1 : (s.extract 0 (min s.size (32 - a % 32))).size = min s.size (32 - a % 32) := by rw [ByteArray.size_extract]; omega
      have z2 : (s.extract (min s.size (32 - a % 32)) s.size).size = s.size - min s.size (32 - a % 32) := by rw [ByteArray.size_extract]; omega
      have hd := prS_dn c a (s.extract 0 (min s.size (32 - a % 32)))
      rw [z1] at hd
      by_cases h1 : (prS c a (s.extract 0 (min s.size (32 - a % 32)))).2 = 0
      · rw [if_pos h1]
        have := ih (prS c a (s.extract 0 (min s.size (32 - a % 32)))).1 (a + min s.size (32 - a % 32)) (s.extract (min s.size (32 - a % 32)) s.size)
        rw [z2] at this
        exact dn_trans (prS_length _ _ _) hd this (by omega)
      · rw [if_neg h1]
        intro k hk
        obtain ⟨p1, p2⟩ := hd k hk
        exact ⟨fun e => p1 (by omega), p2⟩
theorem wrS_bits (c : St) (a : Int) (s : ByteArray) (h : (wrS c a s).1.B ≠ c.B) : c.on = true ∧ ∃ q : Nat, a = q ∧ q ≤ 24576 ∧ Dn c.B (wrS c a s).1.B q s.size := by
  unfold wrS at h ⊢
  by_cases h0 : c.on = false
  · rw [if_pos h0] at h; exact absurd rfl h
  · rw [if_neg h0] at h ⊢
    by_cases h2 : thr a s.size = false
    · rw [if_pos h2] at h; exact absurd rfl h
    · rw [if_neg h2]
      have := thr_true (by simpa using h2)
      exact ⟨by simpa using h0, a.toNat, by omega, by omega, wrL_dn _ _ _ _⟩
theorem wrL_ops (f : Nat) (c : St) (a : Nat) (s : ByteArray) : (wrL f c a s).1.ops ≤ c.ops + s.size := by
  induction f generalizing c a s with
  | zero => exact Nat.le_add_right _ _
  | succ f ih =>
    unfold wrL
    by_cases h0 : s.size = 0
    · rw [if_pos h0]; exact Nat.le_add_right _ _
    · rw [if_neg h0]
      have z2 : (s.extract (min s.size (32 - a % 32)) s.size).size = s.size - min s.size (32 - a % 32) := by rw [ByteArray.size_extract]; omega
      have hp := prS_ops c a (s.extract 0 (min s.size (32 - a % 32)))
      by_cases h1 : (prS c a (s.extract 0 (min s.size (32 - a % 32)))).2 = 0
      · rw [if_pos h1]
        have := ih (prS c a (s.extract 0 (min s.size (32 - a % 32)))).1 (a + min s.size (32 - a % 32)) (s.extract (min s.size (32 - a % 32)) s.size)
        rw [z2] at this
        omega
      · rw [if_neg h1]; omega
theorem doS_ops (c : St) (x : AC) : (doS c x).1.ops ≤ c.ops + 1 + x.s.size := by
  have h1 := erS_ops c x.pl
  have h2 := prS_ops c x.pl x.s
  have h3 : (wrS c x.pl x.s).1.ops ≤ c.ops + x.s.size := by
    unfold wrS
    split
    · exact Nat.le_add_right _ _
    · split
      · exact Nat.le_add_right _ _
      · exact wrL_ops _ _ _ _
  have h4 : (fuS c x.n x.s).ops = c.ops := by unfold fuS; split <;> rfl
  unfold doS
  split
  · show (erS c x.pl).1.ops ≤ _; omega
  · split
    · show (prS c x.pl x.s).1.ops ≤ _; omega
    · split
      · show (wrS c x.pl x.s).1.ops ≤ _; omega
      · split
        · show (fuS c x.n x.s).ops ≤ _; omega
        · split
          · show c.ops ≤ _; omega
          · split
            · show c.ops ≤ _; omega
            · show c.ops ≤ _; omega
/-- What an act that changes a byte is, and what it may change. -/
theorem doS_bits (c : St) (x : AC) (h : (doS c x).1.B ≠ c.B) : c.on = true ∧ ((x.kind = 1 ∧ ∃ q : Nat, x.pl = q ∧ q < 48 ∧ Up c.B (doS c x).1.B (q * 512) 512) ∨ ((x.kind = 2 ∨ x.kind = 3) ∧ ∃ q : Nat, x.pl = q ∧ q ≤ 24576 ∧ Dn c.B (doS c x).1.B q x.s.size)) := by
  unfold doS at h ⊢
  by_cases k1 : x.kind = 1
  · rw [if_pos k1] at h ⊢
    obtain ⟨p, q⟩ := erS_bits c x.pl h
    exact ⟨p, .inl ⟨k1, q⟩⟩
  · rw [if_neg k1] at h ⊢
    by_cases k2 : x.kind = 2
    · rw [if_pos k2] at h ⊢
      obtain ⟨p, q⟩ := prS_bits c x.pl x.s h
      exact ⟨p, .inr ⟨.inl k2, q⟩⟩
    · rw [if_neg k2] at h ⊢
      by_cases k3 : x.kind = 3
      · rw [if_pos k3] at h ⊢
        obtain ⟨p, q⟩ := wrS_bits c x.pl x.s h
        exact ⟨p, .inr ⟨.inr k3, q⟩⟩
      · rw [if_neg k3] at h
        refine absurd ?_ h
        split
        · show (fuS c x.n x.s).B = _; unfold fuS; split <;> rfl
        · split
          · rfl
          · split <;> rfl
end Go.Proofs.Ytidnbpehhpakcaa
