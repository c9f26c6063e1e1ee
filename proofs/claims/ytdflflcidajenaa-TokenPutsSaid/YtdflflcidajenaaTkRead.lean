/- What is read may be put, and has nothing that its kind has not. No condition: nothing of the program stands in it. -/
import Derived.Test.YtdflflcidajenaaTkPlain
namespace Go.Proofs.Ytdflflcidajenaa

theorem beginR_ok {l : List UInt8} {s : ByteArray} {n : Nat} (h : beginR l = (s, n, 0)) : nodeB s = true := by
  unfold beginR at h
  split at h
  · simp only [Prod.mk.injEq] at h; omega
  · split at h
    · rename_i hn
      simp only [Prod.mk.injEq] at h
      rw [← h.1]
      exact (Bool.and_eq_true_iff.1 hn).1
    · simp only [Prod.mk.injEq] at h; omega
theorem propR_ok {l tx : List UInt8} {t : TK} {n : Nat} (h : propR l tx = (t, n, 0)) : ∃ nm x : ByteArray, t = ⟨3, nm, x⟩ ∧ mayB nm = true ∧ x.size ≤ l.length := by
  unfold propR at h
  split at h
  · simp only [Prod.mk.injEq] at h; omega
  · split at h
    · simp only [Prod.mk.injEq] at h; omega
    · split at h
      · rename_i hn
        simp only [Prod.mk.injEq] at h
        refine ⟨_, _, h.1.symm, (Bool.and_eq_true_iff.1 (Bool.and_eq_true_iff.1 hn).1).2, ?_⟩
        show (List.toArray _).size ≤ _
        rw [List.size_toArray, List.length_drop, List.length_take]; omega
      · simp only [Prod.mk.injEq] at h; omega
/-- What is read may be put, and has nothing that its kind has not. -/
theorem stepR_ok {l tx : List UInt8} {t : TK} {n : Nat} (h : stepR l tx = .tok t n) : okT t = true ∧ bare t = t ∧ t.vl.size ≤ l.length ∧ 4 ≤ l.length := by
  unfold stepR at h
  by_cases h4 : l.length < 4
  · rw [if_pos h4] at h; cases h
  rw [if_neg h4] at h
  have h4' : 4 ≤ l.length := by omega
  generalize frombig l = k at h
  by_cases h1 : k = 1
  · rw [if_pos h1] at h
    rcases hb : beginR (l.drop 4) with ⟨s, m, e⟩
    rw [hb] at h
    by_cases he : e = 0
    · subst he
      rw [if_pos rfl] at h
      injection h with h _
      subst h
      exact ⟨by unfold okT; rw [if_pos rfl]; exact beginR_ok hb, by simp [bare], Nat.zero_le _, h4'⟩
    · rw [if_neg he] at h; cases h
  rw [if_neg h1] at h
  by_cases h3 : k = 3
  · rw [if_pos h3] at h
    rcases hb : propR (l.drop 4) tx with ⟨t', m, e⟩
    rw [hb] at h
    by_cases he : e = 0
    · subst he
      rw [if_pos rfl] at h
      injection h with h _
      subst h
      obtain ⟨nm, x, rfl, hm, hx⟩ := propR_ok hb
      rw [List.length_drop] at hx
      exact ⟨by simpa [okT] using hm, by simp [bare], by show x.size ≤ _; omega, h4'⟩
    · rw [if_neg he] at h; cases h
  rw [if_neg h3] at h
  by_cases h24 : k = 2 ∨ k = 4
  · rw [if_pos h24] at h
    injection h with h _
    subst h
    exact ⟨by unfold okT; simp only; rw [if_neg h1, if_neg h3]; exact decide_eq_true h24, by unfold bare; simp only; rw [if_neg h1, if_neg h3], Nat.zero_le _, h4'⟩
  rw [if_neg h24] at h
  by_cases h9 : k = 9
  · rw [if_pos h9] at h
    split at h <;> cases h
  · rw [if_neg h9] at h; cases h
theorem readR_ok : ∀ (m : Nat) (l tx : List UInt8) (r : List TK), readR m l tx = (r, 0) → r.length < m ∧ ∀ x ∈ r, okT x = true ∧ bare x = x ∧ x.vl.size ≤ l.length
  | 0, _, _, r, h => by cases h
  | m + 1, l, tx, r, h => by
    rw [readR] at h
    split at h
    · rename_i e hs
      simp only [Prod.mk.injEq] at h
      obtain ⟨rfl, rfl⟩ := h
      exact ⟨by simp, fun x hx => by cases hx⟩
    · simp only [Prod.mk.injEq] at h
      obtain ⟨rfl, _⟩ := h
      exact ⟨by simp, fun x hx => by cases hx⟩
    · rename_i t n hs
      obtain ⟨h1, h2, h3, h4⟩ := stepR_ok hs
      split at h
      · rename_i r' hr
        simp only [Prod.mk.injEq] at h
        obtain ⟨rfl, _⟩ := h
        obtain ⟨i1, i2⟩ := readR_ok m _ tx r' hr
        refine ⟨by simp; omega, fun x hx => ?_⟩
        rcases List.mem_cons.1 hx with e | e
        · subst e; exact ⟨h1, h2, h3⟩
        · obtain ⟨j1, j2, j3⟩ := i2 x e
          rw [List.length_drop, List.length_drop] at j3
          exact ⟨j1, j2, by omega⟩
      · simp only [Prod.mk.injEq] at h
        omega
end Go.Proofs.Ytdflflcidajenaa
