/- What the document's Of returns. Conditions: a slice that reads as tokens, at most 2^40 of them. -/
import Derived.Test.YtmgfnghegcfhnaaMg26
import Derived.Test.YtmgfnghegcfhnaaMg28
namespace Go.Proofs.Ytmgfnghegcfhnaa
open Go.RowKit

theorem infoNd (a b c : Value) : (Try.prog.info? 29).map (·.size) = some (#[a, b, c] : Array Value).size := by show _ = some 3; kernel_rfl
/-- So many tokens have been taken, without an error. -/
theorem runB_snoc {b0 b : BD} {l : List TK} {t : TK} (h : runB b0 l = (b, 0)) : runB b0 (l ++ [t]) = takeR b t := by
  induction l generalizing b0 with
  | nil =>
    injection h with h _
    subst h
    show runB b0 [t] = _
    unfold runB
    split
    · rename_i e; rw [e]; rfl
    · rename_i e; rw [e]
  | cons x l ih =>
    rw [List.cons_append]
    unfold runB at h ⊢
    split
    · rename_i b' e
      rw [e] at h
      exact ih h
    · rename_i b' k e
      rw [e] at h
      cases h
theorem runB_stop {b0 b : BD} {e : Nat} {l : List TK} (h : runB b0 l = (b, e + 1)) (r : List TK) : runB b0 (l ++ r) = (b, e + 1) := by
  induction l generalizing b0 with
  | nil => cases h
  | cons x l ih =>
    rw [List.cons_append]
    unfold runB at h ⊢
    split
    · rename_i b' e
      rw [e] at h
      exact ih h
    · rename_i b' k e
      rw [e] at h
      exact h
theorem take_snocT (l : List TK) {k : Nat} (hk : k < l.length) : l.take (k + 1) = l.take k ++ [l.getD k tk0] := by
  rw [List.take_succ_eq_append_getElem hk, List.getD_eq_getElem?_getD, List.getElem?_eq_getElem hk]; rfl
theorem ofR_err {l : List TK} {k : Nat} (hk : k < l.length) {b : BD} (h : runB bd0 (l.take k) = (b, 0)) (he : (takeR b (l.getD k tk0)).2 ≠ 0) : ofR l = (nd0, (takeR b (l.getD k tk0)).2) := by
  have h1 : runB bd0 (l.take (k + 1)) = takeR b (l.getD k tk0) := by rw [take_snocT l hk]; exact runB_snoc h
  obtain ⟨b', e, h2⟩ : ∃ b' e, takeR b (l.getD k tk0) = (b', e) := ⟨_, _, rfl⟩
  rw [h2] at h1 he ⊢
  cases e with
  | zero => exact absurd rfl he
  | succ e =>
    have h3 := runB_stop h1 (l.drop (k + 1))
    rw [List.take_append_drop] at h3
    unfold ofR
    rw [h3]
theorem ofR_end {l : List TK} {b : BD} (h : runB bd0 l = (b, 0)) : ofR l = if b.dn = true then (b.rt, 0) else (nd0, 6) := by
  unfold ofR
  rw [h]
theorem nd0_at (w : World) (G : Nat → Prop) : NdAt w G nd0 (.slice none 0 0) (.slice none 0 0) :=
  @NdAt.mk w G ByteArray.empty [] [] none none 0 0 (fun _ => undef) (fun _ => undef) (.inl rfl) (Nat.le_refl _) (Nat.zero_le _) (Nat.le_refl _) (Nat.zero_le _) (.inl rfl) (fun _ hi => absurd hi (Nat.not_lt_zero _))
theorem zl_one : (#[.string ⟨#[]⟩, .slice none 0 0, .slice none 0 0] : Array Value).all (·.oneCell') = true := by
  rw [Array.all_eq_true_iff_forall_mem]
  intro v hv
  simp at hv
  rcases hv with rfl | rfl <;> rfl
theorem moved_setRow (w : World) (g : Nat) (cs : Array Value) : Moved w (w.setRow g cs) (fun k => k = g) (fun k => k = g) :=
  ⟨rfl, rfl, rfl, by rw [size_setRow]; exact Nat.le_refl _, fun k _ hn => setRow_other w g k cs (fun e => hn e), fun k hk => .inl hk⟩
end Go.Proofs.Ytmgfnghegcfhnaa
