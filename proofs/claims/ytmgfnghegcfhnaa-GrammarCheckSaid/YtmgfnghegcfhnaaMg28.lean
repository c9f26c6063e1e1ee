/- What the document's Take does with a TokProp. Conditions: a Builder in memory. -/
import Derived.Test.YtmgfnghegcfhnaaMg26
import Derived.Test.YtmgfnghegcfhnaaMg27
import Derived.Deep.RegionLaw
namespace Go.Proofs.Ytmgfnghegcfhnaa
open Go.RowKit

theorem elemProp : ElemN Try.prog 26 42 2 32 := elemN_mk (z := .agg #[.string ByteArray.empty, .string ByteArray.empty]) Try.underlying26 (by kernel_rfl) rfl (by decide)
theorem two_one (a b : ByteArray) : ∀ u ∈ (#[.string a, .string b] : Array Value).toList, u.oneCell' = true := by
  intro u hu
  simp at hu
  rcases hu with rfl | rfl <;> rfl
theorem len_snoc {α : Type} (l : List α) (x : α) : (l ++ [x]).length = l.length + 1 := by simp
end Go.Proofs.Ytmgfnghegcfhnaa

/- What the document's Take does with a TokEnd that closes the root. Conditions: a Builder in memory. -/
namespace Go.Proofs.Ytmgfnghegcfhnaa
open Go.RowKit

end Go.Proofs.Ytmgfnghegcfhnaa

/- What the document's Take does with a TokEnd that closes a kid. Conditions: a Builder in memory. -/
namespace Go.Proofs.Ytmgfnghegcfhnaa
open Go.RowKit

theorem cn_one (a : ByteArray) (b c : Value) (hb : b.oneCell' = true) (hc : c.oneCell' = true) : ∀ u ∈ (#[.string a, b, c] : Array Value).toList, u.oneCell' = true := by
  intro u hu
  simp at hu
  rcases hu with rfl | rfl | rfl
  · rfl
  · exact hb
  · exact hc

end Go.Proofs.Ytmgfnghegcfhnaa

/- What the document's Take does, at any token. Conditions: a Builder in memory, not more in it than Take lets in. -/
namespace Go.Proofs.Ytmgfnghegcfhnaa
open Go.RowKit

/-- Not more is in a Builder than Take lets in. -/
def okB (b : BD) : Prop := b.op.length ≤ 8 ∧ b.ns ≤ 64 ∧ b.pn ≤ 256 ∧ b.op.length ≤ b.ns ∧ ∀ n ∈ b.op, n.ps.length ≤ b.pn ∧ n.ks.length + b.op.length ≤ b.ns
theorem okB_zero : okB bd0 := ⟨by decide, by decide, by decide, by decide, fun n hn => absurd hn List.not_mem_nil⟩
theorem getLastD_snocT {α : Type} (l : List α) (x d : α) : (l ++ [x]).getLastD d = x := by simp
theorem snoc_of_ne {α : Type} : ∀ {l : List α}, l ≠ [] → ∃ r x, l = r ++ [x] := fun {l} h => ⟨l.dropLast, l.getLast h, (List.dropLast_concat_getLast h).symm⟩
theorem onLast_snocT (f : ND → ND) (l : List ND) (x : ND) : onLast f (l ++ [x]) = l ++ [f x] := by unfold onLast; rw [getLastD_snocT, List.dropLast_concat]
theorem okB_take (b : BD) (t : TK) (h : okB b) : okB (takeR b t).1 := by
  obtain ⟨op, dn, rt, ns, pn⟩ := b
  obtain ⟨h1, h2, h3, h4, h5⟩ := h
  simp only at h1 h2 h3 h4 h5
  unfold takeR
  simp only
  split
  · exact ⟨h1, h2, h3, h4, h5⟩
  split
  · exact ⟨h1, h2, h3, h4, h5⟩
  rename_i g1 g2
  split
  · split
    · exact ⟨h1, h2, h3, h4, h5⟩
    split
    · exact ⟨h1, h2, h3, h4, h5⟩
    · refine ⟨?_, ?_, h3, ?_, fun n hn => ?_⟩
      · show (op ++ [_]).length ≤ 8; rw [len_snoc]; omega
      · show ns + 1 ≤ 64; omega
      · show (op ++ [_]).length ≤ ns + 1; rw [len_snoc]; omega
      · show n.ps.length ≤ pn ∧ n.ks.length + (op ++ [_]).length ≤ ns + 1
        rw [len_snoc]
        rcases List.mem_append.1 hn with hn | hn
        · have := h5 n hn; omega
        · rw [List.mem_singleton] at hn; subst hn
          exact ⟨Nat.zero_le _, by show 0 + _ ≤ _; omega⟩
  · rename_i hk1
    have hne : op ≠ [] := fun e => g2 (.inr (.inr (.inr ⟨hk1, e⟩)))
    obtain ⟨l, x, rfl⟩ := snoc_of_ne hne
    rw [len_snoc] at h1 h4 h5
    have hx := h5 x (List.mem_append_right _ (List.mem_singleton.2 rfl))
    split
    · split
      · exact ⟨by rw [len_snoc]; exact h1, h2, h3, by rw [len_snoc]; exact h4, fun n hn => by show _ ∧ _ + (l ++ [x]).length ≤ _; rw [len_snoc]; exact h5 n hn⟩
      split
      · exact ⟨by rw [len_snoc]; exact h1, h2, h3, by rw [len_snoc]; exact h4, fun n hn => by show _ ∧ _ + (l ++ [x]).length ≤ _; rw [len_snoc]; exact h5 n hn⟩
      · rw [onLast_snocT]
        refine ⟨by rw [len_snoc]; exact h1, h2, by show pn + 1 ≤ 256; omega, by rw [len_snoc]; exact h4, fun n hn => ?_⟩
        show n.ps.length ≤ pn + 1 ∧ n.ks.length + (l ++ [_]).length ≤ ns
        rw [len_snoc]
        rcases List.mem_append.1 hn with hn | hn
        · have := h5 n (List.mem_append_left _ hn); omega
        · rw [List.mem_singleton] at hn; subst hn
          refine ⟨?_, hx.2⟩
          show (x.ps ++ [_]).length ≤ pn + 1
          rw [len_snoc]; omega
    split
    · exact ⟨Nat.zero_le _, h2, h3, Nat.zero_le _, fun n hn => absurd hn List.not_mem_nil⟩
    · rename_i hl
      rw [len_snoc] at hl
      have hne2 : l ≠ [] := fun e => hl (by rw [e]; rfl)
      obtain ⟨l2, z, rfl⟩ := snoc_of_ne hne2
      rw [List.dropLast_concat, onLast_snocT]
      rw [len_snoc] at h1 h4 h5
      have hz := h5 z (List.mem_append_left _ (List.mem_append_right _ (List.mem_singleton.2 rfl)))
      refine ⟨by show (l2 ++ [_]).length ≤ 8; rw [len_snoc]; omega, h2, h3, by show (l2 ++ [_]).length ≤ ns; rw [len_snoc]; omega, fun n hn => ?_⟩
      show n.ps.length ≤ pn ∧ n.ks.length + (l2 ++ [_]).length ≤ ns
      rw [len_snoc]
      rcases List.mem_append.1 hn with hn | hn
      · have := h5 n (List.mem_append_left _ (List.mem_append_left _ hn)); omega
      · rw [List.mem_singleton] at hn; subst hn
        refine ⟨hz.1, ?_⟩
        show (z.ks ++ [_]).length + _ ≤ ns
        rw [len_snoc]; have := hz.2; omega

end Go.Proofs.Ytmgfnghegcfhnaa
