/- What spans that rise come to when each is joined to the last one, or put behind it. No condition: nothing of the program stands in it. -/
import Derived.Test.YtgfblcfleohdjaaRsS
import Derived.Test.YtgfblcfleohdjaaRsJoin
namespace Go.Proofs.Ytgfblcfleohdjaa
open Go.RowKit

theorem rise_last : ∀ {I : List SP} {z : SP} {b : Int}, riseS b (I ++ [z]) → ∀ n, 0 < n → riseS b (I ++ [⟨z.p, n⟩])
  | [], _, _, h, _, hn => ⟨h.1, hn, trivial⟩
  | _ :: _, _, _, h, n, hn => ⟨h.1, h.2.1, rise_last h.2.2 n hn⟩
theorem rise_ends : ∀ {I : List SP} {z : SP} {b : Int}, riseS b (I ++ [z]) → ∀ x ∈ I, x.p + x.n < z.p
  | [], _, _, _, _, h => absurd h List.not_mem_nil
  | y :: r, z, b, h, x, hx => by
    rcases List.mem_cons.1 hx with rfl | hx
    · have h1 := rise_mem h.2.2 z (List.mem_append_right _ (List.mem_singleton.2 rfl))
      exact h1.1
    · exact rise_ends h.2.2 x hx
/-- What the first k spans have come to. -/
structure MInv (S J : List SP) (k : Nat) : Prop where
  rise : riseS (-1) J
  cov : ∀ b, covL J b ↔ covL (S.take k) b
  ahead : ∀ x ∈ J, ∀ j, k ≤ j → j < S.length → x.p ≤ (S.getD j sp0).p
  big : ∀ x ∈ J, 0 ≤ x.p ∧ x.p + x.n ≤ 8589934590
  few : J.length ≤ k
theorem minv_start (S : List SP) : MInv S [] 0 := ⟨trivial, fun b => by rw [List.take_zero], (fun _ h => absurd h List.not_mem_nil), (fun _ h => absurd h List.not_mem_nil), Nat.le_refl _⟩
theorem minv_new {S J : List SP} {k : Nat} (hS : ∀ x ∈ S, fulS x = true) (hr : RisL S) (h : MInv S J k) (hk : k < S.length) (hn : ∀ x ∈ J, x.p + x.n < (S.getD k sp0).p) : MInv S (J ++ [S.getD k sp0]) (k + 1) := by
  have hy := fulS_of (hS _ (spMem hk))
  refine ⟨rise_snoc h.rise hn (by omega) (by omega), fun b => ?_, fun x hx j hj hl => ?_, fun x hx => ?_, by rw [List.length_append]; have := h.few; simp only [List.length_cons, List.length_nil]; omega⟩
  · rw [take_getD hk, cov_snoc, cov_snoc, h.cov]
  · rcases List.mem_append.1 hx with hx | hx
    · exact h.ahead x hx j (by omega) hl
    · rw [List.mem_singleton.1 hx]; exact hr k j (by omega) hl
  · rcases List.mem_append.1 hx with hx | hx
    · exact h.big x hx
    · rw [List.mem_singleton.1 hx]; omega
theorem minv_more {S I : List SP} {z : SP} {k : Nat} (hS : ∀ x ∈ S, fulS x = true) (h : MInv S (I ++ [z]) k) (hk : k < S.length) (hn : (S.getD k sp0).p ≤ z.p + z.n) (e : Int) (he : e = max (z.p + z.n) ((S.getD k sp0).p + (S.getD k sp0).n)) : MInv S (I ++ [⟨z.p, e - z.p⟩]) (k + 1) := by
  have hy := fulS_of (hS _ (spMem hk))
  have hzm : z ∈ I ++ [z] := List.mem_append_right _ (List.mem_singleton.2 rfl)
  have hz := h.big z hzm
  have hz2 := (rise_mem h.rise z hzm).2
  have hza := h.ahead z hzm k (Nat.le_refl _) hk
  refine ⟨rise_last h.rise _ (by omega), fun b => ?_, fun x hx j hj hl => ?_, fun x hx => ?_, by have := h.few; rw [List.length_append] at this ⊢; simp only [List.length_cons, List.length_nil] at this ⊢; omega⟩
  · rw [take_getD hk, cov_snoc, cov_snoc, ← h.cov, cov_snoc]
    constructor
    · rintro (h1 | h1)
      · exact .inl (.inl h1)
      · by_cases q : b < z.p + z.n
        · exact .inl (.inr ⟨h1.1, q⟩)
        · exact .inr ⟨by omega, by have := h1.2; simp only at this; omega⟩
    · rintro ((h1 | h1) | h1)
      · exact .inl h1
      · exact .inr ⟨h1.1, by simp only; omega⟩
      · exact .inr ⟨by simp only; omega, by simp only; omega⟩
  · rcases List.mem_append.1 hx with hx | hx
    · exact h.ahead x (List.mem_append_left _ hx) j (by omega) hl
    · rw [List.mem_singleton.1 hx]; exact h.ahead z hzm j (by omega) hl
  · rcases List.mem_append.1 hx with hx | hx
    · exact h.big x (List.mem_append_left _ hx)
    · rw [List.mem_singleton.1 hx]; simp only; omega
theorem minv_end {l S J : List SP} (hp : S.Perm (l.filter fulS)) (h : MInv S J S.length) : JoinOk l J := by
  refine ⟨h.rise, fun b => ?_⟩
  rw [h.cov, List.take_length, hasL_iff]
  constructor
  · rintro ⟨x, hx, h1⟩
    have hx := (List.mem_filter.1 (hp.mem_iff.1 hx))
    refine ⟨x, hx.1, ?_⟩
    rw [hitS_ful, hx.2, decide_eq_true h1.1, decide_eq_true h1.2]; rfl
  · rintro ⟨x, hx, h1⟩
    have h2 := hitS_of h1
    have h3 : fulS x = true := by
      rw [hitS_ful] at h1
      exact (Bool.and_eq_true_iff.1 h1).1
    exact ⟨x, hp.mem_iff.2 (List.mem_filter.2 ⟨hx, h3⟩), h2.2⟩
/-- Either there is none yet, or a last one. -/
theorem last_cases (J : List SP) : J = [] ∨ ∃ I z, J = I ++ [z] := by
  rcases List.eq_nil_or_concat J with h | ⟨I, z, h⟩
  · exact .inl h
  · exact .inr ⟨I, z, by rw [h, List.concat_eq_append]⟩
theorem spD_last (I : List SP) (z : SP) : (spD (I ++ [z]))[I.length * 2]? = some (.int .i64 z.p) ∧ (spD (I ++ [z]))[I.length * 2 + 1]? = some (.int .i64 z.n) := by
  obtain ⟨h1, h2⟩ := spD_get (I ++ [z]) (k := I.length) (by simp)
  have e : (I ++ [z]).getD I.length sp0 = z := by simp
  rw [e] at h1 h2
  exact ⟨h1, h2⟩
theorem spD_lastSet (I : List SP) (z : SP) (n : Int) : (spD (I ++ [z])).set (I.length * 2 + 1) (.int .i64 n) = spD (I ++ [⟨z.p, n⟩]) := by
  rw [spD_app, spD_app, List.set_append, if_neg (by rw [spD_length]; omega), spD_length, show I.length * 2 + 1 - I.length * 2 = 1 by omega]; rfl
end Go.Proofs.Ytgfblcfleohdjaa
