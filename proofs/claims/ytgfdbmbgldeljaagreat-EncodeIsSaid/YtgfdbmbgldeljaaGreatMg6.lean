/- The bytes of a tree in plain words: the spans that are reserved, the tree, and what stands of them. No condition: nothing of the program stands in it. -/
import Derived.Test.YtgfdbmbgldeljaaGreatMg1
import Derived.Test.YtgfdbmbgldeljaaGreatMg3
import Derived.Test.YtgfdbmbgldeljaaGreatMg5
namespace Go.Proofs.YtgfdbmbgldeljaaGreat
open Go.RowKit

/-- The spans that stand at the beginning, at most so many. -/
def resvR : Nat → List UInt8 → List SP × Nat
  | 0, l => if l.length < 16 then ([], 14) else if numAt l 0 ≠ 0 ∨ numAt l 2 ≠ 0 then ([], 6) else if numAt l 1 = 0 ∧ numAt l 3 = 0 then ([], 0) else ([], 7)
  | k + 1, l => if l.length < 16 then ([], 14) else if numAt l 0 ≠ 0 ∨ numAt l 2 ≠ 0 then ([], 6) else if numAt l 1 = 0 ∧ numAt l 3 = 0 then ([], 0)
    else if (resvR k (l.drop 16)).2 = 0 then ([⟨numAt l 1, numAt l 3⟩] ++ (resvR k (l.drop 16)).1, 0) else ([], (resvR k (l.drop 16)).2)
/-- The spans that stand from a place on. -/
def resv (s : List UInt8) (a : Int) : List SP × Nat := if a < 0 then ([], 14) else resvR 16 (s.drop a.toNat)
def joinS (O : List SP) (r : List SP × Nat) : List SP × Nat := if r.2 = 0 then (O ++ r.1, 0) else ([], r.2)
theorem resvR_short (k : Nat) {l : List UInt8} (h : l.length < 16) : resvR k l = ([], 14) := by cases k <;> exact if_pos h
theorem resvR_form (k : Nat) {l : List UInt8} (h : ¬ l.length < 16) (h1 : numAt l 0 ≠ 0 ∨ numAt l 2 ≠ 0) : resvR k l = ([], 6) := by
  cases k <;> (unfold resvR; rw [if_neg h, if_pos h1])
theorem resvR_end (k : Nat) {l : List UInt8} (h : ¬ l.length < 16) (h1 : ¬ (numAt l 0 ≠ 0 ∨ numAt l 2 ≠ 0)) (h2 : numAt l 1 = 0 ∧ numAt l 3 = 0) : resvR k l = ([], 0) := by
  cases k <;> (unfold resvR; rw [if_neg h, if_neg h1, if_pos h2])
theorem resvR_big {l : List UInt8} (h : ¬ l.length < 16) (h1 : ¬ (numAt l 0 ≠ 0 ∨ numAt l 2 ≠ 0)) (h2 : ¬ (numAt l 1 = 0 ∧ numAt l 3 = 0)) : resvR 0 l = ([], 7) := by
  unfold resvR; rw [if_neg h, if_neg h1, if_neg h2]
theorem resvR_next {k : Nat} {l : List UInt8} (h : ¬ l.length < 16) (h1 : ¬ (numAt l 0 ≠ 0 ∨ numAt l 2 ≠ 0)) (h2 : ¬ (numAt l 1 = 0 ∧ numAt l 3 = 0)) : resvR (k + 1) l = joinS [⟨numAt l 1, numAt l 3⟩] (resvR k (l.drop 16)) := by
  exact (if_neg h).trans ((if_neg h1).trans (if_neg h2))
theorem joinS_join (O P : List SP) (r : List SP × Nat) : joinS O (joinS P r) = joinS (O ++ P) r := by
  unfold joinS
  by_cases h : r.2 = 0
  · rw [if_pos h, if_pos rfl, if_pos h, List.append_assoc]
  · rw [if_neg h, if_neg h, if_neg h]
theorem resvR_bad (k : Nat) : ∀ l, (resvR k l).2 ≠ 0 → (resvR k l).1 = [] := by
  induction k with
  | zero =>
    intro l h
    unfold resvR at h ⊢
    split <;> rename_i h1
    · rfl
    · rw [if_neg h1] at h
      split <;> rename_i h2
      · rfl
      · split <;> rfl
  | succ k ih =>
    intro l h
    unfold resvR at h ⊢
    split <;> rename_i h1
    · rfl
    · rw [if_neg h1] at h
      split <;> rename_i h2
      · rfl
      · rw [if_neg h2] at h
        split <;> rename_i h3
        · rfl
        · rw [if_neg h3] at h
          split <;> rename_i h4
          · rw [if_pos h4] at h; exact absurd rfl h
          · rfl
theorem joinS_nil (k : Nat) (l : List UInt8) : joinS [] (resvR k l) = resvR k l := by
  unfold joinS
  by_cases h : (resvR k l).2 = 0
  · rw [if_pos h]; exact Prod.ext rfl h.symm
  · rw [if_neg h]; exact Prod.ext (resvR_bad k l h).symm rfl
theorem resvR_len (k : Nat) : ∀ l, (resvR k l).1.length ≤ k := by
  induction k with
  | zero =>
    intro l
    unfold resvR
    repeat' split
    all_goals exact Nat.zero_le _
  | succ k ih =>
    intro l
    unfold resvR
    repeat' split
    all_goals first | exact Nat.zero_le _ | exact (by simp; exact ih _)
theorem resv_len (s : List UInt8) (a : Int) : (resv s a).1.length ≤ 16 := by
  unfold resv
  split
  · exact Nat.zero_le _
  · exact resvR_len 16 _
theorem numsB_take16 (s : List UInt8) (k : Nat) (hk : k < 4) : (numsB (s.take 16) 4).getD k 0 = numAt s k := by
  have e : (numsB (s.take 16) 4).getD k 0 = frombig ((s.take 16).drop (4 * k)) := by
    simp [numsB, List.getD_eq_getElem?_getD, List.getElem?_range hk]
  rw [e]
  unfold numAt frombig
  have g : ∀ j, j < 4 → ((s.take 16).drop (4 * k)).getD j 0 = (s.drop (4 * k)).getD j 0 := by
    intro j hj
    simp only [List.getD_eq_getElem?_getD, List.getElem?_drop, List.getElem?_take]
    rw [if_pos (by omega)]
  rw [g 0 (by omega), g 1 (by omega), g 2 (by omega), g 3 (by omega)]

/-- A tree with what is reserved, and the processor. -/
structure DT where
  rt : ND
  rs : List SP
  bo : Int
def dt0 : DT := ⟨nd0, [], 0⟩
/-- The part of bytes that a span tells. -/
def partB (s : List UInt8) (a n : Int) : List UInt8 := (partR ⟨s.toArray⟩ a n).1.data.toList
/-- The tree behind a header that is right, of its bytes. -/
def bodyD (s : List UInt8) (h : HD) : DT × Nat :=
  if (resv s h.rsv).2 ≠ 0 then (dt0, (resv s h.rsv).2)
  else if (readR 1024 (partB s h.stc h.siz) (partB s h.sgs h.txs)).2 ≠ 0 then (dt0, (readR 1024 (partB s h.stc h.siz) (partB s h.sgs h.txs)).2)
  else if (ofR (readR 1024 (partB s h.stc h.siz) (partB s h.sgs h.txs)).1).2 ≠ 0 then (dt0, (ofR (readR 1024 (partB s h.stc h.siz) (partB s h.sgs h.txs)).1).2)
  else (⟨(ofR (readR 1024 (partB s h.stc h.siz) (partB s h.sgs h.txs)).1).1, (resv s h.rsv).1, h.boo⟩, 0)
/-- The tree of bytes. -/
def treeD (s : List UInt8) : DT × Nat := if (readH s).2 ≠ 0 then (dt0, (readH s).2) else bodyD (s.take (readH s).1.tot.toNat) (readH s).1
theorem bodyD_ok {s : List UInt8} {h : HD} {T : DT} (e : bodyD s h = (T, 0)) : fitsR T.rt = true ∧ T.rs.length ≤ 16 := by
  unfold bodyD at e
  split at e
  · rename_i h1; exact absurd (congrArg Prod.snd e) h1
  split at e
  · rename_i h1; exact absurd (congrArg Prod.snd e) h1
  split at e
  · rename_i h1; exact absurd (congrArg Prod.snd e) h1
  rename_i h3
  obtain ⟨rfl, -⟩ := Prod.mk.inj e
  exact ⟨(tokens_of (Prod.ext rfl (Decidable.not_not.1 h3))).2, resv_len _ _⟩
theorem treeD_ok {s : List UInt8} {T : DT} (e : treeD s = (T, 0)) : (readH s).2 = 0 ∧ fitsR T.rt = true ∧ T.rs.length ≤ 16 := by
  unfold treeD at e
  split at e
  · rename_i h1; exact absurd (congrArg Prod.snd e) h1
  · rename_i h1
    exact ⟨Decidable.not_not.1 h1, bodyD_ok e⟩
theorem bodyD_bad {s : List UInt8} {h : HD} (e : (bodyD s h).2 ≠ 0) : (bodyD s h).1 = dt0 := by
  unfold bodyD at e ⊢
  split
  · rfl
  · rename_i h1
    rw [if_neg h1] at e
    split
    · rfl
    · rename_i h2
      rw [if_neg h2] at e
      split
      · rfl
      · rename_i h3
        rw [if_neg h3] at e
        exact absurd rfl e
theorem treeD_bad {s : List UInt8} (e : (treeD s).2 ≠ 0) : (treeD s).1 = dt0 := by
  unfold treeD at e ⊢
  split
  · rfl
  · rename_i h1
    rw [if_neg h1] at e
    exact bodyD_bad e
theorem numAt_same {s t : List UInt8} {k : Nat} (hk : k < 10) (hg : ∀ j, j < 40 → t.getD j 0 = s.getD j 0) : numAt t k = numAt s k := by
  unfold numAt frombig
  have g : ∀ j, j < 4 → (t.drop (4 * k)).getD j 0 = (s.drop (4 * k)).getD j 0 := by
    intro j hj
    have := hg (4 * k + j) (by omega)
    simpa only [List.getD_eq_getElem?_getD, List.getElem?_drop] using this
  rw [g 0 (by omega), g 1 (by omega), g 2 (by omega), g 3 (by omega)]
/-- Of other bytes that begin so, the header is the same, or there are too few. -/
theorem readH_same {s t : List UInt8} {h : HD} (hr : readH s = (h, 0)) (ht : 40 ≤ t.length) (hg : ∀ j, j < 40 → t.getD j 0 = s.getD j 0) : readH t = if (t.length : Int) < h.tot then (hd0, 14) else (h, 0) := by
  obtain ⟨h1, h2, h3, h4, h5⟩ := readH_ok hr
  have ho : hdOf t = h := by
    rw [h5]; unfold hdOf
    rw [numAt_same (by omega) hg, numAt_same (by omega) hg, numAt_same (by omega) hg, numAt_same (by omega) hg, numAt_same (by omega) hg, numAt_same (by omega) hg, numAt_same (by omega) hg]
  have n1 : numAt t 1 = h.tot := by rw [← ho]; rfl
  have hm : ¬ (numAt s 0 ≠ 3490578157 ∨ numAt s 5 < 17 ∨ 17 < numAt s 6) := by
    intro hc
    unfold readH at hr
    rw [if_neg (by omega), if_pos hc] at hr
    cases hr
  unfold readH
  rw [if_neg (by omega), numAt_same (k := 0) (by omega) hg, numAt_same (k := 5) (by omega) hg, numAt_same (k := 6) (by omega) hg, if_neg hm, n1, if_neg (by omega), ho, h1, if_neg (by simp)]
/-- The header of the first bytes alone, with whatever behind them. -/
theorem readH_more {s m : List UInt8} {h : HD} (hr : readH s = (h, 0)) : readH (s.take h.tot.toNat ++ m) = (h, 0) := by
  obtain ⟨h1, h2, h3, h4, h5⟩ := readH_ok hr
  have hm := (mayH_iff.1 h1).1
  have hl : (s.take h.tot.toNat).length = h.tot.toNat := by rw [List.length_take]; omega
  have hln : (s.take h.tot.toNat ++ m).length = h.tot.toNat + m.length := by rw [List.length_append, hl]
  have e := readH_same (t := s.take h.tot.toNat ++ m) hr (by omega) (fun j hj => by
    rw [List.getD_eq_getElem?_getD, List.getElem?_append_left (by omega), List.getElem?_take_of_lt (by omega), List.getD_eq_getElem?_getD])
  rw [e, if_neg (by omega)]
/-- With one byte less there is no header. -/
theorem readH_less {s : List UInt8} {h : HD} (hr : readH s = (h, 0)) : readH (s.take (h.tot.toNat - 1)) = (hd0, 14) := by
  obtain ⟨h1, h2, h3, h4, h5⟩ := readH_ok hr
  have hm := (mayH_iff.1 h1).1
  have hl : (s.take (h.tot.toNat - 1)).length = h.tot.toNat - 1 := by rw [List.length_take]; omega
  by_cases h40 : h.tot.toNat - 1 < 40
  · unfold readH; rw [if_pos (by omega)]
  · have e := readH_same (t := s.take (h.tot.toNat - 1)) hr (by omega) (fun j hj => by
      rw [List.getD_eq_getElem?_getD, List.getElem?_take_of_lt (by omega), List.getD_eq_getElem?_getD])
    rw [e, if_pos (by omega)]
/-- A tree is told by its first bytes alone. -/
theorem treeD_more {s m : List UInt8} {T : DT} (e : treeD s = (T, 0)) : treeD (s.take (readH s).1.tot.toNat ++ m) = (T, 0) ∧ treeD (s.take ((readH s).1.tot.toNat - 1)) = (dt0, 14) := by
  have h0 := (treeD_ok e).1
  obtain ⟨h, hh⟩ : ∃ h, readH s = (h, 0) := ⟨_, Prod.ext rfl h0⟩
  obtain ⟨h1, h2, h3, h4, h5⟩ := readH_ok hh
  have hl : (s.take h.tot.toNat).length = h.tot.toNat := by rw [List.length_take]; omega
  unfold treeD at e ⊢
  rw [hh] at e ⊢
  simp only at e ⊢
  rw [readH_more hh, readH_less hh]
  refine ⟨?_, rfl⟩
  rw [if_neg (by simp)] at e ⊢
  show bodyD ((s.take h.tot.toNat ++ m).take h.tot.toNat) h = (T, 0)
  rw [List.take_append_of_le_length (by omega), List.take_of_length_le (by omega)]
  exact e
theorem treeD_len (s : List UInt8) : (treeD s).1.rs.length ≤ 16 := by
  by_cases h : (treeD s).2 = 0
  · exact (treeD_ok (T := (treeD s).1) (Prod.ext rfl h)).2.2
  · rw [treeD_bad h]; exact Nat.zero_le _
end Go.Proofs.YtgfdbmbgldeljaaGreat
