/- Changes that are taken back, in plain words. No condition: nothing of the program stands in it. -/
import Derived.Test.YtfcclppgjfkfoaaDoorMg4
namespace Go.Proofs.YtfcclppgjfkfoaaDoor
open Go.RowKit

/-- A change that is taken back at the node of names leaves what was. -/
theorem down_back : ∀ {l : List ByteArray} {n k : ND} {c c' : CH}, (downR n l c).2 = 0 → followR n l = some k → hereR (hereR k c).1 c' = (k, 0) → downR (downR n l c).1 l c' = (n, 0)
  | [], n, k, c, c', _, hk, hb => by
    injection (show some n = some k from hk) with hk
    subst hk
    exact hb
  | x :: l, n, k, c, c', h, hk, hb => by
    unfold downR at h
    cases e : kidR n x with
    | none => rw [e] at h; exact absurd h (by simp)
    | some q =>
      rw [e] at h
      by_cases h0 : (downR q l c).2 = 0
      · rw [followR, e] at hk
        have ih := down_back h0 hk hb
        have hq : q.nm = x := by
          have := List.find?_some (show (n.ks.find? fun y => decide (y.nm = x)) = some q from e)
          simpa using this
        obtain ⟨r1, r2⟩ := find_repl (m := (downR q l c).1) ((down_nm h0).trans hq) (show (n.ks.find? fun y => decide (y.nm = x)) = some q from e)
        have hd : downR n (x :: l) c = (.mk n.nm n.ps (replR x (downR q l c).1 n.ks), 0) := by
          rw [downR, e]
          simp only [if_pos h0]
        rw [hd]
        show downR (.mk n.nm n.ps (replR x (downR q l c).1 n.ks)) (x :: l) c' = _
        rw [downR, show kidR (.mk n.nm n.ps (replR x (downR q l c).1 n.ks)) x = some (downR q l c).1 from r1]
        simp only [ih]
        show (ND.mk n.nm n.ps (replR x q (replR x (downR q l c).1 n.ks)), 0) = (n, 0)
        rw [r2, ← ND.eta]
      · simp only [if_neg h0] at h; exact absurd h h0
/-- The first change has kept the kids' number. -/
theorem down_len {l : List ByteArray} {n : ND} {nm vl : ByteArray} (h : (downR n l ⟨1, nm, vl⟩).2 = 0) : (downR n l ⟨1, nm, vl⟩).1.ks.length = n.ks.length := by
  cases l with
  | nil =>
    have h : (hereR n ⟨1, nm, vl⟩).2 = 0 := h
    show (hereR n ⟨1, nm, vl⟩).1.ks.length = _
    unfold hereR at h ⊢
    rw [if_pos rfl] at h ⊢
    split
    · rfl
    · rename_i h1; rw [if_neg h1] at h; exact absurd h (by simp)
  | cons x l =>
    unfold downR at h ⊢
    cases e : kidR n x with
    | none => rw [e] at h; exact absurd h (by simp)
    | some q =>
      rw [e] at h
      by_cases h0 : (downR q l ⟨1, nm, vl⟩).2 = 0
      · simp only [if_pos h0]
        exact repl_len
      · simp only [if_neg h0] at h; exact absurd h h0
theorem here_set {k : ND} {nm vl : ByteArray} (h : (hereR k ⟨1, nm, vl⟩).2 = 0) : hereR k ⟨1, nm, vl⟩ = (.mk k.nm (propsR ⟨1, nm, vl⟩ k.ps).1 k.ks, 0) := by
  unfold hereR at h ⊢
  rw [if_pos rfl] at h ⊢
  split
  · rfl
  · rename_i h1; rw [if_neg h1] at h; exact absurd h (by simp)
/-- What is set is there. -/
theorem set_val {k : ND} {nm vl : ByteArray} (h : (hereR k ⟨1, nm, vl⟩).2 = 0) : valR (hereR k ⟨1, nm, vl⟩).1 nm = some vl := by
  rw [here_set h]
  exact props_set
theorem set_back {k : ND} {nm vl v : ByteArray} (h : (hereR k ⟨1, nm, vl⟩).2 = 0) (hn : valR k nm = none) : hereR (hereR k ⟨1, nm, vl⟩).1 ⟨2, nm, v⟩ = (k, 0) := by
  have hp : (propsR ⟨1, nm, vl⟩ k.ps).2 = false := by
    rw [props_had]
    unfold valR at hn
    cases e : k.ps.find? fun x : PR => decide (x.nm = nm) with
    | none => rfl
    | some x => rw [e] at hn; exact absurd hn (by simp)
  have hb := props_back (v := v) hp
  rw [here_set h]
  unfold hereR
  rw [if_neg (show ¬ ((2 : Int) = 1) by decide), if_pos rfl]
  show (if (propsR ⟨2, nm, v⟩ (propsR ⟨1, nm, vl⟩ k.ps).1).2 = true then (ND.mk k.nm (propsR ⟨2, nm, v⟩ (propsR ⟨1, nm, vl⟩ k.ps).1).1 k.ks, 0) else (nd0, 8)) = _
  rw [hb, if_pos rfl, ← ND.eta]
theorem here_add {k : ND} {nm vl : ByteArray} (h : (hereR k ⟨3, nm, vl⟩).2 = 0) : mayKidR nm = true ∧ kidR k nm = none ∧ hereR k ⟨3, nm, vl⟩ = (.mk k.nm k.ps (k.ks ++ [.mk nm [] []]), 0) := by
  unfold hereR at h ⊢
  rw [if_neg (show ¬ ((3 : Int) = 1) by decide), if_neg (show ¬ ((3 : Int) = 2) by decide), if_pos rfl] at h ⊢
  split
  · rename_i h1; rw [if_pos h1] at h; exact absurd h (by simp)
  · rename_i h1
    rw [if_neg h1] at h
    split
    · rename_i h2; rw [if_pos h2] at h; exact absurd h (by simp)
    · rename_i h2
      refine ⟨by simpa using h1, ?_, rfl⟩
      cases e : kidR k nm with
      | none => rfl
      | some q => rw [e] at h2; exact absurd rfl h2
/-- What was added is there; and taken away it leaves what was. -/
theorem add_back {k : ND} {nm vl v : ByteArray} (h : (hereR k ⟨3, nm, vl⟩).2 = 0) : kidR (hereR k ⟨3, nm, vl⟩).1 nm = some (.mk nm [] []) ∧ hereR (hereR k ⟨3, nm, vl⟩).1 ⟨4, nm, v⟩ = (k, 0) := by
  obtain ⟨_, h2, h3⟩ := here_add h
  rw [h3]
  have hk : kidR (.mk k.nm k.ps (k.ks ++ [.mk nm [] []])) nm = some (.mk nm [] []) := find_add (nm := nm) (m := .mk nm [] []) rfl (show (k.ks.find? fun x => decide (x.nm = nm)) = none from h2)
  refine ⟨hk, ?_⟩
  unfold hereR
  rw [if_neg (show ¬ ((4 : Int) = 1) by decide), if_neg (show ¬ ((4 : Int) = 2) by decide), if_neg (show ¬ ((4 : Int) = 3) by decide)]
  show (if (kidR (.mk k.nm k.ps (k.ks ++ [.mk nm [] []])) nm).isSome = true then (ND.mk k.nm k.ps (withoutR nm (k.ks ++ [.mk nm [] []])), 0) else (nd0, 8)) = _
  rw [hk, if_pos (show (some (ND.mk nm [] [])).isSome = true from rfl), without_add (nm := nm) (m := .mk nm [] []) rfl (show (k.ks.find? fun x => decide (x.nm = nm)) = none from h2), ← ND.eta]
end Go.Proofs.YtfcclppgjfkfoaaDoor

/- What a change does to a tree's size and depth; a kid's path. In plain words; no condition: nothing of the program stands in it. -/
namespace Go.Proofs.YtfcclppgjfkfoaaDoor
open Go.RowKit

def ctLe (x y : CT) : Prop := x.a ≤ y.a ∧ x.b ≤ y.b ∧ x.c ≤ y.c
theorem ctLe_refl (x : CT) : ctLe x x := ⟨Nat.le_refl _, Nat.le_refl _, Nat.le_refl _⟩
theorem ctLe_add {x y u v : CT} (h : ctLe x y) (h' : ctLe u v) : ctLe (ctAdd x u) (ctAdd y v) := by
  obtain ⟨h1, h2, h3⟩ := h
  obtain ⟨k1, k2, k3⟩ := h'
  refine ⟨Nat.add_le_add h1 k1, Nat.add_le_add h2 k2, ?_⟩
  show max x.c u.c ≤ max y.c v.c
  omega
theorem fold_le (f : ND → CT) : ∀ (l : List ND) {x y : CT}, ctLe x y → ctLe (l.foldl (fun x z => ctAdd x (f z)) x) (l.foldl (fun x z => ctAdd x (f z)) y)
  | [], _, _, h => h
  | _ :: l, _, _, h => fold_le f l (ctLe_add h (ctLe_refl _))
theorem fold_grow (f : ND → CT) : ∀ (l : List ND) (x : CT), ctLe x (l.foldl (fun x z => ctAdd x (f z)) x)
  | [], x => ctLe_refl x
  | z :: l, x => by
    have h1 : ctLe x (ctAdd x (f z)) := ⟨Nat.le_add_right _ _, Nat.le_add_right _ _, Nat.le_max_left _ _⟩
    have h2 := fold_grow f l (ctAdd x (f z))
    exact ⟨Nat.le_trans h1.1 h2.1, Nat.le_trans h1.2.1 h2.2.1, Nat.le_trans h1.2.2 h2.2.2⟩
theorem repl_le (f : ND → CT) {nm : ByteArray} {m k : ND} (hm : ctLe (f m) (f k)) : ∀ {l : List ND} {x : CT}, (l.find? fun y => decide (y.nm = nm)) = some k → ctLe ((replR nm m l).foldl (fun x z => ctAdd x (f z)) x) (l.foldl (fun x z => ctAdd x (f z)) x)
  | [], _, h => absurd h (by simp)
  | y :: r, x, h => by
    rw [List.find?_cons] at h
    by_cases e : y.nm = nm
    · rw [decide_eq_true e] at h
      injection (show some y = some k from h) with h
      rw [replR, if_pos e, h]
      exact fold_le f r (ctLe_add (ctLe_refl _) hm)
    · rw [decide_eq_false e] at h
      rw [replR, if_neg e]
      exact repl_le f hm (l := r) h
theorem count_def (k : Nat) (n : ND) : countR (k + 1) n = ⟨(n.ks.foldl (fun x y => ctAdd x (countR k y)) ⟨1, n.ps.length, 0⟩).a, (n.ks.foldl (fun x y => ctAdd x (countR k y)) ⟨1, n.ps.length, 0⟩).b, (n.ks.foldl (fun x y => ctAdd x (countR k y)) ⟨1, n.ps.length, 0⟩).c + 1⟩ := rfl
theorem count_le_of {k : Nat} {n m : ND} (h : ctLe (n.ks.foldl (fun x y => ctAdd x (countR k y)) ⟨1, n.ps.length, 0⟩) (m.ks.foldl (fun x y => ctAdd x (countR k y)) ⟨1, m.ps.length, 0⟩)) : ctLe (countR (k + 1) n) (countR (k + 1) m) := by
  rw [count_def, count_def]
  exact ⟨h.1, h.2.1, Nat.succ_le_succ h.2.2⟩
/-- A change that makes no node bigger makes no tree bigger. -/
theorem down_le {c : CH} (H : ∀ k j, (hereR k c).2 = 0 → ctLe (countR j (hereR k c).1) (countR j k)) : ∀ (l : List ByteArray) (n : ND) (j : Nat), (downR n l c).2 = 0 → ctLe (countR j (downR n l c).1) (countR j n)
  | [], n, j, h => H n j h
  | x :: l, n, 0, _ => ctLe_refl _
  | x :: l, n, j + 1, h => by
    unfold downR at h ⊢
    cases e : kidR n x with
    | none => rw [e] at h; exact absurd h (by simp)
    | some q =>
      rw [e] at h
      by_cases h0 : (downR q l c).2 = 0
      · simp only [if_pos h0]
        refine count_le_of ?_
        exact repl_le (countR j) (down_le H l q j h0) e
      · simp only [if_neg h0] at h; exact absurd h h0
theorem props_len {nm v : ByteArray} : ∀ {l : List PR}, (propsR ⟨2, nm, v⟩ l).1.length ≤ l.length
  | [] => Nat.le_refl _
  | x :: r => by
    rw [propsR]
    split
    · exact Nat.le_succ _
    · exact Nat.succ_le_succ (props_len (l := r))
theorem unset_le {nm v : ByteArray} (k : ND) (j : Nat) (h : (hereR k ⟨2, nm, v⟩).2 = 0) : ctLe (countR j (hereR k ⟨2, nm, v⟩).1) (countR j k) := by
  cases j with
  | zero => exact ctLe_refl _
  | succ j =>
    unfold hereR at h ⊢
    rw [if_neg (show ¬ ((2 : Int) = 1) by decide), if_pos rfl] at h ⊢
    split
    · exact count_le_of (fold_le (countR j) k.ks ⟨Nat.le_refl _, props_len, Nat.le_refl _⟩)
    · rename_i h1; rw [if_neg h1] at h; exact absurd h (by simp)
theorem fits_to {n : ND} (h : fitsR n = true) : fitsTo n = (n, 0) := by
  have := of_decide_eq_true (show decide ((countR 9 n).a ≤ 64 ∧ (countR 9 n).b ≤ 256 ∧ (countR 9 n).c ≤ 8) = true from h)
  unfold fitsTo
  rw [if_neg (by omega), if_pos h]
theorem fits_of {n m : ND} (h : fitsTo n = (m, 0)) : m = n ∧ fitsR n = true := by
  unfold fitsTo at h
  split at h
  · injection h with _ h; exact absurd h (by decide)
  · split at h
    · injection h with h _; exact ⟨h.symm, by assumption⟩
    · injection h with _ h; exact absurd h (by decide)
theorem fits_less {n m : ND} (h : ctLe (countR 9 n) (countR 9 m)) (hm : fitsR m = true) : fitsR n = true := by
  have := of_decide_eq_true (show decide ((countR 9 m).a ≤ 64 ∧ (countR 9 m).b ≤ 256 ∧ (countR 9 m).c ≤ 8) = true from hm)
  obtain ⟨h1, h2, h3⟩ := h
  exact decide_eq_true ⟨by omega, by omega, by omega⟩
/-- A node that is reached is so many levels below. -/
theorem mem_depth (f : ND → CT) : ∀ {l : List ND} {q : ND} {x : CT}, q ∈ l → (f q).c ≤ (l.foldl (fun x z => ctAdd x (f z)) x).c
  | z :: l, q, x, h => by
    rcases List.mem_cons.1 h with h | h
    · have h2 := (fold_grow f l (ctAdd x (f z))).2.2
      have h1 : (f z).c ≤ (ctAdd x (f z)).c := Nat.le_max_right _ _
      rw [h]
      exact Nat.le_trans h1 h2
    · exact mem_depth f (l := l) (x := ctAdd x (f z)) h
theorem follow_depth : ∀ (l : List ByteArray) (n k : ND) (j : Nat), followR n l = some k → l.length + (countR j k).c ≤ (countR (j + l.length) n).c
  | [], n, k, j, h => by
    injection (show some n = some k from h) with h
    rw [h]
    show 0 + _ ≤ _
    rw [Nat.zero_add]
    exact Nat.le_refl _
  | x :: l, n, k, j, h => by
    rw [followR] at h
    cases e : kidR n x with
    | none => rw [e] at h; exact absurd h (by simp)
    | some q =>
      rw [e] at h
      have ih := follow_depth l q k j h
      have hm : q ∈ n.ks := List.mem_of_find?_eq_some e
      have := mem_depth (countR (j + l.length)) (x := ⟨1, n.ps.length, 0⟩) hm
      rw [List.length_cons, ← Nat.add_assoc, count_def]
      show _ ≤ _ + 1
      omega
theorem kid_depth {k q : ND} {x : ByteArray} (j : Nat) (h : kidR k x = some q) : 2 ≤ (countR (j + 2) k).c := by
  have hm : q ∈ k.ks := List.mem_of_find?_eq_some h
  have := mem_depth (countR (j + 1)) (x := ⟨1, k.ps.length, 0⟩) hm
  have h1 : 1 ≤ (countR (j + 1) q).c := by rw [count_def]; exact Nat.succ_le_succ (Nat.zero_le _)
  rw [count_def]
  show _ ≤ _ + 1
  omega
theorem split_clean : ∀ (q : List UInt8), ∀ x ∈ splitS q, ∀ c ∈ x, c ≠ 47
  | [], x, h => by
    have h : x ∈ [([] : List UInt8)] := h
    rw [List.mem_singleton] at h
    rw [h]
    exact fun c hc => absurd hc List.not_mem_nil
  | d :: r, x, h => by
    rw [splitS] at h
    split at h
    · rcases List.mem_cons.1 h with h | h
      · rw [h]; exact fun c hc => absurd hc List.not_mem_nil
      · exact split_clean r x h
    · rename_i hd
      rcases List.mem_cons.1 h with h | h
      · rw [h]
        intro c hc
        rcases List.mem_cons.1 hc with hc | hc
        · rw [hc]; exact hd
        · exact split_clean r ((splitS r).headD []) (by rw [split_cons]; exact List.mem_cons_self) c hc
      · exact split_clean r x (by rw [split_cons]; exact List.mem_cons_of_mem _ h)
theorem parts_ok {p : List UInt8} {l : List (List UInt8)} (h : partsR p = (l, true)) : l.length ≤ 7 ∧ ∀ x ∈ l, okNm x := by
  have h7 := parts_few p
  rw [h] at h7
  refine ⟨h7, ?_⟩
  unfold partsR at h
  split at h
  · injection h with h _
    rw [← h]
    exact fun x hx => absurd hx List.not_mem_nil
  · split at h
    · rename_i e
      injection h with h _
      rw [← h]
      exact fun x hx => ⟨(nmOk_iff.1 e.2).2 x hx, split_clean _ x hx⟩
    · injection h with _ h
      exact absurd h (by decide)
theorem mayKid_ok {s : ByteArray} (h : mayKidR s = true) : okNm s.data.toList := by
  unfold mayKidR at h
  rw [Bool.and_eq_true] at h
  obtain ⟨h1, h2⟩ := h
  have h2 := of_decide_eq_true h2
  have h1 := (mayB_iff.1 h1).1
  refine ⟨fun e => ?_, fun c hc e => h2 (e ▸ hc)⟩
  have : s.data.toList.length = s.size := rfl
  rw [e] at this
  simp at this
  omega
/-- A change goes through where it does at the node of the names; its error is the one there. -/
theorem down_err : ∀ {l : List ByteArray} {n k : ND} {c : CH}, followR n l = some k → (downR n l c).2 = (hereR k c).2
  | [], n, k, c, h => by
    injection (show some n = some k from h) with h
    rw [h]; rfl
  | x :: l, n, k, c, h => by
    rw [followR] at h
    rw [downR]
    cases e : kidR n x with
    | none => rw [e] at h; exact absurd h (by simp)
    | some q =>
      rw [e] at h
      have ih := down_err (c := c) h
      by_cases h0 : (downR q l c).2 = 0
      · simp only [if_pos h0]
        rw [← ih, h0]
      · simp only [if_neg h0]
        exact ih
theorem down_go {l : List ByteArray} {n k : ND} {c : CH} (h : followR n l = some k) (h0 : (hereR k c).2 = 0) : (downR n l c).2 = 0 := (down_err h).trans h0
end Go.Proofs.YtfcclppgjfkfoaaDoor

/- What EditKeeps says, in plain words. No condition: nothing of the program stands in it. -/
namespace Go.Proofs.YtfcclppgjfkfoaaDoor
open Go.RowKit

/-- What a change that went through has done. -/
theorem do_ok {n m : ND} {p : List UInt8} {c : CH} (h : doR17 n p c = (m, 0)) : ∃ l, partsR p = (l, true) ∧ (downR n (baL l) c).2 = 0 ∧ m = (downR n (baL l) c).1 ∧ fitsR m = true := by
  unfold doR17 at h
  cases hp : partsR p with
  | mk l b =>
    rw [hp] at h
    cases b with
    | false =>
      rw [if_neg (show ¬ ((l, false).2 = true) by simp)] at h
      injection h with _ h
      exact absurd h (by decide)
    | true =>
      rw [if_pos (show (l, true).2 = true from rfl)] at h
      by_cases h0 : (downR n (baL l) c).2 = 0
      · rw [if_pos (show (downR n (baL (l, true).1) c).2 = 0 from h0)] at h
        obtain ⟨h1, h2⟩ := fits_of h
        exact ⟨l, rfl, h0, h1, by rw [h1]; exact h2⟩
      · rw [if_neg (show ¬ (downR n (baL (l, true).1) c).2 = 0 from h0)] at h
        injection h with _ h
        exact absurd h h0
theorem do_of {n : ND} {p : List UInt8} {c : CH} {l : List (List UInt8)} (hp : partsR p = (l, true)) (h0 : (downR n (baL l) c).2 = 0) (hf : fitsR (downR n (baL l) c).1 = true) : doR17 n p c = ((downR n (baL l) c).1, 0) := by
  unfold doR17
  rw [hp, if_pos (show (l, true).2 = true from rfl), if_pos (show (downR n (baL (l, true).1) c).2 = 0 from h0)]
  exact fits_to hf
theorem find_of {n : ND} {p : List UInt8} {l : List (List UInt8)} (hp : partsR p = (l, true)) : findR n p = followR n (baL l) := by
  unfold findR
  rw [hp, if_pos (show (l, true).2 = true from rfl)]
/-- What is set is there; taken away where there was none it leaves what was. -/
theorem keep_set {n m : ND} {p : List UInt8} {nm vl : ByteArray} (hn : fitsR n = true) (h : doR17 n p ⟨1, nm, vl⟩ = (m, 0)) :
    ∃ x y, findR n p = some x ∧ findR m p = some y ∧ valR y nm = some vl ∧ m.ks.length = n.ks.length ∧ ∀ v, ∃ b, doR17 m p ⟨2, nm, v⟩ = (b, 0) ∧ (valR x nm = none → b = n) := by
  obtain ⟨l, hp, h0, rfl, hf⟩ := do_ok h
  obtain ⟨x, q1, q2, q3⟩ := down_find h0
  refine ⟨x, (hereR x ⟨1, nm, vl⟩).1, by rw [find_of hp]; exact q1, by rw [find_of hp]; exact q3, set_val q2, down_len h0, fun v => ?_⟩
  by_cases hv : valR x nm = none
  · have hb := down_back h0 q1 (set_back (v := v) q2 hv)
    refine ⟨n, ?_, fun _ => rfl⟩
    rw [do_of hp (by rw [hb]) (by rw [hb]; exact hn), hb]
  · have hu : (hereR (hereR x ⟨1, nm, vl⟩).1 ⟨2, nm, v⟩).2 = 0 := by
      have hpv : (propsR ⟨2, nm, v⟩ (hereR x ⟨1, nm, vl⟩).1.ps).2 = true := by
        rw [props_had]
        have := set_val q2
        unfold valR at this
        cases e : (hereR x ⟨1, nm, vl⟩).1.ps.find? fun z : PR => decide (z.nm = nm) with
        | none => rw [e] at this; exact absurd this (by simp)
        | some z => rfl
      generalize (hereR x ⟨1, nm, vl⟩).1 = k at *
      unfold hereR
      rw [if_neg (show ¬ ((2 : Int) = 1) by decide), if_pos rfl, if_pos hpv]
    have hd := down_go q3 hu
    exact ⟨_, do_of hp hd (fits_less (down_le (fun k j hk => unset_le k j hk) _ _ 9 hd) hf), fun e => absurd e hv⟩
/-- The path of a kid. -/
theorem kid_path {p : List UInt8} {l : List (List UInt8)} {x : List UInt8} (hp : partsR p = (l, true)) (h6 : l.length ≤ 6) (hx : okNm x) : partsR (under p ++ x) = (l ++ [x], true) := by
  obtain ⟨_, hl⟩ := parts_ok hp
  have e := under_path (x := x) hl
  rw [join_parts hp] at e
  rw [e]
  refine parts_path (by rw [List.length_append]; simp only [List.length_cons, List.length_nil]; omega) fun y hy => ?_
  rcases List.mem_append.1 hy with hy | hy
  · exact hl y hy
  · rw [List.mem_singleton] at hy
    rw [hy]; exact hx
/-- What is added is there, and taken away it leaves what was. -/
theorem keep_add {n o : ND} {p : List UInt8} {nm vl : ByteArray} (hn : fitsR n = true) (h : doR17 n p ⟨3, nm, vl⟩ = (o, 0)) :
    ∃ l, partsR p = (l, true) ∧ partsR (under p ++ nm.data.toList) = (l ++ [nm.data.toList], true) ∧ findR o (under p ++ nm.data.toList) = some (.mk nm [] []) ∧ ∀ v, doR17 o p ⟨4, nm, v⟩ = (n, 0) := by
  obtain ⟨l, hp, h0, rfl, hf⟩ := do_ok h
  obtain ⟨x, q1, q2, q3⟩ := down_find h0
  obtain ⟨a1, a2⟩ := add_back (v := ByteArray.empty) q2
  have hok := mayKid_ok (here_add q2).1
  have h7 := (parts_ok hp).1
  have hll : (baL l).length = l.length := by unfold baL; rw [List.length_map]
  have h6 : l.length ≤ 6 := by
    have d1 := follow_depth (baL l) _ _ (9 - l.length) q3
    have d2 := kid_depth (7 - l.length) a1
    rw [show 7 - l.length + 2 = 9 - l.length by omega] at d2
    rw [hll, show 9 - l.length + l.length = 9 by omega] at d1
    have := (of_decide_eq_true (show decide (_ ∧ _ ∧ _) = true from hf)).2.2
    omega
  have hk := kid_path hp h6 hok
  refine ⟨l, hp, hk, ?_, fun v => ?_⟩
  · rw [find_of hk, baL_snoc, follow_snoc _ _ _ _ q3]
    exact a1
  · have hb := down_back h0 q1 (add_back (v := v) q2).2
    rw [do_of hp (by rw [hb]) (by rw [hb]; exact hn), hb]
/-- Where the node of a path is there, a change is not refused for want of it. -/
theorem set_some {n x : ND} {p : List UInt8} {nm vl : ByteArray} (h : findR n p = some x) : (doR17 n p ⟨1, nm, vl⟩).2 ≠ 8 := by
  cases hp : partsR p with
  | mk l b =>
    cases b with
    | false =>
      unfold findR at h
      rw [hp, if_neg (show ¬ ((l, false).2 = true) by simp)] at h
      exact absurd h (by simp)
    | true =>
      rw [find_of hp] at h
      unfold doR17
      rw [hp, if_pos (show (l, true).2 = true from rfl)]
      split
      · unfold fitsTo
        split
        · simp
        · split <;> simp
      · rw [show (downR n (baL (l, true).1) ⟨1, nm, vl⟩).2 = (hereR x ⟨1, nm, vl⟩).2 from down_err h]
        unfold hereR
        rw [if_pos rfl]
        split <;> simp
end Go.Proofs.YtfcclppgjfkfoaaDoor
