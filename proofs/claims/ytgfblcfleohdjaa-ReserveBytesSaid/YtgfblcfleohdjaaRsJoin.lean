/- What spans come to, step by step: the next place at which a run of bytes begins, how far it goes, and what is free between. No condition: nothing of the program stands in it. -/
import Derived.Test.YtgfblcfleohdjaaRsPlain
namespace Go.Proofs.Ytgfblcfleohdjaa
open Go.RowKit

/-- A span that begins behind f. -/
def cnd (f : Int) (x : SP) : Bool := mayS x && (decide (0 < x.n) && decide (f < x.p))
theorem cnd_of {f : Int} {x : SP} (h : cnd f x = true) : mayS x = true ∧ 0 < x.n ∧ f < x.p := by unfold cnd at h; simpa using h
theorem cnd_true {f : Int} {x : SP} (h : mayS x = true ∧ 0 < x.n ∧ f < x.p) : cnd f x = true := by unfold cnd; simpa using h
theorem cnd_false {f : Int} {x : SP} (h : ¬ (mayS x = true ∧ 0 < x.n ∧ f < x.p)) : cnd f x = false := by
  cases e : cnd f x with
  | false => rfl
  | true => exact absurd (cnd_of e) h
/-- The first such place, as far as one has looked. -/
def Next (l : List SP) (f a : Int) (i : Nat) : Prop :=
  (a = -1 ∧ ∀ j, j < i → cnd f (l.getD j sp0) = false) ∨ (f < a ∧ 0 ≤ a ∧ a ≤ 4294967295 ∧ (∃ j, j < i ∧ cnd f (l.getD j sp0) = true ∧ (l.getD j sp0).p = a) ∧ ∀ j, j < i → cnd f (l.getD j sp0) = true → a ≤ (l.getD j sp0).p)
theorem next_start (l : List SP) (f : Int) : Next l f (-1) 0 := .inl ⟨rfl, fun _ h => absurd h (Nat.not_lt_zero _)⟩
theorem next_low {l : List SP} {f a : Int} {i : Nat} (h : Next l f a i) : -1 ≤ a ∧ a ≤ 4294967295 := by
  rcases h with h | h <;> omega
theorem next_skip {l : List SP} {f a : Int} {i : Nat} (h : Next l f a i) (hc : cnd f (l.getD i sp0) = false) : Next l f a (i + 1) := by
  rcases h with ⟨h1, h2⟩ | ⟨h1, h2, h3, ⟨j, g1, g2, g3⟩, h4⟩
  · refine .inl ⟨h1, fun j hj => ?_⟩
    by_cases e : j = i
    · rw [e]; exact hc
    · exact h2 j (by omega)
  · refine .inr ⟨h1, h2, h3, ⟨j, by omega, g2, g3⟩, fun j hj hcj => ?_⟩
    by_cases e : j = i
    · rw [e, hc] at hcj; cases hcj
    · exact h4 j (by omega) hcj
theorem next_stay {l : List SP} {f a : Int} {i : Nat} (h : Next l f a i) (ha : 0 ≤ a) (hp : a ≤ (l.getD i sp0).p) : Next l f a (i + 1) := by
  rcases h with ⟨h1, _⟩ | ⟨h1, h2, h3, ⟨j, g1, g2, g3⟩, h4⟩
  · omega
  · refine .inr ⟨h1, h2, h3, ⟨j, by omega, g2, g3⟩, fun j hj hcj => ?_⟩
    by_cases e : j = i
    · rw [e]; exact hp
    · exact h4 j (by omega) hcj
theorem next_take {l : List SP} {f a : Int} {i : Nat} (h : Next l f a i) (hc : cnd f (l.getD i sp0) = true) (hp : a < 0 ∨ (l.getD i sp0).p < a) : Next l f (l.getD i sp0).p (i + 1) := by
  obtain ⟨c1, c2, c3⟩ := cnd_of hc
  have c4 := mayS_of c1
  refine .inr ⟨c3, c4.1, c4.2.1, ⟨i, Nat.lt_succ_self _, hc, rfl⟩, fun j hj hcj => ?_⟩
  by_cases e : j = i
  · rw [e]; exact Int.le_refl _
  · rcases h with ⟨h1, h2⟩ | ⟨h1, h2, h3, _, h4⟩
    · rw [h2 j (by omega)] at hcj; cases hcj
    · have := h4 j (by omega) hcj; omega

/-- How far the run goes on over a span, over so many, so often over all. -/
def growS (e : Int) (x : SP) : Int := if hitS x e = true then x.p + x.n else e
def passI (l : List SP) (i : Nat) (e : Int) : Int := (l.take i).foldl growS e
def passK (l : List SP) : Nat → Int → Int
  | 0, e => e
  | k + 1, e => l.foldl growS (passK l k e)
theorem grow_le (e : Int) (x : SP) : e ≤ growS e x := by
  unfold growS; split
  · rename_i h; have := (hitS_of h).2.2; omega
  · exact Int.le_refl _
theorem pass_le : ∀ (l : List SP) (e : Int), e ≤ l.foldl growS e
  | [], _ => Int.le_refl _
  | x :: r, e => by have := grow_le e x; have := pass_le r (growS e x); rw [List.foldl_cons]; omega
theorem pass_big {l : List SP} {e : Int} (h : e ≤ 8589934590) : l.foldl growS e ≤ 8589934590 := by
  induction l generalizing e with
  | nil => exact h
  | cons x r ih =>
    rw [List.foldl_cons]
    refine ih ?_
    unfold growS; split
    · rename_i hh; have := mayS_of (hitS_of hh).1; omega
    · exact h
theorem passI_step {l : List SP} {i : Nat} (hi : i < l.length) (e : Int) : passI l (i + 1) e = growS (passI l i e) (l.getD i sp0) := by
  unfold passI
  rw [List.take_succ_eq_append_getElem hi, List.foldl_append]
  have : l.getD i sp0 = l[i] := by rw [List.getD_eq_getElem?_getD, List.getElem?_eq_getElem hi]; rfl
  rw [this]; rfl
theorem passI_all (l : List SP) (e : Int) : passI l l.length e = l.foldl growS e := by unfold passI; rw [List.take_length]
theorem passI_bound {l : List SP} {i : Nat} {e : Int} (h : e ≤ 8589934590) : e ≤ passI l i e ∧ passI l i e ≤ 8589934590 := ⟨pass_le _ _, pass_big h⟩
theorem passK_bound {l : List SP} {e : Int} (h : e ≤ 8589934590) : ∀ k, e ≤ passK l k e ∧ passK l k e ≤ 8589934590
  | 0 => ⟨Int.le_refl _, h⟩
  | k + 1 => by
    have := passK_bound (l := l) h k
    have h1 := pass_le l (passK l k e)
    exact ⟨by show e ≤ l.foldl growS (passK l k e); omega, pass_big this.2⟩
/-- Each span that has the byte at the end is taken in. -/
theorem pass_takes : ∀ {l : List SP} {e : Int} {x : SP}, x ∈ l → hitS x e = true → x.p + x.n ≤ l.foldl growS e
  | [], _, _, h, _ => absurd h List.not_mem_nil
  | y :: r, e, x, hx, hh => by
    rw [List.foldl_cons]
    have hg := grow_le e y
    have hp := pass_le r (growS e y)
    obtain ⟨h1, h2, h3⟩ := hitS_of hh
    rcases List.mem_cons.1 hx with rfl | hx
    · have : growS e x = x.p + x.n := if_pos hh
      omega
    · by_cases hlt : growS e y < x.p + x.n
      · exact pass_takes hx (hitS_true ⟨h1, by omega, hlt⟩)
      · omega
theorem pass_from : ∀ {l : List SP} {e : Int}, l.foldl growS e = e ∨ ∃ x ∈ l, l.foldl growS e = x.p + x.n
  | [], _ => .inl rfl
  | y :: r, e => by
    rw [List.foldl_cons]
    rcases pass_from (l := r) (e := growS e y) with h | ⟨x, hx, h⟩
    · rw [h]
      unfold growS; split
      · exact .inr ⟨y, List.mem_cons_self, rfl⟩
      · exact .inl rfl
    · exact .inr ⟨x, List.mem_cons_of_mem _ hx, h⟩
theorem pass_closed {l : List SP} {e : Int} : l.foldl growS e = e ↔ hasL l e = false := by
  constructor
  · intro h
    refine hasL_no.2 fun x hx => ?_
    cases hh : hitS x e with
    | false => rfl
    | true => have := pass_takes hx hh; have := (hitS_of hh).2.2; omega
  · intro h0
    have h := hasL_no.1 h0
    clear h0
    induction l with
    | nil => rfl
    | cons y r ih =>
      have : growS e y = e := if_neg (by rw [h y List.mem_cons_self]; decide)
      rw [List.foldl_cons, this]
      exact ih fun x hx => h x (List.mem_cons_of_mem _ hx)
/-- How many spans end at e or ahead of it. -/
def endC (l : List SP) (e : Int) : Nat := (l.filter fun x => decide (x.p + x.n ≤ e)).length
theorem endC_le (l : List SP) (e : Int) : endC l e ≤ l.length := List.length_filter_le _ _
theorem endC_mono : ∀ {l : List SP} {e f : Int}, e ≤ f → endC l e ≤ endC l f
  | [], _, _, _ => Nat.le_refl _
  | x :: r, e, f, h => by
    have ih := endC_mono (l := r) h
    unfold endC at ih ⊢
    rw [List.filter_cons, List.filter_cons]
    by_cases h1 : x.p + x.n ≤ e
    · rw [if_pos (decide_eq_true h1), if_pos (decide_eq_true (by omega)), List.length_cons, List.length_cons]; omega
    · rw [if_neg (by simp; omega)]
      split
      · rw [List.length_cons]; omega
      · exact ih
theorem endC_more : ∀ {l : List SP} {e f : Int} {x : SP}, e < f → x ∈ l → x.p + x.n = f → endC l e + 1 ≤ endC l f
  | [], _, _, _, _, h, _ => absurd h List.not_mem_nil
  | y :: r, e, f, x, h, hx, hf => by
    unfold endC
    rw [List.filter_cons, List.filter_cons]
    have hm := endC_mono (l := r) (e := e) (f := f) (by omega)
    unfold endC at hm
    rcases List.mem_cons.1 hx with rfl | hx
    · rw [if_neg (by simp; omega), if_pos (decide_eq_true (by omega)), List.length_cons]; omega
    · have ih := endC_more h hx hf
      unfold endC at ih
      by_cases h1 : y.p + y.n ≤ e
      · rw [if_pos (decide_eq_true h1), if_pos (decide_eq_true (by omega)), List.length_cons, List.length_cons]; omega
      · rw [if_neg (by simp; omega)]
        split
        · rw [List.length_cons]; omega
        · exact ih
theorem passK_more (l : List SP) (e : Int) : ∀ k, hasL l (passK l k e) = false ∨ k ≤ endC l (passK l k e)
  | 0 => .inr (Nat.zero_le _)
  | k + 1 => by
    show hasL l (l.foldl growS (passK l k e)) = false ∨ k + 1 ≤ endC l (l.foldl growS (passK l k e))
    rcases passK_more l e k with h | h
    · left; rw [pass_closed.2 h]; exact h
    · rcases pass_from (l := l) (e := passK l k e) with g | ⟨x, hx, g⟩
      · left; rw [g]; exact pass_closed.1 g
      · have hle := pass_le l (passK l k e)
        by_cases e1 : l.foldl growS (passK l k e) = passK l k e
        · left; rw [e1]; exact pass_closed.1 e1
        · right
          have := endC_more (l := l) (e := passK l k e) (f := l.foldl growS (passK l k e)) (by omega) hx g.symm
          omega
theorem passK_closed (l : List SP) (e : Int) : hasL l (passK l (l.length + 1) e) = false := by
  rcases passK_more l e (l.length + 1) with h | h
  · exact h
  · have := endC_le l (passK l (l.length + 1) e); omega
/-- All bytes of the run are there. -/
theorem pass_cov {l m : List SP} {a e : Int} (hm : ∀ x ∈ m, x ∈ l) (h : ∀ b, a ≤ b → b < e → hasL l b = true) : ∀ b, a ≤ b → b < m.foldl growS e → hasL l b = true := by
  induction m generalizing e with
  | nil => exact h
  | cons x r ih =>
    rw [List.foldl_cons]
    refine ih (fun y hy => hm y (List.mem_cons_of_mem _ hy)) fun b h1 h2 => ?_
    unfold growS at h2
    split at h2
    · rename_i hh
      obtain ⟨g1, g2, g3⟩ := hitS_of hh
      by_cases hb : b < e
      · exact h b h1 hb
      · exact hasL_iff.2 ⟨x, hm x List.mem_cons_self, hitS_true ⟨g1, by omega, h2⟩⟩
    · exact h b h1 h2
theorem passK_cov {l : List SP} {a : Int} : ∀ k b, a ≤ b → b < passK l k a → hasL l b = true
  | 0, b, h1, h2 => by have h2 : b < a := h2; omega
  | k + 1, b, h1, h2 => pass_cov (fun _ h => h) (passK_cov k) b h1 h2

/-- What has been joined when all bytes up to f have been seen. -/
structure JInv (l O : List SP) (f : Int) : Prop where
  low : -1 ≤ f
  big : f ≤ 8589934590
  rise : riseS (-1) O
  ends : ∀ x ∈ O, x.p + x.n ≤ f
  shut : hasL l f = false
  cov : ∀ b, covL O b ↔ hasL l b = true ∧ b ≤ f
  few : O.length + (l.filter (cnd f)).length ≤ l.length
theorem jinv_start (l : List SP) : JInv l [] (-1) := by
  have hno : ∀ b : Int, b ≤ -1 → hasL l b = false := fun b hb => hasL_no.2 fun x _ => hitS_false fun h => by have := mayS_of h.1; omega
  refine ⟨by omega, by omega, trivial, (fun _ h => absurd h List.not_mem_nil), hno _ (by omega), fun b => ⟨fun h => absurd h (cov_nil _), fun ⟨h1, h2⟩ => ?_⟩, ?_⟩
  · rw [hno b h2] at h1; cases h1
  · have := List.length_filter_le (cnd (-1)) l
    simpa using this
theorem cnd_less : ∀ {l : List SP} {f g : Int}, f ≤ g → (l.filter (cnd g)).length ≤ (l.filter (cnd f)).length
  | [], _, _, _ => Nat.le_refl _
  | x :: r, f, g, h => by
    have ih := cnd_less (l := r) h
    rw [List.filter_cons, List.filter_cons]
    by_cases h1 : cnd g x = true
    · obtain ⟨c1, c2, c3⟩ := cnd_of h1
      rw [if_pos h1, if_pos (cnd_true ⟨c1, c2, by omega⟩), List.length_cons, List.length_cons]; omega
    · rw [if_neg h1]
      split
      · rw [List.length_cons]; omega
      · exact ih
theorem cnd_fewer : ∀ {l : List SP} {f g : Int} {x : SP}, f ≤ g → x ∈ l → cnd f x = true → x.p ≤ g → (l.filter (cnd g)).length + 1 ≤ (l.filter (cnd f)).length
  | [], _, _, _, _, h, _, _ => absurd h List.not_mem_nil
  | y :: r, f, g, x, h, hx, hc, hg => by
    have hm := cnd_less (l := r) h
    rw [List.filter_cons, List.filter_cons]
    rcases List.mem_cons.1 hx with rfl | hx
    · rw [if_neg (by rw [cnd_false (fun e => by have := e.2.2; omega)]; decide), if_pos hc, List.length_cons]; omega
    · have ih := cnd_fewer h hx hc hg
      by_cases h1 : cnd g y = true
      · obtain ⟨c1, c2, c3⟩ := cnd_of h1
        rw [if_pos h1, if_pos (cnd_true ⟨c1, c2, by omega⟩), List.length_cons, List.length_cons]; omega
      · rw [if_neg h1]
        split
        · rw [List.length_cons]; omega
        · exact ih
theorem spMem {l : List SP} {j : Nat} (h : j < l.length) : l.getD j sp0 ∈ l := by
  rw [List.getD_eq_getElem?_getD, List.getElem?_eq_getElem h]; exact List.getElem_mem h
theorem spGet {l : List SP} {x : SP} (h : x ∈ l) : ∃ j, j < l.length ∧ l.getD j sp0 = x := by
  obtain ⟨j, hj, e⟩ := List.getElem_of_mem h
  exact ⟨j, hj, by rw [List.getD_eq_getElem?_getD, List.getElem?_eq_getElem hj]; exact e⟩
theorem jinv_end {l O : List SP} {f a : Int} (h : JInv l O f) (hn : Next l f a l.length) (ha : a < 0) : JoinOk l O := by
  refine ⟨h.rise, fun b => (h.cov b).trans ⟨fun g => g.1, fun g => ⟨g, ?_⟩⟩⟩
  rcases hn with ⟨_, h2⟩ | ⟨_, h2, _⟩
  · obtain ⟨x, hx, hh⟩ := hasL_iff.1 g
    obtain ⟨g1, g2, g3⟩ := hitS_of hh
    obtain ⟨j, hj, rfl⟩ := spGet hx
    have hc := h2 j hj
    have hp : ¬ f < (l.getD j sp0).p := fun e => by rw [cnd_true ⟨g1, by omega, e⟩] at hc; cases hc
    refine Int.not_lt.1 fun hb => ?_
    have := hasL_no.1 h.shut _ hx
    rw [hitS_true ⟨g1, by omega, by omega⟩] at this
    cases this
  · omega
theorem jinv_step {l O : List SP} {f a : Int} (h : JInv l O f) (hn : Next l f a l.length) (ha : 0 ≤ a) :
    a < passK l (l.length + 1) a ∧ JInv l (O ++ [⟨a, passK l (l.length + 1) a - a⟩]) (passK l (l.length + 1) a) ∧ (l.filter (cnd (passK l (l.length + 1) a))).length < (l.filter (cnd f)).length := by
  rcases hn with ⟨h1, _⟩ | ⟨h1, h2, h3, ⟨j, g1, g2, g3⟩, h4⟩
  · omega
  · obtain ⟨c1, c2, c3⟩ := cnd_of g2
    have hmem := spMem g1
    have hlt : a < passK l (l.length + 1) a := by
      have p0 : (l.getD j sp0).p + (l.getD j sp0).n ≤ passK l 1 a := pass_takes hmem (hitS_true ⟨c1, by show (l.getD j sp0).p ≤ a; omega, by show a < _; omega⟩)
      have p1 : ∀ k, passK l 1 a ≤ passK l (k + 1) a := fun k => by
        induction k with
        | zero => exact Int.le_refl _
        | succ k ih => have := pass_le l (passK l (k + 1) a); exact Int.le_trans ih this
      have := p1 l.length
      omega
    have hb := passK_bound (l := l) (e := a) (by omega) (l.length + 1)
    have hsh := passK_closed l a
    have hcv := passK_cov (l := l) (a := a) (l.length + 1)
    generalize passK l (l.length + 1) a = e at *
    have hfew := cnd_fewer (g := e) (by omega) hmem g2 (by omega)
    refine ⟨hlt, ⟨by have := h.low; omega, hb.2, ?_, ?_, hsh, fun b => ?_, ?_⟩, by omega⟩
    · exact rise_snoc h.rise (fun y hy => by have := h.ends y hy; show _ < a; omega) (by show -1 < a; omega) (by show 0 < e - a; omega)
    · intro x hx
      rcases List.mem_append.1 hx with hx | hx
      · have := h.ends x hx; omega
      · rw [List.mem_singleton.1 hx]; show a + (e - a) ≤ e; omega
    · rw [cov_snoc, h.cov b]
      constructor
      · rintro (⟨q1, q2⟩ | ⟨q1, q2⟩)
        · exact ⟨q1, by omega⟩
        · have q1 : a ≤ b := q1
          have q2 : b < a + (e - a) := q2
          exact ⟨hcv b q1 (by omega), by omega⟩
      · rintro ⟨q1, q2⟩
        by_cases hbf : b ≤ f
        · exact .inl ⟨q1, hbf⟩
        · right
          obtain ⟨x, hx, hh⟩ := hasL_iff.1 q1
          obtain ⟨k1, k2, k3⟩ := hitS_of hh
          have hne : b ≠ e := fun e' => by rw [e', hsh] at q1; cases q1
          obtain ⟨i, hi, rfl⟩ := spGet hx
          have hxp : f < (l.getD i sp0).p := Int.not_le.1 fun e' => by
            have := hasL_no.1 h.shut _ hx
            rw [hitS_true ⟨k1, e', by omega⟩] at this
            cases this
          have := h4 i hi (cnd_true ⟨k1, by omega, hxp⟩)
          exact ⟨by show a ≤ b; omega, by show b < a + (e - a); omega⟩
    · rw [List.length_append]
      have := h.few
      show O.length + 1 + _ ≤ _
      omega

/-- What is free when so many of what is joined have been seen, up to c. -/
structure FInv (J O : List SP) (i : Nat) (c : Int) : Prop where
  low : 4096 ≤ c
  big : c ≤ 8589934590
  seen : ∀ x ∈ J.take i, x.p + x.n ≤ c
  rise : riseS 4095 O
  ends : ∀ x ∈ O, x.p + x.n < c
  cov : ∀ b, covL O b ↔ 4096 ≤ b ∧ b < 65536 ∧ b < c ∧ ¬ covL J b
  few : O.length ≤ i
theorem finv_start (J : List SP) : FInv J [] 0 4096 := ⟨by omega, by omega, (fun _ h => absurd h List.not_mem_nil), trivial, (fun _ h => absurd h List.not_mem_nil), (fun b => ⟨fun h => absurd h (cov_nil _), fun h => by omega⟩), Nat.le_refl _⟩
theorem rise_later : ∀ {J : List SP} {b : Int} {i j : Nat}, riseS b J → i < j → j < J.length → (J.getD i sp0).p + (J.getD i sp0).n < (J.getD j sp0).p := by
  intro J b i j h hij hj
  induction j with
  | zero => omega
  | succ j ih =>
    have h1 := rise_next h hj
    by_cases e : i = j
    · rw [e]; exact h1
    · have := ih (by omega) (by omega)
      have := (rise_mem h _ (spMem (show j < J.length by omega))).2
      omega
theorem finv_step {J O : List SP} {i : Nat} {c : Int} (hJ : riseS (-1) J) (hbig : ∀ x ∈ J, x.p + x.n ≤ 8589934590) (h : FInv J O i c) (hi : i < J.length) :
    FInv J (if c < (J.getD i sp0).p ∧ c < 65536 then O ++ [⟨c, min (J.getD i sp0).p 65536 - c⟩] else O) (i + 1) (max c ((J.getD i sp0).p + (J.getD i sp0).n)) := by
  have hmem := spMem hi
  obtain ⟨m1, m2⟩ := rise_mem hJ _ hmem
  have hb := hbig _ hmem
  have hto : ∀ x ∈ J.take i, x.p + x.n ≤ c := h.seen
  have hdist : ∀ x ∈ J, x.p + x.n ≤ c ∨ x = J.getD i sp0 ∨ (J.getD i sp0).p + (J.getD i sp0).n < x.p := fun x hx => by
    obtain ⟨j, hj, rfl⟩ := spGet hx
    by_cases e : j < i
    · left
      refine hto _ ?_
      have : (J.take i).getD j sp0 = J.getD j sp0 := by rw [List.getD_eq_getElem?_getD, List.getD_eq_getElem?_getD, List.getElem?_take_of_lt e]
      rw [← this]
      exact spMem (by rw [List.length_take]; omega)
    · by_cases e2 : j = i
      · rw [e2]; exact .inr (.inl rfl)
      · exact .inr (.inr (rise_later hJ (by omega) hj))
  have hseen : ∀ x ∈ J.take (i + 1), x.p + x.n ≤ max c ((J.getD i sp0).p + (J.getD i sp0).n) := fun x hx => by
    rw [List.take_succ_eq_append_getElem hi] at hx
    have e : J.getD i sp0 = J[i] := by rw [List.getD_eq_getElem?_getD, List.getElem?_eq_getElem hi]; rfl
    rcases List.mem_append.1 hx with hx | hx
    · have := hto x hx; omega
    · rw [List.mem_singleton.1 hx, ← e]; omega
  clear hto
  generalize J.getD i sp0 = y at *
  have hcv : ∀ b, c ≤ b → b < max c (y.p + y.n) → (covL J b ↔ y.p ≤ b) := fun b h1 h2 => by
    constructor
    · rintro ⟨x, hx, g1, g2⟩
      rcases hdist x hx with g | rfl | g
      · omega
      · exact g1
      · omega
    · intro g
      exact ⟨y, hmem, g, by omega⟩
  have hlow := h.low
  have hbg := h.big
  by_cases hc : c < y.p ∧ c < 65536
  · rw [if_pos hc]
    refine ⟨by omega, by omega, hseen, ?_, fun x hx => ?_, fun b => ?_, by rw [List.length_append]; have := h.few; show O.length + 1 ≤ _; omega⟩
    · exact rise_snoc h.rise (fun z hz => h.ends z hz) (by show 4095 < c; omega) (by show 0 < min y.p 65536 - c; omega)
    · rcases List.mem_append.1 hx with hx | hx
      · have := h.ends x hx; omega
      · rw [List.mem_singleton.1 hx]; show c + (min y.p 65536 - c) < _; omega
    · rw [cov_snoc, h.cov b]
      constructor
      · rintro (⟨q1, q2, q3, q4⟩ | ⟨q1, q2⟩)
        · exact ⟨q1, q2, by omega, q4⟩
        · have q1 : c ≤ b := q1
          have q2 : b < c + (min y.p 65536 - c) := q2
          exact ⟨by omega, by omega, by omega, fun g => by have := (hcv b q1 (by omega)).1 g; omega⟩
      · rintro ⟨q1, q2, q3, q4⟩
        by_cases hbc : b < c
        · exact .inl ⟨q1, q2, hbc, q4⟩
        · right
          have : ¬ y.p ≤ b := fun g => q4 ((hcv b (by omega) q3).2 g)
          exact ⟨by show c ≤ b; omega, by show b < c + (min y.p 65536 - c); omega⟩
  · rw [if_neg hc]
    refine ⟨by omega, by omega, hseen, h.rise, (fun x hx => by have := h.ends x hx; omega), fun b => ?_, by have := h.few; omega⟩
    rw [h.cov b]
    constructor
    · rintro ⟨q1, q2, q3, q4⟩
      exact ⟨q1, q2, by omega, q4⟩
    · rintro ⟨q1, q2, q3, q4⟩
      refine ⟨q1, q2, Int.not_le.1 fun hbc => ?_, q4⟩
      have : ¬ y.p ≤ b := fun g => q4 ((hcv b hbc q3).2 g)
      omega
theorem finv_end {l J O : List SP} {c : Int} (hJ : JoinOk l J) (h : FInv J O J.length c) : FreeOk l (if c < 65536 then O ++ [⟨c, 65536 - c⟩] else O) := by
  have hlow := h.low
  have hno : ∀ b, c ≤ b → ¬ covL J b := fun b hb ⟨x, hx, g1, g2⟩ => by
    have := h.seen x (by rw [List.take_length]; exact hx)
    omega
  have hhas : ∀ b, hasL l b = false ↔ ¬ covL J b := fun b => by
    rw [hJ.2 b]
    cases hasL l b <;> simp
  by_cases hc : c < 65536
  · rw [if_pos hc]
    refine ⟨rise_snoc h.rise (fun z hz => h.ends z hz) (by show 4095 < c; omega) (by show 0 < 65536 - c; omega), fun b => ?_⟩
    rw [cov_snoc, h.cov b, hhas b]
    constructor
    · rintro (⟨q1, q2, q3, q4⟩ | ⟨q1, q2⟩)
      · exact ⟨q1, q2, q4⟩
      · have q1 : c ≤ b := q1
        have q2 : b < c + (65536 - c) := q2
        exact ⟨by omega, by omega, hno b q1⟩
    · rintro ⟨q1, q2, q3⟩
      by_cases hbc : b < c
      · exact .inl ⟨q1, q2, hbc, q3⟩
      · exact .inr ⟨by show c ≤ b; omega, by show b < c + (65536 - c); omega⟩
  · rw [if_neg hc]
    refine ⟨h.rise, fun b => ?_⟩
    rw [h.cov b, hhas b]
    constructor
    · rintro ⟨q1, q2, q3, q4⟩; exact ⟨q1, q2, q4⟩
    · rintro ⟨q1, q2, q3⟩; exact ⟨q1, q2, by omega, q3⟩
end Go.Proofs.Ytgfblcfleohdjaa
