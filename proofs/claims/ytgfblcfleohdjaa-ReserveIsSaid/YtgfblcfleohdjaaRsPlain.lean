/- Spans of a memory in plain words: which may be, which meet, what they come to, what is free. No condition: nothing of the program stands in it. -/
import Derived.Test.YtgfblcfleohdjaaRaPlain
namespace Go.Proofs.Ytgfblcfleohdjaa
open Go.RowKit

/-- May a span be? -/
def mayS (x : SP) : Bool := decide (0 ≤ x.p) && decide (x.p ≤ 4294967295) && decide (0 ≤ x.n) && decide (x.n ≤ 4294967295)
theorem mayS_of {x : SP} (h : mayS x = true) : 0 ≤ x.p ∧ x.p ≤ 4294967295 ∧ 0 ≤ x.n ∧ x.n ≤ 4294967295 := by unfold mayS at h; simp at h; omega
theorem mayS_true {x : SP} (h : 0 ≤ x.p ∧ x.p ≤ 4294967295 ∧ 0 ≤ x.n ∧ x.n ≤ 4294967295) : mayS x = true := by unfold mayS; simp; omega
theorem mayS_false {x : SP} (h : ¬ (0 ≤ x.p ∧ x.p ≤ 4294967295 ∧ 0 ≤ x.n ∧ x.n ≤ 4294967295)) : mayS x = false := by
  cases e : mayS x with
  | false => rfl
  | true => exact absurd (mayS_of e) h
/-- Does it have a byte? -/
def hitS (x : SP) (b : Int) : Bool := mayS x && (decide (x.p ≤ b) && decide (b < x.p + x.n))
theorem hitS_of {x : SP} {b : Int} (h : hitS x b = true) : mayS x = true ∧ x.p ≤ b ∧ b < x.p + x.n := by unfold hitS at h; simpa using h
theorem hitS_true {x : SP} {b : Int} (h : mayS x = true ∧ x.p ≤ b ∧ b < x.p + x.n) : hitS x b = true := by unfold hitS; simpa using h
theorem hitS_false {x : SP} {b : Int} (h : ¬ (mayS x = true ∧ x.p ≤ b ∧ b < x.p + x.n)) : hitS x b = false := by
  cases e : hitS x b with
  | false => rfl
  | true => exact absurd (hitS_of e) h
def hasL (l : List SP) (b : Int) : Bool := l.any fun x => hitS x b
theorem hasL_iff {l : List SP} {b : Int} : hasL l b = true ↔ ∃ x ∈ l, hitS x b = true := List.any_eq_true
theorem hasL_no {l : List SP} {b : Int} : hasL l b = false ↔ ∀ x ∈ l, hitS x b = false := by
  unfold hasL
  rw [List.any_eq_false]
  exact ⟨fun h x hx => by simpa using h x hx, fun h x hx => by rw [h x hx]; decide⟩
/-- Do two that may be have a byte in common? -/
def metS (x y : SP) : Bool := mayS x && (mayS y && meetS x y)
def metL (x : SP) (l : List SP) : Bool := l.any (metS x)
/-- Where one is put, and what is added. -/
def posL (l : List SP) (p : Int) : Nat := (l.takeWhile fun y => decide (y.p ≤ p)).length
def addL (l : List SP) (x : SP) : List SP × Nat :=
  if mayS x = false ∨ x.n = 0 then ([], 1) else if 16 ≤ l.length then ([], 7) else if metL x l = true then ([], 12) else (l.take (posL l x.p) ++ x :: l.drop (posL l x.p), 0)
theorem posL_end {p : Int} : ∀ {l : List SP} {k : Nat}, k ≤ l.length → (∀ j, j < k → (l.getD j sp0).p ≤ p) → (k = l.length ∨ p < (l.getD k sp0).p) → posL l p = k
  | [], 0, _, _, _ => rfl
  | x :: r, 0, _, _, h => by
    rcases h with h | h
    · cases h
    · have h : p < x.p := h
      unfold posL
      rw [List.takeWhile_cons, if_neg (by simp; omega)]; rfl
  | x :: r, k + 1, hk, hj, h => by
    have h0 : x.p ≤ p := hj 0 (Nat.succ_pos _)
    unfold posL
    rw [List.takeWhile_cons, if_pos (decide_eq_true h0), List.length_cons]
    have := posL_end (p := p) (l := r) (k := k) (by simpa using hk) (fun j hj' => by have := hj (j + 1) (by omega); simpa using this) (by simpa using h)
    unfold posL at this
    rw [this]
theorem posL_le (l : List SP) (p : Int) : posL l p ≤ l.length := (List.takeWhile_sublist _).length_le

/-- They rise from b on, have bytes, and do not touch. -/
def riseS : Int → List SP → Prop
  | _, [] => True
  | b, x :: r => b < x.p ∧ 0 < x.n ∧ riseS (x.p + x.n) r
def covL (J : List SP) (b : Int) : Prop := ∃ x ∈ J, x.p ≤ b ∧ b < x.p + x.n
theorem cov_nil (b : Int) : ¬ covL [] b := fun ⟨_, h, _⟩ => absurd h List.not_mem_nil
theorem cov_cons {x : SP} {r : List SP} {b : Int} : covL (x :: r) b ↔ (x.p ≤ b ∧ b < x.p + x.n) ∨ covL r b := by
  constructor
  · rintro ⟨y, hy, h⟩
    rcases List.mem_cons.1 hy with rfl | hy
    · exact .inl h
    · exact .inr ⟨y, hy, h⟩
  · rintro (h | ⟨y, hy, h⟩)
    · exact ⟨x, List.mem_cons_self, h⟩
    · exact ⟨y, List.mem_cons_of_mem _ hy, h⟩
theorem cov_snoc {J : List SP} {x : SP} {b : Int} : covL (J ++ [x]) b ↔ covL J b ∨ (x.p ≤ b ∧ b < x.p + x.n) := by
  constructor
  · rintro ⟨y, hy, h⟩
    rcases List.mem_append.1 hy with hy | hy
    · exact .inl ⟨y, hy, h⟩
    · rw [List.mem_singleton.1 hy] at h; exact .inr h
  · rintro (⟨y, hy, h⟩ | h)
    · exact ⟨y, List.mem_append_left _ hy, h⟩
    · exact ⟨x, List.mem_append_right _ (List.mem_singleton.2 rfl), h⟩
theorem rise_mono {b c : Int} : ∀ {J : List SP}, riseS b J → c ≤ b → riseS c J
  | [], _, _ => trivial
  | x :: r, h, hc => ⟨by have := h.1; omega, h.2.1, h.2.2⟩
theorem rise_cov : ∀ {J : List SP} {b c : Int}, riseS b J → covL J c → b < c
  | [], _, _, _, h => absurd h (cov_nil _)
  | x :: r, b, c, h, hc => by
    rcases cov_cons.1 hc with h1 | h1
    · have := h.1; omega
    · have := rise_cov h.2.2 h1
      have := h.1; have := h.2.1; omega
theorem rise_mem : ∀ {J : List SP} {b : Int}, riseS b J → ∀ x ∈ J, b < x.p ∧ 0 < x.n
  | [], _, _, _, h => absurd h List.not_mem_nil
  | y :: r, b, h, x, hx => by
    rcases List.mem_cons.1 hx with rfl | hx
    · exact ⟨h.1, h.2.1⟩
    · have := rise_mem h.2.2 x hx
      have := h.1; have := h.2.1; omega
theorem rise_snoc {x : SP} : ∀ {J : List SP} {b : Int}, riseS b J → (∀ y ∈ J, y.p + y.n < x.p) → b < x.p → 0 < x.n → riseS b (J ++ [x])
  | [], _, _, _, hb, hn => ⟨hb, hn, trivial⟩
  | y :: _, _, h, hy, _, hn => ⟨h.1, h.2.1, rise_snoc h.2.2 (fun z hz => hy z (List.mem_cons_of_mem _ hz)) (hy y List.mem_cons_self) hn⟩
theorem rise_next : ∀ {J : List SP} {b : Int} {k : Nat}, riseS b J → k + 1 < J.length → (J.getD k sp0).p + (J.getD k sp0).n < (J.getD (k + 1) sp0).p
  | [], _, _, _, h => absurd h (Nat.not_lt_zero _)
  | [x], _, k, _, h => absurd h (by simp)
  | x :: y :: r, b, 0, h, _ => h.2.2.1
  | x :: y :: r, b, k + 1, h, hk => by
    have := rise_next (k := k) h.2.2 (by simpa using hk)
    simpa using this
theorem rise_unique : ∀ {J K : List SP} {b c : Int}, riseS b J → riseS c K → (∀ x, covL J x ↔ covL K x) → J = K
  | [], [], _, _, _, _, _ => rfl
  | [], y :: s, _, _, _, hk, h => absurd ((h y.p).2 (cov_cons.2 (.inl ⟨by omega, by have := hk.2.1; omega⟩))) (cov_nil _)
  | x :: r, [], _, _, hj, _, h => absurd ((h x.p).1 (cov_cons.2 (.inl ⟨by omega, by have := hj.2.1; omega⟩))) (cov_nil _)
  | x :: r, y :: s, b, c, hj, hk, h => by
    obtain ⟨j1, j2, j3⟩ := hj
    obtain ⟨k1, k2, k3⟩ := hk
    have hxy : x.p = y.p := by
      have h1 := (h x.p).1 (cov_cons.2 (.inl ⟨by omega, by omega⟩))
      have h2 := (h y.p).2 (cov_cons.2 (.inl ⟨by omega, by omega⟩))
      have g1 : y.p ≤ x.p := by
        rcases cov_cons.1 h1 with g | g
        · exact g.1
        · have := rise_cov k3 g; omega
      have g2 : x.p ≤ y.p := by
        rcases cov_cons.1 h2 with g | g
        · exact g.1
        · have := rise_cov j3 g; omega
      omega
    have hn : x.n = y.n := by
      have e1 : ¬ x.n < y.n := fun e => by
        have := (h (x.p + x.n)).2 (cov_cons.2 (.inl ⟨by omega, by omega⟩))
        rcases cov_cons.1 this with g | g
        · omega
        · have := rise_cov j3 g; omega
      have e2 : ¬ y.n < x.n := fun e => by
        have := (h (y.p + y.n)).1 (cov_cons.2 (.inl ⟨by omega, by omega⟩))
        rcases cov_cons.1 this with g | g
        · omega
        · have := rise_cov k3 g; omega
      omega
    have e : x = y := by cases x; cases y; simp_all
    subst e
    congr 1
    refine rise_unique j3 k3 fun b => ?_
    constructor
    · intro g
      rcases cov_cons.1 ((h b).1 (cov_cons.2 (.inr g))) with g' | g'
      · have := rise_cov j3 g; omega
      · exact g'
    · intro g
      rcases cov_cons.1 ((h b).2 (cov_cons.2 (.inr g))) with g' | g'
      · have := rise_cov k3 g; omega
      · exact g'
/-- What Join and Free must give. -/
def JoinOk (l J : List SP) : Prop := riseS (-1) J ∧ ∀ b, covL J b ↔ hasL l b = true
def FreeOk (l F : List SP) : Prop := riseS 4095 F ∧ ∀ b, covL F b ↔ 4096 ≤ b ∧ b < 65536 ∧ hasL l b = false
theorem join_one {l J K : List SP} (h : JoinOk l J) (h' : JoinOk l K) : J = K := rise_unique h.1 h'.1 fun b => (h.2 b).trans (h'.2 b).symm
theorem free_one {l J K : List SP} (h : FreeOk l J) (h' : FreeOk l K) : J = K := rise_unique h.1 h'.1 fun b => (h.2 b).trans (h'.2 b).symm
theorem join_in {l J : List SP} (h : JoinOk l J) : ∀ x ∈ J, 0 ≤ x.p ∧ 0 < x.n ∧ x.p + x.n ≤ 8589934590 := fun x hx => by
  obtain ⟨h1, h2⟩ := rise_mem h.1 x hx
  have h3 := (h.2 (x.p + x.n - 1)).1 ⟨x, hx, by omega, by omega⟩
  obtain ⟨y, _, hy⟩ := hasL_iff.1 h3
  obtain ⟨g1, g2, g3⟩ := hitS_of hy
  have := mayS_of g1
  omega
theorem free_in {l F : List SP} (h : FreeOk l F) : ∀ x ∈ F, 4096 ≤ x.p ∧ 0 < x.n ∧ x.p + x.n ≤ 65536 := fun x hx => by
  obtain ⟨h1, h2⟩ := rise_mem h.1 x hx
  have h3 := (h.2 (x.p + x.n - 1)).1 ⟨x, hx, by omega, by omega⟩
  omega
/-- How many of them have a byte. -/
def inS (b : Int) (x : SP) : Bool := decide (x.p ≤ b) && decide (b < x.p + x.n)
def cntL (J : List SP) (b : Int) : Nat := (J.filter (inS b)).length
theorem cnt_none : ∀ {J : List SP} {b : Int}, ¬ covL J b → cntL J b = 0
  | [], _, _ => rfl
  | x :: r, b, h => by
    have h1 : inS b x = false := by
      cases e : inS b x with
      | false => rfl
      | true => exact absurd (cov_cons.2 (.inl (by unfold inS at e; simpa using e))) h
    unfold cntL
    rw [List.filter_cons, if_neg (by rw [h1]; decide)]
    exact cnt_none fun e => h (cov_cons.2 (.inr e))
theorem rise_cnt : ∀ {J : List SP} {b c : Int}, riseS c J → covL J b → cntL J b = 1
  | [], _, _, _, h => absurd h (cov_nil _)
  | x :: r, b, c, hr, h => by
    unfold cntL
    by_cases e : inS b x = true
    · have e' : x.p ≤ b ∧ b < x.p + x.n := by unfold inS at e; simpa using e
      rw [List.filter_cons, if_pos e, List.length_cons]
      have := cnt_none (J := r) (b := b) fun g => by have := rise_cov hr.2.2 g; omega
      unfold cntL at this
      rw [this]
    · rw [List.filter_cons, if_neg e]
      refine rise_cnt hr.2.2 ?_
      rcases cov_cons.1 h with g | g
      · exact absurd (by unfold inS; simpa using g) e
      · exact g
theorem cnt_take {J : List SP} {b : Int} {k : Nat} (hk : k < J.length) : cntL (J.take (k + 1)) b = cntL (J.take k) b + if inS b (J.getD k sp0) = true then 1 else 0 := by
  rw [List.take_succ_eq_append_getElem hk]
  have e : J.getD k sp0 = J[k] := by rw [List.getD_eq_getElem?_getD, List.getElem?_eq_getElem hk]; rfl
  unfold cntL
  rw [List.filter_append, List.length_append, e]
  congr 1
  by_cases h : inS b J[k] = true
  · rw [if_pos h, List.filter_cons, if_pos h]; rfl
  · rw [if_neg h, List.filter_cons, if_neg h]; rfl
end Go.Proofs.Ytgfblcfleohdjaa
