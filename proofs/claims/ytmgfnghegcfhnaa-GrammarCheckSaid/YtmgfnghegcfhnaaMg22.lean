/- Small trees in plain words: bounds of their counts and tokens. No condition: nothing of the program stands in it. -/
import Derived.Test.YtmgfnghegcfhnaaTrQ
import Derived.Test.YtmgfnghegcfhnaaMg17
namespace Go.Proofs.Ytmgfnghegcfhnaa

/-- A tree of at most 12 levels, and few nodes and properties. -/
def SzT (n : ND) : Prop := dpR 12 n = true ∧ (countR 12 n).a + (countR 12 n).b ≤ 400
theorem csum_nil (k : Nat) : csum k [] = ⟨0, 0, 0⟩ := rfl
theorem csum_cons (k : Nat) (x : ND) (l : List ND) : (csum k (x :: l)).a = (countR k x).a + (csum k l).a ∧ (csum k (x :: l)).b = (countR k x).b + (csum k l).b := ⟨rfl, rfl⟩
theorem csum_mono {j k : Nat} : ∀ {l : List ND}, (∀ x ∈ l, (countR j x).a ≤ (countR k x).a ∧ (countR j x).b ≤ (countR k x).b) → (csum j l).a ≤ (csum k l).a ∧ (csum j l).b ≤ (csum k l).b
  | [], _ => ⟨Nat.le_refl _, Nat.le_refl _⟩
  | x :: l, h => by
    have h1 := h x (List.mem_cons_self)
    have h2 := csum_mono (l := l) fun y hy => h y (List.mem_cons_of_mem _ hy)
    have e1 := csum_cons j x l
    have e2 := csum_cons k x l
    omega
theorem count_mono : ∀ (k : Nat) (n : ND), (countR k n).a ≤ (countR (k + 1) n).a ∧ (countR k n).b ≤ (countR (k + 1) n).b
  | 0, _ => ⟨Nat.zero_le _, Nat.zero_le _⟩
  | k + 1, n => by
    have h := csum_mono (l := n.ks) fun x _ => count_mono k x
    rw [countR_succ k n, countR_succ (k + 1) n]
    exact ⟨by show 1 + _ ≤ 1 + _; omega, by show _ + _ ≤ _ + _; omega⟩
theorem count_le (n : ND) : ∀ (d k : Nat), (countR k n).a ≤ (countR (k + d) n).a ∧ (countR k n).b ≤ (countR (k + d) n).b
  | 0, _ => ⟨Nat.le_refl _, Nat.le_refl _⟩
  | d + 1, k => by
    have h1 := count_le n d k
    have h2 := count_mono (k + d) n
    exact ⟨Nat.le_trans h1.1 h2.1, Nat.le_trans h1.2 h2.2⟩
theorem tok_len : ∀ (k : Nat) (n : ND), (tokR k n).length ≤ 2 * (countR k n).a + (countR k n).b
  | 0, _ => Nat.zero_le _
  | k + 1, n => by
    have h : ∀ l : List ND, (l.flatMap (tokR k)).length ≤ 2 * (csum k l).a + (csum k l).b := fun l => by
      induction l with
      | nil => exact Nat.zero_le _
      | cons x l ih =>
        rw [List.flatMap_cons, List.length_append]
        have h1 := tok_len k x
        have h2 := csum_cons k x l
        omega
    have h1 := h n.ks
    rw [countR_succ]
    show (((⟨1, n.nm, ByteArray.empty⟩ : TK) :: n.ps.map tokP) ++ n.ks.flatMap (tokR k) ++ [(⟨2, ByteArray.empty, ByteArray.empty⟩ : TK)]).length ≤ 2 * (1 + (csum k n.ks).a) + (n.ps.length + (csum k n.ks).b)
    rw [List.length_append, List.length_append, List.length_cons, List.length_map, List.length_cons, List.length_nil]
    omega
theorem cutSum_exact (f : ND → Nat) : ∀ (l : List ND) (a : Nat), cutSum f a l < 1000 → a + (l.map f).sum = cutSum f a l
  | [], a, _ => by simp [cutSum]
  | x :: r, a, h => by
    unfold cutSum at h ⊢
    by_cases ha : a < 1000
    · rw [if_pos ha] at h ⊢
      have := cutSum_exact f r (a + f x) h
      rw [List.map_cons, List.sum_cons]; omega
    · rw [if_neg ha] at h; omega
theorem count_of_size : ∀ (k : Nat) (n : ND), sizeR k n < 1000 → (countR k n).a + (countR k n).b ≤ sizeR k n
  | 0, _, _ => Nat.zero_le _
  | k + 1, n, h => by
    have e : 1 + n.ps.length + (n.ks.map (sizeR k)).sum = sizeR (k + 1) n := cutSum_exact (sizeR k) n.ks _ h
    have hs : ∀ l : List ND, (l.map (sizeR k)).sum < 1000 → (csum k l).a + (csum k l).b ≤ (l.map (sizeR k)).sum := fun l => by
      induction l with
      | nil => intro _; exact Nat.le_refl _
      | cons x l ih =>
        intro hl
        rw [List.map_cons, List.sum_cons] at hl ⊢
        have h1 := count_of_size k x (by omega)
        have h2 := ih (by omega)
        have h3 := csum_cons k x l
        omega
    have h1 := hs n.ks (by omega)
    rw [countR_succ]
    show 1 + (csum k n.ks).a + (n.ps.length + (csum k n.ks).b) ≤ _
    omega
theorem dp_of_low : ∀ (k : Nat) (n : ND), lowR k n = true → dpR k n = true
  | 0, _, h => by cases h
  | k + 1, n, h => by
    show n.ks.all (dpR k) = true
    rw [List.all_eq_true]
    exact fun x hx => dp_of_low k x (low_kids h x hx)
theorem low_and {n : ND} (h : LowR n = true) : lowR 12 n = true ∧ sizeR 12 n ≤ 400 := by
  unfold LowR at h
  rw [Bool.and_eq_true] at h
  exact ⟨h.1, of_decide_eq_true h.2⟩
theorem sz_of_low {n : ND} (h : LowR n = true) : SzT n := by
  obtain ⟨h1, h2⟩ := low_and h
  have := count_of_size 12 n (by omega)
  exact ⟨dp_of_low 12 n h1, by omega⟩
theorem sz_of_fits {n : ND} (h : fitsR n = true) : SzT n := by
  obtain ⟨h1, h2, h3⟩ := of_decide_eq_true h
  have hd := dp_of_count 8 n h3
  have e9 := count_same 1 8 n hd
  have e12 := count_same 4 8 n hd
  rw [show 8 + 1 = 9 from rfl] at e9
  rw [show 8 + 4 = 12 from rfl] at e12
  refine ⟨dp_mono 8 12 n hd (by omega), ?_⟩
  rw [e12, ← e9]; omega
theorem sz_count {n : ND} (h : SzT n) : (countR 9 n).a ≤ 400 ∧ (countR 9 n).b ≤ 400 ∧ (countR 8 n).a ≤ 400 ∧ (tokR 8 n).length ≤ 800 := by
  have h1 := count_le n 3 9
  have h2 := count_le n 4 8
  have h3 := tok_len 8 n
  have h4 := h.2
  rw [show 9 + 3 = 12 from rfl] at h1
  rw [show 8 + 4 = 12 from rfl] at h2
  omega
/-- Kinds of 64 bits. -/
def KdOk (l : List TK) : Prop := ∀ x ∈ l, -9223372036854775808 ≤ x.kd ∧ x.kd < 9223372036854775808
theorem kd_tok : ∀ (k : Nat) (n : ND), ∀ x ∈ tokR k n, 1 ≤ x.kd ∧ x.kd ≤ 3
  | 0, _, x, h => absurd h List.not_mem_nil
  | k + 1, n, x, h => by
    have h' : x ∈ ((⟨1, n.nm, ByteArray.empty⟩ : TK) :: n.ps.map tokP) ++ n.ks.flatMap (tokR k) ++ [(⟨2, ByteArray.empty, ByteArray.empty⟩ : TK)] := h
    rcases List.mem_append.1 h' with h' | h'
    · rcases List.mem_append.1 h' with h' | h'
      · rcases List.mem_cons.1 h' with rfl | h'
        · exact ⟨by show (1 : Int) ≤ 1; decide, by show (1 : Int) ≤ 3; decide⟩
        · obtain ⟨p, _, rfl⟩ := List.mem_map.1 h'
          exact ⟨by show (1 : Int) ≤ 3; decide, by show (3 : Int) ≤ 3; decide⟩
      · obtain ⟨y, hy, hx⟩ := List.mem_flatMap.1 h'
        exact kd_tok k y x hx
    · rw [List.mem_singleton] at h'
      subst h'
      exact ⟨by show (1 : Int) ≤ 2; decide, by show (2 : Int) ≤ 3; decide⟩
theorem kdOk_tok (k : Nat) (n : ND) : KdOk (tokR k n) := fun x hx => by
  have := kd_tok k n x hx
  omega
theorem kdOk_getD {l : List TK} (h : ∀ k, k < l.length → (l.getD k tk0).kd < 9223372036854775808 ∧ -9223372036854775808 ≤ (l.getD k tk0).kd) : KdOk l := fun x hx => by
  obtain ⟨k, hk, rfl⟩ := List.getElem_of_mem hx
  have := h k hk
  rw [List.getD_eq_getElem?_getD, List.getElem?_eq_getElem hk] at this
  exact ⟨this.2, this.1⟩
end Go.Proofs.Ytmgfnghegcfhnaa
