/- Small trees in plain words: bounds of their counts and tokens. No condition: nothing of the program stands in it. -/
import Derived.Test.YtfcclppgjfkfoaaDoorMg13
import Derived.Test.YtfcclppgjfkfoaaDoorMg14
import Derived.Test.YtfcclppgjfkfoaaDoorMg4
namespace Go.Proofs.YtfcclppgjfkfoaaDoor

/-- A tree of at most 12 levels, and few nodes and properties. -/
def SzT (n : ND) : Prop := dpR 12 n = true ∧ (countR 12 n).a + (countR 12 n).b ≤ 400
theorem csum_nil (k : Nat) : csum k [] = ⟨0, 0, 0⟩ := rfl
theorem csum_cons (k : Nat) (x : ND) (l : List ND) : (csum k (x :: l)).a = (countR k x).a + (csum k l).a ∧ (csum k (x :: l)).b = (countR k x).b + (csum k l).b := ⟨rfl, rfl⟩
theorem csum_mono {j k : Nat} : ∀ {l : List ND}, (∀ x ∈ l, (countR j x).a ≤ (countR k x).a ∧ (countR j x).b ≤ (countR k x).b) → (csum j l).a ≤ (csum k l).a ∧ (csum j l).b ≤ (csum k l).b
  | [], _ => ⟨Nat.le_refl _, Nat.le_refl _⟩
  | x :: l, h => by
    have h1 := h x (List.mem_cons_self)
    have h2 := csum_mono (l := l) fun y hy => h y (List.mem_cons_of_mem _ hy)
    have e1 := csum_cons j x l
    have e2 := csum_cons k x l
    omega
theorem count_mono : ∀ (k : Nat) (n : ND), (countR k n).a ≤ (countR (k + 1) n).a ∧ (countR k n).b ≤ (countR (k + 1) n).b
  | 0, _ => ⟨Nat.zero_le _, Nat.zero_le _⟩
  | k + 1, n => by
    have h := csum_mono (l := n.ks) fun x _ => count_mono k x
    rw [countR_succ k n, countR_succ (k + 1) n]
    exact ⟨by show 1 + _ ≤ 1 + _; omega, by show _ + _ ≤ _ + _; omega⟩
theorem count_le (n : ND) : ∀ (d k : Nat), (countR k n).a ≤ (countR (k + d) n).a ∧ (countR k n).b ≤ (countR (k + d) n).b
  | 0, _ => ⟨Nat.le_refl _, Nat.le_refl _⟩
  | d + 1, k => by
    have h1 := count_le n d k
    have h2 := count_mono (k + d) n
    exact ⟨Nat.le_trans h1.1 h2.1, Nat.le_trans h1.2 h2.2⟩
theorem tok_len : ∀ (k : Nat) (n : ND), (tokR k n).length ≤ 2 * (countR k n).a + (countR k n).b
  | 0, _ => Nat.zero_le _
  | k + 1, n => by
    have h : ∀ l : List ND, (l.flatMap (tokR k)).length ≤ 2 * (csum k l).a + (csum k l).b := fun l => by
      induction l with
      | nil => exact Nat.zero_le _
      | cons x l ih =>
        rw [List.flatMap_cons, List.length_append]
        have h1 := tok_len k x
        have h2 := csum_cons k x l
        omega
    have h1 := h n.ks
    rw [countR_succ]
    show (((⟨1, n.nm, ByteArray.empty⟩ : TK) :: n.ps.map tokP) ++ n.ks.flatMap (tokR k) ++ [(⟨2, ByteArray.empty, ByteArray.empty⟩ : TK)]).length ≤ 2 * (1 + (csum k n.ks).a) + (n.ps.length + (csum k n.ks).b)
    rw [List.length_append, List.length_append, List.length_cons, List.length_map, List.length_cons, List.length_nil]
    omega
theorem cutSum_exact (f : ND → Nat) : ∀ (l : List ND) (a : Nat), cutSum f a l < 1000 → a + (l.map f).sum = cutSum f a l
  | [], a, _ => by simp [cutSum]
  | x :: r, a, h => by
    unfold cutSum at h ⊢
    by_cases ha : a < 1000
    · rw [if_pos ha] at h ⊢
      have := cutSum_exact f r (a + f x) h
      rw [List.map_cons, List.sum_cons]; omega
    · rw [if_neg ha] at h; omega
theorem count_of_size : ∀ (k : Nat) (n : ND), sizeR k n < 1000 → (countR k n).a + (countR k n).b ≤ sizeR k n
  | 0, _, _ => Nat.zero_le _
  | k + 1, n, h => by
    have e : 1 + n.ps.length + (n.ks.map (sizeR k)).sum = sizeR (k + 1) n := cutSum_exact (sizeR k) n.ks _ h
    have hs : ∀ l : List ND, (l.map (sizeR k)).sum < 1000 → (csum k l).a + (csum k l).b ≤ (l.map (sizeR k)).sum := fun l => by
      induction l with
      | nil => intro _; exact Nat.le_refl _
      | cons x l ih =>
        intro hl
        rw [List.map_cons, List.sum_cons] at hl ⊢
        have h1 := count_of_size k x (by omega)
        have h2 := ih (by omega)
        have h3 := csum_cons k x l
        omega
    have h1 := hs n.ks (by omega)
    rw [countR_succ]
    show 1 + (csum k n.ks).a + (n.ps.length + (csum k n.ks).b) ≤ _
    omega
theorem dp_of_low : ∀ (k : Nat) (n : ND), lowR k n = true → dpR k n = true
  | 0, _, h => by cases h
  | k + 1, n, h => by
    show n.ks.all (dpR k) = true
    rw [List.all_eq_true]
    exact fun x hx => dp_of_low k x (low_kids h x hx)
theorem low_and {n : ND} (h : LowR n = true) : lowR 12 n = true ∧ sizeR 12 n ≤ 400 := by
  unfold LowR at h
  rw [Bool.and_eq_true] at h
  exact ⟨h.1, of_decide_eq_true h.2⟩
theorem sz_of_low {n : ND} (h : LowR n = true) : SzT n := by
  obtain ⟨h1, h2⟩ := low_and h
  have := count_of_size 12 n (by omega)
  exact ⟨dp_of_low 12 n h1, by omega⟩
theorem sz_of_fits {n : ND} (h : fitsR n = true) : SzT n := by
  obtain ⟨h1, h2, h3⟩ := of_decide_eq_true h
  have hd := dp_of_count 8 n h3
  have e9 := count_same 1 8 n hd
  have e12 := count_same 4 8 n hd
  rw [show 8 + 1 = 9 from rfl] at e9
  rw [show 8 + 4 = 12 from rfl] at e12
  refine ⟨dp_mono 8 12 n hd (by omega), ?_⟩
  rw [e12, ← e9]; omega
theorem sz_count {n : ND} (h : SzT n) : (countR 9 n).a ≤ 400 ∧ (countR 9 n).b ≤ 400 ∧ (countR 8 n).a ≤ 400 ∧ (tokR 8 n).length ≤ 800 := by
  have h1 := count_le n 3 9
  have h2 := count_le n 4 8
  have h3 := tok_len 8 n
  have h4 := h.2
  rw [show 9 + 3 = 12 from rfl] at h1
  rw [show 8 + 4 = 12 from rfl] at h2
  omega
/-- Kinds of 64 bits. -/
def KdOk (l : List TK) : Prop := ∀ x ∈ l, -9223372036854775808 ≤ x.kd ∧ x.kd < 9223372036854775808
theorem kd_tok : ∀ (k : Nat) (n : ND), ∀ x ∈ tokR k n, 1 ≤ x.kd ∧ x.kd ≤ 3
  | 0, _, x, h => absurd h List.not_mem_nil
  | k + 1, n, x, h => by
    have h' : x ∈ ((⟨1, n.nm, ByteArray.empty⟩ : TK) :: n.ps.map tokP) ++ n.ks.flatMap (tokR k) ++ [(⟨2, ByteArray.empty, ByteArray.empty⟩ : TK)] := h
    rcases List.mem_append.1 h' with h' | h'
    · rcases List.mem_append.1 h' with h' | h'
      · rcases List.mem_cons.1 h' with rfl | h'
        · exact ⟨by show (1 : Int) ≤ 1; decide, by show (1 : Int) ≤ 3; decide⟩
        · obtain ⟨p, _, rfl⟩ := List.mem_map.1 h'
          exact ⟨by show (1 : Int) ≤ 3; decide, by show (3 : Int) ≤ 3; decide⟩
      · obtain ⟨y, hy, hx⟩ := List.mem_flatMap.1 h'
        exact kd_tok k y x hx
    · rw [List.mem_singleton] at h'
      subst h'
      exact ⟨by show (1 : Int) ≤ 2; decide, by show (2 : Int) ≤ 3; decide⟩
theorem kdOk_tok (k : Nat) (n : ND) : KdOk (tokR k n) := fun x hx => by
  have := kd_tok k n x hx
  omega
theorem kdOk_getD {l : List TK} (h : ∀ k, k < l.length → (l.getD k tk0).kd < 9223372036854775808 ∧ -9223372036854775808 ≤ (l.getD k tk0).kd) : KdOk l := fun x hx => by
  obtain ⟨k, hk, rfl⟩ := List.getElem_of_mem hx
  have := h k hk
  rw [List.getD_eq_getElem?_getD, List.getElem?_eq_getElem hk] at this
  exact ⟨this.2, this.1⟩
end Go.Proofs.YtfcclppgjfkfoaaDoor

/- How wide trees are, and how much a change adds, in plain words. No condition: nothing of the program stands in it. -/
namespace Go.Proofs.YtfcclppgjfkfoaaDoor
open Go.RowKit

/-- On so many levels no node has more than B properties, or kids. -/
def wideR (B : Nat) : Nat → ND → Prop
  | 0, _ => True
  | k + 1, n => n.ps.length ≤ B ∧ n.ks.length ≤ B ∧ ∀ x ∈ n.ks, wideR B k x
theorem csum_mem (k : Nat) : ∀ {l : List ND} {x : ND}, x ∈ l → (countR k x).a ≤ (csum k l).a ∧ (countR k x).b ≤ (csum k l).b
  | y :: l, x, h => by
    have e := csum_cons k y l
    rcases List.mem_cons.1 h with h | h
    · subst h; omega
    · have := csum_mem k h; omega
theorem csum_long (k : Nat) : ∀ {l : List ND}, (∀ x ∈ l, 1 ≤ (countR k x).a) → l.length ≤ (csum k l).a
  | [], _ => Nat.zero_le _
  | y :: l, h => by
    have e := csum_cons k y l
    have h1 := h y List.mem_cons_self
    have h2 := csum_long k (l := l) fun x hx => h x (List.mem_cons_of_mem _ hx)
    rw [List.length_cons]; omega
theorem dp_pos {k : Nat} {n : ND} (h : dpR k n = true) : 1 ≤ (countR k n).a := by
  cases k with
  | zero => cases h
  | succ k => rw [countR_succ]; show 1 ≤ 1 + _; omega
theorem wide_of {B : Nat} : ∀ (k : Nat) (n : ND), dpR k n = true → (countR k n).a + (countR k n).b ≤ B → ∀ j, wideR B j n
  | 0, _, h, _, _ => by cases h
  | _ + 1, _, _, _, 0 => trivial
  | k + 1, n, h, hc, j + 1 => by
    have hk : ∀ x ∈ n.ks, dpR k x = true := fun x hx => by
      unfold dpR at h
      exact List.all_eq_true.1 h x hx
    rw [countR_succ] at hc
    have hc' : 1 + (csum k n.ks).a + (n.ps.length + (csum k n.ks).b) ≤ B := hc
    have hl := csum_long k (l := n.ks) fun x hx => dp_pos (hk x hx)
    refine ⟨by omega, by omega, fun x hx => wide_of k x (hk x hx) ?_ j⟩
    have := csum_mem k hx
    omega
theorem wide_sz {n : ND} (h : SzT n) (j : Nat) : wideR 400 j n := wide_of 12 n h.1 h.2 j
theorem wide_mono {B B' : Nat} (hB : B ≤ B') : ∀ (j : Nat) (n : ND), wideR B j n → wideR B' j n
  | 0, _, _ => trivial
  | j + 1, _, h => ⟨Nat.le_trans h.1 hB, Nat.le_trans h.2.1 hB, fun x hx => wide_mono hB j x (h.2.2 x hx)⟩
theorem kid_mem {n k : ND} {x : ByteArray} (h : kidR n x = some k) : k ∈ n.ks := List.mem_of_find?_eq_some h
/-- A kid in place of another one: the counts. -/
theorem csum_repl (j : Nat) {nm : ByteArray} {m k : ND} : ∀ {l : List ND}, (l.find? fun y => decide (y.nm = nm)) = some k → (csum j (replR nm m l)).a + (countR j k).a = (csum j l).a + (countR j m).a ∧ (csum j (replR nm m l)).b + (countR j k).b = (csum j l).b + (countR j m).b
  | [], h => absurd h (by simp)
  | x :: r, h => by
    rw [List.find?_cons] at h
    have e := csum_cons j x r
    rw [replR]
    by_cases hx : x.nm = nm
    · rw [decide_eq_true hx] at h
      injection (show some x = some k from h) with h
      subst h
      rw [if_pos hx]
      have e2 := csum_cons j m r
      omega
    · rw [decide_eq_false hx] at h
      rw [if_neg hx]
      have ih := csum_repl j (m := m) (l := r) h
      have e2 := csum_cons j x (replR nm m r)
      omega
theorem csum_snoc17 (j : Nat) (m : ND) : ∀ (l : List ND), (csum j (l ++ [m])).a = (csum j l).a + (countR j m).a ∧ (csum j (l ++ [m])).b = (csum j l).b + (countR j m).b
  | [] => by
    have e := csum_cons j m []
    have e0 := csum_nil j
    rw [e0] at e
    show (csum j [m]).a = (csum j []).a + _ ∧ (csum j [m]).b = (csum j []).b + _
    rw [e0]
    omega
  | x :: r => by
    have e := csum_cons j x r
    have e2 := csum_cons j x (r ++ [m])
    have ih := csum_snoc17 j m r
    show (csum j (x :: (r ++ [m]))).a = _ ∧ (csum j (x :: (r ++ [m]))).b = _
    omega
theorem csum_without (j : Nat) {nm : ByteArray} : ∀ (l : List ND), (csum j (withoutR nm l)).a ≤ (csum j l).a ∧ (csum j (withoutR nm l)).b ≤ (csum j l).b
  | [] => ⟨Nat.le_refl _, Nat.le_refl _⟩
  | x :: r => by
    have e := csum_cons j x r
    have ih := csum_without j (nm := nm) r
    rw [withoutR]
    split
    · omega
    · have e2 := csum_cons j x (withoutR nm r)
      omega
theorem count_leaf (j : Nat) (nm : ByteArray) : (countR j (.mk nm [] [])).a ≤ 1 ∧ (countR j (.mk nm [] [])).b = 0 := by
  cases j with
  | zero => exact ⟨Nat.zero_le _, rfl⟩
  | succ j => rw [countR_succ]; exact ⟨Nat.le_refl _, rfl⟩
/-- A change at a node adds one part at most. -/
theorem here_count (n : ND) (c : CH) (j : Nat) : (countR j (hereR n c).1).a ≤ (countR j n).a + 1 ∧ (countR j (hereR n c).1).b ≤ (countR j n).b + 1 := by
  cases j with
  | zero => exact ⟨Nat.zero_le _, Nat.zero_le _⟩
  | succ j =>
    have hp := props_len17 c n.ps
    have hw := csum_without j (nm := c.nm) n.ks
    have hs := csum_snoc17 j (.mk c.nm [] []) n.ks
    have hl := count_leaf j c.nm
    have hnd : (countR (j + 1) nd0).a ≤ 1 ∧ (countR (j + 1) nd0).b = 0 := count_leaf (j + 1) _
    have hn : ∀ m, (countR (j + 1) (.mk n.nm (propsR c n.ps).1 n.ks)).a = 1 + (csum j n.ks).a ∧ (countR (j + 1) (.mk n.nm (propsR c n.ps).1 n.ks)).b = (propsR c n.ps).1.length + (csum j n.ks).b ∧ (countR (j + 1) (.mk n.nm n.ps m)).a = 1 + (csum j m).a ∧ (countR (j + 1) (.mk n.nm n.ps m)).b = n.ps.length + (csum j m).b ∧ (countR (j + 1) n).a = 1 + (csum j n.ks).a ∧ (countR (j + 1) n).b = n.ps.length + (csum j n.ks).b := fun m => by
      refine ⟨?_, ?_, ?_, ?_, ?_, ?_⟩ <;> rw [countR_succ] <;> rfl
    have h1 := hn (withoutR c.nm n.ks)
    have h2 := hn (n.ks ++ [ND.mk c.nm [] []])
    unfold hereR
    split
    · split
      · show (countR (j + 1) (.mk n.nm (propsR c n.ps).1 n.ks)).a ≤ _ ∧ (countR (j + 1) (.mk n.nm (propsR c n.ps).1 n.ks)).b ≤ _; omega
      · show (countR (j + 1) nd0).a ≤ _ ∧ (countR (j + 1) nd0).b ≤ _; omega
    · split
      · split
        · show (countR (j + 1) (.mk n.nm (propsR c n.ps).1 n.ks)).a ≤ _ ∧ (countR (j + 1) (.mk n.nm (propsR c n.ps).1 n.ks)).b ≤ _; omega
        · show (countR (j + 1) nd0).a ≤ _ ∧ (countR (j + 1) nd0).b ≤ _; omega
      · split
        · split
          · show (countR (j + 1) nd0).a ≤ _ ∧ (countR (j + 1) nd0).b ≤ _; omega
          · split
            · show (countR (j + 1) nd0).a ≤ _ ∧ (countR (j + 1) nd0).b ≤ _; omega
            · show (countR (j + 1) (.mk n.nm n.ps (n.ks ++ [.mk c.nm [] []]))).a ≤ _ ∧ (countR (j + 1) (.mk n.nm n.ps (n.ks ++ [.mk c.nm [] []]))).b ≤ _; omega
        · split
          · show (countR (j + 1) (.mk n.nm n.ps (withoutR c.nm n.ks))).a ≤ _ ∧ (countR (j + 1) (.mk n.nm n.ps (withoutR c.nm n.ks))).b ≤ _; omega
          · show (countR (j + 1) nd0).a ≤ _ ∧ (countR (j + 1) nd0).b ≤ _; omega
theorem down_count : ∀ (l : List ByteArray) (n : ND) (c : CH) (j : Nat), (downR n l c).2 = 0 → (countR j (downR n l c).1).a ≤ (countR j n).a + 1 ∧ (countR j (downR n l c).1).b ≤ (countR j n).b + 1
  | [], n, c, j, _ => here_count n c j
  | x :: l, n, c, 0, _ => ⟨Nat.zero_le _, Nat.zero_le _⟩
  | x :: l, n, c, j + 1, h => by
    unfold downR at h ⊢
    cases e : kidR n x with
    | none => rw [e] at h; exact absurd h (by simp)
    | some k =>
      rw [e] at h
      by_cases h0 : (downR k l c).2 = 0
      · simp only [if_pos h0]
        have ih := down_count l k c j h0
        have hr := csum_repl j (m := (downR k l c).1) (show (n.ks.find? fun y => decide (y.nm = x)) = some k from e)
        rw [countR_succ, countR_succ]
        show 1 + (csum j (replR x (downR k l c).1 n.ks)).a ≤ 1 + (csum j n.ks).a + 1 ∧ n.ps.length + (csum j (replR x (downR k l c).1 n.ks)).b ≤ n.ps.length + (csum j n.ks).b + 1
        omega
      · simp only [if_neg h0] at h; exact absurd h h0
end Go.Proofs.YtfcclppgjfkfoaaDoor
