/- Small trees in plain words: bounds of their counts and tokens. No condition: nothing of the program stands in it. -/
import Derived.Test.YtfcclppgjfkfoaaGreatDoorMg9
import Derived.Test.YtfcclppgjfkfoaaGreatDoorMg3
import Derived.Test.YtfcclppgjfkfoaaGreatDoorMg13
namespace Go.Proofs.YtfcclppgjfkfoaaGreatDoor

/-- A tree of at most 12 levels, and few nodes and properties. -/
def SzT (n : ND) : Prop := dpR 12 n = true ∧ (countR 12 n).a + (countR 12 n).b ≤ 400
theorem csum_nil (k : Nat) : csum k [] = ⟨0, 0, 0⟩ := rfl
theorem csum_cons (k : Nat) (x : ND) (l : List ND) : (csum k (x :: l)).a = (countR k x).a + (csum k l).a ∧ (csum k (x :: l)).b = (countR k x).b + (csum k l).b := ⟨rfl, rfl⟩
theorem csum_mono {j k : Nat} : ∀ {l : List ND}, (∀ x ∈ l, (countR j x).a ≤ (countR k x).a ∧ (countR j x).b ≤ (countR k x).b) → (csum j l).a ≤ (csum k l).a ∧ (csum j l).b ≤ (csum k l).b
  | [], _ => ⟨Nat.le_refl _, Nat.le_refl _⟩
  | x :: l, h => by
    have h1 := h x (List.mem_cons_self)
    have h2 := csum_mono (l := l) fun y hy => h y (List.mem_cons_of_mem _ hy)
    have e1 := csum_cons j x l
    have e2 := csum_cons k x l
    omega
theorem count_mono : ∀ (k : Nat) (n : ND), (countR k n).a ≤ (countR (k + 1) n).a ∧ (countR k n).b ≤ (countR (k + 1) n).b
  | 0, _ => ⟨Nat.zero_le _, Nat.zero_le _⟩
  | k + 1, n => by
    have h := csum_mono (l := n.ks) fun x _ => count_mono k x
    rw [countR_succ k n, countR_succ (k + 1) n]
    exact ⟨by show 1 + _ ≤ 1 + _; omega, by show _ + _ ≤ _ + _; omega⟩
theorem count_le (n : ND) : ∀ (d k : Nat), (countR k n).a ≤ (countR (k + d) n).a ∧ (countR k n).b ≤ (countR (k + d) n).b
  | 0, _ => ⟨Nat.le_refl _, Nat.le_refl _⟩
  | d + 1, k => by
    have h1 := count_le n d k
    have h2 := count_mono (k + d) n
    exact ⟨Nat.le_trans h1.1 h2.1, Nat.le_trans h1.2 h2.2⟩
theorem tok_len : ∀ (k : Nat) (n : ND), (tokR k n).length ≤ 2 * (countR k n).a + (countR k n).b
  | 0, _ => Nat.zero_le _
  | k + 1, n => by
    have h : ∀ l : List ND, (l.flatMap (tokR k)).length ≤ 2 * (csum k l).a + (csum k l).b := fun l => by
      induction l with
      | nil => exact Nat.zero_le _
      | cons x l ih =>
        rw [List.flatMap_cons, List.length_append]
        have h1 := tok_len k x
        have h2 := csum_cons k x l
        omega
    have h1 := h n.ks
    rw [countR_succ]
    show (((⟨1, n.nm, ByteArray.empty⟩ : TK) :: n.ps.map tokP) ++ n.ks.flatMap (tokR k) ++ [(⟨2, ByteArray.empty, ByteArray.empty⟩ : TK)]).length ≤ 2 * (1 + (csum k n.ks).a) + (n.ps.length + (csum k n.ks).b)
    rw [List.length_append, List.length_append, List.length_cons, List.length_map, List.length_cons, List.length_nil]
    omega
theorem cutSum_exact (f : ND → Nat) : ∀ (l : List ND) (a : Nat), cutSum f a l < 1000 → a + (l.map f).sum = cutSum f a l
  | [], a, _ => by simp [cutSum]
  | x :: r, a, h => by
    unfold cutSum at h ⊢
    by_cases ha : a < 1000
    · rw [if_pos ha] at h ⊢
      have := cutSum_exact f r (a + f x) h
      rw [List.map_cons, List.sum_cons]; omega
    · rw [if_neg ha] at h; omega
theorem count_of_size : ∀ (k : Nat) (n : ND), sizeR k n < 1000 → (countR k n).a + (countR k n).b ≤ sizeR k n
  | 0, _, _ => Nat.zero_le _
  | k + 1, n, h => by
    have e : 1 + n.ps.length + (n.ks.map (sizeR k)).sum = sizeR (k + 1) n := cutSum_exact (sizeR k) n.ks _ h
    have hs : ∀ l : List ND, (l.map (sizeR k)).sum < 1000 → (csum k l).a + (csum k l).b ≤ (l.map (sizeR k)).sum := fun l => by
      induction l with
      | nil => intro _; exact Nat.le_refl _
      | cons x l ih =>
        intro hl
        rw [List.map_cons, List.sum_cons] at hl ⊢
        have h1 := count_of_size k x (by omega)
        have h2 := ih (by omega)
        have h3 := csum_cons k x l
        omega
    have h1 := hs n.ks (by omega)
    rw [countR_succ]
    show 1 + (csum k n.ks).a + (n.ps.length + (csum k n.ks).b) ≤ _
    omega
theorem dp_of_low : ∀ (k : Nat) (n : ND), lowR k n = true → dpR k n = true
  | 0, _, h => by cases h
  | k + 1, n, h => by
    show n.ks.all (dpR k) = true
    rw [List.all_eq_true]
    exact fun x hx => dp_of_low k x (low_kids h x hx)
theorem low_and {n : ND} (h : LowR n = true) : lowR 12 n = true ∧ sizeR 12 n ≤ 400 := by
  unfold LowR at h
  rw [Bool.and_eq_true] at h
  exact ⟨h.1, of_decide_eq_true h.2⟩
theorem sz_of_low {n : ND} (h : LowR n = true) : SzT n := by
  obtain ⟨h1, h2⟩ := low_and h
  have := count_of_size 12 n (by omega)
  exact ⟨dp_of_low 12 n h1, by omega⟩
theorem sz_of_fits {n : ND} (h : fitsR n = true) : SzT n := by
  obtain ⟨h1, h2, h3⟩ := of_decide_eq_true h
  have hd := dp_of_count 8 n h3
  have e9 := count_same 1 8 n hd
  have e12 := count_same 4 8 n hd
  rw [show 8 + 1 = 9 from rfl] at e9
  rw [show 8 + 4 = 12 from rfl] at e12
  refine ⟨dp_mono 8 12 n hd (by omega), ?_⟩
  rw [e12, ← e9]; omega
theorem sz_count {n : ND} (h : SzT n) : (countR 9 n).a ≤ 400 ∧ (countR 9 n).b ≤ 400 ∧ (countR 8 n).a ≤ 400 ∧ (tokR 8 n).length ≤ 800 := by
  have h1 := count_le n 3 9
  have h2 := count_le n 4 8
  have h3 := tok_len 8 n
  have h4 := h.2
  rw [show 9 + 3 = 12 from rfl] at h1
  rw [show 8 + 4 = 12 from rfl] at h2
  omega
/-- Kinds of 64 bits. -/
def KdOk (l : List TK) : Prop := ∀ x ∈ l, -9223372036854775808 ≤ x.kd ∧ x.kd < 9223372036854775808
theorem kd_tok : ∀ (k : Nat) (n : ND), ∀ x ∈ tokR k n, 1 ≤ x.kd ∧ x.kd ≤ 3
  | 0, _, x, h => absurd h List.not_mem_nil
  | k + 1, n, x, h => by
    have h' : x ∈ ((⟨1, n.nm, ByteArray.empty⟩ : TK) :: n.ps.map tokP) ++ n.ks.flatMap (tokR k) ++ [(⟨2, ByteArray.empty, ByteArray.empty⟩ : TK)] := h
    rcases List.mem_append.1 h' with h' | h'
    · rcases List.mem_append.1 h' with h' | h'
      · rcases List.mem_cons.1 h' with rfl | h'
        · exact ⟨by show (1 : Int) ≤ 1; decide, by show (1 : Int) ≤ 3; decide⟩
        · obtain ⟨p, _, rfl⟩ := List.mem_map.1 h'
          exact ⟨by show (1 : Int) ≤ 3; decide, by show (3 : Int) ≤ 3; decide⟩
      · obtain ⟨y, hy, hx⟩ := List.mem_flatMap.1 h'
        exact kd_tok k y x hx
    · rw [List.mem_singleton] at h'
      subst h'
      exact ⟨by show (1 : Int) ≤ 2; decide, by show (2 : Int) ≤ 3; decide⟩
theorem kdOk_tok (k : Nat) (n : ND) : KdOk (tokR k n) := fun x hx => by
  have := kd_tok k n x hx
  omega
theorem kdOk_getD {l : List TK} (h : ∀ k, k < l.length → (l.getD k tk0).kd < 9223372036854775808 ∧ -9223372036854775808 ≤ (l.getD k tk0).kd) : KdOk l := fun x hx => by
  obtain ⟨k, hk, rfl⟩ := List.getElem_of_mem hx
  have := h k hk
  rw [List.getD_eq_getElem?_getD, List.getElem?_eq_getElem hk] at this
  exact ⟨this.2, this.1⟩
end Go.Proofs.YtfcclppgjfkfoaaGreatDoor

/- How wide trees are, and how much a change adds, in plain words. No condition: nothing of the program stands in it. -/
namespace Go.Proofs.YtfcclppgjfkfoaaGreatDoor
open Go.RowKit

/-- On so many levels no node has more than B properties, or kids. -/
def wideR (B : Nat) : Nat → ND → Prop
  | 0, _ => True
  | k + 1, n => n.ps.length ≤ B ∧ n.ks.length ≤ B ∧ ∀ x ∈ n.ks, wideR B k x
theorem csum_mem (k : Nat) : ∀ {l : List ND} {x : ND}, x ∈ l → (countR k x).a ≤ (csum k l).a ∧ (countR k x).b ≤ (csum k l).b
  | y :: l, x, h => by
    have e := csum_cons k y l
    rcases List.mem_cons.1 h with h | h
    · subst h; omega
    · have := csum_mem k h; omega
theorem csum_long (k : Nat) : ∀ {l : List ND}, (∀ x ∈ l, 1 ≤ (countR k x).a) → l.length ≤ (csum k l).a
  | [], _ => Nat.zero_le _
  | y :: l, h => by
    have e := csum_cons k y l
    have h1 := h y List.mem_cons_self
    have h2 := csum_long k (l := l) fun x hx => h x (List.mem_cons_of_mem _ hx)
    rw [List.length_cons]; omega
theorem dp_pos {k : Nat} {n : ND} (h : dpR k n = true) : 1 ≤ (countR k n).a := by
  cases k with
  | zero => cases h
  | succ k => rw [countR_succ]; show 1 ≤ 1 + _; omega
theorem wide_of {B : Nat} : ∀ (k : Nat) (n : ND), dpR k n = true → (countR k n).a + (countR k n).b ≤ B → ∀ j, wideR B j n
  | 0, _, h, _, _ => by cases h
  | _ + 1, _, _, _, 0 => trivial
  | k + 1, n, h, hc, j + 1 => by
    have hk : ∀ x ∈ n.ks, dpR k x = true := fun x hx => by
      unfold dpR at h
      exact List.all_eq_true.1 h x hx
    rw [countR_succ] at hc
    have hc' : 1 + (csum k n.ks).a + (n.ps.length + (csum k n.ks).b) ≤ B := hc
    have hl := csum_long k (l := n.ks) fun x hx => dp_pos (hk x hx)
    refine ⟨by omega, by omega, fun x hx => wide_of k x (hk x hx) ?_ j⟩
    have := csum_mem k hx
    omega
theorem wide_sz {n : ND} (h : SzT n) (j : Nat) : wideR 400 j n := wide_of 12 n h.1 h.2 j
theorem wide_mono {B B' : Nat} (hB : B ≤ B') : ∀ (j : Nat) (n : ND), wideR B j n → wideR B' j n
  | 0, _, _ => trivial
  | j + 1, _, h => ⟨Nat.le_trans h.1 hB, Nat.le_trans h.2.1 hB, fun x hx => wide_mono hB j x (h.2.2 x hx)⟩
theorem kid_mem {n k : ND} {x : ByteArray} (h : kidR n x = some k) : k ∈ n.ks := List.mem_of_find?_eq_some h
/-- A kid in place of another one: the counts. -/
theorem csum_repl (j : Nat) {nm : ByteArray} {m k : ND} : ∀ {l : List ND}, (l.find? fun y => decide (y.nm = nm)) = some k → (csum j (replR nm m l)).a + (countR j k).a = (csum j l).a + (countR j m).a ∧ (csum j (replR nm m l)).b + (countR j k).b = (csum j l).b + (countR j m).b
  | [], h => absurd h (by simp)
  | x :: r, h => by
    rw [List.find?_cons] at h
    have e := csum_cons j x r
    rw [replR]
    by_cases hx : x.nm = nm
    · rw [decide_eq_true hx] at h
      injection (show some x = some k from h) with h
      subst h
      rw [if_pos hx]
      have e2 := csum_cons j m r
      omega
    · rw [decide_eq_false hx] at h
      rw [if_neg hx]
      have ih := csum_repl j (m := m) (l := r) h
      have e2 := csum_cons j x (replR nm m r)
      omega
theorem csum_snoc17 (j : Nat) (m : ND) : ∀ (l : List ND), (csum j (l ++ [m])).a = (csum j l).a + (countR j m).a ∧ (csum j (l ++ [m])).b = (csum j l).b + (countR j m).b
  | [] => by
    have e := csum_cons j m []
    have e0 := csum_nil j
    rw [e0] at e
    show (csum j [m]).a = (csum j []).a + _ ∧ (csum j [m]).b = (csum j []).b + _
    rw [e0]
    omega
  | x :: r => by
    have e := csum_cons j x r
    have e2 := csum_cons j x (r ++ [m])
    have ih := csum_snoc17 j m r
    show (csum j (x :: (r ++ [m]))).a = _ ∧ (csum j (x :: (r ++ [m]))).b = _
    omega
theorem csum_without (j : Nat) {nm : ByteArray} : ∀ (l : List ND), (csum j (withoutR nm l)).a ≤ (csum j l).a ∧ (csum j (withoutR nm l)).b ≤ (csum j l).b
  | [] => ⟨Nat.le_refl _, Nat.le_refl _⟩
  | x :: r => by
    have e := csum_cons j x r
    have ih := csum_without j (nm := nm) r
    rw [withoutR]
    split
    · omega
    · have e2 := csum_cons j x (withoutR nm r)
      omega
theorem count_leaf (j : Nat) (nm : ByteArray) : (countR j (.mk nm [] [])).a ≤ 1 ∧ (countR j (.mk nm [] [])).b = 0 := by
  cases j with
  | zero => exact ⟨Nat.zero_le _, rfl⟩
  | succ j => rw [countR_succ]; exact ⟨Nat.le_refl _, rfl⟩
/-- A change at a node adds one part at most. -/
theorem here_count (n : ND) (c : CH) (j : Nat) : (countR j (hereR n c).1).a ≤ (countR j n).a + 1 ∧ (countR j (hereR n c).1).b ≤ (countR j n).b + 1 := by
  cases j with
  | zero => exact ⟨Nat.zero_le _, Nat.zero_le _⟩
  | succ j =>
    have hp := props_len17 c n.ps
    have hw := csum_without j (nm := c.nm) n.ks
    have hs := csum_snoc17 j (.mk c.nm [] []) n.ks
    have hl := count_leaf j c.nm
    have hnd : (countR (j + 1) nd0).a ≤ 1 ∧ (countR (j + 1) nd0).b = 0 := count_leaf (j + 1) _
    have hn : ∀ m, (countR (j + 1) (.mk n.nm (propsR c n.ps).1 n.ks)).a = 1 + (csum j n.ks).a ∧ (countR (j + 1) (.mk n.nm (propsR c n.ps).1 n.ks)).b = (propsR c n.ps).1.length + (csum j n.ks).b ∧ (countR (j + 1) (.mk n.nm n.ps m)).a = 1 + (csum j m).a ∧ (countR (j + 1) (.mk n.nm n.ps m)).b = n.ps.length + (csum j m).b ∧ (countR (j + 1) n).a = 1 + (csum j n.ks).a ∧ (countR (j + 1) n).b = n.ps.length + (csum j n.ks).b := fun m => by
      refine ⟨?_, ?_, ?_, ?_, ?_, ?_⟩ <;> rw [countR_succ] <;> rfl
    have h1 := hn (withoutR c.nm n.ks)
    have h2 := hn (n.ks ++ [ND.mk c.nm [] []])
    unfold hereR
    split
    · split
      · show (countR (j + 1) (.mk n.nm (propsR c n.ps).1 n.ks)).a ≤ _ ∧ (countR (j + 1) (.mk n.nm (propsR c n.ps).1 n.ks)).b ≤ _; omega
      · show (countR (j + 1) nd0).a ≤ _ ∧ (countR (j + 1) nd0).b ≤ _; omega
    · split
      · split
        · show (countR (j + 1) (.mk n.nm (propsR c n.ps).1 n.ks)).a ≤ _ ∧ (countR (j + 1) (.mk n.nm (propsR c n.ps).1 n.ks)).b ≤ _; omega
        · show (countR (j + 1) nd0).a ≤ _ ∧ (countR (j + 1) nd0).b ≤ _; omega
      · split
        · split
          · show (countR (j + 1) nd0).a ≤ _ ∧ (countR (j + 1) nd0).b ≤ _; omega
          · split
            · show (countR (j + 1) nd0).a ≤ _ ∧ (countR (j + 1) nd0).b ≤ _; omega
            · show (countR (j + 1) (.mk n.nm n.ps (n.ks ++ [.mk c.nm [] []]))).a ≤ _ ∧ (countR (j + 1) (.mk n.nm n.ps (n.ks ++ [.mk c.nm [] []]))).b ≤ _; omega
        · split
          · show (countR (j + 1) (.mk n.nm n.ps (withoutR c.nm n.ks))).a ≤ _ ∧ (countR (j + 1) (.mk n.nm n.ps (withoutR c.nm n.ks))).b ≤ _; omega
          · show (countR (j + 1) nd0).a ≤ _ ∧ (countR (j + 1) nd0).b ≤ _; omega
theorem down_count : ∀ (l : List ByteArray) (n : ND) (c : CH) (j : Nat), (downR n l c).2 = 0 → (countR j (downR n l c).1).a ≤ (countR j n).a + 1 ∧ (countR j (downR n l c).1).b ≤ (countR j n).b + 1
  | [], n, c, j, _ => here_count n c j
  | x :: l, n, c, 0, _ => ⟨Nat.zero_le _, Nat.zero_le _⟩
  | x :: l, n, c, j + 1, h => by
    unfold downR at h ⊢
    cases e : kidR n x with
    | none => rw [e] at h; exact absurd h (by simp)
    | some k =>
      rw [e] at h
      by_cases h0 : (downR k l c).2 = 0
      · simp only [if_pos h0]
        have ih := down_count l k c j h0
        have hr := csum_repl j (m := (downR k l c).1) (show (n.ks.find? fun y => decide (y.nm = x)) = some k from e)
        rw [countR_succ, countR_succ]
        show 1 + (csum j (replR x (downR k l c).1 n.ks)).a ≤ 1 + (csum j n.ks).a + 1 ∧ n.ps.length + (csum j (replR x (downR k l c).1 n.ks)).b ≤ n.ps.length + (csum j n.ks).b + 1
        omega
      · simp only [if_neg h0] at h; exact absurd h h0
end Go.Proofs.YtfcclppgjfkfoaaGreatDoor

/- The document's down of layer 17: a change at the node of names. Conditions: names, and a tree of at most 10^6 properties and kids a node, that are read. -/
namespace Go.Proofs.YtfcclppgjfkfoaaGreatDoor
open Go.RowKit

/-- What may not change behind a tree's back: the node, the result, the kids that are made. -/
def fpD (g3 g6 : Nat) (ov : Value) (k : Nat) : Prop := k = g3 ∨ k = g6 ∨ ownS ov k
theorem down_nil (n : ND) (c : CH) : downR n [] c = hereR n c := rfl
/-- What down makes of the kids. -/
def kidsT (n : ND) (s : ByteArray) (L : List ByteArray) (c : CH) : List ND := match kidR n s with
  | some x => replR s (downR x L c).1 n.ks
  | none => []
theorem kidsT_some {n x : ND} {s : ByteArray} {L : List ByteArray} {c : CH} (h : kidR n s = some x) : kidsT n s L c = replR s (downR x L c).1 n.ks := by unfold kidsT; rw [h]
theorem kidsT_len (n : ND) (s : ByteArray) (L : List ByteArray) (c : CH) : (kidsT n s L c).length ≤ n.ks.length := by
  unfold kidsT
  split
  · exact Nat.le_of_eq repl_len
  · exact Nat.zero_le _
theorem down_yes {n x : ND} {s : ByteArray} {L : List ByteArray} {c : CH} (h : kidR n s = some x) (h0 : (downR x L c).2 = 0) : downR n (s :: L) c = (.mk n.nm n.ps (kidsT n s L c), 0) := by
  rw [downR, h, kidsT_some h]; simp only [if_pos h0]
theorem down_no {n : ND} {s : ByteArray} {L : List ByteArray} {c : CH} (h : kidR n s = none) : downR n (s :: L) c = (nd0, 8) := by rw [downR, h]
theorem down_bad {n x : ND} {s : ByteArray} {L : List ByteArray} {c : CH} (h : kidR n s = some x) (h0 : (downR x L c).2 ≠ 0) : downR n (s :: L) c = (nd0, (downR x L c).2) := by
  rw [downR, h]; simp only [if_neg h0]

end Go.Proofs.YtfcclppgjfkfoaaGreatDoor

/- Changes that are taken back, in plain words. No condition: nothing of the program stands in it. -/
namespace Go.Proofs.YtfcclppgjfkfoaaGreatDoor
open Go.RowKit

/-- A change that is taken back at the node of names leaves what was. -/
theorem down_back : ∀ {l : List ByteArray} {n k : ND} {c c' : CH}, (downR n l c).2 = 0 → followR n l = some k → hereR (hereR k c).1 c' = (k, 0) → downR (downR n l c).1 l c' = (n, 0)
  | [], n, k, c, c', _, hk, hb => by
    injection (show some n = some k from hk) with hk
    subst hk
    exact hb
  | x :: l, n, k, c, c', h, hk, hb => by
    unfold downR at h
    cases e : kidR n x with
    | none => rw [e] at h; exact absurd h (by simp)
    | some q =>
      rw [e] at h
      by_cases h0 : (downR q l c).2 = 0
      · rw [followR, e] at hk
        have ih := down_back h0 hk hb
        have hq : q.nm = x := by
          have := List.find?_some (show (n.ks.find? fun y => decide (y.nm = x)) = some q from e)
          simpa using this
        obtain ⟨r1, r2⟩ := find_repl (m := (downR q l c).1) ((down_nm h0).trans hq) (show (n.ks.find? fun y => decide (y.nm = x)) = some q from e)
        have hd : downR n (x :: l) c = (.mk n.nm n.ps (replR x (downR q l c).1 n.ks), 0) := by
          rw [downR, e]
          simp only [if_pos h0]
        rw [hd]
        show downR (.mk n.nm n.ps (replR x (downR q l c).1 n.ks)) (x :: l) c' = _
        rw [downR, show kidR (.mk n.nm n.ps (replR x (downR q l c).1 n.ks)) x = some (downR q l c).1 from r1]
        simp only [ih]
        show (ND.mk n.nm n.ps (replR x q (replR x (downR q l c).1 n.ks)), 0) = (n, 0)
        rw [r2, ← ND.eta]
      · simp only [if_neg h0] at h; exact absurd h h0
/-- The first change has kept the kids' number. -/
theorem down_len {l : List ByteArray} {n : ND} {nm vl : ByteArray} (h : (downR n l ⟨1, nm, vl⟩).2 = 0) : (downR n l ⟨1, nm, vl⟩).1.ks.length = n.ks.length := by
  cases l with
  | nil =>
    have h : (hereR n ⟨1, nm, vl⟩).2 = 0 := h
    show (hereR n ⟨1, nm, vl⟩).1.ks.length = _
    unfold hereR at h ⊢
    rw [if_pos rfl] at h ⊢
    split
    · rfl
    · rename_i h1; rw [if_neg h1] at h; exact absurd h (by simp)
  | cons x l =>
    unfold downR at h ⊢
    cases e : kidR n x with
    | none => rw [e] at h; exact absurd h (by simp)
    | some q =>
      rw [e] at h
      by_cases h0 : (downR q l ⟨1, nm, vl⟩).2 = 0
      · simp only [if_pos h0]
        exact repl_len
      · simp only [if_neg h0] at h; exact absurd h h0
theorem here_set {k : ND} {nm vl : ByteArray} (h : (hereR k ⟨1, nm, vl⟩).2 = 0) : hereR k ⟨1, nm, vl⟩ = (.mk k.nm (propsR ⟨1, nm, vl⟩ k.ps).1 k.ks, 0) := by
  unfold hereR at h ⊢
  rw [if_pos rfl] at h ⊢
  split
  · rfl
  · rename_i h1; rw [if_neg h1] at h; exact absurd h (by simp)
/-- What is set is there. -/
theorem set_val {k : ND} {nm vl : ByteArray} (h : (hereR k ⟨1, nm, vl⟩).2 = 0) : valR (hereR k ⟨1, nm, vl⟩).1 nm = some vl := by
  rw [here_set h]
  exact props_set
theorem set_back {k : ND} {nm vl v : ByteArray} (h : (hereR k ⟨1, nm, vl⟩).2 = 0) (hn : valR k nm = none) : hereR (hereR k ⟨1, nm, vl⟩).1 ⟨2, nm, v⟩ = (k, 0) := by
  have hp : (propsR ⟨1, nm, vl⟩ k.ps).2 = false := by
    rw [props_had]
    unfold valR at hn
    cases e : k.ps.find? fun x : PR => decide (x.nm = nm) with
    | none => rfl
    | some x => rw [e] at hn; exact absurd hn (by simp)
  have hb := props_back (v := v) hp
  rw [here_set h]
  unfold hereR
  rw [if_neg (show ¬ ((2 : Int) = 1) by decide), if_pos rfl]
  show (if (propsR ⟨2, nm, v⟩ (propsR ⟨1, nm, vl⟩ k.ps).1).2 = true then (ND.mk k.nm (propsR ⟨2, nm, v⟩ (propsR ⟨1, nm, vl⟩ k.ps).1).1 k.ks, 0) else (nd0, 8)) = _
  rw [hb, if_pos rfl, ← ND.eta]
theorem here_add {k : ND} {nm vl : ByteArray} (h : (hereR k ⟨3, nm, vl⟩).2 = 0) : mayKidR nm = true ∧ kidR k nm = none ∧ hereR k ⟨3, nm, vl⟩ = (.mk k.nm k.ps (k.ks ++ [.mk nm [] []]), 0) := by
  unfold hereR at h ⊢
  rw [if_neg (show ¬ ((3 : Int) = 1) by decide), if_neg (show ¬ ((3 : Int) = 2) by decide), if_pos rfl] at h ⊢
  split
  · rename_i h1; rw [if_pos h1] at h; exact absurd h (by simp)
  · rename_i h1
    rw [if_neg h1] at h
    split
    · rename_i h2; rw [if_pos h2] at h; exact absurd h (by simp)
    · rename_i h2
      refine ⟨by simpa using h1, ?_, rfl⟩
      cases e : kidR k nm with
      | none => rfl
      | some q => rw [e] at h2; exact absurd rfl h2
/-- What was added is there; and taken away it leaves what was. -/
theorem add_back {k : ND} {nm vl v : ByteArray} (h : (hereR k ⟨3, nm, vl⟩).2 = 0) : kidR (hereR k ⟨3, nm, vl⟩).1 nm = some (.mk nm [] []) ∧ hereR (hereR k ⟨3, nm, vl⟩).1 ⟨4, nm, v⟩ = (k, 0) := by
  obtain ⟨_, h2, h3⟩ := here_add h
  rw [h3]
  have hk : kidR (.mk k.nm k.ps (k.ks ++ [.mk nm [] []])) nm = some (.mk nm [] []) := find_add (nm := nm) (m := .mk nm [] []) rfl (show (k.ks.find? fun x => decide (x.nm = nm)) = none from h2)
  refine ⟨hk, ?_⟩
  unfold hereR
  rw [if_neg (show ¬ ((4 : Int) = 1) by decide), if_neg (show ¬ ((4 : Int) = 2) by decide), if_neg (show ¬ ((4 : Int) = 3) by decide)]
  show (if (kidR (.mk k.nm k.ps (k.ks ++ [.mk nm [] []])) nm).isSome = true then (ND.mk k.nm k.ps (withoutR nm (k.ks ++ [.mk nm [] []])), 0) else (nd0, 8)) = _
  rw [hk, if_pos (show (some (ND.mk nm [] [])).isSome = true from rfl), without_add (nm := nm) (m := .mk nm [] []) rfl (show (k.ks.find? fun x => decide (x.nm = nm)) = none from h2), ← ND.eta]
end Go.Proofs.YtfcclppgjfkfoaaGreatDoor

/- What a change does to a tree's size and depth; a kid's path. In plain words; no condition: nothing of the program stands in it. -/
namespace Go.Proofs.YtfcclppgjfkfoaaGreatDoor
open Go.RowKit

def ctLe (x y : CT) : Prop := x.a ≤ y.a ∧ x.b ≤ y.b ∧ x.c ≤ y.c
theorem ctLe_refl (x : CT) : ctLe x x := ⟨Nat.le_refl _, Nat.le_refl _, Nat.le_refl _⟩
theorem ctLe_add {x y u v : CT} (h : ctLe x y) (h' : ctLe u v) : ctLe (ctAdd x u) (ctAdd y v) := by
  obtain ⟨h1, h2, h3⟩ := h
  obtain ⟨k1, k2, k3⟩ := h'
  refine ⟨Nat.add_le_add h1 k1, Nat.add_le_add h2 k2, ?_⟩
  show max x.c u.c ≤ max y.c v.c
  omega
theorem fold_le (f : ND → CT) : ∀ (l : List ND) {x y : CT}, ctLe x y → ctLe (l.foldl (fun x z => ctAdd x (f z)) x) (l.foldl (fun x z => ctAdd x (f z)) y)
  | [], _, _, h => h
  | _ :: l, _, _, h => fold_le f l (ctLe_add h (ctLe_refl _))
theorem fold_grow (f : ND → CT) : ∀ (l : List ND) (x : CT), ctLe x (l.foldl (fun x z => ctAdd x (f z)) x)
  | [], x => ctLe_refl x
  | z :: l, x => by
    have h1 : ctLe x (ctAdd x (f z)) := ⟨Nat.le_add_right _ _, Nat.le_add_right _ _, Nat.le_max_left _ _⟩
    have h2 := fold_grow f l (ctAdd x (f z))
    exact ⟨Nat.le_trans h1.1 h2.1, Nat.le_trans h1.2.1 h2.2.1, Nat.le_trans h1.2.2 h2.2.2⟩
theorem repl_le (f : ND → CT) {nm : ByteArray} {m k : ND} (hm : ctLe (f m) (f k)) : ∀ {l : List ND} {x : CT}, (l.find? fun y => decide (y.nm = nm)) = some k → ctLe ((replR nm m l).foldl (fun x z => ctAdd x (f z)) x) (l.foldl (fun x z => ctAdd x (f z)) x)
  | [], _, h => absurd h (by simp)
  | y :: r, x, h => by
    rw [List.find?_cons] at h
    by_cases e : y.nm = nm
    · rw [decide_eq_true e] at h
      injection (show some y = some k from h) with h
      rw [replR, if_pos e, h]
      exact fold_le f r (ctLe_add (ctLe_refl _) hm)
    · rw [decide_eq_false e] at h
      rw [replR, if_neg e]
      exact repl_le f hm (l := r) h
theorem count_def (k : Nat) (n : ND) : countR (k + 1) n = ⟨(n.ks.foldl (fun x y => ctAdd x (countR k y)) ⟨1, n.ps.length, 0⟩).a, (n.ks.foldl (fun x y => ctAdd x (countR k y)) ⟨1, n.ps.length, 0⟩).b, (n.ks.foldl (fun x y => ctAdd x (countR k y)) ⟨1, n.ps.length, 0⟩).c + 1⟩ := rfl
theorem count_le_of {k : Nat} {n m : ND} (h : ctLe (n.ks.foldl (fun x y => ctAdd x (countR k y)) ⟨1, n.ps.length, 0⟩) (m.ks.foldl (fun x y => ctAdd x (countR k y)) ⟨1, m.ps.length, 0⟩)) : ctLe (countR (k + 1) n) (countR (k + 1) m) := by
  rw [count_def, count_def]
  exact ⟨h.1, h.2.1, Nat.succ_le_succ h.2.2⟩
/-- A change that makes no node bigger makes no tree bigger. -/
theorem down_le {c : CH} (H : ∀ k j, (hereR k c).2 = 0 → ctLe (countR j (hereR k c).1) (countR j k)) : ∀ (l : List ByteArray) (n : ND) (j : Nat), (downR n l c).2 = 0 → ctLe (countR j (downR n l c).1) (countR j n)
  | [], n, j, h => H n j h
  | x :: l, n, 0, _ => ctLe_refl _
  | x :: l, n, j + 1, h => by
    unfold downR at h ⊢
    cases e : kidR n x with
    | none => rw [e] at h; exact absurd h (by simp)
    | some q =>
      rw [e] at h
      by_cases h0 : (downR q l c).2 = 0
      · simp only [if_pos h0]
        refine count_le_of ?_
        exact repl_le (countR j) (down_le H l q j h0) e
      · simp only [if_neg h0] at h; exact absurd h h0
theorem props_len {nm v : ByteArray} : ∀ {l : List PR}, (propsR ⟨2, nm, v⟩ l).1.length ≤ l.length
  | [] => Nat.le_refl _
  | x :: r => by
    rw [propsR]
    split
    · exact Nat.le_succ _
    · exact Nat.succ_le_succ (props_len (l := r))
theorem unset_le {nm v : ByteArray} (k : ND) (j : Nat) (h : (hereR k ⟨2, nm, v⟩).2 = 0) : ctLe (countR j (hereR k ⟨2, nm, v⟩).1) (countR j k) := by
  cases j with
  | zero => exact ctLe_refl _
  | succ j =>
    unfold hereR at h ⊢
    rw [if_neg (show ¬ ((2 : Int) = 1) by decide), if_pos rfl] at h ⊢
    split
    · exact count_le_of (fold_le (countR j) k.ks ⟨Nat.le_refl _, props_len, Nat.le_refl _⟩)
    · rename_i h1; rw [if_neg h1] at h; exact absurd h (by simp)
theorem fits_to {n : ND} (h : fitsR n = true) : fitsTo n = (n, 0) := by
  have := of_decide_eq_true (show decide ((countR 9 n).a ≤ 64 ∧ (countR 9 n).b ≤ 256 ∧ (countR 9 n).c ≤ 8) = true from h)
  unfold fitsTo
  rw [if_neg (by omega), if_pos h]
theorem fits_of {n m : ND} (h : fitsTo n = (m, 0)) : m = n ∧ fitsR n = true := by
  unfold fitsTo at h
  split at h
  · injection h with _ h; exact absurd h (by decide)
  · split at h
    · injection h with h _; exact ⟨h.symm, by assumption⟩
    · injection h with _ h; exact absurd h (by decide)
theorem fits_less {n m : ND} (h : ctLe (countR 9 n) (countR 9 m)) (hm : fitsR m = true) : fitsR n = true := by
  have := of_decide_eq_true (show decide ((countR 9 m).a ≤ 64 ∧ (countR 9 m).b ≤ 256 ∧ (countR 9 m).c ≤ 8) = true from hm)
  obtain ⟨h1, h2, h3⟩ := h
  exact decide_eq_true ⟨by omega, by omega, by omega⟩
/-- A node that is reached is so many levels below. -/
theorem mem_depth (f : ND → CT) : ∀ {l : List ND} {q : ND} {x : CT}, q ∈ l → (f q).c ≤ (l.foldl (fun x z => ctAdd x (f z)) x).c
  | z :: l, q, x, h => by
    rcases List.mem_cons.1 h with h | h
    · have h2 := (fold_grow f l (ctAdd x (f z))).2.2
      have h1 : (f z).c ≤ (ctAdd x (f z)).c := Nat.le_max_right _ _
      rw [h]
      exact Nat.le_trans h1 h2
    · exact mem_depth f (l := l) (x := ctAdd x (f z)) h
theorem follow_depth : ∀ (l : List ByteArray) (n k : ND) (j : Nat), followR n l = some k → l.length + (countR j k).c ≤ (countR (j + l.length) n).c
  | [], n, k, j, h => by
    injection (show some n = some k from h) with h
    rw [h]
    show 0 + _ ≤ _
    rw [Nat.zero_add]
    exact Nat.le_refl _
  | x :: l, n, k, j, h => by
    rw [followR] at h
    cases e : kidR n x with
    | none => rw [e] at h; exact absurd h (by simp)
    | some q =>
      rw [e] at h
      have ih := follow_depth l q k j h
      have hm : q ∈ n.ks := List.mem_of_find?_eq_some e
      have := mem_depth (countR (j + l.length)) (x := ⟨1, n.ps.length, 0⟩) hm
      rw [List.length_cons, ← Nat.add_assoc, count_def]
      show _ ≤ _ + 1
      omega
theorem kid_depth {k q : ND} {x : ByteArray} (j : Nat) (h : kidR k x = some q) : 2 ≤ (countR (j + 2) k).c := by
  have hm : q ∈ k.ks := List.mem_of_find?_eq_some h
  have := mem_depth (countR (j + 1)) (x := ⟨1, k.ps.length, 0⟩) hm
  have h1 : 1 ≤ (countR (j + 1) q).c := by rw [count_def]; exact Nat.succ_le_succ (Nat.zero_le _)
  rw [count_def]
  show _ ≤ _ + 1
  omega
theorem split_clean : ∀ (q : List UInt8), ∀ x ∈ splitS q, ∀ c ∈ x, c ≠ 47
  | [], x, h => by
    have h : x ∈ [([] : List UInt8)] := h
    rw [List.mem_singleton] at h
    rw [h]
    exact fun c hc => absurd hc List.not_mem_nil
  | d :: r, x, h => by
    rw [splitS] at h
    split at h
    · rcases List.mem_cons.1 h with h | h
      · rw [h]; exact fun c hc => absurd hc List.not_mem_nil
      · exact split_clean r x h
    · rename_i hd
      rcases List.mem_cons.1 h with h | h
      · rw [h]
        intro c hc
        rcases List.mem_cons.1 hc with hc | hc
        · rw [hc]; exact hd
        · exact split_clean r ((splitS r).headD []) (by rw [split_cons]; exact List.mem_cons_self) c hc
      · exact split_clean r x (by rw [split_cons]; exact List.mem_cons_of_mem _ h)
theorem parts_ok {p : List UInt8} {l : List (List UInt8)} (h : partsR p = (l, true)) : l.length ≤ 7 ∧ ∀ x ∈ l, okNm x := by
  have h7 := parts_few p
  rw [h] at h7
  refine ⟨h7, ?_⟩
  unfold partsR at h
  split at h
  · injection h with h _
    rw [← h]
    exact fun x hx => absurd hx List.not_mem_nil
  · split at h
    · rename_i e
      injection h with h _
      rw [← h]
      exact fun x hx => ⟨(nmOk_iff.1 e.2).2 x hx, split_clean _ x hx⟩
    · injection h with _ h
      exact absurd h (by decide)
theorem mayKid_ok {s : ByteArray} (h : mayKidR s = true) : okNm s.data.toList := by
  unfold mayKidR at h
  rw [Bool.and_eq_true] at h
  obtain ⟨h1, h2⟩ := h
  have h2 := of_decide_eq_true h2
  have h1 := (mayB_iff.1 h1).1
  refine ⟨fun e => ?_, fun c hc e => h2 (e ▸ hc)⟩
  have : s.data.toList.length = s.size := rfl
  rw [e] at this
  simp at this
  omega
/-- A change goes through where it does at the node of the names; its error is the one there. -/
theorem down_err : ∀ {l : List ByteArray} {n k : ND} {c : CH}, followR n l = some k → (downR n l c).2 = (hereR k c).2
  | [], n, k, c, h => by
    injection (show some n = some k from h) with h
    rw [h]; rfl
  | x :: l, n, k, c, h => by
    rw [followR] at h
    rw [downR]
    cases e : kidR n x with
    | none => rw [e] at h; exact absurd h (by simp)
    | some q =>
      rw [e] at h
      have ih := down_err (c := c) h
      by_cases h0 : (downR q l c).2 = 0
      · simp only [if_pos h0]
        rw [← ih, h0]
      · simp only [if_neg h0]
        exact ih
theorem down_go {l : List ByteArray} {n k : ND} {c : CH} (h : followR n l = some k) (h0 : (hereR k c).2 = 0) : (downR n l c).2 = 0 := (down_err h).trans h0
end Go.Proofs.YtfcclppgjfkfoaaGreatDoor
