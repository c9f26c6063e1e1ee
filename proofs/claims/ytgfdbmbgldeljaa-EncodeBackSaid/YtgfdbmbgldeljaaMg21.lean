/- What the document's tokens and Tokens of trees return. Conditions: a tree that is read, of at most 2^39 tokens. -/
import Derived.Test.YtgfdbmbgldeljaaMg20
import Derived.Deep.RegionLaw
import Derived.Deep.AppendLies
import Derived.Test.YtgfdbmbgldeljaaMg15
import Derived.Test.YtgfdbmbgldeljaaMg12
import Derived.Test.YtgfdbmbgldeljaaMg5
import Derived.Test.YtgfdbmbgldeljaaMg14
namespace Go.Proofs.Ytgfdbmbgldeljaa
open Go.RowKit

/-- The tokens behind j properties, and behind j kids. -/
def tkPs (n : ND) (j : Nat) : List TK := ⟨1, n.nm, ByteArray.empty⟩ :: (n.ps.take j).map tokP
def tkKs (k : Nat) (n : ND) (j : Nat) : List TK := (⟨1, n.nm, ByteArray.empty⟩ :: n.ps.map tokP) ++ (n.ks.take j).flatMap (tokR k)
theorem tkPs_succ (n : ND) {j : Nat} (hj : j < n.ps.length) : tkPs n (j + 1) = tkPs n j ++ [tokP (n.ps.getD j pr0)] := by
  unfold tkPs
  rw [List.take_succ_eq_append_getElem hj, List.map_append, List.cons_append]
  have e : n.ps.getD j pr0 = n.ps[j] := by rw [List.getD_eq_getElem?_getD, List.getElem?_eq_getElem hj]; rfl
  rw [e]; rfl
theorem tkPs_all (k : Nat) (n : ND) : tkPs n n.ps.length = tkKs k n 0 := by
  unfold tkPs tkKs; rw [List.take_length]; simp
theorem tkPs_len (n : ND) {j : Nat} (hj : j ≤ n.ps.length) : (tkPs n j).length = 1 + j := by
  unfold tkPs; rw [List.length_cons, List.length_map, List.length_take]; omega
theorem tkKs_succ (k : Nat) (n : ND) {j : Nat} (hj : j < n.ks.length) : tkKs k n (j + 1) = tkKs k n j ++ tokR k (n.ks.getD j nd0) := by
  unfold tkKs
  rw [List.take_succ_eq_append_getElem hj, List.flatMap_append, ← List.append_assoc]
  have e : n.ks.getD j nd0 = n.ks[j] := by rw [List.getD_eq_getElem?_getD, List.getElem?_eq_getElem hj]; rfl
  rw [e]; simp
theorem tokR_eq (k : Nat) (n : ND) : tokR (k + 1) n = tkKs k n n.ks.length ++ [⟨2, ByteArray.empty, ByteArray.empty⟩] := by
  unfold tkKs; rw [List.take_length]; rfl
theorem tkKs_le (k : Nat) (n : ND) {j : Nat} (hj : j ≤ n.ks.length) : (tkKs k n j).length + 1 ≤ (tokR (k + 1) n).length := by
  have h : ∀ d i, i + d ≤ n.ks.length → (tkKs k n i).length ≤ (tkKs k n (i + d)).length := by
    intro d
    induction d with
    | zero => intro i _; exact Nat.le_refl _
    | succ d ih =>
      intro i hi
      have h1 := ih i (by omega)
      rw [show i + (d + 1) = i + d + 1 by omega, tkKs_succ k n (show i + d < n.ks.length by omega), List.length_append]
      omega
  have h1 := h (n.ks.length - j) j (by omega)
  rw [show j + (n.ks.length - j) = n.ks.length by omega] at h1
  rw [tokR_eq, List.length_append]
  simp only [List.length_cons, List.length_nil]; omega
theorem tok_kid_le (k : Nat) (n : ND) {j : Nat} (hj : j < n.ks.length) : (tkKs k n j).length + (tokR k (n.ks.getD j nd0)).length + 1 ≤ (tokR (k + 1) n).length := by
  have h := tkKs_le k n (j := j + 1) (by omega)
  rw [tkKs_succ k n hj, List.length_append] at h
  omega
/-- A slice of one token that was just made. -/
theorem own_one (w : World) (x : TK) (B : Nat) (hB : B ≤ w.heap.size) : (w.alloc (.cells (tkC x) 84)).ownsRow B 84 3 (.slice (some ⟨w.heap.size, 0, none⟩) 1 1) 1 (tkL [x]) :=
  ⟨rfl, .inr ⟨w.heap.size, 1, tkC x, rfl, hB, Arr.new w _ _, Nat.le_refl _, by decide, rfl, rfl⟩⟩

end Go.Proofs.Ytgfdbmbgldeljaa

/- What the document's Count and Fits of trees return. Conditions: a tree that is read, of at most 2^40 nodes and properties. -/
namespace Go.Proofs.Ytgfdbmbgldeljaa
open Go.RowKit

theorem fit_bool (a b c : Nat) : decide (a ≤ 64 ∧ b ≤ 256 ∧ c ≤ 8) = (decide ((a : Int) ≤ 64) && (decide ((b : Int) ≤ 256) && decide ((c : Int) ≤ 8))) := by
  by_cases h1 : a ≤ 64 <;> by_cases h2 : b ≤ 256 <;> by_cases h3 : c ≤ 8
  all_goals
    have e1 : ((a : Int) ≤ 64) = (a ≤ 64) := by apply propext; omega
    have e2 : ((b : Int) ≤ 256) = (b ≤ 256) := by apply propext; omega
    have e3 : ((c : Int) ≤ 8) = (c ≤ 8) := by apply propext; omega
    simp only [e1, e2, e3, h1, h2, h3]; decide
end Go.Proofs.Ytgfdbmbgldeljaa

/- The document's Tree of layer 15. Conditions: a tree in memory, of at most 2^39 tokens, names and values of at most 2^20 bytes. -/
namespace Go.Proofs.Ytgfdbmbgldeljaa
open Go.RowKit

/-- The sizes of a tree that is encoded. -/
structure EnOk (T : DT) : Prop where
  ca : (countR 9 T.rt).a ≤ 1099511627776
  cb : (countR 9 T.rt).b ≤ 1099511627776
  tl : (tokR 8 T.rt).length ≤ 549755813888
  tk : ∀ k, k < (tokR 8 T.rt).length → ((tokR 8 T.rt).getD k tk0).nm.size ≤ 1048576 ∧ ((tokR 8 T.rt).getD k tk0).vl.size ≤ 1048576
  rl : T.rs.length ≤ maxLen
theorem resP_len (l : List SP) : (resP l).1.length ≤ 272 := by
  unfold resP
  split
  · exact Nat.zero_le _
  · split
    · show (spB l ++ endB).length ≤ 272
      rw [List.length_append, spB_len, show endB.length = 16 from rfl]; omega
    · exact Nat.zero_le _
theorem put_bytes {l : List TK} (hv : ∀ k, k < l.length → (l.getD k tk0).nm.size ≤ 1048576 ∧ (l.getD k tk0).vl.size ≤ 1048576) : (putR l).1.size ≤ 1099511627776 ∧ (putR l).2.1.size ≤ 1099511627776 := by
  by_cases h : (putR l).2.2 = 0
  · have := put_read (l := l) (fun x hx => by
      obtain ⟨k, hk, rfl⟩ := List.getElem_of_mem hx
      have := (hv k hk).2
      rwa [List.getD_eq_getElem?_getD, List.getElem?_eq_getElem hk] at this) h
    exact ⟨this.2.1, this.2.2⟩
  · have : (putR l).1 = ByteArray.empty ∧ (putR l).2.1 = ByteArray.empty := by
      by_cases h1 : 1024 ≤ l.length
      · rw [putR_big h1]; exact ⟨rfl, rfl⟩
      · cases h2 : l.all okT with
        | false => rw [putR_bad h1 h2]; exact ⟨rfl, rfl⟩
        | true => rw [putR_good h1 h2] at h; exact absurd rfl h
    rw [this.1, this.2]
    exact ⟨Nat.zero_le _, Nat.zero_le _⟩
theorem ba_size (l : List UInt8) : (ByteArray.mk l.toArray).size = l.length := by show l.toArray.size = _; simp
/-- A string as long as it is. -/
def strLen15 : Value → Nat
  | .string s => s.size
  | _ => 0

end Go.Proofs.Ytgfdbmbgldeljaa

/- What the document's walk of trees returns. Conditions: a tree that is read, with names of at most 100 bytes, and of at most 2^39 nodes. -/
namespace Go.Proofs.Ytgfdbmbgldeljaa
open Go.RowKit

/-- A node of a list of spots: its path, itself, its slices. -/
structure SPT where
  pa : ByteArray
  nd : ND
  y : Value
  z : Value
def spl (s : SPT) : List Value := [.string s.pa, .string s.nd.nm, s.y, s.z]
def spL (L : List SPT) : List Value := L.flatMap spl
def spP (s : SPT) : List UInt8 × ND := (s.pa.data.toList, s.nd)
theorem spL_app (l r : List SPT) : spL (l ++ r) = spL l ++ spL r := by simp [spL]
theorem spL_length (l : List SPT) : (spL l).length = l.length * 4 := by
  induction l with
  | nil => rfl
  | cons x l ih => show (spl x ++ spL l).length = _; rw [List.length_append, ih, List.length_cons]; simp only [spl, List.length_cons, List.length_nil]; omega
/-- Are all names of so many levels below of at most 100 bytes? -/
def nmR : Nat → ND → Bool
  | 0, _ => true
  | k + 1, n => n.ks.all fun x => decide (x.nm.size ≤ 100) && nmR k x
theorem nm_of_low : ∀ (k j : Nat) (n : ND), lowR j n = true → nmR k n = true
  | 0, _, _, _ => rfl
  | k + 1, 0, _, h => by cases h
  | k + 1, j + 1, n, h => by
    show (n.ks.all fun x => decide (x.nm.size ≤ 100) && nmR k x) = true
    rw [List.all_eq_true]
    intro x hx
    have hl := low_kids h x hx
    match j, hl with
    | j + 1, hl => rw [decide_eq_true (low_parts hl).1, nm_of_low k (j + 1) x hl]; rfl
theorem nm_kids {k : Nat} {n : ND} (h : nmR (k + 1) n = true) : ∀ x ∈ n.ks, x.nm.size ≤ 100 ∧ nmR k x = true := fun x hx => by
  have h' := List.all_eq_true.1 (show (n.ks.all fun x => decide (x.nm.size ≤ 100) && nmR k x) = true from h) x hx
  rw [Bool.and_eq_true] at h'
  exact ⟨of_decide_eq_true h'.1, h'.2⟩
/-- The spots behind j kids. -/
def wkR (k : Nat) (p : List UInt8) (n : ND) (j : Nat) : List (List UInt8 × ND) := (p, n) :: (n.ks.take j).flatMap fun x => walkR k (under p ++ x.nm.data.toList) x
theorem wkR_succ (k : Nat) (p : List UInt8) (n : ND) {j : Nat} (hj : j < n.ks.length) : wkR k p n (j + 1) = wkR k p n j ++ walkR k (under p ++ (n.ks.getD j nd0).nm.data.toList) (n.ks.getD j nd0) := by
  unfold wkR
  rw [List.take_succ_eq_append_getElem hj, List.flatMap_append, List.cons_append]
  have e : n.ks.getD j nd0 = n.ks[j] := by rw [List.getD_eq_getElem?_getD, List.getElem?_eq_getElem hj]; rfl
  rw [e]; simp
theorem wkR_all (k : Nat) (p : List UInt8) (n : ND) : walkR (k + 1) p n = wkR k p n n.ks.length := by unfold wkR; rw [List.take_length]; rfl
theorem walk_len : ∀ (k : Nat) (p : List UInt8) (n : ND), (walkR k p n).length = (countR k n).a
  | 0, _, _ => rfl
  | k + 1, p, n => by
    have h : ∀ l : List ND, (l.flatMap fun x => walkR k (under p ++ x.nm.data.toList) x).length = (csum k l).a := by
      intro l
      induction l with
      | nil => rfl
      | cons x l ih =>
        rw [List.flatMap_cons, List.length_append, ih, walk_len k _ x]; rfl
    rw [countR_succ]
    show (n.ks.flatMap _).length + 1 = 1 + _
    rw [h]; omega
theorem wk_le (k : Nat) (p : List UInt8) (n : ND) {j : Nat} (hj : j < n.ks.length) : (wkR k p n j).length + (walkR k (under p ++ (n.ks.getD j nd0).nm.data.toList) (n.ks.getD j nd0)).length ≤ (countR (k + 1) n).a := by
  have h1 : ∀ d i, i + d ≤ n.ks.length → (wkR k p n i).length ≤ (wkR k p n (i + d)).length := by
    intro d
    induction d with
    | zero => intro i _; exact Nat.le_refl _
    | succ d ih =>
      intro i hi
      have h1 := ih i (by omega)
      rw [show i + (d + 1) = i + d + 1 by omega, wkR_succ k p n (show i + d < n.ks.length by omega), List.length_append]
      omega
  have h2 := h1 (n.ks.length - (j + 1)) (j + 1) (by omega)
  rw [show j + 1 + (n.ks.length - (j + 1)) = n.ks.length by omega, ← wkR_all, walk_len, wkR_succ k p n hj, List.length_append] at h2
  exact h2
theorem add_str {x y z : ByteArray} (hz : z.data.toList = x.data.toList ++ y.data.toList) (h : x.size + y.size ≤ 1099511627776) (W : World) : (Op.stringOp .add x y).run Try.prog W = .ok (.string z) W := by
  have hs : ∀ l : List UInt8, (ByteArray.mk l.toArray).size = l.length := fun l => by show l.toArray.size = _; simp
  have hb : ∀ s : ByteArray, (⟨s.data.toList.toArray⟩ : ByteArray) = s := fun s => by cases s; simp
  have := run_string_add_sum (P := Try.prog) W (⟨x.data.toList.toArray⟩ : ByteArray) ⟨y.data.toList.toArray⟩ (by rw [hs, hs]; show x.size + y.size ≤ _; omega)
  rw [ByteArray.mk_append_mk, hb, hb, ← hz, hb] at this
  exact this
/-- A path as bytes, with a slash behind it. -/
theorem under_one (p : ByteArray) (m : Nat) (hm : p.size = m + 1) : p.data.toList.getLast? = some (p.data.toList.getD m 0) := by
  have hl : p.data.toList.length = m + 1 := hm
  rw [List.getLast?_eq_getElem?, hl, List.getD_eq_getElem?_getD, show m + 1 - 1 = m by omega, List.getElem?_eq_getElem (by omega)]; rfl

end Go.Proofs.Ytgfdbmbgldeljaa

/- Small trees in plain words: bounds of their counts and tokens. No condition: nothing of the program stands in it. -/
namespace Go.Proofs.Ytgfdbmbgldeljaa

/-- A tree of at most 12 levels, and few nodes and properties. -/
def SzT (n : ND) : Prop := dpR 12 n = true ∧ (countR 12 n).a + (countR 12 n).b ≤ 400
theorem csum_nil (k : Nat) : csum k [] = ⟨0, 0, 0⟩ := rfl
theorem csum_cons (k : Nat) (x : ND) (l : List ND) : (csum k (x :: l)).a = (countR k x).a + (csum k l).a ∧ (csum k (x :: l)).b = (countR k x).b + (csum k l).b := ⟨rfl, rfl⟩
theorem csum_mono {j k : Nat} : ∀ {l : List ND}, (∀ x ∈ l, (countR j x).a ≤ (countR k x).a ∧ (countR j x).b ≤ (countR k x).b) → (csum j l).a ≤ (csum k l).a ∧ (csum j l).b ≤ (csum k l).b
  | [], _ => ⟨Nat.le_refl _, Nat.le_refl _⟩
  | x :: l, h => by
    have h1 := h x (List.mem_cons_self)
    have h2 := csum_mono (l := l) fun y hy => h y (List.mem_cons_of_mem _ hy)
    have e1 := csum_cons j x l
    have e2 := csum_cons k x l
    omega
theorem count_mono : ∀ (k : Nat) (n : ND), (countR k n).a ≤ (countR (k + 1) n).a ∧ (countR k n).b ≤ (countR (k + 1) n).b
  | 0, _ => ⟨Nat.zero_le _, Nat.zero_le _⟩
  | k + 1, n => by
    have h := csum_mono (l := n.ks) fun x _ => count_mono k x
    rw [countR_succ k n, countR_succ (k + 1) n]
    exact ⟨by show 1 + _ ≤ 1 + _; omega, by show _ + _ ≤ _ + _; omega⟩
theorem count_le (n : ND) : ∀ (d k : Nat), (countR k n).a ≤ (countR (k + d) n).a ∧ (countR k n).b ≤ (countR (k + d) n).b
  | 0, _ => ⟨Nat.le_refl _, Nat.le_refl _⟩
  | d + 1, k => by
    have h1 := count_le n d k
    have h2 := count_mono (k + d) n
    exact ⟨Nat.le_trans h1.1 h2.1, Nat.le_trans h1.2 h2.2⟩
theorem tok_len : ∀ (k : Nat) (n : ND), (tokR k n).length ≤ 2 * (countR k n).a + (countR k n).b
  | 0, _ => Nat.zero_le _
  | k + 1, n => by
    have h : ∀ l : List ND, (l.flatMap (tokR k)).length ≤ 2 * (csum k l).a + (csum k l).b := fun l => by
      induction l with
      | nil => exact Nat.zero_le _
      | cons x l ih =>
        rw [List.flatMap_cons, List.length_append]
        have h1 := tok_len k x
        have h2 := csum_cons k x l
        omega
    have h1 := h n.ks
    rw [countR_succ]
    show (((⟨1, n.nm, ByteArray.empty⟩ : TK) :: n.ps.map tokP) ++ n.ks.flatMap (tokR k) ++ [(⟨2, ByteArray.empty, ByteArray.empty⟩ : TK)]).length ≤ 2 * (1 + (csum k n.ks).a) + (n.ps.length + (csum k n.ks).b)
    rw [List.length_append, List.length_append, List.length_cons, List.length_map, List.length_cons, List.length_nil]
    omega
theorem cutSum_exact (f : ND → Nat) : ∀ (l : List ND) (a : Nat), cutSum f a l < 1000 → a + (l.map f).sum = cutSum f a l
  | [], a, _ => by simp [cutSum]
  | x :: r, a, h => by
    unfold cutSum at h ⊢
    by_cases ha : a < 1000
    · rw [if_pos ha] at h ⊢
      have := cutSum_exact f r (a + f x) h
      rw [List.map_cons, List.sum_cons]; omega
    · rw [if_neg ha] at h; omega
theorem count_of_size : ∀ (k : Nat) (n : ND), sizeR k n < 1000 → (countR k n).a + (countR k n).b ≤ sizeR k n
  | 0, _, _ => Nat.zero_le _
  | k + 1, n, h => by
    have e : 1 + n.ps.length + (n.ks.map (sizeR k)).sum = sizeR (k + 1) n := cutSum_exact (sizeR k) n.ks _ h
    have hs : ∀ l : List ND, (l.map (sizeR k)).sum < 1000 → (csum k l).a + (csum k l).b ≤ (l.map (sizeR k)).sum := fun l => by
      induction l with
      | nil => intro _; exact Nat.le_refl _
      | cons x l ih =>
        intro hl
        rw [List.map_cons, List.sum_cons] at hl ⊢
        have h1 := count_of_size k x (by omega)
        have h2 := ih (by omega)
        have h3 := csum_cons k x l
        omega
    have h1 := hs n.ks (by omega)
    rw [countR_succ]
    show 1 + (csum k n.ks).a + (n.ps.length + (csum k n.ks).b) ≤ _
    omega
theorem dp_of_low : ∀ (k : Nat) (n : ND), lowR k n = true → dpR k n = true
  | 0, _, h => by cases h
  | k + 1, n, h => by
    show n.ks.all (dpR k) = true
    rw [List.all_eq_true]
    exact fun x hx => dp_of_low k x (low_kids h x hx)
theorem low_and {n : ND} (h : LowR n = true) : lowR 12 n = true ∧ sizeR 12 n ≤ 400 := by
  unfold LowR at h
  rw [Bool.and_eq_true] at h
  exact ⟨h.1, of_decide_eq_true h.2⟩
theorem sz_of_low {n : ND} (h : LowR n = true) : SzT n := by
  obtain ⟨h1, h2⟩ := low_and h
  have := count_of_size 12 n (by omega)
  exact ⟨dp_of_low 12 n h1, by omega⟩
theorem sz_of_fits {n : ND} (h : fitsR n = true) : SzT n := by
  obtain ⟨h1, h2, h3⟩ := of_decide_eq_true h
  have hd := dp_of_count 8 n h3
  have e9 := count_same 1 8 n hd
  have e12 := count_same 4 8 n hd
  rw [show 8 + 1 = 9 from rfl] at e9
  rw [show 8 + 4 = 12 from rfl] at e12
  refine ⟨dp_mono 8 12 n hd (by omega), ?_⟩
  rw [e12, ← e9]; omega
theorem sz_count {n : ND} (h : SzT n) : (countR 9 n).a ≤ 400 ∧ (countR 9 n).b ≤ 400 ∧ (countR 8 n).a ≤ 400 ∧ (tokR 8 n).length ≤ 800 := by
  have h1 := count_le n 3 9
  have h2 := count_le n 4 8
  have h3 := tok_len 8 n
  have h4 := h.2
  rw [show 9 + 3 = 12 from rfl] at h1
  rw [show 8 + 4 = 12 from rfl] at h2
  omega
/-- Kinds of 64 bits. -/
def KdOk (l : List TK) : Prop := ∀ x ∈ l, -9223372036854775808 ≤ x.kd ∧ x.kd < 9223372036854775808
theorem kd_tok : ∀ (k : Nat) (n : ND), ∀ x ∈ tokR k n, 1 ≤ x.kd ∧ x.kd ≤ 3
  | 0, _, x, h => absurd h List.not_mem_nil
  | k + 1, n, x, h => by
    have h' : x ∈ ((⟨1, n.nm, ByteArray.empty⟩ : TK) :: n.ps.map tokP) ++ n.ks.flatMap (tokR k) ++ [(⟨2, ByteArray.empty, ByteArray.empty⟩ : TK)] := h
    rcases List.mem_append.1 h' with h' | h'
    · rcases List.mem_append.1 h' with h' | h'
      · rcases List.mem_cons.1 h' with rfl | h'
        · exact ⟨by show (1 : Int) ≤ 1; decide, by show (1 : Int) ≤ 3; decide⟩
        · obtain ⟨p, _, rfl⟩ := List.mem_map.1 h'
          exact ⟨by show (1 : Int) ≤ 3; decide, by show (3 : Int) ≤ 3; decide⟩
      · obtain ⟨y, hy, hx⟩ := List.mem_flatMap.1 h'
        exact kd_tok k y x hx
    · rw [List.mem_singleton] at h'
      subst h'
      exact ⟨by show (1 : Int) ≤ 2; decide, by show (2 : Int) ≤ 3; decide⟩
theorem kdOk_tok (k : Nat) (n : ND) : KdOk (tokR k n) := fun x hx => by
  have := kd_tok k n x hx
  omega
theorem kdOk_getD {l : List TK} (h : ∀ k, k < l.length → (l.getD k tk0).kd < 9223372036854775808 ∧ -9223372036854775808 ≤ (l.getD k tk0).kd) : KdOk l := fun x hx => by
  obtain ⟨k, hk, rfl⟩ := List.getElem_of_mem hx
  have := h k hk
  rw [List.getD_eq_getElem?_getD, List.getElem?_eq_getElem hk] at this
  exact ⟨this.2, this.1⟩
end Go.Proofs.Ytgfdbmbgldeljaa
