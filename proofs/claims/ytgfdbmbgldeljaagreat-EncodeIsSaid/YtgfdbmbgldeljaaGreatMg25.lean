/- What the document's walk of trees returns. Conditions: a tree that is read, with names of at most 100 bytes, and of at most 2^39 nodes. -/
import Derived.Test.YtgfdbmbgldeljaaGreatMg22
import Derived.Test.YtgfdbmbgldeljaaGreatMg5
import Derived.Test.YtgfdbmbgldeljaaGreatMg15
import Derived.Deep.RegionLaw
import Derived.Deep.AppendLies
import Derived.Test.YtgfdbmbgldeljaaGreatMg24
import Derived.Test.YtgfdbmbgldeljaaGreatMg21
namespace Go.Proofs.YtgfdbmbgldeljaaGreat
open Go.RowKit

/-- A node of a list of spots: its path, itself, its slices. -/
structure SPT where
  pa : ByteArray
  nd : ND
  y : Value
  z : Value
def spl (s : SPT) : List Value := [.string s.pa, .string s.nd.nm, s.y, s.z]
def spL (L : List SPT) : List Value := L.flatMap spl
def spP (s : SPT) : List UInt8 × ND := (s.pa.data.toList, s.nd)
theorem spL_app (l r : List SPT) : spL (l ++ r) = spL l ++ spL r := by simp [spL]
theorem spL_length (l : List SPT) : (spL l).length = l.length * 4 := by
  induction l with
  | nil => rfl
  | cons x l ih => show (spl x ++ spL l).length = _; rw [List.length_append, ih, List.length_cons]; simp only [spl, List.length_cons, List.length_nil]; omega
/-- Are all names of so many levels below of at most 100 bytes? -/
def nmR : Nat → ND → Bool
  | 0, _ => true
  | k + 1, n => n.ks.all fun x => decide (x.nm.size ≤ 100) && nmR k x
theorem nm_of_low : ∀ (k j : Nat) (n : ND), lowR j n = true → nmR k n = true
  | 0, _, _, _ => rfl
  | k + 1, 0, _, h => by cases h
  | k + 1, j + 1, n, h => by
    show (n.ks.all fun x => decide (x.nm.size ≤ 100) && nmR k x) = true
    rw [List.all_eq_true]
    intro x hx
    have hl := low_kids h x hx
    match j, hl with
    | j + 1, hl => rw [decide_eq_true (low_parts hl).1, nm_of_low k (j + 1) x hl]; rfl
theorem nm_kids {k : Nat} {n : ND} (h : nmR (k + 1) n = true) : ∀ x ∈ n.ks, x.nm.size ≤ 100 ∧ nmR k x = true := fun x hx => by
  have h' := List.all_eq_true.1 (show (n.ks.all fun x => decide (x.nm.size ≤ 100) && nmR k x) = true from h) x hx
  rw [Bool.and_eq_true] at h'
  exact ⟨of_decide_eq_true h'.1, h'.2⟩
/-- The spots behind j kids. -/
def wkR (k : Nat) (p : List UInt8) (n : ND) (j : Nat) : List (List UInt8 × ND) := (p, n) :: (n.ks.take j).flatMap fun x => walkR k (under p ++ x.nm.data.toList) x
theorem wkR_succ (k : Nat) (p : List UInt8) (n : ND) {j : Nat} (hj : j < n.ks.length) : wkR k p n (j + 1) = wkR k p n j ++ walkR k (under p ++ (n.ks.getD j nd0).nm.data.toList) (n.ks.getD j nd0) := by
  unfold wkR
  rw [List.take_succ_eq_append_getElem hj, List.flatMap_append, List.cons_append]
  have e : n.ks.getD j nd0 = n.ks[j] := by rw [List.getD_eq_getElem?_getD, List.getElem?_eq_getElem hj]; rfl
  rw [e]; simp
theorem wkR_all (k : Nat) (p : List UInt8) (n : ND) : walkR (k + 1) p n = wkR k p n n.ks.length := by unfold wkR; rw [List.take_length]; rfl
theorem walk_len : ∀ (k : Nat) (p : List UInt8) (n : ND), (walkR k p n).length = (countR k n).a
  | 0, _, _ => rfl
  | k + 1, p, n => by
    have h : ∀ l : List ND, (l.flatMap fun x => walkR k (under p ++ x.nm.data.toList) x).length = (csum k l).a := by
      intro l
      induction l with
      | nil => rfl
      | cons x l ih =>
        rw [List.flatMap_cons, List.length_append, ih, walk_len k _ x]; rfl
    rw [countR_succ]
    show (n.ks.flatMap _).length + 1 = 1 + _
    rw [h]; omega
theorem wk_le (k : Nat) (p : List UInt8) (n : ND) {j : Nat} (hj : j < n.ks.length) : (wkR k p n j).length + (walkR k (under p ++ (n.ks.getD j nd0).nm.data.toList) (n.ks.getD j nd0)).length ≤ (countR (k + 1) n).a := by
  have h1 : ∀ d i, i + d ≤ n.ks.length → (wkR k p n i).length ≤ (wkR k p n (i + d)).length := by
    intro d
    induction d with
    | zero => intro i _; exact Nat.le_refl _
    | succ d ih =>
      intro i hi
      have h1 := ih i (by omega)
      rw [show i + (d + 1) = i + d + 1 by omega, wkR_succ k p n (show i + d < n.ks.length by omega), List.length_append]
      omega
  have h2 := h1 (n.ks.length - (j + 1)) (j + 1) (by omega)
  rw [show j + 1 + (n.ks.length - (j + 1)) = n.ks.length by omega, ← wkR_all, walk_len, wkR_succ k p n hj, List.length_append] at h2
  exact h2
theorem add_str {x y z : ByteArray} (hz : z.data.toList = x.data.toList ++ y.data.toList) (h : x.size + y.size ≤ 1099511627776) (W : World) : (Op.stringOp .add x y).run Tryz.prog W = .ok (.string z) W := by
  have hs : ∀ l : List UInt8, (ByteArray.mk l.toArray).size = l.length := fun l => by show l.toArray.size = _; simp
  have hb : ∀ s : ByteArray, (⟨s.data.toList.toArray⟩ : ByteArray) = s := fun s => by cases s; simp
  have := run_string_add_sum (P := Tryz.prog) W (⟨x.data.toList.toArray⟩ : ByteArray) ⟨y.data.toList.toArray⟩ (by rw [hs, hs]; show x.size + y.size ≤ _; omega)
  rw [ByteArray.mk_append_mk, hb, hb, ← hz, hb] at this
  exact this
/-- A path as bytes, with a slash behind it. -/
theorem under_one (p : ByteArray) (m : Nat) (hm : p.size = m + 1) : p.data.toList.getLast? = some (p.data.toList.getD m 0) := by
  have hl : p.data.toList.length = m + 1 := hm
  rw [List.getLast?_eq_getElem?, hl, List.getD_eq_getElem?_getD, show m + 1 - 1 = m by omega, List.getElem?_eq_getElem (by omega)]; rfl

end Go.Proofs.YtgfdbmbgldeljaaGreat

/- Small trees in plain words: bounds of their counts and tokens. No condition: nothing of the program stands in it. -/
namespace Go.Proofs.YtgfdbmbgldeljaaGreat

/-- A tree of at most 12 levels, and few nodes and properties. -/
def SzT (n : ND) : Prop := dpR 12 n = true ∧ (countR 12 n).a + (countR 12 n).b ≤ 400
theorem csum_nil (k : Nat) : csum k [] = ⟨0, 0, 0⟩ := rfl
theorem csum_cons (k : Nat) (x : ND) (l : List ND) : (csum k (x :: l)).a = (countR k x).a + (csum k l).a ∧ (csum k (x :: l)).b = (countR k x).b + (csum k l).b := ⟨rfl, rfl⟩
theorem csum_mono {j k : Nat} : ∀ {l : List ND}, (∀ x ∈ l, (countR j x).a ≤ (countR k x).a ∧ (countR j x).b ≤ (countR k x).b) → (csum j l).a ≤ (csum k l).a ∧ (csum j l).b ≤ (csum k l).b
  | [], _ => ⟨Nat.le_refl _, Nat.le_refl _⟩
  | x :: l, h => by
    have h1 := h x (List.mem_cons_self)
    have h2 := csum_mono (l := l) fun y hy => h y (List.mem_cons_of_mem _ hy)
    have e1 := csum_cons j x l
    have e2 := csum_cons k x l
    omega
theorem count_mono : ∀ (k : Nat) (n : ND), (countR k n).a ≤ (countR (k + 1) n).a ∧ (countR k n).b ≤ (countR (k + 1) n).b
  | 0, _ => ⟨Nat.zero_le _, Nat.zero_le _⟩
  | k + 1, n => by
    have h := csum_mono (l := n.ks) fun x _ => count_mono k x
    rw [countR_succ k n, countR_succ (k + 1) n]
    exact ⟨by show 1 + _ ≤ 1 + _; omega, by show _ + _ ≤ _ + _; omega⟩
theorem count_le (n : ND) : ∀ (d k : Nat), (countR k n).a ≤ (countR (k + d) n).a ∧ (countR k n).b ≤ (countR (k + d) n).b
  | 0, _ => ⟨Nat.le_refl _, Nat.le_refl _⟩
  | d + 1, k => by
    have h1 := count_le n d k
    have h2 := count_mono (k + d) n
    exact ⟨Nat.le_trans h1.1 h2.1, Nat.le_trans h1.2 h2.2⟩
theorem tok_len : ∀ (k : Nat) (n : ND), (tokR k n).length ≤ 2 * (countR k n).a + (countR k n).b
  | 0, _ => Nat.zero_le _
  | k + 1, n => by
    have h : ∀ l : List ND, (l.flatMap (tokR k)).length ≤ 2 * (csum k l).a + (csum k l).b := fun l => by
      induction l with
      | nil => exact Nat.zero_le _
      | cons x l ih =>
        rw [List.flatMap_cons, List.length_append]
        have h1 := tok_len k x
        have h2 := csum_cons k x l
        omega
    have h1 := h n.ks
    rw [countR_succ]
    show (((⟨1, n.nm, ByteArray.empty⟩ : TK) :: n.ps.map tokP) ++ n.ks.flatMap (tokR k) ++ [(⟨2, ByteArray.empty, ByteArray.empty⟩ : TK)]).length ≤ 2 * (1 + (csum k n.ks).a) + (n.ps.length + (csum k n.ks).b)
    rw [List.length_append, List.length_append, List.length_cons, List.length_map, List.length_cons, List.length_nil]
    omega
theorem cutSum_exact (f : ND → Nat) : ∀ (l : List ND) (a : Nat), cutSum f a l < 1000 → a + (l.map f).sum = cutSum f a l
  | [], a, _ => by simp [cutSum]
  | x :: r, a, h => by
    unfold cutSum at h ⊢
    by_cases ha : a < 1000
    · rw [if_pos ha] at h ⊢
      have := cutSum_exact f r (a + f x) h
      rw [List.map_cons, List.sum_cons]; omega
    · rw [if_neg ha] at h; omega
theorem count_of_size : ∀ (k : Nat) (n : ND), sizeR k n < 1000 → (countR k n).a + (countR k n).b ≤ sizeR k n
  | 0, _, _ => Nat.zero_le _
  | k + 1, n, h => by
    have e : 1 + n.ps.length + (n.ks.map (sizeR k)).sum = sizeR (k + 1) n := cutSum_exact (sizeR k) n.ks _ h
    have hs : ∀ l : List ND, (l.map (sizeR k)).sum < 1000 → (csum k l).a + (csum k l).b ≤ (l.map (sizeR k)).sum := fun l => by
      induction l with
      | nil => intro _; exact Nat.le_refl _
      | cons x l ih =>
        intro hl
        rw [List.map_cons, List.sum_cons] at hl ⊢
        have h1 := count_of_size k x (by omega)
        have h2 := ih (by omega)
        have h3 := csum_cons k x l
        omega
    have h1 := hs n.ks (by omega)
    rw [countR_succ]
    show 1 + (csum k n.ks).a + (n.ps.length + (csum k n.ks).b) ≤ _
    omega
theorem dp_of_low : ∀ (k : Nat) (n : ND), lowR k n = true → dpR k n = true
  | 0, _, h => by cases h
  | k + 1, n, h => by
    show n.ks.all (dpR k) = true
    rw [List.all_eq_true]
    exact fun x hx => dp_of_low k x (low_kids h x hx)
theorem low_and {n : ND} (h : LowR n = true) : lowR 12 n = true ∧ sizeR 12 n ≤ 400 := by
  unfold LowR at h
  rw [Bool.and_eq_true] at h
  exact ⟨h.1, of_decide_eq_true h.2⟩
theorem sz_of_low {n : ND} (h : LowR n = true) : SzT n := by
  obtain ⟨h1, h2⟩ := low_and h
  have := count_of_size 12 n (by omega)
  exact ⟨dp_of_low 12 n h1, by omega⟩
theorem sz_of_fits {n : ND} (h : fitsR n = true) : SzT n := by
  obtain ⟨h1, h2, h3⟩ := of_decide_eq_true h
  have hd := dp_of_count 8 n h3
  have e9 := count_same 1 8 n hd
  have e12 := count_same 4 8 n hd
  rw [show 8 + 1 = 9 from rfl] at e9
  rw [show 8 + 4 = 12 from rfl] at e12
  refine ⟨dp_mono 8 12 n hd (by omega), ?_⟩
  rw [e12, ← e9]; omega
theorem sz_count {n : ND} (h : SzT n) : (countR 9 n).a ≤ 400 ∧ (countR 9 n).b ≤ 400 ∧ (countR 8 n).a ≤ 400 ∧ (tokR 8 n).length ≤ 800 := by
  have h1 := count_le n 3 9
  have h2 := count_le n 4 8
  have h3 := tok_len 8 n
  have h4 := h.2
  rw [show 9 + 3 = 12 from rfl] at h1
  rw [show 8 + 4 = 12 from rfl] at h2
  omega
/-- Kinds of 64 bits. -/
def KdOk (l : List TK) : Prop := ∀ x ∈ l, -9223372036854775808 ≤ x.kd ∧ x.kd < 9223372036854775808
theorem kd_tok : ∀ (k : Nat) (n : ND), ∀ x ∈ tokR k n, 1 ≤ x.kd ∧ x.kd ≤ 3
  | 0, _, x, h => absurd h List.not_mem_nil
  | k + 1, n, x, h => by
    have h' : x ∈ ((⟨1, n.nm, ByteArray.empty⟩ : TK) :: n.ps.map tokP) ++ n.ks.flatMap (tokR k) ++ [(⟨2, ByteArray.empty, ByteArray.empty⟩ : TK)] := h
    rcases List.mem_append.1 h' with h' | h'
    · rcases List.mem_append.1 h' with h' | h'
      · rcases List.mem_cons.1 h' with rfl | h'
        · exact ⟨by show (1 : Int) ≤ 1; decide, by show (1 : Int) ≤ 3; decide⟩
        · obtain ⟨p, _, rfl⟩ := List.mem_map.1 h'
          exact ⟨by show (1 : Int) ≤ 3; decide, by show (3 : Int) ≤ 3; decide⟩
      · obtain ⟨y, hy, hx⟩ := List.mem_flatMap.1 h'
        exact kd_tok k y x hx
    · rw [List.mem_singleton] at h'
      subst h'
      exact ⟨by show (1 : Int) ≤ 2; decide, by show (2 : Int) ≤ 3; decide⟩
theorem kdOk_tok (k : Nat) (n : ND) : KdOk (tokR k n) := fun x hx => by
  have := kd_tok k n x hx
  omega
theorem kdOk_getD {l : List TK} (h : ∀ k, k < l.length → (l.getD k tk0).kd < 9223372036854775808 ∧ -9223372036854775808 ≤ (l.getD k tk0).kd) : KdOk l := fun x hx => by
  obtain ⟨k, hk, rfl⟩ := List.getElem_of_mem hx
  have := h k hk
  rw [List.getD_eq_getElem?_getD, List.getElem?_eq_getElem hk] at this
  exact ⟨this.2, this.1⟩
end Go.Proofs.YtgfdbmbgldeljaaGreat

/- Sizes of trees that are encoded; what package encode must do, said over nothing of its code. No condition. -/
namespace Go.Proofs.YtgfdbmbgldeljaaGreat
open Go.RowKit

/-- The tokens of a tree with few bytes in each part. -/
theorem tok_low : ∀ (j k : Nat) (n : ND), lowR j n = true → ∀ x ∈ tokR k n, x.nm.size ≤ 100 ∧ x.vl.size ≤ 300
  | 0, _, _, h => by cases h
  | _ + 1, 0, _, _ => fun x hx => absurd hx List.not_mem_nil
  | j + 1, k + 1, n, h => fun x hx => by
    have h' : x ∈ ((⟨1, n.nm, ByteArray.empty⟩ : TK) :: n.ps.map tokP) ++ n.ks.flatMap (tokR k) ++ [(⟨2, ByteArray.empty, ByteArray.empty⟩ : TK)] := hx
    rcases List.mem_append.1 h' with h' | h'
    · rcases List.mem_append.1 h' with h' | h'
      · rcases List.mem_cons.1 h' with rfl | h'
        · exact ⟨(low_parts h).1, Nat.zero_le _⟩
        · obtain ⟨p, hp, rfl⟩ := List.mem_map.1 h'
          have := of_decide_eq_true (low_props h p hp)
          exact this
      · obtain ⟨y, hy, hx⟩ := List.mem_flatMap.1 h'
        exact tok_low j k y (low_kids h y hy) x hx
    · rw [List.mem_singleton] at h'
      subst h'
      exact ⟨Nat.zero_le _, Nat.zero_le _⟩
theorem enOk_low {T : DT} (h : lowD T = true) : EnOk T := by
  obtain ⟨h1, h2⟩ := lowD_and h
  have hc := sz_count (sz_of_low h1)
  exact ⟨by omega, by omega, by omega, fun k hk => by
    have := tok_low 12 8 T.rt (low_and h1).1 _ (getD_mem (d := tk0) hk)
    omega, by unfold maxLen; omega⟩
/-- Spans, and a tree, of 64 bits. -/
def SpIn (l : List SP) : Prop := ∀ x ∈ l, in64 x.p ∧ in64 x.n
def DtIn (T : DT) : Prop := in64 T.bo ∧ SpIn T.rs
/-- A tree that was decoded of few bytes. -/
theorem dec_sizes {s : List UInt8} {T : DT} (hs : s.length ≤ 2048) (h : treeD s = (T, 0)) : EnOk T ∧ DtIn T := by
  obtain ⟨h0, hf, h16⟩ := treeD_ok h
  obtain ⟨d, hd⟩ : ∃ d, readH s = (d, 0) := ⟨_, Prod.ext rfl h0⟩
  obtain ⟨hm, hl1, hl2, hl3, hdo⟩ := readH_ok hd
  unfold treeD at h
  rw [hd, if_neg (by simp)] at h
  unfold bodyD at h
  split at h
  · rename_i h1; exact absurd (congrArg Prod.snd h) h1
  split at h
  · rename_i h1; exact absurd (congrArg Prod.snd h) h1
  split at h
  · rename_i h1; exact absurd (congrArg Prod.snd h) h1
  rename_i h1 h2 h3
  have hT := (Prod.mk.inj h).1
  clear h
  have hsl : (s.take d.tot.toNat).length ≤ 2048 := by rw [List.length_take]; omega
  simp only at h1 h2 h3 hT
  generalize s.take d.tot.toNat = s' at *
  have hpl := Nat.le_trans (partB_len s' d.stc d.siz) hsl
  generalize partB s' d.stc d.siz = pa at *
  generalize partB s' d.sgs d.txs = pb at *
  obtain ⟨l, hr⟩ : ∃ l, readR 1024 pa pb = (l, 0) := ⟨_, Prod.ext rfl (Decidable.not_not.1 h2)⟩
  rw [hr] at h3 hT
  simp only at h3 hT
  obtain ⟨n, ho⟩ : ∃ n, ofR l = (n, 0) := ⟨_, Prod.ext rfl (Decidable.not_not.1 h3)⟩
  obtain ⟨K, hK⟩ : ∃ K, resv s' d.rsv = (K, 0) := ⟨_, Prod.ext rfl (Decidable.not_not.1 h1)⟩
  rw [ho, hK] at hT
  simp only at hT
  subst hT
  obtain ⟨k1, k2⟩ := resv_ok hK
  obtain ⟨t1, -⟩ := tokens_of ho
  obtain ⟨-, -, w3, -, -, w6⟩ := read_put (by omega) hr
  have y2 := (say_w l).2
  have hcc := of_decide_eq_true hf
  simp only at hcc h16
  refine ⟨⟨by simp only; omega, by simp only; omega, by simp only; rw [t1]; omega, fun k hk => ?_, by simp only; unfold maxLen; omega⟩, ?_, fun x hx => ?_⟩
  · simp only at hk ⊢
    rw [t1] at hk ⊢
    obtain ⟨x, hx, e⟩ := say_mem (getD_mem (d := tk0) hk)
    rw [e]
    obtain ⟨j, hj, rfl⟩ := List.getElem_of_mem hx
    have := w3 j hj
    rw [List.getD_eq_getElem?_getD, List.getElem?_eq_getElem hj] at this
    simp only [Option.getD_some] at this
    unfold bare
    split
    · exact ⟨this.1, Nat.zero_le _⟩
    · split
      · exact this
      · exact ⟨Nat.zero_le _, Nat.zero_le _⟩
  · have := numAt_bd s 7
    simp only
    rw [hdo]
    show in64 (numAt s 7)
    unfold in64; omega
  · have := okSp_iff.1 (List.all_eq_true.1 k1 x hx)
    unfold in64; omega

/-- The contracts of package encode. -/
structure EncMust : Prop where
  tree : ∀ (T : DT) (v2 v3 : Value) (A : Option Addr) (cap : Nat) (w : World), EnOk T → DtIn T → DtAt w T v2 v3 A → Calls Tryz.prog 6 #[.agg (dtC T.rt.nm v2 v3 (.slice A T.rs.length cap) T.bo)] w fun e w' => e = .returned (.tuple #[.string ⟨(encR T).1.toArray⟩, .int .i64 ((encR T).2 : Int)]) ∧ Below w.heap.size w w'
  reserve : ∀ (L : List SP) (A : Option Addr) (cap : Nat) (w : World), L.length ≤ maxLen → SpIn L → RdSp w A L → Calls Tryz.prog 8 #[.slice A L.length cap] w fun e w' => e = .returned (.tuple #[.string ⟨(resP L).1.toArray⟩, .int .i64 ((resP L).2 : Int)]) ∧ Below w.heap.size w w'
  size : ∀ (T : DT) (v2 v3 : Value) (A : Option Addr) (cap : Nat) (w : World), EnOk T → DtIn T → DtAt w T v2 v3 A → Calls Tryz.prog 10 #[.agg (dtC T.rt.nm v2 v3 (.slice A T.rs.length cap) T.bo)] w fun e w' => e = .returned (.int .i64 ((encR T).1.length : Int)) ∧ Below w.heap.size w w'

/-- The tree that awake() takes. -/
def T15 : DT := ⟨.mk ⟨#[]⟩ [⟨⟨#[97]⟩, ⟨#[120]⟩⟩] [], [⟨4, 8⟩], 1⟩
theorem low15 : lowD T15 = true := by decide +kernel
theorem lowd0 : lowD dt0 = true := by decide +kernel
theorem in15 : DtIn T15 := ⟨by unfold in64 T15; decide, fun x hx => by
  rw [show T15.rs = [⟨4, 8⟩] from rfl, List.mem_singleton] at hx
  subst hx
  unfold in64; decide⟩
theorem ind0 : DtIn dt0 := ⟨by unfold in64 dt0; decide, fun x hx => absurd hx List.not_mem_nil⟩
theorem enc15 : (encR T15).2 = 0 := by kernel_rfl
theorem size0 : (encR dt0).1.length = 72 := by kernel_rfl
theorem res15 : resP [⟨0, 0⟩] = ([], 1) := by kernel_rfl
theorem dec15 : treeD (encR T15).1 = (T15, 0) := by
  have h := dec_enc (T := T15) (s := (encR T15).1) (m := []) (fun x hx => by have := tok_low 12 8 T15.rt (low_and (lowD_and low15).1).1 x hx; omega) (Prod.ext rfl enc15)
  rw [List.append_nil] at h
  exact h.2.2
theorem len15 : (encR T15).1.length ≤ 1000 := by
  have : decide ((encR T15).1.length ≤ 1000) = true := by kernel_rfl
  exact of_decide_eq_true this
end Go.Proofs.YtgfdbmbgldeljaaGreat
