/- Plain functions and lemmas for layer 3 (SHA-256): words, the 64 numbers of 64 bytes, the rounds, blocks, what is appended. No condition: nothing of the program stands in it. -/
import Derived.WalkKit
import Derived.Laws.BitsLemmas
import Derived.Laws.BitsAllLaws
namespace Go.Proofs.Ytppfdhledmbkhaa
open Go.RowKit

/-- A 32-bit number rotated right. -/
def rot (x k : Nat) : Nat := x / 2 ^ k ||| x * 2 ^ (32 - k) % 4294967296
/-- A sum of two 32-bit numbers. -/
def ad (a b : Nat) : Nat := (a + b) % 4294967296
/-- Rotated in three ways. -/
def rot3 (x i j k : Nat) : Nat := rot x i ^^^ rot x j ^^^ rot x k
/-- Rotated in two ways, shifted in a third. -/
def rotS (x i j k : Nat) : Nat := rot x i ^^^ rot x j ^^^ x / 2 ^ k
/-- The choice, the majority. -/
def chs (e f g : Nat) : Nat := e &&& f ||| (4294967295 - e) &&& g
def maj (a b c : Nat) : Nat := a &&& b ||| a &&& c ||| b &&& c

theorem lt32 {a : Nat} (h : a < 2 ^ 32) : a < 4294967296 := h
theorem or_lt32 {a b : Nat} (ha : a < 4294967296) (hb : b < 4294967296) : a ||| b < 4294967296 := lt32 (Nat.or_lt_two_pow (by omega) (by omega))
theorem and_lt32 {a b : Nat} (ha : a < 4294967296) : a &&& b < 4294967296 := by have := @Nat.and_le_left a b; omega
theorem xor_lt32 {a b : Nat} (ha : a < 4294967296) (hb : b < 4294967296) : a ^^^ b < 4294967296 := lt32 (Nat.xor_lt_two_pow (by omega) (by omega))
theorem div_lt32 {a : Nat} (k : Nat) (ha : a < 4294967296) : a / 2 ^ k < 4294967296 := Nat.lt_of_le_of_lt (Nat.div_le_self _ _) ha
theorem rot_lt {x : Nat} (k : Nat) (h : x < 4294967296) : rot x k < 4294967296 := or_lt32 (div_lt32 k h) (Nat.mod_lt _ (by omega))
theorem ad_lt (a b : Nat) : ad a b < 4294967296 := Nat.mod_lt _ (by omega)
theorem rot3_lt {x : Nat} (i j k : Nat) (h : x < 4294967296) : rot3 x i j k < 4294967296 := xor_lt32 (xor_lt32 (rot_lt i h) (rot_lt j h)) (rot_lt k h)
theorem rotS_lt {x : Nat} (i j k : Nat) (h : x < 4294967296) : rotS x i j k < 4294967296 := xor_lt32 (xor_lt32 (rot_lt i h) (rot_lt j h)) (div_lt32 k h)
theorem chs_lt {e f g : Nat} (he : e < 4294967296) : chs e f g < 4294967296 := or_lt32 (and_lt32 he) (and_lt32 (by omega))
theorem maj_lt {a b c : Nat} (ha : a < 4294967296) (hb : b < 4294967296) : maj a b c < 4294967296 := or_lt32 (or_lt32 (and_lt32 ha) (and_lt32 ha)) (and_lt32 hb)

theorem tb_not {e : Nat} (he : e < 4294967296) (i : Nat) : (4294967295 - e).testBit i = (decide (i < 32) && !e.testBit i) := by
  have := Nat.testBit_two_pow_sub_succ (x := e) (n := 32) (by omega) i
  rwa [show 2 ^ 32 - (e + 1) = 4294967295 - e by omega] at this
/-- The choice and the majority, with xor in place of or. -/
theorem chs_xor {e : Nat} (f g : Nat) (he : e < 4294967296) : e &&& f ^^^ (4294967295 - e) &&& g = chs e f g := by
  unfold chs
  apply Nat.eq_of_testBit_eq
  intro i
  rw [Nat.testBit_xor, Nat.testBit_or, Nat.testBit_and, Nat.testBit_and, tb_not he]
  cases e.testBit i <;> cases f.testBit i <;> cases g.testBit i <;> simp
theorem maj_xor (a b c : Nat) : a &&& b ^^^ a &&& c ^^^ b &&& c = maj a b c := by
  unfold maj
  apply Nat.eq_of_testBit_eq
  intro i
  simp only [Nat.testBit_xor, Nat.testBit_or, Nat.testBit_and]
  cases a.testBit i <;> cases b.testBit i <;> cases c.testBit i <;> rfl

/-- Four bytes as a number. -/
def be4 (a b c d : Nat) : Nat := a * 16777216 + b * 65536 + c * 256 + d
theorem or_add {a b : Nat} (k : Nat) (h : b < 2 ^ k) : a * 2 ^ k ||| b = a * 2 ^ k + b := by
  rw [← Nat.shiftLeft_eq, Nat.shiftLeft_add_eq_or_of_lt h]
theorem be4_or {a b c d : Nat} (hb : b < 256) (hc : c < 256) (hd : d < 256) : a * 16777216 ||| b * 65536 ||| c * 256 ||| d = be4 a b c d := by
  have e1 : a * 16777216 ||| b * 65536 = (a * 256 + b) * 65536 := by
    have := @or_add a (b * 65536) 24 (by omega)
    rw [show (2 : Nat) ^ 24 = 16777216 from rfl] at this
    rw [this]; omega
  rw [e1]
  have e2 : (a * 256 + b) * 65536 ||| c * 256 = (a * 65536 + b * 256 + c) * 256 := by
    have := @or_add (a * 256 + b) (c * 256) 16 (by omega)
    rw [show (2 : Nat) ^ 16 = 65536 from rfl] at this
    rw [this]; omega
  rw [e2]
  have := @or_add (a * 65536 + b * 256 + c) d 8 (by omega)
  rw [show (2 : Nat) ^ 8 = 256 from rfl] at this
  rw [this]; unfold be4; omega

/-- Byte i of 64. -/
def byt (B : List UInt8) (i : Nat) : Nat := (B.getD i 0).toNat
theorem byt_lt (B : List UInt8) (i : Nat) : byt B i < 256 := (B.getD i 0).toNat_lt
/-- The number at n of the 64, of those ahead of it. -/
def newW (B : List UInt8) (l : List Nat) (n : Nat) : Nat :=
  if n < 16 then be4 (byt B (4 * n)) (byt B (4 * n + 1)) (byt B (4 * n + 2)) (byt B (4 * n + 3))
  else ad (ad (ad (l.getD (n - 16) 0) (rotS (l.getD (n - 15) 0) 7 18 3)) (l.getD (n - 7) 0)) (rotS (l.getD (n - 2) 0) 17 19 10)
theorem newW_big (B : List UInt8) (l : List Nat) (m : Nat) : newW B l (m + 16) = ad (ad (ad (l.getD m 0) (rotS (l.getD (m + 1) 0) 7 18 3)) (l.getD (m + 9) 0)) (rotS (l.getD (m + 14) 0) 17 19 10) := by
  unfold newW
  rw [if_neg (by omega)]
  rfl
/-- The first n of the 64 numbers. -/
def wds (B : List UInt8) : Nat → List Nat
  | 0 => []
  | n + 1 => wds B n ++ [newW B (wds B n) n]
theorem wds_length (B : List UInt8) : ∀ n, (wds B n).length = n
  | 0 => rfl
  | n + 1 => by rw [wds, List.length_append, wds_length B n]; rfl
theorem newW_lt (B : List UInt8) (l : List Nat) (n : Nat) : newW B l n < 4294967296 := by
  unfold newW
  split
  · have h0 := byt_lt B (4 * n); have h1 := byt_lt B (4 * n + 1); have h2 := byt_lt B (4 * n + 2); have h3 := byt_lt B (4 * n + 3)
    unfold be4; omega
  · exact ad_lt _ _
theorem wds_lt (B : List UInt8) : ∀ n, ∀ x ∈ wds B n, x < 4294967296
  | 0, x, h => by cases h
  | n + 1, x, h => by
    rw [wds, List.mem_append] at h
    rcases h with h | h
    · exact wds_lt B n x h
    · rw [List.mem_singleton] at h; subst h; exact newW_lt _ _ _
/-- A word of a list that is all 32-bit numbers. -/
theorem getD_lt {l : List Nat} (h : ∀ x ∈ l, x < 4294967296) (k : Nat) : l.getD k 0 < 4294967296 := by
  rw [List.getD_eq_getElem?_getD]
  cases e : l[k]? with
  | none => show 0 < _; omega
  | some x => exact h x (List.mem_of_getElem? e)

/-- The first j of the four bytes of word k as a number. -/
def pb (B : List UInt8) (k : Nat) : Nat → Nat
  | 0 => 0
  | j + 1 => pb B k j * 256 + byt B (4 * k + j)
theorem pb_lt (B : List UInt8) (k : Nat) : ∀ j, pb B k j < 256 ^ j
  | 0 => by show 0 < 1; omega
  | j + 1 => by have := pb_lt B k j; have := byt_lt B (4 * k + j); rw [pb, Nat.pow_succ]; omega
theorem pb_small (B : List UInt8) (k : Nat) {j : Nat} (h : j < 4) : pb B k j < 16777216 :=
  Nat.lt_of_lt_of_le (pb_lt B k j) (show 256 ^ j ≤ 256 ^ 3 from Nat.pow_le_pow_right (by omega) (by omega))
theorem pb_four (B : List UInt8) (k : Nat) (l : List Nat) (hk : k < 16) : pb B k 4 = newW B l k := by
  unfold newW be4
  rw [if_pos hk]
  simp only [pb, Nat.add_zero]
  omega
/-- The 64 numbers of which the first k are there. -/
def wdz (B : List UInt8) (k : Nat) : List Nat := wds B k ++ List.replicate (64 - k) 0
theorem wdz_length (B : List UInt8) {k : Nat} (h : k ≤ 64) : (wdz B k).length = 64 := by
  unfold wdz; rw [List.length_append, wds_length, List.length_replicate]; omega
theorem wdz_zero (B : List UInt8) : wdz B 0 = List.replicate 64 0 := rfl
theorem wdz_full (B : List UInt8) : wdz B 64 = wds B 64 := by unfold wdz; simp
theorem wdz_at (B : List UInt8) {k j : Nat} (h : j < k) : (wdz B k).getD j 0 = (wds B k).getD j 0 := by
  unfold wdz; rw [List.getD_eq_getElem?_getD, List.getElem?_append_left (by rw [wds_length]; exact h), List.getD_eq_getElem?_getD]
theorem wdz_mid (B : List UInt8) (k : Nat) : (wdz B k).getD k 0 = 0 := by
  unfold wdz; rw [List.getD_eq_getElem?_getD, List.getElem?_append_right (by rw [wds_length]; omega), wds_length, List.getElem?_replicate]; split <;> rfl
theorem wdz_set (B : List UInt8) {k : Nat} (h : k < 64) : (wdz B k).set k (newW B (wds B k) k) = wdz B (k + 1) := by
  unfold wdz
  rw [List.set_append_right _ _ (by rw [wds_length]; omega), wds_length, Nat.sub_self, show 64 - k = (64 - (k + 1)) + 1 by omega, List.replicate_succ, List.set_cons_zero, wds, List.append_assoc]
  rfl
theorem wdz_lt (B : List UInt8) (k : Nat) : ∀ x ∈ wdz B k, x < 4294967296 := by
  intro x hx
  unfold wdz at hx
  rw [List.mem_append] at hx
  rcases hx with hx | hx
  · exact wds_lt B k x hx
  · have := List.eq_of_mem_replicate hx; omega

/-- Eight numbers. -/
structure S8 where
  (a b c d e f g h : Nat)
def S8.ok (s : S8) : Prop := s.a < 4294967296 ∧ s.b < 4294967296 ∧ s.c < 4294967296 ∧ s.d < 4294967296 ∧ s.e < 4294967296 ∧ s.f < 4294967296 ∧ s.g < 4294967296 ∧ s.h < 4294967296
def S8.list (s : S8) : List Nat := [s.a, s.b, s.c, s.d, s.e, s.f, s.g, s.h]
def S8.add (s t : S8) : S8 := ⟨ad s.a t.a, ad s.b t.b, ad s.c t.c, ad s.d t.d, ad s.e t.e, ad s.f t.f, ad s.g t.g, ad s.h t.h⟩
theorem S8.add_ok (s t : S8) : (s.add t).ok := ⟨ad_lt _ _, ad_lt _ _, ad_lt _ _, ad_lt _ _, ad_lt _ _, ad_lt _ _, ad_lt _ _, ad_lt _ _⟩
/-- The first k numbers of a list with those of another one added. -/
def adds (l m : List Nat) : Nat → List Nat
  | 0 => l
  | k + 1 => (adds l m k).set k (ad (l.getD k 0) (m.getD k 0))
theorem adds_length (l m : List Nat) : ∀ k, (adds l m k).length = l.length
  | 0 => rfl
  | k + 1 => by rw [adds, List.length_set, adds_length l m k]
theorem adds_at (l m : List Nat) : ∀ k j, k ≤ j → (adds l m k).getD j 0 = l.getD j 0
  | 0, _, _ => rfl
  | k + 1, j, h => by
    rw [adds, List.getD_eq_getElem?_getD, List.getElem?_set_ne (by omega), ← List.getD_eq_getElem?_getD, adds_at l m k j (by omega)]
theorem adds_eight (s t : S8) : adds s.list t.list 8 = (s.add t).list := rfl
def t1 (s : S8) (k w : Nat) : Nat := ad (ad (ad (ad s.h (rot3 s.e 6 11 25)) (chs s.e s.f s.g)) k) w
def t2 (s : S8) : Nat := ad (rot3 s.a 2 13 22) (maj s.a s.b s.c)
/-- A step. -/
def rnd (s : S8) (k w : Nat) : S8 := ⟨ad (t1 s k w) (t2 s), s.a, s.b, s.c, ad s.d (t1 s k w), s.e, s.f, s.g⟩
theorem rnd_ok {s : S8} (k w : Nat) (h : s.ok) : (rnd s k w).ok := ⟨ad_lt _ _, h.1, h.2.1, h.2.2.1, ad_lt _ _, h.2.2.2.2.1, h.2.2.2.2.2.1, h.2.2.2.2.2.2.1⟩
/-- The constants. -/
def kks : List Nat := [1116352408, 1899447441, 3049323471, 3921009573, 961987163, 1508970993, 2453635748, 2870763221, 3624381080, 310598401, 607225278, 1426881987, 1925078388, 2162078206, 2614888103, 3248222580, 3835390401, 4022224774, 264347078, 604807628, 770255983, 1249150122, 1555081692, 1996064986, 2554220882, 2821834349, 2952996808, 3210313671, 3336571891, 3584528711, 113926993, 338241895, 666307205, 773529912, 1294757372, 1396182291, 1695183700, 1986661051, 2177026350, 2456956037, 2730485921, 2820302411, 3259730800, 3345764771, 3516065817, 3600352804, 4094571909, 275423344, 430227734, 506948616, 659060556, 883997877, 958139571, 1322822218, 1537002063, 1747873779, 1955562222, 2024104815, 2227730452, 2361852424, 2428436474, 2756734187, 3204031479, 3329325298]
theorem kks_len : kks.length = 64 := rfl
theorem kks_lt : ∀ x ∈ kks, x < 4294967296 := by decide
/-- So many steps. -/
def rnds (s : S8) (W : List Nat) : Nat → S8
  | 0 => s
  | n + 1 => rnd (rnds s W n) (kks.getD n 0) (W.getD n 0)
theorem rnds_ok {s : S8} (W : List Nat) (h : s.ok) : ∀ n, (rnds s W n).ok
  | 0 => h
  | n + 1 => rnd_ok _ _ (rnds_ok W h n)
/-- The eight numbers behind 64 bytes. -/
def mixP (s : S8) (B : List UInt8) : S8 := s.add (rnds s (wds B 64) 64)
theorem mixP_list (s : S8) (B : List UInt8) : (mixP s B).list = adds s.list (rnds s (wds B 64) 64).list 8 := by rw [adds_eight]; rfl
theorem rnds_succ (s : S8) (W : List Nat) (n : Nat) : rnds s W (n + 1) = rnd (rnds s W n) (kks.getD n 0) (W.getD n 0) := rfl
theorem rnds_zero (s : S8) (W : List Nat) : rnds s W 0 = s := rfl
theorem adds_succ (l m : List Nat) (k : Nat) : adds l m (k + 1) = (adds l m k).set k (ad (l.getD k 0) (m.getD k 0)) := rfl
theorem mixP_ok (s : S8) (B : List UInt8) : (mixP s B).ok := S8.add_ok _ _
/-- The eight numbers ahead of the first byte. -/
def s0 : S8 := ⟨1779033703, 3144134277, 1013904242, 2773480762, 1359893119, 2600822924, 528734635, 1541459225⟩
theorem s0_ok : s0.ok := by unfold S8.ok s0; simp
/-- Behind so many blocks of bytes. -/
def blks (M : List UInt8) : Nat → S8
  | 0 => s0
  | n + 1 => mixP (blks M n) ((M.drop (64 * n)).take 64)
theorem blks_ok (M : List UInt8) : ∀ n, (blks M n).ok
  | 0 => s0_ok
  | _ + 1 => mixP_ok _ _
theorem blks_append (M P : List UInt8) : ∀ n, 64 * n ≤ M.length → blks (M ++ P) n = blks M n
  | 0, _ => rfl
  | n + 1, h => by
    rw [blks, blks, blks_append M P n (by omega)]
    congr 1
    rw [List.drop_append_of_le_length (by omega), List.take_append_of_le_length (by rw [List.length_drop]; omega)]
/-- Byte i of the eight that tell how many bits there were. -/
def lenB (n i : Nat) : UInt8 := UInt8.ofNat (8 * n / 2 ^ (56 - 8 * i))
def lenBs (n : Nat) : Nat → List UInt8
  | 0 => []
  | i + 1 => lenBs n i ++ [lenB n i]
theorem lenBs_length (n : Nat) : ∀ i, (lenBs n i).length = i
  | 0 => rfl
  | i + 1 => by rw [lenBs, List.length_append, lenBs_length n i]; rfl
/-- What is appended to n bytes. -/
def zrs (n : Nat) : Nat := (119 - n % 64) % 64
def ending (n : Nat) : List UInt8 := [128] ++ List.replicate (zrs n) 0 ++ lenBs n 8
theorem ending_length (n : Nat) : (ending n).length = zrs n + 9 := by unfold ending; simp [lenBs_length]
theorem ending_full (n : Nat) : (n + (ending n).length) % 64 = 0 := by rw [ending_length]; unfold zrs; omega
/-- The bytes of a number; of eight. -/
def b4 (x : Nat) : List UInt8 := [UInt8.ofNat (x / 16777216), UInt8.ofNat (x / 65536), UInt8.ofNat (x / 256), UInt8.ofNat x]
def txt (l : List Nat) : List UInt8 := l.flatMap b4
/-- The hash of bytes. -/
def hash (L : List UInt8) : List UInt8 := txt (blks (L ++ ending L.length) ((L ++ ending L.length).length / 64)).list
theorem hash_abc : hash [97, 98, 99] = [186, 120, 22, 191, 143, 1, 207, 234, 65, 65, 64, 222, 93, 174, 34, 35, 176, 3, 97, 163, 150, 23, 122, 156, 180, 16, 255, 97, 242, 0, 21, 173] := by decide +kernel
end Go.Proofs.Ytppfdhledmbkhaa
