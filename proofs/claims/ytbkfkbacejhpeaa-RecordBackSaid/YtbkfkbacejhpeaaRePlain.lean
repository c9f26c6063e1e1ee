/- Records in plain words: a body, what is read of bytes, and that what is put is read back while one changed byte is found. No condition: nothing of the program stands in it. -/
import Derived.Test.YtbkfkbacejhpeaaNumR
import Derived.Test.YtbkfkbacejhpeaaCrcPlain
namespace Go.Proofs.Ytbkfkbacejhpeaa
open Go.RowKit

structure RC where
  sr : Int
  da : ByteArray
def rc0 : RC := ⟨0, ⟨#[]⟩⟩
/-- The two numbers of a record, its checksum, its body. -/
def head20 (n : Int) (k : Nat) : List UInt8 := big n ++ big (k : Int)
def sum20 (n : Int) (d : List UInt8) : Nat := more 0 (head20 n d.length ++ d)
def bytes20 (n : Int) (d : List UInt8) : List UInt8 := head20 n d.length ++ (big (sum20 n d : Int) ++ d)
def body20 (r : RC) : ByteArray × Nat :=
  if r.sr < 0 ∨ 4294967295 < r.sr then (⟨#[]⟩, 1) else if 496 < r.da.size then (⟨#[]⟩, 7) else (⟨(bytes20 r.sr r.da.data.toList).toArray⟩, 0)
def mark20 : List UInt8 := [80, 69, 78, 86]
/-- The record of bytes. -/
def read20 (l : List UInt8) : RC × Nat :=
  if l.length < 16 then (rc0, 14) else if l.take 4 ≠ mark20 then (rc0, 6)
  else if 496 < frombig (l.drop 8) then (rc0, 7) else if (l.length : Int) - 16 < frombig (l.drop 8) then (rc0, 14)
  else if (more 0 ((l.drop 4).take 8 ++ (l.drop 16).take (frombig (l.drop 8)).toNat) : Int) ≠ frombig (l.drop 12) then (rc0, 9)
  else (⟨frombig (l.drop 4), ⟨((l.drop 16).take (frombig (l.drop 8)).toNat).toArray⟩⟩, 0)
def newer20 (a b : Int) : Bool := decide (1 ≤ (a - b) % 4294967296 ∧ (a - b) % 4294967296 < 2147483648)
def next20 (n : Int) : Int := (n + 1) % 4294967296

/-- One changed byte changes the checksum. -/
theorem more_one (n : Nat) (p q : List UInt8) {b c : UInt8} (h : b ≠ c) : more n (p ++ b :: q) ≠ more n (p ++ c :: q) := by
  intro e
  have e := inv_inj e
  rw [takes_append, takes_append] at e
  show False
  generalize takes (inv n) p = m at e
  have hx : b ^^^ (b ^^^ c) = c := by rw [← UInt8.xor_assoc, UInt8.xor_self, UInt8.zero_xor]
  have e1 : take1 m c = take1 m b ^^^ sts 8 (0 ^^^ (b ^^^ c).toNat) := by
    have := take1_xor m 0 b (b ^^^ c)
    rw [Nat.xor_zero, hx] at this
    exact this
  have e2 : takes (take1 m b) q = takes (take1 m c) q := e
  rw [e1, takes_xor] at e2
  have e3 : sts (8 * q.length) (sts 8 (0 ^^^ (b ^^^ c).toNat)) = 0 := by
    have h1 := congrArg (fun z => takes (take1 m b) q ^^^ z) e2
    simp only [Nat.xor_self] at h1
    rw [← Nat.xor_assoc, Nat.xor_self, Nat.zero_xor] at h1
    exact h1.symm
  have hlt : 0 ^^^ (b ^^^ c).toNat < 4294967296 := by rw [Nat.zero_xor]; exact byte32 _
  have e4 := sts_zero 8 hlt (sts_zero _ (sts_lt 8 hlt) e3)
  rw [Nat.zero_xor] at e4
  have e5 : b ^^^ c = 0 := UInt8.toNat_inj.1 e4
  apply h
  rw [← hx, e5, UInt8.xor_zero]
theorem big_inj {a b : Int} (ha : 0 ≤ a ∧ a < 4294967296) (hb : 0 ≤ b ∧ b < 4294967296) (h : big a = big b) : a = b := by
  have h1 := frombig_big a []
  have h2 := frombig_big b []
  rw [h, h2] at h1
  omega
/-- Four bytes are what they make together. -/
theorem big_frombig {l : List UInt8} (h : l.length = 4) : big (frombig l) = l := by
  match l, h with
  | [a, b, c, d], _ =>
    have ha := a.toNat_lt; have hb := b.toNat_lt; have hc := c.toNat_lt; have hd := d.toNat_lt
    have e : frombig [a, b, c, d] = (a.toNat : Int) * 16777216 + (b.toNat : Int) * 65536 + (c.toNat : Int) * 256 + (d.toNat : Int) := rfl
    unfold big
    rw [e]
    have q : ∀ (x : Int) (u : UInt8), x = (u.toNat : Int) → b8 x = u := fun x u hx => by
      unfold b8; rw [hx, Int.toNat_natCast]; exact UInt8.ofNat_toNat
    rw [q _ a (by omega), q _ b (by omega), q _ c (by omega), q _ d (by omega)]
theorem bytes_len (n : Int) (d : List UInt8) : (bytes20 n d).length = 12 + d.length := by
  unfold bytes20 head20
  simp only [List.length_append, big_length]; omega
theorem drop_mid {α : Type} {a b : List α} {k : Nat} (h : a.length = k) : (a ++ b).drop k = b := by rw [← h, List.drop_left]
theorem take_mid {α : Type} {a b : List α} {k : Nat} (h : a.length = k) : (a ++ b).take k = a := by rw [← h, List.take_left]
theorem sum20_lt (n : Int) (d : List UInt8) : sum20 n d < 4294967296 := more_lt _ (by decide)
/-- Bytes that are laid as a record's are read as they lie. -/
theorem read_laid {m a c s d more' : List UInt8} (hm : m.length = 4) (ha : a.length = 4) (hc : c.length = 4) (hs : s.length = 4) (hk : frombig c = (d.length : Int)) (hd : d.length ≤ 496) :
    read20 (m ++ (a ++ (c ++ (s ++ (d ++ more'))))) = if m ≠ mark20 then (rc0, 6) else if (more 0 (a ++ c ++ d) : Int) ≠ frombig s then (rc0, 9) else (⟨frombig a, ⟨d.toArray⟩⟩, 0) := by
  have hl : (m ++ (a ++ (c ++ (s ++ (d ++ more'))))).length = 16 + d.length + more'.length := by simp only [List.length_append]; omega
  have d4 : (m ++ (a ++ (c ++ (s ++ (d ++ more'))))).drop 4 = a ++ (c ++ (s ++ (d ++ more'))) := drop_mid hm
  have d8 : (m ++ (a ++ (c ++ (s ++ (d ++ more'))))).drop 8 = c ++ (s ++ (d ++ more')) := by rw [← List.append_assoc]; exact drop_mid (by rw [List.length_append]; omega)
  have d12 : (m ++ (a ++ (c ++ (s ++ (d ++ more'))))).drop 12 = s ++ (d ++ more') := by rw [← List.append_assoc, ← List.append_assoc]; exact drop_mid (by simp only [List.length_append]; omega)
  have d16 : (m ++ (a ++ (c ++ (s ++ (d ++ more'))))).drop 16 = d ++ more' := by rw [← List.append_assoc, ← List.append_assoc, ← List.append_assoc]; exact drop_mid (by simp only [List.length_append]; omega)
  have t4 : (m ++ (a ++ (c ++ (s ++ (d ++ more'))))).take 4 = m := take_mid hm
  have fb : ∀ (l r : List UInt8), l.length = 4 → frombig (l ++ r) = frombig l := fun l r h => by
    match l, h with
    | [x, y, z, u], _ => rfl
  have t8 : (a ++ (c ++ (s ++ (d ++ more')))).take 8 = a ++ c := by rw [← List.append_assoc]; exact take_mid (by rw [List.length_append]; omega)
  unfold read20
  rw [if_neg (by omega), t4, d8, fb c _ hc, hk, d4, t8, d16, d12, fb a _ ha, fb s _ hs, Int.toNat_natCast, take_mid rfl]
  by_cases h1 : m ≠ mark20
  · rw [if_pos h1, if_pos h1]
  · rw [if_neg h1, if_neg h1, if_neg (by omega), if_neg (by rw [hl]; omega)]
/-- What is put is read as it was, whatever stands behind. -/
theorem read_back {n : Int} {d : ByteArray} (h0 : 0 ≤ n ∧ n ≤ 4294967295) (hd : d.size ≤ 496) (r : List UInt8) : read20 (mark20 ++ (bytes20 n d.data.toList ++ r)) = (⟨n, d⟩, 0) := by
  have hd' : d.data.toList.length ≤ 496 := hd
  have hk := frombig_big (d.data.toList.length : Int) []
  have hn := frombig_big n []
  have hs := frombig_big (sum20 n d.data.toList : Int) []
  have hsl := sum20_lt n d.data.toList
  rw [List.append_nil] at hk hn hs
  have e : mark20 ++ (bytes20 n d.data.toList ++ r) = mark20 ++ (big n ++ (big (d.data.toList.length : Int) ++ (big (sum20 n d.data.toList : Int) ++ (d.data.toList ++ r)))) := by
    unfold bytes20 head20
    simp only [List.append_assoc]
  rw [e, read_laid rfl (big_length _) (big_length _) (big_length _) (by rw [hk]; omega) hd', if_neg (by simp), if_neg (by
    rw [hs]
    show ¬ ((sum20 n d.data.toList : Nat) : Int) ≠ _
    omega), hn]
  have : n % 4294967296 = n := by omega
  rw [this]
/-- One changed byte, but of the count, is found. -/
theorem read_bit {n : Int} {d : List UInt8} (hd : d.length ≤ 496) {k : Nat} (hk : k < 16 + d.length) (hk2 : ¬ (8 ≤ k ∧ k < 12)) {b : UInt8} (hb : (mark20 ++ bytes20 n d).getD k 0 ≠ b) :
    (read20 ((mark20 ++ bytes20 n d).set k b)).1 = rc0 ∧ (read20 ((mark20 ++ bytes20 n d).set k b)).2 ≠ 0 := by
  have hkf := frombig_big (d.length : Int) []
  rw [List.append_nil] at hkf
  have hkc : frombig (big (d.length : Int)) = (d.length : Int) := by rw [hkf]; omega
  have hs := frombig_big (sum20 n d : Int) []
  rw [List.append_nil] at hs
  have hsl := sum20_lt n d
  have hsf : frombig (big (sum20 n d : Int)) = (sum20 n d : Int) := by rw [hs]; omega
  have e : mark20 ++ bytes20 n d = mark20 ++ (big n ++ (big (d.length : Int) ++ (big (sum20 n d : Int) ++ (d ++ [])))) := by
    unfold bytes20 head20
    simp only [List.append_assoc, List.append_nil]
  rw [e] at hb ⊢
  have len4 : ∀ (l : List UInt8) j x, (l.set j x).length = l.length := fun l j x => List.length_set
  by_cases c1 : k < 4
  · rw [List.set_append_left _ _ (show k < mark20.length from c1), read_laid (by rw [len4]; rfl) (big_length _) (big_length _) (big_length _) hkc hd, if_pos ?_]
    · exact ⟨rfl, by decide⟩
    · intro e2
      apply hb
      rw [List.getD_eq_getElem?_getD, List.getElem?_append_left (show k < mark20.length from c1), ← e2, List.getElem?_set_self (show k < mark20.length from c1)]; rfl
  rw [List.getD_eq_getElem?_getD, List.getElem?_append_right (show mark20.length ≤ k by show 4 ≤ k; omega)] at hb
  rw [List.set_append_right _ _ (show mark20.length ≤ k by show 4 ≤ k; omega)]
  obtain ⟨j, hj⟩ : ∃ j, j = k - mark20.length := ⟨_, rfl⟩
  have hjk : k = j + 4 := by show _; have : mark20.length = 4 := rfl; omega
  rw [← hj] at hb ⊢
  have bad : ∀ (a s' d' : List UInt8), a.length = 4 → s'.length = 4 → d'.length = d.length → (more 0 (a ++ big (d.length : Int) ++ d') : Int) ≠ frombig s' → (read20 (mark20 ++ (a ++ (big (d.length : Int) ++ (s' ++ (d' ++ [])))))).1 = rc0 ∧ (read20 (mark20 ++ (a ++ (big (d.length : Int) ++ (s' ++ (d' ++ [])))))).2 ≠ 0 := fun a s' d' h1 h2 h3 h4 => by
    rw [read_laid rfl h1 (big_length _) h2 (by rw [h3]; exact hkc) (by omega), if_neg (by simp), if_pos h4]
    exact ⟨rfl, by decide⟩
  have split : ∀ (l : List UInt8) (i : Nat) (x : UInt8), i < l.length → l.getD i 0 ≠ x → ∃ p q y, l = p ++ y :: q ∧ l.set i x = p ++ x :: q ∧ y ≠ x := fun l i x hi hne => by
    refine ⟨l.take i, l.drop (i + 1), l.getD i 0, ?_, ?_, hne⟩
    · have := List.getElem_cons_drop hi
      rw [List.getD_eq_getElem?_getD, List.getElem?_eq_getElem hi]
      show l = l.take i ++ l[i] :: l.drop (i + 1)
      rw [this, List.take_append_drop]
    · rw [List.set_eq_take_append_cons_drop, if_pos hi]
  by_cases c2 : j < 4
  · rw [List.getElem?_append_left (by rw [big_length]; exact c2)] at hb
    rw [List.set_append_left _ _ (by rw [big_length]; exact c2)]
    refine bad _ _ _ (by rw [len4]; rfl) (big_length _) rfl ?_
    obtain ⟨p, q, y, s1, s2, s3⟩ := split (big n) j b (by rw [big_length]; exact c2) (by rw [List.getD_eq_getElem?_getD]; exact hb)
    rw [hsf, s2]
    intro e3
    have e3 : more 0 (p ++ b :: q ++ big (d.length : Int) ++ d) = sum20 n d := by omega
    unfold sum20 head20 at e3
    rw [s1] at e3
    simp only [List.append_assoc, List.cons_append] at e3
    exact more_one 0 p _ (Ne.symm s3) e3
  rw [List.getElem?_append_right (by rw [big_length]; omega)] at hb
  rw [List.set_append_right _ _ (by rw [big_length]; omega)]
  rw [big_length] at hb ⊢
  rw [List.getElem?_append_right (by rw [big_length]; omega)] at hb
  rw [List.set_append_right _ _ (by rw [big_length]; omega)]
  rw [big_length] at hb ⊢
  by_cases c3 : j - 4 - 4 < 4
  · rw [List.getElem?_append_left (by rw [big_length]; exact c3)] at hb
    rw [List.set_append_left _ _ (by rw [big_length]; exact c3)]
    refine bad _ _ _ (big_length _) (by rw [len4]; rfl) rfl ?_
    intro e3
    have e4 : ((sum20 n d : Nat) : Int) = frombig ((big (sum20 n d : Int)).set (j - 4 - 4) b) := by rw [← e3]; rfl
    have e5 := big_frombig (l := (big (sum20 n d : Int)).set (j - 4 - 4) b) (by rw [len4]; rfl)
    rw [← e4] at e5
    apply hb
    rw [e5, List.getElem?_set_self (by rw [big_length]; exact c3)]; rfl
  rw [List.getElem?_append_right (by rw [big_length]; omega)] at hb
  rw [List.set_append_right _ _ (by rw [big_length]; omega)]
  rw [big_length] at hb ⊢
  rw [List.append_nil] at hb ⊢
  obtain ⟨p, q, y, s1, s2, s3⟩ := split d (j - 4 - 4 - 4) b (by omega) (by rw [List.getD_eq_getElem?_getD]; exact hb)
  have hl2 : (d.set (j - 4 - 4 - 4) b).length = d.length := len4 _ _ _
  have := bad (big n) (big (sum20 n d : Int)) (d.set (j - 4 - 4 - 4) b) (big_length _) (big_length _) hl2 (by
    rw [hsf, s2]
    intro e3
    have e3 : more 0 (big n ++ big (d.length : Int) ++ (p ++ b :: q)) = sum20 n d := by omega
    unfold sum20 head20 at e3
    have e4 : more 0 (big n ++ big (d.length : Int) ++ (p ++ b :: q)) = more 0 (big n ++ big (d.length : Int) ++ (p ++ y :: q)) := e3.trans (congrArg (fun z => more 0 (big n ++ big (d.length : Int) ++ z)) s1)
    rw [← List.append_assoc, ← List.append_assoc (big n ++ big (d.length : Int)) p] at e4
    exact more_one 0 _ q (Ne.symm s3) e4)
  rw [List.append_nil] at this
  exact this
/-- Of numbers fewer than 2^31 apart the later one is newer, and never are both. -/
theorem newer_same (a : Int) : newer20 a a = false := by
  unfold newer20
  rw [Int.sub_self]; rfl
theorem newer_later {a b : Int} (h : ∃ m : Int, b % 4294967296 = (a + m) % 4294967296 ∧ 1 ≤ m ∧ m < 2147483648) : newer20 b a = true ∧ newer20 a b = false := by
  obtain ⟨m, e, h1, h2⟩ := h
  unfold newer20
  exact ⟨decide_eq_true (by omega), decide_eq_false (by omega)⟩
theorem newer_next (a : Int) : newer20 (next20 a) a = true := by
  unfold newer20 next20
  exact decide_eq_true (by omega)
end Go.Proofs.Ytbkfkbacejhpeaa
