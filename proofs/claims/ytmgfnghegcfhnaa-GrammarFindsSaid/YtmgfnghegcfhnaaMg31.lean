/- A slice of numbers that came in; numbers' bytes one behind the other; what the document's own Bigs returns for every slice of at most 2^40 numbers. -/
import Derived.Test.YtmgfnghegcfhnaaMg6
import Derived.Test.YtmgfnghegcfhnaaMg30
import Derived.Test.YtmgfnghegcfhnaaStPlain
namespace Go.Proofs.Ytmgfnghegcfhnaa
open Go.RowKit

def bigs (l : List Int) (k : Nat) : List UInt8 := (l.take k).flatMap big
theorem bigs_zero (l : List Int) : bigs l 0 = [] := rfl
theorem bigs_succ (l : List Int) (k : Nat) (h : k < l.length) : bigs l (k + 1) = bigs l k ++ big (l.getD k 0) := by
  unfold bigs
  rw [List.take_succ_eq_append_getElem h, List.flatMap_append]
  simp [List.getD, List.getElem?_eq_getElem h]
theorem big_length (n : Int) : (big n).length = 4 := rfl
theorem bigs_length (l : List Int) : ∀ k, k ≤ l.length → (bigs l k).length = 4 * k
  | 0, _ => rfl
  | k + 1, h => by rw [bigs_succ l k (by omega), List.length_append, bigs_length l k (by omega), big_length]; omega
theorem size_mk (l : List UInt8) : (ByteArray.mk l.toArray).size = l.length := by show l.toArray.size = _; simp

end Go.Proofs.Ytmgfnghegcfhnaa

/- Values of properties in plain words: texts with a byte 0 behind each, what bytes tell as texts and as numbers. No condition: nothing of the program stands in it. -/
namespace Go.Proofs.Ytmgfnghegcfhnaa

/-- A text's bytes ahead of its first byte 0. -/
def cutL (l : List UInt8) : List UInt8 := l.take (z0 l)
def cutS (s : ByteArray) : ByteArray := ⟨(cutL s.data.toList).toArray⟩
/-- Texts as bytes, each with a byte 0 behind it. -/
def txtB (L : List ByteArray) : List UInt8 := L.flatMap fun s => cutL s.data.toList ++ [0]
/-- The texts of bytes (fuel: how many bytes there are). -/
def splR : Nat → List UInt8 → List (List UInt8)
  | 0, _ => []
  | k + 1, l => if l = [] then [] else cutL l :: splR k (l.drop (z0 l + 1))
def okV (l : List UInt8) : Bool := decide (l ≠ [] ∧ l.getLast? = some 0)
/-- AsTexts: the texts, and whether it is a value of texts. -/
def asT (l : List UInt8) : List (List UInt8) := if okV l = true then splR l.length l else []
def baL (L : List (List UInt8)) : List ByteArray := L.map fun l => ⟨l.toArray⟩
/-- AsNumbers: the numbers, and whether it is a value of numbers. -/
def okN (n : Nat) : Bool := decide (n ≠ 0 ∧ n % 4 = 0)
def asN (l : List UInt8) : List Int := if okN l.length = true then numsB l (l.length / 4) else []

theorem cutL_len (l : List UInt8) : (cutL l).length = z0 l := by
  unfold cutL; rw [List.length_take]; exact Nat.min_eq_left (z0_le l)
theorem cutS_size (s : ByteArray) : (cutS s).size = z0 s.data.toList := by
  show (cutL s.data.toList).toArray.size = _
  rw [List.size_toArray, cutL_len]
theorem splR_nil (k : Nat) : splR k [] = [] := by cases k <;> rfl
/-- More fuel than bytes changes nothing. -/
theorem splR_fuel : ∀ (k j : Nat) (l : List UInt8), l.length ≤ k → l.length ≤ j → splR k l = splR j l
  | 0, j, l, h, _ => by
    obtain rfl : l = [] := List.length_eq_zero_iff.1 (by omega)
    rw [splR_nil, splR_nil]
  | k + 1, 0, l, _, h => by
    obtain rfl : l = [] := List.length_eq_zero_iff.1 (by omega)
    rw [splR_nil, splR_nil]
  | k + 1, j + 1, l, h1, h2 => by
    show (if l = [] then [] else _) = (if l = [] then [] else _)
    by_cases h : l = []
    · rw [if_pos h, if_pos h]
    · rw [if_neg h, if_neg h]
      have hl : 0 < l.length := List.length_pos_iff.2 h
      have := List.length_drop (i := z0 l + 1) (l := l)
      rw [splR_fuel k j (l.drop (z0 l + 1)) (by omega) (by omega)]
theorem splR_step {l : List UInt8} (h : l ≠ []) : splR l.length l = cutL l :: splR (l.drop (z0 l + 1)).length (l.drop (z0 l + 1)) := by
  obtain ⟨n, hn⟩ : ∃ n, l.length = n + 1 := ⟨l.length - 1, by have := List.length_pos_iff.2 h; omega⟩
  rw [hn]
  show (if l = [] then [] else _) = _
  rw [if_neg h]
  congr 1
  have := List.length_drop (i := z0 l + 1) (l := l)
  exact splR_fuel _ _ _ (by omega) (Nat.le_refl _)
/-- Behind a text's byte 0 the bytes end with a byte 0, too, or have ended. -/
theorem last_drop {l : List UInt8} (h0 : l.getLast? = some 0) : z0 l < l.length ∧ (l.drop (z0 l + 1) = [] ∨ (l.drop (z0 l + 1)).getLast? = some 0) := by
  have hm : (0 : UInt8) ∈ l := List.mem_of_getLast? h0
  refine ⟨(z0_mem l).1 hm, ?_⟩
  by_cases h : l.drop (z0 l + 1) = []
  · exact .inl h
  · right
    rw [← h0, List.getLast?_drop, if_neg]
    intro hl
    exact h (List.drop_eq_nil_of_le hl)
theorem okV_iff {l : List UInt8} : okV l = true ↔ l ≠ [] ∧ l.getLast? = some 0 := decide_eq_true_iff
theorem spl_len : ∀ (k : Nat) (l : List UInt8), (splR k l).length ≤ k
  | 0, _ => Nat.zero_le _
  | k + 1, l => by
    show (if l = [] then [] else _).length ≤ k + 1
    split
    · exact Nat.zero_le _
    · rw [List.length_cons]; have := spl_len k (l.drop (z0 l + 1)); omega
theorem drop_z (d r : List UInt8) : (d ++ 0 :: r).drop (d.length + 1) = r := by simp
theorem take_z (d r : List UInt8) : (d ++ 0 :: r).take d.length = d := by simp
/-- What texts tell, none of them with a byte 0, is read as it was. -/
theorem spl_txt : ∀ (L : List ByteArray), (∀ s ∈ L, (0 : UInt8) ∉ s.data.toList) → splR (txtB L).length (txtB L) = L.map fun s => s.data.toList
  | [], _ => rfl
  | s :: L, h => by
    have hs := h s List.mem_cons_self
    have hz : z0 s.data.toList = s.data.toList.length := z0_none _ fun j hj e => hs (by
      rw [List.getD_eq_getElem?_getD, List.getElem?_eq_getElem hj] at e
      rw [← show s.data.toList[j] = 0 from e]
      exact List.getElem_mem hj)
    have hc : cutL s.data.toList = s.data.toList := by unfold cutL; rw [hz, List.take_length]
    have e : txtB (s :: L) = s.data.toList ++ 0 :: txtB L := by
      show (cutL s.data.toList ++ [0]) ++ txtB L = _
      rw [hc, List.append_assoc]; rfl
    have hza : z0 (s.data.toList ++ 0 :: txtB L) = s.data.toList.length := z0_app _ _ hs
    rw [e, splR_step (by simp), hza]
    have hd : (s.data.toList ++ 0 :: txtB L).drop (s.data.toList.length + 1) = txtB L := drop_z _ _
    have hcl : cutL (s.data.toList ++ 0 :: txtB L) = s.data.toList := by unfold cutL; rw [hza]; exact take_z _ _
    rw [hd, hcl, spl_txt L fun x hx => h x (List.mem_cons_of_mem _ hx)]
    rfl
theorem txt_last (L : List ByteArray) (h : L ≠ []) : okV (txtB L) = true := by
  have e : txtB L = txtB L.dropLast ++ (cutL (L.getLast h).data.toList ++ [0]) := by
    have : L = L.dropLast ++ [L.getLast h] := (List.dropLast_concat_getLast h).symm
    unfold txtB
    conv => lhs; rw [this]
    rw [List.flatMap_append]; simp
  rw [okV_iff, e]
  refine ⟨by simp, ?_⟩
  rw [← List.append_assoc]
  simp
/-- What numbers tell is read as it was, but for what is above 32 bits. -/
theorem nums_bigs : ∀ (l : List Int), numsB (bigs l l.length) l.length = l.map (· % 4294967296) := by
  intro l
  induction l with
  | nil => rfl
  | cons x l ih =>
    have e : bigs (x :: l) (x :: l).length = big x ++ bigs l l.length := by simp [bigs]
    have hn : numsB (big x ++ bigs l l.length) (l.length + 1) = frombig (big x ++ bigs l l.length) :: numsB (bigs l l.length) l.length := by
      unfold numsB
      rw [List.range_succ_eq_map, List.map_cons, List.map_map]
      refine List.cons_eq_cons.2 ⟨rfl, List.map_congr_left fun k _ => ?_⟩
      show frombig ((big x ++ bigs l l.length).drop (4 * (k + 1))) = _
      have h4 : 4 * (k + 1) = 4 + 4 * k := by omega
      rw [h4, ← List.drop_drop, show (big x ++ bigs l l.length).drop 4 = bigs l l.length from rfl]
    rw [e, List.length_cons, hn, frombig_big, ih, List.map_cons]
end Go.Proofs.Ytmgfnghegcfhnaa
