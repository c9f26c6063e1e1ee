/- A slice of numbers that came in; numbers' bytes one behind the other; what the document's own Bigs returns for every slice of at most 2^40 numbers. -/
import Derived.Test.YtfcclppgjfkfoaaGreatDoorMg1
import Derived.Test.YtfcclppgjfkfoaaGreatDoorMg0
namespace Go.Proofs.YtfcclppgjfkfoaaGreatDoor
open Go.RowKit

/-- The slice at A reads as the numbers l, in blocks below B. -/
def RdI (B : Nat) (w : World) (A : Option Addr) (l : List Int) : Prop :=
  l = [] ∨ ∃ b off, A = some ⟨b, off, none⟩ ∧ b < B ∧ ∀ k, k < l.length → w.cell? ⟨b, off + k, none⟩ = some (.int .i64 (l.getD k 0))
theorem RdI.at_ {B : Nat} {w : World} {A : Option Addr} {l : List Int} (h : RdI B w A l) {k : Nat} (hk : k < l.length) :
    ∃ b off x, A = some ⟨b, off, none⟩ ∧ b < B ∧ w.cell? ⟨b, off + k, none⟩ = some (.int .i64 x) ∧ Hid (l.getD k 0 = x) := by
  rcases h with rfl | ⟨b, off, rfl, hb, hc⟩
  · simp at hk
  · exact ⟨b, off, _, rfl, hb, hc k hk, rfl⟩
theorem RdI.below {B : Nat} {w w' : World} {A : Option Addr} {l : List Int} (h : RdI B w A l) (hb : Below B w w') : RdI B w' A l := by
  rcases h with h | ⟨b, off, rfl, hlt, hc⟩
  · exact .inl h
  · exact .inr ⟨b, off, rfl, hlt, fun k hk => (hb.cell (p := ⟨b, off + k, none⟩) hlt).trans (hc k hk)⟩
theorem RdI.mono {B B' : Nat} {w : World} {A : Option Addr} {l : List Int} (h : RdI B w A l) (hB : B ≤ B') : RdI B' w A l := by
  rcases h with h | ⟨b, off, rfl, hlt, hc⟩
  · exact .inl h
  · exact .inr ⟨b, off, rfl, by omega, hc⟩

def bigs (l : List Int) (k : Nat) : List UInt8 := (l.take k).flatMap big
theorem bigs_zero (l : List Int) : bigs l 0 = [] := rfl
theorem bigs_succ (l : List Int) (k : Nat) (h : k < l.length) : bigs l (k + 1) = bigs l k ++ big (l.getD k 0) := by
  unfold bigs
  rw [List.take_succ_eq_append_getElem h, List.flatMap_append]
  simp [List.getD, List.getElem?_eq_getElem h]
theorem big_length (n : Int) : (big n).length = 4 := rfl
theorem bigs_length (l : List Int) : ∀ k, k ≤ l.length → (bigs l k).length = 4 * k
  | 0, _ => rfl
  | k + 1, h => by rw [bigs_succ l k (by omega), List.length_append, bigs_length l k (by omega), big_length]; omega
theorem size_mk (l : List UInt8) : (ByteArray.mk l.toArray).size = l.length := by show l.toArray.size = _; simp

end Go.Proofs.YtfcclppgjfkfoaaGreatDoor

/- Values of properties in plain words: texts with a byte 0 behind each, what bytes tell as texts and as numbers. No condition: nothing of the program stands in it. -/
namespace Go.Proofs.YtfcclppgjfkfoaaGreatDoor

/-- A text's bytes ahead of its first byte 0. -/
def cutL (l : List UInt8) : List UInt8 := l.take (z0 l)
def cutS (s : ByteArray) : ByteArray := ⟨(cutL s.data.toList).toArray⟩
/-- Texts as bytes, each with a byte 0 behind it. -/
def txtB (L : List ByteArray) : List UInt8 := L.flatMap fun s => cutL s.data.toList ++ [0]
/-- The texts of bytes (fuel: how many bytes there are). -/
def splR : Nat → List UInt8 → List (List UInt8)
  | 0, _ => []
  | k + 1, l => if l = [] then [] else cutL l :: splR k (l.drop (z0 l + 1))
def okV (l : List UInt8) : Bool := decide (l ≠ [] ∧ l.getLast? = some 0)
/-- AsTexts: the texts, and whether it is a value of texts. -/
def asT (l : List UInt8) : List (List UInt8) := if okV l = true then splR l.length l else []
def baL (L : List (List UInt8)) : List ByteArray := L.map fun l => ⟨l.toArray⟩
/-- AsNumbers: the numbers, and whether it is a value of numbers. -/
def okN (n : Nat) : Bool := decide (n ≠ 0 ∧ n % 4 = 0)
def asN (l : List UInt8) : List Int := if okN l.length = true then numsB l (l.length / 4) else []

theorem cutL_len (l : List UInt8) : (cutL l).length = z0 l := by
  unfold cutL; rw [List.length_take]; exact Nat.min_eq_left (z0_le l)
theorem cutS_size (s : ByteArray) : (cutS s).size = z0 s.data.toList := by
  show (cutL s.data.toList).toArray.size = _
  rw [List.size_toArray, cutL_len]
theorem splR_nil (k : Nat) : splR k [] = [] := by cases k <;> rfl
/-- More fuel than bytes changes nothing. -/
theorem splR_fuel : ∀ (k j : Nat) (l : List UInt8), l.length ≤ k → l.length ≤ j → splR k l = splR j l
  | 0, j, l, h, _ => by
    obtain rfl : l = [] := List.length_eq_zero_iff.1 (by omega)
    rw [splR_nil, splR_nil]
  | k + 1, 0, l, _, h => by
    obtain rfl : l = [] := List.length_eq_zero_iff.1 (by omega)
    rw [splR_nil, splR_nil]
  | k + 1, j + 1, l, h1, h2 => by
    show (if l = [] then [] else _) = (if l = [] then [] else _)
    by_cases h : l = []
    · rw [if_pos h, if_pos h]
    · rw [if_neg h, if_neg h]
      have hl : 0 < l.length := List.length_pos_iff.2 h
      have := List.length_drop (i := z0 l + 1) (l := l)
      rw [splR_fuel k j (l.drop (z0 l + 1)) (by omega) (by omega)]
theorem splR_step {l : List UInt8} (h : l ≠ []) : splR l.length l = cutL l :: splR (l.drop (z0 l + 1)).length (l.drop (z0 l + 1)) := by
  obtain ⟨n, hn⟩ : ∃ n, l.length = n + 1 := ⟨l.length - 1, by have := List.length_pos_iff.2 h; omega⟩
  rw [hn]
  show (if l = [] then [] else _) = _
  rw [if_neg h]
  congr 1
  have := List.length_drop (i := z0 l + 1) (l := l)
  exact splR_fuel _ _ _ (by omega) (Nat.le_refl _)
/-- Behind a text's byte 0 the bytes end with a byte 0, too, or have ended. -/
theorem last_drop {l : List UInt8} (h0 : l.getLast? = some 0) : z0 l < l.length ∧ (l.drop (z0 l + 1) = [] ∨ (l.drop (z0 l + 1)).getLast? = some 0) := by
  have hm : (0 : UInt8) ∈ l := List.mem_of_getLast? h0
  refine ⟨(z0_mem l).1 hm, ?_⟩
  by_cases h : l.drop (z0 l + 1) = []
  · exact .inl h
  · right
    rw [← h0, List.getLast?_drop, if_neg]
    intro hl
    exact h (List.drop_eq_nil_of_le hl)
theorem okV_iff {l : List UInt8} : okV l = true ↔ l ≠ [] ∧ l.getLast? = some 0 := decide_eq_true_iff
theorem spl_len : ∀ (k : Nat) (l : List UInt8), (splR k l).length ≤ k
  | 0, _ => Nat.zero_le _
  | k + 1, l => by
    show (if l = [] then [] else _).length ≤ k + 1
    split
    · exact Nat.zero_le _
    · rw [List.length_cons]; have := spl_len k (l.drop (z0 l + 1)); omega
theorem drop_z (d r : List UInt8) : (d ++ 0 :: r).drop (d.length + 1) = r := by simp
theorem take_z (d r : List UInt8) : (d ++ 0 :: r).take d.length = d := by simp
/-- What texts tell, none of them with a byte 0, is read as it was. -/
theorem spl_txt : ∀ (L : List ByteArray), (∀ s ∈ L, (0 : UInt8) ∉ s.data.toList) → splR (txtB L).length (txtB L) = L.map fun s => s.data.toList
  | [], _ => rfl
  | s :: L, h => by
    have hs := h s List.mem_cons_self
    have hz : z0 s.data.toList = s.data.toList.length := z0_none _ fun j hj e => hs (by
      rw [List.getD_eq_getElem?_getD, List.getElem?_eq_getElem hj] at e
      rw [← show s.data.toList[j] = 0 from e]
      exact List.getElem_mem hj)
    have hc : cutL s.data.toList = s.data.toList := by unfold cutL; rw [hz, List.take_length]
    have e : txtB (s :: L) = s.data.toList ++ 0 :: txtB L := by
      show (cutL s.data.toList ++ [0]) ++ txtB L = _
      rw [hc, List.append_assoc]; rfl
    have hza : z0 (s.data.toList ++ 0 :: txtB L) = s.data.toList.length := z0_app _ _ hs
    rw [e, splR_step (by simp), hza]
    have hd : (s.data.toList ++ 0 :: txtB L).drop (s.data.toList.length + 1) = txtB L := drop_z _ _
    have hcl : cutL (s.data.toList ++ 0 :: txtB L) = s.data.toList := by unfold cutL; rw [hza]; exact take_z _ _
    rw [hd, hcl, spl_txt L fun x hx => h x (List.mem_cons_of_mem _ hx)]
    rfl
theorem txt_last (L : List ByteArray) (h : L ≠ []) : okV (txtB L) = true := by
  have e : txtB L = txtB L.dropLast ++ (cutL (L.getLast h).data.toList ++ [0]) := by
    have : L = L.dropLast ++ [L.getLast h] := (List.dropLast_concat_getLast h).symm
    unfold txtB
    conv => lhs; rw [this]
    rw [List.flatMap_append]; simp
  rw [okV_iff, e]
  refine ⟨by simp, ?_⟩
  rw [← List.append_assoc]
  simp
/-- What numbers tell is read as it was, but for what is above 32 bits. -/
theorem nums_bigs : ∀ (l : List Int), numsB (bigs l l.length) l.length = l.map (· % 4294967296) := by
  intro l
  induction l with
  | nil => rfl
  | cons x l ih =>
    have e : bigs (x :: l) (x :: l).length = big x ++ bigs l l.length := by simp [bigs]
    have hn : numsB (big x ++ bigs l l.length) (l.length + 1) = frombig (big x ++ bigs l l.length) :: numsB (bigs l l.length) l.length := by
      unfold numsB
      rw [List.range_succ_eq_map, List.map_cons, List.map_map]
      refine List.cons_eq_cons.2 ⟨rfl, List.map_congr_left fun k _ => ?_⟩
      show frombig ((big x ++ bigs l l.length).drop (4 * (k + 1))) = _
      have h4 : 4 * (k + 1) = 4 + 4 * k := by omega
      rw [h4, ← List.drop_drop, show (big x ++ bigs l l.length).drop 4 = bigs l l.length from rfl]
    rw [e, List.length_cons, hn, frombig_big, ih, List.map_cons]
end Go.Proofs.YtfcclppgjfkfoaaGreatDoor

/- Paths in trees, in plain words. No condition: nothing of the program stands in it. -/
namespace Go.Proofs.YtfcclppgjfkfoaaGreatDoor
open Go.RowKit

/-- The pieces between slashes. -/
def splitS : List UInt8 → List (List UInt8)
  | [] => [[]]
  | c :: r => if c = 47 then [] :: splitS r else (c :: (splitS r).headD []) :: (splitS r).tail
/-- Names that may stand in a path. -/
def nmOk (l : List (List UInt8)) : Bool := decide (l.length ≤ 7 ∧ ∀ x ∈ l, x ≠ [])
theorem nmOk_iff {l : List (List UInt8)} : nmOk l = true ↔ l.length ≤ 7 ∧ ∀ x ∈ l, x ≠ [] := decide_eq_true_iff
/-- A path's names, and whether it is a path. -/
def partsR (p : List UInt8) : List (List UInt8) × Bool :=
  if p = [47] then ([], true) else if p.head? = some 47 ∧ nmOk (splitS (p.drop 1)) = true then (splitS (p.drop 1), true) else ([], false)
theorem split_ne : ∀ l : List UInt8, splitS l ≠ []
  | [] => by unfold splitS; simp
  | c :: r => by unfold splitS; split <;> simp
theorem split_cons {l : List UInt8} : splitS l = (splitS l).headD [] :: (splitS l).tail := by
  cases h : splitS l with
  | nil => exact absurd h (split_ne l)
  | cons x r => rfl
theorem split_seg : ∀ (x r : List UInt8), (∀ c ∈ x, c ≠ 47) → splitS (x ++ 47 :: r) = x :: splitS r
  | [], r, _ => by show splitS (47 :: r) = _; rw [splitS, if_pos rfl]
  | c :: x, r, h => by
    show splitS (c :: (x ++ 47 :: r)) = _
    rw [splitS, if_neg (h c List.mem_cons_self), split_seg x r (fun d hd => h d (List.mem_cons_of_mem _ hd))]; rfl
theorem split_last : ∀ (x : List UInt8), (∀ c ∈ x, c ≠ 47) → splitS x = [x]
  | [], _ => rfl
  | c :: x, h => by
    rw [splitS, if_neg (h c List.mem_cons_self), split_last x (fun d hd => h d (List.mem_cons_of_mem _ hd))]; rfl
/-- How far the path is read: at i, from f on no slash, O the names ahead. -/
def PtInv (p : List UInt8) (i f : Nat) (O : List (List UInt8)) : Prop :=
  O.length ≤ 7 ∧ (∀ x ∈ O, x ≠ []) ∧ ((i ≤ p.length ∧ 1 ≤ f ∧ f ≤ i ∧ (∀ j, f ≤ j → j < i → p.getD j 0 ≠ 47) ∧ O ++ splitS (p.drop f) = splitS (p.drop 1)) ∨ (i = p.length + 1 ∧ O = splitS (p.drop 1)))
/-- What stands from f to i. -/
def segR (p : List UInt8) (f i : Nat) : List UInt8 := (p.drop f).take (i - f)
theorem seg_no {p : List UInt8} {f i : Nat} (h : ∀ j, f ≤ j → j < i → p.getD j 0 ≠ 47) : ∀ c ∈ segR p f i, c ≠ 47 := fun c hc => by
  obtain ⟨k, hk, rfl⟩ := List.getElem_of_mem hc
  unfold segR at hk ⊢
  rw [List.length_take, List.length_drop] at hk
  rw [List.getElem_take, List.getElem_drop]
  have := h (f + k) (by omega) (by omega)
  rwa [List.getD_eq_getElem?_getD, List.getElem?_eq_getElem (by omega)] at this
theorem seg_len {p : List UInt8} {f i : Nat} (hi : i ≤ p.length) : (segR p f i).length = i - f := by unfold segR; rw [List.length_take, List.length_drop]; omega
theorem drop_seg {p : List UInt8} {f i : Nat} (hf : f ≤ i) : p.drop f = segR p f i ++ p.drop i := by
  unfold segR
  have := (List.take_append_drop (i - f) (p.drop f)).symm
  rwa [List.drop_drop, show f + (i - f) = i by omega] at this
theorem inv_start {p : List UInt8} (h : 1 ≤ p.length) : PtInv p 1 1 [] := ⟨Nat.zero_le _, (fun x hx => absurd hx List.not_mem_nil), .inl ⟨h, Nat.le_refl _, Nat.le_refl _, (fun j h1 h2 => by omega), rfl⟩⟩
theorem inv_on {p : List UInt8} {i f : Nat} {O : List (List UInt8)} (h : PtInv p i f O) (hi : i < p.length) (hc : p.getD i 0 ≠ 47) : PtInv p (i + 1) f O := by
  obtain ⟨h1, h2, h3 | h3⟩ := h
  · refine ⟨h1, h2, .inl ⟨by omega, h3.2.1, by omega, fun j g1 g2 => ?_, h3.2.2.2.2⟩⟩
    by_cases e : j = i
    · rw [e]; exact hc
    · exact h3.2.2.2.1 j g1 (by omega)
  · omega
theorem split_at {p : List UInt8} {i f : Nat} (hi : i ≤ p.length) (hf : f ≤ i) (hn : ∀ j, f ≤ j → j < i → p.getD j 0 ≠ 47) (he : i = p.length ∨ p.getD i 0 = 47) :
    splitS (p.drop f) = segR p f i :: (if i = p.length then [] else splitS (p.drop (i + 1))) := by
  rw [drop_seg hf]
  by_cases e : i = p.length
  · rw [if_pos e, e, List.drop_length, List.append_nil, ← e]
    exact split_last _ (seg_no hn)
  · have hlt : i < p.length := by omega
    have hc := he.resolve_left e
    rw [List.getD_eq_getElem?_getD, List.getElem?_eq_getElem hlt] at hc
    rw [if_neg e, List.drop_eq_getElem_cons hlt, show p[i] = 47 from hc]
    exact split_seg _ _ (seg_no hn)
theorem inv_seg {p : List UInt8} {i f : Nat} {O : List (List UInt8)} (h : PtInv p i f O) (hi : i ≤ p.length) (he : i = p.length ∨ p.getD i 0 = 47) (hf : i ≠ f) (h7 : O.length ≠ 7) : PtInv p (i + 1) (i + 1) (O ++ [segR p f i]) := by
  obtain ⟨h1, h2, h3 | h3⟩ := h
  · obtain ⟨_, g1, g2, g3, g4⟩ := h3
    have hs := split_at hi g2 g3 he
    refine ⟨by rw [List.length_append]; simp only [List.length_cons, List.length_nil]; omega, fun x hx => ?_, ?_⟩
    · rcases List.mem_append.1 hx with hx | hx
      · exact h2 x hx
      · rw [List.mem_singleton] at hx
        subst hx
        intro e
        have := seg_len (p := p) (f := f) hi
        rw [e] at this
        simp only [List.length_nil] at this
        omega
    · by_cases e : i = p.length
      · right
        rw [if_pos e] at hs
        rw [hs] at g4
        exact ⟨by omega, g4⟩
      · left
        rw [if_neg e] at hs
        rw [hs] at g4
        exact ⟨by omega, by omega, Nat.le_refl _, (fun j k1 k2 => by omega), by rw [List.append_assoc]; exact g4⟩
  · omega
theorem inv_bad {p : List UInt8} {i f : Nat} {O : List (List UInt8)} (h : PtInv p i f O) (hi : i ≤ p.length) (he : i = p.length ∨ p.getD i 0 = 47) (hf : i = f ∨ O.length = 7) : nmOk (splitS (p.drop 1)) = false := by
  obtain ⟨h1, h2, h3 | h3⟩ := h
  · obtain ⟨_, g1, g2, g3, g4⟩ := h3
    have hs := split_at hi g2 g3 he
    cases e : nmOk (splitS (p.drop 1)) with
    | false => rfl
    | true =>
      obtain ⟨k1, k2⟩ := nmOk_iff.1 e
      rw [← g4, hs] at k1 k2
      rcases hf with hf | hf
      · have hl := seg_len (p := p) (f := f) hi
        have : segR p f i ≠ [] := k2 _ (by simp)
        rw [hf, Nat.sub_self] at hl
        rw [hf] at this
        exact absurd (List.length_eq_zero_iff.1 hl) this
      · rw [List.length_append, List.length_cons] at k1
        omega
  · omega
theorem inv_end {p : List UInt8} {f : Nat} {O : List (List UInt8)} (h : PtInv p (p.length + 1) f O) : splitS (p.drop 1) = O ∧ nmOk (splitS (p.drop 1)) = true := by
  obtain ⟨h1, h2, h3 | h3⟩ := h
  · omega
  · exact ⟨h3.2.symm, nmOk_iff.2 (by rw [← h3.2]; exact ⟨h1, h2⟩)⟩
theorem parts_root : partsR [47] = ([], true) := if_pos rfl
theorem parts_no {p : List UInt8} (h : p.head? ≠ some 47) : partsR p = ([], false) := by
  unfold partsR
  rw [if_neg (fun e => h (by rw [e]; rfl)), if_neg (fun e => h e.1)]
theorem parts_bad {p : List UInt8} (h0 : p ≠ [47]) (h : nmOk (splitS (p.drop 1)) = false) : partsR p = ([], false) := by
  unfold partsR
  rw [if_neg h0, if_neg (fun e => by rw [h] at e; exact absurd e.2 (by decide))]
theorem parts_yes {p : List UInt8} (h0 : p ≠ [47]) (h1 : p.head? = some 47) (h : nmOk (splitS (p.drop 1)) = true) : partsR p = (splitS (p.drop 1), true) := by
  unfold partsR
  rw [if_neg h0, if_pos ⟨h1, h⟩]
theorem parts_few (p : List UInt8) : (partsR p).1.length ≤ 7 := by
  unfold partsR
  split
  · exact Nat.zero_le _
  · split
    · rename_i h; exact (nmOk_iff.1 h.2).1
    · exact Nat.zero_le _

/-- The path of names. -/
def joinB (l : List ByteArray) : List UInt8 := if l = [] then [47] else l.flatMap fun x => 47 :: x.data.toList
/-- The first kid, the first value, of a name. -/
def kidR (n : ND) (nm : ByteArray) : Option ND := n.ks.find? fun x => decide (x.nm = nm)
def valR (n : ND) (nm : ByteArray) : Option ByteArray := (n.ps.find? fun x => decide (x.nm = nm)).map PR.vl
/-- The node that is reached name by name. -/
def followR : ND → List ByteArray → Option ND
  | n, [] => some n
  | n, x :: l => match kidR n x with
    | none => none
    | some k => followR k l
def findR (n : ND) (p : List UInt8) : Option ND := if (partsR p).2 = true then followR n (baL (partsR p).1) else none
/-- A node, if there is one. -/
def orN (x : Option ND) : ND := x.getD nd0
theorem find_take {α : Type} {f : α → Bool} {d : α} : ∀ {l : List α} {k : Nat}, k < l.length → (∀ j, j < k → f (l.getD j d) = false) → f (l.getD k d) = true → l.find? f = some (l.getD k d)
  | x :: r, 0, _, _, h => by
    have h : f x = true := h
    rw [List.find?_cons, h]; rfl
  | x :: r, k + 1, hk, hj, h => by
    have h0 : f x = false := hj 0 (Nat.succ_pos _)
    rw [List.find?_cons, h0]
    exact find_take (by simpa using hk) (fun j hj' => by have := hj (j + 1) (by omega); simpa using this) (by simpa using h)
theorem find_none {α : Type} {f : α → Bool} {d : α} : ∀ {l : List α}, (∀ j, j < l.length → f (l.getD j d) = false) → l.find? f = none
  | [], _ => rfl
  | x :: r, h => by
    have h0 : f x = false := h 0 (Nat.succ_pos _)
    rw [List.find?_cons, h0]
    exact find_none (fun j hj => by have := h (j + 1) (by simpa using hj); simpa using this)
end Go.Proofs.YtfcclppgjfkfoaaGreatDoor

/- Each node is found at its path, in plain words; a path that is put together of its names is it. No condition: nothing of the program stands in it. -/
namespace Go.Proofs.YtfcclppgjfkfoaaGreatDoor
open Go.RowKit

/-- A name that may stand in a path. -/
def okNm (x : List UInt8) : Prop := x ≠ [] ∧ ∀ c ∈ x, c ≠ 47
/-- The path of names. -/
def pathL (l : List (List UInt8)) : List UInt8 := if l = [] then [47] else l.flatMap (47 :: ·)
theorem path_nil : pathL [] = [47] := rfl
theorem path_ne {l : List (List UInt8)} (h : l ≠ []) : pathL l = l.flatMap (47 :: ·) := if_neg h
theorem split_join : ∀ {l : List (List UInt8)}, l ≠ [] → (∀ x ∈ l, okNm x) → splitS ((l.flatMap (47 :: ·)).drop 1) = l
  | [], h, _ => absurd rfl h
  | [x], _, h => by
    show splitS (x ++ []) = [x]
    rw [List.append_nil]
    exact split_last x (h x List.mem_cons_self).2
  | x :: y :: r, _, h => by
    have ih := split_join (l := y :: r) (by simp) (fun z hz => h z (List.mem_cons_of_mem _ hz))
    show splitS (x ++ 47 :: (((y :: r).flatMap (47 :: ·)).drop 1)) = _
    rw [split_seg x _ (h x List.mem_cons_self).2, ih]
theorem parts_path {l : List (List UInt8)} (h7 : l.length ≤ 7) (h : ∀ x ∈ l, okNm x) : partsR (pathL l) = (l, true) := by
  by_cases e : l = []
  · rw [e]; exact parts_root
  · have hs := split_join e h
    rw [path_ne e]
    have hok : nmOk (splitS ((l.flatMap (47 :: ·)).drop 1)) = true := by rw [hs]; exact nmOk_iff.2 ⟨h7, fun x hx => (h x hx).1⟩
    have h0 : l.flatMap (47 :: ·) ≠ [47] := fun e0 => by
      rw [e0] at hs
      have hs : [[]] = l := hs
      exact (h [] (by rw [← hs]; exact List.mem_cons_self)).1 rfl
    have h1 : (l.flatMap (47 :: ·)).head? = some 47 := by
      cases l with
      | nil => exact absurd rfl e
      | cons x r => rfl
    rw [parts_yes h0 h1 hok, hs]
theorem unsplit : ∀ q : List UInt8, (splitS q).flatMap (47 :: ·) = 47 :: q
  | [] => rfl
  | c :: r => by
    have ih := unsplit r
    rw [splitS]
    split
    · rename_i e
      rw [e]
      show 47 :: ((splitS r).flatMap (47 :: ·)) = _
      rw [ih]
    · rw [split_cons] at ih
      have ih : 47 :: ((splitS r).headD [] ++ ((splitS r).tail.flatMap (47 :: ·))) = 47 :: r := ih
      injection ih with _ ih
      show 47 :: c :: ((splitS r).headD [] ++ ((splitS r).tail.flatMap (47 :: ·))) = _
      rw [ih]
theorem join_parts {p : List UInt8} {l : List (List UInt8)} (h : partsR p = (l, true)) : pathL l = p := by
  unfold partsR at h
  split at h
  · rename_i e
    injection h with h _
    rw [← h, e]; rfl
  · split at h
    · rename_i e
      injection h with h _
      rw [← h, path_ne (split_ne _), unsplit]
      cases p with
      | nil => exact absurd e.1 (by simp)
      | cons c r =>
        have := e.1
        injection (show some c = some 47 from this) with this
        rw [this]; rfl
    · injection h with _ h
      exact absurd h (by decide)
theorem split_one : ∀ {x : List UInt8}, (splitS x).length = 1 → ∀ c ∈ x, c ≠ 47
  | [], _ => fun c hc => absurd hc List.not_mem_nil
  | d :: r, h => by
    rw [splitS] at h
    split at h
    · have := List.length_pos_iff.2 (split_ne r)
      rw [List.length_cons] at h
      omega
    · rename_i e
      rw [List.length_cons] at h
      have hr : (splitS r).length = 1 := by rw [split_cons, List.length_cons]; omega
      intro c hc
      rcases List.mem_cons.1 hc with rfl | hc
      · exact e
      · exact split_one hr c hc
theorem one_part {x : List UInt8} {L : List (List UInt8)} (h : partsR (47 :: x) = (L, true)) (h1 : L.length = 1) : okNm x := by
  unfold partsR at h
  split at h
  · injection h with h _
    rw [← h] at h1
    exact absurd h1 (by decide)
  · split at h
    · rename_i e0 e
      injection h with h _
      have h : splitS x = L := h
      rw [← h] at h1
      exact ⟨fun ex => e0 (by rw [ex]), split_one h1⟩
    · injection h with _ h
      exact absurd h (by decide)
theorem under_path {l : List (List UInt8)} {x : List UInt8} (h : ∀ y ∈ l, okNm y) : under (pathL l) ++ x = pathL (l ++ [x]) := by
  rw [path_ne (l := l ++ [x]) (by simp), List.flatMap_append]
  by_cases e : l = []
  · rw [e, show under (pathL []) = [47] by decide +kernel]; simp
  · have hl : (pathL l).getLast? ≠ some 47 := by
      rw [path_ne e]
      obtain ⟨i, y, rfl⟩ : ∃ i y, l = i ++ [y] := ⟨l.dropLast, l.getLast e, (List.dropLast_concat_getLast e).symm⟩
      have hy := h y (by simp)
      rw [List.flatMap_append]
      show (_ ++ (47 :: y ++ [])).getLast? ≠ _
      rw [List.append_nil, List.getLast?_append, List.getLast?_cons]
      obtain ⟨j, c, rfl⟩ : ∃ j c, y = j ++ [c] := ⟨y.dropLast, y.getLast hy.1, (List.dropLast_concat_getLast hy.1).symm⟩
      have := hy.2 c (by simp)
      simpa using this
    unfold under
    rw [if_neg hl, path_ne e]
    simp
theorem follow_snoc : ∀ (l : List ByteArray) (n k : ND) (x : ByteArray), followR n l = some k → followR n (l ++ [x]) = kidR k x
  | [], n, k, x, h => by
    injection (show some n = some k from h) with h
    rw [h]
    show (match kidR k x with
      | none => none
      | some k => some k) = _
    cases kidR k x <;> rfl
  | y :: l, n, k, x, h => by
    have h : (match kidR n y with
      | none => none
      | some k => followR k l) = some k := h
    show (match kidR n y with
      | none => none
      | some k => followR k (l ++ [x])) = _
    cases e : kidR n y with
    | none => rw [e] at h; exact absurd h (by simp)
    | some z =>
      rw [e] at h
      exact follow_snoc l z k x h
/-- A node whose kids may be told by their names. -/
def KidsOk (m : ND) : Prop := (∀ x ∈ m.ks, okNm x.nm.data.toList) ∧ ∀ i, i < m.ks.length → ∀ j, j < i → (m.ks.getD j nd0).nm ≠ (m.ks.getD i nd0).nm
theorem kid_own {m x : ND} (h : KidsOk m) (hx : x ∈ m.ks) : kidR m x.nm = some x := by
  obtain ⟨i, hi, rfl⟩ := List.getElem_of_mem hx
  have e : m.ks.getD i nd0 = m.ks[i] := by rw [List.getD_eq_getElem?_getD, List.getElem?_eq_getElem hi]; rfl
  have := find_take (f := fun y : ND => decide (y.nm = (m.ks[i]).nm)) (d := nd0) hi (fun j hj => decide_eq_false (by rw [← e]; exact h.2 i hi j hj)) (by rw [e]; exact decide_eq_true rfl)
  rw [e] at this
  exact this
theorem baL_snoc (l : List (List UInt8)) (x : ByteArray) : baL (l ++ [x.data.toList]) = baL l ++ [x] := by
  unfold baL
  rw [List.map_append]; rfl
theorem walk_found (n0 : ND) : ∀ (k : Nat) (l : List (List UInt8)) (n : ND), l.length + k ≤ 8 → (∀ x ∈ l, okNm x) → followR n0 (baL l) = some n → (∀ q m, (q, m) ∈ walkR k (pathL l) n → KidsOk m) → ∀ q m, (q, m) ∈ walkR k (pathL l) n → findR n0 q = some m
  | 0, _, _, _, _, _, _, q, m, h => absurd (show (q, m) ∈ ([] : List (List UInt8 × ND)) from h) List.not_mem_nil
  | k + 1, l, n, hk, hl, hf, H, q, m, h => by
    have e : walkR (k + 1) (pathL l) n = (pathL l, n) :: n.ks.flatMap fun x => walkR k (under (pathL l) ++ x.nm.data.toList) x := rfl
    rw [e] at h H
    rcases List.mem_cons.1 h with h | h
    · injection h with h1 h2
      rw [h1, h2]
      unfold findR
      rw [parts_path (by omega) hl]
      exact hf
    · obtain ⟨x, hx, h⟩ := List.mem_flatMap.1 h
      have hK := H _ _ List.mem_cons_self
      have hox := hK.1 x hx
      have hin : ∀ q m, (q, m) ∈ walkR k (pathL (l ++ [x.nm.data.toList])) x → KidsOk m := fun q m hq => H q m (List.mem_cons_of_mem _ (List.mem_flatMap.2 ⟨x, hx, by rw [under_path hl]; exact hq⟩))
      rw [under_path hl] at h
      refine walk_found n0 k (l ++ [x.nm.data.toList]) x (by rw [List.length_append]; simp only [List.length_cons, List.length_nil]; omega) (fun y hy => ?_) ?_ hin q m h
      · rcases List.mem_append.1 hy with hy | hy
        · exact hl y hy
        · rw [List.mem_singleton] at hy
          rw [hy]; exact hox
      · rw [baL_snoc, follow_snoc _ _ _ _ hf]
        exact kid_own hK hx
/-- Each node is found at its path. -/
theorem walk_finds {n : ND} (H : ∀ q m, (q, m) ∈ walkR 8 [47] n → KidsOk m) : ∀ q m, (q, m) ∈ walkR 8 [47] n → findR n q = some m :=
  walk_found n 8 [] n (Nat.le_refl _) (fun _ hx => absurd hx List.not_mem_nil) rfl H
theorem joinB_ba (l : List (List UInt8)) : joinB (baL l) = pathL l := by
  unfold joinB pathL
  by_cases e : l = []
  · rw [e]; rfl
  · have h : baL l ≠ [] := fun h => e (by unfold baL at h; simpa using h)
    rw [if_neg h, if_neg e]
    unfold baL
    rw [List.flatMap_map]
end Go.Proofs.YtfcclppgjfkfoaaGreatDoor
