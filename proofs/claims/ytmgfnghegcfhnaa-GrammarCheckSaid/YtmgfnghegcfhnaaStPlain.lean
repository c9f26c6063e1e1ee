/- Strings that are stored once, in plain words over lists of bytes: which are allowed, their bytes one behind the other, where each begins, the string at a place. No condition: nothing of the program stands in it. -/
import Derived.Lib.Bytealg
import Derived.Lib.Hide
namespace Go.Proofs.Ytmgfnghegcfhnaa

/-- How many bytes stand ahead of the first byte 0. -/
def z0 : List UInt8 → Nat
  | [] => 0
  | b :: r => if b = 0 then 0 else z0 r + 1
theorem z0_le : ∀ l : List UInt8, z0 l ≤ l.length
  | [] => Nat.le_refl _
  | b :: r => by
    unfold z0; split
    · exact Nat.zero_le _
    · simp only [List.length_cons]; have := z0_le r; omega
theorem z0_mem : ∀ l : List UInt8, 0 ∈ l ↔ z0 l < l.length
  | [] => by simp [z0]
  | b :: r => by
    unfold z0; split
    · rename_i h; subst h; simp
    · rename_i h
      have := z0_mem r
      simp only [List.mem_cons, List.length_cons]
      constructor
      · rintro (e | e)
        · exact absurd e.symm h
        · have := this.1 e; omega
      · intro e; exact .inr (this.2 (by omega))
theorem z0_not : ∀ (l : List UInt8) (k : Nat), k < z0 l → l.getD k 0 ≠ 0
  | [], k, h => by simp [z0] at h
  | b :: r, k, h => by
    unfold z0 at h; split at h
    · exact absurd h (by omega)
    · rename_i hb
      cases k with
      | zero => simpa using hb
      | succ k => simpa using z0_not r k (by omega)
theorem z0_at : ∀ (l : List UInt8), z0 l < l.length → l.getD (z0 l) 0 = 0
  | [], h => by simp [z0] at h
  | b :: r, h => by
    unfold z0 at h ⊢; split
    · rename_i hb; simpa using hb
    · rename_i hb
      rw [if_neg hb] at h
      simpa using z0_at r (by simp only [List.length_cons] at h; omega)
/-- The first place k at which there is a byte 0. -/
theorem z0_eq (l : List UInt8) (k : Nat) (hk : k < l.length) (h0 : l.getD k 0 = 0) (h : ∀ j, j < k → l.getD j 0 ≠ 0) : z0 l = k := by
  have hm : z0 l ≤ k := by
    apply Nat.le_of_not_lt
    intro hlt
    exact z0_not l k hlt h0
  rcases Nat.lt_or_ge (z0 l) k with h1 | h1
  · exact absurd (z0_at l (by omega)) (h _ h1)
  · omega
theorem z0_none (l : List UInt8) (h : ∀ j, j < l.length → l.getD j 0 ≠ 0) : z0 l = l.length := by
  rcases Nat.lt_or_ge (z0 l) l.length with h1 | h1
  · exact absurd (z0_at l h1) (h _ h1)
  · have := z0_le l; omega
theorem z0_app : ∀ (l r : List UInt8), 0 ∉ l → z0 (l ++ 0 :: r) = l.length
  | [], _, _ => by simp [z0]
  | b :: l, r, h => by
    have hb : b ≠ 0 := fun e => h (by simp [e])
    show z0 (b :: (l ++ 0 :: r)) = _
    rw [z0, if_neg hb, z0_app l r (fun e => h (by simp [e]))]
    rfl
theorem indexByte_z0 : ∀ l : List UInt8, Lib.indexByte l 0 = if z0 l < l.length then (z0 l : Int) else -1
  | [] => rfl
  | b :: r => by
    have ih := indexByte_z0 r
    unfold Lib.indexByte z0
    by_cases hb : b = 0
    · subst hb; simp
    · have hbe : (b == 0) = false := by simpa using hb
      simp only [hbe, if_neg hb, ih, List.length_cons]
      by_cases h : z0 r < r.length
      · simp only [if_pos h, if_pos (show z0 r + 1 < r.length + 1 by omega)]
        have : (((z0 r : Nat) : Int) == -1) = false := by simp
        simp [this]
      · simp only [if_neg h, if_neg (show ¬ z0 r + 1 < r.length + 1 by omega)]
        simp

/-- May a string be here? -/
def mayB (s : ByteArray) : Bool := decide (1 ≤ s.size ∧ s.size ≤ 31 ∧ (0 : UInt8) ∉ s.data.toList)
theorem mayB_iff {s : ByteArray} : mayB s = true ↔ 1 ≤ s.size ∧ s.size ≤ 31 ∧ (0 : UInt8) ∉ s.data.toList := by unfold mayB; exact decide_eq_true_iff
/-- All bytes. -/
def flat : List ByteArray → List UInt8
  | [] => []
  | x :: r => x.data.toList ++ 0 :: flat r
/-- Where a string begins. -/
def posn : List ByteArray → ByteArray → Nat
  | [], _ => 0
  | x :: r, s => if x = s then 0 else x.size + 1 + posn r s
theorem flat_app : ∀ L M : List ByteArray, flat (L ++ M) = flat L ++ flat M
  | [], _ => rfl
  | x :: L, M => by show x.data.toList ++ 0 :: flat (L ++ M) = _; rw [flat_app L M]; simp [flat]
theorem flat_one (s : ByteArray) : flat [s] = s.data.toList ++ [0] := rfl
theorem posn_new : ∀ (L : List ByteArray) (s : ByteArray), s ∉ L → posn L s = (flat L).length
  | [], _, _ => rfl
  | x :: L, s, h => by
    have hx : x ≠ s := fun e => h (by simp [e])
    rw [posn, if_neg hx, posn_new L s (fun e => h (by simp [e])), flat, List.length_append, List.length_cons]
    have : x.data.toList.length = x.size := rfl
    omega
theorem posn_app : ∀ (L M : List ByteArray) (s : ByteArray), s ∈ L → posn (L ++ M) s = posn L s
  | [], _, _, h => by cases h
  | x :: L, M, s, h => by
    show posn (x :: (L ++ M)) s = _
    rw [posn, posn]
    split
    · rfl
    · rename_i hx
      rw [posn_app L M s (by rcases List.mem_cons.1 h with e | e; exact absurd e.symm hx; exact e)]
theorem posn_snoc : ∀ (L : List ByteArray) (s : ByteArray), s ∉ L → posn (L ++ [s]) s = (flat L).length
  | [], _, _ => by simp [posn, flat]
  | x :: L, s, h => by
    have hx : x ≠ s := fun e => h (by simp [e])
    show posn (x :: (L ++ [s])) s = _
    rw [posn, if_neg hx, posn_snoc L s (fun e => h (by simp [e])), flat, List.length_append, List.length_cons]
    have : x.data.toList.length = x.size := rfl
    omega
theorem flat_drop : ∀ (L : List ByteArray) (s : ByteArray), s ∈ L → ∃ r, (flat L).drop (posn L s) = s.data.toList ++ 0 :: r
  | [], _, h => by cases h
  | x :: L, s, h => by
    rw [posn, flat]
    split
    · rename_i e; subst e; exact ⟨flat L, rfl⟩
    · rename_i hx
      obtain ⟨r, hr⟩ := flat_drop L s (by rcases List.mem_cons.1 h with e | e; exact absurd e.symm hx; exact e)
      refine ⟨r, ?_⟩
      rw [← hr, show x.size + 1 + posn L s = (x.data.toList ++ [0]).length + posn L s by simp, show x.data.toList ++ 0 :: flat L = (x.data.toList ++ [0]) ++ flat L by simp, List.drop_append]
      simp
/-- Is a string there? -/
def thereB (L : List ByteArray) (s : ByteArray) : Bool := L.any fun x => decide (x = s)
theorem thereB_iff {L : List ByteArray} {s : ByteArray} : thereB L s = true ↔ s ∈ L := by
  unfold thereB
  rw [List.any_eq_true]
  exact ⟨fun ⟨x, hx, h⟩ => (of_decide_eq_true h) ▸ hx, fun h => ⟨s, h, decide_eq_true rfl⟩⟩
theorem thereB_not {L : List ByteArray} {s : ByteArray} : thereB L s = false ↔ s ∉ L := by
  rw [← thereB_iff]; simp
/-- The strings that are there, behind one more; those that may not be here are refused. -/
def addS (L : List ByteArray) (s : ByteArray) : List ByteArray := if thereB L s = true then L else L ++ [s]
def addA (L : List ByteArray) (s : ByteArray) : List ByteArray := if mayB s = true then addS L s else L
/-- What Add returns. -/
def addV (L : List ByteArray) (s : ByteArray) : Nat × Nat := if mayB s = true then (posn L s, 0) else (0, 1)
/-- Each is allowed, and there once. -/
def okL (L : List ByteArray) : Prop := L.Nodup ∧ ∀ s ∈ L, mayB s = true
theorem okL_nil : okL [] := ⟨List.nodup_nil, fun _ h => by cases h⟩
theorem okL_add {L : List ByteArray} (h : okL L) (s : ByteArray) : okL (addA L s) := by
  unfold addA addS
  split
  · split
    · exact h
    · rename_i hm hs
      rw [thereB_iff] at hs
      refine ⟨List.nodup_append.2 ⟨h.1, by simp, fun a ha b hb => ?_⟩, fun x hx => ?_⟩
      · rw [List.mem_singleton.1 hb]; intro e; exact hs (e ▸ ha)
      · rcases List.mem_append.1 hx with e | e
        · exact h.2 x e
        · rw [List.mem_singleton.1 e]; exact hm
  · exact h
theorem addA_len (L : List ByteArray) (s : ByteArray) : (addA L s).length ≤ L.length + 1 := by
  unfold addA addS; split <;> (try split) <;> simp
theorem flat_le {L : List ByteArray} (h : okL L) : (flat L).length ≤ 32 * L.length := by
  have : ∀ M : List ByteArray, (∀ s ∈ M, mayB s = true) → (flat M).length ≤ 32 * M.length := by
    intro M
    induction M with
    | nil => intro _; exact Nat.le_refl _
    | cons x M ih =>
      intro hM
      have h1 := (mayB_iff.1 (hM x (by simp))).2.1
      have h2 := ih (fun s hs => hM s (by simp [hs]))
      rw [flat, List.length_append, List.length_cons, List.length_cons]
      have : x.data.toList.length = x.size := rfl
      omega
  exact this L h.2
theorem posn_le {L : List ByteArray} : ∀ s, posn L s ≤ (flat L).length := by
  induction L with
  | nil => intro _; exact Nat.le_refl _
  | cons x L ih =>
    intro s
    rw [posn, flat, List.length_append, List.length_cons]
    have : x.data.toList.length = x.size := rfl
    split
    · exact Nat.zero_le _
    · have := ih s; omega
/-- The string at a place of bytes. -/
def getR (s : List UInt8) (at_ : Int) : ByteArray × Nat :=
  if at_ < 0 ∨ (s.length : Int) ≤ at_ then (ByteArray.empty, 2)
  else if z0 (s.drop at_.toNat) < (s.drop at_.toNat).length then (⟨((s.drop at_.toNat).take (z0 (s.drop at_.toNat))).toArray⟩, 0) else (ByteArray.empty, 6)
theorem getR_there {L : List ByteArray} (h : okL L) {s : ByteArray} (hs : s ∈ L) : getR (flat L) (posn L s) = (s, 0) := by
  obtain ⟨r, hr⟩ := flat_drop L s hs
  have hm := (mayB_iff.1 (h.2 s hs)).2.2
  have hlen : posn L s < (flat L).length := by
    apply Nat.lt_of_not_le
    intro hle
    rw [List.drop_eq_nil_of_le hle] at hr
    simp at hr
  unfold getR
  rw [if_neg (by omega), Int.toNat_natCast, hr, z0_app _ _ hm, if_pos (by simp)]
  simp
theorem posn_inj {L : List ByteArray} (h : okL L) {s t : ByteArray} (hs : s ∈ L) (ht : t ∈ L) (e : posn L s = posn L t) : s = t := by
  have h1 := getR_there h hs
  rw [e, getR_there h ht] at h1
  exact (congrArg Prod.fst h1).symm
/-- Where the strings of a list begin, each added behind the other. -/
def plc : List ByteArray → List ByteArray → List Nat
  | _, [] => []
  | L, s :: r => posn L s :: plc (addA L s) r
def adds : List ByteArray → List ByteArray → List ByteArray := List.foldl addA
theorem adds_snoc (L l : List ByteArray) (s : ByteArray) : adds L (l ++ [s]) = addA (adds L l) s := by simp [adds, List.foldl_append]
theorem plc_snoc : ∀ (l L : List ByteArray) (s : ByteArray), plc L (l ++ [s]) = plc L l ++ [posn (adds L l) s]
  | [], _, _ => rfl
  | x :: l, L, s => by
    show posn L x :: plc (addA L x) (l ++ [s]) = _
    rw [plc_snoc l]; rfl
theorem plc_length : ∀ (l L : List ByteArray), (plc L l).length = l.length
  | [], _ => rfl
  | x :: l, L => by show (plc (addA L x) l).length + 1 = _; rw [plc_length l]; rfl
theorem okL_adds : ∀ (l : List ByteArray) {L : List ByteArray}, okL L → okL (adds L l)
  | [], _, h => h
  | x :: l, _, h => okL_adds l (okL_add h x)
theorem adds_len : ∀ (l L : List ByteArray), (adds L l).length ≤ L.length + l.length
  | [], _ => by simp [adds]
  | x :: l, L => by
    have h1 := adds_len l (addA L x)
    have h2 := addA_len L x
    show (adds (addA L x) l).length ≤ _
    simp only [List.length_cons]
    omega
theorem addA_grows (L : List ByteArray) (s : ByteArray) : ∃ M, addA L s = L ++ M := by
  unfold addA addS
  split
  · split
    · exact ⟨[], by simp⟩
    · exact ⟨[s], rfl⟩
  · exact ⟨[], by simp⟩
theorem adds_grows : ∀ (l L : List ByteArray), ∃ M, adds L l = L ++ M
  | [], L => ⟨[], by simp [adds]⟩
  | x :: l, L => by
    obtain ⟨M, hM⟩ := addA_grows L x
    obtain ⟨M', hM'⟩ := adds_grows l (addA L x)
    exact ⟨M ++ M', by show adds (addA L x) l = _; rw [hM', hM, List.append_assoc]⟩
theorem mem_addA {L : List ByteArray} {s : ByteArray} (h : mayB s = true) : s ∈ addA L s := by
  unfold addA addS
  rw [if_pos h]
  split
  · exact thereB_iff.1 ‹_›
  · simp
theorem posn_addA {L : List ByteArray} {s : ByteArray} (h : mayB s = true) : posn (addA L s) s = posn L s := by
  unfold addA addS
  rw [if_pos h]
  split
  · rfl
  · rename_i hn
    rw [thereB_iff] at hn
    rw [posn_snoc L s hn, posn_new L s hn]
theorem plc_at : ∀ (l L : List ByteArray), (∀ s ∈ l, mayB s = true) → ∀ k, k < l.length → l.getD k ByteArray.empty ∈ adds L l ∧ (plc L l).getD k 0 = posn (adds L l) (l.getD k ByteArray.empty)
  | [], _, _, k, hk => by simp at hk
  | x :: l, L, h, k, hk => by
    cases k with
    | zero =>
      obtain ⟨M, hM⟩ := adds_grows l (addA L x)
      have hx := h x (by simp)
      show x ∈ adds (addA L x) l ∧ posn L x = posn (adds (addA L x) l) x
      rw [hM]
      exact ⟨List.mem_append_left _ (mem_addA hx), by rw [posn_app _ _ _ (mem_addA hx), posn_addA hx]⟩
    | succ k => exact plc_at l (addA L x) (fun s hs => h s (by simp [hs])) k (by simpa using hk)
/-- Are all of a list allowed? -/
def allB (l : List ByteArray) : Bool := l.all mayB
theorem allB_iff {l : List ByteArray} : allB l = true ↔ ∀ s ∈ l, mayB s = true := by unfold allB; exact List.all_eq_true
theorem allB_at {l : List ByteArray} (k : Nat) (hk : k < l.length) (h : mayB (l.getD k ByteArray.empty) = false) : allB l = false := by
  cases e : allB l with
  | false => rfl
  | true =>
    have := allB_iff.1 e (l.getD k ByteArray.empty) (by rw [List.getD_eq_getElem?_getD, List.getElem?_eq_getElem hk]; exact List.getElem_mem _)
    rw [h] at this; cases this
theorem allB_all {l : List ByteArray} (h : ∀ k, k < l.length → mayB (l.getD k ByteArray.empty) = true) : allB l = true := by
  rw [allB_iff]
  intro s hs
  obtain ⟨k, hk, rfl⟩ := List.getElem_of_mem hs
  have := h k hk
  rwa [List.getD_eq_getElem?_getD, List.getElem?_eq_getElem hk] at this
theorem take_snoc' {l : List ByteArray} {k : Nat} (hk : k < l.length) {x : ByteArray} (hx : l.getD k ByteArray.empty = x) : l.take (k + 1) = l.take k ++ [x] := by
  rw [List.take_succ_eq_append_getElem hk, ← hx, List.getD_eq_getElem?_getD, List.getElem?_eq_getElem hk]; rfl
end Go.Proofs.Ytmgfnghegcfhnaa
