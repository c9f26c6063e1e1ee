/- Tokens of a structure in plain words over lists of bytes: how they are read, how they are put, and that what is put is read as it was. No condition: nothing of the program stands in it. -/
import Derived.Test.YtmgfnghegcfhnaaStPlain
import Derived.Test.YtmgfnghegcfhnaaNumPlain
namespace Go.Proofs.Ytmgfnghegcfhnaa

/-- A token: its kind, its name, its value. -/
structure TK where
  kd : Int
  nm : ByteArray
  vl : ByteArray
def tk0 : TK := ⟨0, ByteArray.empty, ByteArray.empty⟩
/-- A token without what its kind has not. -/
def bare (x : TK) : TK := if x.kd = 1 then ⟨x.kd, x.nm, ByteArray.empty⟩ else if x.kd = 3 then x else ⟨x.kd, ByteArray.empty, ByteArray.empty⟩
def up4 (n : Nat) : Nat := (n + 3) / 4 * 4
theorem up4_ge (n : Nat) : n ≤ up4 n := by unfold up4; omega
theorem up4_lt (n : Nat) : up4 n < n + 4 := by unfold up4; omega
/-- Are all bytes 0? -/
def zerosB (l : List UInt8) : Bool := l.all fun b => decide (b = 0)
/-- May a node have this name? -/
def nodeB (s : ByteArray) : Bool := decide (s.size = 0) || mayB s
/-- A node's name, how many bytes it has, the error. -/
def beginR (l : List UInt8) : ByteArray × Nat × Nat :=
  if l.length ≤ z0 l ∨ l.length < up4 (z0 l + 1) then (ByteArray.empty, 0, 14)
  else if (nodeB ⟨(l.take (z0 l)).toArray⟩ && zerosB ((l.take (up4 (z0 l + 1))).drop (z0 l))) = true then (⟨(l.take (z0 l)).toArray⟩, up4 (z0 l + 1), 0) else (ByteArray.empty, 0, 6)
/-- How many bytes a property's value has. -/
def pSz (l : List UInt8) : Nat := (frombig l).toNat
/-- A property, how many bytes it has, the error. -/
def propR (l tx : List UInt8) : TK × Nat × Nat :=
  if l.length < 8 then (tk0, 0, 14)
  else if l.length < 8 + up4 (pSz l) then (tk0, 0, 14)
  else if (decide ((getR tx (frombig (l.drop 4))).2 = 0) && mayB (getR tx (frombig (l.drop 4))).1 && zerosB ((l.take (8 + up4 (pSz l))).drop (8 + pSz l))) = true then
    (⟨3, (getR tx (frombig (l.drop 4))).1, ⟨((l.take (8 + pSz l)).drop 8).toArray⟩⟩, 8 + up4 (pSz l), 0) else (tk0, 0, 6)
/-- What stands at the beginning: an error, the last token, or a token of so many bytes behind its kind. -/
inductive Stp where
  | err (e : Nat)
  | stop
  | tok (t : TK) (n : Nat)
def stepR (l tx : List UInt8) : Stp :=
  if l.length < 4 then .err 14
  else if frombig l = 1 then (if (beginR (l.drop 4)).2.2 = 0 then .tok ⟨1, (beginR (l.drop 4)).1, ByteArray.empty⟩ (beginR (l.drop 4)).2.1 else .err (beginR (l.drop 4)).2.2)
  else if frombig l = 3 then (if (propR (l.drop 4) tx).2.2 = 0 then .tok (propR (l.drop 4) tx).1 (propR (l.drop 4) tx).2.1 else .err (propR (l.drop 4) tx).2.2)
  else if frombig l = 2 ∨ frombig l = 4 then .tok ⟨frombig l, ByteArray.empty, ByteArray.empty⟩ 0
  else if frombig l = 9 then (if l.drop 4 = [] then .stop else .err 6)
  else .err 6
/-- The tokens, and the error. -/
def readR : Nat → List UInt8 → List UInt8 → List TK × Nat
  | 0, _, _ => ([], 7)
  | m + 1, l, tx => match stepR l tx with
    | .err e => ([], e)
    | .stop => ([], 0)
    | .tok t n => match readR m ((l.drop 4).drop n) tx with
      | (r, 0) => (t :: r, 0)
      | (_, e + 1) => ([], e + 1)
theorem readR_err {m : Nat} {l tx : List UInt8} {e : Nat} (h : stepR l tx = .err e) : readR (m + 1) l tx = ([], e) := by rw [readR, h]
theorem readR_stop {m : Nat} {l tx : List UInt8} (h : stepR l tx = .stop) : readR (m + 1) l tx = ([], 0) := by rw [readR, h]
/-- What has been read, and what is still to be read. -/
def joinR (O : List TK) (r : List TK × Nat) : List TK × Nat := if r.2 = 0 then (O ++ r.1, 0) else ([], r.2)
theorem joinR_nil (r : List TK × Nat) (h : r.2 ≠ 0 → r.1 = []) : joinR [] r = r := by
  unfold joinR
  split
  · rename_i e; rw [List.nil_append, ← e]
  · rename_i e; rw [← h e]
theorem readR_bad : ∀ (m : Nat) (l tx : List UInt8), (readR m l tx).2 ≠ 0 → (readR m l tx).1 = []
  | 0, _, _, _ => rfl
  | m + 1, l, tx, h => by
    rw [readR] at h ⊢
    split
    · rfl
    · rfl
    · rename_i t n hs
      rw [hs] at h
      simp only at h ⊢
      split
      · rename_i r hr; rw [hr] at h; exact absurd rfl h
      · rfl
theorem joinR_tok {m : Nat} {l tx : List UInt8} {t : TK} {n : Nat} (O : List TK) (h : stepR l tx = .tok t n) : joinR O (readR (m + 1) l tx) = joinR (O ++ [t]) (readR m ((l.drop 4).drop n) tx) := by
  rw [readR, h]
  simp only
  split
  · rename_i r hr
    rw [hr]; simp [joinR]
  · rename_i r e hr
    rw [hr]; simp [joinR]

/-- Bytes with as many 0 behind them as are needed. -/
def padL (l : List UInt8) : List UInt8 := l ++ List.replicate (up4 l.length - l.length) 0
theorem padL_length (l : List UInt8) : (padL l).length = up4 l.length := by
  unfold padL; rw [List.length_append, List.length_replicate]; have := up4_ge l.length; omega
/-- May a token be put? -/
def okT (x : TK) : Bool := if x.kd = 1 then nodeB x.nm else if x.kd = 3 then mayB x.nm else decide (x.kd = 2 ∨ x.kd = 4)
/-- A token's bytes. -/
def encT (p : Nat) (x : TK) : List UInt8 :=
  if x.kd = 1 then big 1 ++ padL (x.nm.data.toList ++ [0]) else if x.kd = 3 then big 3 ++ (big (x.vl.size : Int) ++ (big (p : Int) ++ padL x.vl.data.toList)) else big x.kd
/-- The strings behind a token. -/
def blkT (B : List ByteArray) (x : TK) : List ByteArray := if x.kd = 3 then addA B x.nm else B
def putS : List ByteArray → List TK → List UInt8
  | _, [] => []
  | B, x :: l => encT (posn B x.nm) x ++ putS (blkT B x) l
def putB : List ByteArray → List TK → List ByteArray := List.foldl blkT
theorem putS_snoc : ∀ (l : List TK) (B : List ByteArray) (x : TK), putS B (l ++ [x]) = putS B l ++ encT (posn (putB B l) x.nm) x
  | [], B, x => by show encT _ x ++ [] = [] ++ _; simp [putB]
  | y :: l, B, x => by
    show encT _ y ++ putS (blkT B y) (l ++ [x]) = (encT _ y ++ putS (blkT B y) l) ++ _
    rw [putS_snoc l, List.append_assoc]; rfl
theorem putB_snoc (B : List ByteArray) (l : List TK) (x : TK) : putB B (l ++ [x]) = blkT (putB B l) x := by simp [putB, List.foldl_append]
theorem okL_blk {B : List ByteArray} (h : okL B) (x : TK) : okL (blkT B x) := by
  unfold blkT; split
  · exact okL_add h _
  · exact h
theorem blk_len (B : List ByteArray) (x : TK) : (blkT B x).length ≤ B.length + 1 := by
  unfold blkT; split
  · exact addA_len _ _
  · omega
theorem okL_putB : ∀ (l : List TK) {B : List ByteArray}, okL B → okL (putB B l)
  | [], _, h => h
  | x :: l, _, h => okL_putB l (okL_blk h x)
theorem putB_len : ∀ (l : List TK) (B : List ByteArray), (putB B l).length ≤ B.length + l.length
  | [], _ => Nat.le_refl _
  | x :: l, B => by
    have h1 := putB_len l (blkT B x)
    have h2 := blk_len B x
    show (putB (blkT B x) l).length ≤ _
    simp only [List.length_cons]; omega
theorem putB_grows : ∀ (l : List TK) (B : List ByteArray), ∃ M, putB B l = B ++ M
  | [], B => ⟨[], by simp [putB]⟩
  | x :: l, B => by
    obtain ⟨M, hM⟩ := putB_grows l (blkT B x)
    have : ∃ M', blkT B x = B ++ M' := by
      unfold blkT; split
      · exact addA_grows _ _
      · exact ⟨[], by simp⟩
    obtain ⟨M', hM'⟩ := this
    exact ⟨M' ++ M, by show putB (blkT B x) l = _; rw [hM, hM', List.append_assoc]⟩
/-- What Put returns: the structure, the strings, the error. -/
def putR (l : List TK) : ByteArray × ByteArray × Nat :=
  if 1024 ≤ l.length then (ByteArray.empty, ByteArray.empty, 7)
  else if l.all okT = true then (⟨(putS [] l ++ big 9).toArray⟩, ⟨(flat (putB [] l)).toArray⟩, 0) else (ByteArray.empty, ByteArray.empty, 1)
/-- The tokens that say something. -/
def plainR (l : List TK) : List TK := l.filter fun x => decide (x.kd ≠ 4)

theorem big_len (n : Int) : (big n).length = 4 := rfl
theorem drop_big (n : Int) (r : List UInt8) : (big n ++ r).drop 4 = r := rfl
theorem frombig_small {n : Int} (h0 : 0 ≤ n) (h1 : n < 4294967296) (r : List UInt8) : frombig (big n ++ r) = n := by rw [frombig_big]; omega
theorem zerosB_rep (n : Nat) : zerosB (List.replicate n 0) = true := by unfold zerosB; simp
theorem z0_zero (l : List UInt8) : z0 (0 :: l) = 0 := rfl
theorem ba_of (s : ByteArray) : (⟨s.data.toList.toArray⟩ : ByteArray) = s := by cases s; simp
theorem beginR_enc (s : ByteArray) (hn : nodeB s = true) (R : List UInt8) : beginR (padL (s.data.toList ++ [0]) ++ R) = (s, (padL (s.data.toList ++ [0])).length, 0) := by
  have h0 : (0 : UInt8) ∉ s.data.toList := by
    unfold nodeB at hn
    rcases Bool.or_eq_true_iff.1 hn with h | h
    · have : s.data.toList = [] := List.eq_nil_of_length_eq_zero (of_decide_eq_true h)
      rw [this]; simp
    · exact (mayB_iff.1 h).2.2
  have e : padL (s.data.toList ++ [0]) ++ R = s.data.toList ++ 0 :: (List.replicate (up4 (s.data.toList ++ [0]).length - (s.data.toList ++ [0]).length) 0 ++ R) := by
    unfold padL; simp
  have hz : z0 (padL (s.data.toList ++ [0]) ++ R) = s.data.toList.length := by rw [e, z0_app _ _ h0]
  have hl : (padL (s.data.toList ++ [0])).length = up4 (s.data.toList.length + 1) := by rw [padL_length, List.length_append]; rfl
  have hge := up4_ge (s.data.toList.length + 1)
  unfold beginR
  rw [hz, ← hl, List.length_append, if_neg (by omega)]
  have ht : (padL (s.data.toList ++ [0]) ++ R).take s.data.toList.length = s.data.toList := by rw [e, List.take_left]
  have hd : ((padL (s.data.toList ++ [0]) ++ R).take (padL (s.data.toList ++ [0])).length).drop s.data.toList.length = 0 :: List.replicate (up4 (s.data.toList ++ [0]).length - (s.data.toList ++ [0]).length) 0 := by
    rw [List.take_left]; unfold padL; rw [List.append_assoc, List.drop_left]; rfl
  rw [ht, hd, ba_of, hn]
  have : zerosB (0 :: List.replicate (up4 (s.data.toList ++ [0]).length - (s.data.toList ++ [0]).length) 0) = true := zerosB_rep (_ + 1)
  rw [this]; rfl
theorem propR_enc (x : ByteArray) (p : Nat) (nm : ByteArray) (tx R : List UInt8) (hx : x.size < 4294967296) (hp : p < 4294967296) (hg : getR tx p = (nm, 0)) (hm : mayB nm = true) :
    propR (big (x.size : Int) ++ (big (p : Int) ++ padL x.data.toList) ++ R) tx = (⟨3, nm, x⟩, 8 + (padL x.data.toList).length, 0) := by
  have hl : x.data.toList.length = x.size := rfl
  have hpl := padL_length x.data.toList
  rw [hl] at hpl
  have e : big (x.size : Int) ++ (big (p : Int) ++ padL x.data.toList) ++ R = big (x.size : Int) ++ (big (p : Int) ++ (padL x.data.toList ++ R)) := by simp
  have hs : pSz (big (x.size : Int) ++ (big (p : Int) ++ (padL x.data.toList ++ R))) = x.size := by
    unfold pSz; rw [frombig_small (by omega) (by omega)]; omega
  have hge := up4_ge x.size
  have hd8 : ∀ n, ((big (x.size : Int) ++ (big (p : Int) ++ (padL x.data.toList ++ R))).take (8 + n)).drop 8 = (padL x.data.toList ++ R).take n := fun n => by
    rw [List.drop_take, show 8 + n - 8 = n by omega]; rfl
  have hlen : (big (x.size : Int) ++ (big (p : Int) ++ (padL x.data.toList ++ R))).length = 8 + up4 x.size + R.length := by
    rw [List.length_append, List.length_append, List.length_append, big_len, big_len, hpl]; omega
  rw [e]
  unfold propR
  rw [hs, hlen, if_neg (by omega), if_neg (by omega), drop_big, frombig_small (by omega) (by omega), hg]
  have hz : zerosB (((big (x.size : Int) ++ (big (p : Int) ++ (padL x.data.toList ++ R))).take (8 + up4 x.size)).drop (8 + x.size)) = true := by
    rw [← List.drop_drop, hd8, ← hpl, List.take_left]
    unfold padL
    rw [show x.size = x.data.toList.length from rfl, List.drop_left]
    exact zerosB_rep _
  rw [hz, hm, hd8]
  have ht : (padL x.data.toList ++ R).take x.size = x.data.toList := by
    unfold padL; rw [List.append_assoc, show x.size = x.data.toList.length from rfl, List.take_left]
  rw [ht, ba_of, hpl]
  rfl
/-- A token that is put is read as it was. -/
theorem stepR_enc (x : TK) (p : Nat) (tx R : List UInt8) (hok : okT x = true) (hx : x.vl.size < 4294967296) (hp : p < 4294967296) (hg : x.kd = 3 → getR tx p = (x.nm, 0)) :
    ∃ n, stepR (encT p x ++ R) tx = .tok (bare x) n ∧ ((encT p x ++ R).drop 4).drop n = R := by
  unfold okT at hok
  unfold encT bare
  by_cases h1 : x.kd = 1
  · rw [if_pos h1] at hok
    rw [if_pos h1, if_pos h1]
    refine ⟨(padL (x.nm.data.toList ++ [0])).length, ?_, ?_⟩
    · unfold stepR
      rw [List.append_assoc, if_neg (by rw [List.length_append, big_len]; omega), frombig_small (by omega) (by omega), if_pos rfl, drop_big, beginR_enc _ hok]
      rw [if_pos rfl, h1]
    · rw [List.append_assoc, drop_big, List.drop_left]
  · rw [if_neg h1] at hok
    rw [if_neg h1, if_neg h1]
    by_cases h3 : x.kd = 3
    · rw [if_pos h3] at hok
      rw [if_pos h3, if_pos h3]
      have hpr := propR_enc x.vl p x.nm tx R hx hp (hg h3) hok
      refine ⟨8 + (padL x.vl.data.toList).length, ?_, ?_⟩
      · unfold stepR
        rw [List.append_assoc, if_neg (by rw [List.length_append, big_len]; omega), frombig_small (by omega) (by omega), if_neg (by omega), if_pos rfl, drop_big, hpr]
        rw [if_pos rfl]
        cases x; simp only at h3; subst h3; rfl
      · rw [List.append_assoc, drop_big, ← List.drop_drop]
        show (padL x.vl.data.toList ++ R).drop _ = R
        rw [List.drop_left]
    · rw [if_neg h3] at hok
      rw [if_neg h3, if_neg h3]
      have h24 : x.kd = 2 ∨ x.kd = 4 := of_decide_eq_true hok
      refine ⟨0, ?_, rfl⟩
      unfold stepR
      rw [if_neg (by rw [List.length_append, big_len]; omega), frombig_small (by omega) (by omega), if_neg h1, if_neg h3, if_pos h24]
theorem stepR_stop (tx : List UInt8) : stepR (big 9) tx = .stop := by
  have h := frombig_small (n := 9) (by omega) (by omega) []
  rw [List.append_nil] at h
  unfold stepR
  rw [h, if_neg (by rw [big_len]; omega), if_neg (by omega), if_neg (by omega), if_neg (by omega), if_pos rfl]
  exact if_pos rfl
/-- What is put is read as it was. -/
theorem readR_put : ∀ (l : List TK) (B : List ByteArray) (m : Nat), l.length < m → okL (putB B l) → (flat (putB B l)).length < 4294967296 → (∀ x ∈ l, okT x = true ∧ x.vl.size < 4294967296) →
    readR m (putS B l ++ big 9) (flat (putB B l)) = (l.map bare, 0)
  | [], B, m, hm, _, _, _ => by
    obtain ⟨k, rfl⟩ : ∃ k, m = k + 1 := ⟨m - 1, by simp at hm; omega⟩
    exact readR_stop (stepR_stop _)
  | x :: l, B, m, hm, hB, hf, hl => by
    obtain ⟨k, rfl⟩ : ∃ k, m = k + 1 := ⟨m - 1, by simp at hm; omega⟩
    obtain ⟨hok, hx⟩ := hl x (by simp)
    have hg : x.kd = 3 → getR (flat (putB B (x :: l))) (posn B x.nm) = (x.nm, 0) := by
      intro h3
      have hmay : mayB x.nm = true := by
        unfold okT at hok; rw [if_neg (by omega), if_pos h3] at hok; exact hok
      obtain ⟨M, hM⟩ := putB_grows l (blkT B x)
      have hin : x.nm ∈ blkT B x := by unfold blkT; rw [if_pos h3]; exact mem_addA hmay
      have hpos : posn (putB B (x :: l)) x.nm = posn B x.nm := by
        show posn (putB (blkT B x) l) x.nm = _
        rw [hM, posn_app _ _ _ hin]
        unfold blkT; rw [if_pos h3, posn_addA hmay]
      rw [← hpos]
      exact getR_there hB (by show x.nm ∈ putB (blkT B x) l; rw [hM]; exact List.mem_append_left _ hin)
    have hp : x.kd = 3 → posn B x.nm < 4294967296 := by
      intro h3
      have h := hg h3
      unfold getR at h
      split at h
      · simp at h
      · rename_i hh; omega
    have ih := readR_put l (blkT B x) k (by simp at hm; omega) hB hf (fun y hy => hl y (by simp [hy]))
    obtain ⟨n, hs, hd⟩ : ∃ n, stepR (putS B (x :: l) ++ big 9) (flat (putB B (x :: l))) = .tok (bare x) n ∧ ((putS B (x :: l) ++ big 9).drop 4).drop n = putS (blkT B x) l ++ big 9 := by
      by_cases h3 : x.kd = 3
      · have := stepR_enc x (posn B x.nm) (flat (putB B (x :: l))) (putS (blkT B x) l ++ big 9) hok hx (hp h3) hg
        rw [← List.append_assoc] at this; exact this
      · have e : encT (posn B x.nm) x = encT 0 x := by unfold encT; rw [if_neg h3, if_neg h3]
        have := stepR_enc x 0 (flat (putB B (x :: l))) (putS (blkT B x) l ++ big 9) hok hx (by omega) (fun h => absurd h h3)
        rw [← e, ← List.append_assoc] at this; exact this
    rw [readR, hs]
    simp only
    rw [hd]
    have ih' : readR k (putS (blkT B x) l ++ big 9) (flat (putB B (x :: l))) = (l.map bare, 0) := ih
    rw [ih']
    rfl
end Go.Proofs.Ytmgfnghegcfhnaa
