/- The bytes that a tree becomes, in plain words, and that they are read as it was. No condition: nothing of the program stands in it. -/
import Derived.Test.YtfcclppgjfkfoaaGreatDoorMg17
import Derived.Test.YtfcclppgjfkfoaaGreatDoorMg19
import Derived.Test.YtfcclppgjfkfoaaGreatDoorChecked
import Derived.Test.YtfcclppgjfkfoaaGreatDoorMg1
import Derived.Test.YtfcclppgjfkfoaaGreatDoorMg3
import Derived.Deep.QuietTactic
namespace Go.Proofs.YtfcclppgjfkfoaaGreatDoor
open Go.RowKit

/-- May a span be reserved? -/
def okSp (x : SP) : Bool := decide (0 ≤ x.p ∧ x.p ≤ 4294967295 ∧ 0 ≤ x.n ∧ x.n ≤ 4294967295 ∧ ¬ (x.p = 0 ∧ x.n = 0))
theorem okSp_iff {x : SP} : okSp x = true ↔ 0 ≤ x.p ∧ x.p ≤ 4294967295 ∧ 0 ≤ x.n ∧ x.n ≤ 4294967295 ∧ ¬ (x.p = 0 ∧ x.n = 0) := decide_eq_true_iff
/-- The bytes of spans. -/
def spB : List SP → List UInt8
  | [] => []
  | x :: l => bigs [0, x.p, 0, x.n] 4 ++ spB l
def endB : List UInt8 := bigs [0, 0, 0, 0] 4
def resP (l : List SP) : List UInt8 × Nat := if 16 < l.length then ([], 7) else if l.all okSp = true then (spB l ++ endB, 0) else ([], 1)
theorem four_len (a b c d : Int) : (bigs [a, b, c, d] 4).length = 16 := rfl
theorem four_at (a b c d : Int) (r : List UInt8) : numAt (bigs [a, b, c, d] 4 ++ r) 0 = a % 4294967296 ∧ numAt (bigs [a, b, c, d] 4 ++ r) 1 = b % 4294967296 ∧ numAt (bigs [a, b, c, d] 4 ++ r) 2 = c % 4294967296 ∧ numAt (bigs [a, b, c, d] 4 ++ r) 3 = d % 4294967296 :=
  ⟨numAt_bigs [a, b, c, d] r 0 (by simp), numAt_bigs [a, b, c, d] r 1 (by simp), numAt_bigs [a, b, c, d] r 2 (by simp), numAt_bigs [a, b, c, d] r 3 (by simp)⟩
theorem spB_len : ∀ l : List SP, (spB l).length = l.length * 16
  | [] => rfl
  | x :: l => by rw [spB, List.length_append, four_len, spB_len l, List.length_cons]; omega
/-- Spans that are told are read as they were. -/
theorem resvR_put : ∀ (l : List SP) (k : Nat) (r : List UInt8), l.length ≤ k → l.all okSp = true → resvR k (spB l ++ (endB ++ r)) = (l, 0)
  | [], k, r, _, _ => by
    obtain ⟨h0, h1, h2, h3⟩ := four_at 0 0 0 0 r
    have hl : ¬ (spB [] ++ (endB ++ r)).length < 16 := by
      show ¬ (endB ++ r).length < 16
      rw [List.length_append, show endB.length = 16 from rfl]; omega
    refine resvR_end k hl ?_ ⟨h1, h3⟩
    rintro (h | h)
    · exact h h0
    · exact h h2
  | x :: l, 0, r, h, _ => by simp at h
  | x :: l, k + 1, r, h, ha => by
    rw [List.all_cons, Bool.and_eq_true] at ha
    obtain ⟨o1, o2, o3, o4, o5⟩ := okSp_iff.1 ha.1
    have e : spB (x :: l) ++ (endB ++ r) = bigs [0, x.p, 0, x.n] 4 ++ (spB l ++ (endB ++ r)) := by rw [spB, List.append_assoc]
    rw [e]
    obtain ⟨h0, h1, h2, h3⟩ := four_at 0 x.p 0 x.n (spB l ++ (endB ++ r))
    have e1 : x.p % 4294967296 = x.p := by omega
    have e3 : x.n % 4294967296 = x.n := by omega
    rw [e1] at h1
    rw [e3] at h3
    have hl : ¬ (bigs [0, x.p, 0, x.n] 4 ++ (spB l ++ (endB ++ r))).length < 16 := by rw [List.length_append, four_len]; omega
    rw [resvR_next hl (by rw [h0, h2]; simp) (by rw [h1, h3]; exact o5), h1, h3, List.drop_left' (four_len _ _ _ _), resvR_put l k r (by simpa using h) ha.2]
    rfl

/-- The header of a tree's bytes. -/
def headE (r a b : Nat) (bo : Int) : HD := ⟨(up4 (40 + r + a + b) : Nat), (40 + r : Nat), (40 + r + a : Nat), 40, bo, (b : Nat), (a : Nat)⟩
/-- The bytes of a tree. -/
def encR (T : DT) : List UInt8 × Nat :=
  if 8 < (countR 9 T.rt).c then ([], 13)
  else if fitsR T.rt = false then ([], 7)
  else if (resP T.rs).2 ≠ 0 then ([], (resP T.rs).2)
  else if (putR (tokR 8 T.rt)).2.2 ≠ 0 then ([], (putR (tokR 8 T.rt)).2.2)
  else if 16384 < up4 (40 + (resP T.rs).1.length + (putR (tokR 8 T.rt)).1.size + (putR (tokR 8 T.rt)).2.1.size) then ([], 7)
  else if (putH (headE (resP T.rs).1.length (putR (tokR 8 T.rt)).1.size (putR (tokR 8 T.rt)).2.1.size T.bo)).2 ≠ 0 then ([], (putH (headE (resP T.rs).1.length (putR (tokR 8 T.rt)).1.size (putR (tokR 8 T.rt)).2.1.size T.bo)).2)
  else ((putH (headE (resP T.rs).1.length (putR (tokR 8 T.rt)).1.size (putR (tokR 8 T.rt)).2.1.size T.bo)).1 ++ ((resP T.rs).1 ++ ((putR (tokR 8 T.rt)).1.data.toList ++ ((putR (tokR 8 T.rt)).2.1.data.toList ++
    List.replicate (up4 (40 + (resP T.rs).1.length + (putR (tokR 8 T.rt)).1.size + (putR (tokR 8 T.rt)).2.1.size) - (40 + (resP T.rs).1.length + (putR (tokR 8 T.rt)).1.size + (putR (tokR 8 T.rt)).2.1.size)) 0))), 0)
theorem resP_ok {l : List SP} (h : (resP l).2 = 0) : l.length ≤ 16 ∧ l.all okSp = true ∧ (resP l).1 = spB l ++ endB := by
  unfold resP at h ⊢
  split at h
  · cases h
  · rename_i h1
    split at h
    · rename_i h2
      rw [if_neg h1, if_pos h2]
      exact ⟨by omega, h2, rfl⟩
    · cases h
theorem tok_bare : ∀ (k : Nat) (n : ND) (x : TK), x ∈ tokR k n → bare x = x
  | 0, _, _, h => by cases h
  | k + 1, n, x, h => by
    rw [tokR] at h
    rcases List.mem_append.1 h with h | h
    · rcases List.mem_append.1 h with h | h
      · rcases List.mem_cons.1 h with rfl | h
        · rfl
        · obtain ⟨p, _, rfl⟩ := List.mem_map.1 h
          rfl
      · obtain ⟨m, _, hm⟩ := List.mem_flatMap.1 h
        exact tok_bare k m x hm
    · rw [List.mem_singleton.1 h]; rfl
theorem map_bare_tok (k : Nat) (n : ND) : (tokR k n).map bare = tokR k n := by
  have : ∀ q : List TK, (∀ x ∈ q, bare x = x) → q.map bare = q := by
    intro q
    induction q with
    | nil => intro _; rfl
    | cons x q ih => intro hq; rw [List.map_cons, hq x (by simp), ih (fun y hy => hq y (by simp [hy]))]
  exact this _ (tok_bare k n)
theorem part_mid (x a y : List UInt8) (p n : Nat) (hp : p = x.length) (hn : n = a.length) : partB (x ++ (a ++ y)) (p : Int) (n : Int) = a := by
  subst hp hn
  unfold partB partR
  rw [if_neg (by rw [size_mk]; simp only [List.length_append]; omega)]
  show (ByteArray.extract _ _ _).data.toList = a
  rw [ByteArray.data_extract, Array.toList_extract, List.extract_eq_take_drop]
  have e1 : ((x.length : Nat) : Int).toNat = x.length := Int.toNat_natCast _
  have e2 : (((x.length : Nat) : Int) + ((a.length : Nat) : Int)).toNat = x.length + a.length := by omega
  rw [e1, e2, Nat.add_sub_cancel_left]
  show ((x ++ (a ++ y)).drop x.length).take a.length = a
  rw [List.drop_left, List.take_left]
/-- What the bytes of a tree are. -/
theorem encR_ok {T : DT} {s : List UInt8} (h : encR T = (s, 0)) : fitsR T.rt = true ∧ (resP T.rs).2 = 0 ∧ (putR (tokR 8 T.rt)).2.2 = 0 ∧
    ∃ (P A B : List UInt8) (z : Nat), A = (putR (tokR 8 T.rt)).1.data.toList ∧ B = (putR (tokR 8 T.rt)).2.1.data.toList ∧ z = up4 (40 + (resP T.rs).1.length + A.length + B.length) - (40 + (resP T.rs).1.length + A.length + B.length) ∧
      (putH (headE (resP T.rs).1.length A.length B.length T.bo)) = (P, 0) ∧ s = P ++ ((resP T.rs).1 ++ (A ++ (B ++ List.replicate z 0))) := by
  unfold encR at h
  split at h
  · cases h
  split at h
  · cases h
  split at h
  · rename_i h3; exact absurd (congrArg Prod.snd h) h3
  split at h
  · rename_i h4; exact absurd (congrArg Prod.snd h) h4
  split at h
  · cases h
  split at h
  · rename_i h6; exact absurd (congrArg Prod.snd h) h6
  rename_i h1 h2 h3 h4 h5 h6
  refine ⟨by simpa using h2, Decidable.not_not.1 h3, Decidable.not_not.1 h4, _, _, _, _, rfl, rfl, rfl, Prod.ext rfl (Decidable.not_not.1 h6), ?_⟩
  exact (Prod.mk.inj h).1.symm
/-- What is encoded is decoded as it was, whatever stands behind. -/
theorem dec_enc {T : DT} {s m : List UInt8} (hv : ∀ x ∈ tokR 8 T.rt, x.vl.size ≤ 1048576) (h : encR T = (s, 0)) : readH (s ++ m) = ((readH (s ++ m)).1, 0) ∧ (readH (s ++ m)).1.tot = s.length ∧ treeD (s ++ m) = (T, 0) := by
  obtain ⟨hf, hr, hp, P, A, B, z, hA, hB, hz, hP, hs⟩ := encR_ok h
  obtain ⟨r1, r2, r3⟩ := resP_ok hr
  have hpr := (put_read hv hp).1
  rw [map_bare_tok, ← hA, ← hB] at hpr
  generalize (resP T.rs).1 = R at *
  have hP2 : (putH (headE R.length A.length B.length T.bo)).2 = 0 := by rw [hP]
  have hP1 : (putH (headE R.length A.length B.length T.bo)).1 = P := by rw [hP]
  obtain ⟨l1, l2, l3⟩ := putH_len hP2
  rw [hP1] at l1
  have hup := up4_ge (40 + R.length + A.length + B.length)
  have hsl : s.length = up4 (40 + R.length + A.length + B.length) := by
    rw [hs]
    simp only [List.length_append, List.length_replicate, l1]
    omega
  have hrd : readH (s ++ m) = (headE R.length A.length B.length T.bo, 0) := by
    have := read_putH (h := headE R.length A.length B.length T.bo) (r := (R ++ (A ++ (B ++ List.replicate z 0))) ++ m) hP2 (by
      rw [hP1, ← List.append_assoc, ← hs, List.length_append, hsl]
      show ((up4 (40 + R.length + A.length + B.length) : Nat) : Int) ≤ _
      omega)
    rwa [hP1, ← List.append_assoc, ← hs] at this
  refine ⟨by rw [hrd], by rw [hrd, hsl]; rfl, ?_⟩
  unfold treeD
  rw [hrd, if_neg (by simp)]
  have ht : (s ++ m).take ((headE R.length A.length B.length T.bo).tot).toNat = s := by
    rw [show ((headE R.length A.length B.length T.bo).tot).toNat = s.length by rw [hsl]; exact Int.toNat_natCast _, List.take_left]
  rw [show ((headE R.length A.length B.length T.bo, 0) : HD × Nat).1 = headE R.length A.length B.length T.bo from rfl, ht]
  have hv1 : resv s (headE R.length A.length B.length T.bo).rsv = (T.rs, 0) := by
    show resv s 40 = _
    unfold resv
    rw [if_neg (by omega), show ((40 : Int)).toNat = 40 from rfl, hs, List.drop_left' l1, r3, List.append_assoc]
    exact resvR_put T.rs 16 _ r1 r2
  have ha1 : partB s (headE R.length A.length B.length T.bo).stc (headE R.length A.length B.length T.bo).siz = A := by
    rw [hs, ← List.append_assoc]
    exact part_mid (P ++ R) A (B ++ List.replicate z 0) (40 + R.length) A.length (by rw [List.length_append, l1]) rfl
  have hb1 : partB s (headE R.length A.length B.length T.bo).sgs (headE R.length A.length B.length T.bo).txs = B := by
    rw [hs, ← List.append_assoc, ← List.append_assoc]
    exact part_mid (P ++ R ++ A) B (List.replicate z 0) (40 + R.length + A.length) B.length (by rw [List.length_append, List.length_append, l1]) rfl
  unfold bodyD
  rw [hv1, ha1, hb1, hpr, of_tokens T.rt hf, if_neg (by simp), if_neg (by simp), if_neg (by simp)]
  rfl
end Go.Proofs.YtfcclppgjfkfoaaGreatDoor

/- How many bytes tokens have that were read: no more than those that they were read of. No condition. -/
namespace Go.Proofs.YtfcclppgjfkfoaaGreatDoor
open Go.RowKit

/-- The bytes of a token. -/
def wT (x : TK) : Nat := if x.kd = 1 then 4 + up4 (x.nm.size + 1) else if x.kd = 3 then 12 + up4 x.vl.size else 4
def wS : List TK → Nat
  | [] => 0
  | x :: l => wT x + wS l
/-- How many are properties. -/
def qS : List TK → Nat
  | [] => 0
  | x :: l => (if x.kd = 3 then 1 else 0) + qS l
theorem encT_w (p : Nat) (x : TK) : (encT p x).length = wT x := by
  unfold encT wT
  split
  · rw [List.length_append, big_len, padL_length, List.length_append]; rfl
  · split
    · rw [List.length_append, List.length_append, List.length_append, big_len, big_len, big_len, padL_length, show x.vl.data.toList.length = x.vl.size from rfl]; omega
    · exact big_len _
theorem putS_w : ∀ (l : List TK) (B : List ByteArray), (putS B l).length = wS l
  | [], _ => rfl
  | x :: l, B => by rw [putS, List.length_append, encT_w, putS_w l, wS]
theorem q_w : ∀ l : List TK, 12 * qS l ≤ wS l
  | [] => Nat.le_refl _
  | x :: l => by
    have := q_w l
    have h : 12 * (if x.kd = 3 then 1 else 0) ≤ wT x := by
      unfold wT
      split
      · rename_i h3
        rw [if_neg (by omega)]; omega
      · omega
    rw [qS, wS]; omega
theorem putB_q : ∀ (l : List TK) (B : List ByteArray), (putB B l).length ≤ B.length + qS l
  | [], B => Nat.le_refl _
  | x :: l, B => by
    have h1 := putB_q l (blkT B x)
    have h2 : (blkT B x).length ≤ B.length + (if x.kd = 3 then 1 else 0) := by
      have h3 := blk_len B x
      unfold blkT at h3 ⊢
      split
      · rename_i hk; rw [if_pos hk] at h3; exact h3
      · exact Nat.le_refl _
    show (putB (blkT B x) l).length ≤ _
    rw [qS]; omega
theorem begin_w {l : List UInt8} {s : ByteArray} {n : Nat} (h : beginR l = (s, n, 0)) : n = up4 (s.size + 1) ∧ n ≤ l.length := by
  unfold beginR at h
  split at h
  · cases h
  · rename_i h1
    split at h
    · obtain ⟨e1, h⟩ := Prod.mk.inj h
      obtain ⟨e2, -⟩ := Prod.mk.inj h
      subst e1 e2
      rw [size_mk, List.length_take, Nat.min_eq_left (by omega)]
      exact ⟨rfl, by omega⟩
    · cases h
theorem prop_w {l tx : List UInt8} {t : TK} {n : Nat} (h : propR l tx = (t, n, 0)) : t.kd = 3 ∧ n = 8 + up4 t.vl.size ∧ n ≤ l.length := by
  unfold propR at h
  split at h
  · cases h
  split at h
  · cases h
  · rename_i h1 h2
    split at h
    · obtain ⟨e1, h⟩ := Prod.mk.inj h
      obtain ⟨e2, -⟩ := Prod.mk.inj h
      subst e1 e2
      have := up4_ge (pSz l)
      refine ⟨rfl, ?_, by omega⟩
      rw [size_mk, List.length_drop, List.length_take, Nat.min_eq_left (by omega), Nat.add_sub_cancel_left]
    · cases h
theorem step_w {l tx : List UInt8} {t : TK} {n : Nat} (h : stepR l tx = .tok t n) : wT t = 4 + n ∧ 4 + n ≤ l.length := by
  unfold stepR at h
  by_cases h4 : l.length < 4
  · rw [if_pos h4] at h; cases h
  rw [if_neg h4] at h
  have hd : (l.drop 4).length = l.length - 4 := List.length_drop
  by_cases h1 : frombig l = 1
  · rw [if_pos h1] at h
    rcases hb : beginR (l.drop 4) with ⟨s, m, e⟩
    rw [hb] at h
    by_cases he : e = 0
    · subst he
      rw [if_pos rfl] at h
      injection h with h h'
      subst h h'
      obtain ⟨e1, e2⟩ := begin_w hb
      refine ⟨?_, by simp only; omega⟩
      unfold wT
      rw [if_pos rfl]
      simp only
      omega
    · rw [if_neg he] at h; cases h
  rw [if_neg h1] at h
  by_cases h3 : frombig l = 3
  · rw [if_pos h3] at h
    rcases hb : propR (l.drop 4) tx with ⟨s, m, e⟩
    rw [hb] at h
    by_cases he : e = 0
    · subst he
      rw [if_pos rfl] at h
      injection h with h h'
      simp only at h h'
      subst h h'
      obtain ⟨e0, e1, e2⟩ := prop_w hb
      refine ⟨?_, by omega⟩
      unfold wT
      rw [if_neg (by omega), if_pos e0]
      omega
    · rw [if_neg he] at h; cases h
  rw [if_neg h3] at h
  by_cases h2 : frombig l = 2 ∨ frombig l = 4
  · rw [if_pos h2] at h
    injection h with h h'
    subst h h'
    refine ⟨?_, by omega⟩
    unfold wT
    simp only
    rw [if_neg h1, if_neg h3]
  · rw [if_neg h2] at h
    split at h
    · split at h <;> cases h
    · cases h
theorem step_err {l tx : List UInt8} {e : Nat} (h : stepR l tx = .err e) : e ≠ 0 := by
  rintro rfl
  unfold stepR at h
  repeat' split at h
  all_goals first | (cases h; done) | (injection h with h; exact absurd h (by assumption)) | (injection h with h; omega)
theorem step_stop {l tx : List UInt8} (h : stepR l tx = .stop) : 4 ≤ l.length := by
  unfold stepR at h
  by_cases h4 : l.length < 4
  · rw [if_pos h4] at h; cases h
  · omega
theorem read_w : ∀ (m : Nat) (l tx : List UInt8) (r : List TK), readR m l tx = (r, 0) → wS r + 4 ≤ l.length
  | 0, l, tx, r, h => by cases h
  | m + 1, l, tx, r, h => by
    rw [readR] at h
    split at h
    · rename_i e hs
      obtain ⟨rfl, he⟩ := Prod.mk.inj h
      subst he
      exact absurd rfl (step_err hs)
    · rename_i hs
      obtain ⟨rfl, -⟩ := Prod.mk.inj h
      have := step_stop hs
      rw [wS]; omega
    · rename_i t n hs
      obtain ⟨w1, w2⟩ := step_w hs
      rcases hq : readR m ((l.drop 4).drop n) tx with ⟨q, e⟩
      rw [hq] at h
      cases e with
      | succ e => cases h
      | zero =>
        obtain ⟨rfl, -⟩ := Prod.mk.inj h
        have := read_w m _ tx q hq
        rw [List.length_drop, List.length_drop] at this
        rw [wS]; omega
end Go.Proofs.YtfcclppgjfkfoaaGreatDoor

/- What is decoded is encoded, and decoded, as it was: in plain words. Condition: at most 2048 bytes. -/
namespace Go.Proofs.YtfcclppgjfkfoaaGreatDoor
open Go.RowKit

theorem resvR_ok : ∀ (k : Nat) (l : List UInt8) (r : List SP), resvR k l = (r, 0) → r.all okSp = true
  | 0, l, r, h => by
    unfold resvR at h
    repeat' split at h
    all_goals first | (obtain ⟨rfl, -⟩ := Prod.mk.inj h; rfl) | cases h
  | k + 1, l, r, h => by
    unfold resvR at h
    split at h
    · cases h
    split at h
    · cases h
    split at h
    · obtain ⟨rfl, -⟩ := Prod.mk.inj h; rfl
    · rename_i h1 h2 h3
      split at h
      · rename_i h4
        obtain ⟨rfl, -⟩ := Prod.mk.inj h
        have ih := resvR_ok k (l.drop 16) (resvR k (l.drop 16)).1 (Prod.ext rfl h4)
        have b1 := numAt_bd l 1
        have b3 := numAt_bd l 3
        show (okSp ⟨numAt l 1, numAt l 3⟩ && (resvR k (l.drop 16)).1.all okSp) = true
        rw [ih, Bool.and_true]
        exact okSp_iff.2 ⟨b1.1, by show numAt l 1 ≤ _; omega, b3.1, by show numAt l 3 ≤ _; omega, h3⟩
      · rename_i h4
        obtain ⟨-, h5⟩ := Prod.mk.inj h
        exact absurd h5 h4
theorem resv_ok {s : List UInt8} {a : Int} {r : List SP} (h : resv s a = (r, 0)) : r.all okSp = true ∧ r.length ≤ 16 := by
  have hl := resv_len s a
  rw [h] at hl
  refine ⟨?_, hl⟩
  unfold resv at h
  split at h
  · cases h
  · exact resvR_ok _ _ _ h
theorem partB_len (s : List UInt8) (a n : Int) : (partB s a n).length ≤ s.length := by
  unfold partB partR
  split
  · exact Nat.zero_le _
  · show (ByteArray.extract _ _ _).size ≤ _
    rw [ByteArray.size_extract, size_mk]; omega
theorem w_bare (x : TK) : wT (bare x) = wT x := by
  unfold wT bare
  by_cases h1 : x.kd = 1
  · rw [if_pos h1, if_pos h1, if_pos h1]
  · rw [if_neg h1, if_neg h1]
    by_cases h3 : x.kd = 3
    · rw [if_pos h3, if_pos h3, if_neg h1]
    · rw [if_neg h3, if_neg h3, if_neg h1, if_neg h3]
theorem say_w : ∀ l : List TK, wS (sayR l) ≤ wS l ∧ (sayR l).length ≤ l.length
  | [] => ⟨Nat.le_refl _, Nat.le_refl _⟩
  | x :: l => by
    obtain ⟨h1, h2⟩ := say_w l
    by_cases h4 : x.kd = 4
    · have e : sayR (x :: l) = sayR l := by unfold sayR; rw [List.flatMap_cons, if_pos h4, List.nil_append]
      rw [e, wS, List.length_cons]; omega
    · have e : sayR (x :: l) = bare x :: sayR l := by unfold sayR; rw [List.flatMap_cons, if_neg h4]; rfl
      rw [e, wS, wS, w_bare, List.length_cons, List.length_cons]; omega
theorem say_mem {l : List TK} {y : TK} (h : y ∈ sayR l) : ∃ x ∈ l, y = bare x := by
  unfold sayR at h
  obtain ⟨x, hx, hy⟩ := List.mem_flatMap.1 h
  split at hy
  · cases hy
  · exact ⟨x, hx, List.mem_singleton.1 hy⟩
theorem enc_dec {s : List UInt8} {T : DT} (hs : s.length ≤ 2048) (h : treeD s = (T, 0)) : ∃ b, encR T = (b, 0) ∧ treeD b = (T, 0) := by
  obtain ⟨h0, hf, -⟩ := treeD_ok h
  obtain ⟨d, hd⟩ : ∃ d, readH s = (d, 0) := ⟨_, Prod.ext rfl h0⟩
  obtain ⟨hm, hl1, hl2, hl3, -⟩ := readH_ok hd
  have hm := mayH_iff.1 hm
  unfold treeD at h
  rw [hd, if_neg (by simp)] at h
  unfold bodyD at h
  split at h
  · rename_i h1; exact absurd (congrArg Prod.snd h) h1
  split at h
  · rename_i h1; exact absurd (congrArg Prod.snd h) h1
  split at h
  · rename_i h1; exact absurd (congrArg Prod.snd h) h1
  rename_i h1 h2 h3
  have hT := (Prod.mk.inj h).1
  clear h
  have hsl : (s.take d.tot.toNat).length ≤ 2048 := by rw [List.length_take]; omega
  simp only at h1 h2 h3 hT
  generalize s.take d.tot.toNat = s' at *
  have hpl := Nat.le_trans (partB_len s' d.stc d.siz) hsl
  generalize partB s' d.stc d.siz = pa at *
  generalize partB s' d.sgs d.txs = pb at *
  obtain ⟨l, hr⟩ : ∃ l, readR 1024 pa pb = (l, 0) := ⟨_, Prod.ext rfl (Decidable.not_not.1 h2)⟩
  rw [hr] at h3 hT
  simp only at h3 hT
  obtain ⟨n, ho⟩ : ∃ n, ofR l = (n, 0) := ⟨_, Prod.ext rfl (Decidable.not_not.1 h3)⟩
  obtain ⟨K, hK⟩ : ∃ K, resv s' d.rsv = (K, 0) := ⟨_, Prod.ext rfl (Decidable.not_not.1 h1)⟩
  rw [ho, hK] at hT
  simp only at hT
  subst hT
  obtain ⟨k1, k2⟩ := resv_ok hK
  obtain ⟨t1, -⟩ := tokens_of ho
  obtain ⟨w1, w2⟩ := readR_ok 1024 pa pb l hr
  have w3 := read_w 1024 pa pb l hr
  obtain ⟨y1, y2⟩ := say_w l
  have hall : (tokR 8 n).all okT = true := by
    rw [t1]
    refine List.all_eq_true.2 fun y hy => ?_
    obtain ⟨x, hx, rfl⟩ := say_mem hy
    rw [(w2 x hx).2.1]; exact (w2 x hx).1
  have hv : ∀ x ∈ tokR 8 n, x.vl.size ≤ 1048576 := by
    rw [t1]
    intro y hy
    obtain ⟨x, hx, rfl⟩ := say_mem hy
    rw [(w2 x hx).2.1]
    have := (w2 x hx).2.2
    omega
  have hput : putR (tokR 8 n) = (⟨(putS [] (tokR 8 n) ++ big 9).toArray⟩, ⟨(flat (putB [] (tokR 8 n))).toArray⟩, 0) := putR_good (by rw [t1]; omega) hall
  have q1 := putS_w (tokR 8 n) []
  have q2 := putB_q (tokR 8 n) []
  have q3 := flat_le (okL_putB (tokR 8 n) okL_nil)
  have q4 := q_w (tokR 8 n)
  rw [List.length_nil] at q2
  have q5 : wS (tokR 8 n) ≤ 2044 := by rw [t1]; omega
  have hrP : resP K = (spB K ++ endB, 0) := by unfold resP; rw [if_neg (by omega), if_pos k1]
  have hrl : (spB K ++ endB).length = 16 * K.length + 16 := by rw [List.length_append, spB_len, show endB.length = 16 from rfl]; omega
  have hal : (⟨(putS [] (tokR 8 n) ++ big 9).toArray⟩ : ByteArray).size = wS (tokR 8 n) + 4 := by rw [size_mk, List.length_append, q1, big_len]
  have hbl : (⟨(flat (putB [] (tokR 8 n))).toArray⟩ : ByteArray).size ≤ 6000 := by rw [size_mk]; omega
  have hcc : ¬ 8 < (countR 9 n).c := by
    have := of_decide_eq_true hf
    simp only at this
    omega
  have hex : ∃ b, encR ⟨n, K, d.boo⟩ = (b, 0) := by
    unfold encR
    simp only
    rw [if_neg hcc, if_neg (by simp only at hf; rw [hf]; simp), hrP, hput]
    simp only
    rw [if_neg (by simp), if_neg (by simp), hrl, hal]
    generalize (⟨(flat (putB [] (tokR 8 n))).toArray⟩ : ByteArray).size = bl at *
    generalize wS (tokR 8 n) = al at *
    have u1 := up4_ge (40 + (16 * K.length + 16) + (al + 4) + bl)
    have u2 := up4_lt (40 + (16 * K.length + 16) + (al + 4) + bl)
    have hput2 : (putH (headE (16 * K.length + 16) (al + 4) bl d.boo)).2 = 0 := by
      unfold putH
      rw [if_pos]
      refine ⟨mayH_iff.2 ?_, ?_⟩
      · unfold headE
        simp only
        refine ⟨?_, ?_, ?_, ?_, ?_, ?_, ?_, ?_, ?_, ?_, ?_, ?_, ?_, ?_, ?_⟩ <;> omega
      · unfold headE
        simp only
        omega
    rw [if_neg (by omega), if_neg (by rw [hput2]; simp)]
    exact ⟨_, rfl⟩
  obtain ⟨b, hb⟩ := hex
  refine ⟨b, hb, ?_⟩
  have := (dec_enc (m := []) hv hb).2.2
  rwa [List.append_nil] at this
end Go.Proofs.YtfcclppgjfkfoaaGreatDoor

/- Spans in memory: a slice of them; what the document's inside, Meet and Same return. Conditions: Meet: spans that exist. -/
namespace Go.Proofs.YtfcclppgjfkfoaaGreatDoor
open Go.RowKit

/-- A span lies at a place. -/
def SpAt (w : World) (b o : Nat) (x : SP) : Prop := w.cell? ⟨b, o, none⟩ = some (.int .i64 x.p) ∧ w.cell? ⟨b, o + 1, none⟩ = some (.int .i64 x.n)
/-- The slice at A reads as the spans L. -/
def RdSp (w : World) (A : Option Addr) (L : List SP) : Prop := L = [] ∨ ∃ b off, A = some ⟨b, off, none⟩ ∧ ∀ k, k < L.length → SpAt w b (off + k * 2) (L.getD k sp0)
theorem RdSp.at_ {w : World} {A : Option Addr} {L : List SP} (h : RdSp w A L) {k : Nat} (hk : k < L.length) : ∃ b off x, A = some ⟨b, off, none⟩ ∧ SpAt w b (off + k * 2) x ∧ Hid (L.getD k sp0 = x) := by
  rcases h with rfl | ⟨b, off, rfl, hc⟩
  · simp at hk
  · exact ⟨b, off, _, rfl, hc k hk, rfl⟩
theorem SpAt.below {w w' : World} {b o : Nat} {x : SP} (h : SpAt w b o x) (hb : Below w.heap.size w w') : SpAt w' b o x := by
  obtain ⟨h1, h2⟩ := h
  have hlt : b < w.heap.size := World.block_lt_of_cell? w _ h1
  have e : ∀ j, w'.cell? ⟨b, j, none⟩ = w.cell? ⟨b, j, none⟩ := fun j => World.cell?_of_block (a := ⟨b, j, none⟩) (hb.block b hlt)
  exact ⟨by rw [e]; exact h1, by rw [e]; exact h2⟩
theorem RdSp.below {w w' : World} {A : Option Addr} {L : List SP} (h : RdSp w A L) (hb : Below w.heap.size w w') : RdSp w' A L := by
  rcases h with h | ⟨b, off, rfl, hc⟩
  · exact .inl h
  · exact .inr ⟨b, off, rfl, fun k hk => (hc k hk).below hb⟩
/-- A span as cells, and as a value. -/
def spC (x : SP) : Array Value := #[.int .i64 x.p, .int .i64 x.n]
def spV (x : SP) : Value := .agg #[.int .i64 x.p, .int .i64 x.n]

set_option maxHeartbeats 800000 in
set_option maxRecDepth 100000 in
theorem sameSp_any (A A' : Option Addr) (cap cap' : Nat) (L : List SP) (w : World) (hl : L.length ≤ maxLen) (hr : RdSp w A L) (hr' : RdSp w A' L) :
    Calls Tryz.prog 17 #[.slice A L.length cap, .slice A' L.length cap'] w fun e w' => e = .returned (.bool true) ∧ Below w.heap.size w w' := by
  have hl2 : L.length ≤ 9223372036854775807 := by unfold maxLen at hl; omega
  have HR := Lib.hid hr
  have HR' := Lib.hid hr'
  clear hr hr' hl
  go_enter Tryz.func17, Tryz.ntmps17
  go_wp2
  go_loopw [5] (fun i wr => ∃ k : Nat, k ≤ L.length ∧ i = .int .i64 k ∧ Below w.heap.size w wr) (fun i _ => L.length - (intOf i).toNat)
  case atStart => exact ⟨0, Nat.zero_le _, rfl, Below.refl _ _⟩
  case round =>
    obtain ⟨k, hk, rfl, hb⟩ := hrel
    have hsz := hb.size
    have HB := Lib.hid hb
    clear hb
    by_cases hlt : k < L.length
    · have hki : (k : Int) < L.length := by omega
      obtain ⟨b, off, x, rfl, ⟨h1, h2⟩, HX⟩ := (HR.out.below HB.out).at_ hlt
      obtain ⟨b', off', x', rfl, ⟨g1, g2⟩, HX'⟩ := (HR'.out.below HB.out).at_ hlt
      obtain rfl : x = x' := HX.out.symm.trans HX'.out
      obtain ⟨p, n⟩ := x
      simp only at h1 h2 g1 g2
      go_wp2
      go_quiet (fail)
      have hb2 : Below w.heap.size w (wr.drewN nq) := HB.out.trans ((below_drewN _ _).mono hsz)
      go_wp2
      go_roundw
      case rel => exact ⟨k + 1, by omega, by go_num, hb2⟩
      case measure => simp [intOf]; omega
    · obtain rfl : k = L.length := by omega
      go_wp2
      go_ret
      exact ⟨rfl, HB.out⟩
end Go.Proofs.YtfcclppgjfkfoaaGreatDoor
