/- The bytes of a tree in plain words: the spans that are reserved, the tree, and what stands of them. No condition: nothing of the program stands in it. -/
import Derived.Test.YtmgmpjgofolkgaaMg1
import Derived.Test.YtmgmpjgofolkgaaRaPlain
import Derived.Test.YtmgmpjgofolkgaaMg5
import Derived.Test.YtmgmpjgofolkgaaMg6
import Derived.WalkKit
import Derived.WalkSpells
import Derived.Laws.AppendOwn
import Derived.Lib.Hide
import Derived.Test.YtmgmpjgofolkgaaChecked
import Derived.Test.YtmgmpjgofolkgaaMg0
import Derived.Deep.QuietTactic
namespace Go.Proofs.Ytmgmpjgofolkgaa
open Go.RowKit

/-- The spans that stand at the beginning, at most so many. -/
def resvR : Nat → List UInt8 → List SP × Nat
  | 0, l => if l.length < 16 then ([], 14) else if numAt l 0 ≠ 0 ∨ numAt l 2 ≠ 0 then ([], 6) else if numAt l 1 = 0 ∧ numAt l 3 = 0 then ([], 0) else ([], 7)
  | k + 1, l => if l.length < 16 then ([], 14) else if numAt l 0 ≠ 0 ∨ numAt l 2 ≠ 0 then ([], 6) else if numAt l 1 = 0 ∧ numAt l 3 = 0 then ([], 0)
    else if (resvR k (l.drop 16)).2 = 0 then ([⟨numAt l 1, numAt l 3⟩] ++ (resvR k (l.drop 16)).1, 0) else ([], (resvR k (l.drop 16)).2)
/-- The spans that stand from a place on. -/
def resv (s : List UInt8) (a : Int) : List SP × Nat := if a < 0 then ([], 14) else resvR 16 (s.drop a.toNat)
def joinS (O : List SP) (r : List SP × Nat) : List SP × Nat := if r.2 = 0 then (O ++ r.1, 0) else ([], r.2)
theorem resvR_short (k : Nat) {l : List UInt8} (h : l.length < 16) : resvR k l = ([], 14) := by cases k <;> exact if_pos h
theorem resvR_form (k : Nat) {l : List UInt8} (h : ¬ l.length < 16) (h1 : numAt l 0 ≠ 0 ∨ numAt l 2 ≠ 0) : resvR k l = ([], 6) := by
  cases k <;> (unfold resvR; rw [if_neg h, if_pos h1])
theorem resvR_end (k : Nat) {l : List UInt8} (h : ¬ l.length < 16) (h1 : ¬ (numAt l 0 ≠ 0 ∨ numAt l 2 ≠ 0)) (h2 : numAt l 1 = 0 ∧ numAt l 3 = 0) : resvR k l = ([], 0) := by
  cases k <;> (unfold resvR; rw [if_neg h, if_neg h1, if_pos h2])
theorem resvR_big {l : List UInt8} (h : ¬ l.length < 16) (h1 : ¬ (numAt l 0 ≠ 0 ∨ numAt l 2 ≠ 0)) (h2 : ¬ (numAt l 1 = 0 ∧ numAt l 3 = 0)) : resvR 0 l = ([], 7) := by
  unfold resvR; rw [if_neg h, if_neg h1, if_neg h2]
theorem resvR_next {k : Nat} {l : List UInt8} (h : ¬ l.length < 16) (h1 : ¬ (numAt l 0 ≠ 0 ∨ numAt l 2 ≠ 0)) (h2 : ¬ (numAt l 1 = 0 ∧ numAt l 3 = 0)) : resvR (k + 1) l = joinS [⟨numAt l 1, numAt l 3⟩] (resvR k (l.drop 16)) := by
  exact (if_neg h).trans ((if_neg h1).trans (if_neg h2))
theorem joinS_join (O P : List SP) (r : List SP × Nat) : joinS O (joinS P r) = joinS (O ++ P) r := by
  unfold joinS
  by_cases h : r.2 = 0
  · rw [if_pos h, if_pos rfl, if_pos h, List.append_assoc]
  · rw [if_neg h, if_neg h, if_neg h]
theorem resvR_bad (k : Nat) : ∀ l, (resvR k l).2 ≠ 0 → (resvR k l).1 = [] := by
  induction k with
  | zero =>
    intro l h
    unfold resvR at h ⊢
    split <;> rename_i h1
    · rfl
    · rw [if_neg h1] at h
      split <;> rename_i h2
      · rfl
      · split <;> rfl
  | succ k ih =>
    intro l h
    unfold resvR at h ⊢
    split <;> rename_i h1
    · rfl
    · rw [if_neg h1] at h
      split <;> rename_i h2
      · rfl
      · rw [if_neg h2] at h
        split <;> rename_i h3
        · rfl
        · rw [if_neg h3] at h
          split <;> rename_i h4
          · rw [if_pos h4] at h; exact absurd rfl h
          · rfl
theorem joinS_nil (k : Nat) (l : List UInt8) : joinS [] (resvR k l) = resvR k l := by
  unfold joinS
  by_cases h : (resvR k l).2 = 0
  · rw [if_pos h]; exact Prod.ext rfl h.symm
  · rw [if_neg h]; exact Prod.ext (resvR_bad k l h).symm rfl
theorem resvR_len (k : Nat) : ∀ l, (resvR k l).1.length ≤ k := by
  induction k with
  | zero =>
    intro l
    unfold resvR
    repeat' split
    all_goals exact Nat.zero_le _
  | succ k ih =>
    intro l
    unfold resvR
    repeat' split
    all_goals first | exact Nat.zero_le _ | exact (by simp; exact ih _)
theorem resv_len (s : List UInt8) (a : Int) : (resv s a).1.length ≤ 16 := by
  unfold resv
  split
  · exact Nat.zero_le _
  · exact resvR_len 16 _
theorem numsB_take16 (s : List UInt8) (k : Nat) (hk : k < 4) : (numsB (s.take 16) 4).getD k 0 = numAt s k := by
  have e : (numsB (s.take 16) 4).getD k 0 = frombig ((s.take 16).drop (4 * k)) := by
    simp [numsB, List.getD_eq_getElem?_getD, List.getElem?_range hk]
  rw [e]
  unfold numAt frombig
  have g : ∀ j, j < 4 → ((s.take 16).drop (4 * k)).getD j 0 = (s.drop (4 * k)).getD j 0 := by
    intro j hj
    simp only [List.getD_eq_getElem?_getD, List.getElem?_drop, List.getElem?_take]
    rw [if_pos (by omega)]
  rw [g 0 (by omega), g 1 (by omega), g 2 (by omega), g 3 (by omega)]

/-- A tree with what is reserved, and the processor. -/
structure DT where
  rt : ND
  rs : List SP
  bo : Int
def dt0 : DT := ⟨nd0, [], 0⟩
/-- The part of bytes that a span tells. -/
def partB (s : List UInt8) (a n : Int) : List UInt8 := (partR ⟨s.toArray⟩ a n).1.data.toList
/-- The tree behind a header that is right, of its bytes. -/
def bodyD (s : List UInt8) (h : HD) : DT × Nat :=
  if (resv s h.rsv).2 ≠ 0 then (dt0, (resv s h.rsv).2)
  else if (readR 1024 (partB s h.stc h.siz) (partB s h.sgs h.txs)).2 ≠ 0 then (dt0, (readR 1024 (partB s h.stc h.siz) (partB s h.sgs h.txs)).2)
  else if (ofR (readR 1024 (partB s h.stc h.siz) (partB s h.sgs h.txs)).1).2 ≠ 0 then (dt0, (ofR (readR 1024 (partB s h.stc h.siz) (partB s h.sgs h.txs)).1).2)
  else (⟨(ofR (readR 1024 (partB s h.stc h.siz) (partB s h.sgs h.txs)).1).1, (resv s h.rsv).1, h.boo⟩, 0)
/-- The tree of bytes. -/
def treeD (s : List UInt8) : DT × Nat := if (readH s).2 ≠ 0 then (dt0, (readH s).2) else bodyD (s.take (readH s).1.tot.toNat) (readH s).1
theorem bodyD_ok {s : List UInt8} {h : HD} {T : DT} (e : bodyD s h = (T, 0)) : fitsR T.rt = true ∧ T.rs.length ≤ 16 := by
  unfold bodyD at e
  split at e
  · rename_i h1; exact absurd (congrArg Prod.snd e) h1
  split at e
  · rename_i h1; exact absurd (congrArg Prod.snd e) h1
  split at e
  · rename_i h1; exact absurd (congrArg Prod.snd e) h1
  rename_i h3
  obtain ⟨rfl, -⟩ := Prod.mk.inj e
  exact ⟨(tokens_of (Prod.ext rfl (Decidable.not_not.1 h3))).2, resv_len _ _⟩
theorem treeD_ok {s : List UInt8} {T : DT} (e : treeD s = (T, 0)) : (readH s).2 = 0 ∧ fitsR T.rt = true ∧ T.rs.length ≤ 16 := by
  unfold treeD at e
  split at e
  · rename_i h1; exact absurd (congrArg Prod.snd e) h1
  · rename_i h1
    exact ⟨Decidable.not_not.1 h1, bodyD_ok e⟩
theorem bodyD_bad {s : List UInt8} {h : HD} (e : (bodyD s h).2 ≠ 0) : (bodyD s h).1 = dt0 := by
  unfold bodyD at e ⊢
  split
  · rfl
  · rename_i h1
    rw [if_neg h1] at e
    split
    · rfl
    · rename_i h2
      rw [if_neg h2] at e
      split
      · rfl
      · rename_i h3
        rw [if_neg h3] at e
        exact absurd rfl e
theorem treeD_bad {s : List UInt8} (e : (treeD s).2 ≠ 0) : (treeD s).1 = dt0 := by
  unfold treeD at e ⊢
  split
  · rfl
  · rename_i h1
    rw [if_neg h1] at e
    exact bodyD_bad e
theorem numAt_same {s t : List UInt8} {k : Nat} (hk : k < 10) (hg : ∀ j, j < 40 → t.getD j 0 = s.getD j 0) : numAt t k = numAt s k := by
  unfold numAt frombig
  have g : ∀ j, j < 4 → (t.drop (4 * k)).getD j 0 = (s.drop (4 * k)).getD j 0 := by
    intro j hj
    have := hg (4 * k + j) (by omega)
    simpa only [List.getD_eq_getElem?_getD, List.getElem?_drop] using this
  rw [g 0 (by omega), g 1 (by omega), g 2 (by omega), g 3 (by omega)]
/-- Of other bytes that begin so, the header is the same, or there are too few. -/
theorem readH_same {s t : List UInt8} {h : HD} (hr : readH s = (h, 0)) (ht : 40 ≤ t.length) (hg : ∀ j, j < 40 → t.getD j 0 = s.getD j 0) : readH t = if (t.length : Int) < h.tot then (hd0, 14) else (h, 0) := by
  obtain ⟨h1, h2, h3, h4, h5⟩ := readH_ok hr
  have ho : hdOf t = h := by
    rw [h5]; unfold hdOf
    rw [numAt_same (by omega) hg, numAt_same (by omega) hg, numAt_same (by omega) hg, numAt_same (by omega) hg, numAt_same (by omega) hg, numAt_same (by omega) hg, numAt_same (by omega) hg]
  have n1 : numAt t 1 = h.tot := by rw [← ho]; rfl
  have hm : ¬ (numAt s 0 ≠ 3490578157 ∨ numAt s 5 < 17 ∨ 17 < numAt s 6) := by
    intro hc
    unfold readH at hr
    rw [if_neg (by omega), if_pos hc] at hr
    cases hr
  unfold readH
  rw [if_neg (by omega), numAt_same (k := 0) (by omega) hg, numAt_same (k := 5) (by omega) hg, numAt_same (k := 6) (by omega) hg, if_neg hm, n1, if_neg (by omega), ho, h1, if_neg (by simp)]
/-- The header of the first bytes alone, with whatever behind them. -/
theorem readH_more {s m : List UInt8} {h : HD} (hr : readH s = (h, 0)) : readH (s.take h.tot.toNat ++ m) = (h, 0) := by
  obtain ⟨h1, h2, h3, h4, h5⟩ := readH_ok hr
  have hm := (mayH_iff.1 h1).1
  have hl : (s.take h.tot.toNat).length = h.tot.toNat := by rw [List.length_take]; omega
  have hln : (s.take h.tot.toNat ++ m).length = h.tot.toNat + m.length := by rw [List.length_append, hl]
  have e := readH_same (t := s.take h.tot.toNat ++ m) hr (by omega) (fun j hj => by
    rw [List.getD_eq_getElem?_getD, List.getElem?_append_left (by omega), List.getElem?_take_of_lt (by omega), List.getD_eq_getElem?_getD])
  rw [e, if_neg (by omega)]
/-- With one byte less there is no header. -/
theorem readH_less {s : List UInt8} {h : HD} (hr : readH s = (h, 0)) : readH (s.take (h.tot.toNat - 1)) = (hd0, 14) := by
  obtain ⟨h1, h2, h3, h4, h5⟩ := readH_ok hr
  have hm := (mayH_iff.1 h1).1
  have hl : (s.take (h.tot.toNat - 1)).length = h.tot.toNat - 1 := by rw [List.length_take]; omega
  by_cases h40 : h.tot.toNat - 1 < 40
  · unfold readH; rw [if_pos (by omega)]
  · have e := readH_same (t := s.take (h.tot.toNat - 1)) hr (by omega) (fun j hj => by
      rw [List.getD_eq_getElem?_getD, List.getElem?_take_of_lt (by omega), List.getD_eq_getElem?_getD])
    rw [e, if_pos (by omega)]
/-- A tree is told by its first bytes alone. -/
theorem treeD_more {s m : List UInt8} {T : DT} (e : treeD s = (T, 0)) : treeD (s.take (readH s).1.tot.toNat ++ m) = (T, 0) ∧ treeD (s.take ((readH s).1.tot.toNat - 1)) = (dt0, 14) := by
  have h0 := (treeD_ok e).1
  obtain ⟨h, hh⟩ : ∃ h, readH s = (h, 0) := ⟨_, Prod.ext rfl h0⟩
  obtain ⟨h1, h2, h3, h4, h5⟩ := readH_ok hh
  have hl : (s.take h.tot.toNat).length = h.tot.toNat := by rw [List.length_take]; omega
  unfold treeD at e ⊢
  rw [hh] at e ⊢
  simp only at e ⊢
  rw [readH_more hh, readH_less hh]
  refine ⟨?_, rfl⟩
  rw [if_neg (by simp)] at e ⊢
  show bodyD ((s.take h.tot.toNat ++ m).take h.tot.toNat) h = (T, 0)
  rw [List.take_append_of_le_length (by omega), List.take_of_length_le (by omega)]
  exact e
theorem treeD_len (s : List UInt8) : (treeD s).1.rs.length ≤ 16 := by
  by_cases h : (treeD s).2 = 0
  · exact (treeD_ok (T := (treeD s).1) (Prod.ext rfl h)).2.2
  · rw [treeD_bad h]; exact Nat.zero_le _
end Go.Proofs.Ytmgmpjgofolkgaa

/- Small general laws of this seat's proofs: one element appended to a slice that the call itself made. Conditions: the slice holds fewer than 2^47 bytes. -/
namespace Go.Proofs.Ytmgmpjgofolkgaa
open Go.RowKit

/-- t is a slice type whose elements, of type e, take one cell and so many bytes, with the zero value z. -/
def ElemIs (P : Program) (t e : TypeId) (z : Value) (bytes : Nat) : Prop :=
  P.underlying t = some (.slice e) ∧ z.cells.size = 1 ∧ ∃ i, P.info? e = some i ∧ i.zero = some z ∧ i.size = 1 ∧ i.bytes = bytes
theorem elemIs_mk {P : Program} {t e : TypeId} {z : Value} {bytes : Nat} (h0 : P.underlying t = some (.slice e)) (hz : z.cells.size = 1)
    (h : ((P.info? e).map fun i => (i.zero, i.size, i.bytes)) = some (some z, 1, bytes)) : ElemIs P t e z bytes := by
  obtain ⟨i, hi, he⟩ := Option.map_eq_some_iff.1 h
  simp only [Prod.mk.injEq] at he
  exact ⟨h0, hz, i, hi, he.1, he.2.1, he.2.2⟩
/-- 's = append(s, u)', s a slice of the call's own. -/
theorem append_one {P : Program} {ops : Array Oper} {rest : List Oper} {o : Oper} {a : Act} {Q : Exit → Act → World → Prop} {w : World} (hgd : o.guard = none) (s x : Operand) (t : TypeId)
    (ho : o.op = .call { callee := .builtin .append, args := #[s, x], argTypes := #[t, t] })
    (base : Nat) (e : TypeId) (z : Value) (bytes : Nat) (hel : Hid (ElemIs P t e z bytes)) (u : Value) (h1 : u.oneCell' = true)
    (v : Value) (n : Nat) (xs : List Value) (hs : a.eval s = v) (hown : w.ownsRow base e 1 v n xs) (hx : a.eval x = .slice (some ⟨w.heap.size, 0, none⟩) 1 1)
    (hn : (n + 1) * bytes ≤ 140737488355328) (hm : n + 1 ≤ maxLen) (hbase : base ≤ w.heap.size)
    (h : ∀ v' w', w'.ownsRow base e 1 v' (n + 1) (xs ++ [u]) → Below base w w' → wpList P ops Q rest (a.put o.dst v') w') : wpList P ops Q (o :: rest) a (w.alloc (.cells #[u] e)) := by
  obtain ⟨h0, hz, i, hi, hz0, hz1, hz2⟩ := hel.out
  refine wpList_append_own _ hgd s x t ho base e i z 1 bytes h0 hi hz0 hz1 hz2 hz (by decide) v n xs hs (hown.alloc _) ⟨w.heap.size, 0, none⟩ 1 1 [u] hx rfl ?_ ?_ hm hn (by simp; omega) ?_
  · intro j y hj
    match j, hj with
    | 0, hj => simp at hj; subst hj; simp [Addr.add]
  · intro y hy; simp at hy; subst hy; exact h1
  · intro v' w' ho' hg _
    exact h v' w' ho' (((Below.refl _ _).alloc hbase _).grown hg (by simp; omega) (fun g hg' => (hown.lt g hg').1))
end Go.Proofs.Ytmgmpjgofolkgaa

/- Spans in memory: a slice of them; what the document's inside, Meet and Same return. Conditions: Meet: spans that exist. -/
namespace Go.Proofs.Ytmgmpjgofolkgaa
open Go.RowKit

/-- A span lies at a place. -/
def SpAt (w : World) (b o : Nat) (x : SP) : Prop := w.cell? ⟨b, o, none⟩ = some (.int .i64 x.p) ∧ w.cell? ⟨b, o + 1, none⟩ = some (.int .i64 x.n)
/-- The slice at A reads as the spans L. -/
def RdSp (w : World) (A : Option Addr) (L : List SP) : Prop := L = [] ∨ ∃ b off, A = some ⟨b, off, none⟩ ∧ ∀ k, k < L.length → SpAt w b (off + k * 2) (L.getD k sp0)
theorem RdSp.at_ {w : World} {A : Option Addr} {L : List SP} (h : RdSp w A L) {k : Nat} (hk : k < L.length) : ∃ b off x, A = some ⟨b, off, none⟩ ∧ SpAt w b (off + k * 2) x ∧ Hid (L.getD k sp0 = x) := by
  rcases h with rfl | ⟨b, off, rfl, hc⟩
  · simp at hk
  · exact ⟨b, off, _, rfl, hc k hk, rfl⟩
theorem SpAt.below {w w' : World} {b o : Nat} {x : SP} (h : SpAt w b o x) (hb : Below w.heap.size w w') : SpAt w' b o x := by
  obtain ⟨h1, h2⟩ := h
  have hlt : b < w.heap.size := World.block_lt_of_cell? w _ h1
  have e : ∀ j, w'.cell? ⟨b, j, none⟩ = w.cell? ⟨b, j, none⟩ := fun j => World.cell?_of_block (a := ⟨b, j, none⟩) (hb.block b hlt)
  exact ⟨by rw [e]; exact h1, by rw [e]; exact h2⟩
theorem RdSp.below {w w' : World} {A : Option Addr} {L : List SP} (h : RdSp w A L) (hb : Below w.heap.size w w') : RdSp w' A L := by
  rcases h with h | ⟨b, off, rfl, hc⟩
  · exact .inl h
  · exact .inr ⟨b, off, rfl, fun k hk => (hc k hk).below hb⟩
/-- A span as cells, and as a value. -/
def spC (x : SP) : Array Value := #[.int .i64 x.p, .int .i64 x.n]
def spV (x : SP) : Value := .agg #[.int .i64 x.p, .int .i64 x.n]

set_option maxHeartbeats 800000 in
set_option maxRecDepth 100000 in
theorem sameSp_any (A A' : Option Addr) (cap cap' : Nat) (L : List SP) (w : World) (hl : L.length ≤ maxLen) (hr : RdSp w A L) (hr' : RdSp w A' L) :
    Calls Try.prog 13 #[.slice A L.length cap, .slice A' L.length cap'] w fun e w' => e = .returned (.bool true) ∧ Below w.heap.size w w' := by
  have hl2 : L.length ≤ 9223372036854775807 := by unfold maxLen at hl; omega
  have HR := Lib.hid hr
  have HR' := Lib.hid hr'
  clear hr hr' hl
  go_enter Try.func13, Try.ntmps13
  go_wp2
  go_loopw [5] (fun i wr => ∃ k : Nat, k ≤ L.length ∧ i = .int .i64 k ∧ Below w.heap.size w wr) (fun i _ => L.length - (intOf i).toNat)
  case atStart => exact ⟨0, Nat.zero_le _, rfl, Below.refl _ _⟩
  case round =>
    obtain ⟨k, hk, rfl, hb⟩ := hrel
    have hsz := hb.size
    have HB := Lib.hid hb
    clear hb
    by_cases hlt : k < L.length
    · have hki : (k : Int) < L.length := by omega
      obtain ⟨b, off, x, rfl, ⟨h1, h2⟩, HX⟩ := (HR.out.below HB.out).at_ hlt
      obtain ⟨b', off', x', rfl, ⟨g1, g2⟩, HX'⟩ := (HR'.out.below HB.out).at_ hlt
      obtain rfl : x = x' := HX.out.symm.trans HX'.out
      obtain ⟨p, n⟩ := x
      simp only at h1 h2 g1 g2
      go_wp2
      go_quiet (fail)
      have hb2 : Below w.heap.size w (wr.drewN nq) := HB.out.trans ((below_drewN _ _).mono hsz)
      go_wp2
      go_roundw
      case rel => exact ⟨k + 1, by omega, by go_num, hb2⟩
      case measure => simp [intOf]; omega
    · obtain rfl : k = L.length := by omega
      go_wp2
      go_ret
      exact ⟨rfl, HB.out⟩
end Go.Proofs.Ytmgmpjgofolkgaa
