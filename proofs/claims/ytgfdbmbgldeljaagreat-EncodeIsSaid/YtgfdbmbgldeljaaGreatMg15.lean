/- What is decoded is encoded, and decoded, as it was: in plain words. Condition: at most 2048 bytes. -/
import Derived.Test.YtgfdbmbgldeljaaGreatMg14
import Derived.Test.YtgfdbmbgldeljaaGreatMg1
import Derived.Test.YtgfdbmbgldeljaaGreatChecked
import Derived.Test.YtgfdbmbgldeljaaGreatMg0
import Derived.Test.YtgfdbmbgldeljaaGreatMg8
import Derived.Deep.QuietTactic
import Derived.Test.YtgfdbmbgldeljaaGreatMg9
import Derived.WalkKit
namespace Go.Proofs.YtgfdbmbgldeljaaGreat
open Go.RowKit

theorem resvR_ok : ∀ (k : Nat) (l : List UInt8) (r : List SP), resvR k l = (r, 0) → r.all okSp = true
  | 0, l, r, h => by
    unfold resvR at h
    repeat' split at h
    all_goals first | (obtain ⟨rfl, -⟩ := Prod.mk.inj h; rfl) | cases h
  | k + 1, l, r, h => by
    unfold resvR at h
    split at h
    · cases h
    split at h
    · cases h
    split at h
    · obtain ⟨rfl, -⟩ := Prod.mk.inj h; rfl
    · rename_i h1 h2 h3
      split at h
      · rename_i h4
        obtain ⟨rfl, -⟩ := Prod.mk.inj h
        have ih := resvR_ok k (l.drop 16) (resvR k (l.drop 16)).1 (Prod.ext rfl h4)
        have b1 := numAt_bd l 1
        have b3 := numAt_bd l 3
        show (okSp ⟨numAt l 1, numAt l 3⟩ && (resvR k (l.drop 16)).1.all okSp) = true
        rw [ih, Bool.and_true]
        exact okSp_iff.2 ⟨b1.1, by show numAt l 1 ≤ _; omega, b3.1, by show numAt l 3 ≤ _; omega, h3⟩
      · rename_i h4
        obtain ⟨-, h5⟩ := Prod.mk.inj h
        exact absurd h5 h4
theorem resv_ok {s : List UInt8} {a : Int} {r : List SP} (h : resv s a = (r, 0)) : r.all okSp = true ∧ r.length ≤ 16 := by
  have hl := resv_len s a
  rw [h] at hl
  refine ⟨?_, hl⟩
  unfold resv at h
  split at h
  · cases h
  · exact resvR_ok _ _ _ h
theorem partB_len (s : List UInt8) (a n : Int) : (partB s a n).length ≤ s.length := by
  unfold partB partR
  split
  · exact Nat.zero_le _
  · show (ByteArray.extract _ _ _).size ≤ _
    rw [ByteArray.size_extract, size_mk]; omega
theorem w_bare (x : TK) : wT (bare x) = wT x := by
  unfold wT bare
  by_cases h1 : x.kd = 1
  · rw [if_pos h1, if_pos h1, if_pos h1]
  · rw [if_neg h1, if_neg h1]
    by_cases h3 : x.kd = 3
    · rw [if_pos h3, if_pos h3, if_neg h1]
    · rw [if_neg h3, if_neg h3, if_neg h1, if_neg h3]
theorem say_w : ∀ l : List TK, wS (sayR l) ≤ wS l ∧ (sayR l).length ≤ l.length
  | [] => ⟨Nat.le_refl _, Nat.le_refl _⟩
  | x :: l => by
    obtain ⟨h1, h2⟩ := say_w l
    by_cases h4 : x.kd = 4
    · have e : sayR (x :: l) = sayR l := by unfold sayR; rw [List.flatMap_cons, if_pos h4, List.nil_append]
      rw [e, wS, List.length_cons]; omega
    · have e : sayR (x :: l) = bare x :: sayR l := by unfold sayR; rw [List.flatMap_cons, if_neg h4]; rfl
      rw [e, wS, wS, w_bare, List.length_cons, List.length_cons]; omega
theorem say_mem {l : List TK} {y : TK} (h : y ∈ sayR l) : ∃ x ∈ l, y = bare x := by
  unfold sayR at h
  obtain ⟨x, hx, hy⟩ := List.mem_flatMap.1 h
  split at hy
  · cases hy
  · exact ⟨x, hx, List.mem_singleton.1 hy⟩
theorem enc_dec {s : List UInt8} {T : DT} (hs : s.length ≤ 2048) (h : treeD s = (T, 0)) : ∃ b, encR T = (b, 0) ∧ treeD b = (T, 0) := by
  obtain ⟨h0, hf, -⟩ := treeD_ok h
  obtain ⟨d, hd⟩ : ∃ d, readH s = (d, 0) := ⟨_, Prod.ext rfl h0⟩
  obtain ⟨hm, hl1, hl2, hl3, -⟩ := readH_ok hd
  have hm := mayH_iff.1 hm
  unfold treeD at h
  rw [hd, if_neg (by simp)] at h
  unfold bodyD at h
  split at h
  · rename_i h1; exact absurd (congrArg Prod.snd h) h1
  split at h
  · rename_i h1; exact absurd (congrArg Prod.snd h) h1
  split at h
  · rename_i h1; exact absurd (congrArg Prod.snd h) h1
  rename_i h1 h2 h3
  have hT := (Prod.mk.inj h).1
  clear h
  have hsl : (s.take d.tot.toNat).length ≤ 2048 := by rw [List.length_take]; omega
  simp only at h1 h2 h3 hT
  generalize s.take d.tot.toNat = s' at *
  have hpl := Nat.le_trans (partB_len s' d.stc d.siz) hsl
  generalize partB s' d.stc d.siz = pa at *
  generalize partB s' d.sgs d.txs = pb at *
  obtain ⟨l, hr⟩ : ∃ l, readR 1024 pa pb = (l, 0) := ⟨_, Prod.ext rfl (Decidable.not_not.1 h2)⟩
  rw [hr] at h3 hT
  simp only at h3 hT
  obtain ⟨n, ho⟩ : ∃ n, ofR l = (n, 0) := ⟨_, Prod.ext rfl (Decidable.not_not.1 h3)⟩
  obtain ⟨K, hK⟩ : ∃ K, resv s' d.rsv = (K, 0) := ⟨_, Prod.ext rfl (Decidable.not_not.1 h1)⟩
  rw [ho, hK] at hT
  simp only at hT
  subst hT
  obtain ⟨k1, k2⟩ := resv_ok hK
  obtain ⟨t1, -⟩ := tokens_of ho
  obtain ⟨w1, w2⟩ := readR_ok 1024 pa pb l hr
  have w3 := read_w 1024 pa pb l hr
  obtain ⟨y1, y2⟩ := say_w l
  have hall : (tokR 8 n).all okT = true := by
    rw [t1]
    refine List.all_eq_true.2 fun y hy => ?_
    obtain ⟨x, hx, rfl⟩ := say_mem hy
    rw [(w2 x hx).2.1]; exact (w2 x hx).1
  have hv : ∀ x ∈ tokR 8 n, x.vl.size ≤ 1048576 := by
    rw [t1]
    intro y hy
    obtain ⟨x, hx, rfl⟩ := say_mem hy
    rw [(w2 x hx).2.1]
    have := (w2 x hx).2.2
    omega
  have hput : putR (tokR 8 n) = (⟨(putS [] (tokR 8 n) ++ big 9).toArray⟩, ⟨(flat (putB [] (tokR 8 n))).toArray⟩, 0) := putR_good (by rw [t1]; omega) hall
  have q1 := putS_w (tokR 8 n) []
  have q2 := putB_q (tokR 8 n) []
  have q3 := flat_le (okL_putB (tokR 8 n) okL_nil)
  have q4 := q_w (tokR 8 n)
  rw [List.length_nil] at q2
  have q5 : wS (tokR 8 n) ≤ 2044 := by rw [t1]; omega
  have hrP : resP K = (spB K ++ endB, 0) := by unfold resP; rw [if_neg (by omega), if_pos k1]
  have hrl : (spB K ++ endB).length = 16 * K.length + 16 := by rw [List.length_append, spB_len, show endB.length = 16 from rfl]; omega
  have hal : (⟨(putS [] (tokR 8 n) ++ big 9).toArray⟩ : ByteArray).size = wS (tokR 8 n) + 4 := by rw [size_mk, List.length_append, q1, big_len]
  have hbl : (⟨(flat (putB [] (tokR 8 n))).toArray⟩ : ByteArray).size ≤ 6000 := by rw [size_mk]; omega
  have hcc : ¬ 8 < (countR 9 n).c := by
    have := of_decide_eq_true hf
    simp only at this
    omega
  have hex : ∃ b, encR ⟨n, K, d.boo⟩ = (b, 0) := by
    unfold encR
    simp only
    rw [if_neg hcc, if_neg (by simp only at hf; rw [hf]; simp), hrP, hput]
    simp only
    rw [if_neg (by simp), if_neg (by simp), hrl, hal]
    generalize (⟨(flat (putB [] (tokR 8 n))).toArray⟩ : ByteArray).size = bl at *
    generalize wS (tokR 8 n) = al at *
    have u1 := up4_ge (40 + (16 * K.length + 16) + (al + 4) + bl)
    have u2 := up4_lt (40 + (16 * K.length + 16) + (al + 4) + bl)
    have hput2 : (putH (headE (16 * K.length + 16) (al + 4) bl d.boo)).2 = 0 := by
      unfold putH
      rw [if_pos]
      refine ⟨mayH_iff.2 ?_, ?_⟩
      · unfold headE
        simp only
        refine ⟨?_, ?_, ?_, ?_, ?_, ?_, ?_, ?_, ?_, ?_, ?_, ?_, ?_, ?_, ?_⟩ <;> omega
      · unfold headE
        simp only
        omega
    rw [if_neg (by omega), if_neg (by rw [hput2]; simp)]
    exact ⟨_, rfl⟩
  obtain ⟨b, hb⟩ := hex
  refine ⟨b, hb, ?_⟩
  have := (dec_enc (m := []) hv hb).2.2
  rwa [List.append_nil] at this
end Go.Proofs.YtgfdbmbgldeljaaGreat

/- Spans in memory: a slice of them; what the document's inside, Meet and Same return. Conditions: Meet: spans that exist. -/
namespace Go.Proofs.YtgfdbmbgldeljaaGreat
open Go.RowKit

/-- A span lies at a place. -/
def SpAt (w : World) (b o : Nat) (x : SP) : Prop := w.cell? ⟨b, o, none⟩ = some (.int .i64 x.p) ∧ w.cell? ⟨b, o + 1, none⟩ = some (.int .i64 x.n)
/-- The slice at A reads as the spans L. -/
def RdSp (w : World) (A : Option Addr) (L : List SP) : Prop := L = [] ∨ ∃ b off, A = some ⟨b, off, none⟩ ∧ ∀ k, k < L.length → SpAt w b (off + k * 2) (L.getD k sp0)
theorem RdSp.at_ {w : World} {A : Option Addr} {L : List SP} (h : RdSp w A L) {k : Nat} (hk : k < L.length) : ∃ b off x, A = some ⟨b, off, none⟩ ∧ SpAt w b (off + k * 2) x ∧ Hid (L.getD k sp0 = x) := by
  rcases h with rfl | ⟨b, off, rfl, hc⟩
  · simp at hk
  · exact ⟨b, off, _, rfl, hc k hk, rfl⟩
theorem SpAt.below {w w' : World} {b o : Nat} {x : SP} (h : SpAt w b o x) (hb : Below w.heap.size w w') : SpAt w' b o x := by
  obtain ⟨h1, h2⟩ := h
  have hlt : b < w.heap.size := World.block_lt_of_cell? w _ h1
  have e : ∀ j, w'.cell? ⟨b, j, none⟩ = w.cell? ⟨b, j, none⟩ := fun j => World.cell?_of_block (a := ⟨b, j, none⟩) (hb.block b hlt)
  exact ⟨by rw [e]; exact h1, by rw [e]; exact h2⟩
theorem RdSp.below {w w' : World} {A : Option Addr} {L : List SP} (h : RdSp w A L) (hb : Below w.heap.size w w') : RdSp w' A L := by
  rcases h with h | ⟨b, off, rfl, hc⟩
  · exact .inl h
  · exact .inr ⟨b, off, rfl, fun k hk => (hc k hk).below hb⟩
/-- A span as cells, and as a value. -/
def spC (x : SP) : Array Value := #[.int .i64 x.p, .int .i64 x.n]
def spV (x : SP) : Value := .agg #[.int .i64 x.p, .int .i64 x.n]

set_option maxHeartbeats 800000 in
set_option maxRecDepth 100000 in
theorem sameSp_any (A A' : Option Addr) (cap cap' : Nat) (L : List SP) (w : World) (hl : L.length ≤ maxLen) (hr : RdSp w A L) (hr' : RdSp w A' L) :
    Calls Tryz.prog 35 #[.slice A L.length cap, .slice A' L.length cap'] w fun e w' => e = .returned (.bool true) ∧ Below w.heap.size w w' := by
  have hl2 : L.length ≤ 9223372036854775807 := by unfold maxLen at hl; omega
  have HR := Lib.hid hr
  have HR' := Lib.hid hr'
  clear hr hr' hl
  go_enter Tryz.func35, Tryz.ntmps35
  go_wp2
  go_loopw [5] (fun i wr => ∃ k : Nat, k ≤ L.length ∧ i = .int .i64 k ∧ Below w.heap.size w wr) (fun i _ => L.length - (intOf i).toNat)
  case atStart => exact ⟨0, Nat.zero_le _, rfl, Below.refl _ _⟩
  case round =>
    obtain ⟨k, hk, rfl, hb⟩ := hrel
    have hsz := hb.size
    have HB := Lib.hid hb
    clear hb
    by_cases hlt : k < L.length
    · have hki : (k : Int) < L.length := by omega
      obtain ⟨b, off, x, rfl, ⟨h1, h2⟩, HX⟩ := (HR.out.below HB.out).at_ hlt
      obtain ⟨b', off', x', rfl, ⟨g1, g2⟩, HX'⟩ := (HR'.out.below HB.out).at_ hlt
      obtain rfl : x = x' := HX.out.symm.trans HX'.out
      obtain ⟨p, n⟩ := x
      simp only at h1 h2 g1 g2
      go_wp2
      go_quiet (fail)
      have hb2 : Below w.heap.size w (wr.drewN nq) := HB.out.trans ((below_drewN _ _).mono hsz)
      go_wp2
      go_roundw
      case rel => exact ⟨k + 1, by omega, by go_num, hb2⟩
      case measure => simp [intOf]; omega
    · obtain rfl : k = L.length := by omega
      go_wp2
      go_ret
      exact ⟨rfl, HB.out⟩
end Go.Proofs.YtgfdbmbgldeljaaGreat

/- What the document's own FromBigs returns for every string of at most 2^40 bytes. -/
namespace Go.Proofs.YtgfdbmbgldeljaaGreat
open Go.RowKit

theorem info_int : ∃ i, Tryz.prog.info? 3 = some i ∧ i.zero = some (.int .i64 0) ∧ i.size = 1 ∧ i.bytes = 8 := by
  have h : ((Tryz.prog.info? 3).map fun i => (i.zero, i.size, i.bytes)) = some (some (.int .i64 0), 1, 8) := by kernel_rfl
  obtain ⟨i, hi, he⟩ := Option.map_eq_some_iff.1 h
  simp only [Prod.mk.injEq] at he
  exact ⟨i, hi, he.1, he.2.1, he.2.2⟩

theorem extract_tail (s : ByteArray) (a : Nat) : (s.extract a s.size).data.toList = s.data.toList.drop a := by
  have e : (s.extract a s.size).data = s.data.extract a s.size := ByteArray.data_extract
  rw [e, Array.toList_extract]
  have hs : s.size = s.data.toList.length := rfl
  rw [List.extract_eq_take_drop, List.take_of_length_le (by rw [List.length_drop, ← hs]; omega)]
theorem extract_size (s : ByteArray) (a : Nat) : (s.extract a s.size).size = s.size - a := by
  rw [ByteArray.size_extract]; omega

theorem rdI_of_own {w : World} {base : Nat} {v : Value} {n : Nat} {l : List Int} (h : w.ownsRow base 3 1 v n (intVals l)) : ∃ A cap, v = .slice A l.length cap ∧ RdI w.heap.size w A l := by
  obtain ⟨hlen, hv⟩ := h
  have hn : n = l.length := by simp [intVals] at hlen; omega
  subst hn
  rcases hv with ⟨rfl, h0⟩ | ⟨g, cap, cur, rfl, hg, hc, _, _, _, ht⟩
  · exact ⟨none, 0, by rw [h0], .inl (List.length_eq_zero_iff.1 h0)⟩
  · refine ⟨_, cap, rfl, .inr ⟨g, 0, rfl, ?_, fun k hk => ?_⟩⟩
    · exact (Array.getElem?_eq_some_iff.1 hc).1
    · simp only [World.cell?, hc, Nat.zero_add]
      have h1 : (cur.toList.take (l.length * 1))[k]? = (intVals l)[k]? := by rw [ht]
      rw [List.getElem?_take, if_pos (by omega)] at h1
      simp only [intVals, List.getElem?_map, List.getElem?_eq_getElem hk, Option.map_some, Array.getElem?_toList] at h1
      simp [List.getD, List.getElem?_eq_getElem hk, h1]
end Go.Proofs.YtgfdbmbgldeljaaGreat

/- Append of one element of any type, just made, and of a whole slice of one's own, to a slice of one's own. Conditions: fewer than 2^47 bytes. -/
namespace Go.Proofs.YtgfdbmbgldeljaaGreat
open Go.RowKit

/-- What append asks of a slice's type: its elements' type, zero value, cells, bytes. -/
def ElemN (P : Program) (t e : TypeId) (size bytes : Nat) : Prop := P.underlying t = some (.slice e) ∧ ∃ i z, P.info? e = some i ∧ i.zero = some z ∧ i.size = size ∧ i.bytes = bytes ∧ z.cells.size = size ∧ 0 < size
theorem elemN_mk {P : Program} {t e : TypeId} {z : Value} {size bytes : Nat} (h0 : P.underlying t = some (.slice e)) (h : (P.info? e).map (fun i => (i.zero, i.size, i.bytes)) = some (some z, size, bytes)) (hz : z.cells.size = size) (hs : 0 < size) : ElemN P t e size bytes := by
  obtain ⟨i, hi, he⟩ := Option.map_eq_some_iff.1 h
  simp only [Prod.mk.injEq] at he
  exact ⟨h0, i, z, hi, he.1, he.2.1, he.2.2, hz, hs⟩
theorem run_append_none {P : Program} (w : World) (t ty e : TypeId) (i : TypeInfo) (ht : P.underlying t = some (.slice e)) (hi : P.info? e = some i) (A : Option Addr) (n c : Nat) (hc : n ≤ c) :
    (Builtin.append_ #[t, t] ty #[.slice A n c, .slice none 0 0]).run P w = .ok (.slice A n c) w := by
  cases A with
  | none => simp [Builtin.append_, run_underlying ht, sizeOf, typeInfo, hi, Builtin.lenOf, Builtin.firstCells, hc]
  | some a => simp [Builtin.append_, run_underlying ht, sizeOf, typeInfo, hi, Builtin.lenOf, Builtin.firstCells, hc, storeCells]
/-- How an own slice is written. -/
theorem slice_ofN {w : World} {base e size : Nat} {v : Value} {n : Nat} {xs : List Value} (h : w.ownsRow base e size v n xs) : ∃ A cap, v = .slice A n cap ∧ n ≤ cap := by
  rcases h.2 with ⟨h1, h2⟩ | ⟨b, cap, cur, h1, _, _, h2, _⟩
  · exact ⟨none, 0, by rw [h1, h2], by omega⟩
  · exact ⟨_, cap, h1, h2⟩
section
variable {P : Program} {ops : Array Oper} {rest : List Oper} {o : Oper} {a : Act} {Q : Exit → Act → World → Prop} {w : World}
/-- 's = append(s, x)', x just laid in a block of its own. -/
theorem append_new (hgd : o.guard = none) (s y : Operand) (t : TypeId) (ho : o.op = .call { callee := .builtin .append, args := #[s, y], argTypes := #[t, t] })
    (e size bytes : Nat) (hel : Hid (ElemN P t e size bytes)) (v : Value) (n : Nat) (xs : List Value) (hs : a.eval s = v) (hown : w.ownsRow 0 e size v n xs) (cs : Array Value) (hcs : cs.size = size) (h1 : ∀ u ∈ cs.toList, u.oneCell' = true)
    (H : Nat) (hH : w.heap.size = H) (hx : a.eval y = .slice (some ⟨H, 0, none⟩) 1 1) (hm : n + 1 ≤ maxLen) (hb : (n + 1) * bytes ≤ 140737488355328)
    (h : ∀ v' w', w'.ownsRow 0 e size v' (n + 1) (xs ++ cs.toList) → Moved w w' (ownS v) (ownS v') → wpList P ops Q rest (a.put o.dst v') w') : wpList P ops Q (o :: rest) a (w.alloc (.cells cs e)) := by
  subst hH
  obtain ⟨h0, i, z, hi, hz0, hz1, hz2, hz3, hz4⟩ := hel.out
  refine wpList_append_own_at _ hgd s y t ho 0 e i z size bytes h0 hi hz0 hz1 hz2 hz3 hz4 v n xs hs (hown.alloc _) ⟨w.heap.size, 0, none⟩ 1 1 cs.toList hx (by rw [Array.length_toList, hcs]; omega) ?_ h1 hm hb (Nat.zero_le _) ?_
  · intro j u hj
    have e : (⟨w.heap.size, 0, none⟩ : Addr).add j = ⟨w.heap.size, j, none⟩ := by unfold Addr.add; split <;> simp_all
    rw [e, (Arr.new w _ cs).cell, ← hj, Array.getElem?_toList]
  · intro v' w' ho' hg _ hl
    refine h v' w' ho' (Moved.of_grown ((World.grownBy_alloc w _ _).trans hg) ?_)
    rcases hl with hl | hl
    · exact .inl hl
    · rw [sz_alloc] at hl; exact .inr ⟨_, hl, Nat.le_succ _⟩
theorem run_append_row (w : World) (t ty e : TypeId) (size bytes : Nat) (hel : Hid (ElemN P t e size bytes)) (v u : Value) (n m B : Nat) (xs ys : List Value) (hown : w.ownsRow 0 e size v n xs) (hr : w.ownsRow B e size u m ys) (h1 : ∀ x ∈ ys, x.oneCell' = true)
    (hm : n + m ≤ maxLen) (hb : (n + m) * bytes ≤ 140737488355328) :
    ∃ v' w', (Builtin.append_ #[t, t] ty #[v, u]).run P w = .ok v' w' ∧ w'.ownsRow 0 e size v' (n + m) (xs ++ ys) ∧ Moved w w' (ownS v) (ownS v') := by
  obtain ⟨h0, i, z, hi, hz0, hz1, hz2, hz3, hz4⟩ := hel.out
  have hyl := hr.1
  rcases hr.2 with ⟨hu, hz⟩ | ⟨b, cap, cur, hu, _, hg, hnc, _, hcs, hx2⟩
  · subst hz
    have hy0 : ys = [] := List.length_eq_zero_iff.1 (by rw [hyl]; omega)
    subst hy0
    obtain ⟨A, cap, hv, hcap⟩ := slice_ofN hown
    refine ⟨.slice A n cap, w, by rw [hv, hu]; exact run_append_none w t ty e i h0 hi A n cap hcap, ?_, ?_⟩
    · rw [List.append_nil, Nat.add_zero, ← hv]; exact hown
    · rw [← hv]; exact Moved.refl _ _
  · obtain ⟨v', w', hrun, ho', hg', _, hl⟩ := run_append_own_at (P := P) w 0 t ty e i z size bytes h0 hi hz0 hz1 hz2 hz3 hz4 v n xs hown ⟨b, 0, none⟩ m cap ys hyl (by
      intro j u' hj
      have e : (⟨b, 0, none⟩ : Addr).add j = ⟨b, j, none⟩ := by unfold Addr.add; split <;> simp_all
      have hlt : j < m * size := by
        have := (List.getElem?_eq_some_iff.1 hj).1
        rw [hyl] at this; exact this
      rw [e, cell_of_row w b _ cur _ (0, 0) hg, ← hj, ← hx2, List.getElem?_take_of_lt hlt, Array.getElem?_toList]) h1 hm hb (Nat.zero_le _)
    refine ⟨v', w', by rw [hu]; exact hrun, ho', Moved.of_grown hg' ?_⟩
    rcases hl with hl | hl
    · exact .inl hl
    · exact .inr ⟨_, hl, Nat.le_refl _⟩
/-- 's = append(s, r...)', r a slice of some call's own. -/
theorem append_row (hgd : o.guard = none) (s y : Operand) (t : TypeId) (ho : o.op = .call { callee := .builtin .append, args := #[s, y], argTypes := #[t, t] })
    (e size bytes : Nat) (hel : Hid (ElemN P t e size bytes)) (v u : Value) (n m B : Nat) (xs ys : List Value) (hs : a.eval s = v) (hown : w.ownsRow 0 e size v n xs) (hx : a.eval y = u) (hr : w.ownsRow B e size u m ys) (h1 : ∀ x ∈ ys, x.oneCell' = true)
    (hm : n + m ≤ maxLen) (hb : (n + m) * bytes ≤ 140737488355328)
    (h : ∀ v' w', w'.ownsRow 0 e size v' (n + m) (xs ++ ys) → Moved w w' (ownS v) (ownS v') → wpList P ops Q rest (a.put o.dst v') w') : wpList P ops Q (o :: rest) a w := by
  obtain ⟨v', w', hrun, h2, h3⟩ := run_append_row (P := P) w t o.type e size bytes hel v u n m B xs ys hown hr h1 hm hb
  refine wpList_plain hgd fun K hK => ?_
  unfold Oper.wp execOp
  simp only [ho, resolve, invoke, builtin, Sem.run_bind, Sem.run_pure, Result.andThen_ok, List.map_toArray, List.map_cons, List.map_nil, hs, hx, hrun]
  exact hK _ _ (h v' w' h2 h3)
/-- The same in a region that draws its order. -/
theorem step_append_row {K : Act → World → Prop} {E : Prop} (hgd : o.guard = none) (s y : Operand) (t : TypeId) (ho : o.op = .call { callee := .builtin .append, args := #[s, y], argTypes := #[t, t] })
    (e size bytes : Nat) (hel : Hid (ElemN P t e size bytes)) (v u : Value) (n m B : Nat) (xs ys : List Value) (hs : a.eval s = v) (hown : w.ownsRow 0 e size v n xs) (hx : a.eval y = u) (hr : w.ownsRow B e size u m ys) (h1 : ∀ x ∈ ys, x.oneCell' = true)
    (hm : n + m ≤ maxLen) (hb : (n + m) * bytes ≤ 140737488355328)
    (h : ∀ A' cap' w', w'.ownsRow 0 e size (.slice A' (n + m) cap') (n + m) (xs ++ ys) → Moved w w' (ownS v) (ownS (.slice A' (n + m) cap')) → K (a.put o.dst (.slice A' (n + m) cap')) w') : if Region.wanted o (yielded ops a.tmps) = true then Oper.wp P o a w K Q else E := by
  have hw : Region.wanted o (yielded ops a.tmps) = true := by simp [Region.wanted, hgd]
  rw [if_pos hw]
  obtain ⟨v', w', hrun, h2, h3⟩ := run_append_row (P := P) w t o.type e size bytes hel v u n m B xs ys hown hr h1 hm hb
  obtain ⟨A', cap', rfl, _⟩ := slice_ofN h2
  unfold Oper.wp execOp
  simp only [ho, resolve, invoke, builtin, Sem.run_bind, Sem.run_pure, Result.andThen_ok, List.map_toArray, List.map_cons, List.map_nil, hs, hx, hrun]
  exact h A' cap' w' h2 h3
end
end Go.Proofs.YtgfdbmbgldeljaaGreat
