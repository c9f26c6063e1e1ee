/- Slices of tokens in memory, that came in or are the call's own, and append of tokens to one's own. No condition: nothing of the program stands in it but types. -/
import Derived.Test.YtgfdbmbgldeljaaGreatProg
import Derived.Test.YtgfdbmbgldeljaaGreatMg3
import Derived.Test.YtgfdbmbgldeljaaGreatMg8
import Derived.Test.YtgfdbmbgldeljaaGreatMg9
import Derived.WalkKit
import Derived.WalkSpells
import Derived.Deep.RegionHeld3
import Derived.Deep.WholeRow
import Derived.Test.YtgfdbmbgldeljaaGreatMg11
import Derived.Test.YtgfdbmbgldeljaaGreatMg0
import Derived.Laws.ResultCell
import Derived.Deep.RegionWith
import Derived.BigQuiet
import Derived.Deep.DeepCutAuto
import Derived.Test.YtgfdbmbgldeljaaGreatMg10
import Derived.IntWalk
namespace Go.Proofs.YtgfdbmbgldeljaaGreat
open Go.RowKit

/-- A token as cells, and as a value. -/
def tkC (x : TK) : Array Value := #[.int .i64 x.kd, .string x.nm, .string x.vl]
def tkV (x : TK) : Value := .agg #[.int .i64 x.kd, .string x.nm, .string x.vl]
theorem infoTk (x : TK) : (Tryz.prog.info? 88).map (·.size) = some (tkC x).size := by show _ = some 3; kernel_rfl
theorem tkC_one (x : TK) : (tkC x).all (·.oneCell') = true := by
  rw [Array.all_eq_true_iff_forall_mem]
  intro v hv
  simp [tkC] at hv
  rcases hv with rfl | rfl | rfl <;> rfl
/-- A token lies at a place. -/
def TkAt (w : World) (b o : Nat) (x : TK) : Prop := w.cell? ⟨b, o, none⟩ = some (.int .i64 x.kd) ∧ w.cell? ⟨b, o + 1, none⟩ = some (.string x.nm) ∧ w.cell? ⟨b, o + 2, none⟩ = some (.string x.vl)
/-- The slice at A reads as the tokens l. -/
def RdTk (w : World) (A : Option Addr) (l : List TK) : Prop := l = [] ∨ ∃ b off, A = some ⟨b, off, none⟩ ∧ ∀ k, k < l.length → TkAt w b (off + k * 3) (l.getD k tk0)
theorem RdTk.at_ {w : World} {A : Option Addr} {l : List TK} (h : RdTk w A l) {k : Nat} (hk : k < l.length) : ∃ b off x, A = some ⟨b, off, none⟩ ∧ TkAt w b (off + k * 3) x ∧ Hid (l.getD k tk0 = x) := by
  rcases h with rfl | ⟨b, off, rfl, hc⟩
  · simp at hk
  · exact ⟨b, off, _, rfl, hc k hk, rfl⟩
theorem TkAt.below {w w' : World} {b o : Nat} {x : TK} (h : TkAt w b o x) (hb : Below w.heap.size w w') : TkAt w' b o x := ⟨cellK_below h.1 hb, cellK_below h.2.1 hb, cellK_below h.2.2 hb⟩
theorem RdTk.below {w w' : World} {A : Option Addr} {l : List TK} (h : RdTk w A l) (hb : Below w.heap.size w w') : RdTk w' A l := by
  rcases h with h | ⟨b, off, rfl, hc⟩
  · exact .inl h
  · exact .inr ⟨b, off, rfl, fun k hk => (hc k hk).below hb⟩
/-- Tokens as cells. -/
def tkl (x : TK) : List Value := [.int .i64 x.kd, .string x.nm, .string x.vl]
def tkL (l : List TK) : List Value := l.flatMap tkl
theorem tkL_snoc (l : List TK) (x : TK) : tkL (l ++ [x]) = tkL l ++ tkl x := by simp [tkL]
theorem tkL_length (l : List TK) : (tkL l).length = l.length * 3 := by
  induction l with
  | nil => rfl
  | cons x l ih => show (tkl x ++ tkL l).length = _; rw [List.length_append, ih, List.length_cons]; simp only [tkl, List.length_cons, List.length_nil]; omega
theorem tkL_at (l : List TK) {k : Nat} (hk : k < l.length) : (tkL l)[k * 3]? = some (.int .i64 (l.getD k tk0).kd) ∧ (tkL l)[k * 3 + 1]? = some (.string (l.getD k tk0).nm) ∧ (tkL l)[k * 3 + 2]? = some (.string (l.getD k tk0).vl) := by
  induction l generalizing k with
  | nil => simp at hk
  | cons x l ih =>
    show (tkl x ++ tkL l)[k * 3]? = _ ∧ (tkl x ++ tkL l)[k * 3 + 1]? = _ ∧ (tkl x ++ tkL l)[k * 3 + 2]? = _
    match k, hk with
    | 0, _ => exact ⟨rfl, rfl, rfl⟩
    | k + 1, hk =>
      have := ih (k := k) (by simpa using hk)
      rw [show (k + 1) * 3 = k * 3 + 1 + 1 + 1 by omega]
      simp only [tkl, List.cons_append, List.nil_append, List.getElem?_cons_succ, List.getD_cons_succ]
      exact this
theorem row_rdTk {w : World} {base : Nat} {v : Value} {l : List TK} (h : w.ownsRow base 88 3 v l.length (tkL l)) : ∃ A cap, v = .slice A l.length cap ∧ RdTk w A l := by
  rcases h.2 with ⟨rfl, hz⟩ | ⟨b, cap, cur, rfl, _, hg, _, _, _, hx⟩
  · exact ⟨none, 0, by rw [hz], .inl (List.length_eq_zero_iff.1 hz)⟩
  · refine ⟨_, cap, rfl, .inr ⟨b, 0, rfl, fun k hk => ?_⟩⟩
    obtain ⟨h1, h2, h3⟩ := tkL_at l hk
    have e : ∀ j, j < l.length * 3 → cur[j]? = (tkL l)[j]? := fun j hj => by
      rw [← hx, List.getElem?_take_of_lt hj, Array.getElem?_toList]
    refine ⟨?_, ?_, ?_⟩
    · rw [Nat.zero_add, cell_of_row w b _ cur _ (0, 0) hg, e _ (by omega), h1]
    · rw [Nat.zero_add, cell_of_row w b _ cur _ (0, 0) hg, e _ (by omega), h2]
    · rw [Nat.zero_add, cell_of_row w b _ cur _ (0, 0) hg, e _ (by omega), h3]
/-- 'l = append(l, x)', x a token. -/
theorem append_tk {ops : Array Oper} {rest : List Oper} {o : Oper} {a : Act} {Q : Exit → Act → World → Prop} {w : World} (hgd : o.guard = none) (s y : Operand)
    (ho : o.op = .call { callee := .builtin .append, args := #[s, y], argTypes := #[48, 48] })
    (x : TK) (v : Value) (l : List TK) (hs : a.eval s = v) (hown : w.ownsRow 0 88 3 v l.length (tkL l)) (H : Nat) (hH : w.heap.size = H) (hx : a.eval y = .slice (some ⟨H, 0, none⟩) 1 1)
    (hn : l.length ≤ 1099511627776)
    (h : ∀ v' w', w'.ownsRow 0 88 3 v' (l ++ [x]).length (tkL (l ++ [x])) → Moved w w' (ownS v) (ownS v') → wpList Tryz.prog ops Q rest (a.put o.dst v') w') : wpList Tryz.prog ops Q (o :: rest) a (w.alloc (.cells (tkC x) 88)) := by
  subst hH
  have hinf : ((Tryz.prog.info? 88).map fun i => (i.zero, i.size, i.bytes)) = some (some (tkV tk0), 3, 40) := by kernel_rfl
  obtain ⟨i, hi, he⟩ := Option.map_eq_some_iff.1 hinf
  simp only [Prod.mk.injEq] at he
  refine wpList_append_own_at _ hgd s y 48 ho 0 88 i (tkV tk0) 3 40 Tryz.underlying48 hi he.1 he.2.1 he.2.2 rfl (by decide) v l.length (tkL l) hs (hown.alloc _) ⟨w.heap.size, 0, none⟩ 1 1 (tkl x) hx rfl ?_ ?_ (by unfold maxLen; omega) (by omega) (Nat.zero_le _) ?_
  · intro j u hj
    have hA := Arr.new w 88 (tkC x)
    have hlt := (List.getElem?_eq_some_iff.1 hj).1
    have e : (⟨w.heap.size, 0, none⟩ : Addr).add j = ⟨w.heap.size, j, none⟩ := by unfold Addr.add; split <;> simp_all
    rw [e, hA.cell, ← hj]
    show (tkl x).toArray[j]? = _
    rw [List.getElem?_toArray]
  · intro u hu; simp [tkl] at hu; rcases hu with rfl | rfl | rfl <;> rfl
  · intro v' w' ho' hg _ hl
    refine h v' w' (by rw [tkL_snoc, List.length_append]; exact ho') (Moved.of_grown ((World.grownBy_alloc w _ _).trans hg) ?_)
    rcases hl with hl | hl
    · exact .inl hl
    · rw [sz_alloc] at hl; exact .inr ⟨_, hl, Nat.le_succ _⟩
end Go.Proofs.YtgfdbmbgldeljaaGreat

/- What the document's pad and prop return. Conditions: strings of at most 2^40 bytes. -/
namespace Go.Proofs.YtgfdbmbgldeljaaGreat
open Go.RowKit

/-- How long a string is. -/
def strLen : Value → Nat
  | .string t => t.size
  | _ => 0

set_option maxHeartbeats 800000 in
set_option maxRecDepth 100000 in
theorem rpad_any (s : ByteArray) (w : World) (hl : s.size ≤ 1099511627776) : Calls Tryz.prog 48 #[.string s] w fun e w' => e = .returned (.string ⟨(padL s.data.toList).toArray⟩) ∧ w = w' := by
  have hlen : s.data.toList.length = s.size := rfl
  have h4 := up4_lt s.size
  have h4' := up4_ge s.size
  have HMOD : Hid (up4 s.size % 4 = 0) := by unfold Hid up4; omega
  have HEND : Hid (∀ k, (s.size + k) % 4 = 0 → k ≤ up4 s.size - s.size → (⟨(padL s.data.toList).toArray⟩ : ByteArray) = ⟨(s.data.toList ++ List.replicate k 0).toArray⟩) := by
    intro k h1 h2
    unfold padL
    have h3 := HMOD.out
    have e : up4 s.size - s.size = k := by unfold up4 at *; omega
    rw [hlen, e]
  generalize (ByteArray.mk (padL s.data.toList).toArray) = R at *
  have HS0 : Hid (s = ⟨(s.data.toList ++ List.replicate 0 0).toArray⟩) := by unfold Hid; rw [List.replicate_zero, List.append_nil]
  go_enter Tryz.func48, Tryz.ntmps48
  go_wp2
  go_loop [0] (fun v => ∃ k : Nat, k ≤ up4 s.size - s.size ∧ v = .string ⟨(s.data.toList ++ List.replicate k 0).toArray⟩) (fun v => up4 s.size - strLen v)
  case atStart => exact ⟨0, Nat.zero_le _, by rw [← HS0.out]⟩
  case round =>
    obtain ⟨k, hk, rfl⟩ := hrel
    have hsz : (ByteArray.mk (s.data.toList ++ List.replicate k 0).toArray).size = s.size + k := by rw [size_mk, List.length_append, List.length_replicate, hlen]
    have hadd : ∀ W, (Op.stringOp .add ⟨(s.data.toList ++ List.replicate k 0).toArray⟩ ⟨#[0]⟩).run Tryz.prog W = .ok (.string ⟨(s.data.toList ++ List.replicate (k + 1) 0).toArray⟩) W := fun W => by
      rw [run_string_add_sum W _ _ (by rw [hsz]; show s.size + k + 1 ≤ _; omega), show (⟨#[0]⟩ : ByteArray) = ⟨[(0 : UInt8)].toArray⟩ from rfl, ByteArray.mk_append_mk, List.append_assoc, List.replicate_succ']
    have hsz1 : (ByteArray.mk (s.data.toList ++ List.replicate (k + 1) 0).toArray).size = s.size + (k + 1) := by rw [size_mk, List.length_append, List.length_replicate, hlen]
    by_cases hz : (s.size + k) % 4 = 0
    · have HE := Lib.hid (HEND.out k hz hk)
      clear hadd hsz1 HS0 HEND
      generalize (ByteArray.mk (s.data.toList ++ List.replicate k 0).toArray) = T at *
      have d1 : (((T.size : Nat) : Int) % 4 != 0) = false := by rw [hsz]; simp; omega
      clear hsz
      go_wp2
      go_ret
      exact ⟨by rw [HE.out]; rfl, rfl⟩
    · have hk1 : k + 1 ≤ up4 s.size - s.size := by have := HMOD.out; unfold up4 at *; omega
      obtain ⟨T', hT'⟩ : ∃ T', T' = ByteArray.mk (s.data.toList ++ List.replicate (k + 1) 0).toArray := ⟨_, rfl⟩
      rw [← hT'] at hadd hsz1
      have HT' := Lib.hid hT'
      clear HS0 HEND hT'
      generalize (ByteArray.mk (s.data.toList ++ List.replicate k 0).toArray) = T at *
      have d1 : (((T.size : Nat) : Int) % 4 != 0) = true := by rw [hsz]; simp; omega
      go_wp2
      go_round
      case rel => exact ⟨k + 1, hk1, by rw [HT'.out]⟩
      case measure => simp only [strLen]; omega

/-- How prop's ends are told. -/
theorem propR_short {l tx : List UInt8} (h : l.length < 8 ∨ l.length < 8 + up4 (pSz l)) : propR l tx = (tk0, 0, 14) := by
  unfold propR
  rcases h with h | h
  · rw [if_pos h]
  · by_cases h8 : l.length < 8
    · rw [if_pos h8]
    · rw [if_neg h8, if_pos h]
theorem propR_long {l tx : List UInt8} (h : ¬ (l.length < 8 ∨ l.length < 8 + up4 (pSz l))) : propR l tx =
    if (decide ((getR tx (frombig (l.drop 4))).2 = 0) && mayB (getR tx (frombig (l.drop 4))).1 && zerosB ((l.take (8 + up4 (pSz l))).drop (8 + pSz l))) = true then
    (⟨3, (getR tx (frombig (l.drop 4))).1, ⟨((l.take (8 + pSz l)).drop 8).toArray⟩⟩, 8 + up4 (pSz l), 0) else (tk0, 0, 6) := by unfold propR; rw [if_neg (by omega), if_neg (by omega)]
theorem cut_mid (s : ByteArray) (a b : Nat) : s.extract a b = ⟨((s.data.toList.take b).drop a).toArray⟩ := by rw [ba_eq (s.extract a b), ext_list]
theorem getR_size (l : List UInt8) (p : Int) : (getR l p).1.size ≤ l.length := by
  unfold getR
  split
  · exact Nat.zero_le _
  · split
    · rw [size_mk, List.length_take, List.length_drop]; omega
    · exact Nat.zero_le _
/-- Three results, the first a struct of the call's own. -/
theorem results_cell_tmp2 {fn : Func} {p u v : Tmp} {ty : TypeId} (h : fn.results = #[.cell p ty, .tmp u, .tmp v]) (tmps : Array Value) (P : Program) (w : World) :
    (results fn tmps).run P w = ((asAddr (tmps.getD p undef)).run P w).andThen fun a w₁ => ((loadVar ty a).run P w₁).andThen fun x w₂ => .ok (.tuple #[x, tmps.getD u undef, tmps.getD v undef]) w₂ := by
  simp only [results, h]
  simp [Sem.run_bind, Result.andThen]
theorem results_row_tmp2 {P : Program} {fn : Func} {p u v : Tmp} {ty : TypeId} (h : fn.results = #[.cell p ty, .tmp u, .tmp v]) (tmps : Array Value) (w : World) (g : Nat) (t : TypeId) (cs : Array Value) (fr : Nat × Nat) (d : TypeDesc)
    (hp : tmps.getD p undef = .pointer (some ⟨g, 0, none⟩)) (hg : w.heap[g]? = some (.cells cs t fr))
    (hu : P.underlying ty = some d) (hd : (match d with | .struct _ | .array _ _ => true | _ => false) = true) (hi : (P.info? ty).map (·.size) = some cs.size) :
    (results fn tmps).run P w = .ok (.tuple #[.agg cs, tmps.getD u undef, tmps.getD v undef]) w := by
  rw [results_cell_tmp2 h, hp]
  simp [asAddr, run_loadVar_row w g t ty cs fr d hg hu hd hi, Result.andThen]
end Go.Proofs.YtgfdbmbgldeljaaGreat

/- What the document's Few, Same, Plain and Bare of tokens return. Conditions: slices that read as tokens; Plain: at most 2000 of them. -/

namespace Go.Proofs.YtgfdbmbgldeljaaGreat
open Go.RowKit

/-- Are there few tokens, of few bytes? -/
def few10 (l : List TK) : Bool := decide (l.length ≤ 60 ∧ ∀ k, k < l.length → (l.getD k tk0).nm.size ≤ 100 ∧ (l.getD k tk0).vl.size ≤ 300)
theorem few10_len {l : List TK} (h : few10 l = true) : l.length ≤ 60 ∧ ∀ k, k < l.length → (l.getD k tk0).nm.size ≤ 100 ∧ (l.getD k tk0).vl.size ≤ 300 := of_decide_eq_true h
theorem plain_snoc (l : List TK) {k : Nat} (hk : k < l.length) {x : TK} (hx : l.getD k tk0 = x) : plainR (l.take (k + 1)) = if x.kd = 4 then plainR (l.take k) else plainR (l.take k) ++ [x] := by
  have e : l.take (k + 1) = l.take k ++ [x] := by
    rw [List.take_succ_eq_append_getElem hk, ← hx, List.getD_eq_getElem?_getD, List.getElem?_eq_getElem hk]; rfl
  rw [e]
  unfold plainR
  rw [List.filter_append]
  by_cases h : x.kd = 4 <;> simp [h]
theorem plain_len (l : List TK) : (plainR l).length ≤ l.length := List.length_filter_le _ _
end Go.Proofs.YtgfdbmbgldeljaaGreat

/- What the document's Few, Same, Plain and Bare return (TkSC), beside its pad and prop (TkB). No condition: nothing stands in it. -/
namespace Go.Proofs.YtgfdbmbgldeljaaGreat
end Go.Proofs.YtgfdbmbgldeljaaGreat

/- What the document's Read returns. Conditions: strings of at most 2^40 bytes. -/
namespace Go.Proofs.YtgfdbmbgldeljaaGreat
open Go.RowKit

theorem beginR_le {l : List UInt8} : (beginR l).2.1 ≤ l.length := by
  unfold beginR
  split
  · exact Nat.zero_le _
  · split
    · show up4 (z0 l + 1) ≤ l.length; omega
    · exact Nat.zero_le _
theorem propR_le {l tx : List UInt8} : (propR l tx).2.1 ≤ l.length := by
  unfold propR
  split
  · exact Nat.zero_le _
  · split
    · exact Nat.zero_le _
    · split
      · show 8 + up4 (pSz l) ≤ l.length; omega
      · exact Nat.zero_le _
/-- What stands at the beginning, by its kind. -/
theorem step_1 {l tx : List UInt8} {s : ByteArray} {n e : Nat} (h4 : ¬ l.length < 4) (hk : frombig l = 1) (hb : beginR (l.drop 4) = (s, n, e)) : (e ≠ 0 → stepR l tx = .err e) ∧ (e = 0 → stepR l tx = .tok ⟨1, s, ByteArray.empty⟩ n) := by
  unfold stepR
  rw [if_neg h4, if_pos hk, hb]
  exact ⟨fun h => if_neg h, fun h => if_pos h⟩
theorem step_3 {l tx : List UInt8} {t : TK} {n e : Nat} (h4 : ¬ l.length < 4) (hk : frombig l = 3) (hb : propR (l.drop 4) tx = (t, n, e)) : (e ≠ 0 → stepR l tx = .err e) ∧ (e = 0 → stepR l tx = .tok t n) := by
  unfold stepR
  rw [if_neg h4, if_neg (by omega), if_pos hk, hb]
  exact ⟨fun h => if_neg h, fun h => if_pos h⟩
theorem step_24 {l tx : List UInt8} (h4 : ¬ l.length < 4) (hk : frombig l = 2 ∨ frombig l = 4) : stepR l tx = .tok ⟨frombig l, ByteArray.empty, ByteArray.empty⟩ 0 := by
  unfold stepR
  rw [if_neg h4, if_neg (by omega), if_neg (by omega), if_pos hk]
theorem step_9 {l tx : List UInt8} (h4 : ¬ l.length < 4) (hk : frombig l = 9) : (l.drop 4 = [] → stepR l tx = .stop) ∧ (l.drop 4 ≠ [] → stepR l tx = .err 6) := by
  unfold stepR
  rw [if_neg h4, if_neg (by omega), if_neg (by omega), if_neg (by omega), if_pos hk]
  exact ⟨fun h => if_pos h, fun h => if_neg h⟩
theorem step_no {l tx : List UInt8} (h4 : ¬ l.length < 4) (h1 : frombig l ≠ 1) (h3 : frombig l ≠ 3) (h24 : ¬ (frombig l = 2 ∨ frombig l = 4)) (h9 : frombig l ≠ 9) : stepR l tx = .err 6 := by
  unfold stepR
  rw [if_neg h4, if_neg h1, if_neg h3, if_neg h24, if_neg h9]
/-- A result in memory. -/
def Got10 (B : Nat) (w : World) (v : Value) (r : List TK) : Prop := w.ownsRow B 88 3 v r.length (tkL r)
theorem got_nil (B : Nat) (w : World) : Got10 B w (.slice none 0 0) [] := World.ownsRow_nil _ _ _ _

end Go.Proofs.YtgfdbmbgldeljaaGreat

/- What the document's Few of strings returns. Conditions: a slice that reads as strings. -/
namespace Go.Proofs.YtgfdbmbgldeljaaGreat
open Go.RowKit

/-- Are there few strings, of few bytes? -/
def few9 (l : List ByteArray) : Bool := decide (l.length ≤ 40 ∧ ∀ k, k < l.length → (l.getD k ByteArray.empty).size ≤ 100)
theorem few9_len {l : List ByteArray} (h : few9 l = true) : l.length ≤ 40 := (of_decide_eq_true h).1
theorem few9_each {l : List ByteArray} (h : few9 l = true) : ∀ k, k < l.length → (l.getD k ByteArray.empty).size ≤ 100 := (of_decide_eq_true h).2
end Go.Proofs.YtgfdbmbgldeljaaGreat

/- What the document's Offsets, Few and SameInts return, and that awake() of layer 9's statements returns true. Conditions: Offsets: a slice that reads as at most 40 strings, each of which fits; SameInts: two slices that read as the same numbers. -/
namespace Go.Proofs.YtgfdbmbgldeljaaGreat
open Go.RowKit

/-- A Block of the document's that the call has made, and a slice of places beside it. -/
def Ox9 (B : Nat) (w : World) (g : Nat) (u : Value) (L : List ByteArray) (P : List Nat) : Prop :=
  ∃ lv av, RX w g lv av L ∧ (∀ k, fpX g lv av k → B ≤ k) ∧ w.ownsRow 0 3 1 u P.length (natV P) ∧ (∀ k, u.ownBlock = some k → B ≤ k ∧ ¬ fpX g lv av k)
theorem own_lt {w : World} {base e size n : Nat} {u : Value} {xs : List Value} (ho : w.ownsRow base e size u n xs) {k : Nat} (hk : u.ownBlock = some k) : k < w.heap.size := by
  obtain ⟨cur, hc⟩ := ow_type ho hk
  exact (Array.getElem?_eq_some_iff.1 hc).1
section
variable {B : Nat} {w w' : World} {g : Nat} {u u' : Value} {L : List ByteArray} {P P' : List Nat}
theorem ox9_add (h : Ox9 B w g u L P) (hB : B ≤ w.heap.size) (s : ByteArray) (hs : s.size ≤ maxLen) (hL : L.length ≤ 1073741824) :
    Calls Tryz.prog 49 #[.pointer (some ⟨g, 0, none⟩), .string s] w fun e w' => e = .returned (.tuple #[.int .i64 ((addV L s).1 : Int), .int .i64 ((addV L s).2 : Int)]) ∧ Ox9 B w' g u (addA L s) P ∧ Below B w w' := by
  obtain ⟨lv, av, h1, h2, h3, h4⟩ := h
  refine (radd_any g lv av L s w h1 hs hL).mono ?_
  rintro e w' ⟨he, lv', av', hb, hm⟩
  refine ⟨he, ⟨lv', av', hb, fun k hk => ?_, hm.row h3 (fun k hk => (h4 k hk).2), fun k hk => ⟨(h4 k hk).1, fun hf => ?_⟩⟩, hm.below h2 hB⟩
  · rcases hm.foot k hk with h5 | h5
    · exact h2 k h5
    · exact Nat.le_trans hB h5
  · rcases hm.foot k hf with h5 | h5
    · exact (h4 k hk).2 h5
    · have := own_lt h3 hk; omega
theorem ox9_put (h : Ox9 B w g u L P) (hB : B ≤ w.heap.size) (ho : w'.ownsRow 0 3 1 u' P'.length (natV P')) (hm : Moved w w' (ownS u) (ownS u')) : Ox9 B w' g u' L P' ∧ Below B w w' := by
  obtain ⟨lv, av, h1, h2, h3, h4⟩ := h
  refine ⟨⟨lv, av, h1.kept hm (fun k hk hu => (h4 k hu).2 hk), h2, ho, fun k hk => ?_⟩, hm.below (fun k hk => (h4 k hk).1) hB⟩
  rcases hm.foot k hk with h5 | h5
  · exact h4 k h5
  · exact ⟨Nat.le_trans hB h5, fun hf => by have := h1.lt hf; omega⟩
theorem ox9_cell (h : Ox9 B w g u L P) : w.cell? ⟨g, 2, none⟩ = some (.string ⟨(flat L).toArray⟩) := by
  obtain ⟨lv, av, h1, _⟩ := h
  exact h1.1.cell 2
theorem ox9_row (h : Ox9 B w g u L P) : w.ownsRow 0 3 1 u P.length (natV P) ∧ w.ownsRow B 3 1 u P.length (natV P) := by
  obtain ⟨lv, av, _, _, h3, h4⟩ := h
  exact ⟨h3, ow_base h3 (fun k hk => (h4 k hk).1)⟩
theorem ox9_new (w : World) : Ox9 w.heap.size (w.alloc (.cells #[.slice none 0 0, .slice none 0 0, .string ⟨#[]⟩] 98)) w.heap.size (.slice none 0 0) [] [] :=
  ⟨.slice none 0 0, .slice none 0 0, ⟨Arr.new _ _ _, World.ownsRow_nil _ _ _ _, World.ownsRow_nil _ _ _ _, okL_nil⟩, (fun k hk => by
    rcases hk with hk | hk | hk
    · exact Nat.le_of_eq hk.symm
    · cases hk
    · cases hk), World.ownsRow_nil _ _ _ _, (fun _ hk => by cases hk)⟩
end

end Go.Proofs.YtgfdbmbgldeljaaGreat
