/- The document's Block in memory: its strings, their places, its bytes; what its Add does. Conditions: at most 2^30 strings are there, and the string to be added fits. -/
import Derived.Test.YtfcclppgjfkfoaaGreatDoorMg18
import Derived.Test.YtfcclppgjfkfoaaGreatDoorMg13
import Derived.Test.YtfcclppgjfkfoaaGreatDoorMg1
import Derived.Test.YtfcclppgjfkfoaaGreatDoorMg2
import Derived.Test.YtfcclppgjfkfoaaGreatDoorMg6
import Derived.Laws.ResultCell
import Derived.Deep.RegionWith
import Derived.Deep.RegionHeld3
import Derived.Deep.WholeRow
import Derived.Test.YtfcclppgjfkfoaaGreatDoorMg4
import Derived.BigQuiet
import Derived.Test.YtfcclppgjfkfoaaGreatDoorMg17
import Derived.Deep.DeepCutAuto
import Derived.Test.YtfcclppgjfkfoaaGreatDoorMg3
import Derived.Test.YtfcclppgjfkfoaaGreatDoorProg
import Derived.WalkKit
import Derived.IntWalk
namespace Go.Proofs.YtfcclppgjfkfoaaGreatDoor
open Go.RowKit

theorem elemT : ElemIs Tryz.prog 22 9 (.string ByteArray.empty) 16 := elemIs_mk Tryz.underlying22 rfl (by kernel_rfl)
theorem str_eq {a b : ByteArray} : (a.toList == b.toList) = decide (a = b) := by
  by_cases h : a = b
  · subst h; simp
  · have : ¬ a.toList = b.toList := fun e => h (by
      rw [ByteArray.toList_eq, ByteArray.toList_eq] at e
      exact ByteArray.ext (Array.ext' e))
    simp [h, this]
theorem row_rdT {w : World} {base e : Nat} {v : Value} {l : List ByteArray} (h : w.ownsRow base e 1 v l.length (l.map Value.string)) : ∃ A cap, v = .slice A l.length cap ∧ RdT w A l := by
  rcases h.2 with ⟨rfl, hz⟩ | ⟨g, cap, cur, rfl, hb, hg, _, _, _, hx⟩
  · exact ⟨none, 0, by rw [hz], .inl (List.length_eq_zero_iff.1 hz)⟩
  · refine ⟨_, cap, rfl, .inr ⟨g, 0, rfl, fun k hk => ?_⟩⟩
    rw [Nat.zero_add, cell_of_row w g k cur _ (0, 0) hg]
    have e : (cur.toList.take (l.length * 1))[k]? = (l.map Value.string)[k]? := by rw [hx]
    rw [List.getElem?_take_of_lt (by omega)] at e
    rw [← Array.getElem?_toList, e]
    simp [hk]
theorem row_rdK {w : World} {base e : Nat} {v : Value} {P : List Nat} (h : w.ownsRow base e 1 v P.length (natV P)) : ∃ A cap, v = .slice A P.length cap ∧ RdK .i64 w A (P.map Int.ofNat) := by
  rcases h.2 with ⟨rfl, hz⟩ | ⟨g, cap, cur, rfl, hb, hg, _, _, _, hx⟩
  · exact ⟨none, 0, by rw [hz], .inl (by simpa using List.length_eq_zero_iff.1 hz)⟩
  · refine ⟨_, cap, rfl, .inr ⟨g, 0, rfl, fun k hk => ?_⟩⟩
    rw [List.length_map] at hk
    rw [Nat.zero_add, cell_of_row w g k cur _ (0, 0) hg]
    have e : (cur.toList.take (P.length * 1))[k]? = (natV P)[k]? := by rw [hx]
    rw [List.getElem?_take_of_lt (by omega)] at e
    rw [← Array.getElem?_toList, e]
    simp [natV, hk]

def fpX (g : Nat) (lv av : Value) (k : Nat) : Prop := k = g ∨ lv.ownBlock = some k ∨ av.ownBlock = some k
section
variable {w w' : World} {g : Nat} {lv av lv' av' : Value} {L : List ByteArray} {F F' : Nat → Prop}
theorem fpX_cell (h : w.grownBy w' (some g)) : Moved w w' (fpX g lv av) (fpX g lv av) :=
  Moved.grown h (fun k hk => by injection hk with hk; exact .inl hk.symm) (fun _ hk => .inl hk)
theorem fpX_l (h : Moved w w' (ownS lv) (ownS lv')) : Moved w w' (fpX g lv av) (fpX g lv' av) :=
  h.inside (fun _ hk => .inr (.inl hk)) (fun k hk => by
    rcases hk with hk | hk | hk
    · exact .inl (.inl hk)
    · exact .inr (.inl hk)
    · exact .inl (.inr (.inr hk)))
theorem fpX_a (h : Moved w w' (ownS av) (ownS av')) : Moved w w' (fpX g lv av) (fpX g lv av') :=
  h.inside (fun _ hk => .inr (.inr hk)) (fun k hk => by
    rcases hk with hk | hk | hk
    · exact .inl (.inl hk)
    · exact .inl (.inr (.inl hk))
    · exact .inr (.inl hk))
end
/-- A row of another kind stays while an own slice grows. -/
theorem row_beside {w w' : World} {u u' v : Value} {base e e' size size' base' n n' : Nat} {xs ys : List Value} (h : w.ownsRow base e size v n xs) (ho : w.ownsRow base' e' size' u n' ys) (hne : e ≠ e') (hm : Moved w w' (ownS u) (ownS u')) : w'.ownsRow base e size v n xs :=
  hm.row h (fun k hk hu => by
    rcases ow_ow h ho hne with h1 | h1
    · rw [h1] at hk; cases hk
    · exact h1 (by rw [hk]; exact hu.symm))
theorem arr_beside {w w' : World} {u u' : Value} {g t : Nat} {cs : Array Value} {e' size' base' n' : Nat} {ys : List Value} (h : Arr w g t cs) (ho : w.ownsRow base' e' size' u n' ys) (hne : t ≠ e') (hm : Moved w w' (ownS u) (ownS u')) : Arr w' g t cs :=
  hm.arr h (fun hk => ow_arr h ho hne hk.symm)
theorem posn_map_snoc {L : List ByteArray} {s : ByteArray} (h : thereB L s = false) : natV ((L ++ [s]).map (posn (L ++ [s]))) = natV (L.map (posn L)) ++ [.int .i64 ((flat L).length : Int)] := by
  rw [List.map_append, List.map_cons, List.map_nil, natV_snoc, posn_snoc L s (thereB_not.1 h)]
  congr 2
  exact List.map_congr_left (fun x hx => posn_app L [s] x hx)
theorem flat_str (L : List ByteArray) (s : ByteArray) : (⟨(flat L).toArray⟩ : ByteArray) ++ s ++ (⟨#[0]⟩ : ByteArray) = ⟨(flat (L ++ [s])).toArray⟩ := by
  apply ByteArray.ext
  apply Array.ext'
  rw [ByteArray.data_append, ByteArray.data_append, Array.toList_append, Array.toList_append, flat_app, flat_one]
  simp

end Go.Proofs.YtfcclppgjfkfoaaGreatDoor

/- What the document's zeros, Node, begin and pad return. Conditions: strings of at most 2^40 bytes. -/
namespace Go.Proofs.YtfcclppgjfkfoaaGreatDoor
open Go.RowKit

theorem byte_at (s : ByteArray) (k : Nat) (h : k < s.size) : s.data.toList.getD k 0 = s[k] := by rw [List.getD_eq_getElem?_getD, List.getElem?_eq_getElem (by simpa using h)]; rfl

theorem up_of (n : Nat) (h : n ≤ 9007199254740992) : upOf (n : Int) = (up4 n : Int) := by unfold upOf up4; rw [if_neg (by omega)]; omega
/-- How begin's three ends are told. -/
theorem beginR_short {l : List UInt8} (h : l.length ≤ z0 l ∨ l.length < up4 (z0 l + 1)) : beginR l = (ByteArray.empty, 0, 14) := by unfold beginR; rw [if_pos h]
theorem beginR_long {l : List UInt8} (h : ¬ (l.length ≤ z0 l ∨ l.length < up4 (z0 l + 1))) : beginR l = if (nodeB ⟨(l.take (z0 l)).toArray⟩ && zerosB ((l.take (up4 (z0 l + 1))).drop (z0 l))) = true then (⟨(l.take (z0 l)).toArray⟩, up4 (z0 l + 1), 0) else (ByteArray.empty, 0, 6) := by unfold beginR; rw [if_neg h]
theorem cut_head (s : ByteArray) (k : Nat) : s.extract 0 k = ⟨(s.data.toList.take k).toArray⟩ := by rw [ba_eq (s.extract 0 k), ext_list, List.drop_zero]

end Go.Proofs.YtfcclppgjfkfoaaGreatDoor

/- What the document's pad and prop return. Conditions: strings of at most 2^40 bytes. -/
namespace Go.Proofs.YtfcclppgjfkfoaaGreatDoor
open Go.RowKit

/-- How long a string is. -/
def strLen : Value → Nat
  | .string t => t.size
  | _ => 0

/-- How prop's ends are told. -/
theorem propR_short {l tx : List UInt8} (h : l.length < 8 ∨ l.length < 8 + up4 (pSz l)) : propR l tx = (tk0, 0, 14) := by
  unfold propR
  rcases h with h | h
  · rw [if_pos h]
  · by_cases h8 : l.length < 8
    · rw [if_pos h8]
    · rw [if_neg h8, if_pos h]
theorem propR_long {l tx : List UInt8} (h : ¬ (l.length < 8 ∨ l.length < 8 + up4 (pSz l))) : propR l tx =
    if (decide ((getR tx (frombig (l.drop 4))).2 = 0) && mayB (getR tx (frombig (l.drop 4))).1 && zerosB ((l.take (8 + up4 (pSz l))).drop (8 + pSz l))) = true then
    (⟨3, (getR tx (frombig (l.drop 4))).1, ⟨((l.take (8 + pSz l)).drop 8).toArray⟩⟩, 8 + up4 (pSz l), 0) else (tk0, 0, 6) := by unfold propR; rw [if_neg (by omega), if_neg (by omega)]
theorem cut_mid (s : ByteArray) (a b : Nat) : s.extract a b = ⟨((s.data.toList.take b).drop a).toArray⟩ := by rw [ba_eq (s.extract a b), ext_list]
theorem getR_size (l : List UInt8) (p : Int) : (getR l p).1.size ≤ l.length := by
  unfold getR
  split
  · exact Nat.zero_le _
  · split
    · rw [size_mk, List.length_take, List.length_drop]; omega
    · exact Nat.zero_le _
/-- Three results, the first a struct of the call's own. -/
theorem results_cell_tmp2 {fn : Func} {p u v : Tmp} {ty : TypeId} (h : fn.results = #[.cell p ty, .tmp u, .tmp v]) (tmps : Array Value) (P : Program) (w : World) :
    (results fn tmps).run P w = ((asAddr (tmps.getD p undef)).run P w).andThen fun a w₁ => ((loadVar ty a).run P w₁).andThen fun x w₂ => .ok (.tuple #[x, tmps.getD u undef, tmps.getD v undef]) w₂ := by
  simp only [results, h]
  simp [Sem.run_bind, Result.andThen]
theorem results_row_tmp2 {P : Program} {fn : Func} {p u v : Tmp} {ty : TypeId} (h : fn.results = #[.cell p ty, .tmp u, .tmp v]) (tmps : Array Value) (w : World) (g : Nat) (t : TypeId) (cs : Array Value) (fr : Nat × Nat) (d : TypeDesc)
    (hp : tmps.getD p undef = .pointer (some ⟨g, 0, none⟩)) (hg : w.heap[g]? = some (.cells cs t fr))
    (hu : P.underlying ty = some d) (hd : (match d with | .struct _ | .array _ _ => true | _ => false) = true) (hi : (P.info? ty).map (·.size) = some cs.size) :
    (results fn tmps).run P w = .ok (.tuple #[.agg cs, tmps.getD u undef, tmps.getD v undef]) w := by
  rw [results_cell_tmp2 h, hp]
  simp [asAddr, run_loadVar_row w g t ty cs fr d hg hu hd hi, Result.andThen]
end Go.Proofs.YtfcclppgjfkfoaaGreatDoor

/- What the document's Few, Same, Plain and Bare of tokens return. Conditions: slices that read as tokens; Plain: at most 2000 of them. -/

namespace Go.Proofs.YtfcclppgjfkfoaaGreatDoor
open Go.RowKit

/-- Are there few tokens, of few bytes? -/
def few10 (l : List TK) : Bool := decide (l.length ≤ 60 ∧ ∀ k, k < l.length → (l.getD k tk0).nm.size ≤ 100 ∧ (l.getD k tk0).vl.size ≤ 300)
theorem few10_len {l : List TK} (h : few10 l = true) : l.length ≤ 60 ∧ ∀ k, k < l.length → (l.getD k tk0).nm.size ≤ 100 ∧ (l.getD k tk0).vl.size ≤ 300 := of_decide_eq_true h
theorem plain_snoc (l : List TK) {k : Nat} (hk : k < l.length) {x : TK} (hx : l.getD k tk0 = x) : plainR (l.take (k + 1)) = if x.kd = 4 then plainR (l.take k) else plainR (l.take k) ++ [x] := by
  have e : l.take (k + 1) = l.take k ++ [x] := by
    rw [List.take_succ_eq_append_getElem hk, ← hx, List.getD_eq_getElem?_getD, List.getElem?_eq_getElem hk]; rfl
  rw [e]
  unfold plainR
  rw [List.filter_append]
  by_cases h : x.kd = 4 <;> simp [h]
theorem plain_len (l : List TK) : (plainR l).length ≤ l.length := List.length_filter_le _ _
end Go.Proofs.YtfcclppgjfkfoaaGreatDoor

/- What the document's Few, Same, Plain and Bare return (TkSC), beside its pad and prop (TkB). No condition: nothing stands in it. -/
namespace Go.Proofs.YtfcclppgjfkfoaaGreatDoor
end Go.Proofs.YtfcclppgjfkfoaaGreatDoor

/- What the document's Read returns. Conditions: strings of at most 2^40 bytes. -/
namespace Go.Proofs.YtfcclppgjfkfoaaGreatDoor
open Go.RowKit

theorem beginR_le {l : List UInt8} : (beginR l).2.1 ≤ l.length := by
  unfold beginR
  split
  · exact Nat.zero_le _
  · split
    · show up4 (z0 l + 1) ≤ l.length; omega
    · exact Nat.zero_le _
theorem propR_le {l tx : List UInt8} : (propR l tx).2.1 ≤ l.length := by
  unfold propR
  split
  · exact Nat.zero_le _
  · split
    · exact Nat.zero_le _
    · split
      · show 8 + up4 (pSz l) ≤ l.length; omega
      · exact Nat.zero_le _
/-- What stands at the beginning, by its kind. -/
theorem step_1 {l tx : List UInt8} {s : ByteArray} {n e : Nat} (h4 : ¬ l.length < 4) (hk : frombig l = 1) (hb : beginR (l.drop 4) = (s, n, e)) : (e ≠ 0 → stepR l tx = .err e) ∧ (e = 0 → stepR l tx = .tok ⟨1, s, ByteArray.empty⟩ n) := by
  unfold stepR
  rw [if_neg h4, if_pos hk, hb]
  exact ⟨fun h => if_neg h, fun h => if_pos h⟩
theorem step_3 {l tx : List UInt8} {t : TK} {n e : Nat} (h4 : ¬ l.length < 4) (hk : frombig l = 3) (hb : propR (l.drop 4) tx = (t, n, e)) : (e ≠ 0 → stepR l tx = .err e) ∧ (e = 0 → stepR l tx = .tok t n) := by
  unfold stepR
  rw [if_neg h4, if_neg (by omega), if_pos hk, hb]
  exact ⟨fun h => if_neg h, fun h => if_pos h⟩
theorem step_24 {l tx : List UInt8} (h4 : ¬ l.length < 4) (hk : frombig l = 2 ∨ frombig l = 4) : stepR l tx = .tok ⟨frombig l, ByteArray.empty, ByteArray.empty⟩ 0 := by
  unfold stepR
  rw [if_neg h4, if_neg (by omega), if_neg (by omega), if_pos hk]
theorem step_9 {l tx : List UInt8} (h4 : ¬ l.length < 4) (hk : frombig l = 9) : (l.drop 4 = [] → stepR l tx = .stop) ∧ (l.drop 4 ≠ [] → stepR l tx = .err 6) := by
  unfold stepR
  rw [if_neg h4, if_neg (by omega), if_neg (by omega), if_neg (by omega), if_pos hk]
  exact ⟨fun h => if_pos h, fun h => if_neg h⟩
theorem step_no {l tx : List UInt8} (h4 : ¬ l.length < 4) (h1 : frombig l ≠ 1) (h3 : frombig l ≠ 3) (h24 : ¬ (frombig l = 2 ∨ frombig l = 4)) (h9 : frombig l ≠ 9) : stepR l tx = .err 6 := by
  unfold stepR
  rw [if_neg h4, if_neg h1, if_neg h3, if_neg h24, if_neg h9]
/-- A result in memory. -/
def Got10 (B : Nat) (w : World) (v : Value) (r : List TK) : Prop := w.ownsRow B 116 3 v r.length (tkL r)
theorem got_nil (B : Nat) (w : World) : Got10 B w (.slice none 0 0) [] := World.ownsRow_nil _ _ _ _

end Go.Proofs.YtfcclppgjfkfoaaGreatDoor

/- What the document's Few of strings returns. Conditions: a slice that reads as strings. -/
namespace Go.Proofs.YtfcclppgjfkfoaaGreatDoor
open Go.RowKit

/-- Are there few strings, of few bytes? -/
def few9 (l : List ByteArray) : Bool := decide (l.length ≤ 40 ∧ ∀ k, k < l.length → (l.getD k ByteArray.empty).size ≤ 100)
theorem few9_len {l : List ByteArray} (h : few9 l = true) : l.length ≤ 40 := (of_decide_eq_true h).1
theorem few9_each {l : List ByteArray} (h : few9 l = true) : ∀ k, k < l.length → (l.getD k ByteArray.empty).size ≤ 100 := (of_decide_eq_true h).2
end Go.Proofs.YtfcclppgjfkfoaaGreatDoor

/- What the document's Offsets, Few and SameInts return, and that awake() of layer 9's statements returns true. Conditions: Offsets: a slice that reads as at most 40 strings, each of which fits; SameInts: two slices that read as the same numbers. -/
namespace Go.Proofs.YtfcclppgjfkfoaaGreatDoor
open Go.RowKit

theorem own_lt {w : World} {base e size n : Nat} {u : Value} {xs : List Value} (ho : w.ownsRow base e size u n xs) {k : Nat} (hk : u.ownBlock = some k) : k < w.heap.size := by
  obtain ⟨cur, hc⟩ := ow_type ho hk
  exact (Array.getElem?_eq_some_iff.1 hc).1
section
variable {B : Nat} {w w' : World} {g : Nat} {u u' : Value} {L : List ByteArray} {P P' : List Nat}
end

end Go.Proofs.YtfcclppgjfkfoaaGreatDoor

/- What the document's Put returns. Conditions: a slice that reads as tokens, each name and value of at most 2^20 bytes. -/
namespace Go.Proofs.YtfcclppgjfkfoaaGreatDoor
open Go.RowKit

theorem add_lists (a b : List UInt8) (h : a.length + b.length ≤ 1099511627776) (W : World) : (Op.stringOp .add ⟨a.toArray⟩ ⟨b.toArray⟩).run Tryz.prog W = .ok (.string ⟨(a ++ b).toArray⟩) W := by
  rw [run_string_add_sum W _ _ (by rw [size_mk, size_mk]; omega), ByteArray.mk_append_mk]
/-- The same, with letters for the strings. -/
theorem add_letters {x y z : ByteArray} (hz : z.data.toList = x.data.toList ++ y.data.toList) (h : x.size + y.size ≤ 1099511627776) (W : World) : (Op.stringOp .add x y).run Tryz.prog W = .ok (.string z) W := by
  have := add_lists x.data.toList y.data.toList h W
  rw [ba_of, ba_of, ← hz, ba_of] at this
  exact this
theorem mk_list (l : List UInt8) : (ByteArray.mk l.toArray).data.toList = l := by simp
theorem padL_le (l : List UInt8) : (padL l).length ≤ l.length + 3 := by rw [padL_length]; have := up4_lt l.length; omega
theorem encT_le {p : Nat} {x : TK} (hok : okT x = true) : (encT p x).length ≤ x.vl.size + 64 := by
  unfold encT
  split
  · rename_i h1
    unfold okT at hok
    rw [if_pos h1] at hok
    have hn : x.nm.size ≤ 31 := by
      unfold nodeB at hok
      rcases Bool.or_eq_true_iff.1 hok with h | h
      · have := of_decide_eq_true h; omega
      · exact (mayB_iff.1 h).2.1
    have := padL_le (x.nm.data.toList ++ [0])
    have hl : x.nm.data.toList.length = x.nm.size := rfl
    rw [List.length_append] at this ⊢
    rw [big_len]
    simp only [List.length_cons, List.length_nil] at this
    omega
  · split
    · have := padL_le x.vl.data.toList
      have hl : x.vl.data.toList.length = x.vl.size := rfl
      rw [List.length_append, List.length_append, List.length_append, big_len, big_len, big_len]
      omega
    · rw [big_len]; omega
theorem putS_le : ∀ (l : List TK) (B : List ByteArray), (∀ x ∈ l, okT x = true ∧ x.vl.size ≤ 1048576) → (putS B l).length ≤ l.length * 1048640
  | [], _, _ => Nat.zero_le _
  | x :: l, B, h => by
    have h1 := putS_le l (blkT B x) (fun y hy => h y (by simp [hy]))
    have h2 := encT_le (p := posn B x.nm) (h x (by simp)).1
    have h3 := (h x (by simp)).2
    show (encT _ x ++ putS (blkT B x) l).length ≤ _
    rw [List.length_append, List.length_cons]
    omega
theorem take_tk {l : List TK} {k : Nat} (hk : k < l.length) {x : TK} (hx : l.getD k tk0 = x) : l.take (k + 1) = l.take k ++ [x] := by
  rw [List.take_succ_eq_append_getElem hk, ← hx, List.getD_eq_getElem?_getD, List.getElem?_eq_getElem hk]; rfl
theorem all_bad {l : List TK} (k : Nat) (hk : k < l.length) (h : okT (l.getD k tk0) = false) : l.all okT = false := by
  cases e : l.all okT with
  | false => rfl
  | true =>
    have := List.all_eq_true.1 e (l.getD k tk0) (by rw [List.getD_eq_getElem?_getD, List.getElem?_eq_getElem hk]; exact List.getElem_mem _)
    rw [h] at this; cases this
theorem all_good {l : List TK} (h : ∀ k, k < l.length → okT (l.getD k tk0) = true) : l.all okT = true := by
  rw [List.all_eq_true]
  intro s hs
  obtain ⟨k, hk, rfl⟩ := List.getElem_of_mem hs
  have := h k hk
  rwa [List.getD_eq_getElem?_getD, List.getElem?_eq_getElem hk] at this
section
variable {B : Nat} {w w' : World} {g : Nat} {L : List ByteArray}
end
/-- How Put's ends are told. -/
theorem putR_big {l : List TK} (h : 1024 ≤ l.length) : putR l = (ByteArray.empty, ByteArray.empty, 7) := by unfold putR; rw [if_pos h]
theorem putR_bad {l : List TK} (h : ¬ 1024 ≤ l.length) (hb : l.all okT = false) : putR l = (ByteArray.empty, ByteArray.empty, 1) := by unfold putR; rw [if_neg h, hb]; rfl
theorem putR_good {l : List TK} (h : ¬ 1024 ≤ l.length) (hb : l.all okT = true) : putR l = (⟨(putS [] l ++ big 9).toArray⟩, ⟨(flat (putB [] l)).toArray⟩, 0) := by unfold putR; rw [if_neg h, hb]; rfl

end Go.Proofs.YtfcclppgjfkfoaaGreatDoor

/- What is put is read as it was, what is read may be put: tokens in plain words. No condition. -/
namespace Go.Proofs.YtfcclppgjfkfoaaGreatDoor
open Go.RowKit

theorem tk_getD_mem {l : List TK} {k : Nat} (hk : k < l.length) : l.getD k tk0 ∈ l := by
  rw [List.getD_eq_getElem?_getD, List.getElem?_eq_getElem hk]; exact List.getElem_mem _
theorem tk_mem_getD {l : List TK} {x : TK} (h : x ∈ l) : ∃ k, k < l.length ∧ l.getD k tk0 = x := by
  obtain ⟨k, hk, rfl⟩ := List.getElem_of_mem h
  exact ⟨k, hk, by rw [List.getD_eq_getElem?_getD, List.getElem?_eq_getElem hk]; rfl⟩
theorem map_bare_getD {l : List TK} {k : Nat} (hk : k < l.length) : (l.map bare).getD k tk0 = bare (l.getD k tk0) := by
  simp [List.getD_eq_getElem?_getD, hk]
/-- What is put without an error. -/
theorem put_ok {l : List TK} (h : (putR l).2.2 = 0) : l.length < 1024 ∧ l.all okT = true := by
  unfold putR at h
  split at h
  · cases h
  · split at h
    · exact ⟨by omega, ‹_›⟩
    · cases h
theorem put_read {l : List TK} (hv : ∀ x ∈ l, x.vl.size ≤ 1048576) (h : (putR l).2.2 = 0) :
    readR 1024 (putR l).1.data.toList (putR l).2.1.data.toList = (l.map bare, 0) ∧ (putR l).1.size ≤ 1099511627776 ∧ (putR l).2.1.size ≤ 1099511627776 := by
  obtain ⟨h1, h2⟩ := put_ok h
  have hall := List.all_eq_true.1 h2
  rw [putR_good (by omega) h2]
  simp only
  have hB := okL_putB l okL_nil
  have hlen := putB_len l []
  have hfl := flat_le hB
  have hps := putS_le l [] (fun x hx => ⟨hall x hx, hv x hx⟩)
  simp only [List.length_nil] at hlen
  refine ⟨readR_put l [] 1024 h1 hB (by omega) (fun x hx => ⟨hall x hx, by have := hv x hx; omega⟩), ?_, ?_⟩
  · rw [size_mk, List.length_append, big_len]; omega
  · rw [size_mk]; omega
/-- What is read may be put. -/
theorem read_put {s t : List UInt8} {r : List TK} (hs : s.length ≤ 1048576) (h : readR 1024 s t = (r, 0)) :
    (putR r).2.2 = 0 ∧ r.map bare = r ∧ (∀ k, k < r.length → (r.getD k tk0).nm.size ≤ 1048576 ∧ (r.getD k tk0).vl.size ≤ 1048576) ∧ (∀ k, k < r.length → (r.getD k tk0).kd < 9223372036854775808 ∧ -9223372036854775808 ≤ (r.getD k tk0).kd) ∧ (∀ x ∈ r, x.vl.size ≤ 1048576) ∧ r.length < 1024 := by
  obtain ⟨h1, h2⟩ := readR_ok 1024 s t r h
  have hall : r.all okT = true := List.all_eq_true.2 (fun x hx => (h2 x hx).1)
  have hone : ∀ x ∈ r, x.nm.size ≤ 1048576 ∧ x.vl.size ≤ 1048576 ∧ x.kd < 9223372036854775808 ∧ -9223372036854775808 ≤ x.kd := by
    intro x hx
    obtain ⟨g1, g2, g3⟩ := h2 x hx
    unfold okT at g1
    by_cases k1 : x.kd = 1
    · rw [if_pos k1] at g1
      unfold nodeB at g1
      have : x.nm.size ≤ 31 := by
        rcases Bool.or_eq_true_iff.1 g1 with h | h
        · have := of_decide_eq_true h; omega
        · exact (mayB_iff.1 h).2.1
      omega
    · rw [if_neg k1] at g1
      by_cases k3 : x.kd = 3
      · rw [if_pos k3] at g1
        have := (mayB_iff.1 g1).2.1
        omega
      · rw [if_neg k3] at g1
        have k24 : x.kd = 2 ∨ x.kd = 4 := of_decide_eq_true g1
        unfold bare at g2
        rw [if_neg k1, if_neg k3] at g2
        have : x.nm.size = 0 := by rw [← g2]; rfl
        omega
  refine ⟨by rw [putR_good (by omega) hall], ?_, fun k hk => ⟨(hone _ (tk_getD_mem hk)).1, (hone _ (tk_getD_mem hk)).2.1⟩, fun k hk => (hone _ (tk_getD_mem hk)).2.2, fun x hx => (hone x hx).2.1, h1⟩
  have : ∀ q : List TK, (∀ x ∈ q, bare x = x) → q.map bare = q := by
    intro q
    induction q with
    | nil => intro _; rfl
    | cons x q ih => intro hq; rw [List.map_cons, hq x (by simp), ih (fun y hy => hq y (by simp [hy]))]
  exact this r (fun x hx => (h2 x hx).2.1)
end Go.Proofs.YtfcclppgjfkfoaaGreatDoor
