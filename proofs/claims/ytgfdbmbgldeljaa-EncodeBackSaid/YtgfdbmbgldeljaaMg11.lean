/- What Offsets returns. Conditions: a slice that reads as at most 40 strings, each of which fits. -/
import Derived.Test.YtgfdbmbgldeljaaMg10
import Derived.Test.YtgfdbmbgldeljaaMg8
import Derived.Test.YtgfdbmbgldeljaaMg3
import Derived.Test.YtgfdbmbgldeljaaMg0
import Derived.Test.YtgfdbmbgldeljaaProg
import Derived.Test.YtgfdbmbgldeljaaMg9
import Derived.WalkKit
import Derived.WalkSpells
import Derived.Deep.RegionHeld3
import Derived.Deep.WholeRow
import Derived.Laws.ResultCell
import Derived.Deep.RegionWith
import Derived.BigQuiet
namespace Go.Proofs.Ytgfdbmbgldeljaa
open Go.RowKit Go.Maps Go.WideMaps

theorem elemI : ElemIs Try.prog 92 3 (.int .i64 0) 8 := elemIs_mk Try.underlying92 rfl (by kernel_rfl)
/-- Places as cells. -/
def natV (l : List Nat) : List Value := l.map fun (n : Nat) => Value.int .i64 (n : Int)
theorem natV_snoc (l : List Nat) (x : Nat) : natV (l ++ [x]) = natV l ++ [.int .i64 (x : Int)] := by simp [natV]
/-- What Offsets returns: the places, the bytes, the error. -/
def offN (l : List ByteArray) : List Nat := if allB l = true then plc [] l else []
def offS (l : List ByteArray) : ByteArray := if allB l = true then ⟨(flat (adds [] l)).toArray⟩ else ⟨#[]⟩
def offE (l : List ByteArray) : Nat := if allB l = true then 0 else 1
theorem off_bad {l : List ByteArray} (h : allB l = false) : offN l = [] ∧ offS l = ⟨#[]⟩ ∧ offE l = 1 := by
  unfold offN offS offE; rw [h]; exact ⟨rfl, rfl, rfl⟩
theorem off_good {l : List ByteArray} (h : allB l = true) : offN l = plc [] l ∧ offS l = ⟨(flat (adds [] l)).toArray⟩ ∧ offE l = 0 := by
  unfold offN offS offE; rw [h]; exact ⟨rfl, rfl, rfl⟩
theorem BK.not_row {w : World} {g : Nat} {v : Value} {m : Option Nat} {L : List ByteArray} (h : BK w g v m L) {base e size n : Nat} {u : Value} {xs : List Value} (ho : w.ownsRow base e size u n xs) (h1 : e ≠ 80) (h2 : e ≠ 5) {k : Nat} (hk : u.ownBlock = some k) : ¬ fpB g v m k := by
  obtain ⟨cur, hc⟩ := ow_type ho hk
  exact h.not_arr (g' := k) (t := e) (cs := cur) hc h1 h2
/-- A Block that the call has made, and a slice of places. -/
def Of9 (B : Nat) (w : World) (g : Nat) (u : Value) (L : List ByteArray) (P : List Nat) : Prop :=
  ∃ v m, BK w g v m L ∧ (∀ k, fpB g v m k → B ≤ k) ∧ w.ownsRow 0 3 1 u P.length (natV P) ∧ (∀ k, u.ownBlock = some k → B ≤ k)
section
variable {B : Nat} {w w' : World} {g : Nat} {u u' : Value} {L : List ByteArray} {P P' : List Nat}
theorem of9_add (h : Of9 B w g u L P) (hB : B ≤ w.heap.size) (s : ByteArray) (hs : s.size ≤ maxLen) (hL : L.length ≤ 1073741824) :
    Calls Try.prog 49 #[.pointer (some ⟨g, 0, none⟩), .string s] w fun e w' => e = .returned (.tuple #[.int .i64 ((addV L s).1 : Int), .int .i64 ((addV L s).2 : Int)]) ∧ Of9 B w' g u (addA L s) P ∧ Below B w w' := by
  obtain ⟨v, m, h1, h2, h3, h4⟩ := h
  refine (sadd_any g v m L s w h1 hs hL).mono ?_
  rintro e w' ⟨he, v', m', hb, hm⟩
  refine ⟨he, ⟨v', m', hb, fun k hk => ?_, hm.row h3 (fun k hk => h1.not_row h3 (by decide) (by decide) hk), h4⟩, hm.below h2 hB⟩
  rcases hm.foot k hk with h5 | h5
  · exact h2 k h5
  · exact Nat.le_trans hB h5
theorem of9_put (h : Of9 B w g u L P) (hB : B ≤ w.heap.size) (ho : w'.ownsRow 0 3 1 u' P'.length (natV P')) (hm : Moved w w' (ownS u) (ownS u')) : Of9 B w' g u' L P' ∧ Below B w w' := by
  obtain ⟨v, m, h1, h2, h3, h4⟩ := h
  refine ⟨⟨v, m, h1.kept hm (fun k hk hu => h1.not_row h3 (by decide) (by decide) hu hk), h2, ho, fun k hk => ?_⟩, hm.below h4 hB⟩
  rcases hm.foot k hk with h5 | h5
  · exact h4 k h5
  · exact Nat.le_trans hB h5
theorem of9_bytes (h : Of9 B w g u L P) : Calls Try.prog 32 #[.pointer (some ⟨g, 0, none⟩)] w fun e w' => e = .returned (.string ⟨(flat L).toArray⟩) ∧ w = w' := by
  obtain ⟨v, m, h1, _⟩ := h
  exact sbytes_any g v m L w h1
theorem of9_row (h : Of9 B w g u L P) : w.ownsRow 0 3 1 u P.length (natV P) ∧ w.ownsRow B 3 1 u P.length (natV P) := by
  obtain ⟨v, m, _, _, h3, h4⟩ := h
  exact ⟨h3, ow_base h3 h4⟩
theorem of9_new (w : World) : Of9 w.heap.size (w.alloc (.cells #[.slice none 0 0, .map none, .int .i64 0] 80)) w.heap.size (.slice none 0 0) [] [] :=
  ⟨.slice none 0 0, none, .inl ⟨rfl, rfl, rfl, Arr.new _ _ _⟩, (fun k hk => by
    rcases hk with hk | hk | hk
    · exact Nat.le_of_eq hk.symm
    · cases hk
    · cases hk), World.ownsRow_nil _ _ _ _, (fun _ hk => by cases hk)⟩
end

end Go.Proofs.Ytgfdbmbgldeljaa

/- The document's Block in memory: its strings, their places, its bytes; what its Add does. Conditions: at most 2^30 strings are there, and the string to be added fits. -/
namespace Go.Proofs.Ytgfdbmbgldeljaa
open Go.RowKit

theorem str_eq {a b : ByteArray} : (a.toList == b.toList) = decide (a = b) := by
  by_cases h : a = b
  · subst h; simp
  · have : ¬ a.toList = b.toList := fun e => h (by
      rw [ByteArray.toList_eq, ByteArray.toList_eq] at e
      exact ByteArray.ext (Array.ext' e))
    simp [h, this]
theorem row_rdT {w : World} {base e : Nat} {v : Value} {l : List ByteArray} (h : w.ownsRow base e 1 v l.length (l.map Value.string)) : ∃ A cap, v = .slice A l.length cap ∧ RdT w A l := by
  rcases h.2 with ⟨rfl, hz⟩ | ⟨g, cap, cur, rfl, hb, hg, _, _, _, hx⟩
  · exact ⟨none, 0, by rw [hz], .inl (List.length_eq_zero_iff.1 hz)⟩
  · refine ⟨_, cap, rfl, .inr ⟨g, 0, rfl, fun k hk => ?_⟩⟩
    rw [Nat.zero_add, cell_of_row w g k cur _ (0, 0) hg]
    have e : (cur.toList.take (l.length * 1))[k]? = (l.map Value.string)[k]? := by rw [hx]
    rw [List.getElem?_take_of_lt (by omega)] at e
    rw [← Array.getElem?_toList, e]
    simp [hk]
theorem row_rdK {w : World} {base e : Nat} {v : Value} {P : List Nat} (h : w.ownsRow base e 1 v P.length (natV P)) : ∃ A cap, v = .slice A P.length cap ∧ RdK .i64 w A (P.map Int.ofNat) := by
  rcases h.2 with ⟨rfl, hz⟩ | ⟨g, cap, cur, rfl, hb, hg, _, _, _, hx⟩
  · exact ⟨none, 0, by rw [hz], .inl (by simpa using List.length_eq_zero_iff.1 hz)⟩
  · refine ⟨_, cap, rfl, .inr ⟨g, 0, rfl, fun k hk => ?_⟩⟩
    rw [List.length_map] at hk
    rw [Nat.zero_add, cell_of_row w g k cur _ (0, 0) hg]
    have e : (cur.toList.take (P.length * 1))[k]? = (natV P)[k]? := by rw [hx]
    rw [List.getElem?_take_of_lt (by omega)] at e
    rw [← Array.getElem?_toList, e]
    simp [natV, hk]

def fpX (g : Nat) (lv av : Value) (k : Nat) : Prop := k = g ∨ lv.ownBlock = some k ∨ av.ownBlock = some k
section
variable {w w' : World} {g : Nat} {lv av lv' av' : Value} {L : List ByteArray} {F F' : Nat → Prop}
theorem fpX_cell (h : w.grownBy w' (some g)) : Moved w w' (fpX g lv av) (fpX g lv av) :=
  Moved.grown h (fun k hk => by injection hk with hk; exact .inl hk.symm) (fun _ hk => .inl hk)
theorem fpX_l (h : Moved w w' (ownS lv) (ownS lv')) : Moved w w' (fpX g lv av) (fpX g lv' av) :=
  h.inside (fun _ hk => .inr (.inl hk)) (fun k hk => by
    rcases hk with hk | hk | hk
    · exact .inl (.inl hk)
    · exact .inr (.inl hk)
    · exact .inl (.inr (.inr hk)))
theorem fpX_a (h : Moved w w' (ownS av) (ownS av')) : Moved w w' (fpX g lv av) (fpX g lv av') :=
  h.inside (fun _ hk => .inr (.inr hk)) (fun k hk => by
    rcases hk with hk | hk | hk
    · exact .inl (.inl hk)
    · exact .inl (.inr (.inl hk))
    · exact .inr (.inl hk))
end
/-- A row of another kind stays while an own slice grows. -/
theorem row_beside {w w' : World} {u u' v : Value} {base e e' size size' base' n n' : Nat} {xs ys : List Value} (h : w.ownsRow base e size v n xs) (ho : w.ownsRow base' e' size' u n' ys) (hne : e ≠ e') (hm : Moved w w' (ownS u) (ownS u')) : w'.ownsRow base e size v n xs :=
  hm.row h (fun k hk hu => by
    rcases ow_ow h ho hne with h1 | h1
    · rw [h1] at hk; cases hk
    · exact h1 (by rw [hk]; exact hu.symm))
theorem arr_beside {w w' : World} {u u' : Value} {g t : Nat} {cs : Array Value} {e' size' base' n' : Nat} {ys : List Value} (h : Arr w g t cs) (ho : w.ownsRow base' e' size' u n' ys) (hne : t ≠ e') (hm : Moved w w' (ownS u) (ownS u')) : Arr w' g t cs :=
  hm.arr h (fun hk => ow_arr h ho hne hk.symm)
theorem posn_map_snoc {L : List ByteArray} {s : ByteArray} (h : thereB L s = false) : natV ((L ++ [s]).map (posn (L ++ [s]))) = natV (L.map (posn L)) ++ [.int .i64 ((flat L).length : Int)] := by
  rw [List.map_append, List.map_cons, List.map_nil, natV_snoc, posn_snoc L s (thereB_not.1 h)]
  congr 2
  exact List.map_congr_left (fun x hx => posn_app L [s] x hx)
theorem flat_str (L : List ByteArray) (s : ByteArray) : (⟨(flat L).toArray⟩ : ByteArray) ++ s ++ (⟨#[0]⟩ : ByteArray) = ⟨(flat (L ++ [s])).toArray⟩ := by
  apply ByteArray.ext
  apply Array.ext'
  rw [ByteArray.data_append, ByteArray.data_append, Array.toList_append, Array.toList_append, flat_app, flat_one]
  simp

end Go.Proofs.Ytgfdbmbgldeljaa

/- What the document's zeros, Node, begin and pad return. Conditions: strings of at most 2^40 bytes. -/
namespace Go.Proofs.Ytgfdbmbgldeljaa
open Go.RowKit

theorem byte_at (s : ByteArray) (k : Nat) (h : k < s.size) : s.data.toList.getD k 0 = s[k] := by rw [List.getD_eq_getElem?_getD, List.getElem?_eq_getElem (by simpa using h)]; rfl

theorem up_of (n : Nat) (h : n ≤ 9007199254740992) : upOf (n : Int) = (up4 n : Int) := by unfold upOf up4; rw [if_neg (by omega)]; omega
/-- How begin's three ends are told. -/
theorem beginR_short {l : List UInt8} (h : l.length ≤ z0 l ∨ l.length < up4 (z0 l + 1)) : beginR l = (ByteArray.empty, 0, 14) := by unfold beginR; rw [if_pos h]
theorem beginR_long {l : List UInt8} (h : ¬ (l.length ≤ z0 l ∨ l.length < up4 (z0 l + 1))) : beginR l = if (nodeB ⟨(l.take (z0 l)).toArray⟩ && zerosB ((l.take (up4 (z0 l + 1))).drop (z0 l))) = true then (⟨(l.take (z0 l)).toArray⟩, up4 (z0 l + 1), 0) else (ByteArray.empty, 0, 6) := by unfold beginR; rw [if_neg h]
theorem cut_head (s : ByteArray) (k : Nat) : s.extract 0 k = ⟨(s.data.toList.take k).toArray⟩ := by rw [ba_eq (s.extract 0 k), ext_list, List.drop_zero]

end Go.Proofs.Ytgfdbmbgldeljaa

/- Slices of tokens in memory, that came in or are the call's own, and append of tokens to one's own. No condition: nothing of the program stands in it but types. -/
namespace Go.Proofs.Ytgfdbmbgldeljaa
open Go.RowKit

/-- A token as cells, and as a value. -/
def tkC (x : TK) : Array Value := #[.int .i64 x.kd, .string x.nm, .string x.vl]
def tkV (x : TK) : Value := .agg #[.int .i64 x.kd, .string x.nm, .string x.vl]
theorem infoTk (x : TK) : (Try.prog.info? 84).map (·.size) = some (tkC x).size := by show _ = some 3; kernel_rfl
theorem tkC_one (x : TK) : (tkC x).all (·.oneCell') = true := by
  rw [Array.all_eq_true_iff_forall_mem]
  intro v hv
  simp [tkC] at hv
  rcases hv with rfl | rfl | rfl <;> rfl
/-- A token lies at a place. -/
def TkAt (w : World) (b o : Nat) (x : TK) : Prop := w.cell? ⟨b, o, none⟩ = some (.int .i64 x.kd) ∧ w.cell? ⟨b, o + 1, none⟩ = some (.string x.nm) ∧ w.cell? ⟨b, o + 2, none⟩ = some (.string x.vl)
/-- The slice at A reads as the tokens l. -/
def RdTk (w : World) (A : Option Addr) (l : List TK) : Prop := l = [] ∨ ∃ b off, A = some ⟨b, off, none⟩ ∧ ∀ k, k < l.length → TkAt w b (off + k * 3) (l.getD k tk0)
theorem RdTk.at_ {w : World} {A : Option Addr} {l : List TK} (h : RdTk w A l) {k : Nat} (hk : k < l.length) : ∃ b off x, A = some ⟨b, off, none⟩ ∧ TkAt w b (off + k * 3) x ∧ Hid (l.getD k tk0 = x) := by
  rcases h with rfl | ⟨b, off, rfl, hc⟩
  · simp at hk
  · exact ⟨b, off, _, rfl, hc k hk, rfl⟩
theorem TkAt.below {w w' : World} {b o : Nat} {x : TK} (h : TkAt w b o x) (hb : Below w.heap.size w w') : TkAt w' b o x := ⟨cellK_below h.1 hb, cellK_below h.2.1 hb, cellK_below h.2.2 hb⟩
theorem RdTk.below {w w' : World} {A : Option Addr} {l : List TK} (h : RdTk w A l) (hb : Below w.heap.size w w') : RdTk w' A l := by
  rcases h with h | ⟨b, off, rfl, hc⟩
  · exact .inl h
  · exact .inr ⟨b, off, rfl, fun k hk => (hc k hk).below hb⟩
/-- Tokens as cells. -/
def tkl (x : TK) : List Value := [.int .i64 x.kd, .string x.nm, .string x.vl]
def tkL (l : List TK) : List Value := l.flatMap tkl
theorem tkL_snoc (l : List TK) (x : TK) : tkL (l ++ [x]) = tkL l ++ tkl x := by simp [tkL]
theorem tkL_length (l : List TK) : (tkL l).length = l.length * 3 := by
  induction l with
  | nil => rfl
  | cons x l ih => show (tkl x ++ tkL l).length = _; rw [List.length_append, ih, List.length_cons]; simp only [tkl, List.length_cons, List.length_nil]; omega
theorem tkL_at (l : List TK) {k : Nat} (hk : k < l.length) : (tkL l)[k * 3]? = some (.int .i64 (l.getD k tk0).kd) ∧ (tkL l)[k * 3 + 1]? = some (.string (l.getD k tk0).nm) ∧ (tkL l)[k * 3 + 2]? = some (.string (l.getD k tk0).vl) := by
  induction l generalizing k with
  | nil => simp at hk
  | cons x l ih =>
    show (tkl x ++ tkL l)[k * 3]? = _ ∧ (tkl x ++ tkL l)[k * 3 + 1]? = _ ∧ (tkl x ++ tkL l)[k * 3 + 2]? = _
    match k, hk with
    | 0, _ => exact ⟨rfl, rfl, rfl⟩
    | k + 1, hk =>
      have := ih (k := k) (by simpa using hk)
      rw [show (k + 1) * 3 = k * 3 + 1 + 1 + 1 by omega]
      simp only [tkl, List.cons_append, List.nil_append, List.getElem?_cons_succ, List.getD_cons_succ]
      exact this
theorem row_rdTk {w : World} {base : Nat} {v : Value} {l : List TK} (h : w.ownsRow base 84 3 v l.length (tkL l)) : ∃ A cap, v = .slice A l.length cap ∧ RdTk w A l := by
  rcases h.2 with ⟨rfl, hz⟩ | ⟨b, cap, cur, rfl, _, hg, _, _, _, hx⟩
  · exact ⟨none, 0, by rw [hz], .inl (List.length_eq_zero_iff.1 hz)⟩
  · refine ⟨_, cap, rfl, .inr ⟨b, 0, rfl, fun k hk => ?_⟩⟩
    obtain ⟨h1, h2, h3⟩ := tkL_at l hk
    have e : ∀ j, j < l.length * 3 → cur[j]? = (tkL l)[j]? := fun j hj => by
      rw [← hx, List.getElem?_take_of_lt hj, Array.getElem?_toList]
    refine ⟨?_, ?_, ?_⟩
    · rw [Nat.zero_add, cell_of_row w b _ cur _ (0, 0) hg, e _ (by omega), h1]
    · rw [Nat.zero_add, cell_of_row w b _ cur _ (0, 0) hg, e _ (by omega), h2]
    · rw [Nat.zero_add, cell_of_row w b _ cur _ (0, 0) hg, e _ (by omega), h3]
/-- 'l = append(l, x)', x a token. -/
theorem append_tk {ops : Array Oper} {rest : List Oper} {o : Oper} {a : Act} {Q : Exit → Act → World → Prop} {w : World} (hgd : o.guard = none) (s y : Operand)
    (ho : o.op = .call { callee := .builtin .append, args := #[s, y], argTypes := #[50, 50] })
    (x : TK) (v : Value) (l : List TK) (hs : a.eval s = v) (hown : w.ownsRow 0 84 3 v l.length (tkL l)) (H : Nat) (hH : w.heap.size = H) (hx : a.eval y = .slice (some ⟨H, 0, none⟩) 1 1)
    (hn : l.length ≤ 1099511627776)
    (h : ∀ v' w', w'.ownsRow 0 84 3 v' (l ++ [x]).length (tkL (l ++ [x])) → Moved w w' (ownS v) (ownS v') → wpList Try.prog ops Q rest (a.put o.dst v') w') : wpList Try.prog ops Q (o :: rest) a (w.alloc (.cells (tkC x) 84)) := by
  subst hH
  have hinf : ((Try.prog.info? 84).map fun i => (i.zero, i.size, i.bytes)) = some (some (tkV tk0), 3, 40) := by kernel_rfl
  obtain ⟨i, hi, he⟩ := Option.map_eq_some_iff.1 hinf
  simp only [Prod.mk.injEq] at he
  refine wpList_append_own_at _ hgd s y 50 ho 0 84 i (tkV tk0) 3 40 Try.underlying50 hi he.1 he.2.1 he.2.2 rfl (by decide) v l.length (tkL l) hs (hown.alloc _) ⟨w.heap.size, 0, none⟩ 1 1 (tkl x) hx rfl ?_ ?_ (by unfold maxLen; omega) (by omega) (Nat.zero_le _) ?_
  · intro j u hj
    have hA := Arr.new w 84 (tkC x)
    have hlt := (List.getElem?_eq_some_iff.1 hj).1
    have e : (⟨w.heap.size, 0, none⟩ : Addr).add j = ⟨w.heap.size, j, none⟩ := by unfold Addr.add; split <;> simp_all
    rw [e, hA.cell, ← hj]
    show (tkl x).toArray[j]? = _
    rw [List.getElem?_toArray]
  · intro u hu; simp [tkl] at hu; rcases hu with rfl | rfl | rfl <;> rfl
  · intro v' w' ho' hg _ hl
    refine h v' w' (by rw [tkL_snoc, List.length_append]; exact ho') (Moved.of_grown ((World.grownBy_alloc w _ _).trans hg) ?_)
    rcases hl with hl | hl
    · exact .inl hl
    · rw [sz_alloc] at hl; exact .inr ⟨_, hl, Nat.le_succ _⟩
end Go.Proofs.Ytgfdbmbgldeljaa

/- What the document's pad and prop return. Conditions: strings of at most 2^40 bytes. -/
namespace Go.Proofs.Ytgfdbmbgldeljaa
open Go.RowKit

/-- How long a string is. -/
def strLen : Value → Nat
  | .string t => t.size
  | _ => 0

/-- How prop's ends are told. -/
theorem propR_short {l tx : List UInt8} (h : l.length < 8 ∨ l.length < 8 + up4 (pSz l)) : propR l tx = (tk0, 0, 14) := by
  unfold propR
  rcases h with h | h
  · rw [if_pos h]
  · by_cases h8 : l.length < 8
    · rw [if_pos h8]
    · rw [if_neg h8, if_pos h]
theorem propR_long {l tx : List UInt8} (h : ¬ (l.length < 8 ∨ l.length < 8 + up4 (pSz l))) : propR l tx =
    if (decide ((getR tx (frombig (l.drop 4))).2 = 0) && mayB (getR tx (frombig (l.drop 4))).1 && zerosB ((l.take (8 + up4 (pSz l))).drop (8 + pSz l))) = true then
    (⟨3, (getR tx (frombig (l.drop 4))).1, ⟨((l.take (8 + pSz l)).drop 8).toArray⟩⟩, 8 + up4 (pSz l), 0) else (tk0, 0, 6) := by unfold propR; rw [if_neg (by omega), if_neg (by omega)]
theorem cut_mid (s : ByteArray) (a b : Nat) : s.extract a b = ⟨((s.data.toList.take b).drop a).toArray⟩ := by rw [ba_eq (s.extract a b), ext_list]
theorem getR_size (l : List UInt8) (p : Int) : (getR l p).1.size ≤ l.length := by
  unfold getR
  split
  · exact Nat.zero_le _
  · split
    · rw [size_mk, List.length_take, List.length_drop]; omega
    · exact Nat.zero_le _
/-- Three results, the first a struct of the call's own. -/
theorem results_cell_tmp2 {fn : Func} {p u v : Tmp} {ty : TypeId} (h : fn.results = #[.cell p ty, .tmp u, .tmp v]) (tmps : Array Value) (P : Program) (w : World) :
    (results fn tmps).run P w = ((asAddr (tmps.getD p undef)).run P w).andThen fun a w₁ => ((loadVar ty a).run P w₁).andThen fun x w₂ => .ok (.tuple #[x, tmps.getD u undef, tmps.getD v undef]) w₂ := by
  simp only [results, h]
  simp [Sem.run_bind, Result.andThen]
theorem results_row_tmp2 {P : Program} {fn : Func} {p u v : Tmp} {ty : TypeId} (h : fn.results = #[.cell p ty, .tmp u, .tmp v]) (tmps : Array Value) (w : World) (g : Nat) (t : TypeId) (cs : Array Value) (fr : Nat × Nat) (d : TypeDesc)
    (hp : tmps.getD p undef = .pointer (some ⟨g, 0, none⟩)) (hg : w.heap[g]? = some (.cells cs t fr))
    (hu : P.underlying ty = some d) (hd : (match d with | .struct _ | .array _ _ => true | _ => false) = true) (hi : (P.info? ty).map (·.size) = some cs.size) :
    (results fn tmps).run P w = .ok (.tuple #[.agg cs, tmps.getD u undef, tmps.getD v undef]) w := by
  rw [results_cell_tmp2 h, hp]
  simp [asAddr, run_loadVar_row w g t ty cs fr d hg hu hd hi, Result.andThen]
end Go.Proofs.Ytgfdbmbgldeljaa

/- What the document's Few, Same, Plain and Bare of tokens return. Conditions: slices that read as tokens; Plain: at most 2000 of them. -/

namespace Go.Proofs.Ytgfdbmbgldeljaa
open Go.RowKit

/-- Are there few tokens, of few bytes? -/
def few10 (l : List TK) : Bool := decide (l.length ≤ 60 ∧ ∀ k, k < l.length → (l.getD k tk0).nm.size ≤ 100 ∧ (l.getD k tk0).vl.size ≤ 300)
theorem few10_len {l : List TK} (h : few10 l = true) : l.length ≤ 60 ∧ ∀ k, k < l.length → (l.getD k tk0).nm.size ≤ 100 ∧ (l.getD k tk0).vl.size ≤ 300 := of_decide_eq_true h
theorem plain_snoc (l : List TK) {k : Nat} (hk : k < l.length) {x : TK} (hx : l.getD k tk0 = x) : plainR (l.take (k + 1)) = if x.kd = 4 then plainR (l.take k) else plainR (l.take k) ++ [x] := by
  have e : l.take (k + 1) = l.take k ++ [x] := by
    rw [List.take_succ_eq_append_getElem hk, ← hx, List.getD_eq_getElem?_getD, List.getElem?_eq_getElem hk]; rfl
  rw [e]
  unfold plainR
  rw [List.filter_append]
  by_cases h : x.kd = 4 <;> simp [h]
theorem plain_len (l : List TK) : (plainR l).length ≤ l.length := List.length_filter_le _ _
end Go.Proofs.Ytgfdbmbgldeljaa

/- What the document's Few, Same, Plain and Bare return (TkSC), beside its pad and prop (TkB). No condition: nothing stands in it. -/
namespace Go.Proofs.Ytgfdbmbgldeljaa
end Go.Proofs.Ytgfdbmbgldeljaa
