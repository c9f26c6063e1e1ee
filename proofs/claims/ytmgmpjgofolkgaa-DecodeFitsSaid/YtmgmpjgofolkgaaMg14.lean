/- A Block in memory: its bytes, its map of positions, its count; what own, Bytes and Add do. Conditions: at most 2^30 strings are there. -/
import Derived.Test.YtmgmpjgofolkgaaMg13
import Derived.Test.YtmgmpjgofolkgaaMg8
import Derived.Maps.OwnSet
import Derived.Lib.BufferRead
import Derived.Lib.SliceRun
import Derived.Deep.DeepCutAuto
import Derived.Carry
import Derived.Test.YtmgmpjgofolkgaaMg0
namespace Go.Proofs.Ytmgmpjgofolkgaa
open Go.RowKit Go.Maps Go.WideMaps

theorem keyS : Keyed Try.prog 9 := string_keyed Try.underlying9
theorem zeroI (w : World) : (zeroValue 3).run Try.prog w = .ok (.int .i64 0) w := by kernel_rfl
theorem elemB : ElemIs Try.prog 66 5 (.int .u8 0) 1 := elemIs_mk Try.underlying66 rfl (by kernel_rfl)
theorem bytes_eq' {a b : ByteArray} (h : a.data.toList = b.data.toList) : a = b := ByteArray.ext (Array.ext' h)
/-- A map's reading is the strings L with their places. -/
def MapIs (D : DataW Unit) (L : List ByteArray) : Prop :=
  Tidy D ∧ Maps.size D = L.length ∧ ∀ s : ByteArray, Maps.has D (.string s.data.toList) = thereB L s ∧ (thereB L s = true → D.atKey (.string s.data.toList) (.lit (.int .i64 0)) = .lit (.int .i64 (posn L s)))
theorem mapIs_nil : MapIs (.map []) [] := ⟨tidy_empty, rfl, fun _ => ⟨rfl, fun h => by cases h⟩⟩
theorem keyLit (s : ByteArray) : WideAt.IsKeyLit (.string s.data.toList) := trivial
theorem mapIs_put {D : DataW Unit} {L : List ByteArray} (h : MapIs D L) {s : ByteArray} (hs : thereB L s = false) : MapIs (D.put (.string s.data.toList) (.lit (.int .i64 ((flat L).length : Int)))) (L ++ [s]) := by
  obtain ⟨h1, h2, h3⟩ := h
  have hs' := thereB_not.1 hs
  refine ⟨h1.put (keyLit s) _, ?_, fun t => ?_⟩
  · rw [size_put h1, (h3 s).1, hs, h2]; simp
  · by_cases e : t = s
    · subst e
      refine ⟨?_, fun _ => ?_⟩
      · rw [has_put_same h1.isMap (keyLit t), eq_comm, thereB_iff]; simp
      · rw [atKey_put_same h1.isMap (keyLit t), posn_snoc L t hs']
    · have hne : Lit.string t.data.toList ≠ Lit.string s.data.toList := fun h => e (bytes_eq' (Lit.string.inj h))
      have ht : thereB (L ++ [s]) t = thereB L t := by
        rw [Bool.eq_iff_iff, thereB_iff, thereB_iff, List.mem_append, List.mem_singleton]
        exact ⟨fun h => h.elim id (fun h => absurd h e), .inl⟩
      refine ⟨by rw [has_put_other hne, (h3 t).1, ht], fun hth => ?_⟩
      rw [ht] at hth
      rw [atKey_put_other hne, (h3 t).2 hth, posn_app L [s] t (thereB_iff.1 hth)]

/-- Its blocks. -/
def fpB (g : Nat) (v : Value) (m : Option Nat) (k : Nat) : Prop := k = g ∨ v.ownBlock = some k ∨ m = some k
section
variable {w w' : World} {g b : Nat} {v : Value} {m : Option Nat} {D : DataW Unit} {L : List ByteArray} {F F' : Nat → Prop}
end
/-- How an own slice of bytes is written. -/
theorem slice_of {w : World} {base e : Nat} {v : Value} {n : Nat} {xs : List Value} (h : w.ownsRow base e 1 v n xs) : ∃ A cap, v = .slice A n cap := by
  rcases h.2 with ⟨rfl, rfl⟩ | ⟨g, cap, cur, rfl, _⟩
  · exact ⟨_, _, rfl⟩
  · exact ⟨_, _, rfl⟩
theorem row_string {w : World} {base : Nat} {v : Value} {l : List UInt8} (h : w.ownsRow base 5 1 v l.length (Lib.byteCells l)) : (convert 66 9 v).run Try.prog w = .ok (.string ⟨l.toArray⟩) w := by
  by_cases h0 : l = []
  · subst h0
    rcases h.2 with ⟨rfl, _⟩ | ⟨g, cap, cur, rfl, _⟩
    · exact Lib.run_convert_nil_bytes w _ _ 5 0 Try.underlying66 Try.underlying5 Try.underlying9
    · exact run_convert_bytes_back w 66 9 5 ⟨g, 0, none⟩ cap [] Try.underlying66 Try.underlying5 Try.underlying9 (fun j hj => by simp at hj)
  · rcases h.2 with ⟨_, hn⟩ | ⟨g, cap, cur, rfl, hg, hc, hle, _, hz, ht⟩
    · exact absurd (List.length_eq_zero_iff.1 hn) h0
    · refine run_convert_bytes_back w 66 9 5 ⟨g, 0, none⟩ cap l Try.underlying66 Try.underlying5 Try.underlying9 (fun j hj => ?_)
      have e : (⟨g, 0, none⟩ : Addr).add j = ⟨g, j, none⟩ := by unfold Addr.add; split <;> simp_all
      have e2 : (Lib.byteCells l)[j]? = some (.int .u8 (l[j].toNat : Int)) := by simp [Lib.byteCells, hj]
      rw [e, cell_of_row w g j cur _ _ hc, ← e2, ← ht, List.getElem?_take_of_lt (by omega), Array.getElem?_toList]

end Go.Proofs.Ytmgmpjgofolkgaa

/- What own and Add of a Block do. Conditions: at most 2^30 strings are there, and the string to be added fits. -/
namespace Go.Proofs.Ytmgmpjgofolkgaa
open Go.RowKit Go.Maps Go.WideMaps

/-- A map stays while a slice of the call's own grows. -/
theorem map_moved {w w' : World} {b n : Nat} {R : Value → Option (DataW Unit × List MemPlace)} {D : DataW Unit} {v v' : Value} {base e size l : Nat} {xs : List Value} (h : w.ownsMap Try.prog 9 R b n D) (ho : w.ownsRow base e size v l xs) (hm : Moved w w' (ownS v) (ownS v')) : w'.ownsMap Try.prog 9 R b n D := by
  have hlt := h.lt
  obtain ⟨es, clock, hb, F1, hs, hD⟩ := h
  refine ⟨es, clock, (hm.block b hlt (fun hk => ?_)).trans hb, F1, hs, hD⟩
  obtain ⟨cur, hc⟩ := ow_type ho hk
  rw [hb] at hc; injection hc with hc; cases hc
theorem map_arr_ne {w : World} {b n g t : Nat} {cs : Array Value} {R : Value → Option (DataW Unit × List MemPlace)} {D : DataW Unit} {k : TypeId} {P : Program} (h : w.ownsMap P k R b n D) (hA : Arr w g t cs) : b ≠ g := by
  rintro rfl
  obtain ⟨es, clock, hb, _⟩ := h
  unfold Arr at hA
  rw [hb] at hA
  injection hA with hA
  cases hA
theorem map_row_ne {w : World} {b n : Nat} {R : Value → Option (DataW Unit × List MemPlace)} {D : DataW Unit} {k : TypeId} {P : Program} {base e size l : Nat} {v : Value} {xs : List Value} (h : w.ownsMap P k R b n D) (ho : w.ownsRow base e size v l xs) : v.ownBlock ≠ some b := by
  intro hk
  obtain ⟨es, clock, hb, _⟩ := h
  obtain ⟨cur, hc⟩ := ow_type ho hk
  rw [hb] at hc; injection hc with hc; cases hc
theorem fpB_moved {w w' : World} {g : Nat} {v v' : Value} {m : Option Nat} (h : Moved w w' (ownS v) (ownS v')) : Moved w w' (fpB g v m) (fpB g v' m) :=
  h.inside (fun _ hk => .inr (.inl hk)) (fun k hk => by
    rcases hk with hk | hk | hk
    · exact .inl (.inl hk)
    · exact .inr (.inl hk)
    · exact .inl (.inr (.inr hk)))
theorem fpB_cell {w w' : World} {g : Nat} {v : Value} {m : Option Nat} (h : w.grownBy w' (some g)) : Moved w w' (fpB g v m) (fpB g v m) :=
  Moved.grown h (fun k hk => by injection hk with hk; exact .inl hk.symm) (fun _ hk => .inl hk)
theorem fpB_map {w w' : World} {g b : Nat} {v : Value} (h : w.grownBy w' (some b)) : Moved w w' (fpB g v (some b)) (fpB g v (some b)) :=
  Moved.grown h (fun _ hk => .inr (.inr hk)) (fun _ hk => .inl hk)
theorem strCells_eq (s : ByteArray) : Lib.strCells s = Lib.byteCells s.data.toList := rfl

end Go.Proofs.Ytmgmpjgofolkgaa

/- A slice of strings that came in, read as a list. No condition: nothing of the program stands in it. -/
namespace Go.Proofs.Ytmgmpjgofolkgaa
open Go.RowKit

/-- The slice at A reads as the strings l. -/
def RdT (w : World) (A : Option Addr) (l : List ByteArray) : Prop := l = [] ∨ ∃ b off, A = some ⟨b, off, none⟩ ∧ ∀ k, k < l.length → w.cell? ⟨b, off + k, none⟩ = some (.string (l.getD k ByteArray.empty))
theorem RdT.at_ {w : World} {A : Option Addr} {l : List ByteArray} (h : RdT w A l) {k : Nat} (hk : k < l.length) : ∃ b off x, A = some ⟨b, off, none⟩ ∧ w.cell? ⟨b, off + k, none⟩ = some (.string x) ∧ Hid (l.getD k ByteArray.empty = x) := by
  rcases h with rfl | ⟨b, off, rfl, hc⟩
  · simp at hk
  · exact ⟨b, off, _, rfl, hc k hk, rfl⟩
theorem RdT.below {w w' : World} {A : Option Addr} {l : List ByteArray} (h : RdT w A l) (hb : Below w.heap.size w w') : RdT w' A l := by
  rcases h with h | ⟨b, off, rfl, hc⟩
  · exact .inl h
  · refine .inr ⟨b, off, rfl, fun k hk => ?_⟩
    have hck := hc k hk
    rw [World.cell?_of_block (a := ⟨b, off + k, none⟩) (hb.block b (World.block_lt_of_cell? w _ hck))]
    exact hck
/-- Strings of a block that the call has laid. -/
theorem rdT_new (w : World) (t : TypeId) (l : List ByteArray) : RdT (w.alloc (.cells (l.map Value.string).toArray t)) (some ⟨w.heap.size, 0, none⟩) l := by
  have h := Arr.new w t (l.map Value.string).toArray
  refine .inr ⟨w.heap.size, 0, rfl, fun k hk => ?_⟩
  rw [h.cell, Nat.zero_add]
  simp [hk]
end Go.Proofs.Ytmgmpjgofolkgaa

/- What Offsets returns. Conditions: a slice that reads as at most 40 strings, each of which fits. -/
namespace Go.Proofs.Ytmgmpjgofolkgaa
open Go.RowKit Go.Maps Go.WideMaps

theorem elemI : ElemIs Try.prog 59 3 (.int .i64 0) 8 := elemIs_mk Try.underlying59 rfl (by kernel_rfl)
/-- Places as cells. -/
def natV (l : List Nat) : List Value := l.map fun (n : Nat) => Value.int .i64 (n : Int)
theorem natV_snoc (l : List Nat) (x : Nat) : natV (l ++ [x]) = natV l ++ [.int .i64 (x : Int)] := by simp [natV]
/-- What Offsets returns: the places, the bytes, the error. -/
def offN (l : List ByteArray) : List Nat := if allB l = true then plc [] l else []
def offS (l : List ByteArray) : ByteArray := if allB l = true then ⟨(flat (adds [] l)).toArray⟩ else ⟨#[]⟩
def offE (l : List ByteArray) : Nat := if allB l = true then 0 else 1
theorem off_bad {l : List ByteArray} (h : allB l = false) : offN l = [] ∧ offS l = ⟨#[]⟩ ∧ offE l = 1 := by
  unfold offN offS offE; rw [h]; exact ⟨rfl, rfl, rfl⟩
theorem off_good {l : List ByteArray} (h : allB l = true) : offN l = plc [] l ∧ offS l = ⟨(flat (adds [] l)).toArray⟩ ∧ offE l = 0 := by
  unfold offN offS offE; rw [h]; exact ⟨rfl, rfl, rfl⟩
section
variable {B : Nat} {w w' : World} {g : Nat} {u u' : Value} {L : List ByteArray} {P P' : List Nat}
end

end Go.Proofs.Ytmgmpjgofolkgaa

/- The document's Block in memory: its strings, their places, its bytes; what its Add does. Conditions: at most 2^30 strings are there, and the string to be added fits. -/
namespace Go.Proofs.Ytmgmpjgofolkgaa
open Go.RowKit

theorem str_eq {a b : ByteArray} : (a.toList == b.toList) = decide (a = b) := by
  by_cases h : a = b
  · subst h; simp
  · have : ¬ a.toList = b.toList := fun e => h (by
      rw [ByteArray.toList_eq, ByteArray.toList_eq] at e
      exact ByteArray.ext (Array.ext' e))
    simp [h, this]
theorem row_rdT {w : World} {base e : Nat} {v : Value} {l : List ByteArray} (h : w.ownsRow base e 1 v l.length (l.map Value.string)) : ∃ A cap, v = .slice A l.length cap ∧ RdT w A l := by
  rcases h.2 with ⟨rfl, hz⟩ | ⟨g, cap, cur, rfl, hb, hg, _, _, _, hx⟩
  · exact ⟨none, 0, by rw [hz], .inl (List.length_eq_zero_iff.1 hz)⟩
  · refine ⟨_, cap, rfl, .inr ⟨g, 0, rfl, fun k hk => ?_⟩⟩
    rw [Nat.zero_add, cell_of_row w g k cur _ (0, 0) hg]
    have e : (cur.toList.take (l.length * 1))[k]? = (l.map Value.string)[k]? := by rw [hx]
    rw [List.getElem?_take_of_lt (by omega)] at e
    rw [← Array.getElem?_toList, e]
    simp [hk]
theorem row_rdK {w : World} {base e : Nat} {v : Value} {P : List Nat} (h : w.ownsRow base e 1 v P.length (natV P)) : ∃ A cap, v = .slice A P.length cap ∧ RdK .i64 w A (P.map Int.ofNat) := by
  rcases h.2 with ⟨rfl, hz⟩ | ⟨g, cap, cur, rfl, hb, hg, _, _, _, hx⟩
  · exact ⟨none, 0, by rw [hz], .inl (by simpa using List.length_eq_zero_iff.1 hz)⟩
  · refine ⟨_, cap, rfl, .inr ⟨g, 0, rfl, fun k hk => ?_⟩⟩
    rw [List.length_map] at hk
    rw [Nat.zero_add, cell_of_row w g k cur _ (0, 0) hg]
    have e : (cur.toList.take (P.length * 1))[k]? = (natV P)[k]? := by rw [hx]
    rw [List.getElem?_take_of_lt (by omega)] at e
    rw [← Array.getElem?_toList, e]
    simp [natV, hk]

def fpX (g : Nat) (lv av : Value) (k : Nat) : Prop := k = g ∨ lv.ownBlock = some k ∨ av.ownBlock = some k
section
variable {w w' : World} {g : Nat} {lv av lv' av' : Value} {L : List ByteArray} {F F' : Nat → Prop}
theorem fpX_cell (h : w.grownBy w' (some g)) : Moved w w' (fpX g lv av) (fpX g lv av) :=
  Moved.grown h (fun k hk => by injection hk with hk; exact .inl hk.symm) (fun _ hk => .inl hk)
theorem fpX_l (h : Moved w w' (ownS lv) (ownS lv')) : Moved w w' (fpX g lv av) (fpX g lv' av) :=
  h.inside (fun _ hk => .inr (.inl hk)) (fun k hk => by
    rcases hk with hk | hk | hk
    · exact .inl (.inl hk)
    · exact .inr (.inl hk)
    · exact .inl (.inr (.inr hk)))
theorem fpX_a (h : Moved w w' (ownS av) (ownS av')) : Moved w w' (fpX g lv av) (fpX g lv av') :=
  h.inside (fun _ hk => .inr (.inr hk)) (fun k hk => by
    rcases hk with hk | hk | hk
    · exact .inl (.inl hk)
    · exact .inl (.inr (.inl hk))
    · exact .inr (.inl hk))
end
/-- A row of another kind stays while an own slice grows. -/
theorem row_beside {w w' : World} {u u' v : Value} {base e e' size size' base' n n' : Nat} {xs ys : List Value} (h : w.ownsRow base e size v n xs) (ho : w.ownsRow base' e' size' u n' ys) (hne : e ≠ e') (hm : Moved w w' (ownS u) (ownS u')) : w'.ownsRow base e size v n xs :=
  hm.row h (fun k hk hu => by
    rcases ow_ow h ho hne with h1 | h1
    · rw [h1] at hk; cases hk
    · exact h1 (by rw [hk]; exact hu.symm))
theorem arr_beside {w w' : World} {u u' : Value} {g t : Nat} {cs : Array Value} {e' size' base' n' : Nat} {ys : List Value} (h : Arr w g t cs) (ho : w.ownsRow base' e' size' u n' ys) (hne : t ≠ e') (hm : Moved w w' (ownS u) (ownS u')) : Arr w' g t cs :=
  hm.arr h (fun hk => ow_arr h ho hne hk.symm)
theorem posn_map_snoc {L : List ByteArray} {s : ByteArray} (h : thereB L s = false) : natV ((L ++ [s]).map (posn (L ++ [s]))) = natV (L.map (posn L)) ++ [.int .i64 ((flat L).length : Int)] := by
  rw [List.map_append, List.map_cons, List.map_nil, natV_snoc, posn_snoc L s (thereB_not.1 h)]
  congr 2
  exact List.map_congr_left (fun x hx => posn_app L [s] x hx)
theorem flat_str (L : List ByteArray) (s : ByteArray) : (⟨(flat L).toArray⟩ : ByteArray) ++ s ++ (⟨#[0]⟩ : ByteArray) = ⟨(flat (L ++ [s])).toArray⟩ := by
  apply ByteArray.ext
  apply Array.ext'
  rw [ByteArray.data_append, ByteArray.data_append, Array.toList_append, Array.toList_append, flat_app, flat_one]
  simp

end Go.Proofs.Ytmgmpjgofolkgaa
