/- A Block in memory: its bytes, its map of positions, its count; what own, Bytes and Add do. Conditions: at most 2^30 strings are there. -/
import Derived.Test.YtfcclppgjfkfoaaDoorMg17
import Derived.Test.YtfcclppgjfkfoaaDoorMg5
import Derived.Maps.OwnSet
import Derived.Lib.BufferRead
import Derived.Lib.SliceRun
import Derived.Deep.DeepCutAuto
import Derived.Carry
namespace Go.Proofs.YtfcclppgjfkfoaaDoor
open Go.RowKit Go.Maps Go.WideMaps

theorem keyS : Keyed Tryd.prog 9 := string_keyed Tryd.underlying9
theorem zeroI (w : World) : (zeroValue 3).run Tryd.prog w = .ok (.int .i64 0) w := by kernel_rfl
theorem elemB : ElemIs Tryd.prog 75 5 (.int .u8 0) 1 := elemIs_mk Tryd.underlying75 rfl (by kernel_rfl)
theorem bytes_eq' {a b : ByteArray} (h : a.data.toList = b.data.toList) : a = b := ByteArray.ext (Array.ext' h)
/-- A map's reading is the strings L with their places. -/
def MapIs (D : DataW Unit) (L : List ByteArray) : Prop :=
  Tidy D ∧ Maps.size D = L.length ∧ ∀ s : ByteArray, Maps.has D (.string s.data.toList) = thereB L s ∧ (thereB L s = true → D.atKey (.string s.data.toList) (.lit (.int .i64 0)) = .lit (.int .i64 (posn L s)))
theorem mapIs_nil : MapIs (.map []) [] := ⟨tidy_empty, rfl, fun _ => ⟨rfl, fun h => by cases h⟩⟩
theorem keyLit (s : ByteArray) : WideAt.IsKeyLit (.string s.data.toList) := trivial
theorem mapIs_put {D : DataW Unit} {L : List ByteArray} (h : MapIs D L) {s : ByteArray} (hs : thereB L s = false) : MapIs (D.put (.string s.data.toList) (.lit (.int .i64 ((flat L).length : Int)))) (L ++ [s]) := by
  obtain ⟨h1, h2, h3⟩ := h
  have hs' := thereB_not.1 hs
  refine ⟨h1.put (keyLit s) _, ?_, fun t => ?_⟩
  · rw [size_put h1, (h3 s).1, hs, h2]; simp
  · by_cases e : t = s
    · subst e
      refine ⟨?_, fun _ => ?_⟩
      · rw [has_put_same h1.isMap (keyLit t), eq_comm, thereB_iff]; simp
      · rw [atKey_put_same h1.isMap (keyLit t), posn_snoc L t hs']
    · have hne : Lit.string t.data.toList ≠ Lit.string s.data.toList := fun h => e (bytes_eq' (Lit.string.inj h))
      have ht : thereB (L ++ [s]) t = thereB L t := by
        rw [Bool.eq_iff_iff, thereB_iff, thereB_iff, List.mem_append, List.mem_singleton]
        exact ⟨fun h => h.elim id (fun h => absurd h e), .inl⟩
      refine ⟨by rw [has_put_other hne, (h3 t).1, ht], fun hth => ?_⟩
      rw [ht] at hth
      rw [atKey_put_other hne, (h3 t).2 hth, posn_app L [s] t (thereB_iff.1 hth)]

/-- Block g is a Block of the strings L, its bytes in v, its map m; BK1: one that has a map. -/
def BK1 (w : World) (g : Nat) (v : Value) (b : Nat) (D : DataW Unit) (L : List ByteArray) : Prop :=
  Arr w g 78 #[v, .map (some b), .int .i64 (L.length : Int)] ∧ w.ownsRow 0 5 1 v (flat L).length (Lib.byteCells (flat L)) ∧ okL L ∧
    w.ownsMap Tryd.prog 9 (plainElem Tryd.prog 3) b L.length D ∧ MapIs D L
def BK0 (w : World) (g : Nat) (v : Value) (m : Option Nat) (L : List ByteArray) : Prop := L = [] ∧ v = .slice none 0 0 ∧ m = none ∧ Arr w g 78 #[.slice none 0 0, .map none, .int .i64 0]
def BK (w : World) (g : Nat) (v : Value) (m : Option Nat) (L : List ByteArray) : Prop := BK0 w g v m L ∨ ∃ b D, m = some b ∧ BK1 w g v b D L
/-- Its blocks. -/
def fpB (g : Nat) (v : Value) (m : Option Nat) (k : Nat) : Prop := k = g ∨ v.ownBlock = some k ∨ m = some k
section
variable {w w' : World} {g b : Nat} {v : Value} {m : Option Nat} {D : DataW Unit} {L : List ByteArray} {F F' : Nat → Prop}
theorem BK1.kept (h : BK1 w g v b D L) (hm : Moved w w' F F') (hf : ∀ k, fpB g v (some b) k → ¬ F k) : BK1 w' g v b D L := by
  obtain ⟨h1, h2, h3, h4, h5⟩ := h
  have hlt := h4.lt
  obtain ⟨es, clock, hb, F1, hs, hD⟩ := h4
  exact ⟨hm.arr h1 (hf g (.inl rfl)), hm.row h2 (fun k hk => hf k (.inr (.inl hk))), h3, ⟨es, clock, (hm.block b hlt (hf b (.inr (.inr rfl)))).trans hb, F1, hs, hD⟩, h5⟩
theorem BK.kept (h : BK w g v m L) (hm : Moved w w' F F') (hf : ∀ k, fpB g v m k → ¬ F k) : BK w' g v m L := by
  rcases h with ⟨h1, h2, h3, h4⟩ | ⟨b, D, rfl, h⟩
  · exact .inl ⟨h1, h2, h3, hm.arr h4 (hf g (.inl rfl))⟩
  · exact .inr ⟨b, D, rfl, h.kept hm hf⟩
theorem BK.below (h : BK w g v m L) (hb : Below w.heap.size w w') : BK w' g v m L := h.kept (Moved.of_below hb (fun _ => False)) (fun _ _ h => h)
theorem BK1.below (h : BK1 w g v b D L) (hb : Below w.heap.size w w') : BK1 w' g v b D L := h.kept (Moved.of_below hb (fun _ => False)) (fun _ _ h => h)
theorem BK.lt (h : BK w g v m L) {k : Nat} (hk : fpB g v m k) : k < w.heap.size := by
  rcases h with ⟨_, rfl, rfl, h4⟩ | ⟨b, D, rfl, h1, h2, _, h4, _⟩
  · rcases hk with rfl | hk | hk
    · exact h4.lt
    · cases hk
    · cases hk
  · rcases hk with rfl | hk | hk
    · exact h1.lt
    · obtain ⟨cur, hc⟩ := ow_type h2 hk
      exact (Array.getElem?_eq_some_iff.1 hc).1
    · injection hk with hk; subst hk; exact h4.lt
theorem BK.ok (h : BK w g v m L) : okL L := by
  rcases h with ⟨rfl, _⟩ | ⟨b, D, rfl, h⟩
  · exact okL_nil
  · exact h.2.2.1
theorem BK.row (h : BK w g v m L) : w.ownsRow 0 5 1 v (flat L).length (Lib.byteCells (flat L)) := by
  rcases h with ⟨rfl, rfl, _⟩ | ⟨b, D, rfl, h⟩
  · exact World.ownsRow_nil _ _ _ _
  · exact h.2.1
theorem BK.cell0 (h : BK w g v m L) : w.cell? ⟨g, 0, none⟩ = some v := by
  rcases h with ⟨_, rfl, _, h4⟩ | ⟨b, D, rfl, h⟩
  · exact h4.cell 0
  · exact h.1.cell 0
/-- No block of another kind is one of its blocks. -/
theorem BK.not_arr (h : BK w g v m L) {g' t : Nat} {cs : Array Value} (hA : Arr w g' t cs) (h1 : t ≠ 78) (h2 : t ≠ 5) : ¬ fpB g v m g' := by
  unfold Arr at hA
  rintro (rfl | hk | hk)
  · rcases h with ⟨_, _, _, h4⟩ | ⟨b, D, rfl, h, _⟩
    · unfold Arr at h4; rw [hA] at h4; injection h4 with h4; injection h4 with _ h5; exact h1 h5
    · unfold Arr at h; rw [hA] at h; injection h with h; injection h with _ h5; exact h1 h5
  · obtain ⟨cur, hc⟩ := ow_type h.row hk
    rw [hA] at hc; injection hc with hc; injection hc with _ h5; exact h2 h5
  · rcases h with ⟨_, _, h3, _⟩ | ⟨b, D, rfl, _, _, _, h4, _⟩
    · rw [h3] at hk; cases hk
    · injection hk with hk
      subst hk
      obtain ⟨es, clock, hb, _⟩ := h4
      rw [hA] at hb; injection hb with hb; cases hb
end
/-- How an own slice of bytes is written. -/
theorem slice_of {w : World} {base e : Nat} {v : Value} {n : Nat} {xs : List Value} (h : w.ownsRow base e 1 v n xs) : ∃ A cap, v = .slice A n cap := by
  rcases h.2 with ⟨rfl, rfl⟩ | ⟨g, cap, cur, rfl, _⟩
  · exact ⟨_, _, rfl⟩
  · exact ⟨_, _, rfl⟩
theorem row_string {w : World} {base : Nat} {v : Value} {l : List UInt8} (h : w.ownsRow base 5 1 v l.length (Lib.byteCells l)) : (convert 75 9 v).run Tryd.prog w = .ok (.string ⟨l.toArray⟩) w := by
  by_cases h0 : l = []
  · subst h0
    rcases h.2 with ⟨rfl, _⟩ | ⟨g, cap, cur, rfl, _⟩
    · exact Lib.run_convert_nil_bytes w _ _ 5 0 Tryd.underlying75 Tryd.underlying5 Tryd.underlying9
    · exact run_convert_bytes_back w 75 9 5 ⟨g, 0, none⟩ cap [] Tryd.underlying75 Tryd.underlying5 Tryd.underlying9 (fun j hj => by simp at hj)
  · rcases h.2 with ⟨_, hn⟩ | ⟨g, cap, cur, rfl, hg, hc, hle, _, hz, ht⟩
    · exact absurd (List.length_eq_zero_iff.1 hn) h0
    · refine run_convert_bytes_back w 75 9 5 ⟨g, 0, none⟩ cap l Tryd.underlying75 Tryd.underlying5 Tryd.underlying9 (fun j hj => ?_)
      have e : (⟨g, 0, none⟩ : Addr).add j = ⟨g, j, none⟩ := by unfold Addr.add; split <;> simp_all
      have e2 : (Lib.byteCells l)[j]? = some (.int .u8 (l[j].toNat : Int)) := by simp [Lib.byteCells, hj]
      rw [e, cell_of_row w g j cur _ _ hc, ← e2, ← ht, List.getElem?_take_of_lt (by omega), Array.getElem?_toList]

set_option maxRecDepth 100000 in
theorem sclone_nil (w : World) : Calls Tryd.prog 81 #[.slice none 0 0] w fun e w' => e = .returned (.slice none 0 0) ∧ w = w' := by
  have q22 : ∀ (w : World) (a : Option Addr) (n c n' c' : Nat), (binOp .eql 75 (.slice a n c) (.slice none n' c')).run Tryd.prog w = .ok (.bool a.isNone) w := fun w a n c n' c' => Lib.run_eql_slice_nil w _ _ a n c n' c' Tryd.underlying75
  go_enter Tryd.func81, Tryd.ntmps81
  go_wp2
  go_ret
  exact ⟨rfl, rfl⟩
set_option maxRecDepth 100000 in
theorem spositions_none (w : World) : Calls Tryd.prog 82 #[.string ⟨#[]⟩] w fun e w' => e = .returned (.map (some w.heap.size)) ∧ w' = w.alloc (.map #[] 0) := by
  have hmm := @run_makeMap Tryd.prog
  go_enter Tryd.func82, Tryd.ntmps82
  go_wp2
  refine wp_loop_rounds 1 ?_
  rw [rounds_succ]
  go_wp2
  go_ret
  exact ⟨rfl, rfl⟩
end Go.Proofs.YtfcclppgjfkfoaaDoor
