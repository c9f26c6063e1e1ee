/- A Block in memory: its bytes, its map of positions, its count; what own, Bytes and Add do. Conditions: at most 2^30 strings are there. -/
import Derived.Test.YtfcclppgjfkfoaaGreatDoorMg13
import Derived.Test.YtfcclppgjfkfoaaGreatDoorMg4
import Derived.Maps.OwnSet
import Derived.Lib.BufferRead
import Derived.Lib.SliceRun
import Derived.Deep.DeepCutAuto
import Derived.Carry
import Derived.Test.YtfcclppgjfkfoaaGreatDoorMg3
namespace Go.Proofs.YtfcclppgjfkfoaaGreatDoor
open Go.RowKit Go.Maps Go.WideMaps

theorem keyS : Keyed Tryz.prog 9 := string_keyed Tryz.underlying9
theorem zeroI (w : World) : (zeroValue 3).run Tryz.prog w = .ok (.int .i64 0) w := by kernel_rfl
theorem elemB : ElemIs Tryz.prog 101 5 (.int .u8 0) 1 := elemIs_mk Tryz.underlying101 rfl (by kernel_rfl)
theorem bytes_eq' {a b : ByteArray} (h : a.data.toList = b.data.toList) : a = b := ByteArray.ext (Array.ext' h)
/-- A map's reading is the strings L with their places. -/
def MapIs (D : DataW Unit) (L : List ByteArray) : Prop :=
  Tidy D ∧ Maps.size D = L.length ∧ ∀ s : ByteArray, Maps.has D (.string s.data.toList) = thereB L s ∧ (thereB L s = true → D.atKey (.string s.data.toList) (.lit (.int .i64 0)) = .lit (.int .i64 (posn L s)))
theorem mapIs_nil : MapIs (.map []) [] := ⟨tidy_empty, rfl, fun _ => ⟨rfl, fun h => by cases h⟩⟩
theorem keyLit (s : ByteArray) : WideAt.IsKeyLit (.string s.data.toList) := trivial
theorem mapIs_put {D : DataW Unit} {L : List ByteArray} (h : MapIs D L) {s : ByteArray} (hs : thereB L s = false) : MapIs (D.put (.string s.data.toList) (.lit (.int .i64 ((flat L).length : Int)))) (L ++ [s]) := by
  obtain ⟨h1, h2, h3⟩ := h
  have hs' := thereB_not.1 hs
  refine ⟨h1.put (keyLit s) _, ?_, fun t => ?_⟩
  · rw [size_put h1, (h3 s).1, hs, h2]; simp
  · by_cases e : t = s
    · subst e
      refine ⟨?_, fun _ => ?_⟩
      · rw [has_put_same h1.isMap (keyLit t), eq_comm, thereB_iff]; simp
      · rw [atKey_put_same h1.isMap (keyLit t), posn_snoc L t hs']
    · have hne : Lit.string t.data.toList ≠ Lit.string s.data.toList := fun h => e (bytes_eq' (Lit.string.inj h))
      have ht : thereB (L ++ [s]) t = thereB L t := by
        rw [Bool.eq_iff_iff, thereB_iff, thereB_iff, List.mem_append, List.mem_singleton]
        exact ⟨fun h => h.elim id (fun h => absurd h e), .inl⟩
      refine ⟨by rw [has_put_other hne, (h3 t).1, ht], fun hth => ?_⟩
      rw [ht] at hth
      rw [atKey_put_other hne, (h3 t).2 hth, posn_app L [s] t (thereB_iff.1 hth)]

/-- Block g is a Block of the strings L, its bytes in v, its map m; BK1: one that has a map. -/
def BK1 (w : World) (g : Nat) (v : Value) (b : Nat) (D : DataW Unit) (L : List ByteArray) : Prop :=
  Arr w g 113 #[v, .map (some b), .int .i64 (L.length : Int)] ∧ w.ownsRow 0 5 1 v (flat L).length (Lib.byteCells (flat L)) ∧ okL L ∧
    w.ownsMap Tryz.prog 9 (plainElem Tryz.prog 3) b L.length D ∧ MapIs D L
def BK0 (w : World) (g : Nat) (v : Value) (m : Option Nat) (L : List ByteArray) : Prop := L = [] ∧ v = .slice none 0 0 ∧ m = none ∧ Arr w g 113 #[.slice none 0 0, .map none, .int .i64 0]
def BK (w : World) (g : Nat) (v : Value) (m : Option Nat) (L : List ByteArray) : Prop := BK0 w g v m L ∨ ∃ b D, m = some b ∧ BK1 w g v b D L
/-- Its blocks. -/
def fpB (g : Nat) (v : Value) (m : Option Nat) (k : Nat) : Prop := k = g ∨ v.ownBlock = some k ∨ m = some k
section
variable {w w' : World} {g b : Nat} {v : Value} {m : Option Nat} {D : DataW Unit} {L : List ByteArray} {F F' : Nat → Prop}
theorem BK1.kept (h : BK1 w g v b D L) (hm : Moved w w' F F') (hf : ∀ k, fpB g v (some b) k → ¬ F k) : BK1 w' g v b D L := by
  obtain ⟨h1, h2, h3, h4, h5⟩ := h
  have hlt := h4.lt
  obtain ⟨es, clock, hb, F1, hs, hD⟩ := h4
  exact ⟨hm.arr h1 (hf g (.inl rfl)), hm.row h2 (fun k hk => hf k (.inr (.inl hk))), h3, ⟨es, clock, (hm.block b hlt (hf b (.inr (.inr rfl)))).trans hb, F1, hs, hD⟩, h5⟩
theorem BK.kept (h : BK w g v m L) (hm : Moved w w' F F') (hf : ∀ k, fpB g v m k → ¬ F k) : BK w' g v m L := by
  rcases h with ⟨h1, h2, h3, h4⟩ | ⟨b, D, rfl, h⟩
  · exact .inl ⟨h1, h2, h3, hm.arr h4 (hf g (.inl rfl))⟩
  · exact .inr ⟨b, D, rfl, h.kept hm hf⟩
theorem BK.below (h : BK w g v m L) (hb : Below w.heap.size w w') : BK w' g v m L := h.kept (Moved.of_below hb (fun _ => False)) (fun _ _ h => h)
theorem BK1.below (h : BK1 w g v b D L) (hb : Below w.heap.size w w') : BK1 w' g v b D L := h.kept (Moved.of_below hb (fun _ => False)) (fun _ _ h => h)
theorem BK.lt (h : BK w g v m L) {k : Nat} (hk : fpB g v m k) : k < w.heap.size := by
  rcases h with ⟨_, rfl, rfl, h4⟩ | ⟨b, D, rfl, h1, h2, _, h4, _⟩
  · rcases hk with rfl | hk | hk
    · exact h4.lt
    · cases hk
    · cases hk
  · rcases hk with rfl | hk | hk
    · exact h1.lt
    · obtain ⟨cur, hc⟩ := ow_type h2 hk
      exact (Array.getElem?_eq_some_iff.1 hc).1
    · injection hk with hk; subst hk; exact h4.lt
theorem BK.ok (h : BK w g v m L) : okL L := by
  rcases h with ⟨rfl, _⟩ | ⟨b, D, rfl, h⟩
  · exact okL_nil
  · exact h.2.2.1
theorem BK.row (h : BK w g v m L) : w.ownsRow 0 5 1 v (flat L).length (Lib.byteCells (flat L)) := by
  rcases h with ⟨rfl, rfl, _⟩ | ⟨b, D, rfl, h⟩
  · exact World.ownsRow_nil _ _ _ _
  · exact h.2.1
theorem BK.cell0 (h : BK w g v m L) : w.cell? ⟨g, 0, none⟩ = some v := by
  rcases h with ⟨_, rfl, _, h4⟩ | ⟨b, D, rfl, h⟩
  · exact h4.cell 0
  · exact h.1.cell 0
/-- No block of another kind is one of its blocks. -/
theorem BK.not_arr (h : BK w g v m L) {g' t : Nat} {cs : Array Value} (hA : Arr w g' t cs) (h1 : t ≠ 113) (h2 : t ≠ 5) : ¬ fpB g v m g' := by
  unfold Arr at hA
  rintro (rfl | hk | hk)
  · rcases h with ⟨_, _, _, h4⟩ | ⟨b, D, rfl, h, _⟩
    · unfold Arr at h4; rw [hA] at h4; injection h4 with h4; injection h4 with _ h5; exact h1 h5
    · unfold Arr at h; rw [hA] at h; injection h with h; injection h with _ h5; exact h1 h5
  · obtain ⟨cur, hc⟩ := ow_type h.row hk
    rw [hA] at hc; injection hc with hc; injection hc with _ h5; exact h2 h5
  · rcases h with ⟨_, _, h3, _⟩ | ⟨b, D, rfl, _, _, _, h4, _⟩
    · rw [h3] at hk; cases hk
    · injection hk with hk
      subst hk
      obtain ⟨es, clock, hb, _⟩ := h4
      rw [hA] at hb; injection hb with hb; cases hb
end
/-- How an own slice of bytes is written. -/
theorem slice_of {w : World} {base e : Nat} {v : Value} {n : Nat} {xs : List Value} (h : w.ownsRow base e 1 v n xs) : ∃ A cap, v = .slice A n cap := by
  rcases h.2 with ⟨rfl, rfl⟩ | ⟨g, cap, cur, rfl, _⟩
  · exact ⟨_, _, rfl⟩
  · exact ⟨_, _, rfl⟩
theorem row_string {w : World} {base : Nat} {v : Value} {l : List UInt8} (h : w.ownsRow base 5 1 v l.length (Lib.byteCells l)) : (convert 101 9 v).run Tryz.prog w = .ok (.string ⟨l.toArray⟩) w := by
  by_cases h0 : l = []
  · subst h0
    rcases h.2 with ⟨rfl, _⟩ | ⟨g, cap, cur, rfl, _⟩
    · exact Lib.run_convert_nil_bytes w _ _ 5 0 Tryz.underlying101 Tryz.underlying5 Tryz.underlying9
    · exact run_convert_bytes_back w 101 9 5 ⟨g, 0, none⟩ cap [] Tryz.underlying101 Tryz.underlying5 Tryz.underlying9 (fun j hj => by simp at hj)
  · rcases h.2 with ⟨_, hn⟩ | ⟨g, cap, cur, rfl, hg, hc, hle, _, hz, ht⟩
    · exact absurd (List.length_eq_zero_iff.1 hn) h0
    · refine run_convert_bytes_back w 101 9 5 ⟨g, 0, none⟩ cap l Tryz.underlying101 Tryz.underlying5 Tryz.underlying9 (fun j hj => ?_)
      have e : (⟨g, 0, none⟩ : Addr).add j = ⟨g, j, none⟩ := by unfold Addr.add; split <;> simp_all
      have e2 : (Lib.byteCells l)[j]? = some (.int .u8 (l[j].toNat : Int)) := by simp [Lib.byteCells, hj]
      rw [e, cell_of_row w g j cur _ _ hc, ← e2, ← ht, List.getElem?_take_of_lt (by omega), Array.getElem?_toList]

set_option maxHeartbeats 800000 in
set_option maxRecDepth 100000 in
theorem sbytes_any (g : Nat) (v : Value) (m : Option Nat) (L : List ByteArray) (w : World) (h : BK w g v m L) :
    Calls Tryz.prog 62 #[.pointer (some ⟨g, 0, none⟩)] w fun e w' => e = .returned (.string ⟨(flat L).toArray⟩) ∧ w = w' := by
  have c0 := h.cell0
  have HS := row_string h.row
  clear h
  generalize (ByteArray.mk (flat L).toArray) = S at *
  go_enter Tryz.func62, Tryz.ntmps62
  go_wp2
  go_ret
  exact ⟨rfl, rfl⟩
set_option maxRecDepth 100000 in
theorem sbytes_nil (w : World) : Calls Tryz.prog 62 #[.pointer none] w fun e w' => e = .returned (.string ⟨#[]⟩) ∧ w = w' := by
  go_enter Tryz.func62, Tryz.ntmps62
  go_wp2
  go_ret
  exact ⟨rfl, rfl⟩

set_option maxRecDepth 100000 in
theorem sclone_nil (w : World) : Calls Tryz.prog 121 #[.slice none 0 0] w fun e w' => e = .returned (.slice none 0 0) ∧ w = w' := by
  have q22 : ∀ (w : World) (a : Option Addr) (n c n' c' : Nat), (binOp .eql 101 (.slice a n c) (.slice none n' c')).run Tryz.prog w = .ok (.bool a.isNone) w := fun w a n c n' c' => Lib.run_eql_slice_nil w _ _ a n c n' c' Tryz.underlying101
  go_enter Tryz.func121, Tryz.ntmps121
  go_wp2
  go_ret
  exact ⟨rfl, rfl⟩
set_option maxRecDepth 100000 in
theorem spositions_none (w : World) : Calls Tryz.prog 122 #[.string ⟨#[]⟩] w fun e w' => e = .returned (.map (some w.heap.size)) ∧ w' = w.alloc (.map #[] 0) := by
  have hmm := @run_makeMap Tryz.prog
  go_enter Tryz.func122, Tryz.ntmps122
  go_wp2
  refine wp_loop_rounds 1 ?_
  rw [rounds_succ]
  go_wp2
  go_ret
  exact ⟨rfl, rfl⟩
end Go.Proofs.YtfcclppgjfkfoaaGreatDoor

/- What own and Add of a Block do. Conditions: at most 2^30 strings are there, and the string to be added fits. -/
namespace Go.Proofs.YtfcclppgjfkfoaaGreatDoor
open Go.RowKit Go.Maps Go.WideMaps

set_option maxHeartbeats 1600000 in
set_option maxRecDepth 100000 in
theorem sown_any (g : Nat) (v : Value) (m : Option Nat) (L : List ByteArray) (w : World) (h : BK w g v m L) :
    Calls Tryz.prog 108 #[.pointer (some ⟨g, 0, none⟩)] w fun e w' => e = .returned (.tuple #[]) ∧ ∃ b D, BK1 w' g v b D L ∧ Moved w w' (fpB g v m) (fpB g v (some b)) := by
  rcases h with ⟨rfl, rfl, rfl, hA⟩ | ⟨b, D, rfl, h1, h2, h3, h4, h5⟩
  · have c0 : w.cell? ⟨g, 0, none⟩ = some (.slice none 0 0) := hA.cell 0
    have c1 : w.cell? ⟨g, 1, none⟩ = some (.map none) := hA.cell 1
    have c2 : w.cell? ⟨g, 2, none⟩ = some (.int .i64 0) := hA.cell 2
    have HA := Lib.hid hA
    have qn : ∀ W : World, (binOp .neq 111 (.map none) (.map none)).run Tryz.prog W = .ok (.bool false) W := fun W => run_neq_map_nil W _ _ _ none Tryz.underlying111
    clear hA
    go_enter Tryz.func108, Tryz.ntmps108
    go_wp2
    go_quiet (fail)
    have HA1 : Hid (Arr (w.drewN nq) g 113 #[.slice none 0 0, .map none, .int .i64 0]) := HA.out.drewN nq
    have HM1 : Hid (w.grownBy (w.drewN nq) (some g)) := gr_below (below_drewN w nq)
    generalize w.drewN nq = w1 at *
    have c0 : w1.cell? ⟨g, 0, none⟩ = some (.slice none 0 0) := HA1.out.cell 0
    have f0 := HA1.out.frozen 0
    go_wp2_with fail
    refine (sclone_nil _).mono ?_
    rintro e w2 ⟨rfl, rfl⟩
    have HA2 : Hid (Arr (w1.setCell ⟨g, 0, none⟩ (.slice none 0 0)) g 113 #[.slice none 0 0, .map none, .int .i64 0]) := HA1.out.put 0 (.slice none 0 0)
    have HM2 : Hid (w.grownBy (w1.setCell ⟨g, 0, none⟩ (.slice none 0 0)) (some g)) := World.grownBy.trans HM1.out (gr_cell _ _ _ _)
    have hconv := fun W : World => Lib.run_convert_nil_bytes W 101 9 5 0 Tryz.underlying101 Tryz.underlying5 Tryz.underlying9
    go_upto_region 2 with fail
    generalize w1.setCell ⟨g, 0, none⟩ (.slice none 0 0) = w3 at *
    have c0 : w3.cell? ⟨g, 0, none⟩ = some (.slice none 0 0) := HA2.out.cell 0
    go_wp2_with fail
    refine (spositions_none _).mono ?_
    rintro e w4 ⟨rfl, rfl⟩
    have HA4 : Hid (Arr (w3.alloc (.map #[] 0)) g 113 #[.slice none 0 0, .map none, .int .i64 0]) := HA2.out.alloc _
    have HM4 : Hid (w.grownBy (w3.alloc (.map #[] 0)) (some g)) := World.grownBy.trans HM2.out (World.grownBy_alloc _ _ _)
    have HO4 := Lib.hid (World.ownsMap_made w3 Tryz.prog 9 (plainElem (H := Unit) Tryz.prog 3))
    have hge : w.heap.size ≤ w3.heap.size := HM2.out.size
    generalize w3.heap.size = b at *
    generalize w3.alloc (.map #[] 0) = w4 at *
    have f1 := HA4.out.frozen 1
    have c1 : w4.cell? ⟨g, 1, none⟩ = some (.map none) := HA4.out.cell 1
    have hgb : b ≠ g := by
      rintro rfl
      obtain ⟨es, clock, hb, _⟩ := HO4.out
      have := HA4.out
      unfold Arr at this
      rw [hb] at this
      injection this with this
      cases this
    have HF : Hid (BK1 (w4.setCell ⟨g, 1, none⟩ (.map (some b))) g (.slice none 0 0) b (.map []) []) :=
      ⟨HA4.out.put 1 _, World.ownsRow_nil _ _ _ _, okL_nil, HO4.out.setCell (a := ⟨g, 1, none⟩) hgb _, mapIs_nil⟩
    have HM5 : Hid (Moved w (w4.setCell ⟨g, 1, none⟩ (.map (some b))) (fpB g (.slice none 0 0) none) (fpB g (.slice none 0 0) (some b))) :=
      Moved.grown (World.grownBy.trans HM4.out (gr_cell _ _ _ _)) (fun k hk => by injection hk with hk; exact .inl hk.symm) (fun k hk => by
        rcases hk with h | h | h
        · exact .inl (.inl h)
        · cases h
        · injection h with h; exact .inr (h ▸ hge))
    go_wp2
    go_end0
    exact ⟨rfl, b, _, HF.out, HM5.out⟩
  · have c1 : w.cell? ⟨g, 1, none⟩ = some (.map (some b)) := h1.cell 1
    have c2 : w.cell? ⟨g, 2, none⟩ = some (.int .i64 (L.length : Int)) := h1.cell 2
    have hlen : ∀ (n : Nat) (ty : TypeId), (Builtin.len_ #[111] ty #[.map (some b)]).run Tryz.prog (w.drewN n) = .ok (.int .i64 (L.length : Int)) (w.drewN n) := fun n ty => by
      have := World.ownsMap.len (w := w.drewN n) (show (w.drewN n).ownsMap Tryz.prog _ _ b _ D from h4) Tryz.underlying111 ty
      rw [this, h5.2.1]
    have hlen0 := hlen 0
    have qn : ∀ W : World, (binOp .neq 111 (.map (some b)) (.map none)).run Tryz.prog W = .ok (.bool true) W := fun W => run_neq_map_nil W _ _ _ (some b) Tryz.underlying111
    have d0 : ((L.length : Int) == (L.length : Int)) = true := by simp
    have HB : Hid (∀ n, BK1 (w.drewN n) g v b D L) := fun n => BK1.below ⟨h1, h2, h3, h4, h5⟩ (below_drewN w n)
    clear h1 h2 h3 h4 h5
    generalize L.length = l at *
    go_enter Tryz.func108, Tryz.ntmps108
    go_wp2
    go_quiet (fail)
    go_wp2
    (try simp only [Exit.inBlock, Exit.then]); refine bodyPost_ret (results_none rfl _ _ _) rfl ?_
    exact ⟨rfl, b, D, HB.out _, Moved.of_below (below_drewN w _) _⟩

/-- A look-up in the map. -/
theorem look_hit {w : World} {b n : Nat} {D : DataW Unit} {L : List ByteArray} (h : w.ownsMap Tryz.prog 9 (plainElem Tryz.prog 3) b n D) (hD : MapIs D L) {s : ByteArray} (hl : s.size ≤ maxLen) (ht : thereB L s = true) :
    (Instr.lookup 111 (.map (some b)) (.string s) true).run Tryz.prog w = .ok (.tuple #[.int .i64 (posn L s : Int), .bool true]) w := by
  obtain ⟨v, ps, hrun, hv⟩ := h.look_ok keyS Tryz.underlying111 (zeroI w) (plainElem_int Tryz.underlying3 (by decide)) (keyOf_string_mk Tryz.underlying9 hl)
  rw [(hD.2.2 s).2 ht] at hv
  obtain ⟨c, rfl, hc, _⟩ := plainElem_int_inv Tryz.underlying3 hv
  simp only [Prod.mk.injEq, DataW.lit.injEq, Lit.int.injEq, true_and] at hc
  rw [hrun, (hD.2.2 s).1, ht, ← hc.1]
theorem look_miss {w : World} {b n : Nat} {D : DataW Unit} {L : List ByteArray} (h : w.ownsMap Tryz.prog 9 (plainElem Tryz.prog 3) b n D) (hD : MapIs D L) {s : ByteArray} (hl : s.size ≤ maxLen) (ht : thereB L s = false) :
    ∃ c, (Instr.lookup 111 (.map (some b)) (.string s) true).run Tryz.prog w = .ok (.tuple #[.int .i64 c, .bool false]) w := by
  obtain ⟨v, ps, hrun, hv⟩ := h.look_ok keyS Tryz.underlying111 (zeroI w) (plainElem_int Tryz.underlying3 (by decide)) (keyOf_string_mk Tryz.underlying9 hl)
  obtain ⟨c, rfl, _, _⟩ := plainElem_int_inv Tryz.underlying3 hv
  exact ⟨c, by rw [hrun, (hD.2.2 s).1, ht]⟩
/-- A map stays while a slice of the call's own grows. -/
theorem map_moved {w w' : World} {b n : Nat} {R : Value → Option (DataW Unit × List MemPlace)} {D : DataW Unit} {v v' : Value} {base e size l : Nat} {xs : List Value} (h : w.ownsMap Tryz.prog 9 R b n D) (ho : w.ownsRow base e size v l xs) (hm : Moved w w' (ownS v) (ownS v')) : w'.ownsMap Tryz.prog 9 R b n D := by
  have hlt := h.lt
  obtain ⟨es, clock, hb, F1, hs, hD⟩ := h
  refine ⟨es, clock, (hm.block b hlt (fun hk => ?_)).trans hb, F1, hs, hD⟩
  obtain ⟨cur, hc⟩ := ow_type ho hk
  rw [hb] at hc; injection hc with hc; cases hc
theorem map_arr_ne {w : World} {b n g t : Nat} {cs : Array Value} {R : Value → Option (DataW Unit × List MemPlace)} {D : DataW Unit} {k : TypeId} {P : Program} (h : w.ownsMap P k R b n D) (hA : Arr w g t cs) : b ≠ g := by
  rintro rfl
  obtain ⟨es, clock, hb, _⟩ := h
  unfold Arr at hA
  rw [hb] at hA
  injection hA with hA
  cases hA
theorem map_row_ne {w : World} {b n : Nat} {R : Value → Option (DataW Unit × List MemPlace)} {D : DataW Unit} {k : TypeId} {P : Program} {base e size l : Nat} {v : Value} {xs : List Value} (h : w.ownsMap P k R b n D) (ho : w.ownsRow base e size v l xs) : v.ownBlock ≠ some b := by
  intro hk
  obtain ⟨es, clock, hb, _⟩ := h
  obtain ⟨cur, hc⟩ := ow_type ho hk
  rw [hb] at hc; injection hc with hc; cases hc
theorem fpB_moved {w w' : World} {g : Nat} {v v' : Value} {m : Option Nat} (h : Moved w w' (ownS v) (ownS v')) : Moved w w' (fpB g v m) (fpB g v' m) :=
  h.inside (fun _ hk => .inr (.inl hk)) (fun k hk => by
    rcases hk with hk | hk | hk
    · exact .inl (.inl hk)
    · exact .inr (.inl hk)
    · exact .inl (.inr (.inr hk)))
theorem fpB_cell {w w' : World} {g : Nat} {v : Value} {m : Option Nat} (h : w.grownBy w' (some g)) : Moved w w' (fpB g v m) (fpB g v m) :=
  Moved.grown h (fun k hk => by injection hk with hk; exact .inl hk.symm) (fun _ hk => .inl hk)
theorem fpB_map {w w' : World} {g b : Nat} {v : Value} (h : w.grownBy w' (some b)) : Moved w w' (fpB g v (some b)) (fpB g v (some b)) :=
  Moved.grown h (fun _ hk => .inr (.inr hk)) (fun _ hk => .inl hk)
theorem strCells_eq (s : ByteArray) : Lib.strCells s = Lib.byteCells s.data.toList := rfl

set_option maxHeartbeats 1600000 in
set_option maxRecDepth 100000 in
theorem sadd_any (g : Nat) (v : Value) (m : Option Nat) (L : List ByteArray) (s : ByteArray) (w : World) (h : BK w g v m L) (hs : s.size ≤ maxLen) (hL : L.length ≤ 1073741824) :
    Calls Tryz.prog 82 #[.pointer (some ⟨g, 0, none⟩), .string s] w fun e w' => e = .returned (.tuple #[.int .i64 ((addV L s).1 : Int), .int .i64 ((addV L s).2 : Int)]) ∧ ∃ v' m', BK w' g v' m' (addA L s) ∧ Moved w w' (fpB g v m) (fpB g v' m') := by
  have HAL := Lib.hid (sallowed_any s w hs)
  have HOW := Lib.hid (sown_any g v m L w h)
  cases hm : mayB s with
  | false =>
    rw [hm] at HAL
    have e1 : addV L s = (0, 1) := by unfold addV; rw [hm]; rfl
    have e2 : addA L s = L := by unfold addA; rw [hm]; rfl
    rw [e1, e2]
    have H := Lib.hid h
    clear e1 e2 h hm HOW
    go_enter Tryz.func82, Tryz.ntmps82
    go_wp2_with fail
    refine HAL.out.mono ?_
    rintro e w1 ⟨rfl, rfl⟩
    go_wp2
    go_ret2
    exact ⟨rfl, v, m, H.out, Moved.refl _ _⟩
  | true =>
    rw [hm] at HAL
    have h31 := (mayB_iff.1 hm).2.1
    have e1 : addV L s = (posn L s, 0) := by unfold addV; rw [hm]; rfl
    have e2 : addA L s = addS L s := by unfold addA; rw [hm]; rfl
    have hfl : (flat L).length ≤ 34359738368 := by have := flat_le h.ok; omega
    have hMAY := Lib.hid hm
    rw [e1, e2]
    clear e1 e2 h hm
    cases ht : thereB L s with
    | true =>
      have hS : addS L s = L := by unfold addS; rw [ht]; rfl
      rw [hS]
      have HLK : Hid (∀ w1 b D, BK1 w1 g v b D L → (Instr.lookup 111 (.map (some b)) (.string s) true).run Tryz.prog w1 = .ok (.tuple #[.int .i64 (posn L s : Int), .bool true]) w1) := fun w1 b D h => look_hit h.2.2.2.1 h.2.2.2.2 hs ht
      clear hS ht
      generalize posn L s = p at *
      go_enter Tryz.func82, Tryz.ntmps82
      go_wp2_with fail
      refine HAL.out.mono ?_
      rintro e w1 ⟨rfl, rfl⟩
      go_wp2_with fail
      refine HOW.out.mono ?_
      rintro e w1 ⟨rfl, b, D, hB, hM⟩
      have HB := Lib.hid hB
      have HM := Lib.hid hM
      have hlk := HLK.out _ _ _ hB
      have c1 : w1.cell? ⟨g, 1, none⟩ = some (.map (some b)) := hB.1.cell 1
      clear hB hM HOW HAL HLK
      go_wp2
      go_ret2
      exact ⟨rfl, v, some b, .inr ⟨b, D, rfl, HB.out⟩, HM.out⟩
    | false =>
      have hS : addS L s = L ++ [s] := by unfold addS; rw [ht]; rfl
      rw [hS, posn_new L s (thereB_not.1 ht)]
      have HLK : Hid (∀ w1 b D, BK1 w1 g v b D L → ∃ c, (Instr.lookup 111 (.map (some b)) (.string s) true).run Tryz.prog w1 = .ok (.tuple #[.int .i64 c, .bool false]) w1) := fun w1 b D h => look_miss h.2.2.2.1 h.2.2.2.2 hs ht
      have HMP : Hid (∀ D, MapIs D L → MapIs (D.put (.string s.data.toList) (.lit (.int .i64 ((flat L).length : Int)))) (L ++ [s])) := fun D h => mapIs_put h ht
      have HKEY := Lib.hid (keyOf_string_mk (P := Tryz.prog) Tryz.underlying9 hs)
      have HFL : Hid (Lib.byteCells (flat (L ++ [s])) = Lib.byteCells (flat L) ++ Lib.strCells s ++ [.int .u8 0] ∧ (flat (L ++ [s])).length = (flat L).length + s.size + 1) := by
        unfold Hid
        have : s.data.toList.length = s.size := rfl
        rw [flat_app, flat_one]
        simp only [Lib.byteCells, Lib.strCells, List.map_append, List.append_assoc, List.map_cons, List.map_nil, List.length_append, List.length_cons, List.length_nil]
        exact ⟨rfl, by omega⟩
      have HOKS : Hid (okL L → okL (L ++ [s])) := by
        intro hok
        have := okL_add hok s
        unfold addA at this
        rw [if_pos hMAY.out, hS] at this
        exact this
      have HLL : Hid ((L ++ [s]).length = L.length + 1) := List.length_append
      have HEL := Lib.hid elemB
      clear hS ht hMAY
      go_enter Tryz.func82, Tryz.ntmps82
      go_wp2_with fail
      refine HAL.out.mono ?_
      rintro e w1 ⟨rfl, rfl⟩
      go_wp2_with fail
      refine HOW.out.mono ?_
      rintro e w1 ⟨rfl, b, D, ⟨hA, hrow, hok, hown, hmap⟩, hM⟩
      obtain ⟨c, hlk⟩ := HLK.out _ _ _ ⟨hA, hrow, hok, hown, hmap⟩
      obtain ⟨A, cap, rfl⟩ := slice_of hrow
      have c0 := hA.cell 0
      have c1 := hA.cell 1
      have HM := Lib.hid hM
      have HA := Lib.hid hA
      have HROW := Lib.hid hrow
      have HOK := Lib.hid (HOKS.out hok)
      have HOWN := Lib.hid hown
      have HMAP := Lib.hid (HMP.out D hmap)
      clear hA hrow hok hown hmap hM HOKS HMP HLK HOW HAL
      generalize hX : Lib.byteCells (flat L) = X at *
      generalize hn : (flat L).length = n at *
      generalize hl : L.length = l at *
      go_upto_region 8 with (first
        | (at_builtin; refine append_str_moved rfl (.tmp 37) (.tmp 38) 101 9 rfl 5 HEL Tryz.underlying9 (.slice A n cap) n X rfl HROW.out s rfl (by unfold maxLen; omega) (by omega) ?_; intro v2 w2 ho2 hm2; have HROW2 := Lib.hid ho2; have HM2 := Lib.hid hm2; clear ho2 hm2)
        | (at_builtin; refine append_moved rfl (.tmp 39) (.tmp 40) 101 rfl 5 (.int .u8 0) 1 HEL (.int .u8 0) rfl v2 (n + s.size) (X ++ Lib.strCells s) rfl HROW2.out w2.heap.size rfl rfl (by omega) (by unfold maxLen; omega) ?_; intro v3 w3 ho3 hm3; obtain ⟨A3, cap3, rfl⟩ := slice_of ho3; have HROW3 := Lib.hid ho3; have HM3 := Lib.hid hm3; have HA3 := Lib.hid (hm3.arr (HM2.out.arr HA.out (fun hk => ow_arr HA.out HROW.out (by decide) hk.symm)) (fun hk => ow_arr (HM2.out.arr HA.out (fun hk => ow_arr HA.out HROW.out (by decide) hk.symm)) HROW2.out (by decide) hk.symm)); have HOWN3 := Lib.hid (map_moved (map_moved HOWN.out HROW.out HM2.out) HROW2.out hm3); clear ho3 hm3; have c3 := HA3.out.cell 0; have f3 := HA3.out.frozen 0))
      have hbg := map_arr_ne HOWN3.out HA3.out
      generalize hV3 : Value.slice A3 (n + s.size + 1) cap3 = V3 at *
      have HA4 : Hid (Arr (w3.setCell ⟨g, 0, none⟩ V3) g 113 #[V3, .map (some b), .int .i64 (l : Int)]) := HA3.out.put 0 V3
      have HROW4 := Lib.hid (ow_set HA3.out HROW3.out (by decide) 0 V3)
      have HOWN4 := Lib.hid (HOWN3.out.setCell (a := ⟨g, 0, none⟩) hbg V3)
      have HM4 : Hid (Moved w (w3.setCell ⟨g, 0, none⟩ V3) (fpB g (.slice A n cap) m) (fpB g V3 (some b))) :=
        HM.out.trans ((fpB_moved HM2.out).trans ((fpB_moved HM3.out).trans (fpB_cell (gr_cell w3 g 0 V3))))
      generalize w3.setCell ⟨g, 0, none⟩ V3 = w4 at *
      have c1 := HA4.out.cell 1
      clear HA3 HROW3 HOWN3 HM3 HM2 HROW2 HM HROW HOWN HA c0 c3 f3 hlk hbg
      go_upto_region 9 with (first
        | (at_mapUpdate; refine wpList_mapUpdate_own _ rfl _ _ _ 111 rfl 9 3 keyS Tryz.underlying111 _ b l D rfl HOWN4.out (by unfold maxLen; omega) (.string s) (.int .i64 (n : Int)) _ rfl rfl HKEY.out _ [] (plainElem_int Tryz.underlying3 (WalkArith.wf_i64 (by omega))) ?_; intro w5 ho5 hg5; have HOWN5 := Lib.hid ho5; have HG5 := Lib.hid hg5; clear ho5 hg5))
      have HA5 := Lib.hid (HA4.out.gr HG5.out (fun e => map_arr_ne HOWN4.out HA4.out (Option.some.inj e).symm))
      have HM5 := Lib.hid (HM4.out.trans (fpB_map HG5.out))
      have HROW5 := Lib.hid (Moved.row (fpB_map (g := g) (v := .slice none 0 0) HG5.out) HROW4.out (fun k hk hf => by
        rcases hf with hf | hf | hf
        · exact ow_arr HA4.out HROW4.out (by decide) (by rw [hk, hf])
        · cases hf
        · exact map_row_ne HOWN4.out HROW4.out (by rw [hk, hf])))
      have c2 : w5.cell? ⟨g, 2, none⟩ = some (.int .i64 (l : Int)) := HA5.out.cell 2
      have f2 := HA5.out.frozen 2
      have HA6 : Hid (Arr (w5.setCell ⟨g, 2, none⟩ (.int .i64 ((l + 1 : Nat) : Int))) g 113 #[V3, .map (some b), .int .i64 ((l + 1 : Nat) : Int)]) := HA5.out.put 2 _
      have HROW6 := Lib.hid (ow_set HA5.out HROW5.out (by decide) 2 (.int .i64 ((l + 1 : Nat) : Int)))
      have HOWN6 := Lib.hid (HOWN5.out.setCell (a := ⟨g, 2, none⟩) (map_arr_ne HOWN5.out HA5.out) (.int .i64 ((l + 1 : Nat) : Int)))
      have HM6 := Lib.hid (HM5.out.trans (fpB_cell (gr_cell w5 g 2 (.int .i64 ((l + 1 : Nat) : Int)))))
      clear HA4 HROW4 HOWN4 HM4 HA5 HROW5 HOWN5 HM5 HG5
      have e1 : ((l + 1 : Nat) : Int) = (l : Int) + 1 := by omega
      rw [e1] at HA6 HROW6 HOWN6 HM6
      clear e1
      go_wp2
      go_ret2
      refine ⟨by rw [hn]; rfl, V3, some b, .inr ⟨b, _, rfl, ?_, ?_, HOK.out, ?_, HMAP.out⟩, ?_⟩
      · rw [HLL.out]; have e1 : ((l + 1 : Nat) : Int) = (l : Int) + 1 := by omega
        rw [e1]; exact HA6.out
      · rw [HFL.out.1, HFL.out.2]; exact HROW6.out
      · rw [HLL.out]; exact HOWN6.out
      · rw [hn]; exact HM6.out

set_option maxRecDepth 100000 in
theorem sadd_nil (s : ByteArray) (w : World) : Calls Tryz.prog 82 #[.pointer none, .string s] w fun e w' => e = .returned (.tuple #[.int .i64 0, .int .i64 1]) ∧ w = w' := by
  go_enter Tryz.func82, Tryz.ntmps82
  go_wp2
  go_ret2
  exact ⟨rfl, rfl⟩
end Go.Proofs.YtfcclppgjfkfoaaGreatDoor

/- What Offsets returns. Conditions: a slice that reads as at most 40 strings, each of which fits. -/
namespace Go.Proofs.YtfcclppgjfkfoaaGreatDoor
open Go.RowKit Go.Maps Go.WideMaps

theorem elemI : ElemIs Tryz.prog 75 3 (.int .i64 0) 8 := elemIs_mk Tryz.underlying75 rfl (by kernel_rfl)
/-- Places as cells. -/
def natV (l : List Nat) : List Value := l.map fun (n : Nat) => Value.int .i64 (n : Int)
theorem natV_snoc (l : List Nat) (x : Nat) : natV (l ++ [x]) = natV l ++ [.int .i64 (x : Int)] := by simp [natV]
/-- What Offsets returns: the places, the bytes, the error. -/
def offN (l : List ByteArray) : List Nat := if allB l = true then plc [] l else []
def offS (l : List ByteArray) : ByteArray := if allB l = true then ⟨(flat (adds [] l)).toArray⟩ else ⟨#[]⟩
def offE (l : List ByteArray) : Nat := if allB l = true then 0 else 1
theorem off_bad {l : List ByteArray} (h : allB l = false) : offN l = [] ∧ offS l = ⟨#[]⟩ ∧ offE l = 1 := by
  unfold offN offS offE; rw [h]; exact ⟨rfl, rfl, rfl⟩
theorem off_good {l : List ByteArray} (h : allB l = true) : offN l = plc [] l ∧ offS l = ⟨(flat (adds [] l)).toArray⟩ ∧ offE l = 0 := by
  unfold offN offS offE; rw [h]; exact ⟨rfl, rfl, rfl⟩
theorem BK.not_row {w : World} {g : Nat} {v : Value} {m : Option Nat} {L : List ByteArray} (h : BK w g v m L) {base e size n : Nat} {u : Value} {xs : List Value} (ho : w.ownsRow base e size u n xs) (h1 : e ≠ 113) (h2 : e ≠ 5) {k : Nat} (hk : u.ownBlock = some k) : ¬ fpB g v m k := by
  obtain ⟨cur, hc⟩ := ow_type ho hk
  exact h.not_arr (g' := k) (t := e) (cs := cur) hc h1 h2
/-- A Block that the call has made, and a slice of places. -/
def Of9 (B : Nat) (w : World) (g : Nat) (u : Value) (L : List ByteArray) (P : List Nat) : Prop :=
  ∃ v m, BK w g v m L ∧ (∀ k, fpB g v m k → B ≤ k) ∧ w.ownsRow 0 3 1 u P.length (natV P) ∧ (∀ k, u.ownBlock = some k → B ≤ k)
section
variable {B : Nat} {w w' : World} {g : Nat} {u u' : Value} {L : List ByteArray} {P P' : List Nat}
theorem of9_add (h : Of9 B w g u L P) (hB : B ≤ w.heap.size) (s : ByteArray) (hs : s.size ≤ maxLen) (hL : L.length ≤ 1073741824) :
    Calls Tryz.prog 82 #[.pointer (some ⟨g, 0, none⟩), .string s] w fun e w' => e = .returned (.tuple #[.int .i64 ((addV L s).1 : Int), .int .i64 ((addV L s).2 : Int)]) ∧ Of9 B w' g u (addA L s) P ∧ Below B w w' := by
  obtain ⟨v, m, h1, h2, h3, h4⟩ := h
  refine (sadd_any g v m L s w h1 hs hL).mono ?_
  rintro e w' ⟨he, v', m', hb, hm⟩
  refine ⟨he, ⟨v', m', hb, fun k hk => ?_, hm.row h3 (fun k hk => h1.not_row h3 (by decide) (by decide) hk), h4⟩, hm.below h2 hB⟩
  rcases hm.foot k hk with h5 | h5
  · exact h2 k h5
  · exact Nat.le_trans hB h5
theorem of9_put (h : Of9 B w g u L P) (hB : B ≤ w.heap.size) (ho : w'.ownsRow 0 3 1 u' P'.length (natV P')) (hm : Moved w w' (ownS u) (ownS u')) : Of9 B w' g u' L P' ∧ Below B w w' := by
  obtain ⟨v, m, h1, h2, h3, h4⟩ := h
  refine ⟨⟨v, m, h1.kept hm (fun k hk hu => h1.not_row h3 (by decide) (by decide) hu hk), h2, ho, fun k hk => ?_⟩, hm.below h4 hB⟩
  rcases hm.foot k hk with h5 | h5
  · exact h4 k h5
  · exact Nat.le_trans hB h5
theorem of9_bytes (h : Of9 B w g u L P) : Calls Tryz.prog 62 #[.pointer (some ⟨g, 0, none⟩)] w fun e w' => e = .returned (.string ⟨(flat L).toArray⟩) ∧ w = w' := by
  obtain ⟨v, m, h1, _⟩ := h
  exact sbytes_any g v m L w h1
theorem of9_row (h : Of9 B w g u L P) : w.ownsRow 0 3 1 u P.length (natV P) ∧ w.ownsRow B 3 1 u P.length (natV P) := by
  obtain ⟨v, m, _, _, h3, h4⟩ := h
  exact ⟨h3, ow_base h3 h4⟩
theorem of9_new (w : World) : Of9 w.heap.size (w.alloc (.cells #[.slice none 0 0, .map none, .int .i64 0] 113)) w.heap.size (.slice none 0 0) [] [] :=
  ⟨.slice none 0 0, none, .inl ⟨rfl, rfl, rfl, Arr.new _ _ _⟩, (fun k hk => by
    rcases hk with hk | hk | hk
    · exact Nat.le_of_eq hk.symm
    · cases hk
    · cases hk), World.ownsRow_nil _ _ _ _, (fun _ hk => by cases hk)⟩
end

end Go.Proofs.YtfcclppgjfkfoaaGreatDoor
