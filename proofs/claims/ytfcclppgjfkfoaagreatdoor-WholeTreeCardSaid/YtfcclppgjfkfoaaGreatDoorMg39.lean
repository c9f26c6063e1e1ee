/- A writer of package token in memory: what own, Bytes and Add of the Block inside it do. Conditions: at most 2^30 strings are there. -/
import Derived.Test.YtfcclppgjfkfoaaGreatDoorMg18
import Derived.Lib.BufferWrite
namespace Go.Proofs.YtfcclppgjfkfoaaGreatDoor
open Go.RowKit Go.Maps Go.WideMaps

/-- Block g is a writer (its Builder's cells p0, bv), with a Block of the strings L, its bytes in v, its map m; BW1: one that has a map. -/
def BW1 (w : World) (g : Nat) (p0 bv : Value) (v : Value) (b : Nat) (D : DataW Unit) (L : List ByteArray) : Prop :=
  Arr w g 115 #[p0, bv, v, .map (some b), .int .i64 (L.length : Int)] ∧ w.ownsRow 0 5 1 v (flat L).length (Lib.byteCells (flat L)) ∧ okL L ∧
    w.ownsMap Tryz.prog 9 (plainElem Tryz.prog 3) b L.length D ∧ MapIs D L
def BW0 (w : World) (g : Nat) (p0 bv : Value) (v : Value) (m : Option Nat) (L : List ByteArray) : Prop := L = [] ∧ v = .slice none 0 0 ∧ m = none ∧ Arr w g 115 #[p0, bv, .slice none 0 0, .map none, .int .i64 0]
def BW (w : World) (g : Nat) (p0 bv : Value) (v : Value) (m : Option Nat) (L : List ByteArray) : Prop := BW0 w g p0 bv v m L ∨ ∃ b D, m = some b ∧ BW1 w g p0 bv v b D L
section
variable {w w' : World} {g b : Nat} {v p0 bv : Value} {m : Option Nat} {D : DataW Unit} {L : List ByteArray} {F F' : Nat → Prop}
theorem BW1.kept (h : BW1 w g p0 bv v b D L) (hm : Moved w w' F F') (hf : ∀ k, fpB g v (some b) k → ¬ F k) : BW1 w' g p0 bv v b D L := by
  obtain ⟨h1, h2, h3, h4, h5⟩ := h
  have hlt := h4.lt
  obtain ⟨es, clock, hb, F1, hs, hD⟩ := h4
  exact ⟨hm.arr h1 (hf g (.inl rfl)), hm.row h2 (fun k hk => hf k (.inr (.inl hk))), h3, ⟨es, clock, (hm.block b hlt (hf b (.inr (.inr rfl)))).trans hb, F1, hs, hD⟩, h5⟩
theorem BW.kept (h : BW w g p0 bv v m L) (hm : Moved w w' F F') (hf : ∀ k, fpB g v m k → ¬ F k) : BW w' g p0 bv v m L := by
  rcases h with ⟨h1, h2, h3, h4⟩ | ⟨b, D, rfl, h⟩
  · exact .inl ⟨h1, h2, h3, hm.arr h4 (hf g (.inl rfl))⟩
  · exact .inr ⟨b, D, rfl, h.kept hm hf⟩
theorem BW.below (h : BW w g p0 bv v m L) (hb : Below w.heap.size w w') : BW w' g p0 bv v m L := h.kept (Moved.of_below hb (fun _ => False)) (fun _ _ h => h)
theorem BW1.below (h : BW1 w g p0 bv v b D L) (hb : Below w.heap.size w w') : BW1 w' g p0 bv v b D L := h.kept (Moved.of_below hb (fun _ => False)) (fun _ _ h => h)
theorem BW.lt (h : BW w g p0 bv v m L) {k : Nat} (hk : fpB g v m k) : k < w.heap.size := by
  rcases h with ⟨_, rfl, rfl, h4⟩ | ⟨b, D, rfl, h1, h2, _, h4, _⟩
  · rcases hk with rfl | hk | hk
    · exact h4.lt
    · cases hk
    · cases hk
  · rcases hk with rfl | hk | hk
    · exact h1.lt
    · obtain ⟨cur, hc⟩ := ow_type h2 hk
      exact (Array.getElem?_eq_some_iff.1 hc).1
    · injection hk with hk; subst hk; exact h4.lt
theorem BW.ok (h : BW w g p0 bv v m L) : okL L := by
  rcases h with ⟨rfl, _⟩ | ⟨b, D, rfl, h⟩
  · exact okL_nil
  · exact h.2.2.1
theorem BW.row (h : BW w g p0 bv v m L) : w.ownsRow 0 5 1 v (flat L).length (Lib.byteCells (flat L)) := by
  rcases h with ⟨rfl, rfl, _⟩ | ⟨b, D, rfl, h⟩
  · exact World.ownsRow_nil _ _ _ _
  · exact h.2.1
theorem BW.cell0 (h : BW w g p0 bv v m L) : w.cell? ⟨g, 2, none⟩ = some v := by
  rcases h with ⟨_, rfl, _, h4⟩ | ⟨b, D, rfl, h⟩
  · exact h4.cell 2
  · exact h.1.cell 2
/-- No block of another kind is one of its blocks. -/
theorem BW.not_arr (h : BW w g p0 bv v m L) {g' t : Nat} {cs : Array Value} (hA : Arr w g' t cs) (h1 : t ≠ 115) (h2 : t ≠ 5) : ¬ fpB g v m g' := by
  unfold Arr at hA
  rintro (rfl | hk | hk)
  · rcases h with ⟨_, _, _, h4⟩ | ⟨b, D, rfl, h, _⟩
    · unfold Arr at h4; rw [hA] at h4; injection h4 with h4; injection h4 with _ h5; exact h1 h5
    · unfold Arr at h; rw [hA] at h; injection h with h; injection h with _ h5; exact h1 h5
  · obtain ⟨cur, hc⟩ := ow_type h.row hk
    rw [hA] at hc; injection hc with hc; injection hc with _ h5; exact h2 h5
  · rcases h with ⟨_, _, h3, _⟩ | ⟨b, D, rfl, _, _, _, h4, _⟩
    · rw [h3] at hk; cases hk
    · injection hk with hk
      subst hk
      obtain ⟨es, clock, hb, _⟩ := h4
      rw [hA] at hb; injection hb with hb; cases hb
end
set_option maxHeartbeats 800000 in
set_option maxRecDepth 100000 in
theorem wbytes_any (g : Nat) (p0 bv : Value) (v : Value) (m : Option Nat) (L : List ByteArray) (w : World) (h : BW w g p0 bv v m L) :
    Calls Tryz.prog 62 #[.pointer (some ⟨g, 2, none⟩)] w fun e w' => e = .returned (.string ⟨(flat L).toArray⟩) ∧ w = w' := by
  have c0 := h.cell0
  have HS := row_string h.row
  clear h
  generalize (ByteArray.mk (flat L).toArray) = S at *
  go_enter Tryz.func62, Tryz.ntmps62
  go_wp2
  go_ret
  exact ⟨rfl, rfl⟩
set_option maxHeartbeats 1600000 in
set_option maxRecDepth 100000 in
theorem wown_any (g : Nat) (p0 bv : Value) (v : Value) (m : Option Nat) (L : List ByteArray) (w : World) (h : BW w g p0 bv v m L) :
    Calls Tryz.prog 108 #[.pointer (some ⟨g, 2, none⟩)] w fun e w' => e = .returned (.tuple #[]) ∧ ∃ b D, BW1 w' g p0 bv v b D L ∧ Moved w w' (fpB g v m) (fpB g v (some b)) := by
  rcases h with ⟨rfl, rfl, rfl, hA⟩ | ⟨b, D, rfl, h1, h2, h3, h4, h5⟩
  · have c0 : w.cell? ⟨g, 2, none⟩ = some (.slice none 0 0) := hA.cell 2
    have c1 : w.cell? ⟨g, 3, none⟩ = some (.map none) := hA.cell 3
    have c2 : w.cell? ⟨g, 4, none⟩ = some (.int .i64 0) := hA.cell 4
    have HA := Lib.hid hA
    have qn : ∀ W : World, (binOp .neq 111 (.map none) (.map none)).run Tryz.prog W = .ok (.bool false) W := fun W => run_neq_map_nil W _ _ _ none Tryz.underlying111
    clear hA
    go_enter Tryz.func108, Tryz.ntmps108
    go_wp2
    go_quiet (fail)
    have HA1 : Hid (Arr (w.drewN nq) g 115 #[p0, bv, .slice none 0 0, .map none, .int .i64 0]) := HA.out.drewN nq
    have HM1 : Hid (w.grownBy (w.drewN nq) (some g)) := gr_below (below_drewN w nq)
    generalize w.drewN nq = w1 at *
    have c0 : w1.cell? ⟨g, 2, none⟩ = some (.slice none 0 0) := HA1.out.cell 2
    have f0 := HA1.out.frozen 2
    go_wp2_with fail
    refine (sclone_nil _).mono ?_
    rintro e w2 ⟨rfl, rfl⟩
    have HA2 : Hid (Arr (w1.setCell ⟨g, 2, none⟩ (.slice none 0 0)) g 115 #[p0, bv, .slice none 0 0, .map none, .int .i64 0]) := HA1.out.put 2 (.slice none 0 0)
    have HM2 : Hid (w.grownBy (w1.setCell ⟨g, 2, none⟩ (.slice none 0 0)) (some g)) := World.grownBy.trans HM1.out (gr_cell _ _ _ _)
    have hconv := fun W : World => Lib.run_convert_nil_bytes W 101 9 5 0 Tryz.underlying101 Tryz.underlying5 Tryz.underlying9
    go_upto_region 2 with fail
    generalize w1.setCell ⟨g, 2, none⟩ (.slice none 0 0) = w3 at *
    have c0 : w3.cell? ⟨g, 2, none⟩ = some (.slice none 0 0) := HA2.out.cell 2
    go_wp2_with fail
    refine (spositions_none _).mono ?_
    rintro e w4 ⟨rfl, rfl⟩
    have HA4 : Hid (Arr (w3.alloc (.map #[] 0)) g 115 #[p0, bv, .slice none 0 0, .map none, .int .i64 0]) := HA2.out.alloc _
    have HM4 : Hid (w.grownBy (w3.alloc (.map #[] 0)) (some g)) := World.grownBy.trans HM2.out (World.grownBy_alloc _ _ _)
    have HO4 := Lib.hid (World.ownsMap_made w3 Tryz.prog 9 (plainElem (H := Unit) Tryz.prog 3))
    have hge : w.heap.size ≤ w3.heap.size := HM2.out.size
    generalize w3.heap.size = b at *
    generalize w3.alloc (.map #[] 0) = w4 at *
    have f1 := HA4.out.frozen 3
    have c1 : w4.cell? ⟨g, 3, none⟩ = some (.map none) := HA4.out.cell 3
    have hgb : b ≠ g := by
      rintro rfl
      obtain ⟨es, clock, hb, _⟩ := HO4.out
      have := HA4.out
      unfold Arr at this
      rw [hb] at this
      injection this with this
      cases this
    have HF : Hid (BW1 (w4.setCell ⟨g, 3, none⟩ (.map (some b))) g p0 bv (.slice none 0 0) b (.map []) []) :=
      ⟨HA4.out.put 3 _, World.ownsRow_nil _ _ _ _, okL_nil, HO4.out.setCell (a := ⟨g, 3, none⟩) hgb _, mapIs_nil⟩
    have HM5 : Hid (Moved w (w4.setCell ⟨g, 3, none⟩ (.map (some b))) (fpB g (.slice none 0 0) none) (fpB g (.slice none 0 0) (some b))) :=
      Moved.grown (World.grownBy.trans HM4.out (gr_cell _ _ _ _)) (fun k hk => by injection hk with hk; exact .inl hk.symm) (fun k hk => by
        rcases hk with h | h | h
        · exact .inl (.inl h)
        · cases h
        · injection h with h; exact .inr (h ▸ hge))
    go_wp2
    go_end0
    exact ⟨rfl, b, _, HF.out, HM5.out⟩
  · have c1 : w.cell? ⟨g, 3, none⟩ = some (.map (some b)) := h1.cell 3
    have c2 : w.cell? ⟨g, 4, none⟩ = some (.int .i64 (L.length : Int)) := h1.cell 4
    have hlen : ∀ (n : Nat) (ty : TypeId), (Builtin.len_ #[111] ty #[.map (some b)]).run Tryz.prog (w.drewN n) = .ok (.int .i64 (L.length : Int)) (w.drewN n) := fun n ty => by
      have := World.ownsMap.len (w := w.drewN n) (show (w.drewN n).ownsMap Tryz.prog _ _ b _ D from h4) Tryz.underlying111 ty
      rw [this, h5.2.1]
    have hlen0 := hlen 0
    have qn : ∀ W : World, (binOp .neq 111 (.map (some b)) (.map none)).run Tryz.prog W = .ok (.bool true) W := fun W => run_neq_map_nil W _ _ _ (some b) Tryz.underlying111
    have d0 : ((L.length : Int) == (L.length : Int)) = true := by simp
    have HB : Hid (∀ n, BW1 (w.drewN n) g p0 bv v b D L) := fun n => BW1.below ⟨h1, h2, h3, h4, h5⟩ (below_drewN w n)
    clear h1 h2 h3 h4 h5
    generalize L.length = l at *
    go_enter Tryz.func108, Tryz.ntmps108
    go_wp2
    go_quiet (fail)
    go_wp2
    (try simp only [Exit.inBlock, Exit.then]); refine bodyPost_ret (results_none rfl _ _ _) rfl ?_
    exact ⟨rfl, b, D, HB.out _, Moved.of_below (below_drewN w _) _⟩

set_option maxHeartbeats 1600000 in
set_option maxRecDepth 100000 in
theorem wadd_any (g : Nat) (p0 bv : Value) (v : Value) (m : Option Nat) (L : List ByteArray) (s : ByteArray) (w : World) (h : BW w g p0 bv v m L) (hs : s.size ≤ maxLen) (hL : L.length ≤ 1073741824) :
    Calls Tryz.prog 82 #[.pointer (some ⟨g, 2, none⟩), .string s] w fun e w' => e = .returned (.tuple #[.int .i64 ((addV L s).1 : Int), .int .i64 ((addV L s).2 : Int)]) ∧ ∃ v' m', BW w' g p0 bv v' m' (addA L s) ∧ Moved w w' (fpB g v m) (fpB g v' m') := by
  have HAL := Lib.hid (sallowed_any s w hs)
  have HOW := Lib.hid (wown_any g p0 bv v m L w h)
  cases hm : mayB s with
  | false =>
    rw [hm] at HAL
    have e1 : addV L s = (0, 1) := by unfold addV; rw [hm]; rfl
    have e2 : addA L s = L := by unfold addA; rw [hm]; rfl
    rw [e1, e2]
    have H := Lib.hid h
    clear e1 e2 h hm HOW
    go_enter Tryz.func82, Tryz.ntmps82
    go_wp2_with fail
    refine HAL.out.mono ?_
    rintro e w1 ⟨rfl, rfl⟩
    go_wp2
    go_ret2
    exact ⟨rfl, v, m, H.out, Moved.refl _ _⟩
  | true =>
    rw [hm] at HAL
    have h31 := (mayB_iff.1 hm).2.1
    have e1 : addV L s = (posn L s, 0) := by unfold addV; rw [hm]; rfl
    have e2 : addA L s = addS L s := by unfold addA; rw [hm]; rfl
    have hfl : (flat L).length ≤ 34359738368 := by have := flat_le h.ok; omega
    have hMAY := Lib.hid hm
    rw [e1, e2]
    clear e1 e2 h hm
    cases ht : thereB L s with
    | true =>
      have hS : addS L s = L := by unfold addS; rw [ht]; rfl
      rw [hS]
      have HLK : Hid (∀ w1 b D, BW1 w1 g p0 bv v b D L → (Instr.lookup 111 (.map (some b)) (.string s) true).run Tryz.prog w1 = .ok (.tuple #[.int .i64 (posn L s : Int), .bool true]) w1) := fun w1 b D h => look_hit h.2.2.2.1 h.2.2.2.2 hs ht
      clear hS ht
      generalize posn L s = p at *
      go_enter Tryz.func82, Tryz.ntmps82
      go_wp2_with fail
      refine HAL.out.mono ?_
      rintro e w1 ⟨rfl, rfl⟩
      go_wp2_with fail
      refine HOW.out.mono ?_
      rintro e w1 ⟨rfl, b, D, hB, hM⟩
      have HB := Lib.hid hB
      have HM := Lib.hid hM
      have hlk := HLK.out _ _ _ hB
      have c1 : w1.cell? ⟨g, 3, none⟩ = some (.map (some b)) := hB.1.cell 3
      clear hB hM HOW HAL HLK
      go_wp2
      go_ret2
      exact ⟨rfl, v, some b, .inr ⟨b, D, rfl, HB.out⟩, HM.out⟩
    | false =>
      have hS : addS L s = L ++ [s] := by unfold addS; rw [ht]; rfl
      rw [hS, posn_new L s (thereB_not.1 ht)]
      have HLK : Hid (∀ w1 b D, BW1 w1 g p0 bv v b D L → ∃ c, (Instr.lookup 111 (.map (some b)) (.string s) true).run Tryz.prog w1 = .ok (.tuple #[.int .i64 c, .bool false]) w1) := fun w1 b D h => look_miss h.2.2.2.1 h.2.2.2.2 hs ht
      have HMP : Hid (∀ D, MapIs D L → MapIs (D.put (.string s.data.toList) (.lit (.int .i64 ((flat L).length : Int)))) (L ++ [s])) := fun D h => mapIs_put h ht
      have HKEY := Lib.hid (keyOf_string_mk (P := Tryz.prog) Tryz.underlying9 hs)
      have HFL : Hid (Lib.byteCells (flat (L ++ [s])) = Lib.byteCells (flat L) ++ Lib.strCells s ++ [.int .u8 0] ∧ (flat (L ++ [s])).length = (flat L).length + s.size + 1) := by
        unfold Hid
        have : s.data.toList.length = s.size := rfl
        rw [flat_app, flat_one]
        simp only [Lib.byteCells, Lib.strCells, List.map_append, List.append_assoc, List.map_cons, List.map_nil, List.length_append, List.length_cons, List.length_nil]
        exact ⟨rfl, by omega⟩
      have HOKS : Hid (okL L → okL (L ++ [s])) := by
        intro hok
        have := okL_add hok s
        unfold addA at this
        rw [if_pos hMAY.out, hS] at this
        exact this
      have HLL : Hid ((L ++ [s]).length = L.length + 1) := List.length_append
      have HEL := Lib.hid elemB
      clear hS ht hMAY
      go_enter Tryz.func82, Tryz.ntmps82
      go_wp2_with fail
      refine HAL.out.mono ?_
      rintro e w1 ⟨rfl, rfl⟩
      go_wp2_with fail
      refine HOW.out.mono ?_
      rintro e w1 ⟨rfl, b, D, ⟨hA, hrow, hok, hown, hmap⟩, hM⟩
      obtain ⟨c, hlk⟩ := HLK.out _ _ _ ⟨hA, hrow, hok, hown, hmap⟩
      obtain ⟨A, cap, rfl⟩ := slice_of hrow
      have c0 := hA.cell 2
      have c1 := hA.cell 3
      have HM := Lib.hid hM
      have HA := Lib.hid hA
      have HROW := Lib.hid hrow
      have HOK := Lib.hid (HOKS.out hok)
      have HOWN := Lib.hid hown
      have HMAP := Lib.hid (HMP.out D hmap)
      clear hA hrow hok hown hmap hM HOKS HMP HLK HOW HAL
      generalize hX : Lib.byteCells (flat L) = X at *
      generalize hn : (flat L).length = n at *
      generalize hl : L.length = l at *
      go_upto_region 8 with (first
        | (at_builtin; refine append_str_moved rfl (.tmp 37) (.tmp 38) 101 9 rfl 5 HEL Tryz.underlying9 (.slice A n cap) n X rfl HROW.out s rfl (by unfold maxLen; omega) (by omega) ?_; intro v2 w2 ho2 hm2; have HROW2 := Lib.hid ho2; have HM2 := Lib.hid hm2; clear ho2 hm2)
        | (at_builtin; refine append_moved rfl (.tmp 39) (.tmp 40) 101 rfl 5 (.int .u8 0) 1 HEL (.int .u8 0) rfl v2 (n + s.size) (X ++ Lib.strCells s) rfl HROW2.out w2.heap.size rfl rfl (by omega) (by unfold maxLen; omega) ?_; intro v3 w3 ho3 hm3; obtain ⟨A3, cap3, rfl⟩ := slice_of ho3; have HROW3 := Lib.hid ho3; have HM3 := Lib.hid hm3; have HA3 := Lib.hid (hm3.arr (HM2.out.arr HA.out (fun hk => ow_arr HA.out HROW.out (by decide) hk.symm)) (fun hk => ow_arr (HM2.out.arr HA.out (fun hk => ow_arr HA.out HROW.out (by decide) hk.symm)) HROW2.out (by decide) hk.symm)); have HOWN3 := Lib.hid (map_moved (map_moved HOWN.out HROW.out HM2.out) HROW2.out hm3); clear ho3 hm3; have c3 := HA3.out.cell 2; have f3 := HA3.out.frozen 2))
      have hbg := map_arr_ne HOWN3.out HA3.out
      generalize hV3 : Value.slice A3 (n + s.size + 1) cap3 = V3 at *
      have HA4 : Hid (Arr (w3.setCell ⟨g, 2, none⟩ V3) g 115 #[p0, bv, V3, .map (some b), .int .i64 (l : Int)]) := HA3.out.put 2 V3
      have HROW4 := Lib.hid (ow_set HA3.out HROW3.out (by decide) 2 V3)
      have HOWN4 := Lib.hid (HOWN3.out.setCell (a := ⟨g, 2, none⟩) hbg V3)
      have HM4 : Hid (Moved w (w3.setCell ⟨g, 2, none⟩ V3) (fpB g (.slice A n cap) m) (fpB g V3 (some b))) :=
        HM.out.trans ((fpB_moved HM2.out).trans ((fpB_moved HM3.out).trans (fpB_cell (gr_cell w3 g 2 V3))))
      generalize w3.setCell ⟨g, 2, none⟩ V3 = w4 at *
      have c1 := HA4.out.cell 3
      clear HA3 HROW3 HOWN3 HM3 HM2 HROW2 HM HROW HOWN HA c0 c3 f3 hlk hbg
      go_upto_region 9 with (first
        | (at_mapUpdate; refine wpList_mapUpdate_own _ rfl _ _ _ 111 rfl 9 3 keyS Tryz.underlying111 _ b l D rfl HOWN4.out (by unfold maxLen; omega) (.string s) (.int .i64 (n : Int)) _ rfl rfl HKEY.out _ [] (plainElem_int Tryz.underlying3 (WalkArith.wf_i64 (by omega))) ?_; intro w5 ho5 hg5; have HOWN5 := Lib.hid ho5; have HG5 := Lib.hid hg5; clear ho5 hg5))
      have HA5 := Lib.hid (HA4.out.gr HG5.out (fun e => map_arr_ne HOWN4.out HA4.out (Option.some.inj e).symm))
      have HM5 := Lib.hid (HM4.out.trans (fpB_map HG5.out))
      have HROW5 := Lib.hid (Moved.row (fpB_map (g := g) (v := .slice none 0 0) HG5.out) HROW4.out (fun k hk hf => by
        rcases hf with hf | hf | hf
        · exact ow_arr HA4.out HROW4.out (by decide) (by rw [hk, hf])
        · cases hf
        · exact map_row_ne HOWN4.out HROW4.out (by rw [hk, hf])))
      have c2 : w5.cell? ⟨g, 4, none⟩ = some (.int .i64 (l : Int)) := HA5.out.cell 4
      have f2 := HA5.out.frozen 4
      have HA6 : Hid (Arr (w5.setCell ⟨g, 4, none⟩ (.int .i64 ((l + 1 : Nat) : Int))) g 115 #[p0, bv, V3, .map (some b), .int .i64 ((l + 1 : Nat) : Int)]) := HA5.out.put 4 _
      have HROW6 := Lib.hid (ow_set HA5.out HROW5.out (by decide) 4 (.int .i64 ((l + 1 : Nat) : Int)))
      have HOWN6 := Lib.hid (HOWN5.out.setCell (a := ⟨g, 4, none⟩) (map_arr_ne HOWN5.out HA5.out) (.int .i64 ((l + 1 : Nat) : Int)))
      have HM6 := Lib.hid (HM5.out.trans (fpB_cell (gr_cell w5 g 4 (.int .i64 ((l + 1 : Nat) : Int)))))
      clear HA4 HROW4 HOWN4 HM4 HA5 HROW5 HOWN5 HM5 HG5
      have e1 : ((l + 1 : Nat) : Int) = (l : Int) + 1 := by omega
      rw [e1] at HA6 HROW6 HOWN6 HM6
      clear e1
      go_wp2
      go_ret2
      refine ⟨by rw [hn]; rfl, V3, some b, .inr ⟨b, _, rfl, ?_, ?_, HOK.out, ?_, HMAP.out⟩, ?_⟩
      · rw [HLL.out]; have e1 : ((l + 1 : Nat) : Int) = (l : Int) + 1 := by omega
        rw [e1]; exact HA6.out
      · rw [HFL.out.1, HFL.out.2]; exact HROW6.out
      · rw [HLL.out]; exact HOWN6.out
      · rw [hn]; exact HM6.out
end Go.Proofs.YtfcclppgjfkfoaaGreatDoor

/- What copyCheck, WriteString and String of the Builder inside a writer of package token do. Conditions: at most 2^47 bytes. -/
namespace Go.Proofs.YtfcclppgjfkfoaaGreatDoor
open Go.RowKit

theorem wb_size : (Tryz.prog.info? 103).map (·.size) = some 2 := by kernel_rfl
theorem wb_lies : liesAt Tryz.prog Tryz.prog.depth 115 (5 / Tryz.prog.cellsOf 115) 0 103 1 = true := by kernel_rfl
set_option maxHeartbeats 1000000 in
set_option maxRecDepth 100000 in
theorem wcheck_fresh (g : Nat) (cs : Array Value) (w : World) (hA : Arr w g 115 cs) (h0 : cs[0]? = some (.pointer none)) (h5 : cs.size = 5) :
    Calls Tryz.prog 89 #[.pointer (some ⟨g, 0, none⟩)] w fun e w' => e = .returned (.tuple #[]) ∧ w' = w.setCell ⟨g, 0, none⟩ (.pointer (some ⟨g, 0, none⟩)) := by
  obtain ⟨j, hj, hjs⟩ := Option.map_eq_some_iff.1 wb_size
  have c0 : w.cell? ⟨g, 0, none⟩ = some (.pointer none) := by rw [hA.cell, h0]
  have f0 := hA.frozen 0
  have hsh : w.shape? g = some (115, 5) := by
    have hA' : w.heap[g]? = _ := hA
    simp [World.shape?, hA', h5]
  have h276 := Tryz.lays240.f276
  dsimp only [Tryz.lays240_ren] at h276
  clear hA h0
  go_enter Tryz.func89, Tryz.ntmps89
  go_wp2
  rw [Lib.run_to_unsafe w ⟨g, 0, none⟩ Tryz.underlying100 Tryz.underlying168 hj (by rw [hjs]; decide) hsh (Nat.zero_lt_succ 4)]
  simp only [Result.andThen]
  rw [Oper.upon_value]
  go_wp2
  rw [run_callFunc_extern h276 (by kernel_rfl) (by kernel_rfl) (by kernel_rfl) (e := Extern.AbiNoEscape.same) (by kernel_rfl)]
  rw [Lib.run_noEscape]
  simp only [Result.andThen]
  rw [Oper.upon_value]
  go_wp2
  rw [Lib.run_from_unsafe w ⟨g, 0, none⟩ Tryz.underlying168 Tryz.underlying100 hj hsh wb_lies]
  simp only [Result.andThen]
  rw [Oper.upon_value]
  go_wp2
  go_end0
  exact ⟨rfl, rfl⟩
theorem wcheck_used (g : Nat) (w : World) (h0 : w.cell? ⟨g, 0, none⟩ = some (.pointer (some ⟨g, 0, none⟩))) :
    Calls Tryz.prog 89 #[.pointer (some ⟨g, 0, none⟩)] w fun e w' => e = .returned (.tuple #[]) ∧ w' = w := Any.Builder_copyCheck_used Tryz.lays240 Tryz.Builder_X72_240 g w h0

section
variable {w w' : World} {g : Nat} {p0 bv v : Value} {m : Option Nat} {L : List ByteArray}
theorem BW.arr (h : BW w g p0 bv v m L) : ∃ n : Int, Arr w g 115 #[p0, bv, v, .map m, .int .i64 n] := by
  rcases h with ⟨_, rfl, rfl, h⟩ | ⟨b, D, rfl, h⟩
  · exact ⟨0, h⟩
  · exact ⟨_, h.1⟩
theorem BW.put0 (h : BW w g p0 bv v m L) (u : Value) : BW (w.setCell ⟨g, 0, none⟩ u) g u bv v m L := by
  rcases h with ⟨h1, rfl, rfl, h⟩ | ⟨b, D, rfl, h1, h2, h3, h4, h5⟩
  · exact .inl ⟨h1, rfl, rfl, h.put 0 u⟩
  · exact .inr ⟨b, D, rfl, h1.put 0 u, ow_set h1 h2 (by decide) 0 u, h3, h4.setCell (a := ⟨g, 0, none⟩) (map_arr_ne h4 h1) u, h5⟩
theorem BW.put1 (h : BW w g p0 bv v m L) (u : Value) : BW (w.setCell ⟨g, 1, none⟩ u) g p0 u v m L := by
  rcases h with ⟨h1, rfl, rfl, h⟩ | ⟨b, D, rfl, h1, h2, h3, h4, h5⟩
  · exact .inl ⟨h1, rfl, rfl, h.put 1 u⟩
  · exact .inr ⟨b, D, rfl, h1.put 1 u, ow_set h1 h2 (by decide) 1 u, h3, h4.setCell (a := ⟨g, 1, none⟩) (map_arr_ne h4 h1) u, h5⟩
/-- A row of bytes apart from the Block's is none of its blocks. -/
theorem BW.apart (h : BW w g p0 bv v m L) {u : Value} {n : Nat} {xs : List Value} (hu : w.ownsRow 0 5 1 u n xs) (hd : ∀ k, u.ownBlock = some k → v.ownBlock ≠ some k) : ∀ k, fpB g v m k → ¬ ownS u k := by
  obtain ⟨n', hA⟩ := h.arr
  rintro k (rfl | hk | hk) hu'
  · exact ow_arr hA hu (by decide) hu'.symm
  · exact hd k hu' hk
  · rcases h with ⟨_, _, h3, _⟩ | ⟨b, D, rfl, _, _, _, h4, _⟩
    · rw [h3] at hk; cases hk
    · injection hk with hk; subst hk
      exact map_row_ne h4 hu hu'
end
/-- Block g is a writer: what it has written, S, and its strings L. -/
structure WR (w : World) (g : Nat) (p : Option Addr) (bv v : Value) (m : Option Nat) (S : List UInt8) (L : List ByteArray) : Prop where
  blk : BW w g (.pointer p) bv v m L
  own : p = none ∨ p = some ⟨g, 0, none⟩
  row : w.ownsRow 0 5 1 bv S.length (Lib.byteCells S)
  dis : ∀ k, bv.ownBlock = some k → v.ownBlock ≠ some k
/-- Its blocks. -/
def fpW (g : Nat) (bv v : Value) (m : Option Nat) (k : Nat) : Prop := fpB g v m k ∨ bv.ownBlock = some k
theorem WR.kept {w w' : World} {g : Nat} {p : Option Addr} {bv v : Value} {m : Option Nat} {S : List UInt8} {L : List ByteArray} {F F' : Nat → Prop} (h : WR w g p bv v m S L) (hm : Moved w w' F F') (hf : ∀ k, fpW g bv v m k → ¬ F k) : WR w' g p bv v m S L :=
  ⟨h.blk.kept hm (fun k hk => hf k (.inl hk)), h.own, hm.row h.row (fun k hk => hf k (.inr hk)), h.dis⟩
theorem WR.below {w w' : World} {g : Nat} {p : Option Addr} {bv v : Value} {m : Option Nat} {S : List UInt8} {L : List ByteArray} (h : WR w g p bv v m S L) (hb : Below w.heap.size w w') : WR w' g p bv v m S L := h.kept (Moved.of_below hb (fun _ => False)) (fun _ _ h => h)

set_option maxHeartbeats 1600000 in
set_option maxRecDepth 100000 in
theorem bcheck_any (g : Nat) (p : Option Addr) (bv v : Value) (m : Option Nat) (S : List UInt8) (L : List ByteArray) (w : World) (h : WR w g p bv v m S L) :
    Calls Tryz.prog 89 #[.pointer (some ⟨g, 0, none⟩)] w fun e w' => e = .returned (.tuple #[]) ∧ WR w' g (some ⟨g, 0, none⟩) bv v m S L ∧ w.grownBy w' (some g) := by
  obtain ⟨n, hA⟩ := h.blk.arr
  rcases h.own with rfl | rfl
  · refine (wcheck_fresh g _ w hA rfl rfl).mono ?_
    rintro e w' ⟨rfl, rfl⟩
    exact ⟨rfl, ⟨h.blk.put0 _, .inr rfl, ow_set hA h.row (by decide) 0 _, h.dis⟩, gr_cell _ _ _ _⟩
  · refine (wcheck_used g w (hA.cell 0)).mono ?_
    rintro e w' ⟨rfl, rfl⟩
    exact ⟨rfl, h, gr_below (Below.refl _ _)⟩

set_option maxHeartbeats 1600000 in
set_option maxRecDepth 100000 in
theorem bwrite_any (g : Nat) (p : Option Addr) (bv v : Value) (m : Option Nat) (S : List UInt8) (L : List ByteArray) (x : ByteArray) (w : World) (h : WR w g p bv v m S L) (hl : S.length + x.size ≤ 70368744177664) :
    Calls Tryz.prog 57 #[.pointer (some ⟨g, 0, none⟩), .string x] w fun e w' => e = .returned (.tuple #[.int .i64 (x.size : Int), .nilIface]) ∧ ∃ bv', WR w' g (some ⟨g, 0, none⟩) bv' v m (S ++ x.data.toList) L ∧ Moved w w' (fpW g bv v m) (fpW g bv' v m) := by
  have HC := Lib.hid (bcheck_any g p bv v m S L w h)
  have HEL := Lib.hid elemB
  clear h
  go_enter Tryz.func57, Tryz.ntmps57
  go_wp2_with fail
  refine HC.out.mono ?_
  rintro e w1 ⟨rfl, h1, hg1⟩
  obtain ⟨n, hA1⟩ := h1.blk.arr
  obtain ⟨A, cap, rfl⟩ := slice_of h1.row
  have c1 := hA1.cell 1
  have H1 := Lib.hid h1
  have HG1 := Lib.hid hg1
  have HA1 := Lib.hid hA1
  clear h1 hg1 hA1 HC
  go_upto_region 3 with (first
    | (at_builtin; refine append_str_moved rfl (.tmp 12) (.tmp 13) 101 9 rfl 5 HEL Tryz.underlying9 (.slice A S.length cap) S.length (Lib.byteCells S) rfl H1.out.row x rfl (by unfold maxLen; omega) (by omega) ?_; intro v2 w2 ho2 hm2; obtain ⟨A2, cap2, rfl⟩ := slice_of ho2; have HO2 := Lib.hid ho2; have HM2 := Lib.hid hm2; have HA2 := Lib.hid (hm2.arr HA1.out (fun hk => ow_arr HA1.out H1.out.row (by decide) hk.symm)); have f2 := HA2.out.frozen 1; have c2 := HA2.out.cell 1; clear ho2 hm2))
  have e1 : (S ++ x.data.toList).length = S.length + x.size := by rw [List.length_append]; rfl
  have e2 : Lib.byteCells (S ++ x.data.toList) = Lib.byteCells S ++ Lib.strCells x := by rw [Lib.byteCells_append]; rfl
  have HW : Hid (WR (w2.setCell ⟨g, 1, none⟩ (.slice A2 (S.length + x.size) cap2)) g (some ⟨g, 0, none⟩) (.slice A2 (S.length + x.size) cap2) v m (S ++ x.data.toList) L) := by
    refine ⟨(H1.out.blk.kept HM2.out (H1.out.blk.apart H1.out.row H1.out.dis)).put1 _, .inr rfl, ?_, ?_⟩
    · rw [e1, e2]; exact ow_set HA2.out HO2.out (by decide) 1 _
    · intro k hk hv
      rcases HM2.out.foot k hk with h5 | h5
      · exact H1.out.dis k h5 hv
      · have := H1.out.blk.lt (.inr (.inl hv)); omega
  have HMV : Hid (Moved w (w2.setCell ⟨g, 1, none⟩ (.slice A2 (S.length + x.size) cap2)) (fpW g (.slice A S.length cap) v m) (fpW g (.slice A2 (S.length + x.size) cap2) v m)) := by
    have m1 : Moved w w1 (fpW g (.slice A S.length cap) v m) (fpW g (.slice A S.length cap) v m) := Moved.grown HG1.out (fun k hk => by injection hk with hk; exact .inl (.inl hk.symm)) (fun k hk => .inl hk)
    have m2 : Moved w1 w2 (fpW g (.slice A S.length cap) v m) (fpW g (.slice A2 (S.length + x.size) cap2) v m) := HM2.out.inside (fun k hk => .inr hk) (fun k hk => by
      rcases hk with hk | hk
      · exact .inl (.inl hk)
      · exact .inr (.inl hk))
    have m3 : Moved w2 (w2.setCell ⟨g, 1, none⟩ (.slice A2 (S.length + x.size) cap2)) (fpW g (.slice A2 (S.length + x.size) cap2) v m) (fpW g (.slice A2 (S.length + x.size) cap2) v m) := Moved.grown (gr_cell w2 g 1 _) (fun k hk => by injection hk with hk; exact .inl (.inl hk.symm)) (fun k hk => .inl hk)
    exact m1.trans (m2.trans m3)
  clear e1 e2 HO2 HM2 HA2 H1 HG1 HA1
  go_wp2
  go_ret2
  exact ⟨rfl, _, HW.out, HMV.out⟩

theorem gr_freeze (w : World) (g n : Nat) : w.grownBy (w.freeze ⟨g, 0, none⟩ n) (some g) := by
  unfold World.freeze
  split
  · exact gr_below (Below.refl _ _)
  · exact ⟨rfl, rfl, rfl, by simp, fun k _ hk => by
      simp only [Array.getElem?_modify]
      rw [if_neg (fun e => hk (by rw [← e]))]⟩
theorem cellsU8 : Tryz.prog.cellsOf 5 = 1 := by kernel_rfl
set_option maxHeartbeats 2000000 in
set_option maxRecDepth 100000 in
theorem bstring_any (g : Nat) (p : Option Addr) (bv v : Value) (m : Option Nat) (S : List UInt8) (L : List ByteArray) (w : World) (h : WR w g p bv v m S L) (h0 : S ≠ []) :
    Calls Tryz.prog 59 #[.pointer (some ⟨g, 0, none⟩)] w fun e w' => e = .returned (.string ⟨S.toArray⟩) ∧ BW w' g (.pointer p) bv v m L ∧ Moved w w' (ownS bv) (ownS bv) := by
  have hl0 : S.length ≠ 0 := by simpa using h0
  have hap := h.blk.apart h.row h.dis
  have hrow := h.row
  obtain ⟨gb, cap, cur, rfl, hg, hnc, hcm, hcs, htake⟩ : ∃ gb cap cur, bv = .slice (some ⟨gb, 0, none⟩) S.length cap ∧ w.heap[gb]? = some (.cells cur 5 (0, 0)) ∧ S.length ≤ cap ∧ cap ≤ maxLen ∧ cur.size = cap * 1 ∧ cur.toList.take (S.length * 1) = Lib.byteCells S := by
    rcases h.row.2 with ⟨_, hz⟩ | ⟨g, cap, cur, hv, _, r⟩
    · exact absurd hz hl0
    · exact ⟨g, cap, cur, hv, r⟩
  obtain ⟨n, hA⟩ := h.blk.arr
  have c1 : w.drew.cell? ⟨g, 1, none⟩ = some (.slice (some ⟨gb, 0, none⟩) S.length cap) := hA.cell 1
  have c2 : w.cell? ⟨g, 1, none⟩ = some (.slice (some ⟨gb, 0, none⟩) S.length cap) := hA.cell 1
  have hSD : (Builtin.unsafeSliceData_ #[101] 150 #[.slice (some ⟨gb, 0, none⟩) S.length cap]).run Tryz.prog w.drew = .ok (.pointer (some ⟨gb, 0, none⟩)) w.drew :=
    Lib.run_unsafeSliceData_row _ _ _ _ _ _ (by omega)
  have hUS : (Builtin.unsafeString_ #[150, 3] 9 #[.pointer (some ⟨gb, 0, none⟩), .int .i64 S.length]).run Tryz.prog w.drew = .ok (.string ⟨S.toArray⟩) (w.drew.freeze ⟨gb, 0, none⟩ S.length) := by
    refine Lib.run_unsafeString_row w.drew 150 3 9 5 Tryz.underlying150 cellsU8 gb cur.size (by have hg' : w.drew.heap[gb]? = some (.cells cur 5 (0, 0)) := hg; simp [World.shape?, hg']) S h0 (by omega) (by unfold maxLen at hcm; omega) ?_
    intro j x hx
    exact hrow.cells (g := gb) rfl j (.int .u8 x.toNat) (by simp [Lib.byteCells, hx])
  have HM : Hid (Moved w (w.drew.freeze ⟨gb, 0, none⟩ S.length) (ownS (.slice (some ⟨gb, 0, none⟩) S.length cap)) (ownS (.slice (some ⟨gb, 0, none⟩) S.length cap))) :=
    Moved.grown (World.grownBy.trans (gr_below (below_drewN w 1)) (gr_freeze w.drew gb S.length)) (fun k hk => by injection hk with hk; subst hk; rfl) (fun k hk => .inl hk)
  have HBW := Lib.hid (h.blk.kept HM.out hap)
  have mixed := Tryz.lays169.mixed
  clear h hap hrow hg htake hA h0
  go_enter Tryz.func59, Tryz.ntmps59
  go_wp2
  go_region_o
  all_goals (go_wp2; go_ret; exact ⟨rfl, HBW.out, HM.out⟩)
end Go.Proofs.YtfcclppgjfkfoaaGreatDoor
