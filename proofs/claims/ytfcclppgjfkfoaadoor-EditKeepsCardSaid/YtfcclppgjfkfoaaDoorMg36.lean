/- What own and Add of a Block do. Conditions: at most 2^30 strings are there, and the string to be added fits. -/
import Derived.Test.YtfcclppgjfkfoaaDoorMg35
namespace Go.Proofs.YtfcclppgjfkfoaaDoor
open Go.RowKit Go.Maps Go.WideMaps

set_option maxHeartbeats 1600000 in
set_option maxRecDepth 100000 in
theorem sown_any (g : Nat) (v : Value) (m : Option Nat) (L : List ByteArray) (w : World) (h : BK w g v m L) :
    Calls Tryd.prog 67 #[.pointer (some ⟨g, 0, none⟩)] w fun e w' => e = .returned (.tuple #[]) ∧ ∃ b D, BK1 w' g v b D L ∧ Moved w w' (fpB g v m) (fpB g v (some b)) := by
  rcases h with ⟨rfl, rfl, rfl, hA⟩ | ⟨b, D, rfl, h1, h2, h3, h4, h5⟩
  · have c0 : w.cell? ⟨g, 0, none⟩ = some (.slice none 0 0) := hA.cell 0
    have c1 : w.cell? ⟨g, 1, none⟩ = some (.map none) := hA.cell 1
    have c2 : w.cell? ⟨g, 2, none⟩ = some (.int .i64 0) := hA.cell 2
    have HA := Lib.hid hA
    have qn : ∀ W : World, (binOp .neq 76 (.map none) (.map none)).run Tryd.prog W = .ok (.bool false) W := fun W => run_neq_map_nil W _ _ _ none Tryd.underlying76
    clear hA
    go_enter Tryd.func67, Tryd.ntmps67
    go_wp2
    go_quiet (fail)
    have HA1 : Hid (Arr (w.drewN nq) g 78 #[.slice none 0 0, .map none, .int .i64 0]) := HA.out.drewN nq
    have HM1 : Hid (w.grownBy (w.drewN nq) (some g)) := gr_below (below_drewN w nq)
    generalize w.drewN nq = w1 at *
    have c0 : w1.cell? ⟨g, 0, none⟩ = some (.slice none 0 0) := HA1.out.cell 0
    have f0 := HA1.out.frozen 0
    go_wp2_with fail
    refine (sclone_nil _).mono ?_
    rintro e w2 ⟨rfl, rfl⟩
    have HA2 : Hid (Arr (w1.setCell ⟨g, 0, none⟩ (.slice none 0 0)) g 78 #[.slice none 0 0, .map none, .int .i64 0]) := HA1.out.put 0 (.slice none 0 0)
    have HM2 : Hid (w.grownBy (w1.setCell ⟨g, 0, none⟩ (.slice none 0 0)) (some g)) := World.grownBy.trans HM1.out (gr_cell _ _ _ _)
    have hconv := fun W : World => Lib.run_convert_nil_bytes W 75 9 5 0 Tryd.underlying75 Tryd.underlying5 Tryd.underlying9
    go_upto_region 2 with fail
    generalize w1.setCell ⟨g, 0, none⟩ (.slice none 0 0) = w3 at *
    have c0 : w3.cell? ⟨g, 0, none⟩ = some (.slice none 0 0) := HA2.out.cell 0
    go_wp2_with fail
    refine (spositions_none _).mono ?_
    rintro e w4 ⟨rfl, rfl⟩
    have HA4 : Hid (Arr (w3.alloc (.map #[] 0)) g 78 #[.slice none 0 0, .map none, .int .i64 0]) := HA2.out.alloc _
    have HM4 : Hid (w.grownBy (w3.alloc (.map #[] 0)) (some g)) := World.grownBy.trans HM2.out (World.grownBy_alloc _ _ _)
    have HO4 := Lib.hid (World.ownsMap_made w3 Tryd.prog 9 (plainElem (H := Unit) Tryd.prog 3))
    have hge : w.heap.size ≤ w3.heap.size := HM2.out.size
    generalize w3.heap.size = b at *
    generalize w3.alloc (.map #[] 0) = w4 at *
    have f1 := HA4.out.frozen 1
    have c1 : w4.cell? ⟨g, 1, none⟩ = some (.map none) := HA4.out.cell 1
    have hgb : b ≠ g := by
      rintro rfl
      obtain ⟨es, clock, hb, _⟩ := HO4.out
      have := HA4.out
      unfold Arr at this
      rw [hb] at this
      injection this with this
      cases this
    have HF : Hid (BK1 (w4.setCell ⟨g, 1, none⟩ (.map (some b))) g (.slice none 0 0) b (.map []) []) :=
      ⟨HA4.out.put 1 _, World.ownsRow_nil _ _ _ _, okL_nil, HO4.out.setCell (a := ⟨g, 1, none⟩) hgb _, mapIs_nil⟩
    have HM5 : Hid (Moved w (w4.setCell ⟨g, 1, none⟩ (.map (some b))) (fpB g (.slice none 0 0) none) (fpB g (.slice none 0 0) (some b))) :=
      Moved.grown (World.grownBy.trans HM4.out (gr_cell _ _ _ _)) (fun k hk => by injection hk with hk; exact .inl hk.symm) (fun k hk => by
        rcases hk with h | h | h
        · exact .inl (.inl h)
        · cases h
        · injection h with h; exact .inr (h ▸ hge))
    go_wp2
    go_end0
    exact ⟨rfl, b, _, HF.out, HM5.out⟩
  · have c1 : w.cell? ⟨g, 1, none⟩ = some (.map (some b)) := h1.cell 1
    have c2 : w.cell? ⟨g, 2, none⟩ = some (.int .i64 (L.length : Int)) := h1.cell 2
    have hlen : ∀ (n : Nat) (ty : TypeId), (Builtin.len_ #[76] ty #[.map (some b)]).run Tryd.prog (w.drewN n) = .ok (.int .i64 (L.length : Int)) (w.drewN n) := fun n ty => by
      have := World.ownsMap.len (w := w.drewN n) (show (w.drewN n).ownsMap Tryd.prog _ _ b _ D from h4) Tryd.underlying76 ty
      rw [this, h5.2.1]
    have hlen0 := hlen 0
    have qn : ∀ W : World, (binOp .neq 76 (.map (some b)) (.map none)).run Tryd.prog W = .ok (.bool true) W := fun W => run_neq_map_nil W _ _ _ (some b) Tryd.underlying76
    have d0 : ((L.length : Int) == (L.length : Int)) = true := by simp
    have HB : Hid (∀ n, BK1 (w.drewN n) g v b D L) := fun n => BK1.below ⟨h1, h2, h3, h4, h5⟩ (below_drewN w n)
    clear h1 h2 h3 h4 h5
    generalize L.length = l at *
    go_enter Tryd.func67, Tryd.ntmps67
    go_wp2
    go_quiet (fail)
    go_wp2
    (try simp only [Exit.inBlock, Exit.then]); refine bodyPost_ret (results_none rfl _ _ _) rfl ?_
    exact ⟨rfl, b, D, HB.out _, Moved.of_below (below_drewN w _) _⟩

/-- A look-up in the map. -/
theorem look_hit {w : World} {b n : Nat} {D : DataW Unit} {L : List ByteArray} (h : w.ownsMap Tryd.prog 9 (plainElem Tryd.prog 3) b n D) (hD : MapIs D L) {s : ByteArray} (hl : s.size ≤ maxLen) (ht : thereB L s = true) :
    (Instr.lookup 76 (.map (some b)) (.string s) true).run Tryd.prog w = .ok (.tuple #[.int .i64 (posn L s : Int), .bool true]) w := by
  obtain ⟨v, ps, hrun, hv⟩ := h.look_ok keyS Tryd.underlying76 (zeroI w) (plainElem_int Tryd.underlying3 (by decide)) (keyOf_string_mk Tryd.underlying9 hl)
  rw [(hD.2.2 s).2 ht] at hv
  obtain ⟨c, rfl, hc, _⟩ := plainElem_int_inv Tryd.underlying3 hv
  simp only [Prod.mk.injEq, DataW.lit.injEq, Lit.int.injEq, true_and] at hc
  rw [hrun, (hD.2.2 s).1, ht, ← hc.1]
theorem look_miss {w : World} {b n : Nat} {D : DataW Unit} {L : List ByteArray} (h : w.ownsMap Tryd.prog 9 (plainElem Tryd.prog 3) b n D) (hD : MapIs D L) {s : ByteArray} (hl : s.size ≤ maxLen) (ht : thereB L s = false) :
    ∃ c, (Instr.lookup 76 (.map (some b)) (.string s) true).run Tryd.prog w = .ok (.tuple #[.int .i64 c, .bool false]) w := by
  obtain ⟨v, ps, hrun, hv⟩ := h.look_ok keyS Tryd.underlying76 (zeroI w) (plainElem_int Tryd.underlying3 (by decide)) (keyOf_string_mk Tryd.underlying9 hl)
  obtain ⟨c, rfl, _, _⟩ := plainElem_int_inv Tryd.underlying3 hv
  exact ⟨c, by rw [hrun, (hD.2.2 s).1, ht]⟩
/-- A map stays while a slice of the call's own grows. -/
theorem map_moved {w w' : World} {b n : Nat} {R : Value → Option (DataW Unit × List MemPlace)} {D : DataW Unit} {v v' : Value} {base e size l : Nat} {xs : List Value} (h : w.ownsMap Tryd.prog 9 R b n D) (ho : w.ownsRow base e size v l xs) (hm : Moved w w' (ownS v) (ownS v')) : w'.ownsMap Tryd.prog 9 R b n D := by
  have hlt := h.lt
  obtain ⟨es, clock, hb, F1, hs, hD⟩ := h
  refine ⟨es, clock, (hm.block b hlt (fun hk => ?_)).trans hb, F1, hs, hD⟩
  obtain ⟨cur, hc⟩ := ow_type ho hk
  rw [hb] at hc; injection hc with hc; cases hc
theorem map_arr_ne {w : World} {b n g t : Nat} {cs : Array Value} {R : Value → Option (DataW Unit × List MemPlace)} {D : DataW Unit} {k : TypeId} {P : Program} (h : w.ownsMap P k R b n D) (hA : Arr w g t cs) : b ≠ g := by
  rintro rfl
  obtain ⟨es, clock, hb, _⟩ := h
  unfold Arr at hA
  rw [hb] at hA
  injection hA with hA
  cases hA
theorem map_row_ne {w : World} {b n : Nat} {R : Value → Option (DataW Unit × List MemPlace)} {D : DataW Unit} {k : TypeId} {P : Program} {base e size l : Nat} {v : Value} {xs : List Value} (h : w.ownsMap P k R b n D) (ho : w.ownsRow base e size v l xs) : v.ownBlock ≠ some b := by
  intro hk
  obtain ⟨es, clock, hb, _⟩ := h
  obtain ⟨cur, hc⟩ := ow_type ho hk
  rw [hb] at hc; injection hc with hc; cases hc
theorem fpB_moved {w w' : World} {g : Nat} {v v' : Value} {m : Option Nat} (h : Moved w w' (ownS v) (ownS v')) : Moved w w' (fpB g v m) (fpB g v' m) :=
  h.inside (fun _ hk => .inr (.inl hk)) (fun k hk => by
    rcases hk with hk | hk | hk
    · exact .inl (.inl hk)
    · exact .inr (.inl hk)
    · exact .inl (.inr (.inr hk)))
theorem fpB_cell {w w' : World} {g : Nat} {v : Value} {m : Option Nat} (h : w.grownBy w' (some g)) : Moved w w' (fpB g v m) (fpB g v m) :=
  Moved.grown h (fun k hk => by injection hk with hk; exact .inl hk.symm) (fun _ hk => .inl hk)
theorem fpB_map {w w' : World} {g b : Nat} {v : Value} (h : w.grownBy w' (some b)) : Moved w w' (fpB g v (some b)) (fpB g v (some b)) :=
  Moved.grown h (fun _ hk => .inr (.inr hk)) (fun _ hk => .inl hk)
theorem strCells_eq (s : ByteArray) : Lib.strCells s = Lib.byteCells s.data.toList := rfl

set_option maxHeartbeats 1600000 in
set_option maxRecDepth 100000 in
theorem sadd_any (g : Nat) (v : Value) (m : Option Nat) (L : List ByteArray) (s : ByteArray) (w : World) (h : BK w g v m L) (hs : s.size ≤ maxLen) (hL : L.length ≤ 1073741824) :
    Calls Tryd.prog 52 #[.pointer (some ⟨g, 0, none⟩), .string s] w fun e w' => e = .returned (.tuple #[.int .i64 ((addV L s).1 : Int), .int .i64 ((addV L s).2 : Int)]) ∧ ∃ v' m', BK w' g v' m' (addA L s) ∧ Moved w w' (fpB g v m) (fpB g v' m') := by
  have HAL := Lib.hid (sallowed_any s w hs)
  have HOW := Lib.hid (sown_any g v m L w h)
  cases hm : mayB s with
  | false =>
    rw [hm] at HAL
    have e1 : addV L s = (0, 1) := by unfold addV; rw [hm]; rfl
    have e2 : addA L s = L := by unfold addA; rw [hm]; rfl
    rw [e1, e2]
    have H := Lib.hid h
    clear e1 e2 h hm HOW
    go_enter Tryd.func52, Tryd.ntmps52
    go_wp2_with fail
    refine HAL.out.mono ?_
    rintro e w1 ⟨rfl, rfl⟩
    go_wp2
    go_ret2
    exact ⟨rfl, v, m, H.out, Moved.refl _ _⟩
  | true =>
    rw [hm] at HAL
    have h31 := (mayB_iff.1 hm).2.1
    have e1 : addV L s = (posn L s, 0) := by unfold addV; rw [hm]; rfl
    have e2 : addA L s = addS L s := by unfold addA; rw [hm]; rfl
    have hfl : (flat L).length ≤ 34359738368 := by have := flat_le h.ok; omega
    have hMAY := Lib.hid hm
    rw [e1, e2]
    clear e1 e2 h hm
    cases ht : thereB L s with
    | true =>
      have hS : addS L s = L := by unfold addS; rw [ht]; rfl
      rw [hS]
      have HLK : Hid (∀ w1 b D, BK1 w1 g v b D L → (Instr.lookup 76 (.map (some b)) (.string s) true).run Tryd.prog w1 = .ok (.tuple #[.int .i64 (posn L s : Int), .bool true]) w1) := fun w1 b D h => look_hit h.2.2.2.1 h.2.2.2.2 hs ht
      clear hS ht
      generalize posn L s = p at *
      go_enter Tryd.func52, Tryd.ntmps52
      go_wp2_with fail
      refine HAL.out.mono ?_
      rintro e w1 ⟨rfl, rfl⟩
      go_wp2_with fail
      refine HOW.out.mono ?_
      rintro e w1 ⟨rfl, b, D, hB, hM⟩
      have HB := Lib.hid hB
      have HM := Lib.hid hM
      have hlk := HLK.out _ _ _ hB
      have c1 : w1.cell? ⟨g, 1, none⟩ = some (.map (some b)) := hB.1.cell 1
      clear hB hM HOW HAL HLK
      go_wp2
      go_ret2
      exact ⟨rfl, v, some b, .inr ⟨b, D, rfl, HB.out⟩, HM.out⟩
    | false =>
      have hS : addS L s = L ++ [s] := by unfold addS; rw [ht]; rfl
      rw [hS, posn_new L s (thereB_not.1 ht)]
      have HLK : Hid (∀ w1 b D, BK1 w1 g v b D L → ∃ c, (Instr.lookup 76 (.map (some b)) (.string s) true).run Tryd.prog w1 = .ok (.tuple #[.int .i64 c, .bool false]) w1) := fun w1 b D h => look_miss h.2.2.2.1 h.2.2.2.2 hs ht
      have HMP : Hid (∀ D, MapIs D L → MapIs (D.put (.string s.data.toList) (.lit (.int .i64 ((flat L).length : Int)))) (L ++ [s])) := fun D h => mapIs_put h ht
      have HKEY := Lib.hid (keyOf_string_mk (P := Tryd.prog) Tryd.underlying9 hs)
      have HFL : Hid (Lib.byteCells (flat (L ++ [s])) = Lib.byteCells (flat L) ++ Lib.strCells s ++ [.int .u8 0] ∧ (flat (L ++ [s])).length = (flat L).length + s.size + 1) := by
        unfold Hid
        have : s.data.toList.length = s.size := rfl
        rw [flat_app, flat_one]
        simp only [Lib.byteCells, Lib.strCells, List.map_append, List.append_assoc, List.map_cons, List.map_nil, List.length_append, List.length_cons, List.length_nil]
        exact ⟨rfl, by omega⟩
      have HOKS : Hid (okL L → okL (L ++ [s])) := by
        intro hok
        have := okL_add hok s
        unfold addA at this
        rw [if_pos hMAY.out, hS] at this
        exact this
      have HLL : Hid ((L ++ [s]).length = L.length + 1) := List.length_append
      have HEL := Lib.hid elemB
      clear hS ht hMAY
      go_enter Tryd.func52, Tryd.ntmps52
      go_wp2_with fail
      refine HAL.out.mono ?_
      rintro e w1 ⟨rfl, rfl⟩
      go_wp2_with fail
      refine HOW.out.mono ?_
      rintro e w1 ⟨rfl, b, D, ⟨hA, hrow, hok, hown, hmap⟩, hM⟩
      obtain ⟨c, hlk⟩ := HLK.out _ _ _ ⟨hA, hrow, hok, hown, hmap⟩
      obtain ⟨A, cap, rfl⟩ := slice_of hrow
      have c0 := hA.cell 0
      have c1 := hA.cell 1
      have HM := Lib.hid hM
      have HA := Lib.hid hA
      have HROW := Lib.hid hrow
      have HOK := Lib.hid (HOKS.out hok)
      have HOWN := Lib.hid hown
      have HMAP := Lib.hid (HMP.out D hmap)
      clear hA hrow hok hown hmap hM HOKS HMP HLK HOW HAL
      generalize hX : Lib.byteCells (flat L) = X at *
      generalize hn : (flat L).length = n at *
      generalize hl : L.length = l at *
      go_upto_region 8 with (first
        | (at_builtin; refine append_str_moved rfl (.tmp 37) (.tmp 38) 75 9 rfl 5 HEL Tryd.underlying9 (.slice A n cap) n X rfl HROW.out s rfl (by unfold maxLen; omega) (by omega) ?_; intro v2 w2 ho2 hm2; have HROW2 := Lib.hid ho2; have HM2 := Lib.hid hm2; clear ho2 hm2)
        | (at_builtin; refine append_moved rfl (.tmp 39) (.tmp 40) 75 rfl 5 (.int .u8 0) 1 HEL (.int .u8 0) rfl v2 (n + s.size) (X ++ Lib.strCells s) rfl HROW2.out w2.heap.size rfl rfl (by omega) (by unfold maxLen; omega) ?_; intro v3 w3 ho3 hm3; obtain ⟨A3, cap3, rfl⟩ := slice_of ho3; have HROW3 := Lib.hid ho3; have HM3 := Lib.hid hm3; have HA3 := Lib.hid (hm3.arr (HM2.out.arr HA.out (fun hk => ow_arr HA.out HROW.out (by decide) hk.symm)) (fun hk => ow_arr (HM2.out.arr HA.out (fun hk => ow_arr HA.out HROW.out (by decide) hk.symm)) HROW2.out (by decide) hk.symm)); have HOWN3 := Lib.hid (map_moved (map_moved HOWN.out HROW.out HM2.out) HROW2.out hm3); clear ho3 hm3; have c3 := HA3.out.cell 0; have f3 := HA3.out.frozen 0))
      have hbg := map_arr_ne HOWN3.out HA3.out
      generalize hV3 : Value.slice A3 (n + s.size + 1) cap3 = V3 at *
      have HA4 : Hid (Arr (w3.setCell ⟨g, 0, none⟩ V3) g 78 #[V3, .map (some b), .int .i64 (l : Int)]) := HA3.out.put 0 V3
      have HROW4 := Lib.hid (ow_set HA3.out HROW3.out (by decide) 0 V3)
      have HOWN4 := Lib.hid (HOWN3.out.setCell (a := ⟨g, 0, none⟩) hbg V3)
      have HM4 : Hid (Moved w (w3.setCell ⟨g, 0, none⟩ V3) (fpB g (.slice A n cap) m) (fpB g V3 (some b))) :=
        HM.out.trans ((fpB_moved HM2.out).trans ((fpB_moved HM3.out).trans (fpB_cell (gr_cell w3 g 0 V3))))
      generalize w3.setCell ⟨g, 0, none⟩ V3 = w4 at *
      have c1 := HA4.out.cell 1
      clear HA3 HROW3 HOWN3 HM3 HM2 HROW2 HM HROW HOWN HA c0 c3 f3 hlk hbg
      go_upto_region 9 with (first
        | (at_mapUpdate; refine wpList_mapUpdate_own _ rfl _ _ _ 76 rfl 9 3 keyS Tryd.underlying76 _ b l D rfl HOWN4.out (by unfold maxLen; omega) (.string s) (.int .i64 (n : Int)) _ rfl rfl HKEY.out _ [] (plainElem_int Tryd.underlying3 (WalkArith.wf_i64 (by omega))) ?_; intro w5 ho5 hg5; have HOWN5 := Lib.hid ho5; have HG5 := Lib.hid hg5; clear ho5 hg5))
      have HA5 := Lib.hid (HA4.out.gr HG5.out (fun e => map_arr_ne HOWN4.out HA4.out (Option.some.inj e).symm))
      have HM5 := Lib.hid (HM4.out.trans (fpB_map HG5.out))
      have HROW5 := Lib.hid (Moved.row (fpB_map (g := g) (v := .slice none 0 0) HG5.out) HROW4.out (fun k hk hf => by
        rcases hf with hf | hf | hf
        · exact ow_arr HA4.out HROW4.out (by decide) (by rw [hk, hf])
        · cases hf
        · exact map_row_ne HOWN4.out HROW4.out (by rw [hk, hf])))
      have c2 : w5.cell? ⟨g, 2, none⟩ = some (.int .i64 (l : Int)) := HA5.out.cell 2
      have f2 := HA5.out.frozen 2
      have HA6 : Hid (Arr (w5.setCell ⟨g, 2, none⟩ (.int .i64 ((l + 1 : Nat) : Int))) g 78 #[V3, .map (some b), .int .i64 ((l + 1 : Nat) : Int)]) := HA5.out.put 2 _
      have HROW6 := Lib.hid (ow_set HA5.out HROW5.out (by decide) 2 (.int .i64 ((l + 1 : Nat) : Int)))
      have HOWN6 := Lib.hid (HOWN5.out.setCell (a := ⟨g, 2, none⟩) (map_arr_ne HOWN5.out HA5.out) (.int .i64 ((l + 1 : Nat) : Int)))
      have HM6 := Lib.hid (HM5.out.trans (fpB_cell (gr_cell w5 g 2 (.int .i64 ((l + 1 : Nat) : Int)))))
      clear HA4 HROW4 HOWN4 HM4 HA5 HROW5 HOWN5 HM5 HG5
      have e1 : ((l + 1 : Nat) : Int) = (l : Int) + 1 := by omega
      rw [e1] at HA6 HROW6 HOWN6 HM6
      clear e1
      go_wp2
      go_ret2
      refine ⟨by rw [hn]; rfl, V3, some b, .inr ⟨b, _, rfl, ?_, ?_, HOK.out, ?_, HMAP.out⟩, ?_⟩
      · rw [HLL.out]; have e1 : ((l + 1 : Nat) : Int) = (l : Int) + 1 := by omega
        rw [e1]; exact HA6.out
      · rw [HFL.out.1, HFL.out.2]; exact HROW6.out
      · rw [HLL.out]; exact HOWN6.out
      · rw [hn]; exact HM6.out

set_option maxRecDepth 100000 in
theorem sadd_nil (s : ByteArray) (w : World) : Calls Tryd.prog 52 #[.pointer none, .string s] w fun e w' => e = .returned (.tuple #[.int .i64 0, .int .i64 1]) ∧ w = w' := by
  go_enter Tryd.func52, Tryd.ntmps52
  go_wp2
  go_ret2
  exact ⟨rfl, rfl⟩
end Go.Proofs.YtfcclppgjfkfoaaDoor
