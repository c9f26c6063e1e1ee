/- What Offsets returns. Conditions: a slice that reads as at most 40 strings, each of which fits. -/
import Derived.Test.YtgfdbmbgldeljaaGreatMg10
import Derived.Test.YtgfdbmbgldeljaaGreatMg8
import Derived.Test.YtgfdbmbgldeljaaGreatMg3
import Derived.Test.YtgfdbmbgldeljaaGreatMg0
namespace Go.Proofs.YtgfdbmbgldeljaaGreat
open Go.RowKit Go.Maps Go.WideMaps

theorem elemI : ElemIs Tryz.prog 69 3 (.int .i64 0) 8 := elemIs_mk Tryz.underlying69 rfl (by kernel_rfl)
/-- Places as cells. -/
def natV (l : List Nat) : List Value := l.map fun (n : Nat) => Value.int .i64 (n : Int)
theorem natV_snoc (l : List Nat) (x : Nat) : natV (l ++ [x]) = natV l ++ [.int .i64 (x : Int)] := by simp [natV]
/-- What Offsets returns: the places, the bytes, the error. -/
def offN (l : List ByteArray) : List Nat := if allB l = true then plc [] l else []
def offS (l : List ByteArray) : ByteArray := if allB l = true then ⟨(flat (adds [] l)).toArray⟩ else ⟨#[]⟩
def offE (l : List ByteArray) : Nat := if allB l = true then 0 else 1
theorem off_bad {l : List ByteArray} (h : allB l = false) : offN l = [] ∧ offS l = ⟨#[]⟩ ∧ offE l = 1 := by
  unfold offN offS offE; rw [h]; exact ⟨rfl, rfl, rfl⟩
theorem off_good {l : List ByteArray} (h : allB l = true) : offN l = plc [] l ∧ offS l = ⟨(flat (adds [] l)).toArray⟩ ∧ offE l = 0 := by
  unfold offN offS offE; rw [h]; exact ⟨rfl, rfl, rfl⟩
theorem BK.not_row {w : World} {g : Nat} {v : Value} {m : Option Nat} {L : List ByteArray} (h : BK w g v m L) {base e size n : Nat} {u : Value} {xs : List Value} (ho : w.ownsRow base e size u n xs) (h1 : e ≠ 84) (h2 : e ≠ 5) {k : Nat} (hk : u.ownBlock = some k) : ¬ fpB g v m k := by
  obtain ⟨cur, hc⟩ := ow_type ho hk
  exact h.not_arr (g' := k) (t := e) (cs := cur) hc h1 h2
/-- A Block that the call has made, and a slice of places. -/
def Of9 (B : Nat) (w : World) (g : Nat) (u : Value) (L : List ByteArray) (P : List Nat) : Prop :=
  ∃ v m, BK w g v m L ∧ (∀ k, fpB g v m k → B ≤ k) ∧ w.ownsRow 0 3 1 u P.length (natV P) ∧ (∀ k, u.ownBlock = some k → B ≤ k)
section
variable {B : Nat} {w w' : World} {g : Nat} {u u' : Value} {L : List ByteArray} {P P' : List Nat}
theorem of9_add (h : Of9 B w g u L P) (hB : B ≤ w.heap.size) (s : ByteArray) (hs : s.size ≤ maxLen) (hL : L.length ≤ 1073741824) :
    Calls Tryz.prog 64 #[.pointer (some ⟨g, 0, none⟩), .string s] w fun e w' => e = .returned (.tuple #[.int .i64 ((addV L s).1 : Int), .int .i64 ((addV L s).2 : Int)]) ∧ Of9 B w' g u (addA L s) P ∧ Below B w w' := by
  obtain ⟨v, m, h1, h2, h3, h4⟩ := h
  refine (sadd_any g v m L s w h1 hs hL).mono ?_
  rintro e w' ⟨he, v', m', hb, hm⟩
  refine ⟨he, ⟨v', m', hb, fun k hk => ?_, hm.row h3 (fun k hk => h1.not_row h3 (by decide) (by decide) hk), h4⟩, hm.below h2 hB⟩
  rcases hm.foot k hk with h5 | h5
  · exact h2 k h5
  · exact Nat.le_trans hB h5
theorem of9_put (h : Of9 B w g u L P) (hB : B ≤ w.heap.size) (ho : w'.ownsRow 0 3 1 u' P'.length (natV P')) (hm : Moved w w' (ownS u) (ownS u')) : Of9 B w' g u' L P' ∧ Below B w w' := by
  obtain ⟨v, m, h1, h2, h3, h4⟩ := h
  refine ⟨⟨v, m, h1.kept hm (fun k hk hu => h1.not_row h3 (by decide) (by decide) hu hk), h2, ho, fun k hk => ?_⟩, hm.below h4 hB⟩
  rcases hm.foot k hk with h5 | h5
  · exact h4 k h5
  · exact Nat.le_trans hB h5
theorem of9_bytes (h : Of9 B w g u L P) : Calls Tryz.prog 40 #[.pointer (some ⟨g, 0, none⟩)] w fun e w' => e = .returned (.string ⟨(flat L).toArray⟩) ∧ w = w' := by
  obtain ⟨v, m, h1, _⟩ := h
  exact sbytes_any g v m L w h1
theorem of9_row (h : Of9 B w g u L P) : w.ownsRow 0 3 1 u P.length (natV P) ∧ w.ownsRow B 3 1 u P.length (natV P) := by
  obtain ⟨v, m, _, _, h3, h4⟩ := h
  exact ⟨h3, ow_base h3 h4⟩
theorem of9_new (w : World) : Of9 w.heap.size (w.alloc (.cells #[.slice none 0 0, .map none, .int .i64 0] 84)) w.heap.size (.slice none 0 0) [] [] :=
  ⟨.slice none 0 0, none, .inl ⟨rfl, rfl, rfl, Arr.new _ _ _⟩, (fun k hk => by
    rcases hk with hk | hk | hk
    · exact Nat.le_of_eq hk.symm
    · cases hk
    · cases hk), World.ownsRow_nil _ _ _ _, (fun _ hk => by cases hk)⟩
end

end Go.Proofs.YtgfdbmbgldeljaaGreat

/- The document's Block in memory: its strings, their places, its bytes; what its Add does. Conditions: at most 2^30 strings are there, and the string to be added fits. -/
namespace Go.Proofs.YtgfdbmbgldeljaaGreat
open Go.RowKit

theorem elemT : ElemIs Tryz.prog 96 9 (.string ByteArray.empty) 16 := elemIs_mk Tryz.underlying96 rfl (by kernel_rfl)
theorem str_eq {a b : ByteArray} : (a.toList == b.toList) = decide (a = b) := by
  by_cases h : a = b
  · subst h; simp
  · have : ¬ a.toList = b.toList := fun e => h (by
      rw [ByteArray.toList_eq, ByteArray.toList_eq] at e
      exact ByteArray.ext (Array.ext' e))
    simp [h, this]
theorem row_rdT {w : World} {base e : Nat} {v : Value} {l : List ByteArray} (h : w.ownsRow base e 1 v l.length (l.map Value.string)) : ∃ A cap, v = .slice A l.length cap ∧ RdT w A l := by
  rcases h.2 with ⟨rfl, hz⟩ | ⟨g, cap, cur, rfl, hb, hg, _, _, _, hx⟩
  · exact ⟨none, 0, by rw [hz], .inl (List.length_eq_zero_iff.1 hz)⟩
  · refine ⟨_, cap, rfl, .inr ⟨g, 0, rfl, fun k hk => ?_⟩⟩
    rw [Nat.zero_add, cell_of_row w g k cur _ (0, 0) hg]
    have e : (cur.toList.take (l.length * 1))[k]? = (l.map Value.string)[k]? := by rw [hx]
    rw [List.getElem?_take_of_lt (by omega)] at e
    rw [← Array.getElem?_toList, e]
    simp [hk]
theorem row_rdK {w : World} {base e : Nat} {v : Value} {P : List Nat} (h : w.ownsRow base e 1 v P.length (natV P)) : ∃ A cap, v = .slice A P.length cap ∧ RdK .i64 w A (P.map Int.ofNat) := by
  rcases h.2 with ⟨rfl, hz⟩ | ⟨g, cap, cur, rfl, hb, hg, _, _, _, hx⟩
  · exact ⟨none, 0, by rw [hz], .inl (by simpa using List.length_eq_zero_iff.1 hz)⟩
  · refine ⟨_, cap, rfl, .inr ⟨g, 0, rfl, fun k hk => ?_⟩⟩
    rw [List.length_map] at hk
    rw [Nat.zero_add, cell_of_row w g k cur _ (0, 0) hg]
    have e : (cur.toList.take (P.length * 1))[k]? = (natV P)[k]? := by rw [hx]
    rw [List.getElem?_take_of_lt (by omega)] at e
    rw [← Array.getElem?_toList, e]
    simp [natV, hk]

/-- Block g is a Block of the document's. -/
def RX (w : World) (g : Nat) (lv av : Value) (L : List ByteArray) : Prop :=
  Arr w g 98 #[lv, av, .string ⟨(flat L).toArray⟩] ∧ w.ownsRow 0 9 1 lv L.length (L.map Value.string) ∧ w.ownsRow 0 3 1 av L.length (natV (L.map (posn L))) ∧ okL L
def fpX (g : Nat) (lv av : Value) (k : Nat) : Prop := k = g ∨ lv.ownBlock = some k ∨ av.ownBlock = some k
section
variable {w w' : World} {g : Nat} {lv av lv' av' : Value} {L : List ByteArray} {F F' : Nat → Prop}
theorem RX.kept (h : RX w g lv av L) (hm : Moved w w' F F') (hf : ∀ k, fpX g lv av k → ¬ F k) : RX w' g lv av L := by
  obtain ⟨h1, h2, h3, h4⟩ := h
  exact ⟨hm.arr h1 (hf g (.inl rfl)), hm.row h2 (fun k hk => hf k (.inr (.inl hk))), hm.row h3 (fun k hk => hf k (.inr (.inr hk))), h4⟩
theorem RX.below (h : RX w g lv av L) (hb : Below w.heap.size w w') : RX w' g lv av L := h.kept (Moved.of_below hb (fun _ => False)) (fun _ _ h => h)
theorem RX.lt (h : RX w g lv av L) {k : Nat} (hk : fpX g lv av k) : k < w.heap.size := by
  obtain ⟨h1, h2, h3, h4⟩ := h
  rcases hk with rfl | hk | hk
  · exact h1.lt
  · obtain ⟨cur, hc⟩ := ow_type h2 hk
    exact (Array.getElem?_eq_some_iff.1 hc).1
  · obtain ⟨cur, hc⟩ := ow_type h3 hk
    exact (Array.getElem?_eq_some_iff.1 hc).1
theorem fpX_cell (h : w.grownBy w' (some g)) : Moved w w' (fpX g lv av) (fpX g lv av) :=
  Moved.grown h (fun k hk => by injection hk with hk; exact .inl hk.symm) (fun _ hk => .inl hk)
theorem fpX_l (h : Moved w w' (ownS lv) (ownS lv')) : Moved w w' (fpX g lv av) (fpX g lv' av) :=
  h.inside (fun _ hk => .inr (.inl hk)) (fun k hk => by
    rcases hk with hk | hk | hk
    · exact .inl (.inl hk)
    · exact .inr (.inl hk)
    · exact .inl (.inr (.inr hk)))
theorem fpX_a (h : Moved w w' (ownS av) (ownS av')) : Moved w w' (fpX g lv av) (fpX g lv av') :=
  h.inside (fun _ hk => .inr (.inr hk)) (fun k hk => by
    rcases hk with hk | hk | hk
    · exact .inl (.inl hk)
    · exact .inl (.inr (.inl hk))
    · exact .inr (.inl hk))
end
/-- A row of another kind stays while an own slice grows. -/
theorem row_beside {w w' : World} {u u' v : Value} {base e e' size size' base' n n' : Nat} {xs ys : List Value} (h : w.ownsRow base e size v n xs) (ho : w.ownsRow base' e' size' u n' ys) (hne : e ≠ e') (hm : Moved w w' (ownS u) (ownS u')) : w'.ownsRow base e size v n xs :=
  hm.row h (fun k hk hu => by
    rcases ow_ow h ho hne with h1 | h1
    · rw [h1] at hk; cases hk
    · exact h1 (by rw [hk]; exact hu.symm))
theorem arr_beside {w w' : World} {u u' : Value} {g t : Nat} {cs : Array Value} {e' size' base' n' : Nat} {ys : List Value} (h : Arr w g t cs) (ho : w.ownsRow base' e' size' u n' ys) (hne : t ≠ e') (hm : Moved w w' (ownS u) (ownS u')) : Arr w' g t cs :=
  hm.arr h (fun hk => ow_arr h ho hne hk.symm)
theorem posn_map_snoc {L : List ByteArray} {s : ByteArray} (h : thereB L s = false) : natV ((L ++ [s]).map (posn (L ++ [s]))) = natV (L.map (posn L)) ++ [.int .i64 ((flat L).length : Int)] := by
  rw [List.map_append, List.map_cons, List.map_nil, natV_snoc, posn_snoc L s (thereB_not.1 h)]
  congr 2
  exact List.map_congr_left (fun x hx => posn_app L [s] x hx)
theorem flat_str (L : List ByteArray) (s : ByteArray) : (⟨(flat L).toArray⟩ : ByteArray) ++ s ++ (⟨#[0]⟩ : ByteArray) = ⟨(flat (L ++ [s])).toArray⟩ := by
  apply ByteArray.ext
  apply Array.ext'
  rw [ByteArray.data_append, ByteArray.data_append, Array.toList_append, Array.toList_append, flat_app, flat_one]
  simp

set_option maxHeartbeats 1600000 in
set_option maxRecDepth 100000 in
theorem radd_any (g : Nat) (lv av : Value) (L : List ByteArray) (s : ByteArray) (w : World) (h : RX w g lv av L) (hs : s.size ≤ maxLen) (hL : L.length ≤ 1073741824) :
    Calls Tryz.prog 49 #[.pointer (some ⟨g, 0, none⟩), .string s] w fun e w' => e = .returned (.tuple #[.int .i64 ((addV L s).1 : Int), .int .i64 ((addV L s).2 : Int)]) ∧ ∃ lv' av', RX w' g lv' av' (addA L s) ∧ Moved w w' (fpX g lv av) (fpX g lv' av') := by
  have HMA := Lib.hid (rmay_any s w hs)
  have H := Lib.hid h
  cases hm : mayB s with
  | false =>
    rw [hm] at HMA
    have e1 : addV L s = (0, 1) := by unfold addV; rw [hm]; rfl
    have e2 : addA L s = L := by unfold addA; rw [hm]; rfl
    rw [e1, e2]
    clear e1 e2 h hm
    go_enter Tryz.func49, Tryz.ntmps49
    go_wp2_with fail
    refine HMA.out.mono ?_
    rintro e w1 ⟨rfl, rfl⟩
    go_wp2
    go_ret2
    exact ⟨rfl, lv, av, H.out, Moved.refl _ _⟩
  | true =>
    rw [hm] at HMA
    have h31 := (mayB_iff.1 hm).2.1
    have e1 : addV L s = (posn L s, 0) := by unfold addV; rw [hm]; rfl
    have e2 : addA L s = addS L s := by unfold addA; rw [hm]; rfl
    have hfl : (flat L).length ≤ 34359738368 := by have := flat_le h.2.2.2; omega
    rw [e1, e2]
    obtain ⟨hA, hl, ha, hok⟩ := h
    have HIT : Hid (∀ k, k < L.length → L.getD k ByteArray.empty = s → addS L s = L) := by
      intro k hk he
      unfold addS
      rw [if_pos (thereB_iff.2 (by rw [← he, List.getD_eq_getElem?_getD, List.getElem?_eq_getElem hk]; exact List.getElem_mem _))]
    have HPO : Hid (∀ k, k < L.length → L.getD k ByteArray.empty = s → ((L.map (posn L)).map Int.ofNat).getD k 0 = ((posn L s : Nat) : Int)) := by
      intro k hk he
      rw [← he]; simp [List.getD_eq_getElem?_getD, hk]
    have HPL : Hid (((L.map (posn L)).map Int.ofNat).length = L.length) := by unfold Hid; rw [List.length_map, List.length_map]
    have HMISS : Hid ((∀ k, k < L.length → L.getD k ByteArray.empty ≠ s) → thereB L s = false) := by
      intro hj
      rw [thereB_not]
      intro hin
      obtain ⟨k, hk, he⟩ := List.getElem_of_mem hin
      exact hj k hk (by rw [List.getD_eq_getElem?_getD, List.getElem?_eq_getElem hk]; exact he)
    have HMIS2 : Hid (thereB L s = false → addS L s = L ++ [s] ∧ posn L s = (flat L).length ∧ okL (L ++ [s])) := by
      intro ht
      have hS : addS L s = L ++ [s] := by unfold addS; rw [ht]; rfl
      refine ⟨hS, posn_new L s (thereB_not.1 ht), ?_⟩
      have := okL_add hok s
      rwa [e2, hS] at this
    obtain ⟨AL, capL, rfl, hrdT⟩ := row_rdT hl
    have hal : (L.map (posn L)).length = L.length := List.length_map _
    have ha2 : w.ownsRow 0 3 1 av (L.map (posn L)).length (natV (L.map (posn L))) := by rw [hal]; exact ha
    obtain ⟨AA, capA, rfl, hrdK⟩ := row_rdK ha2
    rw [hal] at *
    have c0 : w.cell? ⟨g, 0, none⟩ = some (.slice AL L.length capL) := hA.cell 0
    have c1 : w.cell? ⟨g, 1, none⟩ = some (.slice AA L.length capA) := hA.cell 1
    have HRT := Lib.hid hrdT
    have HRK := Lib.hid hrdK
    clear e1 e2 hm hA hl ha ha2 hok hrdT hrdK hal
    generalize hpv : posn L s = pv at *
    generalize hav : addS L s = av at *
    go_enter Tryz.func49, Tryz.ntmps49
    go_wp2_with fail
    refine HMA.out.mono ?_
    rintro e w1 ⟨rfl, rfl⟩
    go_wp2
    go_loop [6] (fun i => ∃ k : Nat, k ≤ L.length ∧ i = .int .i64 k ∧ Hid (∀ j, j < k → L.getD j ByteArray.empty ≠ s)) (fun i => L.length - (intOf i).toNat)
    case atStart => exact ⟨0, Nat.zero_le _, rfl, fun j h1 => absurd h1 (by omega)⟩
    case round =>
      obtain ⟨k, hk, rfl, HK⟩ := hrel
      by_cases hlt : k < L.length
      · have hki : (k : Int) < L.length := by omega
        obtain ⟨b, off, x, rfl, hc, HX⟩ := HRT.out.at_ hlt
        have hlt2 : k < ((L.map (posn L)).map Int.ofNat).length := by rw [HPL.out]; exact hlt
        obtain ⟨b', off', y, rfl, hc', HY⟩ := HRK.out.at_ hlt2
        by_cases hxs : x = s
        · have hy := HPO.out k hlt (by rw [HX.out]; exact hxs)
          rw [HY.out] at hy
          subst hy
          have HAV := Lib.hid (HIT.out k hlt (by rw [HX.out]; exact hxs))
          have d2 : (x.toList == s.toList) = true := by rw [str_eq]; exact decide_eq_true hxs
          clear hxs HX HY HIT HPO HMISS HMIS2 hlt2 HPL
          go_wp2
          go_ret2
          exact ⟨rfl, _, _, by rw [HAV.out]; exact H.out, Moved.refl _ _⟩
        · have d2 : (x.toList == s.toList) = false := by rw [str_eq]; exact decide_eq_false hxs
          have HK1 : Hid (∀ j, j < k + 1 → L.getD j ByteArray.empty ≠ s) := by
            intro j hj
            by_cases e : j = k
            · subst e; rw [HX.out]; exact hxs
            · exact HK.out j (by omega)
          clear hxs HX HY HIT HPO HMISS HMIS2 hlt2 HPL
          go_wp2
          go_round
          case rel => exact ⟨k + 1, by omega, by go_num, HK1⟩
          case measure => simp [intOf]; omega
      · obtain rfl : k = L.length := by omega
        have ht := HMISS.out HK.out
        obtain ⟨hav2, hpv2, hok2⟩ := HMIS2.out ht
        have HPM := Lib.hid (posn_map_snoc ht)
        have HFS := Lib.hid (flat_str L s)
        have HLM : Hid ((L ++ [s]).map Value.string = L.map Value.string ++ [.string s]) := by unfold Hid; rw [List.map_append]; rfl
        have HLL : Hid ((L ++ [s]).length = L.length + 1) := List.length_append
        have HAV := Lib.hid hav2
        have HPV := Lib.hid hpv2
        have HOK2 := Lib.hid hok2
        obtain ⟨hA, hl, ha, hok⟩ := H.out
        have HA := Lib.hid hA
        have HL1 := Lib.hid hl
        have HA1 := Lib.hid ha
        have HELT := Lib.hid elemT
        have HELI := Lib.hid elemI
        have c2 := hA.cell 2
        have hsz : (ByteArray.mk (flat L).toArray).size = (flat L).length := by show (flat L).toArray.size = _; simp
        have HSZ := Lib.hid hsz
        clear HK HRT HRK HPO HPL HIT HMISS HMIS2 ht hav2 hpv2 hok2 hA hl ha hok hsz
        generalize hS : (ByteArray.mk (flat L).toArray) = S at *
        generalize hn : (flat L).length = n at *
        rw [← HSZ.out] at hfl HPV HPM
        generalize hll : L.length = ll at *
        go_upto_region 10 with (first
          | (at_builtin; refine append_moved rfl (.tmp 54) (.tmp 56) 96 rfl 9 (.string ByteArray.empty) 16 HELT (.string s) rfl (.slice AL ll capL) ll (L.map Value.string) rfl HL1.out w.heap.size rfl rfl (by omega) (by unfold maxLen; omega) ?_; intro l2 w2 ho2 hm2; obtain ⟨A2, cap2, rfl⟩ := slice_of ho2; have HL2 := Lib.hid ho2; have HM2 := Lib.hid hm2; have HA2 := Lib.hid (arr_beside HA.out HL1.out (by decide) hm2); have HI2 := Lib.hid (row_beside HA1.out HL1.out (by decide) hm2); clear ho2 hm2; have c0' := HA2.out.cell 0; have f0' := HA2.out.frozen 0))
        generalize hV2 : Value.slice A2 (ll + 1) cap2 = V2 at *
        have HA3 : Hid (Arr (w2.setCell ⟨g, 0, none⟩ V2) g 98 #[V2, .slice AA ll capA, .string S]) := HA2.out.put 0 V2
        have HL3 := Lib.hid (ow_set HA2.out HL2.out (by decide) 0 V2)
        have HI3 := Lib.hid (ow_set HA2.out HI2.out (by decide) 0 V2)
        have HM3 : Hid (Moved w (w2.setCell ⟨g, 0, none⟩ V2) (fpX g (.slice AL ll capL) (.slice AA ll capA)) (fpX g V2 (.slice AA ll capA))) := (fpX_l HM2.out).trans (fpX_cell (gr_cell w2 g 0 V2))
        generalize w2.setCell ⟨g, 0, none⟩ V2 = w3 at *
        have c1' := HA3.out.cell 1
        clear HA HL1 HA1 HL2 HM2 HA2 HI2 c0 c1 c2 c0' f0'
        go_upto_region 11 with (first
          | (at_builtin; refine append_moved rfl (.tmp 64) (.tmp 66) 69 rfl 3 (.int .i64 0) 8 HELI (.int .i64 (S.size : Int)) rfl (.slice AA ll capA) ll (natV (L.map (posn L))) rfl HI3.out w3.heap.size rfl rfl (by omega) (by unfold maxLen; omega) ?_; intro l4 w4 ho4 hm4; obtain ⟨A4, cap4, rfl⟩ := slice_of ho4; have HI4 := Lib.hid ho4; have HM4 := Lib.hid hm4; have HA4 := Lib.hid (arr_beside HA3.out HI3.out (by decide) hm4); have HL4 := Lib.hid (row_beside HL3.out HI3.out (by decide) hm4); clear ho4 hm4; have c1'' := HA4.out.cell 1; have f1'' := HA4.out.frozen 1))
        generalize hV4 : Value.slice A4 (ll + 1) cap4 = V4 at *
        have HA5 : Hid (Arr (w4.setCell ⟨g, 1, none⟩ V4) g 98 #[V2, V4, .string S]) := HA4.out.put 1 V4
        have HL5 := Lib.hid (ow_set HA4.out HL4.out (by decide) 1 V4)
        have HI5 := Lib.hid (ow_set HA4.out HI4.out (by decide) 1 V4)
        have HM5 : Hid (Moved w (w4.setCell ⟨g, 1, none⟩ V4) (fpX g (.slice AL ll capL) (.slice AA ll capA)) (fpX g V2 V4)) := HM3.out.trans ((fpX_a HM4.out).trans (fpX_cell (gr_cell w4 g 1 V4)))
        generalize w4.setCell ⟨g, 1, none⟩ V4 = w5 at *
        have c2' := HA5.out.cell 2
        have f2' := HA5.out.frozen 2
        clear HL3 HI3 HA3 HM3 HI4 HM4 HA4 HL4 c1' c1'' f1''
        have HA6 : Hid (Arr (w5.setCell ⟨g, 2, none⟩ (.string (S ++ s ++ ⟨#[0]⟩))) g 98 #[V2, V4, .string (S ++ s ++ ⟨#[0]⟩)]) := HA5.out.put 2 _
        have HL6 := Lib.hid (ow_set HA5.out HL5.out (by decide) 2 (.string (S ++ s ++ ⟨#[0]⟩)))
        have HI6 := Lib.hid (ow_set HA5.out HI5.out (by decide) 2 (.string (S ++ s ++ ⟨#[0]⟩)))
        have HM6 := Lib.hid (HM5.out.trans (fpX_cell (gr_cell w5 g 2 (.string (S ++ s ++ ⟨#[0]⟩)))))
        clear HA5 HL5 HI5 HM5
        go_wp2
        go_ret2
        refine ⟨by rw [HPV.out]; rfl, V2, V4, ?_, HM6.out⟩
        rw [HAV.out]
        refine ⟨?_, ?_, ?_, HOK2.out⟩
        · rw [← HFS.out]; exact HA6.out
        · rw [HLL.out, HLM.out]; exact HL6.out
        · rw [HLL.out, HPM.out]; exact HI6.out
end Go.Proofs.YtgfdbmbgldeljaaGreat

/- What the document's zeros, Node, begin and pad return. Conditions: strings of at most 2^40 bytes. -/
namespace Go.Proofs.YtgfdbmbgldeljaaGreat
open Go.RowKit

theorem byte_at (s : ByteArray) (k : Nat) (h : k < s.size) : s.data.toList.getD k 0 = s[k] := by rw [List.getD_eq_getElem?_getD, List.getElem?_eq_getElem (by simpa using h)]; rfl

set_option maxHeartbeats 800000 in
set_option maxRecDepth 100000 in
theorem rnode_any (s : ByteArray) (w : World) (hl : s.size ≤ maxLen) : Calls Tryz.prog 46 #[.string s] w fun e w' => e = .returned (.bool (nodeB s)) ∧ w = w' := by
  have HM := Lib.hid (rmay_any s w hl)
  unfold nodeB
  have hd : decide (s = ByteArray.empty) = decide (s.size = 0) := by
    by_cases h : s.size = 0
    · have : s = ByteArray.empty := by
        cases s with | mk d => cases d with | mk l => cases l with | nil => rfl | cons a r => cases h
      rw [decide_eq_true h, decide_eq_true this]
    · rw [decide_eq_false h, decide_eq_false (fun e => h (by rw [e]; rfl))]
  have hs : (s.toList == ByteArray.empty.toList) = decide (s.size = 0) := by rw [str_eq, hd]
  by_cases h : s.size = 0
  · rw [decide_eq_true h] at hs ⊢
    have h2 : s.toList = [] := by simpa using hs
    have h3 : s.toList.isEmpty = true := by rw [h2]; rfl
    clear hd h
    go_enter Tryz.func46, Tryz.ntmps46
    go_wp2
    go_ret
    exact ⟨rfl, rfl⟩
  · rw [decide_eq_false h] at hs ⊢
    have h2 : ¬ s.toList = [] := fun e => by rw [e] at hs; simp at hs
    have h3 : s.toList.isEmpty = false := by cases e : s.toList with
      | nil => exact absurd e h2
      | cons a r => rfl
    clear hd h
    generalize mayB s = m at *
    go_enter Tryz.func46, Tryz.ntmps46
    go_wp2_with fail
    refine HM.out.mono ?_
    rintro e w1 ⟨rfl, rfl⟩
    go_wp2
    go_ret
    exact ⟨rfl, rfl⟩

theorem up_of (n : Nat) (h : n ≤ 9007199254740992) : upOf (n : Int) = (up4 n : Int) := by unfold upOf up4; rw [if_neg (by omega)]; omega
/-- How begin's three ends are told. -/
theorem beginR_short {l : List UInt8} (h : l.length ≤ z0 l ∨ l.length < up4 (z0 l + 1)) : beginR l = (ByteArray.empty, 0, 14) := by unfold beginR; rw [if_pos h]
theorem beginR_long {l : List UInt8} (h : ¬ (l.length ≤ z0 l ∨ l.length < up4 (z0 l + 1))) : beginR l = if (nodeB ⟨(l.take (z0 l)).toArray⟩ && zerosB ((l.take (up4 (z0 l + 1))).drop (z0 l))) = true then (⟨(l.take (z0 l)).toArray⟩, up4 (z0 l + 1), 0) else (ByteArray.empty, 0, 6) := by unfold beginR; rw [if_neg h]
theorem cut_head (s : ByteArray) (k : Nat) : s.extract 0 k = ⟨(s.data.toList.take k).toArray⟩ := by rw [ba_eq (s.extract 0 k), ext_list, List.drop_zero]

end Go.Proofs.YtgfdbmbgldeljaaGreat
