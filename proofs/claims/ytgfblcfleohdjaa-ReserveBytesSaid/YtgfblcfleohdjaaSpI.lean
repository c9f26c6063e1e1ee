/- slices.Insert of one span into a slice of the call's own. Conditions: at most 1000 spans; the span lies in a block of its own. -/
import Derived.Test.YtgfblcfleohdjaaSpG
import Derived.Shelf.Spec.SlicesInsert
import Derived.Lib.AppendZerosOnto
import Derived.Lib.Overlaps
import Derived.Laws.NewBlocks
import Derived.Laws.IdiomCopy
import Derived.IntWalk
namespace Go.Proofs.Ytgfblcfleohdjaa
open Go.RowKit

/-- 'copy(d, s)' of m elements of any size. -/
theorem run_copy_many {P : Program} (w : World) (dT sT ty elem : TypeId) (b o dLen dCap : Nat) (a : Addr) (sLen sCap size m : Nat) (cs : List Value)
    (hu : P.underlying dT = some (.slice elem)) (hs : (P.info? elem).map (·.size) = some size) (hm : Nat.min sLen dLen = m) (hn : cs.length = m * size)
    (hsrc : ∀ j v, cs[j]? = some v → w.cell? (a.add j) = some v) (hc : ∀ j, j < cs.length → (w.cell? ⟨b, o + j, none⟩).isSome = true) (hf : ∀ j, j < cs.length → w.frozen? ⟨b, o + j, none⟩ = false) (h1 : ∀ v ∈ cs, v.oneCell' = true) :
    (Builtin.copy_ #[dT, sT] ty #[.slice (some ⟨b, o, none⟩) dLen dCap, .slice (some a) sLen sCap]).run P w = .ok (goInt m) (w.setCells b o cs) := by
  have hl := run_loadCells_list (P := P) w a cs hsrc
  have hst := run_storeCells_cells (P := P) b o cs 0 w (by simpa using hc) (by simpa using hf) h1
  cases hq : P.info? elem with
  | none => simp [hq] at hs
  | some i =>
    have hi : i.size = size := by simpa [hq] using hs
    simp [Builtin.copy_, run_underlying hu, Builtin.lenOf, Builtin.firstCells, sizeOf, typeInfo, hq, hi, hm, ← hn, hl, hst]
theorem own_made {w : World} {B g cap n : Nat} {xs : List Value} {cur : Array Value} (h : Arr w g 24 cur) (hs : cur.size = cap * 2) (hn : n ≤ cap) (hc : cap ≤ maxLen) (hB : B ≤ g) (hl : xs.length = n * 2) (hx : ∀ j, j < n * 2 → cur[j]? = xs[j]?) :
    w.ownsRow B 24 2 (.slice (some ⟨g, 0, none⟩) n cap) n xs := by
  refine ⟨hl, .inr ⟨g, cap, cur, rfl, hB, h, hn, hc, hs, ?_⟩⟩
  apply List.ext_getElem?
  intro j
  by_cases hj : j < n * 2
  · rw [List.getElem?_take_of_lt hj, Array.getElem?_toList, hx j hj]
  · rw [List.getElem?_eq_none (by rw [List.length_take]; omega), List.getElem?_eq_none (by omega)]
theorem spD_dr : ∀ (R : List SP) (i : Nat), (spD R).drop (i * 2) = spD (R.drop i)
  | [], i => by rw [List.drop_nil]; show List.drop (i * 2) ([] : List Value) = []; exact List.drop_nil
  | _ :: _, 0 => rfl
  | x :: r, i + 1 => by
    have e : spD (x :: r) = .int .i64 x.p :: .int .i64 x.n :: spD r := rfl
    rw [e, show (i + 1) * 2 = i * 2 + 1 + 1 by omega, List.drop_succ_cons, List.drop_succ_cons, spD_dr r i]; rfl
theorem ins_len (L : List SP) (i : Nat) (x : SP) (hi : i ≤ L.length) : (L.take i ++ x :: L.drop i).length = L.length + 1 := by
  rw [List.length_append, List.length_cons, List.length_take, List.length_drop]; omega
theorem ins_at (L : List SP) (i : Nat) (x : SP) (hi : i ≤ L.length) (j : Nat) :
    (spD (L.take i ++ x :: L.drop i))[j]? = if j < i * 2 then (spD L)[j]? else if j < i * 2 + 2 then ([.int .i64 x.p, .int .i64 x.n] : List Value)[j - i * 2]? else ((spD L).drop (i * 2))[j - (i * 2 + 2)]? := by
  have e : spD (x :: L.drop i) = [.int .i64 x.p, .int .i64 x.n] ++ spD (L.drop i) := rfl
  have hl := spD_length L
  have hl1 : ((spD L).take (i * 2)).length = i * 2 := by rw [List.length_take, hl]; omega
  rw [spD_two, e, ← spD_tk, ← spD_dr]
  by_cases h1 : j < i * 2
  · rw [if_pos h1, List.getElem?_append_left (by omega), List.getElem?_take_of_lt h1]
  · rw [if_neg h1, List.getElem?_append_right (by omega), hl1]
    by_cases h2 : j < i * 2 + 2
    · rw [if_pos h2, List.getElem?_append_left (by simp only [List.length_cons, List.length_nil]; omega)]
    · rw [if_neg h2, List.getElem?_append_right (by simp only [List.length_cons, List.length_nil]; omega)]
      congr 1
/-- What has been stored: the span at its place, and what was there behind it, in either order. -/
theorem ins_row {w : World} {B g cap i : Nat} {L : List SP} {x : SP} {cur : Array Value} (h : Arr w g 24 cur) (hs : cur.size = cap * 2) (hn : L.length + 1 ≤ cap) (hc : cap ≤ maxLen) (hB : B ≤ g) (hi : i ≤ L.length) (hp : ∀ j, j < i * 2 → cur[j]? = (spD L)[j]?) :
    ((w.setCells g (i * 2) [.int .i64 x.p, .int .i64 x.n]).setCells g ((i + 1) * 2) ((spD L).drop (i * 2))).ownsRow B 24 2 (.slice (some ⟨g, 0, none⟩) (L.length + 1) cap) (L.length + 1) (spD (L.take i ++ x :: L.drop i)) ∧
    ((w.setCells g ((i + 1) * 2) ((spD L).drop (i * 2))).setCells g (i * 2) [.int .i64 x.p, .int .i64 x.n]).ownsRow B 24 2 (.slice (some ⟨g, 0, none⟩) (L.length + 1) cap) (L.length + 1) (spD (L.take i ++ x :: L.drop i)) := by
  have hl := spD_length L
  have hdl : ((spD L).drop (i * 2)).length = L.length * 2 - i * 2 := by rw [List.length_drop, hl]
  have htl : (spD (L.take i ++ x :: L.drop i)).length = (L.length + 1) * 2 := by rw [spD_length, ins_len L i x hi]
  have h2 : ([.int .i64 x.p, .int .i64 x.n] : List Value).length = 2 := rfl
  constructor
  · obtain ⟨c1, a1, s1, p1⟩ := arr_setCells [.int .i64 x.p, .int .i64 x.n] (i * 2) h (by rw [h2]; omega)
    obtain ⟨c2, a2, s2, p2⟩ := arr_setCells ((spD L).drop (i * 2)) ((i + 1) * 2) a1 (by rw [hdl]; omega)
    refine own_made a2 (by omega) hn hc hB htl fun j hj => ?_
    rw [p2 j, p1 j, ins_at L i x hi j, h2, hdl]
    by_cases q1 : j < i * 2
    · rw [if_neg (by omega), if_neg (by omega), if_pos q1, hp j q1]
    · by_cases q2 : j < i * 2 + 2
      · rw [if_neg (by omega), if_pos (by omega), if_neg q1, if_pos q2]
      · rw [if_pos (by omega), if_neg q1, if_neg q2, show (i + 1) * 2 = i * 2 + 2 by omega]
  · obtain ⟨c1, a1, s1, p1⟩ := arr_setCells ((spD L).drop (i * 2)) ((i + 1) * 2) h (by rw [hdl]; omega)
    obtain ⟨c2, a2, s2, p2⟩ := arr_setCells [.int .i64 x.p, .int .i64 x.n] (i * 2) a1 (by rw [h2]; omega)
    refine own_made a2 (by omega) hn hc hB htl fun j hj => ?_
    rw [p2 j, p1 j, ins_at L i x hi j, h2, hdl]
    by_cases q1 : j < i * 2
    · rw [if_neg (by omega), if_neg (by omega), if_pos q1, hp j q1]
    · by_cases q2 : j < i * 2 + 2
      · rw [if_pos (by omega), if_neg q1, if_pos q2]
      · rw [if_neg (by omega), if_pos (by omega), if_neg q1, if_neg q2, show (i + 1) * 2 = i * 2 + 2 by omega]
theorem ins_end (L : List SP) (x : SP) : spD L ++ [.int .i64 x.p, .int .i64 x.n] = spD (L.take L.length ++ x :: L.drop L.length) := by
  rw [List.take_length, List.drop_length, spD_app]

set_option maxHeartbeats 1600000 in
set_option maxRecDepth 100000 in
/-- Behind all of them. -/
theorem insertEnd_any (B : Nat) (A : Option Addr) (cap gx : Nat) (L : List SP) (x : SP) (w : World) (hown : w.ownsRow B 24 2 (.slice A L.length cap) L.length (spD L)) (hB : B ≤ w.heap.size) (hx : Arr w gx 24 #[.int .i64 x.p, .int .i64 x.n]) (hl : L.length ≤ 1000) :
    Calls Try.prog 20 #[.slice A L.length cap, .int .i64 (L.length : Int), .slice (some ⟨gx, 0, none⟩) 1 1] w fun e w' => ∃ v, e = .returned v ∧ w'.ownsRow B 24 2 v (L.length + 1) (spD L ++ [.int .i64 x.p, .int .i64 x.n]) ∧ Below B w w' := by
  obtain ⟨h0, i0, z0, hi0, hz0, hz1, hz2, hz3, hz4⟩ := elemSpD
  have HOW := Lib.hid hown
  have HLT : Hid (∀ g, (Value.slice A L.length cap).ownBlock = some g → B ≤ g) := fun g hg => (hown.lt g hg).1
  have HXC : Hid (∀ j u, ([.int .i64 x.p, .int .i64 x.n] : List Value)[j]? = some u → w.cell? ((⟨gx, 0, none⟩ : Addr).add j) = some u) := fun j u hj => by
    have e : (⟨gx, 0, none⟩ : Addr).add j = ⟨gx, j, none⟩ := by unfold Addr.add; split <;> simp_all
    rw [e, hx.cell]; simpa using hj
  have HX1 := Lib.hid (spD_cells [x])
  obtain ⟨hk1, hk2⟩ : L.length ≤ cap ∧ cap ≤ maxLen := by
    rcases hown.2 with ⟨h1, _⟩ | ⟨g', cap', cur, h1, hb, hg, hnc, hcm, _⟩
    · injection h1 with _ h2 h3
      exact ⟨by omega, by omega⟩
    · injection h1 with _ _ h3
      subst h3
      exact ⟨hnc, hcm⟩
  generalize spD L = xs at *
  obtain ⟨n, hn⟩ : ∃ n, n = L.length := ⟨_, rfl⟩
  rw [← hn] at HOW HLT hl hk1 ⊢
  have HI := Lib.hid hi0
  have HZ0 := Lib.hid hz0
  have HZ1 := Lib.hid hz1
  have HZ2 := Lib.hid hz2
  have HZ3 := Lib.hid hz3
  clear hown hx hn hi0 hz0 hz1 hz2 hz3
  unfold maxLen at hk2
  have hnc : (n : Int) ≤ (cap : Int) := by omega
  have hn0 : (0 : Int) ≤ (n : Int) := by omega
  by_cases hcn : cap = n
  · subst hcn
    go_enter Try.func20, Try.ntmps20
    go_wp2_with (at_builtin; refine wpList_append_own_at _ rfl (.tmp 23) (.tmp 24) 22 rfl B 24 i0 z0 2 16 h0 HI.out HZ0.out HZ1.out HZ2.out HZ3.out hz4 (.slice A cap cap) cap xs rfl HOW.out ⟨gx, 0, none⟩ 1 1 [.int .i64 x.p, .int .i64 x.n] rfl rfl HXC.out HX1.out (by unfold maxLen; omega) (by omega) hB ?_; intro v' w' ho' hg' _ _; have HO' := Lib.hid ho'; have HB' : Hid (Below B w w') := (Below.refl B w).grown hg' hB HLT.out; clear ho' hg')
    go_ret
    exact ⟨_, rfl, HO'.out, HB'.out⟩
  · go_enter Try.func20, Try.ntmps20
    go_wp2_with (at_builtin; refine wpList_append_own_at _ rfl (.tmp 23) (.tmp 24) 22 rfl B 24 i0 z0 2 16 h0 HI.out HZ0.out HZ1.out HZ2.out HZ3.out hz4 (.slice A n cap) n xs rfl HOW.out ⟨gx, 0, none⟩ 1 1 [.int .i64 x.p, .int .i64 x.n] rfl rfl HXC.out HX1.out (by unfold maxLen; omega) (by omega) hB ?_; intro v' w' ho' hg' _ _; have HO' := Lib.hid ho'; have HB' : Hid (Below B w w') := (Below.refl B w).grown hg' hB HLT.out; clear ho' hg')
    go_ret
    exact ⟨_, rfl, HO'.out, HB'.out⟩

set_option maxHeartbeats 4000000 in
set_option maxRecDepth 100000 in
/-- Ahead of some, with no room: a new row. -/
theorem insertGrow_any (B g cap gx i : Nat) (L : List SP) (x : SP) (w : World) (hown : w.ownsRow B 24 2 (.slice (some ⟨g, 0, none⟩) L.length cap) L.length (spD L)) (hB : B ≤ w.heap.size) (hx : Arr w gx 24 #[.int .i64 x.p, .int .i64 x.n]) (hl : L.length ≤ 1000) (hi : i < L.length) (hcap : cap < L.length + 1) :
    Calls Try.prog 20 #[.slice (some ⟨g, 0, none⟩) L.length cap, .int .i64 (i : Int), .slice (some ⟨gx, 0, none⟩) 1 1] w fun e w' => ∃ v, e = .returned v ∧ w'.ownsRow B 24 2 v (L.length + 1) (spD (L.take i ++ x :: L.drop i)) ∧ Below B w w' := by
  obtain ⟨zi, hz0, hz1, hz2, hz3⟩ := zeroSpan
  have hinf := infoSpan
  have hu := Try.underlying22
  have hui := Try.underlying3
  have hsl := spD_length L
  have hknc : L.length ≤ cap := by
    rcases hown.2 with ⟨h1, _⟩ | ⟨g', cap', cur, h1, hb, hg, hnc, hcm, _⟩
    · cases h1
    · injection h1 with _ _ h3
      subst h3
      exact hnc
  obtain ⟨n, hn⟩ : ∃ n, n = L.length := ⟨_, rfl⟩
  have hcells : ∀ j v, (spD L)[j]? = some v → w.cell? ⟨g, j, none⟩ = some v := fun j v hj => by
    have hlt := (List.getElem?_eq_some_iff.1 hj).1
    rw [hown.cellAt j (by omega)]; exact hj
  have hgl := (hown.lt g rfl).2
  have hxl := hx.lt
  have hold : (Builtin.firstCells zi.size i (.slice (some ⟨g, 0, none⟩) i cap)).run Try.prog w.drew = .ok ((spD L).take (i * 2)).toArray w.drew := by
    rw [hz2]
    exact run_firstCells_some w.drew 2 i ⟨g, 0, none⟩ i cap ((spD L).take (i * 2)) (by rw [List.length_take]; omega) (fun j v hj => by
      rw [Addr.add_lit, Nat.zero_add]
      rw [List.getElem?_take] at hj
      split at hj
      · exact hcells j v hj
      · cases hj)
  have hik : i + (n + 1 - i) = n + 1 := by omega
  have hkk : (n : Int) + 1 - (i : Int) = ((n + 1 - i : Nat) : Int) := by omega
  have hrz : ∀ ty, (Builtin.append_ #[22, 3] ty #[.slice (some ⟨g, 0, none⟩) i cap, .int .i64 ((n : Int) + 1 - (i : Int))]).run Try.prog w =
      .ok (.slice (some ⟨w.heap.size, 0, none⟩) (n + 1) (grownCap w (n + 1) cap 24)) (w.drew.alloc (.cells (((spD L).take (i * 2)).toArray ++ Builtin.zeroCells (.agg #[.int .i64 0, .int .i64 0] : Value).cells (n + 1 - i) ++ Builtin.zeroCells (.agg #[.int .i64 0, .int .i64 0] : Value).cells (grownCap w (n + 1) cap 24 - (n + 1))) 24)) := fun ty => by
    have h := Lib.run_append_grow_zeros w 22 3 ty 24 zi _ .i64 .i64 hu hui hz0 hz1 (some ⟨g, 0, none⟩) i cap ((spD L).take (i * 2)) hold (n + 1 - i) (by omega) (by omega) (by omega) (by omega) (by rw [hz3]; omega) (by rw [hz3, hik]; exact growslice_fits (by omega) (by omega))
    rw [hik] at h
    rw [hkk]
    exact h
  obtain ⟨G, hG⟩ : ∃ G, G = grownCap w (n + 1) cap 24 := ⟨_, rfl⟩
  obtain ⟨ROW, hROW⟩ : ∃ ROW : Array Value, ROW = ((spD L).take (i * 2)).toArray ++ Builtin.zeroCells (.agg #[.int .i64 0, .int .i64 0] : Value).cells (n + 1 - i) ++ Builtin.zeroCells (.agg #[.int .i64 0, .int .i64 0] : Value).cells (G - (n + 1)) := ⟨_, rfl⟩
  have hGn : n + 1 ≤ G := by rw [hG]; exact grownCap_ge w _ _ _
  have hGm : G ≤ maxLen := by rw [hG]; exact grownCap_le_maxLen w (n + 1) cap _ (by unfold maxLen; omega)
  rw [← hG, ← hROW] at hrz
  have hz2' : (Value.agg #[.int .i64 0, .int .i64 0]).cells.size = 2 := rfl
  have hRs : ROW.size = G * 2 := by
    rw [hROW, Array.size_append, Array.size_append, List.size_toArray, List.length_take, hsl]
    have e1 : ∀ m, (Builtin.zeroCells (Value.agg #[.int .i64 0, .int .i64 0]).cells m).size = m * 2 := fun m => by unfold Builtin.zeroCells; simp [Value.cells]
    rw [e1, e1]
    omega
  have hRp : ∀ j, j < i * 2 → ROW[j]? = (spD L)[j]? := fun j hj => by
    have e1 : j < ((spD L).take (i * 2)).toArray.size := by rw [List.size_toArray, List.length_take]; omega
    rw [hROW, Array.getElem?_append_left (by rw [Array.size_append]; omega), Array.getElem?_append_left e1, List.getElem?_toArray, List.getElem?_take_of_lt hj]
  obtain ⟨W1, hW1⟩ : ∃ W1, W1 = w.drew.alloc (.cells ROW 24) := ⟨_, rfl⟩
  obtain ⟨g9, hg9⟩ : ∃ g9, g9 = w.heap.size := ⟨_, rfl⟩
  have hA1 : Arr W1 g9 24 ROW := by rw [hW1, hg9]; exact Arr.new w.drew _ _
  have hB1 : Below w.heap.size w W1 := by rw [hW1]; exact ((Below.refl _ _).drew).alloc (Nat.le_refl _) _
  rw [← hW1, ← hg9] at hrz
  have hdl : ((spD L).drop (i * 2)).length = (n - i) * 2 := by rw [List.length_drop, hsl]; omega
  have hX1 := hx.below hB1 hxl
  have hOb : ∀ j v, (spD L)[j]? = some v → W1.cell? ⟨g, j, none⟩ = some v := fun j v h => (World.cell?_of_block (a := ⟨g, j, none⟩) (hB1.block g hgl)).trans (hcells j v h)
  have hcpA : ∀ (W : World), (∀ x, W.cell? x = W1.cell? x) → (∀ x, W.frozen? x = W1.frozen? x) → ∀ ty dc, (Builtin.copy_ #[22, 22] ty #[.slice (some ⟨g9, i * 2, none⟩) (n + 1 - i) dc, .slice (some ⟨gx, 0, none⟩) 1 1]).run Try.prog W = .ok (goInt 1) (W.setCells g9 (i * 2) [.int .i64 x.p, .int .i64 x.n]) := fun W hWc hWf ty dc =>
    run_copy_many W _ _ ty 24 g9 (i * 2) (n + 1 - i) dc ⟨gx, 0, none⟩ 1 1 2 1 [.int .i64 x.p, .int .i64 x.n] hu hinf (by simp only [Nat.min_def]; split <;> omega) rfl
      (fun j v hj => by rw [Addr.add_lit, Nat.zero_add, hWc, hX1.cell]; simpa using hj)
      (fun j hj => by
        have hj : j < 2 := hj
        rw [hWc, hA1.cell, Array.getElem?_eq_getElem (by omega)]; rfl) (fun j hj => by rw [hWf]; exact hA1.frozen _) (spD_cells [x])
  obtain ⟨c1, a1, s1, p1⟩ := arr_setCells [.int .i64 x.p, .int .i64 x.n] (i * 2) hA1 (by simp only [List.length_cons, List.length_nil]; omega)
  obtain ⟨W2, hW2⟩ : ∃ W2, W2 = W1.setCells g9 (i * 2) [.int .i64 x.p, .int .i64 x.n] := ⟨_, rfl⟩
  rw [← hW2] at a1
  have hB2 : Below w.heap.size w W2 := by rw [hW2]; exact hB1.trans (own_below (gr_cells _ _ W1 g9) (by omega) hB1.size)
  have hgg : g ≠ g9 := by omega
  have hcpB : ∀ (W : World), (∀ x, W.cell? x = W2.cell? x) → (∀ x, W.frozen? x = W2.frozen? x) → ∀ ty dc sc, (Builtin.copy_ #[22, 22] ty #[.slice (some ⟨g9, (i + 1) * 2, none⟩) (n + 1 - (i + 1)) dc, .slice (some ⟨g, i * 2, none⟩) (n - i) sc]).run Try.prog W = .ok (goInt ((n - i : Nat) : Int)) (W.setCells g9 ((i + 1) * 2) ((spD L).drop (i * 2))) := fun W hWc hWf ty dc sc =>
    run_copy_many W _ _ ty 24 g9 ((i + 1) * 2) (n + 1 - (i + 1)) dc ⟨g, i * 2, none⟩ (n - i) sc 2 (n - i) ((spD L).drop (i * 2)) hu hinf (by simp only [Nat.min_def]; split <;> omega) hdl
      (fun j v hj => by
        rw [Addr.add_lit, hWc]
        have e : W2.cell? ⟨g, i * 2 + j, none⟩ = w.cell? ⟨g, i * 2 + j, none⟩ := World.cell?_of_block (a := ⟨g, i * 2 + j, none⟩) (hB2.block g hgl)
        rw [e]
        exact hcells _ v (by rwa [List.getElem?_drop] at hj))
      (fun j hj => by
        rw [hdl] at hj
        rw [hWc, a1.cell, Array.getElem?_eq_getElem (by omega)]; rfl)
      (fun j hj => by rw [hWf]; exact a1.frozen _) (fun v hv => spD_cells L v (List.mem_of_mem_drop hv))
  have HFIN : Hid ((W2.drew.setCells g9 ((i + 1) * 2) ((spD L).drop (i * 2))).ownsRow B 24 2 (.slice (some ⟨g9, 0, none⟩) (n + 1) G) (n + 1) (spD (L.take i ++ x :: L.drop i))) := by
    have := (ins_row (B := B) (cap := G) (i := i) (L := L) (x := x) hA1 hRs (by omega) hGm (by omega) (by omega) hRp).1
    rw [← hW2, ← hn] at this
    have h2 := this.drew
    rw [drew_setCells] at h2
    exact h2
  have HBF : Hid (Below B w (W2.drew.setCells g9 ((i + 1) * 2) ((spD L).drop (i * 2)))) := by
    rw [← drew_setCells]
    exact ((hB2.mono hB).trans (own_below (gr_cells _ _ W2 g9) (by omega) (by have := hB2.size; omega))).drew
  have hcpA1 := fun ty dc => hcpA W1 (fun _ => rfl) (fun _ => rfl) ty dc
  rw [← hW2] at hcpA1
  have hcpB1 := fun ty dc sc => hcpB W2.drew (fun _ => rfl) (fun _ => rfl) ty dc sc
  generalize (spD L).drop (i * 2) = DR at *
  generalize spD (L.take i ++ x :: L.drop i) = XS at *
  rw [← hn] at hl hi hcap hknc ⊢
  have hGi : ¬ (G = i) := by omega
  have hGi1 : ¬ (G = i + 1) := by omega
  have hci : ¬ (cap = i) := by omega
  have hni : ¬ ((i : Int) = (n : Int)) := by omega
  have hw1 : IntKind.i64.wrap ((i : Int) + 1) = (i : Int) + 1 := IntWalk.i64_in _ (by omega)
  have hw2 : IntKind.i64.wrap ((n : Int) + 1) = (n : Int) + 1 := IntWalk.i64_in _ (by omega)
  have hw3 : IntKind.i64.wrap ((n : Int) + 1 - (i : Int)) = (n : Int) + 1 - (i : Int) := IntWalk.i64_in _ (by omega)
  have hb1 : (0 : Int) ≤ (i : Int) + 1 := by omega
  have htn : ((i : Int) + 1).toNat = i + 1 := by omega
  have hb3 : (i : Int) ≤ (n : Int) := by omega
  have hb4 : (i : Int) ≤ (cap : Int) := by omega
  have hb5 : (i : Int) ≤ (n : Int) + 1 := by omega
  have hb6 : (i : Int) + 1 ≤ (n : Int) + 1 := by omega
  have hz3' : (cap : Int) < (n : Int) + 1 := by omega
  have mixed : Try.prog.follows .mixedOrders = true := by kernel_rfl
  clear hown hx hold hik hkk hG hROW hRs hRp hW1 hA1 hB1 hW2 hX1 hOb hcpA hcpB hB2 hdl hcells hgl hxl hg9 hsl hn a1 p1 s1 hz2'
  go_enter Try.func20, Try.ntmps20
  go_wp2_with (first
    | (at_builtin; refine Lib.wpList_append_run _ rfl _ _ _ _ rfl _ _ rfl rfl _ _ (hrz _) ?_)
    | (at_builtin; refine wpList_copy_runI _ rfl _ _ 22 22 rfl _ _ rfl rfl (hcpA1 _ _) ?_))
  go_region_law_o (refine step_copy_runI rfl _ _ 22 22 rfl (.slice (some ⟨g9, (i + 1) * 2, none⟩) (n + 1 - (i + 1)) (G - (i + 1))) (.slice (some ⟨g, i * 2, none⟩) (n - i) (cap - i)) (by simp [Act.eval, Act.put]) (by simp [Act.eval, Act.put]) (hcpB1 3 (G - (i + 1)) (cap - i)) ?_)
  go_wp2
  go_ret
  exact ⟨_, rfl, HFIN.out, HBF.out⟩

set_option maxHeartbeats 4000000 in
set_option maxRecDepth 100000 in
/-- Ahead of some, where there is room: in place. -/
theorem insertRoom_any (B g cap gx i : Nat) (L : List SP) (x : SP) (w : World) (hown : w.ownsRow B 24 2 (.slice (some ⟨g, 0, none⟩) L.length cap) L.length (spD L)) (hB : B ≤ w.heap.size) (hx : Arr w gx 24 #[.int .i64 x.p, .int .i64 x.n]) (hne : gx ≠ g) (hl : L.length ≤ 1000) (hi : i < L.length) (hcap : L.length + 1 ≤ cap) :
    Calls Try.prog 20 #[.slice (some ⟨g, 0, none⟩) L.length cap, .int .i64 (i : Int), .slice (some ⟨gx, 0, none⟩) 1 1] w fun e w' => ∃ v, e = .returned v ∧ w'.ownsRow B 24 2 v (L.length + 1) (spD (L.take i ++ x :: L.drop i)) ∧ Below B w w' := by
  have hinf := infoSpan
  have hu := Try.underlying22
  have hsl := spD_length L
  obtain ⟨cur, hA, hcs, hcm, hBg, hpre⟩ : ∃ cur, Arr w g 24 cur ∧ cur.size = cap * 2 ∧ cap ≤ maxLen ∧ B ≤ g ∧ ∀ j, j < L.length * 2 → cur[j]? = (spD L)[j]? := by
    rcases hown.2 with ⟨h1, _⟩ | ⟨g', cap', cur, h1, hb, hg, hnc, hcm, hcs, htk⟩
    · cases h1
    · injection h1 with h1 _ h3
      injection h1 with h1
      injection h1 with h1
      subst h1 h3
      exact ⟨cur, hg, hcs, hcm, hb, fun j hj => by rw [← htk, List.getElem?_take_of_lt hj, Array.getElem?_toList]⟩
  obtain ⟨n, hn⟩ : ∃ n, n = L.length := ⟨_, rfl⟩
  have hdl : ((spD L).drop (i * 2)).length = (n - i) * 2 := by rw [List.length_drop, hsl]; omega
  have hcp1 : ∀ ty dc sc, (Builtin.copy_ #[22, 22] ty #[.slice (some ⟨g, (i + 1) * 2, none⟩) (n - i) dc, .slice (some ⟨g, i * 2, none⟩) (n + 1 - i) sc]).run Try.prog w.drew = .ok (goInt ((n - i : Nat) : Int)) (w.drew.setCells g ((i + 1) * 2) ((spD L).drop (i * 2))) := fun ty dc sc =>
    run_copy_many w.drew _ _ ty 24 g ((i + 1) * 2) (n - i) dc ⟨g, i * 2, none⟩ (n + 1 - i) sc 2 (n - i) ((spD L).drop (i * 2)) hu hinf (by simp only [Nat.min_def]; split <;> omega) hdl
      (fun j v hj => by
        rw [Addr.add_lit]
        show w.cell? _ = _
        rw [List.getElem?_drop] at hj
        have hlt := (List.getElem?_eq_some_iff.1 hj).1
        rw [hA.cell, hpre _ (by omega)]; exact hj)
      (fun j hj => by
        rw [hdl] at hj
        show (w.cell? _).isSome = true
        rw [hA.cell, Array.getElem?_eq_getElem (by omega)]; rfl)
      (fun j hj => hA.frozen _) (fun v hv => spD_cells L v (List.mem_of_mem_drop hv))
  have hAd : Arr w.drew g 24 cur := hA
  obtain ⟨c1, a1, s1, p1⟩ := arr_setCells ((spD L).drop (i * 2)) ((i + 1) * 2) hAd (by rw [hdl]; omega)
  obtain ⟨W2, hW2⟩ : ∃ W2, W2 = w.drew.setCells g ((i + 1) * 2) ((spD L).drop (i * 2)) := ⟨_, rfl⟩
  have hg2 : w.grownBy W2 (some g) := by rw [hW2]; exact World.grownBy.trans (gr_below (r := some g) ((Below.refl _ w).drew)) (gr_cells _ _ w.drew g)
  rw [← hW2] at a1 hcp1
  have hX2 : Arr W2 gx 24 #[.int .i64 x.p, .int .i64 x.n] := hx.gr hg2 (by intro e; injection e with e; exact hne e)
  have hcp2 : ∀ ty dc, (Builtin.copy_ #[22, 22] ty #[.slice (some ⟨g, i * 2, none⟩) (n + 1 - i) dc, .slice (some ⟨gx, 0, none⟩) 1 1]).run Try.prog W2 = .ok (goInt 1) (W2.setCells g (i * 2) [.int .i64 x.p, .int .i64 x.n]) := fun ty dc =>
    run_copy_many W2 _ _ ty 24 g (i * 2) (n + 1 - i) dc ⟨gx, 0, none⟩ 1 1 2 1 [.int .i64 x.p, .int .i64 x.n] hu hinf (by simp only [Nat.min_def]; split <;> omega) rfl
      (fun j v hj => by rw [Addr.add_lit, Nat.zero_add, hX2.cell]; simpa using hj)
      (fun j hj => by
        have hj : j < 2 := hj
        rw [a1.cell, Array.getElem?_eq_getElem (by omega)]; rfl) (fun j hj => a1.frozen _) (spD_cells [x])
  have hov : ∀ lb cb, (callFunc 28 #[.slice (some ⟨gx, 0, none⟩) 1 1, .slice (some ⟨g, (i + 1) * 2, none⟩) lb cb]).run Try.prog w = .ok (.value (.bool false)) w := fun lb cb => by
    rw [run_callFunc_extern Try.func28 (by kernel_rfl) (by kernel_rfl) (by kernel_rfl) (e := Extern.SlicesOverlaps.overlaps #[22, 22] #[4]) (by kernel_rfl),
      Lib.run_overlaps_apart w 22 4 24 hu 2 Try.sizeOf24 ⟨gx, 0, none⟩ ⟨g, (i + 1) * 2, none⟩ 1 1 lb cb hne 24 24 2 cur.size (by unfold World.shape?; rw [show w.heap[gx]? = _ from hx]; rfl) (by unfold World.shape?; rw [show w.heap[g]? = _ from hA]) (by omega) (hx.frozen _) (hx.frozen _)]
    rfl
  have HFIN : Hid ((W2.setCells g (i * 2) [.int .i64 x.p, .int .i64 x.n]).ownsRow B 24 2 (.slice (some ⟨g, 0, none⟩) (n + 1) cap) (n + 1) (spD (L.take i ++ x :: L.drop i))) := by
    have := (ins_row (B := B) (cap := cap) (i := i) (L := L) (x := x) hAd hcs hcap hcm hBg (by omega) (fun j hj => hpre j (by omega))).2
    rw [← hW2, ← hn] at this
    exact this
  have HBF : Hid (Below B w (W2.setCells g (i * 2) [.int .i64 x.p, .int .i64 x.n])) := (own_below hg2 hBg hB).trans (own_below (gr_cells _ _ W2 g) hBg (by have := hg2.size; omega))
  generalize (spD L).drop (i * 2) = DR at *
  generalize spD (L.take i ++ x :: L.drop i) = XS at *
  rw [← hn] at hl hi hcap ⊢
  have hcm' : cap ≤ 9223372036854775807 := by unfold maxLen at hcm; omega
  have hci : ¬ (cap = i) := by omega
  have hci1 : ¬ (cap = i + 1) := by omega
  have hni : ¬ ((i : Int) = (n : Int)) := by omega
  have hw1 : IntKind.i64.wrap ((i : Int) + 1) = (i : Int) + 1 := IntWalk.i64_in _ (by omega)
  have hw2 : IntKind.i64.wrap ((n : Int) + 1) = (n : Int) + 1 := IntWalk.i64_in _ (by omega)
  have hb1 : (0 : Int) ≤ (i : Int) + 1 := by omega
  have hb2 : (0 : Int) ≤ (n : Int) + 1 := by omega
  have htn : ((i : Int) + 1).toNat = i + 1 := by omega
  have htn2 : ((n : Int) + 1).toNat = n + 1 := by omega
  have hb3 : (i : Int) ≤ (n : Int) := by omega
  have hb4 : (n : Int) + 1 ≤ (cap : Int) := by omega
  have hb5 : (i : Int) ≤ (n : Int) + 1 := by omega
  have hb6 : (i : Int) + 1 ≤ (n : Int) + 1 := by omega
  have hz3' : ¬ ((cap : Int) < (n : Int) + 1) := by omega
  have mixed : Try.prog.follows .mixedOrders = true := by kernel_rfl
  clear hown hx hA hAd hcs hcm hBg hpre hdl hW2 hg2 hX2 a1 p1 s1 hsl hn
  go_enter Try.func20, Try.ntmps20
  go_wp2_with (simp only [hov])
  go_region_law_o (refine step_copy_runI rfl _ _ 22 22 rfl _ _ (by simp [Act.eval, Act.put]) (by simp [Act.eval, Act.put]) (hcp1 _ _ _) ?_)
  go_wp2_with (at_builtin; refine wpList_copy_runI _ rfl _ _ 22 22 rfl _ _ rfl rfl (hcp2 _ _) ?_)
  go_ret
  exact ⟨_, rfl, HFIN.out, HBF.out⟩

/-- Anywhere. -/
theorem insert_any (B : Nat) (A : Option Addr) (cap gx i : Nat) (L : List SP) (x : SP) (w : World) (hown : w.ownsRow B 24 2 (.slice A L.length cap) L.length (spD L)) (hB : B ≤ w.heap.size) (hx : Arr w gx 24 #[.int .i64 x.p, .int .i64 x.n]) (hne : A ≠ some ⟨gx, 0, none⟩) (hl : L.length ≤ 1000) (hi : i ≤ L.length) :
    Calls Try.prog 20 #[.slice A L.length cap, .int .i64 (i : Int), .slice (some ⟨gx, 0, none⟩) 1 1] w fun e w' => ∃ v, e = .returned v ∧ w'.ownsRow B 24 2 v (L.length + 1) (spD (L.take i ++ x :: L.drop i)) ∧ Below B w w' := by
  by_cases he : i = L.length
  · subst he
    have := insertEnd_any B A cap gx L x w hown hB hx hl
    rw [ins_end] at this
    exact this
  · obtain ⟨g, rfl⟩ : ∃ g, A = some ⟨g, 0, none⟩ := by
      rcases hown.2 with ⟨_, hz⟩ | ⟨g0, cap', cur, h1, _⟩
      · omega
      · injection h1 with h1 _ _
        exact ⟨g0, h1⟩
    by_cases hc : cap < L.length + 1
    · exact insertGrow_any B g cap gx i L x w hown hB hx hl (by omega) hc
    · exact insertRoom_any B g cap gx i L x w hown hB hx (fun e => hne (by rw [e])) hl (by omega) (by omega)
end Go.Proofs.Ytgfblcfleohdjaa
