/- Append of one element, laid in a block of its own, in a region that draws its order: where the new slice lies; cells stored into a row of one's own. Conditions: fewer than 2^47 bytes. -/
import Derived.Test.YtgfdbmbgldeljaaGreatMg15
import Derived.Laws.OwnMore
import Derived.Deep.AppendLies
import Derived.Deep.RegionHeld3
import Derived.Deep.DeepCutAuto
import Derived.Test.YtgfdbmbgldeljaaGreatMg6
import Derived.Test.YtgfdbmbgldeljaaGreatMg1
import Derived.ChangeArms
namespace Go.Proofs.YtgfdbmbgldeljaaGreat
open Go.RowKit

section
variable {P : Program} {ops : Array Oper} {o : Oper} {a : Act} {Q : Exit → Act → World → Prop} {w : World}
theorem step_append_at {K : Act → World → Prop} {E : Prop} (hgd : o.guard = none) (s y : Operand) (t : TypeId) (ho : o.op = .call { callee := .builtin .append, args := #[s, y], argTypes := #[t, t] })
    (e size bytes : Nat) (hel : Hid (ElemN P t e size bytes)) (B : Nat) (v : Value) (n : Nat) (xs : List Value) (hs : a.eval s = v) (hown : w.ownsRow B e size v n xs) (b : Nat) (cs : Array Value) (hA : Arr w b e cs) (hcs : cs.size = size) (h1 : ∀ u ∈ cs.toList, u.oneCell' = true)
    (hx : a.eval y = .slice (some ⟨b, 0, none⟩) 1 1) (hm : n + 1 ≤ maxLen) (hb : (n + 1) * bytes ≤ 140737488355328) (hB : B ≤ w.heap.size)
    (h : ∀ g cap w', w'.ownsRow B e size (.slice (some ⟨g, 0, none⟩) (n + 1) cap) (n + 1) (xs ++ cs.toList) → w.grownBy w' v.ownBlock → (v.ownBlock = some g ∨ g = w.heap.size) → g < w'.heap.size → K (a.put o.dst (.slice (some ⟨g, 0, none⟩) (n + 1) cap)) w') : if Region.wanted o (yielded ops a.tmps) = true then Oper.wp P o a w K Q else E := by
  obtain ⟨h0, i, z, hi, hz0, hz1, hz2, hz3, hz4⟩ := hel.out
  exact step_append_lies w hgd s y t ho B e i z size bytes h0 hi hz0 hz1 hz2 hz3 hz4 v n xs hs hown ⟨b, 0, none⟩ 1 1 cs.toList hx (by rw [Array.length_toList, hcs, Nat.one_mul]) (World.news_of_block hA) h1 (by decide) hm hb hB _ rfl h
end
/-- Where it lies, as a footprint. -/
theorem ownS_lies {w : World} {v : Value} {g n cap : Nat} (h : v.ownBlock = some g ∨ g = w.heap.size) : ∀ k, ownS (.slice (some ⟨g, 0, none⟩) n cap) k → ownS v k ∨ w.heap.size ≤ k := fun k hk => by
  injection hk with hk
  subst hk
  rcases h with h | h
  · exact .inl h
  · exact .inr (Nat.le_of_eq h.symm)
theorem set_three (l : List Value) (a b c x y z : Value) (n : Nat) (hn : n = l.length) : (((l ++ [a, b, c]).set n x).set (n + 1) y).set (n + 2) z = l ++ [x, y, z] := by
  subst hn
  rw [List.set_append_right _ _ (Nat.le_refl _), List.set_append_right _ _ (by omega), List.set_append_right _ _ (by omega)]
  simp
theorem set_one (l : List Value) (a b c x : Value) (n : Nat) (hn : n = l.length) : (l ++ [a, b, c]).set (n + 1) x = l ++ [a, x, c] := by
  subst hn
  rw [List.set_append_right _ _ (by omega)]
  simp
theorem set_two (l : List Value) (a b c x : Value) (n : Nat) (hn : n = l.length) : (l ++ [a, b, c]).set (n + 2) x = l ++ [a, b, x] := by
  subst hn
  rw [List.set_append_right _ _ (by omega)]
  simp
/-- Three cells are stored into a row of one's own. -/
theorem row_three {w : World} {base e size g n cap : Nat} {xs ys : List Value} (h : w.ownsRow base e size (.slice (some ⟨g, 0, none⟩) n cap) n xs) (j : Nat) (x y z : Value) (hs : ((xs.set j x).set (j + 1) y).set (j + 2) z = ys) :
    (((w.setCell ⟨g, j, none⟩ x).setCell ⟨g, j + 1, none⟩ y).setCell ⟨g, j + 2, none⟩ z).ownsRow base e size (.slice (some ⟨g, 0, none⟩) n cap) n ys ∧ w.grownBy (((w.setCell ⟨g, j, none⟩ x).setCell ⟨g, j + 1, none⟩ y).setCell ⟨g, j + 2, none⟩ z) (some g) := by
  have h1 := h.stored j x
  have h2 := h1.1.stored (j + 1) y
  have h3 := h2.1.stored (j + 2) z
  subst hs
  exact ⟨h3.1, World.grownBy.trans h1.2 (World.grownBy.trans h2.2 h3.2)⟩
end Go.Proofs.YtgfdbmbgldeljaaGreat

/- The document's Reserve of layer 14; spans in a slice of the call's own. Conditions: strings of at most 2^40 bytes. -/
namespace Go.Proofs.YtgfdbmbgldeljaaGreat
open Go.RowKit

/-- Spans as the cells of a slice. -/
def spD (L : List SP) : List Value := L.flatMap fun x => [.int .i64 x.p, .int .i64 x.n]
theorem spD_length (L : List SP) : (spD L).length = L.length * 2 := by
  unfold spD
  induction L with
  | nil => rfl
  | cons x R ih => simp only [List.flatMap_cons, List.length_append, List.length_cons, List.length_nil, ih]; omega
theorem spD_get (R : List SP) {k : Nat} (hk : k < R.length) : (spD R)[k * 2]? = some (.int .i64 (R.getD k sp0).p) ∧ (spD R)[k * 2 + 1]? = some (.int .i64 (R.getD k sp0).n) := by
  induction R generalizing k with
  | nil => simp at hk
  | cons x R ih =>
    have e : spD (x :: R) = .int .i64 x.p :: .int .i64 x.n :: spD R := rfl
    cases k with
    | zero => exact ⟨rfl, rfl⟩
    | succ k =>
      obtain ⟨h1, h2⟩ := ih (k := k) (by simpa using hk)
      rw [e, show (k + 1) * 2 = k * 2 + 2 by omega]
      exact ⟨by simpa using h1, by simpa using h2⟩
theorem spD_app (L : List SP) (a b : Int) : spD (L ++ [⟨a, b⟩]) = spD L ++ [.int .i64 a, .int .i64 b] := by
  unfold spD
  rw [List.flatMap_append]
  rfl
/-- Where spans lie: in no block below B. -/
def SpFar (B : Nat) (A : Option Addr) (L : List SP) : Prop := L = [] ∨ ∃ b off, A = some ⟨b, off, none⟩ ∧ B ≤ b
/-- A slice of the call's own that holds spans reads as them. -/
theorem own_spD {w : World} {B : Nat} {v : Value} {R : List SP} (h : w.ownsRow B 41 2 v R.length (spD R)) : ∃ A cap, v = .slice A R.length cap ∧ RdSp w A R ∧ SpFar B A R := by
  have hlt := h.lt
  rcases h.2 with ⟨rfl, hz⟩ | ⟨b, cap, cur, rfl, _, hg, _, _, _, hx⟩
  · have hR : R = [] := List.length_eq_zero_iff.1 hz
    subst hR
    exact ⟨none, 0, rfl, .inl rfl, .inl rfl⟩
  · refine ⟨_, cap, rfl, .inr ⟨b, 0, rfl, fun k hk => ?_⟩, .inr ⟨b, 0, rfl, (hlt b rfl).1⟩⟩
    obtain ⟨h1, h2⟩ := spD_get R hk
    have e : ∀ j, j < R.length * 2 → cur[j]? = (spD R)[j]? := fun j hj => by
      rw [← hx, List.getElem?_take_of_lt hj, Array.getElem?_toList]
    refine ⟨?_, ?_⟩
    · rw [Nat.zero_add, cell_of_row w b _ cur _ (0, 0) hg, e _ (by omega), h1]
    · rw [Nat.zero_add, cell_of_row w b _ cur _ (0, 0) hg, e _ (by omega), h2]
theorem elemSpD : ElemN Tryz.prog 26 41 2 16 := elemN_mk (z := .agg #[.int .i64 0, .int .i64 0]) Tryz.underlying26 (by kernel_rfl) rfl (by decide)
theorem extk_list (s : ByteArray) (k n : Nat) : (s.extract k (k + n)).data.toList = (s.data.toList.drop k).take n := by
  have e : (s.extract k (k + n)).data = s.data.extract k (k + n) := ByteArray.data_extract
  rw [e, Array.toList_extract, List.extract_eq_take_drop, Nat.add_sub_cancel_left]
def resvI (k : Nat) (s : List UInt8) (x : Int) : List SP × Nat := if x < 0 then ([], 14) else resvR k (s.drop x.toNat)

end Go.Proofs.YtgfdbmbgldeljaaGreat

/- The document's Reserve of layer 15. Condition: a slice that reads as spans. -/
namespace Go.Proofs.YtgfdbmbgldeljaaGreat
open Go.RowKit

theorem okSp_no {x : SP} (h : x.p < 0 ∨ 4294967295 < x.p ∨ x.n < 0 ∨ 4294967295 < x.n ∨ (x.p = 0 ∧ x.n = 0)) : okSp x = false := by
  cases e : okSp x with
  | false => rfl
  | true => have := okSp_iff.1 e; omega
theorem spB_snoc : ∀ (l : List SP) (x : SP), spB (l ++ [x]) = spB l ++ bigs [0, x.p, 0, x.n] 4
  | [], x => by show bigs _ 4 ++ [] = [] ++ _; simp
  | y :: l, x => by
    show bigs _ 4 ++ spB (l ++ [x]) = (bigs _ 4 ++ spB l) ++ _
    rw [spB_snoc l x, List.append_assoc]
theorem spB_take (L : List SP) {k : Nat} (hk : k < L.length) {x : SP} (hx : L.getD k sp0 = x) : spB (L.take (k + 1)) = spB (L.take k) ++ bigs [0, x.p, 0, x.n] 4 := by
  have e : L.take (k + 1) = L.take k ++ [x] := by
    rw [List.take_succ_eq_append_getElem hk, ← hx, List.getD_eq_getElem?_getD, List.getElem?_eq_getElem hk]; rfl
  rw [e, spB_snoc]
theorem big4_any (a b c d : Int) (W : World) (g : Nat) (h : Arr W g 3 #[.int .i64 a, .int .i64 b, .int .i64 c, .int .i64 d]) :
    Calls Tryz.prog 28 #[.slice (some ⟨g, 0, none⟩) 4 4] W fun e w' => e = .returned (.string ⟨(bigs [a, b, c, d] 4).toArray⟩) ∧ Below W.heap.size W w' := by
  refine refbigs_any (some ⟨g, 0, none⟩) 4 [a, b, c, d] W (by show (4 : Nat) ≤ 1099511627776; decide) (.inr ⟨g, 0, rfl, h.lt, fun j hj => ?_⟩)
  rw [Nat.zero_add]
  match j, hj with
  | 0, _ => exact h.cell 0
  | 1, _ => exact h.cell 1
  | 2, _ => exact h.cell 2
  | 3, _ => exact h.cell 3

set_option maxHeartbeats 3200000 in
set_option maxRecDepth 100000 in
theorem rResP_any (A : Option Addr) (cap : Nat) (L : List SP) (w : World) (hr : RdSp w A L) (hl : L.length ≤ maxLen) :
    Calls Tryz.prog 9 #[.slice A L.length cap] w fun e w' => e = .returned (.tuple #[.string ⟨(resP L).1.toArray⟩, .int .i64 ((resP L).2 : Int)]) ∧ Below w.heap.size w w' := by
  unfold maxLen at hl
  have HR := Lib.hid hr
  have HB0 : Hid (Below w.heap.size w w) := Below.refl _ _
  by_cases h16 : 16 < L.length
  · have d1 : decide ((16 : Int) < (L.length : Int)) = true := decide_eq_true (by omega)
    have HE : Hid (resP L = ([], 7)) := if_pos h16
    generalize resP L = R at *
    clear hr
    go_enter Tryz.func9, Tryz.ntmps9
    go_wp2
    go_ret2
    exact ⟨by rw [HE.out]; rfl, HB0.out⟩
  · have d1 : decide ((16 : Int) < (L.length : Int)) = false := decide_eq_false (by omega)
    have hl16 : L.length ≤ 16 := by omega
    have HBAD : Hid (∀ k, k < L.length → okSp (L.getD k sp0) = false → resP L = ([], 1)) := fun k hk h => by
      refine (if_neg h16).trans (if_neg fun ha => ?_)
      have := List.all_eq_true.1 ha (L.getD k sp0) (by rw [List.getD_eq_getElem?_getD, List.getElem?_eq_getElem hk]; exact List.getElem_mem _)
      rw [h] at this; cases this
    have HALL : Hid ((∀ k, k < L.length → okSp (L.getD k sp0) = true) → resP L = (spB L ++ endB, 0)) := fun h => by
      refine (if_neg h16).trans (if_pos (List.all_eq_true.2 fun x hx => ?_))
      obtain ⟨k, hk, rfl⟩ := List.getElem_of_mem hx
      have := h k hk
      rwa [List.getD_eq_getElem?_getD, List.getElem?_eq_getElem hk] at this
    have HTK := Lib.hid (fun k (hk : k < L.length) x (hx : L.getD k sp0 = x) => spB_take L hk hx)
    have HLN : Hid (∀ k, (spB (L.take k)).length ≤ 256) := fun k => by rw [spB_len, List.length_take]; omega
    have HTA : Hid (spB (L.take L.length) = spB L) := by unfold Hid; rw [List.take_length]
    generalize resP L = R at *
    clear hr h16
    go_enter Tryz.func9, Tryz.ntmps9
    go_wp2
    go_loopw [4, 5] (fun s i wr => ∃ k : Nat, k ≤ L.length ∧ i = .int .i64 k ∧ s = .string ⟨(spB (L.take k)).toArray⟩ ∧ Hid (∀ j, j < k → okSp (L.getD j sp0) = true) ∧ Below w.heap.size w wr) (fun _ i _ => L.length - (intOf i).toNat)
    case atStart => exact ⟨0, Nat.zero_le _, rfl, rfl, fun j hj => absurd hj (Nat.not_lt_zero _), HB0.out⟩
    case round =>
      clear HB0
      obtain ⟨k, hk, rfl, rfl, HOK, hb⟩ := hrel
      have HB := Lib.hid hb
      have hsw := hb.size
      clear hb
      by_cases hlt : k < L.length
      · have hki : (k : Int) < L.length := by omega
        have hk0 : (0 : Int) ≤ k := by omega
        obtain ⟨b, off, x, rfl, ⟨c0, c1⟩, HX⟩ := (HR.out.below HB.out).at_ hlt
        have HS0 := Lib.hid (HTK.out k hlt x HX.out)
        have hbad := HBAD.out k hlt
        rw [HX.out] at hbad
        have HBAD := Lib.hid hbad
        have HNX : Hid (okSp x = true → ∀ j, j < k + 1 → okSp (L.getD j sp0) = true) := fun h j hj => by
          by_cases e : j = k
          · subst e; rw [HX.out]; exact h
          · exact HOK.out j (by omega)
        have HL0 := Lib.hid (HLN.out k)
        obtain ⟨p, n⟩ := x
        simp only at c0 c1 HS0
        have HBG := Lib.hid (fun W g h => big4_any 0 p 0 n W g h)
        have HA1 : Hid (∀ W, (Op.stringOp .add ⟨(spB (L.take k)).toArray⟩ ⟨(bigs [0, p, 0, n] 4).toArray⟩).run Tryz.prog W = .ok (.string ⟨(spB (L.take (k + 1))).toArray⟩) W) := fun W => by
          rw [run_string_add_sum W _ _ (by rw [size_mk, size_mk, four_len]; have := HL0.out; omega), ByteArray.mk_append_mk, HS0.out]
        clear hbad HX HOK HS0 HL0 HTK HLN HALL HTA
        generalize (⟨(spB (L.take k)).toArray⟩ : ByteArray) = S0 at *
        generalize hS1 : (⟨(spB (L.take (k + 1))).toArray⟩ : ByteArray) = S1 at *
        have HS1 := Lib.hid hS1
        clear hS1
        generalize (⟨(bigs [0, p, 0, n] 4).toArray⟩ : ByteArray) = SB at *
        have hba : Below w.heap.size w (wr.alloc (.cells #[.int .i64 p, .int .i64 n] 41)) := HB.out.alloc hsw _
        have HB1 := Lib.hid hba
        have hA := Arr.new wr 41 #[.int .i64 p, .int .i64 n]
        have x0 : (wr.alloc (.cells #[.int .i64 p, .int .i64 n] 41)).cell? ⟨wr.heap.size, 0, none⟩ = some (.int .i64 p) := hA.cell 0
        have x1 : (wr.alloc (.cells #[.int .i64 p, .int .i64 n] 41)).cell? ⟨wr.heap.size, 1, none⟩ = some (.int .i64 n) := hA.cell 1
        have hz1 := hba.size
        clear hba hA HB
        go_upto_region 8 with fail
        generalize wr.alloc (.cells #[.int .i64 p, .int .i64 n] 41) = W1 at *
        generalize wr.heap.size = g6 at *
        clear c0 c1
        by_cases g0 : p < 0
        · have f0 : decide (p < 0) = true := decide_eq_true g0
          have HE := Lib.hid (HBAD.out (okSp_no (by simp only; omega)))
          clear HBAD HNX HS1 HA1 HBG g0
          go_wp2
          go_ret2
          exact ⟨by rw [HE.out]; rfl, HB1.out⟩
        · have f0 : decide (p < 0) = false := decide_eq_false g0
          by_cases g1 : 4294967295 < p
          · have f1 : decide (4294967295 < p) = true := decide_eq_true g1
            have HE := Lib.hid (HBAD.out (okSp_no (by simp only; omega)))
            clear HBAD HNX HS1 HA1 HBG g0 g1
            go_wp2
            go_ret2
            exact ⟨by rw [HE.out]; rfl, HB1.out⟩
          · have f1 : decide (4294967295 < p) = false := decide_eq_false g1
            by_cases g2 : n < 0
            · have f2 : decide (n < 0) = true := decide_eq_true g2
              have HE := Lib.hid (HBAD.out (okSp_no (by simp only; omega)))
              clear HBAD HNX HS1 HA1 HBG g0 g1 g2
              go_wp2
              go_ret2
              exact ⟨by rw [HE.out]; rfl, HB1.out⟩
            · have f2 : decide (n < 0) = false := decide_eq_false g2
              by_cases g3 : 4294967295 < n
              · have f3 : decide (4294967295 < n) = true := decide_eq_true g3
                have HE := Lib.hid (HBAD.out (okSp_no (by simp only; omega)))
                clear HBAD HNX HS1 HA1 HBG g0 g1 g2 g3
                go_wp2
                go_ret2
                exact ⟨by rw [HE.out]; rfl, HB1.out⟩
              · have f3 : decide (4294967295 < n) = false := decide_eq_false g3
                by_cases g4 : p = 0
                · have f4 : (p == 0) = true := by rw [g4]; rfl
                  by_cases g5 : n = 0
                  · have f5 : (n == 0) = true := by rw [g5]; rfl
                    have HE := Lib.hid (HBAD.out (okSp_no (by simp only; omega)))
                    clear HBAD HNX HS1 HA1 HBG g0 g1 g2 g3 g4 g5
                    go_wp2
                    go_ret2
                    exact ⟨by rw [HE.out]; rfl, HB1.out⟩
                  · have f5 : (n == 0) = false := by simpa using g5
                    have HN2 := Lib.hid (HNX.out (okSp_iff.2 (by simp only; omega)))
                    have a1 := HA1.out
                    clear HBAD HNX HA1 g0 g1 g2 g3 g4 g5
                    go_wp2_with fail
                    refine (HBG.out _ _ (Arr.new _ _ _)).mono ?_
                    rintro e w2 ⟨rfl, hb⟩
                    have hb1 := HB1.out.alloc hz1 (.cells #[.int .i64 0, .int .i64 p, .int .i64 0, .int .i64 n] 3)
                    have HB2 := Lib.hid (hb1.trans (hb.mono hb1.size))
                    clear hb hb1 HBG
                    go_wp2
                    go_roundw
                    case rel => exact ⟨k + 1, by omega, by go_num, by rw [HS1.out], HN2.out, HB2.out⟩
                    case measure => simp [intOf]; omega
                · have f4 : (p == 0) = false := by simpa using g4
                  have HN2 := Lib.hid (HNX.out (okSp_iff.2 (by simp only; omega)))
                  have a1 := HA1.out
                  clear HBAD HNX HA1 g0 g1 g2 g3 g4
                  go_wp2_with fail
                  refine (HBG.out _ _ (Arr.new _ _ _)).mono ?_
                  rintro e w2 ⟨rfl, hb⟩
                  have hb1 := HB1.out.alloc hz1 (.cells #[.int .i64 0, .int .i64 p, .int .i64 0, .int .i64 n] 3)
                  have HB2 := Lib.hid (hb1.trans (hb.mono hb1.size))
                  clear hb hb1 HBG
                  go_wp2
                  go_roundw
                  case rel => exact ⟨k + 1, by omega, by go_num, by rw [HS1.out], HN2.out, HB2.out⟩
                  case measure => simp [intOf]; omega
      · obtain rfl : k = L.length := by omega
        have HE := Lib.hid (HALL.out HOK.out)
        have HBG := Lib.hid (fun W g h => big4_any 0 0 0 0 W g h)
        have HL0 := Lib.hid (HLN.out L.length)
        have a1 : ∀ W, (Op.stringOp .add ⟨(spB (L.take L.length)).toArray⟩ ⟨(bigs [0, 0, 0, 0] 4).toArray⟩).run Tryz.prog W = .ok (.string ⟨(spB L ++ endB).toArray⟩) W := fun W => by
          rw [run_string_add_sum W _ _ (by rw [size_mk, size_mk, four_len]; have := HL0.out; omega), ByteArray.mk_append_mk, HTA.out]
          rfl
        clear HBAD HALL HTK HLN HTA HOK HL0
        generalize (⟨(spB (L.take L.length)).toArray⟩ : ByteArray) = S0 at *
        generalize (⟨(bigs [0, 0, 0, 0] 4).toArray⟩ : ByteArray) = SB at *
        generalize hS1 : (⟨(spB L ++ endB).toArray⟩ : ByteArray) = S1 at *
        have HS1 := Lib.hid hS1
        clear hS1
        go_wp2_with fail
        refine (HBG.out _ _ (Arr.new _ _ _)).mono ?_
        rintro e w2 ⟨rfl, hb⟩
        have hb1 := HB.out.alloc hsw (.cells #[.int .i64 0, .int .i64 0, .int .i64 0, .int .i64 0] 3)
        have HB2 := Lib.hid (hb1.trans (hb.mono hb1.size))
        clear hb hb1 HBG
        go_wp2
        go_ret2
        exact ⟨by rw [HE.out, ← HS1.out]; rfl, HB2.out⟩
end Go.Proofs.YtgfdbmbgldeljaaGreat

/- The document's answers for layer 11: whether a header is valid, Put, Read, Part. Conditions: numbers of 64 bits; strings of at most 2^40 bytes. -/
namespace Go.Proofs.YtgfdbmbgldeljaaGreat
open Go.RowKit

/-- Numbers of 64 bits. -/
def in64 (x : Int) : Prop := -9223372036854775808 ≤ x ∧ x < 9223372036854775808

set_option maxHeartbeats 1600000 in
set_option maxRecDepth 100000 in
theorem rmayH_any (h : HD) (w : World) (ht : in64 h.tot) :
    Calls Tryz.prog 51 #[.agg (hdC h)] w fun e w' => e = .returned (.bool (mayH h)) ∧ Below w.heap.size w w' := by
  obtain ⟨tt, st, sg, rv, bo, tx, sz⟩ := h
  show Calls _ _ #[.agg #[.int .i64 tt, .int .i64 st, .int .i64 sg, .int .i64 rv, .int .i64 bo, .int .i64 tx, .int .i64 sz]] _ _
  have HT : Hid (in64 tt) := ht
  clear ht
  go_enter Tryz.func51, Tryz.ntmps51
  go_wp2
  all_goals
    go_ret
    refine ⟨congrArg (fun b => Ending.returned (.bool b)) ?_, (Below.refl _ _).alloc (Nat.le_refl _) _⟩
    obtain ⟨t1, t2⟩ := HT.out
    unfold mayH
    simp only [wrap64, bne_eq_false_iff_eq, bne_iff_ne, ne_eq] at *
    first | (symm; apply decide_eq_false; omega) | (symm; apply decide_eq_true; omega) | (apply decide_eq_decide.2; omega)
end Go.Proofs.YtgfdbmbgldeljaaGreat
