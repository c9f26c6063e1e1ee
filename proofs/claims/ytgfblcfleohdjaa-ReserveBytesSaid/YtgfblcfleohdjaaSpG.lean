/- slices.DeleteFunc of spans that lie in a slice of the call's own. Conditions: a function value that tells of each span what f says and changes nothing that was there; at most 1000 spans. -/
import Derived.Test.YtgfblcfleohdjaaSpF
import Derived.Test.YtgfblcfleohdjaaEdK
import Derived.Deep.MidRow
namespace Go.Proofs.Ytgfblcfleohdjaa
open Go.RowKit

theorem take_set_succ {R : List SP} {i : Nat} (h : i < R.length) (y : SP) : (R.set i y).take (i + 1) = R.take i ++ [y] := by
  apply List.ext_getElem?
  intro j
  by_cases h1 : j < i
  · rw [List.getElem?_take_of_lt (by omega), List.getElem?_set_ne (by omega), List.getElem?_append_left (by rw [List.length_take]; omega), List.getElem?_take_of_lt h1]
  · by_cases h2 : j = i
    · subst h2
      rw [List.getElem?_take_of_lt (by omega), List.getElem?_set_self h, List.getElem?_append_right (by rw [List.length_take]; omega), List.length_take, Nat.min_eq_left (by omega), Nat.sub_self]; rfl
    · rw [List.getElem?_eq_none (by rw [List.length_take]; omega), List.getElem?_eq_none (by rw [List.length_append, List.length_take]; simp only [List.length_cons, List.length_nil]; omega)]
theorem drop_set_lt {R : List SP} {i j : Nat} (h : i < j) (y : SP) : (R.set i y).drop j = R.drop j := by
  apply List.ext_getElem?
  intro t
  rw [List.getElem?_drop, List.getElem?_drop, List.getElem?_set_ne (by omega)]
theorem take_getD {R : List SP} {i : Nat} (h : i < R.length) : R.take (i + 1) = R.take i ++ [R.getD i sp0] := by
  rw [List.take_succ_eq_append_getElem h, List.getD_eq_getElem?_getD, List.getElem?_eq_getElem h]; rfl
theorem spD_set : ∀ (R : List SP) (i : Nat) (y : SP), ((spD R).set (i * 2) (.int .i64 y.p)).set (i * 2 + 1) (.int .i64 y.n) = spD (R.set i y)
  | [], _, _ => rfl
  | _ :: _, 0, _ => rfl
  | x :: r, i + 1, y => by
    have e : spD (x :: r) = .int .i64 x.p :: .int .i64 x.n :: spD r := rfl
    rw [e, show (i + 1) * 2 = i * 2 + 1 + 1 by omega, List.set_cons_succ, List.set_cons_succ, List.set_cons_succ, List.set_cons_succ, spD_set r i y, List.set_cons_succ]; rfl
/-- What lies in the row while spans of which f is true are left out. -/
structure DelInv (f : SP → Bool) (L R : List SP) (i j : Nat) : Prop where
  len : R.length = L.length
  lt : i < j
  le : j ≤ L.length
  done : R.take i = (L.take j).filter fun x => !f x
  rest : R.drop j = L.drop j
theorem del_get {f : SP → Bool} {L R : List SP} {i j : Nat} (h : DelInv f L R i j) : R.getD j sp0 = L.getD j sp0 := by
  have e : (R.drop j)[0]? = (L.drop j)[0]? := by rw [h.rest]
  rw [List.getElem?_drop, List.getElem?_drop] at e
  rw [Nat.add_zero] at e
  rw [List.getD_eq_getElem?_getD, List.getD_eq_getElem?_getD, e]
theorem del_start {f : SP → Bool} {L : List SP} {k : Nat} (hk : k < L.length) (h1 : f (L.getD k sp0) = true) (h2 : ∀ j, j < k → f (L.getD j sp0) = false) : DelInv f L L k (k + 1) := by
  refine ⟨rfl, by omega, by omega, ?_, rfl⟩
  rw [take_getD hk, List.filter_append, List.filter_eq_self.2 (fun x hx => ?_), List.filter_cons, if_neg (by rw [h1]; decide), List.filter_nil, List.append_nil]
  obtain ⟨j, hj, rfl⟩ := List.mem_take_iff_getElem.1 hx
  have := h2 j (by omega)
  rw [List.getD_eq_getElem?_getD, List.getElem?_eq_getElem (by omega)] at this
  rw [show L[j] = (some L[j]).getD sp0 from rfl, this]; rfl
theorem del_skip {f : SP → Bool} {L R : List SP} {i j : Nat} (h : DelInv f L R i j) (hj : j < L.length) (hf : f (L.getD j sp0) = true) : DelInv f L R i (j + 1) := by
  refine ⟨h.len, by have := h.lt; omega, hj, ?_, ?_⟩
  · rw [take_getD hj, List.filter_append, List.filter_cons, if_neg (by rw [hf]; decide), List.filter_nil, List.append_nil]; exact h.done
  · rw [← List.drop_drop, ← List.drop_drop, h.rest]
theorem del_keep {f : SP → Bool} {L R : List SP} {i j : Nat} (h : DelInv f L R i j) (hj : j < L.length) (hf : f (L.getD j sp0) = false) : DelInv f L (R.set i (L.getD j sp0)) (i + 1) (j + 1) := by
  have h1 := h.lt
  have h2 := h.len
  refine ⟨by rw [List.length_set, h2], by omega, hj, ?_, ?_⟩
  · rw [take_set_succ (by omega), take_getD hj, List.filter_append, List.filter_cons, if_pos (by rw [hf]; decide), List.filter_nil, h.done]
  · rw [drop_set_lt (by omega), ← List.drop_drop, ← List.drop_drop, h.rest]
theorem del_end {f : SP → Bool} {L R : List SP} {i : Nat} (h : DelInv f L R i L.length) : R.take i = L.filter fun x => !f x := by rw [h.done, List.take_length]

/-- The first elements of a slice of one's own, the others being cleared. -/
theorem own_cut {w : World} {B e size n i g cap : Nat} {xs zs : List Value} (h : w.ownsRow B e size (.slice (some ⟨g, 0, none⟩) n cap) n xs) (hi : i ≤ n) (hz : zs.length = (n - i) * size) :
    (w.setCells g (i * size) zs).ownsRow B e size (.slice (some ⟨g, 0, none⟩) i cap) i (xs.take (i * size)) := by
  have hxl := h.1
  rcases h.2 with ⟨h1, _⟩ | ⟨g', cap', cur, h1, hb, hg, hnc, hcm, hcs, htk⟩
  · cases h1
  injection h1 with h1 _ h1c
  injection h1 with h1
  injection h1 with h1
  subst h1
  subst h1c
  have hin : i * size ≤ n * size := Nat.mul_le_mul_right size hi
  have hncs : n * size ≤ cap * size := Nat.mul_le_mul_right size hnc
  have hni : (n - i) * size = n * size - i * size := Nat.sub_mul _ _ _
  obtain ⟨c1, a1, s1, p1⟩ := arr_setCells zs (i * size) (show Arr w g e cur from hg) (by rw [hz, hcs]; omega)
  refine ⟨by rw [List.length_take, hxl]; omega, .inr ⟨g, cap, c1, rfl, hb, a1, by omega, hcm, by rw [s1, hcs], ?_⟩⟩
  apply List.ext_getElem?
  intro j
  by_cases hj : j < i * size
  · rw [List.getElem?_take_of_lt hj, List.getElem?_take_of_lt hj, Array.getElem?_toList, p1 j, if_neg (by omega), ← htk, List.getElem?_take_of_lt (by omega), Array.getElem?_toList]
  · rw [List.getElem?_eq_none (by rw [List.length_take]; omega), List.getElem?_eq_none (by rw [List.length_take]; omega)]
theorem zcellsN {z : Array Value} (h : ∀ u ∈ z.toList, u.oneCell' = true) (n : Nat) : (Builtin.zeroCells z n).toList.length = n * z.size ∧ ∀ u ∈ (Builtin.zeroCells z n).toList, u.oneCell' = true := by
  unfold Builtin.zeroCells
  refine ⟨by simp, fun u hu => ?_⟩
  rw [Array.toList_map] at hu
  obtain ⟨i, hi, rfl⟩ := List.mem_map.1 hu
  have hi : i < n * z.size := by simpa using hi
  have hz : 0 < z.size := by
    rcases Nat.eq_zero_or_pos z.size with e | e
    · rw [e] at hi; omega
    · exact e
  have hm := Nat.mod_lt i hz
  rw [getElem!_pos z (i % z.size) hm]
  exact h _ (Array.mem_toList_iff.2 (Array.getElem_mem hm))
set_option maxRecDepth 100000 in
theorem zeroSpan : ∃ i, Try.prog.info? 24 = some i ∧ i.zero = some (.agg #[.int .i64 0, .int .i64 0]) ∧ i.size = 2 ∧ i.bytes = 16 := by
  have e : (Try.prog.info? 24).map (fun i => (i.zero, i.size, i.bytes)) = some (some (.agg #[.int .i64 0, .int .i64 0]), 2, 16) := by kernel_rfl
  cases h : Try.prog.info? 24 with
  | none => rw [h] at e; cases e
  | some i =>
    rw [h, Option.map_some] at e
    injection e with e
    injection e with e1 e2
    injection e2 with e2 e3
    exact ⟨i, rfl, e1, e2, e3⟩
theorem zspan_one : ∀ u ∈ (#[.int .i64 0, .int .i64 0] : Array Value).toList, u.oneCell' = true := fun u hu => by
  simp at hu
  subst hu; rfl
/-- One span of a slice of one's own is stored into. -/
theorem own_put {w : World} {B g n cap i : Nat} {R : List SP} (h : w.ownsRow B 24 2 (.slice (some ⟨g, 0, none⟩) n cap) n (spD R)) (y : SP) :
    (w.setCells g (i * 2) [.int .i64 y.p, .int .i64 y.n]).ownsRow B 24 2 (.slice (some ⟨g, 0, none⟩) n cap) n (spD (R.set i y)) := by
  have := own_set (j := i * 2 + 1) (own_set (j := i * 2) h (.int .i64 y.p)) (.int .i64 y.n)
  rw [spD_set] at this
  exact this
theorem own_below {w w' : World} {B g : Nat} (hb : w.grownBy w' (some g)) (hg : B ≤ g) (hB : B ≤ w.heap.size) : Below B w w' := ⟨hb.os, hb.tape, hb.output, hb.size, fun k hk => hb.block k (by omega) (by intro e; injection e with e; omega)⟩
theorem own_there_cells {w : World} {B g n cap : Nat} {xs : List Value} (h : w.ownsRow B 24 2 (.slice (some ⟨g, 0, none⟩) n cap) n xs) (j : Nat) (hj : j < n * 2) : (w.cell? ⟨g, j, none⟩).isSome = true ∧ w.frozen? ⟨g, j, none⟩ = false := by
  refine ⟨?_, h.frozenAt _⟩
  rw [h.cellAt j hj, List.getElem?_eq_getElem (by rw [h.1]; exact hj)]; rfl
theorem own_there {w : World} {B g n cap i : Nat} {xs : List Value} (h : w.ownsRow B 24 2 (.slice (some ⟨g, 0, none⟩) n cap) n xs) (hi : i < n) : w.there g (i * 2) 2 := fun j hj => own_there_cells h _ (by omega)
theorem spD_tk : ∀ (R : List SP) (i : Nat), (spD R).take (i * 2) = spD (R.take i)
  | [], i => by rw [List.take_nil]; show List.take (i * 2) ([] : List Value) = []; exact List.take_nil
  | _ :: _, 0 => rfl
  | x :: r, i + 1 => by
    have e : spD (x :: r) = .int .i64 x.p :: .int .i64 x.n :: spD r := rfl
    rw [e, show (i + 1) * 2 = i * 2 + 1 + 1 by omega, List.take_succ_cons, List.take_succ_cons, spD_tk r i]; rfl
theorem infoSpan : (Try.prog.info? 24).map (·.size) = some 2 := by
  obtain ⟨i, h, _, h2, _⟩ := zeroSpan
  rw [h, Option.map_some, h2]

set_option maxHeartbeats 3200000 in
set_option maxRecDepth 100000 in
theorem deleteF_any (g : Nat) (lb : Array Value) (eg : ∀ args w, (callFunc g args).run Try.prog w = .ok (.enter g args) w) (f : SP → Bool) (B : Nat) (v : Value) (L : List SP) (w : World) (hown : w.ownsRow B 24 2 v L.length (spD L)) (hB : B ≤ w.heap.size) (hl : L.length ≤ 1000)
    (hp : ∀ (y : SP) (W : World), Calls Try.prog g (#[.agg #[.int .i64 y.p, .int .i64 y.n]] ++ lb) W fun e w' => e = .returned (.bool (f y)) ∧ Below W.heap.size W w') :
    Calls Try.prog 30 #[v, .func (.func g) #[] lb] w fun e w' => ∃ v', e = .returned v' ∧ w'.ownsRow B 24 2 v' (L.filter fun x => !f x).length (spD (L.filter fun x => !f x)) ∧ Below B w w' := by
  obtain ⟨A, cap, rfl, hrd, _⟩ := own_spD hown
  have HIX := Lib.hid (indexF_any g lb eg f A cap L w hrd (by omega) (fun y W _ => hp y W))
  have HOW := Lib.hid hown
  have HP := Lib.hid hp
  have HALL : Hid ((∀ j, j < L.length → f (L.getD j sp0) = false) → (L.filter fun x => !f x) = L) := fun h => List.filter_eq_self.2 fun x hx => by
    obtain ⟨j, hj, rfl⟩ := List.mem_iff_getElem.1 hx
    have := h j hj
    rw [List.getD_eq_getElem?_getD, List.getElem?_eq_getElem hj] at this
    rw [show L[j] = (some L[j]).getD sp0 from rfl, this]; rfl
  have HEND : Hid (∀ R i, DelInv f L R i L.length → R.take i = L.filter fun x => !f x) := fun R i h => del_end h
  generalize (L.filter fun x => !f x) = F at *
  clear hown hrd hp
  go_enter Try.func30, Try.ntmps30
  go_wp2_with fail
  refine HIX.out.mono ?_
  rintro e w1 ⟨⟨r, rfl, hr⟩, hb⟩
  have HB1 : Hid (Below B w w1) := hb.mono hB
  have HOW1 := Lib.hid (ow_below HOW.out hb)
  have hsz1 := hb.size
  clear hb HIX HOW
  rcases hr with ⟨rfl, hall⟩ | ⟨k, rfl, hk, hfk, hlt⟩
  · obtain rfl := HALL.out hall
    clear HALL HEND hall
    go_wp2
    go_ret
    exact ⟨_, rfl, HOW1.out, HB1.out⟩
  · have HI0 := Lib.hid (del_start hk hfk hlt)
    have hne : ((k : Int) == -1) = false := by rw [beq_eq_false_iff_ne]; omega
    have hne2 : ¬ ((k : Int) = -1) := by omega
    obtain ⟨g0, rfl, hg0, hcap⟩ : ∃ g0, A = some ⟨g0, 0, none⟩ ∧ B ≤ g0 ∧ L.length ≤ cap := by
      rcases HOW1.out.2 with ⟨_, hz⟩ | ⟨g0, cap', cur, h1, hb0, _, hnc, _⟩
      · omega
      · injection h1 with h1 _ h1c
        subst h1c
        exact ⟨g0, h1, hb0, hnc⟩
    clear HALL hfk hlt
    go_wp2
    go_loopw [5, 6] (fun iv jv wr => ∃ (i j : Nat) (R : List SP), iv = .int .i64 i ∧ jv = .int .i64 j ∧ Hid (DelInv f L R i j) ∧ wr.ownsRow B 24 2 (.slice (some ⟨g0, 0, none⟩) L.length cap) L.length (spD R) ∧ Below B w wr ∧ i < j ∧ j ≤ L.length ∧ B ≤ wr.heap.size) (fun _ jv _ => L.length - (intOf jv).toNat)
    case atStart => exact ⟨k, k + 1, L, rfl, by go_num, HI0.out, HOW1.out, HB1.out, by omega, by omega, by omega⟩
    case round =>
      obtain ⟨i, j, R, rfl, rfl, HI, hown, hbw, hij, hjn, hBr⟩ := hrel
      have HOWN := Lib.hid hown
      have HBW := Lib.hid hbw
      clear HI0 hown hbw HOW1 HB1
      by_cases hlt : j < L.length
      · have hji : (j : Int) < L.length := by omega
        have hii : (i : Int) < L.length := by omega
        have hj0 : (0 : Int) ≤ (j : Int) := by omega
        have hi0 : (0 : Int) ≤ (i : Int) := by omega
        have HRL : Hid (R.length = L.length) := HI.out.len
        obtain ⟨A', cap', e', hrd, _⟩ := own_spD (R := R) (by rw [HRL.out]; exact HOWN.out)
        rw [HRL.out] at e'
        injection e' with e1 _ e3
        subst e1 e3
        obtain ⟨b, off, y, e1, ⟨h1, h2⟩, HX⟩ := hrd.at_ (k := j) (by rw [HRL.out]; exact hlt)
        injection e1 with e1
        injection e1 with e1 e2 _
        subst e1 e2
        simp only [Nat.zero_add] at h1 h2
        have HY : Hid (L.getD j sp0 = y) := (del_get HI.out).symm.trans HX.out
        obtain ⟨W2, hW2⟩ : ∃ W2, W2 = wr.alloc (.cells #[.int .i64 y.p, .int .i64 y.n] 24) := ⟨_, rfl⟩
        obtain ⟨g7, hg7⟩ : ∃ g7, g7 = wr.heap.size := ⟨_, rfl⟩
        have hB2 : Below wr.heap.size wr W2 := by rw [hW2]; exact (Below.refl _ _).alloc (Nat.le_refl _) _
        have HA7 : Hid (Arr W2 g7 24 #[.int .i64 y.p, .int .i64 y.n]) := by rw [hW2, hg7]; exact Arr.new wr _ _
        have HO2 := Lib.hid (ow_below HOWN.out hB2)
        have HBW2 : Hid (Below B w W2) := HBW.out.trans (hB2.mono hBr)
        have hBr2 : B ≤ W2.heap.size := Nat.le_trans hBr hB2.size
        have HS1 : Hid (f y = true → DelInv f L R i (j + 1)) := fun h => del_skip HI.out hlt (by rw [HY.out]; exact h)
        have HS2 : Hid (f y = false → DelInv f L (R.set i y) (i + 1) (j + 1)) := fun h => by
          have := del_keep HI.out hlt (by rw [HY.out]; exact h)
          rw [HY.out] at this
          exact this
        have hcall := HP.out y W2
        generalize f y = fx at *
        clear hrd HX HY HI hB2
        go_upto_region 8 with fail
        rw [← hW2, ← hg7]
        clear hW2 hg7 h1 h2
        obtain ⟨c0, c1⟩ : W2.cell? ⟨g7, 0, none⟩ = some (.int .i64 y.p) ∧ W2.cell? ⟨g7, 1, none⟩ = some (.int .i64 y.n) := ⟨HA7.out.cell 0, HA7.out.cell 1⟩
        cases fx with
        | true =>
          have HN := Lib.hid (HS1.out rfl)
          clear HS1 HS2
          go_wp2_with (go_at_fn g; refine hcall.mono ?_; rintro e w3 ⟨rfl, hb'⟩; have HB3 := Lib.hid hb'; clear hb')
          go_roundw
          case rel => exact ⟨i, j + 1, R, rfl, by go_num, HN.out, ow_below HO2.out HB3.out, HBW2.out.trans (HB3.out.mono hBr2), by omega, by omega, Nat.le_trans hBr2 HB3.out.size⟩
          case measure => simp [intOf]; omega
        | false =>
          have HN := Lib.hid (HS2.out rfl)
          have hInf := infoSpan
          have HONE : Hid ((#[.int .i64 y.p, .int .i64 y.n] : Array Value).all (·.oneCell') = true) := all_oneCell_toArray (cs := [.int .i64 y.p, .int .i64 y.n]) (spD_cells [y])
          have HC7 : Hid (∀ W, Below W2.heap.size W2 W → W.cell? ⟨g7, 0, none⟩ = some (.int .i64 y.p) ∧ W.cell? ⟨g7, 1, none⟩ = some (.int .i64 y.n)) := fun W h => ⟨(HA7.out.below h HA7.out.lt).cell 0, (HA7.out.below h HA7.out.lt).cell 1⟩
          have HT3 : Hid (∀ W, Below W2.heap.size W2 W → W.there g0 (i * 2) 2) := fun W h => own_there (ow_below HO2.out h) (by omega)
          clear HS1 HS2
          go_wp2_with (first
            | (go_at_fn g; refine hcall.mono ?_; rintro e w3 ⟨rfl, hb'⟩; have HB3 := Lib.hid hb'; obtain ⟨d0, d1⟩ := HC7.out w3 hb'; have HT := Lib.hid (HT3.out w3 hb'); clear hb')
            | (refine wpList_store_mid rfl 24 (.tmp 33) (.tmp 32) rfl g0 (i * 2) #[.int .i64 y.p, .int .i64 y.n] rfl rfl HT.out hInf HONE.out ?_))
          have HO3 := Lib.hid (ow_below HO2.out HB3.out)
          have HO4 := Lib.hid (own_put (i := i) HO3.out y)
          have HBW4 : Hid (Below B w (w3.setCells g0 (i * 2) [.int .i64 y.p, .int .i64 y.n])) := (HBW2.out.trans (HB3.out.mono hBr2)).trans (own_below (gr_cells _ _ _ _) hg0 (Nat.le_trans hBr2 HB3.out.size))
          have HSZ4 : Hid (B ≤ (w3.setCells g0 (i * 2) [.int .i64 y.p, .int .i64 y.n]).heap.size) := Nat.le_trans (Nat.le_trans hBr2 HB3.out.size) (gr_cells [.int .i64 y.p, .int .i64 y.n] (i * 2) w3 g0).size
          go_roundw
          case rel => exact ⟨i + 1, j + 1, R.set i y, by go_num, by go_num, HN.out, HO4.out, HBW4.out, by omega, by omega, HSZ4.out⟩
          case measure => simp [intOf]; omega
      · obtain rfl : j = L.length := by omega
        have hci : ¬ (cap = i) := by omega
        have hii : (i : Int) < L.length := by omega
        have hile : (i : Int) ≤ L.length := by omega
        have hi0 : (0 : Int) ≤ (i : Int) := by omega
        have hic : i ≤ cap := by omega
        have hicz : (i : Int) ≤ (cap : Int) := by omega
        obtain ⟨zi, hz0, hz1, hz2, hz3⟩ := zeroSpan
        have hzv : ∀ w, (zeroValue 24).run Try.prog w = .ok (.agg #[.int .i64 0, .int .i64 0]) w := fun w => by simp [zeroValue, typeInfo, hz0, hz1]
        obtain ⟨hzl, hzo⟩ := zcellsN zspan_one (L.length - i)
        obtain ⟨zs, hzs⟩ : ∃ zs, zs = (Builtin.zeroCells (#[.int .i64 0, .int .i64 0] : Array Value) (L.length - i)).toList := ⟨_, rfl⟩
        rw [← hzs] at hzl hzo
        have hzl2 : zs.length = (L.length - i) * 2 := hzl
        have hcl : ∀ ty, (Builtin.clear_ #[22] ty #[.slice (some ⟨g0, i * 2, none⟩) (L.length - i) (cap - i)]).run Try.prog wr = .ok (.tuple #[]) (wr.setCells g0 (i * 2) zs) := fun ty =>
          run_clear_any wr 22 24 ty _ Try.underlying22 hzv g0 (i * 2) (L.length - i) (cap - i) (by omega) zs hzs.symm hzo
            (fun t ht => (own_there_cells HOWN.out (i * 2 + t) (by rw [hzl2] at ht; omega)).1) (fun t ht => (own_there_cells HOWN.out (i * 2 + t) (by rw [hzl2] at ht; omega)).2)
        have hRi := HEND.out R i HI.out
        have HF : Hid ((wr.setCells g0 (i * 2) zs).ownsRow B 24 2 (.slice (some ⟨g0, 0, none⟩) i cap) F.length (spD F)) := by
          have h := own_cut (i := i) HOWN.out (by omega) hzl2
          have e : (spD R).take (i * 2) = spD F := by rw [← hRi, spD_tk]
          have e2 : i = F.length := by rw [← hRi, List.length_take, HI.out.len]; omega
          rw [e] at h
          rw [← e2]
          exact h
        have HBE : Hid (Below B w (wr.setCells g0 (i * 2) zs)) := HBW.out.trans (own_below (gr_cells _ _ _ _) hg0 hBr)
        clear hzl hzo hzl2 hzs hRi HI hzv hz0 hz1 hz2 hz3
        go_wp2
        go_ret
        exact ⟨_, rfl, HF.out, HBE.out⟩
end Go.Proofs.Ytgfblcfleohdjaa
