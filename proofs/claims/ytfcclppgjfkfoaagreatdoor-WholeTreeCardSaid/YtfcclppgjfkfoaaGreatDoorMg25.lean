/- Where the first property, or the first kid, of a name is (edit's property and child), over any node in memory. Conditions: a list that is read, of at most 2^40 elements. -/
import Derived.Test.YtfcclppgjfkfoaaGreatDoorMg13
import Derived.Deep.RegionWith
import Derived.Test.YtfcclppgjfkfoaaGreatDoorMg6
import Derived.Deep.RegionLaw
import Derived.Lib.SliceRun
import Derived.Lib.Walk
import Derived.Lib.SlBuf
import Derived.Deep.LoopGhost
import Derived.Sort.WalkB12
namespace Go.Proofs.YtfcclppgjfkfoaaGreatDoor
open Go.RowKit

theorem str_dec (a b : ByteArray) : (a.toList == b.toList) = decide (a = b) := by
  by_cases h : a = b
  · subst h; simp
  · have : ¬ a.toList = b.toList := fun e => h (by
      rw [ByteArray.toList_eq, ByteArray.toList_eq] at e
      exact ByteArray.ext (Array.ext' e))
    simp [h, this]
/-- r is where the first element is of which F says yes, or -1. -/
def IxIs {α : Type} (F : α → Bool) (d : α) (l : List α) (r : Int) : Prop := (r = -1 ∧ ∀ j, j < l.length → F (l.getD j d) = false) ∨ ∃ k : Nat, r = (k : Int) ∧ k < l.length ∧ F (l.getD k d) = true ∧ ∀ j, j < k → F (l.getD j d) = false

set_option maxHeartbeats 800000 in
set_option maxRecDepth 100000 in
theorem prop1_any (x : PR) (s : ByteArray) (b : Nat) (w : World) (h : w.cell? ⟨b, 0, none⟩ = some (.string s)) :
    Calls Tryz.prog 84 #[.agg #[.string x.nm, .string x.vl], .pointer (some ⟨b, 0, none⟩)] w fun e w' => e = .returned (.bool (decide (x.nm = s))) ∧ Below w.heap.size w w' := by
  obtain ⟨nm, vl⟩ := x
  simp only
  obtain ⟨W1, hW1⟩ : ∃ W1, W1 = w.alloc (.cells #[.string nm, .string vl] 92) := ⟨_, rfl⟩
  obtain ⟨g, hg⟩ : ∃ g, g = w.heap.size := ⟨_, rfl⟩
  have hB : Below w.heap.size w W1 := by rw [hW1]; exact (Below.refl _ _).alloc (Nat.le_refl _) _
  have hA : Arr W1 g 92 #[.string nm, .string vl] := by rw [hW1, hg]; exact Arr.new w _ _
  have c0 : W1.cell? ⟨g, 0, none⟩ = some (.string nm) := hA.cell 0
  have c1 : W1.cell? ⟨b, 0, none⟩ = some (.string s) := cell_kept (Moved.of_below hB (fun _ => False)) id h
  have HE : Hid ((nm.toList == s.toList) = decide (nm = s)) := str_dec _ _
  have HB := Lib.hid hB
  clear hA hB h
  go_enter Tryz.func84, Tryz.ntmps84
  go_upto_region 1 with fail
  rw [← hW1, ← hg]
  clear hW1 hg
  go_wp2
  go_ret
  exact ⟨by rw [← HE.out]; rfl, HB.out⟩
set_option maxHeartbeats 800000 in
set_option maxRecDepth 100000 in
theorem child1_any (n : ND) (y z : Value) (s : ByteArray) (b : Nat) (w : World) (h : w.cell? ⟨b, 0, none⟩ = some (.string s)) :
    Calls Tryz.prog 87 #[.agg #[.string n.nm, y, z], .pointer (some ⟨b, 0, none⟩)] w fun e w' => e = .returned (.bool (decide (n.nm = s))) ∧ Below w.heap.size w w' := by
  obtain ⟨nm, hnm⟩ : ∃ nm, nm = n.nm := ⟨_, rfl⟩
  rw [← hnm]
  obtain ⟨W1, hW1⟩ : ∃ W1, W1 = w.alloc (.cells #[.string nm, y, z] 28) := ⟨_, rfl⟩
  obtain ⟨g, hg⟩ : ∃ g, g = w.heap.size := ⟨_, rfl⟩
  have hB : Below w.heap.size w W1 := by rw [hW1]; exact (Below.refl _ _).alloc (Nat.le_refl _) _
  have hA : Arr W1 g 28 #[.string nm, y, z] := by rw [hW1, hg]; exact Arr.new w _ _
  have c0 : W1.cell? ⟨g, 0, none⟩ = some (.string nm) := hA.cell 0
  have c1 : W1.cell? ⟨b, 0, none⟩ = some (.string s) := cell_kept (Moved.of_below hB (fun _ => False)) id h
  have HE : Hid ((nm.toList == s.toList) = decide (nm = s)) := str_dec _ _
  have HB := Lib.hid hB
  clear hA hB h hnm
  go_enter Tryz.func87, Tryz.ntmps87
  go_upto_region 1 with fail
  rw [← hW1, ← hg]
  clear hW1 hg
  go_wp2
  go_ret
  exact ⟨by rw [← HE.out]; rfl, HB.out⟩

set_option maxHeartbeats 1600000 in
set_option maxRecDepth 100000 in
theorem ixProp_any (G : Nat → Prop) (A : Option Addr) (cap : Nat) (L : List PR) (s : ByteArray) (b : Nat) (w : World) (hr : RdPr w G A L) (hl : L.length ≤ 1099511627776) (h : w.cell? ⟨b, 0, none⟩ = some (.string s)) :
    Calls Tryz.prog 83 #[.slice A L.length cap, .func (.func 84) #[] #[.pointer (some ⟨b, 0, none⟩)]] w fun e w' => (∃ r : Int, e = .returned (.int .i64 r) ∧ IxIs (fun x : PR => decide (x.nm = s)) pr0 L r) ∧ Below w.heap.size w w' := by
  have HR := Lib.hid hr
  have HC := Lib.hid h
  have hcf : ∀ (args : Array Value) (w : World), (callFunc 84 args).run Tryz.prog w = .ok (.enter 84 args) w := Tryz.call84
  have HCL : Hid (∀ (x : PR) W, Below w.heap.size w W → Calls Tryz.prog 84 #[.agg #[.string x.nm, .string x.vl], .pointer (some ⟨b, 0, none⟩)] W fun e w' => e = .returned (.bool (decide (x.nm = s))) ∧ Below W.heap.size W w') := fun x W hb => prop1_any x s b W (cell_kept (Moved.of_below hb (fun _ => False)) id HC.out)
  clear hr h HC
  go_enter Tryz.func83, Tryz.ntmps83
  go_wp2
  go_loopw [8] (fun i wr => ∃ k : Nat, k ≤ L.length ∧ i = .int .i64 k ∧ (∀ j, j < k → decide ((L.getD j pr0).nm = s) = false) ∧ Below w.heap.size w wr) (fun i _ => L.length - (intOf i).toNat)
  case atStart => exact ⟨0, Nat.zero_le _, rfl, fun _ h => absurd h (Nat.not_lt_zero _), Below.refl _ _⟩
  case round =>
    obtain ⟨k, hk, rfl, hall, hb⟩ := hrel
    have HALL := Lib.hid hall
    have HB := Lib.hid hb
    have hsz := hb.size
    clear hall hb
    by_cases hlt : k < L.length
    · have hki : (k : Int) < L.length := by omega
      obtain ⟨b', off, x, rfl, hpt, HX⟩ := (HR.out.below HB.out).at_ hlt
      have HCX := Lib.hid (HCL.out x wr HB.out)
      have HA1 : Hid (decide (x.nm = s) = true → IxIs (fun x : PR => decide (x.nm = s)) pr0 L (k : Int)) := fun h => .inr ⟨k, rfl, hlt, by rw [HX.out]; exact h, HALL.out⟩
      have HA2 : Hid (decide (x.nm = s) = false → ∀ j, j < k + 1 → decide ((L.getD j pr0).nm = s) = false) := fun h j hj => by
        by_cases e : j = k
        · rw [e, HX.out]; exact h
        · exact HALL.out j (by omega)
      obtain ⟨nm, vl⟩ := x
      obtain ⟨h1, h2⟩ := hpt
      simp only at h1 h2 HCX HA1 HA2
      generalize decide (nm = s) = fx at *
      clear HX
      go_wp2_with fail
      refine HCX.out.mono ?_
      rintro e w1 ⟨rfl, hb1⟩
      have HB1 := Lib.hid (HB.out.trans (hb1.mono hsz))
      clear hb1 HCX h1 h2
      cases fx with
      | true =>
        have HN := Lib.hid (HA1.out rfl)
        clear HA1 HA2
        go_wp2
        go_ret
        exact ⟨⟨_, rfl, HN.out⟩, HB1.out⟩
      | false =>
        have HN := Lib.hid (HA2.out rfl)
        clear HA1 HA2
        go_wp2
        go_roundw
        case rel => exact ⟨k + 1, by omega, by go_num, HN.out, HB1.out⟩
        case measure => simp [intOf]; omega
    · obtain rfl : k = L.length := by omega
      go_wp2
      go_ret
      exact ⟨⟨_, rfl, .inl ⟨rfl, HALL.out⟩⟩, HB.out⟩
set_option maxHeartbeats 1600000 in
set_option maxRecDepth 100000 in
theorem ixNode_any (G : Nat → Prop) (n : ND) (y : Value) (K : Option Addr) (kc : Nat) (s : ByteArray) (b : Nat) (w : World) (hN : NdAt w G n y (.slice K n.ks.length kc)) (hl : n.ks.length ≤ 1099511627776) (h : w.cell? ⟨b, 0, none⟩ = some (.string s)) :
    Calls Tryz.prog 86 #[.slice K n.ks.length kc, .func (.func 87) #[] #[.pointer (some ⟨b, 0, none⟩)]] w fun e w' => (∃ r : Int, e = .returned (.int .i64 r) ∧ IxIs (fun x : ND => decide (x.nm = s)) nd0 n.ks r) ∧ Below w.heap.size w w' := by
  have HN := Lib.hid hN
  have HC := Lib.hid h
  have hcf : ∀ (args : Array Value) (w : World), (callFunc 87 args).run Tryz.prog w = .ok (.enter 87 args) w := Tryz.call87
  have HCL : Hid (∀ (x : ND) y z W, Below w.heap.size w W → Calls Tryz.prog 87 #[.agg #[.string x.nm, y, z], .pointer (some ⟨b, 0, none⟩)] W fun e w' => e = .returned (.bool (decide (x.nm = s))) ∧ Below W.heap.size W w') := fun x y z W hb => child1_any x y z s b W (cell_kept (Moved.of_below hb (fun _ => False)) id HC.out)
  clear hN h HC
  go_enter Tryz.func86, Tryz.ntmps86
  go_wp2
  go_loopw [8] (fun i wr => ∃ k : Nat, k ≤ n.ks.length ∧ i = .int .i64 k ∧ (∀ j, j < k → decide ((n.ks.getD j nd0).nm = s) = false) ∧ Below w.heap.size w wr) (fun i _ => n.ks.length - (intOf i).toNat)
  case atStart => exact ⟨0, Nat.zero_le _, rfl, fun _ h => absurd h (Nat.not_lt_zero _), Below.refl _ _⟩
  case round =>
    obtain ⟨k, hk, rfl, hall, hb⟩ := hrel
    have HALL := Lib.hid hall
    have HB := Lib.hid hb
    have hsz := hb.size
    clear hall hb
    by_cases hlt : k < n.ks.length
    · have hki : (k : Int) < n.ks.length := by omega
      obtain ⟨b', off, x, y', z', rfl, h1, h2, h3, h4, HX⟩ := nd_kid (nd_below HN.out HB.out) hlt
      obtain ⟨ya, za, yc, zc, rfl, rfl, _⟩ := nd_shape h4
      have HCX := Lib.hid (HCL.out x (.slice ya x.ps.length yc) (.slice za x.ks.length zc) wr HB.out)
      have HA1 : Hid (decide (x.nm = s) = true → IxIs (fun x : ND => decide (x.nm = s)) nd0 n.ks (k : Int)) := fun h => .inr ⟨k, rfl, hlt, by rw [HX.out]; exact h, HALL.out⟩
      have HA2 : Hid (decide (x.nm = s) = false → ∀ j, j < k + 1 → decide ((n.ks.getD j nd0).nm = s) = false) := fun h j hj => by
        by_cases e : j = k
        · rw [e, HX.out]; exact h
        · exact HALL.out j (by omega)
      generalize decide (x.nm = s) = fx at *
      clear HX h4
      go_wp2_with fail
      refine HCX.out.mono ?_
      rintro e w1 ⟨rfl, hb1⟩
      have HB1 := Lib.hid (HB.out.trans (hb1.mono hsz))
      clear hb1 HCX h1 h2 h3
      cases fx with
      | true =>
        have HN := Lib.hid (HA1.out rfl)
        clear HA1 HA2
        go_wp2
        go_ret
        exact ⟨⟨_, rfl, HN.out⟩, HB1.out⟩
      | false =>
        have HN := Lib.hid (HA2.out rfl)
        clear HA1 HA2
        go_wp2
        go_roundw
        case rel => exact ⟨k + 1, by omega, by go_num, HN.out, HB1.out⟩
        case measure => simp [intOf]; omega
    · obtain rfl : k = n.ks.length := by omega
      go_wp2
      go_ret
      exact ⟨⟨_, rfl, .inl ⟨rfl, HALL.out⟩⟩, HB.out⟩

set_option maxHeartbeats 800000 in
set_option maxRecDepth 100000 in
theorem property_any (G : Nat → Prop) (A : Option Addr) (pc : Nat) (ps : List PR) (b o : Nat) (s : ByteArray) (w : World) (hr : RdPr w G A ps) (hl : ps.length ≤ 1099511627776) (h : w.cell? ⟨b, o + 1, none⟩ = some (.slice A ps.length pc)) :
    Calls Tryz.prog 45 #[.pointer (some ⟨b, o, none⟩), .string s] w fun e w' => (∃ r : Int, e = .returned (.int .i64 r) ∧ IxIs (fun x : PR => decide (x.nm = s)) pr0 ps r) ∧ Below w.heap.size w w' := by
  obtain ⟨W1, hW1⟩ : ∃ W1, W1 = w.alloc (.cells #[.string s] 9) := ⟨_, rfl⟩
  obtain ⟨g, hg⟩ : ∃ g, g = w.heap.size := ⟨_, rfl⟩
  have hB : Below w.heap.size w W1 := by rw [hW1]; exact (Below.refl _ _).alloc (Nat.le_refl _) _
  have hA : Arr W1 g 9 #[.string s] := by rw [hW1, hg]; exact Arr.new w _ _
  have c1 : W1.cell? ⟨b, o + 1, none⟩ = some (.slice A ps.length pc) := cell_kept (Moved.of_below hB (fun _ => False)) id h
  have HIX := Lib.hid (ixProp_any G A pc ps s g W1 (hr.below hB) hl (hA.cell 0))
  have HB := Lib.hid hB
  clear hA hB h hr
  go_enter Tryz.func45, Tryz.ntmps45
  go_upto_region 1 with fail
  rw [← hW1, ← hg]
  clear hW1 hg
  go_wp2_with fail
  refine HIX.out.mono ?_
  rintro e w2 ⟨⟨r, rfl, hr⟩, hb⟩
  have HR := Lib.hid hr
  have HBF := Lib.hid (HB.out.trans (hb.mono HB.out.size))
  clear hr hb HIX c1
  go_wp2
  go_ret
  exact ⟨⟨_, rfl, HR.out⟩, HBF.out⟩
set_option maxHeartbeats 800000 in
set_option maxRecDepth 100000 in
theorem child_any (G : Nat → Prop) (n : ND) (y : Value) (K : Option Addr) (kc b o : Nat) (s : ByteArray) (w : World) (hN : NdAt w G n y (.slice K n.ks.length kc)) (hl : n.ks.length ≤ 1099511627776) (h : w.cell? ⟨b, o + 2, none⟩ = some (.slice K n.ks.length kc)) :
    Calls Tryz.prog 50 #[.pointer (some ⟨b, o, none⟩), .string s] w fun e w' => (∃ r : Int, e = .returned (.int .i64 r) ∧ IxIs (fun x : ND => decide (x.nm = s)) nd0 n.ks r) ∧ Below w.heap.size w w' := by
  obtain ⟨W1, hW1⟩ : ∃ W1, W1 = w.alloc (.cells #[.string s] 9) := ⟨_, rfl⟩
  obtain ⟨g, hg⟩ : ∃ g, g = w.heap.size := ⟨_, rfl⟩
  have hB : Below w.heap.size w W1 := by rw [hW1]; exact (Below.refl _ _).alloc (Nat.le_refl _) _
  have hA : Arr W1 g 9 #[.string s] := by rw [hW1, hg]; exact Arr.new w _ _
  have c1 : W1.cell? ⟨b, o + 2, none⟩ = some (.slice K n.ks.length kc) := cell_kept (Moved.of_below hB (fun _ => False)) id h
  have HIX := Lib.hid (ixNode_any G n y K kc s g W1 (nd_below hN hB) hl (hA.cell 0))
  have HB := Lib.hid hB
  clear hA hB h hN
  go_enter Tryz.func50, Tryz.ntmps50
  go_upto_region 1 with fail
  rw [← hW1, ← hg]
  clear hW1 hg
  go_wp2_with fail
  refine HIX.out.mono ?_
  rintro e w2 ⟨⟨r, rfl, hr⟩, hb⟩
  have HR := Lib.hid hr
  have HBF := Lib.hid (HB.out.trans (hb.mono HB.out.size))
  clear hr hb HIX c1
  go_wp2
  go_ret
  exact ⟨⟨_, rfl, HR.out⟩, HBF.out⟩
end Go.Proofs.YtfcclppgjfkfoaaGreatDoor

/- Rows of cells that are stored into one after the other, and an element taken out of a slice of one's own. No condition: nothing of the program stands in it. -/
namespace Go.Proofs.YtfcclppgjfkfoaaGreatDoor
open Go.RowKit

theorem arr_setCells : ∀ (vs : List Value) (o : Nat) {w : World} {g t : Nat} {cur : Array Value}, Arr w g t cur → o + vs.length ≤ cur.size → ∃ cur', Arr (w.setCells g o vs) g t cur' ∧ cur'.size = cur.size ∧ ∀ j, cur'[j]? = if o ≤ j ∧ j < o + vs.length then vs[j - o]? else cur[j]?
  | [], o, w, g, t, cur, h, _ => ⟨cur, h, rfl, fun j => by rw [if_neg (by simp only [List.length_nil]; omega)]⟩
  | v :: r, o, w, g, t, cur, h, hl => by
    simp only [List.length_cons] at hl
    obtain ⟨c2, h1, h2, h3⟩ := arr_setCells r (o + 1) (h.put o v) (by rw [Array.size_setIfInBounds]; omega)
    rw [Array.size_setIfInBounds] at h2
    refine ⟨c2, h1, h2, fun j => ?_⟩
    rw [h3 j, Array.getElem?_setIfInBounds]
    simp only [List.length_cons]
    by_cases e : o = j
    · subst e
      rw [if_neg (by omega), if_pos rfl, if_pos (by omega), if_pos (by omega), Nat.sub_self]; rfl
    · rw [if_neg e]
      by_cases e1 : o + 1 ≤ j ∧ j < o + 1 + r.length
      · rw [if_pos e1, if_pos (by omega), show j - o = (j - (o + 1)) + 1 by omega, List.getElem?_cons_succ]
      · rw [if_neg e1, if_neg (by omega)]
theorem gr_cells : ∀ (vs : List Value) (o : Nat) (w : World) (g : Nat), w.grownBy (w.setCells g o vs) (some g)
  | [], _, _, _ => gr_below (Below.refl _ _)
  | v :: r, o, w, g => World.grownBy.trans (gr_cell w g o v) (gr_cells r (o + 1) _ g)
/-- 'clear(s)', s a slice of n > 0 elements of any size. -/
theorem run_clear_any {P : Program} (w : World) (t e ty : TypeId) (z : Value) (ht : P.underlying t = some (.slice e)) (hv : ∀ w, (zeroValue e).run P w = .ok z w) (b o n c : Nat) (hn : 0 < n) (vs : List Value) (hz : (Builtin.zeroCells z.cells n).toList = vs) (h1 : ∀ v ∈ vs, v.oneCell' = true)
    (hc : ∀ j, j < vs.length → (w.cell? ⟨b, o + j, none⟩).isSome = true) (hf : ∀ j, j < vs.length → w.frozen? ⟨b, o + j, none⟩ = false) :
    (Builtin.clear_ #[t] ty #[.slice (some ⟨b, o, none⟩) n c]).run P w = .ok (.tuple #[]) (w.setCells b o vs) := by
  have hst := run_storeCells_cells (P := P) b o vs 0 w (by simpa using hc) (by simpa using hf) h1
  simp only [Nat.add_zero] at hst
  obtain ⟨m, rfl⟩ : ∃ m, n = m + 1 := ⟨n - 1, by omega⟩
  simp [Builtin.clear_, run_underlying ht, hv, hz, hst]
/-- An element is taken out: what is behind it is stored in its place, and the last place is cleared. -/
theorem own_del {w : World} {B e size n i g cap : Nat} {xs zs : List Value} (h : w.ownsRow B e size (.slice (some ⟨g, 0, none⟩) n cap) n xs) (hi : i < n) (hs : 0 < size) (hz : zs.length = size) :
    ((w.setCells g (i * size) (xs.drop ((i + 1) * size))).setCells g ((n - 1) * size) zs).ownsRow B e size (.slice (some ⟨g, 0, none⟩) (n - 1) cap) (n - 1) (xs.take (i * size) ++ xs.drop ((i + 1) * size)) := by
  have hxl := h.1
  rcases h.2 with ⟨h1, _⟩ | ⟨g', cap', cur, h1, hb, hg, hnc, hcm, hcs, htk⟩
  · cases h1
  injection h1 with h1 _ h1c
  injection h1 with h1
  injection h1 with h1
  subst h1
  subst h1c
  have hin : i * size + size ≤ n * size := by
    have := Nat.mul_le_mul_right size (show i + 1 ≤ n from hi)
    rwa [Nat.add_mul, Nat.one_mul] at this
  have hn1 : (n - 1) * size + size = n * size := by
    have : n = (n - 1) + 1 := by omega
    conv => rhs; rw [this, Nat.add_mul, Nat.one_mul]
  have hncs : n * size ≤ cap * size := Nat.mul_le_mul_right size hnc
  have hi1 : (i + 1) * size = i * size + size := by rw [Nat.add_mul, Nat.one_mul]
  have hdl : (xs.drop ((i + 1) * size)).length = n * size - (i * size + size) := by rw [List.length_drop, hxl, hi1]
  obtain ⟨c1, a1, s1, p1⟩ := arr_setCells (xs.drop ((i + 1) * size)) (i * size) (show Arr w g e cur from hg) (by rw [hdl, hcs]; omega)
  obtain ⟨c2, a2, s2, p2⟩ := arr_setCells zs ((n - 1) * size) a1 (by rw [s1, hcs, hz]; omega)
  have hcur : ∀ j, j < n * size → cur[j]? = xs[j]? := fun j hj => by
    rw [← htk, List.getElem?_take_of_lt hj, Array.getElem?_toList]
  refine ⟨by rw [List.length_append, List.length_take, hdl, hxl]; omega, .inr ⟨g, cap, c2, rfl, hb, a2, by omega, hcm, by rw [s2, s1, hcs], ?_⟩⟩
  apply List.ext_getElem?
  intro j
  by_cases hj : j < (n - 1) * size
  · rw [List.getElem?_take_of_lt hj, Array.getElem?_toList, p2 j, if_neg (by omega), p1 j]
    by_cases hji : j < i * size
    · rw [if_neg (by omega), hcur j (by omega), List.getElem?_append_left (by rw [List.length_take, hxl]; omega), List.getElem?_take_of_lt hji]
    · rw [if_pos (by rw [hdl]; omega), List.getElem?_append_right (by rw [List.length_take]; omega), List.length_take, hxl, Nat.min_eq_left (by omega)]
  · rw [List.getElem?_eq_none (by rw [List.length_take]; omega), List.getElem?_eq_none (by rw [List.length_append, List.length_take, hdl, hxl]; omega)]
theorem own_del_moved (w : World) (g o o' n n' cap cap' : Nat) (vs us : List Value) : Moved w ((w.setCells g o vs).setCells g o' us) (ownS (.slice (some ⟨g, 0, none⟩) n cap)) (ownS (.slice (some ⟨g, 0, none⟩) n' cap')) :=
  Moved.of_grown (World.grownBy.trans (gr_cells vs o w g) (gr_cells us o' _ g)) (.inl rfl)
/-- A cell of a slice of one's own is stored into. -/
theorem own_set {w : World} {B e size n g cap j : Nat} {xs : List Value} (h : w.ownsRow B e size (.slice (some ⟨g, 0, none⟩) n cap) n xs) (v : Value) :
    (w.setCell ⟨g, j, none⟩ v).ownsRow B e size (.slice (some ⟨g, 0, none⟩) n cap) n (xs.set j v) := by
  have hxl := h.1
  rcases h.2 with ⟨h1, _⟩ | ⟨g', cap', cur, h1, hb, hg, hnc, hcm, hcs, htk⟩
  · cases h1
  injection h1 with h1 _ h1c
  injection h1 with h1
  injection h1 with h1
  subst h1
  subst h1c
  refine ⟨by rw [List.length_set, hxl], .inr ⟨g, cap, cur.setIfInBounds j v, rfl, hb, (show Arr w g e cur from hg).put j v, hnc, hcm, by rw [Array.size_setIfInBounds, hcs], ?_⟩⟩
  rw [Array.toList_setIfInBounds, List.take_set, htk]
end Go.Proofs.YtfcclppgjfkfoaaGreatDoor

/- What slices.Delete does with one element of a slice of one's own: of properties, of nodes. Condition: the element is there. -/
namespace Go.Proofs.YtfcclppgjfkfoaaGreatDoor
open Go.RowKit

theorem zc2 (a b : Value) : (Builtin.zeroCells #[a, b] 1).toList = [a, b] := by
  simp [Builtin.zeroCells, Array.toList_map, List.range_succ]
theorem zc3 (a b c : Value) : (Builtin.zeroCells #[a, b, c] 1).toList = [a, b, c] := by
  simp [Builtin.zeroCells, Array.toList_map, List.range_succ]
set_option maxRecDepth 100000 in
theorem zcells_prop (z : Value) (i : TypeInfo) (h : Tryz.prog.info? 92 = some i) (hz : i.zero = some z) : (Builtin.zeroCells z.cells 1).toList = [.string ⟨#[]⟩, .string ⟨#[]⟩] := by
  have e : (Tryz.prog.info? 92).map (·.zero) = some (some (.agg #[.string ⟨#[]⟩, .string ⟨#[]⟩])) := by kernel_rfl
  rw [h, Option.map_some, hz] at e
  injection e with e
  injection e with e
  rw [e]
  exact zc2 _ _
set_option maxRecDepth 100000 in
theorem zcells_node (z : Value) (i : TypeInfo) (h : Tryz.prog.info? 28 = some i) (hz : i.zero = some z) : (Builtin.zeroCells z.cells 1).toList = [.string ⟨#[]⟩, .slice none 0 0, .slice none 0 0] := by
  have e : (Tryz.prog.info? 28).map (·.zero) = some (some (.agg #[.string ⟨#[]⟩, .slice none 0 0, .slice none 0 0])) := by kernel_rfl
  rw [h, Option.map_some, hz] at e
  injection e with e
  injection e with e
  rw [e]
  exact zc3 _ _ _

set_option maxHeartbeats 4000000 in
set_option maxRecDepth 1000000 in
theorem delProp_any (B n i g cap : Nat) (xs : List Value) (w : World) (h : w.ownsRow B 92 2 (.slice (some ⟨g, 0, none⟩) n cap) n xs) (hi : i < n) (hone : ∀ x ∈ xs, x.oneCell' = true) :
    Calls Tryz.prog 47 #[.slice (some ⟨g, 0, none⟩) n cap, .int .i64 (i : Int), .int .i64 ((i : Int) + 1)] w fun e w' => e = .returned (.slice (some ⟨g, 0, none⟩) (n - 1) cap) ∧
      w'.ownsRow B 92 2 (.slice (some ⟨g, 0, none⟩) (n - 1) cap) (n - 1) (xs.take (i * 2) ++ xs.drop ((i + 1) * 2)) ∧ Moved w w' (ownS (.slice (some ⟨g, 0, none⟩) n cap)) (ownS (.slice (some ⟨g, 0, none⟩) (n - 1) cap)) := by
  obtain ⟨h0, i0, z0, hi0, hz0, hz1, hz2, hz3, hz4⟩ := elemProp
  have hzv : ∀ w, (zeroValue 92).run Tryz.prog w = .ok z0 w := fun w => by simp [zeroValue, typeInfo, hi0, hz0]
  obtain ⟨A0, cap0, he0, hnc, hcm, hcell⟩ := row_form h
  injection he0 with he0 _ he0c
  subst he0c
  clear he0 hcell
  have hcells : ∀ j, j < n * 2 → w.cell? ⟨g, j, none⟩ = xs[j]? := fun j hj => h.cellAt j hj
  have hxl := h.1
  obtain ⟨j, hj⟩ : ∃ j, j = i + 1 := ⟨_, rfl⟩
  have hjn : j ≤ n := by omega
  have e1 : (i : Int) + 1 = (j : Int) := by omega
  obtain ⟨news, hnews⟩ : ∃ news, news = xs.drop (j * 2) := ⟨_, rfl⟩
  have hlen : news.length = (n - j) * 2 := by rw [hnews, List.length_drop, hxl]; omega
  obtain ⟨A, hA, hsrc⟩ : ∃ A : Addr, (if cap = j then (some (⟨g, 0, none⟩ : Addr)) else some ⟨g, j * 2, none⟩) = some A ∧ Hid (∀ t u, news[t]? = some u → w.drew.cell? (A.add t) = some u) := by
    by_cases hh : cap = j
    · refine ⟨⟨g, 0, none⟩, by simp [hh], fun t u hu => ?_⟩
      have h00 : news.length = 0 := by rw [hlen]; omega
      rw [List.length_eq_zero_iff.1 h00] at hu
      simp at hu
    · refine ⟨⟨g, j * 2, none⟩, by simp [hh], fun t u hu => ?_⟩
      have ht : t < (n - j) * 2 := by
        have := (List.getElem?_eq_some_iff.1 hu).1
        rwa [hlen] at this
      rw [hnews, List.getElem?_drop] at hu
      have hc := hcells (j * 2 + t) (by omega)
      rw [hu] at hc
      have e : (⟨g, j * 2, none⟩ : Addr).add t = ⟨g, j * 2 + t, none⟩ := by simp [Addr.add]
      rw [e]
      exact hc
  have s1 : Hid (news.length = (n - j) * 2) := hlen
  have s2 : Hid (∀ u ∈ news, u.oneCell' = true) := fun u hu => hone u (by rw [hnews] at hu; exact List.mem_of_mem_drop hu)
  have s3 : Hid (∀ t, t < news.length → (w.drew.cell? ⟨g, 0 + i * 2 + t, none⟩).isSome = true ∧ w.drew.frozen? ⟨g, 0 + i * 2 + t, none⟩ = false) := fun t ht => by
    rw [hlen] at ht
    rw [Nat.zero_add]
    refine ⟨?_, h.frozenAt _⟩
    show (w.cell? _).isSome = true
    rw [hcells _ (by omega), List.getElem?_eq_getElem (by omega)]; rfl
  obtain ⟨W1, hW1⟩ : ∃ W1, W1 = w.drew.setCells g (0 + i * 2) news := ⟨_, rfl⟩
  have HFIN : Hid ((W1.setCells g ((n - 1) * 2) [.string ⟨#[]⟩, .string ⟨#[]⟩]).ownsRow B 92 2 (.slice (some ⟨g, 0, none⟩) (n - 1) cap) (n - 1) (xs.take (i * 2) ++ xs.drop ((i + 1) * 2))) := by
    rw [hW1, hnews, hj, Nat.zero_add]
    exact own_del (w := w.drew) (zs := [.string ⟨#[]⟩, .string ⟨#[]⟩]) h.drew hi (by decide) rfl
  have HMV : Hid (Moved w (W1.setCells g ((n - 1) * 2) [.string ⟨#[]⟩, .string ⟨#[]⟩]) (ownS (.slice (some ⟨g, 0, none⟩) n cap)) (ownS (.slice (some ⟨g, 0, none⟩) (n - 1) cap))) := by
    rw [hW1]
    exact (Moved.of_below ((Below.refl w.heap.size w).drew) _).trans (own_del_moved w.drew g _ _ n (n - 1) cap cap _ _)
  have hg1 : w.drew.grownBy W1 (some g) := by rw [hW1]; exact gr_cells _ _ _ _
  obtain ⟨cur, hcu, hcs⟩ : ∃ cur, Arr w.drew g 92 cur ∧ n * 2 ≤ cur.size := by
    rcases h.2 with ⟨hh, _⟩ | ⟨g', cap', cur, hh, hb, hg, hnc', hcm', hcs, htk⟩
    · cases hh
    injection hh with hh _ hhc
    injection hh with hh
    injection hh with hh
    subst hh
    exact ⟨cur, hg, by omega⟩
  obtain ⟨c1, a1, s1', _⟩ := arr_setCells news (0 + i * 2) hcu (by rw [hlen]; omega)
  rw [← hW1] at a1
  have hcl : ∀ ty, (Builtin.clear_ #[25] ty #[.slice (some ⟨g, (i + (n - j)) * 2, none⟩) (n - (i + (n - j))) (cap - (i + (n - j)))]).run Tryz.prog W1 = .ok (.tuple #[]) (W1.setCells g ((n - 1) * 2) [.string ⟨#[]⟩, .string ⟨#[]⟩]) := fun ty => by
    rw [show i + (n - j) = n - 1 by omega, show n - (n - 1) = 1 by omega]
    refine run_clear_any W1 25 92 ty z0 h0 hzv g _ 1 _ (by decide) [.string ⟨#[]⟩, .string ⟨#[]⟩] ?_ ?_ (fun t ht => ?_) (fun t _ => a1.frozen _)
    · exact zcells_prop z0 i0 hi0 hz0
    · intro v hv; simp at hv; rcases hv with rfl | rfl <;> rfl
    · have ht : t < 2 := ht
      rw [a1.cell, Array.getElem?_eq_getElem (by omega)]; rfl
  have hic : i ≤ cap := by omega
  have hjc : j ≤ cap := by omega
  have HW : Hid (W1 = w.drew.setCells g (0 + i * 2) news) := hW1
  have hij : i ≤ j := by omega
  have hne : i ≠ j := by omega
  have hnj : i + (n - j) = n - 1 := by omega
  rw [e1]
  have HNJ := Lib.hid hnj
  clear hW1 hg1 hcu hcs a1 s1' hcells hlen hnews h hone hzv hj e1 hi hxl hnj
  go_enter Tryz.func47, Tryz.ntmps47
  go_wp2_with fail
  go_region_law (refine step_append_room rfl (.tmp 22) (.tmp 25) 25 rfl 92 i0 2 h0 hi0 hz1 g 0 i cap (by simp [Act.eval, Act.put]) A (n - j) (cap - j) news (by simp [Act.eval, Act.put]) s1.out hsrc.out s2.out (by omega) s3.out ?_; rw [← HW.out])
  go_wp2
  go_ret
  refine ⟨by rw [← HNJ.out]; rfl, HFIN.out, HMV.out⟩
set_option maxHeartbeats 4000000 in
set_option maxRecDepth 1000000 in
theorem delNode_any (B n i g cap : Nat) (xs : List Value) (w : World) (h : w.ownsRow B 28 3 (.slice (some ⟨g, 0, none⟩) n cap) n xs) (hi : i < n) (hone : ∀ x ∈ xs, x.oneCell' = true) :
    Calls Tryz.prog 52 #[.slice (some ⟨g, 0, none⟩) n cap, .int .i64 (i : Int), .int .i64 ((i : Int) + 1)] w fun e w' => e = .returned (.slice (some ⟨g, 0, none⟩) (n - 1) cap) ∧
      w'.ownsRow B 28 3 (.slice (some ⟨g, 0, none⟩) (n - 1) cap) (n - 1) (xs.take (i * 3) ++ xs.drop ((i + 1) * 3)) ∧ Moved w w' (ownS (.slice (some ⟨g, 0, none⟩) n cap)) (ownS (.slice (some ⟨g, 0, none⟩) (n - 1) cap)) := by
  obtain ⟨h0, i0, z0, hi0, hz0, hz1, hz2, hz3, hz4⟩ := elemNode
  have hzv : ∀ w, (zeroValue 28).run Tryz.prog w = .ok z0 w := fun w => by simp [zeroValue, typeInfo, hi0, hz0]
  obtain ⟨A0, cap0, he0, hnc, hcm, hcell⟩ := row_form h
  injection he0 with he0 _ he0c
  subst he0c
  clear he0 hcell
  have hcells : ∀ j, j < n * 3 → w.cell? ⟨g, j, none⟩ = xs[j]? := fun j hj => h.cellAt j hj
  have hxl := h.1
  obtain ⟨j, hj⟩ : ∃ j, j = i + 1 := ⟨_, rfl⟩
  have hjn : j ≤ n := by omega
  have e1 : (i : Int) + 1 = (j : Int) := by omega
  obtain ⟨news, hnews⟩ : ∃ news, news = xs.drop (j * 3) := ⟨_, rfl⟩
  have hlen : news.length = (n - j) * 3 := by rw [hnews, List.length_drop, hxl]; omega
  obtain ⟨A, hA, hsrc⟩ : ∃ A : Addr, (if cap = j then (some (⟨g, 0, none⟩ : Addr)) else some ⟨g, j * 3, none⟩) = some A ∧ Hid (∀ t u, news[t]? = some u → w.drew.cell? (A.add t) = some u) := by
    by_cases hh : cap = j
    · refine ⟨⟨g, 0, none⟩, by simp [hh], fun t u hu => ?_⟩
      have h00 : news.length = 0 := by rw [hlen]; omega
      rw [List.length_eq_zero_iff.1 h00] at hu
      simp at hu
    · refine ⟨⟨g, j * 3, none⟩, by simp [hh], fun t u hu => ?_⟩
      have ht : t < (n - j) * 3 := by
        have := (List.getElem?_eq_some_iff.1 hu).1
        rwa [hlen] at this
      rw [hnews, List.getElem?_drop] at hu
      have hc := hcells (j * 3 + t) (by omega)
      rw [hu] at hc
      have e : (⟨g, j * 3, none⟩ : Addr).add t = ⟨g, j * 3 + t, none⟩ := by simp [Addr.add]
      rw [e]
      exact hc
  have s1 : Hid (news.length = (n - j) * 3) := hlen
  have s2 : Hid (∀ u ∈ news, u.oneCell' = true) := fun u hu => hone u (by rw [hnews] at hu; exact List.mem_of_mem_drop hu)
  have s3 : Hid (∀ t, t < news.length → (w.drew.cell? ⟨g, 0 + i * 3 + t, none⟩).isSome = true ∧ w.drew.frozen? ⟨g, 0 + i * 3 + t, none⟩ = false) := fun t ht => by
    rw [hlen] at ht
    rw [Nat.zero_add]
    refine ⟨?_, h.frozenAt _⟩
    show (w.cell? _).isSome = true
    rw [hcells _ (by omega), List.getElem?_eq_getElem (by omega)]; rfl
  obtain ⟨W1, hW1⟩ : ∃ W1, W1 = w.drew.setCells g (0 + i * 3) news := ⟨_, rfl⟩
  have HFIN : Hid ((W1.setCells g ((n - 1) * 3) [.string ⟨#[]⟩, .slice none 0 0, .slice none 0 0]).ownsRow B 28 3 (.slice (some ⟨g, 0, none⟩) (n - 1) cap) (n - 1) (xs.take (i * 3) ++ xs.drop ((i + 1) * 3))) := by
    rw [hW1, hnews, hj, Nat.zero_add]
    exact own_del (w := w.drew) (zs := [.string ⟨#[]⟩, .slice none 0 0, .slice none 0 0]) h.drew hi (by decide) rfl
  have HMV : Hid (Moved w (W1.setCells g ((n - 1) * 3) [.string ⟨#[]⟩, .slice none 0 0, .slice none 0 0]) (ownS (.slice (some ⟨g, 0, none⟩) n cap)) (ownS (.slice (some ⟨g, 0, none⟩) (n - 1) cap))) := by
    rw [hW1]
    exact (Moved.of_below ((Below.refl w.heap.size w).drew) _).trans (own_del_moved w.drew g _ _ n (n - 1) cap cap _ _)
  have hg1 : w.drew.grownBy W1 (some g) := by rw [hW1]; exact gr_cells _ _ _ _
  obtain ⟨cur, hcu, hcs⟩ : ∃ cur, Arr w.drew g 28 cur ∧ n * 3 ≤ cur.size := by
    rcases h.2 with ⟨hh, _⟩ | ⟨g', cap', cur, hh, hb, hg, hnc', hcm', hcs, htk⟩
    · cases hh
    injection hh with hh _ hhc
    injection hh with hh
    injection hh with hh
    subst hh
    exact ⟨cur, hg, by omega⟩
  obtain ⟨c1, a1, s1', _⟩ := arr_setCells news (0 + i * 3) hcu (by rw [hlen]; omega)
  rw [← hW1] at a1
  have hcl : ∀ ty, (Builtin.clear_ #[26] ty #[.slice (some ⟨g, (i + (n - j)) * 3, none⟩) (n - (i + (n - j))) (cap - (i + (n - j)))]).run Tryz.prog W1 = .ok (.tuple #[]) (W1.setCells g ((n - 1) * 3) [.string ⟨#[]⟩, .slice none 0 0, .slice none 0 0]) := fun ty => by
    rw [show i + (n - j) = n - 1 by omega, show n - (n - 1) = 1 by omega]
    refine run_clear_any W1 26 28 ty z0 h0 hzv g _ 1 _ (by decide) [.string ⟨#[]⟩, .slice none 0 0, .slice none 0 0] ?_ ?_ (fun t ht => ?_) (fun t _ => a1.frozen _)
    · exact zcells_node z0 i0 hi0 hz0
    · intro v hv; simp at hv; rcases hv with rfl | rfl | rfl <;> rfl
    · have ht : t < 3 := ht
      rw [a1.cell, Array.getElem?_eq_getElem (by omega)]; rfl
  have hic : i ≤ cap := by omega
  have hjc : j ≤ cap := by omega
  have HW : Hid (W1 = w.drew.setCells g (0 + i * 3) news) := hW1
  have hij : i ≤ j := by omega
  have hne : i ≠ j := by omega
  have hnj : i + (n - j) = n - 1 := by omega
  rw [e1]
  have HNJ := Lib.hid hnj
  clear hW1 hg1 hcu hcs a1 s1' hcells hlen hnews h hone hzv hj e1 hi hxl hnj
  go_enter Tryz.func52, Tryz.ntmps52
  go_wp2_with fail
  go_region_law (refine step_append_room rfl (.tmp 22) (.tmp 25) 26 rfl 28 i0 3 h0 hi0 hz1 g 0 i cap (by simp [Act.eval, Act.put]) A (n - j) (cap - j) news (by simp [Act.eval, Act.put]) s1.out hsrc.out s2.out (by omega) s3.out ?_; rw [← HW.out])
  go_wp2
  go_ret
  refine ⟨by rw [← HNJ.out]; rfl, HFIN.out, HMV.out⟩
end Go.Proofs.YtfcclppgjfkfoaaGreatDoor
