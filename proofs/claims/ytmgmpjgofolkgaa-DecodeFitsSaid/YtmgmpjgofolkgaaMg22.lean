/- What the document's Take does with a TokProp. Conditions: a Builder in memory. -/
import Derived.Test.YtmgmpjgofolkgaaMg20
import Derived.Test.YtmgmpjgofolkgaaMg9
import Derived.Test.YtmgmpjgofolkgaaMg21
namespace Go.Proofs.Ytmgmpjgofolkgaa
open Go.RowKit

theorem elemProp : ElemN Try.prog 23 96 2 32 := elemN_mk (z := .agg #[.string ByteArray.empty, .string ByteArray.empty]) Try.underlying23 (by kernel_rfl) rfl (by decide)
theorem two_one (a b : ByteArray) : ∀ u ∈ (#[.string a, .string b] : Array Value).toList, u.oneCell' = true := by
  intro u hu
  simp at hu
  rcases hu with rfl | rfl <;> rfl
theorem len_snoc {α : Type} (l : List α) (x : α) : (l ++ [x]).length = l.length + 1 := by simp
set_option maxHeartbeats 1600000 in
set_option maxRecDepth 100000 in
theorem btake_late (B g : Nat) (op : List ND) (dn : Bool) (rt : ND) (ns pn : Nat) (vo : Value) (L : List ON) (x : ON) (r2 r3 : Value) (kd : Int) (nm vl : ByteArray) (w : World) (h : BX w B g ⟨op, dn, rt, ns, pn⟩ vo (L ++ [x]) r2 r3) (hk : kd = 3) (hd : dn = false) (hl : 0 < x.kl.length) :
    Calls Try.prog 34 #[.pointer (some ⟨g, 0, none⟩), .agg #[.int .i64 kd, .string nm, .string vl]] w fun e w' => e = .returned (.int .i64 6) ∧ ∃ vo' L' r2' r3', BX w' B g ⟨op, dn, rt, ns, pn⟩ vo' L' r2' r3' ∧ Moved w w' (fpO g vo (L ++ [x])) (fpO g vo' L') := by
  subst hd
  subst hk
  obtain ⟨W1, hW1⟩ : ∃ W1, W1 = w.alloc (.cells #[.int .i64 3, .string nm, .string vl] 70) := ⟨_, rfl⟩
  have hb1 : Below w.heap.size w W1 := by rw [hW1]; exact (Below.refl _ _).alloc (Nat.le_refl _) _
  have hT : Arr W1 w.heap.size 70 (tkC ⟨3, nm, vl⟩) := by rw [hW1]; exact Arr.new w _ _
  have hX := h.below hb1
  have hM1 : Moved w W1 (fpO g vo (L ++ [x])) (fpO g vo (L ++ [x])) := Moved.of_below hb1 _
  obtain ⟨A, cap, rfl, hcap, hcm, hrow⟩ := row_form h.row
  obtain ⟨go, rfl, _, hcell⟩ := hrow.resolve_left (by rw [len_snoc]; omega)
  have hx := h.each x (List.mem_append_right _ (List.mem_singleton.2 rfl))
  obtain ⟨P, pc, hxp, hpc, hpm, _⟩ := row_form hx.p
  obtain ⟨Q, kc, hxq, hkc, hkm, _⟩ := row_form hx.q
  unfold maxLen at hpm hkm
  have hce : ∀ j, j < 3 → w.cell? ⟨go, L.length * 3 + j, none⟩ = (onl x)[j]? := fun j hj => by
    rw [hcell _ (by rw [len_snoc]; omega), onL_at (L ++ [x]) (by rw [len_snoc]; omega) hj, getD_app_at]
  have n0 : W1.cell? ⟨go, L.length * 3, none⟩ = some (.string x.nm) := (cell_kept (Moved.of_below hb1 (fun _ => False)) id (hce 0 (by omega)) : _)
  have n1 : W1.cell? ⟨go, L.length * 3 + 1, none⟩ = some x.p := cell_kept (Moved.of_below hb1 (fun _ => False)) id (hce 1 (by omega))
  have n2 : W1.cell? ⟨go, L.length * 3 + 2, none⟩ = some x.q := cell_kept (Moved.of_below hb1 (fun _ => False)) id (hce 2 (by omega))
  unfold maxLen at hcm
  have c0 : W1.cell? ⟨g, 0, none⟩ = some (.slice (some ⟨go, 0, none⟩) (L ++ [x]).length cap) := hX.arr.cell 0
  have c1 : W1.cell? ⟨g, 1, none⟩ = some (.bool false) := hX.arr.cell 1
  have c5 : W1.cell? ⟨g, 5, none⟩ = some (.int .i64 (ns : Int)) := hX.arr.cell 5
  have c6 : W1.cell? ⟨g, 6, none⟩ = some (.int .i64 (pn : Int)) := hX.arr.cell 6
  have t0 : W1.cell? ⟨w.heap.size, 0, none⟩ = some (.int .i64 3) := hT.cell 0
  have t1 : W1.cell? ⟨w.heap.size, 1, none⟩ = some (.string nm) := hT.cell 1
  have t2 : W1.cell? ⟨w.heap.size, 2, none⟩ = some (.string vl) := hT.cell 2
  have f0 := hX.arr.frozen 0
  have f1 := hX.arr.frozen 1
  have f5 := hX.arr.frozen 5
  have f6 := hX.arr.frozen 6
  have HX := Lib.hid hX
  have HM := Lib.hid hM1
  have HT := Lib.hid hT
  have hgl := hX.arr.lt
  have htl := hT.lt
  rw [hxp] at n1
  rw [hxq] at n2
  have HXP := Lib.hid hxp
  have HXQ := Lib.hid hxq
  clear h hb1 hX hM1 hT hrow hcell hce hx hxp hxq
  have HN := Lib.hid (len_snoc L x)
  have hn1 : (L ++ [x]).length = L.length + 1 := len_snoc L x
  have e1 : ((L ++ [x]).length : Int) - 1 = (L.length : Int) := by omega
  have e0 : (((L ++ [x]).length : Int) == 0) = false := by simp; omega
  have i1 : (L.length : Int) < ((L ++ [x]).length : Int) := by omega
  have i2 : (0 : Int) ≤ (L.length : Int) := by omega
  clear hn1
  obtain ⟨k, hkk⟩ : ∃ k, k = L.length := ⟨_, rfl⟩
  obtain ⟨n, hnn⟩ : ∃ n, n = (L ++ [x]).length := ⟨_, rfl⟩
  have HKK := Lib.hid hkk
  have HNN := Lib.hid hnn
  rw [← hnn, ← hkk] at e1 i1
  rw [← hnn] at e0 c0 hcap HX HM HN
  rw [← hkk] at n0 n1 n2 i2 HN
  rw [← hnn]
  clear hnn hkk
  have d0 : (0 : Int) < (x.kl.length : Int) := by omega
  clear hl
  go_enter Try.func34, Try.ntmps34
  go_upto_region 1 with fail
  rw [← hW1]
  clear hW1
  go_wp2
  go_ret
  exact ⟨rfl, _, L ++ [x], _, _, HX.out, HM.out⟩

set_option maxHeartbeats 1600000 in
set_option maxRecDepth 100000 in
theorem btake_full (B g : Nat) (op : List ND) (dn : Bool) (rt : ND) (ns pn : Nat) (vo : Value) (L : List ON) (x : ON) (r2 r3 : Value) (kd : Int) (nm vl : ByteArray) (w : World) (h : BX w B g ⟨op, dn, rt, ns, pn⟩ vo (L ++ [x]) r2 r3) (hk : kd = 3) (hd : dn = false) (hl : x.kl.length = 0) (hp : pn = 256) :
    Calls Try.prog 34 #[.pointer (some ⟨g, 0, none⟩), .agg #[.int .i64 kd, .string nm, .string vl]] w fun e w' => e = .returned (.int .i64 7) ∧ ∃ vo' L' r2' r3', BX w' B g ⟨op, dn, rt, ns, pn⟩ vo' L' r2' r3' ∧ Moved w w' (fpO g vo (L ++ [x])) (fpO g vo' L') := by
  subst hd
  subst hk
  obtain ⟨W1, hW1⟩ : ∃ W1, W1 = w.alloc (.cells #[.int .i64 3, .string nm, .string vl] 70) := ⟨_, rfl⟩
  have hb1 : Below w.heap.size w W1 := by rw [hW1]; exact (Below.refl _ _).alloc (Nat.le_refl _) _
  have hT : Arr W1 w.heap.size 70 (tkC ⟨3, nm, vl⟩) := by rw [hW1]; exact Arr.new w _ _
  have hX := h.below hb1
  have hM1 : Moved w W1 (fpO g vo (L ++ [x])) (fpO g vo (L ++ [x])) := Moved.of_below hb1 _
  obtain ⟨A, cap, rfl, hcap, hcm, hrow⟩ := row_form h.row
  obtain ⟨go, rfl, _, hcell⟩ := hrow.resolve_left (by rw [len_snoc]; omega)
  have hx := h.each x (List.mem_append_right _ (List.mem_singleton.2 rfl))
  obtain ⟨P, pc, hxp, hpc, hpm, _⟩ := row_form hx.p
  obtain ⟨Q, kc, hxq, hkc, hkm, _⟩ := row_form hx.q
  unfold maxLen at hpm hkm
  have hce : ∀ j, j < 3 → w.cell? ⟨go, L.length * 3 + j, none⟩ = (onl x)[j]? := fun j hj => by
    rw [hcell _ (by rw [len_snoc]; omega), onL_at (L ++ [x]) (by rw [len_snoc]; omega) hj, getD_app_at]
  have n0 : W1.cell? ⟨go, L.length * 3, none⟩ = some (.string x.nm) := (cell_kept (Moved.of_below hb1 (fun _ => False)) id (hce 0 (by omega)) : _)
  have n1 : W1.cell? ⟨go, L.length * 3 + 1, none⟩ = some x.p := cell_kept (Moved.of_below hb1 (fun _ => False)) id (hce 1 (by omega))
  have n2 : W1.cell? ⟨go, L.length * 3 + 2, none⟩ = some x.q := cell_kept (Moved.of_below hb1 (fun _ => False)) id (hce 2 (by omega))
  unfold maxLen at hcm
  have c0 : W1.cell? ⟨g, 0, none⟩ = some (.slice (some ⟨go, 0, none⟩) (L ++ [x]).length cap) := hX.arr.cell 0
  have c1 : W1.cell? ⟨g, 1, none⟩ = some (.bool false) := hX.arr.cell 1
  have c5 : W1.cell? ⟨g, 5, none⟩ = some (.int .i64 (ns : Int)) := hX.arr.cell 5
  have c6 : W1.cell? ⟨g, 6, none⟩ = some (.int .i64 (pn : Int)) := hX.arr.cell 6
  have t0 : W1.cell? ⟨w.heap.size, 0, none⟩ = some (.int .i64 3) := hT.cell 0
  have t1 : W1.cell? ⟨w.heap.size, 1, none⟩ = some (.string nm) := hT.cell 1
  have t2 : W1.cell? ⟨w.heap.size, 2, none⟩ = some (.string vl) := hT.cell 2
  have f0 := hX.arr.frozen 0
  have f1 := hX.arr.frozen 1
  have f5 := hX.arr.frozen 5
  have f6 := hX.arr.frozen 6
  have HX := Lib.hid hX
  have HM := Lib.hid hM1
  have HT := Lib.hid hT
  have hgl := hX.arr.lt
  have htl := hT.lt
  rw [hxp] at n1
  rw [hxq] at n2
  have HXP := Lib.hid hxp
  have HXQ := Lib.hid hxq
  clear h hb1 hX hM1 hT hrow hcell hce hx hxp hxq
  have HN := Lib.hid (len_snoc L x)
  have hn1 : (L ++ [x]).length = L.length + 1 := len_snoc L x
  have e1 : ((L ++ [x]).length : Int) - 1 = (L.length : Int) := by omega
  have e0 : (((L ++ [x]).length : Int) == 0) = false := by simp; omega
  have i1 : (L.length : Int) < ((L ++ [x]).length : Int) := by omega
  have i2 : (0 : Int) ≤ (L.length : Int) := by omega
  clear hn1
  obtain ⟨k, hkk⟩ : ∃ k, k = L.length := ⟨_, rfl⟩
  obtain ⟨n, hnn⟩ : ∃ n, n = (L ++ [x]).length := ⟨_, rfl⟩
  have HKK := Lib.hid hkk
  have HNN := Lib.hid hnn
  rw [← hnn, ← hkk] at e1 i1
  rw [← hnn] at e0 c0 hcap HX HM HN
  rw [← hkk] at n0 n1 n2 i2 HN
  rw [← hnn]
  clear hnn hkk
  rw [hl] at n2
  have d1 : ((pn : Int) == 256) = true := by rw [hp]; rfl
  clear hl hp
  go_enter Try.func34, Try.ntmps34
  go_upto_region 1 with fail
  rw [← hW1]
  clear hW1
  go_wp2
  go_ret
  exact ⟨rfl, _, L ++ [x], _, _, HX.out, HM.out⟩

set_option maxHeartbeats 1600000 in
set_option maxRecDepth 100000 in
theorem btake_prop (B g : Nat) (op : List ND) (dn : Bool) (rt : ND) (ns pn : Nat) (vo : Value) (L : List ON) (x : ON) (r2 r3 : Value) (kd : Int) (nm vl : ByteArray) (w : World) (h : BX w B g ⟨op, dn, rt, ns, pn⟩ vo (L ++ [x]) r2 r3) (hk : kd = 3) (hd : dn = false) (hl : x.kl = []) (hp : pn < 256) (hps : x.ps.length ≤ 256) :
    Calls Try.prog 34 #[.pointer (some ⟨g, 0, none⟩), .agg #[.int .i64 kd, .string nm, .string vl]] w fun e w' => e = .returned (.int .i64 0) ∧ ∃ vo' L' r2' r3', BX w' B g ⟨L.map ON.nd ++ [.mk x.nm (x.ps ++ [⟨nm, vl⟩]) (x.kl.map KD.nd)], dn, rt, ns, pn + 1⟩ vo' L' r2' r3' ∧ Moved w w' (fpO g vo (L ++ [x])) (fpO g vo' L') := by
  subst hd
  subst hk
  obtain ⟨W1, hW1⟩ : ∃ W1, W1 = w.alloc (.cells #[.int .i64 3, .string nm, .string vl] 70) := ⟨_, rfl⟩
  have hb1 : Below w.heap.size w W1 := by rw [hW1]; exact (Below.refl _ _).alloc (Nat.le_refl _) _
  have hT : Arr W1 w.heap.size 70 (tkC ⟨3, nm, vl⟩) := by rw [hW1]; exact Arr.new w _ _
  have hX := h.below hb1
  have hM1 : Moved w W1 (fpO g vo (L ++ [x])) (fpO g vo (L ++ [x])) := Moved.of_below hb1 _
  obtain ⟨A, cap, rfl, hcap, hcm, hrow⟩ := row_form h.row
  obtain ⟨go, rfl, _, hcell⟩ := hrow.resolve_left (by rw [len_snoc]; omega)
  have hx := h.each x (List.mem_append_right _ (List.mem_singleton.2 rfl))
  obtain ⟨P, pc, hxp, hpc, hpm, _⟩ := row_form hx.p
  obtain ⟨Q, kc, hxq, hkc, hkm, _⟩ := row_form hx.q
  unfold maxLen at hpm hkm
  have hce : ∀ j, j < 3 → w.cell? ⟨go, L.length * 3 + j, none⟩ = (onl x)[j]? := fun j hj => by
    rw [hcell _ (by rw [len_snoc]; omega), onL_at (L ++ [x]) (by rw [len_snoc]; omega) hj, getD_app_at]
  have n0 : W1.cell? ⟨go, L.length * 3, none⟩ = some (.string x.nm) := (cell_kept (Moved.of_below hb1 (fun _ => False)) id (hce 0 (by omega)) : _)
  have n1 : W1.cell? ⟨go, L.length * 3 + 1, none⟩ = some x.p := cell_kept (Moved.of_below hb1 (fun _ => False)) id (hce 1 (by omega))
  have n2 : W1.cell? ⟨go, L.length * 3 + 2, none⟩ = some x.q := cell_kept (Moved.of_below hb1 (fun _ => False)) id (hce 2 (by omega))
  unfold maxLen at hcm
  have c0 : W1.cell? ⟨g, 0, none⟩ = some (.slice (some ⟨go, 0, none⟩) (L ++ [x]).length cap) := hX.arr.cell 0
  have c1 : W1.cell? ⟨g, 1, none⟩ = some (.bool false) := hX.arr.cell 1
  have c5 : W1.cell? ⟨g, 5, none⟩ = some (.int .i64 (ns : Int)) := hX.arr.cell 5
  have c6 : W1.cell? ⟨g, 6, none⟩ = some (.int .i64 (pn : Int)) := hX.arr.cell 6
  have t0 : W1.cell? ⟨w.heap.size, 0, none⟩ = some (.int .i64 3) := hT.cell 0
  have t1 : W1.cell? ⟨w.heap.size, 1, none⟩ = some (.string nm) := hT.cell 1
  have t2 : W1.cell? ⟨w.heap.size, 2, none⟩ = some (.string vl) := hT.cell 2
  have f0 := hX.arr.frozen 0
  have f1 := hX.arr.frozen 1
  have f5 := hX.arr.frozen 5
  have f6 := hX.arr.frozen 6
  have HX := Lib.hid hX
  have HM := Lib.hid hM1
  have HT := Lib.hid hT
  have hgl := hX.arr.lt
  have htl := hT.lt
  rw [hxp] at n1
  rw [hxq] at n2
  have HXP := Lib.hid hxp
  have HXQ := Lib.hid hxq
  clear h hb1 hX hM1 hT hrow hcell hce hx hxp hxq
  have HN := Lib.hid (len_snoc L x)
  have hn1 : (L ++ [x]).length = L.length + 1 := len_snoc L x
  have e1 : ((L ++ [x]).length : Int) - 1 = (L.length : Int) := by omega
  have e0 : (((L ++ [x]).length : Int) == 0) = false := by simp; omega
  have i1 : (L.length : Int) < ((L ++ [x]).length : Int) := by omega
  have i2 : (0 : Int) ≤ (L.length : Int) := by omega
  clear hn1
  obtain ⟨k, hkk⟩ : ∃ k, k = L.length := ⟨_, rfl⟩
  obtain ⟨n, hnn⟩ : ∃ n, n = (L ++ [x]).length := ⟨_, rfl⟩
  have HKK := Lib.hid hkk
  have HNN := Lib.hid hnn
  rw [← hnn, ← hkk] at e1 i1
  rw [← hnn] at e0 c0 hcap HX HM HN
  rw [← hkk] at n0 n1 n2 i2 HN
  rw [← hnn]
  clear hnn hkk
  have hl0 : x.kl.length = 0 := by rw [hl]; rfl
  rw [hl0] at n2
  have d1 : ((pn : Int) == 256) = false := by simp; omega
  have hA2 : Arr (W1.setCell ⟨g, 6, none⟩ (.int .i64 ((pn : Int) + 1))) g 77 (bdC (.slice (some ⟨go, 0, none⟩) n cap) ⟨op, false, rt, ns, pn + 1⟩ r2 r3) := HX.out.arr.put 6 _
  have hX2 := HX.out.cells (b' := ⟨op, false, rt, ns, pn + 1⟩) hA2 (gr_cell W1 g 6 _) rfl rfl
  have hne : w.heap.size ≠ g := fun e => by
    have h1 := HX.out.arr
    have h2 := HT.out
    rw [e] at h2
    unfold Arr at h1 h2
    rw [h1] at h2
    injection h2 with h2
    injection h2 with _ h2 _
    exact absurd h2 (by decide)
  have hT2 : Arr (W1.setCell ⟨g, 6, none⟩ (.int .i64 ((pn : Int) + 1))) w.heap.size 70 (tkC ⟨3, nm, vl⟩) := HT.out.far hne _
  have hgo : go ≠ g := fun e => ow_arr HX.out.arr HX.out.row tyneT.1 (by rw [← e]; rfl)
  have hgt : go ≠ w.heap.size := fun e => ow_arr HT.out HX.out.row (by decide) (by rw [← e]; rfl)
  have HX2 := Lib.hid hX2.1
  have HM2 := Lib.hid (HM.out.trans hX2.2)
  have HT2 := Lib.hid hT2
  have HL := Lib.hid hl
  clear hA2 hX2 hT2 HX HM HT hl hl0
  go_enter Try.func34, Try.ntmps34
  go_upto_region 1 with fail
  rw [← hW1]
  clear hW1
  go_upto_region 29 with fail
  clear c0 c1 c5 c6 t0 t1 t2 n0 n1 n2 f0 f1 f5 f6 hgl htl d1 e0
  generalize W1.setCell ⟨g, 6, none⟩ (.int .i64 ((pn : Int) + 1)) = W2 at *
  generalize w.heap.size = h8 at *
  have c0 : W2.cell? ⟨g, 0, none⟩ = some (.slice (some ⟨go, 0, none⟩) n cap) := HX2.out.arr.cell 0
  have t1 : W2.cell? ⟨h8, 1, none⟩ = some (.string nm) := HT2.out.cell 1
  have t2 : W2.cell? ⟨h8, 2, none⟩ = some (.string vl) := HT2.out.cell 2
  have HEL := Lib.hid elemProp
  have hba : Below W2.heap.size W2 (W2.alloc (.cells #[.string nm, .string vl] 96)).drew := ((Below.refl _ _).alloc (Nat.le_refl _) _).drew
  have hxm : x ∈ L ++ [x] := List.mem_append_right _ (List.mem_singleton.2 rfl)
  have hr2 := HX2.out.row
  rw [← HNN.out] at hr2
  have hc2 : ∀ j, j < 3 → W2.cell? ⟨go, k * 3 + j, none⟩ = (onl x)[j]? := fun j hj => by
    have hk1 : k < (L ++ [x]).length := by rw [← HNN.out, HN.out]; exact Nat.lt_succ_self _
    rw [hr2.cellAt _ (by rw [HN.out]; omega), onL_at (L ++ [x]) hk1 hj, HKK.out, getD_app_at]
  have p1 : W2.cell? ⟨go, k * 3 + 1, none⟩ = some (.slice P x.ps.length pc) := (hc2 1 (by omega)).trans (congrArg some HXP.out)
  have hxa := HX2.out.each x hxm
  have HXA := Lib.hid (HX2.out.below hba)
  have HROW := Lib.hid (ow_below hxa.p hba)
  rw [HXP.out] at HROW
  have HNEW : Hid (Arr (W2.alloc (.cells #[.string nm, .string vl] 96)).drew W2.heap.size 96 #[.string nm, .string vl]) := Arr.new W2 _ _
  have HBS : Hid (B ≤ (W2.alloc (.cells #[.string nm, .string vl] 96)).drew.heap.size) := by
    have := HX2.out.gB
    have := HX2.out.arr.lt
    have := hba.size
    show _ ≤ _
    omega
  have HTA := Lib.hid (HT2.out.below hba HT2.out.lt)
  have HS0 : Hid ((fun (w' : World) => w'.cell? ⟨g, 0, none⟩ = some (.slice (some ⟨go, 0, none⟩) n cap) ∧ w'.cell? ⟨h8, 1, none⟩ = some (.string nm) ∧ w'.cell? ⟨h8, 2, none⟩ = some (.string vl)) W2.drew) := ⟨c0, t1, t2⟩
  have HS1 : Hid ((fun (w' : World) => w'.cell? ⟨g, 0, none⟩ = some (.slice (some ⟨go, 0, none⟩) n cap) ∧ w'.cell? ⟨h8, 1, none⟩ = some (.string nm) ∧ w'.cell? ⟨h8, 2, none⟩ = some (.string vl)) (W2.alloc (.cells #[.string nm, .string vl] 96)).drew) := ⟨HXA.out.arr.cell 0, HTA.out.cell 1, HTA.out.cell 2⟩
  have HS6 : Hid (∀ w5 v, (fun (w' : World) => w'.cell? ⟨g, 0, none⟩ = some (.slice (some ⟨go, 0, none⟩) n cap) ∧ w'.cell? ⟨h8, 1, none⟩ = some (.string nm) ∧ w'.cell? ⟨h8, 2, none⟩ = some (.string vl)) w5 → (fun (w' : World) => w'.cell? ⟨g, 0, none⟩ = some (.slice (some ⟨go, 0, none⟩) n cap) ∧ w'.cell? ⟨h8, 1, none⟩ = some (.string nm) ∧ w'.cell? ⟨h8, 2, none⟩ = some (.string vl)) (w5.setCell ⟨go, k * 3 + 1, none⟩ v)) := fun w5 v ⟨h1, h2, h3⟩ =>
    ⟨(World.cell?_setCell_far _ _ _ _ hgo).trans h1, (World.cell?_setCell_far _ _ _ _ hgt).trans h2, (World.cell?_setCell_far _ _ _ _ hgt).trans h3⟩
  have pA : (W2.alloc (.cells #[.string nm, .string vl] 96)).drew.cell? ⟨go, k * 3 + 1, none⟩ = some (.slice P x.ps.length pc) := cell_kept (Moved.of_below hba (fun _ => False)) id p1
  have HF5 : Hid (∀ g5 cap5 w5, w5.ownsRow B 96 2 (.slice (some ⟨g5, 0, none⟩) (x.ps.length + 1) cap5) (x.ps.length + 1) (prL x.ps ++ [.string nm, .string vl]) → (W2.alloc (.cells #[.string nm, .string vl] 96)).drew.grownBy w5 (Value.slice P x.ps.length pc).ownBlock →
      (fun (w' : World) => w'.cell? ⟨g, 0, none⟩ = some (.slice (some ⟨go, 0, none⟩) n cap) ∧ w'.cell? ⟨h8, 1, none⟩ = some (.string nm) ∧ w'.cell? ⟨h8, 2, none⟩ = some (.string vl)) w5 ∧ w5.cell? ⟨go, k * 3 + 1, none⟩ = some (.slice P x.ps.length pc) ∧ w5.frozen? ⟨go, k * 3 + 1, none⟩ = false) := by
    intro g5 cap5 w5 q1 q2
    have hA5 := HXA.out.arr.gr q2 (ow_arr HXA.out.arr HROW.out tyneT.2.1)
    have hT5 := HTA.out.gr q2 (ow_arr HTA.out HROW.out (by decide))
    have hap : ∀ k', (Value.slice (some ⟨go, 0, none⟩) n cap).ownBlock = some k' → ¬ ownS (.slice P x.ps.length pc) k' := fun k' h1 h2 => apart_types HROW.out HXA.out.row tyneT.2.2 k' h2 h1
    have hR5 : w5.ownsRow B 26 3 (.slice (some ⟨go, 0, none⟩) n cap) n (onL (L ++ [x])) := by
      have h := HXA.out.row
      rw [← HNN.out] at h
      exact h.kept q2 (.inr fun e => hap go rfl e.symm)
    refine ⟨⟨hA5.cell 0, hT5.cell 1, hT5.cell 2⟩, ?_, hR5.frozenAt _⟩
    have hk1 : k < (L ++ [x]).length := by rw [← HNN.out, HN.out]; exact Nat.lt_succ_self _
    rw [hR5.cellAt _ (by rw [HN.out]; omega), onL_at (L ++ [x]) hk1 (by omega), HKK.out, getD_app_at, ← HXP.out]; rfl
  have HFI : Hid (∀ g5 cap5 w5, w5.ownsRow B 96 2 (.slice (some ⟨g5, 0, none⟩) (x.ps.length + 1) cap5) (x.ps.length + 1) (prL x.ps ++ [.string nm, .string vl]) → (W2.alloc (.cells #[.string nm, .string vl] 96)).drew.grownBy w5 (Value.slice P x.ps.length pc).ownBlock → ((Value.slice P x.ps.length pc).ownBlock = some g5 ∨ g5 = (W2.alloc (.cells #[.string nm, .string vl] 96)).drew.heap.size) →
      ∃ vo' L' r2' r3', BX (w5.setCell ⟨go, k * 3 + 1, none⟩ (.slice (some ⟨g5, 0, none⟩) (x.ps.length + 1) cap5)) B g ⟨L.map ON.nd ++ [.mk x.nm (x.ps ++ [⟨nm, vl⟩]) (x.kl.map KD.nd)], false, rt, ns, pn + 1⟩ vo' L' r2' r3' ∧ Moved w (w5.setCell ⟨go, k * 3 + 1, none⟩ (.slice (some ⟨g5, 0, none⟩) (x.ps.length + 1) cap5)) (fpO g (.slice (some ⟨go, 0, none⟩) n cap) (L ++ [x])) (fpO g vo' L')) := by
    intro g5 cap5 w5 q1 q2 q3
    have hA5 := HXA.out.arr.gr q2 (ow_arr HXA.out.arr HROW.out tyneT.2.1)
    have hap : ∀ k', (Value.slice (some ⟨go, 0, none⟩) n cap).ownBlock = some k' → ¬ ownS (.slice P x.ps.length pc) k' := fun k' h1 h2 => apart_types HROW.out HXA.out.row tyneT.2.2 k' h2 h1
    have hR5 : w5.ownsRow B 26 3 (.slice (some ⟨go, 0, none⟩) n cap) n (onL (L ++ [x])) := by
      have h := HXA.out.row
      rw [← HNN.out] at h
      exact h.kept q2 (.inr fun e => hap go rfl e.symm)
    have hst := hR5.stored (k * 3 + 1) (.slice (some ⟨g5, 0, none⟩) (x.ps.length + 1) cap5)
    have hse : (onL (L ++ [x])).set (k * 3 + 1) (.slice (some ⟨g5, 0, none⟩) (x.ps.length + 1) cap5) = onL (L ++ [⟨x.nm, x.ps ++ [⟨nm, vl⟩], x.kl, .slice (some ⟨g5, 0, none⟩) (x.ps.length + 1) cap5, x.q⟩]) := by
      rw [onL_app, onL_app, HKK.out]
      exact set_one (onL L) (.string x.nm) x.p x.q _ _ (by rw [onL_len])
    rw [hse] at hst
    have hfo := ownS_lies (n := x.ps.length + 1) (cap := cap5) q3
    have hfx : ∀ k', ownS (Value.slice P x.ps.length pc) k' ↔ ownS x.p k' := fun k' => by rw [HXP.out]
    have m0 : Moved W2 (W2.alloc (.cells #[.string nm, .string vl] 96)).drew (fun k' => ownS (.slice (some ⟨go, 0, none⟩) n cap) k' ∨ ownS x.p k') (fun k' => ownS (.slice (some ⟨go, 0, none⟩) n cap) k' ∨ ownS x.p k') := Moved.of_below hba _
    have m1 : Moved (W2.alloc (.cells #[.string nm, .string vl] 96)).drew w5 (fun k' => ownS (.slice (some ⟨go, 0, none⟩) n cap) k' ∨ ownS x.p k') (fun k' => ownS (.slice (some ⟨go, 0, none⟩) n cap) k' ∨ ownS (.slice (some ⟨g5, 0, none⟩) (x.ps.length + 1) cap5) k') := Moved.grown q2 (fun k' hk' => .inr ((hfx k').1 hk')) (fun k' hk' => by
      rcases hk' with hk' | hk'
      · exact .inl (.inl hk')
      · exact (hfo k' hk').imp (fun h => .inr ((hfx k').1 h)) id)
    have m2 : Moved w5 (w5.setCell ⟨go, k * 3 + 1, none⟩ (.slice (some ⟨g5, 0, none⟩) (x.ps.length + 1) cap5)) (fun k' => ownS (.slice (some ⟨go, 0, none⟩) n cap) k' ∨ ownS (.slice (some ⟨g5, 0, none⟩) (x.ps.length + 1) cap5) k') (fun k' => ownS (.slice (some ⟨go, 0, none⟩) n cap) k' ∨ ownS (.slice (some ⟨g5, 0, none⟩) (x.ps.length + 1) cap5) k') := Moved.grown hst.2 (fun k' hk' => by injection hk' with hk'; subst hk'; exact .inl rfl) (fun k' hk' => .inl hk')
    have hne5 : go ≠ g5 := fun e => by
      subst e
      exact apart_types q1 hR5 tyneT.2.2 go rfl rfl
    have hP5 := q1.kept (w' := w5.setCell ⟨go, k * 3 + 1, none⟩ (.slice (some ⟨g5, 0, none⟩) (x.ps.length + 1) cap5)) hst.2 (.inr fun e => hne5 (by injection e with e; exact e.symm))
    have hrl : n = L.length + 1 := by rw [HN.out, HKK.out]
    have hbp := bx_prop HX2.out ⟨nm, vl⟩ (b' := ⟨L.map ON.nd ++ [.mk x.nm (x.ps ++ [⟨nm, vl⟩]) (x.kl.map KD.nd)], false, rt, ns, pn + 1⟩) (p' := .slice (some ⟨g5, 0, none⟩) (x.ps.length + 1) cap5) (w' := w5.setCell ⟨go, k * 3 + 1, none⟩ (.slice (some ⟨g5, 0, none⟩) (x.ps.length + 1) cap5)) (hA5.far hgo.symm _) rfl rfl (by rw [prL_app]; exact hP5) (by rw [← hrl]; exact hst.1) (m0.trans (m1.trans m2)) (fun k' hk' => (hfo k' hk').imp (hfx k').1 fun h => Nat.le_trans hba.size h)
    exact ⟨_, _, _, _, hbp.1, HM2.out.trans hbp.2⟩
  clear HXA HTA HX2 HM2 HT2 hba hr2 hc2 hxa
  refine wp_region_held_drew (S := fun (w' : World) => w'.cell? ⟨g, 0, none⟩ = some (.slice (some ⟨go, 0, none⟩) n cap) ∧ w'.cell? ⟨h8, 1, none⟩ = some (.string nm) ∧ w'.cell? ⟨h8, 2, none⟩ = some (.string vl)) (by kernel_rfl) (by (first | exact HS0.out | exact HS1.out | assumption | exact HS6.out _ _ (by assumption))) (fun hHeld => ?_)
  refine takeH 0 173 rfl rfl (v := ?_) (by kernel_rfl) (by kernel_rfl) (by kernel_rfl) (fun _ _ _ h => h) (Or.inl ⟨by rfl, ?_⟩) hHeld ?_
  rotate_left 1
  · (intro w hSw; (try dsimp only at hSw); go_simp; try (with_reducible rfl))
  (try simp only [Act.put]); (try simp only [List.setIfInBounds_toArray]); (try simp only [List.set_cons_succ]); (try simp only [List.set_cons_zero])
  refine takeH 1 174 rfl rfl (v := ?_) (by kernel_rfl) (by kernel_rfl) (by kernel_rfl) (fun _ _ _ h => h) (Or.inl ⟨by rfl, ?_⟩) hHeld ?_
  rotate_left 1
  · (intro w hSw; (try dsimp only at hSw); go_simp; try (with_reducible rfl))
  (try simp only [Act.put]); (try simp only [List.setIfInBounds_toArray]); (try simp only [List.set_cons_succ]); (try simp only [List.set_cons_zero])
  refine takeH 2 175 rfl rfl (v := ?_) (by kernel_rfl) (by kernel_rfl) (by kernel_rfl) (fun _ _ _ h => h) (Or.inl ⟨by rfl, ?_⟩) hHeld ?_
  rotate_left 1
  · (intro w hSw; (try dsimp only at hSw); go_simp; try (with_reducible rfl))
  (try simp only [Act.put]); (try simp only [List.setIfInBounds_toArray]); (try simp only [List.set_cons_succ]); (try simp only [List.set_cons_zero])
  refine takeH 3 176 rfl rfl (v := ?_) (by kernel_rfl) (by kernel_rfl) (by kernel_rfl) (fun _ _ _ h => h) (Or.inl ⟨by rfl, ?_⟩) hHeld ?_
  rotate_left 1
  · (intro w hSw; (try dsimp only at hSw); go_simp; try (with_reducible rfl))
  (try simp only [Act.put]); (try simp only [List.setIfInBounds_toArray]); (try simp only [List.set_cons_succ]); (try simp only [List.set_cons_zero])
  refine takeH 4 177 rfl rfl (v := ?_) (by kernel_rfl) (by kernel_rfl) (by kernel_rfl) (fun _ _ _ h => h) (Or.inl ⟨by rfl, ?_⟩) hHeld ?_
  rotate_left 1
  · (intro w hSw; (try dsimp only at hSw); go_simp; try (with_reducible rfl))
  (try simp only [Act.put]); (try simp only [List.setIfInBounds_toArray]); (try simp only [List.set_cons_succ]); (try simp only [List.set_cons_zero])
  refine takeH 5 178 rfl rfl (v := ?_) (by kernel_rfl) (by kernel_rfl) (by kernel_rfl) (fun _ _ _ h => h) (Or.inl ⟨by rfl, ?_⟩) hHeld ?_
  rotate_left 1
  · (intro w hSw; (try dsimp only at hSw); go_simp; try (with_reducible rfl))
  (try simp only [Act.put]); (try simp only [List.setIfInBounds_toArray]); (try simp only [List.set_cons_succ]); (try simp only [List.set_cons_zero])
  refine takeH 6 179 rfl rfl (v := ?_) (by kernel_rfl) (by kernel_rfl) (by kernel_rfl) (fun _ _ _ h => h) (Or.inl ⟨by rfl, ?_⟩) hHeld ?_
  rotate_left 1
  · (intro w hSw; (try dsimp only at hSw); go_simp; try (with_reducible rfl))
  (try simp only [Act.put]); (try simp only [List.setIfInBounds_toArray]); (try simp only [List.set_cons_succ]); (try simp only [List.set_cons_zero])
  refine takeH 7 180 rfl rfl (v := ?_) (by kernel_rfl) (by kernel_rfl) (by kernel_rfl) (fun _ _ _ h => h) (Or.inl ⟨by rfl, ?_⟩) hHeld ?_
  rotate_left 1
  · (intro w hSw; (try dsimp only at hSw); go_simp; try (with_reducible rfl))
  (try simp only [Act.put]); (try simp only [List.setIfInBounds_toArray]); (try simp only [List.set_cons_succ]); (try simp only [List.set_cons_zero])
  refine takeH 8 181 rfl rfl (v := ?_) (by kernel_rfl) (by kernel_rfl) (by kernel_rfl) (fun _ _ _ h => h) (Or.inl ⟨by rfl, ?_⟩) hHeld ?_
  rotate_left 1
  · (intro w hSw; (try dsimp only at hSw); go_simp; try (with_reducible rfl))
  (try simp only [Act.put]); (try simp only [List.setIfInBounds_toArray]); (try simp only [List.set_cons_succ]); (try simp only [List.set_cons_zero])
  refine takeH 9 182 rfl rfl (v := ?_) (by kernel_rfl) (by kernel_rfl) (by kernel_rfl) (fun _ _ _ h => h) (Or.inl ⟨by rfl, ?_⟩) hHeld ?_
  rotate_left 1
  · (intro w hSw; (try dsimp only at hSw); go_simp; try (with_reducible rfl))
  (try simp only [Act.put]); (try simp only [List.setIfInBounds_toArray]); (try simp only [List.set_cons_succ]); (try simp only [List.set_cons_zero])
  refine takeH 10 183 rfl rfl (v := ?_) (by kernel_rfl) (by kernel_rfl) (by kernel_rfl) (fun _ _ _ h => h) (Or.inl ⟨by rfl, ?_⟩) hHeld ?_
  rotate_left 1
  · (intro w hSw; (try dsimp only at hSw); go_simp; try (with_reducible rfl))
  (try simp only [Act.put]); (try simp only [List.setIfInBounds_toArray]); (try simp only [List.set_cons_succ]); (try simp only [List.set_cons_zero])
  refine takeH 11 184 rfl rfl (v := ?_) (by kernel_rfl) (by kernel_rfl) (by kernel_rfl) (fun _ _ _ h => h) (Or.inl ⟨by rfl, ?_⟩) hHeld ?_
  rotate_left 1
  · (intro w hSw; (try dsimp only at hSw); go_simp; try (with_reducible rfl))
  (try simp only [Act.put]); (try simp only [List.setIfInBounds_toArray]); (try simp only [List.set_cons_succ]); (try simp only [List.set_cons_zero])
  refine takeH 13 186 rfl rfl (v := ?_) (by kernel_rfl) (by kernel_rfl) (by kernel_rfl) (fun _ _ _ h => h) (Or.inl ⟨by rfl, ?_⟩) hHeld ?_
  rotate_left 1
  · (intro w hSw; (try dsimp only at hSw); go_simp; try (with_reducible rfl))
  (try simp only [Act.put]); (try simp only [List.setIfInBounds_toArray]); (try simp only [List.set_cons_succ]); (try simp only [List.set_cons_zero])
  refine takeH 14 187 rfl rfl (v := ?_) (by kernel_rfl) (by kernel_rfl) (by kernel_rfl) (fun _ _ _ h => h) (Or.inl ⟨by rfl, ?_⟩) hHeld ?_
  rotate_left 1
  · (intro w hSw; (try dsimp only at hSw); go_simp; try (with_reducible rfl))
  (try simp only [Act.put]); (try simp only [List.setIfInBounds_toArray]); (try simp only [List.set_cons_succ]); (try simp only [List.set_cons_zero])
  refine takeH 15 188 rfl rfl (v := ?_) (by kernel_rfl) (by kernel_rfl) (by kernel_rfl) (fun _ _ _ h => h) (Or.inl ⟨by rfl, ?_⟩) hHeld ?_
  rotate_left 1
  · (intro w hSw; (try dsimp only at hSw); go_simp; try (with_reducible rfl))
  (try simp only [Act.put]); (try simp only [List.setIfInBounds_toArray]); (try simp only [List.set_cons_succ]); (try simp only [List.set_cons_zero])
  refine takeH 16 189 rfl rfl (v := ?_) (by kernel_rfl) (by kernel_rfl) (by kernel_rfl) (fun _ _ _ h => h) (Or.inl ⟨by rfl, ?_⟩) hHeld ?_
  rotate_left 1
  · (intro w hSw; (try dsimp only at hSw); go_simp; try (with_reducible rfl))
  (try simp only [Act.put]); (try simp only [List.setIfInBounds_toArray]); (try simp only [List.set_cons_succ]); (try simp only [List.set_cons_zero])
  refine takeH 17 190 rfl rfl (v := ?_) (by kernel_rfl) (by kernel_rfl) (by kernel_rfl) (fun _ _ _ h => h) (Or.inl ⟨by rfl, ?_⟩) hHeld ?_
  rotate_left 1
  · (intro w hSw; (try dsimp only at hSw); go_simp; try (with_reducible rfl))
  (try simp only [Act.put]); (try simp only [List.setIfInBounds_toArray]); (try simp only [List.set_cons_succ]); (try simp only [List.set_cons_zero])
  refine wpAnyH_ready (rs := [12, 18]) (by kernel_rfl) (by simp) (AllReadyH.cons rfl (fun K hK => ?_) (AllReadyH.cons rfl (fun K hK => ?_) AllReadyH.nil))
  · go_simp
    refine hK.out _ _ (by (first | exact HS0.out | exact HS1.out | assumption | exact HS6.out _ _ (by assumption))) (fun hHeld => ?_)
    clear hK K
    (try simp only [Act.put]); (try simp only [List.setIfInBounds_toArray]); (try simp only [List.set_cons_succ]); (try simp only [List.set_cons_zero])
    refine wpAnyH_ready (rs := [18]) (by kernel_rfl) (by simp) (AllReadyH.cons rfl (fun K hK => ?_) AllReadyH.nil)
    go_simp
    refine hK.out _ _ (by (first | exact HS0.out | exact HS1.out | assumption | exact HS6.out _ _ (by assumption))) (fun hHeld => ?_)
    clear hK K
    (try simp only [Act.put]); (try simp only [List.setIfInBounds_toArray]); (try simp only [List.set_cons_succ]); (try simp only [List.set_cons_zero])
    refine wpAnyH_ready (rs := [19]) (by kernel_rfl) (by simp) (AllReadyH.cons rfl (fun K hK => ?_) AllReadyH.nil)
    refine step_append_at (by rfl) _ _ _ (by rfl) 96 2 32 HEL B (.slice P x.ps.length pc) x.ps.length (prL x.ps) (by rfl) HROW.out W2.heap.size #[.string nm, .string vl] HNEW.out rfl (two_one nm vl) (by rfl) (by unfold maxLen; omega) (by omega) HBS.out ?_
    intro g5 cap5 w5 q1 q2 q3 q4
    obtain ⟨hs5, y2, y3⟩ := HF5.out g5 cap5 w5 q1 q2
    (try simp only [Act.put]); (try simp only [List.setIfInBounds_toArray]); (try simp only [List.set_cons_succ]); (try simp only [List.set_cons_zero])
    refine hK.out _ _ (by (first | exact HS0.out | exact HS1.out | assumption | exact HS6.out _ _ (by assumption))) (fun hHeld => ?_)
    clear hK K
    (try simp only [Act.put]); (try simp only [List.setIfInBounds_toArray]); (try simp only [List.set_cons_succ]); (try simp only [List.set_cons_zero])
    refine takeH 20 193 rfl rfl (v := ?_) (by kernel_rfl) (by kernel_rfl) (by kernel_rfl) (fun _ _ _ h => h) (Or.inl ⟨by rfl, ?_⟩) hHeld ?_
    rotate_left 1
    · (intro w hSw; (try dsimp only at hSw); go_simp; try (with_reducible rfl))
    (try simp only [Act.put]); (try simp only [List.setIfInBounds_toArray]); (try simp only [List.set_cons_succ]); (try simp only [List.set_cons_zero])
    refine takeH 21 194 rfl rfl (v := ?_) (by kernel_rfl) (by kernel_rfl) (by kernel_rfl) (fun _ _ _ h => h) (Or.inl ⟨by rfl, ?_⟩) hHeld ?_
    rotate_left 1
    · (intro w hSw; (try dsimp only at hSw); go_simp; try (with_reducible rfl))
    (try simp only [Act.put]); (try simp only [List.setIfInBounds_toArray]); (try simp only [List.set_cons_succ]); (try simp only [List.set_cons_zero])
    refine wpAnyH_ready (rs := [22]) (by kernel_rfl) (by simp) (AllReadyH.cons rfl (fun K hK => ?_) AllReadyH.nil)
    go_simp
    refine hK.out _ _ (by (first | exact HS0.out | exact HS1.out | assumption | exact HS6.out _ _ (by assumption))) (fun hHeld => ?_)
    clear hK K
    (try simp only [Act.put]); (try simp only [List.setIfInBounds_toArray]); (try simp only [List.set_cons_succ]); (try simp only [List.set_cons_zero])
    refine wpAnyH_done (by kernel_rfl) ?_ _
    have HE := Lib.hid (HFI.out g5 cap5 w5 q1 q2 q3)
    clear hs5 y2 y3 q1 q2 q3 q4 HF5 HFI HROW HNEW HBS pA HEL HS0 HS1 HS6 hHeld c0 t1 t2 p1
    go_wp2
    go_ret
    exact ⟨rfl, HE.out⟩
  · go_simp
    refine hK.out _ _ (by (first | exact HS0.out | exact HS1.out | assumption | exact HS6.out _ _ (by assumption))) (fun hHeld => ?_)
    clear hK K
    (try simp only [Act.put]); (try simp only [List.setIfInBounds_toArray]); (try simp only [List.set_cons_succ]); (try simp only [List.set_cons_zero])
    refine wpAnyH_ready (rs := [12]) (by kernel_rfl) (by simp) (AllReadyH.cons rfl (fun K hK => ?_) AllReadyH.nil)
    go_simp
    refine hK.out _ _ (by (first | exact HS0.out | exact HS1.out | assumption | exact HS6.out _ _ (by assumption))) (fun hHeld => ?_)
    clear hK K
    (try simp only [Act.put]); (try simp only [List.setIfInBounds_toArray]); (try simp only [List.set_cons_succ]); (try simp only [List.set_cons_zero])
    refine wpAnyH_ready (rs := [19]) (by kernel_rfl) (by simp) (AllReadyH.cons rfl (fun K hK => ?_) AllReadyH.nil)
    refine step_append_at (by rfl) _ _ _ (by rfl) 96 2 32 HEL B (.slice P x.ps.length pc) x.ps.length (prL x.ps) (by rfl) HROW.out W2.heap.size #[.string nm, .string vl] HNEW.out rfl (two_one nm vl) (by rfl) (by unfold maxLen; omega) (by omega) HBS.out ?_
    intro g5 cap5 w5 q1 q2 q3 q4
    obtain ⟨hs5, y2, y3⟩ := HF5.out g5 cap5 w5 q1 q2
    (try simp only [Act.put]); (try simp only [List.setIfInBounds_toArray]); (try simp only [List.set_cons_succ]); (try simp only [List.set_cons_zero])
    refine hK.out _ _ (by (first | exact HS0.out | exact HS1.out | assumption | exact HS6.out _ _ (by assumption))) (fun hHeld => ?_)
    clear hK K
    (try simp only [Act.put]); (try simp only [List.setIfInBounds_toArray]); (try simp only [List.set_cons_succ]); (try simp only [List.set_cons_zero])
    refine takeH 20 193 rfl rfl (v := ?_) (by kernel_rfl) (by kernel_rfl) (by kernel_rfl) (fun _ _ _ h => h) (Or.inl ⟨by rfl, ?_⟩) hHeld ?_
    rotate_left 1
    · (intro w hSw; (try dsimp only at hSw); go_simp; try (with_reducible rfl))
    (try simp only [Act.put]); (try simp only [List.setIfInBounds_toArray]); (try simp only [List.set_cons_succ]); (try simp only [List.set_cons_zero])
    refine takeH 21 194 rfl rfl (v := ?_) (by kernel_rfl) (by kernel_rfl) (by kernel_rfl) (fun _ _ _ h => h) (Or.inl ⟨by rfl, ?_⟩) hHeld ?_
    rotate_left 1
    · (intro w hSw; (try dsimp only at hSw); go_simp; try (with_reducible rfl))
    (try simp only [Act.put]); (try simp only [List.setIfInBounds_toArray]); (try simp only [List.set_cons_succ]); (try simp only [List.set_cons_zero])
    refine wpAnyH_ready (rs := [22]) (by kernel_rfl) (by simp) (AllReadyH.cons rfl (fun K hK => ?_) AllReadyH.nil)
    go_simp
    refine hK.out _ _ (by (first | exact HS0.out | exact HS1.out | assumption | exact HS6.out _ _ (by assumption))) (fun hHeld => ?_)
    clear hK K
    (try simp only [Act.put]); (try simp only [List.setIfInBounds_toArray]); (try simp only [List.set_cons_succ]); (try simp only [List.set_cons_zero])
    refine wpAnyH_done (by kernel_rfl) ?_ _
    have HE := Lib.hid (HFI.out g5 cap5 w5 q1 q2 q3)
    clear hs5 y2 y3 q1 q2 q3 q4 HF5 HFI HROW HNEW HBS pA HEL HS0 HS1 HS6 hHeld c0 t1 t2 p1
    go_wp2
    go_ret
    exact ⟨rfl, HE.out⟩
end Go.Proofs.Ytmgmpjgofolkgaa
