/- What the document's Take does with a TokEnd that closes the root. Conditions: a Builder in memory. -/
import Derived.Test.YtmgmpjgofolkgaaMg22
import Derived.Deep.RegionLaw
namespace Go.Proofs.Ytmgmpjgofolkgaa
open Go.RowKit

set_option maxHeartbeats 1600000 in
set_option maxRecDepth 100000 in
theorem btake_root (B g : Nat) (op : List ND) (dn : Bool) (rt : ND) (ns pn : Nat) (vo : Value) (L : List ON) (x : ON) (r2 r3 : Value) (kd : Int) (nm vl : ByteArray) (w : World) (h : BX w B g ⟨op, dn, rt, ns, pn⟩ vo (L ++ [x]) r2 r3) (hk : kd = 2) (hd : dn = false) (hL : L = []) :
    Calls Try.prog 34 #[.pointer (some ⟨g, 0, none⟩), .agg #[.int .i64 kd, .string nm, .string vl]] w fun e w' => e = .returned (.int .i64 0) ∧ ∃ vo' L' r2' r3', BX w' B g ⟨[], true, x.nd, ns, pn⟩ vo' L' r2' r3' ∧ Moved w w' (fpO g vo (L ++ [x])) (fpO g vo' L') := by
  subst hd
  subst hk
  obtain ⟨W1, hW1⟩ : ∃ W1, W1 = w.alloc (.cells #[.int .i64 2, .string nm, .string vl] 70) := ⟨_, rfl⟩
  have hb1 : Below w.heap.size w W1 := by rw [hW1]; exact (Below.refl _ _).alloc (Nat.le_refl _) _
  have hT : Arr W1 w.heap.size 70 (tkC ⟨2, nm, vl⟩) := by rw [hW1]; exact Arr.new w _ _
  have hX := h.below hb1
  have hM1 : Moved w W1 (fpO g vo (L ++ [x])) (fpO g vo (L ++ [x])) := Moved.of_below hb1 _
  obtain ⟨A, cap, rfl, hcap, hcm, hrow⟩ := row_form h.row
  obtain ⟨go, rfl, _, hcell⟩ := hrow.resolve_left (by rw [len_snoc]; omega)
  have hx := h.each x (List.mem_append_right _ (List.mem_singleton.2 rfl))
  obtain ⟨P, pc, hxp, hpc, hpm, _⟩ := row_form hx.p
  obtain ⟨Q, kc, hxq, hkc, hkm, _⟩ := row_form hx.q
  unfold maxLen at hpm hkm
  have hce : ∀ j, j < 3 → w.cell? ⟨go, L.length * 3 + j, none⟩ = (onl x)[j]? := fun j hj => by
    rw [hcell _ (by rw [len_snoc]; omega), onL_at (L ++ [x]) (by rw [len_snoc]; omega) hj, getD_app_at]
  have n0 : W1.cell? ⟨go, L.length * 3, none⟩ = some (.string x.nm) := (cell_kept (Moved.of_below hb1 (fun _ => False)) id (hce 0 (by omega)) : _)
  have n1 : W1.cell? ⟨go, L.length * 3 + 1, none⟩ = some x.p := cell_kept (Moved.of_below hb1 (fun _ => False)) id (hce 1 (by omega))
  have n2 : W1.cell? ⟨go, L.length * 3 + 2, none⟩ = some x.q := cell_kept (Moved.of_below hb1 (fun _ => False)) id (hce 2 (by omega))
  unfold maxLen at hcm
  have c0 : W1.cell? ⟨g, 0, none⟩ = some (.slice (some ⟨go, 0, none⟩) (L ++ [x]).length cap) := hX.arr.cell 0
  have c1 : W1.cell? ⟨g, 1, none⟩ = some (.bool false) := hX.arr.cell 1
  have c5 : W1.cell? ⟨g, 5, none⟩ = some (.int .i64 (ns : Int)) := hX.arr.cell 5
  have c6 : W1.cell? ⟨g, 6, none⟩ = some (.int .i64 (pn : Int)) := hX.arr.cell 6
  have t0 : W1.cell? ⟨w.heap.size, 0, none⟩ = some (.int .i64 2) := hT.cell 0
  have t1 : W1.cell? ⟨w.heap.size, 1, none⟩ = some (.string nm) := hT.cell 1
  have t2 : W1.cell? ⟨w.heap.size, 2, none⟩ = some (.string vl) := hT.cell 2
  have f0 := hX.arr.frozen 0
  have f1 := hX.arr.frozen 1
  have f5 := hX.arr.frozen 5
  have f6 := hX.arr.frozen 6
  have HX := Lib.hid hX
  have HM := Lib.hid hM1
  have HT := Lib.hid hT
  have hgl := hX.arr.lt
  have htl := hT.lt
  rw [hxp] at n1
  rw [hxq] at n2
  have HXP := Lib.hid hxp
  have HXQ := Lib.hid hxq
  clear h hb1 hX hM1 hT hrow hcell hce hx hxp hxq
  have HN := Lib.hid (len_snoc L x)
  have hn1 : (L ++ [x]).length = L.length + 1 := len_snoc L x
  have e1 : ((L ++ [x]).length : Int) - 1 = (L.length : Int) := by omega
  have e0 : (((L ++ [x]).length : Int) == 0) = false := by simp; omega
  have i1 : (L.length : Int) < ((L ++ [x]).length : Int) := by omega
  have i2 : (0 : Int) ≤ (L.length : Int) := by omega
  clear hn1
  obtain ⟨k, hkk⟩ : ∃ k, k = L.length := ⟨_, rfl⟩
  obtain ⟨n, hnn⟩ : ∃ n, n = (L ++ [x]).length := ⟨_, rfl⟩
  have HKK := Lib.hid hkk
  have HNN := Lib.hid hnn
  rw [← hnn, ← hkk] at e1 i1
  rw [← hnn] at e0 c0 hcap HX HM HN
  rw [← hkk] at n0 n1 n2 i2 HN
  rw [← hnn]
  clear hnn hkk
  have HK0 : Hid (k = 0) := by unfold Hid; rw [HKK.out, hL]; rfl
  have ek : ((k : Int) == 0) = true := by rw [HK0.out]; rfl
  have HL := Lib.hid hL
  clear hL
  have hne : w.heap.size ≠ g := fun e => by
    have h1 := HX.out.arr
    have h2 := HT.out
    rw [e] at h2
    unfold Arr at h1 h2
    rw [h1] at h2
    injection h2 with h2
    injection h2 with _ h2 _
    exact absurd h2 (by decide)
  have hba : Below W1.heap.size W1 (W1.alloc (.cells #[.string x.nm, .slice P x.ps.length pc, .slice Q x.kl.length kc] 26)) := (Below.refl _ _).alloc (Nat.le_refl _) _
  have HX2 := Lib.hid (HX.out.below hba)
  have HM2 : Hid (Moved w (W1.alloc (.cells #[.string x.nm, .slice P x.ps.length pc, .slice Q x.kl.length kc] 26)) (fpO g (.slice (some ⟨go, 0, none⟩) n cap) (L ++ [x])) (fpO g (.slice (some ⟨go, 0, none⟩) n cap) (L ++ [x]))) := HM.out.trans (Moved.of_below hba _)
  have HN2 : Hid (Arr (W1.alloc (.cells #[.string x.nm, .slice P x.ps.length pc, .slice Q x.kl.length kc] 26)) W1.heap.size 26 #[.string x.nm, .slice P x.ps.length pc, .slice Q x.kl.length kc]) := Arr.new W1 _ _
  have hgk : g < W1.heap.size := HX.out.arr.lt
  have hgo9 : go < W1.heap.size := (HX.out.row.lt go rfl).2
  clear hba HX HM
  go_enter Try.func34, Try.ntmps34
  go_upto_region 1 with fail
  rw [← hW1]
  clear hW1
  go_upto_region 8 with fail
  clear c0 c1 c5 c6 t0 t1 t2 n0 n1 n2 f0 f1 f5 f6 hgl htl e0
  generalize W1.alloc (.cells #[.string x.nm, .slice P x.ps.length pc, .slice Q x.kl.length kc] 26) = W2 at *
  generalize W1.heap.size = h9 at *
  have c0 : W2.cell? ⟨g, 0, none⟩ = some (.slice (some ⟨go, 0, none⟩) n cap) := HX2.out.arr.cell 0
  have f0 := HX2.out.arr.frozen 0
  have hkc : (k : Int) ≤ (cap : Int) := by omega
  have hkn : k ≤ cap := by omega
  have hA3 : Arr (W2.setCell ⟨g, 0, none⟩ (.slice (some ⟨go, 0, none⟩) k cap)) g 77 (bdC (.slice (some ⟨go, 0, none⟩) k cap) ⟨L.map ON.nd, false, rt, ns, pn⟩ r2 r3) := HX2.out.arr.put 0 _
  have hp3 := bx_pop HX2.out (b' := ⟨L.map ON.nd, false, rt, ns, pn⟩) hA3 (gr_cell W2 g 0 _) rfl rfl ⟨some ⟨go, 0, none⟩, cap, by rw [HN.out, HKK.out], by rw [HKK.out]⟩
  have HX3 := Lib.hid hp3.1
  have HM3 := Lib.hid (HM2.out.trans hp3.2.1)
  have HD3 := Lib.hid hp3.2.2
  have hgh : g ≠ h9 := by omega
  have HN3 := Lib.hid (HN2.out.far (Ne.symm hgh) (j := 0) (.slice (some ⟨go, 0, none⟩) k cap))
  clear hA3 hp3 HX2 HM2 HN2
  go_upto_region 9 with fail
  clear c0 f0
  generalize W2.setCell ⟨g, 0, none⟩ (.slice (some ⟨go, 0, none⟩) k cap) = W3 at *
  have c1 : W3.cell? ⟨g, 1, none⟩ = some (.bool false) := HX3.out.arr.cell 1
  have c2 : W3.cell? ⟨g, 2, none⟩ = some (.string rt.nm) := HX3.out.arr.cell 2
  have c3 : W3.cell? ⟨g, 3, none⟩ = some r2 := HX3.out.arr.cell 3
  have c4 : W3.cell? ⟨g, 4, none⟩ = some r3 := HX3.out.arr.cell 4
  have f1 := HX3.out.arr.frozen 1
  have f2 := HX3.out.arr.frozen 2
  have f3 := HX3.out.arr.frozen 3
  have f4 := HX3.out.arr.frozen 4
  have d0 : W3.cell? ⟨h9, 0, none⟩ = some (.string x.nm) := HN3.out.cell 0
  have d1 : W3.cell? ⟨h9, 1, none⟩ = some (.slice P x.ps.length pc) := HN3.out.cell 1
  have d2 : W3.cell? ⟨h9, 2, none⟩ = some (.slice Q x.kl.length kc) := HN3.out.cell 2
  have HFI : Hid (∃ vo' L' r2' r3', BX ((((W3.setCell ⟨g, 2, none⟩ (.string x.nm)).setCell ⟨g, 3, none⟩ (.slice P x.ps.length pc)).setCell ⟨g, 4, none⟩ (.slice Q x.kl.length kc)).setCell ⟨g, 1, none⟩ (.bool true)) B g ⟨[], true, x.nd, ns, pn⟩ vo' L' r2' r3' ∧ Moved w ((((W3.setCell ⟨g, 2, none⟩ (.string x.nm)).setCell ⟨g, 3, none⟩ (.slice P x.ps.length pc)).setCell ⟨g, 4, none⟩ (.slice Q x.kl.length kc)).setCell ⟨g, 1, none⟩ (.bool true)) (fpO g (.slice (some ⟨go, 0, none⟩) n cap) (L ++ [x])) (fpO g vo' L')) := by
    have hA := (((HX3.out.arr.put 2 (.string x.nm)).put 3 (.slice P x.ps.length pc)).put 4 (.slice Q x.kl.length kc)).put 1 (.bool true)
    have hD := HD3.out
    rw [HXP.out, HXQ.out] at hD
    have hb := bx_root HX3.out hD (b' := ⟨[], true, x.nd, ns, pn⟩) hA (World.grownBy.trans (gr_cell _ g 2 _) (World.grownBy.trans (gr_cell _ g 3 _) (World.grownBy.trans (gr_cell _ g 4 _) (gr_cell _ g 1 _)))) (by rw [HL.out]; rfl) rfl
    exact ⟨_, _, _, _, hb.1, HM3.out.trans hb.2⟩
  clear HX3 HM3 HD3 HN3
  go_wp2
  go_ret
  exact ⟨rfl, HFI.out⟩
end Go.Proofs.Ytmgmpjgofolkgaa
