/- What the document's Take does with a TokEnd that closes a kid. Conditions: a Builder in memory. -/
import Derived.Test.YtmgmpjgofolkgaaMg23
import Derived.Test.YtmgmpjgofolkgaaMg21
namespace Go.Proofs.Ytmgmpjgofolkgaa
open Go.RowKit

theorem cn_one (a : ByteArray) (b c : Value) (hb : b.oneCell' = true) (hc : c.oneCell' = true) : ∀ u ∈ (#[.string a, b, c] : Array Value).toList, u.oneCell' = true := by
  intro u hu
  simp at hu
  rcases hu with rfl | rfl | rfl
  · rfl
  · exact hb
  · exact hc

set_option maxHeartbeats 1600000 in
set_option maxRecDepth 100000 in
theorem btake_kid (B g : Nat) (op : List ND) (dn : Bool) (rt : ND) (ns pn : Nat) (vo : Value) (L : List ON) (x : ON) (r2 r3 : Value) (kd : Int) (nm vl : ByteArray) (w : World) (h : BX w B g ⟨op, dn, rt, ns, pn⟩ vo (L ++ [x]) r2 r3) (hk : kd = 2) (hd : dn = false) (L1 : List ON) (z : ON) (hL : L = L1 ++ [z]) (hzl : z.kl.length ≤ 64) :
    Calls Try.prog 34 #[.pointer (some ⟨g, 0, none⟩), .agg #[.int .i64 kd, .string nm, .string vl]] w fun e w' => e = .returned (.int .i64 0) ∧ ∃ vo' L' r2' r3', BX w' B g ⟨L1.map ON.nd ++ [.mk z.nm z.ps (z.kl.map KD.nd ++ [x.nd])], dn, rt, ns, pn⟩ vo' L' r2' r3' ∧ Moved w w' (fpO g vo (L ++ [x])) (fpO g vo' L') := by
  obtain ⟨R, hR⟩ : ∃ R : World → Prop, R = fun w' => ∃ vo' L' r2' r3', BX w' B g ⟨L1.map ON.nd ++ [.mk z.nm z.ps (z.kl.map KD.nd ++ [x.nd])], dn, rt, ns, pn⟩ vo' L' r2' r3' ∧ Moved w w' (fpO g vo (L ++ [x])) (fpO g vo' L') := ⟨_, rfl⟩
  show Calls _ _ _ _ (fun e w' => e = .returned (.int .i64 0) ∧ (fun w' => ∃ vo' L' r2' r3', BX w' B g ⟨L1.map ON.nd ++ [.mk z.nm z.ps (z.kl.map KD.nd ++ [x.nd])], dn, rt, ns, pn⟩ vo' L' r2' r3' ∧ Moved w w' (fpO g vo (L ++ [x])) (fpO g vo' L')) w')
  rw [← hR]
  have HR := Lib.hid hR
  clear hR
  subst hd
  subst hk
  obtain ⟨W1, hW1⟩ : ∃ W1, W1 = w.alloc (.cells #[.int .i64 2, .string nm, .string vl] 70) := ⟨_, rfl⟩
  have hb1 : Below w.heap.size w W1 := by rw [hW1]; exact (Below.refl _ _).alloc (Nat.le_refl _) _
  have hT : Arr W1 w.heap.size 70 (tkC ⟨2, nm, vl⟩) := by rw [hW1]; exact Arr.new w _ _
  have hX := h.below hb1
  have hM1 : Moved w W1 (fpO g vo (L ++ [x])) (fpO g vo (L ++ [x])) := Moved.of_below hb1 _
  obtain ⟨A, cap, rfl, hcap, hcm, hrow⟩ := row_form h.row
  obtain ⟨go, rfl, _, hcell⟩ := hrow.resolve_left (by rw [len_snoc]; omega)
  have hx := h.each x (List.mem_append_right _ (List.mem_singleton.2 rfl))
  obtain ⟨P, pc, hxp, hpc, hpm, _⟩ := row_form hx.p
  obtain ⟨Q, kc, hxq, hkc, hkm, _⟩ := row_form hx.q
  unfold maxLen at hpm hkm
  have hce : ∀ j, j < 3 → w.cell? ⟨go, L.length * 3 + j, none⟩ = (onl x)[j]? := fun j hj => by
    rw [hcell _ (by rw [len_snoc]; omega), onL_at (L ++ [x]) (by rw [len_snoc]; omega) hj, getD_app_at]
  have n0 : W1.cell? ⟨go, L.length * 3, none⟩ = some (.string x.nm) := (cell_kept (Moved.of_below hb1 (fun _ => False)) id (hce 0 (by omega)) : _)
  have n1 : W1.cell? ⟨go, L.length * 3 + 1, none⟩ = some x.p := cell_kept (Moved.of_below hb1 (fun _ => False)) id (hce 1 (by omega))
  have n2 : W1.cell? ⟨go, L.length * 3 + 2, none⟩ = some x.q := cell_kept (Moved.of_below hb1 (fun _ => False)) id (hce 2 (by omega))
  unfold maxLen at hcm
  have c0 : W1.cell? ⟨g, 0, none⟩ = some (.slice (some ⟨go, 0, none⟩) (L ++ [x]).length cap) := hX.arr.cell 0
  have c1 : W1.cell? ⟨g, 1, none⟩ = some (.bool false) := hX.arr.cell 1
  have c5 : W1.cell? ⟨g, 5, none⟩ = some (.int .i64 (ns : Int)) := hX.arr.cell 5
  have c6 : W1.cell? ⟨g, 6, none⟩ = some (.int .i64 (pn : Int)) := hX.arr.cell 6
  have t0 : W1.cell? ⟨w.heap.size, 0, none⟩ = some (.int .i64 2) := hT.cell 0
  have t1 : W1.cell? ⟨w.heap.size, 1, none⟩ = some (.string nm) := hT.cell 1
  have t2 : W1.cell? ⟨w.heap.size, 2, none⟩ = some (.string vl) := hT.cell 2
  have f0 := hX.arr.frozen 0
  have f1 := hX.arr.frozen 1
  have f5 := hX.arr.frozen 5
  have f6 := hX.arr.frozen 6
  have HX := Lib.hid hX
  have HM := Lib.hid hM1
  have HT := Lib.hid hT
  have hgl := hX.arr.lt
  have htl := hT.lt
  rw [hxp] at n1
  rw [hxq] at n2
  have HXP := Lib.hid hxp
  have HXQ := Lib.hid hxq
  clear h hb1 hX hM1 hT hrow hcell hce hx hxp hxq
  have HN := Lib.hid (len_snoc L x)
  have hn1 : (L ++ [x]).length = L.length + 1 := len_snoc L x
  have e1 : ((L ++ [x]).length : Int) - 1 = (L.length : Int) := by omega
  have e0 : (((L ++ [x]).length : Int) == 0) = false := by simp; omega
  have i1 : (L.length : Int) < ((L ++ [x]).length : Int) := by omega
  have i2 : (0 : Int) ≤ (L.length : Int) := by omega
  clear hn1
  obtain ⟨k, hkk⟩ : ∃ k, k = L.length := ⟨_, rfl⟩
  obtain ⟨n, hnn⟩ : ∃ n, n = (L ++ [x]).length := ⟨_, rfl⟩
  have HKK := Lib.hid hkk
  have HNN := Lib.hid hnn
  rw [← hnn, ← hkk] at e1 i1
  rw [← hnn] at e0 c0 hcap HX HM HN HR
  rw [← hkk] at n0 n1 n2 i2 HN
  clear hnn hkk
  obtain ⟨m, hmm⟩ : ∃ m, m = L1.length := ⟨_, rfl⟩
  have HK0 : Hid (k = m + 1) := by unfold Hid; rw [HKK.out, hL, hmm]; exact len_snoc _ _
  have HMM := Lib.hid hmm
  have ek : ((k : Int) == 0) = false := by rw [HK0.out]; simp; omega
  have em : (k : Int) - 1 = (m : Int) := by rw [HK0.out]; omega
  have wm : IntKind.i64.wrap (m : Int) = (m : Int) := by
    have := HK0.out
    rw [IntKind.wrap_i64]; omega
  have i3 : (m : Int) < (k : Int) := by rw [HK0.out]; omega
  have hzq9 : ∀ k', z.q.ownBlock = some k' → k' < W1.heap.size := fun k' hk' => ((HX.out.each z (List.mem_append_left _ (by rw [hL]; exact List.mem_append_right _ (List.mem_singleton.2 rfl)))).q.lt k' hk').2
  have HL := Lib.hid hL
  clear hL hmm
  have hne : w.heap.size ≠ g := fun e => by
    have h1 := HX.out.arr
    have h2 := HT.out
    rw [e] at h2
    unfold Arr at h1 h2
    rw [h1] at h2
    injection h2 with h2
    injection h2 with _ h2 _
    exact absurd h2 (by decide)
  have hba : Below W1.heap.size W1 (W1.alloc (.cells #[.string x.nm, .slice P x.ps.length pc, .slice Q x.kl.length kc] 26)) := (Below.refl _ _).alloc (Nat.le_refl _) _
  have HX2 := Lib.hid (HX.out.below hba)
  have HM2 : Hid (Moved w (W1.alloc (.cells #[.string x.nm, .slice P x.ps.length pc, .slice Q x.kl.length kc] 26)) (fpO g (.slice (some ⟨go, 0, none⟩) n cap) (L ++ [x])) (fpO g (.slice (some ⟨go, 0, none⟩) n cap) (L ++ [x]))) := HM.out.trans (Moved.of_below hba _)
  have HN2 : Hid (Arr (W1.alloc (.cells #[.string x.nm, .slice P x.ps.length pc, .slice Q x.kl.length kc] 26)) W1.heap.size 26 #[.string x.nm, .slice P x.ps.length pc, .slice Q x.kl.length kc]) := Arr.new W1 _ _
  have hgk : g < W1.heap.size := HX.out.arr.lt
  have hgo9 : go < W1.heap.size := (HX.out.row.lt go rfl).2
  clear hba HX HM
  go_enter Try.func34, Try.ntmps34
  go_upto_region 1 with fail
  rw [← hW1]
  clear hW1
  go_upto_region 8 with fail
  clear c0 c1 c5 c6 t0 t1 t2 n0 n1 n2 f0 f1 f5 f6 hgl htl e0
  generalize W1.alloc (.cells #[.string x.nm, .slice P x.ps.length pc, .slice Q x.kl.length kc] 26) = W2 at *
  generalize W1.heap.size = h9 at *
  have c0 : W2.cell? ⟨g, 0, none⟩ = some (.slice (some ⟨go, 0, none⟩) n cap) := HX2.out.arr.cell 0
  have f0 := HX2.out.arr.frozen 0
  have hkc : (k : Int) ≤ (cap : Int) := by omega
  have hkn : k ≤ cap := by omega
  have hA3 : Arr (W2.setCell ⟨g, 0, none⟩ (.slice (some ⟨go, 0, none⟩) k cap)) g 77 (bdC (.slice (some ⟨go, 0, none⟩) k cap) ⟨L.map ON.nd, false, rt, ns, pn⟩ r2 r3) := HX2.out.arr.put 0 _
  have hp3 := bx_pop HX2.out (b' := ⟨L.map ON.nd, false, rt, ns, pn⟩) hA3 (gr_cell W2 g 0 _) rfl rfl ⟨some ⟨go, 0, none⟩, cap, by rw [HN.out, HKK.out], by rw [HKK.out]⟩
  have HX3 := Lib.hid hp3.1
  have HM3 := Lib.hid (HM2.out.trans hp3.2.1)
  have HD3 := Lib.hid hp3.2.2
  have hgh : g ≠ h9 := by omega
  have HN3 := Lib.hid (HN2.out.far (Ne.symm hgh) (j := 0) (.slice (some ⟨go, 0, none⟩) k cap))
  clear hA3 hp3 HX2 HM2 HN2
  go_upto_region 9 with fail
  clear c0 f0
  generalize W2.setCell ⟨g, 0, none⟩ (.slice (some ⟨go, 0, none⟩) k cap) = W3 at *
  go_upto_region 12 with fail
  go_region_law (fail)
  · as_aux_lemma =>
    have hb4 : Below W3.heap.size W3 (W3.alloc (.cells #[.bool false] 4)).drew := ((Below.refl _ _).alloc (Nat.le_refl _) _).drew
    have HX4 := Lib.hid (HX3.out.below hb4)
    have HM4 := Lib.hid (HM3.out.trans (Moved.of_below hb4 (fpO g (.slice (some ⟨go, 0, none⟩) k cap) L)))
    have HD4 := Lib.hid (nd_below HD3.out hb4)
    have HN4 := Lib.hid (HN3.out.below hb4 HN3.out.lt)
    clear hb4 HX3 HM3 HD3 HN3
    generalize (W3.alloc (.cells #[.bool false] 4)).drew = W4 at *
    rw [HXP.out, HXQ.out] at HD4
    have hL := HL.out
    subst hL
    have hzm : z ∈ L1 ++ [z] := List.mem_append_right _ (List.mem_singleton.2 rfl)
    have hz0 := HX4.out.each z hzm
    obtain ⟨Z, zc, hzq, hzc, hzmx, _⟩ := row_form hz0.q
    have HZQ := Lib.hid hzq
    have hba : Below W4.heap.size W4 (W4.alloc (.cells #[.string x.nm, .slice P x.ps.length pc, .slice Q x.kl.length kc] 26)).drew := ((Below.refl _ _).alloc (Nat.le_refl _) _).drew
    have HXA := Lib.hid (HX4.out.below hba)
    have HNA := Lib.hid (HN4.out.below hba HN4.out.lt)
    have HROW := Lib.hid (ow_below hz0.q hba)
    rw [HZQ.out] at HROW
    have HNEW : Hid (Arr (W4.alloc (.cells #[.string x.nm, .slice P x.ps.length pc, .slice Q x.kl.length kc] 26)).drew W4.heap.size 26 #[.string x.nm, .slice P x.ps.length pc, .slice Q x.kl.length kc]) := Arr.new W4 _ _
    have HBS : Hid (B ≤ (W4.alloc (.cells #[.string x.nm, .slice P x.ps.length pc, .slice Q x.kl.length kc] 26)).drew.heap.size) := by
      have := HX4.out.gB
      have := HX4.out.arr.lt
      have := hba.size
      show _ ≤ _
      omega
    have HEL := Lib.hid elemNode
    have hr4 := HX4.out.row
    rw [← HKK.out] at hr4
    have hce : ∀ (W : World), W.ownsRow B 26 3 (.slice (some ⟨go, 0, none⟩) k cap) k (onL (L1 ++ [z])) → W.cell? ⟨go, m * 3 + 2, none⟩ = some (.slice Z z.kl.length zc) := fun W h => by
      have hm1 : m < (L1 ++ [z]).length := by rw [← HKK.out, HK0.out]; exact Nat.lt_succ_self _
      rw [h.cellAt _ (by rw [HK0.out]; omega), onL_at (L1 ++ [z]) hm1 (by omega), HMM.out, getD_app_at, ← HZQ.out]; rfl
    have HCE := Lib.hid hce
    have p1 : W4.cell? ⟨go, m * 3 + 2, none⟩ = some (.slice Z z.kl.length zc) := hce W4 hr4
    have pA : (W4.alloc (.cells #[.string x.nm, .slice P x.ps.length pc, .slice Q x.kl.length kc] 26)).drew.cell? ⟨go, m * 3 + 2, none⟩ = some (.slice Z z.kl.length zc) := cell_kept (Moved.of_below hba (fun _ => False)) id p1
    have c0 : W4.cell? ⟨g, 0, none⟩ = some (.slice (some ⟨go, 0, none⟩) k cap) := HX4.out.arr.cell 0
    have HS0 : Hid ((fun (w' : World) => w'.cell? ⟨g, 0, none⟩ = some (.slice (some ⟨go, 0, none⟩) k cap) ∧ w'.cell? ⟨h9, 0, none⟩ = some (.string x.nm) ∧ w'.cell? ⟨h9, 1, none⟩ = some (.slice P x.ps.length pc) ∧ w'.cell? ⟨h9, 2, none⟩ = some (.slice Q x.kl.length kc)) W4.drew) := ⟨c0, HN4.out.cell 0, HN4.out.cell 1, HN4.out.cell 2⟩
    have HS1 : Hid ((fun (w' : World) => w'.cell? ⟨g, 0, none⟩ = some (.slice (some ⟨go, 0, none⟩) k cap) ∧ w'.cell? ⟨h9, 0, none⟩ = some (.string x.nm) ∧ w'.cell? ⟨h9, 1, none⟩ = some (.slice P x.ps.length pc) ∧ w'.cell? ⟨h9, 2, none⟩ = some (.slice Q x.kl.length kc)) (W4.alloc (.cells #[.string x.nm, .slice P x.ps.length pc, .slice Q x.kl.length kc] 26)).drew) := ⟨HXA.out.arr.cell 0, HNA.out.cell 0, HNA.out.cell 1, HNA.out.cell 2⟩
    have hgo : go ≠ g := fun e => ow_arr HX4.out.arr HX4.out.row tyneT.1 (by rw [← e]; rfl)
    have hgh9 : go ≠ h9 := by omega
    have HS6 : Hid (∀ w5 v, (fun (w' : World) => w'.cell? ⟨g, 0, none⟩ = some (.slice (some ⟨go, 0, none⟩) k cap) ∧ w'.cell? ⟨h9, 0, none⟩ = some (.string x.nm) ∧ w'.cell? ⟨h9, 1, none⟩ = some (.slice P x.ps.length pc) ∧ w'.cell? ⟨h9, 2, none⟩ = some (.slice Q x.kl.length kc)) w5 → (fun (w' : World) => w'.cell? ⟨g, 0, none⟩ = some (.slice (some ⟨go, 0, none⟩) k cap) ∧ w'.cell? ⟨h9, 0, none⟩ = some (.string x.nm) ∧ w'.cell? ⟨h9, 1, none⟩ = some (.slice P x.ps.length pc) ∧ w'.cell? ⟨h9, 2, none⟩ = some (.slice Q x.kl.length kc)) (w5.setCell ⟨go, m * 3 + 2, none⟩ v)) := fun w5 v ⟨h1, h2, h3, h4⟩ =>
      ⟨(World.cell?_setCell_far _ _ _ _ hgo).trans h1, (World.cell?_setCell_far _ _ _ _ hgh9).trans h2, (World.cell?_setCell_far _ _ _ _ hgh9).trans h3, (World.cell?_setCell_far _ _ _ _ hgh9).trans h4⟩
    have hzap : ∀ k', (Value.slice Z z.kl.length zc).ownBlock = some k' → k' ≠ go ∧ k' < h9 := fun k' hk' => by
      rw [← HZQ.out] at hk'
      exact ⟨fun e => pair_cons HX4.out.sepq hzm go rfl (e ▸ hk'), hzq9 k' hk'⟩
    have hgo4 : go < W4.heap.size := (hr4.lt go rfl).2
    have hh94 : h9 < W4.heap.size := HN4.out.lt
    have HAT : Hid (∀ g5 cap5 w5, w5.ownsRow B 26 3 (.slice (some ⟨g5, 0, none⟩) (z.kl.length + 1) cap5) (z.kl.length + 1) (kdL z.kl ++ #[.string x.nm, .slice P x.ps.length pc, .slice Q x.kl.length kc].toList) → (W4.alloc (.cells #[.string x.nm, .slice P x.ps.length pc, .slice Q x.kl.length kc] 26)).drew.grownBy w5 (Value.slice Z z.kl.length zc).ownBlock → ((Value.slice Z z.kl.length zc).ownBlock = some g5 ∨ g5 = (W4.alloc (.cells #[.string x.nm, .slice P x.ps.length pc, .slice Q x.kl.length kc] 26)).drew.heap.size) →
        g5 ≠ go ∧ g5 ≠ h9 ∧ g5 ≠ g ∧ Arr w5 g 77 (bdC (.slice (some ⟨go, 0, none⟩) k cap) ⟨(L1 ++ [z]).map ON.nd, false, rt, ns, pn⟩ r2 r3) ∧ Arr w5 h9 26 #[.string x.nm, .slice P x.ps.length pc, .slice Q x.kl.length kc] ∧ w5.ownsRow B 26 3 (.slice (some ⟨go, 0, none⟩) k cap) k (onL (L1 ++ [z]))) := by
      intro g5 cap5 w5 q1 q2 q3
      have hA5 := HXA.out.arr.gr q2 (ow_arr HXA.out.arr HROW.out tyneT.1)
      have hR := HXA.out.row
      rw [← HKK.out] at hR
      refine ⟨?_, ?_, fun e => ow_arr hA5 q1 tyneT.1 (by rw [← e]; rfl), hA5, HNA.out.gr q2 (fun e => absurd (hzap h9 e.symm).2 (by omega)), hR.kept q2 (.inr fun e => (hzap go e.symm).1 rfl)⟩
      · rintro rfl
        rcases q3 with h | h
        · exact (hzap g5 h).1 rfl
        · have := hba.size; omega
      · rintro rfl
        rcases q3 with h | h
        · have := (hzap g5 h).2; omega
        · have := hba.size; omega
    have HF5 : Hid (∀ g5 cap5 w5, w5.ownsRow B 26 3 (.slice (some ⟨g5, 0, none⟩) (z.kl.length + 1) cap5) (z.kl.length + 1) (kdL z.kl ++ #[.string x.nm, .slice P x.ps.length pc, .slice Q x.kl.length kc].toList) → (W4.alloc (.cells #[.string x.nm, .slice P x.ps.length pc, .slice Q x.kl.length kc] 26)).drew.grownBy w5 (Value.slice Z z.kl.length zc).ownBlock → ((Value.slice Z z.kl.length zc).ownBlock = some g5 ∨ g5 = (W4.alloc (.cells #[.string x.nm, .slice P x.ps.length pc, .slice Q x.kl.length kc] 26)).drew.heap.size) →
        (fun (w' : World) => w'.cell? ⟨g, 0, none⟩ = some (.slice (some ⟨go, 0, none⟩) k cap) ∧ w'.cell? ⟨h9, 0, none⟩ = some (.string x.nm) ∧ w'.cell? ⟨h9, 1, none⟩ = some (.slice P x.ps.length pc) ∧ w'.cell? ⟨h9, 2, none⟩ = some (.slice Q x.kl.length kc)) w5 ∧ w5.cell? ⟨go, m * 3 + 2, none⟩ = some (.slice Z z.kl.length zc) ∧ w5.frozen? ⟨go, m * 3 + 2, none⟩ = false) := by
      intro g5 cap5 w5 q1 q2 q3
      obtain ⟨_, _, _, hA5, hN5, hR5⟩ := HAT.out g5 cap5 w5 q1 q2 q3
      exact ⟨⟨hA5.cell 0, hN5.cell 0, hN5.cell 1, hN5.cell 2⟩, HCE.out w5 hR5, hR5.frozenAt _⟩
    have HFI : Hid (∀ g5 cap5 w5, w5.ownsRow B 26 3 (.slice (some ⟨g5, 0, none⟩) (z.kl.length + 1) cap5) (z.kl.length + 1) (kdL z.kl ++ #[.string x.nm, .slice P x.ps.length pc, .slice Q x.kl.length kc].toList) → (W4.alloc (.cells #[.string x.nm, .slice P x.ps.length pc, .slice Q x.kl.length kc] 26)).drew.grownBy w5 (Value.slice Z z.kl.length zc).ownBlock → ((Value.slice Z z.kl.length zc).ownBlock = some g5 ∨ g5 = (W4.alloc (.cells #[.string x.nm, .slice P x.ps.length pc, .slice Q x.kl.length kc] 26)).drew.heap.size) →
        ∃ vo' L' r2' r3', BX (w5.setCell ⟨go, m * 3 + 2, none⟩ (.slice (some ⟨g5, 0, none⟩) (z.kl.length + 1) cap5)) B g ⟨L1.map ON.nd ++ [.mk z.nm z.ps (z.kl.map KD.nd ++ [x.nd])], false, rt, ns, pn⟩ vo' L' r2' r3' ∧ Moved w (w5.setCell ⟨go, m * 3 + 2, none⟩ (.slice (some ⟨g5, 0, none⟩) (z.kl.length + 1) cap5)) (fpO g (.slice (some ⟨go, 0, none⟩) n cap) ((L1 ++ [z]) ++ [x])) (fpO g vo' L')) := by
      intro g5 cap5 w5 q1 q2 q3
      obtain ⟨hn1, hn2, hn3, hA5, hN5, hR5⟩ := HAT.out g5 cap5 w5 q1 q2 q3
      have hst := hR5.stored (m * 3 + 2) (.slice (some ⟨g5, 0, none⟩) (z.kl.length + 1) cap5)
      have hse : (onL (L1 ++ [z])).set (m * 3 + 2) (.slice (some ⟨g5, 0, none⟩) (z.kl.length + 1) cap5) = onL (L1 ++ [⟨z.nm, z.ps, z.kl ++ [⟨x.nd, .slice P x.ps.length pc, .slice Q x.kl.length kc⟩], z.p, .slice (some ⟨g5, 0, none⟩) (z.kl.length + 1) cap5⟩]) := by
        rw [onL_app, onL_app, HMM.out]
        exact set_two (onL L1) (.string z.nm) z.p z.q _ _ (by rw [onL_len])
      rw [hse] at hst
      have hfo := ownS_lies (n := z.kl.length + 1) (cap := cap5) q3
      have hfx : ∀ k', ownS (Value.slice Z z.kl.length zc) k' ↔ ownS z.q k' := fun k' => by rw [HZQ.out]
      have m0 : Moved W4 (W4.alloc (.cells #[.string x.nm, .slice P x.ps.length pc, .slice Q x.kl.length kc] 26)).drew (fun k' => ownS (.slice (some ⟨go, 0, none⟩) k cap) k' ∨ ownS z.q k') (fun k' => ownS (.slice (some ⟨go, 0, none⟩) k cap) k' ∨ ownS z.q k') := Moved.of_below hba _
      have m1 : Moved (W4.alloc (.cells #[.string x.nm, .slice P x.ps.length pc, .slice Q x.kl.length kc] 26)).drew w5 (fun k' => ownS (.slice (some ⟨go, 0, none⟩) k cap) k' ∨ ownS z.q k') (fun k' => ownS (.slice (some ⟨go, 0, none⟩) k cap) k' ∨ ownS (.slice (some ⟨g5, 0, none⟩) (z.kl.length + 1) cap5) k') := Moved.grown q2 (fun k' hk' => .inr ((hfx k').1 hk')) (fun k' hk' => by
        rcases hk' with hk' | hk'
        · exact .inl (.inl hk')
        · exact (hfo k' hk').imp (fun h => .inr ((hfx k').1 h)) id)
      have m2 : Moved w5 (w5.setCell ⟨go, m * 3 + 2, none⟩ (.slice (some ⟨g5, 0, none⟩) (z.kl.length + 1) cap5)) (fun k' => ownS (.slice (some ⟨go, 0, none⟩) k cap) k' ∨ ownS (.slice (some ⟨g5, 0, none⟩) (z.kl.length + 1) cap5) k') (fun k' => ownS (.slice (some ⟨go, 0, none⟩) k cap) k' ∨ ownS (.slice (some ⟨g5, 0, none⟩) (z.kl.length + 1) cap5) k') := Moved.grown hst.2 (fun k' hk' => by injection hk' with hk'; subst hk'; exact .inl rfl) (fun k' hk' => .inl hk')
      have hP5 := q1.kept (w' := w5.setCell ⟨go, m * 3 + 2, none⟩ (.slice (some ⟨g5, 0, none⟩) (z.kl.length + 1) cap5)) hst.2 (.inr fun e => hn1 (by injection e with e))
      have hrl : k = L1.length + 1 := by rw [HK0.out, HMM.out]
      have hbk := bx_kid HX4.out HD4.out (b' := ⟨L1.map ON.nd ++ [.mk z.nm z.ps (z.kl.map KD.nd ++ [x.nd])], false, rt, ns, pn⟩) (q' := .slice (some ⟨g5, 0, none⟩) (z.kl.length + 1) cap5) (w' := w5.setCell ⟨go, m * 3 + 2, none⟩ (.slice (some ⟨g5, 0, none⟩) (z.kl.length + 1) cap5)) (hA5.far hgo.symm _) rfl rfl (by rw [kdL_app]; exact hP5) (by rw [← hrl]; exact hst.1) (m0.trans (m1.trans m2)) (fun k' hk' => (hfo k' hk').imp (hfx k').1 fun h => Nat.le_trans hba.size h)
      exact ⟨_, _, _, _, hbk.1, HM4.out.trans hbk.2⟩
    clear HXA HNA HX4 HM4 HD4 HN4 HAT HCE hba hr4 hce hz0 hzap hzq hgo4 hh94
    go_upto_region 15 with fail
    refine wp_region_held_drew (S := fun (w' : World) => w'.cell? ⟨g, 0, none⟩ = some (.slice (some ⟨go, 0, none⟩) k cap) ∧ w'.cell? ⟨h9, 0, none⟩ = some (.string x.nm) ∧ w'.cell? ⟨h9, 1, none⟩ = some (.slice P x.ps.length pc) ∧ w'.cell? ⟨h9, 2, none⟩ = some (.slice Q x.kl.length kc)) (by kernel_rfl) (by (first | exact HS0.out | exact HS1.out | assumption | exact HS6.out _ _ (by assumption))) (fun hHeld => ?_)
    refine takeH 0 94 rfl rfl (v := ?_) (by kernel_rfl) (by kernel_rfl) (by kernel_rfl) (fun _ _ _ h => h) (Or.inl ⟨by rfl, ?_⟩) hHeld ?_
    rotate_left 1
    · (intro w hSw; (try dsimp only at hSw); go_simp; try (with_reducible rfl))
    (try simp only [Act.put]); (try simp only [List.setIfInBounds_toArray]); (try simp only [List.set_cons_succ]); (try simp only [List.set_cons_zero])
    refine takeH 1 95 rfl rfl (v := ?_) (by kernel_rfl) (by kernel_rfl) (by kernel_rfl) (fun _ _ _ h => h) (Or.inl ⟨by rfl, ?_⟩) hHeld ?_
    rotate_left 1
    · (intro w hSw; (try dsimp only at hSw); go_simp; try (with_reducible rfl))
    (try simp only [Act.put]); (try simp only [List.setIfInBounds_toArray]); (try simp only [List.set_cons_succ]); (try simp only [List.set_cons_zero])
    refine takeH 2 96 rfl rfl (v := ?_) (by kernel_rfl) (by kernel_rfl) (by kernel_rfl) (fun _ _ _ h => h) (Or.inl ⟨by rfl, ?_⟩) hHeld ?_
    rotate_left 1
    · (intro w hSw; (try dsimp only at hSw); go_simp; try (with_reducible rfl))
    (try simp only [Act.put]); (try simp only [List.setIfInBounds_toArray]); (try simp only [List.set_cons_succ]); (try simp only [List.set_cons_zero])
    refine takeH 3 97 rfl rfl (v := ?_) (by kernel_rfl) (by kernel_rfl) (by kernel_rfl) (fun _ _ _ h => h) (Or.inl ⟨by rfl, ?_⟩) hHeld ?_
    rotate_left 1
    · (intro w hSw; (try dsimp only at hSw); go_simp; try (with_reducible rfl))
    (try simp only [Act.put]); (try simp only [List.setIfInBounds_toArray]); (try simp only [List.set_cons_succ]); (try simp only [List.set_cons_zero])
    refine takeH 4 98 rfl rfl (v := ?_) (by kernel_rfl) (by kernel_rfl) (by kernel_rfl) (fun _ _ _ h => h) (Or.inl ⟨by rfl, ?_⟩) hHeld ?_
    rotate_left 1
    · (intro w hSw; (try dsimp only at hSw); go_simp; try (with_reducible rfl))
    (try simp only [Act.put]); (try simp only [List.setIfInBounds_toArray]); (try simp only [List.set_cons_succ]); (try simp only [List.set_cons_zero])
    refine takeH 5 99 rfl rfl (v := ?_) (by kernel_rfl) (by kernel_rfl) (by kernel_rfl) (fun _ _ _ h => h) (Or.inl ⟨by rfl, ?_⟩) hHeld ?_
    rotate_left 1
    · (intro w hSw; (try dsimp only at hSw); go_simp; try (with_reducible rfl))
    (try simp only [Act.put]); (try simp only [List.setIfInBounds_toArray]); (try simp only [List.set_cons_succ]); (try simp only [List.set_cons_zero])
    refine takeH 6 100 rfl rfl (v := ?_) (by kernel_rfl) (by kernel_rfl) (by kernel_rfl) (fun _ _ _ h => h) (Or.inl ⟨by rfl, ?_⟩) hHeld ?_
    rotate_left 1
    · (intro w hSw; (try dsimp only at hSw); go_simp; try (with_reducible rfl))
    (try simp only [Act.put]); (try simp only [List.setIfInBounds_toArray]); (try simp only [List.set_cons_succ]); (try simp only [List.set_cons_zero])
    refine takeH 7 101 rfl rfl (v := ?_) (by kernel_rfl) (by kernel_rfl) (by kernel_rfl) (fun _ _ _ h => h) (Or.inl ⟨by rfl, ?_⟩) hHeld ?_
    rotate_left 1
    · (intro w hSw; (try dsimp only at hSw); go_simp; try (with_reducible rfl))
    (try simp only [Act.put]); (try simp only [List.setIfInBounds_toArray]); (try simp only [List.set_cons_succ]); (try simp only [List.set_cons_zero])
    refine takeH 8 102 rfl rfl (v := ?_) (by kernel_rfl) (by kernel_rfl) (by kernel_rfl) (fun _ _ _ h => h) (Or.inl ⟨by rfl, ?_⟩) hHeld ?_
    rotate_left 1
    · (intro w hSw; (try dsimp only at hSw); go_simp; try (with_reducible rfl))
    (try simp only [Act.put]); (try simp only [List.setIfInBounds_toArray]); (try simp only [List.set_cons_succ]); (try simp only [List.set_cons_zero])
    refine takeH 9 103 rfl rfl (v := ?_) (by kernel_rfl) (by kernel_rfl) (by kernel_rfl) (fun _ _ _ h => h) (Or.inl ⟨by rfl, ?_⟩) hHeld ?_
    rotate_left 1
    · (intro w hSw; (try dsimp only at hSw); go_simp; try (with_reducible rfl))
    (try simp only [Act.put]); (try simp only [List.setIfInBounds_toArray]); (try simp only [List.set_cons_succ]); (try simp only [List.set_cons_zero])
    refine takeH 10 104 rfl rfl (v := ?_) (by kernel_rfl) (by kernel_rfl) (by kernel_rfl) (fun _ _ _ h => h) (Or.inl ⟨by rfl, ?_⟩) hHeld ?_
    rotate_left 1
    · (intro w hSw; (try dsimp only at hSw); go_simp; try (with_reducible rfl))
    (try simp only [Act.put]); (try simp only [List.setIfInBounds_toArray]); (try simp only [List.set_cons_succ]); (try simp only [List.set_cons_zero])
    refine takeH 11 105 rfl rfl (v := ?_) (by kernel_rfl) (by kernel_rfl) (by kernel_rfl) (fun _ _ _ h => h) (Or.inl ⟨by rfl, ?_⟩) hHeld ?_
    rotate_left 1
    · (intro w hSw; (try dsimp only at hSw); go_simp; try (with_reducible rfl))
    (try simp only [Act.put]); (try simp only [List.setIfInBounds_toArray]); (try simp only [List.set_cons_succ]); (try simp only [List.set_cons_zero])
    refine takeH 12 106 rfl rfl (v := ?_) (by kernel_rfl) (by kernel_rfl) (by kernel_rfl) (fun _ _ _ h => h) (Or.inl ⟨by rfl, ?_⟩) hHeld ?_
    rotate_left 1
    · (intro w hSw; (try dsimp only at hSw); go_simp; try (with_reducible rfl))
    (try simp only [Act.put]); (try simp only [List.setIfInBounds_toArray]); (try simp only [List.set_cons_succ]); (try simp only [List.set_cons_zero])
    refine takeH 13 107 rfl rfl (v := ?_) (by kernel_rfl) (by kernel_rfl) (by kernel_rfl) (fun _ _ _ h => h) (Or.inl ⟨by rfl, ?_⟩) hHeld ?_
    rotate_left 1
    · (intro w hSw; (try dsimp only at hSw); go_simp; try (with_reducible rfl))
    (try simp only [Act.put]); (try simp only [List.setIfInBounds_toArray]); (try simp only [List.set_cons_succ]); (try simp only [List.set_cons_zero])
    refine takeH 15 109 rfl rfl (v := ?_) (by kernel_rfl) (by kernel_rfl) (by kernel_rfl) (fun _ _ _ h => h) (Or.inl ⟨by rfl, ?_⟩) hHeld ?_
    rotate_left 1
    · (intro w hSw; (try dsimp only at hSw); go_simp; try (with_reducible rfl))
    (try simp only [Act.put]); (try simp only [List.setIfInBounds_toArray]); (try simp only [List.set_cons_succ]); (try simp only [List.set_cons_zero])
    refine wpAnyH_ready (rs := [14, 16]) (by kernel_rfl) (by simp) (AllReadyH.cons rfl (fun K hK => ?_) (AllReadyH.cons rfl (fun K hK => ?_) AllReadyH.nil))
    · go_simp
      refine hK.out _ _ (by (first | exact HS0.out | exact HS1.out | assumption | exact HS6.out _ _ (by assumption))) (fun hHeld => ?_)
      clear hK K
      (try simp only [Act.put]); (try simp only [List.setIfInBounds_toArray]); (try simp only [List.set_cons_succ]); (try simp only [List.set_cons_zero])
      refine wpAnyH_ready (rs := [16]) (by kernel_rfl) (by simp) (AllReadyH.cons rfl (fun K hK => ?_) AllReadyH.nil)
      go_simp
      refine hK.out _ _ (by (first | exact HS0.out | exact HS1.out | assumption | exact HS6.out _ _ (by assumption))) (fun hHeld => ?_)
      clear hK K
      (try simp only [Act.put]); (try simp only [List.setIfInBounds_toArray]); (try simp only [List.set_cons_succ]); (try simp only [List.set_cons_zero])
      refine wpAnyH_ready (rs := [17]) (by kernel_rfl) (by simp) (AllReadyH.cons rfl (fun K hK => ?_) AllReadyH.nil)
      refine step_append_at (by rfl) _ _ _ (by rfl) 26 3 64 HEL B (.slice Z z.kl.length zc) z.kl.length (kdL z.kl) (by rfl) HROW.out W4.heap.size #[.string x.nm, .slice P x.ps.length pc, .slice Q x.kl.length kc] HNEW.out rfl (cn_one x.nm (.slice P x.ps.length pc) (.slice Q x.kl.length kc) rfl rfl) (by rfl) (by unfold maxLen; omega) (by omega) HBS.out ?_
      intro g5 cap5 w5 q1 q2 q3 q4
      obtain ⟨hs5, y2, y3⟩ := HF5.out g5 cap5 w5 q1 q2 q3
      (try simp only [Act.put]); (try simp only [List.setIfInBounds_toArray]); (try simp only [List.set_cons_succ]); (try simp only [List.set_cons_zero])
      refine hK.out _ _ (by (first | exact HS0.out | exact HS1.out | assumption | exact HS6.out _ _ (by assumption))) (fun hHeld => ?_)
      clear hK K
      (try simp only [Act.put]); (try simp only [List.setIfInBounds_toArray]); (try simp only [List.set_cons_succ]); (try simp only [List.set_cons_zero])
      refine takeH 18 112 rfl rfl (v := ?_) (by kernel_rfl) (by kernel_rfl) (by kernel_rfl) (fun _ _ _ h => h) (Or.inl ⟨by rfl, ?_⟩) hHeld ?_
      rotate_left 1
      · (intro w hSw; (try dsimp only at hSw); go_simp; try (with_reducible rfl))
      (try simp only [Act.put]); (try simp only [List.setIfInBounds_toArray]); (try simp only [List.set_cons_succ]); (try simp only [List.set_cons_zero])
      refine takeH 19 113 rfl rfl (v := ?_) (by kernel_rfl) (by kernel_rfl) (by kernel_rfl) (fun _ _ _ h => h) (Or.inl ⟨by rfl, ?_⟩) hHeld ?_
      rotate_left 1
      · (intro w hSw; (try dsimp only at hSw); go_simp; try (with_reducible rfl))
      (try simp only [Act.put]); (try simp only [List.setIfInBounds_toArray]); (try simp only [List.set_cons_succ]); (try simp only [List.set_cons_zero])
      refine wpAnyH_ready (rs := [20]) (by kernel_rfl) (by simp) (AllReadyH.cons rfl (fun K hK => ?_) AllReadyH.nil)
      go_simp
      refine hK.out _ _ (by (first | exact HS0.out | exact HS1.out | assumption | exact HS6.out _ _ (by assumption))) (fun hHeld => ?_)
      clear hK K
      (try simp only [Act.put]); (try simp only [List.setIfInBounds_toArray]); (try simp only [List.set_cons_succ]); (try simp only [List.set_cons_zero])
      refine wpAnyH_done (by kernel_rfl) ?_ _
      have HE := Lib.hid (HFI.out g5 cap5 w5 q1 q2 q3)
      clear hs5 y2 y3 q1 q2 q3 q4 HF5 HFI HROW HNEW HBS pA HEL HS0 HS1 HS6 hHeld c0 p1
      go_wp2
      go_ret
      exact ⟨rfl, HR.out ▸ HE.out⟩
    · go_simp
      refine hK.out _ _ (by (first | exact HS0.out | exact HS1.out | assumption | exact HS6.out _ _ (by assumption))) (fun hHeld => ?_)
      clear hK K
      (try simp only [Act.put]); (try simp only [List.setIfInBounds_toArray]); (try simp only [List.set_cons_succ]); (try simp only [List.set_cons_zero])
      refine wpAnyH_ready (rs := [14]) (by kernel_rfl) (by simp) (AllReadyH.cons rfl (fun K hK => ?_) AllReadyH.nil)
      go_simp
      refine hK.out _ _ (by (first | exact HS0.out | exact HS1.out | assumption | exact HS6.out _ _ (by assumption))) (fun hHeld => ?_)
      clear hK K
      (try simp only [Act.put]); (try simp only [List.setIfInBounds_toArray]); (try simp only [List.set_cons_succ]); (try simp only [List.set_cons_zero])
      refine wpAnyH_ready (rs := [17]) (by kernel_rfl) (by simp) (AllReadyH.cons rfl (fun K hK => ?_) AllReadyH.nil)
      refine step_append_at (by rfl) _ _ _ (by rfl) 26 3 64 HEL B (.slice Z z.kl.length zc) z.kl.length (kdL z.kl) (by rfl) HROW.out W4.heap.size #[.string x.nm, .slice P x.ps.length pc, .slice Q x.kl.length kc] HNEW.out rfl (cn_one x.nm (.slice P x.ps.length pc) (.slice Q x.kl.length kc) rfl rfl) (by rfl) (by unfold maxLen; omega) (by omega) HBS.out ?_
      intro g5 cap5 w5 q1 q2 q3 q4
      obtain ⟨hs5, y2, y3⟩ := HF5.out g5 cap5 w5 q1 q2 q3
      (try simp only [Act.put]); (try simp only [List.setIfInBounds_toArray]); (try simp only [List.set_cons_succ]); (try simp only [List.set_cons_zero])
      refine hK.out _ _ (by (first | exact HS0.out | exact HS1.out | assumption | exact HS6.out _ _ (by assumption))) (fun hHeld => ?_)
      clear hK K
      (try simp only [Act.put]); (try simp only [List.setIfInBounds_toArray]); (try simp only [List.set_cons_succ]); (try simp only [List.set_cons_zero])
      refine takeH 18 112 rfl rfl (v := ?_) (by kernel_rfl) (by kernel_rfl) (by kernel_rfl) (fun _ _ _ h => h) (Or.inl ⟨by rfl, ?_⟩) hHeld ?_
      rotate_left 1
      · (intro w hSw; (try dsimp only at hSw); go_simp; try (with_reducible rfl))
      (try simp only [Act.put]); (try simp only [List.setIfInBounds_toArray]); (try simp only [List.set_cons_succ]); (try simp only [List.set_cons_zero])
      refine takeH 19 113 rfl rfl (v := ?_) (by kernel_rfl) (by kernel_rfl) (by kernel_rfl) (fun _ _ _ h => h) (Or.inl ⟨by rfl, ?_⟩) hHeld ?_
      rotate_left 1
      · (intro w hSw; (try dsimp only at hSw); go_simp; try (with_reducible rfl))
      (try simp only [Act.put]); (try simp only [List.setIfInBounds_toArray]); (try simp only [List.set_cons_succ]); (try simp only [List.set_cons_zero])
      refine wpAnyH_ready (rs := [20]) (by kernel_rfl) (by simp) (AllReadyH.cons rfl (fun K hK => ?_) AllReadyH.nil)
      go_simp
      refine hK.out _ _ (by (first | exact HS0.out | exact HS1.out | assumption | exact HS6.out _ _ (by assumption))) (fun hHeld => ?_)
      clear hK K
      (try simp only [Act.put]); (try simp only [List.setIfInBounds_toArray]); (try simp only [List.set_cons_succ]); (try simp only [List.set_cons_zero])
      refine wpAnyH_done (by kernel_rfl) ?_ _
      have HE := Lib.hid (HFI.out g5 cap5 w5 q1 q2 q3)
      clear hs5 y2 y3 q1 q2 q3 q4 HF5 HFI HROW HNEW HBS pA HEL HS0 HS1 HS6 hHeld c0 p1
      go_wp2
      go_ret
      exact ⟨rfl, HR.out ▸ HE.out⟩
  · as_aux_lemma =>
    have hb4 : Below W3.heap.size W3 (W3.alloc (.cells #[.bool true] 4)).drew := ((Below.refl _ _).alloc (Nat.le_refl _) _).drew
    have HX4 := Lib.hid (HX3.out.below hb4)
    have HM4 := Lib.hid (HM3.out.trans (Moved.of_below hb4 (fpO g (.slice (some ⟨go, 0, none⟩) k cap) L)))
    have HD4 := Lib.hid (nd_below HD3.out hb4)
    have HN4 := Lib.hid (HN3.out.below hb4 HN3.out.lt)
    clear hb4 HX3 HM3 HD3 HN3
    generalize (W3.alloc (.cells #[.bool true] 4)).drew = W4 at *
    rw [HXP.out, HXQ.out] at HD4
    have hL := HL.out
    subst hL
    have hzm : z ∈ L1 ++ [z] := List.mem_append_right _ (List.mem_singleton.2 rfl)
    have hz0 := HX4.out.each z hzm
    obtain ⟨Z, zc, hzq, hzc, hzmx, _⟩ := row_form hz0.q
    have HZQ := Lib.hid hzq
    have hba : Below W4.heap.size W4 (W4.alloc (.cells (#[.string ⟨#[]⟩, .slice none 0 0, .slice none 0 0] : Array Value) 26)).drew := ((Below.refl _ _).alloc (Nat.le_refl _) _).drew
    have HXA := Lib.hid (HX4.out.below hba)
    have HNA := Lib.hid (HN4.out.below hba HN4.out.lt)
    have HROW := Lib.hid (ow_below hz0.q hba)
    rw [HZQ.out] at HROW
    have HNEW : Hid (Arr (W4.alloc (.cells (#[.string ⟨#[]⟩, .slice none 0 0, .slice none 0 0] : Array Value) 26)).drew W4.heap.size 26 (#[.string ⟨#[]⟩, .slice none 0 0, .slice none 0 0] : Array Value)) := Arr.new W4 _ _
    have HBS : Hid (B ≤ (W4.alloc (.cells (#[.string ⟨#[]⟩, .slice none 0 0, .slice none 0 0] : Array Value) 26)).drew.heap.size) := by
      have := HX4.out.gB
      have := HX4.out.arr.lt
      have := hba.size
      show _ ≤ _
      omega
    have HEL := Lib.hid elemNode
    have hr4 := HX4.out.row
    rw [← HKK.out] at hr4
    have hce : ∀ (W : World), W.ownsRow B 26 3 (.slice (some ⟨go, 0, none⟩) k cap) k (onL (L1 ++ [z])) → W.cell? ⟨go, m * 3 + 2, none⟩ = some (.slice Z z.kl.length zc) := fun W h => by
      have hm1 : m < (L1 ++ [z]).length := by rw [← HKK.out, HK0.out]; exact Nat.lt_succ_self _
      rw [h.cellAt _ (by rw [HK0.out]; omega), onL_at (L1 ++ [z]) hm1 (by omega), HMM.out, getD_app_at, ← HZQ.out]; rfl
    have HCE := Lib.hid hce
    have p1 : W4.cell? ⟨go, m * 3 + 2, none⟩ = some (.slice Z z.kl.length zc) := hce W4 hr4
    have pA : (W4.alloc (.cells (#[.string ⟨#[]⟩, .slice none 0 0, .slice none 0 0] : Array Value) 26)).drew.cell? ⟨go, m * 3 + 2, none⟩ = some (.slice Z z.kl.length zc) := cell_kept (Moved.of_below hba (fun _ => False)) id p1
    have c0 : W4.cell? ⟨g, 0, none⟩ = some (.slice (some ⟨go, 0, none⟩) k cap) := HX4.out.arr.cell 0
    have HS0 : Hid ((fun (w' : World) => w'.cell? ⟨g, 0, none⟩ = some (.slice (some ⟨go, 0, none⟩) k cap) ∧ w'.cell? ⟨h9, 0, none⟩ = some (.string x.nm) ∧ w'.cell? ⟨h9, 1, none⟩ = some (.slice P x.ps.length pc) ∧ w'.cell? ⟨h9, 2, none⟩ = some (.slice Q x.kl.length kc)) W4.drew) := ⟨c0, HN4.out.cell 0, HN4.out.cell 1, HN4.out.cell 2⟩
    have HS1 : Hid ((fun (w' : World) => w'.cell? ⟨g, 0, none⟩ = some (.slice (some ⟨go, 0, none⟩) k cap) ∧ w'.cell? ⟨h9, 0, none⟩ = some (.string x.nm) ∧ w'.cell? ⟨h9, 1, none⟩ = some (.slice P x.ps.length pc) ∧ w'.cell? ⟨h9, 2, none⟩ = some (.slice Q x.kl.length kc)) (W4.alloc (.cells (#[.string ⟨#[]⟩, .slice none 0 0, .slice none 0 0] : Array Value) 26)).drew) := ⟨HXA.out.arr.cell 0, HNA.out.cell 0, HNA.out.cell 1, HNA.out.cell 2⟩
    have hgo : go ≠ g := fun e => ow_arr HX4.out.arr HX4.out.row tyneT.1 (by rw [← e]; rfl)
    have hgh9 : go ≠ h9 := by omega
    have HS6 : Hid (∀ w5 v, (fun (w' : World) => w'.cell? ⟨g, 0, none⟩ = some (.slice (some ⟨go, 0, none⟩) k cap) ∧ w'.cell? ⟨h9, 0, none⟩ = some (.string x.nm) ∧ w'.cell? ⟨h9, 1, none⟩ = some (.slice P x.ps.length pc) ∧ w'.cell? ⟨h9, 2, none⟩ = some (.slice Q x.kl.length kc)) w5 → (fun (w' : World) => w'.cell? ⟨g, 0, none⟩ = some (.slice (some ⟨go, 0, none⟩) k cap) ∧ w'.cell? ⟨h9, 0, none⟩ = some (.string x.nm) ∧ w'.cell? ⟨h9, 1, none⟩ = some (.slice P x.ps.length pc) ∧ w'.cell? ⟨h9, 2, none⟩ = some (.slice Q x.kl.length kc)) (w5.setCell ⟨go, m * 3 + 2, none⟩ v)) := fun w5 v ⟨h1, h2, h3, h4⟩ =>
      ⟨(World.cell?_setCell_far _ _ _ _ hgo).trans h1, (World.cell?_setCell_far _ _ _ _ hgh9).trans h2, (World.cell?_setCell_far _ _ _ _ hgh9).trans h3, (World.cell?_setCell_far _ _ _ _ hgh9).trans h4⟩
    have hzap : ∀ k', (Value.slice Z z.kl.length zc).ownBlock = some k' → k' ≠ go ∧ k' < h9 := fun k' hk' => by
      rw [← HZQ.out] at hk'
      exact ⟨fun e => pair_cons HX4.out.sepq hzm go rfl (e ▸ hk'), hzq9 k' hk'⟩
    have hgo4 : go < W4.heap.size := (hr4.lt go rfl).2
    have hh94 : h9 < W4.heap.size := HN4.out.lt
    have HAT : Hid (∀ g5 cap5 w5, w5.ownsRow B 26 3 (.slice (some ⟨g5, 0, none⟩) (z.kl.length + 1) cap5) (z.kl.length + 1) (kdL z.kl ++ (#[.string ⟨#[]⟩, .slice none 0 0, .slice none 0 0] : Array Value).toList) → (W4.alloc (.cells (#[.string ⟨#[]⟩, .slice none 0 0, .slice none 0 0] : Array Value) 26)).drew.grownBy w5 (Value.slice Z z.kl.length zc).ownBlock → ((Value.slice Z z.kl.length zc).ownBlock = some g5 ∨ g5 = (W4.alloc (.cells (#[.string ⟨#[]⟩, .slice none 0 0, .slice none 0 0] : Array Value) 26)).drew.heap.size) →
        g5 ≠ go ∧ g5 ≠ h9 ∧ g5 ≠ g ∧ Arr w5 g 77 (bdC (.slice (some ⟨go, 0, none⟩) k cap) ⟨(L1 ++ [z]).map ON.nd, false, rt, ns, pn⟩ r2 r3) ∧ Arr w5 h9 26 #[.string x.nm, .slice P x.ps.length pc, .slice Q x.kl.length kc] ∧ w5.ownsRow B 26 3 (.slice (some ⟨go, 0, none⟩) k cap) k (onL (L1 ++ [z]))) := by
      intro g5 cap5 w5 q1 q2 q3
      have hA5 := HXA.out.arr.gr q2 (ow_arr HXA.out.arr HROW.out tyneT.1)
      have hR := HXA.out.row
      rw [← HKK.out] at hR
      refine ⟨?_, ?_, fun e => ow_arr hA5 q1 tyneT.1 (by rw [← e]; rfl), hA5, HNA.out.gr q2 (fun e => absurd (hzap h9 e.symm).2 (by omega)), hR.kept q2 (.inr fun e => (hzap go e.symm).1 rfl)⟩
      · rintro rfl
        rcases q3 with h | h
        · exact (hzap g5 h).1 rfl
        · have := hba.size; omega
      · rintro rfl
        rcases q3 with h | h
        · have := (hzap g5 h).2; omega
        · have := hba.size; omega
    have HF5 : Hid (∀ g5 cap5 w5, w5.ownsRow B 26 3 (.slice (some ⟨g5, 0, none⟩) (z.kl.length + 1) cap5) (z.kl.length + 1) (kdL z.kl ++ (#[.string ⟨#[]⟩, .slice none 0 0, .slice none 0 0] : Array Value).toList) → (W4.alloc (.cells (#[.string ⟨#[]⟩, .slice none 0 0, .slice none 0 0] : Array Value) 26)).drew.grownBy w5 (Value.slice Z z.kl.length zc).ownBlock → ((Value.slice Z z.kl.length zc).ownBlock = some g5 ∨ g5 = (W4.alloc (.cells (#[.string ⟨#[]⟩, .slice none 0 0, .slice none 0 0] : Array Value) 26)).drew.heap.size) →
        (fun (w' : World) => w'.cell? ⟨g, 0, none⟩ = some (.slice (some ⟨go, 0, none⟩) k cap) ∧ w'.cell? ⟨h9, 0, none⟩ = some (.string x.nm) ∧ w'.cell? ⟨h9, 1, none⟩ = some (.slice P x.ps.length pc) ∧ w'.cell? ⟨h9, 2, none⟩ = some (.slice Q x.kl.length kc)) w5 ∧ w5.cell? ⟨go, m * 3 + 2, none⟩ = some (.slice Z z.kl.length zc) ∧ w5.frozen? ⟨go, m * 3 + 2, none⟩ = false) := by
      intro g5 cap5 w5 q1 q2 q3
      obtain ⟨_, _, _, hA5, hN5, hR5⟩ := HAT.out g5 cap5 w5 q1 q2 q3
      exact ⟨⟨hA5.cell 0, hN5.cell 0, hN5.cell 1, hN5.cell 2⟩, HCE.out w5 hR5, hR5.frozenAt _⟩
    have HFI : Hid (∀ g5 cap5 w5, w5.ownsRow B 26 3 (.slice (some ⟨g5, 0, none⟩) (z.kl.length + 1) cap5) (z.kl.length + 1) (kdL z.kl ++ (#[.string ⟨#[]⟩, .slice none 0 0, .slice none 0 0] : Array Value).toList) → (W4.alloc (.cells (#[.string ⟨#[]⟩, .slice none 0 0, .slice none 0 0] : Array Value) 26)).drew.grownBy w5 (Value.slice Z z.kl.length zc).ownBlock → ((Value.slice Z z.kl.length zc).ownBlock = some g5 ∨ g5 = (W4.alloc (.cells (#[.string ⟨#[]⟩, .slice none 0 0, .slice none 0 0] : Array Value) 26)).drew.heap.size) →
        ∃ vo' L' r2' r3', BX ((((w5.setCell ⟨go, m * 3 + 2, none⟩ (.slice (some ⟨g5, 0, none⟩) (z.kl.length + 1) cap5)).setCell ⟨g5, z.kl.length * 3, none⟩ (.string x.nm)).setCell ⟨g5, z.kl.length * 3 + 1, none⟩ (.slice P x.ps.length pc)).setCell ⟨g5, z.kl.length * 3 + 2, none⟩ (.slice Q x.kl.length kc)) B g ⟨L1.map ON.nd ++ [.mk z.nm z.ps (z.kl.map KD.nd ++ [x.nd])], false, rt, ns, pn⟩ vo' L' r2' r3' ∧ Moved w ((((w5.setCell ⟨go, m * 3 + 2, none⟩ (.slice (some ⟨g5, 0, none⟩) (z.kl.length + 1) cap5)).setCell ⟨g5, z.kl.length * 3, none⟩ (.string x.nm)).setCell ⟨g5, z.kl.length * 3 + 1, none⟩ (.slice P x.ps.length pc)).setCell ⟨g5, z.kl.length * 3 + 2, none⟩ (.slice Q x.kl.length kc)) (fpO g (.slice (some ⟨go, 0, none⟩) n cap) ((L1 ++ [z]) ++ [x])) (fpO g vo' L')) := by
      intro g5 cap5 w5 q1 q2 q3
      obtain ⟨hn1, hn2, hn3, hA5, hN5, hR5⟩ := HAT.out g5 cap5 w5 q1 q2 q3
      have hst := hR5.stored (m * 3 + 2) (.slice (some ⟨g5, 0, none⟩) (z.kl.length + 1) cap5)
      have hse : (onL (L1 ++ [z])).set (m * 3 + 2) (.slice (some ⟨g5, 0, none⟩) (z.kl.length + 1) cap5) = onL (L1 ++ [⟨z.nm, z.ps, z.kl ++ [⟨x.nd, .slice P x.ps.length pc, .slice Q x.kl.length kc⟩], z.p, .slice (some ⟨g5, 0, none⟩) (z.kl.length + 1) cap5⟩]) := by
        rw [onL_app, onL_app, HMM.out]
        exact set_two (onL L1) (.string z.nm) z.p z.q _ _ (by rw [onL_len])
      rw [hse] at hst
      have hfo := ownS_lies (n := z.kl.length + 1) (cap := cap5) q3
      have hfx : ∀ k', ownS (Value.slice Z z.kl.length zc) k' ↔ ownS z.q k' := fun k' => by rw [HZQ.out]
      have m0 : Moved W4 (W4.alloc (.cells (#[.string ⟨#[]⟩, .slice none 0 0, .slice none 0 0] : Array Value) 26)).drew (fun k' => ownS (.slice (some ⟨go, 0, none⟩) k cap) k' ∨ ownS z.q k') (fun k' => ownS (.slice (some ⟨go, 0, none⟩) k cap) k' ∨ ownS z.q k') := Moved.of_below hba _
      have m1 : Moved (W4.alloc (.cells (#[.string ⟨#[]⟩, .slice none 0 0, .slice none 0 0] : Array Value) 26)).drew w5 (fun k' => ownS (.slice (some ⟨go, 0, none⟩) k cap) k' ∨ ownS z.q k') (fun k' => ownS (.slice (some ⟨go, 0, none⟩) k cap) k' ∨ ownS (.slice (some ⟨g5, 0, none⟩) (z.kl.length + 1) cap5) k') := Moved.grown q2 (fun k' hk' => .inr ((hfx k').1 hk')) (fun k' hk' => by
        rcases hk' with hk' | hk'
        · exact .inl (.inl hk')
        · exact (hfo k' hk').imp (fun h => .inr ((hfx k').1 h)) id)
      have m2 : Moved w5 (w5.setCell ⟨go, m * 3 + 2, none⟩ (.slice (some ⟨g5, 0, none⟩) (z.kl.length + 1) cap5)) (fun k' => ownS (.slice (some ⟨go, 0, none⟩) k cap) k' ∨ ownS (.slice (some ⟨g5, 0, none⟩) (z.kl.length + 1) cap5) k') (fun k' => ownS (.slice (some ⟨go, 0, none⟩) k cap) k' ∨ ownS (.slice (some ⟨g5, 0, none⟩) (z.kl.length + 1) cap5) k') := Moved.grown hst.2 (fun k' hk' => by injection hk' with hk'; subst hk'; exact .inl rfl) (fun k' hk' => .inl hk')
      have hP5 := q1.kept (w' := w5.setCell ⟨go, m * 3 + 2, none⟩ (.slice (some ⟨g5, 0, none⟩) (z.kl.length + 1) cap5)) hst.2 (.inr fun e => hn1 (by injection e with e))
      have hrl : k = L1.length + 1 := by rw [HK0.out, HMM.out]
      have hs3 : (((kdL z.kl ++ (#[.string ⟨#[]⟩, .slice none 0 0, .slice none 0 0] : Array Value).toList).set (z.kl.length * 3) (.string x.nm)).set (z.kl.length * 3 + 1) (.slice P x.ps.length pc)).set (z.kl.length * 3 + 2) (.slice Q x.kl.length kc) = kdL (z.kl ++ [⟨x.nd, .slice P x.ps.length pc, .slice Q x.kl.length kc⟩]) := by
        rw [kdL_app]
        exact set_three (kdL z.kl) _ _ _ _ _ _ _ (flat_len (f := kdl) (fun _ => rfl) z.kl).symm
      have h3 := row_three hP5 (z.kl.length * 3) (.string x.nm) (.slice P x.ps.length pc) (.slice Q x.kl.length kc) hs3
      have m3 : Moved (w5.setCell ⟨go, m * 3 + 2, none⟩ (.slice (some ⟨g5, 0, none⟩) (z.kl.length + 1) cap5)) ((((w5.setCell ⟨go, m * 3 + 2, none⟩ (.slice (some ⟨g5, 0, none⟩) (z.kl.length + 1) cap5)).setCell ⟨g5, z.kl.length * 3, none⟩ (.string x.nm)).setCell ⟨g5, z.kl.length * 3 + 1, none⟩ (.slice P x.ps.length pc)).setCell ⟨g5, z.kl.length * 3 + 2, none⟩ (.slice Q x.kl.length kc)) (fun k' => ownS (.slice (some ⟨go, 0, none⟩) k cap) k' ∨ ownS (.slice (some ⟨g5, 0, none⟩) (z.kl.length + 1) cap5) k') (fun k' => ownS (.slice (some ⟨go, 0, none⟩) k cap) k' ∨ ownS (.slice (some ⟨g5, 0, none⟩) (z.kl.length + 1) cap5) k') := Moved.grown h3.2 (fun k' hk' => by injection hk' with hk'; subst hk'; exact .inr rfl) (fun k' hk' => .inl hk')
      have hbk := bx_kid HX4.out HD4.out (b' := ⟨L1.map ON.nd ++ [.mk z.nm z.ps (z.kl.map KD.nd ++ [x.nd])], false, rt, ns, pn⟩) (q' := .slice (some ⟨g5, 0, none⟩) (z.kl.length + 1) cap5) (w' := (((w5.setCell ⟨go, m * 3 + 2, none⟩ (.slice (some ⟨g5, 0, none⟩) (z.kl.length + 1) cap5)).setCell ⟨g5, z.kl.length * 3, none⟩ (.string x.nm)).setCell ⟨g5, z.kl.length * 3 + 1, none⟩ (.slice P x.ps.length pc)).setCell ⟨g5, z.kl.length * 3 + 2, none⟩ (.slice Q x.kl.length kc)) ((((hA5.far hgo.symm _).far hn3.symm _).far hn3.symm _).far hn3.symm _) rfl rfl h3.1 (by rw [← hrl]; exact hst.1.kept h3.2 (.inr fun e => hn1 (by injection e with e; exact e.symm))) (m0.trans (m1.trans (m2.trans m3))) (fun k' hk' => (hfo k' hk').imp (hfx k').1 fun h => Nat.le_trans hba.size h)
      exact ⟨_, _, _, _, hbk.1, HM4.out.trans hbk.2⟩
    have HZ5 : Hid (∀ g5 cap5 w5, w5.ownsRow B 26 3 (.slice (some ⟨g5, 0, none⟩) (z.kl.length + 1) cap5) (z.kl.length + 1) (kdL z.kl ++ (#[.string ⟨#[]⟩, .slice none 0 0, .slice none 0 0] : Array Value).toList) → (W4.alloc (.cells (#[.string ⟨#[]⟩, .slice none 0 0, .slice none 0 0] : Array Value) 26)).drew.grownBy w5 (Value.slice Z z.kl.length zc).ownBlock → ((Value.slice Z z.kl.length zc).ownBlock = some g5 ∨ g5 = (W4.alloc (.cells (#[.string ⟨#[]⟩, .slice none 0 0, .slice none 0 0] : Array Value) 26)).drew.heap.size) →
        (w5.setCell ⟨go, m * 3 + 2, none⟩ (.slice (some ⟨g5, 0, none⟩) (z.kl.length + 1) cap5)).cell? ⟨g5, z.kl.length * 3, none⟩ = some (.string ⟨#[]⟩) ∧ (w5.setCell ⟨go, m * 3 + 2, none⟩ (.slice (some ⟨g5, 0, none⟩) (z.kl.length + 1) cap5)).cell? ⟨g5, z.kl.length * 3 + 1, none⟩ = some (.slice none 0 0) ∧ (w5.setCell ⟨go, m * 3 + 2, none⟩ (.slice (some ⟨g5, 0, none⟩) (z.kl.length + 1) cap5)).cell? ⟨g5, z.kl.length * 3 + 2, none⟩ = some (.slice none 0 0) ∧ ∀ j, (w5.setCell ⟨go, m * 3 + 2, none⟩ (.slice (some ⟨g5, 0, none⟩) (z.kl.length + 1) cap5)).frozen? ⟨g5, j, none⟩ = false) := by
      intro g5 cap5 w5 q1 q2 q3
      obtain ⟨hn1, hn2, hn3, hA5, hN5, hR5⟩ := HAT.out g5 cap5 w5 q1 q2 q3
      have hst := hR5.stored (m * 3 + 2) (.slice (some ⟨g5, 0, none⟩) (z.kl.length + 1) cap5)
      have hP5 := q1.kept (w' := w5.setCell ⟨go, m * 3 + 2, none⟩ (.slice (some ⟨g5, 0, none⟩) (z.kl.length + 1) cap5)) hst.2 (.inr fun e => hn1 (by injection e with e))
      have hkl : (kdL z.kl).length = z.kl.length * 3 := flat_len (f := kdl) (fun _ => rfl) z.kl
      have e : ∀ j, j < 3 → (w5.setCell ⟨go, m * 3 + 2, none⟩ (.slice (some ⟨g5, 0, none⟩) (z.kl.length + 1) cap5)).cell? ⟨g5, z.kl.length * 3 + j, none⟩ = (#[.string ⟨#[]⟩, .slice none 0 0, .slice none 0 0] : Array Value).toList[j]? := fun j hj => by
        rw [hP5.cellAt _ (by omega), List.getElem?_append_right (by rw [hkl]; omega), hkl, Nat.add_sub_cancel_left]
      exact ⟨e 0 (by omega), e 1 (by omega), e 2 (by omega), fun j => hP5.frozenAt j⟩
    clear HXA HNA HX4 HM4 HD4 HN4 HAT HCE hba hr4 hce hz0 hzap hzq hgo4 hh94
    go_upto_region 13 with fail
    refine wp_region_held_drew (S := fun (w' : World) => w'.cell? ⟨g, 0, none⟩ = some (.slice (some ⟨go, 0, none⟩) k cap) ∧ w'.cell? ⟨h9, 0, none⟩ = some (.string x.nm) ∧ w'.cell? ⟨h9, 1, none⟩ = some (.slice P x.ps.length pc) ∧ w'.cell? ⟨h9, 2, none⟩ = some (.slice Q x.kl.length kc)) (by kernel_rfl) (by (first | exact HS0.out | exact HS1.out | assumption | exact HS6.out _ _ (by assumption))) (fun hHeld => ?_)
    refine takeH 0 72 rfl rfl (v := ?_) (by kernel_rfl) (by kernel_rfl) (by kernel_rfl) (fun _ _ _ h => h) (Or.inl ⟨by rfl, ?_⟩) hHeld ?_
    rotate_left 1
    · (intro w hSw; (try dsimp only at hSw); go_simp; try (with_reducible rfl))
    (try simp only [Act.put]); (try simp only [List.setIfInBounds_toArray]); (try simp only [List.set_cons_succ]); (try simp only [List.set_cons_zero])
    refine takeH 1 73 rfl rfl (v := ?_) (by kernel_rfl) (by kernel_rfl) (by kernel_rfl) (fun _ _ _ h => h) (Or.inl ⟨by rfl, ?_⟩) hHeld ?_
    rotate_left 1
    · (intro w hSw; (try dsimp only at hSw); go_simp; try (with_reducible rfl))
    (try simp only [Act.put]); (try simp only [List.setIfInBounds_toArray]); (try simp only [List.set_cons_succ]); (try simp only [List.set_cons_zero])
    refine takeH 2 74 rfl rfl (v := ?_) (by kernel_rfl) (by kernel_rfl) (by kernel_rfl) (fun _ _ _ h => h) (Or.inl ⟨by rfl, ?_⟩) hHeld ?_
    rotate_left 1
    · (intro w hSw; (try dsimp only at hSw); go_simp; try (with_reducible rfl))
    (try simp only [Act.put]); (try simp only [List.setIfInBounds_toArray]); (try simp only [List.set_cons_succ]); (try simp only [List.set_cons_zero])
    refine takeH 3 75 rfl rfl (v := ?_) (by kernel_rfl) (by kernel_rfl) (by kernel_rfl) (fun _ _ _ h => h) (Or.inl ⟨by rfl, ?_⟩) hHeld ?_
    rotate_left 1
    · (intro w hSw; (try dsimp only at hSw); go_simp; try (with_reducible rfl))
    (try simp only [Act.put]); (try simp only [List.setIfInBounds_toArray]); (try simp only [List.set_cons_succ]); (try simp only [List.set_cons_zero])
    refine takeH 4 76 rfl rfl (v := ?_) (by kernel_rfl) (by kernel_rfl) (by kernel_rfl) (fun _ _ _ h => h) (Or.inl ⟨by rfl, ?_⟩) hHeld ?_
    rotate_left 1
    · (intro w hSw; (try dsimp only at hSw); go_simp; try (with_reducible rfl))
    (try simp only [Act.put]); (try simp only [List.setIfInBounds_toArray]); (try simp only [List.set_cons_succ]); (try simp only [List.set_cons_zero])
    refine takeH 5 77 rfl rfl (v := ?_) (by kernel_rfl) (by kernel_rfl) (by kernel_rfl) (fun _ _ _ h => h) (Or.inl ⟨by rfl, ?_⟩) hHeld ?_
    rotate_left 1
    · (intro w hSw; (try dsimp only at hSw); go_simp; try (with_reducible rfl))
    (try simp only [Act.put]); (try simp only [List.setIfInBounds_toArray]); (try simp only [List.set_cons_succ]); (try simp only [List.set_cons_zero])
    refine takeH 6 78 rfl rfl (v := ?_) (by kernel_rfl) (by kernel_rfl) (by kernel_rfl) (fun _ _ _ h => h) (Or.inl ⟨by rfl, ?_⟩) hHeld ?_
    rotate_left 1
    · (intro w hSw; (try dsimp only at hSw); go_simp; try (with_reducible rfl))
    (try simp only [Act.put]); (try simp only [List.setIfInBounds_toArray]); (try simp only [List.set_cons_succ]); (try simp only [List.set_cons_zero])
    refine takeH 7 79 rfl rfl (v := ?_) (by kernel_rfl) (by kernel_rfl) (by kernel_rfl) (fun _ _ _ h => h) (Or.inl ⟨by rfl, ?_⟩) hHeld ?_
    rotate_left 1
    · (intro w hSw; (try dsimp only at hSw); go_simp; try (with_reducible rfl))
    (try simp only [Act.put]); (try simp only [List.setIfInBounds_toArray]); (try simp only [List.set_cons_succ]); (try simp only [List.set_cons_zero])
    refine takeH 8 80 rfl rfl (v := ?_) (by kernel_rfl) (by kernel_rfl) (by kernel_rfl) (fun _ _ _ h => h) (Or.inl ⟨by rfl, ?_⟩) hHeld ?_
    rotate_left 1
    · (intro w hSw; (try dsimp only at hSw); go_simp; try (with_reducible rfl))
    (try simp only [Act.put]); (try simp only [List.setIfInBounds_toArray]); (try simp only [List.set_cons_succ]); (try simp only [List.set_cons_zero])
    refine takeH 9 81 rfl rfl (v := ?_) (by kernel_rfl) (by kernel_rfl) (by kernel_rfl) (fun _ _ _ h => h) (Or.inl ⟨by rfl, ?_⟩) hHeld ?_
    rotate_left 1
    · (intro w hSw; (try dsimp only at hSw); go_simp; try (with_reducible rfl))
    (try simp only [Act.put]); (try simp only [List.setIfInBounds_toArray]); (try simp only [List.set_cons_succ]); (try simp only [List.set_cons_zero])
    refine takeH 10 82 rfl rfl (v := ?_) (by kernel_rfl) (by kernel_rfl) (by kernel_rfl) (fun _ _ _ h => h) (Or.inl ⟨by rfl, ?_⟩) hHeld ?_
    rotate_left 1
    · (intro w hSw; (try dsimp only at hSw); go_simp; try (with_reducible rfl))
    (try simp only [Act.put]); (try simp only [List.setIfInBounds_toArray]); (try simp only [List.set_cons_succ]); (try simp only [List.set_cons_zero])
    refine takeH 11 83 rfl rfl (v := ?_) (by kernel_rfl) (by kernel_rfl) (by kernel_rfl) (fun _ _ _ h => h) (Or.inl ⟨by rfl, ?_⟩) hHeld ?_
    rotate_left 1
    · (intro w hSw; (try dsimp only at hSw); go_simp; try (with_reducible rfl))
    (try simp only [Act.put]); (try simp only [List.setIfInBounds_toArray]); (try simp only [List.set_cons_succ]); (try simp only [List.set_cons_zero])
    refine takeH 12 84 rfl rfl (v := ?_) (by kernel_rfl) (by kernel_rfl) (by kernel_rfl) (fun _ _ _ h => h) (Or.inl ⟨by rfl, ?_⟩) hHeld ?_
    rotate_left 1
    · (intro w hSw; (try dsimp only at hSw); go_simp; try (with_reducible rfl))
    (try simp only [Act.put]); (try simp only [List.setIfInBounds_toArray]); (try simp only [List.set_cons_succ]); (try simp only [List.set_cons_zero])
    refine takeH 13 85 rfl rfl (v := ?_) (by kernel_rfl) (by kernel_rfl) (by kernel_rfl) (fun _ _ _ h => h) (Or.inl ⟨by rfl, ?_⟩) hHeld ?_
    rotate_left 1
    · (intro w hSw; (try dsimp only at hSw); go_simp; try (with_reducible rfl))
    (try simp only [Act.put]); (try simp only [List.setIfInBounds_toArray]); (try simp only [List.set_cons_succ]); (try simp only [List.set_cons_zero])
    refine takeH 15 87 rfl rfl (v := ?_) (by kernel_rfl) (by kernel_rfl) (by kernel_rfl) (fun _ _ _ h => h) (Or.inl ⟨by rfl, ?_⟩) hHeld ?_
    rotate_left 1
    · (intro w hSw; (try dsimp only at hSw); go_simp; try (with_reducible rfl))
    (try simp only [Act.put]); (try simp only [List.setIfInBounds_toArray]); (try simp only [List.set_cons_succ]); (try simp only [List.set_cons_zero])
    refine wpAnyH_ready (rs := [14, 17]) (by kernel_rfl) (by simp) (AllReadyH.cons rfl (fun K hK => ?_) (AllReadyH.cons rfl (fun K hK => ?_) AllReadyH.nil))
    · go_simp
      refine hK.out _ _ (by (first | exact HS0.out | exact HS1.out | assumption | exact HS6.out _ _ (by assumption))) (fun hHeld => ?_)
      clear hK K
      (try simp only [Act.put]); (try simp only [List.setIfInBounds_toArray]); (try simp only [List.set_cons_succ]); (try simp only [List.set_cons_zero])
      refine takeH 16 88 rfl rfl (v := ?_) (by kernel_rfl) (by kernel_rfl) (by kernel_rfl) (fun _ _ _ h => h) (Or.inl ⟨by rfl, ?_⟩) hHeld ?_
      rotate_left 1
      · (intro w hSw; (try dsimp only at hSw); go_simp; try (with_reducible rfl))
      (try simp only [Act.put]); (try simp only [List.setIfInBounds_toArray]); (try simp only [List.set_cons_succ]); (try simp only [List.set_cons_zero])
      refine wpAnyH_ready (rs := [17]) (by kernel_rfl) (by simp) (AllReadyH.cons rfl (fun K hK => ?_) AllReadyH.nil)
      go_simp
      refine hK.out _ _ (by (first | exact HS0.out | exact HS1.out | assumption | exact HS6.out _ _ (by assumption))) (fun hHeld => ?_)
      clear hK K
      (try simp only [Act.put]); (try simp only [List.setIfInBounds_toArray]); (try simp only [List.set_cons_succ]); (try simp only [List.set_cons_zero])
      refine wpAnyH_ready (rs := [18]) (by kernel_rfl) (by simp) (AllReadyH.cons rfl (fun K hK => ?_) AllReadyH.nil)
      refine step_append_at (by rfl) _ _ _ (by rfl) 26 3 64 HEL B (.slice Z z.kl.length zc) z.kl.length (kdL z.kl) (by rfl) HROW.out W4.heap.size (#[.string ⟨#[]⟩, .slice none 0 0, .slice none 0 0] : Array Value) HNEW.out rfl zeroN_one (by rfl) (by unfold maxLen; omega) (by omega) HBS.out ?_
      intro g5 cap5 w5 q1 q2 q3 q4
      obtain ⟨hs5, y2, y3⟩ := HF5.out g5 cap5 w5 q1 q2 q3
      (try simp only [Act.put]); (try simp only [List.setIfInBounds_toArray]); (try simp only [List.set_cons_succ]); (try simp only [List.set_cons_zero])
      refine hK.out _ _ (by (first | exact HS0.out | exact HS1.out | assumption | exact HS6.out _ _ (by assumption))) (fun hHeld => ?_)
      clear hK K
      (try simp only [Act.put]); (try simp only [List.setIfInBounds_toArray]); (try simp only [List.set_cons_succ]); (try simp only [List.set_cons_zero])
      refine takeH 19 91 rfl rfl (v := ?_) (by kernel_rfl) (by kernel_rfl) (by kernel_rfl) (fun _ _ _ h => h) (Or.inl ⟨by rfl, ?_⟩) hHeld ?_
      rotate_left 1
      · (intro w hSw; (try dsimp only at hSw); go_simp; try (with_reducible rfl))
      (try simp only [Act.put]); (try simp only [List.setIfInBounds_toArray]); (try simp only [List.set_cons_succ]); (try simp only [List.set_cons_zero])
      refine takeH 20 92 rfl rfl (v := ?_) (by kernel_rfl) (by kernel_rfl) (by kernel_rfl) (fun _ _ _ h => h) (Or.inl ⟨by rfl, ?_⟩) hHeld ?_
      rotate_left 1
      · (intro w hSw; (try dsimp only at hSw); go_simp; try (with_reducible rfl))
      (try simp only [Act.put]); (try simp only [List.setIfInBounds_toArray]); (try simp only [List.set_cons_succ]); (try simp only [List.set_cons_zero])
      refine wpAnyH_ready (rs := [21]) (by kernel_rfl) (by simp) (AllReadyH.cons rfl (fun K hK => ?_) AllReadyH.nil)
      go_simp
      refine hK.out _ _ (by (first | exact HS0.out | exact HS1.out | assumption | exact HS6.out _ _ (by assumption))) (fun hHeld => ?_)
      clear hK K
      (try simp only [Act.put]); (try simp only [List.setIfInBounds_toArray]); (try simp only [List.set_cons_succ]); (try simp only [List.set_cons_zero])
      refine wpAnyH_done (by kernel_rfl) ?_ _
      obtain ⟨z0, z1, z2, z3⟩ := HZ5.out g5 cap5 w5 q1 q2 q3
      have f5 := z3 (z.kl.length * 3)
      have f6 := z3 (z.kl.length * 3 + 1)
      have f7 := z3 (z.kl.length * 3 + 2)
      clear z3
      have hr1 : (z.kl.length : Int) < (z.kl.length : Int) + 1 := by omega
      have HE := Lib.hid (HFI.out g5 cap5 w5 q1 q2 q3)
      clear hs5 y2 y3 q1 q2 q3 q4 HF5 HFI HZ5 HROW HNEW HBS pA HEL HS0 HS1 HS6 hHeld c0 p1
      go_wp2
      go_ret
      exact ⟨rfl, HR.out ▸ HE.out⟩
    · go_simp
      refine hK.out _ _ (by (first | exact HS0.out | exact HS1.out | assumption | exact HS6.out _ _ (by assumption))) (fun hHeld => ?_)
      clear hK K
      (try simp only [Act.put]); (try simp only [List.setIfInBounds_toArray]); (try simp only [List.set_cons_succ]); (try simp only [List.set_cons_zero])
      refine wpAnyH_ready (rs := [14]) (by kernel_rfl) (by simp) (AllReadyH.cons rfl (fun K hK => ?_) AllReadyH.nil)
      go_simp
      refine hK.out _ _ (by (first | exact HS0.out | exact HS1.out | assumption | exact HS6.out _ _ (by assumption))) (fun hHeld => ?_)
      clear hK K
      (try simp only [Act.put]); (try simp only [List.setIfInBounds_toArray]); (try simp only [List.set_cons_succ]); (try simp only [List.set_cons_zero])
      refine takeH 16 88 rfl rfl (v := ?_) (by kernel_rfl) (by kernel_rfl) (by kernel_rfl) (fun _ _ _ h => h) (Or.inl ⟨by rfl, ?_⟩) hHeld ?_
      rotate_left 1
      · (intro w hSw; (try dsimp only at hSw); go_simp; try (with_reducible rfl))
      (try simp only [Act.put]); (try simp only [List.setIfInBounds_toArray]); (try simp only [List.set_cons_succ]); (try simp only [List.set_cons_zero])
      refine wpAnyH_ready (rs := [18]) (by kernel_rfl) (by simp) (AllReadyH.cons rfl (fun K hK => ?_) AllReadyH.nil)
      refine step_append_at (by rfl) _ _ _ (by rfl) 26 3 64 HEL B (.slice Z z.kl.length zc) z.kl.length (kdL z.kl) (by rfl) HROW.out W4.heap.size (#[.string ⟨#[]⟩, .slice none 0 0, .slice none 0 0] : Array Value) HNEW.out rfl zeroN_one (by rfl) (by unfold maxLen; omega) (by omega) HBS.out ?_
      intro g5 cap5 w5 q1 q2 q3 q4
      obtain ⟨hs5, y2, y3⟩ := HF5.out g5 cap5 w5 q1 q2 q3
      (try simp only [Act.put]); (try simp only [List.setIfInBounds_toArray]); (try simp only [List.set_cons_succ]); (try simp only [List.set_cons_zero])
      refine hK.out _ _ (by (first | exact HS0.out | exact HS1.out | assumption | exact HS6.out _ _ (by assumption))) (fun hHeld => ?_)
      clear hK K
      (try simp only [Act.put]); (try simp only [List.setIfInBounds_toArray]); (try simp only [List.set_cons_succ]); (try simp only [List.set_cons_zero])
      refine takeH 19 91 rfl rfl (v := ?_) (by kernel_rfl) (by kernel_rfl) (by kernel_rfl) (fun _ _ _ h => h) (Or.inl ⟨by rfl, ?_⟩) hHeld ?_
      rotate_left 1
      · (intro w hSw; (try dsimp only at hSw); go_simp; try (with_reducible rfl))
      (try simp only [Act.put]); (try simp only [List.setIfInBounds_toArray]); (try simp only [List.set_cons_succ]); (try simp only [List.set_cons_zero])
      refine takeH 20 92 rfl rfl (v := ?_) (by kernel_rfl) (by kernel_rfl) (by kernel_rfl) (fun _ _ _ h => h) (Or.inl ⟨by rfl, ?_⟩) hHeld ?_
      rotate_left 1
      · (intro w hSw; (try dsimp only at hSw); go_simp; try (with_reducible rfl))
      (try simp only [Act.put]); (try simp only [List.setIfInBounds_toArray]); (try simp only [List.set_cons_succ]); (try simp only [List.set_cons_zero])
      refine wpAnyH_ready (rs := [21]) (by kernel_rfl) (by simp) (AllReadyH.cons rfl (fun K hK => ?_) AllReadyH.nil)
      go_simp
      refine hK.out _ _ (by (first | exact HS0.out | exact HS1.out | assumption | exact HS6.out _ _ (by assumption))) (fun hHeld => ?_)
      clear hK K
      (try simp only [Act.put]); (try simp only [List.setIfInBounds_toArray]); (try simp only [List.set_cons_succ]); (try simp only [List.set_cons_zero])
      refine wpAnyH_done (by kernel_rfl) ?_ _
      obtain ⟨z0, z1, z2, z3⟩ := HZ5.out g5 cap5 w5 q1 q2 q3
      have f5 := z3 (z.kl.length * 3)
      have f6 := z3 (z.kl.length * 3 + 1)
      have f7 := z3 (z.kl.length * 3 + 2)
      clear z3
      have hr1 : (z.kl.length : Int) < (z.kl.length : Int) + 1 := by omega
      have HE := Lib.hid (HFI.out g5 cap5 w5 q1 q2 q3)
      clear hs5 y2 y3 q1 q2 q3 q4 HF5 HFI HZ5 HROW HNEW HBS pA HEL HS0 HS1 HS6 hHeld c0 p1
      go_wp2
      go_ret
      exact ⟨rfl, HR.out ▸ HE.out⟩
end Go.Proofs.Ytmgmpjgofolkgaa
