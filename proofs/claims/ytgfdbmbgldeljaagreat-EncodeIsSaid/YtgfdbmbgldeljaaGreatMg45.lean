/- What package tree's reader does at node: a whole node, or why there is none, as the document's Builder has it. Conditions: a reader in memory, over tokens that stay. -/
import Derived.Test.YtgfdbmbgldeljaaGreatMg44
namespace Go.Proofs.YtgfdbmbgldeljaaGreat
open Go.RowKit

theorem into_any (w0 : World) (r B g L : Nat) (hN : NodeOK w0 r (L + 1)) (op : List ND) (nm : ByteArray) (ps : List PR) (kl : List KD) (p q : Value) (t : TK) (A : Option Addr) (cap : Nat) (l : List TK) (ns pn : Nat) (w : World) (hop : op.length + 1 = L) (hL : L ≤ 8) (hns : ns ≤ 64) (hpn : pn ≤ 256) (hps : ps.length ≤ pn) (hkl : kl.length ≤ ns)
    (h2 : t.kd ≠ 2) (h4 : t.kd ≠ 4) (hR : RdrT w0 w r A cap l ns pn) (hb0 : Below w0.heap.size w0 w) (hV : NodeV w B g ⟨nm, ps, kl, p, q⟩) (hrB : r < B) :
    Calls Tryz.prog 94 #[.pointer (some ⟨r, 0, none⟩), .pointer (some ⟨g, 0, none⟩), .agg #[.int .i64 t.kd, .string t.nm, .string t.vl], .int .i64 (L : Int)] w fun e w' => IntoPost w0 w r B g ⟨nm, ps, kl, p, q⟩ op t l ns pn e w' := by
  obtain ⟨kd, tn, tv⟩ := t
  simp only at h2 h4 ⊢
  by_cases h1 : kd = 1
  · exact into_kid w0 r B g L hN op nm ps kl p q kd tn tv A cap l ns pn w hop hL hns hpn hps hkl h1 hR hb0 hV hrB
  by_cases h3 : kd = 3
  · by_cases hk : kl = []
    · by_cases h6 : pn = 256
      · exact into_full w0 r B g L op nm ps kl p q kd tn tv A cap l ns pn w hop hL hns hpn hps hkl h3 hk h6 hR hb0 hV hrB
      · exact into_prop w0 r B g L op nm ps kl p q kd tn tv A cap l ns pn w hop hL hns hpn hps hkl h3 hk h6 hR hb0 hV hrB
    · exact into_late w0 r B g L op nm ps kl p q kd tn tv A cap l ns pn w hop hL hns hpn hps hkl h3 hk hR hb0 hV hrB
  · exact into_form w0 r B g L op nm ps kl p q kd tn tv A cap l ns pn w hop hL hns hpn hps hkl h1 h2 h3 h4 hR hb0 hV hrB
theorem moved_news {w wr w' : World} {F : Nat → Prop} {B : Nat} (h : Moved w wr F F) (hB : w.heap.size ≤ B) (hm : Moved wr w' (fun k => F k ∨ B ≤ k) (fun k => F k ∨ B ≤ k)) : Moved w w' F F := by
  have h1 : Moved w wr F (fun k => F k ∨ B ≤ k) := h.inside (fun _ h => h) (fun k hk => hk.elim .inl (fun e => .inr (.inr (Nat.le_trans hB e))))
  exact (h1.trans hm).inside (fun _ h => h) (fun _ hk => .inl hk)
theorem zN_one : (zeroN : Array Value).all (·.oneCell') = true := zl_one

set_option maxHeartbeats 3200000 in
set_option maxRecDepth 100000 in
theorem node_any (w0 : World) (r : Nat) : ∀ (k L : Nat), L + k = 9 → 1 ≤ L → NodeOK w0 r L
  | 0, L, hLk, _ => by
    intro op nm vl A cap l ns pn w hop hns hpn hR hb0
    have HF : Hid (finB (runB (stB op ns pn) (⟨1, nm, vl⟩ :: l)) = (nd0, 13)) := fin_err (take_deep op ns pn ⟨1, nm, vl⟩ rfl (by omega))
    have hL9 : L = 9 := by omega
    have c1 : decide ((8 : Int) < (L : Int)) = true := decide_eq_true (by omega)
    have hb1 : Below w.heap.size w (w.alloc (.cells zeroN 25)) := (Below.refl _ _).alloc (Nat.le_refl _) _
    have hA6 := Arr.new w 25 zeroN
    have hr1 := hR.kept (Moved.of_below hb1 (fun _ => False)) id
    have HM1 := Lib.hid (Moved.of_below hb1 (fun k => k = r))
    have HRW : Hid (r < w.heap.size) := hR.arr.lt
    clear hb1 hop hL9 hLk hR
    obtain ⟨W1, hW1⟩ : ∃ W1, W1 = w.alloc (.cells zeroN 25) := ⟨_, rfl⟩
    obtain ⟨g6, hg6⟩ : ∃ g6, g6 = w.heap.size := ⟨_, rfl⟩
    rw [← hW1] at hA6 hr1 HM1
    rw [← hg6] at hA6
    have HG6 : Hid (w.heap.size ≤ g6) := by unfold Hid; omega
    have c0 : W1.cell? ⟨r, 1, none⟩ = some (.int .i64 (ns : Int)) := hr1.arr.cell 1
    have f0 := hr1.arr.frozen 1
    have hrl := hr1.arr.lt
    have hg6r : g6 ≠ r := by have := HRW.out; omega
    have HA6 := Lib.hid (hA6.far hg6r (.int .i64 ((ns : Int) + 1)) (j := 1))
    have HM2 := Lib.hid (HM1.out.trans (Moved.grown (gr_cell W1 r 1 (.int .i64 ((ns : Int) + 1))) (fun k hk => by injection hk with hk; exact hk.symm) (fun k hk => .inl hk)))
    clear hA6 hr1 HM1
    go_enter Tryz.func78, Tryz.ntmps78
    go_upto_region 1 with fail
    change Code.wp _ _ _ _ (w.alloc (.cells zeroN 25))
    rw [← hW1, ← hg6]
    clear hW1 hg6
    go_upto_region 2 with fail
    clear c0 f0 hrl
    generalize W1.setCell ⟨r, 1, none⟩ (.int .i64 ((ns : Int) + 1)) = W2 at *
    go_wp2_with (refine wpList_store_row rfl 25 (.tmp 6) (.tmp 22) rfl g6 zeroN rfl rfl _ _ HA6.out (infoNd _ _ _) rfl zN_one ?_)
    exact bodyPost_ret (results_rowN rfl _ _ g6 _ zeroN _ _ rfl (HA6.out.row _) Tryz.underlying25 rfl (infoNd _ _ _)) rfl ⟨moved_new HM2.out HG6.out (moved_setRow W2 g6 _), .inr ⟨13, rfl, by decide, HF.out⟩⟩
  | k + 1, L, hLk, hL1 => by
    have HNO := Lib.hid (node_any w0 r k (L + 1) (by omega) (by omega))
    intro op nm vl A cap l ns pn w hop hns hpn hR hb0
    have hb1 : Below w.heap.size w (w.alloc (.cells zeroN 25)) := (Below.refl _ _).alloc (Nat.le_refl _) _
    have hA6 := Arr.new w 25 zeroN
    have hr1 := hR.kept (Moved.of_below hb1 (fun _ => False)) id
    have HM1 := Lib.hid (Moved.of_below hb1 (fun k => k = r))
    have HB0 := Lib.hid hb0
    have HRW : Hid (r < w.heap.size) := hR.arr.lt
    have hLO := hR.lo
    have HLO := Lib.hid hLO
    have c1 : decide ((8 : Int) < (L : Int)) = false := decide_eq_false (by omega)
    have hL8 : L ≤ 8 := by omega
    have hB1 : w.heap.size + 1 = (w.alloc (.cells zeroN 25)).heap.size := (sz_alloc _ _).symm
    obtain ⟨W1, hW1⟩ : ∃ W1, W1 = w.alloc (.cells zeroN 25) := ⟨_, rfl⟩
    obtain ⟨g6, hg6⟩ : ∃ g6, g6 = w.heap.size := ⟨_, rfl⟩
    rw [← hW1] at hA6 hr1 HM1 hB1
    rw [← hg6] at hA6
    have HG6 : Hid (w.heap.size ≤ g6 ∧ g6 < W1.heap.size) := ⟨by omega, hA6.lt⟩
    have c0 : W1.cell? ⟨r, 1, none⟩ = some (.int .i64 (ns : Int)) := hr1.arr.cell 1
    have f0 := hr1.arr.frozen 1
    have hrl := hr1.arr.lt
    have hg6r : g6 ≠ r := by have := HRW.out; omega
    have HA6 := Lib.hid (hA6.far hg6r (.int .i64 ((ns : Int) + 1)) (j := 1))
    have HR2 : Hid (RdrT w0 (W1.setCell ⟨r, 1, none⟩ (.int .i64 ((ns : Int) + 1))) r A cap l (ns + 1) pn) := ⟨hr1.arr.put 1 _, hr1.rd, hr1.le, hr1.mx, hr1.lo⟩
    have HM2 := Lib.hid (HM1.out.trans (Moved.grown (gr_cell W1 r 1 (.int .i64 ((ns : Int) + 1))) (fun k hk => by injection hk with hk; exact hk.symm) (fun k hk => .inl hk)))
    clear hA6 hr1 HM1 hb1 hR hb0 hB1 hLO
    by_cases h64 : ns = 64
    · have HF : Hid (finB (runB (stB op ns pn) (⟨1, nm, vl⟩ :: l)) = (nd0, 7)) := fin_err (take_many op ns pn ⟨1, nm, vl⟩ rfl (by omega) h64)
      have d6 : (64 : Int) < (ns : Int) + 1 := by omega
      clear h64 hop
      go_enter Tryz.func78, Tryz.ntmps78
      go_upto_region 1 with fail
      change Code.wp _ _ _ _ (w.alloc (.cells zeroN 25))
      rw [← hW1, ← hg6]
      clear hW1 hg6
      go_upto_region 2 with fail
      clear c0 f0 hrl
      generalize W1.setCell ⟨r, 1, none⟩ (.int .i64 ((ns : Int) + 1)) = W2 at *
      have c0 : W2.cell? ⟨r, 1, none⟩ = some (.int .i64 ((ns : Int) + 1)) := by have := HR2.out.arr.cell 1; simpa using this
      go_wp2_with (refine wpList_store_row rfl 25 (.tmp 6) (.tmp 29) rfl g6 zeroN rfl rfl _ _ HA6.out (infoNd _ _ _) rfl zN_one ?_)
      exact bodyPost_ret (results_rowN rfl _ _ g6 _ zeroN _ _ rfl (HA6.out.row _) Tryz.underlying25 rfl (infoNd _ _ _)) rfl ⟨moved_new HM2.out HG6.out.1 (moved_setRow W2 g6 _), .inr ⟨7, rfl, by decide, HF.out⟩⟩
    have HOPEN : Hid (finB (runB (stB op ns pn) (⟨1, nm, vl⟩ :: l)) = finB (runB (stB (op ++ [.mk nm [] []]) (ns + 1) pn) l)) := fin_ok (take_open op ns pn ⟨1, nm, vl⟩ rfl (by omega) h64)
    have d6 : (ns : Int) + 1 ≤ 64 := by omega
    have hns1 : ns + 1 ≤ 64 := by omega
    have HOP := Lib.hid hop
    clear h64 hop
    go_enter Tryz.func78, Tryz.ntmps78
    go_upto_region 1 with fail
    change Code.wp _ _ _ _ (w.alloc (.cells zeroN 25))
    rw [← hW1, ← hg6]
    clear hW1 hg6
    go_upto_region 2 with fail
    clear c0 f0 hrl
    generalize W1.setCell ⟨r, 1, none⟩ (.int .i64 ((ns : Int) + 1)) = W2 at *
    have c0 : W2.cell? ⟨r, 1, none⟩ = some (.int .i64 ((ns : Int) + 1)) := by have := HR2.out.arr.cell 1; simpa using this
    obtain ⟨B, hBe⟩ : ∃ B, B = W2.heap.size := ⟨_, rfl⟩
    have hb8 : Below W2.heap.size W2 (W2.alloc (.cells #[.string nm, .slice none 0 0, .slice none 0 0] 25)) := (Below.refl _ _).alloc (Nat.le_refl _) _
    have HV8 : Hid (NodeV (W2.alloc (.cells #[.string nm, .slice none 0 0, .slice none 0 0] 25)) B W2.heap.size ⟨nm, [], [], .slice none 0 0, .slice none 0 0⟩) := nv_new (Arr.new W2 _ _) (Nat.le_of_eq hBe)
    have HR8 := Lib.hid (HR2.out.kept (Moved.of_below hb8 (fun _ => False)) id)
    have HM8 := Lib.hid (HM2.out.trans (Moved.of_below hb8 _))
    have HA68 := Lib.hid (HA6.out.below hb8 HA6.out.lt)
    have HRB : Hid (r < B) := by rw [hBe]; exact HR2.out.arr.lt
    have HG6B : Hid (g6 < B) := by rw [hBe]; exact HA6.out.lt
    have HWB : Hid (w.heap.size ≤ B) := by rw [hBe]; exact HM2.out.size
    rw [← hBe] at HV8
    clear hb8 HR2 HM2 HA6
    go_wp2
    rw [← hBe]
    clear hBe
    go_loopw [] (fun wr => ∃ (nm' : ByteArray) (ps : List PR) (kl : List KD) (p q : Value) (A' : Option Addr) (cap' : Nat) (m : List TK) (ns' pn' : Nat), NodeV wr B B ⟨nm', ps, kl, p, q⟩ ∧ RdrT w0 wr r A' cap' m ns' pn' ∧ ns < ns' ∧ ns' ≤ 64 ∧ pn ≤ pn' ∧ pn' ≤ 256 ∧ ps.length ≤ pn' ∧ kl.length ≤ ns' ∧ m.length ≤ l.length ∧ Hid (finB (runB (stB op ns pn) (⟨1, nm, vl⟩ :: l)) = finB (runB (stB (op ++ [(⟨nm', ps, kl, p, q⟩ : ON).nd]) ns' pn') m)) ∧ Arr wr g6 25 zeroN ∧ Moved w wr (fun k => k = r) (fun k => k = r)) (fun wr => lenAt wr r)
    case atStart => exact ⟨nm, [], [], _, _, A, cap, l, ns + 1, pn, HV8.out, HR8.out, Nat.lt_succ_self _, hns1, Nat.le_refl _, hpn, Nat.zero_le _, Nat.zero_le _, Nat.le_refl _, HOPEN.out, HA68.out, HM8.out⟩
    case round =>
      clear HV8 HR8 HOPEN HA68 HM8 c0 d6 hns1 hns hpn
      obtain ⟨nm', ps, kl, p, q, A', cap', m, ns', pn', hV, hR, b1, b2, b3, b4, b5, b6, b7, HF, hA6, hM⟩ := hrel
      obtain ⟨P, pd, Q, qd, rfl, rfl⟩ := nv_q hV
      have HV := Lib.hid hV
      have HM := Lib.hid hM
      have HA6 := Lib.hid hA6
      have HB0R : Hid (Below w0.heap.size w0 wr) := HB0.out.trans (hM.below (fun k hk => by rw [hk]; exact HLO.out) HB0.out.size)
      have HC := Lib.hid (next_any w0 r A' cap' m ns' pn' wr hR HB0R.out)
      have HLE := Lib.hid hR.lenAt
      clear hV hR hA6 hM
      go_wp2_with fail
      refine HC.out.mono ?_
      rintro e w1 ⟨⟨kd, tn, tv⟩, f, A1, cap1, l1, rfl, hP, hR1, hM1⟩
      have HP := Lib.hid hP
      have hb9 : Below w1.heap.size w1 (w1.alloc (.cells (tkC ⟨kd, tn, tv⟩) 88)) := (Below.refl _ _).alloc (Nat.le_refl _) _
      have hA9 := Arr.new w1 88 (tkC ⟨kd, tn, tv⟩)
      have HV9 := Lib.hid ((HV.out.apart hM1 (fun k hk => by rw [hk]; exact HRB.out)).below hb9)
      have HR9 := Lib.hid (hR1.kept (Moved.of_below hb9 (fun _ => False)) id)
      have HA69 := Lib.hid ((hM1.arr HA6.out hg6r).below hb9 (hM1.arr HA6.out hg6r).lt)
      have HM9 := Lib.hid ((HM.out.trans hM1).trans (Moved.of_below hb9 _))
      have HB09 := Lib.hid (HB0.out.trans (HM9.out.below (fun k hk => by rw [hk]; exact HLO.out) HB0.out.size))
      have q0 : (w1.alloc (.cells (tkC ⟨kd, tn, tv⟩) 88)).cell? ⟨w1.heap.size, 0, none⟩ = some (.int .i64 kd) := hA9.cell 0
      have q1 : (w1.alloc (.cells (tkC ⟨kd, tn, tv⟩) 88)).cell? ⟨w1.heap.size, 1, none⟩ = some (.string tn) := hA9.cell 1
      have q2 : (w1.alloc (.cells (tkC ⟨kd, tn, tv⟩) 88)).cell? ⟨w1.heap.size, 2, none⟩ = some (.string tv) := hA9.cell 2
      clear hb9 hA9 hR1 hM1 HV HM HA6 HC HB0R
      have HNX : Hid (finB (runB (stB op ns pn) (⟨1, nm, vl⟩ :: l)) = finB (runB (stB (op ++ [(⟨nm', ps, kl, .slice P ps.length pd, .slice Q kl.length qd⟩ : ON).nd]) ns' pn') (⟨kd, tn, tv⟩ :: l1))) := HF.out.trans (fin_next rfl hP)
      have HLL : Hid (l1.length ≤ m.length ∧ (f = true → l1.length < m.length) ∧ (f = false → kd = 0) ∧ kd ≠ 4) := next_len hP
      clear hP HP HF
      go_upto_region 8 with fail
      change Code.wp _ _ _ _ (w1.alloc (.cells (tkC ⟨kd, tn, tv⟩) 88))
      generalize w1.alloc (.cells (tkC ⟨kd, tn, tv⟩) 88) = W9 at *
      generalize w1.heap.size = g9 at *
      by_cases h2 : kd = 2
      · have d2 : (kd == 2) = true := by rw [h2]; rfl
        have HFE : Hid (finB (runB (stB op ns pn) (⟨1, nm, vl⟩ :: l)) = finB (runB (popB op (⟨nm', ps, kl, .slice P ps.length pd, .slice Q kl.length qd⟩ : ON).nd ns' pn') l1)) := HNX.out.trans (fin_ok (take_end op _ ns' pn' ⟨kd, tn, tv⟩ h2))
        have c0 : W9.cell? ⟨B, 0, none⟩ = some (.string nm') := HV9.out.arr.cell 0
        have c1 : W9.cell? ⟨B, 1, none⟩ = some (.slice P ps.length pd) := HV9.out.arr.cell 1
        have c2 : W9.cell? ⟨B, 2, none⟩ = some (.slice Q kl.length qd) := HV9.out.arr.cell 2
        have HONE : Hid ((#[.string nm', .slice P ps.length pd, .slice Q kl.length qd] : Array Value).all (·.oneCell') = true) := by
          unfold Hid
          rw [Array.all_eq_true_iff_forall_mem]
          intro v hv
          simp at hv
          rcases hv with rfl | rfl | rfl <;> rfl
        have HDN : Hid (NdAt (W9.setRow g6 #[.string nm', .slice P ps.length pd, .slice Q kl.length qd]) (fun b => w.heap.size ≤ b) (⟨nm', ps, kl, .slice P ps.length pd, .slice Q kl.length qd⟩ : ON).nd (.slice P ps.length pd) (.slice Q kl.length qd)) :=
          ((nv_done HV9.out).kept (moved_setRow W9 g6 _) (fun k hk e => by have := HG6B.out; omega)).mono (fun k hk => Nat.le_trans HWB.out hk)
        have HR10 : Hid (RdrT w0 (W9.setRow g6 #[.string nm', .slice P ps.length pd, .slice Q kl.length qd]) r A1 cap1 l1 ns' pn') := HR9.out.kept (moved_setRow W9 g6 _) (fun e => hg6r e.symm)
        have HLB : Hid (l1.length ≤ l.length) := Nat.le_trans HLL.out.1 b7
        clear h2 HNX
        go_wp2_with (refine wpList_store_row rfl 25 (.tmp 6) (.tmp 40) rfl g6 #[.string nm', .slice P ps.length pd, .slice Q kl.length qd] rfl rfl _ _ HA69.out (infoNd _ _ _) rfl HONE.out ?_)
        exact bodyPost_ret (results_rowN rfl _ _ g6 _ #[.string nm', .slice P ps.length pd, .slice Q kl.length qd] _ _ rfl (HA69.out.row _) Tryz.underlying25 rfl (infoNd _ _ _)) rfl ⟨moved_new HM9.out HG6.out.1 (moved_setRow W9 g6 _), .inl ⟨_, _, _, A1, cap1, l1, ns', pn', rfl, HDN.out, HR10.out, b1, b2, b3, b4, HLB.out, HFE.out⟩⟩
      · have d2 : (kd == 2) = false := by simpa using h2
        have HI := Lib.hid (into_any w0 r B B L HNO.out op nm' ps kl _ _ ⟨kd, tn, tv⟩ A1 cap1 l1 ns' pn' W9 HOP.out hL8 b2 b4 b5 b6 h2 HLL.out.2.2.2 HR9.out HB09.out HV9.out HRB.out)
        clear h2 HV9 HR9 HB09
        go_wp2_with fail
        refine HI.out.mono ?_
        rintro e w5 ⟨hM5, ⟨⟨nm5, ps5, kl5, p5, q5⟩, A5, cap5, l5, ns5, pn5, rfl, hk, hV5, hR5, e1, e2, e3, e4, e5, e6, e7, heq⟩ | ⟨er, rfl, her, hfe⟩⟩
        · have HM5 := Lib.hid (moved_news HM9.out HWB.out hM5)
          have HA65 := Lib.hid (hM5.arr HA69.out (fun h => h.elim hg6r (fun h => by have := HG6B.out; omega)))
          have HV5 := Lib.hid hV5
          have HR5 := Lib.hid hR5
          have HEQ := Lib.hid (HNX.out.trans heq)
          have HL5 : Hid (lenAt w5 r < lenAt wr r) := by
            unfold Hid
            rw [HLE.out, hR5.lenAt]
            have hf : f = true := by
              cases f with
              | true => rfl
              | false =>
                have := HLL.out.2.2.1 rfl
                rcases hk with hk | hk
                · rw [this] at hk; cases hk
                · rw [this] at hk; cases hk
            have := HLL.out.2.1 hf
            omega
          have HLB : Hid (l5.length ≤ l.length) := Nat.le_trans e7 (Nat.le_trans HLL.out.1 b7)
          clear hM5 hV5 hR5 heq hk HI HA69 HM9 HNX q0 q1 q2
          go_wp2
          go_roundw
          case rel => exact ⟨nm5, ps5, kl5, p5, q5, A5, cap5, l5, ns5, pn5, HV5.out, HR5.out, by omega, e2, by omega, e4, e5, e6, HLB.out, HEQ.out, HA65.out, HM5.out⟩
          case measure => exact HL5.out
        · have HM5 := Lib.hid (moved_news HM9.out HWB.out hM5)
          have HA65 := Lib.hid (hM5.arr HA69.out (fun h => h.elim hg6r (fun h => by have := HG6B.out; omega)))
          have HEQ := Lib.hid (HNX.out.trans hfe)
          have HER := Lib.hid her
          have d5 : ((er : Int) != 0) = true := by simp; omega
          clear hM5 hfe her HI HA69 HM9 HNX q0 q1 q2
          go_wp2_with (refine wpList_store_row rfl 25 (.tmp 6) (.tmp 47) rfl g6 zeroN rfl rfl _ _ HA65.out (infoNd _ _ _) rfl zN_one ?_)
          exact bodyPost_ret (results_rowN rfl _ _ g6 _ zeroN _ _ rfl (HA65.out.row _) Tryz.underlying25 rfl (infoNd _ _ _)) rfl ⟨moved_new HM5.out HG6.out.1 (moved_setRow w5 g6 _), .inr ⟨er, rfl, HER.out, HEQ.out⟩⟩
end Go.Proofs.YtgfdbmbgldeljaaGreat
