/- What package tree's reader does at node: a whole node, or why there is none, as the document's Builder has it. Conditions: a reader in memory, over tokens that stay. -/
import Derived.Test.YtfcclppgjfkfoaaGreatDoorMg46
namespace Go.Proofs.YtfcclppgjfkfoaaGreatDoor
open Go.RowKit

theorem into_any (w0 : World) (r B g L : Nat) (hN : NodeOK w0 r (L + 1)) (op : List ND) (nm : ByteArray) (ps : List PR) (kl : List KD) (p q : Value) (t : TK) (A : Option Addr) (cap : Nat) (l : List TK) (ns pn : Nat) (w : World) (hop : op.length + 1 = L) (hL : L ≤ 8) (hns : ns ≤ 64) (hpn : pn ≤ 256) (hps : ps.length ≤ pn) (hkl : kl.length ≤ ns)
    (h2 : t.kd ≠ 2) (h4 : t.kd ≠ 4) (hR : RdrT w0 w r A cap l ns pn) (hb0 : Below w0.heap.size w0 w) (hV : NodeV w B g ⟨nm, ps, kl, p, q⟩) (hrB : r < B) :
    Calls Tryz.prog 106 #[.pointer (some ⟨r, 0, none⟩), .pointer (some ⟨g, 0, none⟩), .agg #[.int .i64 t.kd, .string t.nm, .string t.vl], .int .i64 (L : Int)] w fun e w' => IntoPost w0 w r B g ⟨nm, ps, kl, p, q⟩ op t l ns pn e w' := by
  obtain ⟨kd, tn, tv⟩ := t
  simp only at h2 h4 ⊢
  by_cases h1 : kd = 1
  · exact into_kid w0 r B g L hN op nm ps kl p q kd tn tv A cap l ns pn w hop hL hns hpn hps hkl h1 hR hb0 hV hrB
  by_cases h3 : kd = 3
  · by_cases hk : kl = []
    · by_cases h6 : pn = 256
      · exact into_full w0 r B g L op nm ps kl p q kd tn tv A cap l ns pn w hop hL hns hpn hps hkl h3 hk h6 hR hb0 hV hrB
      · exact into_prop w0 r B g L op nm ps kl p q kd tn tv A cap l ns pn w hop hL hns hpn hps hkl h3 hk h6 hR hb0 hV hrB
    · exact into_late w0 r B g L op nm ps kl p q kd tn tv A cap l ns pn w hop hL hns hpn hps hkl h3 hk hR hb0 hV hrB
  · exact into_form w0 r B g L op nm ps kl p q kd tn tv A cap l ns pn w hop hL hns hpn hps hkl h1 h2 h3 h4 hR hb0 hV hrB
theorem moved_news {w wr w' : World} {F : Nat → Prop} {B : Nat} (h : Moved w wr F F) (hB : w.heap.size ≤ B) (hm : Moved wr w' (fun k => F k ∨ B ≤ k) (fun k => F k ∨ B ≤ k)) : Moved w w' F F := by
  have h1 : Moved w wr F (fun k => F k ∨ B ≤ k) := h.inside (fun _ h => h) (fun k hk => hk.elim .inl (fun e => .inr (.inr (Nat.le_trans hB e))))
  exact (h1.trans hm).inside (fun _ h => h) (fun _ hk => .inl hk)
theorem zN_one : (zeroN : Array Value).all (·.oneCell') = true := zl_one

set_option maxHeartbeats 3200000 in
set_option maxRecDepth 100000 in
theorem node_any (w0 : World) (r : Nat) : ∀ (k L : Nat), L + k = 9 → 1 ≤ L → NodeOK w0 r L
  | 0, L, hLk, _ => by
    intro op nm vl A cap l ns pn w hop hns hpn hR hb0
    have HF : Hid (finB (runB (stB op ns pn) (⟨1, nm, vl⟩ :: l)) = (nd0, 13)) := fin_err (take_deep op ns pn ⟨1, nm, vl⟩ rfl (by omega))
    have hL9 : L = 9 := by omega
    have c1 : decide ((8 : Int) < (L : Int)) = true := decide_eq_true (by omega)
    have hb1 : Below w.heap.size w (w.alloc (.cells zeroN 28)) := (Below.refl _ _).alloc (Nat.le_refl _) _
    have hA6 := Arr.new w 28 zeroN
    have hr1 := hR.kept (Moved.of_below hb1 (fun _ => False)) id
    have HM1 := Lib.hid (Moved.of_below hb1 (fun k => k = r))
    have HRW : Hid (r < w.heap.size) := hR.arr.lt
    clear hb1 hop hL9 hLk hR
    obtain ⟨W1, hW1⟩ : ∃ W1, W1 = w.alloc (.cells zeroN 28) := ⟨_, rfl⟩
    obtain ⟨g6, hg6⟩ : ∃ g6, g6 = w.heap.size := ⟨_, rfl⟩
    rw [← hW1] at hA6 hr1 HM1
    rw [← hg6] at hA6
    have HG6 : Hid (w.heap.size ≤ g6) := by unfold Hid; omega
    have c0 : W1.cell? ⟨r, 1, none⟩ = some (.int .i64 (ns : Int)) := hr1.arr.cell 1
    have f0 := hr1.arr.frozen 1
    have hrl := hr1.arr.lt
    have hg6r : g6 ≠ r := by have := HRW.out; omega
    have HA6 := Lib.hid (hA6.far hg6r (.int .i64 ((ns : Int) + 1)) (j := 1))
    have HM2 := Lib.hid (HM1.out.trans (Moved.grown (gr_cell W1 r 1 (.int .i64 ((ns : Int) + 1))) (fun k hk => by injection hk with hk; exact hk.symm) (fun k hk => .inl hk)))
    clear hA6 hr1 HM1
    go_enter Tryz.func80, Tryz.ntmps80
    go_upto_region 1 with fail
    change Code.wp _ _ _ _ (w.alloc (.cells zeroN 28))
    rw [← hW1, ← hg6]
    clear hW1 hg6
    go_upto_region 2 with fail
    clear c0 f0 hrl
    generalize W1.setCell ⟨r, 1, none⟩ (.int .i64 ((ns : Int) + 1)) = W2 at *
    go_wp2_with (refine wpList_store_row rfl 28 (.tmp 6) (.tmp 22) rfl g6 zeroN rfl rfl _ _ HA6.out (infoNd _ _ _) rfl zN_one ?_)
    exact bodyPost_ret (results_rowN rfl _ _ g6 _ zeroN _ _ rfl (HA6.out.row _) Tryz.underlying28 rfl (infoNd _ _ _)) rfl ⟨moved_new HM2.out HG6.out (moved_setRow W2 g6 _), .inr ⟨13, rfl, by decide, HF.out⟩⟩
  | k + 1, L, hLk, hL1 => by
    have HNO := Lib.hid (node_any w0 r k (L + 1) (by omega) (by omega))
    intro op nm vl A cap l ns pn w hop hns hpn hR hb0
    have hb1 : Below w.heap.size w (w.alloc (.cells zeroN 28)) := (Below.refl _ _).alloc (Nat.le_refl _) _
    have hA6 := Arr.new w 28 zeroN
    have hr1 := hR.kept (Moved.of_below hb1 (fun _ => False)) id
    have HM1 := Lib.hid (Moved.of_below hb1 (fun k => k = r))
    have HB0 := Lib.hid hb0
    have HRW : Hid (r < w.heap.size) := hR.arr.lt
    have hLO := hR.lo
    have HLO := Lib.hid hLO
    have c1 : decide ((8 : Int) < (L : Int)) = false := decide_eq_false (by omega)
    have hL8 : L ≤ 8 := by omega
    have hB1 : w.heap.size + 1 = (w.alloc (.cells zeroN 28)).heap.size := (sz_alloc _ _).symm
    obtain ⟨W1, hW1⟩ : ∃ W1, W1 = w.alloc (.cells zeroN 28) := ⟨_, rfl⟩
    obtain ⟨g6, hg6⟩ : ∃ g6, g6 = w.heap.size := ⟨_, rfl⟩
    rw [← hW1] at hA6 hr1 HM1 hB1
    rw [← hg6] at hA6
    have HG6 : Hid (w.heap.size ≤ g6 ∧ g6 < W1.heap.size) := ⟨by omega, hA6.lt⟩
    have c0 : W1.cell? ⟨r, 1, none⟩ = some (.int .i64 (ns : Int)) := hr1.arr.cell 1
    have f0 := hr1.arr.frozen 1
    have hrl := hr1.arr.lt
    have hg6r : g6 ≠ r := by have := HRW.out; omega
    have HA6 := Lib.hid (hA6.far hg6r (.int .i64 ((ns : Int) + 1)) (j := 1))
    have HR2 : Hid (RdrT w0 (W1.setCell ⟨r, 1, none⟩ (.int .i64 ((ns : Int) + 1))) r A cap l (ns + 1) pn) := ⟨hr1.arr.put 1 _, hr1.rd, hr1.le, hr1.mx, hr1.lo⟩
    have HM2 := Lib.hid (HM1.out.trans (Moved.grown (gr_cell W1 r 1 (.int .i64 ((ns : Int) + 1))) (fun k hk => by injection hk with hk; exact hk.symm) (fun k hk => .inl hk)))
    clear hA6 hr1 HM1 hb1 hR hb0 hB1 hLO
    by_cases h64 : ns = 64
    · have HF : Hid (finB (runB (stB op ns pn) (⟨1, nm, vl⟩ :: l)) = (nd0, 7)) := fin_err (take_many op ns pn ⟨1, nm, vl⟩ rfl (by omega) h64)
      have d6 : (64 : Int) < (ns : Int) + 1 := by omega
      clear h64 hop
      go_enter Tryz.func80, Tryz.ntmps80
      go_upto_region 1 with fail
      change Code.wp _ _ _ _ (w.alloc (.cells zeroN 28))
      rw [← hW1, ← hg6]
      clear hW1 hg6
      go_upto_region 2 with fail
      clear c0 f0 hrl
      generalize W1.setCell ⟨r, 1, none⟩ (.int .i64 ((ns : Int) + 1)) = W2 at *
      have c0 : W2.cell? ⟨r, 1, none⟩ = some (.int .i64 ((ns : Int) + 1)) := by have := HR2.out.arr.cell 1; simpa using this
      go_wp2_with (refine wpList_store_row rfl 28 (.tmp 6) (.tmp 29) rfl g6 zeroN rfl rfl _ _ HA6.out (infoNd _ _ _) rfl zN_one ?_)
      exact bodyPost_ret (results_rowN rfl _ _ g6 _ zeroN _ _ rfl (HA6.out.row _) Tryz.underlying28 rfl (infoNd _ _ _)) rfl ⟨moved_new HM2.out HG6.out.1 (moved_setRow W2 g6 _), .inr ⟨7, rfl, by decide, HF.out⟩⟩
    have HOPEN : Hid (finB (runB (stB op ns pn) (⟨1, nm, vl⟩ :: l)) = finB (runB (stB (op ++ [.mk nm [] []]) (ns + 1) pn) l)) := fin_ok (take_open op ns pn ⟨1, nm, vl⟩ rfl (by omega) h64)
    have d6 : (ns : Int) + 1 ≤ 64 := by omega
    have hns1 : ns + 1 ≤ 64 := by omega
    have HOP := Lib.hid hop
    clear h64 hop
    go_enter Tryz.func80, Tryz.ntmps80
    go_upto_region 1 with fail
    change Code.wp _ _ _ _ (w.alloc (.cells zeroN 28))
    rw [← hW1, ← hg6]
    clear hW1 hg6
    go_upto_region 2 with fail
    clear c0 f0 hrl
    generalize W1.setCell ⟨r, 1, none⟩ (.int .i64 ((ns : Int) + 1)) = W2 at *
    have c0 : W2.cell? ⟨r, 1, none⟩ = some (.int .i64 ((ns : Int) + 1)) := by have := HR2.out.arr.cell 1; simpa using this
    obtain ⟨B, hBe⟩ : ∃ B, B = W2.heap.size := ⟨_, rfl⟩
    have hb8 : Below W2.heap.size W2 (W2.alloc (.cells #[.string nm, .slice none 0 0, .slice none 0 0] 28)) := (Below.refl _ _).alloc (Nat.le_refl _) _
    have HV8 : Hid (NodeV (W2.alloc (.cells #[.string nm, .slice none 0 0, .slice none 0 0] 28)) B W2.heap.size ⟨nm, [], [], .slice none 0 0, .slice none 0 0⟩) := nv_new (Arr.new W2 _ _) (Nat.le_of_eq hBe)
    have HR8 := Lib.hid (HR2.out.kept (Moved.of_below hb8 (fun _ => False)) id)
    have HM8 := Lib.hid (HM2.out.trans (Moved.of_below hb8 _))
    have HA68 := Lib.hid (HA6.out.below hb8 HA6.out.lt)
    have HRB : Hid (r < B) := by rw [hBe]; exact HR2.out.arr.lt
    have HG6B : Hid (g6 < B) := by rw [hBe]; exact HA6.out.lt
    have HWB : Hid (w.heap.size ≤ B) := by rw [hBe]; exact HM2.out.size
    rw [← hBe] at HV8
    clear hb8 HR2 HM2 HA6
    go_wp2
    rw [← hBe]
    clear hBe
    go_loopw [] (fun wr => ∃ (nm' : ByteArray) (ps : List PR) (kl : List KD) (p q : Value) (A' : Option Addr) (cap' : Nat) (m : List TK) (ns' pn' : Nat), NodeV wr B B ⟨nm', ps, kl, p, q⟩ ∧ RdrT w0 wr r A' cap' m ns' pn' ∧ ns < ns' ∧ ns' ≤ 64 ∧ pn ≤ pn' ∧ pn' ≤ 256 ∧ ps.length ≤ pn' ∧ kl.length ≤ ns' ∧ m.length ≤ l.length ∧ Hid (finB (runB (stB op ns pn) (⟨1, nm, vl⟩ :: l)) = finB (runB (stB (op ++ [(⟨nm', ps, kl, p, q⟩ : ON).nd]) ns' pn') m)) ∧ Arr wr g6 28 zeroN ∧ Moved w wr (fun k => k = r) (fun k => k = r)) (fun wr => lenAt wr r)
    case atStart => exact ⟨nm, [], [], _, _, A, cap, l, ns + 1, pn, HV8.out, HR8.out, Nat.lt_succ_self _, hns1, Nat.le_refl _, hpn, Nat.zero_le _, Nat.zero_le _, Nat.le_refl _, HOPEN.out, HA68.out, HM8.out⟩
    case round =>
      clear HV8 HR8 HOPEN HA68 HM8 c0 d6 hns1 hns hpn
      obtain ⟨nm', ps, kl, p, q, A', cap', m, ns', pn', hV, hR, b1, b2, b3, b4, b5, b6, b7, HF, hA6, hM⟩ := hrel
      obtain ⟨P, pd, Q, qd, rfl, rfl⟩ := nv_q hV
      have HV := Lib.hid hV
      have HM := Lib.hid hM
      have HA6 := Lib.hid hA6
      have HB0R : Hid (Below w0.heap.size w0 wr) := HB0.out.trans (hM.below (fun k hk => by rw [hk]; exact HLO.out) HB0.out.size)
      have HC := Lib.hid (next_any w0 r A' cap' m ns' pn' wr hR HB0R.out)
      have HLE := Lib.hid hR.lenAt
      clear hV hR hA6 hM
      go_wp2_with fail
      refine HC.out.mono ?_
      rintro e w1 ⟨⟨kd, tn, tv⟩, f, A1, cap1, l1, rfl, hP, hR1, hM1⟩
      have HP := Lib.hid hP
      have hb9 : Below w1.heap.size w1 (w1.alloc (.cells (tkC ⟨kd, tn, tv⟩) 116)) := (Below.refl _ _).alloc (Nat.le_refl _) _
      have hA9 := Arr.new w1 116 (tkC ⟨kd, tn, tv⟩)
      have HV9 := Lib.hid ((HV.out.apart hM1 (fun k hk => by rw [hk]; exact HRB.out)).below hb9)
      have HR9 := Lib.hid (hR1.kept (Moved.of_below hb9 (fun _ => False)) id)
      have HA69 := Lib.hid ((hM1.arr HA6.out hg6r).below hb9 (hM1.arr HA6.out hg6r).lt)
      have HM9 := Lib.hid ((HM.out.trans hM1).trans (Moved.of_below hb9 _))
      have HB09 := Lib.hid (HB0.out.trans (HM9.out.below (fun k hk => by rw [hk]; exact HLO.out) HB0.out.size))
      have q0 : (w1.alloc (.cells (tkC ⟨kd, tn, tv⟩) 116)).cell? ⟨w1.heap.size, 0, none⟩ = some (.int .i64 kd) := hA9.cell 0
      have q1 : (w1.alloc (.cells (tkC ⟨kd, tn, tv⟩) 116)).cell? ⟨w1.heap.size, 1, none⟩ = some (.string tn) := hA9.cell 1
      have q2 : (w1.alloc (.cells (tkC ⟨kd, tn, tv⟩) 116)).cell? ⟨w1.heap.size, 2, none⟩ = some (.string tv) := hA9.cell 2
      clear hb9 hA9 hR1 hM1 HV HM HA6 HC HB0R
      have HNX : Hid (finB (runB (stB op ns pn) (⟨1, nm, vl⟩ :: l)) = finB (runB (stB (op ++ [(⟨nm', ps, kl, .slice P ps.length pd, .slice Q kl.length qd⟩ : ON).nd]) ns' pn') (⟨kd, tn, tv⟩ :: l1))) := HF.out.trans (fin_next rfl hP)
      have HLL : Hid (l1.length ≤ m.length ∧ (f = true → l1.length < m.length) ∧ (f = false → kd = 0) ∧ kd ≠ 4) := next_len hP
      clear hP HP HF
      go_upto_region 8 with fail
      change Code.wp _ _ _ _ (w1.alloc (.cells (tkC ⟨kd, tn, tv⟩) 116))
      generalize w1.alloc (.cells (tkC ⟨kd, tn, tv⟩) 116) = W9 at *
      generalize w1.heap.size = g9 at *
      by_cases h2 : kd = 2
      · have d2 : (kd == 2) = true := by rw [h2]; rfl
        have HFE : Hid (finB (runB (stB op ns pn) (⟨1, nm, vl⟩ :: l)) = finB (runB (popB op (⟨nm', ps, kl, .slice P ps.length pd, .slice Q kl.length qd⟩ : ON).nd ns' pn') l1)) := HNX.out.trans (fin_ok (take_end op _ ns' pn' ⟨kd, tn, tv⟩ h2))
        have c0 : W9.cell? ⟨B, 0, none⟩ = some (.string nm') := HV9.out.arr.cell 0
        have c1 : W9.cell? ⟨B, 1, none⟩ = some (.slice P ps.length pd) := HV9.out.arr.cell 1
        have c2 : W9.cell? ⟨B, 2, none⟩ = some (.slice Q kl.length qd) := HV9.out.arr.cell 2
        have HONE : Hid ((#[.string nm', .slice P ps.length pd, .slice Q kl.length qd] : Array Value).all (·.oneCell') = true) := by
          unfold Hid
          rw [Array.all_eq_true_iff_forall_mem]
          intro v hv
          simp at hv
          rcases hv with rfl | rfl | rfl <;> rfl
        have HDN : Hid (NdAt (W9.setRow g6 #[.string nm', .slice P ps.length pd, .slice Q kl.length qd]) (fun b => w.heap.size ≤ b) (⟨nm', ps, kl, .slice P ps.length pd, .slice Q kl.length qd⟩ : ON).nd (.slice P ps.length pd) (.slice Q kl.length qd)) :=
          ((nv_done HV9.out).kept (moved_setRow W9 g6 _) (fun k hk e => by have := HG6B.out; omega)).mono (fun k hk => Nat.le_trans HWB.out hk)
        have HR10 : Hid (RdrT w0 (W9.setRow g6 #[.string nm', .slice P ps.length pd, .slice Q kl.length qd]) r A1 cap1 l1 ns' pn') := HR9.out.kept (moved_setRow W9 g6 _) (fun e => hg6r e.symm)
        have HLB : Hid (l1.length ≤ l.length) := Nat.le_trans HLL.out.1 b7
        clear h2 HNX
        go_wp2_with (refine wpList_store_row rfl 28 (.tmp 6) (.tmp 40) rfl g6 #[.string nm', .slice P ps.length pd, .slice Q kl.length qd] rfl rfl _ _ HA69.out (infoNd _ _ _) rfl HONE.out ?_)
        exact bodyPost_ret (results_rowN rfl _ _ g6 _ #[.string nm', .slice P ps.length pd, .slice Q kl.length qd] _ _ rfl (HA69.out.row _) Tryz.underlying28 rfl (infoNd _ _ _)) rfl ⟨moved_new HM9.out HG6.out.1 (moved_setRow W9 g6 _), .inl ⟨_, _, _, A1, cap1, l1, ns', pn', rfl, HDN.out, HR10.out, b1, b2, b3, b4, HLB.out, HFE.out⟩⟩
      · have d2 : (kd == 2) = false := by simpa using h2
        have HI := Lib.hid (into_any w0 r B B L HNO.out op nm' ps kl _ _ ⟨kd, tn, tv⟩ A1 cap1 l1 ns' pn' W9 HOP.out hL8 b2 b4 b5 b6 h2 HLL.out.2.2.2 HR9.out HB09.out HV9.out HRB.out)
        clear h2 HV9 HR9 HB09
        go_wp2_with fail
        refine HI.out.mono ?_
        rintro e w5 ⟨hM5, ⟨⟨nm5, ps5, kl5, p5, q5⟩, A5, cap5, l5, ns5, pn5, rfl, hk, hV5, hR5, e1, e2, e3, e4, e5, e6, e7, heq⟩ | ⟨er, rfl, her, hfe⟩⟩
        · have HM5 := Lib.hid (moved_news HM9.out HWB.out hM5)
          have HA65 := Lib.hid (hM5.arr HA69.out (fun h => h.elim hg6r (fun h => by have := HG6B.out; omega)))
          have HV5 := Lib.hid hV5
          have HR5 := Lib.hid hR5
          have HEQ := Lib.hid (HNX.out.trans heq)
          have HL5 : Hid (lenAt w5 r < lenAt wr r) := by
            unfold Hid
            rw [HLE.out, hR5.lenAt]
            have hf : f = true := by
              cases f with
              | true => rfl
              | false =>
                have := HLL.out.2.2.1 rfl
                rcases hk with hk | hk
                · rw [this] at hk; cases hk
                · rw [this] at hk; cases hk
            have := HLL.out.2.1 hf
            omega
          have HLB : Hid (l5.length ≤ l.length) := Nat.le_trans e7 (Nat.le_trans HLL.out.1 b7)
          clear hM5 hV5 hR5 heq hk HI HA69 HM9 HNX q0 q1 q2
          go_wp2
          go_roundw
          case rel => exact ⟨nm5, ps5, kl5, p5, q5, A5, cap5, l5, ns5, pn5, HV5.out, HR5.out, by omega, e2, by omega, e4, e5, e6, HLB.out, HEQ.out, HA65.out, HM5.out⟩
          case measure => exact HL5.out
        · have HM5 := Lib.hid (moved_news HM9.out HWB.out hM5)
          have HA65 := Lib.hid (hM5.arr HA69.out (fun h => h.elim hg6r (fun h => by have := HG6B.out; omega)))
          have HEQ := Lib.hid (HNX.out.trans hfe)
          have HER := Lib.hid her
          have d5 : ((er : Int) != 0) = true := by simp; omega
          clear hM5 hfe her HI HA69 HM9 HNX q0 q1 q2
          go_wp2_with (refine wpList_store_row rfl 28 (.tmp 6) (.tmp 47) rfl g6 zeroN rfl rfl _ _ HA65.out (infoNd _ _ _) rfl zN_one ?_)
          exact bodyPost_ret (results_rowN rfl _ _ g6 _ zeroN _ _ rfl (HA65.out.row _) Tryz.underlying28 rfl (infoNd _ _ _)) rfl ⟨moved_new HM5.out HG6.out.1 (moved_setRow w5 g6 _), .inr ⟨er, rfl, HER.out, HEQ.out⟩⟩
end Go.Proofs.YtfcclppgjfkfoaaGreatDoor

/- What package tree's Of returns: the tree of any tokens, or why there is none. Conditions: tokens that are read. -/
namespace Go.Proofs.YtfcclppgjfkfoaaGreatDoor
open Go.RowKit

set_option maxHeartbeats 3200000 in
set_option maxRecDepth 100000 in
theorem tOf_any (A : Option Addr) (cap : Nat) (l : List TK) (w : World) (hr : RdTk w A l) (hc : l.length ≤ cap) (hm : cap ≤ maxLen) :
    Calls Tryz.prog 41 #[.slice A l.length cap] w fun e w' => ∃ v2 v3, e = .returned (.tuple #[.agg #[.string (ofR l).1.nm, v2, v3], .int .i64 ((ofR l).2 : Int)]) ∧ NdAt w' (fun k => w.heap.size ≤ k) (ofR l).1 v2 v3 ∧ Below w.heap.size w w' := by
  have HFI := Lib.hid (fun t f l' (h : NextP l t f l') => of_first h)
  have HNO := Lib.hid (fun t f l' (h : NextP l t f l') => of_node h)
  generalize ofR l = R at *
  obtain ⟨W1, hW1⟩ : ∃ W1, W1 = (w.alloc (.cells zeroN 28)).alloc (.cells #[.slice A l.length cap, .int .i64 0, .int .i64 0] 139) := ⟨_, rfl⟩
  obtain ⟨g2, hg2⟩ : ∃ g2, g2 = w.heap.size := ⟨_, rfl⟩
  obtain ⟨r, hrr⟩ : ∃ r, r = w.heap.size + 1 := ⟨_, rfl⟩
  have hB1 : Below w.heap.size w W1 := by rw [hW1]; exact ((Below.refl _ _).alloc (Nat.le_refl _) _).alloc (by rw [sz_alloc]; omega) _
  have hA2 : Arr W1 g2 28 zeroN := by rw [hW1, hg2]; exact (Arr.new w _ _).alloc _
  have hAR : Arr W1 r 139 #[.slice A l.length cap, .int .i64 0, .int .i64 0] := by rw [hW1, hrr]; exact Arr.new1 w _ _ _
  have hR1 : RdrT w W1 r A cap l 0 0 := ⟨hAR, hr, hc, hm, by omega⟩
  have hg2r : g2 ≠ r := by omega
  have HWR : Hid (w.heap.size ≤ r) := by unfold Hid; omega
  have HWG : Hid (w.heap.size ≤ g2) := by unfold Hid; omega
  have HRG : Hid (r < W1.heap.size ∧ g2 < W1.heap.size) := ⟨hAR.lt, hA2.lt⟩
  have HC := Lib.hid (next_any w r A cap l 0 0 W1 hR1 hB1)
  have HB1 := Lib.hid hB1
  have HA2 := Lib.hid hA2
  have HND := Lib.hid (node_any w r 8 1 rfl (Nat.le_refl _))
  have HONE : Hid (∀ (a : ByteArray) P pn pc Q qn qc, (#[.string a, .slice P pn pc, .slice Q qn qc] : Array Value).all (·.oneCell') = true) := fun a P pn pc Q qn qc => by
    rw [Array.all_eq_true_iff_forall_mem]
    intro v hv
    simp at hv
    rcases hv with rfl | rfl | rfl <;> rfl
  clear hr hc hm hB1 hA2 hAR hR1
  go_enter Tryz.func41, Tryz.ntmps41
  go_upto_region 2 with fail
  change Code.wp _ _ _ _ ((w.alloc (.cells zeroN 28)).alloc (.cells #[.slice A l.length cap, .int .i64 0, .int .i64 0] 139))
  rw [← hW1, ← hrr, ← hg2]
  clear hW1 hrr hg2
  go_wp2_with fail
  refine HC.out.mono ?_
  rintro e w1 ⟨⟨kd, tn, tv⟩, f, A1, cap1, l1, rfl, hP, hR1, hM1⟩
  have hb9 : Below w1.heap.size w1 (w1.alloc (.cells (tkC ⟨kd, tn, tv⟩) 116)) := (Below.refl _ _).alloc (Nat.le_refl _) _
  have hA9 := Arr.new w1 116 (tkC ⟨kd, tn, tv⟩)
  have HR9 := Lib.hid (hR1.kept (Moved.of_below hb9 (fun _ => False)) id)
  have HA29 := Lib.hid ((hM1.arr HA2.out hg2r).below hb9 (hM1.arr HA2.out hg2r).lt)
  have HB9 := Lib.hid ((HB1.out.trans (hM1.below (fun k hk => by rw [hk]; exact HWR.out) HB1.out.size)).trans (hb9.mono (Nat.le_trans HB1.out.size hM1.size)))
  have q0 : (w1.alloc (.cells (tkC ⟨kd, tn, tv⟩) 116)).cell? ⟨w1.heap.size, 0, none⟩ = some (.int .i64 kd) := hA9.cell 0
  have q1 : (w1.alloc (.cells (tkC ⟨kd, tn, tv⟩) 116)).cell? ⟨w1.heap.size, 1, none⟩ = some (.string tn) := hA9.cell 1
  have hFI := HFI.out _ _ _ hP
  have hNO := HNO.out _ _ _ hP
  clear hb9 hA9 hR1 hM1 HC HB1 HA2 hP HFI HNO
  go_upto_region 3 with fail
  change Code.wp _ _ _ _ (w1.alloc (.cells (tkC ⟨kd, tn, tv⟩) 116))
  generalize w1.alloc (.cells (tkC ⟨kd, tn, tv⟩) 116) = W9 at *
  generalize w1.heap.size = g9 at *
  by_cases h1 : kd = 1
  · subst h1
    have HNO := Lib.hid hNO
    have hC := HND.out [] tn tv A1 cap1 l1 0 0 W9 rfl (by decide) (by decide) HR9.out HB9.out
    have HC : Hid (Calls Tryz.prog 80 #[.pointer (some ⟨r, 0, none⟩), .string tn, .int .i64 1] W9 fun e w' => NodePost w W9 r [] tn tv l1 0 0 e w') := hC
    have HR0 : Hid (r < W9.heap.size) := HR9.out.arr.lt
    clear hFI hNO hC HND HR9
    go_wp2_with fail
    refine HC.out.mono ?_
    rintro e w3 ⟨hm3, ⟨n, v2, v3, A3, cap3, l3, ns3, pn3, rfl, hn3, hR3, b1, b2, b3, b4, b5, hfe⟩ | ⟨er, rfl, her, hfe⟩⟩
    · obtain ⟨ua, ub, uc, ud, rfl, rfl, _⟩ := nd_shape hn3
      have hb7 : Below w3.heap.size w3 (w3.alloc (.cells #[.string n.nm, .slice ua n.ps.length uc, .slice ub n.ks.length ud] 28)) := (Below.refl _ _).alloc (Nat.le_refl _) _
      have HA7 := Lib.hid (Arr.new w3 28 #[.string n.nm, .slice ua n.ps.length uc, .slice ub n.ks.length ud])
      have hA23 := hm3.arr HA29.out hg2r
      have HA27 := Lib.hid (hA23.below hb7 hA23.lt)
      have hB3 := HB9.out.trans (hm3.below (fun k hk => by rw [hk]; exact HWR.out) HB9.out.size)
      have hB7 := hB3.trans (hb7.mono hB3.size)
      have HB7 := Lib.hid hB7
      have HN7 := Lib.hid ((nd_below hn3 hb7).mono (fun k hk => (⟨by have := HB9.out.size; omega, fun e => by have := HA29.out.lt; omega, fun e => by have := HR0.out; omega⟩ : w.heap.size ≤ k ∧ k ≠ g2 ∧ k ≠ r)))
      have hr37 : r < w3.heap.size := hR3.arr.lt
      have hrA : w3.heap.size ≠ r := by omega
      have HC2 := Lib.hid (next_any w r A3 cap3 l3 ns3 pn3 _ (hR3.kept (Moved.of_below hb7 (fun _ => False)) id) hB7)
      have HEQ := Lib.hid (HNO.out.trans hfe)
      clear hb7 hA23 hB3 hB7 hn3 hR3 hm3 hfe HC HA29 HB9 HNO q0 q1
      go_upto_region 8 with fail
      generalize w3.alloc (.cells #[.string n.nm, .slice ua n.ps.length uc, .slice ub n.ks.length ud] 28) = W7 at *
      generalize w3.heap.size = g7 at *
      go_wp2_with fail
      refine HC2.out.mono ?_
      rintro e w4 ⟨⟨kd2, tn2, tv2⟩, f2, A4, cap4, l4, rfl, hP2, hR4, hM4⟩
      have HRE := Lib.hid (HEQ.out.trans (fin_root n ns3 pn3 hP2))
      have hbA : Below w4.heap.size w4 (w4.alloc (.cells (tkC ⟨kd2, tn2, tv2⟩) 116)) := (Below.refl _ _).alloc (Nat.le_refl _) _
      have hA24 := hM4.arr HA27.out hg2r
      have hA74 := hM4.arr HA7.out hrA
      have HA2A := Lib.hid (hA24.below hbA hA24.lt)
      have HA7A := Lib.hid (hA74.below hbA hA74.lt)
      have hB4 := HB7.out.trans (hM4.below (fun k hk => by rw [hk]; exact HWR.out) HB7.out.size)
      have HBA := Lib.hid (hB4.trans (hbA.mono hB4.size))
      have HNA := Lib.hid (nd_below (HN7.out.kept hM4 (fun k hk e => hk.2.2 e)) hbA)
      clear hbA hA24 hA74 hB4 hP2 hR4 hM4 HC2 HEQ HA7 HA27 HN7 HB7
      go_upto_region 9 with fail
      change Code.wp _ _ _ _ (w4.alloc (.cells (tkC ⟨kd2, tn2, tv2⟩) 116))
      generalize w4.alloc (.cells (tkC ⟨kd2, tn2, tv2⟩) 116) = WA at *
      cases f2 with
      | true =>
        have HE : Hid (R = (nd0, 6)) := HRE.out
        clear HRE
        go_wp2_with (refine wpList_store_row rfl 28 (.tmp 2) (.tmp 36) rfl g2 zeroN rfl rfl _ _ HA2A.out (infoNd _ _ _) rfl zN_one ?_)
        exact bodyPost_ret (results_rowN rfl _ _ g2 _ zeroN _ _ rfl (HA2A.out.row _) Tryz.underlying28 rfl (infoNd _ _ _)) rfl ⟨_, _, by rw [HE.out]; rfl, by rw [HE.out]; exact nd0_at _ _, below_setRow HBA.out HWG.out _⟩
      | false =>
        have HE : Hid (R = (n, 0)) := HRE.out
        have c0 : WA.cell? ⟨g7, 0, none⟩ = some (.string n.nm) := HA7A.out.cell 0
        have c1 : WA.cell? ⟨g7, 1, none⟩ = some (.slice ua n.ps.length uc) := HA7A.out.cell 1
        have c2 : WA.cell? ⟨g7, 2, none⟩ = some (.slice ub n.ks.length ud) := HA7A.out.cell 2
        have HDN : Hid (NdAt (WA.setRow g2 #[.string n.nm, .slice ua n.ps.length uc, .slice ub n.ks.length ud]) (fun b => w.heap.size ≤ b) n (.slice ua n.ps.length uc) (.slice ub n.ks.length ud)) :=
          (HNA.out.kept (moved_setRow WA g2 _) (fun k hk e => hk.2.1 e)).mono (fun k hk => hk.1)
        clear HRE HNA
        go_wp2_with (refine wpList_store_row rfl 28 (.tmp 2) (.tmp 37) rfl g2 #[.string n.nm, .slice ua n.ps.length uc, .slice ub n.ks.length ud] rfl rfl _ _ HA2A.out (infoNd _ _ _) rfl (HONE.out _ _ _ _ _ _ _) ?_)
        exact bodyPost_ret (results_rowN rfl _ _ g2 _ #[.string n.nm, .slice ua n.ps.length uc, .slice ub n.ks.length ud] _ _ rfl (HA2A.out.row _) Tryz.underlying28 rfl (infoNd _ _ _)) rfl ⟨_, _, by rw [HE.out]; rfl, by rw [HE.out]; exact HDN.out, below_setRow HBA.out HWG.out _⟩
    · have hb7 : Below w3.heap.size w3 (w3.alloc (.cells zeroN 28)) := (Below.refl _ _).alloc (Nat.le_refl _) _
      have hA23 := hm3.arr HA29.out hg2r
      have HA27 := Lib.hid (hA23.below hb7 hA23.lt)
      have hB3 := HB9.out.trans (hm3.below (fun k hk => by rw [hk]; exact HWR.out) HB9.out.size)
      have HB7 := Lib.hid (hB3.trans (hb7.mono hB3.size))
      have HE := Lib.hid (HNO.out.trans hfe)
      have d1 : ((er : Int) != 0) = true := by simp; omega
      clear hb7 hA23 hB3 hm3 hfe her HC HA29 HB9 HNO q0 q1
      go_wp2_with (refine wpList_store_row rfl 28 (.tmp 2) (.tmp 29) rfl g2 zeroN rfl rfl _ _ HA27.out (infoNd _ _ _) rfl zN_one ?_)
      exact bodyPost_ret (results_rowN rfl _ _ g2 _ zeroN _ _ rfl (HA27.out.row _) Tryz.underlying28 rfl (infoNd _ _ _)) rfl ⟨_, _, by rw [HE.out]; rfl, by rw [HE.out]; exact nd0_at _ _, below_setRow HB7.out HWG.out _⟩
  · have d1 : (kd != 1) = true := by simpa using h1
    have HE := Lib.hid (hFI h1)
    clear hFI hNO HND HR9 h1
    go_wp2_with (refine wpList_store_row rfl 28 (.tmp 2) (.tmp 20) rfl g2 zeroN rfl rfl _ _ HA29.out (infoNd _ _ _) rfl zN_one ?_)
    exact bodyPost_ret (results_rowN rfl _ _ g2 _ zeroN _ _ rfl (HA29.out.row _) Tryz.underlying28 rfl (infoNd _ _ _)) rfl ⟨_, _, by rw [HE.out]; rfl, by rw [HE.out]; exact nd0_at _ _, below_setRow HB9.out HWG.out _⟩
end Go.Proofs.YtfcclppgjfkfoaaGreatDoor
