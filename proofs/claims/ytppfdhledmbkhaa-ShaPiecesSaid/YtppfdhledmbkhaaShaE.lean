/- What sha.mix returns: conditions: 64 bytes, 32-bit numbers. -/
import Derived.Test.YtppfdhledmbkhaaShaD
import Derived.Test.YtppfdhledmbkhaaShaK
namespace Go.Proofs.Ytppfdhledmbkhaa
open Go.RowKit

theorem info8b (l : List Nat) (h : l.length = 64) : (Try.prog.info? 31).map (·.size) = some (nums .u8 l).size := by rw [nums_size, h]; kernel_rfl

/-- An element of an array that is a value. -/
theorem index_nums (t e : TypeId) (n : Nat) (kd : IntKind) (l : List Nat) (k : Nat) (hu : Try.prog.underlying t = some (.array n e)) (he : ∀ w, (sizeOf e).run Try.prog w = .ok 1 w) (ha : ∀ w, (isAgg e).run Try.prog w = .ok false w) (hn : l.length = n) (hk : k < n) (w : World) :
    (Instr.index t (.agg (nums kd l)) (.int .i64 (k : Int))).run Try.prog w = .ok (.int kd ((l.getD k 0 : Nat) : Int)) w := by
  have h1 : (0 : Int) ≤ k ∧ (k : Int) < n := by omega
  have h2 := nums_at kd l (j := k) (by omega)
  simp [Instr.index, asIntOf, run_underlying hu, h1, he, part, ha, h2]
  intro h
  omega
/-- Eight slots that hold eight numbers. -/
def Slots (s : S8) (a b c d e f g h : Value) : Prop := a = .int .u32 (s.a : Int) ∧ b = .int .u32 (s.b : Int) ∧ c = .int .u32 (s.c : Int) ∧ d = .int .u32 (s.d : Int) ∧ e = .int .u32 (s.e : Int) ∧ f = .int .u32 (s.f : Int) ∧ g = .int .u32 (s.g : Int) ∧ h = .int .u32 (s.h : Int)

set_option maxHeartbeats 1600000 in
set_option maxRecDepth 100000 in
theorem mix_any (h : S8) (B : List UInt8) (w : World) (hB : B.length = 64) (hh : h.ok) :
    Calls Try.prog 22 #[.agg (nums .u32 h.list), .agg (nums .u8 (bys B))] w fun e w' => e = .returned (.agg (nums .u32 (mixP h B).list)) ∧ Below w.heap.size w w' := by
  have HW := Lib.hid (fun w => schedule_any B w hB)
  have HI := Lib.hid (info64 (wds B 64) (wds_length _ _))
  have HIB := Lib.hid (info8b (bys B) ((bys_length B).trans hB))
  clear hB
  go_enter Try.func22, Try.ntmps22
  go_wp2_with (refine wpList_load_row rfl 31 (.tmp 3) rfl (w.heap.size + 1) rfl _ _ _ _ ((Arr.new1 _ _ _ _).alloc _) Try.underlying31 rfl HIB.out ?_)
  refine (HW.out _).mono ?_
  rintro e w1 ⟨rfl, hb1⟩
  have s1 : w.heap.size + 3 ≤ w1.heap.size := by have := hb1.size; simp at this; omega
  have A2 : Arr w1 w.heap.size 30 (nums .u32 h.list) := (((Arr.new _ _ _).alloc _).alloc _).below hb1 (by simp; omega)
  have A4 : Arr w1 (w.heap.size + 1 + 1) 30 (nums .u32 (List.replicate 8 0)) := (Arr.new2 _ _ _ _ _).below hb1 (by simp)
  have b1 : Below w.heap.size w w1 := ((((Below.refl _ _).alloc (Nat.le_refl _) _).alloc (by simp) _).alloc (by simp; omega) _).trans (hb1.mono (by simp; omega))
  have H2 := Lib.hid A2
  have H4 := Lib.hid A4
  clear hb1 A2 A4 HIB HW
  go_wp2_with (first | (refine wpList_store_row rfl 39 (.tmp 5) (.tmp 21) rfl w1.heap.size _ rfl rfl _ _ (Arr.new _ _ _) HI.out (by rw [nums_size, wds_length]; rfl) (nums_one _ _) ?_))
  have A5 := (Arr.new w1 39 (nums .u32 (List.replicate 64 0))).row (nums .u32 (wds B 64))
  have A2 := (H2.out.alloc (.cells (nums .u32 (List.replicate 64 0)) 39)).rowFar (g' := w1.heap.size) (by omega) (nums .u32 (wds B 64))
  have A4 := (H4.out.alloc (.cells (nums .u32 (List.replicate 64 0)) 39)).rowFar (g' := w1.heap.size) (by omega) (nums .u32 (wds B 64))
  have b2 := below_setRow (b1.alloc (by omega) (.cells (nums .u32 (List.replicate 64 0)) 39)) (g := w1.heap.size) (by omega) (nums .u32 (wds B 64))
  have s2 : w1.heap.size < ((w1.alloc (.cells (nums .u32 (List.replicate 64 0)) 39)).setRow w1.heap.size (nums .u32 (wds B 64))).heap.size := A5.lt
  change Code.wp _ _ _ _ ((w1.alloc (.cells (nums .u32 (List.replicate 64 0)) 39)).setRow w1.heap.size (nums .u32 (wds B 64)))
  generalize (w1.alloc (.cells (nums .u32 (List.replicate 64 0)) 39)).setRow w1.heap.size (nums .u32 (wds B 64)) = w2 at *
  have g24 : w.heap.size < w.heap.size + 1 + 1 := by omega
  have g25 : w.heap.size < w1.heap.size := by omega
  have g45 : w.heap.size + 1 + 1 < w1.heap.size := by omega
  clear s1 H2 H4 b1 HI
  generalize w1.heap.size = g5 at *
  generalize w.heap.size + 1 + 1 = g4 at *
  generalize hB : w.heap.size = g2 at *
  have HB := Lib.hid hB
  clear hB
  have H2 := Lib.hid A2
  have H4 := Lib.hid A4
  have H5 := Lib.hid A5
  clear A2 A4 A5
  obtain ⟨c0, c1, c2, c3, c4, c5, c6, c7⟩ := eight_cells (a := h.a) (b := h.b) (c := h.c) (d := h.d) (e := h.e) (f := h.f) (i := h.g) (j := h.h) H2.out
  simp only [Act.put]
  go_quiet (fail)
  have H2 := Lib.hid (H2.out.drewN nq)
  have H4 := Lib.hid (H4.out.drewN nq)
  have H5 := Lib.hid (H5.out.drewN nq)
  have b3 := b2.trans ((below_drewN w2 nq).mono (by omega))
  have s3 : g5 < (w2.drewN nq).heap.size := s2
  generalize w2.drewN nq = w3 at *
  clear c0 c1 c2 c3 c4 c5 c6 c7 b2 s2
  go_wp2_with fail
  refine (constants_any w3).mono ?_
  rintro e w4 ⟨rfl, hb4⟩
  have H2 := Lib.hid (H2.out.below hb4 (by omega))
  have H4 := Lib.hid (H4.out.below hb4 (by omega))
  have H5 := Lib.hid (H5.out.below hb4 (by omega))
  have b4 := b3.trans (hb4.mono (by omega))
  clear b3 hb4 s3
  go_wp2
  go_loopw [6, 7, 8, 9, 10, 11, 12, 13, 39] (fun va vb vc vd ve vf vg vh i wr => ∃ k : Nat, k ≤ 64 ∧ i = .int .i64 k ∧ Slots (rnds h (wds B 64) k) va vb vc vd ve vf vg vh ∧ Arr wr g2 30 (nums .u32 h.list) ∧ Arr wr g4 30 (nums .u32 (List.replicate 8 0)) ∧ Arr wr g5 39 (nums .u32 (wds B 64)) ∧ Below g2 w wr)
    (fun _ _ _ _ _ _ _ _ i _ => 64 - (intOf i).toNat)
  case atStart => exact ⟨0, Nat.zero_le _, rfl, by rw [rnds_zero]; exact ⟨rfl, rfl, rfl, rfl, rfl, rfl, rfl, rfl⟩, H2.out, H4.out, H5.out, b4⟩
  case round =>
    clear H2 H4 H5 b4
    obtain ⟨k, hk, rfl, hS, hA, hR, hW, hb⟩ := hrel
    have H2 := Lib.hid hA
    have H4 := Lib.hid hR
    have H5 := Lib.hid hW
    clear hA hR hW
    by_cases hl : k < 64
    · have hok := rnds_ok (wds B 64) hh k
      have HS := Lib.hid (rnds_succ h (wds B 64) k)
      generalize rnds h (wds B 64) k = S at *
      obtain ⟨xa, xb, xc, xd, xe, xf, xg, xh⟩ := S
      obtain ⟨la, lb, lc, ld, le, lf, lg, lh⟩ := hok
      dsimp only at la lb lc ld le lf lg lh
      obtain ⟨rfl, rfl, rfl, rfl, rfl, rfl, rfl, rfl⟩ := hS
      have cw := H5.out.num (j := k) (by rw [wds_length]; exact hl) rfl
      have kq := fun W => index_nums 39 29 64 .u32 kks k Try.underlying39 Try.sizeOf29 Try.isAgg29 kks_len hl W
      have lk := getD_lt kks_lt k
      have lw := getD_lt (wds_lt B 64) k
      generalize kks.getD k 0 = kk at *
      generalize (wds B 64).getD k 0 = ww at *
      have k0 : (0 : Int) ≤ k := by omega
      have k1 : (k : Int) < 64 := by omega
      have a1 := ad_cast xh (rot3 xe 6 11 25)
      have a2 := ad_cast (ad xh (rot3 xe 6 11 25)) (chs xe xf xg)
      have a3 := ad_cast (ad (ad xh (rot3 xe 6 11 25)) (chs xe xf xg)) kk
      have a4 := ad_cast (ad (ad (ad xh (rot3 xe 6 11 25)) (chs xe xf xg)) kk) ww
      have a5 := ad_cast (rot3 xa 2 13 22) (maj xa xb xc)
      have R : rnd ⟨xa, xb, xc, xd, xe, xf, xg, xh⟩ kk ww = ⟨ad (ad (ad (ad (ad xh (rot3 xe 6 11 25)) (chs xe xf xg)) kk) ww) (ad (rot3 xa 2 13 22) (maj xa xb xc)), xa, xb, xc, ad xd (ad (ad (ad (ad xh (rot3 xe 6 11 25)) (chs xe xf xg)) kk) ww), xe, xf, xg⟩ := rfl
      generalize ad (ad (ad (ad xh (rot3 xe 6 11 25)) (chs xe xf xg)) kk) ww = z4 at *
      generalize ad (ad (ad xh (rot3 xe 6 11 25)) (chs xe xf xg)) kk = z3 at *
      generalize ad (ad xh (rot3 xe 6 11 25)) (chs xe xf xg) = z2 at *
      generalize ad xh (rot3 xe 6 11 25) = z1 at *
      generalize ad (rot3 xa 2 13 22) (maj xa xb xc) = z5 at *
      have a6 := ad_cast z4 z5
      have a7 := ad_cast xd z4
      generalize ad z4 z5 = z6 at *
      generalize ad xd z4 = z7 at *
      have HR := Lib.hid R
      clear R
      go_wp2
      go_quiet ((first | (go_at_call 28; exact turned_quiet _ _ _ _ _ _ (by assumption) (by decide) (by decide) (by decide) (by decide) (by decide) (by decide)) | (go_at_call 29; exact choice_quiet _ _ _ _ _ (by assumption) (by assumption) (by assumption))))
      rw [a4]
      have H2 := Lib.hid (H2.out.drewN nq)
      have H4 := Lib.hid (H4.out.drewN nq)
      have H5 := Lib.hid (H5.out.drewN nq)
      have hb2 := hb.trans ((below_drewN wr nq).mono (by have := hb.size; have := HB.out; omega))
      generalize wr.drewN nq = wq at *
      clear hb cw kq a1 a2 a3 a4
      have T2 := Lib.hid (turned_any xa 2 13 22 wq la (by decide) (by decide) (by decide) (by decide) (by decide) (by decide))
      have M2 := Lib.hid (majority_any xa xb xc wq la lb lc)
      go_wp2_with fail
      refine T2.out.mono ?_
      rintro e w5 ⟨rfl, rfl⟩
      go_wp2_with fail
      refine M2.out.mono ?_
      rintro e w5 ⟨rfl, rfl⟩
      go_wp2
      go_roundw
      case rel => exact ⟨k + 1, by omega, by go_num, by rw [HS.out, HR.out]; exact ⟨by first | rfl | rw [a6], rfl, rfl, rfl, by first | rfl | rw [a7], rfl, rfl, rfl⟩, H2.out, H4.out, H5.out, hb2⟩
      case measure => simp [intOf]; omega
    · obtain rfl : k = 64 := by omega
      have HM := Lib.hid (mixP_list h B)
      have hok := rnds_ok (wds B 64) hh 64
      generalize rnds h (wds B 64) 64 = S at *
      obtain ⟨xa, xb, xc, xd, xe, xf, xg, xh⟩ := S
      obtain ⟨rfl, rfl, rfl, rfl, rfl, rfl, rfl, rfl⟩ := hS
      clear hok hk hl
      rw [show ((64 : Nat) : Int) = 64 from rfl]
      go_wp2
      have HL0 : Hid (h.list.length = 8) := rfl
      generalize h.list = hl at *
      go_loopw [87] (fun i wr => ∃ k : Nat, k ≤ 8 ∧ i = .int .i64 k ∧ Arr wr g2 30 (nums .u32 (adds hl [xa, xb, xc, xd, xe, xf, xg, xh] k)) ∧ Arr wr g4 30 (nums .u32 (List.replicate 8 0)) ∧ Below g2 w wr) (fun i _ => 8 - (intOf i).toNat)
      case atStart => exact ⟨0, Nat.zero_le _, rfl, H2.out, H4.out, hb⟩
      case round =>
        clear H2 H4 H5 hb
        obtain ⟨k, hk, rfl, A3, A6, hb⟩ := hrel
        have H3 := Lib.hid A3
        have H6 := Lib.hid A6
        have HL := Lib.hid (adds_length hl [xa, xb, xc, xd, xe, xf, xg, xh] k)
        clear A3 A6
        by_cases hlt : k < 8
        · have ch := H3.out.num (j := k) (by rw [HL.out, HL0.out]; exact hlt) (adds_at hl _ k k (Nat.le_refl _))
          have hf := H3.out.frozen k
          have HN := Lib.hid (adds_succ hl [xa, xb, xc, xd, xe, xf, xg, xh] k)
          have kq : ∀ W, (Instr.index 30 (.agg #[.int .u32 (xa : Int), .int .u32 (xb : Int), .int .u32 (xc : Int), .int .u32 (xd : Int), .int .u32 (xe : Int), .int .u32 (xf : Int), .int .u32 (xg : Int), .int .u32 (xh : Int)]) (.int .i64 (k : Int))).run Try.prog W = .ok (.int .u32 (([xa, xb, xc, xd, xe, xf, xg, xh].getD k 0 : Nat) : Int)) W :=
            fun W => index_nums 30 29 8 .u32 [xa, xb, xc, xd, xe, xf, xg, xh] k Try.underlying30 Try.sizeOf29 Try.isAgg29 rfl hlt W
          generalize hl.getD k 0 = p at *
          generalize [xa, xb, xc, xd, xe, xf, xg, xh].getD k 0 = q at *
          have a1 := ad_cast p q
          have k0 : (0 : Int) ≤ k := by omega
          have k1 : (k : Int) < 8 := by omega
          go_wp2
          go_roundw
          case rel => exact ⟨k + 1, by omega, by go_num, H3.out.numNext k (ad p q) _ (by first | exact a1 | rfl) HN.out.symm, H6.out.far (by omega) _, hb.setCell (p := ⟨g2, k, none⟩) (Nat.le_refl _) _⟩
          case measure => simp [intOf]; omega
        · obtain rfl : k = 8 := by omega
          have HI := Lib.hid (info8 (adds hl [xa, xb, xc, xd, xe, xf, xg, xh] 8) (by rw [HL.out, HL0.out]))
          have hsz : (nums .u32 (List.replicate 8 0)).size = (nums .u32 (adds hl [xa, xb, xc, xd, xe, xf, xg, xh] 8)).size := by rw [nums_size, nums_size, HL.out, HL0.out]; rfl
          have HZ := Lib.hid hsz
          clear hsz
          go_wp2_with (first | (refine wpList_load_row rfl 30 (.tmp 2) rfl g2 rfl _ _ _ _ H3.out Try.underlying30 rfl HI.out ?_) | (refine wpList_store_row rfl 30 (.tmp 4) (.tmp 98) rfl g4 _ rfl rfl _ _ H6.out HI.out HZ.out (nums_one _ _) ?_))
          refine bodyPost_ret (v := .agg (nums .u32 (adds hl [xa, xb, xc, xd, xe, xf, xg, xh] 8))) (results_cell_row rfl _ _ g4 _ _ _ _ rfl (H6.out.row _) Try.underlying30 rfl HI.out) rfl ⟨congrArg (fun l => Ending.returned (.agg (nums .u32 l))) HM.out.symm, ?_⟩
          rw [HB.out]
          exact below_setRow hb (by omega) _
end Go.Proofs.Ytppfdhledmbkhaa
