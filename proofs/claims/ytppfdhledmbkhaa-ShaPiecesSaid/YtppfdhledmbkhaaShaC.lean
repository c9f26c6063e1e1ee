/- What the document's own block returns: conditions: 64 bytes, 32-bit numbers. -/
import Derived.Test.YtppfdhledmbkhaaShaB
namespace Go.Proofs.Ytppfdhledmbkhaa
open Go.RowKit

theorem S8.list_length (s : S8) : s.list.length = 8 := rfl
def nums8 (s : S8) : Array Value := nums .u32 s.list

/-- What lies in block's variables. -/
structure Env (wr w : World) (g3 g5 g6 g7 g8 : Nat) (h x : S8) (W : List Nat) : Prop where
  x3 : Arr wr g3 30 (nums .u32 h.list)
  x5 : Arr wr g5 39 (nums .u32 kks)
  x6 : Arr wr g6 30 (nums .u32 (List.replicate 8 0))
  x7 : Arr wr g7 39 (nums .u32 W)
  x8 : Arr wr g8 30 (nums .u32 x.list)
  bel : Below g3 w wr
theorem Env.drewN {wr w : World} {g3 g5 g6 g7 g8 : Nat} {h x : S8} {W : List Nat} (E : Env wr w g3 g5 g6 g7 g8 h x W) (n : Nat) : Env (wr.drewN n) w g3 g5 g6 g7 g8 h x W :=
  ⟨E.x3, E.x5, E.x6, E.x7, E.x8, E.bel.trans ((below_drewN wr n).mono (Nat.le_of_lt E.x3.lt))⟩
theorem eight_cells {wr : World} {g t : Nat} {a b c d e f i j : Nat} (A : Arr wr g t (nums .u32 (S8.mk a b c d e f i j).list)) :
    wr.cell? ⟨g, 0, none⟩ = some (.int .u32 (a : Int)) ∧ wr.cell? ⟨g, 1, none⟩ = some (.int .u32 (b : Int)) ∧ wr.cell? ⟨g, 2, none⟩ = some (.int .u32 (c : Int)) ∧ wr.cell? ⟨g, 3, none⟩ = some (.int .u32 (d : Int)) ∧
    wr.cell? ⟨g, 4, none⟩ = some (.int .u32 (e : Int)) ∧ wr.cell? ⟨g, 5, none⟩ = some (.int .u32 (f : Int)) ∧ wr.cell? ⟨g, 6, none⟩ = some (.int .u32 (i : Int)) ∧ wr.cell? ⟨g, 7, none⟩ = some (.int .u32 (j : Int)) :=
  ⟨A.num (by show _ < 8; omega) rfl, A.num (by show _ < 8; omega) rfl, A.num (by show _ < 8; omega) rfl, A.num (by show _ < 8; omega) rfl, A.num (by show _ < 8; omega) rfl, A.num (by show _ < 8; omega) rfl, A.num (by show _ < 8; omega) rfl, A.num (by show _ < 8; omega) rfl⟩
theorem Env.eight {wr w : World} {g3 g5 g6 g7 g8 : Nat} {h : S8} {W : List Nat} {a b c d e f i j : Nat} (E : Env wr w g3 g5 g6 g7 g8 h ⟨a, b, c, d, e, f, i, j⟩ W) :
    wr.cell? ⟨g8, 0, none⟩ = some (.int .u32 (a : Int)) ∧ wr.cell? ⟨g8, 1, none⟩ = some (.int .u32 (b : Int)) ∧ wr.cell? ⟨g8, 2, none⟩ = some (.int .u32 (c : Int)) ∧ wr.cell? ⟨g8, 3, none⟩ = some (.int .u32 (d : Int)) ∧
    wr.cell? ⟨g8, 4, none⟩ = some (.int .u32 (e : Int)) ∧ wr.cell? ⟨g8, 5, none⟩ = some (.int .u32 (f : Int)) ∧ wr.cell? ⟨g8, 6, none⟩ = some (.int .u32 (i : Int)) ∧ wr.cell? ⟨g8, 7, none⟩ = some (.int .u32 (j : Int)) :=
  eight_cells E.x8
theorem Env.two {wr w : World} {g3 g5 g6 g7 g8 : Nat} {h x : S8} {W : List Nat} (E : Env wr w g3 g5 g6 g7 g8 h x W) {k : Nat} (hW : W.length = 64) (hk : k < 64) :
    wr.cell? ⟨g5, k, none⟩ = some (.int .u32 ((kks.getD k 0 : Nat) : Int)) ∧ wr.cell? ⟨g7, k, none⟩ = some (.int .u32 ((W.getD k 0 : Nat) : Int)) :=
  ⟨E.x5.num (by rw [kks_len]; exact hk) rfl, E.x7.num (by rw [hW]; exact hk) rfl⟩
theorem Env.next {wr w : World} {g3 g5 g6 g7 g8 : Nat} {h x : S8} {W : List Nat} (E : Env wr w g3 g5 g6 g7 g8 h x W) (h3 : g3 < g8) (h5 : g5 < g8) (h6 : g6 < g8) (h7 : g7 < g8) (y : S8) : Env (wr.setRow g8 (nums .u32 y.list)) w g3 g5 g6 g7 g8 h y W :=
  ⟨E.x3.rowFar (by omega) _, E.x5.rowFar (by omega) _, E.x6.rowFar (by omega) _, E.x7.rowFar (by omega) _, E.x8.row _, below_setRow E.bel (by omega) _⟩
/-- The world ahead of block's first loop. -/
theorem block_world {w w1 : World} (s1 : w.heap.size + 3 ≤ w1.heap.size) {ta tb tc : TypeId} {ca cb cc : Array Value} (h3 : Arr w1 w.heap.size ta ca) (h5 : Arr w1 (w.heap.size + 1) tb cb) (h6 : Arr w1 (w.heap.size + 1 + 1) tc cc) (hb : Below w.heap.size w w1)
    (td te : TypeId) (cd ce z1 z2 : Array Value) : ∀ w2, w2 = (((w1.alloc (.cells z1 td)).setRow w1.heap.size cd).alloc (.cells z2 te)).setRow (w1.heap.size + 1) ce →
    Arr w2 w.heap.size ta ca ∧ Arr w2 (w.heap.size + 1) tb cb ∧ Arr w2 (w.heap.size + 1 + 1) tc cc ∧ Arr w2 w1.heap.size td cd ∧ Arr w2 (w1.heap.size + 1) te ce ∧ Below w.heap.size w w2 := by
  rintro _ rfl
  refine ⟨(((h3.alloc _).rowFar (by omega) _).alloc _).rowFar (by omega) _, (((h5.alloc _).rowFar (by omega) _).alloc _).rowFar (by omega) _, (((h6.alloc _).rowFar (by omega) _).alloc _).rowFar (by omega) _, (((Arr.new _ _ _).row _).alloc _).rowFar (by omega) _, (Arr.new1r _ _ _ _ _ _).row _, ?_⟩
  exact below_setRow ((below_setRow (hb.alloc (by omega) _) (by omega) _).alloc (by rw [size_setRow]; simp; omega) _) (by omega) _

set_option maxHeartbeats 1600000 in
set_option maxRecDepth 100000 in
theorem block_any (h : S8) (s : ByteArray) (w : World) (hs : s.size = 64) (hh : h.ok) :
    Calls Try.prog 14 #[.agg (nums .u32 h.list), .string s, .agg (nums .u32 kks)] w fun e w' => e = .returned (.agg (nums .u32 (mixP h s.data.toList).list)) ∧ Below w.heap.size w w' := by
  have HW := Lib.hid (fun w => words_any s w hs)
  have HI := Lib.hid (info64 (wds s.data.toList 64) (wds_length _ _))
  clear hs
  go_enter Try.func14, Try.ntmps14
  go_wp2_with fail
  refine (HW.out _).mono ?_
  rintro e w1 ⟨rfl, hb1⟩
  have s1 : w.heap.size + 3 ≤ w1.heap.size := by have := hb1.size; simp at this; omega
  have A3 : Arr w1 w.heap.size 30 (nums .u32 h.list) := (((Arr.new _ _ _).alloc _).alloc _).below hb1 (by simp; omega)
  have A5 : Arr w1 (w.heap.size + 1) 39 (nums .u32 kks) := ((Arr.new1 _ _ _ _).alloc _).below hb1 (by simp)
  have A6 : Arr w1 (w.heap.size + 1 + 1) 30 (nums .u32 (List.replicate 8 0)) := (Arr.new2 _ _ _ _ _).below hb1 (by simp)
  have b1 : Below w.heap.size w w1 := ((((Below.refl _ _).alloc (Nat.le_refl _) _).alloc (by simp) _).alloc (by simp; omega) _).trans (hb1.mono (by simp; omega))
  have H3 := Lib.hid A3
  have H5 := Lib.hid A5
  have H6 := Lib.hid A6
  have HI8 := Lib.hid (info8 h.list rfl)
  clear hb1 A3 A5 A6
  go_wp2_with (first | (refine wpList_store_row rfl 39 (.tmp 7) (.tmp 16) rfl w1.heap.size _ rfl rfl _ _ (Arr.new _ _ _) HI.out (by rw [nums_size, wds_length]; rfl) (nums_one _ _) ?_) | (refine wpList_load_row rfl 30 (.tmp 3) rfl w.heap.size rfl _ _ _ _ ((H3.out.alloc _).rowFar (by omega) _) Try.underlying30 rfl HI8.out ?_) | (refine wpList_store_row rfl 30 (.tmp 8) (.tmp 17) rfl (w1.heap.size + 1) _ rfl rfl _ _ (Arr.new1r _ _ _ _ _ _) HI8.out (by rw [nums_size, S8.list_length]; rfl) (nums_one _ _) ?_))
  have w2f := block_world s1 H3.out H5.out H6.out b1 39 30 (nums .u32 (wds s.data.toList 64)) (nums .u32 h.list) (nums .u32 (List.replicate 64 0)) (nums .u32 (List.replicate 8 0))
  generalize hg : ((((w1.alloc _).setRow _ _).alloc _).setRow _ _) = w2
  obtain ⟨A3, A5, A6, A7, A8, b2⟩ := w2f w2 hg.symm
  clear w2f hg H3 H5 H6 b1 HI
  have g38 : w.heap.size < w1.heap.size + 1 := by omega
  have g58 : w.heap.size + 1 < w1.heap.size + 1 := by omega
  have g68 : w.heap.size + 1 + 1 < w1.heap.size + 1 := by omega
  have g78 : w1.heap.size < w1.heap.size + 1 := by omega
  have g36 : w.heap.size < w.heap.size + 1 + 1 := by omega
  have g35 : w.heap.size < w.heap.size + 1 := by omega
  have g37 : w.heap.size < w1.heap.size := by omega
  clear s1
  generalize w1.heap.size + 1 = g8 at *
  generalize w1.heap.size = g7 at *
  generalize w.heap.size + 1 + 1 = g6 at *
  generalize w.heap.size + 1 = g5 at *
  generalize hB : w.heap.size = g3 at *
  have HB := Lib.hid hB
  clear hB
  have E0 : Env w2 w g3 g5 g6 g7 g8 h (rnds h (wds s.data.toList 64) 0) (wds s.data.toList 64) := by rw [rnds_zero]; exact ⟨A3, A5, A6, A7, A8, b2⟩
  have HE0 := Lib.hid E0
  clear A3 A5 A6 A7 A8 b2 E0
  go_loopw [9] (fun i wr => ∃ k : Nat, k ≤ 64 ∧ i = .int .i64 k ∧ Env wr w g3 g5 g6 g7 g8 h (rnds h (wds s.data.toList 64) k) (wds s.data.toList 64)) (fun i _ => 64 - (intOf i).toNat)
  case atStart => exact ⟨0, Nat.zero_le _, rfl, HE0.out⟩
  case round =>
    clear HE0
    obtain ⟨k, hk, rfl, hE⟩ := hrel
    have HE := Lib.hid hE
    clear hE
    by_cases hl : k < 64
    · have hok := rnds_ok (wds s.data.toList 64) hh k
      have HS := Lib.hid (rnds_succ h (wds s.data.toList 64) k)
      generalize rnds h (wds s.data.toList 64) k = S at *
      obtain ⟨xa, xb, xc, xd, xe, xf, xg, xh⟩ := S
      obtain ⟨la, lb, lc, ld, le, lf, lg, lh⟩ := hok
      dsimp only at la lb lc ld le lf lg lh
      obtain ⟨c0, c1, c2, c3, c4, c5, c6, c7⟩ := HE.out.eight
      obtain ⟨ck, cw⟩ := HE.out.two (wds_length _ _) hl
      have lk := getD_lt kks_lt k
      have lw := getD_lt (wds_lt s.data.toList 64) k
      generalize hkk : kks.getD k 0 = kk at *
      generalize hww : (wds s.data.toList 64).getD k 0 = ww at *
      have HKK := Lib.hid hkk
      have HWW := Lib.hid hww
      clear hkk hww
      have k0 : (0 : Int) ≤ k := by omega
      have k1 : (k : Int) < 64 := by omega
      have hsg : IntKind.u32.signed = false := rfl
      obtain ⟨y1, e1, e2⟩ := rot3_cast xe 6 11 25 le
      have e3 := u32_not xe le
      have e4 := u32_and_nat xe xf le lf
      have e5 := u32_and_nat (4294967295 - xe) xg (by omega) lg
      have e6 := u32_xor_nat (xe &&& xf) ((4294967295 - xe) &&& xg) (and_lt32 le) (and_lt32 (by omega))
      rw [chs_xor _ _ le] at e6
      have a1 := ad_cast xh (rot3 xe 6 11 25)
      have a2 := ad_cast (ad xh (rot3 xe 6 11 25)) (chs xe xf xg)
      have a3 := ad_cast (ad (ad xh (rot3 xe 6 11 25)) (chs xe xf xg)) kk
      have a4 := ad_cast (ad (ad (ad xh (rot3 xe 6 11 25)) (chs xe xf xg)) kk) ww
      obtain ⟨y2, f1, f2⟩ := rot3_cast xa 2 13 22 la
      have f3 := u32_and_nat xa xb la lb
      have f4 := u32_and_nat xa xc la lc
      have f5 := u32_and_nat xb xc lb lc
      have f6 := u32_xor_nat (xa &&& xb) (xa &&& xc) (and_lt32 la) (and_lt32 la)
      have f7 := u32_xor_nat (xa &&& xb ^^^ xa &&& xc) (xb &&& xc) (xor_lt32 (and_lt32 la) (and_lt32 la)) (and_lt32 lb)
      rw [maj_xor] at f7
      have a5 := ad_cast (rot3 xa 2 13 22) (maj xa xb xc)
      have R : rnd ⟨xa, xb, xc, xd, xe, xf, xg, xh⟩ kk ww = ⟨ad (ad (ad (ad (ad xh (rot3 xe 6 11 25)) (chs xe xf xg)) kk) ww) (ad (rot3 xa 2 13 22) (maj xa xb xc)), xa, xb, xc, ad xd (ad (ad (ad (ad xh (rot3 xe 6 11 25)) (chs xe xf xg)) kk) ww), xe, xf, xg⟩ := rfl
      generalize ad (ad (ad (ad xh (rot3 xe 6 11 25)) (chs xe xf xg)) kk) ww = z4 at *
      generalize ad (ad (ad xh (rot3 xe 6 11 25)) (chs xe xf xg)) kk = z3 at *
      generalize ad (ad xh (rot3 xe 6 11 25)) (chs xe xf xg) = z2 at *
      generalize ad xh (rot3 xe 6 11 25) = z1 at *
      generalize ad (rot3 xa 2 13 22) (maj xa xb xc) = z5 at *
      generalize rot3 xe 6 11 25 = r1 at *
      generalize rot3 xa 2 13 22 = r2 at *
      generalize chs xe xf xg = r3 at *
      generalize maj xa xb xc = r4 at *
      generalize xa &&& xb ^^^ xa &&& xc = n6 at *
      generalize xa &&& xb = n1 at *
      generalize xa &&& xc = n2 at *
      generalize xb &&& xc = n3 at *
      generalize xe &&& xf = n4 at *
      generalize (4294967295 - xe) &&& xg = n5 at *
      generalize 4294967295 - xe = n7 at *
      have a6 := ad_cast z4 z5
      have a7 := ad_cast xd z4
      generalize ad z4 z5 = z6 at *
      generalize ad xd z4 = z7 at *
      have HR := Lib.hid R
      clear R
      go_wp2
      go_quiet (fail)
      have HE2 := Lib.hid (HE.out.drewN nq)
      generalize wr.drewN nq = wq at *
      clear HE c0 c1 c2 c3 c4 c5 c6 c7 ck cw
      obtain ⟨c0, c1, c2, c3, c4, c5, c6, c7⟩ := HE2.out.eight
      obtain ⟨ck, cw⟩ := HE2.out.two (wds_length _ _) hl
      rw [HKK.out] at ck
      rw [HWW.out] at cw
      go_wp2
      go_quiet ((go_at_call 20; exact turn_quiet _ _ _ _ (by assumption) (by decide) (by decide)))
      rw [a4]
      have HE3 := Lib.hid (HE2.out.drewN nq)
      generalize wq.drewN nq = wp at *
      clear HE2 c0 c1 c2 c3 c4 c5 c6 c7 ck cw a1 a2 a3 a4 e1 e2 e3 e4 e5 e6
      obtain ⟨c0, c1, c2, c3, c4, c5, c6, c7⟩ := HE3.out.eight
      go_wp2
      go_quiet ((go_at_call 20; exact turn_quiet _ _ _ _ (by assumption) (by decide) (by decide)))
      rw [a5]
      have HE4 := Lib.hid (HE3.out.drewN nq)
      generalize wp.drewN nq = wo at *
      clear HE3 c0 c1 c2 c3 c4 c5 c6 c7 a5 f1 f2 f3 f4 f5 f6 f7
      obtain ⟨c0, c1, c2, c3, c4, c5, c6, c7⟩ := HE4.out.eight
      have HI9 := Lib.hid (info8 (S8.mk z6 xa xb xc z7 xe xf xg).list rfl)
      go_wp2_with (refine wpList_store_row rfl 30 (.tmp 8) (.tmp 97) rfl g8 (nums .u32 (S8.mk z6 xa xb xc z7 xe xf xg).list) rfl rfl _ _ HE4.out.x8 HI9.out rfl (nums_one _ _) ?_)
      go_roundw
      case rel => exact ⟨k + 1, by omega, by go_num, by rw [HS.out, HR.out]; exact HE4.out.next g38 g58 g68 g78 _⟩
      case measure => simp [intOf]; omega
    · obtain rfl : k = 64 := by omega
      have HM := Lib.hid (mixP_list h s.data.toList)
      generalize rnds h (wds s.data.toList 64) 64 = S at *
      go_wp2
      have A3 := HE.out.x3
      have A6 := HE.out.x6
      have A8 := HE.out.x8
      have hb := HE.out.bel
      clear HE hk hl hh
      have HL0 : Hid (h.list.length = 8) := rfl
      have HL1 : Hid (S.list.length = 8) := rfl
      generalize h.list = hl at *
      generalize S.list = xl at *
      have H0 := Lib.hid A3
      have H6 := Lib.hid A6
      have H8 := Lib.hid A8
      clear A3 A6 A8
      go_loopw [14] (fun i wr => ∃ k : Nat, k ≤ 8 ∧ i = .int .i64 k ∧ Arr wr g3 30 (nums .u32 (adds hl xl k)) ∧ Arr wr g6 30 (nums .u32 (List.replicate 8 0)) ∧ Arr wr g8 30 (nums .u32 xl) ∧ Below g3 w wr) (fun i _ => 8 - (intOf i).toNat)
      case atStart => exact ⟨0, Nat.zero_le _, rfl, H0.out, H6.out, H8.out, hb⟩
      case round =>
        clear H0 H6 H8 hb
        obtain ⟨k, hk, rfl, A3, A6, A8, hb⟩ := hrel
        have H3 := Lib.hid A3
        have H6 := Lib.hid A6
        have H8 := Lib.hid A8
        have HL := Lib.hid (adds_length hl xl k)
        clear A3 A6 A8
        by_cases hlt : k < 8
        · have ch := H3.out.num (j := k) (by rw [HL.out, HL0.out]; exact hlt) (adds_at hl xl k k (Nat.le_refl _))
          have cx := H8.out.num (j := k) (by rw [HL1.out]; exact hlt) rfl
          have hf := H3.out.frozen k
          have HN := Lib.hid (adds_succ hl xl k)
          generalize hl.getD k 0 = p at *
          generalize xl.getD k 0 = q at *
          have a1 := ad_cast p q
          have k0 : (0 : Int) ≤ k := by omega
          have k1 : (k : Int) < 8 := by omega
          go_wp2
          go_region
          go_wp2
          go_roundw
          case rel => exact ⟨k + 1, by omega, by go_num, H3.out.numNext k (ad p q) _ (by first | exact a1 | rfl) HN.out.symm, H6.out.far (by omega) _, H8.out.far (by omega) _, (hb.setCell (p := ⟨g3, k, none⟩) (Nat.le_refl _) _).drew⟩
          case measure => simp [intOf]; omega
        · obtain rfl : k = 8 := by omega
          have HI := Lib.hid (info8 (adds hl xl 8) (by rw [HL.out, HL0.out]))
          have hsz : (nums .u32 (List.replicate 8 0)).size = (nums .u32 (adds hl xl 8)).size := by rw [nums_size, nums_size, HL.out, HL0.out]; rfl
          have HZ := Lib.hid hsz
          clear hsz
          go_wp2_with (first | (refine wpList_load_row rfl 30 (.tmp 3) rfl g3 rfl _ _ _ _ H3.out Try.underlying30 rfl HI.out ?_) | (refine wpList_store_row rfl 30 (.tmp 6) (.tmp 111) rfl g6 _ rfl rfl _ _ H6.out HI.out HZ.out (nums_one _ _) ?_))
          refine bodyPost_ret (v := .agg (nums .u32 (adds hl xl 8))) (results_cell_row rfl _ _ g6 _ _ _ _ rfl (H6.out.row _) Try.underlying30 rfl HI.out) rfl ⟨congrArg (fun l => Ending.returned (.agg (nums .u32 l))) HM.out.symm, ?_⟩
          rw [HB.out]
          exact below_setRow hb (by omega) _
end Go.Proofs.Ytppfdhledmbkhaa
