/- What sha.schedule returns: condition: 64 bytes. -/
import Derived.Test.YtppfdhledmbkhaaShaC
import Derived.StillTailTactics
namespace Go.Proofs.Ytppfdhledmbkhaa
open Go.RowKit

/-- Bytes as numbers. -/
def bys (B : List UInt8) : List Nat := B.map UInt8.toNat
theorem bys_length (B : List UInt8) : (bys B).length = B.length := List.length_map _
theorem bys_at (B : List UInt8) (k : Nat) : (bys B).getD k 0 = byt B k := by
  unfold bys byt
  rw [List.getD_eq_getElem?_getD, List.getElem?_map, List.getD_eq_getElem?_getD]
  cases B[k]? <;> rfl

theorem be4_cast {a b c d : Nat} (ha : a < 256) (hb : b < 256) (hc : c < 256) (hd : d < 256) : ∃ o p : Nat, bits .or .u32 ((a : Int) * 16777216) ((b : Int) * 65536) = (o : Int) ∧ bits .or .u32 (o : Int) ((c : Int) * 256) = (p : Int) ∧ bits .or .u32 (p : Int) (d : Int) = ((be4 a b c d : Nat) : Int) := by
  have l1 : a * 16777216 < 4294967296 := Nat.lt_of_le_of_lt (Nat.mul_le_mul_right _ (show a ≤ 255 by omega)) (by decide)
  have l2 : b * 65536 < 4294967296 := Nat.lt_of_le_of_lt (Nat.mul_le_mul_right _ (show b ≤ 255 by omega)) (by decide)
  have l3 : c * 256 < 4294967296 := Nat.lt_of_le_of_lt (Nat.mul_le_mul_right _ (show c ≤ 255 by omega)) (by decide)
  refine ⟨a * 16777216 ||| b * 65536, a * 16777216 ||| b * 65536 ||| c * 256, ?_, ?_, ?_⟩
  · have := u32_or_nat (a * 16777216) (b * 65536) l1 l2
    rw [Int.natCast_mul, Int.natCast_mul] at this
    exact this
  · have := u32_or_nat (a * 16777216 ||| b * 65536) (c * 256) (or_lt32 l1 l2) l3
    rw [Int.natCast_mul] at this
    exact this
  · rw [u32_or_nat _ d (or_lt32 (or_lt32 l1 l2) l3) (by omega), be4_or hb hc hd]
theorem u32_in (n : Int) (h : 0 ≤ n ∧ n < 4294967296) : IntKind.u32.wrap n = n := by rw [IntKind.wrap_u32']; omega

set_option maxHeartbeats 1600000 in
set_option maxRecDepth 100000 in
theorem schedule_any (B : List UInt8) (w : World) (hB : B.length = 64) :
    Calls Try.prog 26 #[.agg (nums .u8 (bys B))] w fun e w' => e = .returned (.agg (nums .u32 (wds B 64))) ∧ Below w.heap.size w w' := by
  have HLB := Lib.hid ((bys_length B).trans hB)
  clear hB
  go_enter Try.func26, Try.ntmps26
  go_wp2
  go_loopw [6] (fun i wr => ∃ k : Nat, k ≤ 16 ∧ i = .int .i64 k ∧ Arr wr (w.heap.size + 1 + 1) 39 (nums .u32 (wdz B k)) ∧ Arr wr (w.heap.size + 1) 39 (nums .u32 (List.replicate 64 0)) ∧ Arr wr w.heap.size 31 (nums .u8 (bys B)) ∧ Below w.heap.size w wr)
    (fun i _ => 16 - (intOf i).toNat)
  case atStart => exact ⟨0, Nat.zero_le _, rfl, Arr.new2 _ _ _ _ _, (Arr.new1 _ _ _ _).alloc _, ((Arr.new _ _ _).alloc _).alloc _, (((Below.refl _ _).alloc (Nat.le_refl _) _).alloc (by simp) _).alloc (by simp; omega) _⟩
  case round =>
    obtain ⟨k, hk, rfl, hA, hR, hS, hb⟩ := hrel
    have HA := Lib.hid hA
    have HR := Lib.hid hR
    have HS := Lib.hid hS
    clear hA hR hS
    have HL := Lib.hid (wdz_length B (k := k) (by omega))
    by_cases hl : k < 16
    · obtain ⟨p0, q0⟩ : ∃ p, 4 * k = p := ⟨_, rfl⟩
      obtain ⟨p1, q1⟩ : ∃ p, 4 * k + 1 = p := ⟨_, rfl⟩
      obtain ⟨p2, q2⟩ : ∃ p, 4 * k + 2 = p := ⟨_, rfl⟩
      obtain ⟨p3, q3⟩ : ∃ p, 4 * k + 3 = p := ⟨_, rfl⟩
      have c0 := HS.out.num (j := p0) (by rw [HLB.out]; omega) (bys_at B p0)
      have c1 := HS.out.num (j := p1) (by rw [HLB.out]; omega) (bys_at B p1)
      have c2 := HS.out.num (j := p2) (by rw [HLB.out]; omega) (bys_at B p2)
      have c3 := HS.out.num (j := p3) (by rw [HLB.out]; omega) (bys_at B p3)
      have l0 := byt_lt B p0
      have l1 := byt_lt B p1
      have l2 := byt_lt B p2
      have l3 := byt_lt B p3
      have HN : Hid (newW B (wds B k) k = be4 (byt B p0) (byt B p1) (byt B p2) (byt B p3)) := by
        subst q0 q1 q2 q3; exact if_pos hl
      have HG := Lib.hid (wdz_set B (k := k) (by omega))
      generalize byt B p0 = b0 at *
      generalize byt B p1 = b1 at *
      generalize byt B p2 = b2 at *
      generalize byt B p3 = b3 at *
      have hf := HA.out.frozen k
      have hc := HA.out.num (j := k) (by rw [HL.out]; omega) rfl
      have i0 : 4 * (k : Int) = (p0 : Int) := by omega
      have i1 : (p0 : Int) + 1 = (p1 : Int) := by omega
      have i2 : (p0 : Int) + 2 = (p2 : Int) := by omega
      have i3 : (p0 : Int) + 3 = (p3 : Int) := by omega
      have k0 : (0 : Int) ≤ k := by omega
      have k1 : (k : Int) < 64 := by omega
      have m0 : (p0 : Int) < 64 := by omega
      have m1 : (p1 : Int) < 64 := by omega
      have m2 : (p2 : Int) < 64 := by omega
      have m3 : (p3 : Int) < 64 := by omega
      clear q0 q1 q2 q3
      have w0 : IntKind.i64.wrap (p0 : Int) = p0 := IntWalk.i64_in _ ⟨by omega, by omega⟩
      have w1 : IntKind.i64.wrap (p1 : Int) = p1 := IntWalk.i64_in _ ⟨by omega, by omega⟩
      have w2 : IntKind.i64.wrap (p2 : Int) = p2 := IntWalk.i64_in _ ⟨by omega, by omega⟩
      have w3 : IntKind.i64.wrap (p3 : Int) = p3 := IntWalk.i64_in _ ⟨by omega, by omega⟩
      have v0 : IntKind.u32.wrap (b0 : Int) = b0 := u32_in _ ⟨by omega, by omega⟩
      have v1 : IntKind.u32.wrap (b1 : Int) = b1 := u32_in _ ⟨by omega, by omega⟩
      have v2 : IntKind.u32.wrap (b2 : Int) = b2 := u32_in _ ⟨by omega, by omega⟩
      have v3 : IntKind.u32.wrap (b3 : Int) = b3 := u32_in _ ⟨by omega, by omega⟩
      have v4 : IntKind.u32.wrap ((b0 : Int) * 16777216) = (b0 : Int) * 16777216 := u32_in _ ⟨by omega, by omega⟩
      have v5 : IntKind.u32.wrap ((b1 : Int) * 65536) = (b1 : Int) * 65536 := u32_in _ ⟨by omega, by omega⟩
      have v6 : IntKind.u32.wrap ((b2 : Int) * 256) = (b2 : Int) * 256 := u32_in _ ⟨by omega, by omega⟩
      obtain ⟨o1, o2, e1, e2, e3⟩ := be4_cast l0 l1 l2 l3
      rw [← HN.out] at e3
      generalize newW B (wds B k) k = nw at *
      go_wp2
      go_still_tail 31, (by kernel_rfl)
      have HA2 : Hid (Arr wr.drew (w.heap.size + 1 + 1) 39 (nums .u32 (wdz B k))) := HA.out
      have HR2 : Hid (Arr wr.drew (w.heap.size + 1) 39 (nums .u32 (List.replicate 64 0))) := HR.out
      have HS2 : Hid (Arr wr.drew w.heap.size 31 (nums .u8 (bys B))) := HS.out
      have hb2 := hb.drew
      have hf2 : wr.drew.frozen? ⟨w.heap.size + 1 + 1, k, none⟩ = false := hf
      have hc2 : wr.drew.cell? ⟨w.heap.size + 1 + 1, k, none⟩ = _ := hc
      change wpList _ _ _ _ _ wr.drew
      generalize wr.drew = wd at *
      clear HA HR HS hb hf hc w0 w1 w2 w3 v0 v1 v2 v3 v4 v5 v6 e1 e2 e3 c0 c1 c2 c3
      go_wp2
      go_roundw
      case rel => exact ⟨k + 1, by omega, by go_num, HA2.out.numNext k nw _ rfl HG.out, HR2.out.far (by omega) _, HS2.out.far (by omega) _, hb2.setCell (p := ⟨w.heap.size + 1 + 1, k, none⟩) (by simp; omega) _⟩
      case measure => simp [intOf]; omega
    · obtain rfl : k = 16 := by omega
      rw [show ((16 : Nat) : Int) = 16 from rfl]
      go_wp2
      go_loopw [5] (fun i wr => ∃ k : Nat, 16 ≤ k ∧ k ≤ 64 ∧ i = .int .i64 k ∧ Arr wr (w.heap.size + 1 + 1) 39 (nums .u32 (wdz B k)) ∧ Arr wr (w.heap.size + 1) 39 (nums .u32 (List.replicate 64 0)) ∧ Below w.heap.size w wr)
        (fun i _ => 64 - (intOf i).toNat)
      case atStart => exact ⟨16, Nat.le_refl _, by omega, rfl, HA.out, HR.out, hb⟩
      case round =>
        clear HA HR HS HL hb hk hl
        obtain ⟨k, h16, hk, rfl, hA, hR, hb⟩ := hrel
        have HA := Lib.hid hA
        have HR := Lib.hid hR
        clear hA hR
        have HL := Lib.hid (wdz_length B hk)
        by_cases hl : k < 64
        · obtain ⟨m, hm⟩ : ∃ m, k = m + 16 := ⟨k - 16, by omega⟩
          obtain ⟨p, hp⟩ : ∃ p, m + 1 = p := ⟨_, rfl⟩
          obtain ⟨q, hq⟩ : ∃ q, m + 9 = q := ⟨_, rfl⟩
          obtain ⟨r, hr⟩ : ∃ r, m + 14 = r := ⟨_, rfl⟩
          have c16 := HA.out.num (j := m) (by rw [HL.out]; omega) (wdz_at B (by omega))
          have c15 := HA.out.num (j := p) (by rw [HL.out]; omega) (wdz_at B (by omega))
          have c7 := HA.out.num (j := q) (by rw [HL.out]; omega) (wdz_at B (by omega))
          have c2 := HA.out.num (j := r) (by rw [HL.out]; omega) (wdz_at B (by omega))
          have hf := HA.out.frozen k
          have hc := HA.out.num (j := k) (by rw [HL.out]; exact hl) rfl
          have l16 := getD_lt (wds_lt B k) m
          have l15 := getD_lt (wds_lt B k) p
          have l7 := getD_lt (wds_lt B k) q
          have l2 := getD_lt (wds_lt B k) r
          have HN : Hid (newW B (wds B k) k = ad (ad (ad ((wds B k).getD m 0) (rotS ((wds B k).getD p 0) 7 18 3)) ((wds B k).getD q 0)) (rotS ((wds B k).getD r 0) 17 19 10)) := by
            have := newW_big B (wds B k) m
            rw [← hm, hp, hq, hr] at this
            exact this
          generalize (wds B k).getD m 0 = x16 at *
          generalize (wds B k).getD p 0 = x15 at *
          generalize (wds B k).getD q 0 = x7 at *
          generalize (wds B k).getD r 0 = x2 at *
          have i0 : (k : Int) - 16 = (m : Int) := by omega
          have i1 : (k : Int) - 15 = (p : Int) := by omega
          have i2 : (k : Int) - 7 = (q : Int) := by omega
          have i3 : (k : Int) - 2 = (r : Int) := by omega
          have b0 : (m : Int) < 64 := by omega
          have b1 : (p : Int) < 64 := by omega
          have b2 : (q : Int) < 64 := by omega
          have b3 : (r : Int) < 64 := by omega
          have b4 : (k : Int) < 64 := by omega
          have z0 : (0 : Int) ≤ m := by omega
          have z1' : (0 : Int) ≤ p := by omega
          have z2' : (0 : Int) ≤ q := by omega
          have z3' : (0 : Int) ≤ r := by omega
          have z4' : (0 : Int) ≤ k := by omega
          have hkm : (⟨w.heap.size + 1 + 1, k, none⟩ : Addr) ≠ ⟨w.heap.size + 1 + 1, m, none⟩ := by intro he; injection he; omega
          have hkp : (⟨w.heap.size + 1 + 1, k, none⟩ : Addr) ≠ ⟨w.heap.size + 1 + 1, p, none⟩ := by intro he; injection he; omega
          have hkq : (⟨w.heap.size + 1 + 1, k, none⟩ : Addr) ≠ ⟨w.heap.size + 1 + 1, q, none⟩ := by intro he; injection he; omega
          have hkr : (⟨w.heap.size + 1 + 1, k, none⟩ : Addr) ≠ ⟨w.heap.size + 1 + 1, r, none⟩ := by intro he; injection he; omega
          have a1 := ad_cast x16 (rotS x15 7 18 3)
          have a2 := ad_cast (ad x16 (rotS x15 7 18 3)) x7
          have a3 := ad_cast (ad (ad x16 (rotS x15 7 18 3)) x7) (rotS x2 17 19 10)
          rw [← HN.out] at a3
          have HG := Lib.hid (wdz_set B hl)
          generalize newW B (wds B k) k = nw at *
          clear hm hp hq hr HN
          have w0 : IntKind.i64.wrap (m : Int) = (m : Int) := IntWalk.i64_in _ ⟨by omega, by omega⟩
          have w1 : IntKind.i64.wrap (p : Int) = (p : Int) := IntWalk.i64_in _ ⟨by omega, by omega⟩
          have w2 : IntKind.i64.wrap (q : Int) = (q : Int) := IntWalk.i64_in _ ⟨by omega, by omega⟩
          have w3 : IntKind.i64.wrap (r : Int) = (r : Int) := IntWalk.i64_in _ ⟨by omega, by omega⟩
          go_wp2
          go_region_held3 (fun w' => w'.cell? ⟨w.heap.size + 1 + 1, m, none⟩ = some (.int .u32 (x16 : Int)) ∧ w'.cell? ⟨w.heap.size + 1 + 1, p, none⟩ = some (.int .u32 (x15 : Int)) ∧ w'.cell? ⟨w.heap.size + 1 + 1, q, none⟩ = some (.int .u32 (x7 : Int)) ∧ w'.cell? ⟨w.heap.size + 1 + 1, r, none⟩ = some (.int .u32 (x2 : Int))) (first | go_keep | exact ⟨(World.cell?_setCell_other _ _ _ _ hkm).trans c16, (World.cell?_setCell_other _ _ _ _ hkp).trans c15, (World.cell?_setCell_other _ _ _ _ hkq).trans c7, (World.cell?_setCell_other _ _ _ _ hkr).trans c2⟩)
            (first | (go_at_call 37; refine (shifted_any _ _ _ _ _ (by assumption) (by decide) (by decide) (by decide) (by decide) (by decide) (by decide)).mono ?_; rintro e w' ⟨rfl, n, rfl⟩))
          clear w0 w1 w2 w3
          go_wp2
          go_roundw
          case rel => exact ⟨k + 1, by omega, by omega, by go_num, (HA.out.drewN _).numNext k nw _ (by rw [a1, a2, a3]) HG.out, (HR.out.drewN _).far (by omega) _, (hb.trans ((below_drewN wr _).mono hb.size)).setCell (p := ⟨w.heap.size + 1 + 1, k, none⟩) (by simp; omega) _⟩
          case measure => simp [intOf]; omega
        · obtain rfl : k = 64 := by omega
          rw [wdz_full] at HA
          have HI := Lib.hid (info64 (wds B 64) (wds_length _ _))
          go_wp2_with (first | (refine wpList_load_row rfl 39 (.tmp 3) rfl (w.heap.size + 1 + 1) rfl _ _ _ _ HA.out Try.underlying39 rfl HI.out ?_) | (refine wpList_store_row rfl 39 (.tmp 2) (.tmp 68) rfl (w.heap.size + 1) _ rfl rfl _ _ HR.out HI.out (by rw [nums_size, nums_size, wds_length, List.length_replicate]) (nums_one _ _) ?_))
          exact bodyPost_ret (v := .agg (nums .u32 (wds B 64))) (results_cell_row rfl _ _ (w.heap.size + 1) _ _ _ _ rfl (HR.out.row _) Try.underlying39 rfl HI.out) rfl ⟨rfl, below_setRow hb (by omega) _⟩
end Go.Proofs.Ytppfdhledmbkhaa
