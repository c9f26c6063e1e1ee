/- What the document's own words and block return: conditions: 64 bytes, 32-bit numbers. -/
import Derived.Test.YtppfdhledmbkhaaShaA
import Derived.Test.YtppfdhledmbkhaaArr
import Derived.Deep.RegionHeld3
import Derived.RegionTactic
import Derived.BigRegion
namespace Go.Proofs.Ytppfdhledmbkhaa
open Go.RowKit

theorem info64 (l : List Nat) (h : l.length = 64) : (Try.prog.info? 39).map (·.size) = some (nums .u32 l).size := by rw [nums_size, h]; kernel_rfl
theorem info8 (l : List Nat) (h : l.length = 8) : (Try.prog.info? 30).map (·.size) = some (nums .u32 l).size := by rw [nums_size, h]; kernel_rfl
theorem getD_set_self (l : List Nat) (k x : Nat) (h : k < l.length) : (l.set k x).getD k 0 = x := by simp [List.getD_eq_getElem?_getD, h]
theorem set_set (l : List Nat) (k x y : Nat) : (l.set k x).set k y = l.set k y := List.set_set ..
theorem pb_start (B : List UInt8) (k : Nat) : (wdz B k).set k (pb B k 0) = wdz B k := by
  apply List.ext_getElem?
  intro i
  rw [List.getElem?_set]
  split
  · rename_i e
    subst e
    split
    · rename_i h
      have := wdz_mid B k
      rw [List.getD_eq_getElem?_getD, List.getElem?_eq_getElem h] at this
      rw [List.getElem?_eq_getElem h]
      simpa [pb] using this.symm
    · rename_i h
      rw [List.getElem?_eq_none (by omega)]
  · rfl
theorem byte_at (s : ByteArray) (q : Nat) (h : q < s.size) : s[q].toNat = byt s.data.toList q := by
  unfold byt
  rw [List.getD_eq_getElem?_getD, List.getElem?_eq_getElem (by simpa using h)]
  rfl

set_option maxHeartbeats 800000 in
set_option maxRecDepth 100000 in
theorem words_any (s : ByteArray) (w : World) (hs : s.size = 64) :
    Calls Try.prog 19 #[.string s] w fun e w' => e = .returned (.agg (nums .u32 (wds s.data.toList 64))) ∧ Below w.heap.size w w' := by
  have HS := Lib.hid hs
  have hs1 : 64 ≤ s.size := by omega
  have hs2 : s.size ≤ 64 := by omega
  clear hs
  go_enter Try.func19, Try.ntmps19
  go_wp2
  go_loopw [4] (fun i wr => ∃ k : Nat, k ≤ 64 ∧ i = .int .i64 k ∧ Arr wr (w.heap.size + 1) 39 (nums .u32 (wdz s.data.toList k)) ∧ Arr wr w.heap.size 39 (nums .u32 (List.replicate 64 0)) ∧ Below w.heap.size w wr)
    (fun i _ => 64 - (intOf i).toNat)
  case atStart => exact ⟨0, Nat.zero_le _, rfl, Arr.new1 _ _ _ _, (Arr.new _ _ _).alloc _, ((Below.refl _ _).alloc (Nat.le_refl _) _).alloc (by simp) _⟩
  case round =>
    obtain ⟨k, hk, rfl, hA, hR, hb⟩ := hrel
    have HA := Lib.hid hA
    have HR := Lib.hid hR
    clear hA hR
    by_cases hl : k < 64
    · have d64 : decide ((k : Int) < 64) = true := decide_eq_true (by omega)
      have HL := Lib.hid (wdz_length s.data.toList hk)
      by_cases h16 : k < 16
      · have d16 : decide ((k : Int) < 16) = true := decide_eq_true (by omega)
        go_wp2
        go_loopw [5] (fun i wq => ∃ j : Nat, j ≤ 4 ∧ i = .int .i64 j ∧ Arr wq (w.heap.size + 1) 39 (nums .u32 ((wdz s.data.toList k).set k (pb s.data.toList k j))) ∧ Arr wq w.heap.size 39 (nums .u32 (List.replicate 64 0)) ∧ Below w.heap.size w wq)
          (fun i _ => 4 - (intOf i).toNat)
        case atStart => exact ⟨0, Nat.zero_le _, rfl, by rw [pb_start]; exact HA.out, HR.out, hb⟩
        case round =>
          clear HA HR hb
          obtain ⟨j, hj, rfl, hA, hR, hb⟩ := hrel
          have HA := Lib.hid hA
          have HR := Lib.hid hR
          clear hA hR
          by_cases h4 : j < 4
          · have hc := HA.out.num (j := k) (by rw [List.length_set, HL.out]; exact hl) (getD_set_self _ k _ (by rw [HL.out]; exact hl))
            have hf := HA.out.frozen k
            have hp4 := pb_small s.data.toList k h4
            obtain ⟨q, hq⟩ : ∃ q : Nat, 4 * k + j = q := ⟨_, rfl⟩
            have hq1 : q < s.size := by omega
            have hB := byte_at s q hq1
            have hbl := byt_lt s.data.toList q
            have HN : Hid (pb s.data.toList k (j + 1) = pb s.data.toList k j * 256 + byt s.data.toList q) := by subst hq; rfl
            generalize pb s.data.toList k j = p at *
            generalize byt s.data.toList q = b at *
            have hqi : 4 * (k : Int) + (j : Int) = (q : Int) := by omega
            have k0 : (0 : Int) ≤ k := by omega
            have k1 : (k : Int) < 64 := by omega
            clear hq
            go_wp2
            go_region
            go_wp2
            go_roundw
            case rel => exact ⟨j + 1, by omega, by go_num, HA.out.numNext k (p * 256 + b) _ (by omega) (by rw [set_set, HN.out]), HR.out.far (by omega) _, (hb.setCell (p := ⟨w.heap.size + 1, k, none⟩) (by simp) _).drew⟩
            case measure => simp [intOf]; omega
          · obtain rfl : j = 4 := by omega
            have HF := Lib.hid (pb_four s.data.toList k (wds s.data.toList k) h16)
            have HG := Lib.hid (wdz_set s.data.toList hl)
            have HA2 : Hid (Arr wr (w.heap.size + 1) 39 (nums .u32 (wdz s.data.toList (k + 1)))) := by rw [← HG.out, ← HF.out]; exact HA.out
            clear HA
            go_wp2
            go_roundw
            case rel => exact ⟨k + 1, by omega, by go_num, HA2.out, HR.out, hb⟩
            case measure => simp [intOf]; omega
      · have d16 : decide ((k : Int) < 16) = false := decide_eq_false (by omega)
        obtain ⟨m, hm⟩ : ∃ m, k = m + 16 := ⟨k - 16, by omega⟩
        obtain ⟨p, hp⟩ : ∃ p, m + 1 = p := ⟨_, rfl⟩
        obtain ⟨q, hq⟩ : ∃ q, m + 9 = q := ⟨_, rfl⟩
        obtain ⟨r, hr⟩ : ∃ r, m + 14 = r := ⟨_, rfl⟩
        have c16 := HA.out.num (j := m) (by rw [HL.out]; omega) (wdz_at s.data.toList (by omega))
        have c15 := HA.out.num (j := p) (by rw [HL.out]; omega) (wdz_at s.data.toList (by omega))
        have c7 := HA.out.num (j := q) (by rw [HL.out]; omega) (wdz_at s.data.toList (by omega))
        have c2 := HA.out.num (j := r) (by rw [HL.out]; omega) (wdz_at s.data.toList (by omega))
        have hf := HA.out.frozen k
        have l16 := getD_lt (wds_lt s.data.toList k) m
        have l15 := getD_lt (wds_lt s.data.toList k) p
        have l7 := getD_lt (wds_lt s.data.toList k) q
        have l2 := getD_lt (wds_lt s.data.toList k) r
        have HN : Hid (newW s.data.toList (wds s.data.toList k) k = ad (ad (ad ((wds s.data.toList k).getD m 0) (rotS ((wds s.data.toList k).getD p 0) 7 18 3)) ((wds s.data.toList k).getD q 0)) (rotS ((wds s.data.toList k).getD r 0) 17 19 10)) := by
          have := newW_big s.data.toList (wds s.data.toList k) m
          rw [← hm, hp, hq, hr] at this
          exact this
        generalize (wds s.data.toList k).getD m 0 = x16 at *
        generalize (wds s.data.toList k).getD p 0 = x15 at *
        generalize (wds s.data.toList k).getD q 0 = x7 at *
        generalize (wds s.data.toList k).getD r 0 = x2 at *
        have i0 : (k : Int) - 16 = (m : Int) := by omega
        have i1 : (k : Int) - 15 = (p : Int) := by omega
        have i2 : (k : Int) - 7 = (q : Int) := by omega
        have i3 : (k : Int) - 2 = (r : Int) := by omega
        have b0 : (m : Int) < 64 := by omega
        have b1 : (p : Int) < 64 := by omega
        have b2 : (q : Int) < 64 := by omega
        have b3 : (r : Int) < 64 := by omega
        have b4 : (k : Int) < 64 := by omega
        obtain ⟨y1, e1, e2⟩ := rotS_cast x15 7 18 3 l15
        obtain ⟨y2, e3, e4⟩ := rotS_cast x2 17 19 10 l2
        rw [show (2 : Int) ^ 3 = 8 from rfl] at e2
        rw [show (2 : Int) ^ 10 = 1024 from rfl] at e4
        have a1 := ad_cast x16 (rotS x15 7 18 3)
        have a2 := ad_cast (ad x16 (rotS x15 7 18 3)) x7
        have a3 := ad_cast (ad (ad x16 (rotS x15 7 18 3)) x7) (rotS x2 17 19 10)
        rw [← HN.out] at a3
        have HG := Lib.hid (wdz_set s.data.toList hl)
        generalize newW s.data.toList (wds s.data.toList k) k = nw at *
        generalize ad (ad x16 (rotS x15 7 18 3)) x7 = z2 at *
        generalize ad x16 (rotS x15 7 18 3) = z1 at *
        generalize rotS x15 7 18 3 = r1 at *
        generalize rotS x2 17 19 10 = r2 at *
        clear hm hp hq hr HN
        go_wp2
        go_quiet (fail)
        have HA1 := Lib.hid (HA.out.drewN nq)
        have HR1 := Lib.hid (HR.out.drewN nq)
        have hb1 := hb.trans ((below_drewN wr nq).mono hb.size)
        have c16' : (wr.drewN nq).cell? ⟨w.heap.size + 1, m, none⟩ = some (.int .u32 (x16 : Int)) := c16
        have c7' : (wr.drewN nq).cell? ⟨w.heap.size + 1, q, none⟩ = some (.int .u32 (x7 : Int)) := c7
        have hf' : (wr.drewN nq).frozen? ⟨w.heap.size + 1, k, none⟩ = false := hf
        have hc' := HA1.out.num (j := k) (by rw [HL.out]; exact hl) rfl
        generalize wr.drewN nq = wq at *
        clear HA HR hb c16 c7 c15 c2 hf
        have z0 : (0 : Int) ≤ m := by omega
        have z2' : (0 : Int) ≤ q := by omega
        have z3 : (0 : Int) ≤ k := by omega
        have hkm : (⟨w.heap.size + 1, k, none⟩ : Addr) ≠ ⟨w.heap.size + 1, m, none⟩ := by intro he; injection he; omega
        have hkq : (⟨w.heap.size + 1, k, none⟩ : Addr) ≠ ⟨w.heap.size + 1, q, none⟩ := by intro he; injection he; omega
        have w0 : IntKind.i64.wrap (m : Int) = (m : Int) := IntWalk.i64_in _ ⟨by omega, by omega⟩
        have w2 : IntKind.i64.wrap (q : Int) = (q : Int) := IntWalk.i64_in _ ⟨by omega, by omega⟩
        go_wp2
        go_region_held3 (fun w' => w'.cell? ⟨w.heap.size + 1, m, none⟩ = some (.int .u32 (x16 : Int)) ∧ w'.cell? ⟨w.heap.size + 1, q, none⟩ = some (.int .u32 (x7 : Int))) (first | go_keep | exact ⟨(World.cell?_setCell_other _ _ _ _ hkm).trans c16', (World.cell?_setCell_other _ _ _ _ hkq).trans c7'⟩)
          (first | (go_at_call 20; refine (turn_any _ _ _ (by assumption) (by decide) (by decide)).mono ?_; rintro e w' ⟨rfl, n, rfl⟩))
        clear w0 w2
        go_wp2
        go_roundw
        case rel => exact ⟨k + 1, by omega, by go_num, (HA1.out.drewN _).numNext k nw _ (by rw [a1, a2, a3]) HG.out, (HR1.out.drewN _).far (by omega) _, (hb1.trans ((below_drewN wq _).mono hb1.size)).setCell (p := ⟨w.heap.size + 1, k, none⟩) (by simp) _⟩
        case measure => simp [intOf]; omega
    · obtain rfl : k = 64 := by omega
      rw [wdz_full] at HA
      have HI := Lib.hid (info64 (wds s.data.toList 64) (wds_length _ _))
      go_wp2_with (first | (refine wpList_load_row rfl 39 (.tmp 3) rfl (w.heap.size + 1) rfl _ _ _ _ HA.out Try.underlying39 rfl HI.out ?_) | (refine wpList_store_row rfl 39 (.tmp 2) (.tmp 69) rfl w.heap.size _ rfl rfl _ _ HR.out HI.out (by rw [nums_size, nums_size, wds_length, List.length_replicate]) (nums_one _ _) ?_))
      exact bodyPost_ret (v := .agg (nums .u32 (wds s.data.toList 64))) (results_cell_row rfl _ _ w.heap.size _ _ _ _ rfl (HR.out.row _) Try.underlying39 rfl HI.out) rfl ⟨rfl, below_setRow hb (Nat.le_refl _) _⟩
end Go.Proofs.Ytppfdhledmbkhaa
