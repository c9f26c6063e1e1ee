/- What sha.ending returns: condition: at most 2^40 bytes. -/
import Derived.Test.YtppfdhledmbkhaaShaG
import Derived.Deep.RegionWith
namespace Go.Proofs.Ytppfdhledmbkhaa
open Go.RowKit

theorem zrs_cast (n : Nat) : (119 - (n : Int) % 64) % 64 = ((zrs n : Nat) : Int) := by unfold zrs; omega

theorem repeat_zero (z : Nat) : Lib.repeatL (ByteArray.mk #[0]).data.toList z = List.replicate z 0 := by
  show Lib.repeatL [0] z = _
  induction z with
  | zero => rfl
  | succ z ih => rw [List.replicate_succ, Lib.repeatL, ih]; rfl
theorem str_add (W : World) (a b : List UInt8) (h : a.length + b.length ≤ 1099511627776) : (Op.stringOp .add ⟨a.toArray⟩ ⟨b.toArray⟩).run Try.prog W = .ok (.string ⟨(a ++ b).toArray⟩) W := by
  have e : ∀ l : List UInt8, (⟨l.toArray⟩ : ByteArray).size = l.length := fun l => by show l.toArray.size = _; rw [List.size_toArray]
  rw [run_string_add_sum W _ _ (by rw [e, e]; omega)]
  congr 2
/-- Eight bytes 0. -/
def z8 : Array Value := nums .u8 (List.replicate 8 0)
theorem make8 (w : World) : (Instr.makeSlice 37 (.int .i64 8) (.int .i64 8)).run Try.prog w = .ok (.slice (some ⟨w.heap.size, 0, none⟩) 8 8) (w.alloc (.cells z8 5)) := by
  obtain ⟨h0, hz, i, hi, hz0, hz1, hz2⟩ := elem_byte.out
  have := run_makeSlice (P := Try.prog) w 37 5 i (.int .u8 0) h0 hi hz0 .i64 .i64 8 8 (by omega) (by omega) (by rw [hz1]; decide) (by rw [hz2]; decide) (by omega)
  rw [hz1, show madeCells (Value.int .u8 0).cells (Int.toNat 8 * 1) = z8 from by kernel_rfl] at this
  exact this
/-- The eight bytes of which the first k are there. -/
def lz (n k : Nat) : List Nat := bys (lenBs n k) ++ List.replicate (8 - k) 0
theorem lz_length (n : Nat) {k : Nat} (h : k ≤ 8) : (lz n k).length = 8 := by unfold lz; rw [List.length_append, bys_length, lenBs_length, List.length_replicate]; omega
theorem lz_set (n : Nat) {k : Nat} (h : k < 8) : (lz n k).set k (lenB n k).toNat = lz n (k + 1) := by
  unfold lz
  rw [List.set_append_right _ _ (by rw [bys_length, lenBs_length]; omega), bys_length, lenBs_length, Nat.sub_self, show 8 - k = (8 - (k + 1)) + 1 by omega, List.replicate_succ, List.set_cons_zero, lenBs, bys, bys, List.map_append, List.append_assoc]
  rfl
/-- string(b) of an array of bytes. -/
theorem conv_arr {w : World} {g cap : Nat} {l : List UInt8} (h : Arr w g 5 (nums .u8 (bys l))) (n : Nat) (hn : l.length = n) :
    (convert 37 9 (.slice (some ⟨g, 0, none⟩) n cap)).run Try.prog w = .ok (.string ⟨l.toArray⟩) w := by
  subst hn
  exact run_convert_bytes_back w 37 9 5 ⟨g, 0, none⟩ cap l Try.underlying37 Try.underlying5 Try.underlying9 (fun j hj => by
    have e : (⟨g, 0, none⟩ : Addr).add j = ⟨g, j, none⟩ := by unfold Addr.add; split <;> simp_all
    rw [e, h.num (by rw [bys_length]; exact hj) (bys_at l j)]
    unfold byt
    rw [List.getD_eq_getElem?_getD, List.getElem?_eq_getElem hj]
    rfl)

set_option maxHeartbeats 1600000 in
set_option maxRecDepth 100000 in
theorem ending_any (n : Nat) (w : World) (hn : n ≤ 1099511627776) :
    Calls Try.prog 17 #[.int .i64 (n : Int)] w fun e w' => e = .returned (.string ⟨(ending n).toArray⟩) ∧ Below w.heap.size w w' := by
  have hz := zrs_cast n
  have hzl : zrs n < 64 := by unfold zrs; omega
  have HE : Hid (ending n = [128] ++ List.replicate (zrs n) 0 ++ lenBs n 8) := rfl
  generalize zrs n = z at *
  have z0 : (0 : Int) ≤ z := by omega
  go_enter Try.func17, Try.ntmps17
  have hmk := make8 w
  go_wp2
  rw [hz]
  clear hmk
  have hA0 : Arr (w.alloc (.cells z8 5)) w.heap.size 5 (nums .u8 (lz n 0)) := Arr.new _ _ _
  have hb0 := (Below.refl w.heap.size w).alloc (Nat.le_refl _) (.cells z8 5)
  have HA0 := Lib.hid hA0
  clear hA0
  generalize w.alloc (.cells z8 5) = w1 at *
  go_loopw [13] (fun i wr => ∃ k : Nat, k ≤ 8 ∧ i = .int .i64 k ∧ Arr wr w.heap.size 5 (nums .u8 (lz n k)) ∧ Below w.heap.size w wr) (fun i _ => 8 - (intOf i).toNat)
  case atStart => exact ⟨0, Nat.zero_le _, rfl, HA0.out, hb0⟩
  case round =>
    clear HA0 hb0
    obtain ⟨k, hk, rfl, hA, hb⟩ := hrel
    have HA := Lib.hid hA
    clear hA
    have HL := Lib.hid (lz_length n hk)
    by_cases hl : k < 8
    · obtain ⟨p, hp⟩ : ∃ p, 7 - k = p := ⟨_, rfl⟩
      obtain ⟨ex, hex⟩ : ∃ ex, 56 - 8 * k = ex := ⟨_, rfl⟩
      have hv : (n : Int) * 8 / 2 ^ ex % 256 = ((lenB n k).toNat : Int) := by
        rw [lenB_toNat, hex, Int.natCast_emod, cast_div, Int.natCast_mul, Int.mul_comm]; rfl
      have HS := Lib.hid (lz_set n hl)
      generalize (lenB n k).toNat = c at *
      have i1 : 7 - (k : Int) = (p : Int) := by omega
      have i2 : 8 * (p : Int) = (ex : Int) := by omega
      have i3 : (0 : Int) ≤ ex := by omega
      have hc := HA.out.num (j := k) (by rw [HL.out]; exact hl) rfl
      have hf := HA.out.frozen k
      have k0 : (0 : Int) ≤ k := by omega
      have k8 : (k : Int) < 8 := by omega
      clear hp hex hz
      go_wp2
      go_roundw
      case rel => exact ⟨k + 1, by omega, by go_num, HA.out.numNext k c _ (by first | rfl | exact hv) HS.out, hb.setCell (p := ⟨w.heap.size, k, none⟩) (Nat.le_refl _) _⟩
      case measure => simp [intOf]; omega
    · obtain rfl : k = 8 := by omega
      rw [show ((8 : Nat) : Int) = 8 from rfl]
      have e8 : lz n 8 = bys (lenBs n 8) := by unfold lz; simp
      rw [e8] at HA
      have HLL := Lib.hid (lenBs_length n 8)
      have hcv := conv_arr (cap := 8) (w := wr.drew) HA.out 8 HLL.out
      have hrp := Try.strings_Repeat ⟨#[0]⟩ z wr.drew (by omega) (by show 1 * z ≤ _; omega)
      rw [repeat_zero] at hrp
      have HRP := Lib.hid hrp
      have a1 := fun W => str_add W [128] (List.replicate z (0 : UInt8)) (by rw [List.length_replicate]; show 1 + z ≤ _; omega)
      have a2 := fun W => str_add W ([128] ++ List.replicate z (0 : UInt8)) (lenBs n 8) (by rw [HLL.out, List.length_append, List.length_replicate]; show 1 + z + 8 ≤ _; omega)
      rw [← HE.out] at a2
      have HCV := Lib.hid (fun (w2 : World) (hb2 : Below wr.drew.heap.size wr.drew w2) => conv_arr (cap := 8) (w := w2) (Arr.below (w := wr.drew) HA.out hb2 (Arr.lt (w := wr.drew) HA.out)) 8 HLL.out)
      generalize ([128] ++ List.replicate z (0 : UInt8)).toArray = X1 at *
      generalize (List.replicate z (0 : UInt8)).toArray = X2 at *
      generalize (lenBs n 8).toArray = X3 at *
      clear hz hl hk e8 hrp HE
      go_wp2
      go_region_with (go_at_call 23; refine HRP.out.mono ?_; rintro e w2 ⟨rfl, hb2⟩; have hcv2 := HCV.out w2 hb2)
      all_goals
        go_wp2
        go_ret
        exact ⟨rfl, hb.drew.trans (hb2.mono hb.size)⟩
end Go.Proofs.Ytppfdhledmbkhaa
