/- What (*sha.Stream).Sum and Len, and sha.Sum return: condition: at most 2^37 bytes in all. -/
import Derived.Test.YtppfdhledmbkhaaShaL
import Derived.Test.YtppfdhledmbkhaaShaH
import Derived.Deep.WholeRow
namespace Go.Proofs.Ytppfdhledmbkhaa
open Go.RowKit

theorem nil_write (v : Value) (w : World) : Calls Try.prog 10 #[.pointer none, v] w fun e w' => e = .returned (.tuple #[]) ∧ w = w' := by
  go_enter Try.func10, Try.ntmps10
  go_wp2
  exact bodyPost_ret (v := .tuple #[]) (results_none rfl _ _ _) rfl ⟨rfl, rfl⟩
theorem nil_sum (w : World) : Calls Try.prog 11 #[.pointer none] w fun e w' => e = .returned (.string ⟨#[]⟩) ∧ w = w' := by
  go_enter Try.func11, Try.ntmps11
  go_wp2
  go_ret
  exact ⟨rfl, rfl⟩
theorem nil_len (w : World) : Calls Try.prog 12 #[.pointer none] w fun e w' => e = .returned (.int .i64 0) ∧ w = w' := by
  go_enter Try.func12, Try.ntmps12
  go_wp2
  go_ret
  exact ⟨rfl, rfl⟩
theorem len_any (g : Nat) (L : List UInt8) (w : World) (h : Stm w g L) : Calls Try.prog 12 #[.pointer (some ⟨g, 0, none⟩)] w fun e w' => e = .returned (.int .i64 (L.length : Int)) ∧ w = w' := by
  obtain ⟨T, R, _, _, _, _, hA⟩ := h
  have hc := stm_count hA
  clear hA
  go_enter Try.func12, Try.ntmps12
  go_wp2
  go_ret
  exact ⟨rfl, rfl⟩
theorem rd1 (w : World) (s : ByteArray) : RdS (w.alloc (.cells #[.string s] 9)) (some ⟨w.heap.size, 0, none⟩) [s] := by
  refine .inr ⟨_, _, rfl, fun k hk => ?_⟩
  rw [Nat.zero_add, World.cell?_alloc_mark]
  match k, hk with
  | 0, _ => rfl
theorem infoS (c : Nat) (S R : List Nat) (hS : S.length = 8) (hR : R.length = 64) : (Try.prog.info? 33).map (·.size) = some (strm c S R).size := by rw [strm_size, hS, hR]; kernel_rfl
theorem strm_one (c : Nat) (S R : List Nat) : (strm c S R).all (·.oneCell') = true := by
  rw [Array.all_eq_true_iff_forall_mem]
  intro v hv
  obtain ⟨i, hi, rfl⟩ := Array.mem_iff_getElem.1 hv
  obtain ⟨k, x, he⟩ := strm_int (Array.getElem?_eq_getElem hi)
  rw [he]
  rfl
/-- The cells of a Stream that has received nothing. -/
def zs : Array Value := strm 0 (List.replicate 8 0) (List.replicate 64 0)

theorem zero33 (w : World) : (zeroValue 33).run Try.prog w = .ok (.agg zs) w := (zero_of_info (P := Try.prog) (t := 33) (v := .agg zs) (n := 73) (by kernel_rfl)).1 w

set_option maxHeartbeats 1600000 in
set_option maxRecDepth 100000 in
theorem sum_any (g : Nat) (L : List UInt8) (w : World) (h : Stm w g L) (hL : L.length ≤ 137438953472) :
    Calls Try.prog 11 #[.pointer (some ⟨g, 0, none⟩)] w fun e w' => e = .returned (.string ⟨(hash L).toArray⟩) ∧ Below w.heap.size w w' := by
  obtain ⟨T, R, hT, hR, hB, hr, hA⟩ := h
  have hgl := hA.lt
  have HA := Lib.hid hA
  have HI := Lib.hid (infoS L.length T.list (bys R) (S8.list_length T) ((bys_length R).trans hR))
  have HZ : Hid (zs.size = (strm L.length T.list (bys R)).size) := by unfold Hid zs; rw [strm_size, strm_size, S8.list_length, bys_length, hR]; rfl
  have HST : Hid (∀ w', Arr w' w.heap.size 33 (strm L.length T.list (bys R)) → Stm w' w.heap.size L) := fun w' h => ⟨T, R, hT, hR, hB, hr, h⟩
  have HEN := Lib.hid (fun w => ending_any L.length w (by omega))
  have hz33 := zero33
  have hcc := stm_count ((HA.out.alloc (.cells zs 33)).rowFar (g' := w.heap.size) (by omega) (strm L.length T.list (bys R)))
  clear hA hT hR hB hr
  go_enter Try.func11, Try.ntmps11
  go_wp2_with (first | (refine wpList_load_row rfl 33 (.tmp 7) rfl g rfl _ _ _ _ HA.out Try.underlying33 rfl HI.out ?_) | (refine wpList_store_row rfl 33 (.tmp 3) (.tmp 8) rfl w.heap.size _ rfl rfl _ zs (Arr.new _ _ _) HI.out HZ.out (strm_one _ _ _) ?_))
  have hS3 := HST.out _ ((Arr.new w 33 zs).row (strm L.length T.list (bys R)))
  have hb3 : Below w.heap.size w ((w.alloc (.cells zs 33)).setRow w.heap.size (strm L.length T.list (bys R))) := below_setRow ((Below.refl _ _).alloc (Nat.le_refl _) _) (Nat.le_refl _) _
  have hl3 : w.heap.size < ((w.alloc (.cells zs 33)).setRow w.heap.size (strm L.length T.list (bys R))).heap.size := hS3.lt
  refine (HEN.out _).mono ?_
  rintro e w4 ⟨rfl, hb4⟩
  have HS4 := Lib.hid (hS3.below hb4 hl3)
  have hb5 := hb3.trans (hb4.mono (Nat.le_of_lt hl3))
  have hl4 := HS4.out.lt
  clear hS3 hb3 hb4 hl3 hcc hz33 HST HZ HI HA HEN
  have HSA := Lib.hid (HS4.out.alloc (.cells #[.string ⟨(ending L.length).toArray⟩] 9))
  have HE := Lib.hid (ending_length L.length)
  have hzl : zrs L.length < 64 := by unfold zrs; omega
  have hjn : jn [⟨(ending L.length).toArray⟩] = ending L.length := by simp [jn]
  have HW := Lib.hid (write_any w.heap.size (some ⟨w4.heap.size, 0, none⟩) 1 [⟨(ending L.length).toArray⟩] L (w4.alloc (.cells #[.string ⟨(ending L.length).toArray⟩] 9)) HSA.out (rd1 _ _) (by show 1 ≤ _; omega) (by rw [hjn, HE.out]; omega))
  rw [hjn] at HW
  clear hjn
  have hb6 := hb5.alloc (by omega) (.cells #[.string ⟨(ending L.length).toArray⟩] 9)
  have hl6 : w.heap.size < (w4.alloc (.cells #[.string ⟨(ending L.length).toArray⟩] 9)).heap.size := HSA.out.lt
  go_wp2_with fail
  refine HW.out.mono ?_
  rintro e w7 ⟨rfl, hS7, hg7⟩
  have hb7 := below_grown hb6 hg7 (Nat.le_refl _) (by omega)
  have HF := Lib.hid (ending_full L.length)
  obtain ⟨T2, R2, hT2, hR2, hB2, _, hA2⟩ := hS7
  have hne : L ++ ending L.length ≠ [] := fun e => by have := congrArg List.length e; rw [List.length_append, HE.out] at this; simp at this
  have hB3 : T2 = blks (L ++ ending L.length) ((L ++ ending L.length).length / 64) := by
    rcases hB2 with h | h
    · exact absurd h hne
    · exact h
  have HH : Hid (hash L = txt T2.list) := by unfold Hid; rw [hB3]; rfl
  have HA2 := Lib.hid hA2
  have HI2 := Lib.hid (info_n32 T2.list (S8.list_length T2))
  have HTX := Lib.hid (fun w => text_any T2.list w (S8.list_length T2))
  have hl7 := hA2.lt
  clear hA2 hB3 hB2 hne hR2 hT2 hg7 hb6 HW
  go_wp2_with (refine wpList_load_mid rfl 30 (.tmp 16) rfl w.heap.size 1 rfl (n32 T2.list) _ (stm_sums HA2.out) Try.underlying30 rfl HI2.out ?_)
  refine (HTX.out w7).mono ?_
  rintro e w8 ⟨rfl, hb8⟩
  go_wp2
  go_ret
  exact ⟨by rw [HH.out]; rfl, hb7.trans (hb8.mono (by omega))⟩

theorem rd_alloc {w : World} {A : Option Addr} {Ls : List ByteArray} (h : RdS w A Ls) (o : Obj) : RdS (w.alloc o) A Ls := by
  rcases h with h | ⟨b, off, rfl, hc⟩
  · exact .inl h
  · exact .inr ⟨b, off, rfl, fun k hk => by rw [World.cell?_alloc_lt _ _ _ (World.block_lt_of_cell? w _ (hc k hk))]; exact hc k hk⟩

set_option maxHeartbeats 1600000 in
set_option maxRecDepth 100000 in
theorem shasum_any (A : Option Addr) (cap : Nat) (Ls : List ByteArray) (w : World) (hr : RdS w A Ls) (hl : Ls.length ≤ 137438953472) (hb : (jn Ls).length ≤ 137438953472) :
    Calls Try.prog 5 #[.slice A Ls.length cap] w fun e w' => e = .returned (.string ⟨(hash (jn Ls)).toArray⟩) ∧ Below w.heap.size w w' := by
  have hz33 := zero33
  have hS0 := Stm.new (Arr.new w 33 zs)
  have HW := Lib.hid (write_any w.heap.size A cap Ls [] (w.alloc (.cells zs 33)) hS0 (rd_alloc hr _) (by omega) (by show 0 + _ ≤ _; omega))
  have hb0 := (Below.refl w.heap.size w).alloc (Nat.le_refl _) (.cells zs 33)
  have hl0 := hS0.lt
  clear hS0
  go_enter Try.func5, Try.ntmps5
  go_wp2_with fail
  refine HW.out.mono ?_
  rintro e w1 ⟨rfl, hS1, hg1⟩
  have hb1 := below_grown hb0 hg1 (Nat.le_refl _) (by omega)
  rw [List.nil_append] at hS1
  have HS := Lib.hid (sum_any w.heap.size (jn Ls) w1 hS1 hb)
  have hl1 := hS1.lt
  clear hS1 hg1 HW
  go_wp2_with fail
  refine HS.out.mono ?_
  rintro e w2 ⟨rfl, hb2⟩
  go_wp2
  go_ret
  exact ⟨rfl, hb1.trans (hb2.mono (by omega))⟩
end Go.Proofs.Ytppfdhledmbkhaa
