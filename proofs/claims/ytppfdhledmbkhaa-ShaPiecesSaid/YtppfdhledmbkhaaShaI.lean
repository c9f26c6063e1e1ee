/- What (*sha.Stream).fill does: conditions: a Stream in a block of its own, at most 2^40 bytes, the piece not empty. -/
import Derived.Test.YtppfdhledmbkhaaStm
import Derived.Test.YtppfdhledmbkhaaShaE
import Derived.Deep.RegionWith
namespace Go.Proofs.Ytppfdhledmbkhaa
open Go.RowKit

theorem slice_rest (g p : Nat) (hp : p < 64) (W : World) : (Instr.sliceAt 31 (.pointer (some ⟨g, 9, none⟩)) (some (.int .i64 (p : Int))) none none).run Try.prog W = .ok (.slice (some ⟨g, 9 + p, none⟩) (64 - p) (64 - p)) W := by
  have h1 : ¬ (64 = p) := by omega
  have h2 : (p : Int) ≤ 64 := by omega
  simp [Instr.sliceAt, run_underlying Try.underlying31, Instr.sureAddr, Instr.sliceBounds, Try.sizeOf5, Addr.add, h1, h2, go_sem]

/-- The bytes that are not yet processed, behind a copy. -/
def rest' (R : List UInt8) (p n : Nat) (s : ByteArray) : List UInt8 := R.take p ++ s.data.toList.take n ++ R.drop (p + n)
theorem rest_length {R : List UInt8} {p n : Nat} {s : ByteArray} (hR : R.length = 64) (hp : p ≤ 64) (hn : min s.size (64 - p) = n) : (rest' R p n s).length = 64 := by
  unfold rest'
  have : s.data.toList.length = s.size := rfl
  rw [List.length_append, List.length_append, List.length_take, List.length_take, List.length_drop]; omega
theorem grown_drew (w : World) (r : Option Nat) : w.grownBy w.drew r := ⟨rfl, rfl, rfl, Nat.le_refl _, fun _ _ _ => rfl⟩
/-- The count that is put. -/
theorem stm_put {w : World} {g c c' : Nat} {S R : List Nat} {v : Int} (hA : Arr w g 33 (strm c S R)) (hv : v = (c' : Int)) : Arr (w.setCell ⟨g, 0, none⟩ (.int .i64 v)) g 33 (strm c' S R) := by
  subst hv
  have := hA.put 0 (.int .i64 (c' : Int))
  rwa [strm_count] at this
/-- The sums that are put. -/
theorem stm_mix {w : World} {g c : Nat} {S S' R : List Nat} (hA : Arr w g 33 (strm c S R)) (hS : S.length = 8) (hS' : S'.length = 8) :
    Arr (w.setRow g ((strm c S R).toList.take 1 ++ n32 S' ++ (strm c S R).toList.drop (1 + (n32 S').length)).toArray) g 33 (strm c S' R) := by
  rw [n32_length, hS', strm_sums c S S' R hS]
  exact hA.row _
theorem info_n32 (l : List Nat) (h : l.length = 8) : (Try.prog.info? 30).map (·.size) = some (n32 l).length := by rw [n32_length, h]; kernel_rfl
theorem info_n8 (l : List Nat) (h : l.length = 64) : (Try.prog.info? 31).map (·.size) = some (n8 l).length := by rw [n8_length, h]; kernel_rfl
/-- A load and a store of eight numbers, of 64 bytes, as one operation that the walk does not open. -/
def ld8 (v : Value) : Sem Value := Instr.loadAt 30 v
def ld64 (v : Value) : Sem Value := Instr.loadAt 31 v
def st8 (v x : Value) : Sem Unit := Instr.storeAt 30 v x
theorem ld8_rule (v : Value) : Instr.loadAt 30 v = ld8 v := rfl
theorem ld64_rule (v : Value) : Instr.loadAt 31 v = ld64 v := rfl
theorem st8_rule (v x : Value) : Instr.storeAt 30 v x = st8 v x := rfl
/-- The sums that are stored. -/
theorem store_sums {w : World} {g c : Nat} {S S' R : List Nat} (hA : Arr w g 33 (strm c S R)) (hS : S.length = 8) (hS' : S'.length = 8) (hfit : 1 + (n32 S').length ≤ (strm c S R).size) (hi : (Try.prog.info? 30).map (·.size) = some (n32 S').length) :
    ∃ w', (st8 (.pointer (some ⟨g, 1, none⟩)) (.agg (nums .u32 S'))).run Try.prog w = .ok () w' ∧ Arr w' g 33 (strm c S' R) ∧ w.grownBy w' (some g) := by
  refine ⟨_, ?_, stm_mix hA hS hS', grown_row w g _⟩
  have hst := run_storeCells_at Try.prog g 1 33 (n32 S') 0 (strm c S R) w hA (by simpa using hfit) (n32_one _)
  rw [Nat.add_zero] at hst
  have hrun : (storeVar 30 ⟨g, 1, none⟩ (.agg (n32 S').toArray)).run Try.prog w = .ok () (w.setRow g ((strm c S R).toList.take 1 ++ n32 S' ++ (strm c S R).toList.drop (1 + (n32 S').length)).toArray) := by
    cases hq : Try.prog.info? 30 with
    | none => simp [hq] at hi
    | some i =>
      have hs : (n32 S').length = i.size := by simp [hq] at hi; omega
      simp [storeVar, sizeOf, typeInfo, hq, Value.cells, hs] at hst ⊢
      exact hst
  show (Instr.storeAt 30 (.pointer (some ⟨g, 1, none⟩)) (.agg (n32 S').toArray)).run Try.prog w = _
  simp only [Instr.storeAt, Instr.sureAddr, Sem.run_bind, Sem.run_pure, Result.andThen_ok, hrun]
attribute [local go_sem ↓] ld8_rule ld64_rule st8_rule
/-- The Stream behind a copy. -/
theorem stm_copy {w : World} {g c : Nat} {S : List Nat} {R : List UInt8} {s : ByteArray} {p n : Nat} (hA : Arr w g 33 (strm c S (bys R))) (hS : S.length = 8) (hn : min s.size (64 - p) = n) :
    Arr (w.setRow g ((strm c S (bys R)).toList.take (9 + p) ++ n8 (bys (s.data.toList.take n)) ++ (strm c S (bys R)).toList.drop (9 + p + n)).toArray) g 33 (strm c S (bys (rest' R p n s))) := by
  have hl : (bys (s.data.toList.take n)).length = n := by rw [bys_length, List.length_take]; have : s.data.toList.length = s.size := rfl; omega
  have e := strm_rest c S (bys R) (bys (s.data.toList.take n)) p hS
  rw [hl] at e
  have e2 : (bys R).take p ++ bys (s.data.toList.take n) ++ (bys R).drop (p + n) = bys (rest' R p n s) := by
    unfold rest' bys; simp
  rw [e2] at e
  rw [e]
  exact hA.row _

set_option maxHeartbeats 1600000 in
set_option maxRecDepth 100000 in
theorem fill_p (g c : Nat) (T : S8) (R : List UInt8) (s : ByteArray) (w : World) (hA : Arr w g 33 (strm c T.list (bys R))) (hR : R.length = 64) (hc : c ≤ 1099511627776) (hc0 : 0 < c) (hs : s.size ≤ 1099511627776)
    (p n : Nat) (hp : c % 64 = p) (hn : min s.size (64 - p) = n) (hnz : (c + n) % 64 ≠ 0) :
    Calls Try.prog 16 #[.pointer (some ⟨g, 0, none⟩), .string s] w fun e w' => e = .returned (.string (s.extract n s.size)) ∧
      Arr w' g 33 (strm (c + n) T.list (bys (rest' R p n s))) ∧ w.grownBy w' (some g) := by
  have hcell := stm_count hA
  have HA := Lib.hid hA
  have hp1 : (c : Int) % 64 = (p : Int) := by omega
  have hp2 : (p : Int) < 64 := by omega
  have hp3 : p < 64 := by omega
  have hce : ((c : Int) == 0) = false := by simp; omega
  have hp4 : (c : Int).tmod 64 = (p : Int) := by rw [Int.tmod_eq_emod_of_nonneg (by omega)]; exact hp1
  have hp0 : (0 : Int) ≤ p := by omega
  have hp5 : ¬ (64 = p) := by omega
  have hsl := slice_rest g p hp3
  have HTL := Lib.hid (S8.list_length T)
  have hcp := fun (W : World) (t : TypeId) (cur : Array Value) (h1 : W.heap[g]? = some (.cells cur t (0, 0))) (h2 : 9 + p + n ≤ cur.size) => run_copy_str (P := Try.prog) W 37 9 3 5 g (9 + p) (64 - p) (64 - p) s n hn cur t Try.underlying37 (by kernel_rfl) h1 h2
  have HCP := Lib.hid hcp
  have HSZ : Hid (9 + p + n ≤ (strm c T.list (bys R)).size) := by unfold Hid; rw [strm_size, bys_length, hR, HTL.out]; omega
  have HRL := Lib.hid (rest_length hR (Nat.le_of_lt hp3) hn)
  have HN := Lib.hid hn
  have hns : n ≤ s.size := by omega
  have hnb : n ≤ 64 := by omega
  have HP := Lib.hid hp
  have HNZ := Lib.hid hnz
  clear hA hcp hn hp hnz
  go_enter Try.func16, Try.ntmps16
  have hgw : w.grownBy w (some g) := grown_refl w _
  go_wp2
  go_still_tail 10, (by kernel_rfl)
  change wpList _ _ _ _ _ w.drew
  have HA1 : Hid (Arr w.drew g 33 (strm c T.list (bys R))) := HA.out
  refine copy_str rfl (.tmp 23) (.tmp 24) 37 9 rfl _ _ rfl rfl (HCP.out w.drew _ _ HA1.out HSZ.out) ?_
  have HA2 := Lib.hid (stm_copy HA1.out HTL.out HN.out)
  have hg2 := grown_trans hgw (grown_trans (grown_drew w (some g)) (grown_row w.drew g ((strm c T.list (bys R)).toList.take (9 + p) ++ n8 (bys (s.data.toList.take n)) ++ (strm c T.list (bys R)).toList.drop (9 + p + n)).toArray))
  generalize w.drew.setRow g ((strm c T.list (bys R)).toList.take (9 + p) ++ n8 (bys (s.data.toList.take n)) ++ (strm c T.list (bys R)).toList.drop (9 + p + n)).toArray = w2 at *
  have hcell2 := stm_count HA2.out
  have hfz := HA2.out.frozen 0
  have hez : (((c : Int) + n) % 64 == 0) = false := by have := HNZ.out; simp; omega
  have hns' : (n : Int) ≤ s.size := by omega
  clear hcell hsl hp4 hce HA HA1 HCP HSZ
  simp only [goInt]
  go_wp2
  go_ret
  exact ⟨rfl, stm_put HA2.out (by omega), grown_trans hg2 (grown_cell w2 g 0 _)⟩

set_option maxHeartbeats 1600000 in
set_option maxRecDepth 100000 in
theorem fill_f (g c : Nat) (T : S8) (R : List UInt8) (s : ByteArray) (w : World) (hA : Arr w g 33 (strm c T.list (bys R))) (hT : T.ok) (hR : R.length = 64) (hc : c ≤ 1099511627776) (hc0 : 0 < c) (hs : s.size ≤ 1099511627776)
    (p n : Nat) (hp : c % 64 = p) (hn : min s.size (64 - p) = n) (hnz : (c + n) % 64 = 0) :
    Calls Try.prog 16 #[.pointer (some ⟨g, 0, none⟩), .string s] w fun e w' => e = .returned (.string (s.extract n s.size)) ∧
      Arr w' g 33 (strm (c + n) (mixP T (rest' R p n s)).list (bys (rest' R p n s))) ∧ w.grownBy w' (some g) := by
  have hcell := stm_count hA
  have HA := Lib.hid hA
  have hp1 : (c : Int) % 64 = (p : Int) := by omega
  have hp2 : (p : Int) < 64 := by omega
  have hp3 : p < 64 := by omega
  have hce : ((c : Int) == 0) = false := by simp; omega
  have hp4 : (c : Int).tmod 64 = (p : Int) := by rw [Int.tmod_eq_emod_of_nonneg (by omega)]; exact hp1
  have hp0 : (0 : Int) ≤ p := by omega
  have hp5 : ¬ (64 = p) := by omega
  have hsl := slice_rest g p hp3
  have HTL := Lib.hid (S8.list_length T)
  have hcp := fun (W : World) (t : TypeId) (cur : Array Value) (h1 : W.heap[g]? = some (.cells cur t (0, 0))) (h2 : 9 + p + n ≤ cur.size) => run_copy_str (P := Try.prog) W 37 9 3 5 g (9 + p) (64 - p) (64 - p) s n hn cur t Try.underlying37 (by kernel_rfl) h1 h2
  have HCP := Lib.hid hcp
  have HSZ : Hid (9 + p + n ≤ (strm c T.list (bys R)).size) := by unfold Hid; rw [strm_size, bys_length, hR, HTL.out]; omega
  have HRL := Lib.hid (rest_length hR (Nat.le_of_lt hp3) hn)
  have HN := Lib.hid hn
  have hns : n ≤ s.size := by omega
  have hnb : n ≤ 64 := by omega
  have HP := Lib.hid hp
  have HNZ := Lib.hid hnz
  clear hA hcp hn hp hnz
  go_enter Try.func16, Try.ntmps16
  have hgw : w.grownBy w (some g) := grown_refl w _
  go_wp2
  go_still_tail 10, (by kernel_rfl)
  change wpList _ _ _ _ _ w.drew
  have HA1 : Hid (Arr w.drew g 33 (strm c T.list (bys R))) := HA.out
  refine copy_str rfl (.tmp 23) (.tmp 24) 37 9 rfl _ _ rfl rfl (HCP.out w.drew _ _ HA1.out HSZ.out) ?_
  have HA2 := Lib.hid (stm_copy HA1.out HTL.out HN.out)
  have hg2 := grown_trans hgw (grown_trans (grown_drew w (some g)) (grown_row w.drew g ((strm c T.list (bys R)).toList.take (9 + p) ++ n8 (bys (s.data.toList.take n)) ++ (strm c T.list (bys R)).toList.drop (9 + p + n)).toArray))
  generalize w.drew.setRow g ((strm c T.list (bys R)).toList.take (9 + p) ++ n8 (bys (s.data.toList.take n)) ++ (strm c T.list (bys R)).toList.drop (9 + p + n)).toArray = w2 at *
  have hcell2 := stm_count HA2.out
  have hfz := HA2.out.frozen 0
  have hez : (((c : Int) + n) % 64 == 0) = true := by have := HNZ.out; simp; omega
  have hns' : (n : Int) ≤ s.size := by omega
  clear hcell hsl hp4 hce HA HA1 HCP HSZ
  simp only [goInt]
  have HA3 := Lib.hid (stm_put (v := (c : Int) + n) (c' := c + n) HA2.out (by omega))
  have hg3 := grown_trans hg2 (grown_cell w2 g 0 (.int .i64 ((c : Int) + n)))
  have HI1 := Lib.hid (info_n32 T.list HTL.out)
  have HI2 := Lib.hid (info_n8 (bys (rest' R p n s)) ((bys_length _).trans HRL.out))
  have HMX := Lib.hid (fun w => mix_any T (rest' R p n s) w HRL.out hT)
  have HIM := Lib.hid (info_n32 (mixP T (rest' R p n s)).list (S8.list_length _))
  have HFM : Hid (1 + (n32 (mixP T (rest' R p n s)).list).length ≤ (strm (c + n) T.list (bys (rest' R p n s))).size) := by unfold Hid; rw [strm_size, n32_length, bys_length, HRL.out, HTL.out, S8.list_length]; omega
  have HML := Lib.hid (S8.list_length (mixP T (rest' R p n s)))
  generalize hM : mixP T (rest' R p n s) = M at *
  have HM := Lib.hid hM
  clear hM
  go_wp2
  generalize w2.setCell ⟨g, 0, none⟩ (.int .i64 ((c : Int) + n)) = w3 at *
  clear HA2 hg2 hcell2 hfz
  have HA4 : Hid (Arr w3.drew g 33 (strm (c + n) T.list (bys (rest' R p n s)))) := HA3.out
  have hl1 : (ld8 (.pointer (some ⟨g, 1, none⟩))).run Try.prog w3.drew = .ok (.agg (nums .u32 T.list)) w3.drew := run_loadAt_mid (P := Try.prog) w3.drew g 1 30 (n32 T.list) _ (stm_sums HA4.out) Try.underlying30 rfl HI1.out
  have hl2 : (ld64 (.pointer (some ⟨g, 9, none⟩))).run Try.prog w3.drew = .ok (.agg (nums .u8 (bys (rest' R p n s)))) w3.drew := run_loadAt_mid (P := Try.prog) w3.drew g 9 31 (n8 (bys (rest' R p n s))) _ (stm_rest HA4.out HTL.out) Try.underlying31 rfl HI2.out
  have HK5 := Lib.hid (fun (w5 : World) (hb5 : Below w3.drew.heap.size w3.drew w5) => store_sums (HA4.out.below hb5 HA4.out.lt) HTL.out HML.out HFM.out HIM.out)
  have hg4 := grown_trans hg3 (grown_drew w3 (some g))
  generalize hML : M.list = ML at *
  have HML' := Lib.hid hML
  clear hML
  go_region_with (go_at_call 22; refine (HMX.out _).mono ?_; rintro e w5 ⟨rfl, hb5⟩; obtain ⟨w6, hst, hA6, hg6⟩ := HK5.out w5 hb5)
  all_goals
    have hg7 := grown_trans hg4 (grown_trans (grown_below (r := some g) hb5) hg6)
    clear hl1 hl2 hst
    go_wp2
    go_ret
    exact ⟨rfl, by rw [HM.out, HML'.out]; exact hA6, hg7⟩

set_option maxHeartbeats 1600000 in
set_option maxRecDepth 100000 in
theorem fill_p0 (g c : Nat) (T : S8) (R : List UInt8) (s : ByteArray) (w : World) (hA : Arr w g 33 (strm c T.list (bys R))) (hR : R.length = 64) (hc : c ≤ 1099511627776) (hc0 : c = 0) (hs : s.size ≤ 1099511627776)
    (p n : Nat) (hp : c % 64 = p) (hn : min s.size (64 - p) = n) (hnz : (c + n) % 64 ≠ 0) :
    Calls Try.prog 16 #[.pointer (some ⟨g, 0, none⟩), .string s] w fun e w' => e = .returned (.string (s.extract n s.size)) ∧
      Arr w' g 33 (strm (c + n) s0.list (bys (rest' R p n s))) ∧ w.grownBy w' (some g) := by
  have hcell := stm_count hA
  have HA := Lib.hid hA
  have hp1 : (c : Int) % 64 = (p : Int) := by omega
  have hp2 : (p : Int) < 64 := by omega
  have hp3 : p < 64 := by omega
  have hce : ((c : Int) == 0) = true := by simp; omega
  have hp4 : (c : Int).tmod 64 = (p : Int) := by rw [Int.tmod_eq_emod_of_nonneg (by omega)]; exact hp1
  have hp0 : (0 : Int) ≤ p := by omega
  have hp5 : ¬ (64 = p) := by omega
  have hsl := slice_rest g p hp3
  have HTL := Lib.hid (S8.list_length s0)
  have hcp := fun (W : World) (t : TypeId) (cur : Array Value) (h1 : W.heap[g]? = some (.cells cur t (0, 0))) (h2 : 9 + p + n ≤ cur.size) => run_copy_str (P := Try.prog) W 37 9 3 5 g (9 + p) (64 - p) (64 - p) s n hn cur t Try.underlying37 (by kernel_rfl) h1 h2
  have HCP := Lib.hid hcp
  have HSZ : Hid (9 + p + n ≤ (strm c s0.list (bys R)).size) := by unfold Hid; rw [strm_size, bys_length, hR, HTL.out]; omega
  have HRL := Lib.hid (rest_length hR (Nat.le_of_lt hp3) hn)
  have HN := Lib.hid hn
  have hns : n ≤ s.size := by omega
  have hnb : n ≤ 64 := by omega
  have HP := Lib.hid hp
  have HNZ := Lib.hid hnz
  have HFT : Hid (1 + (n32 s0.list).length ≤ (strm c T.list (bys R)).size) := by unfold Hid; rw [strm_size, n32_length, bys_length, hR, HTL.out, S8.list_length]; omega
  have HI0 := Lib.hid (info_n32 s0.list HTL.out)
  clear hc0
  clear hA hcp hn hp hnz
  go_enter Try.func16, Try.ntmps16
  go_wp2_with fail
  refine (beginning_any w).mono ?_
  rintro e w0 ⟨rfl, hb0⟩
  have HA0 := Lib.hid (HA.out.below hb0 HA.out.lt)
  have hg0 : w.grownBy w0 (some g) := grown_below hb0
  clear hb0 HA hcell
  go_wp2_with (refine store_part rfl 30 (.tmp 14) (.tmp 12) rfl g 1 (n32 s0.list) rfl rfl HA0.out HFT.out HI0.out (n32_one _) ?_)
  have HA9 := Lib.hid (stm_mix (S' := s0.list) HA0.out (S8.list_length T) HTL.out)
  have hg9 := grown_trans hg0 (grown_row w0 g ((strm c T.list (bys R)).toList.take 1 ++ n32 s0.list ++ (strm c T.list (bys R)).toList.drop (1 + (n32 s0.list).length)).toArray)
  generalize w0.setRow g ((strm c T.list (bys R)).toList.take 1 ++ n32 s0.list ++ (strm c T.list (bys R)).toList.drop (1 + (n32 s0.list).length)).toArray = wb at *
  clear HA0 hg0 HFT HI0
  have hcell := stm_count HA9.out
  have HA := HA9
  have hgw := hg9
  try simp only [Act.put]
  go_still_tail 10, (by kernel_rfl)
  change wpList _ _ _ _ _ wb.drew
  have HA1 : Hid (Arr wb.drew g 33 (strm c s0.list (bys R))) := HA.out
  refine copy_str rfl (.tmp 23) (.tmp 24) 37 9 rfl _ _ rfl rfl (HCP.out wb.drew _ _ HA1.out HSZ.out) ?_
  have HA2 := Lib.hid (stm_copy HA1.out HTL.out HN.out)
  have hg2 := grown_trans hgw (grown_trans (grown_drew wb (some g)) (grown_row wb.drew g ((strm c s0.list (bys R)).toList.take (9 + p) ++ n8 (bys (s.data.toList.take n)) ++ (strm c s0.list (bys R)).toList.drop (9 + p + n)).toArray))
  generalize wb.drew.setRow g ((strm c s0.list (bys R)).toList.take (9 + p) ++ n8 (bys (s.data.toList.take n)) ++ (strm c s0.list (bys R)).toList.drop (9 + p + n)).toArray = w2 at *
  have hcell2 := stm_count HA2.out
  have hfz := HA2.out.frozen 0
  have hez : (((c : Int) + n) % 64 == 0) = false := by have := HNZ.out; simp; omega
  have hns' : (n : Int) ≤ s.size := by omega
  clear hcell hsl hp4 hce HA HA1 HCP HSZ
  simp only [goInt]
  go_wp2
  go_ret
  exact ⟨rfl, stm_put HA2.out (by omega), grown_trans hg2 (grown_cell w2 g 0 _)⟩

set_option maxHeartbeats 1600000 in
set_option maxRecDepth 100000 in
theorem fill_f0 (g c : Nat) (T : S8) (R : List UInt8) (s : ByteArray) (w : World) (hA : Arr w g 33 (strm c T.list (bys R))) (hR : R.length = 64) (hc : c ≤ 1099511627776) (hc0 : c = 0) (hs : s.size ≤ 1099511627776)
    (p n : Nat) (hp : c % 64 = p) (hn : min s.size (64 - p) = n) (hnz : (c + n) % 64 = 0) :
    Calls Try.prog 16 #[.pointer (some ⟨g, 0, none⟩), .string s] w fun e w' => e = .returned (.string (s.extract n s.size)) ∧
      Arr w' g 33 (strm (c + n) (mixP s0 (rest' R p n s)).list (bys (rest' R p n s))) ∧ w.grownBy w' (some g) := by
  have hcell := stm_count hA
  have HA := Lib.hid hA
  have hp1 : (c : Int) % 64 = (p : Int) := by omega
  have hp2 : (p : Int) < 64 := by omega
  have hp3 : p < 64 := by omega
  have hce : ((c : Int) == 0) = true := by simp; omega
  have hp4 : (c : Int).tmod 64 = (p : Int) := by rw [Int.tmod_eq_emod_of_nonneg (by omega)]; exact hp1
  have hp0 : (0 : Int) ≤ p := by omega
  have hp5 : ¬ (64 = p) := by omega
  have hsl := slice_rest g p hp3
  have HTL := Lib.hid (S8.list_length s0)
  have hcp := fun (W : World) (t : TypeId) (cur : Array Value) (h1 : W.heap[g]? = some (.cells cur t (0, 0))) (h2 : 9 + p + n ≤ cur.size) => run_copy_str (P := Try.prog) W 37 9 3 5 g (9 + p) (64 - p) (64 - p) s n hn cur t Try.underlying37 (by kernel_rfl) h1 h2
  have HCP := Lib.hid hcp
  have HSZ : Hid (9 + p + n ≤ (strm c s0.list (bys R)).size) := by unfold Hid; rw [strm_size, bys_length, hR, HTL.out]; omega
  have HRL := Lib.hid (rest_length hR (Nat.le_of_lt hp3) hn)
  have HN := Lib.hid hn
  have hns : n ≤ s.size := by omega
  have hnb : n ≤ 64 := by omega
  have HP := Lib.hid hp
  have HNZ := Lib.hid hnz
  have HFT : Hid (1 + (n32 s0.list).length ≤ (strm c T.list (bys R)).size) := by unfold Hid; rw [strm_size, n32_length, bys_length, hR, HTL.out, S8.list_length]; omega
  have HI0 := Lib.hid (info_n32 s0.list HTL.out)
  clear hc0
  clear hA hcp hn hp hnz
  go_enter Try.func16, Try.ntmps16
  go_wp2_with fail
  refine (beginning_any w).mono ?_
  rintro e w0 ⟨rfl, hb0⟩
  have HA0 := Lib.hid (HA.out.below hb0 HA.out.lt)
  have hg0 : w.grownBy w0 (some g) := grown_below hb0
  clear hb0 HA hcell
  go_wp2_with (refine store_part rfl 30 (.tmp 14) (.tmp 12) rfl g 1 (n32 s0.list) rfl rfl HA0.out HFT.out HI0.out (n32_one _) ?_)
  have HA9 := Lib.hid (stm_mix (S' := s0.list) HA0.out (S8.list_length T) HTL.out)
  have hg9 := grown_trans hg0 (grown_row w0 g ((strm c T.list (bys R)).toList.take 1 ++ n32 s0.list ++ (strm c T.list (bys R)).toList.drop (1 + (n32 s0.list).length)).toArray)
  generalize w0.setRow g ((strm c T.list (bys R)).toList.take 1 ++ n32 s0.list ++ (strm c T.list (bys R)).toList.drop (1 + (n32 s0.list).length)).toArray = wb at *
  clear HA0 hg0 HFT HI0
  have hcell := stm_count HA9.out
  have HA := HA9
  have hgw := hg9
  try simp only [Act.put]
  go_still_tail 10, (by kernel_rfl)
  change wpList _ _ _ _ _ wb.drew
  have HA1 : Hid (Arr wb.drew g 33 (strm c s0.list (bys R))) := HA.out
  refine copy_str rfl (.tmp 23) (.tmp 24) 37 9 rfl _ _ rfl rfl (HCP.out wb.drew _ _ HA1.out HSZ.out) ?_
  have HA2 := Lib.hid (stm_copy HA1.out HTL.out HN.out)
  have hg2 := grown_trans hgw (grown_trans (grown_drew wb (some g)) (grown_row wb.drew g ((strm c s0.list (bys R)).toList.take (9 + p) ++ n8 (bys (s.data.toList.take n)) ++ (strm c s0.list (bys R)).toList.drop (9 + p + n)).toArray))
  generalize wb.drew.setRow g ((strm c s0.list (bys R)).toList.take (9 + p) ++ n8 (bys (s.data.toList.take n)) ++ (strm c s0.list (bys R)).toList.drop (9 + p + n)).toArray = w2 at *
  have hcell2 := stm_count HA2.out
  have hfz := HA2.out.frozen 0
  have hez : (((c : Int) + n) % 64 == 0) = true := by have := HNZ.out; simp; omega
  have hns' : (n : Int) ≤ s.size := by omega
  clear hcell hsl hp4 hce HA HA1 HCP HSZ
  simp only [goInt]
  have HA3 := Lib.hid (stm_put (v := (c : Int) + n) (c' := c + n) HA2.out (by omega))
  have hg3 := grown_trans hg2 (grown_cell w2 g 0 (.int .i64 ((c : Int) + n)))
  have HI1 := Lib.hid (info_n32 s0.list HTL.out)
  have HI2 := Lib.hid (info_n8 (bys (rest' R p n s)) ((bys_length _).trans HRL.out))
  have HMX := Lib.hid (fun w => mix_any s0 (rest' R p n s) w HRL.out s0_ok)
  have HIM := Lib.hid (info_n32 (mixP s0 (rest' R p n s)).list (S8.list_length _))
  have HFM : Hid (1 + (n32 (mixP s0 (rest' R p n s)).list).length ≤ (strm (c + n) s0.list (bys (rest' R p n s))).size) := by unfold Hid; rw [strm_size, n32_length, bys_length, HRL.out, HTL.out, S8.list_length]; omega
  have HML := Lib.hid (S8.list_length (mixP s0 (rest' R p n s)))
  generalize hM : mixP s0 (rest' R p n s) = M at *
  have HM := Lib.hid hM
  clear hM
  go_wp2
  generalize w2.setCell ⟨g, 0, none⟩ (.int .i64 ((c : Int) + n)) = w3 at *
  clear HA2 hg2 hcell2 hfz
  have HA4 : Hid (Arr w3.drew g 33 (strm (c + n) s0.list (bys (rest' R p n s)))) := HA3.out
  have hl1 : (ld8 (.pointer (some ⟨g, 1, none⟩))).run Try.prog w3.drew = .ok (.agg (nums .u32 s0.list)) w3.drew := run_loadAt_mid (P := Try.prog) w3.drew g 1 30 (n32 s0.list) _ (stm_sums HA4.out) Try.underlying30 rfl HI1.out
  have hl2 : (ld64 (.pointer (some ⟨g, 9, none⟩))).run Try.prog w3.drew = .ok (.agg (nums .u8 (bys (rest' R p n s)))) w3.drew := run_loadAt_mid (P := Try.prog) w3.drew g 9 31 (n8 (bys (rest' R p n s))) _ (stm_rest HA4.out HTL.out) Try.underlying31 rfl HI2.out
  have HK5 := Lib.hid (fun (w5 : World) (hb5 : Below w3.drew.heap.size w3.drew w5) => store_sums (HA4.out.below hb5 HA4.out.lt) HTL.out HML.out HFM.out HIM.out)
  have hg4 := grown_trans hg3 (grown_drew w3 (some g))
  generalize hML : M.list = ML at *
  have HML' := Lib.hid hML
  clear hML
  go_region_with (go_at_call 22; refine (HMX.out _).mono ?_; rintro e w5 ⟨rfl, hb5⟩; obtain ⟨w6, hst, hA6, hg6⟩ := HK5.out w5 hb5)
  all_goals
    have hg7 := grown_trans hg4 (grown_trans (grown_below (r := some g) hb5) hg6)
    clear hl1 hl2 hst
    go_wp2
    go_ret
    exact ⟨rfl, by rw [HM.out, HML'.out]; exact hA6, hg7⟩

end Go.Proofs.Ytppfdhledmbkhaa
