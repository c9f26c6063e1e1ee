/- What package head must do, said over nothing of its code; and the awake() of layer 11's statements. Conditions: those contracts. -/
import Derived.Test.YtkkkhmimgcgoeaaHeC
namespace Go.Proofs.Ytkkkhmimgcgoeaa
open Go.RowKit

def inH (h : HD) : Prop := in64 h.tot ∧ in64 h.stc ∧ in64 h.sgs ∧ in64 h.rsv ∧ in64 h.boo ∧ in64 h.txs ∧ in64 h.siz
/-- The contracts of package head. -/
structure HeadMust : Prop where
  put : ∀ (h : HD) (w : World), inH h → Calls Try.prog 6 #[.agg (hdC h)] w fun e w' => e = .returned (.tuple #[.string ⟨(putH h).1.toArray⟩, .int .i64 ((putH h).2 : Int)]) ∧ Below w.heap.size w w'
  read : ∀ (s : ByteArray) (w : World), s.size ≤ maxLen → Calls Try.prog 10 #[.string s] w fun e w' => e = .returned (.tuple #[.agg (hdC (readH s.data.toList).1), .int .i64 ((readH s.data.toList).2 : Int)]) ∧ Below w.heap.size w w'
  part : ∀ (s : ByteArray) (a b : Int) (w : World), s.size ≤ maxLen → in64 a → in64 b → Calls Try.prog 8 #[.string s, .agg #[.int .i64 a, .int .i64 b]] w fun e w' => e = .returned (.tuple #[.string (partR s a b).1, .int .i64 ((partR s a b).2 : Int)]) ∧ Below w.heap.size w w'

/-- The header that awake() takes. -/
def h11 : HD := ⟨72, 56, 72, 40, 0, 0, 16⟩
theorem put11 : (putH h11).2 = 0 := by rfl
theorem len11 : (putH h11).1.length = 40 := (putH_len put11).1
set_option maxRecDepth 100000 in
theorem read11 : readH (putH h11).1 = (hd0, 14) := by decide +kernel
theorem part11 : partR ⟨#[97, 98, 99]⟩ 1 2 = (⟨#[98, 99]⟩, 0) := by rfl
theorem in11 : inH h11 := by unfold inH in64 h11; decide

set_option maxHeartbeats 1600000 in
set_option maxRecDepth 100000 in
theorem awake11 (M : HeadMust) (w : World) : Calls Try.prog 5 #[] w fun e w' => e = .returned (.bool true) ∧ Below w.heap.size w w' := by
  obtain ⟨S, hS⟩ : ∃ S : ByteArray, S = ⟨(putH h11).1.toArray⟩ := ⟨_, rfl⟩
  have hSl : S.data.toList = (putH h11).1 := by rw [hS]
  have hSs : S.size = 40 := by show S.data.toList.length = 40; rw [hSl, len11]
  have HPUT := Lib.hid (fun W => M.put h11 W in11)
  rw [put11, ← hS] at HPUT
  have HRE := Lib.hid (fun W => M.read S W (by rw [hSs]; unfold maxLen; decide))
  rw [hSl, read11] at HRE
  have HPA := Lib.hid (fun W => M.part ⟨#[97, 98, 99]⟩ 1 2 W (by unfold maxLen; decide) (by unfold in64; decide) (by unfold in64; decide))
  rw [part11] at HPA
  have HRX := Lib.hid (fun W => M.read ⟨#[]⟩ W (by unfold maxLen; decide))
  have e0 : readH (ByteArray.mk #[]).data.toList = (hd0, 14) := rfl
  rw [e0] at HRX
  have HA0 := Lib.hid (Arr.new w 23 (hdC h11))
  have HB0 := Lib.hid ((Below.refl w.heap.size w).alloc (Nat.le_refl _) (.cells (hdC h11) 23))
  have d40 : ((S.size : Int) == 40) = true := by rw [hSs]; rfl
  clear hS hSl hSs e0 M
  go_enter Try.func5, Try.ntmps5
  go_wp2_with fail
  refine (HPUT.out _).mono ?_
  rintro e w1 ⟨rfl, hb1⟩
  have HB1 := Lib.hid (HB0.out.trans (hb1.mono HB0.out.size))
  clear hb1 HPUT HB0 HA0
  go_wp2_with fail
  refine (HRE.out _).mono ?_
  rintro e w2 ⟨rfl, hb2⟩
  have HB2 := Lib.hid (HB1.out.trans (hb2.mono HB1.out.size))
  have hz2 := HB2.out.size
  clear hb2 HRE HB1
  have HAN := Lib.hid (Arr.new w2 23 (hdC hd0))
  have HBN : Hid (Below w.heap.size w ((w2.alloc (.cells (hdC hd0) 23)).setRow w2.heap.size (hdC hd0))) := below_setRow (HB2.out.alloc hz2 _) hz2 _
  go_wp2_with (refine wpList_store_row rfl 23 (.tmp 4) (.tmp 19) rfl w2.heap.size (hdC hd0) rfl rfl _ _ HAN.out (infoH _) rfl (hdC_one _) ?_)
  refine (HPA.out _).mono ?_
  rintro e w3 ⟨rfl, hb3⟩
  have HB3 := Lib.hid (HBN.out.trans (hb3.mono HBN.out.size))
  clear hb3 HPA HB2 HAN HBN
  have hz3 := HB3.out.size
  go_wp2_with fail
  refine (HRX.out _).mono ?_
  rintro e w4 ⟨rfl, hb4⟩
  have HB4 := Lib.hid (HB3.out.trans (hb4.mono HB3.out.size))
  have hz4 := HB4.out.size
  clear hb4 HRX HB3
  have HAM := Lib.hid (Arr.new w4 23 (hdC hd0))
  have HBM : Hid (Below w.heap.size w ((w4.alloc (.cells (hdC hd0) 23)).setRow w4.heap.size (hdC hd0))) := below_setRow (HB4.out.alloc hz4 _) hz4 _
  go_wp2_with (refine wpList_store_row rfl 23 (.tmp 8) (.tmp 28) rfl w4.heap.size (hdC hd0) rfl rfl _ _ HAM.out (infoH _) rfl (hdC_one _) ?_)
  go_ret
  exact ⟨rfl, HBM.out⟩
end Go.Proofs.Ytkkkhmimgcgoeaa
