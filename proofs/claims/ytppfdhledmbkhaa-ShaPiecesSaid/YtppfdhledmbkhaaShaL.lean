/- What (*sha.Stream).Write does: condition: at most 2^38 bytes in all. -/
import Derived.Test.YtppfdhledmbkhaaShaJ
namespace Go.Proofs.Ytppfdhledmbkhaa
open Go.RowKit

/-- The slice at A reads as the strings L. -/
def RdS (w : World) (A : Option Addr) (L : List ByteArray) : Prop :=
  L = [] ∨ ∃ b off, A = some ⟨b, off, none⟩ ∧ ∀ k, k < L.length → w.cell? ⟨b, off + k, none⟩ = some (.string (L.getD k ByteArray.empty))
theorem RdS.at_ {w : World} {A : Option Addr} {L : List ByteArray} (h : RdS w A L) {k : Nat} (hk : k < L.length) :
    ∃ b off x, A = some ⟨b, off, none⟩ ∧ w.cell? ⟨b, off + k, none⟩ = some (.string x) ∧ Hid (L.getD k ByteArray.empty = x) := by
  rcases h with rfl | ⟨b, off, rfl, hc⟩
  · simp at hk
  · exact ⟨b, off, _, rfl, hc k hk, rfl⟩
theorem strm_int {c : Nat} {S R : List Nat} {i : Nat} {v : Value} (h : (strm c S R)[i]? = some v) : ∃ k x, v = .int k x := by
  unfold strm at h
  rw [List.getElem?_toArray] at h
  have := List.mem_of_getElem? h
  rw [List.mem_cons, List.mem_append] at this
  rcases this with rfl | hm | hm
  · exact ⟨_, _, rfl⟩
  · simp only [n32, List.mem_map] at hm; obtain ⟨x, _, rfl⟩ := hm; exact ⟨_, _, rfl⟩
  · simp only [n8, List.mem_map] at hm; obtain ⟨x, _, rfl⟩ := hm; exact ⟨_, _, rfl⟩
theorem RdS.grown {w w' : World} {A : Option Addr} {L : List ByteArray} {g : Nat} {X : List UInt8} (h : RdS w A L) (hS : Stm w g X) (hg : w.grownBy w' (some g)) : RdS w' A L := by
  rcases h with h | ⟨b, off, rfl, hc⟩
  · exact .inl h
  · refine .inr ⟨b, off, rfl, fun k hk => ?_⟩
    have hck := hc k hk
    have hlt : b < w.heap.size := World.block_lt_of_cell? w _ hck
    have hne : b ≠ g := by
      rintro rfl
      obtain ⟨T, R, _, _, _, _, hA⟩ := hS
      rw [hA.cell] at hck
      obtain ⟨_, _, he⟩ := strm_int hck
      cases he
    rw [World.cell?_of_block (a := ⟨b, off + k, none⟩) (hg.block b hlt (fun e => hne (by injection e)))]
    exact hck
/-- Strings, one after the other. -/
def jn (l : List ByteArray) : List UInt8 := l.flatMap fun s => s.data.toList
theorem jn_take (l : List ByteArray) (k : Nat) (h : k < l.length) : jn (l.take (k + 1)) = jn (l.take k) ++ (l.getD k ByteArray.empty).data.toList := by
  unfold jn
  rw [List.take_succ_eq_append_getElem h, List.flatMap_append, List.getD_eq_getElem?_getD, List.getElem?_eq_getElem h]
  simp
theorem jn_take_le (l : List ByteArray) (k : Nat) : (jn (l.take k)).length ≤ (jn l).length := by
  have := congrArg (fun l => (jn l).length) (List.take_append_drop k l)
  simp only [jn, List.flatMap_append, List.length_append] at this ⊢
  omega
/-- How many bytes a string has. -/
def ssz : Value → Nat
  | .string s => s.size
  | _ => 0

set_option maxHeartbeats 1600000 in
set_option maxRecDepth 100000 in
theorem write_any (g : Nat) (A : Option Addr) (cap : Nat) (Ls : List ByteArray) (L : List UInt8) (w : World) (h : Stm w g L) (hr : RdS w A Ls) (hl : Ls.length ≤ 274877906944) (hb : L.length + (jn Ls).length ≤ 274877906944) :
    Calls Try.prog 10 #[.pointer (some ⟨g, 0, none⟩), .slice A Ls.length cap] w fun e w' => e = .returned (.tuple #[]) ∧ Stm w' g (L ++ jn Ls) ∧ w.grownBy w' (some g) := by
  have HS := Lib.hid h
  have HR := Lib.hid hr
  clear h hr
  go_enter Try.func10, Try.ntmps10
  go_wp2
  go_loopw [10] (fun i wr => ∃ k : Nat, k ≤ Ls.length ∧ i = .int .i64 k ∧ Stm wr g (L ++ jn (Ls.take k)) ∧ RdS wr A Ls ∧ w.grownBy wr (some g)) (fun i _ => Ls.length - (intOf i).toNat)
  case atStart => exact ⟨0, Nat.zero_le _, rfl, by rw [List.take_zero, show jn [] = [] from rfl, List.append_nil]; exact HS.out, HR.out, grown_refl _ _⟩
  case round =>
    clear HS HR
    obtain ⟨k, hk, rfl, hS, hR, hg⟩ := hrel
    have HS := Lib.hid hS
    have HR := Lib.hid hR
    clear hS hR
    by_cases hlt : k < Ls.length
    · obtain ⟨b, off, x, rfl, hc, HX⟩ := HR.out.at_ hlt
      have HJ := Lib.hid (jn_take Ls k hlt)
      have hle := jn_take_le Ls (k + 1)
      rw [HJ.out, HX.out] at hle
      rw [HX.out] at HJ
      have hxl : x.data.toList.length = x.size := rfl
      rw [List.length_append, hxl] at hle
      generalize hjk : jn (Ls.take k) = J at *
      have HJK := Lib.hid hjk
      clear hjk hxl
      have hds : decide ((k : Int) < Ls.length) = true := decide_eq_true (by omega)
      have HS0 : Hid (Stm wr g (L ++ J ++ x.data.toList.take 0)) := by rw [List.take_zero, List.append_nil]; exact HS.out
      obtain ⟨wk, rfl⟩ : ∃ wk, wk = wr := ⟨_, rfl⟩
      go_wp2
      go_loopw [5] (fun p wq => ∃ m t, m + ByteArray.size t = x.size ∧ p = .string t ∧ t.data.toList = x.data.toList.drop m ∧ Stm wq g (L ++ J ++ x.data.toList.take m) ∧ wk.grownBy wq (some g)) (fun p _ => ssz p)
      case atStart => exact ⟨0, x, by omega, rfl, rfl, HS0.out, grown_refl _ _⟩
      case round =>
        clear HS0
        obtain ⟨m, t, hm, rfl, ht, hS, hgq⟩ := hrel
        have HS2 := Lib.hid hS
        have HT := Lib.hid ht
        have HM := Lib.hid hm
        have hts : m + t.size ≤ x.size := by omega
        clear hS ht hm
        by_cases h0 : 0 < t.size
        · obtain ⟨n, hn⟩ : ∃ n, min t.size (64 - (L ++ J ++ x.data.toList.take m).length % 64) = n := ⟨_, rfl⟩
          have hn1 : n ≤ t.size := by omega
          have hn0 : 0 < n := by omega
          have hll : (L ++ J ++ x.data.toList.take m).length ≤ 549755813888 := by rw [List.length_append, List.length_append, List.length_take]; omega
          have HF := Lib.hid (fill_spec g (L ++ J ++ x.data.toList.take m) t wr HS2.out hll h0 (by omega) n hn)
          have HE : Hid ((t.extract n t.size).data.toList = x.data.toList.drop (m + n)) := by
            unfold Hid
            rw [extract_list, List.take_of_length_le (by rw [List.length_drop]; have : t.data.toList.length = t.size := rfl; omega), HT.out, List.drop_drop]
          have HE2 : Hid (x.data.toList.take m ++ t.data.toList.take n = x.data.toList.take (m + n)) := by
            unfold Hid
            rw [HT.out, List.take_add]
          have HZ : Hid ((t.extract n t.size).size = t.size - n) := by unfold Hid; rw [ByteArray.size_extract]; omega
          clear hn hll
          go_wp2_with fail
          refine HF.out.mono ?_
          rintro e w2 ⟨rfl, hS2, hg2⟩
          rw [List.append_assoc, HE2.out] at hS2
          have HS3 := Lib.hid hS2
          have hg3 := grown_trans hgq hg2
          clear hS2 hg2 hgq HF
          go_wp2
          go_roundw
          case rel => exact ⟨m + n, _, by rw [HZ.out]; have := HM.out; omega, rfl, HE.out, HS3.out, hg3⟩
          case measure => show (t.extract n t.size).size < t.size; rw [HZ.out]; omega
        · have hm2 : m = x.size := by have := HM.out; omega
          have HF : Hid (x.data.toList.take m = x.data.toList) := by unfold Hid; rw [hm2]; exact List.take_of_length_le (Nat.le_refl _)
          rw [HF.out] at HS2
          have HR2 := Lib.hid (HR.out.grown HS.out hgq)
          have hg2 := grown_trans hg hgq
          have hd0 : decide ((0 : Int) < t.size) = false := decide_eq_false (by omega)
          clear hm2
          go_wp2
          go_roundw
          case rel => exact ⟨k + 1, by omega, by go_num, by rw [HJ.out, ← List.append_assoc]; exact HS2.out, HR2.out, hg2⟩
          case measure => simp [intOf]; omega
    · obtain rfl : k = Ls.length := by omega
      rw [List.take_length] at HS
      go_wp2
      go_end0
      exact ⟨rfl, HS.out, hg⟩
end Go.Proofs.Ytppfdhledmbkhaa
