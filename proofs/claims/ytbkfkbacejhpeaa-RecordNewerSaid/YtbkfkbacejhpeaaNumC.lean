/- What num.FromBigs returns for every string of at most 2^40 bytes, and what the document's SameInts returns for two slices of the same numbers. -/
import Derived.Test.YtbkfkbacejhpeaaNumR
import Derived.Test.YtbkfkbacejhpeaaNumS
import Derived.Test.YtbkfkbacejhpeaaNumT
namespace Go.Proofs.Ytbkfkbacejhpeaa
open Go.RowKit

set_option maxHeartbeats 800000 in
set_option maxRecDepth 100000 in
theorem frombigs_yes (s : ByteArray) (m : Nat) (w : World) (hm : s.size = 4 * m) (hl : s.size ≤ 1099511627776) :
    Calls Try.prog 21 #[.string s] w fun e w' => ∃ v, e = .returned (.tuple #[v, .bool true]) ∧ w'.ownsRow w.heap.size 3 1 v m (intVals (numsB s.data.toList m)) ∧ Below w.heap.size w w' := by
  obtain ⟨i0, hi, hz0, hz1, hz2⟩ := info_int
  have HI := Lib.hid hi; have HZ0 := Lib.hid hz0; have HZ1 := Lib.hid hz1; have HZ2 := Lib.hid hz2
  clear hi hz0 hz1 hz2
  have hmod : (((s.size : Int) % 4) != 0) = false := by
    have : (s.size : Int) % 4 = 0 := by omega
    simp [this]
  have HM := Lib.hid hm
  have hm1 : s.size ≤ 4 * m := by omega
  have hm2 : 4 * m ≤ s.size := by omega
  clear hm
  go_enter Try.func21, Try.ntmps21
  go_wp2
  go_loopw [4, 5] (fun v i wr => ∃ k : Nat, k ≤ m ∧ i = .int .i64 ((4 * k : Nat) : Int) ∧ wr.ownsRow w.heap.size 3 1 v k (intVals (numsB s.data.toList k)) ∧ Below w.heap.size w wr)
    (fun _ i _ => s.size - (intOf i).toNat)
  case atStart => exact ⟨0, Nat.zero_le _, rfl, World.ownsRow_nil _ _ _ _, Below.refl _ _⟩
  case round =>
    obtain ⟨k, hk, rfl, hown, hb⟩ := hrel
    have hsz := hb.size
    by_cases hlt : k < m
    · go_wp2_with fail
      refine (frombig_yes _ _ (by rw [extract_size]; omega) (by rw [extract_size]; unfold maxLen; omega)).mono ?_
      rintro e w1 ⟨rfl, hb1⟩
      have hE := extract_tail s (4 * k)
      rw [hE]
      clear hE
      have hown1 := ownsRow_below hown hb1
      have hb2 : Below w.heap.size w w1 := hb.trans (hb1.mono hsz)
      have hs1 := hb2.size
      have HS := Lib.hid (intVals_numsB_succ s.data.toList k)
      generalize frombig (s.data.toList.drop (4 * k)) = x at HS ⊢
      clear hown hb hb1
      go_wp2_with (at_builtin; refine wpList_append_own _ rfl _ _ 42 rfl w.heap.size 3 i0 (.int .i64 0) 1 8 Try.underlying42 HI.out HZ0.out HZ1.out HZ2.out rfl (by decide) _ _ _ rfl (hown1.alloc _) ⟨w1.heap.size, 0, none⟩ 1 1 [.int .i64 x] rfl rfl ?c1 ?c2 ?c3 ?c4 ?c5 ?_)
      case c1 =>
        intro j u hj
        match j, hj with
        | 0, hj => simp at hj; subst hj; simp [Addr.add]
      case c2 => intro u hu; simp at hu; subst hu; rfl
      case c3 => unfold maxLen; omega
      case c4 => omega
      case c5 => simp; omega
      · intro v' w2 hown' hgrow _
        have hb3 : Below w.heap.size w w2 := (hb2.alloc hs1 _).grown hgrow (by simp; omega) (fun g hg => (hown1.lt g hg).1)
        clear hown1 hgrow hb2
        go_wp2
        go_roundw
        case rel => exact ⟨k + 1, by omega, by go_num, by rw [HS.out]; exact hown', hb3⟩
        case measure => simp [intOf]; omega
    · have hkl : k = m := by omega
      subst hkl
      go_wp2
      go_ret2
      exact ⟨_, rfl, hown, hb⟩

set_option maxHeartbeats 400000 in
theorem frombigs_no (s : ByteArray) (w : World) (hm : s.size % 4 ≠ 0) (hl : s.size ≤ 1099511627776) :
    Calls Try.prog 21 #[.string s] w fun e w' => e = .returned (.tuple #[.slice none 0 0, .bool false]) ∧ w = w' := by
  have hmod : (((s.size : Int) % 4) != 0) = true := by
    have : ¬ (s.size : Int) % 4 = 0 := by omega
    simp [this]
  clear hm
  go_enter Try.func21, Try.ntmps21
  go_wp2
  go_ret2
  exact ⟨rfl, rfl⟩

end Go.Proofs.Ytbkfkbacejhpeaa
