/- What package grammar's consists and Prop return. Conditions: strings of at most 2^40 bytes. -/
import Derived.Test.YtmgfnghegcfhnaaMg39
import Derived.Test.YtmgfnghegcfhnaaMg18
namespace Go.Proofs.Ytmgfnghegcfhnaa
open Go.RowKit

/-- An element of an array of three truth values. -/
theorem idxB3 (a b c x : Bool) (k : Int) (hk : 0 ≤ k ∧ k < 3) (hx : ([.bool a, .bool b, .bool c] : List Value)[k.toNat]? = some (.bool x)) (w : World) :
    (Instr.index 46 (.agg #[.bool a, .bool b, .bool c]) (.int .i64 k)).run Try.prog w = .ok (.bool x) w := by
  have h0 := hk.1
  have h5 := hk.2
  simp [Instr.index, run_underlying Try.underlying46, asIntOf, go_sem, h0, h5]
  exact (List.getElem?_eq_some_iff.1 hx).2

/-- Has it bytes, all of them of a kind? -/
def consR (F : Nat → Bool) (l : List UInt8) : Bool := !l.isEmpty && l.all fun c => F c.toNat
theorem toNat_lt19 (c : UInt8) : c.toNat < 256 := c.toNat_lt

set_option maxHeartbeats 1600000 in
set_option maxRecDepth 100000 in
theorem consists_any (F : Nat → Bool) (m : Nat) (hm : (m = 1 ∧ F = plaC) ∨ (m = 2 ∧ F = prpC)) (s : ByteArray) (w : World) (hs : s.size ≤ 1099511627776) :
    Calls Try.prog 22 #[.string s, .int .i64 (m : Int)] w fun e w' => e = .returned (.bool (consR F s.data.toList)) ∧ Below w.heap.size w w' := by
  have HKI := Lib.hid fun c h W => kindsOf_any c h W
  have HIX : Hid (∀ (c : Nat) (W : World), (Instr.index 46 (.agg #[.bool (letC c), .bool (plaC c), .bool (prpC c)]) (.int .i64 (m : Int))).run Try.prog W = .ok (.bool (F c)) W) := by
    rcases hm with ⟨rfl, rfl⟩ | ⟨rfl, rfl⟩
    · exact fun c W => idxB3 _ _ _ _ 1 (by decide) rfl W
    · exact fun c W => idxB3 _ _ _ _ 2 (by decide) rfl W
  clear hm
  have HNO : Hid (∀ i, i < s.size → F (s.data.toList.getD i 0).toNat = false → consR F s.data.toList = false) := fun i h1 h2 => by
    unfold consR; rw [all19_no (f := F) h1 h2, Bool.and_false]
  have HEM : Hid (s.toList.isEmpty = s.data.toList.isEmpty) := by
    unfold Hid
    cases h : s.data.toList.isEmpty with
    | true =>
      rw [empty19, decide_eq_true_eq]
      show s.data.toList.length = 0
      rw [List.isEmpty_iff.1 h]; rfl
    | false =>
      rw [empty19, decide_eq_false_iff_not]
      intro e
      have e : s.data.toList.length = 0 := e
      rw [List.length_eq_zero_iff.1 e] at h; cases h
  have HYE : Hid ((∀ j, j < s.size → F (s.data.toList.getD j 0).toNat = true) → consR F s.data.toList = !s.toList.isEmpty) := fun h => by
    unfold consR; rw [all19 (f := F) h, HEM.out, Bool.and_true]
  generalize consR F s.data.toList = R at *
  have HB0 := Lib.hid (Below.refl w.heap.size w)
  clear HEM
  go_enter Try.func22, Try.ntmps22
  go_wp2
  go_loopw [8] (fun iv wr => ∃ i : Nat, i ≤ s.size ∧ iv = .int .i64 i ∧ Hid (∀ j, j < i → F (s.data.toList.getD j 0).toNat = true) ∧ Below w.heap.size w wr) (fun iv _ => s.size - (intOf iv).toNat)
  case atStart => exact ⟨0, Nat.zero_le _, rfl, fun j h => absurd h (Nat.not_lt_zero _), HB0.out⟩
  case round =>
    obtain ⟨i, hi, rfl, HJ, hb⟩ := hrel
    by_cases hlt : i < s.size
    · have hii : (i : Int) < (s.size : Int) := by omega
      have hg := byte19 s hlt
      have HP := Lib.hid (HKI.out s[i].toNat (toNat_lt19 _) wr)
      have hix := HIX.out s[i].toNat
      have HBAD : Hid (F s[i].toNat = false → R = false) := fun h => HNO.out i hlt (by rw [hg]; exact h)
      have HJ1 : Hid (F s[i].toNat = true → ∀ j, j < i + 1 → F (s.data.toList.getD j 0).toNat = true) := fun h j hj => by
        by_cases e : j = i
        · rw [e, hg]; exact h
        · exact HJ.out j (by omega)
      have HBR := Lib.hid hb
      clear hg hb HJ
      go_wp2_with fail
      refine HP.out.mono ?_
      rintro e w1 ⟨rfl, hb1⟩
      have HB1 := Lib.hid (HBR.out.trans (hb1.mono HBR.out.size))
      clear hb1 HP
      generalize F s[i].toNat = f at *
      cases f with
      | true =>
        have HK := Lib.hid (HJ1.out rfl)
        clear HJ1 HBAD
        go_wp2
        go_roundw
        case rel => exact ⟨i + 1, by omega, by go_num, HK.out, HB1.out⟩
        case measure => simp [intOf]; omega
      | false =>
        have HV := Lib.hid (HBAD.out rfl)
        clear HJ1 HBAD
        go_wp2
        go_ret
        exact ⟨by rw [HV.out]; rfl, HB1.out⟩
    · obtain rfl : i = s.size := by omega
      have HE := Lib.hid (HYE.out HJ.out)
      have HBR := Lib.hid hb
      clear HJ HYE HNO HKI HIX hb
      cases hem : s.toList.isEmpty with
      | true =>
        rw [hem] at HE
        go_wp2
        go_ret
        exact ⟨by rw [HE.out]; rfl, HBR.out⟩
      | false =>
        rw [hem] at HE
        go_wp2
        go_ret
        exact ⟨by rw [HE.out]; rfl, HBR.out⟩

theorem prop_cons (s : ByteArray) : prop19 s.data.toList = (decide ((s.size : Int) ≤ 31) && consR prpC s.data.toList) := by
  have e : s.data.toList.length = s.size := rfl
  unfold prop19 consR
  rw [e]
  have h : (!s.data.toList.isEmpty) = decide (1 ≤ s.size) := by
    rw [← e]
    cases s.data.toList with
    | nil => rfl
    | cons a l => exact (decide_eq_true (by rw [List.length_cons]; omega)).symm
  rw [h]
  have h2 : decide ((s.size : Int) ≤ 31) = decide (s.size ≤ 31) := by
    have : ((s.size : Int) ≤ 31) = (s.size ≤ 31) := by apply propext; omega
    simp only [this]
  rw [h2]
  cases decide (s.size ≤ 31) <;> cases decide (1 ≤ s.size) <;> cases (s.data.toList.all fun c => prpC c.toNat) <;> rfl

set_option maxHeartbeats 1600000 in
set_option maxRecDepth 100000 in
theorem gprop_any (s : ByteArray) (w : World) (hs : s.size ≤ 1099511627776) :
    Calls Try.prog 11 #[.string s] w fun e w' => e = .returned (.bool (prop19 s.data.toList)) ∧ Below w.heap.size w w' := by
  have HC : Hid (∀ W, Calls Try.prog 22 #[.string s, .int .i64 2] W fun e w' => e = .returned (.bool (consR prpC s.data.toList)) ∧ Below W.heap.size W w') := fun W => consists_any prpC 2 (.inr ⟨rfl, rfl⟩) s W hs
  have HE := Lib.hid (prop_cons s)
  generalize prop19 s.data.toList = R at *
  generalize consR prpC s.data.toList = z at *
  have HB0 := Lib.hid (Below.refl w.heap.size w)
  cases d1 : decide ((s.size : Int) ≤ 31) with
  | true =>
    rw [d1] at HE
    go_enter Try.func11, Try.ntmps11
    go_wp2_with fail
    refine (HC.out _).mono ?_
    rintro e w1 ⟨rfl, hb⟩
    go_wp2
    go_ret
    exact ⟨by rw [HE.out]; rfl, hb⟩
  | false =>
    rw [d1] at HE
    go_enter Try.func11, Try.ntmps11
    go_wp2
    go_ret
    exact ⟨by rw [HE.out]; rfl, HB0.out⟩
end Go.Proofs.Ytmgfnghegcfhnaa
