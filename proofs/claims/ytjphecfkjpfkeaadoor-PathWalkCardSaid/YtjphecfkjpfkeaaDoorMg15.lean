/- The document's AsText of layer 13; its SameTexts of the same texts. Conditions: strings of at most 2^40 bytes; at most 2^40 texts. -/
import Derived.Test.YtjphecfkjpfkeaaDoorMg14
namespace Go.Proofs.YtjphecfkjpfkeaaDoor
open Go.RowKit

/-- AsText: the only text, and whether there is one. -/
def asT1 (l : List UInt8) : ByteArray × Bool := if okV l = true ∧ (asT l).length = 1 then (⟨((asT l).getD 0 []).toArray⟩, true) else (⟨#[]⟩, false)
theorem baL_one {T : List (List UInt8)} (h : T.length = 1) : (baL T).getD 0 ByteArray.empty = ⟨(T.getD 0 []).toArray⟩ := by
  match T, h with
  | [t], _ => rfl
set_option maxHeartbeats 800000 in
set_option maxRecDepth 100000 in
theorem rasText_any (v : ByteArray) (w : World) (hv : v.size ≤ 1099511627776) :
    Calls Tryd.prog 36 #[.string v] w fun e w' => e = .returned (.tuple #[.string (asT1 v.data.toList).1, .bool (asT1 v.data.toList).2]) ∧ Below w.heap.size w w' := by
  have HT := Lib.hid (rasTexts_any v w hv)
  have H1 : Hid (∀ x, okV v.data.toList = true → (asT v.data.toList).length = 1 → (baL (asT v.data.toList)).getD 0 ByteArray.empty = x → asT1 v.data.toList = (x, true)) := fun x h1 h2 h3 => by
    unfold asT1
    rw [if_pos ⟨h1, h2⟩, ← h3, baL_one h2]
  have H0 : Hid (¬ (okV v.data.toList = true ∧ (asT v.data.toList).length = 1) → asT1 v.data.toList = (⟨#[]⟩, false)) := fun h => if_neg h
  have HB := Lib.hid (baL_len (asT v.data.toList))
  generalize asT1 v.data.toList = Q at *
  generalize okV v.data.toList = ok at *
  generalize asT v.data.toList = T at *
  go_enter Tryd.func36, Tryd.ntmps36
  go_wp2_with fail
  refine HT.out.mono ?_
  rintro e w1 ⟨A, cap, rfl, hr, hb⟩
  have HR := Lib.hid hr
  have HBW := Lib.hid hb
  clear hr hb HT
  cases ok with
  | false =>
    have HE := Lib.hid (H0.out (fun h => by cases h.1))
    clear H1 H0
    go_wp2
    go_ret2
    exact ⟨by rw [HE.out]; rfl, HBW.out⟩
  | true =>
    by_cases h1 : T.length = 1
    · obtain ⟨b, off, x, rfl, hc, HX⟩ := HR.out.at_ (k := 0) (by rw [HB.out]; omega)
      have HE := Lib.hid (H1.out x rfl h1 HX.out)
      rw [Nat.add_zero] at hc
      clear H1 H0 HB HR HX
      rw [h1]
      clear h1
      go_wp2
      go_ret2
      exact ⟨by rw [HE.out]; rfl, HBW.out⟩
    · have HE := Lib.hid (H0.out (fun h => h1 h.2))
      have d1 : ((T.length : Int) != 1) = true := by simp; omega
      clear H1 H0 h1
      go_wp2
      go_ret2
      exact ⟨by rw [HE.out]; rfl, HBW.out⟩

set_option maxHeartbeats 800000 in
set_option maxRecDepth 100000 in
theorem sameTexts_any (A A' : Option Addr) (cap cap' : Nat) (l : List ByteArray) (w : World) (hl : l.length ≤ 1099511627776) (hr : RdT w A l) (hr' : RdT w A' l) :
    Calls Tryd.prog 10 #[.slice A l.length cap, .slice A' l.length cap'] w fun e w' => e = .returned (.bool true) ∧ Below w.heap.size w w' := by
  have HR := Lib.hid hr
  have HR' := Lib.hid hr'
  clear hr hr'
  go_enter Tryd.func10, Tryd.ntmps10
  go_wp2
  go_loopw [5] (fun i wr => ∃ k : Nat, k ≤ l.length ∧ i = .int .i64 k ∧ Below w.heap.size w wr) (fun i _ => l.length - (intOf i).toNat)
  case atStart => exact ⟨0, Nat.zero_le _, rfl, Below.refl _ _⟩
  case round =>
    obtain ⟨k, hk, rfl, hb⟩ := hrel
    have hsz := hb.size
    have HB := Lib.hid hb
    clear hb
    by_cases hlt : k < l.length
    · have hki : (k : Int) < l.length := by omega
      obtain ⟨b, off, x, rfl, h1, HX⟩ := (HR.out.below HB.out).at_ hlt
      obtain ⟨b', off', x', rfl, g1, HX'⟩ := (HR'.out.below HB.out).at_ hlt
      obtain rfl : x = x' := HX.out.symm.trans HX'.out
      go_wp2
      go_quiet (fail)
      have hb2 : Below w.heap.size w (wr.drewN nq) := HB.out.trans ((below_drewN _ _).mono hsz)
      go_wp2
      go_roundw
      case rel => exact ⟨k + 1, by omega, by go_num, hb2⟩
      case measure => simp [intOf]; omega
    · obtain rfl : k = l.length := by omega
      go_wp2
      go_ret
      exact ⟨rfl, HB.out⟩
end Go.Proofs.YtjphecfkjpfkeaaDoor
