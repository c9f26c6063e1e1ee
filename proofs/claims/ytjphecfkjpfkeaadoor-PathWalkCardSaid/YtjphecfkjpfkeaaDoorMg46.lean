/- What package value's AsTexts, AsText and Texts return. Conditions: strings of at most 4,000,000,000 bytes; at most 1000 texts of at most 1,000,000 bytes. -/
import Derived.Test.YtjphecfkjpfkeaaDoorMg15
import Derived.Test.YtjphecfkjpfkeaaDoorMg45
import Derived.Test.YtjphecfkjpfkeaaDoorMg44
namespace Go.Proofs.YtjphecfkjpfkeaaDoor
open Go.RowKit

/-- strings.Split at the byte 0. -/
theorem gen0 (x : ByteArray) (w : World) (hs : x.size < 4294967281) :
    Calls Tryd.prog 41 #[.string x, .string ⟨#[0]⟩, .int .i64 0, .int .i64 (-1)] w fun e w' =>
      e = .returned (.slice (some ⟨w.heap.size, 0, none⟩) (Lib.countB x ⟨#[0]⟩ + 1) (Lib.countB x ⟨#[0]⟩ + 1)) ∧ w' = w.alloc (.cells ((Lib.splitB ⟨#[0]⟩ 0 (Lib.countB x ⟨#[0]⟩) x).map Value.string).toArray 9) := by
  have hle := Lib.countB_le ⟨#[0]⟩ (by decide) x.size x (Nat.le_refl _)
  have hlen := Lib.splitB_all ⟨#[0]⟩ (by decide) 0 _ x rfl
  have c := Any.strings_genSplit_core Tryd.lays221 (by kernel_rfl) x ⟨#[0]⟩ 0 (-1) (Lib.countB x ⟨#[0]⟩ + 1) w hs (by decide) (Nat.zero_le _)
    (fun y c _ => (Tryd.strings_Index_one y 0 _).mono fun e w' ⟨he, hw⟩ => ⟨by rw [he]; exact congrArg (fun z => Ending.returned (Value.int .i64 z)) (Lib.index_one _ _).symm, hw⟩)
    ((Tryd.strings_Count_one x 0 w).mono fun e w' ⟨he, hw⟩ => ⟨by rw [he]; exact congrArg (fun z : Nat => Ending.returned (Value.int .i64 z)) (Lib.count_one _ _).symm, hw⟩)
    (by decide) (by decide) (by rw [if_pos (by decide)]; omega)
  rw [Nat.add_sub_cancel, hlen] at c
  have e2 : Lib.cellsOf (Lib.splitB ⟨#[0]⟩ 0 (Lib.countB x ⟨#[0]⟩) x) (Lib.countB x ⟨#[0]⟩ + 1) = ((Lib.splitB ⟨#[0]⟩ 0 (Lib.countB x ⟨#[0]⟩) x).map Value.string).toArray := by rw [← hlen]; exact Lib.cellsOf_full _
  rw [e2] at c
  exact c
theorem split0 (x : ByteArray) (w : World) (hs : x.size < 4294967281) :
    Calls Tryd.prog 58 #[.string x, .string ⟨#[0]⟩] w fun e w' =>
      e = .returned (.slice (some ⟨w.heap.size, 0, none⟩) (Lib.countB x ⟨#[0]⟩ + 1) (Lib.countB x ⟨#[0]⟩ + 1)) ∧ w' = w.alloc (.cells ((Lib.splitB ⟨#[0]⟩ 0 (Lib.countB x ⟨#[0]⟩) x).map Value.string).toArray 9) := by
  have HC := Lib.hid (gen0 x w hs)
  generalize Lib.countB x ⟨#[0]⟩ + 1 = n at *
  generalize ((Lib.splitB ⟨#[0]⟩ 0 (Lib.countB x ⟨#[0]⟩) x).map Value.string).toArray = cs at *
  go_enter Tryd.func58, Tryd.ntmps58
  go_wp2_with fail
  refine HC.out.mono ?_
  rintro e w1 ⟨rfl, rfl⟩
  go_wp2
  go_ret
  exact ⟨rfl, rfl⟩

set_option maxHeartbeats 800000 in
set_option maxRecDepth 100000 in
theorem asTexts_any (v : ByteArray) (w : World) (hv : v.size ≤ 4000000000) :
    Calls Tryd.prog 47 #[.string v] w fun e w' => ∃ A cap, e = .returned (.tuple #[.slice A (asT v.data.toList).length cap, .bool (okV v.data.toList)]) ∧ RdT w' A (baL (asT v.data.toList)) ∧ Below w.heap.size w w' := by
  obtain ⟨R, hR⟩ : ∃ R : Value → World → Prop, R = fun x w' => ∃ A cap, x = .tuple #[.slice A (asT v.data.toList).length cap, .bool (okV v.data.toList)] ∧ RdT w' A (baL (asT v.data.toList)) ∧ Below w.heap.size w w' := ⟨_, rfl⟩
  suffices H : Calls Tryd.prog 47 #[.string v] w (fun e w' => ∃ x, e = .returned x ∧ R x w') from H.mono fun e w' ⟨x, h1, h2⟩ => by
    rw [hR] at h2
    obtain ⟨A, cap, rfl, h3⟩ := h2
    exact ⟨A, cap, h1, h3⟩
  have hc := Tryd.strings_CutSuffix v ⟨#[0]⟩ w (by omega)
  rw [show (ByteArray.mk #[0]).data.toList = [0] from rfl, suf0] at hc
  obtain ⟨x, hx⟩ : ∃ x : ByteArray, x = ⟨(Lib.trimSuffix v.data.toList [0]).toArray⟩ := ⟨_, rfl⟩
  rw [← hx] at hc
  have HC := Lib.hid hc
  cases ho : okV v.data.toList with
  | false =>
    have ha : asT v.data.toList = [] := by unfold asT; rw [ho]; rfl
    have HE : Hid (R (.tuple #[.slice none 0 0, .bool false]) w) := by
      rw [hR, ho, ha]
      exact ⟨none, 0, rfl, .inl rfl, Below.refl _ _⟩
    rw [ho] at HC
    clear hR hx hc ha ho
    go_enter Tryd.func47, Tryd.ntmps47
    go_wp2_with fail
    refine HC.out.mono ?_
    rintro e w1 ⟨rfl, rfl⟩
    go_wp2
    go_ret2
    first | exact HE.out | exact ⟨_, rfl, HE.out⟩
  | true =>
    have hxl : x.data.toList = v.data.toList.take (v.data.toList.length - 1) := by
      rw [hx]
      unfold Lib.trimSuffix
      rw [suf0, ho]; rfl
    have hs := asT_split ho hxl
    have hn := asT_count ho hxl
    have hxs : x.size < 4294967281 := by
      have : x.size = (v.data.toList.take (v.data.toList.length - 1)).length := by rw [← hxl]; rfl
      have e : v.data.toList.length = v.size := rfl
      rw [List.length_take] at this
      omega
    have hp := split0 x w hxs
    rw [hs, ← hn] at hp
    have HP := Lib.hid hp
    have HE : Hid (R (.tuple #[.slice (some ⟨w.heap.size, 0, none⟩) (asT v.data.toList).length (asT v.data.toList).length, .bool true]) (w.alloc (.cells ((baL (asT v.data.toList)).map Value.string).toArray 9))) := by
      rw [hR, ho]
      exact ⟨_, _, rfl, rdT_new _ _ _, (Below.refl _ _).alloc (Nat.le_refl _) _⟩
    rw [ho] at HC
    clear hR hx hc ho hxl hs hn hxs hp
    generalize ((baL (asT v.data.toList)).map Value.string).toArray = cs at *
    generalize (asT v.data.toList).length = n at *
    go_enter Tryd.func47, Tryd.ntmps47
    go_wp2_with fail
    refine HC.out.mono ?_
    rintro e w1 ⟨rfl, rfl⟩
    go_wp2_with fail
    refine HP.out.mono ?_
    rintro e w2 ⟨rfl, rfl⟩
    go_wp2
    go_ret2
    first | exact HE.out | exact ⟨_, rfl, HE.out⟩

set_option maxHeartbeats 800000 in
set_option maxRecDepth 100000 in
theorem asText_any (v : ByteArray) (w : World) (hv : v.size ≤ 4000000000) :
    Calls Tryd.prog 34 #[.string v] w fun e w' => e = .returned (.tuple #[.string (asT1 v.data.toList).1, .bool (asT1 v.data.toList).2]) ∧ Below w.heap.size w w' := by
  have HT := Lib.hid (asTexts_any v w hv)
  have H1 : Hid (∀ x, okV v.data.toList = true → (asT v.data.toList).length = 1 → (baL (asT v.data.toList)).getD 0 ByteArray.empty = x → asT1 v.data.toList = (x, true)) := fun x h1 h2 h3 => by
    unfold asT1
    rw [if_pos ⟨h1, h2⟩, ← h3, baL_one h2]
  have H0 : Hid (¬ (okV v.data.toList = true ∧ (asT v.data.toList).length = 1) → asT1 v.data.toList = (⟨#[]⟩, false)) := fun h => if_neg h
  have HB := Lib.hid (baL_len (asT v.data.toList))
  generalize asT1 v.data.toList = Q at *
  generalize okV v.data.toList = ok at *
  generalize asT v.data.toList = T at *
  go_enter Tryd.func34, Tryd.ntmps34
  go_wp2_with fail
  refine HT.out.mono ?_
  rintro e w1 ⟨A, cap, rfl, hr, hb⟩
  have HR := Lib.hid hr
  have HBW := Lib.hid hb
  clear hr hb HT
  cases ok with
  | false =>
    have HE := Lib.hid (H0.out (fun h => by cases h.1))
    clear H1 H0
    go_wp2
    go_ret2
    exact ⟨by rw [HE.out]; rfl, HBW.out⟩
  | true =>
    by_cases h1 : T.length = 1
    · obtain ⟨b, off, x, rfl, hc, HX⟩ := HR.out.at_ (k := 0) (by rw [HB.out]; omega)
      have HE := Lib.hid (H1.out x rfl h1 HX.out)
      rw [Nat.add_zero] at hc
      clear H1 H0 HB HR HX
      rw [h1]
      clear h1
      go_wp2
      go_ret2
      exact ⟨by rw [HE.out]; rfl, HBW.out⟩
    · have HE := Lib.hid (H0.out (fun h => h1 h.2))
      have d1 : ((T.length : Int) != 1) = true := by simp; omega
      clear H1 H0 h1
      go_wp2
      go_ret2
      exact ⟨by rw [HE.out]; rfl, HBW.out⟩
theorem cut_is (s : ByteArray) : (if z0 s.data.toList < s.size then s.extract 0 (z0 s.data.toList) else s) = cutS s := by
  split
  · exact (cutS_ext rfl).symm
  · rename_i h
    exact (cutS_all (by have := z0_le s.data.toList; have e : s.data.toList.length = s.size := rfl; omega)).symm
theorem byte0 : Lib.byteCells [0] = [.int .u8 0] := rfl

end Go.Proofs.YtjphecfkjpfkeaaDoor
