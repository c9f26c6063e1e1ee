/- What package value's AsTexts, AsText and Texts return. Conditions: strings of at most 4,000,000,000 bytes; at most 1000 texts of at most 1,000,000 bytes. -/
import Derived.Test.YtflhondihccjeaaDoorVlD
import Derived.Test.YtflhondihccjeaaDoorVlS
import Derived.Test.YtflhondihccjeaaDoorStA
import Derived.Test.YtflhondihccjeaaDoorNumB
namespace Go.Proofs.YtflhondihccjeaaDoor
open Go.RowKit

/-- strings.Split at the byte 0. -/
theorem gen0 (x : ByteArray) (w : World) (hs : x.size < 4294967281) :
    Calls Tryd.prog 34 #[.string x, .string ⟨#[0]⟩, .int .i64 0, .int .i64 (-1)] w fun e w' =>
      e = .returned (.slice (some ⟨w.heap.size, 0, none⟩) (Lib.countB x ⟨#[0]⟩ + 1) (Lib.countB x ⟨#[0]⟩ + 1)) ∧ w' = w.alloc (.cells ((Lib.splitB ⟨#[0]⟩ 0 (Lib.countB x ⟨#[0]⟩) x).map Value.string).toArray 9) := by
  have hle := Lib.countB_le ⟨#[0]⟩ (by decide) x.size x (Nat.le_refl _)
  have hlen := Lib.splitB_all ⟨#[0]⟩ (by decide) 0 _ x rfl
  have c := Any.strings_genSplit_core Tryd.lays221 (by kernel_rfl) x ⟨#[0]⟩ 0 (-1) (Lib.countB x ⟨#[0]⟩ + 1) w hs (by decide) (Nat.zero_le _)
    (fun y c _ => (Tryd.strings_Index_one y 0 _).mono fun e w' ⟨he, hw⟩ => ⟨by rw [he]; exact congrArg (fun z => Ending.returned (Value.int .i64 z)) (Lib.index_one _ _).symm, hw⟩)
    ((Tryd.strings_Count_one x 0 w).mono fun e w' ⟨he, hw⟩ => ⟨by rw [he]; exact congrArg (fun z : Nat => Ending.returned (Value.int .i64 z)) (Lib.count_one _ _).symm, hw⟩)
    (by decide) (by decide) (by rw [if_pos (by decide)]; omega)
  rw [Nat.add_sub_cancel, hlen] at c
  have e2 : Lib.cellsOf (Lib.splitB ⟨#[0]⟩ 0 (Lib.countB x ⟨#[0]⟩) x) (Lib.countB x ⟨#[0]⟩ + 1) = ((Lib.splitB ⟨#[0]⟩ 0 (Lib.countB x ⟨#[0]⟩) x).map Value.string).toArray := by rw [← hlen]; exact Lib.cellsOf_full _
  rw [e2] at c
  exact c
theorem split0 (x : ByteArray) (w : World) (hs : x.size < 4294967281) :
    Calls Tryd.prog 26 #[.string x, .string ⟨#[0]⟩] w fun e w' =>
      e = .returned (.slice (some ⟨w.heap.size, 0, none⟩) (Lib.countB x ⟨#[0]⟩ + 1) (Lib.countB x ⟨#[0]⟩ + 1)) ∧ w' = w.alloc (.cells ((Lib.splitB ⟨#[0]⟩ 0 (Lib.countB x ⟨#[0]⟩) x).map Value.string).toArray 9) := by
  have HC := Lib.hid (gen0 x w hs)
  generalize Lib.countB x ⟨#[0]⟩ + 1 = n at *
  generalize ((Lib.splitB ⟨#[0]⟩ 0 (Lib.countB x ⟨#[0]⟩) x).map Value.string).toArray = cs at *
  go_enter Tryd.func26, Tryd.ntmps26
  go_wp2_with fail
  refine HC.out.mono ?_
  rintro e w1 ⟨rfl, rfl⟩
  go_wp2
  go_ret
  exact ⟨rfl, rfl⟩

set_option maxHeartbeats 800000 in
set_option maxRecDepth 100000 in
theorem asTexts_any (v : ByteArray) (w : World) (hv : v.size ≤ 4000000000) :
    Calls Tryd.prog 12 #[.string v] w fun e w' => ∃ A cap, e = .returned (.tuple #[.slice A (asT v.data.toList).length cap, .bool (okV v.data.toList)]) ∧ RdT w' A (baL (asT v.data.toList)) ∧ Below w.heap.size w w' := by
  obtain ⟨R, hR⟩ : ∃ R : Value → World → Prop, R = fun x w' => ∃ A cap, x = .tuple #[.slice A (asT v.data.toList).length cap, .bool (okV v.data.toList)] ∧ RdT w' A (baL (asT v.data.toList)) ∧ Below w.heap.size w w' := ⟨_, rfl⟩
  suffices H : Calls Tryd.prog 12 #[.string v] w (fun e w' => ∃ x, e = .returned x ∧ R x w') from H.mono fun e w' ⟨x, h1, h2⟩ => by
    rw [hR] at h2
    obtain ⟨A, cap, rfl, h3⟩ := h2
    exact ⟨A, cap, h1, h3⟩
  have hc := Tryd.strings_CutSuffix v ⟨#[0]⟩ w (by omega)
  rw [show (ByteArray.mk #[0]).data.toList = [0] from rfl, suf0] at hc
  obtain ⟨x, hx⟩ : ∃ x : ByteArray, x = ⟨(Lib.trimSuffix v.data.toList [0]).toArray⟩ := ⟨_, rfl⟩
  rw [← hx] at hc
  have HC := Lib.hid hc
  cases ho : okV v.data.toList with
  | false =>
    have ha : asT v.data.toList = [] := by unfold asT; rw [ho]; rfl
    have HE : Hid (R (.tuple #[.slice none 0 0, .bool false]) w) := by
      rw [hR, ho, ha]
      exact ⟨none, 0, rfl, .inl rfl, Below.refl _ _⟩
    rw [ho] at HC
    clear hR hx hc ha ho
    go_enter Tryd.func12, Tryd.ntmps12
    go_wp2_with fail
    refine HC.out.mono ?_
    rintro e w1 ⟨rfl, rfl⟩
    go_wp2
    go_ret2
    first | exact HE.out | exact ⟨_, rfl, HE.out⟩
  | true =>
    have hxl : x.data.toList = v.data.toList.take (v.data.toList.length - 1) := by
      rw [hx]
      unfold Lib.trimSuffix
      rw [suf0, ho]; rfl
    have hs := asT_split ho hxl
    have hn := asT_count ho hxl
    have hxs : x.size < 4294967281 := by
      have : x.size = (v.data.toList.take (v.data.toList.length - 1)).length := by rw [← hxl]; rfl
      have e : v.data.toList.length = v.size := rfl
      rw [List.length_take] at this
      omega
    have hp := split0 x w hxs
    rw [hs, ← hn] at hp
    have HP := Lib.hid hp
    have HE : Hid (R (.tuple #[.slice (some ⟨w.heap.size, 0, none⟩) (asT v.data.toList).length (asT v.data.toList).length, .bool true]) (w.alloc (.cells ((baL (asT v.data.toList)).map Value.string).toArray 9))) := by
      rw [hR, ho]
      exact ⟨_, _, rfl, rdT_new _ _ _, (Below.refl _ _).alloc (Nat.le_refl _) _⟩
    rw [ho] at HC
    clear hR hx hc ho hxl hs hn hxs hp
    generalize ((baL (asT v.data.toList)).map Value.string).toArray = cs at *
    generalize (asT v.data.toList).length = n at *
    go_enter Tryd.func12, Tryd.ntmps12
    go_wp2_with fail
    refine HC.out.mono ?_
    rintro e w1 ⟨rfl, rfl⟩
    go_wp2_with fail
    refine HP.out.mono ?_
    rintro e w2 ⟨rfl, rfl⟩
    go_wp2
    go_ret2
    first | exact HE.out | exact ⟨_, rfl, HE.out⟩

set_option maxHeartbeats 800000 in
set_option maxRecDepth 100000 in
theorem asText_any (v : ByteArray) (w : World) (hv : v.size ≤ 4000000000) :
    Calls Tryd.prog 14 #[.string v] w fun e w' => e = .returned (.tuple #[.string (asT1 v.data.toList).1, .bool (asT1 v.data.toList).2]) ∧ Below w.heap.size w w' := by
  have HT := Lib.hid (asTexts_any v w hv)
  have H1 : Hid (∀ x, okV v.data.toList = true → (asT v.data.toList).length = 1 → (baL (asT v.data.toList)).getD 0 ByteArray.empty = x → asT1 v.data.toList = (x, true)) := fun x h1 h2 h3 => by
    unfold asT1
    rw [if_pos ⟨h1, h2⟩, ← h3, baL_one h2]
  have H0 : Hid (¬ (okV v.data.toList = true ∧ (asT v.data.toList).length = 1) → asT1 v.data.toList = (⟨#[]⟩, false)) := fun h => if_neg h
  have HB := Lib.hid (baL_len (asT v.data.toList))
  generalize asT1 v.data.toList = Q at *
  generalize okV v.data.toList = ok at *
  generalize asT v.data.toList = T at *
  go_enter Tryd.func14, Tryd.ntmps14
  go_wp2_with fail
  refine HT.out.mono ?_
  rintro e w1 ⟨A, cap, rfl, hr, hb⟩
  have HR := Lib.hid hr
  have HBW := Lib.hid hb
  clear hr hb HT
  cases ok with
  | false =>
    have HE := Lib.hid (H0.out (fun h => by cases h.1))
    clear H1 H0
    go_wp2
    go_ret2
    exact ⟨by rw [HE.out]; rfl, HBW.out⟩
  | true =>
    by_cases h1 : T.length = 1
    · obtain ⟨b, off, x, rfl, hc, HX⟩ := HR.out.at_ (k := 0) (by rw [HB.out]; omega)
      have HE := Lib.hid (H1.out x rfl h1 HX.out)
      rw [Nat.add_zero] at hc
      clear H1 H0 HB HR HX
      rw [h1]
      clear h1
      go_wp2
      go_ret2
      exact ⟨by rw [HE.out]; rfl, HBW.out⟩
    · have HE := Lib.hid (H0.out (fun h => h1 h.2))
      have d1 : ((T.length : Int) != 1) = true := by simp; omega
      clear H1 H0 h1
      go_wp2
      go_ret2
      exact ⟨by rw [HE.out]; rfl, HBW.out⟩
theorem cut_is (s : ByteArray) : (if z0 s.data.toList < s.size then s.extract 0 (z0 s.data.toList) else s) = cutS s := by
  split
  · exact (cutS_ext rfl).symm
  · rename_i h
    exact (cutS_all (by have := z0_le s.data.toList; have e : s.data.toList.length = s.size := rfl; omega)).symm
theorem byte0 : Lib.byteCells [0] = [.int .u8 0] := rfl

set_option maxHeartbeats 800000 in
set_option maxRecDepth 100000 in
theorem texts_any (A : Option Addr) (cap : Nat) (l : List ByteArray) (w : World) (hr : RdT w A l) (hl : l.length ≤ 1000) (hz : ∀ k, k < l.length → (l.getD k ByteArray.empty).size ≤ 1000000) :
    Calls Tryd.prog 19 #[.slice A l.length cap] w fun e w' => e = .returned (.string ⟨(txtB l).toArray⟩) ∧ Below w.heap.size w w' := by
  have hI0 := Lib.fresh_isBuilder 50 5 w
  have HR := Lib.hid hr
  have HZ := Lib.hid hz
  have HT := Lib.hid (fun k (hk : k < l.length) x (hx : l.getD k ByteArray.empty = x) => txt_snoc l hk hx)
  have HA : Hid (l.take l.length = l) := List.take_length
  clear hr hz
  go_enter Tryd.func19, Tryd.ntmps19
  go_wp2
  go_loopw [11] (fun i wr => ∃ k : Nat, k ≤ l.length ∧ i = .int .i64 k ∧ ∃ S : List UInt8, Hid (S = txtB (l.take k)) ∧ Lib.IsBuilder 50 5 w.heap.size w.heap.size (Lib.byteCells S) wr ∧ S.length ≤ k * 1000001 ∧ Below w.heap.size w wr)
    (fun i _ => l.length - (intOf i).toNat)
  case atStart => exact ⟨0, Nat.zero_le _, rfl, [], rfl, hI0, Nat.zero_le _, (Below.refl _ _).alloc (Nat.le_refl _) _⟩
  case round =>
    obtain ⟨k, hk, rfl, S, HS, hI, hS, hb⟩ := hrel
    clear hI0
    have hsz := hb.size
    by_cases hlt : k < l.length
    · obtain ⟨b, off, x, rfl, hc, HX⟩ := (HR.out.below hb).at_ hlt
      have hx1 := HZ.out k hlt
      have hts := HT.out k hlt x HX.out
      rw [HX.out] at hx1
      have hcz : (cutL x.data.toList).length ≤ 1000000 := by rw [cutL_len]; exact Nat.le_trans (z0_le _) hx1
      have HCU := Lib.hid (fun W => scut0_any x W (by unfold maxLen; exact Nat.le_trans hx1 (by decide)))
      rw [cut_is] at HCU
      have hcs : (cutS x).data.toList = cutL x.data.toList := cutS_list x
      have HS2 : Hid (S ++ cutL x.data.toList ++ [0] = txtB (l.take (k + 1))) := by
        unfold Hid
        rw [hts, HS.out, List.append_assoc]
      have hcs2 : (cutS x).size = (cutL x.data.toList).length := by rw [← hcs]; rfl
      have HCS := Lib.hid hcs
      generalize cutL x.data.toList = C at *
      generalize cutS x = D at *
      clear hcs hts HX HS hx1
      have hbs : (Lib.byteCells S).length ≤ 1000000000 := by rw [Lib.byteCells_length]; omega
      have hbs2 : (Lib.byteCells (S ++ C)).length ≤ 1001000000 := by rw [Lib.byteCells_length, List.length_append]; omega
      go_wp2_with fail
      refine (HCU.out _).mono ?_
      rintro e w1 ⟨⟨r, rfl⟩, n, rfl⟩
      have hI1 := isBuilder_below hI (below_drewN wr n)
      have hb1 : Below w.heap.size w (wr.drewN n) := hb.trans ((below_drewN wr n).mono hsz)
      have hs1 := hb1.size
      clear hI hb hsz
      go_wp2_with fail
      refine (Tryd.Builder_WriteString w.heap.size w.heap.size _ _ _ hI1 (by omega) (by omega)).mono ?_
      rintro e w2 ⟨rfl, hI2, hb2⟩
      rw [show Lib.strCells D = Lib.byteCells D.data.toList from rfl, HCS.out, ← Lib.byteCells_append] at hI2
      have hb3 : Below w.heap.size w w2 := hb1.trans hb2
      have hs2 := hb3.size
      have hI2' : Lib.IsBuilder 50 5 w.heap.size w.heap.size (Lib.byteCells (S ++ C)) w2 := .inr hI2
      clear hI1 hb1 hb2 hs1 hI2
      go_wp2_with fail
      refine (Tryd.Builder_WriteString w.heap.size w.heap.size _ ⟨#[0]⟩ _ hI2' (by show _ + 1 ≤ _; omega) (by omega)).mono ?_
      rintro e w3 ⟨rfl, hI3, hb4⟩
      have hb5 : Below w.heap.size w w3 := hb3.trans hb4
      clear hb3 hb4 hI2' hs2 hc
      go_wp2
      go_roundw
      case rel =>
        refine ⟨k + 1, by omega, by go_num, _, HS2, ?_, ?_, hb5⟩
        · rw [Lib.byteCells_append]
          exact .inr hI3
        · rw [List.length_append, List.length_append, List.length_singleton]; omega
      case measure => simp [intOf]; omega
    · have hkl : k = l.length := by omega
      subst hkl
      rw [HA.out] at HS
      have hSS : S = txtB l := HS.out
      subst hSS
      clear HS
      go_wp2_with fail
      refine (Tryd.Builder_String_any w.heap.size w.heap.size _ _ hI (by omega)).mono ?_
      rintro e w2 ⟨rfl, hb2⟩
      go_wp2
      go_ret
      exact ⟨rfl, hb.trans hb2⟩
end Go.Proofs.YtflhondihccjeaaDoor
