/- What package grammar's checkNames returns, over any function that tells which names are right. Conditions: a slice of the call's own, of at most 2^40 strings. -/
import Derived.Test.YtmgfnghegcfhnaaMg35
import Derived.Test.YtmgfnghegcfhnaaMg36
import Derived.Test.YtmgfnghegcfhnaaGmQ
import Derived.Shelf.Abstract
import Derived.Sort.OwnSorted
import Derived.Sort.Grow
import Derived.Lib.OwnBridge
namespace Go.Proofs.Ytmgfnghegcfhnaa
open Go.RowKit Go.Sort

theorem row_rdT19 {w : World} {base e : Nat} {v : Value} {l : List ByteArray} (h : w.ownsRow base e 1 v l.length (l.map Value.string)) : ∃ A cap, v = .slice A l.length cap ∧ RdT w A l := by
  rcases h.2 with ⟨rfl, hz⟩ | ⟨g, cap, cur, rfl, hb, hg, _, _, _, hx⟩
  · exact ⟨none, 0, by rw [hz], .inl (List.length_eq_zero_iff.1 hz)⟩
  · refine ⟨_, cap, rfl, .inr ⟨g, 0, rfl, fun k hk => ?_⟩⟩
    rw [Nat.zero_add, cell_of_row w g k cur _ (0, 0) hg]
    have e : (cur.toList.take (l.length * 1))[k]? = (l.map Value.string)[k]? := by rw [hx]
    rw [List.getElem?_take_of_lt (by omega), Array.getElem?_toList, List.getElem?_map, List.getElem?_eq_getElem hk] at e
    rw [e, List.getD_eq_getElem?_getD, List.getElem?_eq_getElem hk]
    rfl

set_option maxHeartbeats 3200000 in
set_option maxRecDepth 100000 in
theorem checkNames_any (g : Nat) (eg : ∀ args w, (callFunc g args).run Try.prog w = .ok (.enter g args) w) (f : List UInt8 → Bool) (B : Nat) (v : Value) (N : List ByteArray) (w : World) (hown : w.ownsRow B 9 1 v N.length (N.map Value.string)) (hB : B ≤ w.heap.size) (hl : N.length ≤ 1099511627776) (hs : ∀ k, k < N.length → (N.getD k ByteArray.empty).size ≤ 1099511627776)
    (hp : ∀ (s : ByteArray) (W : World), s.size ≤ 1099511627776 → Calls Try.prog g #[.string s] W fun e w' => e = .returned (.bool (f s.data.toList)) ∧ Below W.heap.size W w') :
    Calls Try.prog 40 #[v, .func (.func g) #[] #[]] w fun e w' => e = .returned (.int .i64 (names19 f N : Nat)) ∧ Below B w w' := by
  obtain ⟨A, cap, hv, hr⟩ := row_rdT19 hown
  have HR := Lib.hid hr
  have HS := Lib.hid hs
  have HP := Lib.hid hp
  have HOWN := Lib.hid hown
  have HBAD : Hid (∀ k, k < N.length → f (N.getD k ByteArray.empty).data.toList = false → names19 f N = 6) := fun k h1 h2 => names19_bad h1 h2
  have HALL : Hid ((∀ k, k < N.length → f (N.getD k ByteArray.empty).data.toList = true) → names19 f N = if (Lib.compact ((N.map (·.data.toList)).mergeSort fun x y => decide (x ≤ y))).length < N.length then 12 else 0) := fun h => names19_all h
  generalize names19 f N = R at *
  clear hr hs hp hown
  by_cases hnil : v = .slice none 0 0
  · have hN0 : N.length = 0 := by rw [hnil] at hv; injection hv with _ h2 _; exact h2.symm
    have hN : N = [] := List.length_eq_zero_iff.1 hN0
    have HR0 : Hid (R = 0) := by
      have := HALL.out (fun k hk => by omega)
      rw [hN] at this
      exact this
    subst hN hnil
    have HSO := Lib.hid (fun W => Try.slices_Sort_string_none none 0 W)
    have HCO := Lib.hid (fun W => Try.slices_Compact_string_empty none 0 W)
    have HB0 := Lib.hid (Below.refl B w)
    clear HR HS HP HOWN HBAD HALL hv
    go_enter Try.func40, Try.ntmps40
    go_wp2
    go_loopw [9] (fun iv wr => iv = .int .i64 0 ∧ wr = w) (fun _ _ => 0)
    case atStart => exact ⟨rfl, rfl⟩
    case round =>
      obtain ⟨rfl, rfl⟩ := hrel
      go_wp2_with (first
        | (go_at_call 47; refine (HSO.out _).mono ?_; rintro e w1 ⟨rfl, rfl⟩)
        | (go_at_call 48; refine (HCO.out _).mono ?_; rintro e w1 ⟨rfl, rfl⟩))
      go_ret
      exact ⟨by rw [HR0.out]; rfl, HB0.out⟩
  · obtain ⟨g9, cap9, hv9, hbg, hgl, hncap, hcm, hlen, _⟩ := Lib.holds_of_ownsRow (enc := Value.string) HOWN.out hnil
    subst hv9
    injection hv with eA _ eC
    subst eA eC
    have hlt9 : N.length ≤ 9223372036854775807 := by omega
    have HNN := Lib.hid hnil
    clear hnil hcm hlen
    go_enter Try.func40, Try.ntmps40
    go_wp2
    go_loopw [9] (fun iv wr => ∃ j : Nat, j ≤ N.length ∧ iv = .int .i64 j ∧ Hid (∀ k, k < j → f (N.getD k ByteArray.empty).data.toList = true) ∧ Below w.heap.size w wr) (fun iv _ => N.length - (intOf iv).toNat)
    case atStart => exact ⟨0, Nat.zero_le _, rfl, fun k h => absurd h (Nat.not_lt_zero _), Below.refl _ _⟩
    case round =>
      obtain ⟨j, hj, rfl, HJ, hb⟩ := hrel
      have HBR := Lib.hid hb
      by_cases hlt : j < N.length
      · have hji : (j : Int) < N.length := by omega
        obtain ⟨b, off, x, hA, hc, HX⟩ := (HR.out.below hb).at_ hlt
        injection hA with hA
        injection hA with e1 e2
        subst e1 e2
        rw [Nat.zero_add] at hc
        have hx := HS.out j hlt
        rw [HX.out] at hx
        have hcall := HP.out x wr hx
        have HB1 := Lib.hid (HBAD.out j hlt)
        rw [HX.out] at HB1
        have HJ1 : Hid (f x.data.toList = true → ∀ k, k < j + 1 → f (N.getD k ByteArray.empty).data.toList = true) := fun h k hk => by
          by_cases e : k = j
          · rw [e, HX.out]; exact h
          · exact HJ.out k (by omega)
        generalize f x.data.toList = fx at *
        clear HX hb hx HJ
        cases fx with
        | true =>
          have HK := Lib.hid (HJ1.out rfl)
          clear HJ1 HB1
          go_wp2_with (go_at_fn g; refine hcall.mono ?_; rintro e w' ⟨rfl, hb'⟩; have HB2 := Lib.hid (HBR.out.trans (hb'.mono HBR.out.size)); clear hb')
          go_roundw
          case rel => exact ⟨j + 1, by omega, by go_num, HK.out, HB2.out⟩
          case measure => simp [intOf]; omega
        | false =>
          have HV := Lib.hid (HB1.out rfl)
          clear HJ1 HB1
          go_wp2_with (go_at_fn g; refine hcall.mono ?_; rintro e w' ⟨rfl, hb'⟩; have HB2 := Lib.hid (HBR.out.trans (hb'.mono HBR.out.size)); clear hb')
          go_ret
          exact ⟨by rw [HV.out]; rfl, HB2.out.mono hB⟩
      · obtain rfl : j = N.length := by omega
        have HV := Lib.hid (HALL.out HJ.out)
        have ho := ow_below HOWN.out hb
        rw [← Lib.map_encStr] at ho
        obtain ⟨ss, hss⟩ : ∃ ss, ss = N.map (·.data.toList) := ⟨_, rfl⟩
        rw [← hss] at ho HV
        obtain ⟨g8, cap8, hv8, hb8, hg8, _, _, hlen, hH⟩ := Lib.holds_of_ownsRow ho HNN.out
        injection hv8 with e1 _ e3
        injection e1 with e1
        injection e1 with e1
        subst e1 e3
        have hso := Try.slices_Sort_string g9 0 cap9 ss wr hH hg8 (by omega)
        obtain ⟨ts, hts⟩ : ∃ ts, ts = ss.mergeSort fun x y => decide (x ≤ y) := ⟨_, rfl⟩
        rw [← hts] at hso HV
        rw [hlen] at hso
        have hl2 : ts.length = N.length := by rw [hts, List.length_mergeSort, hlen]
        have HSO := Lib.hid hso
        have HCO : Hid (∀ nn os, Calls Try.prog 48 #[.slice (some ⟨g9, 0, none⟩) N.length cap9] (grow (putRow encStr (Sort.ahead wr nn) g9 0 ts.toArray) os) fun e w' => e = .returned (.slice (some ⟨g9, 0, none⟩) (Lib.compact ts).length cap9) ∧ Below B w w') := fun nn os => by
          have hH2 : Holds encStr (grow (putRow encStr (Sort.ahead wr nn) g9 0 ts.toArray) os) g9 0 ts.toArray :=
            holds_grow encStr _ os g9 0 _ (by simpa [putRow, mapBlock, Sort.ahead] using hg8) (holds_putRow encStr _ g9 0 _ _ (holds_ahead encStr wr nn g9 0 _ hH) (by simp [hl2, hlen]))
          have hc := Try.slices_Compact_string g9 0 cap9 ts _ hH2 (by omega) (by omega)
          rw [hl2] at hc
          refine hc.mono ?_
          rintro e w' ⟨rfl, q, rfl⟩
          have hbw : Below B w wr := HBR.out.mono hB
          exact ⟨rfl, Lib.below_putRow (hbw.grown (grownBy_sorted _) (Nat.le_trans hB HBR.out.size) (fun j hj => by cases hj; exact hbg)) hbg⟩
        clear hb ho hss hts hso hl2 hH hlen HOWN HALL HBAD HP HS HJ HNN
        by_cases hcl : (Lib.compact ts).length < N.length
        · have hci : decide (((Lib.compact ts).length : Int) < (N.length : Int)) = true := decide_eq_true (by omega)
          have hcn : decide ((Lib.compact ts).length < N.length) = true := decide_eq_true hcl
          rw [if_pos hcl] at HV
          clear hcl
          go_wp2_with fail
          refine HSO.out.mono ?_
          rintro e w1 ⟨rfl, nn, os, rfl⟩
          have HC := Lib.hid (HCO.out nn os)
          clear HCO HSO
          generalize (grow (putRow encStr (Sort.ahead wr nn) g9 0 ts.toArray) os) = W8 at *
          go_wp2_with fail
          refine HC.out.mono ?_
          rintro e w2 ⟨rfl, hb2⟩
          go_wp2
          go_ret
          exact ⟨by rw [HV.out]; rfl, hb2⟩
        · have hci : decide (((Lib.compact ts).length : Int) < (N.length : Int)) = false := decide_eq_false (by omega)
          have hcn : decide ((Lib.compact ts).length < N.length) = false := decide_eq_false hcl
          rw [if_neg hcl] at HV
          clear hcl
          go_wp2_with fail
          refine HSO.out.mono ?_
          rintro e w1 ⟨rfl, nn, os, rfl⟩
          have HC := Lib.hid (HCO.out nn os)
          clear HCO HSO
          generalize (grow (putRow encStr (Sort.ahead wr nn) g9 0 ts.toArray) os) = W8 at *
          go_wp2_with fail
          refine HC.out.mono ?_
          rintro e w2 ⟨rfl, hb2⟩
          go_wp2
          go_ret
          exact ⟨by rw [HV.out]; rfl, hb2⟩
end Go.Proofs.Ytmgfnghegcfhnaa
