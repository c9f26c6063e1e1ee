/- NumBack returns true for all strings and every number. Conditions: the library's table uint64pow10 and its two error variables hold what their initialisers lay. -/
import Derived.Test.YtjohbbaoaffgnaaDoorNumBackPlain
namespace Go.Proofs.YtjohbbaoaffgnaaDoor
open Go.RowKit

theorem toArr (s : ByteArray) : (⟨s.data.toList.toArray⟩ : ByteArray) = s := by cases s; simp
theorem rd3 (w : World) (n : Int) : RdI (w.heap.size + 1) (w.alloc (.cells #[.int .i64 n, .int .i64 0, .int .i64 n] 3)) (some ⟨w.heap.size, 0, none⟩) [n, 0, n] := by
  refine .inr ⟨_, _, rfl, by omega, fun k hk => ?_⟩
  rw [Nat.zero_add, World.cell?_alloc_mark]
  match k, hk with
  | 0, _ => rfl
  | 1, _ => rfl
  | 2, _ => rfl

set_option maxHeartbeats 1600000 in
set_option maxRecDepth 100000 in
theorem numBack_main (s t : ByteArray) (n : Int) (w : World) (hs : s.size ≤ 200) (ht2 : t.size ≤ 200) (h0 : -9223372036854775808 ≤ n) (h1 : n ≤ 9223372036854775807) (ht : Tab w) (he : Errs w) :
    Calls Tryd.prog 5 #[.string s, .string t, .int .i64 n] w fun e w' => e = .returned (.bool true) ∧ Below w.heap.size w w' := by
  have HT := Lib.hid ht
  have HE := Lib.hid he
  clear ht he
  go_enter Tryd.func5, Tryd.ntmps5
  go_wp2_with fail
  refine (hex_any s w (by omega)).mono ?_
  rintro e w1 ⟨rfl, c1⟩
  have hsl : s.data.toList.length = s.size := rfl
  have HL := Lib.hid hsl
  clear hsl
  have hfh := fromhex_yes (hexB s.data.toList) s.data.toList.length w1 (by rw [hexB_size]) (by rw [hexB_size, HL.out]; omega) (hexB_ok _)
  rw [unhex_hexB, toArr] at hfh
  have HF := Lib.hid hfh
  clear hfh
  go_wp2_with fail
  refine HF.out.mono ?_
  clear HF
  rintro e w2 ⟨rfl, hb2⟩
  have c2 := c1.trans (hb2.mono c1.size)
  clear c1 hb2
  go_wp2_with fail
  refine (dec_any n w2 h0 h1 (HT.out.below c2)).mono ?_
  rintro e w3 ⟨rfl, hb3⟩
  have c3 := c2.trans (hb3.mono c2.size)
  clear c2 hb3
  go_wp2_with fail
  refine (fromdec_some _ n w3 (by rw [size_mk]; have := itoa_len n h0 h1; omega) (HT.out.below c3) (HE.out.below c3) (decOf_itoa n h0 h1)).mono ?_
  rintro e w4 ⟨rfl, hb4⟩
  have c4 := c3.trans (hb4.mono c3.size)
  clear c3 hb4
  have hr3 := rd3 w4 n
  have c5 := c4.alloc c4.size (.cells #[.int .i64 n, .int .i64 0, .int .i64 n] 3)
  go_wp2_with fail
  refine (bigs_any _ _ [n, 0, n] _ (by simp) (by simpa using hr3)).mono ?_
  rintro e w6 ⟨rfl, hb6⟩
  have c6 := c5.trans (hb6.mono c5.size)
  clear c4 c5 hb6 hr3
  go_wp2_with fail
  refine (frombigs_yes _ 3 w6 (by rw [size_mk]; rfl) (by rw [size_mk]; show 12 ≤ _; omega)).mono ?_
  rintro e w7 ⟨v, rfl, hown, hb7⟩
  have c7 := c6.trans (hb7.mono c6.size)
  clear c6 hb7
  rw [nums_three] at hown
  obtain ⟨A, cap, rfl, hrd⟩ := rdI_of_own hown
  rcases hrd with h | ⟨b, off, rfl, hbl, hc⟩
  · simp at h
  have k0 := hc 0 (by simp)
  have k1 := hc 1 (by simp)
  have k2 := hc 2 (by simp)
  clear hc hown hbl
  simp only [List.getD_cons_zero, List.getD_cons_succ, Nat.add_zero] at k0 k1 k2
  generalize hx : n % 4294967296 = x at k0 k2
  have x0 : 0 ≤ x := by omega
  have x1 : x < 4294967296 := by omega
  have q1 : IntKind.i64.wrap x = x := IntWalk.i64_in _ (by omega)
  go_wp2
  go_quiet (fail)
  have c8 := c7.trans ((below_drewN w7 nq).mono c7.size)
  generalize w7.drewN nq = w8 at c8 ⊢
  clear c7 k0 k1 k2 q1 hx x0 x1
  by_cases hxo : HexOk t
  · have HXO := Lib.hid hxo
    clear hxo
    cases hd : decOf t.data.toList with
    | none =>
      have HD := Lib.hid hd
      clear hd
      go_wp2_with fail
      refine (fromhex_yes t (t.size / 2) w8 (by have := HXO.out.1; omega) (by omega) HXO.out.2).mono ?_
      rintro e w9 ⟨rfl, hb9⟩
      have c9 := c8.trans (hb9.mono c8.size)
      clear c8 hb9
      go_wp2_with fail
      refine (fromdec_none t w9 (by omega) (HT.out.below c9) (HE.out.below c9) HD.out).mono ?_
      rintro e w10 ⟨rfl, hb10⟩
      have c10 := c9.trans (hb10.mono c9.size)
      clear c9 hb10
      go_wp2_with fail
      refine (hex_any _ w10 (by rw [size_mk, unhex_length]; omega)).mono ?_
      rintro e w11 ⟨rfl, hb11⟩
      rw [show (ByteArray.mk (unhex t (t.size / 2)).toArray).data.toList = unhex t (t.size / 2) from rfl, hex_unhex t HXO.out, toArr]
      have c11 := c10.trans (hb11.mono c10.size)
      clear c10 hb11
      go_wp2_with fail
      refine (awake01 w11 (HT.out.below c11)).mono ?_
      rintro e w13 ⟨rfl, hb13⟩
      have c13 := c11.trans (hb13.mono c11.size)
      clear c11 hb13
      go_wp2
      go_ret
      exact ⟨rfl, c13⟩
    | some v =>
      have HD := Lib.hid hd
      have HI := Lib.hid (itoa_of_decOf hd).1
      have HB := Lib.hid (itoa_of_decOf hd).2
      clear hd
      go_wp2_with fail
      refine (fromhex_yes t (t.size / 2) w8 (by have := HXO.out.1; omega) (by omega) HXO.out.2).mono ?_
      rintro e w9 ⟨rfl, hb9⟩
      have c9 := c8.trans (hb9.mono c8.size)
      clear c8 hb9
      go_wp2_with fail
      refine (fromdec_some t v w9 (by omega) (HT.out.below c9) (HE.out.below c9) HD.out).mono ?_
      rintro e w10 ⟨rfl, hb10⟩
      have c10 := c9.trans (hb10.mono c9.size)
      clear c9 hb10
      go_wp2_with fail
      refine (hex_any _ w10 (by rw [size_mk, unhex_length]; omega)).mono ?_
      rintro e w11 ⟨rfl, hb11⟩
      rw [show (ByteArray.mk (unhex t (t.size / 2)).toArray).data.toList = unhex t (t.size / 2) from rfl, hex_unhex t HXO.out, toArr]
      have c11 := c10.trans (hb11.mono c10.size)
      clear c10 hb11
      go_wp2_with fail
      refine (dec_any v w11 HB.out.1 HB.out.2 (HT.out.below c11)).mono ?_
      rintro e w12 ⟨rfl, hb12⟩
      rw [HI.out, toArr]
      have c12 := c11.trans (hb12.mono c11.size)
      clear c11 hb12
      go_wp2_with fail
      refine (awake01 w12 (HT.out.below c12)).mono ?_
      rintro e w13 ⟨rfl, hb13⟩
      have c13 := c12.trans (hb13.mono c12.size)
      clear c12 hb13
      go_wp2
      go_ret
      exact ⟨rfl, c13⟩
  · have HXO := Lib.hid hxo
    clear hxo
    cases hd : decOf t.data.toList with
    | none =>
      have HD := Lib.hid hd
      clear hd
      have hfh := fromhex_all t w8 (by omega)
      rw [show fhL t = [] from if_neg HXO.out, show fhB t = false from by simpa [fhB] using HXO.out] at hfh
      have HFH := Lib.hid hfh
      clear hfh
      go_wp2_with fail
      refine HFH.out.mono ?_
      clear HFH
      rintro e w9 ⟨rfl, hb9⟩
      have c9 := c8.trans (hb9.mono c8.size)
      clear c8 hb9
      go_wp2_with fail
      refine (fromdec_none t w9 (by omega) (HT.out.below c9) (HE.out.below c9) HD.out).mono ?_
      rintro e w10 ⟨rfl, hb10⟩
      have c10 := c9.trans (hb10.mono c9.size)
      clear c9 hb10
      go_wp2_with fail
      refine (awake01 w10 (HT.out.below c10)).mono ?_
      rintro e w13 ⟨rfl, hb13⟩
      have c13 := c10.trans (hb13.mono c10.size)
      clear c10 hb13
      go_wp2
      go_ret
      exact ⟨rfl, c13⟩
    | some v =>
      have HD := Lib.hid hd
      have HI := Lib.hid (itoa_of_decOf hd).1
      have HB := Lib.hid (itoa_of_decOf hd).2
      clear hd
      have hfh := fromhex_all t w8 (by omega)
      rw [show fhL t = [] from if_neg HXO.out, show fhB t = false from by simpa [fhB] using HXO.out] at hfh
      have HFH := Lib.hid hfh
      clear hfh
      go_wp2_with fail
      refine HFH.out.mono ?_
      clear HFH
      rintro e w9 ⟨rfl, hb9⟩
      have c9 := c8.trans (hb9.mono c8.size)
      clear c8 hb9
      go_wp2_with fail
      refine (fromdec_some t v w9 (by omega) (HT.out.below c9) (HE.out.below c9) HD.out).mono ?_
      rintro e w10 ⟨rfl, hb10⟩
      have c10 := c9.trans (hb10.mono c9.size)
      clear c9 hb10
      go_wp2_with fail
      refine (dec_any v w10 HB.out.1 HB.out.2 (HT.out.below c10)).mono ?_
      rintro e w12 ⟨rfl, hb12⟩
      rw [HI.out, toArr]
      have c12 := c10.trans (hb12.mono c10.size)
      clear c10 hb12
      go_wp2_with fail
      refine (awake01 w12 (HT.out.below c12)).mono ?_
      rintro e w13 ⟨rfl, hb13⟩
      have c13 := c12.trans (hb13.mono c12.size)
      clear c12 hb13
      go_wp2
      go_ret
      exact ⟨rfl, c13⟩

set_option maxHeartbeats 400000 in
theorem numBack_any (s t : ByteArray) (n : Int) (w : World) (hs : s.size ≤ maxLen) (hs2 : t.size ≤ maxLen) (h0 : -9223372036854775808 ≤ n) (h1 : n ≤ 9223372036854775807) (ht : Tab w) (he : Errs w) :
    Calls Tryd.prog 5 #[.string s, .string t, .int .i64 n] w fun e w' => e = .returned (.bool true) ∧ Below w.heap.size w w' := by
  unfold maxLen at hs hs2
  by_cases h2 : s.size ≤ 200
  · by_cases h3 : t.size ≤ 200
    · exact numBack_main s t n w h2 h3 h0 h1 ht he
    · have HT := Lib.hid ht
      clear ht he
      go_enter Tryd.func5, Tryd.ntmps5
      go_wp2_with fail
      refine (awake01 w HT.out).mono ?_
      rintro e w8 ⟨rfl, hb8⟩
      go_wp2
      go_ret
      exact ⟨rfl, hb8⟩
  · have HT := Lib.hid ht
    clear ht he
    go_enter Tryd.func5, Tryd.ntmps5
    go_wp2_with fail
    refine (awake01 w HT.out).mono ?_
    rintro e w8 ⟨rfl, hb8⟩
    go_wp2
    go_ret
    exact ⟨rfl, hb8⟩
end Go.Proofs.YtjohbbaoaffgnaaDoor
