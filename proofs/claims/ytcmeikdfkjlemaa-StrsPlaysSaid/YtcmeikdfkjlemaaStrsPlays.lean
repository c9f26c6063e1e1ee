/- The law StrsPlays: whatever comes in it returns true. Conditions: a slice that reads as strings, each of which fits; a string that fits; a place of 64 bits. -/
import Derived.Test.YtcmeikdfkjlemaaStH
namespace Go.Proofs.Ytcmeikdfkjlemaa
open Go.RowKit

/-- A Block beside the document's. -/
def Pl9 (w W : World) (gb gx : Nat) (L : List ByteArray) : Prop :=
  ∃ v m lv av, BK W gb v m L ∧ RX W gx lv av L ∧ (∀ k, fpB gb v m k → w.heap.size ≤ k) ∧ (∀ k, fpX gx lv av k → w.heap.size ≤ k) ∧ Below w.heap.size w W
theorem fp_apart {W : World} {gb gx : Nat} {v lv av : Value} {m : Option Nat} {L L' : List ByteArray} (h : BK W gb v m L) (h' : RX W gx lv av L') {k : Nat} (hx : fpX gx lv av k) : ¬ fpB gb v m k := by
  obtain ⟨h1, h2, h3, _⟩ := h'
  rcases hx with rfl | hk | hk
  · exact h.not_arr h1 (by decide) (by decide)
  · exact h.not_row h2 (by decide) (by decide) hk
  · exact h.not_row h3 (by decide) (by decide) hk
section
variable {w W W' : World} {gb gx : Nat} {L : List ByteArray}
theorem Pl9.below (h : Pl9 w W gb gx L) (hb : Below W.heap.size W W') : Pl9 w W' gb gx L := by
  obtain ⟨v, m, lv, av, h1, h2, h3, h4, h5⟩ := h
  exact ⟨v, m, lv, av, h1.below hb, h2.below hb, h3, h4, h5.trans (hb.mono h5.size)⟩
theorem Pl9.bel (h : Pl9 w W gb gx L) : Below w.heap.size w W := by obtain ⟨v, m, lv, av, h1, h2, h3, h4, h5⟩ := h; exact h5
/-- Behind the Block's own Add: the document's is one step behind. -/
def Pm9 (w W : World) (gb gx : Nat) (L L' : List ByteArray) : Prop :=
  ∃ v m lv av, BK W gb v m L' ∧ RX W gx lv av L ∧ (∀ k, fpB gb v m k → w.heap.size ≤ k) ∧ (∀ k, fpX gx lv av k → w.heap.size ≤ k) ∧ Below w.heap.size w W
theorem pl9_add (h : Pl9 w W gb gx L) (s : ByteArray) (hs : s.size ≤ maxLen) (hL : L.length ≤ 1073741824) :
    Calls Try.prog 7 #[.pointer (some ⟨gb, 0, none⟩), .string s] W fun e w' => e = .returned (.tuple #[.int .i64 ((addV L s).1 : Int), .int .i64 ((addV L s).2 : Int)]) ∧ Pm9 w w' gb gx L (addA L s) := by
  obtain ⟨v, m, lv, av, h1, h2, h3, h4, h5⟩ := h
  refine (sadd_any gb v m L s W h1 hs hL).mono ?_
  rintro e w' ⟨he, v', m', hb, hm⟩
  refine ⟨he, v', m', lv, av, hb, h2.kept hm (fun k hk => fp_apart h1 h2 hk), fun k hk => ?_, h4, h5.trans (hm.below h3 h5.size)⟩
  rcases hm.foot k hk with h6 | h6
  · exact h3 k h6
  · exact Nat.le_trans h5.size h6
theorem pm9_add {L' : List ByteArray} (h : Pm9 w W gb gx L L') (s : ByteArray) (hs : s.size ≤ maxLen) (hL : L.length ≤ 1073741824) (he : addA L s = L') :
    Calls Try.prog 8 #[.pointer (some ⟨gx, 0, none⟩), .string s] W fun e w' => e = .returned (.tuple #[.int .i64 ((addV L s).1 : Int), .int .i64 ((addV L s).2 : Int)]) ∧ Pl9 w w' gb gx L' := by
  subst he
  obtain ⟨v, m, lv, av, h1, h2, h3, h4, h5⟩ := h
  refine (radd_any gx lv av L s W h2 hs hL).mono ?_
  rintro e w' ⟨he, lv', av', hb, hm⟩
  refine ⟨he, v, m, lv', av', h1.kept hm (fun k hk hx => fp_apart h1 h2 hx hk), hb, h3, fun k hk => ?_, h5.trans (hm.below h4 h5.size)⟩
  rcases hm.foot k hk with h6 | h6
  · exact h4 k h6
  · exact Nat.le_trans h5.size h6
theorem pl9_bytes (h : Pl9 w W gb gx L) : Calls Try.prog 9 #[.pointer (some ⟨gb, 0, none⟩)] W fun e w' => e = .returned (.string ⟨(flat L).toArray⟩) ∧ W = w' := by
  obtain ⟨v, m, lv, av, h1, h2, h3, h4, h5⟩ := h
  exact sbytes_any gb v m L W h1
theorem pl9_cell (h : Pl9 w W gb gx L) : W.cell? ⟨gx, 2, none⟩ = some (.string ⟨(flat L).toArray⟩) := by
  obtain ⟨v, m, lv, av, h1, h2, h3, h4, h5⟩ := h
  exact h2.1.cell 2
theorem pl9_new (w : World) : Pl9 w ((w.alloc (.cells #[.slice none 0 0, .map none, .int .i64 0] 29)).alloc (.cells #[.slice none 0 0, .slice none 0 0, .string ⟨#[]⟩] 33)) w.heap.size (w.heap.size + 1) [] :=
  ⟨.slice none 0 0, none, .slice none 0 0, .slice none 0 0, .inl ⟨rfl, rfl, rfl, (Arr.new w _ _).alloc _⟩, ⟨Arr.new1 w _ _ _, World.ownsRow_nil _ _ _ _, World.ownsRow_nil _ _ _ _, okL_nil⟩, (fun k hk => by
    rcases hk with hk | hk | hk
    · exact Nat.le_of_eq hk.symm
    · cases hk
    · cases hk), (fun k hk => by
    rcases hk with hk | hk | hk
    · omega
    · cases hk
    · cases hk), ((Below.refl _ _).alloc (Nat.le_refl _) _).alloc (by rw [sz_alloc]; omega) _⟩
end

set_option maxHeartbeats 3200000 in
set_option maxRecDepth 100000 in
theorem strsPlays_any (A : Option Addr) (cap : Nat) (l : List ByteArray) (s : ByteArray) (p : Int) (w : World) (hr : RdT w A l) (hl : l.length ≤ maxLen) (hz : ∀ k, k < l.length → (l.getD k ByteArray.empty).size ≤ maxLen) (hs : s.size ≤ maxLen) (hp1 : p < 9223372036854775808) (hp2 : -9223372036854775808 ≤ p) :
    Calls Try.prog 3 #[.slice A l.length cap, .string s, .int .i64 p] w fun e w' => e = .returned (.bool true) ∧ Below w.heap.size w w' := by
  have HAW := Lib.hid awake9
  have HFEW := Lib.hid (rfew9_any A cap l w hr hl)
  have HR := Lib.hid hr
  have HZ := Lib.hid hz
  have HF40 := Lib.hid (few9_len (l := l))
  have HG1 := Lib.hid (fun W => sget_any s p W hs hp1 hp2)
  have HG2 := Lib.hid (fun W => rget_any s p W hs hp1 hp2)
  generalize getR s.data.toList p = gr at *
  obtain ⟨gs, ge⟩ := gr
  simp only at HG1 HG2
  clear hr hz hl hp1 hp2
  generalize few9 l = fw at *
  cases fw with
  | false =>
    go_enter Try.func3, Try.ntmps3
    go_wp2_with fail
    refine HFEW.out.mono ?_
    rintro e w1 ⟨rfl, rfl⟩
    go_wp2_with fail
    refine (HAW.out _).mono ?_
    rintro e w1 ⟨rfl, hb⟩
    go_wp2
    go_ret
    exact ⟨rfl, hb⟩
  | true =>
    have h40 := HF40.out rfl
    by_cases h200 : 200 < s.size
    · have d0 : decide ((200 : Int) < s.size) = true := decide_eq_true (by omega)
      clear h200 HF40
      go_enter Try.func3, Try.ntmps3
      go_wp2_with fail
      refine HFEW.out.mono ?_
      rintro e w1 ⟨rfl, rfl⟩
      go_wp2_with fail
      refine (HAW.out _).mono ?_
      rintro e w1 ⟨rfl, hb⟩
      go_wp2
      go_ret
      exact ⟨rfl, hb⟩
    · have d0 : decide ((200 : Int) < s.size) = false := decide_eq_false (by omega)
      have HS := Lib.hid (pl9_new w)
      clear h200 HF40
      go_enter Try.func3, Try.ntmps3
      go_wp2_with fail
      refine HFEW.out.mono ?_
      rintro e w1 ⟨rfl, rfl⟩
      go_wp2
      generalize w.heap.size + 1 = gx at *
      obtain ⟨gb, hgb⟩ : ∃ gb, w.heap.size = gb := ⟨_, rfl⟩
      simp only [hgb]
      have HS2 : Hid (∃ W, W = (w.alloc (.cells #[.slice none 0 0, .map none, .int .i64 0] 29)).alloc (.cells #[.slice none 0 0, .slice none 0 0, .string ⟨#[]⟩] 33) ∧ Pl9 w W gb gx []) := ⟨_, rfl, by rw [← hgb]; exact HS.out⟩
      clear HS hgb HFEW
      go_loopw [10] (fun c wr => ∃ (i : Nat) (L : List ByteArray), i ≤ l.length ∧ c = .int .i64 i ∧ Pl9 w wr gb gx L ∧ L.length ≤ i) (fun c _ => l.length - (intOf c).toNat)
      case atStart =>
        obtain ⟨W, rfl, h⟩ := HS2.out
        exact ⟨0, [], Nat.zero_le _, rfl, h, Nat.le_refl _⟩
      case round =>
        clear HS2
        obtain ⟨i, L, hi, rfl, hpl, hLi⟩ := hrel
        have HP := Lib.hid hpl
        have HB := Lib.hid hpl.bel
        have hz0 := hpl.bel.size
        clear hpl
        by_cases hlt : i < l.length
        · have hii : (i : Int) < l.length := by omega
          obtain ⟨b, off, x, rfl, hc, HX⟩ := (HR.out.below HB.out).at_ hlt
          have hxs : x.size ≤ maxLen := by have := HZ.out i hlt; rwa [HX.out] at this
          have HC : Hid (∀ W, Below w.heap.size w W → W.cell? ⟨b, off + i, none⟩ = some (.string x)) := by
            intro W hW
            obtain ⟨b', off', x', e1, c', HX'⟩ := (HR.out.below hW).at_ hlt
            injection e1 with e1; injection e1 with e1 e1'; subst e1; subst e1'
            obtain rfl : x = x' := HX.out.symm.trans HX'.out
            exact c'
          have HA1 := Lib.hid (pl9_add HP.out x hxs (by omega))
          have HA2 := Lib.hid (fun W (h : Pm9 w W gb gx L (addA L x)) => pm9_add h x hxs (by omega) rfl)
          have hL2 : (addA L x).length ≤ i + 1 := by have := addA_len L x; omega
          clear HX hc HP
          generalize addA L x = L' at *
          generalize addV L x = nv at *
          obtain ⟨n, ev⟩ := nv
          simp only at HA1 HA2
          have hc := HC.out _ HB.out
          go_wp2_with fail
          refine HA1.out.mono ?_
          rintro e w2 ⟨rfl, hp2⟩
          have HP2 := Lib.hid hp2
          have HB2 : Hid (Below w.heap.size w w2) := by obtain ⟨_, _, _, _, _, _, _, _, h⟩ := hp2; exact h
          have hc := HC.out _ HB2.out
          clear hp2 HA1
          go_wp2_with fail
          refine (HA2.out _ HP2.out).mono ?_
          rintro e w3 ⟨rfl, hp3⟩
          have HP3 := Lib.hid hp3
          have hc := HC.out _ hp3.bel
          clear hp3 HA2 HP2 HB2 HB
          go_wp2_with fail
          refine (sadd_nil _ _).mono ?_
          rintro e w4 ⟨rfl, rfl⟩
          have HBY : Hid (∀ m, Calls Try.prog 9 #[.pointer (some ⟨gb, 0, none⟩)] (w3.drewN m) fun e w' => e = .returned (.string ⟨(flat L').toArray⟩) ∧ ∃ m, w' = w3.drewN m) :=
            fun m => (pl9_bytes (HP3.out.below (below_drewN w3 m))).mono fun _ _ ⟨h1, h2⟩ => ⟨h1, m, h2.symm⟩
          have c2 := pl9_cell HP3.out
          generalize (ByteArray.mk (flat L').toArray) = S at *
          have d1 : ((n : Int) != (n : Int)) = false := by simp
          have d2 : ((ev : Int) != (ev : Int)) = false := by simp
          have d3 : (S.toList != S.toList) = false := by simp
          have d4 : (S.toList == S.toList) = true := by simp
          go_upto_region 11 with fail
          go_quiet ((go_at_call 9; exact HBY.out _))
          have HP4 := Lib.hid (HP3.out.below (below_drewN w3 nq))
          clear HP3 HBY
          go_wp2
          go_roundw
          case rel => exact ⟨i + 1, L', by omega, by go_num, HP4.out, hL2⟩
          case measure => simp [intOf]; omega
        · obtain rfl : i = l.length := by omega
          have HO1 := Lib.hid (fun (W : World) (hW : Below w.heap.size w W) => soffsets_any A cap l W (HR.out.below hW) h40 HZ.out)
          have HO2 := Lib.hid (fun (W : World) (hW : Below w.heap.size w W) => roffsets_any A cap l W (HR.out.below hW) h40 HZ.out)
          have HNL : Hid ((offN l).length ≤ 40) := by
            unfold Hid offN
            split
            · rw [plc_length]; exact h40
            · exact Nat.zero_le _
          clear HP HZ hLi
          generalize offN l = N at *
          generalize offS l = OS at *
          generalize offE l = OE at *
          go_wp2_with fail
          refine (HO1.out _ HB.out).mono ?_
          rintro e w2 ⟨v2, rfl, ho2, hb2⟩
          obtain ⟨A2, cap2, rfl, hk2⟩ := row_rdK ho2
          have HK2 := Lib.hid hk2
          have HB2 := Lib.hid (HB.out.trans (hb2.mono hz0))
          have hz2 := HB2.out.size
          clear ho2 hk2 hb2 HO1 HB
          go_wp2_with fail
          refine (HO2.out _ HB2.out).mono ?_
          rintro e w3 ⟨v3, rfl, ho3, hb3⟩
          obtain ⟨A3, cap3, rfl, hk3⟩ := row_rdK ho3
          have HK3 := Lib.hid hk3
          have HK2 := Lib.hid (HK2.out.below hb3)
          have HB3 := Lib.hid (HB2.out.trans (hb3.mono hz2))
          have hz3 := HB3.out.size
          clear ho3 hk3 hb3 HO2 HB2
          go_wp2_with fail
          refine (HG1.out _).mono ?_
          rintro e w4 ⟨rfl, m, rfl⟩
          have HK2 := Lib.hid (HK2.out.below (below_drewN w3 m))
          have HK3 := Lib.hid (HK3.out.below (below_drewN w3 m))
          have HB4 := Lib.hid (HB3.out.trans ((below_drewN w3 m).mono hz3))
          have hz4 := HB4.out.size
          generalize w3.drewN m = w4 at *
          clear HB3
          go_wp2_with fail
          refine (HG2.out _).mono ?_
          rintro e w5 ⟨rfl, rfl⟩
          have HSM : Hid (Calls Try.prog 14 #[.slice A2 N.length cap2, .slice A3 N.length cap3] w4 fun e w' => e = .returned (.bool true) ∧ Below w4.heap.size w4 w') := by
            have := sameK_any A2 A3 cap2 cap3 (N.map Int.ofNat) w4 (by rw [List.length_map]; have := HNL.out; omega) HK2.out HK3.out
            rw [List.length_map] at this
            exact this
          clear HK2 HK3 HG1 HG2 HNL
          have d1 : (OS.toList == OS.toList) = true := by simp
          have d2 : ((OE : Int) == (OE : Int)) = true := by simp
          have d3 : (gs.toList == gs.toList) = true := by simp
          have d4 : ((ge : Int) == (ge : Int)) = true := by simp
          go_wp2_with fail
          refine HSM.out.mono ?_
          rintro e w5 ⟨rfl, hb5⟩
          have HB5 := Lib.hid (HB4.out.trans (hb5.mono hz4))
          have hz5 := HB5.out.size
          clear hb5 HSM HB4
          go_wp2_with fail
          refine (sbytes_nil _).mono ?_
          rintro e w6 ⟨rfl, rfl⟩
          go_wp2_with fail
          refine (HAW.out _).mono ?_
          rintro e w7 ⟨rfl, hb7⟩
          have HB7 := Lib.hid (HB5.out.trans (hb7.mono hz5))
          clear hb7
          go_wp2
          go_ret
          exact ⟨rfl, HB7.out⟩
end Go.Proofs.Ytcmeikdfkjlemaa
