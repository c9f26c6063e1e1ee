/- The law GuardKeeps: whatever comes in it returns true. Conditions: a slice that reads as acts, numbers of 64 bits, a number of 8 bits. -/
import Derived.Test.YtmfmkhbpaeckoaaGuE
import Derived.Deep.RegionHeld3
import Derived.IntWalk
namespace Go.Proofs.Ytmfmkhbpaeckoaa
open Go.RowKit

/-- A stretch of bytes that are the same, one by one, is the same. -/
theorem extract_eq (B B' : List UInt8) (a b : Nat) (hl : B.length = B'.length) (hb : b ≤ B.length) (h : ∀ j, a ≤ j → j < b → B.getD j 0 = B'.getD j 0) :
    (ByteArray.mk B.toArray).extract a b = (ByteArray.mk B'.toArray).extract a b := by
  apply ByteArray.ext
  rw [ByteArray.data_extract, ByteArray.data_extract]
  apply Array.ext'
  simp only [List.extract_toArray]
  refine List.ext_getElem ?_ fun j h1 h2 => ?_
  · simp [List.extract_eq_take_drop, hl]
  · simp only [List.extract_eq_take_drop, List.getElem_take, List.getElem_drop]
    simp [List.extract_eq_take_drop] at h1 h2
    have := h (a + j) (by omega) (by omega)
    rwa [getD_lt _ (by omega), getD_lt _ (by omega)] at this
theorem mk_size (l : List UInt8) : (ByteArray.mk l.toArray).size = l.length := by show l.toArray.size = _; simp

set_option maxHeartbeats 3200000 in
set_option maxRecDepth 100000 in
theorem guardKeeps_any (s : ByteArray) (z : Int) (A : Option Addr) (cap : Nat) (L : List AC) (w : World) (hz0 : 0 ≤ z) (hz1 : z < 256) (hr : RdA w A L) (hl : L.length ≤ maxLen) (hn : ∀ k, k < L.length → (L.getD k ac0).n < 9223372036854775808 ∧ -9223372036854775808 ≤ (L.getD k ac0).pl ∧ (L.getD k ac0).pl < 9223372036854775808) :
    Calls Try.prog 4 #[.string s, .int .u8 z, .slice A L.length cap] w fun e w' => e = .returned (.bool true) ∧ Below w.heap.size w w' := by
  have HAW := Lib.hid awake_any
  have HFEW : Hid (Calls Try.prog 5 #[.slice A L.length cap, .int .i64 12] w fun e w' => (∃ b : Bool, e = .returned (.bool b) ∧ (b = true → L.length ≤ 12 ∧ ∀ k, k < L.length → (L.getD k ac0).s.size ≤ 200)) ∧ w = w') := few_any A cap L 12 (by decide) w hr hl
  have hl2 : L.length ≤ 9223372036854775807 := by unfold maxLen at hl; omega
  by_cases hs : 300 < s.size
  · have hd : decide ((300 : Int) < s.size) = true := decide_eq_true (by omega)
    clear hs hr hn hl
    go_enter Try.func4, Try.ntmps4
    go_wp2_with fail
    refine (HAW.out _).mono ?_
    rintro e w1 ⟨rfl, hb⟩
    go_wp2
    go_ret
    exact ⟨rfl, hb⟩
  · have hd : decide ((300 : Int) < s.size) = false := decide_eq_false (by omega)
    have HL := Lib.hid (load_any s w (by omega))
    have HLB : Hid ((ldS s).B.length = 24576) := (ldS_ok s (by omega)).1
    have HR := Lib.hid hr
    have HNN := Lib.hid hn
    obtain ⟨q, hq⟩ : ∃ q : Nat, z % 48 = (q : Int) := ⟨(z % 48).toNat, by omega⟩
    have hq48 : q < 48 := by omega
    have hzq : z.tmod 48 = (q : Int) := by rw [Int.tmod_eq_emod_of_nonneg hz0]; exact hq
    clear hs hr hn hl
    go_enter Try.func4, Try.ntmps4
    go_wp2_with fail
    refine HFEW.out.mono ?_
    rintro e w1 ⟨⟨b, rfl, hfew⟩, rfl⟩
    cases b with
    | false =>
      clear hfew
      go_wp2_with fail
      refine (HAW.out _).mono ?_
      rintro e w1 ⟨rfl, hb⟩
      go_wp2
      go_ret
      exact ⟨rfl, hb⟩
    | true =>
      obtain ⟨h24, hsz⟩ := hfew rfl
      have HSZ := Lib.hid hsz
      clear hfew hsz HFEW
      go_wp2_with fail
      refine HL.out.mono ?_
      rintro e w1 ⟨gc, rfl, hgc, hr1, hb1⟩
      have H1 := Lib.hid hr1
      have HB1 := Lib.hid hb1
      have hlt1 := hr1.lt
      have hz1 := hb1.size
      clear hr1 hb1 HL
      have HGN : Hid (∀ p W, Calls Try.prog 8 #[.pointer p, .slice (some ⟨W.heap.size, 0, none⟩) 1 1] (W.alloc (.cells #[.int .i64 (q : Int)] 3)) fun e w' => ∃ g, e = .returned (.pointer (some ⟨g, 0, none⟩)) ∧ W.heap.size ≤ g ∧ Arr w' g 39 (lockC p (lkL [(q : Int)])) ∧ Below W.heap.size W w') :=
        fun p W => gnew_lit [(q : Int)] (by show 1 ≤ maxLen; decide) p W
      have HK : Hid ((lkL [(q : Int)]).length = 48) := lkL_length _
      have HKq : Hid (∀ j, j / 512 = q → (lkL [(q : Int)]).getD (j / 512) false = true) := by
        intro j hj
        rw [hj, lkL_getD _ hq48]; simp
      have HKL : Hid (allK (lkL [(q : Int)]) [(q : Int)] = true) := by
        unfold Hid
        rw [allK_one, inK_nat _ hq48, lkL_getD _ hq48]; simp
      generalize lkL [(q : Int)] = K at *
      go_wp2_with fail
      refine (HGN.out _ _).mono ?_
      rintro e w2 ⟨gg, rfl, hgg, hA2, hb2⟩
      have H2 : Hid (Two w2 gg gc K (ldS s)) := ⟨⟨HK.out, .inr ⟨gg, rfl, hA2⟩⟩, H1.out.below hb2 hlt1, by omega⟩
      have HB2 := Lib.hid (HB1.out.trans (hb2.mono hz1))
      have hz2 := HB2.out.size
      have HBY := Lib.hid (bytes_any gc (ldS s) w2 H2.out.2.1)
      have HAR := Lib.hid awake_any
      obtain ⟨V, hV⟩ : ∃ V : ByteArray, ⟨(ldS s).B.toArray⟩ = V := ⟨_, rfl⟩
      have hVs : V.size = 24576 := by rw [← hV, mk_size]; exact HLB.out
      rw [hV] at HBY
      have HV := Lib.hid hV
      clear hV hA2 hb2 H1 HB1 HGN
      go_wp2_with fail
      refine HBY.out.mono ?_
      rintro e w3 ⟨rfl, rfl⟩
      clear HBY
      go_wp2
      go_loopw [11] (fun i wr => ∃ (k : Nat) (c : St), k ≤ L.length ∧ i = .int .i64 k ∧ c.ops ≤ 201 * k ∧ Two wr gg gc K c ∧ (∀ j, j < 24576 → K.getD (j / 512) false = true → c.B.getD j 0 = (ldS s).B.getD j 0) ∧ Below w.heap.size w wr) (fun i _ => L.length - (intOf i).toNat)
      case atStart => exact ⟨0, ldS s, Nat.zero_le _, rfl, Nat.le_refl _, H2.out, fun _ _ _ => rfl, HB2.out⟩
      case round =>
        clear H2 HB2
        obtain ⟨k, c, hk, rfl, hops, hT, hsame, hb⟩ := hrel
        have HT := Lib.hid hT
        have HB := Lib.hid hb
        have HSM := Lib.hid hsame
        have hok := hT.2.1.1
        have HOK := Lib.hid hok.1
        have hzz := hb.size
        clear hT hb hsame hok
        by_cases hlt : k < L.length
        · have hki : (k : Int) < L.length := by omega
          obtain ⟨b, off, x, rfl, ⟨c1, c2, c3, c4⟩, HX⟩ := (HR.out.below HB.out).at_ hlt
          have hxs := HSZ.out k hlt
          have hxn := HNN.out k hlt
          rw [HX.out] at hxs hxn
          obtain ⟨hxn, hxp1, hxp2⟩ := hxn
          have HOX := Lib.hid (doG_ops K c x)
          have HKX := Lib.hid (doG_keeps K c x HOK.out)
          have HDO := Lib.hid (gdo_any (some ⟨gg, 0, none⟩) gc K c x wr HT.out.1 HT.out.2.1 (by omega) hxn)
          generalize doG K c x = d at HOX HKX HDO
          obtain ⟨c', r, er⟩ := d
          obtain ⟨kd, pl, n, sx⟩ := x
          simp only [acV] at HDO c1 c2 c3 c4 HOX hxs hxn hxp1 hxp2
          have hopn : c'.ops ≤ 201 * (k + 1) := by have := HOX.out; omega
          clear HX HOX
          go_wp2_with fail
          refine HDO.out.mono ?_
          rintro e w4 ⟨rfl, hN4, hg4⟩
          have HT4 := Lib.hid (HT.out.next hN4 hg4)
          have HB4 := Lib.hid (below_grown HB.out hg4 hgc hzz)
          have HS4 : Hid (∀ j, j < 24576 → K.getD (j / 512) false = true → c'.B.getD j 0 = (ldS s).B.getD j 0) := fun j h1 h2 => (HKX.out j h1 h2).trans (HSM.out j h1 h2)
          clear hN4 hg4 HT HB HSM HKX HDO c1 c2 c3 c4
          go_wp2
          go_roundw
          case rel => exact ⟨k + 1, c', by omega, by go_num, hopn, HT4.out, HS4.out, HB4.out⟩
          case measure => simp [intOf]; omega
        · obtain ⟨N, hN⟩ : ∃ N : ByteArray, ⟨c.B.toArray⟩ = N := ⟨_, rfl⟩
          have HBY := Lib.hid (bytes_any gc c wr HT.out.2.1)
          rw [hN] at HBY
          have hNs : N.size = 24576 := by rw [← hN, mk_size]; exact HOK.out
          have HEX : Hid (N.extract (q * 512) ((q + 1) * 512) = V.extract (q * 512) ((q + 1) * 512)) := by
            unfold Hid
            rw [← hN, ← HV.out]
            refine extract_eq _ _ _ _ (HOK.out.trans HLB.out.symm) (by rw [HOK.out]; omega) fun j h1 h2 => HSM.out j (by omega) (HKq.out j (by omega))
          have HLK : Hid (∀ W, Two W gg gc K c → Calls Try.prog 15 #[.pointer (some ⟨gg, 0, none⟩), .slice (some ⟨W.heap.size, 0, none⟩) 1 1] (W.alloc (.cells #[.int .i64 (q : Int)] 3)) fun e w' => e = .returned (.bool true) ∧ Below W.heap.size W w') :=
            fun W h => glocked_lit [(q : Int)] (by show 1 ≤ maxLen; decide) _ _ K W h.1 true HKL.out
          clear hN
          go_wp2_with fail
          refine HBY.out.mono ?_
          rintro e w4 ⟨rfl, rfl⟩
          clear HBY
          have HL3 : Hid (∀ W b, W.heap.size = b → Two (W.alloc (.cells #[.int .i64 (q : Int)] 3)) gg gc K c → Below w.heap.size w (W.alloc (.cells #[.int .i64 (q : Int)] 3)) → Two W gg gc K c → Below w.heap.size w W → Calls Try.prog 15 #[.pointer (some ⟨gg, 0, none⟩), .slice (some ⟨b, 0, none⟩) 1 1] (W.alloc (.cells #[.int .i64 (q : Int)] 3)) fun e w' => e = .returned (.bool true) ∧ Two w' gg gc K c ∧ Below w.heap.size w w') := by
            rintro W b rfl _ _ h3 h4
            exact (HLK.out W h3).mono fun e w' ⟨h1, h2⟩ => ⟨h1, h3.below h2, h4.trans (h2.mono h4.size)⟩
          have HA3 : Hid (∀ W, Two W gg gc K c → Below w.heap.size w W → Calls Try.prog 6 #[] W fun e w' => e = .returned (.bool true) ∧ Two w' gg gc K c ∧ Below w.heap.size w w') :=
            fun W h3 h4 => (HAR.out W).mono fun e w' ⟨h1, h2⟩ => ⟨h1, h3.below h2, h4.trans (h2.mono h4.size)⟩
          have k1 : Two wr.drew gg gc K c := HT.out.below (Below.refl _ _).drew
          have k2 : Below w.heap.size w wr.drew := HB.out.trans ((Below.refl _ wr).drew.mono hzz)
          have k3 : Two (wr.drew.alloc (.cells #[.int .i64 (q : Int)] 3)) gg gc K c := k1.below ((Below.refl _ _).alloc (Nat.le_refl _) _)
          have k4 : Below w.heap.size w (wr.drew.alloc (.cells #[.int .i64 (q : Int)] 3)) := k2.alloc k2.size _
          have hex := HEX.out
          have m2 : IntKind.i64.wrap ((q : Int) + 1) = (q : Int) + 1 := IntWalk.i64_in _ (by omega)
          have m4 : ((q : Int) * 512) = ((q * 512 : Nat) : Int) := by omega
          have m5 : (((q : Int) + 1) * 512) = (((q + 1) * 512 : Nat) : Int) := by omega
          obtain ⟨a1, ha1⟩ : ∃ a1, q * 512 = a1 := ⟨_, rfl⟩
          obtain ⟨a2, ha2⟩ : ∃ a2, (q + 1) * 512 = a2 := ⟨_, rfl⟩
          have hle : a1 ≤ a2 := by omega
          have hle2 : a2 ≤ 24576 := by omega
          have hlei : (a1 : Int) ≤ a2 := by omega
          have hle2i : (a2 : Int) ≤ 24576 := by omega
          rw [ha1] at m4 hex
          rw [ha2] at m5 hex
          have m1 : IntKind.i64.wrap (a1 : Int) = (a1 : Int) := IntWalk.i64_in _ (by omega)
          have m3 : IntKind.i64.wrap (a2 : Int) = (a2 : Int) := IntWalk.i64_in _ (by omega)
          obtain ⟨X, hx2⟩ : ∃ X, V.extract a1 a2 = X := ⟨_, rfl⟩
          rw [hx2] at hex
          clear ha1 ha2 HEX
          go_wp2
          go_region_held3 (fun w' => Two w' gg gc K c ∧ Below w.heap.size w w') (first | exact ⟨k1, k2⟩ | exact ⟨k3, k4⟩ | exact ⟨by assumption, by assumption⟩)
            (first | (go_at_call 15; refine (HL3.out _ _ rfl k3 k4 k1 k2).mono ?_; rintro e w5 ⟨rfl, s1, s2⟩) | (go_at_call 6; refine (HA3.out _ (by assumption) (by assumption)).mono ?_; rintro e w6 ⟨rfl, s3, s4⟩))
          have HB6 := Lib.hid s4
          clear s1 s2 s3 s4 k1 k2 k3 k4 m1 m2 m3 m4 m5 hex hx2
          go_wp2
          go_ret
          exact ⟨rfl, HB6.out⟩
end Go.Proofs.Ytmfmkhbpaeckoaa
