/- ShaPieces returns true for every slice of strings. -/
import Derived.Test.YtppfdhledmbkhaaShaIs
namespace Go.Proofs.Ytppfdhledmbkhaa
open Go.RowKit

theorem rd_below {w w' : World} {A : Option Addr} {Ls : List ByteArray} {B : Nat} (h : RdS w A Ls) (hb : Below B w w') (hB : ∀ b off, A = some ⟨b, off, none⟩ → 0 < Ls.length → b < B) : RdS w' A Ls := by
  rcases h with h | ⟨b, off, rfl, hc⟩
  · exact .inl h
  · refine .inr ⟨b, off, rfl, fun k hk => ?_⟩
    rw [hb.cell (p := ⟨b, off + k, none⟩) (hB b off rfl (by omega))]
    exact hc k hk
theorem rd_below' {w w' : World} {A : Option Addr} {Ls : List ByteArray} (h : RdS w A Ls) (hb : Below w.heap.size w w') : RdS w' A Ls := by
  refine rd_below h hb (fun b off hA h0 => ?_)
  rcases h with h | ⟨b', off', hA', hc⟩
  · rw [h] at h0; simp at h0
  · rw [hA'] at hA
    cases hA
    exact World.block_lt_of_cell? w _ (hc 0 h0)
theorem few_le (Ls : List ByteArray) (h : fewB Ls = true) : Ls.length ≤ 20 ∧ (∀ k, k < Ls.length → (Ls.getD k ByteArray.empty).size ≤ 512) := of_decide_eq_true h
theorem jn_few (Ls : List ByteArray) (h : ∀ k, k < Ls.length → (Ls.getD k ByteArray.empty).size ≤ 512) : ∀ k, k ≤ Ls.length → (jn (Ls.take k)).length ≤ 512 * k
  | 0, _ => by simp [jn]
  | k + 1, hk => by
    rw [jn_take Ls k (by omega), List.length_append]
    have h1 := jn_few Ls h k (by omega)
    have h2 : (Ls.getD k ByteArray.empty).data.toList.length ≤ 512 := h k (by omega)
    omega
theorem rd_cell {w : World} {b off : Nat} {Ls : List ByteArray} (h : RdS w (some ⟨b, off, none⟩) Ls) {k : Nat} (hk : k < Ls.length) : w.cell? ⟨b, off + k, none⟩ = some (.string (Ls.getD k ByteArray.empty)) := by
  rcases h with rfl | ⟨b', off', he, hc⟩
  · simp at hk
  · cases he
    exact hc k hk
theorem append_list (t x : ByteArray) : (t ++ x).data.toList = t.data.toList ++ x.data.toList := by simp
/-- The pair of Streams that the law makes. -/
theorem two_streams (w : World) : Stm ((w.alloc (.cells zs 33)).alloc (.cells zs 33)) w.heap.size [] ∧ Stm ((w.alloc (.cells zs 33)).alloc (.cells zs 33)) (w.heap.size + 1) [] :=
  ⟨(Stm.new (Arr.new w 33 zs)).alloc _, Stm.new (Arr.new1 w _ 33 zs)⟩

set_option maxHeartbeats 3200000 in
set_option maxRecDepth 100000 in
theorem shaPieces_main (A : Option Addr) (cap : Nat) (Ls : List ByteArray) (w : World) (hl : Ls.length ≤ maxLen) (hr : RdS w A Ls) (hs : ∀ k, k < Ls.length → (Ls.getD k ByteArray.empty).size ≤ maxLen) (hf : fewB Ls = true) :
    Calls Try.prog 4 #[.slice A Ls.length cap] w fun e w' => e = .returned (.bool true) ∧ Below w.heap.size w w' := by
  have hfew := few_any A cap Ls w hl hr hs
  rw [hf] at hfew
  have HFEW := Lib.hid hfew
  obtain ⟨hl20, hsz⟩ := few_le Ls hf
  have HJ := Lib.hid (jn_few Ls hsz)
  have HSZ := Lib.hid hsz
  have HR := Lib.hid hr
  have hz33 := zero33
  clear hfew hs hr hsz hf hl
  go_enter Try.func4, Try.ntmps4
  go_wp2_with fail
  refine HFEW.out.mono ?_
  rintro e w1 ⟨rfl, rfl⟩
  go_wp2
  obtain ⟨sx, sy⟩ := two_streams w
  have HR2 := Lib.hid (rd_alloc (rd_alloc HR.out (.cells zs 33)) (.cells zs 33))
  have b2 := ((Below.refl w.heap.size w).alloc (Nat.le_refl _) (.cells zs 33)).alloc (by simp) (.cells zs 33)
  have HX2 := Lib.hid sx
  have HY2 := Lib.hid sy
  clear sx sy HR HFEW hz33
  generalize (w.alloc (.cells zs 33)).alloc (.cells zs 33) = w2 at *
  have hgy : w.heap.size < w.heap.size + 1 := by omega
  generalize w.heap.size + 1 = gy at *
  generalize hgx : w.heap.size = gx at *
  have HGX := Lib.hid hgx
  clear hgx
  go_loopw [6, 7] (fun a i wr => ∃ (k : Nat) (t : ByteArray), k ≤ Ls.length ∧ i = .int .i64 k ∧ a = .string t ∧ t.data.toList = jn (Ls.take k) ∧ Stm wr gx (jn (Ls.take k)) ∧ Stm wr gy [] ∧ RdS wr A Ls ∧ Below gx w wr) (fun _ i _ => Ls.length - (intOf i).toNat)
  case atStart => exact ⟨0, ⟨#[]⟩, Nat.zero_le _, rfl, rfl, rfl, HX2.out, HY2.out, HR2.out, b2⟩
  case round =>
    clear HX2 HY2 HR2 b2
    obtain ⟨k, t, hk, rfl, rfl, ht, hX, hY, hR, hb⟩ := hrel
    have HX := Lib.hid hX
    have HY := Lib.hid hY
    have HR := Lib.hid hR
    have HT := Lib.hid ht
    have hjl := HJ.out k hk
    have htl : t.size = (jn (Ls.take k)).length := by rw [← ht]; rfl
    have htb : t.size ≤ 10240 := by omega
    clear hX hY hR ht htl
    by_cases hlt : k < Ls.length
    · obtain ⟨b, off, x, rfl, hc, HXV⟩ := HR.out.at_ hlt
      have hxs : x.size ≤ 512 := by have := HSZ.out k hlt; rwa [HXV.out] at this
      have HJT := Lib.hid (jn_take Ls k hlt)
      rw [HXV.out] at HJT
      generalize jn (Ls.take k) = J at *
      have HJ1 : Hid (jn [x] = x.data.toList) := by unfold Hid; simp [jn]
      have hxl : x.data.toList.length = x.size := rfl
      have HW := Lib.hid (write_any gx (some ⟨wr.heap.size, 0, none⟩) 1 [x] J (wr.alloc (.cells #[.string x] 9)) (HX.out.alloc _) (rd1 wr x) (by show 1 ≤ _; omega) (by rw [HJ1.out]; omega))
      rw [HJ1.out] at HW
      have hbk : b < wr.heap.size := World.block_lt_of_cell? wr _ hc
      have hk0 : (0 : Int) ≤ k := by omega
      have hkl : (k : Int) < Ls.length := by omega
      have hzw := hb.size
      have HN0 := HGX.out
      clear hxl HN0
      go_wp2_with fail
      refine HW.out.mono ?_
      rintro e w3 ⟨rfl, hX3, hg3⟩
      have hR3 := (rd_alloc HR.out (.cells #[.string x] 9)).grown (HX.out.alloc _) hg3
      have hY3 := (HY.out.alloc (.cells #[.string x] 9)).grown hg3 (by omega)
      have hb3 : Below gx w w3 := below_grown (hb.alloc (by have := HGX.out; omega) (.cells #[.string x] 9)) hg3 (Nat.le_refl _) (by simp; have := HGX.out; omega)
      rw [← HJT.out] at hX3
      have HX3 := Lib.hid hX3
      have HY3 := Lib.hid hY3
      have HR3 := Lib.hid hR3
      have hzg : gx < w3.heap.size := hX3.lt
      clear hX3 hY3 hR3 hg3 HW HX HY HR hb hc hbk hzw
      have hc3 := rd_cell HR3.out hlt
      rw [HXV.out] at hc3
      go_wp2_with fail
      refine (nil_write _ _).mono ?_
      rintro e w4 ⟨rfl, rfl⟩
      have HX4 := Lib.hid (HX3.out.alloc (.cells #[.string x] 9))
      have HY4 := Lib.hid (HY3.out.alloc (.cells #[.string x] 9))
      have HR4 := Lib.hid (rd_alloc HR3.out (.cells #[.string x] 9))
      have hb4 := hb3.alloc (Nat.le_of_lt hzg) (.cells #[.string x] 9)
      have hzg4 : gx < (w3.alloc (.cells #[.string x] 9)).heap.size := HX4.out.lt
      generalize w3.alloc (.cells #[.string x] 9) = w4 at *
      have hc4 := rd_cell HR4.out hlt
      rw [HXV.out] at hc4
      have ha := fun W => run_string_add_sum (P := Try.prog) W t x (by omega)
      have HT2 := Lib.hid (append_list t x)
      rw [HT.out, ← HJT.out] at HT2
      have hts : (t ++ x).size ≤ 10752 := by rw [ByteArray.size_append]; omega
      generalize t ++ x = t2 at *
      generalize hj2 : jn (Ls.take (k + 1)) = J2 at *
      have HJ2 := Lib.hid hj2
      clear hj2
      have HTL : Hid (t2.size = J2.length) := by unfold Hid; rw [← HT2.out]; rfl
      have hle1 : ((J2.length : Int) == t2.size) = true := by have := HTL.out; simp; omega
      have hle2 : ((J2.length : Int) != t2.size) = false := by have := HTL.out; simp; omega
      have HSX := Lib.hid (sum_any gx J2 w4 HX4.out (by have := HTL.out; omega))
      clear HX3 HY3 HR3 hb3 hzg hc3
      by_cases h3 : k % 3 = 0
      · have e3 : (k : Int) % 3 = 0 := by omega
        clear h3
        go_wp2_with fail
        refine HSX.out.mono ?_
        rintro e w5 ⟨rfl, hb5⟩
        have HX5 := Lib.hid (HX4.out.below hb5 hzg4)
        have HY5 := Lib.hid (HY4.out.below hb5 HY4.out.lt)
        have HR5 := Lib.hid (rd_below' HR4.out hb5)
        have b5 := hb4.trans (hb5.mono (Nat.le_of_lt hzg4))
        have hzg5 := HX5.out.lt
        have HRS := Lib.hid (refsum_any t2 w5 (by omega))
        rw [HT2.out] at HRS
        clear hc4 HX4 HY4 HR4 hb4 hzg4 hb5 ha HSX
        generalize hash J2 = HH at *
        go_wp2_with fail
        refine HRS.out.mono ?_
        rintro e w6 ⟨rfl, hb6⟩
        have HX6 := Lib.hid (HX5.out.below hb6 hzg5)
        have HY6 := Lib.hid (HY5.out.below hb6 HY5.out.lt)
        have HR6 := Lib.hid (rd_below' HR5.out hb6)
        have b6 := b5.trans (hb6.mono (Nat.le_of_lt hzg5))
        clear HX5 HY5 HR5 b5 hzg5 hb6 HRS
        go_wp2_with fail
        refine (len_any gx J2 w6 HX6.out).mono ?_
        rintro e w7 ⟨rfl, rfl⟩
        clear e3
        go_wp2
        go_roundw
        case rel => exact ⟨k + 1, t2, by omega, by go_num, rfl, by rw [HJ2.out]; exact HT2.out, by rw [HJ2.out]; exact HX6.out, HY6.out, HR6.out, b6⟩
        case measure => simp [intOf]; omega
      · have e3 : ((k : Int) % 3 == 0) = false := by simp; omega
        clear h3 HSX
        go_wp2_with fail
        refine (len_any gx J2 w4 HX4.out).mono ?_
        rintro e w7 ⟨rfl, rfl⟩
        clear ha e3 hc4
        go_wp2
        go_roundw
        case rel => exact ⟨k + 1, t2, by omega, by go_num, rfl, by rw [HJ2.out]; exact HT2.out, by rw [HJ2.out]; exact HX4.out, HY4.out, HR4.out, hb4⟩
        case measure => simp [intOf]; omega
    · obtain rfl : k = Ls.length := by omega
      rw [List.take_length] at HX HT hjl
      generalize hjn : jn Ls = J at *
      have HJN := Lib.hid hjn
      clear hjn hlt hk
      have hgx := HX.out.lt
      have hgy2 := HY.out.lt
      have HW := Lib.hid (write_any gy A cap Ls [] wr HY.out HR.out (by omega) (by rw [HJN.out]; show 0 + _ ≤ _; omega))
      rw [HJN.out, List.nil_append] at HW
      go_wp2_with fail
      refine HW.out.mono ?_
      rintro e w3 ⟨rfl, hY3, hg3⟩
      have HX3 := Lib.hid (HX.out.grown hg3 (by omega))
      have HR3 := Lib.hid (HR.out.grown HY.out hg3)
      have b3 := below_grown hb hg3 (Nat.le_of_lt hgy) (by omega)
      have HY3 := Lib.hid hY3
      have zx3 := HX3.out.lt
      have zy3 := hY3.lt
      clear hY3 hg3 HX HY HR hb HW hgx hgy2
      have HRS := Lib.hid (fun w => refsum_any t w (by omega))
      rw [HT.out] at HRS
      have HSM := Lib.hid (fun (g : Nat) (w : World) (h : Stm w g J) => sum_any g J w h (by omega))
      have HSS := Lib.hid (fun (w : World) (h : RdS w A Ls) => shasum_any A cap Ls w h (by omega) (by rw [HJN.out]; omega))
      rw [HJN.out] at HSS
      generalize hash J = H at *
      go_wp2_with fail
      refine (HRS.out w3).mono ?_
      rintro e w4 ⟨rfl, hb4⟩
      have HX4 := Lib.hid (HX3.out.below hb4 zx3)
      have HY4 := Lib.hid (HY3.out.below hb4 zy3)
      have HR4 := Lib.hid (rd_below' HR3.out hb4)
      have b4 := b3.trans (hb4.mono (by omega))
      have zx4 := HX4.out.lt
      have zy4 := HY4.out.lt
      clear HX3 HY3 HR3 b3 zx3 zy3 hb4
      go_wp2_with fail
      refine (HSM.out gx w4 HX4.out).mono ?_
      rintro e w5 ⟨rfl, hb5⟩
      have HX5 := Lib.hid (HX4.out.below hb5 zx4)
      have HY5 := Lib.hid (HY4.out.below hb5 zy4)
      have HR5 := Lib.hid (rd_below' HR4.out hb5)
      have b5 := b4.trans (hb5.mono (by omega))
      have zx5 := HX5.out.lt
      have zy5 := HY5.out.lt
      clear HX4 HY4 HR4 b4 zx4 zy4 hb5
      go_wp2_with fail
      refine (HSM.out gx w5 HX5.out).mono ?_
      rintro e w6 ⟨rfl, hb6⟩
      have HY6 := Lib.hid (HY5.out.below hb6 zy5)
      have HR6 := Lib.hid (rd_below' HR5.out hb6)
      have b6 := b5.trans (hb6.mono (by omega))
      have zy6 := HY6.out.lt
      clear HX5 HY5 HR5 b5 zx5 zy5 hb6
      go_wp2_with fail
      refine (HSM.out gy w6 HY6.out).mono ?_
      rintro e w7 ⟨rfl, hb7⟩
      have HR7 := Lib.hid (rd_below' HR6.out hb7)
      have b7 := b6.trans (hb7.mono (by omega))
      have z7 : gx ≤ w7.heap.size := by have := hb7.size; omega
      clear HY6 HR6 b6 zy6 hb7
      go_wp2_with fail
      refine (HSS.out w7 HR7.out).mono ?_
      rintro e w8 ⟨rfl, hb8⟩
      have b8 := b7.trans (hb8.mono (by omega))
      have z8 : gx ≤ w8.heap.size := by have := hb8.size; omega
      clear HR7 b7 z7 hb8
      go_wp2_with fail
      refine (nil_sum w8).mono ?_
      rintro e w9 ⟨rfl, rfl⟩
      go_wp2_with fail
      refine (nil_len w8).mono ?_
      rintro e w9 ⟨rfl, rfl⟩
      go_wp2_with fail
      refine (awake03 w8).mono ?_
      rintro e w9 ⟨rfl, hb9⟩
      have b9 := b8.trans (hb9.mono z8)
      go_wp2
      go_ret
      exact ⟨rfl, by rw [HGX.out]; exact b9⟩

set_option maxHeartbeats 800000 in
theorem shaPieces_any (A : Option Addr) (cap : Nat) (Ls : List ByteArray) (w : World) (hl : Ls.length ≤ maxLen) (hr : RdS w A Ls) (hs : ∀ k, k < Ls.length → (Ls.getD k ByteArray.empty).size ≤ maxLen) :
    Calls Try.prog 4 #[.slice A Ls.length cap] w fun e w' => e = .returned (.bool true) ∧ Below w.heap.size w w' := by
  cases hf : fewB Ls with
  | true => exact shaPieces_main A cap Ls w hl hr hs hf
  | false =>
    have hfew := few_any A cap Ls w hl hr hs
    rw [hf] at hfew
    have HFEW := Lib.hid hfew
    clear hfew hf hr hs hl
    go_enter Try.func4, Try.ntmps4
    go_wp2_with fail
    refine HFEW.out.mono ?_
    rintro e w1 ⟨rfl, rfl⟩
    go_wp2_with fail
    refine (awake03 w).mono ?_
    rintro e w8 ⟨rfl, hb8⟩
    go_wp2
    go_ret
    exact ⟨rfl, hb8⟩
end Go.Proofs.Ytppfdhledmbkhaa
