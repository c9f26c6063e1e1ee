/- What Put of package token returns. Conditions: names and values of at most 2^20 bytes. -/
import Derived.Test.YtgfdbmbgldeljaaGreatMg34
namespace Go.Proofs.YtgfdbmbgldeljaaGreat
open Go.RowKit

theorem wr_new (w : World) : WR (w.alloc (.cells #[.pointer none, .slice none 0 0, .slice none 0 0, .map none, .int .i64 0] 86)) w.heap.size none (.slice none 0 0) (.slice none 0 0) none [] [] :=
  ⟨.inl ⟨rfl, rfl, rfl, Arr.new w _ _⟩, .inl rfl, World.ownsRow_nil _ _ _ _, fun _ hk => by cases hk⟩
theorem fpW_new (w : World) : ∀ k, fpW w.heap.size (.slice none 0 0) (.slice none 0 0) none k → w.heap.size ≤ k := by
  rintro k ((rfl | hk | hk) | hk)
  · exact Nat.le_refl _
  · cases hk
  · cases hk
  · cases hk
theorem moved_foot {w w' : World} {F F' : Nat → Prop} {B : Nat} (h : Moved w w' F F') (hF : ∀ k, F k → B ≤ k) (hB : B ≤ w.heap.size) : ∀ k, F' k → B ≤ k := fun k hk => (h.foot k hk).elim (hF k) (fun h => Nat.le_trans hB h)

set_option maxHeartbeats 3200000 in
set_option maxRecDepth 100000 in
theorem put_any (A : Option Addr) (cap : Nat) (l : List TK) (w : World) (hr : RdTk w A l) (hl : l.length ≤ maxLen) (hz : ∀ k, k < l.length → (l.getD k tk0).nm.size ≤ 1048576 ∧ (l.getD k tk0).vl.size ≤ 1048576) :
    Calls Tryz.prog 15 #[.slice A l.length cap] w fun e w' => e = .returned (.tuple #[.string (putR l).1, .string (putR l).2.1, .int .i64 ((putR l).2.2 : Int)]) ∧ Below w.heap.size w w' := by
  unfold maxLen at hl
  have HBIG := Lib.hid (putR_big (l := l))
  have HBAD := Lib.hid (putR_bad (l := l))
  have HGOOD := Lib.hid (putR_good (l := l))
  have HR := Lib.hid hr
  have HZ := Lib.hid hz
  generalize putR l = R at *
  clear hr hz
  by_cases h1024 : 1024 ≤ l.length
  · have HE := Lib.hid (HBIG.out h1024)
    have d0 : decide ((1024 : Int) ≤ l.length) = true := decide_eq_true (by omega)
    clear HBIG HBAD HGOOD
    go_enter Tryz.func15, Tryz.ntmps15
    go_wp2
    go_ret3
    exact ⟨by rw [HE.out]; rfl, Below.refl _ _⟩
  have d0 : decide ((1024 : Int) ≤ l.length) = false := decide_eq_false (by omega)
  have HBD : Hid (∀ k, k < l.length → okT (l.getD k tk0) = false → R = (ByteArray.empty, ByteArray.empty, 1)) := fun k hk h => HBAD.out h1024 (all_bad k hk h)
  have HGD : Hid ((∀ k, k < l.length → okT (l.getD k tk0) = true) → R = (⟨(putS [] l ++ big 9).toArray⟩, ⟨(flat (putB [] l)).toArray⟩, 0)) := fun h => HGOOD.out h1024 (all_good h)
  have HS0 := Lib.hid (wr_new w)
  have HF0 := Lib.hid (fpW_new w)
  have HB0 := Lib.hid ((Below.refl w.heap.size w).alloc (Nat.le_refl _) (.cells #[.pointer none, .slice none 0 0, .slice none 0 0, .map none, .int .i64 0] 86))
  clear HBIG HBAD HGOOD
  obtain ⟨w0, hw0⟩ : ∃ w0, w0 = w.alloc (.cells #[.pointer none, .slice none 0 0, .slice none 0 0, .map none, .int .i64 0] 86) := ⟨_, rfl⟩
  obtain ⟨g, hg⟩ : ∃ g, g = w.heap.size := ⟨_, rfl⟩
  have HS1 : Hid (WR w0 g none (.slice none 0 0) (.slice none 0 0) none [] []) := by rw [hg, hw0]; exact HS0.out
  have HF1 : Hid (∀ k, fpW g (.slice none 0 0) (.slice none 0 0) none k → w.heap.size ≤ k) := by unfold Hid; rw [hg]; exact HF0.out
  rw [← hw0] at HB0
  go_enter Tryz.func15, Tryz.ntmps15
  go_upto_region 4 with fail
  rw [← hw0, ← hg]
  clear HS0 HF0 hw0 hg
  go_wp2
  go_loopw [14] (fun i wr => ∃ (k : Nat) (p : Option Addr) (bv v : Value) (m : Option Nat), k ≤ l.length ∧ i = .int .i64 k ∧ Hid (WR wr g p bv v m (putS [] (l.take k)) (putB [] (l.take k))) ∧ Hid (∀ j, fpW g bv v m j → w.heap.size ≤ j) ∧ Below w.heap.size w wr ∧ Hid (∀ j, j < k → okT (l.getD j tk0) = true)) (fun i _ => l.length - (intOf i).toNat)
  case atStart => exact ⟨0, none, _, _, none, Nat.zero_le _, rfl, HS1, HF1, HB0.out, fun j hj => absurd hj (by omega)⟩
  case round =>
    clear HB0 HS1 HF1
    obtain ⟨k, p, bv, v, m, hk, rfl, HWR, HFP, hb, HALL⟩ := hrel
    have HB := Lib.hid hb
    have hsz := hb.size
    clear hb
    have HTV : Hid (∀ x ∈ l.take k, okT x = true ∧ x.vl.size ≤ 1048576) := by
      intro x hx
      obtain ⟨j, hj, rfl⟩ := List.getElem_of_mem hx
      rw [List.length_take] at hj
      have e : (l.take k)[j] = l.getD j tk0 := by
        rw [List.getElem_take, List.getD_eq_getElem?_getD, List.getElem?_eq_getElem (by omega)]; rfl
      rw [e]
      exact ⟨HALL.out j (by omega), (HZ.out j (by omega)).2⟩
    have hSz : (putS [] (l.take k)).length ≤ 1073807360 := by
      have h1 := putS_le (l.take k) [] HTV.out
      rw [List.length_take] at h1
      have h3 : min k l.length ≤ 1024 := by omega
      omega
    have hBL : (putB [] (l.take k)).length ≤ 1024 := by
      have := putB_len (l.take k) []
      rw [List.length_take] at this
      simp only [List.length_nil] at this
      omega
    clear HTV
    by_cases hlt : k < l.length
    · have hki : (k : Int) < l.length := by omega
      obtain ⟨b, off, x, rfl, ⟨h1, h2, h3⟩, HX⟩ := (HR.out.below HB.out).at_ hlt
      have hzx := HZ.out k hlt
      rw [HX.out] at hzx
      have HTK := Lib.hid (take_tk hlt HX.out)
      have HBDX := Lib.hid (HBD.out k hlt)
      rw [HX.out] at HBDX
      have HPS : Hid (putS [] (l.take (k + 1)) = putS [] (l.take k) ++ encT (posn (putB [] (l.take k)) x.nm) x ∧ putB [] (l.take (k + 1)) = blkT (putB [] (l.take k)) x) := by
        unfold Hid; rw [HTK.out, putS_snoc, putB_snoc]; exact ⟨rfl, rfl⟩
      have HAL : Hid (okT x = true → ∀ j, j < k + 1 → okT (l.getD j tk0) = true) := by
        intro hx j hj
        by_cases e : j = k
        · subst e; rw [HX.out]; exact hx
        · exact HALL.out j (by omega)
      clear HX HTK HBD HGD HALL
      generalize putB [] (l.take k) = BB at *
      generalize putS [] (l.take k) = SS at *
      obtain ⟨kd, nm, vl⟩ := x
      simp only at h1 h2 h3 hzx
      have HAT0 := Lib.hid (Arr.new wr 88 (tkC tk0))
      have HAT := Lib.hid (HAT0.out.row (tkC ⟨kd, nm, vl⟩))
      have HBW : Hid (Below wr.heap.size wr ((wr.alloc (.cells (tkC tk0) 88)).setRow wr.heap.size (tkC ⟨kd, nm, vl⟩))) := below_setRow ((Below.refl _ _).alloc (Nat.le_refl _) _) (Nat.le_refl _) _
      have HW2 := Lib.hid (HWR.out.below HBW.out)
      have HB2 := Lib.hid (HB.out.trans (HBW.out.mono hsz))
      have hz2 := HB2.out.size
      have HPUT := Lib.hid (wput_any g p bv v m SS BB ⟨kd, nm, vl⟩ _ HW2.out hzx.1 hzx.2 (by omega) (by omega))
      go_upto_region 7 with (first
        | (refine wpList_store_row rfl 88 (.tmp 7) (.tmp 17) rfl wr.heap.size (tkC ⟨kd, nm, vl⟩) rfl rfl _ _ HAT0.out (infoTk _) rfl (tkC_one _) ?_))
      change Code.wp _ _ _ _ ((wr.alloc (.cells (tkC tk0) 88)).setRow wr.heap.size (tkC ⟨kd, nm, vl⟩))
      generalize (wr.alloc (.cells (tkC tk0) 88)).setRow wr.heap.size (tkC ⟨kd, nm, vl⟩) = W at *
      generalize wr.heap.size = g8 at *
      clear HAT0 HBW HWR HB h1 h2 h3 HW2
      go_wp2_with (first
        | (refine wpList_load_row rfl 88 (.tmp 7) rfl g8 rfl _ #[.int .i64 kd, .string nm, .string vl] _ _ HAT.out Tryz.underlying88 rfl (infoTk ⟨kd, nm, vl⟩) ?_))
      refine HPUT.out.mono ?_
      rintro e w3 ⟨p', bv', v', m', hm3, hbad, hgood⟩
      have HFP3 := Lib.hid (moved_foot hm3 HFP.out hz2)
      have HB3 := Lib.hid (HB2.out.trans (hm3.below HFP.out hz2))
      clear hm3 HPUT HAT HFP HB2
      cases hok : okT ⟨kd, nm, vl⟩ with
      | false =>
        obtain rfl := hbad hok
        have HE := Lib.hid (HBDX.out hok)
        clear hok hbad hgood HBDX HPS HAL
        go_wp2
        go_ret3
        exact ⟨by rw [HE.out]; rfl, HB3.out⟩
      | true =>
        obtain ⟨rfl, hw3⟩ := hgood hok
        have HW3 := Lib.hid hw3
        have HAL1 := Lib.hid (HAL.out hok)
        clear hok hbad hgood hw3 HBDX HAL
        go_wp2
        go_roundw
        case rel => exact ⟨k + 1, p', bv', v', m', by omega, by go_num, by rw [HPS.out.1, HPS.out.2]; exact HW3, HFP3, HB3.out, HAL1⟩
        case measure => simp [intOf]; omega
    · obtain rfl : k = l.length := by omega
      have hgood := HGD.out HALL.out
      rw [List.take_length] at HWR hSz hBL
      obtain ⟨BG, hBG⟩ : ∃ BG : ByteArray, BG = ⟨(big 9).toArray⟩ := ⟨_, rfl⟩
      have hBGl : BG.data.toList = big 9 := by rw [hBG, mk_list]
      have hBGs : BG.size = 4 := by show BG.data.toList.length = 4; rw [hBGl, big_len]
      have HBI : Hid (∀ W' : World, Calls Tryz.prog 39 #[.int .i64 9] W' fun e w' => e = .returned (.string BG) ∧ Below W'.heap.size W' w') := fun W' => by rw [hBG]; exact big_any 9 W'
      have HWS : Hid (∀ W', Below wr.heap.size wr W' → Calls Tryz.prog 25 #[.pointer (some ⟨g, 0, none⟩), .string BG] W' fun e w' => e = .returned (.tuple #[.int .i64 (BG.size : Int), .nilIface]) ∧ ∃ bv', WR w' g (some ⟨g, 0, none⟩) bv' v m (putS [] l ++ BG.data.toList) (putB [] l) ∧ Moved W' w' (fpW g bv v m) (fpW g bv' v m)) :=
        fun W' h => bwrite_any g p bv v m _ _ BG W' (HWR.out.below h) (by omega)
      have HNE : Hid (putS [] l ++ BG.data.toList ≠ []) := by
        intro h
        have := congrArg List.length h
        rw [List.length_append] at this
        have h2 : BG.data.toList.length = BG.size := rfl
        simp only [List.length_nil] at this
        omega
      rw [← hBGl] at hgood
      have HE := Lib.hid hgood
      clear hgood hBG hBGl hBGs HALL HBD HGD HZ HR
      generalize putS [] l ++ BG.data.toList = SF at *
      generalize putB [] l = BF at *
      go_wp2_with fail
      refine (HBI.out _).mono ?_
      rintro e w1 ⟨rfl, hb1⟩
      have HB1 := Lib.hid (HB.out.trans (hb1.mono hsz))
      have hz1 := HB1.out.size
      have HW1 := Lib.hid (HWS.out _ hb1)
      clear HWS HBI hb1 HB HWR
      go_wp2_with fail
      refine HW1.out.mono ?_
      rintro e w2 ⟨rfl, bv2, hw2, hm2⟩
      have HB2 := Lib.hid (HB1.out.trans (hm2.below HFP.out hz1))
      have HFP2 := Lib.hid (moved_foot hm2 HFP.out hz1)
      have hz2 := HB2.out.size
      have HST := Lib.hid (bstring_any g _ bv2 v m SF BF w2 hw2 HNE.out)
      clear hw2 hm2 HW1 HB1 HFP HNE
      go_wp2_with fail
      refine HST.out.mono ?_
      rintro e w3 ⟨rfl, hbw3, hm3⟩
      have HB3 := Lib.hid (HB2.out.trans (hm3.below (fun k hk => HFP2.out k (.inr hk)) hz2))
      have HBY := Lib.hid (wbytes_any g _ _ v m BF w3 hbw3)
      clear hbw3 hm3 HST HB2 HFP2
      go_wp2_with fail
      refine HBY.out.mono ?_
      rintro e w4 ⟨rfl, rfl⟩
      go_wp2
      go_ret3
      exact ⟨by rw [HE.out]; rfl, HB3.out⟩
end Go.Proofs.YtgfdbmbgldeljaaGreat
