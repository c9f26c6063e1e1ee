/- What the writer's put of package token does. Conditions: at most 2^44 bytes and 2^20 strings so far, names and values of at most 2^20 bytes. -/
import Derived.Test.YtfcclppgjfkfoaaGreatDoorMg40
namespace Go.Proofs.YtfcclppgjfkfoaaGreatDoor
open Go.RowKit

set_option maxHeartbeats 3200000 in
set_option maxRecDepth 100000 in
theorem wput_any (g : Nat) (p : Option Addr) (bv v : Value) (m : Option Nat) (S : List UInt8) (L : List ByteArray) (x : TK) (w : World) (h : WR w g p bv v m S L) (hn : x.nm.size ≤ 1048576) (hv : x.vl.size ≤ 1048576) (hS : S.length ≤ 17592186044416) (hL : L.length ≤ 1048576) :
    Calls Tryz.prog 60 #[.pointer (some ⟨g, 0, none⟩), .agg #[.int .i64 x.kd, .string x.nm, .string x.vl]] w fun e w' => ∃ p' bv' v' m', Moved w w' (fpW g bv v m) (fpW g bv' v' m') ∧
      (okT x = false → e = .returned (.int .i64 1)) ∧ (okT x = true → e = .returned (.int .i64 0) ∧ WR w' g p' bv' v' m' (S ++ encT (posn L x.nm) x) (blkT L x)) := by
  obtain ⟨kd, nm, vl⟩ := x
  simp only at hn hv
  have hbw : Below w.heap.size w (w.alloc (.cells #[.int .i64 kd, .string nm, .string vl] 116)) := (Below.refl _ _).alloc (Nat.le_refl _) _
  have HW1 := Lib.hid (h.below hbw)
  have HM1 := Lib.hid (Moved.of_below hbw (fpW g bv v m))
  have HA1 : Hid (Arr (w.alloc (.cells #[.int .i64 kd, .string nm, .string vl] 116)) w.heap.size 116 #[.int .i64 kd, .string nm, .string vl]) := Arr.new w _ _
  clear hbw
  by_cases k1 : kd = 1
  · subst k1
    cases hnb : nodeB nm with
    | false =>
      have hok : okT ⟨1, nm, vl⟩ = false := by unfold okT; rw [if_pos rfl]; exact hnb
      rw [hok]
      have HND := Lib.hid (fun W => named_any nm W (by unfold maxLen; omega))
      rw [hnb] at HND
      clear hok hnb
      go_enter Tryz.func60, Tryz.ntmps60
      go_wp2_with fail
      refine (HND.out _).mono ?_
      rintro e w2 ⟨rfl, rfl⟩
      go_wp2
      go_ret
      exact ⟨p, bv, v, m, HM1.out, fun _ => rfl, fun h => by cases h⟩
    | true =>
      have hok : okT ⟨1, nm, vl⟩ = true := by unfold okT; rw [if_pos rfl]; exact hnb
      rw [hok]
      have HND := Lib.hid (fun W => named_any nm W (by unfold maxLen; omega))
      rw [hnb] at HND
      have hL1 : blkT L ⟨1, nm, vl⟩ = L := by unfold blkT; rw [if_neg (show ¬ (1 : Int) = 3 by decide)]
      have hE1 : encT (posn L nm) ⟨1, nm, vl⟩ = big 1 ++ padL (nm.data.toList ++ [0]) := by unfold encT; rw [if_pos rfl]
      rw [hL1, hE1]
      have hn31 := (nodeB_iff.1 hnb).1
      clear hok hnb hL1 hE1
      obtain ⟨NZ, hNZ⟩ : ∃ NZ : ByteArray, NZ.data.toList = nm.data.toList ++ [0] := ⟨⟨(nm.data.toList ++ [0]).toArray⟩, mk_list _⟩
      have hNZs : NZ.size ≤ 32 := by show NZ.data.toList.length ≤ 32; rw [hNZ, List.length_append]; have : nm.data.toList.length = nm.size := rfl; simp only [List.length_cons, List.length_nil]; omega
      have a1 : ∀ W, (Op.stringOp .add nm ⟨#[0]⟩).run Tryz.prog W = .ok (.string NZ) W := fun W => add_letters (by rw [hNZ]) (by show nm.size + 1 ≤ _; omega) W
      rw [← hNZ]
      obtain ⟨BG, hBG⟩ : ∃ BG : ByteArray, BG = ⟨(big 1).toArray⟩ := ⟨_, rfl⟩
      have hBGl : BG.data.toList = big 1 := by rw [hBG, mk_list]
      have hBGs : BG.size = 4 := by show BG.data.toList.length = 4; rw [hBGl, big_len]
      rw [← hBGl]
      obtain ⟨W1, hW1⟩ : ∃ W1, W1 = w.alloc (.cells #[.int .i64 1, .string nm, .string vl] 116) := ⟨_, rfl⟩
      obtain ⟨g8, hg8⟩ : ∃ g8, g8 = w.heap.size := ⟨_, rfl⟩
      rw [← hW1] at HW1 HM1 HA1
      rw [← hg8] at HA1
      have HBI : Hid (∀ W', Below W1.heap.size W1 W' → Calls Tryz.prog 61 #[.int .i64 1] W' fun e w' => e = .returned (.string BG) ∧ Below W1.heap.size W1 w') := fun W' h => by
        rw [hBG]
        exact (big_any 1 W').mono fun e w' ⟨q1, q2⟩ => ⟨q1, h.trans (q2.mono h.size)⟩
      have HWR := Lib.hid (write_in HW1.out HM1.out HA1.out BG (by omega))
      have hS1 : (S ++ BG.data.toList).length ≤ 17592186044420 := by rw [List.length_append]; show S.length + BG.size ≤ _; omega
      have hbd : Below W1.heap.size W1 W1.drew := (Below.refl _ _).drew
      have k0 : W1.cell? ⟨g8, 0, none⟩ = some (.int .i64 1) := HA1.out.cell 0
      have k1 : W1.cell? ⟨g8, 1, none⟩ = some (.string nm) := HA1.out.cell 1
      clear hBG hBGl hBGs hNZ h
      go_enter Tryz.func60, Tryz.ntmps60
      go_upto_region 1 with fail
      rw [← hW1, ← hg8]
      clear hW1 hg8
      go_wp2_with fail
      refine (HND.out _).mono ?_
      rintro e w2 ⟨rfl, rfl⟩
      go_upto_region 6 with fail
      go_region_with (first | (go_at_call 61; refine (HBI.out _ hbd).mono ?_; rintro e w3 ⟨rfl, hb3⟩) | (go_at_call 57; refine (HWR.out _ hb3).mono ?_; rintro e w5 ⟨rfl, bv2, hw5, hm5, ha5⟩))
      have k1 : w5.cell? ⟨g8, 1, none⟩ = some (.string nm) := ha5.cell 1
      have HPD := Lib.hid (pad_in hw5 hm5 ha5 NZ (by omega))
      clear hw5 hm5 ha5 HWR HBI hbd HW1 HM1 HA1 hb3
      go_wp2_with fail
      refine HPD.out.mono ?_
      rintro e w6 ⟨rfl, bv3, hw6, hm6, ha6⟩
      have HW6 := Lib.hid hw6
      have HM6 := Lib.hid hm6
      clear hw6 hm6 ha6 HPD
      go_wp2
      go_ret
      exact ⟨_, bv3, v, m, HM6.out, (fun h => by cases h), fun _ => ⟨rfl, by rw [← List.append_assoc]; exact HW6.out⟩⟩
  · have d1 : (kd == 1) = false := by simpa using k1
    obtain ⟨W1, hW1⟩ : ∃ W1, W1 = w.alloc (.cells #[.int .i64 kd, .string nm, .string vl] 116) := ⟨_, rfl⟩
    obtain ⟨g8, hg8⟩ : ∃ g8, g8 = w.heap.size := ⟨_, rfl⟩
    rw [← hW1] at HW1 HM1 HA1
    rw [← hg8] at HA1
    have hbd : Below W1.heap.size W1 W1.drew := (Below.refl _ _).drew
    by_cases k3 : kd = 3
    · subst k3
      have k0 : W1.cell? ⟨g8, 0, none⟩ = some (.int .i64 3) := HA1.out.cell 0
      have k1' : W1.cell? ⟨g8, 1, none⟩ = some (.string nm) := HA1.out.cell 1
      have HAD := Lib.hid (add_in HW1.out HM1.out HA1.out nm (by unfold maxLen; omega) (by omega))
      cases hm : mayB nm with
      | false =>
        have hok : okT ⟨3, nm, vl⟩ = false := by unfold okT; rw [if_neg (show ¬ (3 : Int) = 1 by decide), if_pos rfl]; exact hm
        rw [hok]
        have e1 : addV L nm = (0, 1) := by unfold addV; rw [hm]; rfl
        rw [e1] at HAD
        clear hok hm e1 h d1 k1
        go_enter Tryz.func60, Tryz.ntmps60
        go_upto_region 1 with fail
        rw [← hW1, ← hg8]
        clear hW1 hg8
        go_upto_region 9 with fail
        go_region_with (first | (go_at_call 82; refine (HAD.out _ hbd).mono ?_; rintro e w5 ⟨rfl, v2, m2, hw5, hm5, ha5⟩))
        have HM5 := Lib.hid hm5
        clear hw5 hm5 ha5 HAD HW1 HM1 HA1
        go_wp2
        go_ret
        exact ⟨p, bv, v2, m2, HM5.out, fun _ => rfl, fun h => by cases h⟩
      | true =>
        have hok : okT ⟨3, nm, vl⟩ = true := by unfold okT; rw [if_neg (show ¬ (3 : Int) = 1 by decide), if_pos rfl]; exact hm
        rw [hok]
        have e1 : addV L nm = (posn L nm, 0) := by unfold addV; rw [hm]; rfl
        have hL1 : blkT L ⟨3, nm, vl⟩ = addA L nm := by unfold blkT; rw [if_pos rfl]
        have hE1 : encT (posn L nm) ⟨3, nm, vl⟩ = big 3 ++ (big (vl.size : Int) ++ (big ((posn L nm : Nat) : Int) ++ padL vl.data.toList)) := by unfold encT; rw [if_neg (show ¬ (3 : Int) = 1 by decide), if_pos rfl]
        rw [hL1, hE1]
        rw [e1] at HAD
        clear hok hm e1 h d1 k1 hL1 hE1
        generalize posn L nm = pp at *
        generalize addA L nm = L2 at *
        obtain ⟨BS, hBS⟩ : ∃ BS : ByteArray, BS = ⟨(bigs [3, (vl.size : Int), (pp : Int)] 3).toArray⟩ := ⟨_, rfl⟩
        have hBSl : BS.data.toList = big 3 ++ (big (vl.size : Int) ++ big (pp : Int)) := by rw [hBS, mk_list]; rfl
        have hBSs : BS.size = 12 := by show BS.data.toList.length = 12; rw [hBSl, List.length_append, List.length_append, big_len, big_len, big_len]
        have HFIN : Hid (S ++ BS.data.toList ++ padL vl.data.toList = S ++ (big 3 ++ (big (vl.size : Int) ++ (big (pp : Int) ++ padL vl.data.toList)))) := by
          unfold Hid; rw [hBSl]; simp only [List.append_assoc]
        have hS1 : (S ++ BS.data.toList).length ≤ 17592186044428 := by rw [List.length_append]; show S.length + BS.size ≤ _; omega
        have hBS3 : ∀ (W' : World) (b : Nat), Arr W' b 3 #[.int .i64 3, .int .i64 (vl.size : Int), .int .i64 (pp : Int)] → Calls Tryz.prog 90 #[.slice (some ⟨b, 0, none⟩) 3 3] W' fun e w' => e = .returned (.string BS) ∧ Below W'.heap.size W' w' := fun W' b hA => by
          rw [hBS]
          refine bigs_any (some ⟨b, 0, none⟩) 3 [3, (vl.size : Int), (pp : Int)] W' (by show (3 : Nat) ≤ 1099511627776; decide) (.inr ⟨b, 0, rfl, hA.lt, fun j hj => ?_⟩)
          rw [Nat.zero_add, hA.cell]
          match j, hj with
          | 0, _ => rfl
          | 1, _ => rfl
          | 2, _ => rfl
        have HBS := Lib.hid hBS3
        clear hBS hBSl hBS3
        go_enter Tryz.func60, Tryz.ntmps60
        go_upto_region 1 with fail
        rw [← hW1, ← hg8]
        clear hW1 hg8
        go_upto_region 9 with fail
        go_region_with (first | (go_at_call 82; refine (HAD.out _ hbd).mono ?_; rintro e w5 ⟨rfl, v2, m2, hw5, hm5, ha5⟩))
        have HW5 := Lib.hid hw5
        have HM5 := Lib.hid hm5
        have HA5 := Lib.hid ha5
        have k0 : w5.cell? ⟨g8, 0, none⟩ = some (.int .i64 3) := ha5.cell 0
        have k2 : w5.cell? ⟨g8, 2, none⟩ = some (.string vl) := ha5.cell 2
        clear hw5 hm5 ha5 HAD HW1 HM1 HA1 hbd
        have HWR := Lib.hid (write_in HW5.out HM5.out HA5.out BS (by omega))
        have hbd : Below w5.heap.size w5 w5.drew := (Below.refl _ _).drew
        have hbe : Below w5.heap.size w5 (w5.drew.alloc (.cells #[.int .i64 3, .int .i64 (vl.size : Int), .int .i64 (pp : Int)] 3)) := hbd.alloc (Nat.le_refl _) _
        have hAr : Arr (w5.drew.alloc (.cells #[.int .i64 3, .int .i64 (vl.size : Int), .int .i64 (pp : Int)] 3)) w5.heap.size 3 #[.int .i64 3, .int .i64 (vl.size : Int), .int .i64 (pp : Int)] := Arr.new w5.drew _ _
        go_upto_region 12 with fail
        go_region_with (first | (go_at_call 90; refine (HBS.out _ _ hAr).mono ?_; rintro e w6 ⟨rfl, hb6⟩) | (go_at_call 57; refine (HWR.out _ (hbe.trans (hb6.mono hbe.size))).mono ?_; rintro e w7 ⟨rfl, bv2, hw7, hm7, ha7⟩))
        all_goals (
          have k2 : w7.cell? ⟨g8, 2, none⟩ = some (.string vl) := ha7.cell 2
          have HPD := Lib.hid (pad_in hw7 hm7 ha7 vl (by omega))
          clear hw7 hm7 ha7 HWR HBS hbd hbe hAr HW5 HM5 HA5 hb6
          go_wp2_with fail
          refine HPD.out.mono ?_
          rintro e w8 ⟨rfl, bv3, hw8, hm8, ha8⟩
          have HW8 := Lib.hid hw8
          have HM8 := Lib.hid hm8
          clear hw8 hm8 ha8 HPD
          go_wp2
          go_ret
          exact ⟨_, bv3, v2, m2, HM8.out, (fun h => by cases h), fun _ => ⟨rfl, by rw [← HFIN.out]; exact HW8.out⟩⟩)
    · have d3 : (kd == 3) = false := by simpa using k3
      have k0 : W1.cell? ⟨g8, 0, none⟩ = some (.int .i64 kd) := HA1.out.cell 0
      by_cases k24 : kd = 2 ∨ kd = 4
      · have hok : okT ⟨kd, nm, vl⟩ = true := by unfold okT; rw [if_neg k1, if_neg k3]; exact decide_eq_true k24
        have hL1 : blkT L ⟨kd, nm, vl⟩ = L := by unfold blkT; rw [if_neg k3]
        have hE1 : encT (posn L nm) ⟨kd, nm, vl⟩ = big kd := by unfold encT; rw [if_neg k1, if_neg k3]
        rw [hok, hL1, hE1]
        obtain ⟨BG, hBG⟩ : ∃ BG : ByteArray, BG = ⟨(big kd).toArray⟩ := ⟨_, rfl⟩
        have hBGl : BG.data.toList = big kd := by rw [hBG, mk_list]
        have hBGs : BG.size = 4 := by show BG.data.toList.length = 4; rw [hBGl, big_len]
        rw [← hBGl]
        have HBI : Hid (∀ W', Below W1.heap.size W1 W' → Calls Tryz.prog 61 #[.int .i64 kd] W' fun e w' => e = .returned (.string BG) ∧ Below W1.heap.size W1 w') := fun W' h => by
          rw [hBG]
          exact (big_any kd W').mono fun e w' ⟨q1, q2⟩ => ⟨q1, h.trans (q2.mono h.size)⟩
        have HWR := Lib.hid (write_in HW1.out HM1.out HA1.out BG (by omega))
        clear hok hL1 hE1 hBG hBGl hBGs h
        rcases k24 with k2 | k2
        · have d2 : (kd == 2) = true := by simpa using k2
          clear k1 k3 k2
          go_enter Tryz.func60, Tryz.ntmps60
          go_upto_region 1 with fail
          rw [← hW1, ← hg8]
          clear hW1 hg8
          go_upto_region 16 with fail
          go_region_with (first | (go_at_call 61; refine (HBI.out _ hbd).mono ?_; rintro e w3 ⟨rfl, hb3⟩) | (go_at_call 57; refine (HWR.out _ hb3).mono ?_; rintro e w5 ⟨rfl, bv2, hw5, hm5, ha5⟩))
          have HW5 := Lib.hid hw5
          have HM5 := Lib.hid hm5
          clear hw5 hm5 ha5 HWR HBI hbd HW1 HM1 HA1 hb3
          go_wp2
          go_ret
          exact ⟨_, bv2, v, m, HM5.out, (fun h => by cases h), fun _ => ⟨rfl, HW5.out⟩⟩
        · have d2 : (kd == 2) = false := by simp; omega
          have d4 : (kd == 4) = true := by simpa using k2
          clear k1 k3 k2
          go_enter Tryz.func60, Tryz.ntmps60
          go_upto_region 1 with fail
          rw [← hW1, ← hg8]
          clear hW1 hg8
          go_upto_region 16 with fail
          go_region_with (first | (go_at_call 61; refine (HBI.out _ hbd).mono ?_; rintro e w3 ⟨rfl, hb3⟩) | (go_at_call 57; refine (HWR.out _ hb3).mono ?_; rintro e w5 ⟨rfl, bv2, hw5, hm5, ha5⟩))
          have HW5 := Lib.hid hw5
          have HM5 := Lib.hid hm5
          clear hw5 hm5 ha5 HWR HBI hbd HW1 HM1 HA1 hb3
          go_wp2
          go_ret
          exact ⟨_, bv2, v, m, HM5.out, (fun h => by cases h), fun _ => ⟨rfl, HW5.out⟩⟩
      · have hok : okT ⟨kd, nm, vl⟩ = false := by unfold okT; rw [if_neg k1, if_neg k3]; exact decide_eq_false k24
        rw [hok]
        have d2 : (kd == 2) = false := by simp; omega
        have d4 : (kd == 4) = false := by simp; omega
        clear hok k1 k3 k24 h
        go_enter Tryz.func60, Tryz.ntmps60
        go_upto_region 1 with fail
        rw [← hW1, ← hg8]
        clear hW1 hg8
        go_wp2
        go_ret
        exact ⟨p, bv, v, m, HM1.out, fun _ => rfl, fun h => by cases h⟩
end Go.Proofs.YtfcclppgjfkfoaaGreatDoor

/- What Put of package token returns. Conditions: names and values of at most 2^20 bytes. -/
namespace Go.Proofs.YtfcclppgjfkfoaaGreatDoor
open Go.RowKit

theorem wr_new (w : World) : WR (w.alloc (.cells #[.pointer none, .slice none 0 0, .slice none 0 0, .map none, .int .i64 0] 115)) w.heap.size none (.slice none 0 0) (.slice none 0 0) none [] [] :=
  ⟨.inl ⟨rfl, rfl, rfl, Arr.new w _ _⟩, .inl rfl, World.ownsRow_nil _ _ _ _, fun _ hk => by cases hk⟩
theorem fpW_new (w : World) : ∀ k, fpW w.heap.size (.slice none 0 0) (.slice none 0 0) none k → w.heap.size ≤ k := by
  rintro k ((rfl | hk | hk) | hk)
  · exact Nat.le_refl _
  · cases hk
  · cases hk
  · cases hk
theorem moved_foot {w w' : World} {F F' : Nat → Prop} {B : Nat} (h : Moved w w' F F') (hF : ∀ k, F k → B ≤ k) (hB : B ≤ w.heap.size) : ∀ k, F' k → B ≤ k := fun k hk => (h.foot k hk).elim (hF k) (fun h => Nat.le_trans hB h)

set_option maxHeartbeats 3200000 in
set_option maxRecDepth 100000 in
theorem put_any (A : Option Addr) (cap : Nat) (l : List TK) (w : World) (hr : RdTk w A l) (hl : l.length ≤ maxLen) (hz : ∀ k, k < l.length → (l.getD k tk0).nm.size ≤ 1048576 ∧ (l.getD k tk0).vl.size ≤ 1048576) :
    Calls Tryz.prog 25 #[.slice A l.length cap] w fun e w' => e = .returned (.tuple #[.string (putR l).1, .string (putR l).2.1, .int .i64 ((putR l).2.2 : Int)]) ∧ Below w.heap.size w w' := by
  unfold maxLen at hl
  have HBIG := Lib.hid (putR_big (l := l))
  have HBAD := Lib.hid (putR_bad (l := l))
  have HGOOD := Lib.hid (putR_good (l := l))
  have HR := Lib.hid hr
  have HZ := Lib.hid hz
  generalize putR l = R at *
  clear hr hz
  by_cases h1024 : 1024 ≤ l.length
  · have HE := Lib.hid (HBIG.out h1024)
    have d0 : decide ((1024 : Int) ≤ l.length) = true := decide_eq_true (by omega)
    clear HBIG HBAD HGOOD
    go_enter Tryz.func25, Tryz.ntmps25
    go_wp2
    go_ret3
    exact ⟨by rw [HE.out]; rfl, Below.refl _ _⟩
  have d0 : decide ((1024 : Int) ≤ l.length) = false := decide_eq_false (by omega)
  have HBD : Hid (∀ k, k < l.length → okT (l.getD k tk0) = false → R = (ByteArray.empty, ByteArray.empty, 1)) := fun k hk h => HBAD.out h1024 (all_bad k hk h)
  have HGD : Hid ((∀ k, k < l.length → okT (l.getD k tk0) = true) → R = (⟨(putS [] l ++ big 9).toArray⟩, ⟨(flat (putB [] l)).toArray⟩, 0)) := fun h => HGOOD.out h1024 (all_good h)
  have HS0 := Lib.hid (wr_new w)
  have HF0 := Lib.hid (fpW_new w)
  have HB0 := Lib.hid ((Below.refl w.heap.size w).alloc (Nat.le_refl _) (.cells #[.pointer none, .slice none 0 0, .slice none 0 0, .map none, .int .i64 0] 115))
  clear HBIG HBAD HGOOD
  obtain ⟨w0, hw0⟩ : ∃ w0, w0 = w.alloc (.cells #[.pointer none, .slice none 0 0, .slice none 0 0, .map none, .int .i64 0] 115) := ⟨_, rfl⟩
  obtain ⟨g, hg⟩ : ∃ g, g = w.heap.size := ⟨_, rfl⟩
  have HS1 : Hid (WR w0 g none (.slice none 0 0) (.slice none 0 0) none [] []) := by rw [hg, hw0]; exact HS0.out
  have HF1 : Hid (∀ k, fpW g (.slice none 0 0) (.slice none 0 0) none k → w.heap.size ≤ k) := by unfold Hid; rw [hg]; exact HF0.out
  rw [← hw0] at HB0
  go_enter Tryz.func25, Tryz.ntmps25
  go_upto_region 4 with fail
  rw [← hw0, ← hg]
  clear HS0 HF0 hw0 hg
  go_wp2
  go_loopw [14] (fun i wr => ∃ (k : Nat) (p : Option Addr) (bv v : Value) (m : Option Nat), k ≤ l.length ∧ i = .int .i64 k ∧ Hid (WR wr g p bv v m (putS [] (l.take k)) (putB [] (l.take k))) ∧ Hid (∀ j, fpW g bv v m j → w.heap.size ≤ j) ∧ Below w.heap.size w wr ∧ Hid (∀ j, j < k → okT (l.getD j tk0) = true)) (fun i _ => l.length - (intOf i).toNat)
  case atStart => exact ⟨0, none, _, _, none, Nat.zero_le _, rfl, HS1, HF1, HB0.out, fun j hj => absurd hj (by omega)⟩
  case round =>
    clear HB0 HS1 HF1
    obtain ⟨k, p, bv, v, m, hk, rfl, HWR, HFP, hb, HALL⟩ := hrel
    have HB := Lib.hid hb
    have hsz := hb.size
    clear hb
    have HTV : Hid (∀ x ∈ l.take k, okT x = true ∧ x.vl.size ≤ 1048576) := by
      intro x hx
      obtain ⟨j, hj, rfl⟩ := List.getElem_of_mem hx
      rw [List.length_take] at hj
      have e : (l.take k)[j] = l.getD j tk0 := by
        rw [List.getElem_take, List.getD_eq_getElem?_getD, List.getElem?_eq_getElem (by omega)]; rfl
      rw [e]
      exact ⟨HALL.out j (by omega), (HZ.out j (by omega)).2⟩
    have hSz : (putS [] (l.take k)).length ≤ 1073807360 := by
      have h1 := putS_le (l.take k) [] HTV.out
      rw [List.length_take] at h1
      have h3 : min k l.length ≤ 1024 := by omega
      omega
    have hBL : (putB [] (l.take k)).length ≤ 1024 := by
      have := putB_len (l.take k) []
      rw [List.length_take] at this
      simp only [List.length_nil] at this
      omega
    clear HTV
    by_cases hlt : k < l.length
    · have hki : (k : Int) < l.length := by omega
      obtain ⟨b, off, x, rfl, ⟨h1, h2, h3⟩, HX⟩ := (HR.out.below HB.out).at_ hlt
      have hzx := HZ.out k hlt
      rw [HX.out] at hzx
      have HTK := Lib.hid (take_tk hlt HX.out)
      have HBDX := Lib.hid (HBD.out k hlt)
      rw [HX.out] at HBDX
      have HPS : Hid (putS [] (l.take (k + 1)) = putS [] (l.take k) ++ encT (posn (putB [] (l.take k)) x.nm) x ∧ putB [] (l.take (k + 1)) = blkT (putB [] (l.take k)) x) := by
        unfold Hid; rw [HTK.out, putS_snoc, putB_snoc]; exact ⟨rfl, rfl⟩
      have HAL : Hid (okT x = true → ∀ j, j < k + 1 → okT (l.getD j tk0) = true) := by
        intro hx j hj
        by_cases e : j = k
        · subst e; rw [HX.out]; exact hx
        · exact HALL.out j (by omega)
      clear HX HTK HBD HGD HALL
      generalize putB [] (l.take k) = BB at *
      generalize putS [] (l.take k) = SS at *
      obtain ⟨kd, nm, vl⟩ := x
      simp only at h1 h2 h3 hzx
      have HAT0 := Lib.hid (Arr.new wr 116 (tkC tk0))
      have HAT := Lib.hid (HAT0.out.row (tkC ⟨kd, nm, vl⟩))
      have HBW : Hid (Below wr.heap.size wr ((wr.alloc (.cells (tkC tk0) 116)).setRow wr.heap.size (tkC ⟨kd, nm, vl⟩))) := below_setRow ((Below.refl _ _).alloc (Nat.le_refl _) _) (Nat.le_refl _) _
      have HW2 := Lib.hid (HWR.out.below HBW.out)
      have HB2 := Lib.hid (HB.out.trans (HBW.out.mono hsz))
      have hz2 := HB2.out.size
      have HPUT := Lib.hid (wput_any g p bv v m SS BB ⟨kd, nm, vl⟩ _ HW2.out hzx.1 hzx.2 (by omega) (by omega))
      go_upto_region 7 with (first
        | (refine wpList_store_row rfl 116 (.tmp 7) (.tmp 17) rfl wr.heap.size (tkC ⟨kd, nm, vl⟩) rfl rfl _ _ HAT0.out (infoTk _) rfl (tkC_one _) ?_))
      change Code.wp _ _ _ _ ((wr.alloc (.cells (tkC tk0) 116)).setRow wr.heap.size (tkC ⟨kd, nm, vl⟩))
      generalize (wr.alloc (.cells (tkC tk0) 116)).setRow wr.heap.size (tkC ⟨kd, nm, vl⟩) = W at *
      generalize wr.heap.size = g8 at *
      clear HAT0 HBW HWR HB h1 h2 h3 HW2
      go_wp2_with (first
        | (refine wpList_load_row rfl 116 (.tmp 7) rfl g8 rfl _ #[.int .i64 kd, .string nm, .string vl] _ _ HAT.out Tryz.underlying116 rfl (infoTk ⟨kd, nm, vl⟩) ?_))
      refine HPUT.out.mono ?_
      rintro e w3 ⟨p', bv', v', m', hm3, hbad, hgood⟩
      have HFP3 := Lib.hid (moved_foot hm3 HFP.out hz2)
      have HB3 := Lib.hid (HB2.out.trans (hm3.below HFP.out hz2))
      clear hm3 HPUT HAT HFP HB2
      cases hok : okT ⟨kd, nm, vl⟩ with
      | false =>
        obtain rfl := hbad hok
        have HE := Lib.hid (HBDX.out hok)
        clear hok hbad hgood HBDX HPS HAL
        go_wp2
        go_ret3
        exact ⟨by rw [HE.out]; rfl, HB3.out⟩
      | true =>
        obtain ⟨rfl, hw3⟩ := hgood hok
        have HW3 := Lib.hid hw3
        have HAL1 := Lib.hid (HAL.out hok)
        clear hok hbad hgood hw3 HBDX HAL
        go_wp2
        go_roundw
        case rel => exact ⟨k + 1, p', bv', v', m', by omega, by go_num, by rw [HPS.out.1, HPS.out.2]; exact HW3, HFP3, HB3.out, HAL1⟩
        case measure => simp [intOf]; omega
    · obtain rfl : k = l.length := by omega
      have hgood := HGD.out HALL.out
      rw [List.take_length] at HWR hSz hBL
      obtain ⟨BG, hBG⟩ : ∃ BG : ByteArray, BG = ⟨(big 9).toArray⟩ := ⟨_, rfl⟩
      have hBGl : BG.data.toList = big 9 := by rw [hBG, mk_list]
      have hBGs : BG.size = 4 := by show BG.data.toList.length = 4; rw [hBGl, big_len]
      have HBI : Hid (∀ W' : World, Calls Tryz.prog 61 #[.int .i64 9] W' fun e w' => e = .returned (.string BG) ∧ Below W'.heap.size W' w') := fun W' => by rw [hBG]; exact big_any 9 W'
      have HWS : Hid (∀ W', Below wr.heap.size wr W' → Calls Tryz.prog 57 #[.pointer (some ⟨g, 0, none⟩), .string BG] W' fun e w' => e = .returned (.tuple #[.int .i64 (BG.size : Int), .nilIface]) ∧ ∃ bv', WR w' g (some ⟨g, 0, none⟩) bv' v m (putS [] l ++ BG.data.toList) (putB [] l) ∧ Moved W' w' (fpW g bv v m) (fpW g bv' v m)) :=
        fun W' h => bwrite_any g p bv v m _ _ BG W' (HWR.out.below h) (by omega)
      have HNE : Hid (putS [] l ++ BG.data.toList ≠ []) := by
        intro h
        have := congrArg List.length h
        rw [List.length_append] at this
        have h2 : BG.data.toList.length = BG.size := rfl
        simp only [List.length_nil] at this
        omega
      rw [← hBGl] at hgood
      have HE := Lib.hid hgood
      clear hgood hBG hBGl hBGs HALL HBD HGD HZ HR
      generalize putS [] l ++ BG.data.toList = SF at *
      generalize putB [] l = BF at *
      go_wp2_with fail
      refine (HBI.out _).mono ?_
      rintro e w1 ⟨rfl, hb1⟩
      have HB1 := Lib.hid (HB.out.trans (hb1.mono hsz))
      have hz1 := HB1.out.size
      have HW1 := Lib.hid (HWS.out _ hb1)
      clear HWS HBI hb1 HB HWR
      go_wp2_with fail
      refine HW1.out.mono ?_
      rintro e w2 ⟨rfl, bv2, hw2, hm2⟩
      have HB2 := Lib.hid (HB1.out.trans (hm2.below HFP.out hz1))
      have HFP2 := Lib.hid (moved_foot hm2 HFP.out hz1)
      have hz2 := HB2.out.size
      have HST := Lib.hid (bstring_any g _ bv2 v m SF BF w2 hw2 HNE.out)
      clear hw2 hm2 HW1 HB1 HFP HNE
      go_wp2_with fail
      refine HST.out.mono ?_
      rintro e w3 ⟨rfl, hbw3, hm3⟩
      have HB3 := Lib.hid (HB2.out.trans (hm3.below (fun k hk => HFP2.out k (.inr hk)) hz2))
      have HBY := Lib.hid (wbytes_any g _ _ v m BF w3 hbw3)
      clear hbw3 hm3 HST HB2 HFP2
      go_wp2_with fail
      refine HBY.out.mono ?_
      rintro e w4 ⟨rfl, rfl⟩
      go_wp2
      go_ret3
      exact ⟨by rw [HE.out]; rfl, HB3.out⟩
end Go.Proofs.YtfcclppgjfkfoaaGreatDoor
