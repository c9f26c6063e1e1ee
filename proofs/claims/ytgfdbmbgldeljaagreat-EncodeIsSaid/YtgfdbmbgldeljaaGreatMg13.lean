/- What the document's Put returns. Conditions: a slice that reads as tokens, each name and value of at most 2^20 bytes. -/
import Derived.Test.YtgfdbmbgldeljaaGreatMg12
import Derived.Deep.DeepCutAuto
namespace Go.Proofs.YtgfdbmbgldeljaaGreat
open Go.RowKit

theorem add_lists (a b : List UInt8) (h : a.length + b.length ≤ 1099511627776) (W : World) : (Op.stringOp .add ⟨a.toArray⟩ ⟨b.toArray⟩).run Tryz.prog W = .ok (.string ⟨(a ++ b).toArray⟩) W := by
  rw [run_string_add_sum W _ _ (by rw [size_mk, size_mk]; omega), ByteArray.mk_append_mk]
/-- The same, with letters for the strings. -/
theorem add_letters {x y z : ByteArray} (hz : z.data.toList = x.data.toList ++ y.data.toList) (h : x.size + y.size ≤ 1099511627776) (W : World) : (Op.stringOp .add x y).run Tryz.prog W = .ok (.string z) W := by
  have := add_lists x.data.toList y.data.toList h W
  rw [ba_of, ba_of, ← hz, ba_of] at this
  exact this
theorem mk_list (l : List UInt8) : (ByteArray.mk l.toArray).data.toList = l := by simp
theorem padL_le (l : List UInt8) : (padL l).length ≤ l.length + 3 := by rw [padL_length]; have := up4_lt l.length; omega
theorem encT_le {p : Nat} {x : TK} (hok : okT x = true) : (encT p x).length ≤ x.vl.size + 64 := by
  unfold encT
  split
  · rename_i h1
    unfold okT at hok
    rw [if_pos h1] at hok
    have hn : x.nm.size ≤ 31 := by
      unfold nodeB at hok
      rcases Bool.or_eq_true_iff.1 hok with h | h
      · have := of_decide_eq_true h; omega
      · exact (mayB_iff.1 h).2.1
    have := padL_le (x.nm.data.toList ++ [0])
    have hl : x.nm.data.toList.length = x.nm.size := rfl
    rw [List.length_append] at this ⊢
    rw [big_len]
    simp only [List.length_cons, List.length_nil] at this
    omega
  · split
    · have := padL_le x.vl.data.toList
      have hl : x.vl.data.toList.length = x.vl.size := rfl
      rw [List.length_append, List.length_append, List.length_append, big_len, big_len, big_len]
      omega
    · rw [big_len]; omega
theorem putS_le : ∀ (l : List TK) (B : List ByteArray), (∀ x ∈ l, okT x = true ∧ x.vl.size ≤ 1048576) → (putS B l).length ≤ l.length * 1048640
  | [], _, _ => Nat.zero_le _
  | x :: l, B, h => by
    have h1 := putS_le l (blkT B x) (fun y hy => h y (by simp [hy]))
    have h2 := encT_le (p := posn B x.nm) (h x (by simp)).1
    have h3 := (h x (by simp)).2
    show (encT _ x ++ putS (blkT B x) l).length ≤ _
    rw [List.length_append, List.length_cons]
    omega
theorem take_tk {l : List TK} {k : Nat} (hk : k < l.length) {x : TK} (hx : l.getD k tk0 = x) : l.take (k + 1) = l.take k ++ [x] := by
  rw [List.take_succ_eq_append_getElem hk, ← hx, List.getD_eq_getElem?_getD, List.getElem?_eq_getElem hk]; rfl
theorem all_bad {l : List TK} (k : Nat) (hk : k < l.length) (h : okT (l.getD k tk0) = false) : l.all okT = false := by
  cases e : l.all okT with
  | false => rfl
  | true =>
    have := List.all_eq_true.1 e (l.getD k tk0) (by rw [List.getD_eq_getElem?_getD, List.getElem?_eq_getElem hk]; exact List.getElem_mem _)
    rw [h] at this; cases this
theorem all_good {l : List TK} (h : ∀ k, k < l.length → okT (l.getD k tk0) = true) : l.all okT = true := by
  rw [List.all_eq_true]
  intro s hs
  obtain ⟨k, hk, rfl⟩ := List.getElem_of_mem hs
  have := h k hk
  rwa [List.getD_eq_getElem?_getD, List.getElem?_eq_getElem hk] at this
/-- The document's Block, in blocks of the call's own. -/
def Oy9 (B : Nat) (w : World) (g : Nat) (L : List ByteArray) : Prop := ∃ lv av, RX w g lv av L ∧ ∀ k, fpX g lv av k → B ≤ k
section
variable {B : Nat} {w w' : World} {g : Nat} {L : List ByteArray}
theorem Oy9.below (h : Oy9 B w g L) (hb : Below w.heap.size w w') : Oy9 B w' g L := by obtain ⟨lv, av, h1, h2⟩ := h; exact ⟨lv, av, h1.below hb, h2⟩
theorem Oy9.ok (h : Oy9 B w g L) : okL L := by obtain ⟨lv, av, h1, h2⟩ := h; exact h1.2.2.2
theorem Oy9.cell (h : Oy9 B w g L) : w.cell? ⟨g, 2, none⟩ = some (.string ⟨(flat L).toArray⟩) := by obtain ⟨lv, av, h1, h2⟩ := h; exact h1.1.cell 2
theorem oy9_add (h : Oy9 B w g L) (hB : B ≤ w.heap.size) (s : ByteArray) (hs : s.size ≤ maxLen) (hL : L.length ≤ 1073741824) {g' : Nat} {cs : Array Value} (hA : Arr w g' 88 cs) :
    Calls Tryz.prog 49 #[.pointer (some ⟨g, 0, none⟩), .string s] w fun e w' => e = .returned (.tuple #[.int .i64 ((addV L s).1 : Int), .int .i64 ((addV L s).2 : Int)]) ∧ Oy9 B w' g (addA L s) ∧ Below B w w' ∧ Arr w' g' 88 cs := by
  obtain ⟨lv, av, h1, h2⟩ := h
  refine (radd_any g lv av L s w h1 hs hL).mono ?_
  rintro e w' ⟨he, lv', av', hb, hm⟩
  refine ⟨he, ⟨lv', av', hb, fun k hk => ?_⟩, hm.below h2 hB, hm.arr hA ?_⟩
  · rcases hm.foot k hk with h5 | h5
    · exact h2 k h5
    · exact Nat.le_trans hB h5
  · obtain ⟨a1, a2, a3, _⟩ := h1
    unfold Arr at hA a1
    rintro (rfl | hk | hk)
    · rw [hA] at a1; injection a1 with a1; injection a1 with _ a4; exact absurd a4 (by decide)
    · obtain ⟨cur, hc⟩ := ow_type a2 hk
      rw [hA] at hc; injection hc with hc; injection hc with _ a4; exact absurd a4 (by decide)
    · obtain ⟨cur, hc⟩ := ow_type a3 hk
      rw [hA] at hc; injection hc with hc; injection hc with _ a4; exact absurd a4 (by decide)
theorem oy9_new (w : World) : Oy9 w.heap.size (w.alloc (.cells #[.slice none 0 0, .slice none 0 0, .string ⟨#[]⟩] 98)) w.heap.size [] := by
  obtain ⟨lv, av, h1, h2, _⟩ := ox9_new w
  exact ⟨lv, av, h1, h2⟩
end
/-- How Put's ends are told. -/
theorem putR_big {l : List TK} (h : 1024 ≤ l.length) : putR l = (ByteArray.empty, ByteArray.empty, 7) := by unfold putR; rw [if_pos h]
theorem putR_bad {l : List TK} (h : ¬ 1024 ≤ l.length) (hb : l.all okT = false) : putR l = (ByteArray.empty, ByteArray.empty, 1) := by unfold putR; rw [if_neg h, hb]; rfl
theorem putR_good {l : List TK} (h : ¬ 1024 ≤ l.length) (hb : l.all okT = true) : putR l = (⟨(putS [] l ++ big 9).toArray⟩, ⟨(flat (putB [] l)).toArray⟩, 0) := by unfold putR; rw [if_neg h, hb]; rfl

set_option maxHeartbeats 6400000 in
set_option maxRecDepth 100000 in
theorem rput_any (A : Option Addr) (cap : Nat) (l : List TK) (w : World) (hr : RdTk w A l) (hl : l.length ≤ maxLen) (hz : ∀ k, k < l.length → (l.getD k tk0).nm.size ≤ 1048576 ∧ (l.getD k tk0).vl.size ≤ 1048576) :
    Calls Tryz.prog 20 #[.slice A l.length cap] w fun e w' => e = .returned (.tuple #[.string (putR l).1, .string (putR l).2.1, .int .i64 ((putR l).2.2 : Int)]) ∧ Below w.heap.size w w' := by
  unfold maxLen at hl
  have HBIG := Lib.hid (putR_big (l := l))
  have HBAD := Lib.hid (putR_bad (l := l))
  have HGOOD := Lib.hid (putR_good (l := l))
  have HR := Lib.hid hr
  have HZ := Lib.hid hz
  generalize putR l = R at *
  clear hr hz
  by_cases h1024 : 1024 ≤ l.length
  · have HE := Lib.hid (HBIG.out h1024)
    have d0 : decide ((1024 : Int) ≤ l.length) = true := decide_eq_true (by omega)
    clear HBIG HBAD HGOOD
    go_enter Tryz.func20, Tryz.ntmps20
    go_wp2
    go_ret3
    exact ⟨by rw [HE.out]; rfl, Below.refl _ _⟩
  have d0 : decide ((1024 : Int) ≤ l.length) = false := decide_eq_false (by omega)
  have HBD : Hid (∀ k, k < l.length → okT (l.getD k tk0) = false → R = (ByteArray.empty, ByteArray.empty, 1)) := fun k hk h => HBAD.out h1024 (all_bad k hk h)
  have HGD : Hid ((∀ k, k < l.length → okT (l.getD k tk0) = true) → R = (⟨(putS [] l ++ big 9).toArray⟩, ⟨(flat (putB [] l)).toArray⟩, 0)) := fun h => HGOOD.out h1024 (all_good h)
  have HS0 := Lib.hid (oy9_new w)
  have HB0 := Lib.hid ((Below.refl w.heap.size w).alloc (Nat.le_refl _) (.cells #[.slice none 0 0, .slice none 0 0, .string ⟨#[]⟩] 98))
  clear HBIG HBAD HGOOD
  go_enter Tryz.func20, Tryz.ntmps20
  go_wp2
  generalize w.alloc (.cells #[.slice none 0 0, .slice none 0 0, .string ⟨#[]⟩] 98) = w0 at *
  obtain ⟨g, hg⟩ : ∃ g, g = w.heap.size := ⟨_, rfl⟩
  have HS1 : Hid (Oy9 w.heap.size w0 g []) := by rw [hg]; exact HS0.out
  simp only [← hg]
  go_loopw [6, 7] (fun sv i wr => ∃ (k : Nat) (S : ByteArray), k ≤ l.length ∧ i = .int .i64 k ∧ sv = .string S ∧ Hid (S.data.toList = putS [] (l.take k)) ∧ Oy9 w.heap.size wr g (putB [] (l.take k)) ∧ Below w.heap.size w wr ∧ Hid (∀ j, j < k → okT (l.getD j tk0) = true)) (fun _ i _ => l.length - (intOf i).toNat)
  case atStart => exact ⟨0, ⟨#[]⟩, Nat.zero_le _, rfl, rfl, rfl, HS1.out, HB0.out, fun j hj => absurd hj (by omega)⟩
  case round =>
    clear HS0 HB0 HS1 hg
    obtain ⟨k, S, hk, rfl, rfl, HSL, hof, hb, HALL⟩ := hrel
    have HOF := Lib.hid hof
    have HB := Lib.hid hb
    have hsz := hb.size
    clear hof hb
    have HTV : Hid (∀ x ∈ l.take k, okT x = true ∧ x.vl.size ≤ 1048576) := by
      intro x hx
      obtain ⟨j, hj, rfl⟩ := List.getElem_of_mem hx
      rw [List.length_take] at hj
      have e : (l.take k)[j] = l.getD j tk0 := by
        rw [List.getElem_take, List.getD_eq_getElem?_getD, List.getElem?_eq_getElem (by omega)]; rfl
      rw [e]
      exact ⟨HALL.out j (by omega), (HZ.out j (by omega)).2⟩
    have hSz : S.size ≤ 1073807360 := by
      have h1 := putS_le (l.take k) [] HTV.out
      rw [← HSL.out, List.length_take] at h1
      have h2 : S.data.toList.length = S.size := rfl
      have h3 : min k l.length ≤ 1024 := by omega
      omega
    have HBL : Hid ((putB [] (l.take k)).length ≤ 1024) := by
      have := putB_len (l.take k) []
      rw [List.length_take] at this
      simp only [List.length_nil] at this
      unfold Hid; omega
    clear HTV
    by_cases hlt : k < l.length
    · have hki : (k : Int) < l.length := by omega
      obtain ⟨b, off, x, rfl, ⟨h1, h2, h3⟩, HX⟩ := (HR.out.below HB.out).at_ hlt
      have hzx := HZ.out k hlt
      rw [HX.out] at hzx
      have HTK := Lib.hid (take_tk hlt HX.out)
      have HBDX := Lib.hid (HBD.out k hlt)
      rw [HX.out] at HBDX
      have HPS : Hid (putS [] (l.take (k + 1)) = putS [] (l.take k) ++ encT (posn (putB [] (l.take k)) x.nm) x ∧ putB [] (l.take (k + 1)) = blkT (putB [] (l.take k)) x) := by
        unfold Hid; rw [HTK.out, putS_snoc, putB_snoc]; exact ⟨rfl, rfl⟩
      have HAL : Hid (okT x = true → ∀ j, j < k + 1 → okT (l.getD j tk0) = true) := by
        intro hx j hj
        by_cases e : j = k
        · subst e; rw [HX.out]; exact hx
        · exact HALL.out j (by omega)
      rw [← HSL.out] at HPS
      clear HX HTK HBD HGD HALL HSL
      generalize putB [] (l.take k) = BB at *
      obtain ⟨kd, nm, vl⟩ := x
      simp only at h1 h2 h3 hzx
      have HAT0 := Lib.hid (Arr.new wr 88 (tkC tk0))
      go_upto_region 9 with (first
        | (refine wpList_store_row rfl 88 (.tmp 8) (.tmp 25) rfl wr.heap.size (tkC ⟨kd, nm, vl⟩) rfl rfl _ _ HAT0.out (infoTk _) rfl (tkC_one _) ?_))
      change Code.wp _ _ _ _ ((wr.alloc (.cells (tkC tk0) 88)).setRow wr.heap.size (tkC ⟨kd, nm, vl⟩))
      have HAT := Lib.hid (HAT0.out.row (tkC ⟨kd, nm, vl⟩))
      have HBW : Hid (Below wr.heap.size wr ((wr.alloc (.cells (tkC tk0) 88)).setRow wr.heap.size (tkC ⟨kd, nm, vl⟩))) := below_setRow ((Below.refl _ _).alloc (Nat.le_refl _) _) (Nat.le_refl _) _
      have HOF2 := Lib.hid (HOF.out.below HBW.out)
      have HB2 := Lib.hid (HB.out.trans (HBW.out.mono hsz))
      have hz2 := HB2.out.size
      generalize (wr.alloc (.cells (tkC tk0) 88)).setRow wr.heap.size (tkC ⟨kd, nm, vl⟩) = W at *
      generalize wr.heap.size = g8 at *
      have c0 : W.cell? ⟨g8, 0, none⟩ = some (.int .i64 kd) := HAT.out.cell 0
      have c1 : W.cell? ⟨g8, 1, none⟩ = some (.string nm) := HAT.out.cell 1
      clear HAT0 HBW HOF HB h1 h2 h3
      by_cases k1 : kd = 1
      · subst k1
        have HN := Lib.hid (fun W => rnode_any nm W (by unfold maxLen; omega))
        cases hn : nodeB nm with
        | false =>
          rw [hn] at HN
          have HE := Lib.hid (HBDX.out (by unfold okT; rw [if_pos rfl]; exact hn))
          clear hn HBDX HPS HAL
          go_wp2_with fail
          refine (HN.out _).mono ?_
          rintro e w3 ⟨rfl, rfl⟩
          go_wp2
          go_ret3
          exact ⟨by rw [HE.out]; rfl, HB2.out⟩
        | true =>
          rw [hn] at HN
          have hok : okT ⟨1, nm, vl⟩ = true := by unfold okT; rw [if_pos rfl]; exact hn
          have hn31 : nm.size ≤ 31 := by
            unfold nodeB at hn
            rcases Bool.or_eq_true_iff.1 hn with h | h
            · have := of_decide_eq_true h; omega
            · exact (mayB_iff.1 h).2.1
          have hpad := padL_le (nm.data.toList ++ [0])
          have hnl : nm.data.toList.length = nm.size := rfl
          rw [List.length_append] at hpad
          simp only [List.length_cons, List.length_nil] at hpad
          obtain ⟨NZ, hNZ⟩ : ∃ NZ : ByteArray, NZ.data.toList = nm.data.toList ++ [0] := ⟨⟨(nm.data.toList ++ [0]).toArray⟩, mk_list _⟩
          obtain ⟨BG, hBG⟩ : ∃ BG : ByteArray, BG = ⟨(big 1).toArray⟩ := ⟨_, rfl⟩
          have hBGl : BG.data.toList = big 1 := by rw [hBG, mk_list]
          obtain ⟨PD, hPD⟩ : ∃ PD : ByteArray, PD = ⟨(padL NZ.data.toList).toArray⟩ := ⟨_, rfl⟩
          have hPDl : PD.data.toList = padL (nm.data.toList ++ [0]) := by rw [hPD, mk_list, hNZ]
          obtain ⟨S1, hS1⟩ : ∃ S1 : ByteArray, S1.data.toList = S.data.toList ++ BG.data.toList := ⟨⟨(S.data.toList ++ BG.data.toList).toArray⟩, mk_list _⟩
          obtain ⟨S2, hS2⟩ : ∃ S2 : ByteArray, S2.data.toList = S1.data.toList ++ PD.data.toList := ⟨⟨(S1.data.toList ++ PD.data.toList).toArray⟩, mk_list _⟩
          have hBGs : BG.size = 4 := by show BG.data.toList.length = 4; rw [hBGl, big_len]
          have hPDs : PD.size ≤ 40 := by show PD.data.toList.length ≤ 40; rw [hPDl]; omega
          have hNZs : NZ.size ≤ 40 := by show NZ.data.toList.length ≤ 40; rw [hNZ, List.length_append]; simp only [List.length_cons, List.length_nil]; omega
          have hS1s : S1.size = S.size + 4 := by show S1.data.toList.length = _; rw [hS1, List.length_append, hBGl, big_len]; rfl
          have a1 : ∀ W, (Op.stringOp .add nm ⟨#[0]⟩).run Tryz.prog W = .ok (.string NZ) W := fun W => add_letters (by rw [hNZ]) (by show nm.size + 1 ≤ _; omega) W
          have a2 : ∀ W, (Op.stringOp .add S BG).run Tryz.prog W = .ok (.string S1) W := fun W => add_letters hS1 (by omega) W
          have a3 : ∀ W, (Op.stringOp .add S1 PD).run Tryz.prog W = .ok (.string S2) W := fun W => add_letters hS2 (by omega) W
          have HS2 : Hid (S2.data.toList = putS [] (l.take (k + 1))) := by
            unfold Hid
            rw [HPS.out.1, hS2, hS1, hBGl, hPDl, List.append_assoc]
            unfold encT
            rw [if_pos rfl]
          have HBB : Hid (putB [] (l.take (k + 1)) = BB) := by unfold Hid; rw [HPS.out.2]; unfold blkT; rw [if_neg (show ¬ (1 : Int) = 3 by decide)]
          have HAL1 := Lib.hid (HAL.out hok)
          have HKP : Hid (∀ W', Below W.heap.size W W' → W'.cell? ⟨g8, 1, none⟩ = some (.string nm) ∧ Below W.heap.size W W') := fun W' h => ⟨(HAT.out.below h HAT.out.lt).cell 1, h⟩
          have HBI : Hid (∀ W', Below W.heap.size W W' → Calls Tryz.prog 47 #[.int .i64 1] W' fun e w' => e = .returned (.string BG) ∧ w'.cell? ⟨g8, 1, none⟩ = some (.string nm) ∧ Below W.heap.size W w') := fun W' h => by
            rw [hBG]
            exact (refbig_any 1 W').mono fun e w' ⟨q1, q2⟩ => ⟨q1, HKP.out _ (h.trans (q2.mono h.size))⟩
          have HPA : Hid (∀ W' : World, Calls Tryz.prog 48 #[.string NZ] W' fun e w' => e = .returned (.string PD) ∧ W' = w') := fun W' => by
            rw [hPD]; exact rpad_any NZ W' (by omega)
          have hbd : Below W.heap.size W W.drew := (Below.refl _ _).drew
          clear hn hok hn31 hpad hnl hNZ hBG hBGl hPD hPDl hS1 hS2 hBGs hPDs hNZs hS1s HBDX HPS HAL
          go_wp2_with fail
          refine (HN.out _).mono ?_
          rintro e w3 ⟨rfl, rfl⟩
          go_upto_region 14 with fail
          go_region_held3 (fun w' => w'.cell? ⟨g8, 1, none⟩ = some (.string nm) ∧ Below W.heap.size W w') (exact HKP.out _ (by assumption))
            (first | (go_at_call 47; refine (HBI.out _ (by assumption)).mono ?_; rintro e w7 ⟨rfl, s1, s2⟩) | (go_at_call 48; refine (HPA.out _).mono ?_; rintro e w8 ⟨rfl, rfl⟩))
          have HOF3 := Lib.hid (HOF2.out.below s2)
          have HB3 := Lib.hid (HB2.out.trans (s2.mono hz2))
          clear s1 s2 hbd HKP HBI HPA
          go_wp2
          go_roundw
          case rel => exact ⟨k + 1, S2, by omega, by go_num, rfl, HS2, by rw [HBB.out]; exact HOF3.out, HB3.out, HAL1⟩
          case measure => simp [intOf]; omega
      · have dk1 : (kd == 1) = false := by simpa using k1
        by_cases k3 : kd = 3
        · subst k3
          have HAD := Lib.hid (oy9_add HOF2.out hz2 nm (by unfold maxLen; omega) (by have := HBL.out; omega) HAT.out)
          cases hm : mayB nm with
          | false =>
            have e1 : addV BB nm = (0, 1) := by unfold addV; rw [hm]; rfl
            rw [e1] at HAD
            have HE := Lib.hid (HBDX.out (by unfold okT; rw [if_neg (show ¬ (3 : Int) = 1 by decide), if_pos rfl]; exact hm))
            clear e1 hm HBDX HPS HAL dk1
            go_wp2_with fail
            refine HAD.out.mono ?_
            rintro e w3 ⟨rfl, _, hb3, _⟩
            have HB3 := Lib.hid (HB2.out.trans hb3)
            clear hb3 HAD
            go_wp2
            go_ret3
            exact ⟨by rw [HE.out]; rfl, HB3.out⟩
          | true =>
            have e1 : addV BB nm = (posn BB nm, 0) := by unfold addV; rw [hm]; rfl
            rw [e1] at HAD
            have hok : okT ⟨3, nm, vl⟩ = true := by unfold okT; rw [if_neg (show ¬ (3 : Int) = 1 by decide), if_pos rfl]; exact hm
            have HBB : Hid (putB [] (l.take (k + 1)) = addA BB nm) := by unfold Hid; rw [HPS.out.2]; unfold blkT; rw [if_pos rfl]
            have HSX : Hid (putS [] (l.take (k + 1)) = S.data.toList ++ (big 3 ++ (big (vl.size : Int) ++ (big ((posn BB nm : Nat) : Int) ++ padL vl.data.toList)))) := by
              unfold Hid; rw [HPS.out.1]; unfold encT; rw [if_neg (show ¬ (3 : Int) = 1 by decide), if_pos rfl]
            have HAL1 := Lib.hid (HAL.out hok)
            clear e1 hm HBDX HPS HAL dk1 hok
            generalize posn BB nm = pp at *
            generalize addA BB nm = B2 at *
            have hpad := padL_le vl.data.toList
            have hvl : vl.data.toList.length = vl.size := rfl
            obtain ⟨BS, hBS⟩ : ∃ BS : ByteArray, BS = ⟨(bigs [3, (vl.size : Int), (pp : Int)] 3).toArray⟩ := ⟨_, rfl⟩
            have hBSl : BS.data.toList = big 3 ++ (big (vl.size : Int) ++ big (pp : Int)) := by rw [hBS, mk_list]; rfl
            obtain ⟨PD, hPD⟩ : ∃ PD : ByteArray, PD = ⟨(padL vl.data.toList).toArray⟩ := ⟨_, rfl⟩
            have hPDl : PD.data.toList = padL vl.data.toList := by rw [hPD, mk_list]
            obtain ⟨S1, hS1⟩ : ∃ S1 : ByteArray, S1.data.toList = S.data.toList ++ BS.data.toList := ⟨⟨(S.data.toList ++ BS.data.toList).toArray⟩, mk_list _⟩
            obtain ⟨S2, hS2⟩ : ∃ S2 : ByteArray, S2.data.toList = S1.data.toList ++ PD.data.toList := ⟨⟨(S1.data.toList ++ PD.data.toList).toArray⟩, mk_list _⟩
            have hBSs : BS.size = 12 := by show BS.data.toList.length = 12; rw [hBSl, List.length_append, List.length_append, big_len, big_len, big_len]
            have hPDs : PD.size ≤ 1048579 := by show PD.data.toList.length ≤ _; rw [hPDl]; omega
            have hS1s : S1.size = S.size + 12 := by show S1.data.toList.length = _; rw [hS1, List.length_append]; show S.size + BS.size = _; omega
            have a2 : ∀ W, (Op.stringOp .add S BS).run Tryz.prog W = .ok (.string S1) W := fun W => add_letters hS1 (by omega) W
            have a3 : ∀ W, (Op.stringOp .add S1 PD).run Tryz.prog W = .ok (.string S2) W := fun W => add_letters hS2 (by omega) W
            have HS2 : Hid (S2.data.toList = putS [] (l.take (k + 1))) := by
              unfold Hid
              rw [HSX.out, hS2, hS1, hBSl, hPDl]
              simp only [List.append_assoc]
            have HPA : Hid (∀ W' : World, Calls Tryz.prog 48 #[.string vl] W' fun e w' => e = .returned (.string PD) ∧ W' = w') := fun W' => by
              rw [hPD]; exact rpad_any vl W' (by omega)
            clear hpad hvl hBSl hPD hPDl hS1 hS2 hBSs hPDs hS1s HSX
            go_wp2_with fail
            refine HAD.out.mono ?_
            rintro e w3 ⟨rfl, hof3, hb3, hat3⟩
            have HOF3 := Lib.hid hof3
            have HB3 := Lib.hid (HB2.out.trans hb3)
            have HAT3 := Lib.hid hat3
            have hz3 := HB3.out.size
            have c2 : w3.cell? ⟨g8, 2, none⟩ = some (.string vl) := hat3.cell 2
            clear hof3 hb3 hat3 HAD HOF2 HB2 HAT
            have HKP : Hid (∀ W', Below w3.heap.size w3 W' → W'.cell? ⟨g8, 2, none⟩ = some (.string vl) ∧ Below w3.heap.size w3 W') := fun W' h => ⟨(HAT3.out.below h HAT3.out.lt).cell 2, h⟩
            have HBI : Hid (∀ W' b, Arr W' b 3 #[.int .i64 3, .int .i64 (vl.size : Int), .int .i64 (pp : Int)] → Below w3.heap.size w3 W' → Calls Tryz.prog 28 #[.slice (some ⟨b, 0, none⟩) 3 3] W' fun e w' => e = .returned (.string BS) ∧ w'.cell? ⟨g8, 2, none⟩ = some (.string vl) ∧ Below w3.heap.size w3 w') := fun W' b hA h => by
              rw [hBS]
              refine (refbigs_any (some ⟨b, 0, none⟩) 3 [3, (vl.size : Int), (pp : Int)] W' (by show (3 : Nat) ≤ 1099511627776; decide) (.inr ⟨b, 0, rfl, hA.lt, fun j hj => ?_⟩)).mono fun e w' ⟨q1, q2⟩ => ⟨q1, HKP.out _ (h.trans (q2.mono h.size))⟩
              rw [Nat.zero_add, hA.cell]
              match j, hj with
              | 0, _ => rfl
              | 1, _ => rfl
              | 2, _ => rfl
            have hbd : Below w3.heap.size w3 w3.drew := (Below.refl _ _).drew
            have hbe : Below w3.heap.size w3 (w3.drew.alloc (.cells #[.int .i64 3, .int .i64 (vl.size : Int), .int .i64 (pp : Int)] 3)) := hbd.alloc (Nat.le_refl _) _
            have hAr : Arr (w3.drew.alloc (.cells #[.int .i64 3, .int .i64 (vl.size : Int), .int .i64 (pp : Int)] 3)) w3.heap.size 3 #[.int .i64 3, .int .i64 (vl.size : Int), .int .i64 (pp : Int)] := Arr.new w3.drew _ _
            clear hBS
            go_upto_region 19 with fail
            go_region_held3 (fun w' => w'.cell? ⟨g8, 2, none⟩ = some (.string vl) ∧ Below w3.heap.size w3 w') (exact HKP.out _ (by assumption))
              (first | (go_at_call 28; refine (HBI.out _ _ hAr (by assumption)).mono ?_; rintro e w7 ⟨rfl, s1, s2⟩) | (go_at_call 48; refine (HPA.out _).mono ?_; rintro e w8 ⟨rfl, rfl⟩))
            have HOF4 := Lib.hid (HOF3.out.below s2)
            have HB4 := Lib.hid (HB3.out.trans (s2.mono hz3))
            clear s1 s2 hbd hbe hAr HKP HBI HPA
            go_wp2
            go_roundw
            case rel => exact ⟨k + 1, S2, by omega, by go_num, rfl, HS2, by rw [HBB.out]; exact HOF4.out, HB4.out, HAL1⟩
            case measure => simp [intOf]; omega
        · have dk3 : (kd == 3) = false := by simpa using k3
          by_cases k24 : kd = 2 ∨ kd = 4
          · obtain ⟨BG, hBG⟩ : ∃ BG : ByteArray, BG = ⟨(big kd).toArray⟩ := ⟨_, rfl⟩
            have hBGl : BG.data.toList = big kd := by rw [hBG, mk_list]
            have hBGs : BG.size = 4 := by show BG.data.toList.length = 4; rw [hBGl, big_len]
            obtain ⟨S1, hS1⟩ : ∃ S1 : ByteArray, S1.data.toList = S.data.toList ++ BG.data.toList := ⟨⟨(S.data.toList ++ BG.data.toList).toArray⟩, mk_list _⟩
            have a2 : ∀ W, (Op.stringOp .add S BG).run Tryz.prog W = .ok (.string S1) W := fun W => add_letters hS1 (by omega) W
            have HS2 : Hid (S1.data.toList = putS [] (l.take (k + 1))) := by
              unfold Hid; rw [HPS.out.1, hS1, hBGl]; unfold encT; rw [if_neg k1, if_neg k3]
            have HBB : Hid (putB [] (l.take (k + 1)) = BB) := by unfold Hid; rw [HPS.out.2]; unfold blkT; rw [if_neg k3]
            have HAL1 := Lib.hid (HAL.out (by unfold okT; rw [if_neg k1, if_neg k3]; exact decide_eq_true k24))
            have HBI : Hid (∀ W' : World, Calls Tryz.prog 47 #[.int .i64 kd] W' fun e w' => e = .returned (.string BG) ∧ Below W'.heap.size W' w') := fun W' => by rw [hBG]; exact refbig_any kd W'
            clear hBG hBGl hBGs hS1 HPS HAL HBDX
            rcases k24 with k2 | k2
            · have d2 : (kd == 2) = true := by simpa using k2
              clear k1 k3 k2
              go_wp2_with fail
              refine (HBI.out _).mono ?_
              rintro e w3 ⟨rfl, hb3⟩
              have HOF3 := Lib.hid (HOF2.out.below hb3)
              have HB3 := Lib.hid (HB2.out.trans (hb3.mono hz2))
              clear hb3
              go_wp2
              go_roundw
              case rel => exact ⟨k + 1, S1, by omega, by go_num, rfl, HS2, by rw [HBB.out]; exact HOF3.out, HB3.out, HAL1⟩
              case measure => simp [intOf]; omega
            · have d2 : (kd == 2) = false := by simp; omega
              have d4 : (kd == 4) = true := by simpa using k2
              clear k1 k3 k2
              go_wp2_with fail
              refine (HBI.out _).mono ?_
              rintro e w3 ⟨rfl, hb3⟩
              have HOF3 := Lib.hid (HOF2.out.below hb3)
              have HB3 := Lib.hid (HB2.out.trans (hb3.mono hz2))
              clear hb3
              go_wp2
              go_roundw
              case rel => exact ⟨k + 1, S1, by omega, by go_num, rfl, HS2, by rw [HBB.out]; exact HOF3.out, HB3.out, HAL1⟩
              case measure => simp [intOf]; omega
          · have d2 : (kd == 2) = false := by simp; omega
            have d4 : (kd == 4) = false := by simp; omega
            have HE := Lib.hid (HBDX.out (by unfold okT; rw [if_neg k1, if_neg k3]; exact decide_eq_false k24))
            clear k1 k3 k24 HBDX HPS HAL
            go_wp2
            go_ret3
            exact ⟨by rw [HE.out]; rfl, HB2.out⟩
    · obtain rfl : k = l.length := by omega
      have hgood := HGD.out HALL.out
      rw [List.take_length] at HSL HOF HBL
      obtain ⟨BG, hBG⟩ : ∃ BG : ByteArray, BG = ⟨(big 9).toArray⟩ := ⟨_, rfl⟩
      have hBGl : BG.data.toList = big 9 := by rw [hBG, mk_list]
      have hBGs : BG.size = 4 := by show BG.data.toList.length = 4; rw [hBGl, big_len]
      obtain ⟨S1, hS1⟩ : ∃ S1 : ByteArray, S1.data.toList = S.data.toList ++ BG.data.toList := ⟨⟨(S.data.toList ++ BG.data.toList).toArray⟩, mk_list _⟩
      have a2 : ∀ W, (Op.stringOp .add S BG).run Tryz.prog W = .ok (.string S1) W := fun W => add_letters hS1 (by omega) W
      have c2 := HOF.out.cell
      obtain ⟨TX, hTX⟩ : ∃ TX : ByteArray, TX = ⟨(flat (putB [] l)).toArray⟩ := ⟨_, rfl⟩
      rw [← hTX] at c2
      have HE : Hid (R = (S1, TX, 0)) := by
        unfold Hid
        rw [hgood, ← HSL.out, hTX, ← hBGl, ← hS1, ba_of]
      have HKP : Hid (∀ W', Below wr.heap.size wr W' → W'.cell? ⟨g, 2, none⟩ = some (.string TX) ∧ Below wr.heap.size wr W') := fun W' h => ⟨by rw [hTX]; exact (HOF.out.below h).cell, h⟩
      have HBI : Hid (∀ W', Below wr.heap.size wr W' → Calls Tryz.prog 47 #[.int .i64 9] W' fun e w' => e = .returned (.string BG) ∧ w'.cell? ⟨g, 2, none⟩ = some (.string TX) ∧ Below wr.heap.size wr w') := fun W' h => by
        rw [hBG]
        exact (refbig_any 9 W').mono fun e w' ⟨q1, q2⟩ => ⟨q1, HKP.out _ (h.trans (q2.mono h.size))⟩
      have hbd : Below wr.heap.size wr wr.drew := (Below.refl _ _).drew
      clear hgood HSL HBL HBD HGD HALL hBG hBGl hBGs hS1 hTX HOF
      go_upto_region 23 with fail
      go_region_held3 (fun w' => w'.cell? ⟨g, 2, none⟩ = some (.string TX) ∧ Below wr.heap.size wr w') (exact HKP.out _ (by assumption))
        (first | (go_at_call 47; refine (HBI.out _ (by assumption)).mono ?_; rintro e w7 ⟨rfl, s1, s2⟩))
      have HB3 := Lib.hid (HB.out.trans (s2.mono hsz))
      clear s1 s2
      go_wp2
      go_ret3
      exact ⟨by rw [HE.out]; rfl, HB3.out⟩
end Go.Proofs.YtgfdbmbgldeljaaGreat
