/- The program's pair of layer 14: one reserved span, or why there is none. Conditions: strings of at most 2^40 bytes. -/
import Derived.Test.YtfcclppgjfkfoaaGreatDoorMg21
import Derived.Test.YtfcclppgjfkfoaaGreatDoorMg37
import Derived.Laws.StructEq
import Derived.Test.YtfcclppgjfkfoaaGreatDoorMg4
import Derived.Test.YtfcclppgjfkfoaaGreatDoorMg6
import Derived.Test.YtfcclppgjfkfoaaGreatDoorMg40
namespace Go.Proofs.YtfcclppgjfkfoaaGreatDoor
open Go.RowKit

/-- What stands at a place: a span, or why there is none. -/
def pairD (l : List UInt8) (a : Int) : SP × Nat :=
  if a < 0 then (sp0, 14) else if (l.drop a.toNat).length < 16 then (sp0, 14)
  else if numAt (l.drop a.toNat) 0 ≠ 0 ∨ numAt (l.drop a.toNat) 2 ≠ 0 then (sp0, 6) else (⟨numAt (l.drop a.toNat) 1, numAt (l.drop a.toNat) 3⟩, 0)
theorem pair_short {l : List UInt8} {a : Int} (h : a < 0 ∨ (l.length : Int) < a + 16) : pairD l a = (sp0, 14) := by
  unfold pairD
  split
  · rfl
  · exact if_pos (by rw [List.length_drop]; omega)
theorem pair_form {l : List UInt8} {x : Nat} (hx : x + 16 ≤ l.length) (h : numAt (l.drop x) 0 ≠ 0 ∨ numAt (l.drop x) 2 ≠ 0) : pairD l (x : Int) = (sp0, 6) :=
  (if_neg (by omega)).trans ((if_neg (by rw [List.length_drop]; omega)).trans (if_pos h))
theorem pair_there {l : List UInt8} {x : Nat} (hx : x + 16 ≤ l.length) (h : ¬ (numAt (l.drop x) 0 ≠ 0 ∨ numAt (l.drop x) 2 ≠ 0)) : pairD l (x : Int) = (⟨numAt (l.drop x) 1, numAt (l.drop x) 3⟩, 0) :=
  (if_neg (by omega)).trans ((if_neg (by rw [List.length_drop]; omega)).trans (if_neg h))
theorem pair_cases (l : List UInt8) (a : Int) :
    (pairD l a = (sp0, 14) ∧ ∀ k, resvI k l a = ([], 14)) ∨ (pairD l a = (sp0, 6) ∧ ∀ k, resvI k l a = ([], 6)) ∨
    ∃ p q : Int, pairD l a = (⟨p, q⟩, 0) ∧ 0 ≤ a ∧ a + 16 ≤ l.length ∧ ((p = 0 ∧ q = 0) → ∀ k, resvI k l a = ([], 0)) ∧ (¬ (p = 0 ∧ q = 0) → resvI 0 l a = ([], 7) ∧ ∀ k, resvI (k + 1) l a = joinS [⟨p, q⟩] (resvI k l (a + 16))) := by
  by_cases h0 : a < 0 ∨ (l.length : Int) < a + 16
  · refine .inl ⟨pair_short h0, fun k => ?_⟩
    unfold resvI
    split
    · rfl
    · exact resvR_short k (by rw [List.length_drop]; omega)
  · obtain ⟨x, rfl⟩ : ∃ x : Nat, a = (x : Int) := ⟨a.toNat, by omega⟩
    have hx : x + 16 ≤ l.length := by omega
    have hl : ¬ (l.drop x).length < 16 := by rw [List.length_drop]; omega
    have e : ∀ k, resvI k l (x : Int) = resvR k (l.drop x) := fun k => if_neg (by omega)
    by_cases h1 : numAt (l.drop x) 0 ≠ 0 ∨ numAt (l.drop x) 2 ≠ 0
    · exact .inr (.inl ⟨pair_form hx h1, fun k => (e k).trans (resvR_form k hl h1)⟩)
    · refine .inr (.inr ⟨_, _, pair_there hx h1, by omega, by omega, fun h k => (e k).trans (resvR_end k hl h1 h), fun h => ⟨(e 0).trans (resvR_big hl h1 h), fun k => ?_⟩⟩)
      rw [e, resvR_next hl h1 h, List.drop_drop]
      congr 1

/-- Four numbers of a place, of the program's reader. -/
theorem dfour (s : ByteArray) (k : Nat) (hk : k + 16 ≤ s.size) (W : World) :
    Calls Tryz.prog 36 #[.string (s.extract k (k + 16))] W fun e w' => ∃ (b off cap : Nat), e = .returned (.tuple #[.slice (some ⟨b, off, none⟩) 4 cap, .bool true]) ∧ (∀ j, j < 4 → w'.cell? ⟨b, off + j, none⟩ = some (.int .i64 (numAt (s.data.toList.drop k) j))) ∧ Below W.heap.size W w' := by
  refine (frombigs_yes (s.extract k (k + 16)) 4 W (by rw [ByteArray.size_extract]; omega) (by rw [ByteArray.size_extract]; omega)).mono ?_
  rintro e w' ⟨v, rfl, hown, hb⟩
  rw [extk_list s k 16] at hown
  obtain ⟨A, cap, rfl, hr⟩ := rdI_of_own hown
  rcases hr with h | ⟨b, off, rfl, _, hc⟩
  · exact absurd (congrArg List.length h) (by rw [numsB_length]; decide)
  · refine ⟨b, off, cap, by rw [numsB_length], fun j hj => ?_, hb⟩
    rw [hc j (by rw [numsB_length]; exact hj), numsB_take16 _ _ hj]

theorem sp_one (a b : Int) : (#[.int .i64 a, .int .i64 b] : Array Value).all (·.oneCell') = true := by
  rw [Array.all_eq_true_iff_forall_mem]
  intro v hv
  simp at hv
  rcases hv with rfl | rfl <;> rfl

set_option maxHeartbeats 1600000 in
set_option maxRecDepth 100000 in
theorem dpair_any (s : ByteArray) (a : Int) (w : World) (hs : s.size ≤ 1099511627776) (ha : -9223372036854775808 ≤ a ∧ a ≤ 9223372036854775807) :
    Calls Tryz.prog 38 #[.string s, .int .i64 a] w fun e w' => e = .returned (.tuple #[.agg #[.int .i64 (pairD s.data.toList a).1.p, .int .i64 (pairD s.data.toList a).1.n], .int .i64 ((pairD s.data.toList a).2 : Int)]) ∧ Below w.heap.size w w' := by
  have hsz : s.data.toList.length = s.size := rfl
  have HT0 := Lib.hid (Arr.new w 80 #[.int .i64 0, .int .i64 0])
  have HB0 := Lib.hid ((Below.refl w.heap.size w).alloc (Nat.le_refl _) (.cells #[.int .i64 0, .int .i64 0] 80))
  have hgl : w.heap.size < (w.alloc (.cells #[.int .i64 0, .int .i64 0] 80)).heap.size := by rw [sz_alloc]; omega
  by_cases h0 : a < 0 ∨ (s.size : Int) < a + 16
  · have HE : Hid (pairD s.data.toList a = (sp0, 14)) := pair_short (by rw [hsz]; exact h0)
    have HP : Hid (∀ W, Calls Tryz.prog 39 #[.string s, .agg #[.int .i64 a, .int .i64 16]] W fun e w' => e = .returned (.tuple #[.string ⟨#[]⟩, .int .i64 2]) ∧ Below W.heap.size W w') := fun W => by
      have := hpart_any s a 16 W (by unfold maxLen; omega) (by unfold in64; omega) (by unfold in64; omega)
      rwa [show partR s a 16 = (⟨#[]⟩, 2) from if_pos (by omega)] at this
    generalize pairD s.data.toList a = R at *
    obtain rfl := HE.out
    clear h0 hsz HE ha
    go_enter Tryz.func38, Tryz.ntmps38
    go_wp2_with fail
    refine (HP.out _).mono ?_
    rintro e w1 ⟨rfl, hb1⟩
    have HT1 := Lib.hid (HT0.out.below hb1 HT0.out.lt)
    have HB1 := Lib.hid (HB0.out.trans (hb1.mono HB0.out.size))
    clear hb1 HT0 HB0 HP
    go_wp2_with (refine wpList_store_row rfl 80 (.tmp 4) (.tmp 19) rfl w.heap.size #[.int .i64 0, .int .i64 0] rfl rfl _ _ HT1.out infoSpan rfl (sp_one _ _) ?_)
    exact bodyPost_ret (results_rowH rfl _ _ w.heap.size _ #[.int .i64 0, .int .i64 0] _ _ rfl (HT1.out.row _) Tryz.underlying80 rfl infoSpan) rfl ⟨rfl, below_setRow HB1.out (Nat.le_refl _) _⟩
  · obtain ⟨x, rfl⟩ : ∃ x : Nat, a = (x : Int) := ⟨a.toNat, by omega⟩
    have hx : x + 16 ≤ s.size := by omega
    have HP : Hid (∀ W, Calls Tryz.prog 39 #[.string s, .agg #[.int .i64 (x : Int), .int .i64 16]] W fun e w' => e = .returned (.tuple #[.string (s.extract x (x + 16)), .int .i64 0]) ∧ Below W.heap.size W w') := fun W => by
      have := hpart_any s x 16 W (by unfold maxLen; omega) (by unfold in64; omega) (by unfold in64; omega)
      rwa [show partR s (x : Int) 16 = (s.extract x (x + 16), 0) from if_neg (by omega)] at this
    have HF := Lib.hid (dfour s x hx)
    have HPF : Hid (numAt (s.data.toList.drop x) 0 ≠ 0 ∨ numAt (s.data.toList.drop x) 2 ≠ 0 → pairD s.data.toList (x : Int) = (sp0, 6)) := fun h => pair_form (by rw [hsz]; exact hx) h
    have HPT : Hid (¬ (numAt (s.data.toList.drop x) 0 ≠ 0 ∨ numAt (s.data.toList.drop x) 2 ≠ 0) → pairD s.data.toList (x : Int) = (⟨numAt (s.data.toList.drop x) 1, numAt (s.data.toList.drop x) 3⟩, 0)) := fun h => pair_there (by rw [hsz]; exact hx) h
    generalize pairD s.data.toList (x : Int) = R at *
    generalize s.data.toList.drop x = y at *
    generalize s.extract x (x + 16) = z at *
    clear h0 hsz hx ha
    go_enter Tryz.func38, Tryz.ntmps38
    go_wp2_with fail
    refine (HP.out _).mono ?_
    rintro e w1 ⟨rfl, hb1⟩
    have HT1 := Lib.hid (HT0.out.below hb1 HT0.out.lt)
    have HB1 := Lib.hid (HB0.out.trans (hb1.mono HB0.out.size))
    clear hb1 HT0 HB0 HP
    go_wp2_with fail
    refine (HF.out _).mono ?_
    rintro e w2 ⟨b, off, cap, rfl, hc, hb2⟩
    have HT2 := Lib.hid (HT1.out.below hb2 HT1.out.lt)
    have HB2 := Lib.hid (HB1.out.trans (hb2.mono HB1.out.size))
    have p0 := hc 0 (by omega)
    have p1 := hc 1 (by omega)
    have p2 := hc 2 (by omega)
    have p3 := hc 3 (by omega)
    rw [Nat.add_zero] at p0
    clear hb2 hc HT1 HB1 HF
    generalize numAt y = nn at *
    by_cases g0 : nn 0 = 0
    · have f0 : (nn 0 != 0) = false := by rw [g0]; rfl
      by_cases g2 : nn 2 = 0
      · have f2 : (nn 2 != 0) = false := by rw [g2]; rfl
        obtain rfl := HPT.out (by rw [g0, g2]; simp)
        clear HPF HPT g0 g2
        have k0 : w2.cell? ⟨w.heap.size, 0, none⟩ = some (.int .i64 0) := HT2.out.cell 0
        have k1 : w2.cell? ⟨w.heap.size, 1, none⟩ = some (.int .i64 0) := HT2.out.cell 1
        have r0 := HT2.out.frozen 0
        have r1 := HT2.out.frozen 1
        have HT3 : Hid (Arr ((w2.setCell ⟨w.heap.size, 0, none⟩ (.int .i64 (nn 1))).setCell ⟨w.heap.size, 1, none⟩ (.int .i64 (nn 3))).drew w.heap.size 80 #[.int .i64 (nn 1), .int .i64 (nn 3)]) := (HT2.out.put 0 _).put 1 _
        have HB3 : Hid (Below w.heap.size w ((w2.setCell ⟨w.heap.size, 0, none⟩ (.int .i64 (nn 1))).setCell ⟨w.heap.size, 1, none⟩ (.int .i64 (nn 3))).drew) := ((HB2.out.setCell (p := ⟨w.heap.size, 0, none⟩) (by simp) _).setCell (p := ⟨w.heap.size, 1, none⟩) (by simp) _).drew
        clear HT2 HB2
        go_upto_region 7 with fail
        go_region
        go_wp2
        exact bodyPost_ret (results_rowH rfl _ _ w.heap.size _ #[.int .i64 (nn 1), .int .i64 (nn 3)] _ _ rfl HT3.out Tryz.underlying80 rfl infoSpan) rfl ⟨rfl, HB3.out⟩
      · have f2 : (nn 2 != 0) = true := by simpa using g2
        obtain rfl := HPF.out (.inr g2)
        clear HPF HPT g0 g2
        go_wp2_with (refine wpList_store_row rfl 80 (.tmp 4) (.tmp 35) rfl w.heap.size #[.int .i64 0, .int .i64 0] rfl rfl _ _ HT2.out infoSpan rfl (sp_one _ _) ?_)
        exact bodyPost_ret (results_rowH rfl _ _ w.heap.size _ #[.int .i64 0, .int .i64 0] _ _ rfl (HT2.out.row _) Tryz.underlying80 rfl infoSpan) rfl ⟨rfl, below_setRow HB2.out (Nat.le_refl _) _⟩
    · have f0 : (nn 0 != 0) = true := by simpa using g0
      obtain rfl := HPF.out (.inl g0)
      clear HPF HPT g0
      go_wp2_with (refine wpList_store_row rfl 80 (.tmp 4) (.tmp 35) rfl w.heap.size #[.int .i64 0, .int .i64 0] rfl rfl _ _ HT2.out infoSpan rfl (sp_one _ _) ?_)
      exact bodyPost_ret (results_rowH rfl _ _ w.heap.size _ #[.int .i64 0, .int .i64 0] _ _ rfl (HT2.out.row _) Tryz.underlying80 rfl infoSpan) rfl ⟨rfl, below_setRow HB2.out (Nat.le_refl _) _⟩
end Go.Proofs.YtfcclppgjfkfoaaGreatDoor

/- The program's Reserve and Size of layer 14. Conditions: strings of at most 2^40 bytes. -/
namespace Go.Proofs.YtfcclppgjfkfoaaGreatDoor
open Go.RowKit

theorem eqSpan (a b c d : Int) (w : World) : (Op.equalIn 10000 80 (.agg #[.int .i64 a, .int .i64 b]) (.agg #[.int .i64 c, .int .i64 d])).run Tryz.prog w = .ok (a == c && b == d) w := by
  have u3 := Tryz.underlying3
  have a3 := Tryz.isAgg3
  have z3 := Tryz.sizeOf3
  have hS : Tryz.prog.underlying 80 = some (.struct (Tryz.prog.fieldsOf 80)) := by kernel_rfl
  have hp : Tryz.prog.stoodInHeld 80 = false := by kernel_rfl
  rw [show (10000 : Nat) = 9999 + 1 from rfl, run_equalIn_agg w 9999 80 _ _ hS hp]
  simp only [Program.fieldsOf, Tryz.underlying80]
  go_simp
  by_cases h1 : a = c <;> by_cases h2 : b = d <;> simp [h1, h2]

set_option maxHeartbeats 3200000 in
set_option maxRecDepth 100000 in
theorem dreserve_any (s : ByteArray) (a : Int) (w : World) (hs : s.size ≤ 1099511627776) (ha : -9223372036854775808 ≤ a ∧ a ≤ 9223372036854775807) :
    Calls Tryz.prog 15 #[.string s, .int .i64 a] w fun e w' => ∃ A cap, e = .returned (.tuple #[.slice A (resv s.data.toList a).1.length cap, .int .i64 ((resv s.data.toList a).2 : Int)]) ∧ RdSp w' A (resv s.data.toList a).1 ∧ SpFar w.heap.size A (resv s.data.toList a).1 ∧ Below w.heap.size w w' := by
  have hsz : s.data.toList.length = s.size := rfl
  have HR0 : Hid (resv s.data.toList a = joinS [] (resvI (16 - ([] : List SP).length) s.data.toList a)) := by
    unfold Hid resv resvI
    split
    · rfl
    · rw [joinS_nil]; rfl
  have HCS : Hid (∀ x, (pairD s.data.toList x = (sp0, 14) ∧ ∀ k, resvI k s.data.toList x = ([], 14)) ∨ (pairD s.data.toList x = (sp0, 6) ∧ ∀ k, resvI k s.data.toList x = ([], 6)) ∨
      ∃ p q : Int, pairD s.data.toList x = (⟨p, q⟩, 0) ∧ 0 ≤ x ∧ x + 16 ≤ s.size ∧ ((p = 0 ∧ q = 0) → ∀ k, resvI k s.data.toList x = ([], 0)) ∧ (¬ (p = 0 ∧ q = 0) → resvI 0 s.data.toList x = ([], 7) ∧ ∀ k, resvI (k + 1) s.data.toList x = joinS [⟨p, q⟩] (resvI k s.data.toList (x + 16)))) := fun x => pair_cases _ x
  have HPR := Lib.hid (fun x W h => dpair_any s x W hs h)
  have HEL := Lib.hid elemSpD
  generalize resv s.data.toList a = R at *
  generalize hl : s.data.toList = l at *
  obtain ⟨ha1, ha2⟩ := ha
  clear hsz hl
  go_enter Tryz.func15, Tryz.ntmps15
  go_wp2
  go_loopw [1, 6] (fun x o wr => ∃ (n : Int) (O : List SP), x = .int .i64 n ∧ -9223372036854775808 ≤ n ∧ n ≤ 9223372036854775807 ∧ O.length ≤ 16 ∧ wr.ownsRow w.heap.size 80 2 o O.length (spD O) ∧ Hid (R = joinS O (resvI (16 - O.length) l n)) ∧ Below w.heap.size w wr) (fun x _ _ => s.size - (intOf x).toNat)
  case atStart => exact ⟨a, [], rfl, ha1, ha2, Nat.zero_le _, World.ownsRow_nil _ _ _ _, HR0, Below.refl _ _⟩
  case round =>
    clear HR0
    obtain ⟨n, O, rfl, hn1, hn2, hO, hown, HJ, hb⟩ := hrel
    have HOWN := Lib.hid hown
    have HB := Lib.hid hb
    have hsw := hb.size
    clear hown hb
    have HP1 := Lib.hid (fun W => HPR.out n W ⟨hn1, hn2⟩)
    rcases HCS.out n with ⟨hp, hk⟩ | ⟨hp, hk⟩ | ⟨p, q, hp, hx0, hx1, hz, hm⟩
    · rw [hp] at HP1
      have HE : Hid (R = ([], 14)) := by unfold Hid; rw [HJ.out, hk]; rfl
      clear hp hk HCS HPR HEL HJ HOWN
      go_wp2_with fail
      refine (HP1.out _).mono ?_
      rintro e w1 ⟨rfl, hb1⟩
      have HB1 := Lib.hid (HB.out.trans (hb1.mono hsw))
      clear hb1 HB HP1
      go_wp2
      go_ret2
      rw [HE.out]
      exact ⟨none, 0, rfl, .inl rfl, .inl rfl, HB1.out.alloc HB1.out.size _⟩
    · rw [hp] at HP1
      have HE : Hid (R = ([], 6)) := by unfold Hid; rw [HJ.out, hk]; rfl
      clear hp hk HCS HPR HEL HJ HOWN
      go_wp2_with fail
      refine (HP1.out _).mono ?_
      rintro e w1 ⟨rfl, hb1⟩
      have HB1 := Lib.hid (HB.out.trans (hb1.mono hsw))
      clear hb1 HB HP1
      go_wp2
      go_ret2
      rw [HE.out]
      exact ⟨none, 0, rfl, .inl rfl, .inl rfl, HB1.out.alloc HB1.out.size _⟩
    · rw [hp] at HP1
      simp only at HP1
      obtain ⟨A9, c9, rfl, hc9⟩ := slice_ofN HOWN.out
      have HEQ := Lib.hid (fun W => eqSpan p q 0 0 W)
      by_cases h00 : p = 0 ∧ q = 0
      · have HE : Hid (R = (O, 0)) := by unfold Hid; rw [HJ.out, hz h00]; unfold joinS; rw [if_pos rfl, List.append_nil]
        obtain ⟨rfl, rfl⟩ := h00
        clear hz hm hp HCS HPR HEL HJ
        go_wp2_with fail
        refine (HP1.out _).mono ?_
        rintro e w1 ⟨rfl, hb1⟩
        have HB1 := Lib.hid (HB.out.trans (hb1.mono hsw))
        have hown1 := ownsRow_below HOWN.out hb1
        clear hb1 HB HP1 HOWN
        have hs1 := HB1.out.size
        obtain ⟨A, c8, e8, hsp, hfar⟩ := own_spD (hown1.alloc (.cells #[.int .i64 0, .int .i64 0] 80))
        injection e8 with e8 _ e9
        subst e8 e9
        have HSP := Lib.hid hsp
        have HFR := Lib.hid hfar
        clear hsp hfar hown1
        go_wp2
        go_ret2
        rw [HE.out]
        exact ⟨_, _, rfl, HSP.out, HFR.out, HB1.out.alloc hs1 _⟩
      · have dq : ((p == 0) && (q == 0)) = false := by
          cases h1 : (p == 0) with
          | false => rfl
          | true => cases h2 : (q == 0) with
            | false => rfl
            | true => exact absurd ⟨by simpa using h1, by simpa using h2⟩ h00
        obtain ⟨hm0, hm1⟩ := hm h00
        go_wp2_with fail
        refine (HP1.out _).mono ?_
        rintro e w1 ⟨rfl, hb1⟩
        have HB1 := Lib.hid (HB.out.trans (hb1.mono hsw))
        have hown1 := ownsRow_below HOWN.out hb1
        clear hb1 HB HP1 HOWN
        have hs1 := HB1.out.size
        have hd : ((p == 0) = true ∧ (q == 0) = false) ∨ (p == 0) = false := by
          cases h1 : (p == 0) with
          | false => exact .inr rfl
          | true => exact .inl ⟨rfl, by rw [h1] at dq; simpa using dq⟩
        clear dq
        by_cases h16 : O.length = 16
        · have g16 : (((O.length : Nat) : Int) == 16) = true := by rw [h16]; rfl
          have HE : Hid (R = ([], 7)) := by unfold Hid; rw [HJ.out, h16, hm0]; rfl
          clear h00 hm0 hm1 hz hp HCS HPR HEL HJ h16
          rcases hd with ⟨d1, d2⟩ | d1
          all_goals (
            go_wp2
            go_ret2
            rw [HE.out]
            exact ⟨none, 0, rfl, .inl rfl, .inl rfl, HB1.out.alloc hs1 _⟩)
        · have g16 : (((O.length : Nat) : Int) == 16) = false := by simp; omega
          have hO2 : O.length + 1 ≤ 16 := by omega
          have HJ2 : Hid (R = joinS (O ++ [⟨p, q⟩]) (resvI (16 - (O ++ [(⟨p, q⟩ : SP)]).length) l (n + 16))) := by
            unfold Hid
            rw [HJ.out, List.length_append, List.length_cons, List.length_nil, show 16 - O.length = (16 - (O.length + (0 + 1))) + 1 by omega, hm1, joinS_join]
          have HA2 := Lib.hid (spD_app O p q)
          have hq1 : IntKind.i64.wrap (n + 16) = n + 16 := IntWalk.i64_in _ (by omega)
          have HA1 := Lib.hid (hown1.alloc (.cells #[.int .i64 p, .int .i64 q] 80))
          have HB2 := Lib.hid (HB1.out.alloc hs1 (.cells #[.int .i64 p, .int .i64 q] 80))
          have HHZ : Hid ((w1.alloc (.cells #[.int .i64 p, .int .i64 q] 80)).heap.size = w1.heap.size + 1) := sz_alloc _ _
          have HSZ := Lib.hid HB2.out.size
          have HON : Hid (∀ u ∈ (#[.int .i64 p, .int .i64 q] : Array Value).toList, u.oneCell' = true) := by
            intro u hu
            simp at hu
            rcases hu with rfl | rfl <;> rfl
          clear h00 hm0 hm1 hz hp HCS HPR HJ h16 hown1 HB1 hs1
          rcases hd with ⟨d1, d2⟩ | d1
          all_goals (
            go_wp2_with (at_builtin; refine append_newB rfl (.tmp 28) (.tmp 30) 29 rfl 80 2 16 HEL w.heap.size (.slice A9 O.length c9) O.length (spD O) rfl HA1.out #[.int .i64 p, .int .i64 q] rfl HON.out (w1.heap.size + 1) HHZ.out rfl (by unfold maxLen; omega) (by omega) HSZ.out ?_; intro v5 w5 ho5 hm5; have HO5 := Lib.hid ho5; have HM5 : Hid (Below w.heap.size w w5) := (HB2.out.alloc HSZ.out _).grown hm5 (by rw [sz_alloc]; have := HSZ.out; omega) (fun g hg => (HA1.out.lt g hg).1); clear ho5 hm5)
            go_roundw
            case rel => exact ⟨n + 16, O ++ [⟨p, q⟩], rfl, by omega, by omega, by rw [List.length_append]; exact hO2, by rw [HA2.out, List.length_append]; exact HO5.out, HJ2, HM5.out⟩
            case measure => simp [intOf]; omega)

set_option maxHeartbeats 800000 in
set_option maxRecDepth 100000 in
theorem dsize_any (s : ByteArray) (w : World) (hs : s.size ≤ 1099511627776) :
    Calls Tryz.prog 10 #[.string s] w fun e w' => e = .returned (.tuple #[.int .i64 (readH s.data.toList).1.tot, .int .i64 ((readH s.data.toList).2 : Int)]) ∧ Below w.heap.size w w' := by
  have HRD := Lib.hid (fun W => hread_any s W (by unfold maxLen; omega))
  generalize readH s.data.toList = D at *
  obtain ⟨h, de⟩ := D
  obtain ⟨n, st, sg, rv, bo, tx, sz⟩ := h
  go_enter Tryz.func10, Tryz.ntmps10
  go_wp2_with fail
  refine (HRD.out _).mono ?_
  rintro e w1 ⟨rfl, hb1⟩
  have hz1 := hb1.size
  have HB1 := Lib.hid hb1
  clear hb1 HRD
  have HAN := Lib.hid (Arr.new w1 51 (#[.int .i64 0, .int .i64 0, .int .i64 0, .int .i64 0, .int .i64 0, .int .i64 0, .int .i64 0]))
  have HH := Lib.hid (HAN.out.row (#[.int .i64 n, .int .i64 st, .int .i64 sg, .int .i64 rv, .int .i64 bo, .int .i64 tx, .int .i64 sz] : Array Value))
  have HB : Hid (Below w.heap.size w ((w1.alloc (.cells (#[.int .i64 0, .int .i64 0, .int .i64 0, .int .i64 0, .int .i64 0, .int .i64 0, .int .i64 0]) 51)).setRow w1.heap.size #[.int .i64 n, .int .i64 st, .int .i64 sg, .int .i64 rv, .int .i64 bo, .int .i64 tx, .int .i64 sz])) := below_setRow (HB1.out.alloc hz1 _) hz1 _
  go_upto_region 2 with (refine wpList_store_row rfl 51 (.tmp 4) (.tmp 9) rfl w1.heap.size #[.int .i64 n, .int .i64 st, .int .i64 sg, .int .i64 rv, .int .i64 bo, .int .i64 tx, .int .i64 sz] rfl rfl _ _ HAN.out (infoH hd0) rfl (hdC_one ⟨n, st, sg, rv, bo, tx, sz⟩) ?_)
  have c0 := HH.out.cell 0
  clear HAN HB1
  generalize (w1.alloc (.cells (#[.int .i64 0, .int .i64 0, .int .i64 0, .int .i64 0, .int .i64 0, .int .i64 0, .int .i64 0]) 51)).setRow w1.heap.size #[.int .i64 n, .int .i64 st, .int .i64 sg, .int .i64 rv, .int .i64 bo, .int .i64 tx, .int .i64 sz] = W2 at *
  replace c0 : W2.cell? ⟨w1.heap.size, 0, none⟩ = some (.int .i64 n) := c0
  go_wp2
  go_ret2
  exact ⟨rfl, HB.out⟩
end Go.Proofs.YtfcclppgjfkfoaaGreatDoor

/- What the reader's steps kind, valueSize, namePlace, value, propName of package token do. Conditions: strings of at most 2^40 bytes. -/
namespace Go.Proofs.YtfcclppgjfkfoaaGreatDoor
open Go.RowKit

theorem rd_grown {w w' : World} {g : Nat} {s t : ByteArray} {kd : Int} {nm vl : ByteArray} {sz pl : Int} (h : Rdr w g s t kd nm vl sz pl) (hb : Below w.heap.size w w') : Rdr w' g s t kd nm vl sz pl := Arr.below h hb (Arr.lt h)

/-- The error of a number that is to be read. -/
def numE (l : List UInt8) : Nat := if l.length < 4 then 14 else 0

set_option maxHeartbeats 800000 in
set_option maxRecDepth 100000 in
theorem valueSize_any (g : Nat) (s t : ByteArray) (kd : Int) (nm vl : ByteArray) (sz pl : Int) (a : Nat) (w : World) (hA : Rdr w g s t kd nm vl sz pl) (ha : a ≤ s.size) (hm : s.size ≤ 1099511627776) :
    Calls Tryz.prog 102 #[.pointer (some ⟨g, 0, none⟩), .int .i64 (a : Int)] w fun e w' => (s.size < a + 4 → e = .returned (.tuple #[.int .i64 0, .int .i64 14]) ∧ w = w') ∧
      (a + 4 ≤ s.size → e = .returned (.tuple #[.int .i64 ((a + 4 : Nat) : Int), .int .i64 0]) ∧ Rdr w' g s t kd nm vl (frombig (s.data.toList.drop a)) pl ∧ w.grownBy w' (some g)) := by
  by_cases h : s.size < a + 4
  · have HN := Lib.hid (number_no g _ s a (some ⟨g, 5, none⟩) w hA rfl ha h)
    clear hA
    go_enter Tryz.func102, Tryz.ntmps102
    go_wp2_with fail
    refine HN.out.mono ?_
    rintro e w1 ⟨rfl, rfl⟩
    go_wp2
    go_ret2
    exact ⟨fun _ => ⟨rfl, rfl⟩, fun h2 => absurd h2 (by omega)⟩
  · have HN := Lib.hid (number_yes g _ s a 5 _ w hA rfl rfl hm (by omega))
    generalize frombig (s.data.toList.drop a) = n at *
    clear hA
    go_enter Tryz.func102, Tryz.ntmps102
    go_wp2_with fail
    refine HN.out.mono ?_
    rintro e w1 ⟨rfl, h1, h2⟩
    have H1 := Lib.hid h1
    have H2 := Lib.hid h2
    clear h1 h2 HN
    go_wp2
    go_ret2
    exact ⟨fun h2 => absurd h2 (by omega), fun _ => ⟨by simp, H1.out, H2.out⟩⟩
set_option maxHeartbeats 800000 in
set_option maxRecDepth 100000 in
theorem namePlace_any (g : Nat) (s t : ByteArray) (kd : Int) (nm vl : ByteArray) (sz pl : Int) (a : Nat) (w : World) (hA : Rdr w g s t kd nm vl sz pl) (ha : a ≤ s.size) (hm : s.size ≤ 1099511627776) :
    Calls Tryz.prog 103 #[.pointer (some ⟨g, 0, none⟩), .int .i64 (a : Int)] w fun e w' => (s.size < a + 4 → e = .returned (.tuple #[.int .i64 0, .int .i64 14]) ∧ w = w') ∧
      (a + 4 ≤ s.size → e = .returned (.tuple #[.int .i64 ((a + 4 : Nat) : Int), .int .i64 0]) ∧ Rdr w' g s t kd nm vl sz (frombig (s.data.toList.drop a)) ∧ w.grownBy w' (some g)) := by
  by_cases h : s.size < a + 4
  · have HN := Lib.hid (number_no g _ s a (some ⟨g, 6, none⟩) w hA rfl ha h)
    clear hA
    go_enter Tryz.func103, Tryz.ntmps103
    go_wp2_with fail
    refine HN.out.mono ?_
    rintro e w1 ⟨rfl, rfl⟩
    go_wp2
    go_ret2
    exact ⟨fun _ => ⟨rfl, rfl⟩, fun h2 => absurd h2 (by omega)⟩
  · have HN := Lib.hid (number_yes g _ s a 6 _ w hA rfl rfl hm (by omega))
    generalize frombig (s.data.toList.drop a) = n at *
    clear hA
    go_enter Tryz.func103, Tryz.ntmps103
    go_wp2_with fail
    refine HN.out.mono ?_
    rintro e w1 ⟨rfl, h1, h2⟩
    have H1 := Lib.hid h1
    have H2 := Lib.hid h2
    clear h1 h2 HN
    go_wp2
    go_ret2
    exact ⟨fun h2 => absurd h2 (by omega), fun _ => ⟨by simp, H1.out, H2.out⟩⟩

set_option maxHeartbeats 1600000 in
set_option maxRecDepth 100000 in
theorem value_any (g : Nat) (s t : ByteArray) (kd : Int) (nm vl : ByteArray) (n : Nat) (pl : Int) (a : Nat) (w : World) (hA : Rdr w g s t kd nm vl (n : Int) pl) (ha : a ≤ s.size) (hm : s.size ≤ 1099511627776) (hn : n ≤ 2199023255552) (er : Nat) (her : padE (s.data.toList.drop a) n = er) :
    Calls Tryz.prog 104 #[.pointer (some ⟨g, 0, none⟩), .int .i64 (a : Int)] w fun e w' => ∃ (nx : Int) (vl' : ByteArray), e = .returned (.tuple #[.int .i64 nx, .int .i64 (er : Int)]) ∧ Rdr w' g s t kd nm vl' (n : Int) pl ∧ w.grownBy w' (some g) ∧ (er = 0 → vl' = s.extract a (a + n) ∧ nx = ((a + up4 n : Nat) : Int)) := by
  have HP := Lib.hid (rdpad_any g _ s a n w hA rfl ha hm hn er her)
  have k5 : w.cell? ⟨g, 5, none⟩ = some (.int .i64 (n : Int)) := hA.cell 5
  have HA := Lib.hid hA
  have hup := up4_ge n
  by_cases h : er = 0
  · subst h
    rw [if_pos rfl] at HP
    have hu := (padE_ok.1 her).1
    rw [List.length_drop, show s.data.toList.length = s.size from rfl] at hu
    have c0 : (0 : Int) ≤ a := by omega
    have c1 : (a : Int) ≤ (a : Int) + (n : Int) := by omega
    have c2 : (a : Int) + (n : Int) ≤ s.size := by omega
    have hub : a + up4 n ≤ s.size := by omega
    generalize up4 n = u at *
    clear hA her
    go_enter Tryz.func104, Tryz.ntmps104
    go_wp2_with fail
    refine HP.out.mono ?_
    rintro e w1 ⟨rfl, hb1⟩
    have HA1 := Lib.hid (HA.out.below hb1 HA.out.lt)
    have HG1 := Lib.hid (gr_below (r := some g) hb1)
    have k0 : w1.cell? ⟨g, 0, none⟩ = some (.string s) := HA1.out.cell 0
    have k4 : w1.cell? ⟨g, 4, none⟩ = some (.string vl) := HA1.out.cell 4
    have k5' : w1.cell? ⟨g, 5, none⟩ = some (.int .i64 (n : Int)) := HA1.out.cell 5
    have f4 := HA1.out.frozen 4
    have HA2 : Hid (Arr (w1.setCell ⟨g, 4, none⟩ (.string (s.extract a (a + n)))).drew g 135 #[.string s, .string t, .int .i64 kd, .string nm, .string (s.extract a (a + n)), .int .i64 (n : Int), .int .i64 pl]) := HA1.out.put 4 _
    have HG2 : Hid (w.grownBy (w1.setCell ⟨g, 4, none⟩ (.string (s.extract a (a + n)))).drew (some g)) := World.grownBy.trans HG1.out (World.grownBy.trans (gr_cell w1 g 4 _) (gr_below (below_drewN _ 1)))
    clear hb1 HA HP k5 HA1 HG1
    go_wp2
    go_region
    go_wp2
    go_ret2
    exact ⟨_, _, rfl, HA2.out, HG2.out, fun _ => ⟨rfl, by simp⟩⟩
  · rw [if_neg h] at HP
    have d0 : ((er : Int) != 0) = true := by simp; omega
    clear hA her hup
    go_enter Tryz.func104, Tryz.ntmps104
    go_wp2_with fail
    refine HP.out.mono ?_
    rintro e w1 ⟨rfl, hb1⟩
    have HA1 := Lib.hid (HA.out.below hb1 HA.out.lt)
    have HG1 := Lib.hid (gr_below (r := some g) hb1)
    clear hb1 HA HP
    go_wp2
    go_ret2
    exact ⟨_, vl, rfl, HA1.out, HG1.out, fun h2 => absurd h2 h⟩

set_option maxHeartbeats 1600000 in
set_option maxRecDepth 100000 in
theorem propName_any (g : Nat) (s t : ByteArray) (kd : Int) (nm vl : ByteArray) (sz pl : Int) (a : Int) (w : World) (hA : Rdr w g s t kd nm vl sz pl) (ht : t.size ≤ maxLen) (h1 : pl < 9223372036854775808) (h2 : -9223372036854775808 ≤ pl)
    (x : ByteArray) (er : Nat) (hx : getR t.data.toList pl = (x, er)) :
    Calls Tryz.prog 105 #[.pointer (some ⟨g, 0, none⟩), .int .i64 a] w fun e w' => (((decide (er = 0) && mayB x) = false → e = .returned (.tuple #[.int .i64 0, .int .i64 6]) ∧ Rdr w' g s t kd nm vl sz pl) ∧
      ((decide (er = 0) && mayB x) = true → e = .returned (.tuple #[.int .i64 a, .int .i64 0]) ∧ Rdr w' g s t kd x vl sz pl)) ∧ w.grownBy w' (some g) := by
  have hxs : x.size ≤ maxLen := by
    have := getR_size t.data.toList pl
    rw [hx] at this
    exact Nat.le_trans this ht
  have HGT := Lib.hid (fun (W : World) (m : Nat) => (sget_any t pl (W.drewN m) ht h1 h2).mono fun e w' (h : e = .returned (.tuple #[.string (getR t.data.toList pl).1, .int .i64 ((getR t.data.toList pl).2 : Int)]) ∧ ∃ n, w' = (W.drewN m).drewN n) => (⟨h.1, by obtain ⟨n, hn⟩ := h.2; exact ⟨m + n, by rw [hn, World.drewN_drewN]⟩⟩ : e = .returned (.tuple #[.string (getR t.data.toList pl).1, .int .i64 ((getR t.data.toList pl).2 : Int)]) ∧ ∃ m, w' = W.drewN m))
  rw [hx] at HGT
  simp only at HGT
  have HND := Lib.hid (fun W => named_any x W hxs)
  have k1 : ∀ m, (w.drewN m).cell? ⟨g, 1, none⟩ = some (.string t) := fun m => by
    have : Arr (w.drewN m) g 135 _ := hA.drewN m
    exact this.cell 1
  have k6 : ∀ m, (w.drewN m).cell? ⟨g, 6, none⟩ = some (.int .i64 pl) := fun m => by
    have : Arr (w.drewN m) g 135 _ := hA.drewN m
    exact this.cell 6
  have k1' := k1 0
  have k6' := k6 0
  have HA : Hid (∀ m, Rdr (w.drewN m) g s t kd nm vl sz pl) := fun m => hA.drewN m
  clear hA hx
  by_cases he : er = 0
  · subst he
    by_cases h0 : x.size = 0
    · have hm : mayB x = false := by cases e : mayB x with
        | false => rfl
        | true => have := (mayB_iff.1 e).1; omega
      obtain rfl : x = ⟨#[]⟩ := by
        have : x.data.toList = [] := List.eq_nil_of_length_eq_zero h0
        exact ByteArray.ext (Array.ext' this)
      rw [hm]
      clear hm h0 hxs HND
      go_enter Tryz.func105, Tryz.ntmps105
      go_wp2
      go_quiet ((go_at_call 120; exact HGT.out _ _))
      go_wp2
      go_ret2
      exact ⟨⟨fun _ => ⟨rfl, HA.out _⟩, (fun h => by cases h)⟩, gr_below (below_drewN _ _)⟩
    · have q1 : (x.toList == []) = false := by
        have : x.toList ≠ [] := by rw [ByteArray.toList_eq]; intro e; exact h0 (by show x.data.toList.length = 0; rw [e]; rfl)
        simpa using this
      have q2 : x.toList.isEmpty = false := by
        have : x.toList ≠ [] := by rw [ByteArray.toList_eq]; intro e; exact h0 (by show x.data.toList.length = 0; rw [e]; rfl)
        simpa using this
      have hn : nodeB x = mayB x := by unfold nodeB; rw [decide_eq_false h0]; rfl
      rw [hn] at HND
      cases hm : mayB x with
      | false =>
        rw [hm] at HND
        clear hm hn h0
        go_enter Tryz.func105, Tryz.ntmps105
        go_wp2
        go_quiet ((go_at_call 120; exact HGT.out _ _))
        go_wp2_with fail
        refine (HND.out _).mono ?_
        rintro e w2 ⟨rfl, rfl⟩
        go_wp2
        go_ret2
        exact ⟨⟨fun _ => ⟨rfl, HA.out _⟩, (fun h => by cases h)⟩, gr_below (below_drewN _ _)⟩
      | true =>
        rw [hm] at HND
        clear hm hn h0
        go_enter Tryz.func105, Tryz.ntmps105
        go_wp2
        go_quiet ((go_at_call 120; exact HGT.out _ _))
        have HA1 := HA.out nq
        have HG1 := Lib.hid (gr_below (r := some g) (below_drewN w nq))
        generalize w.drewN nq = w1 at *
        have k3 : w1.cell? ⟨g, 3, none⟩ = some (.string nm) := HA1.cell 3
        have f3 := Arr.frozen HA1 3
        have HA2 := Lib.hid (Arr.put HA1 3 (.string x))
        have HG2 := Lib.hid (World.grownBy.trans HG1.out (gr_cell w1 g 3 (.string x)))
        clear HA1 HG1
        go_wp2_with fail
        refine (HND.out _).mono ?_
        rintro e w2 ⟨rfl, rfl⟩
        go_wp2
        go_ret2
        exact ⟨⟨(fun h => by cases h), fun _ => ⟨rfl, HA2.out⟩⟩, HG2.out⟩
  · have hd : (decide (er = 0) && mayB x) = false := by rw [decide_eq_false he]; rfl
    rw [hd]
    have d0 : ((er : Int) != 0) = true := by simp; omega
    clear hd he
    go_enter Tryz.func105, Tryz.ntmps105
    go_wp2
    go_quiet ((go_at_call 120; exact HGT.out _ _))
    go_wp2
    go_ret2
    exact ⟨⟨fun _ => ⟨rfl, HA.out _⟩, fun h => by cases h⟩, gr_below (below_drewN _ _)⟩
end Go.Proofs.YtfcclppgjfkfoaaGreatDoor
