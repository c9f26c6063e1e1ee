/- The program's Part of layer 11. Conditions: numbers of 64 bits; strings of at most 2^40 bytes. -/
import Derived.Test.YtmgmpjgofolkgaaMg29
import Derived.Test.YtmgmpjgofolkgaaMg1
import Derived.BigQuiet
import Derived.Test.YtmgmpjgofolkgaaMg8
import Derived.Test.YtmgmpjgofolkgaaMg10
import Derived.Laws.StructEq
namespace Go.Proofs.Ytmgmpjgofolkgaa
open Go.RowKit

theorem infoSpan : (Try.prog.info? 52).map (·.size) = some (#[.int .i64 0, .int .i64 0] : Array Value).size := by kernel_rfl

set_option maxHeartbeats 1600000 in
set_option maxRecDepth 100000 in
theorem hpart_any (s : ByteArray) (a b : Int) (w : World) (hs : s.size ≤ maxLen) (ha : in64 a) (_ : in64 b) :
    Calls Try.prog 28 #[.string s, .agg #[.int .i64 a, .int .i64 b]] w fun e w' => e = .returned (.tuple #[.string (partR s a b).1, .int .i64 ((partR s a b).2 : Int)]) ∧ Below w.heap.size w w' := by
  unfold maxLen at hs
  have HT := Lib.hid (fun W => there_any a b s.size W ha (by unfold in64; omega))
  obtain ⟨W0, hW0⟩ : ∃ W0, W0 = w.alloc (.cells #[.int .i64 a, .int .i64 b] 52) := ⟨_, rfl⟩
  have HA0 : Hid (Arr W0 w.heap.size 52 #[.int .i64 a, .int .i64 b]) := by rw [hW0]; exact Arr.new w _ _
  have HB0 : Hid (Below w.heap.size w W0) := by rw [hW0]; exact (Below.refl _ _).alloc (Nat.le_refl _) _
  clear ha
  by_cases hc : a < 0 ∨ b < 0 ∨ (s.size : Int) < a ∨ (s.size : Int) - a < b
  · have hP : partR s a b = (⟨#[]⟩, 2) := if_pos hc
    have hV : thereHB a b s.size = false := decide_eq_false (by omega)
    rw [hP]
    rw [hV] at HT
    clear hP hV hc
    go_enter Try.func28, Try.ntmps28
    go_upto_region 1 with fail
    rw [← hW0]
    clear hW0
    go_wp2_with (refine wpList_load_row rfl 52 (.tmp 3) rfl w.heap.size rfl _ _ _ _ HA0.out Try.underlying52 rfl infoSpan ?_)
    refine (HT.out _).mono ?_
    rintro e w1 ⟨rfl, hb1⟩
    have HB1 := Lib.hid (HB0.out.trans (hb1.mono HB0.out.size))
    clear hb1 HT HA0 HB0
    go_wp2
    go_ret2
    exact ⟨rfl, HB1.out⟩
  · have hP : partR s a b = (s.extract a.toNat (a + b).toNat, 0) := if_neg hc
    have hV : thereHB a b s.size = true := decide_eq_true (by omega)
    rw [hP]
    rw [hV] at HT
    have d1 : 0 ≤ a := by omega
    have d2 : 0 ≤ b := by omega
    have d3 : a ≤ s.size := by omega
    have d4 : a + b ≤ s.size := by omega
    have d5 : a ≤ a + b := by omega
    clear hP hV hc
    go_enter Try.func28, Try.ntmps28
    go_upto_region 1 with fail
    rw [← hW0]
    clear hW0
    go_wp2_with (refine wpList_load_row rfl 52 (.tmp 3) rfl w.heap.size rfl _ _ _ _ HA0.out Try.underlying52 rfl infoSpan ?_)
    refine (HT.out _).mono ?_
    rintro e w1 ⟨rfl, hb1⟩
    have HB1 := Lib.hid (HB0.out.trans (hb1.mono HB0.out.size))
    have HA1 := Lib.hid (HA0.out.below hb1 HA0.out.lt)
    have c0 := HA1.out.cell 0
    have c1 := HA1.out.cell 1
    simp only [List.getElem?_toArray, List.getElem?_cons_zero, List.getElem?_cons_succ] at c0 c1
    clear hb1 HT HA0 HB0
    go_wp2
    go_ret2
    exact ⟨rfl, HB1.out⟩
end Go.Proofs.Ytmgmpjgofolkgaa

/- What the document's SameInts returns for two slices of the same numbers. Conditions: at most 2^40 numbers. -/
namespace Go.Proofs.Ytmgmpjgofolkgaa
open Go.RowKit

end Go.Proofs.Ytmgmpjgofolkgaa

/- What num.FromBigs returns for every string of at most 2^40 bytes, and what the document's SameInts returns for two slices of the same numbers. -/
namespace Go.Proofs.Ytmgmpjgofolkgaa
open Go.RowKit

set_option maxHeartbeats 800000 in
set_option maxRecDepth 100000 in
theorem frombigs_yes (s : ByteArray) (m : Nat) (w : World) (hm : s.size = 4 * m) (hl : s.size ≤ 1099511627776) :
    Calls Try.prog 26 #[.string s] w fun e w' => ∃ v, e = .returned (.tuple #[v, .bool true]) ∧ w'.ownsRow w.heap.size 3 1 v m (intVals (numsB s.data.toList m)) ∧ Below w.heap.size w w' := by
  obtain ⟨i0, hi, hz0, hz1, hz2⟩ := info_int
  have HI := Lib.hid hi; have HZ0 := Lib.hid hz0; have HZ1 := Lib.hid hz1; have HZ2 := Lib.hid hz2
  clear hi hz0 hz1 hz2
  have hmod : (((s.size : Int) % 4) != 0) = false := by
    have : (s.size : Int) % 4 = 0 := by omega
    simp [this]
  have HM := Lib.hid hm
  have hm1 : s.size ≤ 4 * m := by omega
  have hm2 : 4 * m ≤ s.size := by omega
  clear hm
  go_enter Try.func26, Try.ntmps26
  go_wp2
  go_loopw [4, 5] (fun v i wr => ∃ k : Nat, k ≤ m ∧ i = .int .i64 ((4 * k : Nat) : Int) ∧ wr.ownsRow w.heap.size 3 1 v k (intVals (numsB s.data.toList k)) ∧ Below w.heap.size w wr)
    (fun _ i _ => s.size - (intOf i).toNat)
  case atStart => exact ⟨0, Nat.zero_le _, rfl, World.ownsRow_nil _ _ _ _, Below.refl _ _⟩
  case round =>
    obtain ⟨k, hk, rfl, hown, hb⟩ := hrel
    have hsz := hb.size
    by_cases hlt : k < m
    · go_wp2_with fail
      refine (frombig_yes _ _ (by rw [extract_size]; omega) (by rw [extract_size]; unfold maxLen; omega)).mono ?_
      rintro e w1 ⟨rfl, hb1⟩
      have hE := extract_tail s (4 * k)
      rw [hE]
      clear hE
      have hown1 := ownsRow_below hown hb1
      have hb2 : Below w.heap.size w w1 := hb.trans (hb1.mono hsz)
      have hs1 := hb2.size
      have HS := Lib.hid (intVals_numsB_succ s.data.toList k)
      generalize frombig (s.data.toList.drop (4 * k)) = x at HS ⊢
      clear hown hb hb1
      go_wp2_with (at_builtin; refine wpList_append_own _ rfl _ _ 59 rfl w.heap.size 3 i0 (.int .i64 0) 1 8 Try.underlying59 HI.out HZ0.out HZ1.out HZ2.out rfl (by decide) _ _ _ rfl (hown1.alloc _) ⟨w1.heap.size, 0, none⟩ 1 1 [.int .i64 x] rfl rfl ?c1 ?c2 ?c3 ?c4 ?c5 ?_)
      case c1 =>
        intro j u hj
        match j, hj with
        | 0, hj => simp at hj; subst hj; simp [Addr.add]
      case c2 => intro u hu; simp at hu; subst hu; rfl
      case c3 => unfold maxLen; omega
      case c4 => omega
      case c5 => simp; omega
      · intro v' w2 hown' hgrow _
        have hb3 : Below w.heap.size w w2 := (hb2.alloc hs1 _).grown hgrow (by simp; omega) (fun g hg => (hown1.lt g hg).1)
        clear hown1 hgrow hb2
        go_wp2
        go_roundw
        case rel => exact ⟨k + 1, by omega, by go_num, by rw [HS.out]; exact hown', hb3⟩
        case measure => simp [intOf]; omega
    · have hkl : k = m := by omega
      subst hkl
      go_wp2
      go_ret2
      exact ⟨_, rfl, hown, hb⟩

set_option maxHeartbeats 400000 in
theorem frombigs_no (s : ByteArray) (w : World) (hm : s.size % 4 ≠ 0) (hl : s.size ≤ 1099511627776) :
    Calls Try.prog 26 #[.string s] w fun e w' => e = .returned (.tuple #[.slice none 0 0, .bool false]) ∧ w = w' := by
  have hmod : (((s.size : Int) % 4) != 0) = true := by
    have : ¬ (s.size : Int) % 4 = 0 := by omega
    simp [this]
  clear hm
  go_enter Try.func26, Try.ntmps26
  go_wp2
  go_ret2
  exact ⟨rfl, rfl⟩

end Go.Proofs.Ytmgmpjgofolkgaa

/- The program's pair of layer 14: one reserved span, or why there is none. Conditions: strings of at most 2^40 bytes. -/
namespace Go.Proofs.Ytmgmpjgofolkgaa
open Go.RowKit

/-- What stands at a place: a span, or why there is none. -/
def pairD (l : List UInt8) (a : Int) : SP × Nat :=
  if a < 0 then (sp0, 14) else if (l.drop a.toNat).length < 16 then (sp0, 14)
  else if numAt (l.drop a.toNat) 0 ≠ 0 ∨ numAt (l.drop a.toNat) 2 ≠ 0 then (sp0, 6) else (⟨numAt (l.drop a.toNat) 1, numAt (l.drop a.toNat) 3⟩, 0)
theorem pair_short {l : List UInt8} {a : Int} (h : a < 0 ∨ (l.length : Int) < a + 16) : pairD l a = (sp0, 14) := by
  unfold pairD
  split
  · rfl
  · exact if_pos (by rw [List.length_drop]; omega)
theorem pair_form {l : List UInt8} {x : Nat} (hx : x + 16 ≤ l.length) (h : numAt (l.drop x) 0 ≠ 0 ∨ numAt (l.drop x) 2 ≠ 0) : pairD l (x : Int) = (sp0, 6) :=
  (if_neg (by omega)).trans ((if_neg (by rw [List.length_drop]; omega)).trans (if_pos h))
theorem pair_there {l : List UInt8} {x : Nat} (hx : x + 16 ≤ l.length) (h : ¬ (numAt (l.drop x) 0 ≠ 0 ∨ numAt (l.drop x) 2 ≠ 0)) : pairD l (x : Int) = (⟨numAt (l.drop x) 1, numAt (l.drop x) 3⟩, 0) :=
  (if_neg (by omega)).trans ((if_neg (by rw [List.length_drop]; omega)).trans (if_neg h))
theorem pair_cases (l : List UInt8) (a : Int) :
    (pairD l a = (sp0, 14) ∧ ∀ k, resvI k l a = ([], 14)) ∨ (pairD l a = (sp0, 6) ∧ ∀ k, resvI k l a = ([], 6)) ∨
    ∃ p q : Int, pairD l a = (⟨p, q⟩, 0) ∧ 0 ≤ a ∧ a + 16 ≤ l.length ∧ ((p = 0 ∧ q = 0) → ∀ k, resvI k l a = ([], 0)) ∧ (¬ (p = 0 ∧ q = 0) → resvI 0 l a = ([], 7) ∧ ∀ k, resvI (k + 1) l a = joinS [⟨p, q⟩] (resvI k l (a + 16))) := by
  by_cases h0 : a < 0 ∨ (l.length : Int) < a + 16
  · refine .inl ⟨pair_short h0, fun k => ?_⟩
    unfold resvI
    split
    · rfl
    · exact resvR_short k (by rw [List.length_drop]; omega)
  · obtain ⟨x, rfl⟩ : ∃ x : Nat, a = (x : Int) := ⟨a.toNat, by omega⟩
    have hx : x + 16 ≤ l.length := by omega
    have hl : ¬ (l.drop x).length < 16 := by rw [List.length_drop]; omega
    have e : ∀ k, resvI k l (x : Int) = resvR k (l.drop x) := fun k => if_neg (by omega)
    by_cases h1 : numAt (l.drop x) 0 ≠ 0 ∨ numAt (l.drop x) 2 ≠ 0
    · exact .inr (.inl ⟨pair_form hx h1, fun k => (e k).trans (resvR_form k hl h1)⟩)
    · refine .inr (.inr ⟨_, _, pair_there hx h1, by omega, by omega, fun h k => (e k).trans (resvR_end k hl h1 h), fun h => ⟨(e 0).trans (resvR_big hl h1 h), fun k => ?_⟩⟩)
      rw [e, resvR_next hl h1 h, List.drop_drop]
      congr 1

/-- Four numbers of a place, of the program's reader. -/
theorem dfour (s : ByteArray) (k : Nat) (hk : k + 16 ≤ s.size) (W : World) :
    Calls Try.prog 26 #[.string (s.extract k (k + 16))] W fun e w' => ∃ (b off cap : Nat), e = .returned (.tuple #[.slice (some ⟨b, off, none⟩) 4 cap, .bool true]) ∧ (∀ j, j < 4 → w'.cell? ⟨b, off + j, none⟩ = some (.int .i64 (numAt (s.data.toList.drop k) j))) ∧ Below W.heap.size W w' := by
  refine (frombigs_yes (s.extract k (k + 16)) 4 W (by rw [ByteArray.size_extract]; omega) (by rw [ByteArray.size_extract]; omega)).mono ?_
  rintro e w' ⟨v, rfl, hown, hb⟩
  rw [extk_list s k 16] at hown
  obtain ⟨A, cap, rfl, hr⟩ := rdI_of_own hown
  rcases hr with h | ⟨b, off, rfl, _, hc⟩
  · exact absurd (congrArg List.length h) (by rw [numsB_length]; decide)
  · refine ⟨b, off, cap, by rw [numsB_length], fun j hj => ?_, hb⟩
    rw [hc j (by rw [numsB_length]; exact hj), numsB_take16 _ _ hj]

theorem sp_one (a b : Int) : (#[.int .i64 a, .int .i64 b] : Array Value).all (·.oneCell') = true := by
  rw [Array.all_eq_true_iff_forall_mem]
  intro v hv
  simp at hv
  rcases hv with rfl | rfl <;> rfl

set_option maxHeartbeats 1600000 in
set_option maxRecDepth 100000 in
theorem dpair_any (s : ByteArray) (a : Int) (w : World) (hs : s.size ≤ 1099511627776) (ha : -9223372036854775808 ≤ a ∧ a ≤ 9223372036854775807) :
    Calls Try.prog 21 #[.string s, .int .i64 a] w fun e w' => e = .returned (.tuple #[.agg #[.int .i64 (pairD s.data.toList a).1.p, .int .i64 (pairD s.data.toList a).1.n], .int .i64 ((pairD s.data.toList a).2 : Int)]) ∧ Below w.heap.size w w' := by
  have hsz : s.data.toList.length = s.size := rfl
  have HT0 := Lib.hid (Arr.new w 52 #[.int .i64 0, .int .i64 0])
  have HB0 := Lib.hid ((Below.refl w.heap.size w).alloc (Nat.le_refl _) (.cells #[.int .i64 0, .int .i64 0] 52))
  have hgl : w.heap.size < (w.alloc (.cells #[.int .i64 0, .int .i64 0] 52)).heap.size := by rw [sz_alloc]; omega
  by_cases h0 : a < 0 ∨ (s.size : Int) < a + 16
  · have HE : Hid (pairD s.data.toList a = (sp0, 14)) := pair_short (by rw [hsz]; exact h0)
    have HP : Hid (∀ W, Calls Try.prog 28 #[.string s, .agg #[.int .i64 a, .int .i64 16]] W fun e w' => e = .returned (.tuple #[.string ⟨#[]⟩, .int .i64 2]) ∧ Below W.heap.size W w') := fun W => by
      have := hpart_any s a 16 W (by unfold maxLen; omega) (by unfold in64; omega) (by unfold in64; omega)
      rwa [show partR s a 16 = (⟨#[]⟩, 2) from if_pos (by omega)] at this
    generalize pairD s.data.toList a = R at *
    obtain rfl := HE.out
    clear h0 hsz HE ha
    go_enter Try.func21, Try.ntmps21
    go_wp2_with fail
    refine (HP.out _).mono ?_
    rintro e w1 ⟨rfl, hb1⟩
    have HT1 := Lib.hid (HT0.out.below hb1 HT0.out.lt)
    have HB1 := Lib.hid (HB0.out.trans (hb1.mono HB0.out.size))
    clear hb1 HT0 HB0 HP
    go_wp2_with (refine wpList_store_row rfl 52 (.tmp 4) (.tmp 19) rfl w.heap.size #[.int .i64 0, .int .i64 0] rfl rfl _ _ HT1.out infoSpan rfl (sp_one _ _) ?_)
    exact bodyPost_ret (results_rowH rfl _ _ w.heap.size _ #[.int .i64 0, .int .i64 0] _ _ rfl (HT1.out.row _) Try.underlying52 rfl infoSpan) rfl ⟨rfl, below_setRow HB1.out (Nat.le_refl _) _⟩
  · obtain ⟨x, rfl⟩ : ∃ x : Nat, a = (x : Int) := ⟨a.toNat, by omega⟩
    have hx : x + 16 ≤ s.size := by omega
    have HP : Hid (∀ W, Calls Try.prog 28 #[.string s, .agg #[.int .i64 (x : Int), .int .i64 16]] W fun e w' => e = .returned (.tuple #[.string (s.extract x (x + 16)), .int .i64 0]) ∧ Below W.heap.size W w') := fun W => by
      have := hpart_any s x 16 W (by unfold maxLen; omega) (by unfold in64; omega) (by unfold in64; omega)
      rwa [show partR s (x : Int) 16 = (s.extract x (x + 16), 0) from if_neg (by omega)] at this
    have HF := Lib.hid (dfour s x hx)
    have HPF : Hid (numAt (s.data.toList.drop x) 0 ≠ 0 ∨ numAt (s.data.toList.drop x) 2 ≠ 0 → pairD s.data.toList (x : Int) = (sp0, 6)) := fun h => pair_form (by rw [hsz]; exact hx) h
    have HPT : Hid (¬ (numAt (s.data.toList.drop x) 0 ≠ 0 ∨ numAt (s.data.toList.drop x) 2 ≠ 0) → pairD s.data.toList (x : Int) = (⟨numAt (s.data.toList.drop x) 1, numAt (s.data.toList.drop x) 3⟩, 0)) := fun h => pair_there (by rw [hsz]; exact hx) h
    generalize pairD s.data.toList (x : Int) = R at *
    generalize s.data.toList.drop x = y at *
    generalize s.extract x (x + 16) = z at *
    clear h0 hsz hx ha
    go_enter Try.func21, Try.ntmps21
    go_wp2_with fail
    refine (HP.out _).mono ?_
    rintro e w1 ⟨rfl, hb1⟩
    have HT1 := Lib.hid (HT0.out.below hb1 HT0.out.lt)
    have HB1 := Lib.hid (HB0.out.trans (hb1.mono HB0.out.size))
    clear hb1 HT0 HB0 HP
    go_wp2_with fail
    refine (HF.out _).mono ?_
    rintro e w2 ⟨b, off, cap, rfl, hc, hb2⟩
    have HT2 := Lib.hid (HT1.out.below hb2 HT1.out.lt)
    have HB2 := Lib.hid (HB1.out.trans (hb2.mono HB1.out.size))
    have p0 := hc 0 (by omega)
    have p1 := hc 1 (by omega)
    have p2 := hc 2 (by omega)
    have p3 := hc 3 (by omega)
    rw [Nat.add_zero] at p0
    clear hb2 hc HT1 HB1 HF
    generalize numAt y = nn at *
    by_cases g0 : nn 0 = 0
    · have f0 : (nn 0 != 0) = false := by rw [g0]; rfl
      by_cases g2 : nn 2 = 0
      · have f2 : (nn 2 != 0) = false := by rw [g2]; rfl
        obtain rfl := HPT.out (by rw [g0, g2]; simp)
        clear HPF HPT g0 g2
        have k0 : w2.cell? ⟨w.heap.size, 0, none⟩ = some (.int .i64 0) := HT2.out.cell 0
        have k1 : w2.cell? ⟨w.heap.size, 1, none⟩ = some (.int .i64 0) := HT2.out.cell 1
        have r0 := HT2.out.frozen 0
        have r1 := HT2.out.frozen 1
        have HT3 : Hid (Arr ((w2.setCell ⟨w.heap.size, 0, none⟩ (.int .i64 (nn 1))).setCell ⟨w.heap.size, 1, none⟩ (.int .i64 (nn 3))).drew w.heap.size 52 #[.int .i64 (nn 1), .int .i64 (nn 3)]) := (HT2.out.put 0 _).put 1 _
        have HB3 : Hid (Below w.heap.size w ((w2.setCell ⟨w.heap.size, 0, none⟩ (.int .i64 (nn 1))).setCell ⟨w.heap.size, 1, none⟩ (.int .i64 (nn 3))).drew) := ((HB2.out.setCell (p := ⟨w.heap.size, 0, none⟩) (by simp) _).setCell (p := ⟨w.heap.size, 1, none⟩) (by simp) _).drew
        clear HT2 HB2
        go_upto_region 7 with fail
        go_region
        go_wp2
        exact bodyPost_ret (results_rowH rfl _ _ w.heap.size _ #[.int .i64 (nn 1), .int .i64 (nn 3)] _ _ rfl HT3.out Try.underlying52 rfl infoSpan) rfl ⟨rfl, HB3.out⟩
      · have f2 : (nn 2 != 0) = true := by simpa using g2
        obtain rfl := HPF.out (.inr g2)
        clear HPF HPT g0 g2
        go_wp2_with (refine wpList_store_row rfl 52 (.tmp 4) (.tmp 35) rfl w.heap.size #[.int .i64 0, .int .i64 0] rfl rfl _ _ HT2.out infoSpan rfl (sp_one _ _) ?_)
        exact bodyPost_ret (results_rowH rfl _ _ w.heap.size _ #[.int .i64 0, .int .i64 0] _ _ rfl (HT2.out.row _) Try.underlying52 rfl infoSpan) rfl ⟨rfl, below_setRow HB2.out (Nat.le_refl _) _⟩
    · have f0 : (nn 0 != 0) = true := by simpa using g0
      obtain rfl := HPF.out (.inl g0)
      clear HPF HPT g0
      go_wp2_with (refine wpList_store_row rfl 52 (.tmp 4) (.tmp 35) rfl w.heap.size #[.int .i64 0, .int .i64 0] rfl rfl _ _ HT2.out infoSpan rfl (sp_one _ _) ?_)
      exact bodyPost_ret (results_rowH rfl _ _ w.heap.size _ #[.int .i64 0, .int .i64 0] _ _ rfl (HT2.out.row _) Try.underlying52 rfl infoSpan) rfl ⟨rfl, below_setRow HB2.out (Nat.le_refl _) _⟩
end Go.Proofs.Ytmgmpjgofolkgaa
