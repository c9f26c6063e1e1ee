/- What package reserve does: the contracts that layer 18's walks ask. Condition: at most 1000 spans. -/
import Derived.Test.YtgfblcfleohdjaaRsL
import Derived.Test.YtgfblcfleohdjaaSpI
import Derived.Test.YtgfblcfleohdjaaRsE
namespace Go.Proofs.Ytgfblcfleohdjaa
open Go.RowKit

set_option maxHeartbeats 1600000 in
set_option maxRecDepth 100000 in
theorem meets18_any (x : SP) (A : Option Addr) (cap : Nat) (l : List SP) (w : World) (hr : RdSp w A l) (hl : l.length ≤ 1000) :
    Calls Try.prog 9 #[.agg #[.int .i64 x.p, .int .i64 x.n], .slice A l.length cap] w fun e w' => e = .returned (.bool (metL x l)) ∧ Below w.heap.size w w' := by
  have eg : ∀ args w, (callFunc 24 args).run Try.prog w = .ok (.enter 24 args) w := enters_of Try.func24 (by kernel_rfl) rfl
  obtain ⟨W1, hW1⟩ : ∃ W1, W1 = w.alloc (.cells #[.int .i64 x.p, .int .i64 x.n] 24) := ⟨_, rfl⟩
  obtain ⟨g2, hg2⟩ : ∃ g2, g2 = w.heap.size := ⟨_, rfl⟩
  have hB1 : Below w.heap.size w W1 := by rw [hW1]; exact (Below.refl _ _).alloc (Nat.le_refl _) _
  have hA2 : Arr W1 g2 24 #[.int .i64 x.p, .int .i64 x.n] := by rw [hW1, hg2]; exact Arr.new w _ _
  have HB := Lib.hid hB1
  have HFU := Lib.hid (full_any x W1)
  have HAT : Hid (∀ W, Below W1.heap.size W1 W → SpAt W g2 0 x) := fun W h => ⟨(hA2.below h hA2.lt).cell 0, (hA2.below h hA2.lt).cell 1⟩
  have HCO : Hid (fulS x = true → ∀ W, Below W1.heap.size W1 W → Calls Try.prog 23 #[.slice A l.length cap, .func (.func 24) #[] #[.pointer (some ⟨g2, 0, none⟩)]] W fun e w' => e = .returned (.bool (metL x l)) ∧ Below W.heap.size W w') := fun hx W h =>
    containsF_any 24 #[.pointer (some ⟨g2, 0, none⟩)] eg (metS x) A cap l W ((hr.below hB1).below h) (by omega) (fun y W' h' => meets1_any g2 x y W' hx (HAT.out W' (h.trans (h'.mono h.size))))
  have HNO : Hid (fulS x = false → metL x l = false) := fun h => List.any_eq_false.2 fun y _ => by rw [metS_ful, h, Bool.false_and]; decide
  obtain ⟨c0, c1⟩ := HAT.out W1 (Below.refl _ _)
  generalize metL x l = R at *
  clear hr hB1 hA2 eg
  go_enter Try.func9, Try.ntmps9
  go_upto_region 1 with fail
  rw [← hW1, ← hg2]
  clear hW1 hg2
  go_wp2_with fail
  refine HFU.out.mono ?_
  rintro e w2 ⟨rfl, hb⟩
  have HB2 := Lib.hid hb
  clear hb HFU
  cases hf : fulS x with
  | false =>
    have HR := Lib.hid (HNO.out hf)
    have HBE : Hid (Below w.heap.size w w2) := HB.out.trans (HB2.out.mono HB.out.size)
    clear hf HNO HCO
    go_wp2
    go_ret
    exact ⟨by rw [HR.out]; rfl, HBE.out⟩
  | true =>
    have HC2 := Lib.hid (HCO.out hf w2 HB2.out)
    clear hf HNO HCO
    go_wp2_with fail
    refine HC2.out.mono ?_
    rintro e w3 ⟨rfl, hb⟩
    have HBE : Hid (Below w.heap.size w w3) := HB.out.trans ((HB2.out.trans (hb.mono HB2.out.size)).mono HB.out.size)
    clear hb HC2
    go_wp2
    go_ret
    exact ⟨rfl, HBE.out⟩

set_option maxHeartbeats 1600000 in
set_option maxRecDepth 100000 in
theorem has18_any (A : Option Addr) (cap : Nat) (l : List SP) (a : Int) (w : World) (hr : RdSp w A l) (hl : l.length ≤ 1000) :
    Calls Try.prog 11 #[.slice A l.length cap, .int .i64 a] w fun e w' => e = .returned (.bool (hasL l a)) ∧ Below w.heap.size w w' := by
  have eg : ∀ args w, (callFunc 26 args).run Try.prog w = .ok (.enter 26 args) w := enters_of Try.func26 (by kernel_rfl) rfl
  have hB1 : Below w.heap.size w (w.alloc (.cells #[.int .i64 a] 3)) := (Below.refl _ _).alloc (Nat.le_refl _) _
  have hA2 : Arr (w.alloc (.cells #[.int .i64 a] 3)) w.heap.size 3 #[.int .i64 a] := Arr.new w _ _
  have HB := Lib.hid hB1
  have HC := Lib.hid (containsF_any 26 #[.pointer (some ⟨w.heap.size, 0, none⟩)] eg (fun x => hitS x a) A cap l _ (hr.below hB1) (by omega) (fun y W' h' => has1_any w.heap.size a y W' ((hA2.below h' hA2.lt).cell 0)))
  unfold hasL
  generalize (l.any fun x => hitS x a) = R at *
  clear hr hB1 hA2 eg
  go_enter Try.func11, Try.ntmps11
  go_wp2_with fail
  refine HC.out.mono ?_
  rintro e w2 ⟨rfl, hb⟩
  have HB2 : Hid (Below w.heap.size w w2) := HB.out.trans (hb.mono HB.out.size)
  clear hb HC
  go_wp2
  go_ret
  exact ⟨rfl, HB2.out⟩

/-- Where a span is put. -/
theorem pos_idx {l : List SP} {p r : Int} (h : IdxOf (fun y => decide (p < y.p)) l r) : (r < 0 ∧ posL l p = l.length) ∨ (∃ k : Nat, r = k ∧ k < l.length ∧ posL l p = k) := by
  rcases h with ⟨rfl, h⟩ | ⟨k, rfl, hk, h, h2⟩
  · refine .inl ⟨by omega, posL_end (Nat.le_refl _) (fun j hj => ?_) (.inl rfl)⟩
    have := of_decide_eq_false (h j hj)
    omega
  · refine .inr ⟨k, rfl, hk, posL_end (by omega) (fun j hj => ?_) (.inr (of_decide_eq_true h))⟩
    have := of_decide_eq_false (h2 j hj)
    omega
theorem ful_bad {x : SP} (h : fulS x = false) : mayS x = false ∨ x.n = 0 := by
  rcases fulS_may.1 h with h | h
  · exact .inl h
  · cases hm : mayS x with
    | false => exact .inl rfl
    | true => have := mayS_of hm; exact .inr (by omega)
theorem ful_ok {x : SP} (h : fulS x = true) : ¬ (mayS x = false ∨ x.n = 0) := fun h2 => by
  have h3 := fulS_of h
  unfold fulS at h
  rw [Bool.and_eq_true] at h
  rcases h2 with h2 | h2
  · rw [h2] at h; exact absurd h.1 (by decide)
  · omega

set_option maxHeartbeats 3200000 in
set_option maxRecDepth 100000 in
theorem add18_any (x : SP) (A : Option Addr) (cap : Nat) (l : List SP) (w : World) (hr : RdSp w A l) (hl : l.length ≤ 1000) :
    Calls Try.prog 6 #[.slice A l.length cap, .agg #[.int .i64 x.p, .int .i64 x.n]] w fun e w' => ∃ B c, e = .returned (.tuple #[.slice B (addL l x).1.length c, .int .i64 ((addL l x).2 : Int)]) ∧ RdSp w' B (addL l x).1 ∧ Below w.heap.size w w' ∧ (addL l x).1.length ≤ c ∧ c ≤ maxLen := by
  have eg : ∀ args w, (callFunc 19 args).run Try.prog w = .ok (.enter 19 args) w := enters_of Try.func19 (by kernel_rfl) rfl
  obtain ⟨W1, hW1⟩ : ∃ W1, W1 = w.alloc (.cells #[.int .i64 x.p, .int .i64 x.n] 24) := ⟨_, rfl⟩
  obtain ⟨g3, hg3⟩ : ∃ g3, g3 = w.heap.size := ⟨_, rfl⟩
  have hB1 : Below w.heap.size w W1 := by rw [hW1]; exact (Below.refl _ _).alloc (Nat.le_refl _) _
  have hA3 : Arr W1 g3 24 #[.int .i64 x.p, .int .i64 x.n] := by rw [hW1, hg3]; exact Arr.new w _ _
  have HB := Lib.hid hB1
  have HR := Lib.hid (hr.below hB1)
  have HFU := Lib.hid (full_any x W1)
  have HAT : Hid (∀ W, Below W1.heap.size W1 W → W.cell? ⟨g3, 0, none⟩ = some (.int .i64 x.p) ∧ W.cell? ⟨g3, 1, none⟩ = some (.int .i64 x.n)) := fun W h => ⟨(hA3.below h hA3.lt).cell 0, (hA3.below h hA3.lt).cell 1⟩
  have HME : Hid (∀ W, Below W1.heap.size W1 W → Calls Try.prog 9 #[.agg #[.int .i64 x.p, .int .i64 x.n], .slice A l.length cap] W fun e w' => e = .returned (.bool (metL x l)) ∧ Below W.heap.size W w') := fun W h => meets18_any x A cap l W (HR.out.below h) hl
  have HIX : Hid (∀ W, Below W1.heap.size W1 W → Calls Try.prog 18 #[.slice A l.length cap, .func (.func 19) #[] #[.pointer (some ⟨g3, 0, none⟩)]] W fun e w' => (∃ r : Int, e = .returned (.int .i64 r) ∧ IdxOf (fun y => decide (x.p < y.p)) l r) ∧ Below W.heap.size W w') := fun W h =>
    indexF_any 19 #[.pointer (some ⟨g3, 0, none⟩)] eg (fun y => decide (x.p < y.p)) A cap l W (HR.out.below h) (by omega) (fun y W' h' => add1_any g3 x.p y W' (HAT.out W' (h.trans (h'.mono h.size))).1)
  have HBAD := Lib.hid (add_bad (l := l) (x := x))
  have HBIG := Lib.hid (add_big (l := l) (x := x))
  have HMET := Lib.hid (add_met (l := l) (x := x))
  have HOK := Lib.hid (add_ok (l := l) (x := x))
  have HPI := Lib.hid (fun r => pos_idx (l := l) (p := x.p) (r := r))
  have HPL := Lib.hid (posL_le l x.p)
  generalize addL l x = R at *
  generalize posL l x.p = PK at *
  generalize metL x l = ml at *
  obtain ⟨c0, c1⟩ := HAT.out W1 (Below.refl _ _)
  clear hr hB1 hA3 eg
  go_enter Try.func6, Try.ntmps6
  go_upto_region 1 with fail
  rw [← hW1, ← hg3]
  clear hW1 hg3
  go_wp2_with fail
  refine HFU.out.mono ?_
  rintro e w2 ⟨rfl, hb⟩
  have HB2 := Lib.hid hb
  have HBW : Hid (Below w.heap.size w w2) := HB.out.trans (hb.mono HB.out.size)
  obtain ⟨c0, c1⟩ := HAT.out w2 hb
  clear hb HFU
  cases hf : fulS x with
  | false =>
    have HE : Hid (R = ([], 1)) := HBAD.out (ful_bad hf)
    clear HBAD HBIG HMET HOK HME HIX HPI HPL hf
    go_wp2
    go_ret2
    exact ⟨none, 0, by rw [HE.out]; rfl, .inl (by rw [HE.out]), HBW.out, by rw [HE.out]; exact Nat.le_refl _, Nat.zero_le _⟩
  | true =>
    have hok := ful_ok hf
    by_cases h16 : 16 ≤ l.length
    · have HE : Hid (R = ([], 7)) := HBIG.out hok h16
      have d2 : decide ((16 : Int) ≤ (l.length : Int)) = true := decide_eq_true (by omega)
      clear HBAD HBIG HMET HOK HME HIX HPI HPL hok hf
      go_wp2
      go_ret2
      exact ⟨none, 0, by rw [HE.out]; rfl, .inl (by rw [HE.out]), HBW.out, by rw [HE.out]; exact Nat.le_refl _, Nat.zero_le _⟩
    · have d2 : decide ((16 : Int) ≤ (l.length : Int)) = false := decide_eq_false (by omega)
      have HM3 := Lib.hid (HME.out w2 HB2.out)
      cases ml with
      | true =>
        have HE : Hid (R = ([], 12)) := HMET.out hok h16 rfl
        clear HBAD HBIG HMET HOK HME HIX HPI HPL hok hf
        go_wp2_with fail
        refine HM3.out.mono ?_
        rintro e w3 ⟨rfl, hb⟩
        have HBX := Lib.hid (HBW.out.trans (hb.mono HBW.out.size))
        clear hb
        go_wp2
        go_ret2
        exact ⟨none, 0, by rw [HE.out]; rfl, .inl (by rw [HE.out]), HBX.out, by rw [HE.out]; exact Nat.le_refl _, Nat.zero_le _⟩
      | false =>
        have HE : Hid (R = (l.take PK ++ x :: l.drop PK, 0)) := HOK.out hok h16 rfl
        have hl16 : l.length < 16 := by omega
        clear HBAD HBIG HMET HOK HME hok hf h16 hl
        go_wp2_with fail
        refine HM3.out.mono ?_
        rintro e w3 ⟨rfl, hb⟩
        have HB3 : Hid (Below W1.heap.size W1 w3) := HB2.out.trans (hb.mono HB2.out.size)
        have HI3 := Lib.hid (HIX.out w3 HB3.out)
        obtain ⟨c0, c1⟩ := HAT.out w3 HB3.out
        clear hb HM3 HBW HIX
        go_wp2_with fail
        refine HI3.out.mono ?_
        rintro e w4 ⟨⟨r, rfl, hr⟩, hb⟩
        have HB4 : Hid (Below W1.heap.size W1 w4) := HB3.out.trans (hb.mono HB3.out.size)
        have hrr := HPI.out r hr
        clear hb HI3 HB3 HPI hr
        obtain ⟨c0, c1⟩ := HAT.out w4 HB4.out
        have hpl := HPL.out
        have hbd : Below W1.heap.size W1 w4.drew := HB4.out.drew
        have HKP : Hid (∀ W, Below W1.heap.size W1 W → W.cell? ⟨g3, 0, none⟩ = some (.int .i64 x.p) ∧ W.cell? ⟨g3, 1, none⟩ = some (.int .i64 x.n) ∧ Below W1.heap.size W1 W) := fun W h => ⟨(HAT.out W h).1, (HAT.out W h).2, h⟩
        have HCL : Hid (∀ W, Below W1.heap.size W1 W → Calls Try.prog 21 #[.slice A l.length cap] W fun e w' => ∃ A' c', e = .returned (.slice A' l.length c') ∧ w'.ownsRow W.heap.size 24 2 (.slice A' l.length c') l.length (spD l) ∧ Below W.heap.size W w' ∧ Below W1.heap.size W1 w') := fun W h =>
          (cloneO_any A cap l W (HR.out.below h) (by omega)).mono fun e w' ⟨v, h1, h2, h3⟩ => by
            obtain ⟨A', c', rfl, _, _⟩ := own_spD h2
            exact ⟨A', c', h1, h2, h3, h.trans (h3.mono h.size)⟩
        have HIN : Hid (∀ (W : World) (b gx : Nat) (A' : Option Addr) (c' : Nat), W.ownsRow b 24 2 (.slice A' l.length c') l.length (spD l) → W1.heap.size ≤ b → b ≤ W.heap.size → Below W1.heap.size W1 W → Arr W gx 24 #[.int .i64 x.p, .int .i64 x.n] → A' ≠ some ⟨gx, 0, none⟩ → Calls Try.prog 20 #[.slice A' l.length c', .int .i64 (PK : Int), .slice (some ⟨gx, 0, none⟩) 1 1] W fun e w' => ∃ B c, e = .returned (.slice B R.1.length c) ∧ RdSp w' B R.1 ∧ Below W1.heap.size W1 w' ∧ R.1.length ≤ c ∧ c ≤ maxLen) := fun W b gx A' c' h1 h2 h3 h4 h5 h6 =>
          (insert_any b A' c' gx PK l x W h1 h3 h5 h6 (by omega) hpl).mono fun e w' ⟨v, q1, q2, q3⟩ => by
            have hll : R.1.length = l.length + 1 := by rw [HE.out]; exact ins_len l PK x hpl
            have hq : spD R.1 = spD (l.take PK ++ x :: l.drop PK) := by rw [HE.out]
            rw [← hll, ← hq] at q2
            obtain ⟨B, c, rfl, q4, _⟩ := own_spD q2
            have q5 := own_caps q2
            exact ⟨B, c, q1, q4, h4.trans (q3.mono h2), q5.1, q5.2⟩
        have HOA : Hid (∀ (W : World) (b : Nat) (A' : Option Addr) (c' : Nat), W.ownsRow b 24 2 (.slice A' l.length c') l.length (spD l) → ∀ g, A' = some ⟨g, 0, none⟩ → b ≤ g ∧ g < W.heap.size) := fun W b A' c' h g e => h.lt g (by rw [e]; rfl)
        have HR2 : Hid (R.2 = 0) := by rw [HE.out]; rfl
        clear HE HPL HAT HR
        rcases hrr with ⟨hr0, hpk⟩ | ⟨k, rfl, hk, hpk⟩
        · have d3 : decide (r < 0) = true := decide_eq_true hr0
          have HPK : Hid (PK = l.length) := hpk
          clear hr0 hpk
          go_upto_region 10 with fail
          rw [HPK.out] at HIN
          refine wp_region_held_drew (S := fun w' => w'.cell? ⟨g3, 0, none⟩ = some (.int .i64 x.p) ∧ w'.cell? ⟨g3, 1, none⟩ = some (.int .i64 x.n) ∧ Below W1.heap.size W1 w') (by kernel_rfl) (by exact HKP.out _ hbd) (fun hHeld => ?_)
          refine takeH 0 26 rfl rfl (v := ?_) (by kernel_rfl) (by kernel_rfl) (by kernel_rfl) (fun _ _ _ h => h) (Or.inl ⟨by rfl, ?_⟩) hHeld ?_
          rotate_left 1
          · (intro w hSw; (try dsimp only at hSw); go_simp; try (with_reducible rfl))
          (try simp only [Act.put]); (try simp only [List.setIfInBounds_toArray]); (try simp only [List.set_cons_succ]); (try simp only [List.set_cons_zero])
          refine takeH 2 28 rfl rfl (v := ?_) (by kernel_rfl) (by kernel_rfl) (by kernel_rfl) (fun _ _ _ h => h) (Or.inl ⟨by rfl, ?_⟩) hHeld ?_
          rotate_left 1
          · (intro w hSw; (try dsimp only at hSw); go_simp; try (with_reducible rfl))
          (try simp only [Act.put]); (try simp only [List.setIfInBounds_toArray]); (try simp only [List.set_cons_succ]); (try simp only [List.set_cons_zero])
          refine takeH 3 29 rfl rfl (v := ?_) (by kernel_rfl) (by kernel_rfl) (by kernel_rfl) (fun _ _ _ h => h) (Or.inl ⟨by rfl, ?_⟩) hHeld ?_
          rotate_left 1
          · (intro w hSw; (try dsimp only at hSw); go_simp; try (with_reducible rfl))
          (try simp only [Act.put]); (try simp only [List.setIfInBounds_toArray]); (try simp only [List.set_cons_succ]); (try simp only [List.set_cons_zero])
          refine wpAnyH_ready (rs := [1, 4]) (by kernel_rfl) (by simp) (AllReadyH.cons rfl (fun K hK => ?_) (AllReadyH.cons rfl (fun K hK => ?_) AllReadyH.nil))
          · go_simp
            refine (HCL.out _ hbd).mono ?_
            rintro e w5 ⟨A5, c5, rfl, o1, o2, o3⟩
            (try dsimp only)
            refine hK.out _ _ (by exact HKP.out _ o3) (fun hHeld => ?_)
            clear hK K
            (try simp only [Act.put]); (try simp only [List.setIfInBounds_toArray]); (try simp only [List.set_cons_succ]); (try simp only [List.set_cons_zero])
            refine wpAnyH_ready (rs := [4]) (by kernel_rfl) (by simp) (AllReadyH.cons rfl (fun K hK => ?_) AllReadyH.nil)
            have hal : Below W1.heap.size W1 (w5.alloc (.cells #[.int .i64 x.p, .int .i64 x.n] 24)) := o3.alloc o3.size _
            go_simp
            refine hK.out _ _ (by exact HKP.out _ hal) (fun hHeld => ?_)
            clear hK K
            (try simp only [Act.put]); (try simp only [List.setIfInBounds_toArray]); (try simp only [List.set_cons_succ]); (try simp only [List.set_cons_zero])
            refine wpAnyH_ready (rs := [5]) (by kernel_rfl) (by simp) (AllReadyH.cons rfl (fun K hK => ?_) AllReadyH.nil)
            go_simp
            refine (HIN.out _ _ _ _ _ (ow_below o1 ((Below.refl _ _).alloc (Nat.le_refl _) _)) (hbd.size) (Nat.le_trans o2.size (by rw [sz_alloc]; omega)) hal (Arr.new w5 _ _) (fun e => by have := (HOA.out w5 _ A5 c5 o1 _ e).2; omega)).mono ?_
            rintro e w9 ⟨B9, c9, rfl, q4, q5, q6, q7⟩
            (try dsimp only)
            refine hK.out _ _ (by exact HKP.out _ q5) (fun hHeld => ?_)
            clear hK K
            (try simp only [Act.put]); (try simp only [List.setIfInBounds_toArray]); (try simp only [List.set_cons_succ]); (try simp only [List.set_cons_zero])
            refine takeH 6 4 rfl rfl (v := ?_) (by kernel_rfl) (by kernel_rfl) (by kernel_rfl) (fun _ _ _ h => h) (Or.inl ⟨by rfl, ?_⟩) hHeld ?_
            rotate_left 1
            · (intro w hSw; (try dsimp only at hSw); go_simp; try (with_reducible rfl))
            (try simp only [Act.put]); (try simp only [List.setIfInBounds_toArray]); (try simp only [List.set_cons_succ]); (try simp only [List.set_cons_zero])
            refine takeH 7 5 rfl rfl (v := ?_) (by kernel_rfl) (by kernel_rfl) (by kernel_rfl) (fun _ _ _ h => h) (Or.inl ⟨by rfl, ?_⟩) hHeld ?_
            rotate_left 1
            · (intro w hSw; (try dsimp only at hSw); go_simp; try (with_reducible rfl))
            (try simp only [Act.put]); (try simp only [List.setIfInBounds_toArray]); (try simp only [List.set_cons_succ]); (try simp only [List.set_cons_zero])
            refine wpAnyH_done (by kernel_rfl) ?_ _
            go_wp2_with fail
            go_ret2
            exact ⟨B9, c9, by rw [HR2.out]; rfl, q4, HB.out.trans (q5.mono HB.out.size), q6, q7⟩
          · have hal : Below W1.heap.size W1 (w4.drew.alloc (.cells #[.int .i64 x.p, .int .i64 x.n] 24)) := hbd.alloc hbd.size _
            go_simp
            refine hK.out _ _ (by exact HKP.out _ hal) (fun hHeld => ?_)
            clear hK K
            (try simp only [Act.put]); (try simp only [List.setIfInBounds_toArray]); (try simp only [List.set_cons_succ]); (try simp only [List.set_cons_zero])
            refine wpAnyH_ready (rs := [1]) (by kernel_rfl) (by simp) (AllReadyH.cons rfl (fun K hK => ?_) AllReadyH.nil)
            go_simp
            refine (HCL.out _ hal).mono ?_
            rintro e w5 ⟨A5, c5, rfl, o1, o2, o3⟩
            (try dsimp only)
            refine hK.out _ _ (by exact HKP.out _ o3) (fun hHeld => ?_)
            clear hK K
            (try simp only [Act.put]); (try simp only [List.setIfInBounds_toArray]); (try simp only [List.set_cons_succ]); (try simp only [List.set_cons_zero])
            refine wpAnyH_ready (rs := [5]) (by kernel_rfl) (by simp) (AllReadyH.cons rfl (fun K hK => ?_) AllReadyH.nil)
            go_simp
            refine (HIN.out w5 _ _ _ _ o1 (hal.size) (o2.size) o3 ((Arr.new w4.drew _ _).below o2 (by rw [sz_alloc]; exact Nat.lt_succ_self _)) (fun e => by have := (HOA.out w5 _ A5 c5 o1 _ e).1; rw [sz_alloc] at this; exact absurd this (Nat.not_le_of_lt (Nat.lt_succ_self _)))).mono ?_
            rintro e w9 ⟨B9, c9, rfl, q4, q5, q6, q7⟩
            (try dsimp only)
            refine hK.out _ _ (by exact HKP.out _ q5) (fun hHeld => ?_)
            clear hK K
            (try simp only [Act.put]); (try simp only [List.setIfInBounds_toArray]); (try simp only [List.set_cons_succ]); (try simp only [List.set_cons_zero])
            refine takeH 6 4 rfl rfl (v := ?_) (by kernel_rfl) (by kernel_rfl) (by kernel_rfl) (fun _ _ _ h => h) (Or.inl ⟨by rfl, ?_⟩) hHeld ?_
            rotate_left 1
            · (intro w hSw; (try dsimp only at hSw); go_simp; try (with_reducible rfl))
            (try simp only [Act.put]); (try simp only [List.setIfInBounds_toArray]); (try simp only [List.set_cons_succ]); (try simp only [List.set_cons_zero])
            refine takeH 7 5 rfl rfl (v := ?_) (by kernel_rfl) (by kernel_rfl) (by kernel_rfl) (fun _ _ _ h => h) (Or.inl ⟨by rfl, ?_⟩) hHeld ?_
            rotate_left 1
            · (intro w hSw; (try dsimp only at hSw); go_simp; try (with_reducible rfl))
            (try simp only [Act.put]); (try simp only [List.setIfInBounds_toArray]); (try simp only [List.set_cons_succ]); (try simp only [List.set_cons_zero])
            refine wpAnyH_done (by kernel_rfl) ?_ _
            go_wp2_with fail
            go_ret2
            exact ⟨B9, c9, by rw [HR2.out]; rfl, q4, HB.out.trans (q5.mono HB.out.size), q6, q7⟩
        · have d3 : decide ((k : Int) < 0) = false := decide_eq_false (by omega)
          have HPK : Hid (PK = k) := hpk
          clear hpk
          go_upto_region 10 with fail
          rw [HPK.out] at HIN
          refine wp_region_held_drew (S := fun w' => w'.cell? ⟨g3, 0, none⟩ = some (.int .i64 x.p) ∧ w'.cell? ⟨g3, 1, none⟩ = some (.int .i64 x.n) ∧ Below W1.heap.size W1 w') (by kernel_rfl) (by exact HKP.out _ hbd) (fun hHeld => ?_)
          refine takeH 0 26 rfl rfl (v := ?_) (by kernel_rfl) (by kernel_rfl) (by kernel_rfl) (fun _ _ _ h => h) (Or.inl ⟨by rfl, ?_⟩) hHeld ?_
          rotate_left 1
          · (intro w hSw; (try dsimp only at hSw); go_simp; try (with_reducible rfl))
          (try simp only [Act.put]); (try simp only [List.setIfInBounds_toArray]); (try simp only [List.set_cons_succ]); (try simp only [List.set_cons_zero])
          refine takeH 2 28 rfl rfl (v := ?_) (by kernel_rfl) (by kernel_rfl) (by kernel_rfl) (fun _ _ _ h => h) (Or.inl ⟨by rfl, ?_⟩) hHeld ?_
          rotate_left 1
          · (intro w hSw; (try dsimp only at hSw); go_simp; try (with_reducible rfl))
          (try simp only [Act.put]); (try simp only [List.setIfInBounds_toArray]); (try simp only [List.set_cons_succ]); (try simp only [List.set_cons_zero])
          refine takeH 3 29 rfl rfl (v := ?_) (by kernel_rfl) (by kernel_rfl) (by kernel_rfl) (fun _ _ _ h => h) (Or.inl ⟨by rfl, ?_⟩) hHeld ?_
          rotate_left 1
          · (intro w hSw; (try dsimp only at hSw); go_simp; try (with_reducible rfl))
          (try simp only [Act.put]); (try simp only [List.setIfInBounds_toArray]); (try simp only [List.set_cons_succ]); (try simp only [List.set_cons_zero])
          refine wpAnyH_ready (rs := [1, 4]) (by kernel_rfl) (by simp) (AllReadyH.cons rfl (fun K hK => ?_) (AllReadyH.cons rfl (fun K hK => ?_) AllReadyH.nil))
          · go_simp
            refine (HCL.out _ hbd).mono ?_
            rintro e w5 ⟨A5, c5, rfl, o1, o2, o3⟩
            (try dsimp only)
            refine hK.out _ _ (by exact HKP.out _ o3) (fun hHeld => ?_)
            clear hK K
            (try simp only [Act.put]); (try simp only [List.setIfInBounds_toArray]); (try simp only [List.set_cons_succ]); (try simp only [List.set_cons_zero])
            refine wpAnyH_ready (rs := [4]) (by kernel_rfl) (by simp) (AllReadyH.cons rfl (fun K hK => ?_) AllReadyH.nil)
            have hal : Below W1.heap.size W1 (w5.alloc (.cells #[.int .i64 x.p, .int .i64 x.n] 24)) := o3.alloc o3.size _
            go_simp
            refine hK.out _ _ (by exact HKP.out _ hal) (fun hHeld => ?_)
            clear hK K
            (try simp only [Act.put]); (try simp only [List.setIfInBounds_toArray]); (try simp only [List.set_cons_succ]); (try simp only [List.set_cons_zero])
            refine wpAnyH_ready (rs := [5]) (by kernel_rfl) (by simp) (AllReadyH.cons rfl (fun K hK => ?_) AllReadyH.nil)
            go_simp
            refine (HIN.out _ _ _ _ _ (ow_below o1 ((Below.refl _ _).alloc (Nat.le_refl _) _)) (hbd.size) (Nat.le_trans o2.size (by rw [sz_alloc]; omega)) hal (Arr.new w5 _ _) (fun e => by have := (HOA.out w5 _ A5 c5 o1 _ e).2; omega)).mono ?_
            rintro e w9 ⟨B9, c9, rfl, q4, q5, q6, q7⟩
            (try dsimp only)
            refine hK.out _ _ (by exact HKP.out _ q5) (fun hHeld => ?_)
            clear hK K
            (try simp only [Act.put]); (try simp only [List.setIfInBounds_toArray]); (try simp only [List.set_cons_succ]); (try simp only [List.set_cons_zero])
            refine takeH 6 4 rfl rfl (v := ?_) (by kernel_rfl) (by kernel_rfl) (by kernel_rfl) (fun _ _ _ h => h) (Or.inl ⟨by rfl, ?_⟩) hHeld ?_
            rotate_left 1
            · (intro w hSw; (try dsimp only at hSw); go_simp; try (with_reducible rfl))
            (try simp only [Act.put]); (try simp only [List.setIfInBounds_toArray]); (try simp only [List.set_cons_succ]); (try simp only [List.set_cons_zero])
            refine takeH 7 5 rfl rfl (v := ?_) (by kernel_rfl) (by kernel_rfl) (by kernel_rfl) (fun _ _ _ h => h) (Or.inl ⟨by rfl, ?_⟩) hHeld ?_
            rotate_left 1
            · (intro w hSw; (try dsimp only at hSw); go_simp; try (with_reducible rfl))
            (try simp only [Act.put]); (try simp only [List.setIfInBounds_toArray]); (try simp only [List.set_cons_succ]); (try simp only [List.set_cons_zero])
            refine wpAnyH_done (by kernel_rfl) ?_ _
            go_wp2_with fail
            go_ret2
            exact ⟨B9, c9, by rw [HR2.out]; rfl, q4, HB.out.trans (q5.mono HB.out.size), q6, q7⟩
          · have hal : Below W1.heap.size W1 (w4.drew.alloc (.cells #[.int .i64 x.p, .int .i64 x.n] 24)) := hbd.alloc hbd.size _
            go_simp
            refine hK.out _ _ (by exact HKP.out _ hal) (fun hHeld => ?_)
            clear hK K
            (try simp only [Act.put]); (try simp only [List.setIfInBounds_toArray]); (try simp only [List.set_cons_succ]); (try simp only [List.set_cons_zero])
            refine wpAnyH_ready (rs := [1]) (by kernel_rfl) (by simp) (AllReadyH.cons rfl (fun K hK => ?_) AllReadyH.nil)
            go_simp
            refine (HCL.out _ hal).mono ?_
            rintro e w5 ⟨A5, c5, rfl, o1, o2, o3⟩
            (try dsimp only)
            refine hK.out _ _ (by exact HKP.out _ o3) (fun hHeld => ?_)
            clear hK K
            (try simp only [Act.put]); (try simp only [List.setIfInBounds_toArray]); (try simp only [List.set_cons_succ]); (try simp only [List.set_cons_zero])
            refine wpAnyH_ready (rs := [5]) (by kernel_rfl) (by simp) (AllReadyH.cons rfl (fun K hK => ?_) AllReadyH.nil)
            go_simp
            refine (HIN.out w5 _ _ _ _ o1 (hal.size) (o2.size) o3 ((Arr.new w4.drew _ _).below o2 (by rw [sz_alloc]; exact Nat.lt_succ_self _)) (fun e => by have := (HOA.out w5 _ A5 c5 o1 _ e).1; rw [sz_alloc] at this; exact absurd this (Nat.not_le_of_lt (Nat.lt_succ_self _)))).mono ?_
            rintro e w9 ⟨B9, c9, rfl, q4, q5, q6, q7⟩
            (try dsimp only)
            refine hK.out _ _ (by exact HKP.out _ q5) (fun hHeld => ?_)
            clear hK K
            (try simp only [Act.put]); (try simp only [List.setIfInBounds_toArray]); (try simp only [List.set_cons_succ]); (try simp only [List.set_cons_zero])
            refine takeH 6 4 rfl rfl (v := ?_) (by kernel_rfl) (by kernel_rfl) (by kernel_rfl) (fun _ _ _ h => h) (Or.inl ⟨by rfl, ?_⟩) hHeld ?_
            rotate_left 1
            · (intro w hSw; (try dsimp only at hSw); go_simp; try (with_reducible rfl))
            (try simp only [Act.put]); (try simp only [List.setIfInBounds_toArray]); (try simp only [List.set_cons_succ]); (try simp only [List.set_cons_zero])
            refine takeH 7 5 rfl rfl (v := ?_) (by kernel_rfl) (by kernel_rfl) (by kernel_rfl) (fun _ _ _ h => h) (Or.inl ⟨by rfl, ?_⟩) hHeld ?_
            rotate_left 1
            · (intro w hSw; (try dsimp only at hSw); go_simp; try (with_reducible rfl))
            (try simp only [Act.put]); (try simp only [List.setIfInBounds_toArray]); (try simp only [List.set_cons_succ]); (try simp only [List.set_cons_zero])
            refine wpAnyH_done (by kernel_rfl) ?_ _
            go_wp2_with fail
            go_ret2
            exact ⟨B9, c9, by rw [HR2.out]; rfl, q4, HB.out.trans (q5.mono HB.out.size), q6, q7⟩

theorem reserve_must : ReserveMust where
  meets := fun x A cap l w hr _ _ hl _ _ => meets18_any x A cap l w hr hl
  has := fun A cap l a w hr _ _ hl _ _ _ => has18_any A cap l a w hr hl
  add := fun x A cap l w hr _ _ hl _ _ => add18_any x A cap l w hr hl
  join := fun A cap l w hr _ _ hl _ => (join18_any A cap l w hr hl).mono fun e w' ⟨v, J, h1, h2, h3, h4, h5⟩ => by
    obtain ⟨B, c, rfl, h6, _⟩ := own_spD h2
    have h7 := own_caps h2
    exact ⟨B, c, J, h1, h6, h3, h4, h7.1, h7.2⟩
  free := fun A cap l w hr _ _ hl _ => free18_any A cap l w hr hl
end Go.Proofs.Ytgfblcfleohdjaa
