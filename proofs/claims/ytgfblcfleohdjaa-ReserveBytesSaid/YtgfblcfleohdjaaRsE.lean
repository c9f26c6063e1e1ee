/- What package reserve must do, said over nothing of its code; and the awake() of layer 18's statements. Conditions: those contracts. -/
import Derived.Test.YtgfblcfleohdjaaRsB
import Derived.Test.YtgfblcfleohdjaaRsD
namespace Go.Proofs.Ytgfblcfleohdjaa
open Go.RowKit

/-- Numbers of 64 bits. -/
def w64S (x : SP) : Prop := -9223372036854775808 ≤ x.p ∧ x.p ≤ 9223372036854775807 ∧ -9223372036854775808 ≤ x.n ∧ x.n ≤ 9223372036854775807
structure ReserveMust : Prop where
  meets : ∀ (x : SP) (A : Option Addr) (cap : Nat) (l : List SP) (w : World), RdSp w A l → l.length ≤ cap → cap ≤ maxLen → l.length ≤ 1000 → w64S x → (∀ y ∈ l, w64S y) → Calls Try.prog 9 #[.agg #[.int .i64 x.p, .int .i64 x.n], .slice A l.length cap] w fun e w' => e = .returned (.bool (metL x l)) ∧ Below w.heap.size w w'
  has : ∀ (A : Option Addr) (cap : Nat) (l : List SP) (a : Int) (w : World), RdSp w A l → l.length ≤ cap → cap ≤ maxLen → l.length ≤ 1000 → -9223372036854775808 ≤ a → a ≤ 9223372036854775807 → (∀ y ∈ l, w64S y) → Calls Try.prog 11 #[.slice A l.length cap, .int .i64 a] w fun e w' => e = .returned (.bool (hasL l a)) ∧ Below w.heap.size w w'
  add : ∀ (x : SP) (A : Option Addr) (cap : Nat) (l : List SP) (w : World), RdSp w A l → l.length ≤ cap → cap ≤ maxLen → l.length ≤ 1000 → w64S x → (∀ y ∈ l, w64S y) → Calls Try.prog 6 #[.slice A l.length cap, .agg #[.int .i64 x.p, .int .i64 x.n]] w fun e w' => ∃ B c, e = .returned (.tuple #[.slice B (addL l x).1.length c, .int .i64 ((addL l x).2 : Int)]) ∧ RdSp w' B (addL l x).1 ∧ Below w.heap.size w w' ∧ (addL l x).1.length ≤ c ∧ c ≤ maxLen
  join : ∀ (A : Option Addr) (cap : Nat) (l : List SP) (w : World), RdSp w A l → l.length ≤ cap → cap ≤ maxLen → l.length ≤ 1000 → (∀ y ∈ l, w64S y) → Calls Try.prog 13 #[.slice A l.length cap] w fun e w' => ∃ B c J, e = .returned (.slice B J.length c) ∧ RdSp w' B J ∧ JoinOk l J ∧ Below w.heap.size w w' ∧ J.length ≤ c ∧ c ≤ maxLen
  free : ∀ (A : Option Addr) (cap : Nat) (l : List SP) (w : World), RdSp w A l → l.length ≤ cap → cap ≤ maxLen → l.length ≤ 1000 → (∀ y ∈ l, w64S y) → Calls Try.prog 15 #[.slice A l.length cap] w fun e w' => ∃ B c F, e = .returned (.slice B F.length c) ∧ RdSp w' B F ∧ FreeOk l F ∧ Below w.heap.size w w' ∧ F.length ≤ c ∧ c ≤ maxLen

theorem rdSp_arr {w : World} {g t : Nat} {L : List SP} (h : Arr w g t (spD L).toArray) : RdSp w (some ⟨g, 0, none⟩) L := .inr ⟨g, 0, rfl, fun k hk => by
  obtain ⟨h1, h2⟩ := spD_get L hk
  refine ⟨?_, ?_⟩
  · rw [Nat.zero_add, h.cell, List.getElem?_toArray]; exact h1
  · rw [Nat.zero_add, h.cell, List.getElem?_toArray]; exact h2⟩
theorem add18a : addL [⟨8, 4⟩] ⟨0, 4⟩ = ([⟨0, 4⟩, ⟨8, 4⟩], 0) := by rfl
theorem add18b : addL [⟨0, 4⟩, ⟨8, 4⟩] ⟨3, 2⟩ = ([], 12) := by rfl
def j18 : List SP := [⟨0, 8⟩, ⟨20, 1⟩]
theorem join18 : JoinOk [⟨4, 4⟩, ⟨0, 4⟩, ⟨20, 1⟩] j18 := by
  refine ⟨⟨by decide, by decide, by decide, by decide, trivial⟩, fun b => ?_⟩
  unfold j18 covL hasL hitS mayS
  simp
  omega
theorem free18 : FreeOk [⟨4096, 4⟩] [⟨4100, 61436⟩] := by
  refine ⟨⟨by decide, by decide, trivial⟩, fun b => ?_⟩
  unfold covL hasL hitS mayS
  simp
  omega
theorem w64S_of (L : List SP) (h : (L.all fun x => decide (-9223372036854775808 ≤ x.p ∧ x.p ≤ 9223372036854775807 ∧ -9223372036854775808 ≤ x.n ∧ x.n ≤ 9223372036854775807)) = true) : ∀ y ∈ L, w64S y := fun y hy => by
  have h1 := of_decide_eq_true (List.all_eq_true.1 h y hy)
  exact h1

theorem w64S_mem {l : List SP} (h : ∀ k, k < l.length → (l.getD k sp0).p < 9223372036854775808 ∧ -9223372036854775808 ≤ (l.getD k sp0).p ∧ (l.getD k sp0).n < 9223372036854775808 ∧ -9223372036854775808 ≤ (l.getD k sp0).n) : ∀ y ∈ l, w64S y := fun y hy => by
  obtain ⟨k, hk, rfl⟩ := spGet hy
  have := h k hk
  unfold w64S
  omega

set_option maxHeartbeats 3200000 in
set_option maxRecDepth 100000 in
theorem awake18 (M : ReserveMust) (w : World) : Calls Try.prog 5 #[] w fun e w' => e = .returned (.bool true) ∧ Below w.heap.size w w' := by
  have HA1 : Hid (∀ W b, Arr W b 24 #[.int .i64 8, .int .i64 4] → Calls Try.prog 6 #[.slice (some ⟨b, 0, none⟩) 1 1, .agg #[.int .i64 0, .int .i64 4]] W fun e w' => ∃ B c, e = .returned (.tuple #[.slice B 2 c, .int .i64 0]) ∧ RdSp w' B [⟨0, 4⟩, ⟨8, 4⟩] ∧ Below W.heap.size W w' ∧ 2 ≤ c ∧ c ≤ maxLen) := fun W b h => by
    have := M.add ⟨0, 4⟩ (some ⟨b, 0, none⟩) 1 [⟨8, 4⟩] W (rdSp_arr h) (Nat.le_refl _) (by decide) (by decide) (by unfold w64S; decide) (w64S_of _ (by decide))
    rw [add18a] at this
    exact this
  have HA2 : Hid (∀ W B c, 2 ≤ c → c ≤ maxLen → RdSp W B [⟨0, 4⟩, ⟨8, 4⟩] → Calls Try.prog 6 #[.slice B 2 c, .agg #[.int .i64 3, .int .i64 2]] W fun e w' => ∃ B c, e = .returned (.tuple #[.slice B 0 c, .int .i64 12]) ∧ Below W.heap.size W w') := fun W B c hc hm h => by
    have := M.add ⟨3, 2⟩ B c [⟨0, 4⟩, ⟨8, 4⟩] W h hc hm (by decide) (by unfold w64S; decide) (w64S_of _ (by decide))
    rw [add18b] at this
    exact this.mono fun e w' ⟨B, c, h1, _, h2, _⟩ => ⟨B, c, h1, h2⟩
  have HJ : Hid (∀ W b, Arr W b 24 #[.int .i64 4, .int .i64 4, .int .i64 0, .int .i64 4, .int .i64 20, .int .i64 1] → Calls Try.prog 13 #[.slice (some ⟨b, 0, none⟩) 3 3] W fun e w' => ∃ B c, e = .returned (.slice B 2 c) ∧ RdSp w' B j18 ∧ Below W.heap.size W w' ∧ 2 ≤ c ∧ c ≤ maxLen) := fun W b h => by
    refine (M.join (some ⟨b, 0, none⟩) 3 [⟨4, 4⟩, ⟨0, 4⟩, ⟨20, 1⟩] W (rdSp_arr h) (Nat.le_refl _) (by decide) (by decide) (w64S_of _ (by decide))).mono ?_
    rintro e w' ⟨B, c, J, rfl, h1, h2, h3, h4, h5⟩
    obtain rfl := join_one h2 join18
    exact ⟨B, c, rfl, h1, h3, h4, h5⟩
  have HF : Hid (∀ W b, Arr W b 24 #[.int .i64 4096, .int .i64 4] → Calls Try.prog 15 #[.slice (some ⟨b, 0, none⟩) 1 1] W fun e w' => ∃ B c, e = .returned (.slice B 1 c) ∧ RdSp w' B [⟨4100, 61436⟩] ∧ Below W.heap.size W w') := fun W b h => by
    refine (M.free (some ⟨b, 0, none⟩) 1 [⟨4096, 4⟩] W (rdSp_arr h) (Nat.le_refl _) (by decide) (by decide) (w64S_of _ (by decide))).mono ?_
    rintro e w' ⟨B, c, F, rfl, h1, h2, h3, _⟩
    obtain rfl := free_one h2 free18
    exact ⟨B, c, rfl, h1, h3⟩
  have HS1 : Hid (∀ W B c b, RdSp W B j18 → Arr W b 24 #[.int .i64 0, .int .i64 8, .int .i64 20, .int .i64 1] → Calls Try.prog 8 #[.slice B 2 c, .slice (some ⟨b, 0, none⟩) 2 2] W fun e w' => e = .returned (.bool true) ∧ Below W.heap.size W w') := fun W B c b h h' => sameSp_any B (some ⟨b, 0, none⟩) c 2 j18 W (by decide) h (rdSp_arr (L := j18) h')
  have HS2 : Hid (∀ W B c b, RdSp W B [⟨4100, 61436⟩] → Arr W b 24 #[.int .i64 4100, .int .i64 61436] → Calls Try.prog 8 #[.slice B 1 c, .slice (some ⟨b, 0, none⟩) 1 1] W fun e w' => e = .returned (.bool true) ∧ Below W.heap.size W w') := fun W B c b h h' => sameSp_any B (some ⟨b, 0, none⟩) c 1 [⟨4100, 61436⟩] W (by decide) h (rdSp_arr h')
  have HH7 : Hid (∀ W B c, 2 ≤ c → c ≤ maxLen → RdSp W B j18 → Calls Try.prog 11 #[.slice B 2 c, .int .i64 7] W fun e w' => e = .returned (.bool true) ∧ Below W.heap.size W w') := fun W B c h1 h2 h => by
    have := M.has B c j18 7 W h h1 h2 (by decide) (by decide) (by decide) (w64S_of _ (by decide))
    rw [show hasL j18 7 = true by decide +kernel] at this
    exact this
  have HH8 : Hid (∀ W B c, 2 ≤ c → c ≤ maxLen → RdSp W B j18 → Calls Try.prog 11 #[.slice B 2 c, .int .i64 8] W fun e w' => e = .returned (.bool false) ∧ Below W.heap.size W w') := fun W B c h1 h2 h => by
    have := M.has B c j18 8 W h h1 h2 (by decide) (by decide) (by decide) (w64S_of _ (by decide))
    rw [show hasL j18 8 = false by decide +kernel] at this
    exact this
  have HMT : Hid (∀ W B c, 2 ≤ c → c ≤ maxLen → RdSp W B j18 → Calls Try.prog 9 #[.agg #[.int .i64 5, .int .i64 1], .slice B 2 c] W fun e w' => e = .returned (.bool true) ∧ Below W.heap.size W w') := fun W B c h1 h2 h => by
    have := M.meets ⟨5, 1⟩ B c j18 W h h1 h2 (by decide) (by unfold w64S; decide) (w64S_of _ (by decide))
    rw [show metL ⟨5, 1⟩ j18 = true by decide +kernel] at this
    exact this
  have HB : Hid (Below w.heap.size w w) := Below.refl _ _
  clear M
  go_enter Try.func5, Try.ntmps5
  go_wp2_with fail
  refine (HA1.out _ _ (Arr.new _ _ _)).mono ?_
  rintro e w1 ⟨B1, c1, rfl, hr1, hb, hc1, hm1⟩
  have HB := Lib.hid (((HB.out.alloc (Nat.le_refl _) _)).trans (hb.mono (by rw [sz_alloc]; omega)))
  have HR1 := Lib.hid hr1
  clear hb hr1
  go_wp2_with fail
  refine (HA2.out _ _ _ hc1 hm1 HR1.out).mono ?_
  rintro e w2 ⟨B2, c2, rfl, hb⟩
  have HR1 := Lib.hid (HR1.out.below hb)
  have HB := Lib.hid (HB.out.trans (hb.mono HB.out.size))
  clear hb
  go_wp2_with fail
  refine (HJ.out _ _ (Arr.new _ _ _)).mono ?_
  rintro e w3 ⟨BJ, cj, rfl, hrj, hb, hcj, hmj⟩
  have hb3 := ((Below.refl w2.heap.size w2).alloc (Nat.le_refl _) _).trans (hb.mono (by rw [sz_alloc]; omega))
  have HR1 := Lib.hid (HR1.out.below hb3)
  have HB := Lib.hid (HB.out.trans (hb3.mono HB.out.size))
  have HRJ := Lib.hid hrj
  clear hb hb3 hrj
  go_wp2_with fail
  refine (HF.out _ _ (Arr.new _ _ _)).mono ?_
  rintro e w4 ⟨BF, cf, rfl, hrf, hb⟩
  have hb3 := ((Below.refl w3.heap.size w3).alloc (Nat.le_refl _) _).trans (hb.mono (by rw [sz_alloc]; omega))
  have HR1 := Lib.hid (HR1.out.below hb3)
  have HRJ := Lib.hid (HRJ.out.below hb3)
  have HB := Lib.hid (HB.out.trans (hb3.mono HB.out.size))
  have HRF := Lib.hid hrf
  clear hb hb3 hrf
  obtain ⟨b1, o1, x1, rfl, ⟨k1, k2⟩, HX1⟩ := HR1.out.at_ (k := 0) (by decide)
  obtain rfl : (⟨0, 4⟩ : SP) = x1 := HX1.out
  simp only [Nat.zero_mul, Nat.add_zero] at k1
  clear HX1 k2
  go_wp2_with fail
  refine (HS1.out _ _ _ _ (HRJ.out.below ((Below.refl _ _).alloc (Nat.le_refl _) _)) (Arr.new _ _ _)).mono ?_
  rintro e w5 ⟨rfl, hb⟩
  have hb3 := ((Below.refl w4.heap.size w4).alloc (Nat.le_refl _) _).trans (hb.mono (by rw [sz_alloc]; omega))
  have HRJ := Lib.hid (HRJ.out.below hb3)
  have HRF := Lib.hid (HRF.out.below hb3)
  have HB := Lib.hid (HB.out.trans (hb3.mono HB.out.size))
  clear hb hb3
  go_wp2_with fail
  refine (HS2.out _ _ _ _ (HRF.out.below ((Below.refl _ _).alloc (Nat.le_refl _) _)) (Arr.new _ _ _)).mono ?_
  rintro e w6 ⟨rfl, hb⟩
  have hb3 := ((Below.refl w5.heap.size w5).alloc (Nat.le_refl _) _).trans (hb.mono (by rw [sz_alloc]; omega))
  have HRJ := Lib.hid (HRJ.out.below hb3)
  have HB := Lib.hid (HB.out.trans (hb3.mono HB.out.size))
  clear hb hb3
  go_wp2_with fail
  refine (HH7.out _ _ _ hcj hmj HRJ.out).mono ?_
  rintro e w7 ⟨rfl, hb⟩
  have HRJ := Lib.hid (HRJ.out.below hb)
  have HB := Lib.hid (HB.out.trans (hb.mono HB.out.size))
  clear hb
  go_wp2_with fail
  refine (HH8.out _ _ _ hcj hmj HRJ.out).mono ?_
  rintro e w8 ⟨rfl, hb⟩
  have HRJ := Lib.hid (HRJ.out.below hb)
  have HB := Lib.hid (HB.out.trans (hb.mono HB.out.size))
  clear hb
  go_wp2_with fail
  refine (HMT.out _ _ _ hcj hmj HRJ.out).mono ?_
  rintro e w9 ⟨rfl, hb⟩
  have HB := Lib.hid (HB.out.trans (hb.mono HB.out.size))
  clear hb
  go_wp2
  go_ret
  exact ⟨rfl, HB.out⟩
end Go.Proofs.Ytgfblcfleohdjaa
