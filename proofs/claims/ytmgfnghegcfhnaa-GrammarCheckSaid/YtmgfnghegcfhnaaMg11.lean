/- What the document's low, size and Low of trees return. Conditions: a tree that is read. -/
import Derived.Test.YtmgfnghegcfhnaaMg10
import Derived.WalkSpells
import Derived.Laws.IdiomStrings
import Derived.Deep.QuietTactic
import Derived.BigQuiet
import Derived.Lib.Hide
import Derived.Deep.Draws
import Derived.IntWalk
import Derived.Deep.DeepCutAuto
import Derived.Deep.RegionWith
import Derived.Deep.RegionHeld3
import Derived.Deep.WholeRow
namespace Go.Proofs.Ytmgfnghegcfhnaa
open Go.RowKit

theorem all_at {α : Type} {f : α → Bool} {l : List α} {d : α} (h : ∀ k, k < l.length → f (l.getD k d) = true) : l.all f = true := by
  rw [List.all_eq_true]
  intro x hx
  obtain ⟨k, hk, rfl⟩ := List.getElem_of_mem hx
  have := h k hk
  rwa [List.getD_eq_getElem?_getD, List.getElem?_eq_getElem hk] at this
theorem not_all_at {α : Type} {f : α → Bool} {l : List α} {d : α} (k : Nat) (hk : k < l.length) (h : f (l.getD k d) = false) : l.all f = false := by
  cases e : l.all f with
  | false => rfl
  | true =>
    rw [List.all_eq_true] at e
    have := e _ (List.getElem_mem hk)
    rw [List.getD_eq_getElem?_getD, List.getElem?_eq_getElem hk] at h
    simp only [Option.getD_some] at h
    rw [h] at this; cases this

set_option maxHeartbeats 1600000 in
set_option maxRecDepth 100000 in
theorem rlow_any (G : Nat → Prop) : ∀ (k : Nat) (n : ND) (v2 v3 : Value) (w : World), k ≤ 20 → NdAt w G n v2 v3 →
    Calls Try.prog 26 #[.agg #[.string n.nm, v2, v3], .int .i64 (k : Int)] w fun e w' => e = .returned (.bool (lowR k n)) ∧ Below w.heap.size w w'
  | 0, n, v2, v3, w, _, _ => by
    have hB : Below w.heap.size w (w.alloc (.cells #[.string n.nm, v2, v3] 29)) := (Below.refl _ _).alloc (Nat.le_refl _) _
    have HB := Lib.hid hB
    clear hB
    go_enter Try.func26, Try.ntmps26
    go_wp2
    go_ret
    exact ⟨rfl, HB.out⟩
  | k + 1, n, v2, v3, w, hk20, hN => by
    have HIH := Lib.hid (fun x y z W h => rlow_any G k x y z W (by omega) h)
    have e1 : (k : Int) = ((k + 1 : Nat) : Int) - 1 := by omega
    rw [e1] at HIH
    obtain ⟨A, K, pc, kc, rfl, rfl, hpc, hpm, hkc, hkm⟩ := nd_shape hN
    unfold maxLen at hpm hkm
    have hlow : lowR (k + 1) n = (decide (n.nm.size ≤ 100 ∧ n.ps.length ≤ 300 ∧ n.ks.length ≤ 80) && (n.ps.all lowP && n.ks.all (lowR k))) := rfl
    have HF : Hid (¬ (n.nm.size ≤ 100 ∧ n.ps.length ≤ 300 ∧ n.ks.length ≤ 80) → lowR (k + 1) n = false) := fun h => by rw [hlow, decide_eq_false h]; rfl
    have HP : Hid (∀ j, j < n.ps.length → lowP (n.ps.getD j pr0) = false → lowR (k + 1) n = false) := fun j hj h => by rw [hlow, not_all_at j hj h]; simp
    have HK : Hid (∀ j, j < n.ks.length → lowR k (n.ks.getD j nd0) = false → lowR (k + 1) n = false) := fun j hj h => by rw [hlow, not_all_at j hj h]; simp
    have HT : Hid ((n.nm.size ≤ 100 ∧ n.ps.length ≤ 300 ∧ n.ks.length ≤ 80) → (∀ j, j < n.ps.length → lowP (n.ps.getD j pr0) = true) → (∀ j, j < n.ks.length → lowR k (n.ks.getD j nd0) = true) → lowR (k + 1) n = true) := fun h1 h2 h3 => by rw [hlow, decide_eq_true h1, all_at h2, all_at h3]; rfl
    generalize lowR (k + 1) n = R at *
    clear hlow e1
    have d0 : (((k + 1 : Nat) : Int) == 0) = false := by simp; omega
    obtain ⟨KK, hKK⟩ : ∃ KK : Nat, KK = k + 1 := ⟨_, rfl⟩
    rw [← hKK] at HIH d0 hk20 ⊢
    obtain ⟨W1, hW1⟩ : ∃ W1, W1 = w.alloc (.cells #[.string n.nm, .slice A n.ps.length pc, .slice K n.ks.length kc] 29) := ⟨_, rfl⟩
    obtain ⟨g8, hg8⟩ : ∃ g8, g8 = w.heap.size := ⟨_, rfl⟩
    have hB1 : Below w.heap.size w W1 := by rw [hW1]; exact (Below.refl _ _).alloc (Nat.le_refl _) _
    have hA1 : Arr W1 g8 29 #[.string n.nm, .slice A n.ps.length pc, .slice K n.ks.length kc] := by rw [hW1, hg8]; exact Arr.new w _ _
    have HN1 := Lib.hid (nd_below hN hB1)
    have HA1 := Lib.hid hA1
    have HB1 := Lib.hid hB1
    have hz1 := hB1.size
    have k0 : W1.cell? ⟨g8, 0, none⟩ = some (.string n.nm) := hA1.cell 0
    have k1 : W1.cell? ⟨g8, 1, none⟩ = some (.slice A n.ps.length pc) := hA1.cell 1
    have k2 : W1.cell? ⟨g8, 2, none⟩ = some (.slice K n.ks.length kc) := hA1.cell 2
    clear hN hB1 hA1 hKK
    by_cases q1 : n.nm.size ≤ 100 ∧ n.ps.length ≤ 300 ∧ n.ks.length ≤ 80
    · have hT := HT.out q1
      have HT2 := Lib.hid hT
      obtain ⟨b1, b2, b3⟩ := q1
      have c1 : decide ((100 : Int) < n.nm.size) = false := decide_eq_false (by omega)
      have c2 : decide ((300 : Int) < n.ps.length) = false := decide_eq_false (by omega)
      have c3 : decide ((80 : Int) < n.ks.length) = false := decide_eq_false (by omega)
      clear HF HT hT
      go_enter Try.func26, Try.ntmps26
      go_upto_region 1 with fail
      rw [← hW1, ← hg8]
      clear hW1 hg8
      go_wp2
      go_loop [5] (fun i => ∃ j : Nat, j ≤ n.ps.length ∧ i = .int .i64 j ∧ Hid (∀ i, i < j → lowP (n.ps.getD i pr0) = true)) (fun i => n.ps.length - (intOf i).toNat)
      case atStart => exact ⟨0, Nat.zero_le _, rfl, fun j h => absurd h (by omega)⟩
      case round =>
        obtain ⟨j, hj, rfl, HJ⟩ := hrel
        by_cases hlt : j < n.ps.length
        · have hji : (j : Int) < n.ps.length := by omega
          obtain ⟨b, off, x, rfl, ⟨h1, h2⟩, HX⟩ := nd_prop HN1.out hlt
          obtain ⟨pn, pv⟩ := x
          simp only at h1 h2
          by_cases r1 : pn.size ≤ 100
          · have e1 : decide ((100 : Int) < pn.size) = false := decide_eq_false (by omega)
            by_cases r2 : pv.size ≤ 300
            · have e2 : decide ((300 : Int) < pv.size) = false := decide_eq_false (by omega)
              have HJ1 : Hid (∀ i, i < j + 1 → lowP (n.ps.getD i pr0) = true) := fun i hi => by
                by_cases e : i = j
                · subst e; rw [HX.out]; exact decide_eq_true ⟨r1, r2⟩
                · exact HJ.out i (by omega)
              clear HX
              go_wp2
              go_round
              case rel => exact ⟨j + 1, by omega, by go_num, HJ1⟩
              case measure => simp [intOf]; omega
            · have e2 : decide ((300 : Int) < pv.size) = true := decide_eq_true (by omega)
              have HE := Lib.hid (HP.out j hlt (by rw [HX.out]; exact decide_eq_false (fun h => r2 h.2)))
              clear HX
              go_wp2
              go_ret
              exact ⟨by rw [HE.out]; rfl, HB1.out⟩
          · have e1 : decide ((100 : Int) < pn.size) = true := decide_eq_true (by omega)
            have HE := Lib.hid (HP.out j hlt (by rw [HX.out]; exact decide_eq_false (fun h => r1 h.1)))
            clear HX
            go_wp2
            go_ret
            exact ⟨by rw [HE.out]; rfl, HB1.out⟩
        · obtain rfl : j = n.ps.length := by omega
          have HT3 := Lib.hid (HT2.out HJ.out)
          clear HT2 HJ HP
          go_wp2
          go_loopw [6] (fun i wr => ∃ j : Nat, j ≤ n.ks.length ∧ i = .int .i64 j ∧ Hid (∀ i, i < j → lowR k (n.ks.getD i nd0) = true) ∧ Below W1.heap.size W1 wr) (fun i _ => n.ks.length - (intOf i).toNat)
          case atStart => exact ⟨0, Nat.zero_le _, rfl, (fun j h => absurd h (by omega)), Below.refl _ _⟩
          case round =>
            obtain ⟨j, hj, rfl, HJ, hb⟩ := hrel
            have HBR := Lib.hid hb
            have hzr := hb.size
            have k2 : wr.cell? ⟨g8, 2, none⟩ = some (.slice K n.ks.length kc) := (HA1.out.below hb HA1.out.lt).cell 2
            by_cases hlt : j < n.ks.length
            · have hji : (j : Int) < n.ks.length := by omega
              obtain ⟨b, off, x, y, z, rfl, h1, h2, h3, h4, HX⟩ := nd_kid (nd_below HN1.out hb) hlt
              have HC := Lib.hid (HIH.out x y z wr h4)
              clear hb h4
              cases hl : lowR k x with
              | true =>
                have HJ1 : Hid (∀ i, i < j + 1 → lowR k (n.ks.getD i nd0) = true) := fun i hi => by
                  by_cases e : i = j
                  · subst e; rw [HX.out]; exact hl
                  · exact HJ.out i (by omega)
                rw [hl] at HC
                clear HX hl
                go_wp2_with fail
                refine HC.out.mono ?_
                rintro e w3 ⟨rfl, hb3⟩
                have HBR3 := Lib.hid (HBR.out.trans (hb3.mono hzr))
                clear hb3 HC
                go_wp2
                go_roundw
                case rel => exact ⟨j + 1, by omega, by go_num, HJ1, HBR3.out⟩
                case measure => simp [intOf]; omega
              | false =>
                have HE := Lib.hid (HK.out j hlt (by rw [HX.out]; exact hl))
                rw [hl] at HC
                clear HX hl
                go_wp2_with fail
                refine HC.out.mono ?_
                rintro e w3 ⟨rfl, hb3⟩
                have HBR3 := Lib.hid (HB1.out.trans ((HBR.out.trans (hb3.mono hzr)).mono hz1))
                clear hb3 HC
                go_wp2
                go_ret
                exact ⟨by rw [HE.out]; rfl, HBR3.out⟩
            · obtain rfl : j = n.ks.length := by omega
              have HE := Lib.hid (HT3.out HJ.out)
              have HBR3 := Lib.hid (HB1.out.trans (hb.mono hz1))
              clear hb
              go_wp2
              go_ret
              exact ⟨by rw [HE.out]; rfl, HBR3.out⟩
    · have HE := Lib.hid (HF.out q1)
      clear HP HK HT HIH HF HN1
      by_cases b1 : n.nm.size ≤ 100
      · have c1 : decide ((100 : Int) < n.nm.size) = false := decide_eq_false (by omega)
        by_cases b2 : n.ps.length ≤ 300
        · have c2 : decide ((300 : Int) < n.ps.length) = false := decide_eq_false (by omega)
          have c3 : decide ((80 : Int) < n.ks.length) = true := decide_eq_true (by omega)
          clear q1
          go_enter Try.func26, Try.ntmps26
          go_upto_region 1 with fail
          rw [← hW1, ← hg8]
          clear hW1 hg8
          go_wp2
          go_ret
          exact ⟨by rw [HE.out]; rfl, HB1.out⟩
        · have c2 : decide ((300 : Int) < n.ps.length) = true := decide_eq_true (by omega)
          clear q1
          go_enter Try.func26, Try.ntmps26
          go_upto_region 1 with fail
          rw [← hW1, ← hg8]
          clear hW1 hg8
          go_wp2
          go_ret
          exact ⟨by rw [HE.out]; rfl, HB1.out⟩
      · have c1 : decide ((100 : Int) < n.nm.size) = true := decide_eq_true (by omega)
        clear q1
        go_enter Try.func26, Try.ntmps26
        go_upto_region 1 with fail
        rw [← hW1, ← hg8]
        clear hW1 hg8
        go_wp2
        go_ret
        exact ⟨by rw [HE.out]; rfl, HB1.out⟩

theorem cutSum_ge (f : ND → Nat) : ∀ (l : List ND) (a : Nat), a ≤ cutSum f a l
  | [], _ => Nat.le_refl _
  | x :: r, a => by
    show a ≤ if a < 1000 then cutSum f (a + f x) r else a
    split
    · exact Nat.le_trans (Nat.le_add_right _ _) (cutSum_ge f r _)
    · exact Nat.le_refl _
/-- How far the sum has come behind j of them. -/
theorem cutSum_drop (f : ND → Nat) (l : List ND) {j : Nat} (hj : j < l.length) (a : Nat) : cutSum f a (l.drop j) = if a < 1000 then cutSum f (a + f (l.getD j nd0)) (l.drop (j + 1)) else a := by
  rw [List.drop_eq_getElem_cons hj]
  have e : l.getD j nd0 = l[j] := by rw [List.getD_eq_getElem?_getD, List.getElem?_eq_getElem hj]; rfl
  rw [e]; rfl
theorem cutSum_le (f : ND → Nat) (M : Nat) : ∀ (l : List ND) (a : Nat), (∀ x ∈ l, f x ≤ M) → cutSum f a l ≤ max a (999 + M)
  | [], a, _ => by show a ≤ _; omega
  | x :: r, a, h => by
    show (if a < 1000 then cutSum f (a + f x) r else a) ≤ _
    split
    · have h1 := cutSum_le f M r (a + f x) (fun y hy => h y (by simp [hy]))
      have h2 := h x (by simp)
      omega
    · omega
theorem low_parts {k : Nat} {n : ND} (h : lowR (k + 1) n = true) : n.nm.size ≤ 100 ∧ n.ps.length ≤ 300 ∧ n.ks.length ≤ 80 := by
  have : (decide (n.nm.size ≤ 100 ∧ n.ps.length ≤ 300 ∧ n.ks.length ≤ 80) && (n.ps.all lowP && n.ks.all (lowR k))) = true := h
  rw [Bool.and_eq_true] at this
  exact of_decide_eq_true this.1
theorem low_kids {k : Nat} {n : ND} (h : lowR (k + 1) n = true) : ∀ x ∈ n.ks, lowR k x = true := by
  have : (decide (n.nm.size ≤ 100 ∧ n.ps.length ≤ 300 ∧ n.ks.length ≤ 80) && (n.ps.all lowP && n.ks.all (lowR k))) = true := h
  rw [Bool.and_eq_true, Bool.and_eq_true] at this
  exact List.all_eq_true.1 this.2.2
theorem low_props {k : Nat} {n : ND} (h : lowR (k + 1) n = true) : ∀ x ∈ n.ps, lowP x = true := by
  have : (decide (n.nm.size ≤ 100 ∧ n.ps.length ≤ 300 ∧ n.ks.length ≤ 80) && (n.ps.all lowP && n.ks.all (lowR k))) = true := h
  rw [Bool.and_eq_true, Bool.and_eq_true] at this
  exact List.all_eq_true.1 this.2.1
theorem getD_mem {α : Type} {l : List α} {d : α} {k : Nat} (hk : k < l.length) : l.getD k d ∈ l := by
  rw [List.getD_eq_getElem?_getD, List.getElem?_eq_getElem hk]
  exact List.getElem_mem hk
theorem sizeR_le : ∀ (k : Nat) (n : ND), lowR k n = true → sizeR k n ≤ 301 + 1000 * k
  | 0, _, _ => Nat.zero_le _
  | k + 1, n, h => by
    have h1 := cutSum_le (sizeR k) (301 + 1000 * k) n.ks (1 + n.ps.length) (fun x hx => sizeR_le k x (low_kids h x hx))
    have h2 := low_parts h
    show cutSum (sizeR k) (1 + n.ps.length) n.ks ≤ _
    omega

set_option maxHeartbeats 1600000 in
set_option maxRecDepth 100000 in
theorem rsize_any (G : Nat → Prop) : ∀ (k : Nat) (n : ND) (v2 v3 : Value) (w : World), k ≤ 20 → lowR k n = true → NdAt w G n v2 v3 →
    Calls Try.prog 27 #[.agg #[.string n.nm, v2, v3], .int .i64 (k : Int)] w fun e w' => e = .returned (.int .i64 (sizeR k n : Int)) ∧ Below w.heap.size w w'
  | 0, n, v2, v3, w, _, hl, _ => by cases hl
  | k + 1, n, v2, v3, w, hk20, hl, hN => by
    have HIH := Lib.hid (fun x y z W hl h => rsize_any G k x y z W (by omega) hl h)
    have e1 : (k : Int) = ((k + 1 : Nat) : Int) - 1 := by omega
    rw [e1] at HIH
    obtain ⟨A, K, pc, kc, rfl, rfl, hpc, hpm, hkc, hkm⟩ := nd_shape hN
    unfold maxLen at hpm hkm
    have hpl := (low_parts hl).2.1
    have hkl := (low_parts hl).2.2
    have HLK := Lib.hid (low_kids hl)
    have HSB := Lib.hid (fun x hx => sizeR_le k x (low_kids hl x hx))
    have HR : Hid (sizeR (k + 1) n = cutSum (sizeR k) (1 + n.ps.length) (n.ks.drop 0)) := rfl
    generalize sizeR (k + 1) n = R at *
    clear e1
    have d0 : (((k + 1 : Nat) : Int) == 0) = false := by simp; omega
    obtain ⟨KK, hKK⟩ : ∃ KK : Nat, KK = k + 1 := ⟨_, rfl⟩
    rw [← hKK] at HIH d0 hk20 ⊢
    obtain ⟨W1, hW1⟩ : ∃ W1, W1 = w.alloc (.cells #[.string n.nm, .slice A n.ps.length pc, .slice K n.ks.length kc] 29) := ⟨_, rfl⟩
    obtain ⟨g8, hg8⟩ : ∃ g8, g8 = w.heap.size := ⟨_, rfl⟩
    have hB1 : Below w.heap.size w W1 := by rw [hW1]; exact (Below.refl _ _).alloc (Nat.le_refl _) _
    have hA1 : Arr W1 g8 29 #[.string n.nm, .slice A n.ps.length pc, .slice K n.ks.length kc] := by rw [hW1, hg8]; exact Arr.new w _ _
    have HN1 := Lib.hid (nd_below hN hB1)
    have HA1 := Lib.hid hA1
    have HB1 := Lib.hid hB1
    have hz1 := hB1.size
    have k1 : W1.cell? ⟨g8, 1, none⟩ = some (.slice A n.ps.length pc) := hA1.cell 1
    have hk19 : k ≤ 19 := by omega
    clear hN hB1 hA1 hKK hl
    go_enter Try.func27, Try.ntmps27
    go_upto_region 1 with fail
    rw [← hW1, ← hg8]
    clear hW1 hg8
    go_wp2
    go_loopw [5, 6] (fun o i wr => ∃ (j a : Nat), j ≤ n.ks.length ∧ i = .int .i64 j ∧ o = .int .i64 a ∧ a ≤ 100000 ∧ Hid (R = cutSum (sizeR k) a (n.ks.drop j)) ∧ Below W1.heap.size W1 wr) (fun _ i _ => n.ks.length - (intOf i).toNat)
    case atStart => exact ⟨0, 1 + n.ps.length, Nat.zero_le _, rfl, by go_num, by omega, HR, Below.refl _ _⟩
    case round =>
      clear HR k1
      obtain ⟨j, a, hj, rfl, rfl, ha, HJ, hb⟩ := hrel
      have HBR := Lib.hid hb
      have hzr := hb.size
      have k2 : wr.cell? ⟨g8, 2, none⟩ = some (.slice K n.ks.length kc) := (HA1.out.below hb HA1.out.lt).cell 2
      by_cases hlt : j < n.ks.length
      · have hji : (j : Int) < n.ks.length := by omega
        have c1 : decide ((j : Int) < n.ks.length) = true := decide_eq_true hji
        have HD := Lib.hid (cutSum_drop (sizeR k) n.ks hlt a)
        by_cases h1000 : a < 1000
        · have c2 : decide ((a : Int) < 1000) = true := decide_eq_true (by omega)
          obtain ⟨b, off, x, y, z, rfl, h1, h2, h3, h4, HX⟩ := nd_kid (nd_below HN1.out hb) hlt
          have hx := getD_mem (d := nd0) hlt
          rw [HX.out] at hx
          have hsb := HSB.out x hx
          have HC := Lib.hid (HIH.out x y z wr (HLK.out x hx) h4)
          have HJ1 : Hid (R = cutSum (sizeR k) (a + sizeR k x) (n.ks.drop (j + 1))) := by
            unfold Hid; rw [HJ.out, HD.out, if_pos h1000, HX.out]
          clear hb h4 hx HX HD HJ
          generalize sizeR k x = s at *
          go_wp2_with fail
          refine HC.out.mono ?_
          rintro e w3 ⟨rfl, hb3⟩
          have HBR3 := Lib.hid (HBR.out.trans (hb3.mono hzr))
          clear hb3 HC
          go_wp2
          go_roundw
          case rel => exact ⟨j + 1, a + s, by omega, by go_num, by go_num, by omega, HJ1, HBR3.out⟩
          case measure => simp [intOf]; omega
        · have c2 : decide ((a : Int) < 1000) = false := decide_eq_false (by omega)
          have HE : Hid (R = a) := by unfold Hid; rw [HJ.out, HD.out, if_neg h1000]
          have HBR3 := Lib.hid (HB1.out.trans (hb.mono hz1))
          clear hb HD HJ
          go_wp2
          go_ret
          exact ⟨by rw [HE.out]; rfl, HBR3.out⟩
      · obtain rfl : j = n.ks.length := by omega
        have c1 : decide ((n.ks.length : Int) < n.ks.length) = false := decide_eq_false (by omega)
        have HE : Hid (R = a) := by unfold Hid; rw [HJ.out, List.drop_length]; rfl
        have HBR3 := Lib.hid (HB1.out.trans (hb.mono hz1))
        clear hb HJ
        go_wp2
        go_ret
        exact ⟨by rw [HE.out]; rfl, HBR3.out⟩

set_option maxHeartbeats 800000 in
set_option maxRecDepth 100000 in
theorem rLow_any (G : Nat → Prop) (n : ND) (v2 v3 : Value) (w : World) (hN : NdAt w G n v2 v3) :
    Calls Try.prog 13 #[.agg #[.string n.nm, v2, v3]] w fun e w' => e = .returned (.bool (LowR n)) ∧ Below w.heap.size w w' := by
  have hL : LowR n = (lowR 12 n && decide (sizeR 12 n ≤ 400)) := rfl
  obtain ⟨W1, hW1⟩ : ∃ W1, W1 = w.alloc (.cells #[.string n.nm, v2, v3] 29) := ⟨_, rfl⟩
  obtain ⟨g8, hg8⟩ : ∃ g8, g8 = w.heap.size := ⟨_, rfl⟩
  have hB1 : Below w.heap.size w W1 := by rw [hW1]; exact (Below.refl _ _).alloc (Nat.le_refl _) _
  have hA1 : Arr W1 g8 29 #[.string n.nm, v2, v3] := by rw [hW1, hg8]; exact Arr.new w _ _
  have HN1 := Lib.hid (nd_below hN hB1)
  have HB1 := Lib.hid hB1
  have hz1 := hB1.size
  have HA1 := Lib.hid hA1
  have HLO := Lib.hid (rlow_any G 12 n v2 v3 W1 (by omega) HN1.out)
  have k0 : W1.cell? ⟨g8, 0, none⟩ = some (.string n.nm) := hA1.cell 0
  have k1 : W1.cell? ⟨g8, 1, none⟩ = some v2 := hA1.cell 1
  have k2 : W1.cell? ⟨g8, 2, none⟩ = some v3 := hA1.cell 2
  clear hN hB1 hA1
  cases hl : lowR 12 n with
  | false =>
    rw [hl] at HLO hL
    have HE : Hid (LowR n = false) := hL
    rw [HE.out]
    clear hl hL
    go_enter Try.func13, Try.ntmps13
    go_upto_region 1 with fail
    rw [← hW1, ← hg8]
    clear hW1 hg8
    go_wp2_with fail
    refine HLO.out.mono ?_
    rintro e w3 ⟨rfl, hb3⟩
    have HB3 := Lib.hid (HB1.out.trans (hb3.mono hz1))
    clear hb3 HLO
    go_wp2
    go_ret
    exact ⟨rfl, HB3.out⟩
  | true =>
    have HSZ := Lib.hid (fun W h => rsize_any G 12 n v2 v3 W (by omega) hl h)
    have hsb := sizeR_le 12 n hl
    rw [hl] at HLO hL
    have HE : Hid (LowR n = decide (sizeR 12 n ≤ 400)) := hL
    rw [HE.out]
    clear hl hL
    generalize sizeR 12 n = s at *
    have hd : (decide ((s : Int) ≤ 400)) = decide (s ≤ 400) := by
      by_cases h : s ≤ 400
      · rw [decide_eq_true h, decide_eq_true (by omega)]
      · rw [decide_eq_false h, decide_eq_false (by omega)]
    have HD := Lib.hid hd
    clear hd
    go_enter Try.func13, Try.ntmps13
    go_upto_region 1 with fail
    rw [← hW1, ← hg8]
    clear hW1 hg8
    go_wp2_with fail
    refine HLO.out.mono ?_
    rintro e w3 ⟨rfl, hb3⟩
    have HB3 := Lib.hid (HB1.out.trans (hb3.mono hz1))
    have hz3 := HB3.out.size
    have k0 : w3.cell? ⟨g8, 0, none⟩ = some (.string n.nm) := (HA1.out.below hb3 HA1.out.lt).cell 0
    have k1 : w3.cell? ⟨g8, 1, none⟩ = some v2 := (HA1.out.below hb3 HA1.out.lt).cell 1
    have k2 : w3.cell? ⟨g8, 2, none⟩ = some v3 := (HA1.out.below hb3 HA1.out.lt).cell 2
    have HC := Lib.hid (HSZ.out w3 (nd_below HN1.out hb3))
    clear hb3 HLO HSZ
    go_wp2_with fail
    refine HC.out.mono ?_
    rintro e w4 ⟨rfl, hb4⟩
    have HB4 := Lib.hid (HB3.out.trans (hb4.mono hz3))
    clear hb4 HC
    go_wp2
    go_ret
    exact ⟨by rw [← HD.out]; rfl, HB4.out⟩
end Go.Proofs.Ytmgfnghegcfhnaa
